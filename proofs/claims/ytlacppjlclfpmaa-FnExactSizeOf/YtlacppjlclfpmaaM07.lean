/- The program's InodeFault. The program's faults of lists of inodes and of busy blocks. The program's counts of who needs a block: an array. The program's counts, filled and read. -/
import Derived.Test.YtlacppjlclfpmaaM06
import Derived.Test.YtlacppjlclfpmaaM05
import Derived.Deep.WholeRow
namespace Go.Proofs.Ytlacppjlclfpmaa
open Go.RowKit
set_option maxRecDepth 100000

set_option maxHeartbeats 6400000 in
theorem dirFault_any (w : World) (k l s : Int) (a : Option Addr) (n c : Nat) (a' : Option Addr) (n' c' : Nat) (es : List EN) (hen : es.length = n') (_hm : n' ≤ maxLen) (hz : ∀ k : Nat, (es[k]?.getD en0).1.size ≤ maxLen) (hc : AtN w a' n' es) :
    Calls Try.prog 109 #[.agg #[.int .i64 k, .int .i64 l, .int .i64 s, .slice a n c, .slice a' n' c']] w fun e w' => e = .returned (.int .i64 (if decide (l ≠ 0) || decide (s ≠ 0) || decide (0 < n) then 1 else dirF es)) ∧ Below w.heap.size w w' := by
  have HF := fun W => hasFile_any W k l s a n c (.slice a' n' c') a' n' c' rfl
  generalize (decide (l ≠ 0) || decide (s ≠ 0) || decide (0 < n)) = f at *
  have HHF : Hid (∀ W : World, _) := HF
  have HC : Hid (AtN w a' n' es) := hc
  have HZ : Hid (∀ k : Nat, (es[k]?.getD en0).1.size ≤ maxLen) := hz
  have HN : Hid (es.length = n') := hen
  clear HF hc hz hen
  cases f
  rotate_left
  · go_enter Try.func109, Try.ntmps109
    go_wp2_with fail
    refine (HHF.out _).mono ?_
    rintro e w1 ⟨rfl, hb1⟩
    have HB1 : Hid (Below w.heap.size w w1) := (later1 _ _).trans (hb1.mono (by simp))
    clear hb1
    go_wp2
    go_ret
    exact ⟨rfl, HB1.out⟩
  · have HDF : Hid (dirF es = if 6 < n' then 2 else fstNZ (entF es) es.length) := by unfold Hid dirF; rw [HN.out]
    go_enter Try.func109, Try.ntmps109
    go_wp2_with fail
    refine (HHF.out _).mono ?_
    rintro e w1 ⟨rfl, hb1⟩
    have HB1 : Hid (Below w.heap.size w w1) := (later1 _ _).trans (hb1.mono (by simp))
    have hx : Bx w1 w.heap.size [.int .i64 k, .int .i64 l, .int .i64 s, .slice a n c, .slice a' n' c'] := (Bx.new w _ _).later hb1
    have c4 := hx 4 _ rfl
    have HX1 : Hid (Bx w1 w.heap.size [.int .i64 k, .int .i64 l, .int .i64 s, .slice a n c, .slice a' n' c']) := hx
    have hlt1 := hx.lt
    clear hb1 hx
    by_cases h6 : 6 < n'
    · have h6' : decide ((6 : Int) < (n' : Int)) = true := by simp; omega
      have HR : Hid (dirF es = 2) := by unfold Hid; rw [HDF.out, if_pos h6]
      go_wp2
      go_ret
      exact ⟨ret_int HR.out.symm, HB1.out⟩
    · have h6' : decide ((6 : Int) < (n' : Int)) = false := by simp; omega
      have HR : Hid (dirF es = fstNZ (entF es) es.length) := by unfold Hid; rw [HDF.out, if_neg h6]
      go_wp2
      go_loopw [15] (fun i wr => ∃ j : Nat, j ≤ n' ∧ i = .int .i64 j ∧ Below w1.heap.size w1 wr ∧ ∀ i : Nat, i < j → entF es i = 0) (fun i _ => n' - (intOf i).toNat)
      case atStart => exact ⟨0, Nat.zero_le _, rfl, Below.refl _ _, fun i hi => by omega⟩
      case round =>
        obtain ⟨j, hj, rfl, hbl, hall⟩ := hrel
        have HA : Hid (∀ i : Nat, i < j → entF es i = 0) := hall
        have HBL : Hid (Below w1.heap.size w1 wr) := hbl
        have HBW : Hid (Below w.heap.size w wr) := HB1.out.trans (hbl.mono HB1.out.size)
        have HBN : Hid (∀ o : Obj, Below w1.heap.size w1 (wr.alloc o)) := fun o => hbl.trans ((later1 _ _).mono hbl.size)
        have HBO : Hid (∀ o : Obj, Below w.heap.size w (wr.alloc o)) := fun o => HBW.out.trans ((later1 _ _).mono HBW.out.size)
        have c4' := cell_later hbl c4
        have hlw : w.heap.size < wr.heap.size := Nat.lt_of_lt_of_le hlt1 hbl.size
        clear hall hbl
        by_cases hlt : j < n'
        · obtain ⟨b1, off, rfl, e0, e1⟩ := HC.out j hlt
          have hb1l : b1 < wr.heap.size := Nat.lt_of_lt_of_le (World.block_lt_of_cell? _ _ e0) HBW.out.size
          replace e0 := cell_later HBW.out e0
          replace e1 := cell_later HBW.out e1
          have HSZ : Hid ((es[j]?.getD en0).1.size ≤ maxLen) := HZ.out j
          have HE : Hid (¬ entF es j = 0 → dirF es = entF es j) := fun h => HR.out.trans (fstNZ_at HA.out h (by rw [HN.out]; exact hlt))
          by_cases hnm : nameF (es[j]?.getD en0).1 = 0
          rotate_left
          · have HF : Hid (dirF es = nameF (es[j]?.getD en0).1) := by unfold Hid; rw [HE.out (by rw [entF_name hnm]; exact hnm), entF_name hnm]
            have HNM : Hid (¬ nameF (es[j]?.getD en0).1 = 0) := hnm
            clear hnm HE HA
            generalize (es[j]?.getD en0).1 = x at *
            generalize (es[j]?.getD en0).2 = y at *
            go_wp2_with fail
            refine (implName_any _ x HSZ.out).mono ?_
            generalize nameF x = q at *
            have hq : (q = 0) = False := by simpa using HNM.out
            have hq2 : (q == 0) = false := by simpa using HNM.out
            rintro e w2 ⟨rfl, rfl⟩
            go_wp2
            go_ret
            exact ⟨ret_int HF.out.symm, HBO.out _⟩
          · have HNM : Hid (nameF (es[j]?.getD en0).1 = 0) := hnm
            by_cases hy0 : (es[j]?.getD en0).2 < 0
            · have HF : Hid (dirF es = 3) := by unfold Hid; rw [HE.out (by rw [entF_rng hnm (by omega)]; decide), entF_rng hnm (by omega)]
              clear hnm HE HA
              generalize (es[j]?.getD en0).1 = x at *
              generalize (es[j]?.getD en0).2 = y at *
              go_wp2_with fail
              refine (implName_any _ x HSZ.out).mono ?_
              rw [HNM.out]
              rintro e w2 ⟨rfl, rfl⟩
              go_wp2
              go_ret
              exact ⟨ret_int HF.out.symm, HBO.out _⟩
            · by_cases hy9 : 10 ≤ (es[j]?.getD en0).2
              · have HF : Hid (dirF es = 3) := by unfold Hid; rw [HE.out (by rw [entF_rng hnm (by omega)]; decide), entF_rng hnm (by omega)]
                clear hnm HE HA
                generalize (es[j]?.getD en0).1 = x at *
                generalize (es[j]?.getD en0).2 = y at *
                go_wp2_with fail
                refine (implName_any _ x HSZ.out).mono ?_
                rw [HNM.out]
                rintro e w2 ⟨rfl, rfl⟩
                go_wp2
                go_ret
                exact ⟨ret_int HF.out.symm, HBO.out _⟩
              · have hr : 0 ≤ (es[j]?.getD en0).2 ∧ (es[j]?.getD en0).2 ≤ 9 := by omega
                by_cases h0 : j = 0
                · have HNX : Hid (∀ i : Nat, i < j + 1 → entF es i = 0) := fun i hi => by
                    have : i = j := by omega
                    rw [this]; exact entF_ok hnm hr (by omega)
                  clear hnm HE HA hr
                  generalize (es[j]?.getD en0).1 = x at *
                  generalize (es[j]?.getD en0).2 = y at *
                  subst h0
                  simp only [Nat.zero_mul, Nat.add_zero] at e0 e1
                  go_wp2_with fail
                  refine (implName_any _ x HSZ.out).mono ?_
                  rw [HNM.out]
                  rintro e w2 ⟨rfl, rfl⟩
                  go_wp2_with fail
                  go_quiet (fail)
                  go_wp2
                  go_roundw
                  case rel => exact ⟨1, by omega, by go_num, below_drewN (HBN.out _) nq, HNX.out⟩
                  case measure => simp [intOf]; omega
                · obtain ⟨i, hi⟩ : ∃ i, j = i + 1 := ⟨j - 1, by omega⟩
                  obtain ⟨b2, off2, h12, e2, _⟩ := HC.out i (by omega)
                  simp only [Option.some.injEq, Addr.mk.injEq, and_true] at h12
                  obtain ⟨rfl, rfl⟩ := h12
                  replace e2 := cell_later HBW.out e2
                  have hji : j - 1 = i := by omega
                  by_cases hle : strLe (es[j]?.getD en0).1 (es[i]?.getD en0).1 = true
                  · have HF : Hid (dirF es = 1) := by unfold Hid; rw [HE.out (by rw [entF_form hnm hr (by omega) (by rw [hji]; exact hle)]; decide), entF_form hnm hr (by omega) (by rw [hji]; exact hle)]
                    have hle2 := hle
                    unfold strLe at hle2
                    clear hnm HE HA hr hle
                    subst hi
                    generalize (es[i + 1]?.getD en0).1 = x at *
                    generalize (es[i + 1]?.getD en0).2 = y at *
                    generalize (es[i]?.getD en0).1 = x2 at *
                    have hpos : (0 : Int) < ((i + 1 : Nat) : Int) := by omega
                    go_wp2_with fail
                    refine (implName_any _ x HSZ.out).mono ?_
                    rw [HNM.out]
                    rintro e w2 ⟨rfl, rfl⟩
                    go_wp2_with fail
                    go_quiet (fail)
                    go_wp2
                    go_ret
                    exact ⟨ret_int HF.out.symm, below_drewN (HBO.out _) nq⟩
                  · have HNX : Hid (∀ q : Nat, q < j + 1 → entF es q = 0) := fun q hq => by
                      by_cases e : q = j
                      · rw [e]; exact entF_ok hnm hr (by rw [hji]; exact fun h => hle h.2)
                      · exact HA.out q (by omega)
                    have hle2 : strLe (es[j]?.getD en0).1 (es[i]?.getD en0).1 = false := by simpa using hle
                    unfold strLe at hle2
                    clear hnm HE HA hr hle
                    subst hi
                    generalize (es[i + 1]?.getD en0).1 = x at *
                    generalize (es[i + 1]?.getD en0).2 = y at *
                    generalize (es[i]?.getD en0).1 = x2 at *
                    have hpos : (0 : Int) < ((i + 1 : Nat) : Int) := by omega
                    go_wp2_with fail
                    refine (implName_any _ x HSZ.out).mono ?_
                    rw [HNM.out]
                    rintro e w2 ⟨rfl, rfl⟩
                    go_wp2_with fail
                    go_quiet (fail)
                    go_wp2
                    go_roundw
                    case rel => exact ⟨i + 1 + 1, by omega, by go_num, below_drewN (HBN.out _) nq, HNX.out⟩
                    case measure => simp [intOf]; omega
        · have HF : Hid (dirF es = 0) := by unfold Hid; rw [HR.out, fstNZ_zero fun i hi => HA.out i (by rw [HN.out] at hi; omega)]
          go_wp2
          go_ret
          exact ⟨ret_int HF.out.symm, HBW.out⟩

set_option maxHeartbeats 3200000 in
theorem implInoU (w : World) (z0 z1 z2 : Int) (aB : Option Addr) (nB cB : Nat) (aE : Option Addr) (nE cE : Nat) (d : ID) (h : InoR w (.int .i64 z0) (.int .i64 z1) (.int .i64 z2) (.slice aB nB cB) (.slice aE nE cE) d) (hs : sizeIno d ≤ 1048576) :
    Calls Try.prog 100 #[.agg #[.int .i64 z0, .int .i64 z1, .int .i64 z2, .slice aB nB cB, .slice aE nE cE]] w fun e w' => e = .returned (.int .i64 (inoF d)) ∧ Below w.heap.size w w' := by
  obtain ⟨⟨h0, h1, h2, hcap⟩, hi, he⟩ := h
  simp only [Value.int.injEq, true_and] at h0 h1 h2
  obtain ⟨_, _, _, ec, hcap⟩ := hcap
  simp only [Value.slice.injEq] at ec
  obtain ⟨rfl, rfl, rfl⟩ := ec
  obtain ⟨_, _, e1, hm1, hc1⟩ := hi.open'
  obtain ⟨_, _, e2, hm2, hz2, hc2⟩ := he.open'
  simp only [Value.slice.injEq] at e1 e2
  obtain ⟨rfl, e1n, rfl⟩ := e1
  obtain ⟨rfl, rfl, rfl⟩ := e2
  obtain ⟨k, l, s, bs, es⟩ := d
  dsimp only at *
  subst h0 h1 h2
  have hn1 : bs.length ≤ 1048576 := by unfold sizeIno at hs; dsimp only at hs; omega
  subst e1n
  have HFR : Hid (∀ W, Calls Try.prog 107 #[.agg #[.int .i64 z0, .int .i64 z1, .int .i64 z2, .slice aB bs.length cB, .slice aE es.length cE]] W fun e w' => e = .returned (.int .i64 (if (decide (z1 ≠ 0) || decide (z2 ≠ 0) || decide (0 < bs.length)) || decide (0 < es.length) then 1 else 0)) ∧ Below W.heap.size W w') := fun W => freeFault_any W z0 z1 z2 aB _ cB aE _ cE
  have HFI : Hid (∀ W, Below w.heap.size w W → Calls Try.prog 108 #[.agg #[.int .i64 z0, .int .i64 z1, .int .i64 z2, .slice aB bs.length cB, .slice aE es.length cE]] W fun e w' => e = .returned (.int .i64 (if decide (0 < es.length) then 1 else fileF z1 z2 bs)) ∧ Below W.heap.size W w') := fun W hW => fileFault_any W z0 z1 z2 aB _ cB aE _ cE bs hn1 hcap rfl (fun k hk => by
    obtain ⟨b, off, e, h⟩ := hc1 k hk
    exact ⟨b, off, e, cell_later hW h⟩)
  have HDI : Hid (∀ W, Below w.heap.size w W → Calls Try.prog 109 #[.agg #[.int .i64 z0, .int .i64 z1, .int .i64 z2, .slice aB bs.length cB, .slice aE es.length cE]] W fun e w' => e = .returned (.int .i64 (if decide (z1 ≠ 0) || decide (z2 ≠ 0) || decide (0 < bs.length) then 1 else dirF es)) ∧ Below W.heap.size W w') := fun W hW => dirFault_any W z0 z1 z2 aB _ cB aE _ cE es rfl hm2 hz2 (hc2.later hW)
  have HF : Hid (inoF (z0, z1, z2, bs, es) = if z0 = 0 then (if (decide (z1 ≠ 0) || decide (z2 ≠ 0) || decide (0 < bs.length)) || decide (0 < es.length) then 1 else 0) else if z0 = 1 then (if decide (0 < es.length) then 1 else fileF z1 z2 bs) else if z0 = 2 then (if (decide (z1 ≠ 0) || decide (z2 ≠ 0) || decide (0 < bs.length)) then 1 else dirF es) else 1) := rfl
  rw [HF.out]
  clear HF hi he hc1 hc2 hm1 hm2 hz2 hcap hs hn1
  generalize (if (decide (z1 ≠ 0) || decide (z2 ≠ 0) || decide (0 < bs.length)) || decide (0 < es.length) then (1 : Int) else 0) = r0 at *
  generalize (if decide (0 < es.length) then (1 : Int) else fileF z1 z2 bs) = r1 at *
  generalize (if (decide (z1 ≠ 0) || decide (z2 ≠ 0) || decide (0 < bs.length)) then (1 : Int) else dirF es) = r2 at *
  generalize bs.length = n1 at *
  generalize es.length = n2 at *
  by_cases h0 : z0 = 0
  · rw [if_pos h0]
    subst h0
    go_enter Try.func100, Try.ntmps100
    go_wp2_with fail
    refine (HFR.out _).mono ?_
    rintro e w1 ⟨rfl, hb1⟩
    have HB1 : Hid (Below w.heap.size w w1) := (later1 _ _).trans (hb1.mono (by simp))
    clear hb1
    go_wp2
    go_ret
    exact ⟨rfl, HB1.out⟩
  · rw [if_neg h0]
    by_cases h1 : z0 = 1
    · rw [if_pos h1]
      subst h1
      go_enter Try.func100, Try.ntmps100
      go_wp2_with fail
      refine (HFI.out _ (later1 _ _)).mono ?_
      rintro e w1 ⟨rfl, hb1⟩
      have HB1 : Hid (Below w.heap.size w w1) := (later1 _ _).trans (hb1.mono (by simp))
      clear hb1
      go_wp2
      go_ret
      exact ⟨rfl, HB1.out⟩
    · rw [if_neg h1]
      by_cases h2 : z0 = 2
      · rw [if_pos h2]
        subst h2
        go_enter Try.func100, Try.ntmps100
        go_wp2_with fail
        refine (HDI.out _ (later1 _ _)).mono ?_
        rintro e w1 ⟨rfl, hb1⟩
        have HB1 : Hid (Below w.heap.size w w1) := (later1 _ _).trans (hb1.mono (by simp))
        clear hb1
        go_wp2
        go_ret
        exact ⟨rfl, HB1.out⟩
      · rw [if_neg h2]
        have g0 : (z0 == 0) = false := by simpa using h0
        have g1 : (z0 == 1) = false := by simpa using h1
        have g2 : (z0 == 2) = false := by simpa using h2
        go_enter Try.func100, Try.ntmps100
        go_wp2
        go_ret
        exact ⟨rfl, later1 _ _⟩
end Go.Proofs.Ytlacppjlclfpmaa

namespace Go.Proofs.Ytlacppjlclfpmaa
open Go.RowKit
set_option maxRecDepth 100000

set_option maxHeartbeats 800000 in
theorem inodesFault_many (w : World) (a : Option Addr) (n c : Nat) (hn : 10 < n) :
    Calls Try.prog 72 #[.slice a n c] w fun e w' => e = .returned (.int .i64 2) ∧ w' = w := by
  have h6 : decide ((10 : Int) < (n : Int)) = true := by simp; omega
  go_enter Try.func72, Try.ntmps72
  go_wp2
  go_ret
  exact ⟨rfl, rfl⟩

set_option maxHeartbeats 1600000 in
theorem inodesFault_walk (w : World) (a : Option Addr) (n c : Nat) (ds : List ID) (hn : n ≤ 10) (hdn : ds.length = n) (hz : ∀ k : Nat, sizeIno (ds[k]?.getD id0) ≤ 1048576) (hc : AtI w a n ds) :
    Calls Try.prog 72 #[.slice a n c] w fun e w' => e = .returned (.int .i64 (fstNZ (fun i => inoF (ds[i]?.getD id0)) ds.length)) ∧ Below w.heap.size w w' := by
  have HC : Hid (AtI w a n ds) := hc
  have HN : Hid (ds.length = n) := hdn
  have HSZ : Hid (∀ k : Nat, sizeIno (ds[k]?.getD id0) ≤ 1048576) := hz
  have h6 : decide ((10 : Int) < (n : Int)) = false := by simp; omega
  clear hc hdn hz
  go_enter Try.func72, Try.ntmps72
  go_wp2
  go_loopw [11] (fun i wr => ∃ j : Nat, j ≤ n ∧ i = .int .i64 j ∧ Below w.heap.size w wr ∧ ∀ i : Nat, i < j → inoF (ds[i]?.getD id0) = 0) (fun i _ => n - (intOf i).toNat)
  case atStart => exact ⟨0, Nat.zero_le _, rfl, Below.refl _ _, fun i hi => by omega⟩
  case round =>
    obtain ⟨j, hj, rfl, hbl, hz⟩ := hrel
    have HZ : Hid (∀ i : Nat, i < j → inoF (ds[i]?.getD id0) = 0) := hz
    have HBL : Hid (Below w.heap.size w wr) := hbl
    clear hz hbl
    by_cases hlt : j < n
    · obtain ⟨b, o, rfl, hI⟩ := HC.out j hlt
      obtain ⟨aB, cB, aE, cE, c0, c1, c2, c3, c4, hR⟩ := hI.later HBL.out
      have HF : Hid (∀ W, Below wr.heap.size wr W → Calls Try.prog 100 #[.agg #[.int .i64 (ds[j]?.getD id0).1, .int .i64 (ds[j]?.getD id0).2.1, .int .i64 (ds[j]?.getD id0).2.2.1, .slice aB (ds[j]?.getD id0).2.2.2.1.length cB, .slice aE (ds[j]?.getD id0).2.2.2.2.length cE]] W fun e w' => e = .returned (.int .i64 (inoF (ds[j]?.getD id0))) ∧ Below W.heap.size W w') := fun W hW => implInoU W _ _ _ aB _ cB aE _ cE (ds[j]?.getD id0) (hR.later hW) (HSZ.out j)
      clear hI hR
      have HR : Hid (inoF (ds[j]?.getD id0) = 0 → (∀ i : Nat, i < j + 1 → inoF (ds[i]?.getD id0) = 0)) := fun h i hi => by
        by_cases e : i = j
        · subst e; exact h
        · exact HZ.out i (by omega)
      have HT : Hid (¬ inoF (ds[j]?.getD id0) = 0 → inoF (ds[j]?.getD id0) = fstNZ (fun i => inoF (ds[i]?.getD id0)) ds.length) := fun h => (fstNZ_at (f := fun i => inoF (ds[i]?.getD id0)) HZ.out h (by rw [HN.out]; exact hlt)).symm
      by_cases hzz : inoF (ds[j]?.getD id0) = 0
      · have HR' : Hid (∀ i : Nat, i < j + 1 → inoF (ds[i]?.getD id0) = 0) := HR.out hzz
        have HZZ : Hid (inoF (ds[j]?.getD id0) = 0) := hzz
        clear HR HT hzz HC
        go_wp2_with fail
        refine (HF.out _ (by first | exact Below.refl _ _ | exact later1 _ _ | exact later2 _ _ _)).mono ?_
        rw [HZZ.out]
        rintro e w1 ⟨rfl, hb⟩
        have HB1 : Hid (Below w.heap.size w w1) := by first | exact HBL.out.trans (hb.mono HBL.out.size) | exact (HBL.out.trans ((later1 _ _).mono HBL.out.size)).trans (hb.mono (HBL.out.trans ((later1 _ _).mono HBL.out.size)).size)
        clear hb
        go_wp2
        go_roundw
        case rel => exact ⟨j + 1, by omega, by go_num, HB1.out, HR'.out⟩
        case measure => simp [intOf]; omega
      · have HT' : Hid (inoF (ds[j]?.getD id0) = fstNZ (fun i => inoF (ds[i]?.getD id0)) ds.length) := HT.out hzz
        have hzb : (inoF (ds[j]?.getD id0) != 0) = true := by simpa using hzz
        clear HR HT HC hzz
        generalize inoF (ds[j]?.getD id0) = r at *
        go_wp2_with fail
        refine (HF.out _ (by first | exact Below.refl _ _ | exact later1 _ _ | exact later2 _ _ _)).mono ?_
        rintro e w1 ⟨rfl, hb⟩
        have HB1 : Hid (Below w.heap.size w w1) := by first | exact HBL.out.trans (hb.mono HBL.out.size) | exact (HBL.out.trans ((later1 _ _).mono HBL.out.size)).trans (hb.mono (HBL.out.trans ((later1 _ _).mono HBL.out.size)).size)
        clear hb
        go_wp2
        go_ret
        exact ⟨ret_int HT'.out, HB1.out⟩
    · go_wp2
      go_ret
      exact ⟨ret_int (fstNZ_zero (fun i hi => HZ.out i (by rw [HN.out] at hi; omega))).symm, HBL.out⟩
theorem inodesFault_any {w : World} {v : Value} {ds : List ID} (h : Inos w v ds) (hs : sizeInos ds ≤ 1048576) :
    Calls Try.prog 72 #[v] w fun e w' => e = .returned (.int .i64 (insF ds)) ∧ Below w.heap.size w w' := by
  obtain ⟨a, cap, rfl, hm, hc⟩ := h.open'
  unfold insF
  by_cases h : 10 < ds.length
  · rw [if_pos h]
    exact (inodesFault_many w _ _ _ h).mono fun e w' ⟨h1, h2⟩ => ⟨h1, h2 ▸ Below.refl _ _⟩
  · rw [if_neg h]
    exact inodesFault_walk w _ _ _ ds (by omega) rfl (fun k => by have := isz_le ds k; unfold sizeInos at hs; omega) hc
end Go.Proofs.Ytlacppjlclfpmaa

namespace Go.Proofs.Ytlacppjlclfpmaa
open Go.RowKit
set_option maxRecDepth 100000

/-- An array that holds how many need each block. -/
def arrC (f : Nat → Nat) : Array Value := ((List.range 20).map fun i => intV ((f i : Nat) : Int)).toArray
theorem arrC_size (f : Nat → Nat) : (arrC f).size = 20 := by simp [arrC]
theorem arrC_get (f : Nat → Nat) {i : Nat} (h : i < 20) : (arrC f)[i]? = some (.int .i64 ((f i : Nat) : Int)) := by
  simp [arrC, h, intV]
theorem arrC_set (f : Nat → Nat) (q x : Nat) : (arrC f).setIfInBounds q (.int .i64 ((x : Nat) : Int)) = arrC (fun i => if i = q then x else f i) := by
  apply Array.ext_getElem?
  intro i
  rw [Array.getElem?_setIfInBounds]
  by_cases hi : i < 20
  · rw [arrC_get _ hi, arrC_get _ hi, arrC_size]
    by_cases e : q = i
    · subst e; simp [hi]
    · rw [if_neg e, if_neg (fun h => e h.symm)]
  · have h1 : (arrC f)[i]? = none := by rw [Array.getElem?_eq_none_iff, arrC_size]; omega
    have h2 : (arrC (fun i => if i = q then x else f i))[i]? = none := by rw [Array.getElem?_eq_none_iff, arrC_size]; omega
    rw [h1, h2, arrC_size]
    by_cases e : q = i
    · subst e; simp [hi]
    · rw [if_neg e]
/-- Block b holds the counts f. -/
def Arr (w : World) (b : Nat) (f : Nat → Nat) : Prop := w.heap[b]? = some (.cells (arrC f) 96)
theorem Arr.cell {w : World} {b : Nat} {f : Nat → Nat} (h : Arr w b f) {i : Nat} (hi : i < 20) : w.cell? ⟨b, i, none⟩ = some (.int .i64 ((f i : Nat) : Int)) := by
  simp [World.cell?, show w.heap[b]? = some (.cells (arrC f) 96) from h, arrC_get f hi]
theorem Arr.frozen {w : World} {b : Nat} {f : Nat → Nat} (h : Arr w b f) (i : Nat) : w.frozen? ⟨b, i, none⟩ = false := by
  simp [World.frozen?, show w.heap[b]? = some (.cells (arrC f) 96) from h]
theorem Arr.lt {w : World} {b : Nat} {f : Nat → Nat} (h : Arr w b f) : b < w.heap.size := (Array.getElem?_eq_some_iff.1 h).1
theorem Arr.later {w w' : World} {b : Nat} {f : Nat → Nat} (h : Arr w b f) (hb : Below w.heap.size w w') : Arr w' b f := (hb.block b h.lt).trans h
theorem Arr.set {w : World} {b : Nat} {f : Nat → Nat} (h : Arr w b f) (q x : Nat) : Arr (w.setCell ⟨b, q, none⟩ (.int .i64 ((x : Nat) : Int))) b (fun i => if i = q then x else f i) := by
  have h' : w.heap[b]? = some (.cells (arrC f) 96) := h
  unfold Arr
  rw [← arrC_set f q x]
  simp [World.setCell, Array.getElem?_modify, h']
theorem Arr.store {w : World} {b : Nat} {f : Nat → Nat} (h : Arr w b f) {p : Addr} (hp : b ≠ p.block) (v : Value) : Arr (w.setCell p v) b f := (Below.heap_setCell _ _ _ _ hp).trans h
theorem Arr.new (w : World) (f : Nat → Nat) : Arr (w.alloc (.cells (arrC f) 96)) w.heap.size f := Go.Deep.blk_alloc_new _ _

theorem arrC_one (f : Nat → Nat) : (arrC f).all (·.oneCell') = true := by
  unfold arrC
  rw [Array.all_eq_true_iff_forall_mem]
  intro v hv
  simp only [List.mem_toArray, List.mem_map] at hv
  obtain ⟨i, _, rfl⟩ := hv
  rfl
theorem Try.infoNeeds : (Try.prog.info? 96).map (·.size) = some 20 := by kernel_rfl
theorem Arr.load {w : World} {b : Nat} {f : Nat → Nat} (h : Arr w b f) : (Instr.loadAt 96 (.pointer (some ⟨b, 0, none⟩))).run Try.prog w = .ok (.agg (arrC f)) w := by
  simp only [Instr.loadAt, Instr.sureAddr, Sem.run_bind, Sem.run_pure, Result.andThen]
  exact run_loadVar_row w b _ _ (arrC f) (0, 0) _ h Try.underlying96 rfl (by rw [arrC_size]; exact Try.infoNeeds)
theorem Arr.loadV {w : World} {b : Nat} {f : Nat → Nat} (h : Arr w b f) : (loadVar 96 ⟨b, 0, none⟩).run Try.prog w = .ok (.agg (arrC f)) w :=
  run_loadVar_row w b _ _ (arrC f) (0, 0) _ h Try.underlying96 rfl (by rw [arrC_size]; exact Try.infoNeeds)
theorem Arr.put {w : World} {b : Nat} {f : Nat → Nat} (h : Arr w b f) (g : Nat → Nat) : ∃ X, (Instr.storeAt 96 (.pointer (some ⟨b, 0, none⟩)) (.agg (arrC g))).run Try.prog w = .ok () X ∧ Arr X b g ∧ X.heap.size = w.heap.size ∧ (∀ c, c ≠ b → X.heap[c]? = w.heap[c]?) ∧ X.os = w.os ∧ X.tape = w.tape ∧ X.output = w.output := by
  refine ⟨w.setRow b (arrC g), ?_, ?_, ?_, fun c hc => ?_, rfl, rfl, rfl⟩
  · simp only [Instr.storeAt, Instr.sureAddr, Sem.run_bind, Sem.run_pure, Result.andThen]
    rw [run_storeVar_row w b _ _ (arrC f) (arrC g) h (by rw [arrC_size]; exact Try.infoNeeds) (by rw [arrC_size, arrC_size]) (arrC_one g)]
  · have h' : w.heap[b]? = some (.cells (arrC f) 96) := h
    unfold Arr
    simp [World.setRow, Array.getElem?_modify, h']
  · simp [World.setRow]
  · simp only [World.setRow]
    rw [Array.getElem?_modify, if_neg (fun e => hc e.symm)]
section
variable {P : Program} {w : World}
/-- A load, a store whose run is known, at its place in a walk. -/
theorem wpList_load_run {ops : Array Oper} {rest : List Oper} {o : Oper} {a : Act} {Q : Exit → Act → World → Prop} (hgd : o.guard = none) (s : Operand) (t : TypeId) (ho : o.op = .load t s) (v : Value) (hs : a.eval s = v) (v' : Value) (w' : World)
    (hr : (Instr.loadAt t v).run P w = .ok v' w') (h : wpList P ops Q rest (a.put o.dst v') w') : wpList P ops Q (o :: rest) a w := by
  refine wpList_plain hgd fun K hK => ?_
  unfold Oper.wp execOp
  simp only [ho, Sem.run_bind, Sem.run_pure, hs, hr, Result.andThen_ok]
  exact hK _ _ h
theorem wpList_store_run {ops : Array Oper} {rest : List Oper} {o : Oper} {a : Act} {Q : Exit → Act → World → Prop} (hgd : o.guard = none) (s x : Operand) (t : TypeId) (ho : o.op = .store t s x) (v y : Value) (hs : a.eval s = v) (hx : a.eval x = y) (w' : World)
    (hr : (Instr.storeAt t v y).run P w = .ok () w') (h : wpList P ops Q rest (a.put o.dst undef) w') : wpList P ops Q (o :: rest) a w := by
  refine wpList_plain hgd fun K hK => ?_
  unfold Oper.wp execOp
  simp only [ho, Sem.run_bind, Sem.run_pure, hs, hx, hr, Result.andThen_ok]
  exact hK _ _ h
end

set_option maxHeartbeats 800000 in
theorem needsWith_walk (w : World) (a : Option Addr) (n c : Nat) (f : Nat → Nat) (bs : List Int) (hn : n ≤ 1048576) (hbn : bs.length = n) (hf : ∀ i, f i ≤ 1000000000000) (hr : ∀ k, k < n → 0 ≤ bs[k]?.getD 0 ∧ bs[k]?.getD 0 < 20) (hc : At1 w a n (fun k => .int .i64 (bs[k]?.getD 0))) :
    Calls Try.prog 75 #[.agg (arrC f), .slice a n c] w fun e w' => e = .returned (.agg (arrC fun i => f i + bs.count (i : Int))) ∧ Below w.heap.size w w' := by
  have HC : Hid (At1 w a n (fun k => .int .i64 (bs[k]?.getD 0))) := hc
  have HR : Hid (∀ k, k < n → 0 ≤ bs[k]?.getD 0 ∧ bs[k]?.getD 0 < 20) := hr
  have HN : Hid (bs.length = n) := hbn
  have HF : Hid (∀ i, f i ≤ 1000000000000) := hf
  clear hc hr hbn hf
  have hsz := arrC_size f
  have h0 := Arr.new w f
  have z1 := Arr.new (w.alloc (.cells (arrC f) 96)) (fun _ => 0)
  have z0 := h0.later (later1 _ (.cells (arrC fun _ => 0) 96))
  rw [World.size_alloc] at z1
  have HB0 : Hid (Below w.heap.size w ((w.alloc (.cells (arrC f) 96)).alloc (.cells (arrC fun _ => 0) 96))) := later2 _ _ _
  have HZ0 : Hid (Arr _ _ _) := z0
  have HZ1 : Hid (Arr _ _ _) := z1
  clear h0 z0 z1
  go_enter Try.func75, Try.ntmps75
  go_wp2
  go_loopw [9] (fun i wr => ∃ j : Nat, j ≤ n ∧ i = .int .i64 j ∧ Below w.heap.size w wr ∧ Arr wr w.heap.size (fun i => f i + (bs.take j).count (i : Int)) ∧ Arr wr (w.heap.size + 1) (fun _ => 0)) (fun i _ => n - (intOf i).toNat)
  case atStart => exact ⟨0, Nat.zero_le _, rfl, HB0.out, by simp only [List.take_zero, List.count_nil, Nat.add_zero]; exact HZ0.out, HZ1.out⟩
  case round =>
    clear HB0 HZ0 HZ1
    obtain ⟨j, hj, rfl, hbl, hx, hy⟩ := hrel
    have HBL : Hid (Below w.heap.size w wr) := hbl
    have HX : Hid (Arr wr w.heap.size (fun i => f i + (bs.take j).count (i : Int))) := hx
    have HY : Hid (Arr wr (w.heap.size + 1) (fun _ => 0)) := hy
    clear hbl hx hy
    by_cases hlt : j < n
    · obtain ⟨b, o, rfl, d1⟩ := HC.out j hlt
      replace d1 : w.cell? ⟨b, o + j, none⟩ = some (.int .i64 (bs[j]?.getD 0)) := d1
      replace d1 := cell_later HBL.out d1
      have hrj := HR.out j hlt
      obtain ⟨q, hq⟩ := Int.eq_ofNat_of_zero_le hrj.1
      have hq20 : q < 20 := by omega
      have hfq := HF.out q
      have hct : (bs.take j).count (q : Int) ≤ 1048576 := by
        have := List.count_le_length (a := (q : Int)) (l := bs.take j)
        rw [List.length_take] at this
        omega
      have HNX : Hid (∀ i : Nat, (bs.take (j + 1)).count (i : Int) = (bs.take j).count (i : Int) + if i = q then 1 else 0) := fun i => by
        rw [count_next bs (i : Int) j (by rw [HN.out]; exact hlt), hq]
        congr 1
        by_cases e : i = q
        · rw [if_pos e, if_pos (by omega)]
        · rw [if_neg e, if_neg (by omega)]
      rw [hq] at d1
      have e1 := HX.out.cell hq20
      have e2 := HX.out.frozen q
      clear hrj hq HC HR
      have HS := HX.out.set q (f q + (bs.take j).count (q : Int) + 1)
      have HS' : Hid (Arr (wr.setCell ⟨w.heap.size, q, none⟩ (.int .i64 ((f q + (bs.take j).count (q : Int) + 1 : Nat) : Int))) w.heap.size (fun i => f i + (bs.take (j + 1)).count (i : Int))) := by
        have he : (fun i => f i + (bs.take (j + 1)).count (i : Int)) = (fun i : Nat => if i = q then f q + (bs.take j).count (q : Int) + 1 else f i + (bs.take j).count (i : Int)) := by
          funext i
          rw [HNX.out i]
          by_cases e : i = q
          · subst e; rw [if_pos rfl, if_pos rfl]; omega
          · rw [if_neg e, if_neg e]; omega
        unfold Hid
        rw [he]
        exact HS
      clear HS HNX
      generalize (bs.take j).count (q : Int) = cq at *
      generalize f q = fq at *
      go_wp2
      go_roundw
      case rel => exact ⟨j + 1, by omega, by go_num, HBL.out.setCell (by simp) _, by first | exact HS'.out | simpa using HS'.out, HY.out.store (by simp) _⟩
      case measure => simp [intOf]; omega
    · have he : bs.take j = bs := List.take_of_length_le (by rw [HN.out]; omega)
      rw [he] at HX
      clear he
      generalize hg : (fun i : Nat => f i + bs.count (i : Int)) = g at HX
      have HGE : Hid ((fun i : Nat => f i + bs.count (i : Int)) = g) := hg
      clear hg
      have HL : Hid (_ = _) := HX.out.load
      obtain ⟨X, hst, hax, hsx, hoth, hx1, hx2, hx3⟩ := HY.out.put g
      have HST : Hid (_ = _) := hst
      have HAX : Hid (Arr X (w.heap.size + 1) g) := hax
      have HBX : Hid (Below w.heap.size w X) := HBL.out.trans ⟨hx1, hx2, hx3, by omega, fun c hc => hoth c (by omega)⟩
      clear hst hax hsx hoth hx1 hx2 hx3
      go_wp2_with (first | refine wpList_load_run rfl _ 96 rfl _ rfl _ _ HL.out ?_ | refine wpList_store_run rfl _ _ 96 rfl _ _ rfl rfl _ HST.out ?_)
      refine bodyPost_ret (v := .agg (arrC g)) ?_ rfl ⟨by rw [HGE.out], HBX.out⟩
      have hlv := HAX.out.loadV
      simp [results, Try.results75, asAddr, Act.put, hlv]
end Go.Proofs.Ytlacppjlclfpmaa

namespace Go.Proofs.Ytlacppjlclfpmaa
open Go.RowKit
set_option maxRecDepth 100000

theorem needsWith_any {w : World} {v : Value} {bs : List Int} (h : Ints w v bs) (f : Nat → Nat) (hn : bs.length ≤ 1048576) (hf : ∀ i, f i ≤ 1000000000000) (hr : ∀ k : Nat, k < bs.length → 0 ≤ bs[k]?.getD 0 ∧ bs[k]?.getD 0 < 20) :
    Calls Try.prog 75 #[.agg (arrC f), v] w fun e w' => e = .returned (.agg (arrC fun i => f i + bs.count (i : Int))) ∧ Below w.heap.size w w' := by
  obtain ⟨a, cap, rfl, _, hc⟩ := h.open'
  exact needsWith_walk w a _ cap f bs hn rfl hf hr hc
/-- Blocks of inodes without a fault stand within the bounds. -/
theorem inoF_blocks {d : ID} (h : inoF d = 0) (k : Nat) (hk : k < d.2.2.2.1.length) : 0 ≤ d.2.2.2.1[k]?.getD 0 ∧ d.2.2.2.1[k]?.getD 0 < 20 := by
  have hp : ∀ x : Bool, (decide (d.2.1 ≠ 0) || decide (d.2.2.1 ≠ 0) || decide (0 < d.2.2.2.1.length)) = x → x = true := fun x hx => by
    rw [← hx, decide_eq_true (show 0 < d.2.2.2.1.length by omega)]; simp
  have hfp : fpB d = true := hp _ rfl
  unfold inoF at h
  rw [hfp] at h
  split at h
  · simp at h
  · split at h
    · split at h
      · omega
      · unfold fileF at h
        split at h
        · split at h
          · unfold blkF at h
            split at h
            · rename_i hz
              have := fstNZ_inv hz k hk
              unfold rngF at this
              split at this
              · omega
              · omega
            · rename_i hz; exact absurd h hz
          · omega
        · omega
    · split at h
      · simp at h
      · omega
theorem insF_len {ds : List ID} (h : insF ds = 0) : ds.length ≤ 10 := by
  unfold insF at h
  split at h
  · omega
  · omega
theorem insF_each {ds : List ID} (h : insF ds = 0) (j : Nat) (hj : j < ds.length) : inoF (ds[j]?.getD id0) = 0 := by
  unfold insF at h
  split at h
  · omega
  · exact fstNZ_inv (f := fun i => inoF (ds[i]?.getD id0)) h j hj
theorem insF_blocks {ds : List ID} (h : insF ds = 0) (j k : Nat) (hj : j < ds.length) (hk : k < (ds[j]?.getD id0).2.2.2.1.length) : 0 ≤ (ds[j]?.getD id0).2.2.2.1[k]?.getD 0 ∧ (ds[j]?.getD id0).2.2.2.1[k]?.getD 0 < 20 := inoF_blocks (insF_each h j hj) k hk

set_option maxHeartbeats 1600000 in
theorem needsOf_walk (w : World) (a : Option Addr) (n c : Nat) (ds : List ID) (hdn : ds.length = n) (hn : n ≤ 1048576) (hs : (isz ds).sum ≤ 1048576) (hr : ∀ j k : Nat, j < n → k < (ds[j]?.getD id0).2.2.2.1.length → 0 ≤ (ds[j]?.getD id0).2.2.2.1[k]?.getD 0 ∧ (ds[j]?.getD id0).2.2.2.1[k]?.getD 0 < 20) (hc : AtI w a n ds) :
    Calls Try.prog 74 #[.slice a n c] w fun e w' => e = .returned (.agg (arrC fun i => cntB ds (i : Int))) ∧ Below w.heap.size w w' := by
  have HC : Hid (AtI w a n ds) := hc
  have HN : Hid (ds.length = n) := hdn
  have HR : Hid (∀ j k : Nat, j < n → k < (ds[j]?.getD id0).2.2.2.1.length → 0 ≤ (ds[j]?.getD id0).2.2.2.1[k]?.getD 0 ∧ (ds[j]?.getD id0).2.2.2.1[k]?.getD 0 < 20) := hr
  have HS : Hid (∀ (j : Nat) (v : Int), (((ds.take j).flatMap fun d => d.2.2.2.1)).count v ≤ 1000000000000) := fun j v => by
    have h1 := flat_take (fun d : ID => d.2.2.2.1) ds j
    have h2 := allB_len ds
    have h3 := List.count_le_length (a := v) (l := (ds.take j).flatMap fun d => d.2.2.2.1)
    unfold allB at h2
    omega
  have HX : Hid (∀ (j : Nat), j < n → (fun i : Nat => ((ds.take j).flatMap fun d => d.2.2.2.1).count (i : Int) + ((ds[j]?.getD id0).2.2.2.1).count (i : Int)) = (fun i : Nat => ((ds.take (j + 1)).flatMap fun d => d.2.2.2.1).count (i : Int))) := fun j hj => by
    funext i
    rw [flat_next (fun d : ID => d.2.2.2.1) ds id0 j (by omega), List.count_append]
  have HZ : Hid (∀ j : Nat, (ds[j]?.getD id0).2.2.2.1.length ≤ 1048576) := fun j => by
    have := isz_le ds j
    have hd : sizeIno (ds[j]?.getD id0) = (ds[j]?.getD id0).2.2.2.1.length + sizeN (ds[j]?.getD id0).2.2.2.2 := rfl
    omega
  have HE : Hid ((fun i : Nat => cntB ds (i : Int)) = (fun i : Nat => ((ds.take n).flatMap fun d => d.2.2.2.1).count (i : Int))) := by unfold Hid cntB allB; rw [List.take_of_length_le (by omega)]
  clear hc hdn hr hs
  have z0 := Arr.new w (fun _ => 0)
  have z1 := Arr.new (w.alloc (.cells (arrC fun _ => 0) 96)) (fun _ => 0)
  replace z0 := z0.later (later1 _ (.cells (arrC fun _ => 0) 96))
  rw [World.size_alloc] at z1
  have HB0 : Hid (Below w.heap.size w ((w.alloc (.cells (arrC fun _ => 0) 96)).alloc (.cells (arrC fun _ => 0) 96))) := later2 _ _ _
  have HZ0 : Hid (Arr _ _ _) := z0
  have HZ1 : Hid (Arr _ _ _) := z1
  clear z0 z1
  rw [HE.out]
  clear HE
  generalize hG : (fun (j i : Nat) => ((ds.take j).flatMap fun d => d.2.2.2.1).count (i : Int)) = G at *
  have HG : Hid (∀ j i, ((ds.take j).flatMap fun d => d.2.2.2.1).count ((i : Nat) : Int) = G j i) := fun j i => congrFun (congrFun hG j) i
  have HGB : Hid (∀ j i, G j i ≤ 1000000000000) := fun j i => by rw [← HG.out j i]; exact HS.out j _
  have HG0 : Hid ((fun _ : Nat => 0) = G 0) := by unfold Hid; funext i; rw [← HG.out 0 i]; simp
  simp only [HG.out] at HX ⊢
  clear hG HG HS
  go_enter Try.func74, Try.ntmps74
  go_wp2
  go_loopw [8] (fun i wr => ∃ j : Nat, j ≤ n ∧ i = .int .i64 j ∧ Below w.heap.size w wr ∧ Arr wr (w.heap.size + 1) (G j) ∧ Arr wr w.heap.size (fun _ => 0)) (fun i _ => n - (intOf i).toNat)
  case atStart => exact ⟨0, Nat.zero_le _, rfl, HB0.out, HG0.out ▸ HZ1.out, HZ0.out⟩
  case round =>
    clear HB0 HZ0 HZ1
    obtain ⟨j, hj, rfl, hbl, hx, hy⟩ := hrel
    have HBL : Hid (Below w.heap.size w wr) := hbl
    have HA : Hid (Arr wr (w.heap.size + 1) (G j)) := hx
    have HY : Hid (Arr wr w.heap.size (fun _ => 0)) := hy
    have hw0 := hx.lt
    clear hbl hx hy
    by_cases hlt : j < n
    · obtain ⟨b, o, rfl, hI⟩ := HC.out j hlt
      obtain ⟨aB, cB, aE, cE, c0, c1, c2, c3, c4, hR⟩ := hI.later HBL.out
      have HW : Hid (∀ W, Below wr.heap.size wr W → Calls Try.prog 75 #[.agg (arrC (G j)), .slice aB (ds[j]?.getD id0).2.2.2.1.length cB] W fun e w' => e = .returned (.agg (arrC (G (j + 1)))) ∧ Below W.heap.size W w') := fun W hW => by
        have hx := needsWith_any (hR.2.1.later hW) (G j) (HZ.out j) (HGB.out j) (fun k hk => HR.out j k hlt hk)
        have e : (fun i : Nat => G j i + ((ds[j]?.getD id0).2.2.2.1).count (i : Int)) = G (j + 1) := HX.out j hlt
        rw [e] at hx
        exact hx
      have HL : Hid (∀ o, (Instr.loadAt 96 (.pointer (some ⟨w.heap.size + 1, 0, none⟩))).run Try.prog (wr.alloc o) = .ok (.agg (arrC (G j))) (wr.alloc o)) := fun o => (HA.out.later (later1 _ _)).load
      clear hI hR HC HR
      generalize hg2 : G (j + 1) = g2 at HW
      generalize G j = g1 at HW HL HA
      have HG2 : Hid (G (j + 1) = g2) := hg2
      clear hg2
      generalize (ds[j]?.getD id0) = d at *
      go_wp2_with (first | refine wpList_load_run rfl _ 96 rfl _ rfl _ _ (HL.out _) ?_ | fail)
      clear c0 c1 c2 c3 c4
      refine (HW.out _ (later1 _ _)).mono ?_
      rintro e w2 ⟨rfl, hb2⟩
      have hbw : Below wr.heap.size wr w2 := (later1 _ _).trans (hb2.mono (by simp))
      obtain ⟨X, hst, hax, hsx, hoth, hx1, hx2, hx3⟩ := (HA.out.later hbw).put g2
      have HST : Hid (_ = _) := hst
      have HAX : Hid (Arr X (w.heap.size + 1) g2) := hax
      have HBX : Hid (Below w.heap.size w X) := (HBL.out.trans (hbw.mono HBL.out.size)).trans ⟨hx1, hx2, hx3, by omega, fun c hc => hoth c (by omega)⟩
      have HYX : Hid (Arr X w.heap.size (fun _ => 0)) := (hoth _ (by omega)).trans (HY.out.later hbw)
      clear hst hax hsx hoth hx1 hx2 hx3 hb2 hbw
      go_wp2_with (first | refine wpList_store_run rfl _ _ 96 rfl _ _ rfl rfl _ HST.out ?_ | fail)
      go_roundw
      case rel => exact ⟨j + 1, by omega, by go_num, HBX.out, by rw [HG2.out]; exact HAX.out, HYX.out⟩
      case measure => simp [intOf]; omega
    · have HGN : Hid (G j = G n) := by unfold Hid; rw [show j = n by omega]
      have HL : Hid (_ = _) := HA.out.load
      obtain ⟨X, hst, hax, hsx, hoth, hx1, hx2, hx3⟩ := HY.out.put (G j)
      have HST : Hid (_ = _) := hst
      have HAX : Hid (Arr X w.heap.size (G n)) := HGN.out ▸ hax
      have HBX : Hid (Below w.heap.size w X) := HBL.out.trans ⟨hx1, hx2, hx3, by omega, fun c hc => hoth c (by omega)⟩
      clear hst hax hsx hoth hx1 hx2 hx3
      generalize G j = g1 at HL HST
      go_wp2_with (first | refine wpList_load_run rfl _ 96 rfl _ rfl _ _ HL.out ?_ | refine wpList_store_run rfl _ _ 96 rfl _ _ rfl rfl _ HST.out ?_)
      refine bodyPost_ret (v := .agg (arrC (G n))) ?_ rfl ⟨rfl, HBX.out⟩
      have hlv := HAX.out.loadV
      simp [results, Try.results74, asAddr, Act.put, hlv]
theorem needsOf_any {w : World} {v : Value} {ds : List ID} (h : Inos w v ds) (hs : sizeInos ds ≤ 1048576) (hf : insF ds = 0) :
    Calls Try.prog 74 #[v] w fun e w' => e = .returned (.agg (arrC fun i => cntB ds (i : Int))) ∧ Below w.heap.size w w' := by
  obtain ⟨a, cap, rfl, hm, hc⟩ := h.open'
  unfold sizeInos at hs
  exact needsOf_walk w a _ cap ds rfl (by omega) (by omega) (fun j k hj hk => insF_blocks hf j k hj hk) hc

theorem Arr.keep {w w' : World} {b : Nat} {f : Nat → Nat} (h : Arr w b f) (hk : KeepT w w') : Arr w' b f := hk _ _ _ _ (by decide) h

def manyB (f : Nat → Nat) : Bool := (List.range 20).any fun k => decide (1 < f k)
set_option maxHeartbeats 800000 in
theorem anyOfTwo_any (w : World) (f : Nat → Nat) (hf : ∀ i, f i ≤ 1000000000000) :
    Calls Try.prog 83 #[.agg (arrC f)] w fun e w' => e = .returned (.bool (manyB f)) ∧ Below w.heap.size w w' := by
  have HA : Hid (Arr (w.alloc (.cells (arrC f) 96)) w.heap.size f) := Arr.new w f
  have HF : Hid (∀ i, f i ≤ 1000000000000) := hf
  have HB : Hid (Below w.heap.size w (w.alloc (.cells (arrC f) 96))) := later1 _ _
  have hsz := arrC_size f
  clear hf
  go_enter Try.func83, Try.ntmps83
  go_wp2
  generalize w.alloc (.cells (arrC f) 96) = W at *
  go_loopw [4] (fun i wr => ∃ j : Nat, j ≤ 20 ∧ i = .int .i64 j ∧ wr = W ∧ ∀ i : Nat, i < j → ¬ 1 < f i) (fun i _ => 20 - (intOf i).toNat)
  case atStart => exact ⟨0, Nat.zero_le _, rfl, rfl, fun i hi => by omega⟩
  case round =>
    obtain ⟨j, hj, rfl, hw, hz⟩ := hrel
    have HZ : Hid (∀ i : Nat, i < j → ¬ 1 < f i) := hz
    rw [← hw] at HA HB
    have HWE : Hid (wr = W) := hw
    clear hz hw
    by_cases hlt : j < 20
    · have c0 := HA.out.cell hlt
      have hfj := HF.out j
      by_cases h1 : 1 < f j
      · have HR : Hid (manyB f = true) := by
          unfold Hid manyB
          rw [List.any_eq_true]
          exact ⟨j, by simpa using hlt, by simpa using h1⟩
        have hd : decide ((1 : Int) < ((f j : Nat) : Int)) = true := by simp; omega
        clear h1
        generalize f j = x at *
        go_wp2
        go_ret
        exact ⟨ret_bool HR.out.symm, HB.out⟩
      · have HR : Hid (∀ i : Nat, i < j + 1 → ¬ 1 < f i) := fun i hi => by
          by_cases e : i = j
          · subst e; exact h1
          · exact HZ.out i (by omega)
        have hd : decide ((1 : Int) < ((f j : Nat) : Int)) = false := by simp; omega
        clear h1
        generalize hx : f j = x at c0 hd hfj
        clear hx
        go_wp2
        go_roundw
        case rel => exact ⟨j + 1, by omega, by go_num, HWE.out, HR.out⟩
        case measure => simp [intOf]; omega
    · have HR : Hid (manyB f = false) := by
        unfold Hid manyB
        rw [List.any_eq_false]
        intro k hk
        simp only [List.mem_range] at hk
        simpa using HZ.out k (by omega)
      go_wp2
      go_ret
      exact ⟨ret_bool HR.out.symm, HB.out⟩

set_option maxHeartbeats 1600000 in
theorem needsUsed_any (w : World) (f : Nat → Nat) (hf : ∀ i, f i ≤ 1000000000000) :
    Calls Try.prog 84 #[.agg (arrC f)] w fun e w' => ∃ a c, e = .returned (.slice a (selL (fun k => decide (0 < f k)) 20).length c) ∧ Below w.heap.size w w' ∧ Wds w' w.heap.size (.slice a (selL (fun k => decide (0 < f k)) 20).length c) (selL (fun k => decide (0 < f k)) 20) := by
  have HA : Hid (Arr (w.alloc (.cells (arrC f) 96)) w.heap.size f) := Arr.new w f
  have HF : Hid (∀ i, f i ≤ 1000000000000) := hf
  have HB : Hid (Below w.heap.size w (w.alloc (.cells (arrC f) 96))) := later1 _ _
  have HY : Hid (∀ j : Nat, 0 < f j → selL (fun k => decide (0 < f k)) (j + 1) = selL (fun k => decide (0 < f k)) j ++ [(j : Int)]) := fun j hj => selL_yes (by simpa using hj)
  have HNO : Hid (∀ j : Nat, ¬ 0 < f j → selL (fun k => decide (0 < f k)) (j + 1) = selL (fun k => decide (0 < f k)) j) := fun j hj => selL_no (by simpa using hj)
  have HL : Hid (∀ j, (selL (fun k => decide (0 < f k)) j).length ≤ j) := fun j => selL_len _ _
  have HS0 : Hid (selL (fun k => decide (0 < f k)) 0 = []) := rfl
  have hsz := arrC_size f
  clear hf
  generalize (fun k => decide (0 < f k)) = p at *
  go_enter Try.func84, Try.ntmps84
  go_wp2
  go_loopw [3, 5] (fun o i wr => ∃ (j : Nat) (v : Value), j ≤ 20 ∧ i = .int .i64 j ∧ o = v ∧ Below w.heap.size w wr ∧ Arr wr w.heap.size f ∧ Wds wr w.heap.size v (selL p j)) (fun _ i _ => 20 - (intOf i).toNat)
  case atStart => exact ⟨0, _, Nat.zero_le _, rfl, rfl, HB.out, HA.out, by rw [HS0.out]; exact Wds.nil _ _⟩
  case round =>
    clear HA HB
    obtain ⟨j, v, hj, rfl, rfl, hbl, ha, hwd⟩ := hrel
    obtain ⟨aV, cV, rfl⟩ := hwd.shape
    have HBL : Hid (Below w.heap.size w wr) := hbl
    have HAR : Hid (Arr wr w.heap.size f) := ha
    have HWD : Hid (Wds wr w.heap.size (.slice aV (selL p j).length cV) (selL p j)) := hwd
    clear hbl hwd ha
    by_cases hlt : j < 20
    · have c0 := HAR.out.cell hlt
      have hfj := HF.out j
      have HYJ := HY.out j
      have HNJ := HNO.out j
      have hlj := HL.out j
      by_cases h1 : 0 < f j
      · have HYY : Hid (selL p (j + 1) = selL p j ++ [(j : Int)]) := HYJ h1
        have hd : decide ((0 : Int) < ((f j : Nat) : Int)) = true := by simp; omega
        have hd' : decide (0 < f j) = true := by simpa using h1
        clear HYJ HNJ h1
        generalize hx : f j = x at c0 hd hfj hd'
        clear hx
        obtain ⟨a', c', X, hr, hw, hb, hk⟩ := append_w1 wr w.heap.size _ (selL p j) (j : Int) HWD.out HBL.out.size (by omega)
        have HR : Hid (_ = _) := hr
        rw [← HYY.out] at HR hw
        have HW : Hid (Wds X w.heap.size _ (selL p (j + 1))) := hw
        have HB : Hid (Below w.heap.size w X) := HBL.out.trans hb
        have HAX : Hid (Arr X w.heap.size f) := HAR.out.keep hk
        clear hr hw hb hk
        go_wp2_with (at_builtin; refine wpList_append_run rfl _ _ 37 rfl _ _ rfl rfl _ _ HR.out ?_)
        go_roundw
        case rel => exact ⟨j + 1, _, by omega, by go_num, rfl, HB.out, HAX.out, HW.out⟩
        case measure => simp [intOf]; omega
      · have HYY : Hid (selL p (j + 1) = selL p j) := HNJ h1
        have h0 : f j = 0 := by omega
        rw [h0] at c0
        clear HYJ HNJ h1 hfj h0
        have HW : Hid (Wds wr w.heap.size (.slice aV (selL p j).length cV) (selL p (j + 1))) := by unfold Hid; rw [HYY.out]; exact HWD.out
        go_wp2
        go_roundw
        case rel => exact ⟨j + 1, _, by omega, by go_num, rfl, HBL.out, HAR.out, HW.out⟩
        case measure => simp [intOf]; omega
    · have he : j = 20 := by omega
      subst he
      clear hlt
      go_wp2
      go_ret
      exact ⟨_, _, rfl, HBL.out, HWD.out⟩

set_option maxHeartbeats 1600000 in
theorem needsFree_any (w : World) (f : Nat → Nat) (hf : ∀ i, f i ≤ 1000000000000) :
    Calls Try.prog 76 #[.agg (arrC f)] w fun e w' => ∃ a c, e = .returned (.slice a (selL (fun k => decide (f k = 0)) 20).length c) ∧ Below w.heap.size w w' ∧ Wds w' w.heap.size (.slice a (selL (fun k => decide (f k = 0)) 20).length c) (selL (fun k => decide (f k = 0)) 20) := by
  have HA : Hid (Arr (w.alloc (.cells (arrC f) 96)) w.heap.size f) := Arr.new w f
  have HF : Hid (∀ i, f i ≤ 1000000000000) := hf
  have HB : Hid (Below w.heap.size w (w.alloc (.cells (arrC f) 96))) := later1 _ _
  have HY : Hid (∀ j : Nat, f j = 0 → selL (fun k => decide (f k = 0)) (j + 1) = selL (fun k => decide (f k = 0)) j ++ [(j : Int)]) := fun j hj => selL_yes (by simpa using hj)
  have HNO : Hid (∀ j : Nat, ¬ f j = 0 → selL (fun k => decide (f k = 0)) (j + 1) = selL (fun k => decide (f k = 0)) j) := fun j hj => selL_no (by simpa using hj)
  have HL : Hid (∀ j, (selL (fun k => decide (f k = 0)) j).length ≤ j) := fun j => selL_len _ _
  have HS0 : Hid (selL (fun k => decide (f k = 0)) 0 = []) := rfl
  have hsz := arrC_size f
  clear hf
  generalize (fun k => decide (f k = 0)) = p at *
  go_enter Try.func76, Try.ntmps76
  go_wp2
  go_loopw [3, 5] (fun o i wr => ∃ (j : Nat) (v : Value), j ≤ 20 ∧ i = .int .i64 j ∧ o = v ∧ Below w.heap.size w wr ∧ Arr wr w.heap.size f ∧ Wds wr w.heap.size v (selL p j)) (fun _ i _ => 20 - (intOf i).toNat)
  case atStart => exact ⟨0, _, Nat.zero_le _, rfl, rfl, HB.out, HA.out, by rw [HS0.out]; exact Wds.nil _ _⟩
  case round =>
    clear HA HB
    obtain ⟨j, v, hj, rfl, rfl, hbl, ha, hwd⟩ := hrel
    obtain ⟨aV, cV, rfl⟩ := hwd.shape
    have HBL : Hid (Below w.heap.size w wr) := hbl
    have HAR : Hid (Arr wr w.heap.size f) := ha
    have HWD : Hid (Wds wr w.heap.size (.slice aV (selL p j).length cV) (selL p j)) := hwd
    clear hbl hwd ha
    by_cases hlt : j < 20
    · have c0 := HAR.out.cell hlt
      have hfj := HF.out j
      have HYJ := HY.out j
      have HNJ := HNO.out j
      have hlj := HL.out j
      by_cases h1 : f j = 0
      · have HYY : Hid (selL p (j + 1) = selL p j ++ [(j : Int)]) := HYJ h1
        rw [h1] at c0
        clear HYJ HNJ h1 hfj
        obtain ⟨a', c', X, hr, hw, hb, hk⟩ := append_w1 wr w.heap.size _ (selL p j) (j : Int) HWD.out HBL.out.size (by omega)
        have HR : Hid (_ = _) := hr
        rw [← HYY.out] at HR hw
        have HW : Hid (Wds X w.heap.size _ (selL p (j + 1))) := hw
        have HB : Hid (Below w.heap.size w X) := HBL.out.trans hb
        have HAX : Hid (Arr X w.heap.size f) := HAR.out.keep hk
        clear hr hw hb hk
        go_wp2_with (at_builtin; refine wpList_append_run rfl _ _ 37 rfl _ _ rfl rfl _ _ HR.out ?_)
        go_roundw
        case rel => exact ⟨j + 1, _, by omega, by go_num, rfl, HB.out, HAX.out, HW.out⟩
        case measure => simp [intOf]; omega
      · have HYY : Hid (selL p (j + 1) = selL p j) := HNJ h1
        have hd : (((f j : Nat) : Int) == 0) = false := by rw [beq_eq_false_iff_ne]; omega
        clear HYJ HNJ h1
        generalize hx : f j = x at c0 hd hfj
        clear hx
        have HW : Hid (Wds wr w.heap.size (.slice aV (selL p j).length cV) (selL p (j + 1))) := by unfold Hid; rw [HYY.out]; exact HWD.out
        go_wp2
        go_roundw
        case rel => exact ⟨j + 1, _, by omega, by go_num, rfl, HBL.out, HAR.out, HW.out⟩
        case measure => simp [intOf]; omega
    · have he : j = 20 := by omega
      subst he
      clear hlt
      go_wp2
      go_ret
      exact ⟨_, _, rfl, HBL.out, HWD.out⟩
end Go.Proofs.Ytlacppjlclfpmaa
