/- The program's InodeFault. PackInode, both sides. The specification's UsedBlocks, FreeBlocks, PickBlocks and FreeInode. The specification's PickBlocks. Lists of inodes are marked, and the marks are held. Lists of lists of bytes, and file systems: the marks are held. -/
import Derived.Test.YtjabimfinanjoaaGreatM07
import Derived.Test.YtjabimfinanjoaaGreatM06
import Derived.Test.YtjabimfinanjoaaGreatM05
namespace Go.Proofs.YtjabimfinanjoaaGreat
open Go.RowKit
set_option maxRecDepth 100000

set_option maxHeartbeats 6400000 in
theorem dirFault_any (w : World) (k l s : Int) (a : Option Addr) (n c : Nat) (a' : Option Addr) (n' c' : Nat) (es : List EN) (hen : es.length = n') (_hm : n' ≤ maxLen) (hz : ∀ k : Nat, (es[k]?.getD en0).1.size ≤ maxLen) (hc : AtN w a' n' es) :
    Calls Tryz.prog 113 #[.agg #[.int .i64 k, .int .i64 l, .int .i64 s, .slice a n c, .slice a' n' c']] w fun e w' => e = .returned (.int .i64 (if decide (l ≠ 0) || decide (s ≠ 0) || decide (0 < n) then 1 else dirF es)) ∧ Below w.heap.size w w' := by
  have HF := fun W => hasFile_any W k l s a n c (.slice a' n' c') a' n' c' rfl
  generalize (decide (l ≠ 0) || decide (s ≠ 0) || decide (0 < n)) = f at *
  have HHF : Hid (∀ W : World, _) := HF
  have HC : Hid (AtN w a' n' es) := hc
  have HZ : Hid (∀ k : Nat, (es[k]?.getD en0).1.size ≤ maxLen) := hz
  have HN : Hid (es.length = n') := hen
  clear HF hc hz hen
  cases f
  rotate_left
  · go_enter Tryz.func113, Tryz.ntmps113
    go_wp2_with fail
    refine (HHF.out _).mono ?_
    rintro e w1 ⟨rfl, hb1⟩
    have HB1 : Hid (Below w.heap.size w w1) := (later1 _ _).trans (hb1.mono (by simp))
    clear hb1
    go_wp2
    go_ret
    exact ⟨rfl, HB1.out⟩
  · have HDF : Hid (dirF es = if 6 < n' then 2 else fstNZ (entF es) es.length) := by unfold Hid dirF; rw [HN.out]
    go_enter Tryz.func113, Tryz.ntmps113
    go_wp2_with fail
    refine (HHF.out _).mono ?_
    rintro e w1 ⟨rfl, hb1⟩
    have HB1 : Hid (Below w.heap.size w w1) := (later1 _ _).trans (hb1.mono (by simp))
    have hx : Bx w1 w.heap.size [.int .i64 k, .int .i64 l, .int .i64 s, .slice a n c, .slice a' n' c'] := (Bx.new w _ _).later hb1
    have c4 := hx 4 _ rfl
    have HX1 : Hid (Bx w1 w.heap.size [.int .i64 k, .int .i64 l, .int .i64 s, .slice a n c, .slice a' n' c']) := hx
    have hlt1 := hx.lt
    clear hb1 hx
    by_cases h6 : 6 < n'
    · have h6' : decide ((6 : Int) < (n' : Int)) = true := by simp; omega
      have HR : Hid (dirF es = 2) := by unfold Hid; rw [HDF.out, if_pos h6]
      go_wp2
      go_ret
      exact ⟨ret_int HR.out.symm, HB1.out⟩
    · have h6' : decide ((6 : Int) < (n' : Int)) = false := by simp; omega
      have HR : Hid (dirF es = fstNZ (entF es) es.length) := by unfold Hid; rw [HDF.out, if_neg h6]
      go_wp2
      go_loopw [15] (fun i wr => ∃ j : Nat, j ≤ n' ∧ i = .int .i64 j ∧ Below w1.heap.size w1 wr ∧ ∀ i : Nat, i < j → entF es i = 0) (fun i _ => n' - (intOf i).toNat)
      case atStart => exact ⟨0, Nat.zero_le _, rfl, Below.refl _ _, fun i hi => by omega⟩
      case round =>
        obtain ⟨j, hj, rfl, hbl, hall⟩ := hrel
        have HA : Hid (∀ i : Nat, i < j → entF es i = 0) := hall
        have HBL : Hid (Below w1.heap.size w1 wr) := hbl
        have HBW : Hid (Below w.heap.size w wr) := HB1.out.trans (hbl.mono HB1.out.size)
        have HBN : Hid (∀ o : Obj, Below w1.heap.size w1 (wr.alloc o)) := fun o => hbl.trans ((later1 _ _).mono hbl.size)
        have HBO : Hid (∀ o : Obj, Below w.heap.size w (wr.alloc o)) := fun o => HBW.out.trans ((later1 _ _).mono HBW.out.size)
        have c4' := cell_later hbl c4
        have hlw : w.heap.size < wr.heap.size := Nat.lt_of_lt_of_le hlt1 hbl.size
        clear hall hbl
        by_cases hlt : j < n'
        · obtain ⟨b1, off, rfl, e0, e1⟩ := HC.out j hlt
          have hb1l : b1 < wr.heap.size := Nat.lt_of_lt_of_le (World.block_lt_of_cell? _ _ e0) HBW.out.size
          replace e0 := cell_later HBW.out e0
          replace e1 := cell_later HBW.out e1
          have HSZ : Hid ((es[j]?.getD en0).1.size ≤ maxLen) := HZ.out j
          have HE : Hid (¬ entF es j = 0 → dirF es = entF es j) := fun h => HR.out.trans (fstNZ_at HA.out h (by rw [HN.out]; exact hlt))
          by_cases hnm : nameF (es[j]?.getD en0).1 = 0
          rotate_left
          · have HF : Hid (dirF es = nameF (es[j]?.getD en0).1) := by unfold Hid; rw [HE.out (by rw [entF_name hnm]; exact hnm), entF_name hnm]
            have HNM : Hid (¬ nameF (es[j]?.getD en0).1 = 0) := hnm
            clear hnm HE HA
            generalize (es[j]?.getD en0).1 = x at *
            generalize (es[j]?.getD en0).2 = y at *
            go_wp2_with fail
            refine (implName_any _ x HSZ.out).mono ?_
            generalize nameF x = q at *
            have hq : (q = 0) = False := by simpa using HNM.out
            have hq2 : (q == 0) = false := by simpa using HNM.out
            rintro e w2 ⟨rfl, rfl⟩
            go_wp2
            go_ret
            exact ⟨ret_int HF.out.symm, HBO.out _⟩
          · have HNM : Hid (nameF (es[j]?.getD en0).1 = 0) := hnm
            by_cases hy0 : (es[j]?.getD en0).2 < 0
            · have HF : Hid (dirF es = 3) := by unfold Hid; rw [HE.out (by rw [entF_rng hnm (by omega)]; decide), entF_rng hnm (by omega)]
              clear hnm HE HA
              generalize (es[j]?.getD en0).1 = x at *
              generalize (es[j]?.getD en0).2 = y at *
              go_wp2_with fail
              refine (implName_any _ x HSZ.out).mono ?_
              rw [HNM.out]
              rintro e w2 ⟨rfl, rfl⟩
              go_wp2
              go_ret
              exact ⟨ret_int HF.out.symm, HBO.out _⟩
            · by_cases hy9 : 10 ≤ (es[j]?.getD en0).2
              · have HF : Hid (dirF es = 3) := by unfold Hid; rw [HE.out (by rw [entF_rng hnm (by omega)]; decide), entF_rng hnm (by omega)]
                clear hnm HE HA
                generalize (es[j]?.getD en0).1 = x at *
                generalize (es[j]?.getD en0).2 = y at *
                go_wp2_with fail
                refine (implName_any _ x HSZ.out).mono ?_
                rw [HNM.out]
                rintro e w2 ⟨rfl, rfl⟩
                go_wp2
                go_ret
                exact ⟨ret_int HF.out.symm, HBO.out _⟩
              · have hr : 0 ≤ (es[j]?.getD en0).2 ∧ (es[j]?.getD en0).2 ≤ 9 := by omega
                by_cases h0 : j = 0
                · have HNX : Hid (∀ i : Nat, i < j + 1 → entF es i = 0) := fun i hi => by
                    have : i = j := by omega
                    rw [this]; exact entF_ok hnm hr (by omega)
                  clear hnm HE HA hr
                  generalize (es[j]?.getD en0).1 = x at *
                  generalize (es[j]?.getD en0).2 = y at *
                  subst h0
                  simp only [Nat.zero_mul, Nat.add_zero] at e0 e1
                  go_wp2_with fail
                  refine (implName_any _ x HSZ.out).mono ?_
                  rw [HNM.out]
                  rintro e w2 ⟨rfl, rfl⟩
                  go_wp2_with fail
                  go_quiet (fail)
                  go_wp2
                  go_roundw
                  case rel => exact ⟨1, by omega, by go_num, below_drewN (HBN.out _) nq, HNX.out⟩
                  case measure => simp [intOf]; omega
                · obtain ⟨i, hi⟩ : ∃ i, j = i + 1 := ⟨j - 1, by omega⟩
                  obtain ⟨b2, off2, h12, e2, _⟩ := HC.out i (by omega)
                  simp only [Option.some.injEq, Addr.mk.injEq, and_true] at h12
                  obtain ⟨rfl, rfl⟩ := h12
                  replace e2 := cell_later HBW.out e2
                  have hji : j - 1 = i := by omega
                  by_cases hle : strLe (es[j]?.getD en0).1 (es[i]?.getD en0).1 = true
                  · have HF : Hid (dirF es = 1) := by unfold Hid; rw [HE.out (by rw [entF_form hnm hr (by omega) (by rw [hji]; exact hle)]; decide), entF_form hnm hr (by omega) (by rw [hji]; exact hle)]
                    have hle2 := hle
                    unfold strLe at hle2
                    clear hnm HE HA hr hle
                    subst hi
                    generalize (es[i + 1]?.getD en0).1 = x at *
                    generalize (es[i + 1]?.getD en0).2 = y at *
                    generalize (es[i]?.getD en0).1 = x2 at *
                    have hpos : (0 : Int) < ((i + 1 : Nat) : Int) := by omega
                    go_wp2_with fail
                    refine (implName_any _ x HSZ.out).mono ?_
                    rw [HNM.out]
                    rintro e w2 ⟨rfl, rfl⟩
                    go_wp2_with fail
                    go_quiet (fail)
                    go_wp2
                    go_ret
                    exact ⟨ret_int HF.out.symm, below_drewN (HBO.out _) nq⟩
                  · have HNX : Hid (∀ q : Nat, q < j + 1 → entF es q = 0) := fun q hq => by
                      by_cases e : q = j
                      · rw [e]; exact entF_ok hnm hr (by rw [hji]; exact fun h => hle h.2)
                      · exact HA.out q (by omega)
                    have hle2 : strLe (es[j]?.getD en0).1 (es[i]?.getD en0).1 = false := by simpa using hle
                    unfold strLe at hle2
                    clear hnm HE HA hr hle
                    subst hi
                    generalize (es[i + 1]?.getD en0).1 = x at *
                    generalize (es[i + 1]?.getD en0).2 = y at *
                    generalize (es[i]?.getD en0).1 = x2 at *
                    have hpos : (0 : Int) < ((i + 1 : Nat) : Int) := by omega
                    go_wp2_with fail
                    refine (implName_any _ x HSZ.out).mono ?_
                    rw [HNM.out]
                    rintro e w2 ⟨rfl, rfl⟩
                    go_wp2_with fail
                    go_quiet (fail)
                    go_wp2
                    go_roundw
                    case rel => exact ⟨i + 1 + 1, by omega, by go_num, below_drewN (HBN.out _) nq, HNX.out⟩
                    case measure => simp [intOf]; omega
        · have HF : Hid (dirF es = 0) := by unfold Hid; rw [HR.out, fstNZ_zero fun i hi => HA.out i (by rw [HN.out] at hi; omega)]
          go_wp2
          go_ret
          exact ⟨ret_int HF.out.symm, HBW.out⟩

set_option maxHeartbeats 3200000 in
theorem implInoU (w : World) (z0 z1 z2 : Int) (aB : Option Addr) (nB cB : Nat) (aE : Option Addr) (nE cE : Nat) (d : ID) (h : InoR w (.int .i64 z0) (.int .i64 z1) (.int .i64 z2) (.slice aB nB cB) (.slice aE nE cE) d) (hs : sizeIno d ≤ 1048576) :
    Calls Tryz.prog 93 #[.agg #[.int .i64 z0, .int .i64 z1, .int .i64 z2, .slice aB nB cB, .slice aE nE cE]] w fun e w' => e = .returned (.int .i64 (inoF d)) ∧ Below w.heap.size w w' := by
  obtain ⟨⟨h0, h1, h2, hcap⟩, hi, he⟩ := h
  simp only [Value.int.injEq, true_and] at h0 h1 h2
  obtain ⟨_, _, _, ec, hcap⟩ := hcap
  simp only [Value.slice.injEq] at ec
  obtain ⟨rfl, rfl, rfl⟩ := ec
  obtain ⟨_, _, e1, hm1, hc1⟩ := hi.open'
  obtain ⟨_, _, e2, hm2, hz2, hc2⟩ := he.open'
  simp only [Value.slice.injEq] at e1 e2
  obtain ⟨rfl, e1n, rfl⟩ := e1
  obtain ⟨rfl, rfl, rfl⟩ := e2
  obtain ⟨k, l, s, bs, es⟩ := d
  dsimp only at *
  subst h0 h1 h2
  have hn1 : bs.length ≤ 1048576 := by unfold sizeIno at hs; dsimp only at hs; omega
  subst e1n
  have HFR : Hid (∀ W, Calls Tryz.prog 111 #[.agg #[.int .i64 z0, .int .i64 z1, .int .i64 z2, .slice aB bs.length cB, .slice aE es.length cE]] W fun e w' => e = .returned (.int .i64 (if (decide (z1 ≠ 0) || decide (z2 ≠ 0) || decide (0 < bs.length)) || decide (0 < es.length) then 1 else 0)) ∧ Below W.heap.size W w') := fun W => freeFault_any W z0 z1 z2 aB _ cB aE _ cE
  have HFI : Hid (∀ W, Below w.heap.size w W → Calls Tryz.prog 112 #[.agg #[.int .i64 z0, .int .i64 z1, .int .i64 z2, .slice aB bs.length cB, .slice aE es.length cE]] W fun e w' => e = .returned (.int .i64 (if decide (0 < es.length) then 1 else fileF z1 z2 bs)) ∧ Below W.heap.size W w') := fun W hW => fileFault_any W z0 z1 z2 aB _ cB aE _ cE bs hn1 hcap rfl (fun k hk => by
    obtain ⟨b, off, e, h⟩ := hc1 k hk
    exact ⟨b, off, e, cell_later hW h⟩)
  have HDI : Hid (∀ W, Below w.heap.size w W → Calls Tryz.prog 113 #[.agg #[.int .i64 z0, .int .i64 z1, .int .i64 z2, .slice aB bs.length cB, .slice aE es.length cE]] W fun e w' => e = .returned (.int .i64 (if decide (z1 ≠ 0) || decide (z2 ≠ 0) || decide (0 < bs.length) then 1 else dirF es)) ∧ Below W.heap.size W w') := fun W hW => dirFault_any W z0 z1 z2 aB _ cB aE _ cE es rfl hm2 hz2 (hc2.later hW)
  have HF : Hid (inoF (z0, z1, z2, bs, es) = if z0 = 0 then (if (decide (z1 ≠ 0) || decide (z2 ≠ 0) || decide (0 < bs.length)) || decide (0 < es.length) then 1 else 0) else if z0 = 1 then (if decide (0 < es.length) then 1 else fileF z1 z2 bs) else if z0 = 2 then (if (decide (z1 ≠ 0) || decide (z2 ≠ 0) || decide (0 < bs.length)) then 1 else dirF es) else 1) := rfl
  rw [HF.out]
  clear HF hi he hc1 hc2 hm1 hm2 hz2 hcap hs hn1
  generalize (if (decide (z1 ≠ 0) || decide (z2 ≠ 0) || decide (0 < bs.length)) || decide (0 < es.length) then (1 : Int) else 0) = r0 at *
  generalize (if decide (0 < es.length) then (1 : Int) else fileF z1 z2 bs) = r1 at *
  generalize (if (decide (z1 ≠ 0) || decide (z2 ≠ 0) || decide (0 < bs.length)) then (1 : Int) else dirF es) = r2 at *
  generalize bs.length = n1 at *
  generalize es.length = n2 at *
  by_cases h0 : z0 = 0
  · rw [if_pos h0]
    subst h0
    go_enter Tryz.func93, Tryz.ntmps93
    go_wp2_with fail
    refine (HFR.out _).mono ?_
    rintro e w1 ⟨rfl, hb1⟩
    have HB1 : Hid (Below w.heap.size w w1) := (later1 _ _).trans (hb1.mono (by simp))
    clear hb1
    go_wp2
    go_ret
    exact ⟨rfl, HB1.out⟩
  · rw [if_neg h0]
    by_cases h1 : z0 = 1
    · rw [if_pos h1]
      subst h1
      go_enter Tryz.func93, Tryz.ntmps93
      go_wp2_with fail
      refine (HFI.out _ (later1 _ _)).mono ?_
      rintro e w1 ⟨rfl, hb1⟩
      have HB1 : Hid (Below w.heap.size w w1) := (later1 _ _).trans (hb1.mono (by simp))
      clear hb1
      go_wp2
      go_ret
      exact ⟨rfl, HB1.out⟩
    · rw [if_neg h1]
      by_cases h2 : z0 = 2
      · rw [if_pos h2]
        subst h2
        go_enter Tryz.func93, Tryz.ntmps93
        go_wp2_with fail
        refine (HDI.out _ (later1 _ _)).mono ?_
        rintro e w1 ⟨rfl, hb1⟩
        have HB1 : Hid (Below w.heap.size w w1) := (later1 _ _).trans (hb1.mono (by simp))
        clear hb1
        go_wp2
        go_ret
        exact ⟨rfl, HB1.out⟩
      · rw [if_neg h2]
        have g0 : (z0 == 0) = false := by simpa using h0
        have g1 : (z0 == 1) = false := by simpa using h1
        have g2 : (z0 == 2) = false := by simpa using h2
        go_enter Tryz.func93, Tryz.ntmps93
        go_wp2
        go_ret
        exact ⟨rfl, later1 _ _⟩
end Go.Proofs.YtjabimfinanjoaaGreat

namespace Go.Proofs.YtjabimfinanjoaaGreat
open Go.RowKit
set_option maxRecDepth 100000

/-- Answers that are a code and words. -/
def AnsIR (w : World) (r : Int × List Int) (e : Ending) (w' : World) : Prop := ∃ a n c, e = .returned (.agg #[.int .i64 r.1, .slice a n c]) ∧ Below w.heap.size w w' ∧ IntsO w' (.slice a n c) r.2 (fresh w w')

end Go.Proofs.YtjabimfinanjoaaGreat

namespace Go.Proofs.YtjabimfinanjoaaGreat
open Go.RowKit
set_option maxRecDepth 100000

theorem AnsIR.box {w w2 : World} {a : Option Addr} {n c : Nat} {zs : List Int} (hb : Below w.heap.size w w2) (ho : IntsO w2 (.slice a n c) zs (fun b => w.heap.size + 1 ≤ b ∧ b < w2.heap.size)) (x y : Value) :
    AnsIR w (0, zs) (.returned (.agg #[.int .i64 0, .slice a n c])) ((w2.setCell ⟨w.heap.size, 0, none⟩ x).setCell ⟨w.heap.size, 1, none⟩ y) := by
  refine ⟨_, _, _, rfl, (hb.setCell (by simp) _).setCell (by simp) _, (ho.keep fun b hb hlt => ?_).mono fun b hb => ⟨by omega, by simp only [World.setCell, Array.size_modify]; exact hb.2⟩⟩
  rw [Below.heap_setCell _ _ _ _ (by simp; omega), Below.heap_setCell _ _ _ _ (by simp; omega)]
theorem AnsIR.bad {w w2 : World} (r : Int) (hb : Below w.heap.size w w2) (x y : Value) :
    AnsIR w (r, []) (.returned (.agg #[.int .i64 r, .slice none 0 0])) ((w2.setCell ⟨w.heap.size, 0, none⟩ x).setCell ⟨w.heap.size, 1, none⟩ y) :=
  ⟨_, _, _, rfl, (hb.setCell (by simp) _).setCell (by simp) _, Or.inl ⟨rfl, _, _, rfl⟩⟩
/-- The result's box, made first. -/
theorem box2 (w : World) (t : TypeId) : OwnRow (w.alloc (.cells #[.int .i64 0, .slice none 0 0] t)) w.heap.size 2 (fun i => if i = 0 then .int .i64 0 else .slice none 0 0) := OwnRow.newS w (.int .i64 0) (.slice none 0 0) t
theorem Wds.box {w W w2 : World} {a : Option Addr} {n c : Nat} {zs : List Int} (hW : W.heap.size = w.heap.size + 1) (h : Wds w2 W.heap.size (.slice a n c) zs) : IntsO w2 (.slice a n c) zs (fun b => w.heap.size + 1 ≤ b ∧ b < w2.heap.size) :=
  (h.own' (w0 := W) (Nat.le_refl _)).mono fun b hb => ⟨by have := hb.1; omega, hb.2⟩

end Go.Proofs.YtjabimfinanjoaaGreat

namespace Go.Proofs.YtjabimfinanjoaaGreat
open Go.RowKit
set_option maxRecDepth 100000

/-- The same, and the list is no longer than its room. -/
def AnsIC (w : World) (r : Int × List Int) (e : Ending) (w' : World) : Prop := AnsIR w r e w' ∧ ∀ x a n c, e = .returned (.agg #[x, .slice a n c]) → n ≤ c
theorem AnsIC.mk {w w' : World} {r : Int × List Int} {x : Value} {a : Option Addr} {n c : Nat} (h : AnsIR w r (.returned (.agg #[x, .slice a n c])) w') (hc : n ≤ c) : AnsIC w r (.returned (.agg #[x, .slice a n c])) w' :=
  ⟨h, fun x' a' n' c' e => by
    simp only [Ending.returned.injEq, Value.agg.injEq, Array.mk.injEq, List.cons.injEq, Value.slice.injEq, and_true] at e
    omega⟩
theorem slice_takeI (a : Option Addr) (n c j : Nat) (hj : j ≤ c) :
    ∃ A C, j ≤ C ∧ (∀ W : World, (Instr.slice 27 (.slice a n c) none (some (.int .i64 (j : Int))) none).run Tryz.prog W = .ok (.slice A j C) W) ∧ ∀ (W : World) (zs : List Int) (F : Nat → Prop), j ≤ zs.length → IntsO W (.slice a n c) zs F → IntsO W (.slice A j C) (zs.take j) F := by
  obtain ⟨i, hi, _⟩ := Tryz.infoInt'
  refine ⟨if c = 0 then a else a.map (·.add (0 * 1)), c - 0, by omega, fun W => ?_, fun W zs F hjn h => ?_⟩
  · simp [Instr.slice, Instr.sliceBounds, Instr.sliceBound, asIntOf, run_underlying Tryz.underlying27, sizeOf, typeInfo, hi, hj]
  · by_cases hj0 : j = 0
    · subst hj0
      exact Or.inl ⟨by simp, _, _, rfl⟩
    · rw [if_neg (by omega)]
      rcases h with ⟨h, _⟩ | ⟨b, cap, hF, h1, h2, h3⟩
      · subst h; simp at hjn; omega
      · simp only [Value.slice.injEq] at h1
        obtain ⟨rfl, rfl, rfl⟩ := h1
        have hl : (zs.take j).length = j := by rw [List.length_take]; omega
        refine Or.inr ⟨b, c - 0, hF, by rw [hl]; simp [Addr.add], by rw [hl]; omega, ?_⟩
        obtain ⟨cs, t, hb, hn, hc⟩ := h3
        refine ⟨cs, t, hb, by rw [hl]; omega, fun k hk => ?_⟩
        rw [hl] at hk
        rw [hc k (by omega)]
        dsimp only
        rw [List.getElem?_take, if_pos hk]
theorem Wds.cap {w : World} {n₀ : Nat} {a : Option Addr} {n c : Nat} {zs : List Int} (h : Wds w n₀ (.slice a n c) zs) : n ≤ c := by
  rcases h.2 with ⟨e, h0⟩ | ⟨g, cap, cur, e, _, _, hnc, _⟩
  · simp only [Value.slice.injEq] at e; omega
  · simp only [Value.slice.injEq] at e; omega

set_option maxHeartbeats 3200000 in
theorem specPickC (w : World) (a : Option Addr) (n c : Nat) (ds : List ID) (a' : Option Addr) (n' c' : Nat) (bs : List Int) (k : Int) (h : Inos w (.slice a n c) ds) (h' : Ints w (.slice a' n' c') bs) (hs : sizeInos ds ≤ 1048576) (_ : bs.length ≤ 1048576) :
    Calls Tryz.prog 41 #[.slice a n c, .slice a' n' c', .int .i64 k] w (AnsIC w (pickR ds bs k)) := by
  have HF : Hid (∀ W, Below w.heap.size w W → Calls Tryz.prog 62 #[.slice a n c, .slice a' n' c'] W fun e w' => e = .returned (.int .i64 (askF ds bs)) ∧ ∃ m, w' = W.drewN m) := fun W hW => l5Asked_any (h.later hW) (h'.later hW)
  have HU : Hid (∀ W, Below w.heap.size w W → Calls Tryz.prog 63 #[.slice a n c, .slice a' n' c'] W fun e w' => ∃ a c, e = .returned (.slice a (selL (freeP ds bs) 20).length c) ∧ Below W.heap.size W w' ∧ Wds w' W.heap.size (.slice a (selL (freeP ds bs) 20).length c) (selL (freeP ds bs) 20)) := fun W hW => l5Free_any (h.later hW) (h'.later hW) hs
  have HR : Hid (pickR ds bs k = if askF ds bs = 0 then (if 0 ≤ k ∧ k ≤ 4 then (if ((selL (freeP ds bs) 20).length : Int) < k then (8, []) else (0, (selL (freeP ds bs) 20).take k.toNat)) else (3, [])) else (askF ds bs, [])) := rfl
  rw [HR.out]
  have hl20 := selL_len (freeP ds bs) 20
  clear HR h hs h'
  generalize askF ds bs = r at *
  generalize selL (freeP ds bs) 20 = zs at *
  have HRB : Hid (OwnRow (w.alloc (.cells #[.int .i64 0, .slice none 0 0] 60)) w.heap.size 2 (fun i => if i = 0 then .int .i64 0 else .slice none 0 0)) := box2 w _
  have HB0 : Hid (Below w.heap.size w (w.alloc (.cells #[.int .i64 0, .slice none 0 0] 60))) := later1 _ _
  have hwz : (w.alloc (.cells #[.int .i64 0, .slice none 0 0] 60)).heap.size = w.heap.size + 1 := by simp
  by_cases hf : r = 0
  · rw [if_pos hf]
    subst hf
    by_cases hk : 0 ≤ k ∧ k ≤ 4
    · rw [if_pos hk]
      have HK : Hid (decide (0 ≤ k ∧ k ≤ 4) = true) := by unfold Hid; simpa using hk
      obtain ⟨j, hj⟩ := Int.eq_ofNat_of_zero_le hk.1
      subst hj
      have hj4 : j ≤ 4 := by omega
      clear hk
      by_cases hlt : ((zs.length : Nat) : Int) < (j : Int)
      · rw [if_pos hlt]
        have hltd : decide (((zs.length : Nat) : Int) < (j : Int)) = true := by simpa using hlt
        have hltd' : decide (zs.length < j) = true := by simpa using hlt
        clear hlt
        go_enter Tryz.func41, Tryz.ntmps41
        go_wp2_with fail
        generalize hW : w.alloc (Obj.cells #[.int .i64 0, .slice none 0 0] 60) = W at *
        clear hW
        refine (HF.out _ HB0.out).mono ?_
        rintro e w1 ⟨rfl, m, rfl⟩
        go_wp2_with fail
        refine (l1In_is HK.out).mono ?_
        rintro e w1 ⟨rfl, rfl⟩
        go_wp2_with fail
        refine (HU.out _ (below_drewN HB0.out m)).mono ?_
        rintro e w2 ⟨aV, cV, rfl, hb2, hw2⟩
        have HB2 : Hid (Below w.heap.size w w2) := (below_drewN HB0.out m).trans (hb2.mono (below_drewN HB0.out m).size)
        have hrow : OwnRow w2 w.heap.size 2 (fun i => if i = 0 then .int .i64 0 else .slice none 0 0) := OwnRow.later (w := W.drewN m) HRB.out hb2
        have t0 := hrow.cell (i := 0) (by omega)
        have t1 := hrow.cell (i := 1) (by omega)
        have s0 := hrow.frozen 0
        have s1 := hrow.frozen 1
        simp at t0 t1
        have hz2 := hrow.lt
        clear hb2 hw2 hrow
        go_wp2
        exact bodyPost_ret (v := .agg #[.int .i64 8, .slice none 0 0]) (by simp [results, Tryz.results41, go_sem, t0, t1]) rfl (AnsIC.mk (AnsIR.bad 8 HB2.out _ _) (Nat.le_refl _))
      · rw [if_neg hlt]
        have hltd : decide (((zs.length : Nat) : Int) < (j : Int)) = false := by simpa using hlt
        have hltd' : decide (zs.length < j) = false := by simpa using hlt
        have hjz : j ≤ zs.length := by omega
        rw [Int.toNat_natCast]
        clear hlt
        go_enter Tryz.func41, Tryz.ntmps41
        go_wp2_with fail
        generalize hW : w.alloc (Obj.cells #[.int .i64 0, .slice none 0 0] 60) = W at *
        clear hW
        refine (HF.out _ HB0.out).mono ?_
        rintro e w1 ⟨rfl, m, rfl⟩
        go_wp2_with fail
        refine (l1In_is HK.out).mono ?_
        rintro e w1 ⟨rfl, rfl⟩
        go_wp2_with fail
        refine (HU.out _ (below_drewN HB0.out m)).mono ?_
        rintro e w2 ⟨aV, cV, rfl, hb2, hw2⟩
        have HB2 : Hid (Below w.heap.size w w2) := (below_drewN HB0.out m).trans (hb2.mono (below_drewN HB0.out m).size)
        have hrow : OwnRow w2 w.heap.size 2 (fun i => if i = 0 then .int .i64 0 else .slice none 0 0) := OwnRow.later (w := W.drewN m) HRB.out hb2
        obtain ⟨A, C, hjC, hsl, hown⟩ := slice_takeI aV zs.length cV j (by have := hw2.cap; omega)
        have HI : Hid (IntsO w2 (.slice A j C) (zs.take j) (fun b => w.heap.size + 1 ≤ b ∧ b < w2.heap.size)) := hown w2 zs _ hjz (hw2.box (W := W.drewN m) hwz)
        have t0 := hrow.cell (i := 0) (by omega)
        have t1 := hrow.cell (i := 1) (by omega)
        have s0 := hrow.frozen 0
        have s1 := hrow.frozen 1
        simp at t0 t1
        have hz2 := hrow.lt
        have HJC : Hid (j ≤ C) := hjC
        clear hb2 hw2 hrow hown hjC
        go_wp2
        exact bodyPost_ret (v := .agg #[.int .i64 0, .slice A j C]) (by simp [results, Tryz.results41, go_sem, t0, t1]) rfl (AnsIC.mk (AnsIR.box HB2.out HI.out _ _) HJC.out)
    · rw [if_neg hk]
      have HK : Hid (decide (0 ≤ k ∧ k ≤ 4) = false) := by unfold Hid; simpa using hk
      clear hk
      go_enter Tryz.func41, Tryz.ntmps41
      go_wp2_with fail
      generalize hW : w.alloc (Obj.cells #[.int .i64 0, .slice none 0 0] 60) = W at *
      clear hW
      refine (HF.out _ HB0.out).mono ?_
      rintro e w1 ⟨rfl, m, rfl⟩
      go_wp2_with fail
      refine (l1In_is HK.out).mono ?_
      rintro e w1 ⟨rfl, rfl⟩
      have t0 := HRB.out.cell (i := 0) (by omega)
      have t1 := HRB.out.cell (i := 1) (by omega)
      have s0 := HRB.out.frozen 0
      have s1 := HRB.out.frozen 1
      simp at t0 t1
      go_wp2
      exact bodyPost_ret (v := .agg #[.int .i64 3, .slice none 0 0]) (by simp [results, Tryz.results41, go_sem, t0, t1]) rfl (AnsIC.mk (AnsIR.bad 3 (below_drewN HB0.out m) _ _) (Nat.le_refl _))
  · rw [if_neg hf]
    have hr : (r != 0) = true := by simpa using hf
    go_enter Tryz.func41, Tryz.ntmps41
    go_wp2_with fail
    generalize hW : w.alloc (Obj.cells #[.int .i64 0, .slice none 0 0] 60) = W at *
    clear hW
    refine (HF.out _ HB0.out).mono ?_
    rintro e w1 ⟨rfl, m, rfl⟩
    have t0 := HRB.out.cell (i := 0) (by omega)
    have t1 := HRB.out.cell (i := 1) (by omega)
    have s0 := HRB.out.frozen 0
    have s1 := HRB.out.frozen 1
    simp at t0 t1
    go_wp2
    exact bodyPost_ret (v := .agg #[.int .i64 r, .slice none 0 0]) (by simp [results, Tryz.results41, go_sem, t0, t1]) rfl (AnsIC.mk (AnsIR.bad r (below_drewN HB0.out m) _ _) (Nat.le_refl _))
theorem specPickU (w : World) (a : Option Addr) (n c : Nat) (ds : List ID) (a' : Option Addr) (n' c' : Nat) (bs : List Int) (k : Int) (h : Inos w (.slice a n c) ds) (h' : Ints w (.slice a' n' c') bs) (hs : sizeInos ds ≤ 1048576) (hbl : bs.length ≤ 1048576) :
    Calls Tryz.prog 41 #[.slice a n c, .slice a' n' c', .int .i64 k] w (AnsIR w (pickR ds bs k)) :=
  (specPickC w a n c ds a' n' c' bs k h h' hs hbl).mono fun _ _ h => h.1
end Go.Proofs.YtjabimfinanjoaaGreat

namespace Go.Proofs.YtjabimfinanjoaaGreat
open Go.RowKit
set_option maxRecDepth 100000

/-- An inode marked from N on. -/
def mkI (N : Nat) (d : ID) : ID := (((N : Nat) : Int), ((N : Nat) : Int) + 1, ((N : Nat) : Int) + 1 + 1, marks (((N : Nat) : Int) + 1 + 1 + 1) d.2.2.2.1.length, marksN (N + 3 + d.2.2.2.1.length) d.2.2.2.2.length)
def mkIns (k : Nat) (ds : List ID) : List ID := (List.range ds.length).map fun i => mkI (inum k ds i) (ds[i]?.getD id0)
theorem mkIns_length (k : Nat) (ds : List ID) : (mkIns k ds).length = ds.length := by simp [mkIns]
theorem mkIns_get (k : Nat) (ds : List ID) {i : Nat} (hi : i < ds.length) : (mkIns k ds)[i]?.getD id0 = mkI (inum k ds i) (ds[i]?.getD id0) := by
  unfold mkIns; rw [List.getElem?_map, List.getElem?_range hi]; rfl
theorem inum_next (k : Nat) (ds : List ID) (hk : k + spanInos ds ≤ 4294967296) (j : Nat) (hj : j < ds.length) : inum k ds j + 3 + (ds[j]?.getD id0).2.2.2.1.length + 2 * (ds[j]?.getD id0).2.2.2.2.length = inum k ds (j + 1) ∧ inum k ds (j + 1) ≤ 4294967296 := by
  have h1 := upto_succ (isp ds) j (by rw [isp_length]; omega)
  rw [isp_get ds j hj] at h1
  have h2 := upto_le (isp ds) (j + 1)
  have h3 : spanIno (ds[j]?.getD id0) = (ds[j]?.getD id0).2.2.2.1.length + 2 * (ds[j]?.getD id0).2.2.2.2.length := rfl
  have h4 : spanInos ds = (isp ds).sum := rfl
  unfold inum
  omega
theorem inum_all (k : Nat) (ds : List ID) : inum k ds ds.length = k + spanInos ds := by
  have := upto_all (isp ds)
  rw [isp_length] at this
  unfold inum spanInos
  rw [this]

set_option maxHeartbeats 3200000 in
theorem heldInos_walk (w : World) (a : Option Addr) (cap n k : Nat) (ds : List ID) (hn : ds.length = n) (hk0 : 1 ≤ k) (hk : k + spanInos ds ≤ 4294967296) (hn2 : n ≤ 9223372036854775807) (hc : AtI w a n (mkIns k ds)) :
    Calls Tryz.prog 56 #[.slice a n cap, .int .i64 (k : Int)] w fun e w' => e = .returned (.int .i64 ((k + spanInos ds : Nat) : Int)) ∧ Below w.heap.size w w' := by
  have HC : Hid (∀ j, j < n → ∃ b o, a = some ⟨b, o, none⟩ ∧ InoAt w b (o + j * 5) (mkI (inum k ds j) (ds[j]?.getD id0))) := fun j hj => by
    obtain ⟨b, o, e, h⟩ := hc j hj
    rw [mkIns_get k ds (by omega)] at h
    exact ⟨b, o, e, h⟩
  have HBD : Hid (∀ j, j < n → inum k ds j + 3 + (ds[j]?.getD id0).2.2.2.1.length + 2 * (ds[j]?.getD id0).2.2.2.2.length = inum k ds (j + 1) ∧ inum k ds (j + 1) ≤ 4294967296) := fun j hj => inum_next k ds hk j (by omega)
  have HE : Hid (inum k ds n = k + spanInos ds) := by unfold Hid; rw [← hn]; exact inum_all k ds
  have HI0 : Hid (inum k ds 0 = k) := by unfold Hid inum; rw [upto_zero, Nat.add_zero]
  have HK1 : Hid (∀ j, 1 ≤ inum k ds j) := fun j => by unfold inum; omega
  rw [← HE.out]
  clear hc hn hk HE
  generalize inum k ds = N at *
  go_enter Tryz.func56, Tryz.ntmps56
  go_wp2
  go_loopw [1, 5] (fun q i wr => ∃ j : Nat, j ≤ n ∧ i = .int .i64 j ∧ q = .int .i64 ((N j : Nat) : Int) ∧ Below w.heap.size w wr) (fun _ i _ => n - (intOf i).toNat)
  case atStart => exact ⟨0, Nat.zero_le _, rfl, by rw [HI0.out], Below.refl _ _⟩
  case round =>
    obtain ⟨j, hj, rfl, rfl, hbl⟩ := hrel
    have HBL : Hid (Below w.heap.size w wr) := hbl
    clear hbl
    by_cases hlt : j < n
    · obtain ⟨b, o, rfl, hI⟩ := HC.out j hlt
      obtain ⟨aB, cB, aE, cE, c0, c1, c2, c3, c4, h5⟩ := hI
      obtain ⟨hs, hle⟩ := HBD.out j hlt
      have hN1 := HK1.out j
      have HSN : Hid (N j + 3 + (ds[j]?.getD id0).2.2.2.1.length + 2 * (ds[j]?.getD id0).2.2.2.2.length = N (j + 1)) := hs
      have HI : Hid (Ints w (.slice aB (marks (((N j : Nat) : Int) + 1 + 1 + 1) (ds[j]?.getD id0).2.2.2.1.length).length cB) (marks (((N j : Nat) : Int) + 1 + 1 + 1) (ds[j]?.getD id0).2.2.2.1.length)) := h5.2.1
      have HEN : Hid (Ents w (.slice aE (marksN (N j + 3 + (ds[j]?.getD id0).2.2.2.1.length) (ds[j]?.getD id0).2.2.2.2.length).length cE) (marksN (N j + 3 + (ds[j]?.getD id0).2.2.2.1.length) (ds[j]?.getD id0).2.2.2.2.length)) := h5.2.2
      have g0 : wr.cell? ⟨b, o + j * 5, none⟩ = some (.int .i64 ((N j : Nat) : Int)) := cell_later HBL.out c0
      have g1 : wr.cell? ⟨b, o + j * 5 + 1, none⟩ = some (.int .i64 (((N j : Nat) : Int) + 1)) := cell_later HBL.out c1
      have g2 : wr.cell? ⟨b, o + j * 5 + 2, none⟩ = some (.int .i64 (((N j : Nat) : Int) + 1 + 1)) := cell_later HBL.out c2
      have g3 : wr.cell? ⟨b, o + j * 5 + 3, none⟩ = some (.slice aB (marks (((N j : Nat) : Int) + 1 + 1 + 1) (ds[j]?.getD id0).2.2.2.1.length).length cB) := cell_later HBL.out c3
      have g4 : w.cell? ⟨b, o + j * 5 + 4, none⟩ = some (.slice aE (marksN (N j + 3 + (ds[j]?.getD id0).2.2.2.1.length) (ds[j]?.getD id0).2.2.2.2.length).length cE) := c4
      clear h5 c0 c1 c2 c3 c4 hs
      generalize (ds[j]?.getD id0).2.2.2.1.length = lB at *
      generalize (ds[j]?.getD id0).2.2.2.2.length = lE at *
      have hx0 : (((N j : Nat) : Int) != ((N j : Nat) : Int)) = false := by simp
      have hx1 : (((N j : Nat) : Int) + 1 != ((N j : Nat) : Int) + 1) = false := by simp
      have hx2 : (((N j : Nat) : Int) + 1 + 1 != ((N j : Nat) : Int) + 1 + 1) = false := by simp
      have hNb : N j + 3 + lB + 2 * lE ≤ 4294967296 := by have := HSN.out; omega
      go_wp2_with fail
      refine (heldInts_any (((N j : Nat) : Int) + 1 + 1 + 1) lB (HI.out.later HBL.out) (by omega) (by omega)).mono ?_
      rintro e w1 ⟨rfl, hw1⟩
      have HB1 : Hid (Below w.heap.size w w1) := by first | (subst hw1; exact HBL.out) | exact HBL.out.trans (hw1.mono HBL.out.size)
      have hq : ((N j : Nat) : Int) + 1 + 1 + 1 + (lB : Int) = ((N j + 3 + lB : Nat) : Int) := by omega
      rw [hq]
      have g4' := cell_later HB1.out g4
      have hp : ¬ ((N j + 3 + lB : Nat) : Int) < 0 := by omega
      have hq1 : 1 ≤ N j + 3 + lB := by omega
      clear hq hw1 g0 g1 g2 g3
      generalize N j + 3 + lB = q at *
      go_wp2_with fail
      refine (heldEntsU q lE (HEN.out.later HB1.out) (by omega) (by omega)).mono ?_
      rintro e w2 ⟨rfl, hw2⟩
      have HB2 : Hid (Below w.heap.size w w2) := by first | (subst hw2; exact HB1.out) | exact HB1.out.trans (hw2.mono HB1.out.size)
      have HQ : Hid (((q + 2 * lE : Nat) : Int) = ((N (j + 1) : Nat) : Int)) := by unfold Hid; rw [HSN.out]
      have hp2 : ¬ ((q + 2 * lE : Nat) : Int) < 0 := by omega
      clear hw2 g4 g4'
      rw [HQ.out] at hp2 ⊢
      go_wp2
      go_roundw
      case rel => exact ⟨j + 1, by omega, by go_num, rfl, HB2.out⟩
      case measure => simp [intOf]; omega
    · have HJ : Hid (N j = N n) := by unfold Hid; rw [show j = n by omega]
      go_wp2
      go_ret
      exact ⟨ret_int (by rw [HJ.out]), HBL.out⟩

/-- The list of which the first j are marked. -/
def halfI (k : Nat) (ds : List ID) (j : Nat) : List ID := (List.range ds.length).map fun i => if i < j then mkI (inum k ds i) (ds[i]?.getD id0) else ds[i]?.getD id0
theorem halfI_length (k : Nat) (ds : List ID) (j : Nat) : (halfI k ds j).length = ds.length := by simp [halfI]
theorem halfI_get (k : Nat) (ds : List ID) (j : Nat) {i : Nat} (hi : i < ds.length) : (halfI k ds j)[i]?.getD id0 = if i < j then mkI (inum k ds i) (ds[i]?.getD id0) else ds[i]?.getD id0 := by
  unfold halfI; rw [List.getElem?_map, List.getElem?_range hi]; rfl
theorem halfI_zero (k : Nat) (ds : List ID) : halfI k ds 0 = ds := by
  apply List.ext_getElem?
  intro i
  unfold halfI
  rw [List.getElem?_map]
  by_cases hi : i < ds.length
  · rw [List.getElem?_range hi]; simp [List.getElem?_eq_getElem hi]
  · rw [List.getElem?_eq_none (by simpa using Nat.le_of_not_lt hi), List.getElem?_eq_none (by omega)]; rfl
theorem halfI_all (k : Nat) (ds : List ID) : halfI k ds ds.length = mkIns k ds := by
  unfold halfI mkIns
  apply List.map_congr_left
  intro i hi
  rw [if_pos (List.mem_range.1 hi)]
structure HalfM (w : World) (b n : Nat) (cs : List ID) (u : Nat → Value × Value) (F1 G1 : Nat → Nat → Prop) : Prop where
  row : OwnRow w b (n * 5) (inCell cs u)
  ints : ∀ i, i < n → IntsO w (u i).1 (cs[i]?.getD id0).2.2.2.1 (F1 i)
  ents : ∀ i, i < n → EntsO w (u i).2 (cs[i]?.getD id0).2.2.2.2 (G1 i)
/-- Three cells of one inode turned. -/
theorem inCell_three (cs cs' : List ID) (u : Nat → Value × Value) (j : Nat) (x0 x1 x2 : Int) (h0 : ∀ i, i ≠ j → (cs'[i]?.getD id0) = (cs[i]?.getD id0)) (e0 : (cs'[j]?.getD id0).1 = x0) (e1 : (cs'[j]?.getD id0).2.1 = x1) (e2 : (cs'[j]?.getD id0).2.2.1 = x2) (c : Nat) :
    (if c = j * 5 + 2 then .int .i64 x2 else if c = j * 5 + 1 then .int .i64 x1 else if c = j * 5 then .int .i64 x0 else inCell cs u c) = inCell cs' u c := by
  by_cases hj : c / 5 = j
  · unfold inCell
    rw [hj, e0, e1, e2]
    by_cases h0 : c % 5 = 0
    · rw [if_neg (by omega), if_neg (by omega), if_pos (by omega), if_pos h0]
    · by_cases h1 : c % 5 = 1
      · rw [if_neg (by omega), if_pos (by omega), if_neg h0, if_pos h1]
      · by_cases h2 : c % 5 = 2
        · rw [if_pos (by omega), if_neg h0, if_neg h1, if_pos h2]
        · rw [if_neg (by omega), if_neg (by omega), if_neg (by omega), if_neg h0, if_neg h1, if_neg h2, if_neg h0, if_neg h1, if_neg h2]
  · rw [if_neg (by omega), if_neg (by omega), if_neg (by omega)]
    unfold inCell
    rw [h0 _ hj]

set_option maxHeartbeats 6400000 in
theorem markInosM_walk (w : World) (b cap n k : Nat) (F : Nat → Prop) (ds : List ID) (u : Nat → Value × Value) (F1 G1 : Nat → Nat → Prop) (hF : F b) (hFF : ∀ i c, F1 i c → F c ∧ c ≠ b) (hGF : ∀ i c, G1 i c → F c ∧ c ≠ b) (hFG : ∀ i j c, F1 i c → ¬ G1 j c) (hFd : ∀ i j c, i ≠ j → F1 i c → ¬ F1 j c) (hGd : ∀ i j c, i ≠ j → G1 i c → ¬ G1 j c)
    (hn : ds.length = n) (hk0 : 1 ≤ k) (hk : k + spanInos ds ≤ 4294967296) (hn2 : n ≤ 9223372036854775807) (h0 : HalfM w b n ds u F1 G1) :
    Calls Tryz.prog 33 #[.slice (some ⟨b, 0, none⟩) n cap, .int .i64 (k : Int)] w fun e w' => e = .returned (.int .i64 ((k + spanInos ds : Nat) : Int)) ∧ HalfM w' b n (mkIns k ds) u F1 G1 ∧ Chg F w w' := by
  have H0 : Hid (HalfM w b n (halfI k ds 0) u F1 G1) := by unfold Hid; rw [halfI_zero]; exact h0
  have HF : Hid (F b) := hF
  have HFF : Hid (∀ i c, F1 i c → F c ∧ c ≠ b) := hFF
  have HGF : Hid (∀ i c, G1 i c → F c ∧ c ≠ b) := hGF
  have HFG : Hid (∀ i j c, F1 i c → ¬ G1 j c) := hFG
  have HFD : Hid (∀ i j c, i ≠ j → F1 i c → ¬ F1 j c) := hFd
  have HGD : Hid (∀ i j c, i ≠ j → G1 i c → ¬ G1 j c) := hGd
  have HBD : Hid (∀ j, j < n → inum k ds j + 3 + (ds[j]?.getD id0).2.2.2.1.length + 2 * (ds[j]?.getD id0).2.2.2.2.length = inum k ds (j + 1) ∧ inum k ds (j + 1) ≤ 4294967296) := fun j hj => inum_next k ds hk j (by omega)
  have HE : Hid (inum k ds n = k + spanInos ds) := by unfold Hid; rw [← hn]; exact inum_all k ds
  have HEL : Hid (halfI k ds n = mkIns k ds) := by unfold Hid; rw [← hn]; exact halfI_all k ds
  have HI0 : Hid (inum k ds 0 = k) := by unfold Hid inum; rw [upto_zero, Nat.add_zero]
  have HK1 : Hid (∀ j, 1 ≤ inum k ds j) := fun j => by unfold inum; omega
  have HGT : Hid (∀ j i, i < n → (halfI k ds j)[i]?.getD id0 = if i < j then mkI (inum k ds i) (ds[i]?.getD id0) else ds[i]?.getD id0) := fun j i hi => halfI_get k ds j (by omega)
  have HGO : Hid (∀ j i, i ≠ j → (halfI k ds (j + 1))[i]?.getD id0 = (halfI k ds j)[i]?.getD id0) := fun j i hij => by
    by_cases hi : i < ds.length
    · rw [halfI_get _ _ _ hi, halfI_get _ _ _ hi]
      by_cases e : i < j
      · rw [if_pos e, if_pos (by omega)]
      · rw [if_neg e, if_neg (by omega)]
    · rw [List.getElem?_eq_none (by rw [halfI_length]; omega), List.getElem?_eq_none (by rw [halfI_length]; omega)]
  rw [← HE.out, ← HEL.out]
  clear h0 hF hFF hGF hFG hFd hGd hn hk HE HEL
  generalize inum k ds = N at *
  generalize halfI k ds = CS at *
  go_enter Tryz.func33, Tryz.ntmps33
  go_wp2
  go_loopw [1, 5] (fun q i wr => ∃ j : Nat, j ≤ n ∧ i = .int .i64 j ∧ q = .int .i64 ((N j : Nat) : Int) ∧ HalfM wr b n (CS j) u F1 G1 ∧ Chg F w wr) (fun _ i _ => n - (intOf i).toNat)
  case atStart => exact ⟨0, Nat.zero_le _, rfl, by rw [HI0.out], H0.out, Chg.refl _ _⟩
  case round =>
    obtain ⟨j, hj, rfl, rfl, hh, hch⟩ := hrel
    have HH : Hid (HalfM wr b n (CS j) u F1 G1) := hh
    have HCH : Hid (Chg F w wr) := hch
    clear hh hch H0
    by_cases hlt : j < n
    · obtain ⟨hs, hle⟩ := HBD.out j hlt
      have hN1 := HK1.out j
      have hNb : N j + 3 ≤ 4294967296 := by omega
      have HSN : Hid (N j + 3 + (ds[j]?.getD id0).2.2.2.1.length + 2 * (ds[j]?.getD id0).2.2.2.2.length = N (j + 1)) := hs
      have hgj : (CS j)[j]?.getD id0 = ds[j]?.getD id0 := by rw [HGT.out j j hlt, if_neg (by omega)]
      have hgj' : (CS (j + 1))[j]?.getD id0 = mkI (N j) (ds[j]?.getD id0) := by rw [HGT.out (j + 1) j hlt, if_pos (by omega)]
      have HGJ : Hid ((CS (j + 1))[j]?.getD id0 = mkI (N j) (ds[j]?.getD id0)) := hgj'
      have hr := HH.out.row
      have c0 := hr.cell (i := j * 5) (by omega)
      have c1 := hr.cell (i := j * 5 + 1) (by omega)
      have c2 := hr.cell (i := j * 5 + 2) (by omega)
      have c3 := hr.cell (i := j * 5 + 3) (by omega)
      have c4 := hr.cell (i := j * 5 + 4) (by omega)
      rw [inCell_0] at c0
      rw [inCell_1] at c1
      rw [inCell_2] at c2
      rw [inCell_3] at c3
      rw [inCell_4] at c4
      have f0 := hr.frozen (j * 5)
      have f1 := hr.frozen (j * 5 + 1)
      have f2 := hr.frozen (j * 5 + 2)
      have hbw := hr.lt
      have HR3 : Hid (OwnRow (((wr.setCell ⟨b, j * 5, none⟩ (.int .i64 ((N j : Nat) : Int))).setCell ⟨b, j * 5 + 1, none⟩ (.int .i64 (((N j : Nat) : Int) + 1))).setCell ⟨b, j * 5 + 2, none⟩ (.int .i64 (((N j : Nat) : Int) + 1 + 1))) b (n * 5) (inCell (CS (j + 1)) u)) := by
        have := ((hr.set (j * 5) (.int .i64 ((N j : Nat) : Int))).set (j * 5 + 1) (.int .i64 (((N j : Nat) : Int) + 1))).set (j * 5 + 2) (.int .i64 (((N j : Nat) : Int) + 1 + 1))
        exact this.congr fun c _ => inCell_three (CS j) (CS (j + 1)) u j _ _ _ (HGO.out j) (by rw [hgj']; rfl) (by rw [hgj']; rfl) (by rw [hgj']; rfl) c
      have hset : ∀ c, c ≠ b → (((wr.setCell ⟨b, j * 5, none⟩ (.int .i64 ((N j : Nat) : Int))).setCell ⟨b, j * 5 + 1, none⟩ (.int .i64 (((N j : Nat) : Int) + 1))).setCell ⟨b, j * 5 + 2, none⟩ (.int .i64 (((N j : Nat) : Int) + 1 + 1))).heap[c]? = wr.heap[c]? := fun c hc => by
        rw [Below.heap_setCell _ _ _ _ hc, Below.heap_setCell _ _ _ _ hc, Below.heap_setCell _ _ _ _ hc]
      have HI3 : Hid (∀ i, i < n → IntsO (((wr.setCell ⟨b, j * 5, none⟩ (.int .i64 ((N j : Nat) : Int))).setCell ⟨b, j * 5 + 1, none⟩ (.int .i64 (((N j : Nat) : Int) + 1))).setCell ⟨b, j * 5 + 2, none⟩ (.int .i64 (((N j : Nat) : Int) + 1 + 1))) (u i).1 ((CS j)[i]?.getD id0).2.2.2.1 (F1 i)) := fun i hi => (HH.out.ints i hi).keep fun c hc _ => hset c (HFF.out i c hc).2
      have HE3 : Hid (∀ i, i < n → EntsO (((wr.setCell ⟨b, j * 5, none⟩ (.int .i64 ((N j : Nat) : Int))).setCell ⟨b, j * 5 + 1, none⟩ (.int .i64 (((N j : Nat) : Int) + 1))).setCell ⟨b, j * 5 + 2, none⟩ (.int .i64 (((N j : Nat) : Int) + 1 + 1))) (u i).2 ((CS j)[i]?.getD id0).2.2.2.2 (G1 i)) := fun i hi => (HH.out.ents i hi).keep fun c hc _ => hset c (HGF.out i c hc).2
      have HCH3 : Hid (Chg F w (((wr.setCell ⟨b, j * 5, none⟩ (.int .i64 ((N j : Nat) : Int))).setCell ⟨b, j * 5 + 1, none⟩ (.int .i64 (((N j : Nat) : Int) + 1))).setCell ⟨b, j * 5 + 2, none⟩ (.int .i64 (((N j : Nat) : Int) + 1 + 1)))) := ((HCH.out.set HF.out _ _).set HF.out _ _).set HF.out _ _
      have HIJ := HI3.out j hlt
      have HEJ := HE3.out j hlt
      rw [hgj] at HIJ HEJ c0 c1 c2
      obtain ⟨aB, cB, eB, _⟩ := HIJ.ints.shape
      obtain ⟨aE, cE, eE, _⟩ := HEJ.reads.open'
      have HEB : Hid ((u j).1 = .slice aB (ds[j]?.getD id0).2.2.2.1.length cB) := eB
      have HEE : Hid ((u j).2 = .slice aE (ds[j]?.getD id0).2.2.2.2.length cE) := eE
      rw [eB] at c3 HIJ
      rw [eE] at c4 HEJ
      have HIJ' : Hid (IntsO _ (.slice aB (ds[j]?.getD id0).2.2.2.1.length cB) (ds[j]?.getD id0).2.2.2.1 (F1 j)) := HIJ
      have HEJ' : Hid (EntsO _ (.slice aE (ds[j]?.getD id0).2.2.2.2.length cE) (ds[j]?.getD id0).2.2.2.2 (G1 j)) := HEJ
      clear HIJ HEJ eB eE hs hgj hgj' hset hr
      go_wp2_with fail
      clear c0 c1 c2 c3 c4 f0 f1 f2
      refine (markInts_any (((N j : Nat) : Int) + 1 + 1 + 1) HIJ'.out (by omega) (by have := HSN.out; omega)).mono ?_
      rintro e w1 ⟨rfl, hm1, hc1⟩
      have hr1 : OwnRow w1 b (n * 5) (inCell (CS (j + 1)) u) := HR3.out.block (hc1.block b HR3.out.lt (fun h => (HFF.out j b h).2 rfl))
      have c4 := hr1.cell (i := j * 5 + 4) (by omega)
      rw [inCell_4, HEE.out] at c4
      have HR1 : Hid (OwnRow w1 b (n * 5) (inCell (CS (j + 1)) u)) := hr1
      have HM1 : Hid (IntsO w1 (.slice aB (ds[j]?.getD id0).2.2.2.1.length cB) (marks (((N j : Nat) : Int) + 1 + 1 + 1) (ds[j]?.getD id0).2.2.2.1.length) (F1 j)) := hm1
      have HI1 : Hid (∀ i, i < n → i ≠ j → IntsO w1 (u i).1 ((CS j)[i]?.getD id0).2.2.2.1 (F1 i)) := fun i hi hij => (HI3.out i hi).keep fun c hc hl => hc1.block c hl (HFD.out i j c hij hc)
      have HE1 : Hid (∀ i, i < n → EntsO w1 (u i).2 ((CS j)[i]?.getD id0).2.2.2.2 (G1 i)) := fun i hi => (HE3.out i hi).keep fun c hc hl => hc1.block c hl (fun h => HFG.out j i c h hc)
      have HEJ1 : Hid (EntsO w1 (.slice aE (ds[j]?.getD id0).2.2.2.2.length cE) (ds[j]?.getD id0).2.2.2.2 (G1 j)) := HEJ'.out.keep fun c hc hl => hc1.block c hl (fun h => HFG.out j j c h hc)
      have HCH1 : Hid (Chg F w w1) := HCH3.out.trans (hc1.mono fun c hc => (HFF.out j c hc).1)
      have hq : ((N j : Nat) : Int) + 1 + 1 + 1 + ((ds[j]?.getD id0).2.2.2.1.length : Nat) = ((N j + 3 + (ds[j]?.getD id0).2.2.2.1.length : Nat) : Int) := by omega
      rw [hq]
      clear hq hm1 hc1 hr1 HI3 HE3 HCH3 HR3 HIJ' HEJ'
      go_wp2_with fail
      refine (markEntsU (N j + 3 + (ds[j]?.getD id0).2.2.2.1.length) HEJ1.out (by omega) (by have := HSN.out; omega)).mono ?_
      rintro e w2 ⟨rfl, hm2, hc2⟩
      have HQN : Hid (((N j + 3 + (ds[j]?.getD id0).2.2.2.1.length + 2 * (ds[j]?.getD id0).2.2.2.2.length : Nat) : Int) = ((N (j + 1) : Nat) : Int)) := by unfold Hid; rw [HSN.out]
      rw [HQN.out]
      have HH2 : Hid (HalfM w2 b n (CS (j + 1)) u F1 G1) := by
        refine ⟨HR1.out.block (hc2.block b HR1.out.lt (fun h => (HGF.out j b h).2 rfl)), fun i hi => ?_, fun i hi => ?_⟩
        · by_cases e : i = j
          · subst e
            rw [HGJ.out, HEB.out]
            exact HM1.out.keep fun c hc hl => hc2.block c hl (fun h => HFG.out i i c hc h)
          · rw [HGO.out j i e]
            exact (HI1.out i hi e).keep fun c hc hl => hc2.block c hl (fun h => HFG.out i j c hc h)
        · by_cases e : i = j
          · subst e
            rw [HGJ.out, HEE.out]
            exact hm2
          · rw [HGO.out j i e]
            exact (HE1.out i hi).keep fun c hc hl => hc2.block c hl (HGD.out i j c e hc)
      have HCH2 : Hid (Chg F w w2) := HCH1.out.trans (hc2.mono fun c hc => (HGF.out j c hc).1)
      clear hc2 hm2 c4 HR1 HM1 HI1 HE1 HEJ1 HCH1
      go_wp2
      go_roundw
      case rel => exact ⟨j + 1, by omega, by go_num, rfl, HH2.out, HCH2.out⟩
      case measure => simp [intOf]; omega
    · have HJ : Hid (j = n) := by unfold Hid; omega
      go_wp2
      go_ret
      exact ⟨ret_int (by rw [HJ.out]), by have := HH.out; rw [show CS j = CS n by rw [HJ.out]] at this; exact this, HCH.out⟩
end Go.Proofs.YtjabimfinanjoaaGreat

namespace Go.Proofs.YtjabimfinanjoaaGreat
open Go.RowKit
set_option maxRecDepth 100000

def ynum (k : Nat) (zss : List (List UInt8)) (j : Nat) : Nat := k + upto (ylens zss) j
def mkYs (k : Nat) (zss : List (List UInt8)) : List (List UInt8) := (List.range zss.length).map fun i => mkByt ((ynum k zss i : Nat) : Int) (zss[i]?.getD [])
theorem mkYs_length (k : Nat) (zss : List (List UInt8)) : (mkYs k zss).length = zss.length := by simp [mkYs]
theorem mkYs_get (k : Nat) (zss : List (List UInt8)) {i : Nat} (hi : i < zss.length) : (mkYs k zss)[i]?.getD [] = mkByt ((ynum k zss i : Nat) : Int) (zss[i]?.getD []) := by
  unfold mkYs; rw [List.getElem?_map, List.getElem?_range hi]; rfl
theorem ynum_next (k : Nat) (zss : List (List UInt8)) (j : Nat) (hj : j < zss.length) : ynum k zss (j + 1) = ynum k zss j + (zss[j]?.getD []).length ∧ ynum k zss (j + 1) ≤ k + (ylens zss).sum := by
  have h1 := upto_succ (ylens zss) j (by rw [ylens_length]; exact hj)
  rw [ylens_get] at h1
  have h2 := upto_le (ylens zss) (j + 1)
  unfold ynum
  omega
theorem ynum_all (k : Nat) (zss : List (List UInt8)) : ynum k zss zss.length = k + (ylens zss).sum := by
  have := upto_all (ylens zss)
  rw [ylens_length] at this
  unfold ynum
  rw [this]
set_option maxHeartbeats 800000 in
theorem heldByts_walk (w : World) (a : Option Addr) (cap n k : Nat) (zss : List (List UInt8)) (hn : zss.length = n) (hk : k + (ylens zss).sum ≤ 4294967296) (hn2 : n ≤ 9223372036854775807) (hc : AtYs w a n (mkYs k zss)) :
    Calls Tryz.prog 57 #[.slice a n cap, .int .i64 (k : Int)] w fun e w' => e = .returned (.int .i64 ((k + (ylens zss).sum : Nat) : Int)) ∧ Below w.heap.size w w' := by
  have HC : Hid (∀ j, j < n → ∃ b off ua uc, a = some ⟨b, off, none⟩ ∧ w.cell? ⟨b, off + j, none⟩ = some (.slice ua (zss[j]?.getD []).length uc) ∧ Byt w (.slice ua (zss[j]?.getD []).length uc) (mkByt ((ynum k zss j : Nat) : Int) (zss[j]?.getD []))) := fun j hj => by
    obtain ⟨b, o, ua, uc, e, h1, h2⟩ := hc j hj
    rw [mkYs_get k zss (by omega), mkByt_length] at h1 h2
    exact ⟨b, o, ua, uc, e, h1, h2⟩
  have HBD : Hid (∀ j, j < n → ynum k zss (j + 1) = ynum k zss j + (zss[j]?.getD []).length ∧ ynum k zss (j + 1) ≤ 4294967296) := fun j hj => by
    have := ynum_next k zss j (by omega)
    exact ⟨this.1, by omega⟩
  have HE : Hid (ynum k zss n = k + (ylens zss).sum) := by unfold Hid; rw [← hn]; exact ynum_all k zss
  have HI0 : Hid (ynum k zss 0 = k) := by unfold Hid ynum; rw [upto_zero, Nat.add_zero]
  rw [← HE.out]
  clear hc hn hk HE
  generalize ynum k zss = N at *
  go_enter Tryz.func57, Tryz.ntmps57
  go_wp2
  go_loopw [1, 5] (fun q i wr => ∃ j : Nat, j ≤ n ∧ i = .int .i64 j ∧ q = .int .i64 ((N j : Nat) : Int) ∧ Below w.heap.size w wr) (fun _ i _ => n - (intOf i).toNat)
  case atStart => exact ⟨0, Nat.zero_le _, rfl, by rw [HI0.out], Below.refl _ _⟩
  case round =>
    obtain ⟨j, hj, rfl, rfl, hbl⟩ := hrel
    have HBL : Hid (Below w.heap.size w wr) := hbl
    clear hbl
    by_cases hlt : j < n
    · obtain ⟨b, o, ua, uc, rfl, d0, hY⟩ := HC.out j hlt
      replace d0 := cell_later HBL.out d0
      obtain ⟨hs, hle⟩ := HBD.out j hlt
      have HY : Hid (Byt w (.slice ua (zss[j]?.getD []).length uc) (mkByt ((N j : Nat) : Int) (zss[j]?.getD []))) := hY
      have HS : Hid (((N j : Nat) : Int) + ((zss[j]?.getD []).length : Nat) = ((N (j + 1) : Nat) : Int)) := by unfold Hid; omega
      have hb : ((N j : Nat) : Int) + ((zss[j]?.getD []).length : Nat) ≤ 4611686018427387904 := by omega
      clear hY hs
      go_wp2_with fail
      refine (heldBytU ((N j : Nat) : Int) (HY.out.later HBL.out) (by omega) hb).mono ?_
      rintro e w1 ⟨rfl, hb1⟩
      have HB1 : Hid (Below w.heap.size w w1) := HBL.out.trans (hb1.mono HBL.out.size)
      rw [HS.out]
      have hp : ¬ ((N (j + 1) : Nat) : Int) < 0 := by omega
      clear hb1 d0 hb
      go_wp2
      go_roundw
      case rel => exact ⟨j + 1, by omega, by go_num, rfl, HB1.out⟩
      case measure => simp [intOf]; omega
    · have HJ : Hid (N j = N n) := by unfold Hid; rw [show j = n by omega]
      go_wp2
      go_ret
      exact ⟨ret_int (by rw [HJ.out]), HBL.out⟩

def halfY (k : Nat) (zss : List (List UInt8)) (j i : Nat) : List UInt8 := if i < j then mkByt ((ynum k zss i : Nat) : Int) (zss[i]?.getD []) else zss[i]?.getD []
set_option maxHeartbeats 1600000 in
theorem markBytsM_walk (w : World) (b cap n k : Nat) (F : Nat → Prop) (zss : List (List UInt8)) (u : Nat → Value) (G : Nat → Nat → Prop) (hG : ∀ i c, G i c → F c ∧ c ≠ b) (hGG : ∀ i j c, i ≠ j → G i c → ¬ G j c)
    (hn : zss.length = n) (hk : k + (ylens zss).sum ≤ 4294967296) (hn2 : n ≤ 9223372036854775807) (hr : OwnRow w b n u) (hu : ∀ i, i < n → BytO w (u i) (zss[i]?.getD []) (G i)) :
    Calls Tryz.prog 34 #[.slice (some ⟨b, 0, none⟩) n cap, .int .i64 (k : Int)] w fun e w' => e = .returned (.int .i64 ((k + (ylens zss).sum : Nat) : Int)) ∧ OwnRow w' b n u ∧ (∀ i, i < n → BytO w' (u i) ((mkYs k zss)[i]?.getD []) (G i)) ∧ Chg F w w' := by
  have HR : Hid (OwnRow w b n u) := hr
  have HU : Hid (∀ i, i < n → BytO w (u i) (halfY k zss 0 i) (G i)) := fun i hi => by unfold halfY; rw [if_neg (by omega)]; exact hu i hi
  have HG : Hid (∀ i c, G i c → F c ∧ c ≠ b) := hG
  have HGG : Hid (∀ i j c, i ≠ j → G i c → ¬ G j c) := hGG
  have HBD : Hid (∀ j, j < n → ynum k zss (j + 1) = ynum k zss j + (zss[j]?.getD []).length ∧ ynum k zss (j + 1) ≤ 4294967296) := fun j hj => by
    have := ynum_next k zss j (by omega)
    exact ⟨this.1, by omega⟩
  have HE : Hid (ynum k zss n = k + (ylens zss).sum) := by unfold Hid; rw [← hn]; exact ynum_all k zss
  have HI0 : Hid (ynum k zss 0 = k) := by unfold Hid ynum; rw [upto_zero, Nat.add_zero]
  have HHJ : Hid (∀ j, halfY k zss j j = zss[j]?.getD []) := fun j => by unfold halfY; rw [if_neg (by omega)]
  have HHN : Hid (∀ j, halfY k zss (j + 1) j = mkByt ((ynum k zss j : Nat) : Int) (zss[j]?.getD [])) := fun j => by unfold halfY; rw [if_pos (by omega)]
  have HHO : Hid (∀ j i, i ≠ j → halfY k zss (j + 1) i = halfY k zss j i) := fun j i e => by
    unfold halfY
    by_cases e2 : i < j
    · rw [if_pos e2, if_pos (by omega)]
    · rw [if_neg e2, if_neg (by omega)]
  have HHA : Hid (∀ i, i < n → halfY k zss n i = (mkYs k zss)[i]?.getD []) := fun i hi => by rw [mkYs_get k zss (by omega)]; unfold halfY; rw [if_pos hi]
  rw [← HE.out]
  clear hr hu hG hGG hn hk HE
  generalize ynum k zss = N at *
  generalize halfY k zss = HY at *
  go_enter Tryz.func34, Tryz.ntmps34
  go_wp2
  go_loopw [1, 5] (fun q i wr => ∃ j : Nat, j ≤ n ∧ i = .int .i64 j ∧ q = .int .i64 ((N j : Nat) : Int) ∧ OwnRow wr b n u ∧ (∀ i, i < n → BytO wr (u i) (HY j i) (G i)) ∧ Chg F w wr) (fun _ i _ => n - (intOf i).toNat)
  case atStart => exact ⟨0, Nat.zero_le _, rfl, by rw [HI0.out], HR.out, HU.out, Chg.refl _ _⟩
  case round =>
    obtain ⟨j, hj, rfl, rfl, hrow, hin, hch⟩ := hrel
    have HROW : Hid (OwnRow wr b n u) := hrow
    have HIN : Hid (∀ i, i < n → BytO wr (u i) (HY j i) (G i)) := hin
    have HCH : Hid (Chg F w wr) := hch
    by_cases hlt : j < n
    · have c1 := hrow.cell hlt
      clear hrow hin hch HU HR
      obtain ⟨hs, hle⟩ := HBD.out j hlt
      have HS : Hid (((N j : Nat) : Int) + ((zss[j]?.getD []).length : Nat) = ((N (j + 1) : Nat) : Int)) := by unfold Hid; omega
      have HIJ : Hid (BytO wr (u j) (zss[j]?.getD []) (G j)) := by have := HIN.out j hlt; rw [HHJ.out j] at this; exact this
      have hb : ((N j : Nat) : Int) + ((zss[j]?.getD []).length : Nat) ≤ 4611686018427387904 := by omega
      clear hs
      go_wp2_with fail
      refine (markBytU ((N j : Nat) : Int) HIJ.out (by omega) hb).mono ?_
      rintro e w' ⟨rfl, hm, hc⟩
      have HM : Hid (BytO w' (u j) (mkByt ((N j : Nat) : Int) (zss[j]?.getD [])) (G j)) := hm
      have HC : Hid (Chg (G j) wr w') := hc
      rw [HS.out]
      clear hm hc hb
      go_wp2
      go_roundw
      case rel =>
        refine ⟨j + 1, by omega, by go_num, rfl, HROW.out.block (HC.out.block b HROW.out.lt (fun h => (HG.out j b h).2 rfl)), fun i hi => ?_, HCH.out.trans (HC.out.mono fun c hc => (HG.out j c hc).1)⟩
        by_cases e : i = j
        · subst e
          rw [HHN.out]; exact HM.out
        · rw [HHO.out j i e]
          exact (HIN.out i hi).keep (w' := w') fun c hc hlt => HC.out.block c hlt (HGG.out i j c e hc)
      case measure => simp [intOf]; omega
    · have HJ : Hid (j = n) := by unfold Hid; omega
      clear hrow hin hch
      go_wp2
      go_ret
      exact ⟨ret_int (by rw [HJ.out]), HROW.out, fun i hi => by have := HIN.out i hi; rw [HJ.out, HHA.out i hi] at this; exact this, HCH.out⟩
theorem markBytsM {w : World} {v : Value} {zss : List (List UInt8)} {F : Nat → Prop} (k : Nat) (h : BytsO w v zss F) (hk : k + (ylens zss).sum ≤ 4294967296) :
    Calls Tryz.prog 34 #[v, .int .i64 (k : Int)] w fun e w' => e = .returned (.int .i64 ((k + (ylens zss).sum : Nat) : Int)) ∧ BytsO w' v (mkYs k zss) F ∧ Chg F w w' := by
  rcases h with ⟨rfl, a, cap, rfl⟩ | ⟨b, cap, u, G, hF, hG, hGG, rfl, hl, hr, hu⟩
  · exact (markByts_nil w a cap _).mono fun e w' ⟨he, hw⟩ => ⟨by rw [he]; simp [ylens], Or.inl ⟨rfl, _, _, rfl⟩, hw ▸ Chg.refl _ _⟩
  · refine (markBytsM_walk w b cap zss.length k F zss u G hG hGG rfl hk (by have := hl.1; unfold maxLen at this; omega) hr hu).mono fun e w' ⟨he, h1, h2, hc⟩ => ⟨he, Or.inr ⟨b, cap, u, G, hF, hG, hGG, by rw [mkYs_length], by rw [mkYs_length]; exact hl, by rw [mkYs_length]; exact h1, by rw [mkYs_length]; exact h2⟩, hc⟩
theorem heldBytsM {w : World} {v : Value} (k : Nat) (zss : List (List UInt8)) (h : Byts w v (mkYs k zss)) (hk : k + (ylens zss).sum ≤ 4294967296) :
    Calls Tryz.prog 57 #[v, .int .i64 (k : Int)] w fun e w' => e = .returned (.int .i64 ((k + (ylens zss).sum : Nat) : Int)) ∧ Below w.heap.size w w' := by
  obtain ⟨a, cap, rfl, hm, hc⟩ := h.open'
  rw [mkYs_length] at hm hc ⊢
  exact heldByts_walk w a cap zss.length k zss rfl hk (by have := hm.1; unfold maxLen at this; omega) hc
end Go.Proofs.YtjabimfinanjoaaGreat
