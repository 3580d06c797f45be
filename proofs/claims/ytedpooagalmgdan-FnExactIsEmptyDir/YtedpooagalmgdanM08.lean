/- The program's InodeFault. PackInode, both sides. The specification's UsedBlocks, FreeBlocks, PickBlocks and FreeInode. The specification's LinksOf. The specification: are links and places right? The specification: has each block just the bytes that it should have? The program's faults of lists of inodes and of busy blocks. The program's counts of who needs a block: an array. The program's counts, filled and read. The specification: what is wrong of a file system. The bytes of a file: the specification. -/
import Derived.Test.YtedpooagalmgdanM07
import Derived.Test.YtedpooagalmgdanM05
import Derived.Test.YtedpooagalmgdanM06
import Derived.Deep.RegionHeld3
import Derived.Deep.WholeRow
import Derived.Test.YtedpooagalmgdanM04
namespace Go.Proofs.Ytedpooagalmgdan
open Go.RowKit
set_option maxRecDepth 100000

set_option maxHeartbeats 6400000 in
theorem dirFault_any (w : World) (k l s : Int) (a : Option Addr) (n c : Nat) (a' : Option Addr) (n' c' : Nat) (es : List EN) (hen : es.length = n') (_hm : n' ≤ maxLen) (hz : ∀ k : Nat, (es[k]?.getD en0).1.size ≤ maxLen) (hc : AtN w a' n' es) :
    Calls Try.prog 69 #[.agg #[.int .i64 k, .int .i64 l, .int .i64 s, .slice a n c, .slice a' n' c']] w fun e w' => e = .returned (.int .i64 (if decide (l ≠ 0) || decide (s ≠ 0) || decide (0 < n) then 1 else dirF es)) ∧ Below w.heap.size w w' := by
  have HF := fun W => hasFile_any W k l s a n c (.slice a' n' c') a' n' c' rfl
  generalize (decide (l ≠ 0) || decide (s ≠ 0) || decide (0 < n)) = f at *
  have HHF : Hid (∀ W : World, _) := HF
  have HC : Hid (AtN w a' n' es) := hc
  have HZ : Hid (∀ k : Nat, (es[k]?.getD en0).1.size ≤ maxLen) := hz
  have HN : Hid (es.length = n') := hen
  clear HF hc hz hen
  cases f
  rotate_left
  · go_enter Try.func69, Try.ntmps69
    go_wp2_with fail
    refine (HHF.out _).mono ?_
    rintro e w1 ⟨rfl, hb1⟩
    have HB1 : Hid (Below w.heap.size w w1) := (later1 _ _).trans (hb1.mono (by simp))
    clear hb1
    go_wp2
    go_ret
    exact ⟨rfl, HB1.out⟩
  · have HDF : Hid (dirF es = if 6 < n' then 2 else fstNZ (entF es) es.length) := by unfold Hid dirF; rw [HN.out]
    go_enter Try.func69, Try.ntmps69
    go_wp2_with fail
    refine (HHF.out _).mono ?_
    rintro e w1 ⟨rfl, hb1⟩
    have HB1 : Hid (Below w.heap.size w w1) := (later1 _ _).trans (hb1.mono (by simp))
    have hx : Bx w1 w.heap.size [.int .i64 k, .int .i64 l, .int .i64 s, .slice a n c, .slice a' n' c'] := (Bx.new w _ _).later hb1
    have c4 := hx 4 _ rfl
    have HX1 : Hid (Bx w1 w.heap.size [.int .i64 k, .int .i64 l, .int .i64 s, .slice a n c, .slice a' n' c']) := hx
    have hlt1 := hx.lt
    clear hb1 hx
    by_cases h6 : 6 < n'
    · have h6' : decide ((6 : Int) < (n' : Int)) = true := by simp; omega
      have HR : Hid (dirF es = 2) := by unfold Hid; rw [HDF.out, if_pos h6]
      go_wp2
      go_ret
      exact ⟨ret_int HR.out.symm, HB1.out⟩
    · have h6' : decide ((6 : Int) < (n' : Int)) = false := by simp; omega
      have HR : Hid (dirF es = fstNZ (entF es) es.length) := by unfold Hid; rw [HDF.out, if_neg h6]
      go_wp2
      go_loopw [15] (fun i wr => ∃ j : Nat, j ≤ n' ∧ i = .int .i64 j ∧ Below w1.heap.size w1 wr ∧ ∀ i : Nat, i < j → entF es i = 0) (fun i _ => n' - (intOf i).toNat)
      case atStart => exact ⟨0, Nat.zero_le _, rfl, Below.refl _ _, fun i hi => by omega⟩
      case round =>
        obtain ⟨j, hj, rfl, hbl, hall⟩ := hrel
        have HA : Hid (∀ i : Nat, i < j → entF es i = 0) := hall
        have HBL : Hid (Below w1.heap.size w1 wr) := hbl
        have HBW : Hid (Below w.heap.size w wr) := HB1.out.trans (hbl.mono HB1.out.size)
        have HBN : Hid (∀ o : Obj, Below w1.heap.size w1 (wr.alloc o)) := fun o => hbl.trans ((later1 _ _).mono hbl.size)
        have HBO : Hid (∀ o : Obj, Below w.heap.size w (wr.alloc o)) := fun o => HBW.out.trans ((later1 _ _).mono HBW.out.size)
        have c4' := cell_later hbl c4
        have hlw : w.heap.size < wr.heap.size := Nat.lt_of_lt_of_le hlt1 hbl.size
        clear hall hbl
        by_cases hlt : j < n'
        · obtain ⟨b1, off, rfl, e0, e1⟩ := HC.out j hlt
          have hb1l : b1 < wr.heap.size := Nat.lt_of_lt_of_le (World.block_lt_of_cell? _ _ e0) HBW.out.size
          replace e0 := cell_later HBW.out e0
          replace e1 := cell_later HBW.out e1
          have HSZ : Hid ((es[j]?.getD en0).1.size ≤ maxLen) := HZ.out j
          have HE : Hid (¬ entF es j = 0 → dirF es = entF es j) := fun h => HR.out.trans (fstNZ_at HA.out h (by rw [HN.out]; exact hlt))
          by_cases hnm : nameF (es[j]?.getD en0).1 = 0
          rotate_left
          · have HF : Hid (dirF es = nameF (es[j]?.getD en0).1) := by unfold Hid; rw [HE.out (by rw [entF_name hnm]; exact hnm), entF_name hnm]
            have HNM : Hid (¬ nameF (es[j]?.getD en0).1 = 0) := hnm
            clear hnm HE HA
            generalize (es[j]?.getD en0).1 = x at *
            generalize (es[j]?.getD en0).2 = y at *
            go_wp2_with fail
            refine (implName_any _ x HSZ.out).mono ?_
            generalize nameF x = q at *
            have hq : (q = 0) = False := by simpa using HNM.out
            have hq2 : (q == 0) = false := by simpa using HNM.out
            rintro e w2 ⟨rfl, rfl⟩
            go_wp2
            go_ret
            exact ⟨ret_int HF.out.symm, HBO.out _⟩
          · have HNM : Hid (nameF (es[j]?.getD en0).1 = 0) := hnm
            by_cases hy0 : (es[j]?.getD en0).2 < 0
            · have HF : Hid (dirF es = 3) := by unfold Hid; rw [HE.out (by rw [entF_rng hnm (by omega)]; decide), entF_rng hnm (by omega)]
              clear hnm HE HA
              generalize (es[j]?.getD en0).1 = x at *
              generalize (es[j]?.getD en0).2 = y at *
              go_wp2_with fail
              refine (implName_any _ x HSZ.out).mono ?_
              rw [HNM.out]
              rintro e w2 ⟨rfl, rfl⟩
              go_wp2
              go_ret
              exact ⟨ret_int HF.out.symm, HBO.out _⟩
            · by_cases hy9 : 10 ≤ (es[j]?.getD en0).2
              · have HF : Hid (dirF es = 3) := by unfold Hid; rw [HE.out (by rw [entF_rng hnm (by omega)]; decide), entF_rng hnm (by omega)]
                clear hnm HE HA
                generalize (es[j]?.getD en0).1 = x at *
                generalize (es[j]?.getD en0).2 = y at *
                go_wp2_with fail
                refine (implName_any _ x HSZ.out).mono ?_
                rw [HNM.out]
                rintro e w2 ⟨rfl, rfl⟩
                go_wp2
                go_ret
                exact ⟨ret_int HF.out.symm, HBO.out _⟩
              · have hr : 0 ≤ (es[j]?.getD en0).2 ∧ (es[j]?.getD en0).2 ≤ 9 := by omega
                by_cases h0 : j = 0
                · have HNX : Hid (∀ i : Nat, i < j + 1 → entF es i = 0) := fun i hi => by
                    have : i = j := by omega
                    rw [this]; exact entF_ok hnm hr (by omega)
                  clear hnm HE HA hr
                  generalize (es[j]?.getD en0).1 = x at *
                  generalize (es[j]?.getD en0).2 = y at *
                  subst h0
                  simp only [Nat.zero_mul, Nat.add_zero] at e0 e1
                  go_wp2_with fail
                  refine (implName_any _ x HSZ.out).mono ?_
                  rw [HNM.out]
                  rintro e w2 ⟨rfl, rfl⟩
                  go_wp2_with fail
                  go_quiet (fail)
                  go_wp2
                  go_roundw
                  case rel => exact ⟨1, by omega, by go_num, below_drewN (HBN.out _) nq, HNX.out⟩
                  case measure => simp [intOf]; omega
                · obtain ⟨i, hi⟩ : ∃ i, j = i + 1 := ⟨j - 1, by omega⟩
                  obtain ⟨b2, off2, h12, e2, _⟩ := HC.out i (by omega)
                  simp only [Option.some.injEq, Addr.mk.injEq, and_true] at h12
                  obtain ⟨rfl, rfl⟩ := h12
                  replace e2 := cell_later HBW.out e2
                  have hji : j - 1 = i := by omega
                  by_cases hle : strLe (es[j]?.getD en0).1 (es[i]?.getD en0).1 = true
                  · have HF : Hid (dirF es = 1) := by unfold Hid; rw [HE.out (by rw [entF_form hnm hr (by omega) (by rw [hji]; exact hle)]; decide), entF_form hnm hr (by omega) (by rw [hji]; exact hle)]
                    have hle2 := hle
                    unfold strLe at hle2
                    clear hnm HE HA hr hle
                    subst hi
                    generalize (es[i + 1]?.getD en0).1 = x at *
                    generalize (es[i + 1]?.getD en0).2 = y at *
                    generalize (es[i]?.getD en0).1 = x2 at *
                    have hpos : (0 : Int) < ((i + 1 : Nat) : Int) := by omega
                    go_wp2_with fail
                    refine (implName_any _ x HSZ.out).mono ?_
                    rw [HNM.out]
                    rintro e w2 ⟨rfl, rfl⟩
                    go_wp2_with fail
                    go_quiet (fail)
                    go_wp2
                    go_ret
                    exact ⟨ret_int HF.out.symm, below_drewN (HBO.out _) nq⟩
                  · have HNX : Hid (∀ q : Nat, q < j + 1 → entF es q = 0) := fun q hq => by
                      by_cases e : q = j
                      · rw [e]; exact entF_ok hnm hr (by rw [hji]; exact fun h => hle h.2)
                      · exact HA.out q (by omega)
                    have hle2 : strLe (es[j]?.getD en0).1 (es[i]?.getD en0).1 = false := by simpa using hle
                    unfold strLe at hle2
                    clear hnm HE HA hr hle
                    subst hi
                    generalize (es[i + 1]?.getD en0).1 = x at *
                    generalize (es[i + 1]?.getD en0).2 = y at *
                    generalize (es[i]?.getD en0).1 = x2 at *
                    have hpos : (0 : Int) < ((i + 1 : Nat) : Int) := by omega
                    go_wp2_with fail
                    refine (implName_any _ x HSZ.out).mono ?_
                    rw [HNM.out]
                    rintro e w2 ⟨rfl, rfl⟩
                    go_wp2_with fail
                    go_quiet (fail)
                    go_wp2
                    go_roundw
                    case rel => exact ⟨i + 1 + 1, by omega, by go_num, below_drewN (HBN.out _) nq, HNX.out⟩
                    case measure => simp [intOf]; omega
        · have HF : Hid (dirF es = 0) := by unfold Hid; rw [HR.out, fstNZ_zero fun i hi => HA.out i (by rw [HN.out] at hi; omega)]
          go_wp2
          go_ret
          exact ⟨ret_int HF.out.symm, HBW.out⟩

set_option maxHeartbeats 3200000 in
theorem implInoU (w : World) (z0 z1 z2 : Int) (aB : Option Addr) (nB cB : Nat) (aE : Option Addr) (nE cE : Nat) (d : ID) (h : InoR w (.int .i64 z0) (.int .i64 z1) (.int .i64 z2) (.slice aB nB cB) (.slice aE nE cE) d) (hs : sizeIno d ≤ 1048576) :
    Calls Try.prog 61 #[.agg #[.int .i64 z0, .int .i64 z1, .int .i64 z2, .slice aB nB cB, .slice aE nE cE]] w fun e w' => e = .returned (.int .i64 (inoF d)) ∧ Below w.heap.size w w' := by
  obtain ⟨⟨h0, h1, h2, hcap⟩, hi, he⟩ := h
  simp only [Value.int.injEq, true_and] at h0 h1 h2
  obtain ⟨_, _, _, ec, hcap⟩ := hcap
  simp only [Value.slice.injEq] at ec
  obtain ⟨rfl, rfl, rfl⟩ := ec
  obtain ⟨_, _, e1, hm1, hc1⟩ := hi.open'
  obtain ⟨_, _, e2, hm2, hz2, hc2⟩ := he.open'
  simp only [Value.slice.injEq] at e1 e2
  obtain ⟨rfl, e1n, rfl⟩ := e1
  obtain ⟨rfl, rfl, rfl⟩ := e2
  obtain ⟨k, l, s, bs, es⟩ := d
  dsimp only at *
  subst h0 h1 h2
  have hn1 : bs.length ≤ 1048576 := by unfold sizeIno at hs; dsimp only at hs; omega
  subst e1n
  have HFR : Hid (∀ W, Calls Try.prog 67 #[.agg #[.int .i64 z0, .int .i64 z1, .int .i64 z2, .slice aB bs.length cB, .slice aE es.length cE]] W fun e w' => e = .returned (.int .i64 (if (decide (z1 ≠ 0) || decide (z2 ≠ 0) || decide (0 < bs.length)) || decide (0 < es.length) then 1 else 0)) ∧ Below W.heap.size W w') := fun W => freeFault_any W z0 z1 z2 aB _ cB aE _ cE
  have HFI : Hid (∀ W, Below w.heap.size w W → Calls Try.prog 68 #[.agg #[.int .i64 z0, .int .i64 z1, .int .i64 z2, .slice aB bs.length cB, .slice aE es.length cE]] W fun e w' => e = .returned (.int .i64 (if decide (0 < es.length) then 1 else fileF z1 z2 bs)) ∧ Below W.heap.size W w') := fun W hW => fileFault_any W z0 z1 z2 aB _ cB aE _ cE bs hn1 hcap rfl (fun k hk => by
    obtain ⟨b, off, e, h⟩ := hc1 k hk
    exact ⟨b, off, e, cell_later hW h⟩)
  have HDI : Hid (∀ W, Below w.heap.size w W → Calls Try.prog 69 #[.agg #[.int .i64 z0, .int .i64 z1, .int .i64 z2, .slice aB bs.length cB, .slice aE es.length cE]] W fun e w' => e = .returned (.int .i64 (if decide (z1 ≠ 0) || decide (z2 ≠ 0) || decide (0 < bs.length) then 1 else dirF es)) ∧ Below W.heap.size W w') := fun W hW => dirFault_any W z0 z1 z2 aB _ cB aE _ cE es rfl hm2 hz2 (hc2.later hW)
  have HF : Hid (inoF (z0, z1, z2, bs, es) = if z0 = 0 then (if (decide (z1 ≠ 0) || decide (z2 ≠ 0) || decide (0 < bs.length)) || decide (0 < es.length) then 1 else 0) else if z0 = 1 then (if decide (0 < es.length) then 1 else fileF z1 z2 bs) else if z0 = 2 then (if (decide (z1 ≠ 0) || decide (z2 ≠ 0) || decide (0 < bs.length)) then 1 else dirF es) else 1) := rfl
  rw [HF.out]
  clear HF hi he hc1 hc2 hm1 hm2 hz2 hcap hs hn1
  generalize (if (decide (z1 ≠ 0) || decide (z2 ≠ 0) || decide (0 < bs.length)) || decide (0 < es.length) then (1 : Int) else 0) = r0 at *
  generalize (if decide (0 < es.length) then (1 : Int) else fileF z1 z2 bs) = r1 at *
  generalize (if (decide (z1 ≠ 0) || decide (z2 ≠ 0) || decide (0 < bs.length)) then (1 : Int) else dirF es) = r2 at *
  generalize bs.length = n1 at *
  generalize es.length = n2 at *
  by_cases h0 : z0 = 0
  · rw [if_pos h0]
    subst h0
    go_enter Try.func61, Try.ntmps61
    go_wp2_with fail
    refine (HFR.out _).mono ?_
    rintro e w1 ⟨rfl, hb1⟩
    have HB1 : Hid (Below w.heap.size w w1) := (later1 _ _).trans (hb1.mono (by simp))
    clear hb1
    go_wp2
    go_ret
    exact ⟨rfl, HB1.out⟩
  · rw [if_neg h0]
    by_cases h1 : z0 = 1
    · rw [if_pos h1]
      subst h1
      go_enter Try.func61, Try.ntmps61
      go_wp2_with fail
      refine (HFI.out _ (later1 _ _)).mono ?_
      rintro e w1 ⟨rfl, hb1⟩
      have HB1 : Hid (Below w.heap.size w w1) := (later1 _ _).trans (hb1.mono (by simp))
      clear hb1
      go_wp2
      go_ret
      exact ⟨rfl, HB1.out⟩
    · rw [if_neg h1]
      by_cases h2 : z0 = 2
      · rw [if_pos h2]
        subst h2
        go_enter Try.func61, Try.ntmps61
        go_wp2_with fail
        refine (HDI.out _ (later1 _ _)).mono ?_
        rintro e w1 ⟨rfl, hb1⟩
        have HB1 : Hid (Below w.heap.size w w1) := (later1 _ _).trans (hb1.mono (by simp))
        clear hb1
        go_wp2
        go_ret
        exact ⟨rfl, HB1.out⟩
      · rw [if_neg h2]
        have g0 : (z0 == 0) = false := by simpa using h0
        have g1 : (z0 == 1) = false := by simpa using h1
        have g2 : (z0 == 2) = false := by simpa using h2
        go_enter Try.func61, Try.ntmps61
        go_wp2
        go_ret
        exact ⟨rfl, later1 _ _⟩
end Go.Proofs.Ytedpooagalmgdan

namespace Go.Proofs.Ytedpooagalmgdan
open Go.RowKit
set_option maxRecDepth 100000

/-- Answers that are a code and words. -/
def AnsIR (w : World) (r : Int × List Int) (e : Ending) (w' : World) : Prop := ∃ a n c, e = .returned (.agg #[.int .i64 r.1, .slice a n c]) ∧ Below w.heap.size w w' ∧ IntsO w' (.slice a n c) r.2 (fresh w w')

end Go.Proofs.Ytedpooagalmgdan

namespace Go.Proofs.Ytedpooagalmgdan
open Go.RowKit
set_option maxRecDepth 100000

theorem AnsIR.box {w w2 : World} {a : Option Addr} {n c : Nat} {zs : List Int} (hb : Below w.heap.size w w2) (ho : IntsO w2 (.slice a n c) zs (fun b => w.heap.size + 1 ≤ b ∧ b < w2.heap.size)) (x y : Value) :
    AnsIR w (0, zs) (.returned (.agg #[.int .i64 0, .slice a n c])) ((w2.setCell ⟨w.heap.size, 0, none⟩ x).setCell ⟨w.heap.size, 1, none⟩ y) := by
  refine ⟨_, _, _, rfl, (hb.setCell (by simp) _).setCell (by simp) _, (ho.keep fun b hb hlt => ?_).mono fun b hb => ⟨by omega, by simp only [World.setCell, Array.size_modify]; exact hb.2⟩⟩
  rw [Below.heap_setCell _ _ _ _ (by simp; omega), Below.heap_setCell _ _ _ _ (by simp; omega)]
theorem AnsIR.bad {w w2 : World} (r : Int) (hb : Below w.heap.size w w2) (x y : Value) :
    AnsIR w (r, []) (.returned (.agg #[.int .i64 r, .slice none 0 0])) ((w2.setCell ⟨w.heap.size, 0, none⟩ x).setCell ⟨w.heap.size, 1, none⟩ y) :=
  ⟨_, _, _, rfl, (hb.setCell (by simp) _).setCell (by simp) _, Or.inl ⟨rfl, _, _, rfl⟩⟩
/-- The result's box, made first. -/
theorem box2 (w : World) (t : TypeId) : OwnRow (w.alloc (.cells #[.int .i64 0, .slice none 0 0] t)) w.heap.size 2 (fun i => if i = 0 then .int .i64 0 else .slice none 0 0) := OwnRow.newS w (.int .i64 0) (.slice none 0 0) t
theorem Wds.box {w W w2 : World} {a : Option Addr} {n c : Nat} {zs : List Int} (hW : W.heap.size = w.heap.size + 1) (h : Wds w2 W.heap.size (.slice a n c) zs) : IntsO w2 (.slice a n c) zs (fun b => w.heap.size + 1 ≤ b ∧ b < w2.heap.size) :=
  (h.own' (w0 := W) (Nat.le_refl _)).mono fun b hb => ⟨by have := hb.1; omega, hb.2⟩

end Go.Proofs.Ytedpooagalmgdan

namespace Go.Proofs.Ytedpooagalmgdan
open Go.RowKit
set_option maxRecDepth 100000

theorem entI_get (es : List EN) (k : Nat) : (entI es)[k]?.getD 0 = (es[k]?.getD en0).2 := by
  unfold entI; rw [List.getElem?_map]; cases es[k]? <;> rfl
theorem entI_len (es : List EN) : (entI es).length = es.length := by simp [entI]
theorem allE_bound (ds : List ID) (hs : sizeInos ds ≤ 1048576) (v : Int) : (allE ds).count v ≤ 1048576 := by
  have h2 := allE_len ds
  have h3 := List.count_le_length (a := v) (l := allE ds)
  unfold sizeInos at hs
  omega

end Go.Proofs.Ytedpooagalmgdan

namespace Go.Proofs.Ytedpooagalmgdan
open Go.RowKit
set_option maxRecDepth 100000

/-- How many entries have to name an inode. -/
def wantL (ds : List ID) (i : Nat) : Int := if kindAt ds i = 1 then (ds[i]?.getD id0).2.1 else if i = 0 then 0 else 1
def lnkOK (ds : List ID) (i : Nat) : Bool := decide (kindAt ds i = 0) || (decide ((((allE ds).count (i : Int) : Nat) : Int) = wantL ds i) && reachG ds ds.length i)
def linksB (ds : List ID) : Bool := (List.range ds.length).all (lnkOK ds)
theorem linksB_no {ds : List ID} {i : Nat} (hi : i < ds.length) (h : lnkOK ds i = false) : linksB ds = false := by
  unfold linksB
  rw [List.all_eq_false]
  exact ⟨i, by simpa using hi, by simp [h]⟩
theorem linksB_yes {ds : List ID} (h : ∀ i, i < ds.length → lnkOK ds i = true) : linksB ds = true := by
  unfold linksB
  rw [List.all_eq_true]
  intro i hi
  exact h i (by simpa using hi)
theorem selL_contains (p : Nat → Bool) {n i : Nat} (hi : i < n) : (selL p n).contains (i : Int) = p i := by
  cases hp : p i with
  | true =>
    rw [List.contains_iff_mem]
    unfold selL
    rw [List.mem_map]
    exact ⟨i, List.mem_filter.2 ⟨by simpa using hi, hp⟩, rfl⟩
  | false =>
    rw [Bool.eq_false_iff]
    intro hc
    rw [List.contains_iff_mem] at hc
    unfold selL at hc
    rw [List.mem_map] at hc
    obtain ⟨k, hk, e⟩ := hc
    have : k = i := by omega
    subst this
    rw [(List.mem_filter.1 hk).2] at hp
    cases hp

end Go.Proofs.Ytedpooagalmgdan

namespace Go.Proofs.Ytedpooagalmgdan
open Go.RowKit
set_option maxRecDepth 100000

theorem ino_size {d : ID} (h : inoF d = 0) : 0 ≤ d.2.2.1 ∧ d.2.2.1 ≤ 32 ∧ ((d.2.2.2.1.length : Nat) : Int) = (d.2.2.1 + 7) / 8 := by
  unfold inoF at h
  have fp : fpB d = false → d.2.2.1 = 0 ∧ d.2.2.2.1.length = 0 := fun hf => by
    unfold fpB at hf
    simp at hf
    exact ⟨hf.1.2, by rw [hf.2]; rfl⟩
  by_cases h0 : d.1 = 0
  · rw [if_pos h0] at h
    have hf : fpB d = false := by
      cases e : fpB d with
      | false => rfl
      | true => rw [e] at h; simp at h
    obtain ⟨h1, h2⟩ := fp hf
    omega
  · rw [if_neg h0] at h
    by_cases h1 : d.1 = 1
    · rw [if_pos h1] at h
      have hd : dpB d = false := by
        cases e : dpB d with
        | false => rfl
        | true => rw [e] at h; simp at h
      rw [hd] at h
      simp only [Bool.false_eq_true, if_false] at h
      unfold fileF at h
      by_cases hl : linkB d.2.1 = true ∧ sizeB d.2.2.1 = true
      · rw [if_pos hl] at h
        have hz := hl.2
        unfold sizeB at hz
        simp at hz
        by_cases hb : ((d.2.2.2.1.length : Nat) : Int) = (d.2.2.1 + 7) / 8
        · exact ⟨hz.1, hz.2, hb⟩
        · rw [if_neg hb] at h; omega
      · rw [if_neg hl] at h; omega
    · rw [if_neg h1] at h
      by_cases h2 : d.1 = 2
      · rw [if_pos h2] at h
        have hf : fpB d = false := by
          cases e : fpB d with
          | false => rfl
          | true => rw [e] at h; simp at h
        obtain ⟨h3, h4⟩ := fp hf
        omega
      · rw [if_neg h2] at h; omega
theorem ino_six {d : ID} (h : inoF d = 0) : d.2.2.2.2.length ≤ 6 := by
  unfold inoF at h
  have dp : dpB d = false → d.2.2.2.2.length = 0 := fun hd => by unfold dpB at hd; simp at hd; rw [hd]; rfl
  by_cases h0 : d.1 = 0
  · rw [if_pos h0] at h
    have hd : dpB d = false := by
      cases e : dpB d with
      | false => rfl
      | true => rw [e] at h; simp at h
    have := dp hd
    omega
  · rw [if_neg h0] at h
    by_cases h1 : d.1 = 1
    · rw [if_pos h1] at h
      have hd : dpB d = false := by
        cases e : dpB d with
        | false => rfl
        | true => rw [e] at h; simp at h
      have := dp hd
      omega
    · rw [if_neg h1] at h
      by_cases h2 : d.1 = 2
      · rw [if_pos h2] at h
        by_cases hf : fpB d = true
        · rw [if_pos hf] at h; omega
        · rw [if_neg hf] at h
          unfold dirF at h
          by_cases h6 : 6 < d.2.2.2.2.length
          · rw [if_pos h6] at h; omega
          · omega
      · rw [if_neg h2] at h; omega

theorem lt_of_cell {w : World} {b o : Nat} {v : Value} (h : w.cell? ⟨b, o, none⟩ = some v) : b < w.heap.size := by
  by_cases hb : b < w.heap.size
  · exact hb
  · simp [World.cell?, Array.getElem?_eq_none (Nat.le_of_not_lt hb)] at h
theorem wrap_in (x : Int) (h0 : -9223372036854775808 ≤ x) (h1 : x ≤ 9223372036854775807) : IntKind.i64.wrap x = x := by
  unfold IntKind.wrap
  simp only [IntKind.signed, IntKind.bits]
  simp
  split <;> omega
def m8 (x : Int) : Int := if 8 < x then 8 else x
def putD (f : Nat → Int) (b v : Int) : Nat → Int := fun i => if i = b.toNat then v else f i
/-- How many bytes each block has to hold, behind k blocks of one inode, behind j inodes. -/
def dueK (s : Int) (bs : List Int) (f : Nat → Int) : Nat → Nat → Int
  | 0 => f
  | k + 1 => putD (dueK s bs f k) (bs[k]?.getD 0) (m8 (s - 8 * (k : Int)))
def dueI (ds : List ID) : Nat → Nat → Int
  | 0 => fun _ => 0
  | j + 1 => dueK (ds[j]?.getD id0).2.2.1 (ds[j]?.getD id0).2.2.2.1 (dueI ds j) (ds[j]?.getD id0).2.2.2.1.length
def sizOK (d : FD) (i : Nat) : Bool := decide ((((d.2[i]?.getD []).length : Nat) : Int) = dueI d.1 d.1.length i)
def sizesB (d : FD) : Bool := (List.range 20).all (sizOK d)
theorem sizesB_no {d : FD} {i : Nat} (hi : i < 20) (h : sizOK d i = false) : sizesB d = false := by
  unfold sizesB
  rw [List.all_eq_false]
  exact ⟨i, by simpa using hi, by simp [h]⟩
theorem sizesB_yes {d : FD} (h : ∀ i, i < 20 → sizOK d i = true) : sizesB d = true := by
  unfold sizesB
  rw [List.all_eq_true]
  intro i hi
  exact h i (by simpa using hi)
def intF (f : Nat → Int) (i : Nat) : Value := .int .i64 (f i)

end Go.Proofs.Ytedpooagalmgdan

namespace Go.Proofs.Ytedpooagalmgdan
open Go.RowKit
set_option maxRecDepth 100000

set_option maxHeartbeats 800000 in
theorem inodesFault_many (w : World) (a : Option Addr) (n c : Nat) (hn : 10 < n) :
    Calls Try.prog 52 #[.slice a n c] w fun e w' => e = .returned (.int .i64 2) ∧ w' = w := by
  have h6 : decide ((10 : Int) < (n : Int)) = true := by simp; omega
  go_enter Try.func52, Try.ntmps52
  go_wp2
  go_ret
  exact ⟨rfl, rfl⟩

set_option maxHeartbeats 1600000 in
theorem inodesFault_walk (w : World) (a : Option Addr) (n c : Nat) (ds : List ID) (hn : n ≤ 10) (hdn : ds.length = n) (hz : ∀ k : Nat, sizeIno (ds[k]?.getD id0) ≤ 1048576) (hc : AtI w a n ds) :
    Calls Try.prog 52 #[.slice a n c] w fun e w' => e = .returned (.int .i64 (fstNZ (fun i => inoF (ds[i]?.getD id0)) ds.length)) ∧ Below w.heap.size w w' := by
  have HC : Hid (AtI w a n ds) := hc
  have HN : Hid (ds.length = n) := hdn
  have HSZ : Hid (∀ k : Nat, sizeIno (ds[k]?.getD id0) ≤ 1048576) := hz
  have h6 : decide ((10 : Int) < (n : Int)) = false := by simp; omega
  clear hc hdn hz
  go_enter Try.func52, Try.ntmps52
  go_wp2
  go_loopw [11] (fun i wr => ∃ j : Nat, j ≤ n ∧ i = .int .i64 j ∧ Below w.heap.size w wr ∧ ∀ i : Nat, i < j → inoF (ds[i]?.getD id0) = 0) (fun i _ => n - (intOf i).toNat)
  case atStart => exact ⟨0, Nat.zero_le _, rfl, Below.refl _ _, fun i hi => by omega⟩
  case round =>
    obtain ⟨j, hj, rfl, hbl, hz⟩ := hrel
    have HZ : Hid (∀ i : Nat, i < j → inoF (ds[i]?.getD id0) = 0) := hz
    have HBL : Hid (Below w.heap.size w wr) := hbl
    clear hz hbl
    by_cases hlt : j < n
    · obtain ⟨b, o, rfl, hI⟩ := HC.out j hlt
      obtain ⟨aB, cB, aE, cE, c0, c1, c2, c3, c4, hR⟩ := hI.later HBL.out
      have HF : Hid (∀ W, Below wr.heap.size wr W → Calls Try.prog 61 #[.agg #[.int .i64 (ds[j]?.getD id0).1, .int .i64 (ds[j]?.getD id0).2.1, .int .i64 (ds[j]?.getD id0).2.2.1, .slice aB (ds[j]?.getD id0).2.2.2.1.length cB, .slice aE (ds[j]?.getD id0).2.2.2.2.length cE]] W fun e w' => e = .returned (.int .i64 (inoF (ds[j]?.getD id0))) ∧ Below W.heap.size W w') := fun W hW => implInoU W _ _ _ aB _ cB aE _ cE (ds[j]?.getD id0) (hR.later hW) (HSZ.out j)
      clear hI hR
      have HR : Hid (inoF (ds[j]?.getD id0) = 0 → (∀ i : Nat, i < j + 1 → inoF (ds[i]?.getD id0) = 0)) := fun h i hi => by
        by_cases e : i = j
        · subst e; exact h
        · exact HZ.out i (by omega)
      have HT : Hid (¬ inoF (ds[j]?.getD id0) = 0 → inoF (ds[j]?.getD id0) = fstNZ (fun i => inoF (ds[i]?.getD id0)) ds.length) := fun h => (fstNZ_at (f := fun i => inoF (ds[i]?.getD id0)) HZ.out h (by rw [HN.out]; exact hlt)).symm
      by_cases hzz : inoF (ds[j]?.getD id0) = 0
      · have HR' : Hid (∀ i : Nat, i < j + 1 → inoF (ds[i]?.getD id0) = 0) := HR.out hzz
        have HZZ : Hid (inoF (ds[j]?.getD id0) = 0) := hzz
        clear HR HT hzz HC
        go_wp2_with fail
        refine (HF.out _ (by first | exact Below.refl _ _ | exact later1 _ _ | exact later2 _ _ _)).mono ?_
        rw [HZZ.out]
        rintro e w1 ⟨rfl, hb⟩
        have HB1 : Hid (Below w.heap.size w w1) := by first | exact HBL.out.trans (hb.mono HBL.out.size) | exact (HBL.out.trans ((later1 _ _).mono HBL.out.size)).trans (hb.mono (HBL.out.trans ((later1 _ _).mono HBL.out.size)).size)
        clear hb
        go_wp2
        go_roundw
        case rel => exact ⟨j + 1, by omega, by go_num, HB1.out, HR'.out⟩
        case measure => simp [intOf]; omega
      · have HT' : Hid (inoF (ds[j]?.getD id0) = fstNZ (fun i => inoF (ds[i]?.getD id0)) ds.length) := HT.out hzz
        have hzb : (inoF (ds[j]?.getD id0) != 0) = true := by simpa using hzz
        clear HR HT HC hzz
        generalize inoF (ds[j]?.getD id0) = r at *
        go_wp2_with fail
        refine (HF.out _ (by first | exact Below.refl _ _ | exact later1 _ _ | exact later2 _ _ _)).mono ?_
        rintro e w1 ⟨rfl, hb⟩
        have HB1 : Hid (Below w.heap.size w w1) := by first | exact HBL.out.trans (hb.mono HBL.out.size) | exact (HBL.out.trans ((later1 _ _).mono HBL.out.size)).trans (hb.mono (HBL.out.trans ((later1 _ _).mono HBL.out.size)).size)
        clear hb
        go_wp2
        go_ret
        exact ⟨ret_int HT'.out, HB1.out⟩
    · go_wp2
      go_ret
      exact ⟨ret_int (fstNZ_zero (fun i hi => HZ.out i (by rw [HN.out] at hi; omega))).symm, HBL.out⟩
theorem inodesFault_any {w : World} {v : Value} {ds : List ID} (h : Inos w v ds) (hs : sizeInos ds ≤ 1048576) :
    Calls Try.prog 52 #[v] w fun e w' => e = .returned (.int .i64 (insF ds)) ∧ Below w.heap.size w w' := by
  obtain ⟨a, cap, rfl, hm, hc⟩ := h.open'
  unfold insF
  by_cases h : 10 < ds.length
  · rw [if_pos h]
    exact (inodesFault_many w _ _ _ h).mono fun e w' ⟨h1, h2⟩ => ⟨h1, h2 ▸ Below.refl _ _⟩
  · rw [if_neg h]
    exact inodesFault_walk w _ _ _ ds (by omega) rfl (fun k => by have := isz_le ds k; unfold sizeInos at hs; omega) hc
end Go.Proofs.Ytedpooagalmgdan

namespace Go.Proofs.Ytedpooagalmgdan
open Go.RowKit
set_option maxRecDepth 100000

/-- An array that holds how many need each block. -/
def arrC (f : Nat → Nat) : Array Value := ((List.range 20).map fun i => intV ((f i : Nat) : Int)).toArray
theorem arrC_size (f : Nat → Nat) : (arrC f).size = 20 := by simp [arrC]
theorem arrC_get (f : Nat → Nat) {i : Nat} (h : i < 20) : (arrC f)[i]? = some (.int .i64 ((f i : Nat) : Int)) := by
  simp [arrC, h, intV]
theorem arrC_set (f : Nat → Nat) (q x : Nat) : (arrC f).setIfInBounds q (.int .i64 ((x : Nat) : Int)) = arrC (fun i => if i = q then x else f i) := by
  apply Array.ext_getElem?
  intro i
  rw [Array.getElem?_setIfInBounds]
  by_cases hi : i < 20
  · rw [arrC_get _ hi, arrC_get _ hi, arrC_size]
    by_cases e : q = i
    · subst e; simp [hi]
    · rw [if_neg e, if_neg (fun h => e h.symm)]
  · have h1 : (arrC f)[i]? = none := by rw [Array.getElem?_eq_none_iff, arrC_size]; omega
    have h2 : (arrC (fun i => if i = q then x else f i))[i]? = none := by rw [Array.getElem?_eq_none_iff, arrC_size]; omega
    rw [h1, h2, arrC_size]
    by_cases e : q = i
    · subst e; simp [hi]
    · rw [if_neg e]
/-- Block b holds the counts f. -/
def Arr (w : World) (b : Nat) (f : Nat → Nat) : Prop := w.heap[b]? = some (.cells (arrC f) 94)
theorem Arr.cell {w : World} {b : Nat} {f : Nat → Nat} (h : Arr w b f) {i : Nat} (hi : i < 20) : w.cell? ⟨b, i, none⟩ = some (.int .i64 ((f i : Nat) : Int)) := by
  simp [World.cell?, show w.heap[b]? = some (.cells (arrC f) 94) from h, arrC_get f hi]
theorem Arr.frozen {w : World} {b : Nat} {f : Nat → Nat} (h : Arr w b f) (i : Nat) : w.frozen? ⟨b, i, none⟩ = false := by
  simp [World.frozen?, show w.heap[b]? = some (.cells (arrC f) 94) from h]
theorem Arr.lt {w : World} {b : Nat} {f : Nat → Nat} (h : Arr w b f) : b < w.heap.size := (Array.getElem?_eq_some_iff.1 h).1
theorem Arr.later {w w' : World} {b : Nat} {f : Nat → Nat} (h : Arr w b f) (hb : Below w.heap.size w w') : Arr w' b f := (hb.block b h.lt).trans h
theorem Arr.set {w : World} {b : Nat} {f : Nat → Nat} (h : Arr w b f) (q x : Nat) : Arr (w.setCell ⟨b, q, none⟩ (.int .i64 ((x : Nat) : Int))) b (fun i => if i = q then x else f i) := by
  have h' : w.heap[b]? = some (.cells (arrC f) 94) := h
  unfold Arr
  rw [← arrC_set f q x]
  simp [World.setCell, Array.getElem?_modify, h']
theorem Arr.store {w : World} {b : Nat} {f : Nat → Nat} (h : Arr w b f) {p : Addr} (hp : b ≠ p.block) (v : Value) : Arr (w.setCell p v) b f := (Below.heap_setCell _ _ _ _ hp).trans h
theorem Arr.new (w : World) (f : Nat → Nat) : Arr (w.alloc (.cells (arrC f) 94)) w.heap.size f := Go.Deep.blk_alloc_new _ _

theorem arrC_one (f : Nat → Nat) : (arrC f).all (·.oneCell') = true := by
  unfold arrC
  rw [Array.all_eq_true_iff_forall_mem]
  intro v hv
  simp only [List.mem_toArray, List.mem_map] at hv
  obtain ⟨i, _, rfl⟩ := hv
  rfl
theorem Try.infoNeeds : (Try.prog.info? 94).map (·.size) = some 20 := by kernel_rfl
theorem Arr.load {w : World} {b : Nat} {f : Nat → Nat} (h : Arr w b f) : (Instr.loadAt 94 (.pointer (some ⟨b, 0, none⟩))).run Try.prog w = .ok (.agg (arrC f)) w := by
  simp only [Instr.loadAt, Instr.sureAddr, Sem.run_bind, Sem.run_pure, Result.andThen]
  exact run_loadVar_row w b _ _ (arrC f) (0, 0) _ h Try.underlying94 rfl (by rw [arrC_size]; exact Try.infoNeeds)
theorem Arr.loadV {w : World} {b : Nat} {f : Nat → Nat} (h : Arr w b f) : (loadVar 94 ⟨b, 0, none⟩).run Try.prog w = .ok (.agg (arrC f)) w :=
  run_loadVar_row w b _ _ (arrC f) (0, 0) _ h Try.underlying94 rfl (by rw [arrC_size]; exact Try.infoNeeds)
theorem Arr.put {w : World} {b : Nat} {f : Nat → Nat} (h : Arr w b f) (g : Nat → Nat) : ∃ X, (Instr.storeAt 94 (.pointer (some ⟨b, 0, none⟩)) (.agg (arrC g))).run Try.prog w = .ok () X ∧ Arr X b g ∧ X.heap.size = w.heap.size ∧ (∀ c, c ≠ b → X.heap[c]? = w.heap[c]?) ∧ X.os = w.os ∧ X.tape = w.tape ∧ X.output = w.output := by
  refine ⟨w.setRow b (arrC g), ?_, ?_, ?_, fun c hc => ?_, rfl, rfl, rfl⟩
  · simp only [Instr.storeAt, Instr.sureAddr, Sem.run_bind, Sem.run_pure, Result.andThen]
    rw [run_storeVar_row w b _ _ (arrC f) (arrC g) h (by rw [arrC_size]; exact Try.infoNeeds) (by rw [arrC_size, arrC_size]) (arrC_one g)]
  · have h' : w.heap[b]? = some (.cells (arrC f) 94) := h
    unfold Arr
    simp [World.setRow, Array.getElem?_modify, h']
  · simp [World.setRow]
  · simp only [World.setRow]
    rw [Array.getElem?_modify, if_neg (fun e => hc e.symm)]
section
variable {P : Program} {w : World}
/-- A load, a store whose run is known, at its place in a walk. -/
theorem wpList_load_run {ops : Array Oper} {rest : List Oper} {o : Oper} {a : Act} {Q : Exit → Act → World → Prop} (hgd : o.guard = none) (s : Operand) (t : TypeId) (ho : o.op = .load t s) (v : Value) (hs : a.eval s = v) (v' : Value) (w' : World)
    (hr : (Instr.loadAt t v).run P w = .ok v' w') (h : wpList P ops Q rest (a.put o.dst v') w') : wpList P ops Q (o :: rest) a w := by
  refine wpList_plain hgd fun K hK => ?_
  unfold Oper.wp execOp
  simp only [ho, Sem.run_bind, Sem.run_pure, hs, hr, Result.andThen_ok]
  exact hK _ _ h
theorem wpList_store_run {ops : Array Oper} {rest : List Oper} {o : Oper} {a : Act} {Q : Exit → Act → World → Prop} (hgd : o.guard = none) (s x : Operand) (t : TypeId) (ho : o.op = .store t s x) (v y : Value) (hs : a.eval s = v) (hx : a.eval x = y) (w' : World)
    (hr : (Instr.storeAt t v y).run P w = .ok () w') (h : wpList P ops Q rest (a.put o.dst undef) w') : wpList P ops Q (o :: rest) a w := by
  refine wpList_plain hgd fun K hK => ?_
  unfold Oper.wp execOp
  simp only [ho, Sem.run_bind, Sem.run_pure, hs, hx, hr, Result.andThen_ok]
  exact hK _ _ h
end

set_option maxHeartbeats 800000 in
theorem needsWith_walk (w : World) (a : Option Addr) (n c : Nat) (f : Nat → Nat) (bs : List Int) (hn : n ≤ 1048576) (hbn : bs.length = n) (hf : ∀ i, f i ≤ 1000000000000) (hr : ∀ k, k < n → 0 ≤ bs[k]?.getD 0 ∧ bs[k]?.getD 0 < 20) (hc : At1 w a n (fun k => .int .i64 (bs[k]?.getD 0))) :
    Calls Try.prog 70 #[.agg (arrC f), .slice a n c] w fun e w' => e = .returned (.agg (arrC fun i => f i + bs.count (i : Int))) ∧ Below w.heap.size w w' := by
  have HC : Hid (At1 w a n (fun k => .int .i64 (bs[k]?.getD 0))) := hc
  have HR : Hid (∀ k, k < n → 0 ≤ bs[k]?.getD 0 ∧ bs[k]?.getD 0 < 20) := hr
  have HN : Hid (bs.length = n) := hbn
  have HF : Hid (∀ i, f i ≤ 1000000000000) := hf
  clear hc hr hbn hf
  have hsz := arrC_size f
  have h0 := Arr.new w f
  have z1 := Arr.new (w.alloc (.cells (arrC f) 94)) (fun _ => 0)
  have z0 := h0.later (later1 _ (.cells (arrC fun _ => 0) 94))
  rw [World.size_alloc] at z1
  have HB0 : Hid (Below w.heap.size w ((w.alloc (.cells (arrC f) 94)).alloc (.cells (arrC fun _ => 0) 94))) := later2 _ _ _
  have HZ0 : Hid (Arr _ _ _) := z0
  have HZ1 : Hid (Arr _ _ _) := z1
  clear h0 z0 z1
  go_enter Try.func70, Try.ntmps70
  go_wp2
  go_loopw [9] (fun i wr => ∃ j : Nat, j ≤ n ∧ i = .int .i64 j ∧ Below w.heap.size w wr ∧ Arr wr w.heap.size (fun i => f i + (bs.take j).count (i : Int)) ∧ Arr wr (w.heap.size + 1) (fun _ => 0)) (fun i _ => n - (intOf i).toNat)
  case atStart => exact ⟨0, Nat.zero_le _, rfl, HB0.out, by simp only [List.take_zero, List.count_nil, Nat.add_zero]; exact HZ0.out, HZ1.out⟩
  case round =>
    clear HB0 HZ0 HZ1
    obtain ⟨j, hj, rfl, hbl, hx, hy⟩ := hrel
    have HBL : Hid (Below w.heap.size w wr) := hbl
    have HX : Hid (Arr wr w.heap.size (fun i => f i + (bs.take j).count (i : Int))) := hx
    have HY : Hid (Arr wr (w.heap.size + 1) (fun _ => 0)) := hy
    clear hbl hx hy
    by_cases hlt : j < n
    · obtain ⟨b, o, rfl, d1⟩ := HC.out j hlt
      replace d1 : w.cell? ⟨b, o + j, none⟩ = some (.int .i64 (bs[j]?.getD 0)) := d1
      replace d1 := cell_later HBL.out d1
      have hrj := HR.out j hlt
      obtain ⟨q, hq⟩ := Int.eq_ofNat_of_zero_le hrj.1
      have hq20 : q < 20 := by omega
      have hfq := HF.out q
      have hct : (bs.take j).count (q : Int) ≤ 1048576 := by
        have := List.count_le_length (a := (q : Int)) (l := bs.take j)
        rw [List.length_take] at this
        omega
      have HNX : Hid (∀ i : Nat, (bs.take (j + 1)).count (i : Int) = (bs.take j).count (i : Int) + if i = q then 1 else 0) := fun i => by
        rw [count_next bs (i : Int) j (by rw [HN.out]; exact hlt), hq]
        congr 1
        by_cases e : i = q
        · rw [if_pos e, if_pos (by omega)]
        · rw [if_neg e, if_neg (by omega)]
      rw [hq] at d1
      have e1 := HX.out.cell hq20
      have e2 := HX.out.frozen q
      clear hrj hq HC HR
      have HS := HX.out.set q (f q + (bs.take j).count (q : Int) + 1)
      have HS' : Hid (Arr (wr.setCell ⟨w.heap.size, q, none⟩ (.int .i64 ((f q + (bs.take j).count (q : Int) + 1 : Nat) : Int))) w.heap.size (fun i => f i + (bs.take (j + 1)).count (i : Int))) := by
        have he : (fun i => f i + (bs.take (j + 1)).count (i : Int)) = (fun i : Nat => if i = q then f q + (bs.take j).count (q : Int) + 1 else f i + (bs.take j).count (i : Int)) := by
          funext i
          rw [HNX.out i]
          by_cases e : i = q
          · subst e; rw [if_pos rfl, if_pos rfl]; omega
          · rw [if_neg e, if_neg e]; omega
        unfold Hid
        rw [he]
        exact HS
      clear HS HNX
      generalize (bs.take j).count (q : Int) = cq at *
      generalize f q = fq at *
      go_wp2
      go_roundw
      case rel => exact ⟨j + 1, by omega, by go_num, HBL.out.setCell (by simp) _, by first | exact HS'.out | simpa using HS'.out, HY.out.store (by simp) _⟩
      case measure => simp [intOf]; omega
    · have he : bs.take j = bs := List.take_of_length_le (by rw [HN.out]; omega)
      rw [he] at HX
      clear he
      generalize hg : (fun i : Nat => f i + bs.count (i : Int)) = g at HX
      have HGE : Hid ((fun i : Nat => f i + bs.count (i : Int)) = g) := hg
      clear hg
      have HL : Hid (_ = _) := HX.out.load
      obtain ⟨X, hst, hax, hsx, hoth, hx1, hx2, hx3⟩ := HY.out.put g
      have HST : Hid (_ = _) := hst
      have HAX : Hid (Arr X (w.heap.size + 1) g) := hax
      have HBX : Hid (Below w.heap.size w X) := HBL.out.trans ⟨hx1, hx2, hx3, by omega, fun c hc => hoth c (by omega)⟩
      clear hst hax hsx hoth hx1 hx2 hx3
      go_wp2_with (first | refine wpList_load_run rfl _ 94 rfl _ rfl _ _ HL.out ?_ | refine wpList_store_run rfl _ _ 94 rfl _ _ rfl rfl _ HST.out ?_)
      refine bodyPost_ret (v := .agg (arrC g)) ?_ rfl ⟨by rw [HGE.out], HBX.out⟩
      have hlv := HAX.out.loadV
      simp [results, Try.results70, asAddr, Act.put, hlv]
end Go.Proofs.Ytedpooagalmgdan

namespace Go.Proofs.Ytedpooagalmgdan
open Go.RowKit
set_option maxRecDepth 100000

theorem needsWith_any {w : World} {v : Value} {bs : List Int} (h : Ints w v bs) (f : Nat → Nat) (hn : bs.length ≤ 1048576) (hf : ∀ i, f i ≤ 1000000000000) (hr : ∀ k : Nat, k < bs.length → 0 ≤ bs[k]?.getD 0 ∧ bs[k]?.getD 0 < 20) :
    Calls Try.prog 70 #[.agg (arrC f), v] w fun e w' => e = .returned (.agg (arrC fun i => f i + bs.count (i : Int))) ∧ Below w.heap.size w w' := by
  obtain ⟨a, cap, rfl, _, hc⟩ := h.open'
  exact needsWith_walk w a _ cap f bs hn rfl hf hr hc
/-- Blocks of inodes without a fault stand within the bounds. -/
theorem inoF_blocks {d : ID} (h : inoF d = 0) (k : Nat) (hk : k < d.2.2.2.1.length) : 0 ≤ d.2.2.2.1[k]?.getD 0 ∧ d.2.2.2.1[k]?.getD 0 < 20 := by
  have hp : ∀ x : Bool, (decide (d.2.1 ≠ 0) || decide (d.2.2.1 ≠ 0) || decide (0 < d.2.2.2.1.length)) = x → x = true := fun x hx => by
    rw [← hx, decide_eq_true (show 0 < d.2.2.2.1.length by omega)]; simp
  have hfp : fpB d = true := hp _ rfl
  unfold inoF at h
  rw [hfp] at h
  split at h
  · simp at h
  · split at h
    · split at h
      · omega
      · unfold fileF at h
        split at h
        · split at h
          · unfold blkF at h
            split at h
            · rename_i hz
              have := fstNZ_inv hz k hk
              unfold rngF at this
              split at this
              · omega
              · omega
            · rename_i hz; exact absurd h hz
          · omega
        · omega
    · split at h
      · simp at h
      · omega
theorem insF_len {ds : List ID} (h : insF ds = 0) : ds.length ≤ 10 := by
  unfold insF at h
  split at h
  · omega
  · omega
theorem insF_each {ds : List ID} (h : insF ds = 0) (j : Nat) (hj : j < ds.length) : inoF (ds[j]?.getD id0) = 0 := by
  unfold insF at h
  split at h
  · omega
  · exact fstNZ_inv (f := fun i => inoF (ds[i]?.getD id0)) h j hj
theorem insF_blocks {ds : List ID} (h : insF ds = 0) (j k : Nat) (hj : j < ds.length) (hk : k < (ds[j]?.getD id0).2.2.2.1.length) : 0 ≤ (ds[j]?.getD id0).2.2.2.1[k]?.getD 0 ∧ (ds[j]?.getD id0).2.2.2.1[k]?.getD 0 < 20 := inoF_blocks (insF_each h j hj) k hk

set_option maxHeartbeats 1600000 in
theorem needsOf_walk (w : World) (a : Option Addr) (n c : Nat) (ds : List ID) (hdn : ds.length = n) (hn : n ≤ 1048576) (hs : (isz ds).sum ≤ 1048576) (hr : ∀ j k : Nat, j < n → k < (ds[j]?.getD id0).2.2.2.1.length → 0 ≤ (ds[j]?.getD id0).2.2.2.1[k]?.getD 0 ∧ (ds[j]?.getD id0).2.2.2.1[k]?.getD 0 < 20) (hc : AtI w a n ds) :
    Calls Try.prog 62 #[.slice a n c] w fun e w' => e = .returned (.agg (arrC fun i => cntB ds (i : Int))) ∧ Below w.heap.size w w' := by
  have HC : Hid (AtI w a n ds) := hc
  have HN : Hid (ds.length = n) := hdn
  have HR : Hid (∀ j k : Nat, j < n → k < (ds[j]?.getD id0).2.2.2.1.length → 0 ≤ (ds[j]?.getD id0).2.2.2.1[k]?.getD 0 ∧ (ds[j]?.getD id0).2.2.2.1[k]?.getD 0 < 20) := hr
  have HS : Hid (∀ (j : Nat) (v : Int), (((ds.take j).flatMap fun d => d.2.2.2.1)).count v ≤ 1000000000000) := fun j v => by
    have h1 := flat_take (fun d : ID => d.2.2.2.1) ds j
    have h2 := allB_len ds
    have h3 := List.count_le_length (a := v) (l := (ds.take j).flatMap fun d => d.2.2.2.1)
    unfold allB at h2
    omega
  have HX : Hid (∀ (j : Nat), j < n → (fun i : Nat => ((ds.take j).flatMap fun d => d.2.2.2.1).count (i : Int) + ((ds[j]?.getD id0).2.2.2.1).count (i : Int)) = (fun i : Nat => ((ds.take (j + 1)).flatMap fun d => d.2.2.2.1).count (i : Int))) := fun j hj => by
    funext i
    rw [flat_next (fun d : ID => d.2.2.2.1) ds id0 j (by omega), List.count_append]
  have HZ : Hid (∀ j : Nat, (ds[j]?.getD id0).2.2.2.1.length ≤ 1048576) := fun j => by
    have := isz_le ds j
    have hd : sizeIno (ds[j]?.getD id0) = (ds[j]?.getD id0).2.2.2.1.length + sizeN (ds[j]?.getD id0).2.2.2.2 := rfl
    omega
  have HE : Hid ((fun i : Nat => cntB ds (i : Int)) = (fun i : Nat => ((ds.take n).flatMap fun d => d.2.2.2.1).count (i : Int))) := by unfold Hid cntB allB; rw [List.take_of_length_le (by omega)]
  clear hc hdn hr hs
  have z0 := Arr.new w (fun _ => 0)
  have z1 := Arr.new (w.alloc (.cells (arrC fun _ => 0) 94)) (fun _ => 0)
  replace z0 := z0.later (later1 _ (.cells (arrC fun _ => 0) 94))
  rw [World.size_alloc] at z1
  have HB0 : Hid (Below w.heap.size w ((w.alloc (.cells (arrC fun _ => 0) 94)).alloc (.cells (arrC fun _ => 0) 94))) := later2 _ _ _
  have HZ0 : Hid (Arr _ _ _) := z0
  have HZ1 : Hid (Arr _ _ _) := z1
  clear z0 z1
  rw [HE.out]
  clear HE
  generalize hG : (fun (j i : Nat) => ((ds.take j).flatMap fun d => d.2.2.2.1).count (i : Int)) = G at *
  have HG : Hid (∀ j i, ((ds.take j).flatMap fun d => d.2.2.2.1).count ((i : Nat) : Int) = G j i) := fun j i => congrFun (congrFun hG j) i
  have HGB : Hid (∀ j i, G j i ≤ 1000000000000) := fun j i => by rw [← HG.out j i]; exact HS.out j _
  have HG0 : Hid ((fun _ : Nat => 0) = G 0) := by unfold Hid; funext i; rw [← HG.out 0 i]; simp
  simp only [HG.out] at HX ⊢
  clear hG HG HS
  go_enter Try.func62, Try.ntmps62
  go_wp2
  go_loopw [8] (fun i wr => ∃ j : Nat, j ≤ n ∧ i = .int .i64 j ∧ Below w.heap.size w wr ∧ Arr wr (w.heap.size + 1) (G j) ∧ Arr wr w.heap.size (fun _ => 0)) (fun i _ => n - (intOf i).toNat)
  case atStart => exact ⟨0, Nat.zero_le _, rfl, HB0.out, HG0.out ▸ HZ1.out, HZ0.out⟩
  case round =>
    clear HB0 HZ0 HZ1
    obtain ⟨j, hj, rfl, hbl, hx, hy⟩ := hrel
    have HBL : Hid (Below w.heap.size w wr) := hbl
    have HA : Hid (Arr wr (w.heap.size + 1) (G j)) := hx
    have HY : Hid (Arr wr w.heap.size (fun _ => 0)) := hy
    have hw0 := hx.lt
    clear hbl hx hy
    by_cases hlt : j < n
    · obtain ⟨b, o, rfl, hI⟩ := HC.out j hlt
      obtain ⟨aB, cB, aE, cE, c0, c1, c2, c3, c4, hR⟩ := hI.later HBL.out
      have HW : Hid (∀ W, Below wr.heap.size wr W → Calls Try.prog 70 #[.agg (arrC (G j)), .slice aB (ds[j]?.getD id0).2.2.2.1.length cB] W fun e w' => e = .returned (.agg (arrC (G (j + 1)))) ∧ Below W.heap.size W w') := fun W hW => by
        have hx := needsWith_any (hR.2.1.later hW) (G j) (HZ.out j) (HGB.out j) (fun k hk => HR.out j k hlt hk)
        have e : (fun i : Nat => G j i + ((ds[j]?.getD id0).2.2.2.1).count (i : Int)) = G (j + 1) := HX.out j hlt
        rw [e] at hx
        exact hx
      have HL : Hid (∀ o, (Instr.loadAt 94 (.pointer (some ⟨w.heap.size + 1, 0, none⟩))).run Try.prog (wr.alloc o) = .ok (.agg (arrC (G j))) (wr.alloc o)) := fun o => (HA.out.later (later1 _ _)).load
      clear hI hR HC HR
      generalize hg2 : G (j + 1) = g2 at HW
      generalize G j = g1 at HW HL HA
      have HG2 : Hid (G (j + 1) = g2) := hg2
      clear hg2
      generalize (ds[j]?.getD id0) = d at *
      go_wp2_with (first | refine wpList_load_run rfl _ 94 rfl _ rfl _ _ (HL.out _) ?_ | fail)
      clear c0 c1 c2 c3 c4
      refine (HW.out _ (later1 _ _)).mono ?_
      rintro e w2 ⟨rfl, hb2⟩
      have hbw : Below wr.heap.size wr w2 := (later1 _ _).trans (hb2.mono (by simp))
      obtain ⟨X, hst, hax, hsx, hoth, hx1, hx2, hx3⟩ := (HA.out.later hbw).put g2
      have HST : Hid (_ = _) := hst
      have HAX : Hid (Arr X (w.heap.size + 1) g2) := hax
      have HBX : Hid (Below w.heap.size w X) := (HBL.out.trans (hbw.mono HBL.out.size)).trans ⟨hx1, hx2, hx3, by omega, fun c hc => hoth c (by omega)⟩
      have HYX : Hid (Arr X w.heap.size (fun _ => 0)) := (hoth _ (by omega)).trans (HY.out.later hbw)
      clear hst hax hsx hoth hx1 hx2 hx3 hb2 hbw
      go_wp2_with (first | refine wpList_store_run rfl _ _ 94 rfl _ _ rfl rfl _ HST.out ?_ | fail)
      go_roundw
      case rel => exact ⟨j + 1, by omega, by go_num, HBX.out, by rw [HG2.out]; exact HAX.out, HYX.out⟩
      case measure => simp [intOf]; omega
    · have HGN : Hid (G j = G n) := by unfold Hid; rw [show j = n by omega]
      have HL : Hid (_ = _) := HA.out.load
      obtain ⟨X, hst, hax, hsx, hoth, hx1, hx2, hx3⟩ := HY.out.put (G j)
      have HST : Hid (_ = _) := hst
      have HAX : Hid (Arr X w.heap.size (G n)) := HGN.out ▸ hax
      have HBX : Hid (Below w.heap.size w X) := HBL.out.trans ⟨hx1, hx2, hx3, by omega, fun c hc => hoth c (by omega)⟩
      clear hst hax hsx hoth hx1 hx2 hx3
      generalize G j = g1 at HL HST
      go_wp2_with (first | refine wpList_load_run rfl _ 94 rfl _ rfl _ _ HL.out ?_ | refine wpList_store_run rfl _ _ 94 rfl _ _ rfl rfl _ HST.out ?_)
      refine bodyPost_ret (v := .agg (arrC (G n))) ?_ rfl ⟨rfl, HBX.out⟩
      have hlv := HAX.out.loadV
      simp [results, Try.results62, asAddr, Act.put, hlv]
theorem needsOf_any {w : World} {v : Value} {ds : List ID} (h : Inos w v ds) (hs : sizeInos ds ≤ 1048576) (hf : insF ds = 0) :
    Calls Try.prog 62 #[v] w fun e w' => e = .returned (.agg (arrC fun i => cntB ds (i : Int))) ∧ Below w.heap.size w w' := by
  obtain ⟨a, cap, rfl, hm, hc⟩ := h.open'
  unfold sizeInos at hs
  exact needsOf_walk w a _ cap ds rfl (by omega) (by omega) (fun j k hj hk => insF_blocks hf j k hj hk) hc

theorem Arr.keep {w w' : World} {b : Nat} {f : Nat → Nat} (h : Arr w b f) (hk : KeepT w w') : Arr w' b f := hk _ _ _ _ (by decide) h

def manyB (f : Nat → Nat) : Bool := (List.range 20).any fun k => decide (1 < f k)
set_option maxHeartbeats 800000 in
theorem anyOfTwo_any (w : World) (f : Nat → Nat) (hf : ∀ i, f i ≤ 1000000000000) :
    Calls Try.prog 63 #[.agg (arrC f)] w fun e w' => e = .returned (.bool (manyB f)) ∧ Below w.heap.size w w' := by
  have HA : Hid (Arr (w.alloc (.cells (arrC f) 94)) w.heap.size f) := Arr.new w f
  have HF : Hid (∀ i, f i ≤ 1000000000000) := hf
  have HB : Hid (Below w.heap.size w (w.alloc (.cells (arrC f) 94))) := later1 _ _
  have hsz := arrC_size f
  clear hf
  go_enter Try.func63, Try.ntmps63
  go_wp2
  generalize w.alloc (.cells (arrC f) 94) = W at *
  go_loopw [4] (fun i wr => ∃ j : Nat, j ≤ 20 ∧ i = .int .i64 j ∧ wr = W ∧ ∀ i : Nat, i < j → ¬ 1 < f i) (fun i _ => 20 - (intOf i).toNat)
  case atStart => exact ⟨0, Nat.zero_le _, rfl, rfl, fun i hi => by omega⟩
  case round =>
    obtain ⟨j, hj, rfl, hw, hz⟩ := hrel
    have HZ : Hid (∀ i : Nat, i < j → ¬ 1 < f i) := hz
    rw [← hw] at HA HB
    have HWE : Hid (wr = W) := hw
    clear hz hw
    by_cases hlt : j < 20
    · have c0 := HA.out.cell hlt
      have hfj := HF.out j
      by_cases h1 : 1 < f j
      · have HR : Hid (manyB f = true) := by
          unfold Hid manyB
          rw [List.any_eq_true]
          exact ⟨j, by simpa using hlt, by simpa using h1⟩
        have hd : decide ((1 : Int) < ((f j : Nat) : Int)) = true := by simp; omega
        clear h1
        generalize f j = x at *
        go_wp2
        go_ret
        exact ⟨ret_bool HR.out.symm, HB.out⟩
      · have HR : Hid (∀ i : Nat, i < j + 1 → ¬ 1 < f i) := fun i hi => by
          by_cases e : i = j
          · subst e; exact h1
          · exact HZ.out i (by omega)
        have hd : decide ((1 : Int) < ((f j : Nat) : Int)) = false := by simp; omega
        clear h1
        generalize hx : f j = x at c0 hd hfj
        clear hx
        go_wp2
        go_roundw
        case rel => exact ⟨j + 1, by omega, by go_num, HWE.out, HR.out⟩
        case measure => simp [intOf]; omega
    · have HR : Hid (manyB f = false) := by
        unfold Hid manyB
        rw [List.any_eq_false]
        intro k hk
        simp only [List.mem_range] at hk
        simpa using HZ.out k (by omega)
      go_wp2
      go_ret
      exact ⟨ret_bool HR.out.symm, HB.out⟩

end Go.Proofs.Ytedpooagalmgdan

namespace Go.Proofs.Ytedpooagalmgdan
open Go.RowKit
set_option maxRecDepth 100000

def fsF (d : FD) : Int := if fsE d = 0 then (if linksB d.1 && sizesB d then 0 else 1) else fsE d
theorem fsE_zero {d : FD} (h : fsE d = 0) : insF d.1 = 0 ∧ formB d = false ∧ fstNZ (manyF d.2) d.2.length = 0 ∧ onceB d.1 20 = true ∧ lostF d.1 = 0 := by
  unfold fsE at h
  by_cases h1 : insF d.1 = 0
  · rw [if_pos h1] at h
    by_cases h2 : formB d = true
    · rw [if_pos h2] at h; omega
    · rw [if_neg h2] at h
      by_cases h3 : fstNZ (manyF d.2) d.2.length = 0
      · rw [if_pos h3] at h
        by_cases h4 : onceB d.1 20 = true
        · rw [if_pos h4] at h
          exact ⟨h1, by simpa using h2, h3, h4, h⟩
        · rw [if_neg h4] at h; omega
      · rw [if_neg h3] at h; exact absurd h h3
  · rw [if_neg h1] at h; exact absurd h h1
theorem formB_no {d : FD} (h : formB d = false) : ¬ d.1.length = 0 ∧ kindAt d.1 0 = 2 ∧ d.2.length = 20 := by
  unfold formB at h
  simp at h
  obtain ⟨⟨h1, h2⟩, h3⟩ := h
  exact ⟨fun e => h1 (List.eq_nil_of_length_eq_zero e), h2, h3⟩
theorem insF_ten {ds : List ID} (h : insF ds = 0) : ds.length ≤ 10 := by
  unfold insF at h
  by_cases h1 : 10 < ds.length
  · rw [if_pos h1] at h; omega
  · omega
theorem lost_in {ds : List ID} (hi : insF ds = 0) (h : lostF ds = 0) : ∀ j, j < ds.length → ∀ k, k < (ds[j]?.getD id0).2.2.2.2.length → 0 ≤ ((ds[j]?.getD id0).2.2.2.2[k]?.getD en0).2 ∧ ((ds[j]?.getD id0).2.2.2.2[k]?.getD en0).2 < (ds.length : Int) := fun j hj k hk => by
  refine ⟨ino_ent (ins_ino hi j hj) k hk, ?_⟩
  cases hl : lostB ds ((ds[j]?.getD id0).2.2.2.2[k]?.getD en0).2 with
  | true => rw [lost_yes hj hk hl] at h; omega
  | false =>
    unfold lostB at hl
    simp at hl
    omega
theorem ins_blk {ds : List ID} (h : insF ds = 0) (j k : Nat) (hj : j < ds.length) (hk : k < (ds[j]?.getD id0).2.2.2.1.length) : 0 ≤ (ds[j]?.getD id0).2.2.2.1[k]?.getD 0 ∧ (ds[j]?.getD id0).2.2.2.1[k]?.getD 0 < 20 := by
  have := insF_blocks h j k hj hk
  omega

theorem FsX.box {w : World} {a1 : Option Addr} {n1 c1 : Nat} {a2 : Option Addr} {n2 c2 : Nat} {d : FD} (h : FsR w (.slice a1 n1 c1) (.slice a2 n2 c2) d) (t : TypeId) : FsX (w.alloc (.cells #[.slice a1 n1 c1, .slice a2 n2 c2] t)) w.heap.size 0 d a1 c1 a2 c2 ∧ n1 = d.1.length ∧ n2 = d.2.length := by
  obtain ⟨_, _, e1, _, _⟩ := h.1.open'
  obtain ⟨_, _, e2, _, _⟩ := h.2.open'
  simp only [Value.slice.injEq] at e1 e2
  obtain ⟨rfl, rfl, rfl⟩ := e1
  obtain ⟨rfl, rfl, rfl⟩ := e2
  have hx := Bx.new w [.slice a1 d.1.length c1, .slice a2 d.2.length c2] t
  exact ⟨⟨hx 0 _ rfl, hx 1 _ rfl, h.1.later (later1 _ _), h.2.later (later1 _ _)⟩, rfl, rfl⟩
end Go.Proofs.Ytedpooagalmgdan

namespace Go.Proofs.Ytedpooagalmgdan
open Go.RowKit
set_option maxRecDepth 100000

/-- The bytes of the first k blocks of an inode. -/
def bytK (d : FD) (bs : List Int) (k : Nat) : List UInt8 := (bs.take k).flatMap fun b => d.2[b.toNat]?.getD []
def bytL (d : FD) (j : Nat) : List UInt8 := bytK d (d.1[j]?.getD id0).2.2.2.1 (d.1[j]?.getD id0).2.2.2.1.length
def bytR (d : FD) (x : Int) : Int × List UInt8 :=
  if fsF d = 0 then (if 0 ≤ x ∧ x < (d.1.length : Int) then (if kindAt d.1 x.toNat = 2 then (9, []) else if kindAt d.1 x.toNat = 0 then (4, []) else (0, bytL d x.toNat)) else (3, [])) else (fsF d, [])
theorem bytK_next (d : FD) (bs : List Int) (k : Nat) (hk : k < bs.length) : bytK d bs (k + 1) = bytK d bs k ++ (d.2[(bs[k]?.getD 0).toNat]?.getD []) := by
  unfold bytK
  rw [List.take_succ_eq_append_getElem hk, List.flatMap_append]
  simp [List.getElem?_eq_getElem hk]
theorem bytK_len (d : FD) (bs : List Int) (h8 : ∀ i : Nat, (d.2[i]?.getD []).length ≤ 8) : ∀ k, k ≤ bs.length → (bytK d bs k).length ≤ 8 * k
  | 0, _ => by simp [bytK]
  | k + 1, hk => by
    rw [bytK_next d bs k hk, List.length_append]
    have h1 := bytK_len d bs h8 k (by omega)
    have h2 := h8 (bs[k]?.getD 0).toNat
    omega
theorem many_eight {zss : List (List UInt8)} (h : fstNZ (manyF zss) zss.length = 0) (i : Nat) : (zss[i]?.getD []).length ≤ 8 := by
  by_cases hi : i < zss.length
  · have := fstNZ_inv h i hi
    unfold manyF at this
    by_cases h8 : 8 < (zss[i]?.getD []).length
    · rw [if_pos h8] at this; omega
    · omega
  · rw [List.getElem?_eq_none (by omega)]; simp

set_option maxHeartbeats 400000 in
theorem l6Place_any (w : World) (b o : Nat) (d : FD) (aI : Option Addr) (cI : Nat) (aD : Option Addr) (cD : Nat) (x : Int) (h : FsX w b o d aI cI aD cD) :
    Calls Try.prog 33 #[.pointer (some ⟨b, o, none⟩), .int .i64 x] w fun e w' => e = .returned (.bool (decide (0 ≤ x ∧ x < (d.1.length : Int)))) ∧ w' = w := by
  obtain ⟨_, _, e1, hm1, _⟩ := h.ins.open'
  have hm := hm1.1
  unfold maxLen at hm
  have c0 := h.c0
  have HE : Hid ((decide (0 ≤ x) && decide (x ≤ ((d.1.length : Nat) : Int) - 1)) = decide (0 ≤ x ∧ x < (d.1.length : Int))) := by
    unfold Hid
    by_cases hq : 0 ≤ x ∧ x < (d.1.length : Int)
    · rw [decide_eq_true hq, decide_eq_true hq.1, decide_eq_true (by omega)]; rfl
    · rw [decide_eq_false hq, Bool.and_eq_false_iff]
      by_cases h0 : 0 ≤ x
      · exact Or.inr (decide_eq_false (by omega))
      · exact Or.inl (decide_eq_false h0)
  clear h e1 hm1
  generalize d.1.length = n at *
  go_enter Try.func33, Try.ntmps33
  go_wp2_with fail
  refine (l1In_any _ _ _ _).mono ?_
  rintro e w1 ⟨rfl, rfl⟩
  go_wp2
  go_ret
  exact ⟨ret_bool HE.out, rfl⟩

theorem AnsYR.put {w W : World} {rb : Nat} {r : Int} {zs : List UInt8} {a : Option Addr} {n c : Nat} (hB : Below w.heap.size w W) (hrb : w.heap.size ≤ rb) (hY : BytO W (.slice a n c) zs (fun b => rb < b ∧ b < W.heap.size)) (x y : Value) : AnsYR w (r, zs) (.returned (.agg #[.int .i64 r, .slice a n c])) ((W.setCell ⟨rb, 0, none⟩ x).setCell ⟨rb, 1, none⟩ y) := by
  refine ⟨a, n, c, rfl, (hB.setCell (by simpa using hrb) _).setCell (by simpa using hrb) _, (hY.keep fun b hb _ => ?_).mono fun b hb => ?_⟩
  · rw [Below.heap_setCell _ _ _ _ (by simp; omega), Below.heap_setCell _ _ _ _ (by simp; omega)]
  · unfold fresh
    simp only [World.setCell, Array.size_modify]
    exact ⟨by omega, hb.2⟩
theorem AnsYR.bad {w W : World} {rb : Nat} (r : Int) (hB : Below w.heap.size w W) (hrb : w.heap.size ≤ rb) (x y : Value) : AnsYR w (r, []) (.returned (.agg #[.int .i64 r, .slice none 0 0])) ((W.setCell ⟨rb, 0, none⟩ x).setCell ⟨rb, 1, none⟩ y) := AnsYR.put hB hrb (Or.inl ⟨rfl, _, _, rfl⟩) x y
theorem fsF_zero {d : FD} (h : fsF d = 0) : fsE d = 0 := by
  unfold fsF at h
  by_cases he : fsE d = 0
  · exact he
  · rw [if_neg he] at h; exact absurd h he

end Go.Proofs.Ytedpooagalmgdan
