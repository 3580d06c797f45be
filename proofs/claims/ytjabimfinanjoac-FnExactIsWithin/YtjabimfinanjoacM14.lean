/- Directories: what their functions ask alike, of the program and of the specification. Directories: where a name stands; IsEmptyDir and LookName, of the program and of the specification. Directories: LookName, of the program and of the specification. strings.Builder: a byte and a text written. The library's iterator over a list of texts. slices.Values, and a builder's text. The specification's l3Split. The specification's l3Split, whole. The last name of a path: the specification's side. Joining names to a path: the specification's side. The program's JoinPath. The last name of a path: both sides. Lists of texts as arguments; the specification's JoinPath; the law of JoinPath. Whether a path lies below another one: the specification's side. Splitting a path: the contracts of the law. Lists of texts in own memory; answers that hold one, in the one form. -/
import Derived.Test.YtjabimfinanjoacM11
import Derived.Test.YtjabimfinanjoacM13
import Derived.BigQuiet
import Derived.Test.YtjabimfinanjoacM01
import Derived.Test.YtjabimfinanjoacM02
import Derived.Lib.Builder
import Derived.Lib.AppendStr
import Derived.Laws.Externs
import Derived.Lib.UnsafeStr
import Derived.Shelf.RegionOpenPlain
import Derived.Test.YtjabimfinanjoacM00
namespace Go.Proofs.Ytjabimfinanjoac
open Go.RowKit
set_option maxRecDepth 100000

set_option maxHeartbeats 3200000 in
theorem dirPlaceFault_any (w : World) (a1 : Option Addr) (n1 c1 : Nat) (a2 : Option Addr) (n2 c2 : Nat) (d : FD) (x : Int) (h : FsR w (.slice a1 n1 c1) (.slice a2 n2 c2) d) (hsi : sizeInos d.1 ≤ 1048576) :
    Calls Try.prog 24 #[.agg #[.slice a1 n1 c1, .slice a2 n2 c2], .int .i64 x] w fun e w' => e = .returned (.int .i64 (dirQ d x)) ∧ Below w.heap.size w w' := by
  have HF : Hid (∀ W, Below w.heap.size w W → Calls Try.prog 44 #[.agg #[.slice a1 n1 c1, .slice a2 n2 c2]] W fun e w' => e = .returned (.int .i64 (fsE d)) ∧ Below W.heap.size W w') := fun W hW => reachFault_any W _ _ _ _ _ _ d (h.later hW) hsi
  have HX : Hid (Bx (w.alloc (.cells #[.slice a1 n1 c1, .slice a2 n2 c2] 33)) w.heap.size [.slice a1 n1 c1, .slice a2 n2 c2]) := Bx.new w [.slice a1 n1 c1, .slice a2 n2 c2] _
  have HR : Hid (dirQ d x = if fsE d = 0 then (if 0 ≤ x ∧ x < (d.1.length : Int) then (if kindAt d.1 x.toNat = 2 then 0 else 9) else 3) else fsE d) := rfl
  obtain ⟨_, _, e1, hm1, hAt⟩ := h.1.open'
  obtain ⟨_, _, e2, hm2, hBt⟩ := h.2.open'
  simp only [Value.slice.injEq] at e1 e2
  obtain ⟨rfl, rfl, rfl⟩ := e1
  obtain ⟨rfl, rfl, rfl⟩ := e2
  have HIN : Hid (∀ W, Calls Try.prog 45 #[.agg #[.slice a1 d.1.length c1, .slice a2 d.2.length c2], .int .i64 x] W fun e w' => e = .returned (.bool (decide (0 ≤ x ∧ x < (d.1.length : Int)))) ∧ Below W.heap.size W w') := fun W => isInode_any W _ _ _ _ _ _ x
  clear h hm1 hm2 hBt
  by_cases hf : fsE d = 0
  rotate_left
  · have HQ : Hid (dirQ d x = fsE d) := by unfold Hid; rw [HR.out, if_neg hf]
    rw [HQ.out]
    have hb : (fsE d != 0) = true := by simpa using hf
    clear hf hAt HR HQ HIN
    generalize fsE d = r at *
    generalize d.1.length = n at *
    generalize d.2.length = m at *
    go_enter Try.func24, Try.ntmps24
    go_wp2_with fail
    refine (HF.out _ (later1 _ _)).mono ?_
    rintro e w1 ⟨rfl, hb1⟩
    have HB1 : Hid (Below w.heap.size w w1) := (later1 _ _).trans (hb1.mono (by simp))
    clear hb1
    go_wp2
    go_ret
    exact ⟨rfl, HB1.out⟩
  · rw [hf] at HF
    by_cases hpl : 0 ≤ x ∧ x < (d.1.length : Int)
    rotate_left
    · have HQ : Hid (dirQ d x = 3) := by unfold Hid; rw [HR.out, if_pos hf, if_neg hpl]
      rw [HQ.out]
      rw [decide_eq_false hpl] at HIN
      clear hf hAt HR HQ hpl
      generalize d.1.length = n at *
      generalize d.2.length = m at *
      go_enter Try.func24, Try.ntmps24
      go_wp2_with fail
      refine (HF.out _ (later1 _ _)).mono ?_
      rintro e w1 ⟨rfl, hb1⟩
      have HB1 : Hid (Below w.heap.size w w1) := (later1 _ _).trans (hb1.mono (by simp))
      have y0 := (HX.out.later hb1) 0 _ rfl
      have y1 := (HX.out.later hb1) 1 _ rfl
      clear hb1
      go_wp2_with fail
      refine (HIN.out _).mono ?_
      rintro e w2 ⟨rfl, hb2⟩
      have HB2 : Hid (Below w.heap.size w w2) := HB1.out.trans (hb2.mono HB1.out.size)
      clear hb2 y0 y1
      go_wp2
      go_ret
      exact ⟨rfl, HB2.out⟩
    · rw [decide_eq_true hpl] at HIN
      obtain ⟨j, rfl⟩ : ∃ j : Nat, x = (j : Int) := ⟨x.toNat, by omega⟩
      have hj : j < d.1.length := by omega
      have HQ : Hid (dirQ d (j : Int) = if (d.1[j]?.getD id0).1 = 2 then 0 else 9) := by unfold Hid; rw [HR.out, if_pos hf, if_pos hpl]; rfl
      rw [HQ.out]
      have hjn : (j : Int) < ((d.1.length : Nat) : Int) := by omega
      obtain ⟨b0, o0, rfl, hI⟩ := hAt j hj
      obtain ⟨aB, cB, _, _, kc, _⟩ := hI
      have HKC : Hid (_ = some (Value.int .i64 (d.1[j]?.getD id0).1)) := kc
      clear kc hAt HR HQ hpl hf
      generalize (d.1[j]?.getD id0).1 = kd at *
      generalize d.1.length = n at *
      generalize d.2.length = m at *
      by_cases hk : kd = 2
      · rw [if_pos hk]
        have hb2 : (kd != 2) = false := by simpa using hk
        clear hk
        go_enter Try.func24, Try.ntmps24
        go_wp2_with fail
        refine (HF.out _ (later1 _ _)).mono ?_
        rintro e w1 ⟨rfl, hb1⟩
        have HB1 : Hid (Below w.heap.size w w1) := (later1 _ _).trans (hb1.mono (by simp))
        have HX1 : Hid (Bx w1 w.heap.size _) := HX.out.later hb1
        have y0 := HX1.out 0 _ rfl
        have y1 := HX1.out 1 _ rfl
        clear hb1
        go_wp2_with fail
        refine (HIN.out _).mono ?_
        rintro e w2 ⟨rfl, hb2⟩
        have HB2 : Hid (Below w.heap.size w w2) := HB1.out.trans (hb2.mono HB1.out.size)
        have z0 := (HX1.out.later hb2) 0 _ rfl
        have z1 := (HX1.out.later hb2) 1 _ rfl
        have kc2 := cell_later HB2.out HKC.out
        clear hb2 y0 y1
        go_wp2
        go_ret
        exact ⟨rfl, HB2.out⟩
      · rw [if_neg hk]
        have hb2 : (kd != 2) = true := by simpa using hk
        clear hk
        go_enter Try.func24, Try.ntmps24
        go_wp2_with fail
        refine (HF.out _ (later1 _ _)).mono ?_
        rintro e w1 ⟨rfl, hb1⟩
        have HB1 : Hid (Below w.heap.size w w1) := (later1 _ _).trans (hb1.mono (by simp))
        have HX1 : Hid (Bx w1 w.heap.size _) := HX.out.later hb1
        have y0 := HX1.out 0 _ rfl
        have y1 := HX1.out 1 _ rfl
        clear hb1
        go_wp2_with fail
        refine (HIN.out _).mono ?_
        rintro e w2 ⟨rfl, hb2⟩
        have HB2 : Hid (Below w.heap.size w w2) := HB1.out.trans (hb2.mono HB1.out.size)
        have z0 := (HX1.out.later hb2) 0 _ rfl
        have z1 := (HX1.out.later hb2) 1 _ rfl
        have kc2 := cell_later HB2.out HKC.out
        clear hb2 y0 y1
        go_wp2
        go_ret
        exact ⟨rfl, HB2.out⟩

set_option maxHeartbeats 3200000 in
theorem l8Asked_any (w : World) (b o : Nat) (d : FD) (aI : Option Addr) (cI : Nat) (aD : Option Addr) (cD : Nat) (x : Int) (h : FsX w b o d aI cI aD cD) (hs : sizeInos d.1 ≤ 1048576) :
    Calls Try.prog 21 #[.pointer (some ⟨b, o, none⟩), .int .i64 x] w fun e w' => e = .returned (.int .i64 (dirQ d x)) ∧ Below w.heap.size w w' := by
  have HF : Hid (Calls Try.prog 41 #[.pointer (some ⟨b, o, none⟩)] w fun e w' => e = .returned (.int .i64 (fsE d)) ∧ Below w.heap.size w w') := l6Entries_any w b o d _ _ _ _ h hs
  have HP : Hid (∀ W, Below w.heap.size w W → Calls Try.prog 34 #[.pointer (some ⟨b, o, none⟩), .int .i64 x] W fun e w' => e = .returned (.bool (decide (0 ≤ x ∧ x < (d.1.length : Int)))) ∧ w' = W) := fun W hW => l6Place_any W b o d _ _ _ _ x (h.later hW)
  have HR : Hid (dirQ d x = if fsE d = 0 then (if 0 ≤ x ∧ x < (d.1.length : Int) then (if kindAt d.1 x.toNat = 2 then 0 else 9) else 3) else fsE d) := rfl
  by_cases hf : fsE d = 0
  rotate_left
  · have HQ : Hid (dirQ d x = fsE d) := by unfold Hid; rw [HR.out, if_neg hf]
    rw [HQ.out]
    have hb : (fsE d != 0) = true := by simpa using hf
    clear hf h HR HQ HP
    generalize fsE d = r at *
    go_enter Try.func21, Try.ntmps21
    go_wp2_with fail
    refine HF.out.mono ?_
    rintro e w1 ⟨rfl, hb1⟩
    have HB1 : Hid (Below w.heap.size w w1) := hb1
    clear hb1
    go_wp2
    go_ret
    exact ⟨rfl, HB1.out⟩
  · rw [hf] at HF
    by_cases hpl : 0 ≤ x ∧ x < (d.1.length : Int)
    rotate_left
    · have HQ : Hid (dirQ d x = 3) := by unfold Hid; rw [HR.out, if_pos hf, if_neg hpl]
      rw [HQ.out]
      rw [decide_eq_false hpl] at HP
      clear hf h HR HQ hpl
      go_enter Try.func21, Try.ntmps21
      go_wp2_with fail
      refine HF.out.mono ?_
      rintro e w1 ⟨rfl, hb1⟩
      have HB1 : Hid (Below w.heap.size w w1) := hb1
      clear hb1
      go_wp2_with fail
      refine (HP.out _ HB1.out).mono ?_
      rintro e w2 ⟨rfl, rfl⟩
      go_wp2
      go_ret
      exact ⟨rfl, HB1.out⟩
    · rw [decide_eq_true hpl] at HP
      obtain ⟨j, rfl⟩ : ∃ j : Nat, x = (j : Int) := ⟨x.toNat, by omega⟩
      have hj : j < d.1.length := by omega
      have HQ : Hid (dirQ d (j : Int) = if (d.1[j]?.getD id0).1 = 2 then 0 else 9) := by unfold Hid; rw [HR.out, if_pos hf, if_pos hpl]; rfl
      rw [HQ.out]
      have hjn : (j : Int) < ((d.1.length : Nat) : Int) := by omega
      obtain ⟨_, _, q1, _, hAt⟩ := h.ins.open'
      simp only [Value.slice.injEq] at q1
      obtain ⟨rfl, -, rfl⟩ := q1
      obtain ⟨b0, o0, rfl, hI⟩ := hAt j hj
      obtain ⟨aB, cB, _, _, kc, _⟩ := hI
      have HKC : Hid (_ = some (Value.int .i64 (d.1[j]?.getD id0).1)) := kc
      have HC0 : Hid (_ = _) := h.c0
      clear kc hAt HR HQ hpl hf h
      generalize (d.1[j]?.getD id0).1 = kd at *
      generalize d.1.length = n at *
      by_cases hk : kd = 2
      · rw [if_pos hk]
        have hb2 : (kd != 2) = false := by simpa using hk
        clear hk
        go_enter Try.func21, Try.ntmps21
        go_wp2_with fail
        refine HF.out.mono ?_
        rintro e w1 ⟨rfl, hb1⟩
        have HB1 : Hid (Below w.heap.size w w1) := hb1
        have kc1 := cell_later hb1 HKC.out
        have c01 := cell_later hb1 HC0.out
        clear hb1
        go_wp2_with fail
        refine (HP.out _ HB1.out).mono ?_
        rintro e w2 ⟨rfl, rfl⟩
        go_wp2
        go_ret
        exact ⟨rfl, HB1.out⟩
      · rw [if_neg hk]
        have hb2 : (kd != 2) = true := by simpa using hk
        clear hk
        go_enter Try.func21, Try.ntmps21
        go_wp2_with fail
        refine HF.out.mono ?_
        rintro e w1 ⟨rfl, hb1⟩
        have HB1 : Hid (Below w.heap.size w w1) := hb1
        have kc1 := cell_later hb1 HKC.out
        have c01 := cell_later hb1 HC0.out
        clear hb1
        go_wp2_with fail
        refine (HP.out _ HB1.out).mono ?_
        rintro e w2 ⟨rfl, rfl⟩
        go_wp2
        go_ret
        exact ⟨rfl, HB1.out⟩

end Go.Proofs.Ytjabimfinanjoac

namespace Go.Proofs.Ytjabimfinanjoac
open Go.RowKit
set_option maxRecDepth 100000

/-- Where a name stands among entries, or -1. -/
def at8 (es : List EN) (s : ByteArray) : Int := if idxE es s < es.length then ((idxE es s : Nat) : Int) else -1
/-- What lies at the place of a directory: its entries. -/
theorem FsR.dir {w : World} {a1 : Option Addr} {n1 c1 : Nat} {v2 : Value} {d : FD} (h : FsR w (.slice a1 n1 c1) v2 d) {j : Nat} (hj : j < d.1.length) : ∃ b0 o0 aE cE, a1 = some ⟨b0, o0, none⟩ ∧ n1 = d.1.length ∧ w.cell? ⟨b0, o0 + j * 5 + 4, none⟩ = some (.slice aE (entA d j).length cE) ∧ Ents w (.slice aE (entA d j).length cE) (entA d j) := by
  obtain ⟨_, _, e1, _, hAt⟩ := h.1.open'
  simp only [Value.slice.injEq] at e1
  obtain ⟨rfl, rfl, rfl⟩ := e1
  obtain ⟨b0, o0, rfl, hI⟩ := hAt j hj
  obtain ⟨aB, cB, aE, cE, _, _, _, _, k4, hR⟩ := hI
  exact ⟨b0, o0, aE, cE, rfl, rfl, k4, hR.2.2⟩

set_option maxHeartbeats 1600000 in
theorem implEmptyU (w : World) (a1 : Option Addr) (n1 c1 : Nat) (a2 : Option Addr) (n2 c2 : Nat) (d : FD) (x : Int) (h : FsR w (.slice a1 n1 c1) (.slice a2 n2 c2) d) (hs : sizeFs d ≤ 1048576) :
    Calls Try.prog 16 #[.agg #[.slice a1 n1 c1, .slice a2 n2 c2], .int .i64 x] w fun e w' => e = .returned (.bool (emptyB d x)) ∧ Below w.heap.size w w' := by
  have HF : Hid (∀ W, Below w.heap.size w W → Calls Try.prog 24 #[.agg #[.slice a1 n1 c1, .slice a2 n2 c2], .int .i64 x] W fun e w' => e = .returned (.int .i64 (dirQ d x)) ∧ Below W.heap.size W w') := fun W hW => dirPlaceFault_any W _ _ _ _ _ _ d x (h.later hW) (by unfold sizeFs at hs; omega)
  have HX : Hid (Bx (w.alloc (.cells #[.slice a1 n1 c1, .slice a2 n2 c2] 33)) w.heap.size [.slice a1 n1 c1, .slice a2 n2 c2]) := Bx.new w [.slice a1 n1 c1, .slice a2 n2 c2] _
  by_cases hq : dirQ d x = 0
  · have HR : Hid (emptyB d x = decide ((entA d x.toNat).length = 0)) := by unfold Hid emptyB; rw [decide_eq_true hq, Bool.true_and]
    rw [HR.out]
    have hds := dirS hq
    obtain ⟨_, hp, _⟩ := dirQ_in hq
    obtain ⟨j, rfl⟩ : ∃ j : Nat, x = (j : Int) := ⟨x.toNat, by omega⟩
    rw [Int.toNat_natCast] at hds ⊢
    obtain ⟨b0, o0, aE, cE, rfl, rfl, k4, hE⟩ := h.dir hds.lt
    have HK4 : Hid (_ = _) := k4
    have hjn : (j : Int) < ((d.1.length : Nat) : Int) := by omega
    have hlt := hds.lt
    have h6 := hds.six
    have HE : Hid (((((entA d j).length : Nat) : Int) == 0) = decide ((entA d j).length = 0)) := by
      unfold Hid
      by_cases e : (entA d j).length = 0
      · rw [decide_eq_true e, e]; rfl
      · rw [decide_eq_false e]; exact beq_eq_false_iff_ne.2 (by omega)
    rw [← HE.out]
    rw [hq] at HF
    clear hq HR hds hp hE k4 HE h
    generalize (entA d j).length = m at *
    generalize d.1.length = n at *
    go_enter Try.func16, Try.ntmps16
    go_wp2_with fail
    refine (HF.out _ (later1 _ _)).mono ?_
    rintro e w1 ⟨rfl, hb1⟩
    have HB1 : Hid (Below w.heap.size w w1) := (later1 _ _).trans (hb1.mono (by simp))
    have y0 := (HX.out.later hb1) 0 _ rfl
    have y1 := (HX.out.later hb1) 1 _ rfl
    have k1 := cell_later HB1.out HK4.out
    clear hb1
    go_wp2
    go_ret
    exact ⟨rfl, HB1.out⟩
  · have HR : Hid (emptyB d x = false) := by unfold Hid emptyB; rw [decide_eq_false hq]; rfl
    rw [HR.out]
    have hb : (dirQ d x == 0) = false := by simpa using hq
    clear hq HR h hs
    generalize dirQ d x = r at *
    go_enter Try.func16, Try.ntmps16
    go_wp2_with fail
    refine (HF.out _ (later1 _ _)).mono ?_
    rintro e w1 ⟨rfl, hb1⟩
    have HB1 : Hid (Below w.heap.size w w1) := (later1 _ _).trans (hb1.mono (by simp))
    clear hb1
    go_wp2
    go_ret
    exact ⟨rfl, HB1.out⟩

set_option maxHeartbeats 1600000 in
theorem specEmptyU (w : World) (a1 : Option Addr) (n1 c1 : Nat) (a2 : Option Addr) (n2 c2 : Nat) (d : FD) (x : Int) (h : FsR w (.slice a1 n1 c1) (.slice a2 n2 c2) d) (hs : sizeFs d ≤ 1048576) :
    Calls Try.prog 15 #[.agg #[.slice a1 n1 c1, .slice a2 n2 c2], .int .i64 x] w fun e w' => e = .returned (.bool (emptyB d x)) ∧ Below w.heap.size w w' := by
  obtain ⟨hx0, -, -⟩ := FsX.box h 33
  have HF : Hid (Calls Try.prog 21 #[.pointer (some ⟨w.heap.size, 0, none⟩), .int .i64 x] (w.alloc (.cells #[.slice a1 n1 c1, .slice a2 n2 c2] 33)) fun e w' => e = .returned (.int .i64 (dirQ d x)) ∧ Below (w.alloc (.cells #[.slice a1 n1 c1, .slice a2 n2 c2] 33)).heap.size (w.alloc (.cells #[.slice a1 n1 c1, .slice a2 n2 c2] 33)) w') := l8Asked_any _ _ _ d _ _ _ _ x hx0 (by unfold sizeFs at hs; omega)
  have HX : Hid (Bx (w.alloc (.cells #[.slice a1 n1 c1, .slice a2 n2 c2] 33)) w.heap.size [.slice a1 n1 c1, .slice a2 n2 c2]) := Bx.new w [.slice a1 n1 c1, .slice a2 n2 c2] _
  clear hx0
  by_cases hq : dirQ d x = 0
  · have HR : Hid (emptyB d x = decide ((entA d x.toNat).length = 0)) := by unfold Hid emptyB; rw [decide_eq_true hq, Bool.true_and]
    rw [HR.out]
    have hds := dirS hq
    obtain ⟨_, hp, _⟩ := dirQ_in hq
    obtain ⟨j, rfl⟩ : ∃ j : Nat, x = (j : Int) := ⟨x.toNat, by omega⟩
    rw [Int.toNat_natCast] at hds ⊢
    obtain ⟨b0, o0, aE, cE, rfl, rfl, k4, hE⟩ := h.dir hds.lt
    have HK4 : Hid (_ = _) := k4
    have hjn : (j : Int) < ((d.1.length : Nat) : Int) := by omega
    have hlt := hds.lt
    have h6 := hds.six
    have HE : Hid (((((entA d j).length : Nat) : Int) == 0) = decide ((entA d j).length = 0)) := by
      unfold Hid
      by_cases e : (entA d j).length = 0
      · rw [decide_eq_true e, e]; rfl
      · rw [decide_eq_false e]; exact beq_eq_false_iff_ne.2 (by omega)
    rw [← HE.out]
    rw [hq] at HF
    clear hq HR hds hp hE k4 HE h
    generalize (entA d j).length = m at *
    generalize d.1.length = n at *
    go_enter Try.func15, Try.ntmps15
    go_wp2_with fail
    refine HF.out.mono ?_
    rintro e w1 ⟨rfl, hb1⟩
    have HB1 : Hid (Below w.heap.size w w1) := (later1 _ _).trans (hb1.mono (by simp))
    have y0 := (HX.out.later hb1) 0 _ rfl
    have y1 := (HX.out.later hb1) 1 _ rfl
    have k1 := cell_later HB1.out HK4.out
    clear hb1
    go_wp2
    go_ret
    exact ⟨rfl, HB1.out⟩
  · have HR : Hid (emptyB d x = false) := by unfold Hid emptyB; rw [decide_eq_false hq]; rfl
    rw [HR.out]
    have hb : (dirQ d x == 0) = false := by simpa using hq
    clear hq HR h hs
    generalize dirQ d x = r at *
    go_enter Try.func15, Try.ntmps15
    go_wp2_with fail
    refine HF.out.mono ?_
    rintro e w1 ⟨rfl, hb1⟩
    have HB1 : Hid (Below w.heap.size w w1) := (later1 _ _).trans (hb1.mono (by simp))
    clear hb1
    go_wp2
    go_ret
    exact ⟨rfl, HB1.out⟩
end Go.Proofs.Ytjabimfinanjoac

namespace Go.Proofs.Ytjabimfinanjoac
open Go.RowKit
set_option maxRecDepth 100000

theorem dirN_in {d : FD} {x : Int} {s : ByteArray} (h : dirN d x s = 0) : dirQ d x = 0 := by
  unfold dirN at h
  by_cases e : dirQ d x = 0
  · exact e
  · rw [if_neg e] at h; exact absurd h e
theorem dirN_name {d : FD} {x : Int} {s : ByteArray} (h : dirN d x s = 0) : nameF s = 0 := by
  have h' := dirN_in h
  unfold dirN at h
  rw [if_pos h'] at h
  exact h
end Go.Proofs.Ytjabimfinanjoac

namespace Go.Proofs.Ytjabimfinanjoac
open Go.RowKit
set_option maxRecDepth 100000

theorem Try.infoByte : (Try.prog.info? 5).map (fun i => (i.zero, i.size, i.bytes)) = some (some (.int .u8 0), 1, 1) := by kernel_rfl
end Go.Proofs.Ytjabimfinanjoac

namespace Go.Proofs.Ytjabimfinanjoac
open Go.RowKit
set_option maxRecDepth 100000

theorem Try.cellsByte : Try.prog.cellsOf 5 = 1 := by kernel_rfl
end Go.Proofs.Ytjabimfinanjoac

namespace Go.Proofs.Ytjabimfinanjoac
open Go.RowKit
set_option maxRecDepth 100000

theorem sufB_at {l : List UInt8} {m : Nat} (h : l.length = m + 1) : sufB l = (l[m]?.getD 0 == 47) := by
  unfold sufB
  rw [List.getLast?_eq_getElem?, h, Nat.add_sub_cancel, List.getElem?_eq_getElem (by omega)]
  rfl
theorem preB_at {l : List UInt8} (h : 0 < l.length) : preB l = (l[0]?.getD 0 == 47) := by
  cases l with
  | nil => simp at h
  | cons b t => rfl
theorem byte_eq (b : UInt8) : ((b.toNat : Int) == 47) = (b == 47) := by
  by_cases h : b = 47
  · subst h; rfl
  · have hne : b.toNat ≠ 47 := fun e => h (UInt8.toNat_inj.1 (by rw [e]; rfl))
    have h1 : (b == 47) = false := by simpa using h
    rw [h1]
    simp; omega
theorem namesL_cut {p : List UInt8} (h0 : topB p = false) (hp : 0 < p.length) : namesL p = cutB (p.drop 1) := by
  unfold namesL
  rw [if_neg (by simpa [topB] using h0)]
  cases p with
  | nil => simp at hp
  | cons b t => rfl
/-- Where the specification's split sees a fault of the path's form. -/
def formBad (p : List UInt8) : Prop := p.length = 0 ∨ ¬ p[0]?.getD 0 = 47 ∨ p[p.length - 1]?.getD 0 = 47
theorem pathF_form {p : List UInt8} (h30 : ¬ 30 < p.length) (ht : topB p = false) (hb : formBad p) : pathF p = 5 := by
  unfold pathF
  rw [if_neg h30]
  rcases Nat.eq_zero_or_pos p.length with h0 | h0
  · have : p = [] := List.length_eq_zero_iff.1 h0
    subst this; rfl
  · rcases hb with hb | hb | hb
    · omega
    · rw [preB_at h0, if_neg (by simpa using hb)]
    · have hs : sufB p = true := by rw [sufB_at (m := p.length - 1) (by omega), hb]; rfl
      split
      · rw [if_pos ⟨hs, ht⟩]
      · rfl
theorem pathF_good {p : List UInt8} (h30 : ¬ 30 < p.length) (ht : topB p = false) (hb : ¬ formBad p) : pathF p = namesC (cutB (p.drop 1)) := by
  unfold formBad at hb
  have h0 : 0 < p.length := by omega
  have h1 : p[0]?.getD 0 = 47 := by
    by_cases e : p[0]?.getD 0 = 47
    · exact e
    · exact absurd (Or.inr (Or.inl e)) hb
  have h2 : ¬ p[p.length - 1]?.getD 0 = 47 := fun e => hb (Or.inr (Or.inr e))
  unfold pathF namesC
  have hs : sufB p = false := by rw [sufB_at (m := p.length - 1) (by omega)]; simpa using h2
  have hq : preB p = true := by rw [preB_at h0, h1]; rfl
  rw [if_neg h30, if_pos hq, if_neg (by rw [hs]; simp), namesL_cut ht h0]

end Go.Proofs.Ytjabimfinanjoac

namespace Go.Proofs.Ytjabimfinanjoac
open Go.RowKit
set_option maxRecDepth 100000

theorem cutB_mem (t : List UInt8) (k : Nat) : ((cutB t)[k]?.getD []).length ≤ t.length := by
  induction t generalizing k with
  | nil => cases k <;> simp [cutB]
  | cons b l ih =>
    simp only [cutB]
    split
    · cases k with
      | zero => simp
      | succ k => have := ih k; simp at this ⊢; omega
    · cases h : cutB l with
      | nil => cases k <;> simp [cutHead]
      | cons x y =>
        have h1 := ih k
        rw [h] at h1
        cases k with
        | zero => simp [cutHead] at h1 ⊢; omega
        | succ k => simp [cutHead] at h1 ⊢; omega

end Go.Proofs.Ytjabimfinanjoac

namespace Go.Proofs.Ytjabimfinanjoac
open Go.RowKit
set_option maxRecDepth 100000

def lastC (p : List UInt8) : Int := if pathF p = 0 then (if (namesL p).length = 0 then 4 else 0) else pathF p
def lastT (p : List UInt8) : List UInt8 := if pathF p = 0 then (namesL p)[(namesL p).length - 1]?.getD [] else []

theorem ownsRow_cap {w : World} {B : Nat} {e : TypeId} {a : Option Addr} {n m c : Nat} {xs : List Value} (h : w.ownsRow B e 1 (.slice a n c) m xs) : n ≤ c := by
  rcases h.2 with ⟨h1, _⟩ | ⟨g, cap, cur, h1, _, _, h2, _⟩ <;> simp only [Value.slice.injEq] at h1 <;> omega
theorem slice_takeT (a : Option Addr) (n c j : Nat) (hj : j ≤ c) :
    ∃ A C, (∀ W : World, (Instr.slice 27 (.slice a n c) none (some (.int .i64 (j : Int))) none).run Try.prog W = .ok (.slice A j C) W) ∧ ∀ (W : World) (xs : List (List UInt8)), j ≤ n → AtT W a n xs → AtT W A j xs := by
  obtain ⟨i, hi, _⟩ := info_parts Try.infoStr
  refine ⟨if c = 0 then a else a.map (·.add (0 * 1)), c - 0, fun W => ?_, fun W xs hjn h => ?_⟩
  · simp [Instr.slice, Instr.sliceBounds, Instr.sliceBound, asIntOf, run_underlying Try.underlying27, sizeOf, typeInfo, hi, hj]
  · by_cases hc : c = 0
    · intro k hk; omega
    · rw [if_neg hc]
      intro k hk
      obtain ⟨b, off, e, r⟩ := h k (by omega)
      subst e
      exact ⟨b, off, by simp [Addr.add], r⟩

end Go.Proofs.Ytjabimfinanjoac

namespace Go.Proofs.Ytjabimfinanjoac
open Go.RowKit
set_option maxRecDepth 100000

def joinL (xs : List (List UInt8)) : List UInt8 := xs.flatMap (47 :: ·)
def joinT (xs : List (List UInt8)) : List UInt8 := if joinL xs = [] then [47] else joinL xs
theorem joinL_step {xs : List (List UInt8)} {j : Nat} (h : j < xs.length) : joinL (xs.take (j + 1)) = joinL (xs.take j) ++ (47 :: xs[j]?.getD []) := by
  unfold joinL
  rw [List.take_add_one, List.flatMap_append, List.getElem?_eq_getElem h]
  simp
theorem joinL_len {xs : List (List UInt8)} {j B : Nat} (h : ∀ k : Nat, (xs[k]?.getD []).length ≤ B) (hj : j ≤ xs.length) : (joinL (xs.take j)).length ≤ j * (B + 1) := by
  induction j with
  | zero => simp [joinL]
  | succ j ih =>
    rw [joinL_step (by omega), List.length_append, List.length_cons, Nat.succ_mul]
    have := ih (by omega)
    have := h j
    omega

end Go.Proofs.Ytjabimfinanjoac

namespace Go.Proofs.Ytjabimfinanjoac
open Go.RowKit
set_option maxRecDepth 100000

theorem str_bytes (x : List UInt8) : Lib.strCells (mkB x) = Lib.byteCells x := by unfold Lib.strCells Lib.byteCells; rw [mkB_list]
theorem join_cells {xs : List (List UInt8)} {j : Nat} (h : j < xs.length) : Lib.byteCells (joinL (xs.take j)) ++ [.int .u8 47] ++ Lib.strCells (mkB (xs[j]?.getD [])) = Lib.byteCells (joinL (xs.take (j + 1))) := by
  rw [joinL_step h, str_bytes, Lib.byteCells_append]
  simp [Lib.byteCells]

end Go.Proofs.Ytjabimfinanjoac

namespace Go.Proofs.Ytjabimfinanjoac
open Go.RowKit
set_option maxRecDepth 100000

theorem lastT_bad {p : List UInt8} (h : ¬ lastC p = 0) : lastT p = [] := by
  unfold lastC at h
  unfold lastT
  by_cases h0 : pathF p = 0
  · rw [if_pos h0] at h ⊢
    have h1 : (namesL p).length = 0 := by
      by_cases e : (namesL p).length = 0
      · exact e
      · rw [if_neg e] at h; omega
    have : namesL p = [] := List.length_eq_zero_iff.1 h1
    rw [this]; rfl
  · rw [if_neg h0]

end Go.Proofs.Ytjabimfinanjoac

namespace Go.Proofs.Ytjabimfinanjoac
open Go.RowKit
set_option maxRecDepth 100000

/-- The slice v reads as the texts xs. -/
def Strs (w : World) (v : Value) (xs : List (List UInt8)) : Prop := ∃ a c, v = .slice a xs.length c ∧ xs.length ≤ maxLen ∧ (∀ k : Nat, (xs[k]?.getD []).length ≤ maxLen) ∧ AtT w a xs.length xs
def slens (xs : List (List UInt8)) : List Nat := xs.map List.length
theorem slens_length (xs : List (List UInt8)) : (slens xs).length = xs.length := by simp [slens]
theorem slens_get (xs : List (List UInt8)) (i : Nat) : (slens xs)[i]?.getD 0 = (xs[i]?.getD []).length := by
  unfold slens; rw [List.getElem?_map]; cases xs[i]? <;> rfl
def sizeT (xs : List (List UInt8)) : Nat := xs.length + (slens xs).sum
theorem slens_le (xs : List (List UInt8)) (k : Nat) : (xs[k]?.getD []).length ≤ (slens xs).sum := by
  by_cases h : k < xs.length
  · have h1 := upto_succ (slens xs) k (by rw [slens_length]; exact h)
    have h2 := upto_le (slens xs) (k + 1)
    rw [slens_get] at h1
    omega
  · rw [List.getElem?_eq_none (by omega)]; simp

/-- The text that JoinPath answers. -/
def joinX (xs : List (List UInt8)) : List UInt8 := if namesC xs = 0 then joinT xs else []
end Go.Proofs.Ytjabimfinanjoac

namespace Go.Proofs.Ytjabimfinanjoac
open Go.RowKit
set_option maxRecDepth 100000

/-- What splitting answers of a path: its code and its names. -/
def Spl (w w' : World) (p : List UInt8) (a : Option Addr) (c : Nat) : Prop := Below w.heap.size w w' ∧ AtT w' a (splitL p).length (splitL p) ∧ (splitL p).length ≤ c
theorem splitL_len (p : List UInt8) (hp : p.length ≤ 1048576) : (splitL p).length ≤ 1048577 := by
  unfold splitL
  split
  · have := namesL_len p; omega
  · simp
def belowB (p t : List UInt8) : Bool := decide (pathF p = 0) && (decide (pathF t = 0) && (decide ((splitL t).length < (splitL p).length) && decide ((splitL p).take (splitL t).length = splitL t)))
theorem take_no {xs ys : List (List UInt8)} {j : Nat} (hj : j < ys.length) (h : ¬ xs[j]?.getD [] = ys[j]?.getD []) : ¬ xs.take ys.length = ys := fun e => h (by
  have := congrArg (fun l => l[j]?.getD []) e
  simpa [List.getElem?_take, hj] using this)
theorem take_yes {xs ys : List (List UInt8)} (hl : ys.length < xs.length) (h : ∀ j, j < ys.length → xs[j]?.getD [] = ys[j]?.getD []) : xs.take ys.length = ys := by
  refine List.ext_getElem (by simp; omega) fun i h1 h2 => ?_
  have := h i h2
  rw [List.getElem?_eq_getElem (by omega), List.getElem?_eq_getElem h2] at this
  simpa using this

end Go.Proofs.Ytjabimfinanjoac

namespace Go.Proofs.Ytjabimfinanjoac
open Go.RowKit
set_option maxRecDepth 100000

/-- A list of texts that owns its block, or is empty. -/
def OwnT (w : World) (a : Option Addr) (n : Nat) (f : Nat → Value) (lo hi : Nat) : Prop := n = 0 ∨ ∃ g, a = some ⟨g, 0, none⟩ ∧ lo ≤ g ∧ g < hi ∧ OwnRow w g n f
def blkOf (a : Option Addr) (lo hi b : Nat) : Prop := a = some ⟨b, 0, none⟩ ∧ lo ≤ b ∧ b < hi
theorem OwnT.later {w w' : World} {a : Option Addr} {n : Nat} {f : Nat → Value} {lo hi : Nat} (h : OwnT w a n f lo hi) (hb : Below w.heap.size w w') : OwnT w' a n f lo hi := by
  rcases h with h | ⟨g, e, h1, h2, h3⟩
  · exact Or.inl h
  · exact Or.inr ⟨g, e, h1, h2, h3.block (hb.block g h3.lt)⟩
theorem ownT_row {w : World} {B : Nat} {e : TypeId} {a : Option Addr} {n c : Nat} {xs : List (List UInt8)} (h : w.ownsRow B e 1 (.slice a n c) xs.length (xs.map strV)) : OwnT w a n (fun i => strV (xs[i]?.getD [])) B w.heap.size := by
  obtain ⟨hl, ⟨h1, h2⟩ | ⟨g, cap, cur, h1, h2, h3, h4, h5, h6, h7⟩⟩ := h
  · simp only [Value.slice.injEq] at h1
    exact Or.inl h1.2.1
  · simp only [Value.slice.injEq] at h1
    refine Or.inr ⟨g, h1.1, h2, (Array.getElem?_eq_some_iff.1 h3).1, cur, e, h3, by rw [h1.2.1]; omega, fun i hi => ?_⟩
    rw [h1.2.1] at hi
    have h8 : (xs.map strV)[i]? = some (strV (xs[i]?.getD [])) := by rw [List.getElem?_map, List.getElem?_eq_getElem hi]; rfl
    rw [← h7, List.getElem?_take, if_pos (by omega), Array.getElem?_toList] at h8
    exact h8
theorem AtT.store {w : World} {a : Option Addr} {n : Nat} {xs : List (List UInt8)} {f : Nat → Value} {lo hi : Nat} (h : AtT w a n xs) (ho : OwnT w a n f lo hi) {p : Addr} (hp : p.block < lo) (v : Value) : AtT (w.setCell p v) a n xs := fun k hk => by
  rcases ho with h0 | ⟨g, e, h1, _, _⟩
  · omega
  · obtain ⟨b, off, e2, c0⟩ := h k hk
    refine ⟨b, off, e2, ?_⟩
    rw [e] at e2
    cases e2
    rw [← c0]
    exact World.cell?_of_block (Below.heap_setCell _ _ _ _ (fun e => by simp at e; omega))
theorem OwnT.store {w : World} {a : Option Addr} {n : Nat} {f : Nat → Value} {lo hi : Nat} (ho : OwnT w a n f lo hi) {p : Addr} (hp : p.block < lo) (v : Value) : OwnT (w.setCell p v) a n f lo hi := by
  rcases ho with h0 | ⟨g, e, h1, h2, h3⟩
  · exact Or.inl h0
  · exact Or.inr ⟨g, e, h1, h2, h3.store (by omega) v⟩
set_option maxHeartbeats 1600000 in
theorem eqNamesU (w : World) (z : Int) (a b : Option Addr) (n c d : Nat) (xs : List (List UInt8)) (hn : n ≤ 1048577) (h1 : AtT w a n xs) (h2 : AtT w b n xs) :
    Calls Try.prog 10 #[.agg #[.int .i64 z, .slice a n c], .agg #[.int .i64 z, .slice b n d]] w fun e w' => e = .returned (.bool true) ∧ Below w.heap.size w w' := by
  have H1 : Hid (AtT w a n xs) := h1
  have H2 : Hid (AtT w b n xs) := h2
  have hz : (z != z) = false := by simp
  clear h1 h2
  go_enter Try.func10, Try.ntmps10
  go_wp2_with fail
  refine (eqS_walk _ a b n c d xs hn (H1.out.later (later2 _ _ _)) (H2.out.later (later2 _ _ _))).mono ?_
  rintro e w1 ⟨rfl, m, rfl⟩
  go_wp2
  go_ret
  exact ⟨rfl, below_drewN (later2 _ _ _) m⟩
set_option maxHeartbeats 1600000 in
theorem markNamesU (w : World) (z : Int) (a : Option Addr) (n c k : Nat) (f : Nat → Value) (lo hi : Nat) (hk0 : 1 ≤ k) (hk : k + n ≤ 4294967296) (h : OwnT w a n f lo hi) :
    Calls Try.prog 13 #[.agg #[.int .i64 z, .slice a n c], .int .i64 (k : Int)] w fun e w' => e = .returned (.int .i64 ((k + n : Nat) : Int)) ∧ OwnT w' a n (fun i => mkT (k + i)) lo hi ∧ Chg (blkOf a lo hi) w w' := by
  have HM : Hid (∀ W, Below w.heap.size w W → Calls Try.prog 31 #[.slice a n c, .int .i64 (k : Int)] W fun e w' => e = .returned (.int .i64 ((k + n : Nat) : Int)) ∧ OwnT w' a n (fun i => mkT (k + i)) lo hi ∧ Chg (blkOf a lo hi) W w') := fun W hb => by
    rcases h with rfl | ⟨g, rfl, h1, h2, h3⟩
    · exact (markS_nil W a c k).mono fun e w' ⟨he, hw⟩ => ⟨he, Or.inl rfl, hw ▸ Chg.refl _ _⟩
    · exact (markS_walk W g c n k f hk0 hk (h3.block (hb.block g h3.lt))).mono fun e w' ⟨he, hr, hc⟩ => ⟨he, Or.inr ⟨g, rfl, h1, h2, hr⟩, hc.mono fun b e => by subst e; exact ⟨rfl, h1, h2⟩⟩
  clear h hk0 hk
  generalize k + n = s at *
  go_enter Try.func13, Try.ntmps13
  go_wp2_with fail
  refine (HM.out _ (later1 _ _)).mono ?_
  rintro e w1 ⟨rfl, ho, hc⟩
  have HO : Hid (OwnT w1 a n (fun i => mkT (k + i)) lo hi) := ho
  have HC : Hid (Chg (blkOf a lo hi) w w1) := (Chg.of_below (later1 _ _)).trans hc
  clear ho hc HM
  go_wp2
  go_ret
  exact ⟨rfl, HO.out, HC.out⟩
set_option maxHeartbeats 1600000 in
theorem heldNamesU (w : World) (z : Int) (a : Option Addr) (n c k : Nat) (lo hi : Nat) (hk0 : 1 ≤ k) (hk : k + n ≤ 4294967296) (h : OwnT w a n (fun i => mkT (k + i)) lo hi) :
    Calls Try.prog 14 #[.agg #[.int .i64 z, .slice a n c], .int .i64 (k : Int)] w fun e w' => e = .returned (.int .i64 ((k + n : Nat) : Int)) ∧ Below w.heap.size w w' := by
  have HM : Hid (∀ W, Below w.heap.size w W → Calls Try.prog 32 #[.slice a n c, .int .i64 (k : Int)] W fun e w' => e = .returned (.int .i64 ((k + n : Nat) : Int)) ∧ Below W.heap.size W w') := fun W hb => by
    rcases h with rfl | ⟨g, rfl, h1, h2, h3⟩
    · exact (heldS_nil W a c k).mono fun e w' ⟨he, hw⟩ => ⟨he, hw ▸ Below.refl _ _⟩
    · exact heldS_walk W g c n k hk0 hk (h3.block (hb.block g h3.lt))
  clear h hk0 hk
  generalize k + n = s at *
  have hs : decide ((s : Int) < 0) = false := by simp
  go_enter Try.func14, Try.ntmps14
  go_wp2_with fail
  refine (HM.out _ (later1 _ _)).mono ?_
  rintro e w1 ⟨rfl, hb⟩
  have HB : Hid (Below w.heap.size w w1) := (later1 _ _).trans (hb.mono (by simp))
  clear hb HM
  go_wp2
  go_ret
  exact ⟨rfl, HB.out⟩
end Go.Proofs.Ytjabimfinanjoac

namespace Go.Proofs.Ytjabimfinanjoac
open Go.RowKit
set_option maxRecDepth 100000

def StrR (w : World) (v : Value) (xs : List (List UInt8)) : Prop := ∃ a c, v = .slice a xs.length c ∧ xs.length ≤ 1048577 ∧ AtT w a xs.length xs
theorem StrR.later {w w' : World} {v : Value} {xs : List (List UInt8)} (h : StrR w v xs) (hb : Below w.heap.size w w') : StrR w' v xs := by
  obtain ⟨a, c, h1, h2, h3⟩ := h
  exact ⟨a, c, h1, h2, h3.later hb⟩
/-- The slice v holds the texts xs, in one block of F. -/
def StrsO (w : World) (v : Value) (xs : List (List UInt8)) (F : Nat → Prop) : Prop :=
  (xs = [] ∧ ∃ a cap, v = .slice a 0 cap) ∨ (∃ b cap, F b ∧ v = .slice (some ⟨b, 0, none⟩) xs.length cap ∧ xs.length ≤ 1048577 ∧ OwnRow w b xs.length (fun i => strV (xs[i]?.getD [])))
theorem StrsO.reads {w : World} {v : Value} {xs : List (List UInt8)} {F : Nat → Prop} (h : StrsO w v xs F) : StrR w v xs := by
  rcases h with ⟨rfl, a, cap, rfl⟩ | ⟨b, cap, _, h1, h2, h3⟩
  · exact ⟨a, cap, rfl, by simp, fun k hk => by simp at hk⟩
  · exact ⟨_, cap, h1, h2, fun k hk => ⟨b, 0, rfl, by rw [Nat.zero_add]; exact h3.cell hk⟩⟩
theorem StrsO.keep {w w' : World} {v : Value} {xs : List (List UInt8)} {F : Nat → Prop} (h : StrsO w v xs F) (e : ∀ b, F b → b < w.heap.size → w'.heap[b]? = w.heap[b]?) : StrsO w' v xs F := by
  rcases h with h | ⟨b, cap, hF, h1, h2, h3⟩
  · exact Or.inl h
  · exact Or.inr ⟨b, cap, hF, h1, h2, h3.block (e b hF h3.lt)⟩
theorem StrsO.mono {w : World} {v : Value} {xs : List (List UInt8)} {F G : Nat → Prop} (h : StrsO w v xs F) (e : ∀ b, F b → G b) : StrsO w v xs G := by
  rcases h with h | ⟨b, cap, hF, h1⟩
  · exact Or.inl h
  · exact Or.inr ⟨b, cap, e b hF, h1⟩
theorem StrsO.later {w w' : World} {v : Value} {xs : List (List UInt8)} {F : Nat → Prop} (h : StrsO w v xs F) (hb : Below w.heap.size w w') : StrsO w' v xs F := h.keep fun b _ hlt => hb.block b hlt
theorem StrsO.chg {w w' : World} {v : Value} {xs : List (List UInt8)} {F G : Nat → Prop} (h : StrsO w v xs F) (hc : Chg G w w') (hd : ∀ b, F b → ¬ G b) : StrsO w' v xs F := h.keep fun b hb hlt => hc.block b hlt (hd b hb)
def AnsNR (w : World) (r : Int × List (List UInt8)) (e : Ending) (w' : World) : Prop := ∃ a n c, e = .returned (.agg #[.int .i64 r.1, .slice a n c]) ∧ Below w.heap.size w w' ∧ StrsO w' (.slice a n c) r.2 (fresh w w')
theorem AnsNR.later {w w2 w3 : World} {r : Int × List (List UInt8)} {e : Ending} (h : AnsNR w r e w2) (hb : Below w2.heap.size w2 w3) : AnsNR w r e w3 := by
  obtain ⟨a, n, c, h1, h2, h3⟩ := h
  exact ⟨a, n, c, h1, h2.trans (hb.mono h2.size), (h3.later hb).mono fun b hh => ⟨hh.1, Nat.lt_of_lt_of_le hh.2 hb.size⟩⟩
theorem AnsNR.boxed {w W : World} {rb : Nat} {r : Int} {xs : List (List UInt8)} {a : Option Addr} {n c : Nat} (hB : Below w.heap.size w W) (hrb : w.heap.size ≤ rb) (hY : StrsO W (.slice a n c) xs (fun b => w.heap.size ≤ b ∧ b < W.heap.size ∧ b ≠ rb)) (x y : Value) : AnsNR w (r, xs) (.returned (.agg #[.int .i64 r, .slice a n c])) ((W.setCell ⟨rb, 0, none⟩ x).setCell ⟨rb, 1, none⟩ y) := by
  refine ⟨a, n, c, rfl, (hB.setCell hrb _).setCell hrb _, (hY.keep fun b hb _ => ?_).mono fun b hb => ?_⟩
  · rw [Below.heap_setCell _ _ _ _ hb.2.2, Below.heap_setCell _ _ _ _ hb.2.2]
  · unfold fresh
    simp only [World.setCell, Array.size_modify]
    exact ⟨hb.1, hb.2.1⟩
theorem AnsNR.none' {w W : World} {rb : Nat} (r : Int) (hB : Below w.heap.size w W) (hrb : w.heap.size ≤ rb) (x y : Value) : AnsNR w (r, []) (.returned (.agg #[.int .i64 r, .slice none 0 0])) ((W.setCell ⟨rb, 0, none⟩ x).setCell ⟨rb, 1, none⟩ y) := AnsNR.boxed hB hrb (Or.inl ⟨rfl, _, _, rfl⟩) x y

theorem eqNamesResultU (w : World) (c : Int) (va vb : Value) (xs : List (List UInt8)) (h1 : StrR w va xs) (h2 : StrR w vb xs) :
    Calls Try.prog 10 #[.agg #[.int .i64 c, va], .agg #[.int .i64 c, vb]] w fun e w' => e = .returned (.bool true) ∧ Below w.heap.size w w' := by
  obtain ⟨a, ca, rfl, hn, ha⟩ := h1
  obtain ⟨b, cb, rfl, _, hb⟩ := h2
  exact eqNamesU w c a b _ ca cb xs hn ha hb
def mkStrs (k : Int) (xs : List (List UInt8)) : List (List UInt8) := (List.range xs.length).map fun i => 109 :: dg (k.toNat + i) []
theorem mkStrs_length (k : Int) (xs : List (List UInt8)) : (mkStrs k xs).length = xs.length := by simp [mkStrs]
theorem mkStrs_get (k : Int) (xs : List (List UInt8)) {i : Nat} (h : i < xs.length) : strV ((mkStrs k xs)[i]?.getD []) = mkT (k.toNat + i) := by
  simp [mkStrs, h, strV, mkT]
theorem markNamesResultU (w : World) (c : Int) (v : Value) (xs : List (List UInt8)) (F : Nat → Prop) (k : Int) (h : StrsO w v xs F) (hk0 : 1 ≤ k) (hk : k + (List.length xs : Nat) ≤ 4294967296) :
    Calls Try.prog 13 #[.agg #[.int .i64 c, v], .int .i64 k] w fun e w' => e = .returned (.int .i64 (k + (List.length xs : Nat))) ∧ StrsO w' v (mkStrs k xs) F ∧ Chg F w w' := by
  obtain ⟨q, rfl⟩ : ∃ q : Nat, k = (q : Int) := ⟨k.toNat, by omega⟩
  rcases h with ⟨rfl, a, cap, rfl⟩ | ⟨b, cap, hF, rfl, h2, h3⟩
  · refine (markNamesU w c a 0 cap q (fun _ => .int .i64 0) 0 0 (by omega) (by simp at hk; omega) (Or.inl rfl)).mono ?_
    rintro e w' ⟨rfl, _, hc⟩
    exact ⟨by simp, Or.inl ⟨rfl, a, cap, rfl⟩, hc.mono fun b hb => by have := hb.2; omega⟩
  · by_cases hne : xs.length = 0
    · have hx : xs = [] := List.length_eq_zero_iff.1 hne
      subst hx
      refine (markNamesU w c (some ⟨b, 0, none⟩) 0 cap q (fun _ => .int .i64 0) 0 0 (by omega) (by simp at hk; omega) (Or.inl rfl)).mono ?_
      rintro e w' ⟨rfl, _, hc⟩
      exact ⟨by simp, Or.inl ⟨rfl, _, cap, rfl⟩, hc.mono fun b hb => by have := hb.2; omega⟩
    refine (markNamesU w c (some ⟨b, 0, none⟩) xs.length cap q _ b (b + 1) (by omega) (by omega) (Or.inr ⟨b, rfl, Nat.le_refl _, by omega, h3⟩)).mono ?_
    rintro e w' ⟨rfl, ho, hc⟩
    refine ⟨by simp, Or.inr ⟨b, cap, hF, by rw [mkStrs_length], by rw [mkStrs_length]; exact h2, ?_⟩, hc.mono fun b' hb => ?_⟩
    · rw [mkStrs_length]
      rcases ho with h0 | ⟨g, e1, _, _, hr⟩
      · exact absurd h0 hne
      · simp only [Option.some.injEq, Addr.mk.injEq, and_true] at e1
        subst e1
        exact hr.congr fun i hi => (mkStrs_get (q : Int) xs hi).symm
    · obtain ⟨e1, _⟩ := hb
      simp only [Option.some.injEq, Addr.mk.injEq, and_true] at e1
      subst e1
      exact hF
theorem heldNamesResultU (w : World) (c : Int) (v : Value) (xs : List (List UInt8)) (F : Nat → Prop) (k : Int) (h : StrsO w v (mkStrs k xs) F) (hk0 : 1 ≤ k) (hk : k + (List.length xs : Nat) ≤ 4294967296) :
    Calls Try.prog 14 #[.agg #[.int .i64 c, v], .int .i64 k] w fun e w' => e = .returned (.int .i64 (k + (List.length xs : Nat))) ∧ Below w.heap.size w w' := by
  obtain ⟨q, rfl⟩ : ∃ q : Nat, k = (q : Int) := ⟨k.toNat, by omega⟩
  rcases h with ⟨h0, a, cap, rfl⟩ | ⟨b, cap, hF, rfl, h2, h3⟩
  · have hx : xs.length = 0 := by have := mkStrs_length (q : Int) xs; rw [h0] at this; simpa using this.symm
    rw [hx] at hk ⊢
    refine (heldNamesU w c a 0 cap q 0 0 (by omega) (by omega) (Or.inl rfl)).mono ?_
    rintro e w' ⟨rfl, hb⟩
    exact ⟨by simp, hb⟩
  · rw [mkStrs_length] at h3 ⊢
    refine (heldNamesU w c (some ⟨b, 0, none⟩) xs.length cap q b (b + 1) (by omega) (by omega) (Or.inr ⟨b, rfl, Nat.le_refl _, by omega, h3.congr fun i hi => mkStrs_get (q : Int) xs hi⟩)).mono ?_
    rintro e w' ⟨rfl, hb⟩
    exact ⟨by simp, hb⟩
end Go.Proofs.Ytjabimfinanjoac
