/- Rows told by the list of their values. Steps as arguments; StepFault, both sides. NameFault, the specification's and the program's: what both come to. Texts as lists of bytes: cut at each slash. No program is named here but for slicing. The library's IndexByte, laid from the shelf. The iterator that tells the names of a path: its contract. Ranges over the names of a path: howMany. The marks of texts. Ranges over the names of a path: namesFault. Contracts of the library, laid from the shelf for this program. What of a path is wrong: the walk of the program's pathFault. SplitPath, the program's. The specification's cutting of a text at each slash. The specification's l3Names and l3Split. Lists of texts: marking, holding, comparing. Lists of entries and inodes: how they read, what they own. -/
import Derived.Test.YtpmndmkmfcoieaaM05
import Derived.Test.YtpmndmkmfcoieaaM03
import Derived.Test.YtpmndmkmfcoieaaRows
import Derived.Test.YtpmndmkmfcoieaaM00
import Derived.Lib.Bytealg
import Derived.Shelf.Small.Strs
import Derived.Shelf.Strings.Search1
import Derived.RangeFuncNested
import Derived.RangeFuncBound
import Derived.RangeFuncCalls
import Derived.RangeFuncLeaves
import Derived.RangeFuncFrom
import Derived.Shelf.Abstract
import Derived.Shelf.RegionOpen
import Derived.WalkKit
import Derived.OwnWalkIn
import Derived.TacticsInMore
import Derived.LoopNIn
import Derived.LoopIn
import Derived.Laws.IdiomStrings
import Derived.Scope
import Derived.Shelf.LaysM
import Derived.Shelf.Strconv.Clone
import Derived.Shelf.Strings.Prefix
import Derived.Shelf.Slices.Equal
import Derived.Shelf.Slices.Empties2
import Derived.RangeFuncWrites
import Derived.RangeFuncBox
import Derived.Maps.AppendAt
import Derived.Test.YtpmndmkmfcoieaaM01
import Derived.Deep.RegionHeld3
namespace Go.Proofs.Ytpmndmkmfcoieaa
open Go.RowKit
set_option maxRecDepth 100000

theorem rowVL (w : World) (vs : List Value) (t : TypeId) : OwnRow (w.alloc (.cells vs.toArray t)) w.heap.size vs.length (fun i => vs[i]?.getD (.int .i64 0)) := by
  refine ⟨_, t, Go.Deep.blk_alloc_new _ _, by simp, fun i hi => ?_⟩
  simp [hi]

def cel (vs : List Value) (i : Nat) : Value := vs[i]?.getD (.int .i64 0)
theorem newCel (w : World) (vs : List Value) (t : TypeId) : OwnRow (w.alloc (.cells vs.toArray t)) w.heap.size vs.length (cel vs) := rowVL w vs t
end Go.Proofs.Ytpmndmkmfcoieaa

namespace Go.Proofs.Ytpmndmkmfcoieaa
open Go.RowKit
set_option maxRecDepth 100000

abbrev SD := Bool × Int × List Int
def SteR (w : World) (v0 v1 vW : Value) (d : SD) : Prop := (v0 = .bool d.1 ∧ v1 = .int .i64 d.2.1) ∧ Ints w vW d.2.2
theorem SteR.later {w w' : World} {v0 v1 vW : Value} {d : SD} (h : SteR w v0 v1 vW d) (hb : Below w.heap.size w w') : SteR w' v0 v1 vW d := ⟨h.1, h.2.later hb⟩
def SteU (w : World) (v0 v1 vW : Value) (d : SD) (F : Nat → Prop) : Prop := (v0 = .bool d.1 ∧ v1 = .int .i64 d.2.1) ∧ IntsO w vW d.2.2 F
theorem SteU.reads {w : World} {v0 v1 vW : Value} {d : SD} {F : Nat → Prop} (h : SteU w v0 v1 vW d F) : SteR w v0 v1 vW d := ⟨h.1, h.2.reads⟩
theorem SteU.keep {w w' : World} {v0 v1 vW : Value} {d : SD} {F : Nat → Prop} (h : SteU w v0 v1 vW d F) (e : ∀ b, F b → b < w.heap.size → w'.heap[b]? = w.heap[b]?) : SteU w' v0 v1 vW d F := ⟨h.1, h.2.keep e⟩
theorem SteU.later {w w' : World} {v0 v1 vW : Value} {d : SD} {F : Nat → Prop} (h : SteU w v0 v1 vW d F) (hb : Below w.heap.size w w') : SteU w' v0 v1 vW d F := h.keep fun b _ hlt => hb.block b hlt
theorem SteU.mono {w : World} {v0 v1 vW : Value} {d : SD} {F F' : Nat → Prop} (h : SteU w v0 v1 vW d F) (e : ∀ b, F b → F' b) : SteU w v0 v1 vW d F' := ⟨h.1, h.2.mono e⟩
def sizeSte (d : SD) : Nat := d.2.2.length
def spanSte (d : SD) : Nat := d.2.2.length
theorem spanSte_le (d : SD) : spanSte d ≤ 2 * sizeSte d := by unfold spanSte sizeSte; omega

/-- What is wrong of a step. -/
def stepF (d : SD) : Int := if d.1 = true then (if ¬ d.2.1 = 0 ∨ 0 < d.2.2.length then 1 else 0) else (if d.2.1 < 0 ∨ 47 ≤ d.2.1 then 3 else wordsF d.2.2)
theorem wordsF_nil : wordsF [] = 0 := rfl
theorem isFlush_any (w : World) (z0 : Bool) (z1 : Int) (vW : Value) : Calls Try.prog 85 #[.agg #[.bool z0, .int .i64 z1, vW]] w fun e w' => e = .returned (.bool z0) ∧ Below w.heap.size w w' := by
  go_enter Try.func85, Try.ntmps85
  go_wp2
  go_ret
  exact ⟨rfl, later1 _ _⟩
set_option maxHeartbeats 1600000 in
theorem implStepFU (w : World) (z0 : Bool) (z1 : Int) (a2 : Option Addr) (n2 c2 : Nat) (d : SD) (h : SteR w (.bool z0) (.int .i64 z1) (.slice a2 n2 c2) d) (_hs : sizeSte d ≤ 1048576) :
    Calls Try.prog 84 #[.agg #[.bool z0, .int .i64 z1, .slice a2 n2 c2]] w fun e w' => e = .returned (.int .i64 (stepF d)) ∧ Below w.heap.size w w' := by
  obtain ⟨⟨e0, e1⟩, hi⟩ := h
  simp only [Value.bool.injEq, Value.int.injEq, true_and] at e0 e1
  obtain ⟨_, _, ev, hm⟩ := hi.shape
  simp only [Value.slice.injEq] at ev
  obtain ⟨rfl, rfl, rfl⟩ := ev
  obtain ⟨f, x, ws⟩ := d
  dsimp only at e0 e1 hi hm ⊢
  subst e0 e1
  unfold maxLen at hm
  have HX : Hid (Bx (w.alloc (.cells #[.bool z0, .int .i64 z1, .slice a2 ws.length c2] 86)) w.heap.size [.bool z0, .int .i64 z1, .slice a2 ws.length c2]) := Bx.new w [.bool z0, .int .i64 z1, .slice a2 ws.length c2] _
  have HW : Hid (∀ W, Below w.heap.size w W → Calls Try.prog 88 #[.slice a2 ws.length c2] W fun e w' => e = .returned (.int .i64 (wordsF ws)) ∧ w' = W) := fun W hW => words_any (hi.later hW)
  have HN : Hid (ws.length = 0 → wordsF ws = 0) := fun h0 => by rw [List.eq_nil_of_length_eq_zero h0]; rfl
  have HR : Hid (∀ r, stepF (z0, z1, ws) = r → stepF (z0, z1, ws) = r) := fun _ h => h
  have HS1 : Hid (z0 = true → (¬ z1 = 0 ∨ 0 < ws.length) → stepF (z0, z1, ws) = 1) := fun h1 h2 => by unfold stepF; rw [if_pos h1]; exact if_pos h2
  have HS2 : Hid (z0 = true → ¬ (¬ z1 = 0 ∨ 0 < ws.length) → stepF (z0, z1, ws) = 0) := fun h1 h2 => by unfold stepF; rw [if_pos h1]; exact if_neg h2
  have HS3 : Hid (z0 = false → (z1 < 0 ∨ 47 ≤ z1) → stepF (z0, z1, ws) = 3) := fun h1 h2 => by unfold stepF; rw [if_neg (by rw [h1]; simp)]; exact if_pos h2
  have HS4 : Hid (z0 = false → ¬ (z1 < 0 ∨ 47 ≤ z1) → stepF (z0, z1, ws) = wordsF ws) := fun h1 h2 => by unfold stepF; rw [if_neg (by rw [h1]; simp)]; exact if_neg h2
  have x0 := HX.out 0 _ rfl
  have x1 := HX.out 1 _ rfl
  have x2 := HX.out 2 _ rfl
  clear hi HR
  generalize stepF (z0, z1, ws) = RES at *
  generalize wordsF ws = r at *
  generalize ws.length = n at *
  cases z0 with
  | true =>
    by_cases h1 : z1 = 0
    · subst h1
      by_cases h2 : 0 < n
      · have h2b : decide ((0 : Int) < (n : Int)) = true := by simp; omega
        have HE : Hid (RES = 1) := HS1.out rfl (Or.inr h2)
        go_enter Try.func84, Try.ntmps84
        go_wp2_with fail
        refine (isFlush_any _ _ _ _).mono ?_
        rintro e w1 ⟨rfl, hb⟩
        have HB : Hid (Below w.heap.size w w1) := (later1 _ _).trans (hb.mono (by simp))
        replace x0 := (HX.out.later hb) 0 _ rfl
        replace x1 := (HX.out.later hb) 1 _ rfl
        replace x2 := (HX.out.later hb) 2 _ rfl
        clear hb
        go_wp2
        go_ret
        exact ⟨ret_int HE.out.symm, HB.out⟩
      · have h2b : decide ((0 : Int) < (n : Int)) = false := by simp; omega
        have HE : Hid (RES = 0) := HS2.out rfl (by omega)
        go_enter Try.func84, Try.ntmps84
        go_wp2_with fail
        refine (isFlush_any _ _ _ _).mono ?_
        rintro e w1 ⟨rfl, hb⟩
        have HB : Hid (Below w.heap.size w w1) := (later1 _ _).trans (hb.mono (by simp))
        replace x0 := (HX.out.later hb) 0 _ rfl
        replace x1 := (HX.out.later hb) 1 _ rfl
        replace x2 := (HX.out.later hb) 2 _ rfl
        clear hb
        go_wp2
        go_ret
        exact ⟨ret_int HE.out.symm, HB.out⟩
    · have h1b : (z1 != 0) = true := by simpa using h1
      have HE : Hid (RES = 1) := HS1.out rfl (Or.inl h1)
      go_enter Try.func84, Try.ntmps84
      go_wp2_with fail
      refine (isFlush_any _ _ _ _).mono ?_
      rintro e w1 ⟨rfl, hb⟩
      have HB : Hid (Below w.heap.size w w1) := (later1 _ _).trans (hb.mono (by simp))
      replace x0 := (HX.out.later hb) 0 _ rfl
      replace x1 := (HX.out.later hb) 1 _ rfl
      replace x2 := (HX.out.later hb) 2 _ rfl
      clear hb
      go_wp2
      go_ret
      exact ⟨ret_int HE.out.symm, HB.out⟩
  | false =>
    by_cases h1 : z1 < 0
    · have h1b : decide (z1 < 0) = true := by simpa using h1
      have HE : Hid (RES = 3) := HS3.out rfl (Or.inl h1)
      go_enter Try.func84, Try.ntmps84
      go_wp2_with fail
      refine (isFlush_any _ _ _ _).mono ?_
      rintro e w1 ⟨rfl, hb⟩
      have HB : Hid (Below w.heap.size w w1) := (later1 _ _).trans (hb.mono (by simp))
      replace x0 := (HX.out.later hb) 0 _ rfl
      replace x1 := (HX.out.later hb) 1 _ rfl
      replace x2 := (HX.out.later hb) 2 _ rfl
      clear hb
      go_wp2
      go_ret
      exact ⟨ret_int HE.out.symm, HB.out⟩
    · have h1b : decide (z1 < 0) = false := by simpa using h1
      by_cases h2 : 47 ≤ z1
      · have h2b : decide (47 ≤ z1) = true := by simpa using h2
        have HE : Hid (RES = 3) := HS3.out rfl (Or.inr h2)
        go_enter Try.func84, Try.ntmps84
        go_wp2_with fail
        refine (isFlush_any _ _ _ _).mono ?_
        rintro e w1 ⟨rfl, hb⟩
        have HB : Hid (Below w.heap.size w w1) := (later1 _ _).trans (hb.mono (by simp))
        replace x0 := (HX.out.later hb) 0 _ rfl
        replace x1 := (HX.out.later hb) 1 _ rfl
        replace x2 := (HX.out.later hb) 2 _ rfl
        clear hb
        go_wp2
        go_ret
        exact ⟨ret_int HE.out.symm, HB.out⟩
      · have h2b : decide (47 ≤ z1) = false := by simpa using h2
        have HE : Hid (RES = r) := HS4.out rfl (by omega)
        go_enter Try.func84, Try.ntmps84
        go_wp2_with fail
        refine (isFlush_any _ _ _ _).mono ?_
        rintro e w1 ⟨rfl, hb⟩
        have HB : Hid (Below w.heap.size w w1) := (later1 _ _).trans (hb.mono (by simp))
        replace x0 := (HX.out.later hb) 0 _ rfl
        replace x1 := (HX.out.later hb) 1 _ rfl
        replace x2 := (HX.out.later hb) 2 _ rfl
        clear hb
        go_wp2_with fail
        refine (HW.out _ HB.out).mono ?_
        rintro e wq ⟨rfl, hq⟩
        subst wq
        go_wp2
        go_ret
        exact ⟨ret_int HE.out.symm, HB.out⟩
set_option maxHeartbeats 1600000 in
theorem specStepFU (w : World) (z0 : Bool) (z1 : Int) (a2 : Option Addr) (n2 c2 : Nat) (d : SD) (h : SteR w (.bool z0) (.int .i64 z1) (.slice a2 n2 c2) d) (_hs : sizeSte d ≤ 1048576) :
    Calls Try.prog 79 #[.agg #[.bool z0, .int .i64 z1, .slice a2 n2 c2]] w fun e w' => e = .returned (.int .i64 (stepF d)) ∧ Below w.heap.size w w' := by
  obtain ⟨⟨e0, e1⟩, hi⟩ := h
  simp only [Value.bool.injEq, Value.int.injEq, true_and] at e0 e1
  obtain ⟨_, _, ev, hm⟩ := hi.shape
  simp only [Value.slice.injEq] at ev
  obtain ⟨rfl, rfl, rfl⟩ := ev
  obtain ⟨f, x, ws⟩ := d
  dsimp only at e0 e1 hi hm ⊢
  subst e0 e1
  unfold maxLen at hm
  have HX : Hid (Bx (w.alloc (.cells #[.bool z0, .int .i64 z1, .slice a2 ws.length c2] 86)) w.heap.size [.bool z0, .int .i64 z1, .slice a2 ws.length c2]) := Bx.new w [.bool z0, .int .i64 z1, .slice a2 ws.length c2] _
  have HW : Hid (∀ W, Below w.heap.size w W → Calls Try.prog 78 #[.slice a2 ws.length c2] W fun e w' => e = .returned (.int .i64 (wordsF ws)) ∧ w' = W) := fun W hW => l1Words_any (hi.later hW)
  have HN : Hid (ws.length = 0 → wordsF ws = 0) := fun h0 => by rw [List.eq_nil_of_length_eq_zero h0]; rfl
  have HR : Hid (∀ r, stepF (z0, z1, ws) = r → stepF (z0, z1, ws) = r) := fun _ h => h
  have HS1 : Hid (z0 = true → (¬ z1 = 0 ∨ 0 < ws.length) → stepF (z0, z1, ws) = 1) := fun h1 h2 => by unfold stepF; rw [if_pos h1]; exact if_pos h2
  have HS2 : Hid (z0 = true → ¬ (¬ z1 = 0 ∨ 0 < ws.length) → stepF (z0, z1, ws) = 0) := fun h1 h2 => by unfold stepF; rw [if_pos h1]; exact if_neg h2
  have HS3 : Hid (z0 = false → (z1 < 0 ∨ 47 ≤ z1) → stepF (z0, z1, ws) = 3) := fun h1 h2 => by unfold stepF; rw [if_neg (by rw [h1]; simp)]; exact if_pos h2
  have HS4 : Hid (z0 = false → ¬ (z1 < 0 ∨ 47 ≤ z1) → stepF (z0, z1, ws) = wordsF ws) := fun h1 h2 => by unfold stepF; rw [if_neg (by rw [h1]; simp)]; exact if_neg h2
  have x0 := HX.out 0 _ rfl
  have x1 := HX.out 1 _ rfl
  have x2 := HX.out 2 _ rfl
  clear hi HR
  generalize stepF (z0, z1, ws) = RES at *
  generalize wordsF ws = r at *
  generalize ws.length = n at *
  cases z0 with
  | true =>
    by_cases h1 : z1 = 0
    · subst h1
      by_cases h2 : 0 < n
      · have h2b : decide ((0 : Int) < (n : Int)) = true := by simp; omega
        have HE : Hid (RES = 1) := HS1.out rfl (Or.inr h2)
        go_enter Try.func79, Try.ntmps79
        have HB : Hid (Below w.heap.size w (w.alloc (.cells #[.bool true, .int .i64 0, .slice a2 n c2] 86))) := later1 _ _
        go_wp2
        go_ret
        exact ⟨ret_int HE.out.symm, HB.out⟩
      · have h2b : decide ((0 : Int) < (n : Int)) = false := by simp; omega
        have HE : Hid (RES = 0) := HS2.out rfl (by omega)
        have hr : r = 0 := HN.out (by omega)
        subst hr
        go_enter Try.func79, Try.ntmps79
        have HB : Hid (Below w.heap.size w (w.alloc (.cells #[.bool true, .int .i64 0, .slice a2 n c2] 86))) := later1 _ _
        go_wp2_with fail
        refine (l1In_is (r := true) (by simp <;> omega)).mono ?_
        rintro e wq ⟨rfl, hq⟩
        subst wq
        go_wp2_with fail
        refine (HW.out _ HB.out).mono ?_
        rintro e wq ⟨rfl, hq⟩
        subst wq
        go_wp2
        go_ret
        exact ⟨ret_int HE.out.symm, HB.out⟩
    · have h1b : (z1 != 0) = true := by simpa using h1
      have HE : Hid (RES = 1) := HS1.out rfl (Or.inl h1)
      go_enter Try.func79, Try.ntmps79
      have HB : Hid (Below w.heap.size w (w.alloc (.cells #[.bool true, .int .i64 z1, .slice a2 n c2] 86))) := later1 _ _
      go_wp2
      go_ret
      exact ⟨ret_int HE.out.symm, HB.out⟩
  | false =>
    by_cases h1 : z1 < 0 ∨ 47 ≤ z1
    · have HE : Hid (RES = 3) := HS3.out rfl h1
      go_enter Try.func79, Try.ntmps79
      have HB : Hid (Below w.heap.size w (w.alloc (.cells #[.bool false, .int .i64 z1, .slice a2 n c2] 86))) := later1 _ _
      go_wp2_with fail
      refine (l1In_is (r := false) (by simp <;> omega)).mono ?_
      rintro e wq ⟨rfl, hq⟩
      subst wq
      go_wp2
      go_ret
      exact ⟨ret_int HE.out.symm, HB.out⟩
    · have HE : Hid (RES = r) := HS4.out rfl h1
      go_enter Try.func79, Try.ntmps79
      have HB : Hid (Below w.heap.size w (w.alloc (.cells #[.bool false, .int .i64 z1, .slice a2 n c2] 86))) := later1 _ _
      go_wp2_with fail
      refine (l1In_is (r := true) (by simp <;> omega)).mono ?_
      rintro e wq ⟨rfl, hq⟩
      subst wq
      go_wp2_with fail
      refine (HW.out _ HB.out).mono ?_
      rintro e wq ⟨rfl, hq⟩
      subst wq
      go_wp2
      go_ret
      exact ⟨ret_int HE.out.symm, HB.out⟩
end Go.Proofs.Ytpmndmkmfcoieaa

namespace Go.Proofs.Ytpmndmkmfcoieaa
open Go.RowKit
set_option maxRecDepth 100000

def byB (c : UInt8) : Bool := decide (97 ≤ (c.toNat : Int)) && decide ((c.toNat : Int) ≤ 122)
def nameF (s : ByteArray) : Int := if s.size = 0 then 5 else if s.data.toList.all byB = true then (if 4 < s.size then 2 else 0) else 5
theorem nameF_bad {s : ByteArray} {k : Nat} (h : k < s.size) (hb : byB s[k] = false) : nameF s = 5 := by
  unfold nameF
  split
  · rfl
  · rw [if_neg]
    intro ha
    rw [List.all_eq_true] at ha
    have := ha s[k] (by
      have : s[k] = s.data.toList[k]'(by simpa using h) := rfl
      rw [this]; exact List.getElem_mem _)
    rw [hb] at this
    exact absurd this (by simp)
theorem nameF_good {s : ByteArray} (ha : ∀ j (h : j < s.size), byB s[j] = true) : nameF s = if s.size = 0 then 5 else if 4 < s.size then 2 else 0 := by
  unfold nameF
  rw [if_pos (c := s.data.toList.all byB = true)]
  rw [List.all_eq_true]
  intro c hc
  obtain ⟨k, hk, rfl⟩ := List.mem_iff_getElem.1 hc
  exact ha k (by simpa using hk)

theorem toList_size (s : ByteArray) : s.toList.length = s.size := by rw [ByteArray.toList_eq]; rfl
theorem emp_no {s : ByteArray} (h : ¬ s.size = 0) : s.toList.isEmpty = false := by
  cases hs : s.toList with
  | nil => have := toList_size s; rw [hs] at this; exact absurd this.symm h
  | cons a t => rfl
theorem emp_yes {s : ByteArray} (h : s.size = 0) : s.toList.isEmpty = true := by
  cases hs : s.toList with
  | nil => rfl
  | cons a t => have := toList_size s; rw [hs, h] at this; simp at this

end Go.Proofs.Ytpmndmkmfcoieaa

namespace Go.Proofs.Ytpmndmkmfcoieaa
open Go.RowKit
set_option maxRecDepth 100000

def mkB (l : List UInt8) : ByteArray := ⟨l.toArray⟩
theorem mkB_data (s : ByteArray) : mkB s.data.toList = s := by cases s; simp [mkB]
theorem mkB_list (l : List UInt8) : (mkB l).data.toList = l := by simp [mkB]
theorem mkB_size (l : List UInt8) : (mkB l).size = l.length := by simp [mkB, ByteArray.size]
theorem mkB_inj {l m : List UInt8} (h : mkB l = mkB m) : l = m := by rw [← mkB_list l, h, mkB_list]
def cutHead (b : UInt8) : List (List UInt8) → List (List UInt8)
  | [] => [[b]]
  | p :: ps => (b :: p) :: ps
/-- A text cut at each slash. -/
def cutB : List UInt8 → List (List UInt8)
  | [] => [[]]
  | b :: l => if b = 47 then [] :: cutB l else cutHead b (cutB l)
def takeTo (l : List UInt8) : List UInt8 := l.takeWhile (· != 47)
def dropTo (l : List UInt8) : List UInt8 := l.dropWhile (· != 47)
/-- What stands behind each slash, the first sign being one. -/
def restN : List UInt8 → List (List UInt8)
  | [] => []
  | _ :: t => cutB t
theorem cut_step (t : List UInt8) : cutB t = takeTo t :: restN (dropTo t) := by
  induction t with
  | nil => rfl
  | cons b l ih =>
    unfold cutB takeTo dropTo
    by_cases h : b = 47
    · rw [if_pos h, List.takeWhile_cons, List.dropWhile_cons, if_neg (by simp [h]), if_neg (by simp [h])]
      rfl
    · rw [if_neg h, ih, List.takeWhile_cons, List.dropWhile_cons, if_pos (by simpa using h), if_pos (by simpa using h)]
      rfl
theorem idx_cases (t : List UInt8) : (Lib.indexByte t 47 = -1 ∧ takeTo t = t ∧ dropTo t = []) ∨ ∃ o : Nat, Lib.indexByte t 47 = (o : Int) ∧ o < t.length ∧ takeTo t = t.take o ∧ dropTo t = t.drop o := by
  induction t with
  | nil => exact Or.inl ⟨rfl, rfl, rfl⟩
  | cons b l ih =>
    unfold Lib.indexByte takeTo dropTo
    by_cases h : b = 47
    · exact Or.inr ⟨0, by simp [h], by simp, by simp [h], by simp [h]⟩
    · have hb : (b == 47) = false := by simpa using h
      rcases ih with ⟨h1, h2, h3⟩ | ⟨o, h1, h2, h3, h4⟩
      · refine Or.inl ⟨by simp [hb, h1], ?_, ?_⟩
        · rw [List.takeWhile_cons, if_pos (by simpa using h)]; unfold takeTo at h2; rw [h2]
        · rw [List.dropWhile_cons, if_pos (by simpa using h)]; unfold dropTo at h3; rw [h3]
      · refine Or.inr ⟨o + 1, ?_, by simp; omega, ?_, ?_⟩
        · have : (Lib.indexByte l 47 == -1) = false := by rw [h1]; simp
          simp [hb, h1]
        · rw [List.takeWhile_cons, if_pos (by simpa using h)]; unfold takeTo at h3; rw [h3]; rfl
        · rw [List.dropWhile_cons, if_pos (by simpa using h)]; unfold dropTo at h4; rw [h4]; rfl
theorem restN_cons (b : UInt8) (t : List UInt8) : restN (b :: t) = takeTo t :: restN (dropTo t) := cut_step t
theorem dropTo_le (t : List UInt8) : (dropTo t).length ≤ t.length := by unfold dropTo; exact (List.dropWhile_sublist _).length_le
theorem takeTo_le (t : List UInt8) : (takeTo t).length ≤ t.length := by unfold takeTo; exact (List.takeWhile_sublist _).length_le
/-- The names that a path tells. -/
def namesL (l : List UInt8) : List (List UInt8) := if l = [47] then [] else restN l

theorem run_from (l : List UInt8) (k : Nat) (hk : k ≤ l.length) (W : World) : (Instr.slice 9 (.string (mkB l)) (some (.int .i64 (k : Int))) none none).run Try.prog W = .ok (.string (mkB (l.drop k))) W := by
  have hs := mkB_size l
  have he : (mkB l).extract k (mkB l).size = mkB (l.drop k) := by
    have h : ((mkB l).extract k (mkB l).size).data.toList = l.drop k := by
      simp only [mkB, ByteArray.size, ByteArray.data_extract, Array.toList_extract, List.size_toArray, List.extract_eq_take_drop]
      exact List.take_of_length_le (by simp)
    rw [← mkB_data ((mkB l).extract k (mkB l).size), h]
  simp [Instr.slice, Instr.sliceBounds, Instr.sliceBound, asIntOf, run_underlying Try.underlying9, hs, hk]
  rw [← hs]
  exact he
theorem run_upto (l : List UInt8) (k : Nat) (hk : k ≤ l.length) (W : World) : (Instr.slice 9 (.string (mkB l)) none (some (.int .i64 (k : Int))) none).run Try.prog W = .ok (.string (mkB (l.take k))) W := by
  have hs := mkB_size l
  have he : (mkB l).extract 0 k = mkB (l.take k) := by
    have h : ((mkB l).extract 0 k).data.toList = l.take k := by simp [mkB]
    rw [← mkB_data ((mkB l).extract 0 k), h]
  simp [Instr.slice, Instr.sliceBounds, Instr.sliceBound, asIntOf, run_underlying Try.underlying9, hs, hk]
  exact he
end Go.Proofs.Ytpmndmkmfcoieaa

namespace Go.Proofs.Ytpmndmkmfcoieaa
open Go.RowKit Go.Shelf
set_option maxRecDepth 100000
attribute [local go_sem] Oper.semAt_some

/-- A text that is no longer than a row takes. -/
abbrev BL := { l : List UInt8 // l.length ≤ 1048576 }
/-- A name as it is told. -/
abbrev encB (x : BL) : Array Value := #[.string (mkB x.1)]
abbrev txt (pre : List BL) : List (List UInt8) := pre.map (·.1)
theorem mkB_toList (l : List UInt8) : (mkB l).toList = l := by rw [ByteArray.toList_eq, mkB_list]
def strLen : Value → Nat
  | .string s => s.size
  | _ => 0

end Go.Proofs.Ytpmndmkmfcoieaa

namespace Go.Proofs.Ytpmndmkmfcoieaa
open Go.RowKit Go.Shelf
set_option maxRecDepth 100000
attribute [local go_sem] Oper.semAt_some

theorem cutHead_len (b : UInt8) (ps : List (List UInt8)) (h : ps ≠ []) : (cutHead b ps).length = ps.length := by
  cases ps with
  | nil => exact absurd rfl h
  | cons a t => rfl
theorem cutB_ne (l : List UInt8) : cutB l ≠ [] := by rw [cut_step]; simp
theorem cutB_len (l : List UInt8) : (cutB l).length ≤ l.length + 1 := by
  induction l with
  | nil => simp [cutB]
  | cons b t ih =>
    unfold cutB
    split
    · simp only [List.length_cons]; omega
    · rw [cutHead_len b _ (cutB_ne t)]; simp only [List.length_cons]; omega
theorem namesL_len (l : List UInt8) : (namesL l).length ≤ l.length + 1 := by
  unfold namesL
  split
  · simp
  · cases l with
    | nil => simp [restN]
    | cons b t => have := cutB_len t; simp only [restN, List.length_cons]; omega
theorem cell_new_l (W : World) (v : Value) (t : TypeId) : (W.alloc (.cells #[v] t)).cell? ⟨W.heap.size, 0, none⟩ = some v ∧ (W.alloc (.cells #[v] t)).frozen? ⟨W.heap.size, 0, none⟩ = false := by
  have h : (W.alloc (.cells #[v] t)).heap[W.heap.size]? = some (.cells #[v] t (0, 0)) := World.alloc_heap_new W _
  constructor
  · simp only [World.cell?, h]; rfl
  · simp only [World.frozen?, h]; rfl

end Go.Proofs.Ytpmndmkmfcoieaa

namespace Go.Proofs.Ytpmndmkmfcoieaa
open Go.RowKit
set_option maxRecDepth 100000

/-- The digits of a number ahead of what stands. -/
def dg (k : Nat) (acc : List UInt8) : List UInt8 := if h : k = 0 then acc else dg (k / 10) (UInt8.ofNat (48 + k % 10) :: acc)
termination_by k
decreasing_by omega

theorem mkB_app (a b : List UInt8) : mkB a ++ mkB b = mkB (a ++ b) := by
  have h : (mkB a ++ mkB b).data.toList = a ++ b := by simp [mkB]
  rw [← mkB_data (mkB a ++ mkB b), h]
end Go.Proofs.Ytpmndmkmfcoieaa

namespace Go.Proofs.Ytpmndmkmfcoieaa
open Go.RowKit Go.Shelf
set_option maxRecDepth 100000
attribute [local go_sem] Oper.semAt_some

/-- The fault of the first name that has one. -/
def namesF : List (List UInt8) → Int
  | [] => 0
  | x :: t => if nameF (mkB x) = 0 then namesF t else nameF (mkB x)
theorem nameF_cases (s : ByteArray) : nameF s = 0 ∨ nameF s = 2 ∨ nameF s = 5 := by
  unfold nameF
  split
  · simp
  · split
    · split <;> simp
    · simp
theorem namesF_app (a b : List (List UInt8)) : namesF (a ++ b) = if namesF a = 0 then namesF b else namesF a := by
  induction a with
  | nil => simp [namesF]
  | cons x t ih =>
    simp only [List.cons_append, namesF]
    split
    · exact ih
    · rfl
theorem namesF_snoc {a : List (List UInt8)} (x : List UInt8) (h : namesF a = 0) : namesF (a ++ [x]) = nameF (mkB x) := by
  rw [namesF_app, if_pos h]
  simp only [namesF]
  split
  · rename_i h; exact h.symm
  · rfl
theorem namesF_prefix {a b : List (List UInt8)} (h : a <+: b) (hn : ¬ namesF a = 0) : namesF b = namesF a := by
  obtain ⟨t, rfl⟩ := h
  rw [namesF_app, if_neg hn]

end Go.Proofs.Ytpmndmkmfcoieaa

namespace Go.Proofs.Ytpmndmkmfcoieaa
open Go.RowKit
set_option maxRecDepth 100000

def preB (l : List UInt8) : Bool := l.head? == some 47
def sufB (l : List UInt8) : Bool := l.getLast? == some 47
def topB (l : List UInt8) : Bool := l == [47]
theorem pre_lib (l : List UInt8) : Lib.hasPrefix l [47] = preB l := by
  cases l with
  | nil => rfl
  | cons b t => simp [Lib.hasPrefix, preB, List.isPrefixOf]; exact BEq.comm
theorem suf_lib (l : List UInt8) : Lib.hasSuffix l [47] = sufB l := by
  unfold Lib.hasSuffix sufB
  cases h : l.reverse with
  | nil =>
    have : l = [] := by simpa using h
    subst this; rfl
  | cons b t =>
    have : l = t.reverse ++ [b] := by
      have := congrArg List.reverse h
      simpa using this
    subst this
    simp [List.isSuffixOf, List.isPrefixOf]; exact BEq.comm
def pathF (l : List UInt8) : Int :=
  if 30 < l.length then 2 else if preB l = true then (if sufB l = true ∧ topB l = false then 5 else if 6 < (namesL l).length then 2 else namesF (namesL l)) else 5

end Go.Proofs.Ytpmndmkmfcoieaa

namespace Go.Proofs.Ytpmndmkmfcoieaa
open Go.RowKit Go.Shelf
set_option maxRecDepth 100000
attribute [local go_sem] Oper.semAt_some

theorem Try.infoStr : (Try.prog.info? 9).map (fun i => (i.zero, i.size, i.bytes)) = some (some (.string ⟨#[]⟩), 1, 16) := by kernel_rfl
/-- The cells of a list of texts. -/
def strV (l : List UInt8) : Value := .string (mkB l)
/-- The names that SplitPath answers. -/
def splitL (l : List UInt8) : List (List UInt8) := if pathF l = 0 then namesL l else []

theorem ownsRow_later {B : Nat} {e : TypeId} {k : Nat} {v : Value} {n : Nat} {xs : List Value} {w w' : World} (h : w.ownsRow B e k v n xs) (hb : Below w.heap.size w w') : w'.ownsRow B e k v n xs :=
  h.kept (row := none) ⟨hb.os, hb.tape, hb.output, hb.size, fun j hj _ => hb.block j hj⟩ (by cases hv : v.ownBlock <;> simp)
theorem ownsRow_shape {w : World} {B : Nat} {e : TypeId} {k : Nat} {v : Value} {n : Nat} {xs : List Value} (h : w.ownsRow B e k v n xs) : ∃ a c, v = .slice a n c := by
  rcases h.2 with ⟨rfl, rfl⟩ | ⟨g, cap, cur, rfl, _⟩
  · exact ⟨_, _, rfl⟩
  · exact ⟨_, _, rfl⟩
theorem ownsRow_base {w : World} {B B' : Nat} {e : TypeId} {k : Nat} {v : Value} {n : Nat} {xs : List Value} (h : w.ownsRow B e k v n xs) (hb : B' ≤ B) : w.ownsRow B' e k v n xs := by
  obtain ⟨hl, h | ⟨g, cap, cur, h1, h2, r⟩⟩ := h
  · exact ⟨hl, Or.inl h⟩
  · exact ⟨hl, Or.inr ⟨g, cap, cur, h1, Nat.le_trans hb h2, r⟩⟩
theorem ownsRow_store {w : World} {B : Nat} {e : TypeId} {k : Nat} {v : Value} {n : Nat} {xs : List Value} (h : w.ownsRow B e k v n xs) {p : Addr} (hp : p.block < B) (u : Value) : (w.setCell p u).ownsRow B e k v n xs := by
  obtain ⟨hl, h | ⟨g, cap, cur, h1, h2, h3, r⟩⟩ := h
  · exact ⟨hl, Or.inl h⟩
  · exact ⟨hl, Or.inr ⟨g, cap, cur, h1, h2, (Below.heap_setCell _ _ _ _ (by omega)).trans h3, r⟩⟩
theorem keeps_later {w w' : World} (hb : Below w.heap.size w w') : KeepsOthers w w' := ⟨hb.size, fun j _ hj _ => (hb.block j (Array.getElem?_eq_some_iff.1 hj).1).trans hj⟩
theorem OwnRow.newS (w : World) (x y : Value) (t : TypeId) : OwnRow (w.alloc (.cells #[x, y] t)) w.heap.size 2 (fun i => if i = 0 then x else y) := by
  refine ⟨_, t, World.alloc_heap_new w _, by simp, fun i hi => ?_⟩
  have : i = 0 ∨ i = 1 := by omega
  rcases this with rfl | rfl <;> simp

/-- What a builtin append is known to come to, inside a region of a round that draws its order. -/
theorem stepIn_append_run {F : Fence} {n : Nat} {P : Program} {w : World} {ops : Array Oper} {o : Oper} {a : Act} {K : Act → World → Prop} {Q : Exit → Act → World → Prop} {E : Prop} (hgd : o.guard = none) (s x : Operand) (t : TypeId)
    (hop : o.op = .call { callee := .builtin .append, args := #[s, x], argTypes := #[t, t] }) (v y : Value) (hs : a.eval s = v) (hx : a.eval x = y) (v' : Value) (w' : World)
    (hr : (Builtin.append_ #[t, t] o.type #[v, y]).run P w = .ok v' w') (h : K (a.put o.dst v') w') : if Region.wanted o (yielded ops a.tmps) = true then Oper.wpIn F n P o a w K Q else E := by
  have hw : Region.wanted o (yielded ops a.tmps) = true := by simp [Region.wanted, hgd]
  rw [if_pos hw]
  unfold Oper.wpIn
  refine ⟨?_, ?_⟩
  · simp [Oper.about, hop, resolve, Target.leads, Sem.run_pure]
  · rw [Oper.semAt_plain F _ _ (by rw [hop]; intro c hc'; cases hc')]
    simp [execOp, hop, resolve, invoke, builtin, hs, hx, hr, Result.andThen]
    exact h

end Go.Proofs.Ytpmndmkmfcoieaa

namespace Go.Proofs.Ytpmndmkmfcoieaa
open Go.RowKit
set_option maxRecDepth 100000

theorem cut_at47 {l : List UInt8} {n : Nat} (h : ∀ k, k < n → l[k]?.getD 0 ≠ 47) (hn : n ≤ l.length) (he : n = l.length ∨ l[n]?.getD 0 = 47) : takeTo l = l.take n ∧ dropTo l = l.drop n := by
  induction l generalizing n with
  | nil => simp at hn; subst hn; exact ⟨rfl, rfl⟩
  | cons b t ih =>
    unfold takeTo dropTo
    cases n with
    | zero =>
      have hb : b = 47 := by rcases he with h | h <;> simp at h; exact h
      simp [hb]
    | succ n =>
      have hb : ¬ b = 47 := by have := h 0 (by omega); simpa using this
      have := ih (n := n) (fun k hk => by have := h (k + 1) (by omega); simpa using this) (by simpa using hn) (by simpa using he)
      unfold takeTo dropTo at this
      rw [List.takeWhile_cons, List.dropWhile_cons, if_pos (by simpa using hb), if_pos (by simpa using hb), this.1, this.2]
      exact ⟨rfl, rfl⟩
theorem run_mid (l : List UInt8) (f k : Nat) (hf : f ≤ k) (hk : k ≤ l.length) (W : World) : (Instr.slice 9 (.string (mkB l)) (some (.int .i64 (f : Int))) (some (.int .i64 (k : Int))) none).run Try.prog W = .ok (.string (mkB ((l.drop f).take (k - f)))) W := by
  have hs := mkB_size l
  have he : (mkB l).extract f k = mkB ((l.drop f).take (k - f)) := by
    have h : ((mkB l).extract f k).data.toList = (l.drop f).take (k - f) := by
      simp only [mkB, ByteArray.data_extract, Array.toList_extract, List.extract_eq_take_drop]
    rw [← mkB_data ((mkB l).extract f k), h]
  simp [Instr.slice, Instr.sliceBounds, Instr.sliceBound, asIntOf, run_underlying Try.underlying9, hs, hk, hf]
  exact he
theorem mkB_get (t : List UInt8) (j : Nat) (h : j < (mkB t).size) : (mkB t)[j] = t[j]?.getD 0 := by
  have h' : j < t.length := by rw [← mkB_size]; exact h
  rw [List.getElem?_eq_getElem h', Option.getD_some]
  show (mkB t).data[j] = _
  simp [mkB]
/-- How far the cutting is: 'done' pieces, the next one from f on. -/
def CutSt (t : List UInt8) (j f : Nat) (done : List (List UInt8)) : Prop :=
  (j ≤ t.length ∧ f ≤ j ∧ cutB t = done ++ cutB (t.drop f) ∧ (∀ k, f ≤ k → k < j → t[k]?.getD 0 ≠ 47) ∧ done.length ≤ j) ∨ (j = t.length + 1 ∧ done = cutB t)
theorem cut_here {t : List UInt8} {j f : Nat} {done : List (List UInt8)} (hf : f ≤ j) (hj : j ≤ t.length) (h1 : cutB t = done ++ cutB (t.drop f)) (h2 : ∀ k, f ≤ k → k < j → t[k]?.getD 0 ≠ 47) (he : j = t.length ∨ t[j]?.getD 0 = 47) :
    cutB t = (done ++ [(t.drop f).take (j - f)]) ++ restN (t.drop j) := by
  have := cut_at47 (l := t.drop f) (n := j - f) (fun k hk => by rw [List.getElem?_drop]; exact h2 (f + k) (by omega) (by omega)) (by simp; omega) (by
    rcases he with e | e
    · exact Or.inl (by simp; omega)
    · exact Or.inr (by rw [List.getElem?_drop, show f + (j - f) = j by omega]; exact e))
  rw [h1, cut_step (t.drop f), this.1, this.2, List.drop_drop, show f + (j - f) = j by omega, List.append_assoc]
  rfl

end Go.Proofs.Ytpmndmkmfcoieaa

namespace Go.Proofs.Ytpmndmkmfcoieaa
open Go.RowKit
set_option maxRecDepth 100000

/-- How a list of texts reads. -/
def AtT (w : World) (a : Option Addr) (n : Nat) (xs : List (List UInt8)) : Prop := ∀ k, k < n → ∃ b off, a = some ⟨b, off, none⟩ ∧ w.cell? ⟨b, off + k, none⟩ = some (.string (mkB (xs[k]?.getD [])))
theorem AtT.later {w w' : World} {a : Option Addr} {n : Nat} {xs : List (List UInt8)} (h : AtT w a n xs) (hb : Below w.heap.size w w') : AtT w' a n xs := fun k hk => by
  obtain ⟨b, off, e, c⟩ := h k hk
  exact ⟨b, off, e, cell_later hb c⟩
theorem ownsRow_at {w : World} {B : Nat} {e : TypeId} {a : Option Addr} {n c : Nat} {xs : List (List UInt8)} (h : w.ownsRow B e 1 (.slice a n c) xs.length (xs.map strV)) : n = xs.length ∧ AtT w a n xs := by
  obtain ⟨hl, ⟨h1, h2⟩ | ⟨g, cap, cur, h1, h2, h3, h4, h5, h6, h7⟩⟩ := h
  · simp only [Value.slice.injEq] at h1
    exact ⟨by rw [h1.2.1, h2], fun k hk => by rw [h1.2.1] at hk; omega⟩
  · simp only [Value.slice.injEq] at h1
    refine ⟨h1.2.1, fun k hk => ⟨g, 0, h1.1, ?_⟩⟩
    rw [h1.2.1] at hk
    have h8 : (xs.map strV)[k]? = some (.string (mkB (xs[k]?.getD []))) := by rw [List.getElem?_map, List.getElem?_eq_getElem hk]; rfl
    rw [← h7, List.getElem?_take, if_pos (by omega), Array.getElem?_toList] at h8
    rw [Nat.zero_add]
    simp only [World.cell?, h3]
    exact h8
def namesC (xs : List (List UInt8)) : Int := if 6 < xs.length then 2 else namesF xs
theorem namesF_at {xs : List (List UInt8)} {j : Nat} (h : ∀ i, i < j → nameF (mkB (xs[i]?.getD [])) = 0) (hj : j < xs.length) (hn : ¬ nameF (mkB (xs[j]?.getD [])) = 0) : namesF xs = nameF (mkB (xs[j]?.getD [])) := by
  induction xs generalizing j with
  | nil => simp at hj
  | cons x t ih =>
    cases j with
    | zero => simp at hn ⊢; simp [namesF, hn]
    | succ j =>
      have h0 : nameF (mkB x) = 0 := by simpa using h 0 (by omega)
      simp only [namesF, if_pos h0]
      have := ih (j := j) (fun i hi => by simpa using h (i + 1) (by omega)) (by simpa using hj) (by simpa using hn)
      simpa using this
theorem namesF_zero {xs : List (List UInt8)} (h : ∀ i, i < xs.length → nameF (mkB (xs[i]?.getD [])) = 0) : namesF xs = 0 := by
  induction xs with
  | nil => rfl
  | cons x t ih =>
    have h0 : nameF (mkB x) = 0 := by simpa using h 0 (by simp)
    simp only [namesF, if_pos h0]
    exact ih fun i hi => by simpa using h (i + 1) (by simpa using hi)

end Go.Proofs.Ytpmndmkmfcoieaa

namespace Go.Proofs.Ytpmndmkmfcoieaa
open Go.RowKit
set_option maxRecDepth 100000

def mkT (k : Nat) : Value := .string (mkB (109 :: dg k []))

end Go.Proofs.Ytpmndmkmfcoieaa

namespace Go.Proofs.Ytpmndmkmfcoieaa
open Go.RowKit
set_option maxRecDepth 100000

abbrev EN := ByteArray × Int
def en0 : EN := (⟨#[]⟩, 0)
/-- The cells of a row of entries. -/
def enCell (es : List EN) (j : Nat) : Value := if j % 2 = 0 then .string (es[j / 2]?.getD en0).1 else .int .i64 (es[j / 2]?.getD en0).2
theorem enCell_0 (es : List EN) (k : Nat) : enCell es (k * 2) = .string (es[k]?.getD en0).1 := by
  unfold enCell; rw [if_pos (by omega), show k * 2 / 2 = k by omega]
theorem enCell_1 (es : List EN) (k : Nat) : enCell es (k * 2 + 1) = .int .i64 (es[k]?.getD en0).2 := by
  unfold enCell; rw [if_neg (by omega), show (k * 2 + 1) / 2 = k by omega]

/-- Where the entries of a list lie. -/
def AtN (w : World) (a : Option Addr) (n : Nat) (es : List EN) : Prop :=
  ∀ k, k < n → ∃ b off, a = some ⟨b, off, none⟩ ∧ w.cell? ⟨b, off + k * 2, none⟩ = some (.string (es[k]?.getD en0).1) ∧ w.cell? ⟨b, off + k * 2 + 1, none⟩ = some (.int .i64 (es[k]?.getD en0).2)
theorem AtN.later {w w' : World} {a : Option Addr} {n : Nat} {es : List EN} (h : AtN w a n es) (hb : Below w.heap.size w w') : AtN w' a n es := fun k hk => by
  obtain ⟨b, off, e, c0, c1⟩ := h k hk
  exact ⟨b, off, e, cell_later hb c0, cell_later hb c1⟩
/-- The slice v reads as the entries es. -/
def Ents (w : World) (v : Value) (es : List EN) : Prop := ∃ a cap, v = .slice a es.length cap ∧ (es.length ≤ maxLen ∧ es.length ≤ cap ∧ ∀ k : Nat, (es[k]?.getD en0).1.size ≤ maxLen) ∧ AtN w a es.length es
theorem Ents.later {w w' : World} {v : Value} {es : List EN} (h : Ents w v es) (hb : Below w.heap.size w w') : Ents w' v es := by
  obtain ⟨a, cap, h1, h2, h3⟩ := h
  exact ⟨a, cap, h1, h2, h3.later hb⟩
theorem Ents.nil (w : World) (a : Option Addr) (cap : Nat) : Ents w (.slice a 0 cap) [] := ⟨a, cap, rfl, ⟨by simp, by simp, fun k => by simp [en0, ByteArray.size]⟩, fun k hk => by simp at hk⟩
theorem Ents.open' {w : World} {v : Value} {es : List EN} (h : Ents w v es) : ∃ a cap, v = .slice a es.length cap ∧ es.length ≤ maxLen ∧ (∀ k : Nat, (es[k]?.getD en0).1.size ≤ maxLen) ∧ AtN w a es.length es := by
  obtain ⟨a, cap, h1, h2, h3⟩ := h
  exact ⟨a, cap, h1, h2.1, h2.2.2, h3⟩

/-- The slice v holds the entries es, in one block of F. -/
def EntsO (w : World) (v : Value) (es : List EN) (F : Nat → Prop) : Prop :=
  (es = [] ∧ ∃ a cap, v = .slice a 0 cap) ∨
  (∃ b cap, F b ∧ v = .slice (some ⟨b, 0, none⟩) es.length cap ∧ (es.length ≤ maxLen ∧ es.length ≤ cap ∧ ∀ k : Nat, (es[k]?.getD en0).1.size ≤ maxLen) ∧ OwnRow w b (es.length * 2) (enCell es))
theorem OwnRow.atN {w : World} {b n : Nat} {es : List EN} (h : OwnRow w b (n * 2) (enCell es)) : AtN w (some ⟨b, 0, none⟩) n es := fun k hk =>
  ⟨b, 0, rfl, by rw [Nat.zero_add, h.cell (by omega), enCell_0], by rw [Nat.zero_add, h.cell (by omega), enCell_1]⟩
theorem EntsO.reads {w : World} {v : Value} {es : List EN} {F : Nat → Prop} (h : EntsO w v es F) : Ents w v es := by
  rcases h with ⟨rfl, a, cap, rfl⟩ | ⟨b, cap, _, h1, h2, h3⟩
  · exact Ents.nil w a cap
  · exact ⟨_, cap, h1, h2, h3.atN⟩
theorem EntsO.keep {w w' : World} {v : Value} {es : List EN} {F : Nat → Prop} (h : EntsO w v es F) (e : ∀ b, F b → b < w.heap.size → w'.heap[b]? = w.heap[b]?) : EntsO w' v es F := by
  rcases h with h | ⟨b, cap, hF, h1, h2, h3⟩
  · exact Or.inl h
  · exact Or.inr ⟨b, cap, hF, h1, h2, h3.block (e b hF h3.lt)⟩
theorem EntsO.mono {w : World} {v : Value} {es : List EN} {F G : Nat → Prop} (h : EntsO w v es F) (e : ∀ b, F b → G b) : EntsO w v es G := by
  rcases h with h | ⟨b, cap, hF, h1⟩
  · exact Or.inl h
  · exact Or.inr ⟨b, cap, e b hF, h1⟩
theorem EntsO.bound {w : World} {v : Value} {es : List EN} {F : Nat → Prop} (h : EntsO w v es F) : EntsO w v es (fun b => F b ∧ b < w.heap.size) := by
  rcases h with h | ⟨b, cap, hF, h1, h2, h3⟩
  · exact Or.inl h
  · exact Or.inr ⟨b, cap, ⟨hF, h3.lt⟩, h1, h2, h3⟩
theorem EntsO.later {w w' : World} {v : Value} {es : List EN} {F : Nat → Prop} (h : EntsO w v es F) (hb : Below w.heap.size w w') : EntsO w' v es F := h.keep fun b _ hlt => hb.block b hlt

/-- The marks of n entries, from k on. -/
def marksN (k : Nat) (n : Nat) : List EN := (List.range n).map fun i : Nat => (mkB (109 :: dg (k + 2 * i) []), ((k + 2 * i + 1 : Nat) : Int))
theorem marksN_length (k n : Nat) : (marksN k n).length = n := by simp [marksN]
theorem marksN_get (k : Nat) {n i : Nat} (h : i < n) : (marksN k n)[i]?.getD en0 = (mkB (109 :: dg (k + 2 * i) []), ((k + 2 * i + 1 : Nat) : Int)) := by simp [marksN, h]
def markCell (k c : Nat) : Value := if c % 2 = 0 then mkT (k + c) else .int .i64 ((k + c : Nat) : Int)
theorem enCell_marks (k : Nat) {n c : Nat} (h : c < n * 2) : enCell (marksN k n) c = markCell k c := by
  have h3 : c / 2 < n := by omega
  unfold enCell markCell
  rw [marksN_get k h3]
  by_cases e : c % 2 = 0
  · rw [if_pos e, if_pos e]; unfold mkT; rw [show k + 2 * (c / 2) = k + c by omega]
  · rw [if_neg e, if_neg e]; show Value.int .i64 ((k + 2 * (c / 2) + 1 : Nat) : Int) = _; rw [show k + 2 * (c / 2) + 1 = k + c by omega]
theorem dg_len (k : Nat) : ∀ acc, (dg k acc).length ≤ k + acc.length := by
  induction k using Nat.strongRecOn with
  | ind k ih =>
    intro acc
    unfold dg
    split
    · omega
    · have := ih (k / 10) (by omega) (UInt8.ofNat (48 + k % 10) :: acc)
      simp only [List.length_cons] at this
      omega
theorem marksN_size (k n : Nat) (h : k + 2 * n ≤ 4294967296) (i : Nat) : ((marksN k n)[i]?.getD en0).1.size ≤ maxLen := by
  unfold maxLen
  by_cases e : i < n
  · rw [marksN_get k e]
    show (mkB (109 :: dg (k + 2 * i) [])).size ≤ _
    rw [mkB_size]
    have := dg_len (k + 2 * i) []
    simp only [List.length_cons, List.length_nil] at this ⊢
    omega
  · rw [List.getElem?_eq_none (by rw [marksN_length]; omega)]
    simp [en0, ByteArray.size]

/-- The cells of a row of entries of which the first j stand. -/
def partN (es : List EN) (j c : Nat) : Value := if c < j * 2 then enCell es c else pairCell (.string ⟨#[]⟩) (.int .i64 0) c
theorem partN_next (es : List EN) (j c : Nat) : (if c = j * 2 + 1 then .int .i64 (es[j]?.getD en0).2 else (if c = j * 2 then .string (es[j]?.getD en0).1 else partN es j c)) = partN es (j + 1) c := by
  unfold partN
  by_cases e1 : c = j * 2 + 1
  · subst e1; rw [if_pos rfl, if_pos (by omega), enCell_1]
  · rw [if_neg e1]
    by_cases e0 : c = j * 2
    · subst e0; rw [if_pos rfl, if_pos (by omega), enCell_0]
    · rw [if_neg e0]
      by_cases h : c < j * 2
      · rw [if_pos h, if_pos (by omega)]
      · rw [if_neg h, if_neg (by omega)]
/-- How great a list of entries is. -/
def nlens (es : List EN) : List Nat := es.map fun e => e.1.size
theorem nlens_length (es : List EN) : (nlens es).length = es.length := by simp [nlens]
theorem nlens_get (es : List EN) (i : Nat) : (nlens es)[i]?.getD 0 = (es[i]?.getD en0).1.size := by
  unfold nlens; rw [List.getElem?_map]; cases es[i]? <;> rfl
def sizeN (es : List EN) : Nat := es.length + (nlens es).sum

/-- A slice is no longer than its room. -/
def capOK (v : Value) : Prop := ∃ a n c, v = .slice a n c ∧ n ≤ c
/-- Inodes: kind, links, size, blocks, entries. -/
abbrev ID := Int × Int × Int × List Int × List EN
def InoR (w : World) (v0 v1 v2 vB vE : Value) (d : ID) : Prop := (v0 = .int .i64 d.1 ∧ v1 = .int .i64 d.2.1 ∧ v2 = .int .i64 d.2.2.1 ∧ capOK vB) ∧ Ints w vB d.2.2.2.1 ∧ Ents w vE d.2.2.2.2
theorem InoR.later {w w' : World} {v0 v1 v2 vB vE : Value} {d : ID} (h : InoR w v0 v1 v2 vB vE d) (hb : Below w.heap.size w w') : InoR w' v0 v1 v2 vB vE d := ⟨h.1, h.2.1.later hb, h.2.2.later hb⟩
def InoU (w : World) (v0 v1 v2 vB vE : Value) (d : ID) (F : Nat → Prop) : Prop := (v0 = .int .i64 d.1 ∧ v1 = .int .i64 d.2.1 ∧ v2 = .int .i64 d.2.2.1 ∧ capOK vB) ∧ ∃ F1 G1 : Nat → Prop, IntsO w vB d.2.2.2.1 F1 ∧ EntsO w vE d.2.2.2.2 G1 ∧ (∀ b, F1 b → ¬ G1 b) ∧ ∀ b, F1 b ∨ G1 b → F b
theorem InoU.reads {w : World} {v0 v1 v2 vB vE : Value} {d : ID} {F : Nat → Prop} (h : InoU w v0 v1 v2 vB vE d F) : InoR w v0 v1 v2 vB vE d := by
  obtain ⟨h0, _, _, h1, h2, _⟩ := h
  exact ⟨h0, h1.reads, h2.reads⟩
theorem InoU.keep {w w' : World} {v0 v1 v2 vB vE : Value} {d : ID} {F : Nat → Prop} (h : InoU w v0 v1 v2 vB vE d F) (e : ∀ b, F b → b < w.heap.size → w'.heap[b]? = w.heap[b]?) : InoU w' v0 v1 v2 vB vE d F := by
  obtain ⟨h0, F1, G1, h1, h2, hd, hf⟩ := h
  exact ⟨h0, F1, G1, h1.keep fun b hb => e b (hf b (Or.inl hb)), h2.keep fun b hb => e b (hf b (Or.inr hb)), hd, hf⟩
theorem InoU.later {w w' : World} {v0 v1 v2 vB vE : Value} {d : ID} {F : Nat → Prop} (h : InoU w v0 v1 v2 vB vE d F) (hb : Below w.heap.size w w') : InoU w' v0 v1 v2 vB vE d F := h.keep fun b _ hlt => hb.block b hlt
theorem InoU.mono {w : World} {v0 v1 v2 vB vE : Value} {d : ID} {F G : Nat → Prop} (h : InoU w v0 v1 v2 vB vE d F) (e : ∀ b, F b → G b) : InoU w v0 v1 v2 vB vE d G := by
  obtain ⟨h0, F1, G1, h1, h2, hd, hf⟩ := h
  exact ⟨h0, F1, G1, h1, h2, hd, fun b hb => e b (hf b hb)⟩
theorem InoU.chg {w w' : World} {v0 v1 v2 vB vE : Value} {d : ID} {F G : Nat → Prop} (h : InoU w v0 v1 v2 vB vE d F) (hc : Chg G w w') (hd : ∀ b, F b → ¬ G b) : InoU w' v0 v1 v2 vB vE d F := h.keep fun b hb hlt => hc.block b hlt (hd b hb)
def sizeIno (d : ID) : Nat := d.2.2.2.1.length + sizeN d.2.2.2.2
def spanIno (d : ID) : Nat := d.2.2.2.1.length + 2 * d.2.2.2.2.length
theorem spanIno_le (d : ID) : spanIno d ≤ 2 * sizeIno d := by unfold spanIno sizeIno sizeN; omega
end Go.Proofs.Ytpmndmkmfcoieaa
