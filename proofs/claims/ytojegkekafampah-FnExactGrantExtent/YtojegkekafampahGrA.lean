
/- GrantExtent, the program's: does an extent meet another, and where does it go. -/
import Derived.Test.YtojegkekafampahWrkC
import Derived.Test.YtojegkekafampahCutE
namespace Go.Proofs.Ytojegkekafampah
open Go.RowKit
set_option maxRecDepth 100000

def meetB (a b : E3) : Bool := decide (a.1 < b.1 + b.2.1) && decide (b.1 < a.1 + a.2.1)
def anyMeet (es : List E3) (x : E3) : Bool := es.any fun e => meetB e x
theorem anyMeet_at {es : List E3} {x : E3} {j : Nat} (hj : j < es.length) (h : meetB (extAt es j) x = true) : anyMeet es x = true := by
  unfold anyMeet
  rw [List.any_eq_true]
  exact ⟨es[j], List.getElem_mem hj, by simpa [extAt, hj] using h⟩
theorem anyMeet_none {es : List E3} {x : E3} (h : ∀ j, j < es.length → meetB (extAt es j) x = false) : anyMeet es x = false := by
  unfold anyMeet
  rw [List.any_eq_false]
  intro e he
  obtain ⟨j, hj, rfl⟩ := List.mem_iff_getElem.1 he
  have := h j hj
  simp only [extAt, List.getElem?_eq_getElem hj, Option.getD_some] at this
  simp [this]
/-- Behind how many extents one that begins at x goes. -/
def insAt (es : List E3) (x : Int) : Nat := (es.takeWhile fun e => decide (e.1 < x)).length
theorem insAt_of {es : List E3} {x : Int} {a : Nat} (h : ∀ i : Nat, i < a → (extAt es i).1 < x) (ha : a ≤ es.length) (hs : a = es.length ∨ ¬ (extAt es a).1 < x) : insAt es x = a := by
  induction es generalizing a with
  | nil => simp at ha; subst ha; rfl
  | cons e t ih =>
    cases a with
    | zero =>
      have : ¬ e.1 < x := by
        rcases hs with h | h
        · simp at h
        · simpa [extAt] using h
      simp [insAt, this]
    | succ a =>
      have h0 : e.1 < x := by simpa [extAt] using h 0 (by omega)
      have := ih (a := a) (fun i hi => by simpa [extAt] using h (i + 1) (by omega)) (by simpa using ha) (by simpa [extAt] using hs)
      unfold insAt at this ⊢
      rw [List.takeWhile_cons, if_pos (by simpa using h0), List.length_cons, this]

set_option maxHeartbeats 1600000 in
theorem meets_any (w : World) (p y z p' y' z' : Int) (hp0 : 0 ≤ p) (hp1 : p ≤ 60) (hy0 : 0 ≤ y) (hy1 : y ≤ 60) (hq0 : 0 ≤ p') (hq1 : p' ≤ 60) (hr0 : 0 ≤ y') (hr1 : y' ≤ 60) :
    Calls Try.prog 86 #[.agg #[.int .i64 p, .int .i64 y, .int .i64 z], .agg #[.int .i64 p', .int .i64 y', .int .i64 z']] w fun e w' => e = .returned (.bool (meetB (p, y, z) (p', y', z'))) ∧ Below w.heap.size w w' := by
  have HR : Hid (meetB (p, y, z) (p', y', z') = (decide (p < p' + y') && decide (p' < p + y))) := rfl
  rw [HR.out]
  have e0 := Bx.later (Bx.new w [.int .i64 p, .int .i64 y, .int .i64 z] 70) (later1 _ (.cells #[.int .i64 p', .int .i64 y', .int .i64 z'] 70))
  have o0 := Bx.new (w.alloc (.cells #[.int .i64 p, .int .i64 y, .int .i64 z] 70)) [.int .i64 p', .int .i64 y', .int .i64 z'] 70
  rw [World.size_alloc] at o0
  have x0 := e0 0 _ rfl
  have x1 := e0 1 _ rfl
  have x2 := e0 2 _ rfl
  have x3 := o0 0 _ rfl
  have x4 := o0 1 _ rfl
  have x5 := o0 2 _ rfl
  clear e0 o0 HR
  by_cases h1 : p < p' + y'
  · have d1 : decide (p < p' + y') = true := by simpa using h1
    rw [d1, Bool.true_and]
    go_enter Try.func86, Try.ntmps86
    go_wp2_with fail
    go_region_held3 (fun W => W.cell? ⟨w.heap.size, 0, none⟩ = some (.int .i64 p) ∧ W.cell? ⟨w.heap.size, 1, none⟩ = some (.int .i64 y) ∧ W.cell? ⟨w.heap.size, 2, none⟩ = some (.int .i64 z) ∧ W.cell? ⟨w.heap.size + 1, 0, none⟩ = some (.int .i64 p') ∧ W.cell? ⟨w.heap.size + 1, 1, none⟩ = some (.int .i64 y') ∧ W.cell? ⟨w.heap.size + 1, 2, none⟩ = some (.int .i64 z')) (go_keep) (first
      | (go_at_call 39; refine (end_any _ p' y' z' hq0 hq1 hr0 hr1).mono ?_; rintro e w2 ⟨rfl, hb2⟩
         have k0 := cell_later hb2 x0
         have k1 := cell_later hb2 x1
         have k2 := cell_later hb2 x2
         have k3 := cell_later hb2 x3
         have k4 := cell_later hb2 x4
         have k5 := cell_later hb2 x5
         have HB2 : Hid (Below w.heap.size w w2) := (later2 _ _ _).drew.trans (hb2.mono (by simp; omega))
         clear hb2)
      | (go_at_call 39; refine (end_any _ p y z hp0 hp1 hy0 hy1).mono ?_; rintro e w3 ⟨rfl, hb3⟩
         have l0 := cell_later hb3 k0
         have l1 := cell_later hb3 k1
         have l2 := cell_later hb3 k2
         have l3 := cell_later hb3 k3
         have l4 := cell_later hb3 k4
         have l5 := cell_later hb3 k5
         have HB3 : Hid (Below w.heap.size w w3) := HB2.out.trans (hb3.mono HB2.out.size)
         clear hb3))
    all_goals
      go_wp2
      go_ret
      exact ⟨rfl, HB3.out⟩
  · have d1 : decide (p < p' + y') = false := by simpa using h1
    rw [d1, Bool.false_and]
    clear h1
    go_enter Try.func86, Try.ntmps86
    go_wp2_with fail
    first
    | (go_region_with (first
      | (go_at_call 39; refine (end_any _ p' y' z' hq0 hq1 hr0 hr1).mono ?_; rintro e w2 ⟨rfl, hb2⟩
         have k0 := cell_later hb2 x0
         have k1 := cell_later hb2 x1
         have k2 := cell_later hb2 x2
         have k3 := cell_later hb2 x3
         have k4 := cell_later hb2 x4
         have k5 := cell_later hb2 x5
         have HB2 : Hid (Below w.heap.size w w2) := (later2 _ _ _).drew.trans (hb2.mono (by simp; omega))
         clear hb2)))
    | fail
    all_goals
      go_wp2
      go_ret
      exact ⟨rfl, HB2.out⟩
end Go.Proofs.Ytojegkekafampah
