
/- Steps as arguments; StepFault, both sides. -/
import Derived.Test.YtagmmgcdebgfnaaUni
import Derived.Test.YtagmmgcdebgfnaaCelA
import Derived.Test.YtagmmgcdebgfnaaFaultB
namespace Go.Proofs.Ytagmmgcdebgfnaa
open Go.RowKit
set_option maxRecDepth 100000

abbrev SD := Bool × Int × List Int
def SteR (w : World) (v0 v1 vW : Value) (d : SD) : Prop := (v0 = .bool d.1 ∧ v1 = .int .i64 d.2.1) ∧ Ints w vW d.2.2
theorem SteR.later {w w' : World} {v0 v1 vW : Value} {d : SD} (h : SteR w v0 v1 vW d) (hb : Below w.heap.size w w') : SteR w' v0 v1 vW d := ⟨h.1, h.2.later hb⟩
def SteU (w : World) (v0 v1 vW : Value) (d : SD) (F : Nat → Prop) : Prop := (v0 = .bool d.1 ∧ v1 = .int .i64 d.2.1) ∧ IntsO w vW d.2.2 F
theorem SteU.reads {w : World} {v0 v1 vW : Value} {d : SD} {F : Nat → Prop} (h : SteU w v0 v1 vW d F) : SteR w v0 v1 vW d := ⟨h.1, h.2.reads⟩
theorem SteU.keep {w w' : World} {v0 v1 vW : Value} {d : SD} {F : Nat → Prop} (h : SteU w v0 v1 vW d F) (e : ∀ b, F b → b < w.heap.size → w'.heap[b]? = w.heap[b]?) : SteU w' v0 v1 vW d F := ⟨h.1, h.2.keep e⟩
theorem SteU.later {w w' : World} {v0 v1 vW : Value} {d : SD} {F : Nat → Prop} (h : SteU w v0 v1 vW d F) (hb : Below w.heap.size w w') : SteU w' v0 v1 vW d F := h.keep fun b _ hlt => hb.block b hlt
theorem SteU.mono {w : World} {v0 v1 vW : Value} {d : SD} {F F' : Nat → Prop} (h : SteU w v0 v1 vW d F) (e : ∀ b, F b → F' b) : SteU w v0 v1 vW d F' := ⟨h.1, h.2.mono e⟩
def sizeSte (d : SD) : Nat := d.2.2.length
def spanSte (d : SD) : Nat := d.2.2.length
theorem spanSte_le (d : SD) : spanSte d ≤ 2 * sizeSte d := by unfold spanSte sizeSte; omega

set_option maxHeartbeats 800000 in
theorem szStepU (w : World) (z0 : Bool) (z1 : Int) (a2 : Option Addr) (n2 c2 : Nat) (d : SD) (h : SteR w (.bool z0) (.int .i64 z1) (.slice a2 n2 c2) d) (left : Int) (l0 : 0 ≤ left) (l1 : left ≤ 1048576) :
    Calls Try.prog 9 #[.agg #[.bool z0, .int .i64 z1, .slice a2 n2 c2], .int .i64 left] w fun e w' => e = .returned (.int .i64 (szf left (sizeSte d))) ∧ Below w.heap.size w w' := by
  have HD : Hid (Ints w (.slice a2 n2 c2) d.2.2) := h.2
  have hrr : szf left (sizeSte d) = -1 ∨ 0 ≤ szf left (sizeSte d) := by unfold szf; split <;> omega
  have HZ : Hid (∀ W, Below w.heap.size w W → Calls Try.prog 45 #[.slice a2 n2 c2, .int .i64 left] W fun e w' => e = .returned (.int .i64 (szf left (sizeSte d))) ∧ w' = W) := fun W hW => szInts_any (HD.out.later hW) left l0 l1
  clear h
  generalize szf left (sizeSte d) = r at *
  rcases hrr with hneg | hge
  · subst hneg
    go_enter Try.func9, Try.ntmps9
    go_wp2_with fail
    refine (HZ.out _ (later1 _ _)).mono ?_
    rintro e w1 ⟨rfl, rfl⟩
    go_wp2
    go_ret
    exact ⟨rfl, later1 _ _⟩
  · have hn : ¬ r < 0 := by omega
    go_enter Try.func9, Try.ntmps9
    go_wp2_with fail
    refine (HZ.out _ (later1 _ _)).mono ?_
    rintro e w1 ⟨rfl, rfl⟩
    go_wp2
    go_ret
    exact ⟨rfl, later1 _ _⟩

set_option maxHeartbeats 3200000 in
theorem toStepU (w : World) (z0 : Bool) (z1 : Int) (a2 : Option Addr) (n2 c2 : Nat) (d : SD) (h : SteR w (.bool z0) (.int .i64 z1) (.slice a2 n2 c2) d) (hs : sizeSte d ≤ 1048576) :
    Calls Try.prog 11 #[.agg #[.bool z0, .int .i64 z1, .slice a2 n2 c2]] w fun e w' => ∃ y0 y1 b2 m2 e2, e = .returned (.agg #[.bool y0, .int .i64 y1, .slice b2 m2 e2]) ∧ Below w.heap.size w w' ∧ SteU w' (.bool y0) (.int .i64 y1) (.slice b2 m2 e2) d (fresh w w') := by
  have H0 : Hid (_ ∧ _) := h.1
  have H1 : Hid (Ints w (.slice a2 n2 c2) d.2.2) := h.2
  have L1 : Hid (d.2.2.length ≤ 1048576) := hs
  clear h hs
  have p1 : OwnRow (((w.alloc (.cells #[.bool z0, .int .i64 z1, .slice a2 n2 c2] 24)).alloc (.cells #[.bool false, .int .i64 0, .slice none 0 0] 27)).alloc (.cells #[.bool z0, .int .i64 z1, .slice none 0 0] 27)) (w.heap.size + 1) 3 (cel [.bool false, .int .i64 0, .slice none 0 0]) := (show OwnRow ((w.alloc (.cells #[.bool z0, .int .i64 z1, .slice a2 n2 c2] 24)).alloc (.cells #[.bool false, .int .i64 0, .slice none 0 0] 27)) (w.heap.size + 1) 3 (cel [.bool false, .int .i64 0, .slice none 0 0]) from by have := newCel (w.alloc (.cells #[.bool z0, .int .i64 z1, .slice a2 n2 c2] 24)) [.bool false, .int .i64 0, .slice none 0 0] 27; rw [World.size_alloc] at this; exact this).later (later1 _ _)
  have p2 : OwnRow (((w.alloc (.cells #[.bool z0, .int .i64 z1, .slice a2 n2 c2] 24)).alloc (.cells #[.bool false, .int .i64 0, .slice none 0 0] 27)).alloc (.cells #[.bool z0, .int .i64 z1, .slice none 0 0] 27)) (w.heap.size + 2) 3 (cel [.bool z0, .int .i64 z1, .slice none 0 0]) := by have := newCel ((w.alloc (.cells #[.bool z0, .int .i64 z1, .slice a2 n2 c2] 24)).alloc (.cells #[.bool false, .int .i64 0, .slice none 0 0] 27)) [.bool z0, .int .i64 z1, .slice none 0 0] 27; rw [World.size_alloc, World.size_alloc] at this; exact this
  have HBA : Hid (Below w.heap.size w (((w.alloc (.cells #[.bool z0, .int .i64 z1, .slice a2 n2 c2] 24)).alloc (.cells #[.bool false, .int .i64 0, .slice none 0 0] 27)).alloc (.cells #[.bool z0, .int .i64 z1, .slice none 0 0] 27))) := later3 _ _ _ _
  have hWs : (((w.alloc (.cells #[.bool z0, .int .i64 z1, .slice a2 n2 c2] 24)).alloc (.cells #[.bool false, .int .i64 0, .slice none 0 0] 27)).alloc (.cells #[.bool z0, .int .i64 z1, .slice none 0 0] 27)).heap.size = w.heap.size + 3 := by simp
  have HO1 : Hid (OwnRow (((w.alloc (.cells #[.bool z0, .int .i64 z1, .slice a2 n2 c2] 24)).alloc (.cells #[.bool false, .int .i64 0, .slice none 0 0] 27)).alloc (.cells #[.bool z0, .int .i64 z1, .slice none 0 0] 27)) (w.heap.size + 1) 3 (cel [.bool false, .int .i64 0, .slice none 0 0])) := p1
  have HO2 : Hid (OwnRow (((w.alloc (.cells #[.bool z0, .int .i64 z1, .slice a2 n2 c2] 24)).alloc (.cells #[.bool false, .int .i64 0, .slice none 0 0] 27)).alloc (.cells #[.bool z0, .int .i64 z1, .slice none 0 0] 27)) (w.heap.size + 2) 3 (cel [.bool z0, .int .i64 z1, .slice none 0 0])) := p2
  clear p1 p2
  go_enter Try.func11, Try.ntmps11
  go_wp2_with fail
  generalize hW : (((w.alloc (.cells #[.bool z0, .int .i64 z1, .slice a2 n2 c2] 24)).alloc (.cells #[.bool false, .int .i64 0, .slice none 0 0] 27)).alloc (.cells #[.bool z0, .int .i64 z1, .slice none 0 0] 27)) = W at *
  clear hW
  refine (toIntsU (H1.out.later HBA.out) L1.out).mono ?_
  rintro e w1 ⟨dB, eB, fB, rfl, hb1, ho1⟩
  have HB1 : Hid (Below w.heap.size w w1) := HBA.out.trans (hb1.mono HBA.out.size)
  have O1 := HO1.out.later hb1
  have O2 := HO2.out.later hb1
  have HO : Hid (IntsO w1 (.slice dB eB fB) d.2.2 (fun b => w.heap.size + 3 ≤ b ∧ b < w1.heap.size)) := ho1.mono fun b hb => ⟨by have := hb.1; omega, hb.2⟩
  clear hb1 ho1
  have q0 : w1.cell? ⟨w.heap.size + 2, 0, none⟩ = some (.bool z0) := O2.cell (i := 0) (by omega)
  have q1 : w1.cell? ⟨w.heap.size + 2, 1, none⟩ = some (.int .i64 z1) := O2.cell (i := 1) (by omega)
  have q2 : w1.cell? ⟨w.heap.size + 2, 2, none⟩ = some (.slice none 0 0) := O2.cell (i := 2) (by omega)
  have qf := O2.frozen 2
  have t0 : w1.cell? ⟨w.heap.size + 1, 0, none⟩ = some (.bool false) := O1.cell (i := 0) (by omega)
  have t1 : w1.cell? ⟨w.heap.size + 1, 1, none⟩ = some (.int .i64 0) := O1.cell (i := 1) (by omega)
  have t2 : w1.cell? ⟨w.heap.size + 1, 2, none⟩ = some (.slice none 0 0) := O1.cell (i := 2) (by omega)
  have s0 := O1.frozen 0
  have s1 := O1.frozen 1
  have s2 := O1.frozen 2
  have hz1 : w.heap.size + 2 < w1.heap.size := O2.lt
  clear O1 O2
  go_wp2
  refine bodyPost_ret (v := .agg #[.bool z0, .int .i64 z1, .slice dB eB fB]) (by simp [results, Try.results11, go_sem, t0, t1, t2]) rfl ⟨_, _, _, _, _, rfl, ?_, ?_⟩
  · exact (((HB1.out.setCell (by simp; omega) _).setCell (by simp) _).setCell (by simp) _).setCell (by simp) _
  · refine ⟨H0.out, (HO.out.keep fun b hb hlt => ?_).mono fun b hb => ?_⟩
    · rw [Below.heap_setCell _ _ _ _ (by simp; omega), Below.heap_setCell _ _ _ _ (by simp; omega), Below.heap_setCell _ _ _ _ (by simp; omega), Below.heap_setCell _ _ _ _ (by simp; omega)]
    · unfold fresh
      simp only [World.setCell, Array.size_modify]
      omega

set_option maxHeartbeats 1600000 in
theorem eqStepU (w : World) (v0 v1 vW v0' v1' vW' : Value) (d : SD) (h : SteR w v0 v1 vW d) (h' : SteR w v0' v1' vW' d) :
    Calls Try.prog 13 #[.agg #[v0, v1, vW], .agg #[v0', v1', vW']] w fun e w' => e = .returned (.bool true) ∧ Below w.heap.size w w' := by
  obtain ⟨⟨rfl, rfl⟩, hi⟩ := h
  obtain ⟨⟨rfl, rfl⟩, hi'⟩ := h'
  obtain ⟨a, c, rfl, _⟩ := hi.shape
  obtain ⟨a', c', rfl, _⟩ := hi'.shape
  have H1 : Hid (Ints w _ d.2.2) := hi
  have H2 : Hid (Ints w _ d.2.2) := hi'
  have hbb : (d.1 != d.1) = false := by simp
  clear hi hi'
  generalize d.1 = b at *
  generalize d.2.1 = x at *
  go_enter Try.func13, Try.ntmps13
  go_wp2_with fail
  refine (eqInts_any (H1.out.later (later2 _ _ _)) (H2.out.later (later2 _ _ _))).mono ?_
  rw [beq_self_eq_true]
  rintro e w' ⟨rfl, m, rfl⟩
  go_wp2
  go_ret
  exact ⟨rfl, below_drewN (later2 _ _ _) m⟩

/-- What is wrong of a step. -/
def stepF (d : SD) : Int := if d.1 = true then (if ¬ d.2.1 = 0 ∨ 0 < d.2.2.length then 1 else 0) else (if d.2.1 < 0 ∨ 47 ≤ d.2.1 then 3 else wordsF d.2.2)
theorem wordsF_nil : wordsF [] = 0 := rfl
theorem isFlush_any (w : World) (z0 : Bool) (z1 : Int) (vW : Value) : Calls Try.prog 49 #[.agg #[.bool z0, .int .i64 z1, vW]] w fun e w' => e = .returned (.bool z0) ∧ Below w.heap.size w w' := by
  go_enter Try.func49, Try.ntmps49
  go_wp2
  go_ret
  exact ⟨rfl, later1 _ _⟩
set_option maxHeartbeats 1600000 in
theorem implStepFU (w : World) (z0 : Bool) (z1 : Int) (a2 : Option Addr) (n2 c2 : Nat) (d : SD) (h : SteR w (.bool z0) (.int .i64 z1) (.slice a2 n2 c2) d) (_hs : sizeSte d ≤ 1048576) :
    Calls Try.prog 12 #[.agg #[.bool z0, .int .i64 z1, .slice a2 n2 c2]] w fun e w' => e = .returned (.int .i64 (stepF d)) ∧ Below w.heap.size w w' := by
  obtain ⟨⟨e0, e1⟩, hi⟩ := h
  simp only [Value.bool.injEq, Value.int.injEq, true_and] at e0 e1
  obtain ⟨_, _, ev, hm⟩ := hi.shape
  simp only [Value.slice.injEq] at ev
  obtain ⟨rfl, rfl, rfl⟩ := ev
  obtain ⟨f, x, ws⟩ := d
  dsimp only at e0 e1 hi hm ⊢
  subst e0 e1
  unfold maxLen at hm
  have HX : Hid (Bx (w.alloc (.cells #[.bool z0, .int .i64 z1, .slice a2 ws.length c2] 27)) w.heap.size [.bool z0, .int .i64 z1, .slice a2 ws.length c2]) := Bx.new w [.bool z0, .int .i64 z1, .slice a2 ws.length c2] _
  have HW : Hid (∀ W, Below w.heap.size w W → Calls Try.prog 50 #[.slice a2 ws.length c2] W fun e w' => e = .returned (.int .i64 (wordsF ws)) ∧ w' = W) := fun W hW => words_any (hi.later hW)
  have HN : Hid (ws.length = 0 → wordsF ws = 0) := fun h0 => by rw [List.eq_nil_of_length_eq_zero h0]; rfl
  have HR : Hid (∀ r, stepF (z0, z1, ws) = r → stepF (z0, z1, ws) = r) := fun _ h => h
  have HS1 : Hid (z0 = true → (¬ z1 = 0 ∨ 0 < ws.length) → stepF (z0, z1, ws) = 1) := fun h1 h2 => by unfold stepF; rw [if_pos h1]; exact if_pos h2
  have HS2 : Hid (z0 = true → ¬ (¬ z1 = 0 ∨ 0 < ws.length) → stepF (z0, z1, ws) = 0) := fun h1 h2 => by unfold stepF; rw [if_pos h1]; exact if_neg h2
  have HS3 : Hid (z0 = false → (z1 < 0 ∨ 47 ≤ z1) → stepF (z0, z1, ws) = 3) := fun h1 h2 => by unfold stepF; rw [if_neg (by rw [h1]; simp)]; exact if_pos h2
  have HS4 : Hid (z0 = false → ¬ (z1 < 0 ∨ 47 ≤ z1) → stepF (z0, z1, ws) = wordsF ws) := fun h1 h2 => by unfold stepF; rw [if_neg (by rw [h1]; simp)]; exact if_neg h2
  have x0 := HX.out 0 _ rfl
  have x1 := HX.out 1 _ rfl
  have x2 := HX.out 2 _ rfl
  clear hi HR
  generalize stepF (z0, z1, ws) = RES at *
  generalize wordsF ws = r at *
  generalize ws.length = n at *
  cases z0 with
  | true =>
    by_cases h1 : z1 = 0
    · subst h1
      by_cases h2 : 0 < n
      · have h2b : decide ((0 : Int) < (n : Int)) = true := by simp; omega
        have HE : Hid (RES = 1) := HS1.out rfl (Or.inr h2)
        go_enter Try.func12, Try.ntmps12
        go_wp2_with fail
        refine (isFlush_any _ _ _ _).mono ?_
        rintro e w1 ⟨rfl, hb⟩
        have HB : Hid (Below w.heap.size w w1) := (later1 _ _).trans (hb.mono (by simp))
        replace x0 := (HX.out.later hb) 0 _ rfl
        replace x1 := (HX.out.later hb) 1 _ rfl
        replace x2 := (HX.out.later hb) 2 _ rfl
        clear hb
        go_wp2
        go_ret
        exact ⟨ret_int HE.out.symm, HB.out⟩
      · have h2b : decide ((0 : Int) < (n : Int)) = false := by simp; omega
        have HE : Hid (RES = 0) := HS2.out rfl (by omega)
        go_enter Try.func12, Try.ntmps12
        go_wp2_with fail
        refine (isFlush_any _ _ _ _).mono ?_
        rintro e w1 ⟨rfl, hb⟩
        have HB : Hid (Below w.heap.size w w1) := (later1 _ _).trans (hb.mono (by simp))
        replace x0 := (HX.out.later hb) 0 _ rfl
        replace x1 := (HX.out.later hb) 1 _ rfl
        replace x2 := (HX.out.later hb) 2 _ rfl
        clear hb
        go_wp2
        go_ret
        exact ⟨ret_int HE.out.symm, HB.out⟩
    · have h1b : (z1 != 0) = true := by simpa using h1
      have HE : Hid (RES = 1) := HS1.out rfl (Or.inl h1)
      go_enter Try.func12, Try.ntmps12
      go_wp2_with fail
      refine (isFlush_any _ _ _ _).mono ?_
      rintro e w1 ⟨rfl, hb⟩
      have HB : Hid (Below w.heap.size w w1) := (later1 _ _).trans (hb.mono (by simp))
      replace x0 := (HX.out.later hb) 0 _ rfl
      replace x1 := (HX.out.later hb) 1 _ rfl
      replace x2 := (HX.out.later hb) 2 _ rfl
      clear hb
      go_wp2
      go_ret
      exact ⟨ret_int HE.out.symm, HB.out⟩
  | false =>
    by_cases h1 : z1 < 0
    · have h1b : decide (z1 < 0) = true := by simpa using h1
      have HE : Hid (RES = 3) := HS3.out rfl (Or.inl h1)
      go_enter Try.func12, Try.ntmps12
      go_wp2_with fail
      refine (isFlush_any _ _ _ _).mono ?_
      rintro e w1 ⟨rfl, hb⟩
      have HB : Hid (Below w.heap.size w w1) := (later1 _ _).trans (hb.mono (by simp))
      replace x0 := (HX.out.later hb) 0 _ rfl
      replace x1 := (HX.out.later hb) 1 _ rfl
      replace x2 := (HX.out.later hb) 2 _ rfl
      clear hb
      go_wp2
      go_ret
      exact ⟨ret_int HE.out.symm, HB.out⟩
    · have h1b : decide (z1 < 0) = false := by simpa using h1
      by_cases h2 : 47 ≤ z1
      · have h2b : decide (47 ≤ z1) = true := by simpa using h2
        have HE : Hid (RES = 3) := HS3.out rfl (Or.inr h2)
        go_enter Try.func12, Try.ntmps12
        go_wp2_with fail
        refine (isFlush_any _ _ _ _).mono ?_
        rintro e w1 ⟨rfl, hb⟩
        have HB : Hid (Below w.heap.size w w1) := (later1 _ _).trans (hb.mono (by simp))
        replace x0 := (HX.out.later hb) 0 _ rfl
        replace x1 := (HX.out.later hb) 1 _ rfl
        replace x2 := (HX.out.later hb) 2 _ rfl
        clear hb
        go_wp2
        go_ret
        exact ⟨ret_int HE.out.symm, HB.out⟩
      · have h2b : decide (47 ≤ z1) = false := by simpa using h2
        have HE : Hid (RES = r) := HS4.out rfl (by omega)
        go_enter Try.func12, Try.ntmps12
        go_wp2_with fail
        refine (isFlush_any _ _ _ _).mono ?_
        rintro e w1 ⟨rfl, hb⟩
        have HB : Hid (Below w.heap.size w w1) := (later1 _ _).trans (hb.mono (by simp))
        replace x0 := (HX.out.later hb) 0 _ rfl
        replace x1 := (HX.out.later hb) 1 _ rfl
        replace x2 := (HX.out.later hb) 2 _ rfl
        clear hb
        go_wp2_with fail
        refine (HW.out _ HB.out).mono ?_
        rintro e wq ⟨rfl, hq⟩
        subst wq
        go_wp2
        go_ret
        exact ⟨ret_int HE.out.symm, HB.out⟩
set_option maxHeartbeats 1600000 in
theorem specStepFU (w : World) (z0 : Bool) (z1 : Int) (a2 : Option Addr) (n2 c2 : Nat) (d : SD) (h : SteR w (.bool z0) (.int .i64 z1) (.slice a2 n2 c2) d) (_hs : sizeSte d ≤ 1048576) :
    Calls Try.prog 10 #[.agg #[.bool z0, .int .i64 z1, .slice a2 n2 c2]] w fun e w' => e = .returned (.int .i64 (stepF d)) ∧ Below w.heap.size w w' := by
  obtain ⟨⟨e0, e1⟩, hi⟩ := h
  simp only [Value.bool.injEq, Value.int.injEq, true_and] at e0 e1
  obtain ⟨_, _, ev, hm⟩ := hi.shape
  simp only [Value.slice.injEq] at ev
  obtain ⟨rfl, rfl, rfl⟩ := ev
  obtain ⟨f, x, ws⟩ := d
  dsimp only at e0 e1 hi hm ⊢
  subst e0 e1
  unfold maxLen at hm
  have HX : Hid (Bx (w.alloc (.cells #[.bool z0, .int .i64 z1, .slice a2 ws.length c2] 27)) w.heap.size [.bool z0, .int .i64 z1, .slice a2 ws.length c2]) := Bx.new w [.bool z0, .int .i64 z1, .slice a2 ws.length c2] _
  have HW : Hid (∀ W, Below w.heap.size w W → Calls Try.prog 47 #[.slice a2 ws.length c2] W fun e w' => e = .returned (.int .i64 (wordsF ws)) ∧ w' = W) := fun W hW => l1Words_any (hi.later hW)
  have HN : Hid (ws.length = 0 → wordsF ws = 0) := fun h0 => by rw [List.eq_nil_of_length_eq_zero h0]; rfl
  have HR : Hid (∀ r, stepF (z0, z1, ws) = r → stepF (z0, z1, ws) = r) := fun _ h => h
  have HS1 : Hid (z0 = true → (¬ z1 = 0 ∨ 0 < ws.length) → stepF (z0, z1, ws) = 1) := fun h1 h2 => by unfold stepF; rw [if_pos h1]; exact if_pos h2
  have HS2 : Hid (z0 = true → ¬ (¬ z1 = 0 ∨ 0 < ws.length) → stepF (z0, z1, ws) = 0) := fun h1 h2 => by unfold stepF; rw [if_pos h1]; exact if_neg h2
  have HS3 : Hid (z0 = false → (z1 < 0 ∨ 47 ≤ z1) → stepF (z0, z1, ws) = 3) := fun h1 h2 => by unfold stepF; rw [if_neg (by rw [h1]; simp)]; exact if_pos h2
  have HS4 : Hid (z0 = false → ¬ (z1 < 0 ∨ 47 ≤ z1) → stepF (z0, z1, ws) = wordsF ws) := fun h1 h2 => by unfold stepF; rw [if_neg (by rw [h1]; simp)]; exact if_neg h2
  have x0 := HX.out 0 _ rfl
  have x1 := HX.out 1 _ rfl
  have x2 := HX.out 2 _ rfl
  clear hi HR
  generalize stepF (z0, z1, ws) = RES at *
  generalize wordsF ws = r at *
  generalize ws.length = n at *
  cases z0 with
  | true =>
    by_cases h1 : z1 = 0
    · subst h1
      by_cases h2 : 0 < n
      · have h2b : decide ((0 : Int) < (n : Int)) = true := by simp; omega
        have HE : Hid (RES = 1) := HS1.out rfl (Or.inr h2)
        go_enter Try.func10, Try.ntmps10
        have HB : Hid (Below w.heap.size w (w.alloc (.cells #[.bool true, .int .i64 0, .slice a2 n c2] 27))) := later1 _ _
        go_wp2
        go_ret
        exact ⟨ret_int HE.out.symm, HB.out⟩
      · have h2b : decide ((0 : Int) < (n : Int)) = false := by simp; omega
        have HE : Hid (RES = 0) := HS2.out rfl (by omega)
        have hr : r = 0 := HN.out (by omega)
        subst hr
        go_enter Try.func10, Try.ntmps10
        have HB : Hid (Below w.heap.size w (w.alloc (.cells #[.bool true, .int .i64 0, .slice a2 n c2] 27))) := later1 _ _
        go_wp2_with fail
        refine (l1In_is (r := true) (by simp <;> omega)).mono ?_
        rintro e wq ⟨rfl, hq⟩
        subst wq
        go_wp2_with fail
        refine (HW.out _ HB.out).mono ?_
        rintro e wq ⟨rfl, hq⟩
        subst wq
        go_wp2
        go_ret
        exact ⟨ret_int HE.out.symm, HB.out⟩
    · have h1b : (z1 != 0) = true := by simpa using h1
      have HE : Hid (RES = 1) := HS1.out rfl (Or.inl h1)
      go_enter Try.func10, Try.ntmps10
      have HB : Hid (Below w.heap.size w (w.alloc (.cells #[.bool true, .int .i64 z1, .slice a2 n c2] 27))) := later1 _ _
      go_wp2
      go_ret
      exact ⟨ret_int HE.out.symm, HB.out⟩
  | false =>
    by_cases h1 : z1 < 0 ∨ 47 ≤ z1
    · have HE : Hid (RES = 3) := HS3.out rfl h1
      go_enter Try.func10, Try.ntmps10
      have HB : Hid (Below w.heap.size w (w.alloc (.cells #[.bool false, .int .i64 z1, .slice a2 n c2] 27))) := later1 _ _
      go_wp2_with fail
      refine (l1In_is (r := false) (by simp <;> omega)).mono ?_
      rintro e wq ⟨rfl, hq⟩
      subst wq
      go_wp2
      go_ret
      exact ⟨ret_int HE.out.symm, HB.out⟩
    · have HE : Hid (RES = r) := HS4.out rfl h1
      go_enter Try.func10, Try.ntmps10
      have HB : Hid (Below w.heap.size w (w.alloc (.cells #[.bool false, .int .i64 z1, .slice a2 n c2] 27))) := later1 _ _
      go_wp2_with fail
      refine (l1In_is (r := true) (by simp <;> omega)).mono ?_
      rintro e wq ⟨rfl, hq⟩
      subst wq
      go_wp2_with fail
      refine (HW.out _ HB.out).mono ?_
      rintro e wq ⟨rfl, hq⟩
      subst wq
      go_wp2
      go_ret
      exact ⟨ret_int HE.out.symm, HB.out⟩
end Go.Proofs.Ytagmmgcdebgfnaa
