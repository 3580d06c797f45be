
/- When a kern has a fault: the model as a function of lists. No program is named here. -/
import Derived.Test.YtojegkekafampahExtA
import Derived.Test.YtojegkekafampahFault
namespace Go.Proofs.Ytojegkekafampah
open Go.RowKit
set_option maxRecDepth 100000

/-- The first code that is not 0 of f 0, .., f (m - 1). -/
def firstNZ (f : Nat → Int) : Nat → Int
  | 0 => 0
  | m + 1 => if firstNZ f m = 0 then f m else firstNZ f m
theorem firstNZ_zero {f : Nat → Int} {m : Nat} (h : ∀ i, i < m → f i = 0) : firstNZ f m = 0 := by
  induction m with
  | zero => rfl
  | succ m ih => unfold firstNZ; rw [if_pos (ih fun i hi => h i (by omega))]; exact h m (by omega)
theorem firstNZ_at {f : Nat → Int} {m j : Nat} (h : ∀ i, i < j → f i = 0) (hj : j < m) (hf : ¬ f j = 0) : firstNZ f m = f j := by
  induction m with
  | zero => omega
  | succ m ih =>
    unfold firstNZ
    by_cases e : j = m
    · subst e; rw [if_pos (firstNZ_zero h)]
    · rw [ih (by omega), if_neg hf]
theorem firstNZ_all {f : Nat → Int} {m : Nat} (h : firstNZ f m = 0) : ∀ i, i < m → f i = 0 := by
  induction m with
  | zero => intro i hi; omega
  | succ m ih =>
    unfold firstNZ at h
    by_cases e : firstNZ f m = 0
    · rw [if_pos e] at h
      intro i hi
      by_cases e2 : i = m
      · subst e2; exact h
      · exact ih e i (by omega)
    · rw [if_neg e] at h; exact absurd h e

/-- An extent of a disk of n blocks is right. -/
def rightB (e : E3) (n : Nat) : Bool := decide (1 ≤ e.2.2 ∧ e.2.2 ≤ 9999) && (decide (0 ≤ e.1 ∧ e.1 ≤ (n : Int)) && (decide (1 ≤ e.2.1 ∧ e.2.1 ≤ (n : Int)) && decide (e.1 + e.2.1 ≤ (n : Int))))
theorem rightB_iff {e : E3} {n : Nat} : rightB e n = true ↔ (1 ≤ e.2.2 ∧ e.2.2 ≤ 9999) ∧ (0 ≤ e.1 ∧ e.1 ≤ (n : Int)) ∧ (1 ≤ e.2.1 ∧ e.2.1 ≤ (n : Int)) ∧ e.1 + e.2.1 ≤ (n : Int) := by simp [rightB]
def extAt (es : List E3) (i : Nat) : E3 := es[i]?.getD (0, 0, 0)
/-- The code of the extent at place i. -/
def extOne (es : List E3) (n i : Nat) : Int := if rightB (extAt es i) n = true then (if 0 < i ∧ (extAt es i).1 < (extAt es (i - 1)).1 + (extAt es (i - 1)).2.1 then 1 else 0) else 3
def kernF (d : (List (List Int) × List (Int × List Int)) × List E3) : Int := if faultF d.1.1 d.1.2 = 0 then (if 8 < d.2.length then 2 else firstNZ (extOne d.2 d.1.1.length) d.2.length) else faultF d.1.1 d.1.2
theorem kernF_disk {d : (List (List Int) × List (Int × List Int)) × List E3} (h : ¬ faultF d.1.1 d.1.2 = 0) : kernF d = faultF d.1.1 d.1.2 := by unfold kernF; rw [if_neg h]
theorem kernF_many {d : (List (List Int) × List (Int × List Int)) × List E3} (h : faultF d.1.1 d.1.2 = 0) (h8 : 8 < d.2.length) : kernF d = 2 := by unfold kernF; rw [if_pos h, if_pos h8]
theorem kernF_few {d : (List (List Int) × List (Int × List Int)) × List E3} (h : faultF d.1.1 d.1.2 = 0) (h8 : ¬ 8 < d.2.length) : kernF d = firstNZ (extOne d.2 d.1.1.length) d.2.length := by unfold kernF; rw [if_pos h, if_neg h8]
/-- Of a kern without a fault. -/
theorem kernF_ok {d : (List (List Int) × List (Int × List Int)) × List E3} (h : kernF d = 0) : faultF d.1.1 d.1.2 = 0 ∧ d.2.length ≤ 8 ∧ ∀ i, i < d.2.length → rightB (extAt d.2 i) d.1.1.length = true ∧ (0 < i → (extAt d.2 (i - 1)).1 + (extAt d.2 (i - 1)).2.1 ≤ (extAt d.2 i).1) := by
  by_cases h1 : faultF d.1.1 d.1.2 = 0
  · by_cases h2 : 8 < d.2.length
    · rw [kernF_many h1 h2] at h; omega
    · rw [kernF_few h1 h2] at h
      refine ⟨h1, by omega, fun i hi => ?_⟩
      have h3 := firstNZ_all h i hi
      unfold extOne at h3
      by_cases h4 : rightB (extAt d.2 i) d.1.1.length = true
      · rw [if_pos h4] at h3
        refine ⟨h4, fun h0 => ?_⟩
        by_cases h5 : 0 < i ∧ (extAt d.2 i).1 < (extAt d.2 (i - 1)).1 + (extAt d.2 (i - 1)).2.1
        · rw [if_pos h5] at h3; omega
        · omega
      · rw [if_neg h4] at h3; omega
  · rw [kernF_disk h1] at h; exact absurd h h1
end Go.Proofs.Ytojegkekafampah
