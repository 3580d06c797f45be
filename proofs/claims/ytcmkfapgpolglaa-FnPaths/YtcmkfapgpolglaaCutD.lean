
/- The specification's l3Split, whole. -/
import Derived.Test.YtcmkfapgpolglaaCutC
namespace Go.Proofs.Ytcmkfapgpolglaa
open Go.RowKit
set_option maxRecDepth 100000

theorem cutB_mem (t : List UInt8) (k : Nat) : ((cutB t)[k]?.getD []).length ≤ t.length := by
  induction t generalizing k with
  | nil => cases k <;> simp [cutB]
  | cons b l ih =>
    simp only [cutB]
    split
    · cases k with
      | zero => simp
      | succ k => have := ih k; simp at this ⊢; omega
    · cases h : cutB l with
      | nil => cases k <;> simp [cutHead]
      | cons x y =>
        have h1 := ih k
        rw [h] at h1
        cases k with
        | zero => simp [cutHead] at h1 ⊢; omega
        | succ k => simp [cutHead] at h1 ⊢; omega

set_option maxHeartbeats 800000 in
theorem l3Split_many (w : World) (p : List UInt8) (h30 : 30 < p.length) :
    Calls Try.prog 85 #[.string (mkB p)] w fun e w' => e = .returned (.tuple #[.slice none 0 0, .int .i64 2]) ∧ w' = w := by
  have hsz := mkB_size p
  have h30' : (30 : Int) < (p.length : Int) := by omega
  go_enter Try.func85, Try.ntmps85
  go_wp2
  go_ret2
  exact ⟨rfl, rfl⟩

set_option maxHeartbeats 800000 in
theorem l3Split_top (w : World) :
    Calls Try.prog 85 #[.string (mkB [47])] w fun e w' => ∃ a c, e = .returned (.tuple #[.slice a 0 c, .int .i64 0]) ∧ Below w.heap.size w w' ∧ w'.ownsRow w.heap.size 9 1 (.slice a 0 c) 0 [] := by
  have hsz : (mkB [47]).size = 1 := rfl
  have ht' : ((mkB [47]).toList == [47]) = true := by rw [mkB_toList]; rfl
  generalize mkB [47] = s at *
  go_enter Try.func85, Try.ntmps85
  go_wp2
  go_ret2
  exact ⟨_, _, rfl, later1 _ _, World.ownsRow_lit w #[] 0 (Nat.le_refl _) (by simp) rfl⟩

set_option maxHeartbeats 1600000 in
theorem l3Split_good (w : World) (p : List UInt8) (h30 : ¬ 30 < p.length) (ht : topB p = false) (hb : ¬ formBad p) :
    Calls Try.prog 85 #[.string (mkB p)] w fun e w' => Below w.heap.size w w' ∧ ((¬ namesC (cutB (p.drop 1)) = 0 ∧ e = .returned (.tuple #[.slice none 0 0, .int .i64 (namesC (cutB (p.drop 1)))])) ∨ (namesC (cutB (p.drop 1)) = 0 ∧ ∃ a c, e = .returned (.tuple #[.slice a (cutB (p.drop 1)).length c, .int .i64 0]) ∧ w'.ownsRow w.heap.size 9 1 (.slice a (cutB (p.drop 1)).length c) (cutB (p.drop 1)).length ((cutB (p.drop 1)).map strV))) := by
  have hsz := mkB_size p
  have ht' : ((mkB p).toList == [47]) = false := by rw [mkB_toList]; exact ht
  have h30' : decide ((30 : Int) < (p.length : Int)) = false := by simp; omega
  have h30'' : decide (30 < p.length) = false := by simp; omega
  unfold formBad at hb
  have h0 : 0 < p.length := by omega
  have h1 : p[0]?.getD 0 = 47 := by
    by_cases e : p[0]?.getD 0 = 47
    · exact e
    · exact absurd (Or.inr (Or.inl e)) hb
  have h2 : ¬ p[p.length - 1]?.getD 0 = 47 := fun e => hb (Or.inr (Or.inr e))
  have h0' : ((p.length : Int) == 0) = false := by rw [beq_eq_false_iff_ne]; omega
  have h0p : (p = []) = False := by simp; intro e; rw [e] at h0; simp at h0
  have hlt : 0 < (mkB p).size := by rw [hsz]; omega
  have hg := mkB_get p 0 hlt
  have hb0 : (((mkB p)[0].toNat : Int) != 47) = false := by rw [hg, h1]; rfl
  obtain ⟨m, hm⟩ : ∃ m, p.length = m + 1 := ⟨p.length - 1, by omega⟩
  have hlm : m < (mkB p).size := by rw [hsz]; omega
  have hb1 : (((mkB p)[m].toNat : Int) == 47) = false := by
    rw [byte_eq, mkB_get p m hlm, show m = p.length - 1 by omega]; simpa using h2
  have hwm : (p.length : Int) - 1 = (m : Int) := by omega
  have hwr : IntKind.i64.wrap (m : Int) = (m : Int) := by rw [IntKind.wrap_i64]; omega
  have hs1 : ∀ W, (Instr.slice 9 (.string (mkB p)) (some (.int .i64 1)) none none).run Try.prog W = .ok (.string (mkB (p.drop 1))) W := run_from p 1 (by omega)
  have HL : Hid ((p.drop 1).length ≤ 1048576) := by unfold Hid; simp; omega
  have HLC : Hid ((cutB (p.drop 1)).length ≤ 1048577) := by unfold Hid; have := cutB_len (p.drop 1); have := HL.out; omega
  have HLM : Hid (∀ k : Nat, ((cutB (p.drop 1))[k]?.getD []).length ≤ 1048576) := fun k => by have := cutB_mem (p.drop 1) k; have := HL.out; omega
  have HCA := fun W => l3Cut_any W (p.drop 1) HL.out
  have HCB : Hid (∀ W, Calls Try.prog 114 #[.string (mkB (p.drop 1)), .int .u8 47] W fun e w' => ∃ v, e = .returned v ∧ Below W.heap.size W w' ∧ w'.ownsRow W.heap.size 9 1 v (cutB (p.drop 1)).length ((cutB (p.drop 1)).map strV)) := HCA
  clear hb hg h1 h2 hm h30 ht HL HCA
  generalize p.drop 1 = t at *
  generalize cutB t = xs at *
  go_enter Try.func85, Try.ntmps85
  go_wp2_with fail
  refine (HCB.out _).mono ?_
  rintro e w1 ⟨v, rfl, hb1, hrow⟩
  have HW1 : Hid (Below w.heap.size w w1) := hb1
  have HROW : Hid (w1.ownsRow w.heap.size 9 1 v xs.length (xs.map strV)) := hrow
  obtain ⟨aV, cV, rfl⟩ := ownsRow_shape hrow
  have HAT : Hid (AtT w1 aV xs.length xs) := (ownsRow_at hrow).2
  clear hb1 hrow HCB
  go_wp2_with fail
  refine (l3Names_any _ _ _ _ xs rfl HLC.out HLM.out HAT.out).mono ?_
  by_cases hz : namesC xs = 0
  · rw [hz]
    have HZ : Hid (namesC xs = 0) := hz
    clear hz
    rintro e w2 ⟨rfl, rfl⟩
    go_wp2
    go_ret2
    exact ⟨HW1.out, Or.inr ⟨HZ.out, _, _, rfl, HROW.out⟩⟩
  · generalize hq : namesC xs = z at *
    have HQ : Hid (namesC xs = z) := hq
    clear hq
    have HZ : Hid (¬ z = 0) := hz
    have hz1 : (z != 0) = true := by simpa using hz
    clear hz
    rintro e w2 ⟨rfl, rfl⟩
    go_wp2
    go_ret2
    exact ⟨HW1.out, Or.inl ⟨by rw [HQ.out]; exact HZ.out, by rw [HQ.out]; rfl⟩⟩

theorem specSplit_bad (w : World) (p : List UInt8) (h : ¬ pathF p = 0) :
    Calls Try.prog 85 #[.string (mkB p)] w fun e w' => e = .returned (.tuple #[.slice none 0 0, .int .i64 (pathF p)]) ∧ Below w.heap.size w w' := by
  by_cases h30 : 30 < p.length
  · refine (l3Split_many w p h30).mono ?_
    rintro e w' ⟨rfl, rfl⟩
    exact ⟨by unfold pathF; rw [if_pos h30], Below.refl _ _⟩
  · cases ht : topB p
    · by_cases hb : formBad p
      · refine (l3Split_form w p h30 ht hb).mono ?_
        rintro e w' ⟨rfl, rfl⟩
        exact ⟨by rw [pathF_form h30 ht hb], Below.refl _ _⟩
      · refine (l3Split_good w p h30 ht hb).mono ?_
        rw [pathF_good h30 ht hb] at h ⊢
        rintro e w' ⟨h1, ⟨_, rfl⟩ | ⟨h2, _⟩⟩
        · exact ⟨rfl, h1⟩
        · exact absurd h2 h
    · have : p = [47] := by simpa [topB] using ht
      subst this
      exact absurd rfl h
theorem specSplit_ok (w : World) (p : List UInt8) (h : pathF p = 0) :
    Calls Try.prog 85 #[.string (mkB p)] w fun e w' => ∃ a c, e = .returned (.tuple #[.slice a (namesL p).length c, .int .i64 0]) ∧ Below w.heap.size w w' ∧ w'.ownsRow w.heap.size 9 1 (.slice a (namesL p).length c) (namesL p).length ((namesL p).map strV) := by
  by_cases h30 : 30 < p.length
  · unfold pathF at h; rw [if_pos h30] at h; omega
  · cases ht : topB p
    · by_cases hb : formBad p
      · rw [pathF_form h30 ht hb] at h; omega
      · refine (l3Split_good w p h30 ht hb).mono ?_
        have hp : 0 < p.length := by unfold formBad at hb; omega
        rw [pathF_good h30 ht hb] at h
        rw [namesL_cut ht hp]
        rintro e w' ⟨h1, ⟨h2, _⟩ | ⟨_, a, c, rfl, hrow⟩⟩
        · exact absurd h h2
        · exact ⟨a, c, rfl, h1, hrow⟩
    · have : p = [47] := by simpa [topB] using ht
      subst this
      refine (l3Split_top w).mono ?_
      rintro e w' ⟨a, c, rfl, hb, hr⟩
      exact ⟨a, c, rfl, hb, hr⟩
end Go.Proofs.Ytcmkfapgpolglaa
