
/- The specification's l3Split. -/
import Derived.Test.YtcmkfapgpolglaaCutB
namespace Go.Proofs.Ytcmkfapgpolglaa
open Go.RowKit
set_option maxRecDepth 100000

theorem sufB_at {l : List UInt8} {m : Nat} (h : l.length = m + 1) : sufB l = (l[m]?.getD 0 == 47) := by
  unfold sufB
  rw [List.getLast?_eq_getElem?, h, Nat.add_sub_cancel, List.getElem?_eq_getElem (by omega)]
  rfl
theorem preB_at {l : List UInt8} (h : 0 < l.length) : preB l = (l[0]?.getD 0 == 47) := by
  cases l with
  | nil => simp at h
  | cons b t => rfl
theorem byte_eq (b : UInt8) : ((b.toNat : Int) == 47) = (b == 47) := by
  by_cases h : b = 47
  · subst h; rfl
  · have hne : b.toNat ≠ 47 := fun e => h (UInt8.toNat_inj.1 (by rw [e]; rfl))
    have h1 : (b == 47) = false := by simpa using h
    rw [h1]
    simp; omega
theorem namesL_cut {p : List UInt8} (h0 : topB p = false) (hp : 0 < p.length) : namesL p = cutB (p.drop 1) := by
  unfold namesL
  rw [if_neg (by simpa [topB] using h0)]
  cases p with
  | nil => simp at hp
  | cons b t => rfl
/-- Where the specification's split sees a fault of the path's form. -/
def formBad (p : List UInt8) : Prop := p.length = 0 ∨ ¬ p[0]?.getD 0 = 47 ∨ p[p.length - 1]?.getD 0 = 47
theorem pathF_form {p : List UInt8} (h30 : ¬ 30 < p.length) (ht : topB p = false) (hb : formBad p) : pathF p = 5 := by
  unfold pathF
  rw [if_neg h30]
  rcases Nat.eq_zero_or_pos p.length with h0 | h0
  · have : p = [] := List.length_eq_zero_iff.1 h0
    subst this; rfl
  · rcases hb with hb | hb | hb
    · omega
    · rw [preB_at h0, if_neg (by simpa using hb)]
    · have hs : sufB p = true := by rw [sufB_at (m := p.length - 1) (by omega), hb]; rfl
      split
      · rw [if_pos ⟨hs, ht⟩]
      · rfl
theorem pathF_good {p : List UInt8} (h30 : ¬ 30 < p.length) (ht : topB p = false) (hb : ¬ formBad p) : pathF p = namesC (cutB (p.drop 1)) := by
  unfold formBad at hb
  have h0 : 0 < p.length := by omega
  have h1 : p[0]?.getD 0 = 47 := by
    by_cases e : p[0]?.getD 0 = 47
    · exact e
    · exact absurd (Or.inr (Or.inl e)) hb
  have h2 : ¬ p[p.length - 1]?.getD 0 = 47 := fun e => hb (Or.inr (Or.inr e))
  unfold pathF namesC
  have hs : sufB p = false := by rw [sufB_at (m := p.length - 1) (by omega)]; simpa using h2
  have hq : preB p = true := by rw [preB_at h0, h1]; rfl
  rw [if_neg h30, if_pos hq, if_neg (by rw [hs]; simp), namesL_cut ht h0]

set_option maxHeartbeats 800000 in
theorem l3Split_form (w : World) (p : List UInt8) (h30 : ¬ 30 < p.length) (ht : topB p = false) (hb : formBad p) :
    Calls Try.prog 85 #[.string (mkB p)] w fun e w' => e = .returned (.tuple #[.slice none 0 0, .int .i64 5]) ∧ w' = w := by
  have hsz := mkB_size p
  have ht' : ((mkB p).toList == [47]) = false := by rw [mkB_toList]; exact ht
  have h30' : decide ((30 : Int) < (p.length : Int)) = false := by simp; omega
  have h30'' : decide (30 < p.length) = false := by simp; omega
  clear ht
  rcases Nat.eq_zero_or_pos p.length with h0 | h0
  · clear hb h30
    go_enter Try.func85, Try.ntmps85
    go_wp2
    go_ret2
    exact ⟨rfl, rfl⟩
  · have h0' : ((p.length : Int) == 0) = false := by rw [beq_eq_false_iff_ne]; omega
    have h0'' : (p.length == 0) = false := by rw [beq_eq_false_iff_ne]; omega
    have h0p : (p = []) = False := by simp; intro e; rw [e] at h0; simp at h0
    have hlt : 0 < (mkB p).size := by rw [hsz]; omega
    have hg := mkB_get p 0 hlt
    by_cases h1 : p[0]?.getD 0 = 47
    · have h2 : p[p.length - 1]?.getD 0 = 47 := by
        rcases hb with h | h | h
        · omega
        · exact absurd h1 h
        · exact h
      have hb0 : (((mkB p)[0].toNat : Int) != 47) = false := by rw [hg, h1]; rfl
      obtain ⟨m, hm⟩ : ∃ m, p.length = m + 1 := ⟨p.length - 1, by omega⟩
      have hlm : m < (mkB p).size := by rw [hsz]; omega
      have hb1 : (((mkB p)[m].toNat : Int) == 47) = true := by
        rw [mkB_get p m hlm, show m = p.length - 1 by omega, h2]; rfl
      have hwm : (p.length : Int) - 1 = (m : Int) := by omega
      have hwr : IntKind.i64.wrap (m : Int) = (m : Int) := by rw [IntKind.wrap_i64]; omega
      clear hb hg h1 h2 hm h30
      go_enter Try.func85, Try.ntmps85
      go_wp2
      go_ret2
      exact ⟨rfl, rfl⟩
    · have hb0 : (((mkB p)[0].toNat : Int) != 47) = true := by rw [bne, byte_eq, hg]; simpa using h1
      clear hb hg h1 h30
      go_enter Try.func85, Try.ntmps85
      go_wp2
      go_ret2
      exact ⟨rfl, rfl⟩
end Go.Proofs.Ytcmkfapgpolglaa
