
/- Paths and their names: joined again, cut again. No program is named here. -/
import Derived.Test.YtcmkfapgpolglaaParA
namespace Go.Proofs.Ytcmkfapgpolglaa
open Go.RowKit
set_option maxRecDepth 100000

theorem take_drop47 (t : List UInt8) : takeTo t ++ dropTo t = t := List.takeWhile_append_dropWhile
theorem drop47 (t : List UInt8) : dropTo t = [] ∨ ∃ r, dropTo t = 47 :: r := by
  unfold dropTo
  induction t with
  | nil => exact Or.inl rfl
  | cons b l ih =>
    by_cases h : b = 47
    · rw [List.dropWhile_cons, if_neg (by simp [h])]; exact Or.inr ⟨l, by rw [h]⟩
    · rw [List.dropWhile_cons, if_pos (by simpa using h)]; exact ih
/-- What is cut is joined again. -/
theorem join_rest (n : Nat) : ∀ l : List UInt8, l.length ≤ n → (l = [] ∨ ∃ r, l = 47 :: r) → joinL (restN l) = l := by
  induction n with
  | zero => intro l h _; have : l = [] := List.eq_nil_of_length_eq_zero (by omega); subst this; rfl
  | succ n ih =>
    intro l hl h
    rcases h with rfl | ⟨t, rfl⟩
    · rfl
    · rw [restN_cons]
      have h1 := ih (dropTo t) (by have := dropTo_le t; simp at hl; omega) (drop47 t)
      show (47 :: takeTo t) ++ joinL (restN (dropTo t)) = 47 :: t
      rw [h1, List.cons_append, take_drop47]
/-- Names that have no slash. -/
def noSlash (y : List UInt8) : Prop := ∀ b ∈ y, b ≠ 47
theorem takeTo_app {y l : List UInt8} (hy : noSlash y) (hl : l = [] ∨ ∃ r, l = 47 :: r) : takeTo (y ++ l) = y ∧ dropTo (y ++ l) = l := by
  unfold takeTo dropTo
  induction y with
  | nil =>
    rcases hl with rfl | ⟨r, rfl⟩
    · exact ⟨rfl, rfl⟩
    · simp
  | cons b t ih =>
    have hb : b ≠ 47 := hy b (by simp)
    have := ih fun c hc => hy c (by simp [hc])
    rw [List.cons_append, List.takeWhile_cons, List.dropWhile_cons, if_pos (by simpa using hb), if_pos (by simpa using hb), this.1, this.2]
    exact ⟨rfl, rfl⟩
theorem joinL_head (ys : List (List UInt8)) : joinL ys = [] ∨ ∃ r, joinL ys = 47 :: r := by
  cases ys with
  | nil => exact Or.inl rfl
  | cons y r => exact Or.inr ⟨_, rfl⟩
theorem joinL_cons (y : List UInt8) (ys : List (List UInt8)) : joinL (y :: ys) = 47 :: (y ++ joinL ys) := rfl
/-- What is joined is cut again. -/
theorem rest_join (ys : List (List UInt8)) (h : ∀ y ∈ ys, noSlash y) : restN (joinL ys) = ys := by
  induction ys with
  | nil => rfl
  | cons y r ih =>
    have h1 := takeTo_app (h y (by simp)) (joinL_head r)
    rw [joinL_cons, restN_cons, h1.1, h1.2, ih fun z hz => h z (by simp [hz])]
theorem joinT_ne {ys : List (List UInt8)} (h : ys ≠ []) : joinT ys = joinL ys := by
  cases ys with
  | nil => exact absurd rfl h
  | cons y r => unfold joinT; rw [if_neg (by rw [joinL_cons]; simp)]
theorem names_join (ys : List (List UInt8)) (h : ∀ y ∈ ys, noSlash y ∧ y ≠ []) : namesL (joinT ys) = ys := by
  cases ys with
  | nil => rfl
  | cons y r =>
    rw [joinT_ne (by simp)]
    unfold namesL
    have hy := (h y (by simp)).2
    rw [if_neg (by rw [joinL_cons]; intro e; simp at e; exact hy e.1), rest_join _ fun z hz => (h z hz).1]
theorem names_of (p : List UInt8) (t : List UInt8) (h : p = 47 :: t) : joinT (namesL p) = p ∧ ((namesL p).length = 0 ↔ p = [47]) := by
  unfold namesL
  by_cases hp : p = [47]
  · rw [if_pos hp, hp]; exact ⟨rfl, by simp⟩
  · rw [if_neg hp]
    have h1 := join_rest p.length p (Nat.le_refl _) (Or.inr ⟨t, h⟩)
    have h2 : restN p ≠ [] := by rw [h]; exact cutB_ne t
    refine ⟨by rw [joinT_ne h2, h1], ?_⟩
    constructor
    · intro h3; exact absurd (List.eq_nil_of_length_eq_zero h3) h2
    · intro h3; exact absurd h3 hp

theorem name_ok {y : List UInt8} (h : nameF (mkB y) = 0) : noSlash y ∧ y ≠ [] := by
  unfold nameF at h
  rw [mkB_size, mkB_list] at h
  by_cases h0 : y.length = 0
  · rw [if_pos h0] at h; simp at h
  · rw [if_neg h0] at h
    by_cases ha : y.all byB = true
    · refine ⟨fun b hb e => ?_, fun e => h0 (by rw [e]; rfl)⟩
      have h1 := List.all_eq_true.1 ha b hb
      rw [e] at h1
      exact absurd h1 (by decide)
    · rw [if_neg ha] at h; simp at h
theorem names_all {xs : List (List UInt8)} (h : namesF xs = 0) : ∀ y ∈ xs, nameF (mkB y) = 0 := by
  induction xs with
  | nil => intro y hy; simp at hy
  | cons x t ih =>
    intro y hy
    unfold namesF at h
    by_cases h0 : nameF (mkB x) = 0
    · rw [if_pos h0] at h
      rcases List.mem_cons.1 hy with rfl | hy
      · exact h0
      · exact ih h y hy
    · rw [if_neg h0] at h; exact absurd h h0
theorem path_head {p : List UInt8} (h : pathF p = 0) : (∃ t, p = 47 :: t) ∧ p.length ≤ 30 := by
  unfold pathF at h
  split at h
  · simp at h
  · rename_i h30
    split at h
    · rename_i hp
      cases p with
      | nil => simp [preB] at hp
      | cons b t =>
        have hb : b = 47 := by simpa [preB] using hp
        exact ⟨⟨t, by rw [hb]⟩, by omega⟩
    · simp at h
theorem join_last : ∀ ys : List (List UInt8), ys ≠ [] → (∀ y ∈ ys, noSlash y ∧ y ≠ []) → ∃ b, (joinL ys).getLast? = some b ∧ b ≠ 47
  | [], h, _ => absurd rfl h
  | [y], _, hy => by
    obtain ⟨h1, h2⟩ := hy y (by simp)
    have h3 : joinL [y] = 47 :: y := by rw [joinL_cons]; simp [joinL]
    rw [h3]
    refine ⟨y.getLast h2, ?_, h1 _ (List.getLast_mem h2)⟩
    cases y with
    | nil => exact absurd rfl h2
    | cons b t => simp [List.getLast?_eq_some_getLast]
  | y :: z :: r, _, hy => by
    obtain ⟨b, hb, hn⟩ := join_last (z :: r) (by simp) fun q hq => hy q (by simp at hq ⊢; exact Or.inr hq)
    refine ⟨b, ?_, hn⟩
    have h3 : joinL (y :: z :: r) = (47 :: y) ++ joinL (z :: r) := rfl
    rw [h3, List.getLast?_append, hb]
    rfl
theorem joinL_take (xs : List (List UInt8)) (m : Nat) : (joinL (xs.take m)).length ≤ (joinL xs).length := by
  have h : joinL xs = joinL (xs.take m) ++ joinL (xs.drop m) := by
    conv => lhs; rw [← List.take_append_drop m xs]
    unfold joinL
    rw [List.flatMap_append]
  rw [h, List.length_append]
  omega
/-- The parent's text is a path, and its names are those ahead of the last. -/
theorem par_ok {p : List UInt8} (h : pathF p = 0) (m : Nat) : pathF (joinT ((namesL p).take m)) = 0 ∧ namesL (joinT ((namesL p).take m)) = (namesL p).take m := by
  obtain ⟨⟨t, ht⟩, h30⟩ := path_head h
  obtain ⟨h6, hnf⟩ := path_ok h
  have hj := (names_of p t ht).1
  have hall : ∀ y ∈ (namesL p).take m, noSlash y ∧ y ≠ [] := fun y hy => name_ok (names_all hnf y (List.mem_of_mem_take hy))
  have hN := names_join _ hall
  refine ⟨?_, hN⟩
  have hnt := names_take hnf m
  have hlt : ((namesL p).take m).length ≤ 6 := by rw [List.length_take]; omega
  have h1 : (joinT ((namesL p).take m)).length ≤ 30 ∧ preB (joinT ((namesL p).take m)) = true ∧ ¬ (sufB (joinT ((namesL p).take m)) = true ∧ topB (joinT ((namesL p).take m)) = false) := by
    by_cases he : (namesL p).take m = []
    · rw [he]; exact ⟨by decide, by decide, by decide⟩
    · have hpn : namesL p ≠ [] := fun e => he (by rw [e]; simp)
      rw [joinT_ne he]
      rw [joinT_ne hpn] at hj
      refine ⟨?_, ?_, ?_⟩
      · have := joinL_take (namesL p) m; rw [hj] at this; omega
      · rcases joinL_head ((namesL p).take m) with e | ⟨r, e⟩
        · cases hq : (namesL p).take m with
          | nil => exact absurd hq he
          | cons y ys => rw [hq, joinL_cons] at e; simp at e
        · rw [e]; simp [preB]
      · rintro ⟨hs, _⟩
        obtain ⟨b, hb, hne⟩ := join_last _ he hall
        unfold sufB at hs
        rw [hb] at hs
        exact hne (by simpa using hs)
  unfold pathF
  rw [if_neg (by omega), if_pos h1.2.1, if_neg h1.2.2, hN, if_neg (by omega)]
  exact hnt
end Go.Proofs.Ytcmkfapgpolglaa
