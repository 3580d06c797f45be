
/- The specification's l3Names and l3Split. -/
import Derived.Test.YtcmkfapgpolglaaCutA
namespace Go.Proofs.Ytcmkfapgpolglaa
open Go.RowKit
set_option maxRecDepth 100000

/-- How a list of texts reads. -/
def AtT (w : World) (a : Option Addr) (n : Nat) (xs : List (List UInt8)) : Prop := ∀ k, k < n → ∃ b off, a = some ⟨b, off, none⟩ ∧ w.cell? ⟨b, off + k, none⟩ = some (.string (mkB (xs[k]?.getD [])))
theorem AtT.later {w w' : World} {a : Option Addr} {n : Nat} {xs : List (List UInt8)} (h : AtT w a n xs) (hb : Below w.heap.size w w') : AtT w' a n xs := fun k hk => by
  obtain ⟨b, off, e, c⟩ := h k hk
  exact ⟨b, off, e, cell_later hb c⟩
theorem ownsRow_at {w : World} {B : Nat} {e : TypeId} {a : Option Addr} {n c : Nat} {xs : List (List UInt8)} (h : w.ownsRow B e 1 (.slice a n c) xs.length (xs.map strV)) : n = xs.length ∧ AtT w a n xs := by
  obtain ⟨hl, ⟨h1, h2⟩ | ⟨g, cap, cur, h1, h2, h3, h4, h5, h6, h7⟩⟩ := h
  · simp only [Value.slice.injEq] at h1
    exact ⟨by rw [h1.2.1, h2], fun k hk => by rw [h1.2.1] at hk; omega⟩
  · simp only [Value.slice.injEq] at h1
    refine ⟨h1.2.1, fun k hk => ⟨g, 0, h1.1, ?_⟩⟩
    rw [h1.2.1] at hk
    have h8 : (xs.map strV)[k]? = some (.string (mkB (xs[k]?.getD []))) := by rw [List.getElem?_map, List.getElem?_eq_getElem hk]; rfl
    rw [← h7, List.getElem?_take, if_pos (by omega), Array.getElem?_toList] at h8
    rw [Nat.zero_add]
    simp only [World.cell?, h3]
    exact h8
def namesC (xs : List (List UInt8)) : Int := if 6 < xs.length then 2 else namesF xs
theorem namesF_at {xs : List (List UInt8)} {j : Nat} (h : ∀ i, i < j → nameF (mkB (xs[i]?.getD [])) = 0) (hj : j < xs.length) (hn : ¬ nameF (mkB (xs[j]?.getD [])) = 0) : namesF xs = nameF (mkB (xs[j]?.getD [])) := by
  induction xs generalizing j with
  | nil => simp at hj
  | cons x t ih =>
    cases j with
    | zero => simp at hn ⊢; simp [namesF, hn]
    | succ j =>
      have h0 : nameF (mkB x) = 0 := by simpa using h 0 (by omega)
      simp only [namesF, if_pos h0]
      have := ih (j := j) (fun i hi => by simpa using h (i + 1) (by omega)) (by simpa using hj) (by simpa using hn)
      simpa using this
theorem namesF_zero {xs : List (List UInt8)} (h : ∀ i, i < xs.length → nameF (mkB (xs[i]?.getD [])) = 0) : namesF xs = 0 := by
  induction xs with
  | nil => rfl
  | cons x t ih =>
    have h0 : nameF (mkB x) = 0 := by simpa using h 0 (by simp)
    simp only [namesF, if_pos h0]
    exact ih fun i hi => by simpa using h (i + 1) (by simpa using hi)

set_option maxHeartbeats 1600000 in
theorem l3Names_any (w : World) (a : Option Addr) (n c : Nat) (xs : List (List UInt8)) (hn : xs.length = n) (hn2 : n ≤ 1048577) (hx : ∀ k : Nat, (xs[k]?.getD []).length ≤ 1048576) (hc : AtT w a n xs) :
    Calls Try.prog 115 #[.slice a n c] w fun e w' => e = .returned (.int .i64 (namesC xs)) ∧ w' = w := by
  have HN : Hid (xs.length = n) := hn
  have HX : Hid (∀ k : Nat, (xs[k]?.getD []).length ≤ 1048576) := hx
  have HC : Hid (AtT w a n xs) := hc
  have HNC : Hid (namesC xs = if 6 < n then 2 else namesF xs) := by unfold Hid namesC; rw [hn]
  rw [HNC.out]
  clear hn hx hc HNC
  by_cases h6 : 6 < n
  · rw [if_pos h6]
    have h6' : (6 : Int) < (n : Int) := by omega
    go_enter Try.func115, Try.ntmps115
    go_wp2
    go_ret
    exact ⟨rfl, rfl⟩
  · rw [if_neg h6]
    have h6' : decide ((6 : Int) < (n : Int)) = false := by simp; omega
    have h6'' : decide (6 < n) = false := by simp; omega
    clear h6
    go_enter Try.func115, Try.ntmps115
    go_wp2
    go_loop [3] (fun i => ∃ j : Nat, j ≤ n ∧ i = .int .i64 j ∧ ∀ k, k < j → nameF (mkB (xs[k]?.getD [])) = 0) (fun i => n - (intOf i).toNat)
    case atStart => exact ⟨0, Nat.zero_le _, rfl, fun k hk => by omega⟩
    case round =>
      obtain ⟨j, hj, rfl, hall⟩ := hrel
      have HA : Hid (∀ k, k < j → nameF (mkB (xs[k]?.getD [])) = 0) := hall
      clear hall
      by_cases hlt : j < n
      · obtain ⟨b, off, rfl, c0⟩ := HC.out j hlt
        have hsz : (mkB (xs[j]?.getD [])).size ≤ maxLen := by rw [mkB_size]; have := HX.out j; unfold maxLen; omega
        by_cases hz : nameF (mkB (xs[j]?.getD [])) = 0
        · have HZ : Hid (∀ k : Nat, k < j + 1 → nameF (mkB (xs[k]?.getD [])) = 0) := fun k hk => by
            by_cases e : k = j
            · rw [e]; exact hz
            · exact HA.out k (by omega)
          have HY : Hid (nameF (mkB (xs[j]?.getD [])) = 0) := hz
          have HX2 := HX
          generalize hy : xs[j]?.getD [] = y at c0 hsz HY
          clear hz hy
          go_wp2_with fail
          refine (specName_any _ _ hsz).mono ?_
          rw [HY.out]
          rintro e w1 ⟨rfl, rfl⟩
          go_wp2
          go_round
          case rel => exact ⟨j + 1, by omega, by go_num, HZ.out⟩
          case measure => simp [intOf]; omega
        · have HZ : Hid (namesF xs = nameF (mkB (xs[j]?.getD []))) := namesF_at HA.out (by rw [HN.out]; exact hlt) hz
          have HY : Hid (¬ nameF (mkB (xs[j]?.getD [])) = 0) := hz
          clear HA hz
          generalize hy : xs[j]?.getD [] = y at c0 hsz HY HZ
          clear hy
          go_wp2_with fail
          refine (specName_any _ _ hsz).mono ?_
          generalize nameF (mkB y) = z at HY HZ ⊢
          have hz : (z == 0) = false := by simpa using HY.out
          have hz2 : (z = 0) = False := by simpa using HY.out
          rintro e w1 ⟨rfl, rfl⟩
          go_wp2
          go_ret
          exact ⟨by rw [HZ.out]; rfl, rfl⟩
      · have hje : j = n := by omega
        have HZ : Hid (namesF xs = 0) := namesF_zero fun i hi => HA.out i (by rw [HN.out] at hi; omega)
        have hx' : decide ((j : Int) < (n : Int)) = false := by simp; omega
        have hx2 : decide (j < n) = false := by simp; omega
        clear hje
        go_wp2
        go_ret
        exact ⟨by rw [HZ.out]; rfl, rfl⟩
end Go.Proofs.Ytcmkfapgpolglaa
