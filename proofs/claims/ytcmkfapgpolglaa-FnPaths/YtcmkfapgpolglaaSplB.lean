
/- Splitting a path: the contracts of the law. -/
import Derived.Test.YtcmkfapgpolglaaMrkS
import Derived.Test.YtcmkfapgpolglaaBlwA
namespace Go.Proofs.Ytcmkfapgpolglaa
open Go.RowKit
set_option maxRecDepth 100000

/-- A list of texts that owns its block, or is empty. -/
def OwnT (w : World) (a : Option Addr) (n : Nat) (f : Nat → Value) (lo hi : Nat) : Prop := n = 0 ∨ ∃ g, a = some ⟨g, 0, none⟩ ∧ lo ≤ g ∧ g < hi ∧ OwnRow w g n f
def blkOf (a : Option Addr) (lo hi b : Nat) : Prop := a = some ⟨b, 0, none⟩ ∧ lo ≤ b ∧ b < hi
theorem OwnT.later {w w' : World} {a : Option Addr} {n : Nat} {f : Nat → Value} {lo hi : Nat} (h : OwnT w a n f lo hi) (hb : Below w.heap.size w w') : OwnT w' a n f lo hi := by
  rcases h with h | ⟨g, e, h1, h2, h3⟩
  · exact Or.inl h
  · exact Or.inr ⟨g, e, h1, h2, h3.block (hb.block g h3.lt)⟩
theorem ownT_row {w : World} {B : Nat} {e : TypeId} {a : Option Addr} {n c : Nat} {xs : List (List UInt8)} (h : w.ownsRow B e 1 (.slice a n c) xs.length (xs.map strV)) : OwnT w a n (fun i => strV (xs[i]?.getD [])) B w.heap.size := by
  obtain ⟨hl, ⟨h1, h2⟩ | ⟨g, cap, cur, h1, h2, h3, h4, h5, h6, h7⟩⟩ := h
  · simp only [Value.slice.injEq] at h1
    exact Or.inl h1.2.1
  · simp only [Value.slice.injEq] at h1
    refine Or.inr ⟨g, h1.1, h2, (Array.getElem?_eq_some_iff.1 h3).1, cur, e, h3, by rw [h1.2.1]; omega, fun i hi => ?_⟩
    rw [h1.2.1] at hi
    have h8 : (xs.map strV)[i]? = some (strV (xs[i]?.getD [])) := by rw [List.getElem?_map, List.getElem?_eq_getElem hi]; rfl
    rw [← h7, List.getElem?_take, if_pos (by omega), Array.getElem?_toList] at h8
    exact h8
theorem implSplit_own (w : World) (p : List UInt8) (hp : p.length ≤ 1048576) :
    Calls Try.prog 31 #[.string (mkB p)] w fun e w' => ∃ a c, e = .returned (.agg #[.int .i64 (pathF p), .slice a (splitL p).length c]) ∧ Below w.heap.size w w' ∧ AtT w' a (splitL p).length (splitL p) ∧ OwnT w' a (splitL p).length (fun i => strV ((splitL p)[i]?.getD [])) w.heap.size w'.heap.size := by
  by_cases h : pathF p = 0
  · refine (implSplit_ok w p hp h).mono ?_
    rintro e w' ⟨a, c, rfl, hb, hr⟩
    have hs : splitL p = namesL p := if_pos h
    rw [hs, h]
    exact ⟨a, c, rfl, hb, (ownsRow_at hr).2, ownT_row hr⟩
  · refine (implSplit_bad w p hp h).mono ?_
    rintro e w' ⟨rfl, hb⟩
    have hs : splitL p = [] := if_neg h
    rw [hs]
    exact ⟨none, 0, rfl, hb, fun k hk => by simp at hk, Or.inl rfl⟩
theorem specSplit_own (w : World) (p : List UInt8) :
    Calls Try.prog 85 #[.string (mkB p)] w fun e w' => ∃ a c, e = .returned (.tuple #[.slice a (splitL p).length c, .int .i64 (pathF p)]) ∧ Below w.heap.size w w' ∧ AtT w' a (splitL p).length (splitL p) ∧ OwnT w' a (splitL p).length (fun i => strV ((splitL p)[i]?.getD [])) w.heap.size w'.heap.size := by
  by_cases h : pathF p = 0
  · refine (specSplit_ok w p h).mono ?_
    rintro e w' ⟨a, c, rfl, hb, hr⟩
    have hs : splitL p = namesL p := if_pos h
    rw [hs, h]
    exact ⟨a, c, rfl, hb, (ownsRow_at hr).2, ownT_row hr⟩
  · refine (specSplit_bad w p h).mono ?_
    rintro e w' ⟨rfl, hb⟩
    have hs : splitL p = [] := if_neg h
    rw [hs]
    exact ⟨none, 0, rfl, hb, fun k hk => by simp at hk, Or.inl rfl⟩
theorem AtT.store {w : World} {a : Option Addr} {n : Nat} {xs : List (List UInt8)} {f : Nat → Value} {lo hi : Nat} (h : AtT w a n xs) (ho : OwnT w a n f lo hi) {p : Addr} (hp : p.block < lo) (v : Value) : AtT (w.setCell p v) a n xs := fun k hk => by
  rcases ho with h0 | ⟨g, e, h1, _, _⟩
  · omega
  · obtain ⟨b, off, e2, c0⟩ := h k hk
    refine ⟨b, off, e2, ?_⟩
    rw [e] at e2
    cases e2
    rw [← c0]
    exact World.cell?_of_block (Below.heap_setCell _ _ _ _ (fun e => by simp at e; omega))
theorem OwnT.store {w : World} {a : Option Addr} {n : Nat} {f : Nat → Value} {lo hi : Nat} (ho : OwnT w a n f lo hi) {p : Addr} (hp : p.block < lo) (v : Value) : OwnT (w.setCell p v) a n f lo hi := by
  rcases ho with h0 | ⟨g, e, h1, h2, h3⟩
  · exact Or.inl h0
  · exact Or.inr ⟨g, e, h1, h2, h3.store (by omega) v⟩
set_option maxHeartbeats 1600000 in
theorem specSplitP_any (w : World) (p : List UInt8) :
    Calls Try.prog 32 #[.string (mkB p)] w fun e w' => ∃ a c, e = .returned (.agg #[.int .i64 (pathF p), .slice a (splitL p).length c]) ∧ Below w.heap.size w w' ∧ AtT w' a (splitL p).length (splitL p) := by
  have HC : Hid (∀ W, Calls Try.prog 85 #[.string (mkB p)] W fun e w' => ∃ a c, e = .returned (.tuple #[.slice a (splitL p).length c, .int .i64 (pathF p)]) ∧ Below W.heap.size W w' ∧ AtT w' a (splitL p).length (splitL p) ∧ OwnT w' a (splitL p).length (fun i => strV ((splitL p)[i]?.getD [])) W.heap.size w'.heap.size) := fun W => specSplit_own W p
  generalize pathF p = z at *
  generalize splitL p = xs at *
  generalize hn : xs.length = n at *
  go_enter Try.func32, Try.ntmps32
  go_wp2_with fail
  refine (HC.out _).mono ?_
  rintro e w1 ⟨a, c, rfl, hb1, hat, hot⟩
  have HW1 : Hid (Below w.heap.size w w1) := (later1 _ _).trans (hb1.mono (by simp))
  have HAT : Hid (AtT w1 a n xs) := hat
  have HOT : Hid (OwnT w1 a n (fun i => strV (xs[i]?.getD [])) (w.heap.size + 1) w1.heap.size) := by unfold Hid; simpa using hot
  have HR := (OwnRow.newS w (.int .i64 0) (.slice none 0 0) 66).block (hb1.block w.heap.size (by simp))
  have t0 := HR.cell (i := 0) (by omega)
  have t1 := HR.cell (i := 1) (by omega)
  have s0 := HR.frozen 0
  have s1 := HR.frozen 1
  simp at t0 t1
  clear hb1 HR HC hat hn hot
  go_wp2
  exact bodyPost_ret (v := .agg #[.int .i64 z, .slice a n c]) (by simp [results, Try.results32, go_sem, t0, t1]) rfl ⟨a, c, rfl, (HW1.out.setCell (by simp) _).setCell (by simp) _, (HAT.out.store HOT.out (by simp) _).store (HOT.out.store (by simp) _) (by simp) _⟩
end Go.Proofs.Ytcmkfapgpolglaa
