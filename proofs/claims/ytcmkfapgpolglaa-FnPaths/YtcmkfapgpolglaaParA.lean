
/- ParentOf: the program's side, and the law. -/
import Derived.Test.YtcmkfapgpolglaaJnB
import Derived.Test.YtcmkfapgpolglaaJoinB
import Derived.Test.YtcmkfapgpolglaaLstC
namespace Go.Proofs.Ytcmkfapgpolglaa
open Go.RowKit
set_option maxRecDepth 100000

theorem path_ok {p : List UInt8} (h : pathF p = 0) : (namesL p).length ≤ 6 ∧ namesF (namesL p) = 0 := by
  unfold pathF at h
  split at h
  · simp at h
  · split at h
    · split at h
      · simp at h
      · split at h
        · simp at h
        · exact ⟨by omega, h⟩
    · simp at h
theorem names_take {xs : List (List UInt8)} (h : namesF xs = 0) (m : Nat) : namesF (xs.take m) = 0 := by
  by_cases hn : namesF (xs.take m) = 0
  · exact hn
  · rw [namesF_prefix (List.take_prefix m xs) hn] at h; exact h
theorem take_get (xs : List (List UInt8)) (m k : Nat) (h : k < m) : (xs.take m)[k]?.getD [] = xs[k]?.getD [] := by rw [List.getElem?_take, if_pos h]
theorem take_len (xs : List (List UInt8)) (m k B : Nat) (h : ∀ k : Nat, (xs[k]?.getD []).length ≤ B) : ((xs.take m)[k]?.getD []).length ≤ B := by
  rw [List.getElem?_take]
  split
  · exact h k
  · simp

set_option maxHeartbeats 1600000 in
theorem implParent_code (w : World) (p : List UInt8) (z : Int) (hz : ¬ z = 0) (HC : Hid (∀ W, Calls Try.prog 86 #[.string (mkB p)] W fun e w' => e = .returned (.tuple #[.slice none 0 0, .int .i64 z]) ∧ Below W.heap.size W w')) :
    Calls Try.prog 33 #[.string (mkB p)] w fun e w' => e = .returned (.agg #[.int .i64 z, .string ⟨#[]⟩]) ∧ Below w.heap.size w w' := by
  have hne : (z != 0) = true := by simpa using hz
  clear hz
  go_enter Try.func33, Try.ntmps33
  go_wp2_with fail
  refine (HC.out _).mono ?_
  rintro e w1 ⟨rfl, hb1⟩
  have HW1 : Hid (Below w.heap.size w w1) := (later1 _ _).trans (hb1.mono (by simp))
  have HR := (OwnRow.newS w (.int .i64 0) (.string ⟨#[]⟩) 69).block (hb1.block w.heap.size (by simp))
  have t0 := HR.cell (i := 0) (by omega)
  have t1 := HR.cell (i := 1) (by omega)
  have s0 := HR.frozen 0
  have s1 := HR.frozen 1
  simp at t0 t1
  clear hb1 HR HC
  go_wp2
  exact bodyPost_ret (v := .agg #[.int .i64 z, .string ⟨#[]⟩]) (by simp [results, Try.results33, go_sem, t0, t1]) rfl ⟨rfl, (HW1.out.setCell (by simp) _).setCell (by simp) _⟩

set_option maxHeartbeats 3200000 in
theorem implParent_ok (w : World) (p : List UInt8) (hp : p.length ≤ 1048576) (h : pathF p = 0) (m : Nat) (h0 : (namesL p).length = m + 1) :
    Calls Try.prog 33 #[.string (mkB p)] w fun e w' => e = .returned (.agg #[.int .i64 0, .string (mkB (joinT ((namesL p).take m)))]) ∧ Below w.heap.size w w' := by
  have HC : Hid (∀ W, Calls Try.prog 86 #[.string (mkB p)] W fun e w' => ∃ a c, e = .returned (.tuple #[.slice a (m + 1) c, .int .i64 0]) ∧ Below W.heap.size W w' ∧ AtT w' a (m + 1) (namesL p) ∧ m + 1 ≤ c) := fun W => nwl_ok W p hp h m h0
  have hok := path_ok h
  have HJ : Hid (∀ (W : World) (A : Option Addr) (C : Nat), AtT W A m (namesL p) → Calls Try.prog 36 #[.slice A m C] W fun e w' => e = .returned (.agg #[.int .i64 0, .string (mkB (joinT ((namesL p).take m)))]) ∧ Below W.heap.size W w') := fun W A C hA => by
    have := implJoin_few W A m C ((namesL p).take m) (by rw [List.length_take]; omega) (by omega) (fun k => take_len _ m k _ fun k => namesL_mem p hp k) (fun k hk => by
      obtain ⟨b, off, e, hc⟩ := hA k hk
      exact ⟨b, off, e, by rw [take_get _ m k hk]; exact hc⟩)
    rw [names_take hok.2 m, if_pos rfl] at this
    exact this
  have hml : m + 1 ≤ 1048577 := by have := namesL_len p; omega
  clear h h0 hok
  generalize hy : mkB (joinT ((namesL p).take m)) = y at *
  clear hy
  generalize namesL p = xs at *
  have hnm : ((m + 1 : Nat) : Int) - 1 = (m : Int) := by omega
  have hwr : IntKind.i64.wrap (m : Int) = (m : Int) := by rw [IntKind.wrap_i64]; omega
  have hmm : m ≤ m + 1 := by omega
  generalize hM : m + 1 = M at *
  go_enter Try.func33, Try.ntmps33
  go_wp2_with fail
  refine (HC.out _).mono ?_
  rintro e w1 ⟨a, c, rfl, hb1, hat, hc⟩
  have HW1 : Hid (Below w.heap.size w w1) := (later1 _ _).trans (hb1.mono (by simp))
  have HR : Hid (OwnRow w1 w.heap.size 2 (fun i => if i = 0 then .int .i64 0 else .string ⟨#[]⟩)) := (OwnRow.newS w (.int .i64 0) (.string ⟨#[]⟩) 69).block (hb1.block w.heap.size (by simp))
  obtain ⟨A, C, hsl, hAT⟩ := slice_takeT a M c m (by omega)
  have HA : Hid (AtT w1 A m xs) := hAT w1 xs hmm hat
  have hs1 := hsl
  clear hb1 HC hat hAT hsl
  go_wp2_with fail
  refine (HJ.out _ A C HA.out).mono ?_
  rintro e w2 ⟨rfl, hb2⟩
  have HW2 : Hid (Below w.heap.size w w2) := HW1.out.trans (hb2.mono HW1.out.size)
  have hrow := HR.out.later hb2
  have t0 := hrow.cell (i := 0) (by omega)
  have t1 := hrow.cell (i := 1) (by omega)
  have s0 := hrow.frozen 0
  have s1 := hrow.frozen 1
  simp at t0 t1
  clear hb2 hrow HJ
  go_wp2
  exact bodyPost_ret (v := .agg #[.int .i64 0, .string y]) (by simp [results, Try.results33, go_sem, t0, t1]) rfl ⟨rfl, (HW2.out.setCell (by simp) _).setCell (by simp) _⟩

theorem implParent_any (w : World) (p : List UInt8) (hp : p.length ≤ 1048576) :
    Calls Try.prog 33 #[.string (mkB p)] w fun e w' => e = .returned (.agg #[.int .i64 (lastC p), .string (mkB (parT p))]) ∧ Below w.heap.size w w' := by
  by_cases h : pathF p = 0
  · rcases hm : (namesL p).length with _ | m
    · refine (implParent_code w p 4 (by decide) (fun W => nwl_none W p hp h hm)).mono ?_
      rintro e w' ⟨rfl, hb⟩
      have hc : lastC p = 4 := by unfold lastC; rw [if_pos h, if_pos hm]
      exact ⟨by unfold parT; rw [hc]; rfl, hb⟩
    · refine (implParent_ok w p hp h m hm).mono ?_
      rintro e w' ⟨rfl, hb⟩
      have hc : lastC p = 0 := by unfold lastC; rw [if_pos h, if_neg (by omega)]
      exact ⟨by unfold parT; rw [hc, if_pos rfl, hm]; rfl, hb⟩
  · refine (implParent_code w p (pathF p) h (fun W => nwl_bad W p hp h)).mono ?_
    rintro e w' ⟨rfl, hb⟩
    have hc : lastC p = pathF p := by unfold lastC; rw [if_neg h]
    exact ⟨by unfold parT; rw [hc, if_neg h]; rfl, hb⟩

end Go.Proofs.Ytcmkfapgpolglaa
