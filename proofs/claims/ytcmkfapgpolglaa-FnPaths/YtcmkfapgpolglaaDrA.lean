
/- The specification's draws: a number. -/
import Derived.Test.YtcmkfapgpolglaaOwn
import Derived.Test.YtcmkfapgpolglaaRows
namespace Go.Proofs.Ytcmkfapgpolglaa
open Go.RowKit
set_option maxRecDepth 100000

/-- Bytes that can be read. -/
def AtB (w : World) (a : Option Addr) (n : Nat) : Prop := ∀ k, k < n → ∃ b off, a = some ⟨b, off, none⟩ ∧ ∃ z : Nat, z < 256 ∧ w.cell? ⟨b, off + k, none⟩ = some (.int .u8 (z : Int))
theorem AtB.later {w w' : World} {a : Option Addr} {n : Nat} (h : AtB w a n) (hb : Below w.heap.size w w') : AtB w' a n := fun k hk => by
  obtain ⟨b, off, e, z, hz, hc⟩ := h k hk
  exact ⟨b, off, e, z, hz, cell_later hb hc⟩
/-- A source of draws in block sb. -/
def Src (w : World) (sb : Nat) (a : Option Addr) (n c at' : Nat) : Prop := OwnRow w sb 2 (fun i => if i = 0 then .slice a n c else .int .i64 (at' : Int))
def stepW (w : World) (sb at' : Nat) : World := w.setCell ⟨sb, 1, none⟩ (.int .i64 ((at' : Int) + 1))
theorem Src.step {w : World} {sb : Nat} {a : Option Addr} {n c at' : Nat} (h : Src w sb a n c at') : Src (stepW w sb at') sb a n c (at' + 1) := by
  refine (OwnRow.set h 1 (.int .i64 ((at' : Int) + 1))).congr fun i hi => ?_
  have : i = 0 ∨ i = 1 := by omega
  rcases this with rfl | rfl <;> simp

set_option maxHeartbeats 3200000 in
theorem l1Next_none (w : World) (sb : Nat) (a : Option Addr) (c at' k : Nat) (hs : Src w sb a 0 c at') (hat : at' ≤ 1000000) (hk0 : 1 ≤ k) (hk : k ≤ 200) :
    Calls Try.prog 43 #[.pointer (some ⟨sb, 0, none⟩), .int .i64 (k : Int)] w fun e w' => ∃ r : Nat, e = .returned (.int .i64 (r : Int)) ∧ r < k ∧ ∃ m, w' = (stepW w sb at').drewN m := by
  have HST : Hid (w.setCell ⟨sb, 1, none⟩ (.int .i64 ((at' : Int) + 1)) = stepW w sb at') := rfl
  have c0 := hs.cell (i := 0) (by omega)
  have c1 := hs.cell (i := 1) (by omega)
  have f1 := hs.frozen 1
  simp at c0 c1
  have hk1 : decide ((k : Int) < 1) = false := by simp; omega
  have hk2 : ((k : Int) == 0) = false := by simp; omega
  go_enter Try.func43, Try.ntmps43
  go_wp2
  go_ret
  have h0 : (0 : Int) ≤ (at' : Int) * 7 % (k : Int) := Int.emod_nonneg _ (by omega)
  have h1 : (at' : Int) * 7 % (k : Int) < (k : Int) := Int.emod_lt_of_pos _ (by omega)
  exact ⟨((at' : Int) * 7 % (k : Int)).toNat, ret_int (by omega), by omega, 0, rfl⟩

set_option maxHeartbeats 6400000 in
theorem l1Next_some (w : World) (sb : Nat) (a : Option Addr) (n c at' k : Nat) (hs : Src w sb a n c at') (hn : n ≤ 1048576) (hn0 : 0 < n) (hb : AtB w a n) (hne : ∀ b off, a = some ⟨b, off, none⟩ → b ≠ sb) (hat : at' ≤ 1000000) (hk0 : 1 ≤ k) (hk : k ≤ 200) :
    Calls Try.prog 43 #[.pointer (some ⟨sb, 0, none⟩), .int .i64 (k : Int)] w fun e w' => ∃ r : Nat, e = .returned (.int .i64 (r : Int)) ∧ r < k ∧ ∃ m, w' = (stepW w sb at').drewN m := by
  have c0 := hs.cell (i := 0) (by omega)
  have c1 := hs.cell (i := 1) (by omega)
  have f1 := hs.frozen 1
  simp at c0 c1
  have hq : at' % n < n := Nat.mod_lt _ hn0
  have hd : at' / n ≤ at' := Nat.div_le_self _ _
  have hmod : (at' : Int) % (n : Int) = ((at' % n : Nat) : Int) := by omega
  have hdiv : (at' : Int) / (n : Int) = ((at' / n : Nat) : Int) := by omega
  generalize at' % n = q at *
  generalize at' / n = d at *
  obtain ⟨b, off, rfl, z, hz, hc⟩ := hb q hq
  have hbs : b ≠ sb := hne b off rfl
  have hk1 : decide ((k : Int) < 1) = false := by simp; omega
  have hk2 : ((k : Int) == 0) = false := by simp; omega
  have hn1 : ((n : Int) == 0) = false := by simp; omega
  have hn2 : (n : Int) ≠ 0 := by omega
  have hk3 : decide ((200 : Int) < (k : Int)) = false := by simp; omega
  have d0 : (w.setCell ⟨sb, 1, none⟩ (.int .i64 ((at' : Int) + 1))).cell? ⟨sb, 0, none⟩ = some (.slice (some ⟨b, off, none⟩) n c) := by
    have := hs.step.cell (i := 0) (by omega)
    simpa [stepW] using this
  have dc : (w.setCell ⟨sb, 1, none⟩ (.int .i64 ((at' : Int) + 1))).cell? ⟨b, off + q, none⟩ = some (.int .u8 (z : Int)) := by
    rw [World.cell?_of_block (Below.heap_setCell _ _ _ _ hbs)]; exact hc
  clear hb hne hs hc
  go_enter Try.func43, Try.ntmps43
  go_wp2_with fail
  go_quiet (fail)
  go_wp2
  go_ret
  have h0 : (0 : Int) ≤ ((z : Int) + (d : Int) * 37) % (k : Int) := Int.emod_nonneg _ (by omega)
  have h1 : ((z : Int) + (d : Int) * 37) % (k : Int) < (k : Int) := Int.emod_lt_of_pos _ (by omega)
  exact ⟨(((z : Int) + (d : Int) * 37) % (k : Int)).toNat, ret_int (by omega), by omega, nq, rfl⟩

/-- One draw. -/
theorem l1Next_any (w : World) (sb : Nat) (a : Option Addr) (n c at' k : Nat) (hs : Src w sb a n c at') (hn : n ≤ 1048576) (hb : AtB w a n) (hne : ∀ b off, a = some ⟨b, off, none⟩ → b ≠ sb) (hat : at' ≤ 1000000) (hk0 : 1 ≤ k) (hk : k ≤ 200) :
    Calls Try.prog 43 #[.pointer (some ⟨sb, 0, none⟩), .int .i64 (k : Int)] w fun e w' => ∃ r : Nat, e = .returned (.int .i64 (r : Int)) ∧ r < k ∧ ∃ m, w' = (stepW w sb at').drewN m := by
  by_cases h0 : n = 0
  · subst h0; exact l1Next_none w sb a c at' k hs hat hk0 hk
  · exact l1Next_some w sb a n c at' k hs hn (by omega) hb hne hat hk0 hk
end Go.Proofs.Ytcmkfapgpolglaa
