
/- Who may write or read: the walks of the specification's l2May and of the program's keyFault. -/
import Derived.Test.YtojegkekafampahOwnB
import Derived.Test.YtojegkekafampahCpyE
import Derived.Test.YtojegkekafampahCpyD
namespace Go.Proofs.Ytojegkekafampah
open Go.RowKit
set_option maxRecDepth 100000

def mayF (d : KD) (key x : Int) : Int := if (ownR d x).1 = 0 then (if (ownR d x).2 = key then 0 else 6) else (ownR d x).1

set_option maxHeartbeats 1600000 in
theorem l2May_any {w : World} {bk : Nat} {vB vC vE : Value} {d : KD} (key x : Int) (h0 : w.cell? ⟨bk, 0, none⟩ = some vB) (h1 : w.cell? ⟨bk, 1, none⟩ = some vC) (h2 : w.cell? ⟨bk, 2, none⟩ = some vE) (h : KernR w vB vC vE d) :
    Calls Try.prog 62 #[.pointer (some ⟨bk, 0, none⟩), .int .i64 key, .int .i64 x] w fun e w' => e = .returned (.int .i64 (mayF d key x)) ∧ Below w.heap.size w w' := by
  obtain ⟨a1, c1, rfl, _⟩ := h.1.1.open'
  obtain ⟨a2, c2, rfl, _⟩ := h.1.2.open'
  obtain ⟨a3, c3, rfl, _⟩ := h.2.open'
  have H : Hid (KernR w (.slice a1 d.1.1.length c1) (.slice a2 d.1.2.length c2) (.slice a3 d.2.length c3) d) := h
  have HM : Hid (mayF d key x = if (ownR d x).1 = 0 then (if (ownR d x).2 = key then 0 else 6) else (ownR d x).1) := rfl
  rw [HM.out]
  obtain ⟨c, v, hr⟩ : ∃ c v, ownR d x = (c, v) := ⟨_, _, rfl⟩
  have HR : Hid (ownR d x = (c, v)) := hr
  rw [hr]
  clear h hr HM
  generalize d.1.1.length = n1 at *
  generalize d.1.2.length = n2 at *
  generalize d.2.length = n3 at *
  by_cases hc : c = 0
  · subst hc
    by_cases hv : v = key
    · subst hv
      have hne : (v != v) = false := by simp
      rw [if_pos rfl, if_pos rfl]
      go_enter Try.func62, Try.ntmps62
      go_wp2_with fail
      refine (specOwner_any _ _ _ _ d x H.out).mono ?_
      rw [HR.out]
      rintro e w1 ⟨rfl, hb1⟩
      have HB1 : Hid (Below w.heap.size w w1) := hb1
      clear hb1
      go_wp2
      go_ret
      exact ⟨rfl, HB1.out.trans ((later1 _ _).mono HB1.out.size)⟩
    · have hne : (v != key) = true := by simpa using hv
      rw [if_pos rfl, if_neg hv]
      clear hv
      go_enter Try.func62, Try.ntmps62
      go_wp2_with fail
      refine (specOwner_any _ _ _ _ d x H.out).mono ?_
      rw [HR.out]
      rintro e w1 ⟨rfl, hb1⟩
      have HB1 : Hid (Below w.heap.size w w1) := hb1
      clear hb1
      go_wp2
      go_ret
      exact ⟨rfl, HB1.out.trans ((later1 _ _).mono HB1.out.size)⟩
  · have hne : (c != 0) = true := by simpa using hc
    rw [if_neg hc]
    clear hc
    go_enter Try.func62, Try.ntmps62
    go_wp2_with fail
    refine (specOwner_any _ _ _ _ d x H.out).mono ?_
    rw [HR.out]
    rintro e w1 ⟨rfl, hb1⟩
    have HB1 : Hid (Below w.heap.size w w1) := hb1
    clear hb1
    go_wp2
    go_ret
    exact ⟨rfl, HB1.out.trans ((later1 _ _).mono HB1.out.size)⟩
end Go.Proofs.Ytojegkekafampah
