
/- The walks of the comparing, marking and holding functions over an answer of a code and a list. -/
import Derived.Test.YtcmkfapgpolglajEqB
import Derived.Test.YtcmkfapgpolglajMarkB
import Derived.Test.YtcmkfapgpolglajBuilt
namespace Go.Proofs.Ytcmkfapgpolglaj
open Go.RowKit
set_option maxRecDepth 100000

theorem eqIntsResult_true (w : World) (c : Int) (va vb : Value) (zs : List Int) (h1 : Ints w va zs) (h2 : Ints w vb zs) :
    Calls Try.prog 20 #[.agg #[.int .i64 c, va], .agg #[.int .i64 c, vb]] w fun e w' => e = .returned (.bool true) ∧ Below w.heap.size w w' := by
  have H1 : Hid (Ints w va zs) := h1
  have H2 : Hid (Ints w vb zs) := h2
  clear h1 h2
  go_enter Try.func20, Try.ntmps20
  go_wp2_with fail
  refine (eqInts_any (H1.out.later (later2 _ _ _)) (H2.out.later (later2 _ _ _))).mono ?_
  rw [beq_self_eq_true]
  rintro e w' ⟨rfl, m, rfl⟩
  go_wp2
  go_ret
  exact ⟨rfl, below_drewN (later2 _ _ _) m⟩

theorem markIntsResult_any (w : World) (c : Int) (v : Value) (zs : List Int) (F : Nat → Prop) (k : Int) (h : IntsO w v zs F) (hk0 : 0 ≤ k) (hk : k + (zs.length : Int) ≤ 4611686018427387904) :
    Calls Try.prog 22 #[.agg #[.int .i64 c, v], .int .i64 k] w fun e w' => e = .returned (.int .i64 (k + (zs.length : Int))) ∧ IntsO w' v (marks k zs.length) F ∧ Chg F w w' := by
  have H : Hid (IntsO w v zs F) := h
  clear h
  go_enter Try.func22, Try.ntmps22
  go_wp2_with fail
  refine (markInts_any k (H.out.keep fun b _ hlt => (later1 _ _).block b hlt) hk0 hk).mono ?_
  rintro e w1 ⟨rfl, hm, hc⟩
  have HM : Hid (IntsO w1 v (marks k zs.length) F) := hm
  have HC : Hid (Chg F w w1) := (Chg.of_below (later1 _ _)).trans hc
  clear hm hc
  go_wp2
  go_ret
  exact ⟨rfl, HM.out, HC.out⟩

theorem heldIntsResult_any (w : World) (c : Int) (v : Value) (n : Nat) (k : Int) (h : Ints w v (marks k n)) (hk0 : 0 ≤ k) (hk : k + (n : Int) ≤ 4611686018427387904) :
    Calls Try.prog 23 #[.agg #[.int .i64 c, v], .int .i64 k] w fun e w' => e = .returned (.int .i64 (k + (n : Int))) ∧ Below w.heap.size w w' := by
  have H : Hid (Ints w v (marks k n)) := h
  clear h
  have l2 : ¬ (k + (n : Int) < 0) := by omega
  go_enter Try.func23, Try.ntmps23
  go_wp2_with fail
  refine (heldInts_any k n (H.out.later (later1 _ _)) hk0 hk).mono ?_
  rintro e w1 ⟨rfl, rfl⟩
  go_wp2
  go_ret
  exact ⟨rfl, later1 _ _⟩

theorem Box2.chg {w w' : World} {b : Nat} {x y : Value} {F : Nat → Prop} (h : Box2 w b x y) (hc : Chg F w w') (hf : ¬ F b) : Box2 w' b x y := ⟨(hc.cell h.lt hf).trans h.1, (hc.cell h.lt hf).trans h.2⟩
theorem IntsO.later {w w' : World} {v : Value} {zs : List Int} {F : Nat → Prop} (h : IntsO w v zs F) (hb : Below w.heap.size w w') : IntsO w' v zs F := h.keep fun b _ hlt => hb.block b hlt
theorem IntsO.chg {w w' : World} {v : Value} {zs : List Int} {F G : Nat → Prop} (h : IntsO w v zs F) (hc : Chg G w w') (hd : ∀ b, F b → ¬ G b) : IntsO w' v zs F := h.keep fun b hb hlt => hc.block b hlt (hd b hb)
end Go.Proofs.Ytcmkfapgpolglaj
