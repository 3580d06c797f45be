
/- PackInode, and answers that are words, in the one form of the laws. -/
import Derived.Test.YtcmkfapgpolglajPkD
namespace Go.Proofs.Ytcmkfapgpolglaj
open Go.RowKit
set_option maxRecDepth 100000

theorem implPackU (w : World) (z0 z1 z2 : Int) (aB : Option Addr) (nB cB : Nat) (aE : Option Addr) (nE cE : Nat) (d : ID) (h : InoR w (.int .i64 z0) (.int .i64 z1) (.int .i64 z2) (.slice aB nB cB) (.slice aE nE cE) d) (hs : sizeIno d ≤ 1048576) :
    Calls Try.prog 19 #[.agg #[.int .i64 z0, .int .i64 z1, .int .i64 z2, .slice aB nB cB, .slice aE nE cE]] w (AnsIR w (packR d)) := by
  by_cases hf : inoF d = 0
  · have hpr : packR d = (0, packL d) := by unfold packR; rw [if_pos hf]
    rw [hpr]
    have h' := h
    obtain ⟨⟨h0, h1, h2, _⟩, hi, he⟩ := h
    simp only [Value.int.injEq, true_and] at h0 h1 h2
    obtain ⟨_, _, e1, hm1, hc1⟩ := hi.open'
    obtain ⟨_, _, e2, hm2, hz2, hc2⟩ := he.open'
    simp only [Value.slice.injEq] at e1 e2
    obtain ⟨rfl, rfl, rfl⟩ := e1
    obtain ⟨rfl, rfl, rfl⟩ := e2
    subst h0 h1 h2
    have hn1 : d.2.2.2.1.length ≤ 1048576 := by unfold sizeIno at hs; omega
    have hn2 : d.2.2.2.2.length ≤ 1048576 := by unfold sizeIno sizeN at hs; omega
    have hn3 : (entsW d.2.2.2.2).length ≤ 4194304 := by have := entsW_len d.2.2.2.2; unfold sizeIno at hs; omega
    by_cases hk : d.1 = 2
    · have hb : d.2.2.2.1 = [] := by
        unfold inoF at hf
        rw [if_neg (by omega), if_neg (by omega), if_pos hk] at hf
        by_cases hfp : fpB d = true
        · rw [if_pos hfp] at hf; simp at hf
        · unfold fpB at hfp
          simp at hfp
          exact hfp.2
      have hpk : [2, d.2.1, d.2.2.1] ++ [(d.2.2.2.2.length : Int)] ++ entsW d.2.2.2.2 = packL d := by unfold packL; rw [if_pos hk, hb, hk]; simp
      rw [hk] at h' ⊢
      exact implPack_dir w d.2.1 d.2.2.1 _ _ _ _ _ _ d h' hs hf d.2.2.2.2 rfl hn2 hn3 hc2 _ (packL d) rfl hpk
    · have hpk : [d.1, d.2.1, d.2.2.1] ++ d.2.2.2.1 = packL d := by unfold packL; rw [if_neg hk]; simp
      exact implPack_flat w d.1 d.2.1 d.2.2.1 _ _ _ _ _ _ d h' hs hf d.2.2.2.1 hn1 rfl hc1 hk (packL d) hpk
  · have hpr : packR d = (inoF d, []) := by unfold packR; rw [if_neg hf]
    rw [hpr]
    exact implPack_bad w z0 z1 z2 aB nB cB aE nE cE d h hs hf

theorem eqIntsResultU (w : World) (c : Int) (va vb : Value) (zs : List Int) (h1 : Ints w va zs) (h2 : Ints w vb zs) :
    Calls Try.prog 20 #[.agg #[.int .i64 c, va], .agg #[.int .i64 c, vb]] w fun e w' => e = .returned (.bool true) ∧ Below w.heap.size w w' := eqIntsResult_true w c va vb zs h1 h2
def mkInts (k : Int) (zs : List Int) : List Int := marks k zs.length
theorem markIntsResultU (w : World) (c : Int) (v : Value) (zs : List Int) (F : Nat → Prop) (k : Int) (h : IntsO w v zs F) (hk0 : 0 ≤ k) (hk : k + (List.length zs : Nat) ≤ 4611686018427387904) :
    Calls Try.prog 22 #[.agg #[.int .i64 c, v], .int .i64 k] w fun e w' => e = .returned (.int .i64 (k + (List.length zs : Nat))) ∧ IntsO w' v (mkInts k zs) F ∧ Chg F w w' := markIntsResult_any w c v zs F k h hk0 hk
theorem heldIntsResultU (w : World) (c : Int) (v : Value) (zs : List Int) (F : Nat → Prop) (k : Int) (h : IntsO w v (mkInts k zs) F) (hk0 : 0 ≤ k) (hk : k + (List.length zs : Nat) ≤ 4611686018427387904) :
    Calls Try.prog 23 #[.agg #[.int .i64 c, v], .int .i64 k] w fun e w' => e = .returned (.int .i64 (k + (List.length zs : Nat))) ∧ Below w.heap.size w w' := heldIntsResult_any w c v zs.length k h.reads hk0 hk
end Go.Proofs.Ytcmkfapgpolglaj
