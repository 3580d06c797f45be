
/- Lists of bits: how they read, and the walks of the laws' functions over them. -/
import Derived.Test.YtagmmgcdebgfnaaUni
import Derived.Test.YtagmmgcdebgfnaaFluB
namespace Go.Proofs.Ytagmmgcdebgfnaa
open Go.RowKit
set_option maxRecDepth 100000

def Bools (w : World) (v : Value) (zs : List Bool) : Prop :=
  (zs = [] ∧ ∃ a cap, v = .slice a 0 cap) ∨
  (∃ b off cap, v = .slice (some ⟨b, off, none⟩) zs.length cap ∧ zs.length ≤ maxLen ∧ ∀ k, k < zs.length → w.cell? ⟨b, off + k, none⟩ = some (.bool (zs[k]?.getD false)))
theorem Bools.later {w wx : World} {v : Value} {zs : List Bool} (h : Bools w v zs) (hb : Below w.heap.size w wx) : Bools wx v zs := by
  rcases h with h | ⟨b, off, cap, h1, h2, h3⟩
  · exact Or.inl h
  · exact Or.inr ⟨b, off, cap, h1, h2, fun k hk => cell_later hb (h3 k hk)⟩
theorem Bools.open' {w : World} {v : Value} {zs : List Bool} (h : Bools w v zs) : ∃ a cap, v = .slice a zs.length cap ∧ zs.length ≤ maxLen ∧ AtBs w a zs.length zs := by
  rcases h with ⟨rfl, a, cap, rfl⟩ | ⟨b, off, cap, rfl, hl, hc⟩
  · exact ⟨a, cap, rfl, by simp, fun k hk => by simp at hk⟩
  · exact ⟨_, cap, rfl, hl, fun k hk => ⟨b, off, rfl, hc k hk⟩⟩
/-- .. in one block of F. -/
def BoolsO (w : World) (v : Value) (zs : List Bool) (F : Nat → Prop) : Prop :=
  (zs = [] ∧ ∃ a cap, v = .slice a 0 cap) ∨
  (∃ b cap, F b ∧ v = .slice (some ⟨b, 0, none⟩) zs.length cap ∧ zs.length ≤ maxLen ∧ OwnRow w b zs.length (fun i => .bool (zs[i]?.getD false)))
theorem BoolsO.reads {w : World} {v : Value} {zs : List Bool} {F : Nat → Prop} (h : BoolsO w v zs F) : Bools w v zs := by
  rcases h with h | ⟨b, cap, _, h1, h2, h3⟩
  · exact Or.inl h
  · exact Or.inr ⟨b, 0, cap, h1, h2, fun k hk => by rw [Nat.zero_add]; exact h3.cell hk⟩
theorem BoolsO.keep {w w' : World} {v : Value} {zs : List Bool} {F : Nat → Prop} (h : BoolsO w v zs F) (e : ∀ b, F b → b < w.heap.size → w'.heap[b]? = w.heap[b]?) : BoolsO w' v zs F := by
  rcases h with h | ⟨b, cap, hF, h1, h2, h3⟩
  · exact Or.inl h
  · exact Or.inr ⟨b, cap, hF, h1, h2, h3.block (e b hF h3.lt)⟩
theorem BoolsO.mono {w : World} {v : Value} {zs : List Bool} {F G : Nat → Prop} (h : BoolsO w v zs F) (e : ∀ b, F b → G b) : BoolsO w v zs G := by
  rcases h with h | ⟨b, cap, hF, h1⟩
  · exact Or.inl h
  · exact Or.inr ⟨b, cap, e b hF, h1⟩
theorem BoolsO.later {w w' : World} {v : Value} {zs : List Bool} {F : Nat → Prop} (h : BoolsO w v zs F) (hb : Below w.heap.size w w') : BoolsO w' v zs F := h.keep fun b _ hlt => hb.block b hlt
theorem BoolsO.chg {w w' : World} {v : Value} {zs : List Bool} {F G : Nat → Prop} (h : BoolsO w v zs F) (hc : Chg G w w') (hd : ∀ b, F b → ¬ G b) : BoolsO w' v zs F := h.keep fun b hb hlt => hc.block b hlt (hd b hb)

theorem row_bool {w : World} {b n : Nat} {f : Nat → Bool} (h : OwnRow w b n (fun i => .bool (f i))) (j : Nat) (x : Bool) : ∃ g : Nat → Bool, OwnRow (w.setCell ⟨b, j, none⟩ (.bool x)) b n (fun i => .bool (g i)) :=
  ⟨fun i => if i = j then x else f i, (h.set j _).congr fun i _ => by by_cases e : i = j <;> simp [e]⟩

end Go.Proofs.Ytagmmgcdebgfnaa
