
/- How an answer with a kern is put together; the walks of NewKern, both. -/
import Derived.Test.YtojegkekafampaiKrnB
import Derived.Test.YtojegkekafampaiOwnA
import Derived.Test.YtojegkekafampaiNewD
namespace Go.Proofs.Ytojegkekafampai
open Go.RowKit
set_option maxRecDepth 100000

theorem KResU.of {w : World} {vW vB vC vE : Value} {ws : List Int} {d : DK} {es : List E3} {F1 F2 F3 F : Nat → Prop} (h1 : IntsO w vW ws F1) (h2 : DiskU w vB vC d F2) (h3 : ExtsO w vE es F3) (d12 : ∀ b, F1 b → ¬ F2 b) (d13 : ∀ b, F1 b → ¬ F3 b) (d23 : ∀ b, F2 b → ¬ F3 b) (hf : ∀ b, F1 b ∨ F2 b ∨ F3 b → F b) : KResU w vW vB vC vE (ws, d, es) F :=
  ⟨F1, fun b => F2 b ∨ F3 b, h1, ⟨F2, F3, h2, h3, d23, fun _ h => h⟩, fun b h h' => h'.elim (d12 b h) (d13 b h), hf⟩
theorem set5 {w : World} {β b : Nat} (v0 v1 v2 v3 v4 : Value) (hb : b ≠ β) : (((((w.setCell ⟨β, 0, none⟩ v0).setCell ⟨β, 1, none⟩ v1).setCell ⟨β, 2, none⟩ v2).setCell ⟨β, 3, none⟩ v3).setCell ⟨β, 4, none⟩ v4).heap[b]? = w.heap[b]? := by
  rw [Below.heap_setCell _ _ _ _ hb, Below.heap_setCell _ _ _ _ hb, Below.heap_setCell _ _ _ _ hb, Below.heap_setCell _ _ _ _ hb, Below.heap_setCell _ _ _ _ hb]
theorem ansK_ret {w W : World} {β : Nat} {code : Int} {aW : Option Addr} {nW cW : Nat} {aB : Option Addr} {nB cB : Nat} {aC : Option Addr} {nC cC : Nat} {aE : Option Addr} {nE cE : Nat} {d : KResD} {F : Nat → Prop} (hb : Below w.heap.size w W) (hβ : w.heap.size ≤ β) (h : KResU W (.slice aW nW cW) (.slice aB nB cB) (.slice aC nC cC) (.slice aE nE cE) d F) (hF : ∀ b, F b → w.heap.size ≤ b ∧ b < W.heap.size ∧ b ≠ β) :
    AnsKR w (code, d) (.returned (.agg #[.int .i64 code, .slice aW nW cW, .slice aB nB cB, .slice aC nC cC, .slice aE nE cE])) (((((W.setCell ⟨β, 0, none⟩ (.int .i64 code)).setCell ⟨β, 1, none⟩ (.slice aW nW cW)).setCell ⟨β, 2, none⟩ (.slice aB nB cB)).setCell ⟨β, 3, none⟩ (.slice aC nC cC)).setCell ⟨β, 4, none⟩ (.slice aE nE cE)) :=
  ⟨_, _, _, _, _, _, _, _, _, _, _, _, rfl, ((((hb.setCell hβ _).setCell hβ _).setCell hβ _).setCell hβ _).setCell hβ _, (h.keep fun b hf _ => set5 _ _ _ _ _ (hF b hf).2.2).mono fun b hf => ⟨(hF b hf).1, by simpa [World.setCell] using (hF b hf).2.1⟩⟩
theorem ansK_no {w W : World} {β : Nat} (hb : Below w.heap.size w W) (hβ : w.heap.size ≤ β) (code : Int) :
    AnsKR w (code, [], ([], []), []) (.returned (.agg #[.int .i64 code, .slice none 0 0, .slice none 0 0, .slice none 0 0, .slice none 0 0])) (((((W.setCell ⟨β, 0, none⟩ (.int .i64 code)).setCell ⟨β, 1, none⟩ (.slice none 0 0)).setCell ⟨β, 2, none⟩ (.slice none 0 0)).setCell ⟨β, 3, none⟩ (.slice none 0 0)).setCell ⟨β, 4, none⟩ (.slice none 0 0)) :=
  ansK_bad (((((hb.setCell hβ _).setCell hβ _).setCell hβ _).setCell hβ _).setCell hβ _) code

theorem AnsKR.later {w W W' : World} {r : Int × KResD} {e : Ending} (h : AnsKR w r e W) (hb : Below W.heap.size W W') : AnsKR w r e W' := by
  obtain ⟨aW, nW, cW, aB, nB, cB, aC, nC, cC, aE, nE, cE, h1, h2, h3⟩ := h
  exact ⟨aW, nW, cW, aB, nB, cB, aC, nC, cC, aE, nE, cE, h1, h2.trans (hb.mono h2.size), (h3.later hb).mono fun b hf => ⟨hf.1, Nat.lt_of_lt_of_le hf.2 hb.size⟩⟩

theorem l2Bad_any (w : World) (c : Int) : Calls Try.prog 38 #[.int .i64 c] w fun e w' => e = .returned (.agg #[.int .i64 c, .slice none 0 0, .slice none 0 0, .slice none 0 0, .slice none 0 0]) ∧ Below w.heap.size w w' := by
  go_enter Try.func38, Try.ntmps38
  go_wp2
  exact bodyPost_ret (v := .agg #[.int .i64 c, .slice none 0 0, .slice none 0 0, .slice none 0 0, .slice none 0 0]) (by simp [results, Try.results38, go_sem]) rfl ⟨rfl, later1 _ _⟩

def newK (size : Int) : Int × KResD := (newCode size, [], (newBlocks size, []), [])
/-- The cells of an empty answer. -/
def zero5 : List Value := [.int .i64 0, .slice none 0 0, .slice none 0 0, .slice none 0 0, .slice none 0 0]

theorem newSpan (size : Int) : spanKRes (newK size).2 = 0 := by
  simp only [newK, spanKRes, spanKern, spanDisk, dspan, newBlocks]
  split <;> simp [wlens]
end Go.Proofs.Ytojegkekafampai
