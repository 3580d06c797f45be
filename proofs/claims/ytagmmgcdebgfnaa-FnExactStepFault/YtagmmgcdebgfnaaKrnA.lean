
/- Kerns: how they read, what they own, and the walks of the laws' functions over them. -/
import Derived.Test.YtagmmgcdebgfnaaExtB
import Derived.Test.YtagmmgcdebgfnaaUni
namespace Go.Proofs.Ytagmmgcdebgfnaa
open Go.RowKit
set_option maxRecDepth 100000

abbrev KD := DK × List E3
def KernR (w : World) (vB vC vE : Value) (d : KD) : Prop := DiskR w vB vC d.1 ∧ Exts w vE d.2
theorem KernR.later {w w' : World} {vB vC vE : Value} {d : KD} (h : KernR w vB vC vE d) (hb : Below w.heap.size w w') : KernR w' vB vC vE d := ⟨h.1.later hb, h.2.later hb⟩
def KernU (w : World) (vB vC vE : Value) (d : KD) (F : Nat → Prop) : Prop := ∃ F1 G1 : Nat → Prop, DiskU w vB vC d.1 F1 ∧ ExtsO w vE d.2 G1 ∧ (∀ b, F1 b → ¬ G1 b) ∧ ∀ b, F1 b ∨ G1 b → F b
theorem DiskU.keep {w w' : World} {vB vC : Value} {d : DK} {F : Nat → Prop} (h : DiskU w vB vC d F) (e : ∀ b, F b → b < w.heap.size → w'.heap[b]? = w.heap[b]?) : DiskU w' vB vC d F := DiskO.keep h e
theorem KernU.reads {w : World} {vB vC vE : Value} {d : KD} {F : Nat → Prop} (h : KernU w vB vC vE d F) : KernR w vB vC vE d := by
  obtain ⟨_, _, h1, h2, _⟩ := h
  exact ⟨h1.reads, h2.reads⟩
theorem KernU.keep {w w' : World} {vB vC vE : Value} {d : KD} {F : Nat → Prop} (h : KernU w vB vC vE d F) (e : ∀ b, F b → b < w.heap.size → w'.heap[b]? = w.heap[b]?) : KernU w' vB vC vE d F := by
  obtain ⟨F1, G1, h1, h2, hd, hf⟩ := h
  exact ⟨F1, G1, h1.keep fun b hb => e b (hf b (Or.inl hb)), h2.keep fun b hb => e b (hf b (Or.inr hb)), hd, hf⟩
theorem KernU.later {w w' : World} {vB vC vE : Value} {d : KD} {F : Nat → Prop} (h : KernU w vB vC vE d F) (hb : Below w.heap.size w w') : KernU w' vB vC vE d F := h.keep fun b _ hlt => hb.block b hlt
theorem KernU.mono {w : World} {vB vC vE : Value} {d : KD} {F G : Nat → Prop} (h : KernU w vB vC vE d F) (e : ∀ b, F b → G b) : KernU w vB vC vE d G := by
  obtain ⟨F1, G1, h1, h2, hd, hf⟩ := h
  exact ⟨F1, G1, h1, h2, hd, fun b hb => e b (hf b hb)⟩
theorem KernU.chg {w w' : World} {vB vC vE : Value} {d : KD} {F G : Nat → Prop} (h : KernU w vB vC vE d F) (hc : Chg G w w') (hd : ∀ b, F b → ¬ G b) : KernU w' vB vC vE d F := h.keep fun b hb hlt => hc.block b hlt (hd b hb)
theorem DiskU.bound {w : World} {vB vC : Value} {d : DK} {F : Nat → Prop} (h : DiskU w vB vC d F) : DiskU w vB vC d (fun b => F b ∧ b < w.heap.size) := DiskO.bound h
theorem KernU.bound {w : World} {vB vC vE : Value} {d : KD} {F : Nat → Prop} (h : KernU w vB vC vE d F) : KernU w vB vC vE d (fun b => F b ∧ b < w.heap.size) := by
  obtain ⟨F1, G1, h1, h2, hd, hf⟩ := h
  exact ⟨_, _, h1.bound, h2.bound, fun b hb hb' => hd b hb.1 hb'.1, fun b hb => hb.elim (fun h => ⟨hf b (Or.inl h.1), h.2⟩) (fun h => ⟨hf b (Or.inr h.1), h.2⟩)⟩
def sizeKern (d : KD) : Nat := sizeDisk d.1 + d.2.length

theorem OwnRow.new3 (w : World) (x y z : Value) (t : TypeId) : OwnRow (w.alloc (.cells #[x, y, z] t)) w.heap.size 3 (fun i => if i = 0 then x else if i = 1 then y else z) := by
  refine ⟨_, t, Go.Deep.blk_alloc_new _ _, by simp, fun i hi => ?_⟩
  have : i = 0 ∨ i = 1 ∨ i = 2 := by omega
  rcases this with rfl | rfl | rfl <;> simp

def spanKern (d : KD) : Nat := spanDisk d.1 + 3 * d.2.length
theorem spanKern_le (d : KD) : spanKern d ≤ 3 * sizeKern d := by have := spanDisk_le d.1; unfold spanKern sizeKern; omega
def mkKern (k : Int) (d : KD) : KD := (mkDisk k d.1, marksE (k + (spanDisk d.1 : Nat)) d.2.length)
theorem markDskU (w : World) (vB vC : Value) (d : DK) (F : Nat → Prop) (k : Int) (h : DiskU w vB vC d F) (hk0 : 0 ≤ k) (hk : k + (spanDisk d : Nat) ≤ 4611686018427387904) :
    Calls Try.prog 28 #[.agg #[vB, vC], .int .i64 k] w fun e w' => e = .returned (.int .i64 (k + (spanDisk d : Nat))) ∧ DiskU w' vB vC (mkDisk k d) F ∧ Chg F w w' := by
  obtain ⟨F1, G1, h1, h2, hd, hf⟩ := h
  exact (markDisk_any w vB vC d.1 d.2 F1 G1 k h1 h2 hd hk0 hk).mono fun e w' ⟨he, i1, i2, hc⟩ => ⟨he, ⟨F1, G1, i1, i2, hd, hf⟩, hc.mono hf⟩

theorem mkDisk_len1 (k : Int) (d : DK) : (mkDisk k d).1.length = d.1.length := by simp [mkDisk, marksS_length]
theorem mkDisk_len2 (k : Int) (d : DK) : (mkDisk k d).2.length = d.2.length := by simp [mkDisk, marksP_length, wlens]

end Go.Proofs.Ytagmmgcdebgfnaa
