/- Lists of extents: how they read, what they own. No program is named here. The walks of the laws' functions over lists of extents. Kerns: how they read, what they own, and the walks of the laws' functions over them. Answers with a kern: how they read, what they own, and the walks of the laws' functions over them. From the reading of an argument to the lists that it holds. No program is named here. What the rows of this seat share: how a disk that came in is opened. A list of a row of lists is put in the place of another: what the row is behind it. What a flush or a crash keeps. No program is named here. Rows that grow by append, each element with a list of its own. The walks of the functions that copy a list of integers: the specification's by append, the program's by copy. The walks of NewDisk, the program's and the specification's. The walks of the program's rack: lists that are set one by one. -/
import Derived.Test.YtagmmgcdebgfnaaM01
import Derived.Test.YtagmmgcdebgfnaaRows
import Derived.Deep.RegionWith
import Derived.Deep.RegionHeld3
import Derived.Test.YtagmmgcdebgfnaaM02
import Derived.Test.YtagmmgcdebgfnaaM00
import Derived.ProofKit
import Derived.Deep.Slices
import Derived.Deep.SlicePairs
import Derived.Lib.SmallJoins
import Derived.Test.YtagmmgcdebgfnaaM03
import Derived.Deep.AppendLies
import Derived.Laws.CopyOwn
import Derived.Deep.RegionLaw
namespace Go.Proofs.Ytagmmgcdebgfnaa
open Go.RowKit
set_option maxRecDepth 100000

abbrev E3 := Int × Int × Int
/-- The cells of a row of extents. -/
def exCell (es : List E3) (j : Nat) : Value := .int .i64 (if j % 3 = 0 then (es[j / 3]?.getD (0, 0, 0)).1 else if j % 3 = 1 then (es[j / 3]?.getD (0, 0, 0)).2.1 else (es[j / 3]?.getD (0, 0, 0)).2.2)
theorem exCell_0 (es : List E3) (k : Nat) : exCell es (k * 3) = .int .i64 (es[k]?.getD (0, 0, 0)).1 := by
  unfold exCell; rw [if_pos (by omega), show k * 3 / 3 = k by omega]
theorem exCell_1 (es : List E3) (k : Nat) : exCell es (k * 3 + 1) = .int .i64 (es[k]?.getD (0, 0, 0)).2.1 := by
  unfold exCell; rw [if_neg (by omega), if_pos (by omega), show (k * 3 + 1) / 3 = k by omega]
theorem exCell_2 (es : List E3) (k : Nat) : exCell es (k * 3 + 2) = .int .i64 (es[k]?.getD (0, 0, 0)).2.2 := by
  unfold exCell; rw [if_neg (by omega), if_neg (by omega), show (k * 3 + 2) / 3 = k by omega]

/-- Where the extents of a list lie. -/
def AtE (w : World) (a : Option Addr) (n : Nat) (es : List E3) : Prop :=
  ∀ k, k < n → ∃ b off, a = some ⟨b, off, none⟩ ∧ w.cell? ⟨b, off + k * 3, none⟩ = some (.int .i64 (es[k]?.getD (0, 0, 0)).1) ∧ w.cell? ⟨b, off + k * 3 + 1, none⟩ = some (.int .i64 (es[k]?.getD (0, 0, 0)).2.1) ∧ w.cell? ⟨b, off + k * 3 + 2, none⟩ = some (.int .i64 (es[k]?.getD (0, 0, 0)).2.2)
theorem AtE.later {w w' : World} {a : Option Addr} {n : Nat} {es : List E3} (h : AtE w a n es) (hb : Below w.heap.size w w') : AtE w' a n es := fun k hk => by
  obtain ⟨b, off, e, c0, c1, c2⟩ := h k hk
  exact ⟨b, off, e, cell_later hb c0, cell_later hb c1, cell_later hb c2⟩
/-- The slice v reads as the extents es. -/
def Exts (w : World) (v : Value) (es : List E3) : Prop := ∃ a cap, v = .slice a es.length cap ∧ (es.length ≤ maxLen ∧ es.length ≤ cap) ∧ AtE w a es.length es
theorem Exts.later {w w' : World} {v : Value} {es : List E3} (h : Exts w v es) (hb : Below w.heap.size w w') : Exts w' v es := by
  obtain ⟨a, cap, h1, h2, h3⟩ := h
  exact ⟨a, cap, h1, h2, h3.later hb⟩
theorem Exts.open' {w : World} {v : Value} {es : List E3} (h : Exts w v es) : ∃ a cap, v = .slice a es.length cap ∧ es.length ≤ maxLen ∧ AtE w a es.length es := by
  obtain ⟨a, cap, h1, h2, h3⟩ := h
  exact ⟨a, cap, h1, h2.1, h3⟩
theorem Exts.cap {w : World} {a : Option Addr} {n c : Nat} {es : List E3} (h : Exts w (.slice a n c) es) : es.length ≤ c := by
  obtain ⟨a', c', h1, h2, _⟩ := h
  simp only [Value.slice.injEq] at h1
  rw [h1.2.2]
  exact h2.2
theorem Exts.nil (w : World) (a : Option Addr) (cap : Nat) : Exts w (.slice a 0 cap) [] := ⟨a, cap, rfl, by simp, fun k hk => by simp at hk⟩

/-- The slice v holds the extents es, in one block of F. -/
def ExtsO (w : World) (v : Value) (es : List E3) (F : Nat → Prop) : Prop :=
  (es = [] ∧ ∃ a cap, v = .slice a 0 cap) ∨
  (∃ b cap, F b ∧ v = .slice (some ⟨b, 0, none⟩) es.length cap ∧ (es.length ≤ maxLen ∧ es.length ≤ cap) ∧ OwnRow w b (es.length * 3) (exCell es))
theorem OwnRow.atE {w : World} {b n : Nat} {es : List E3} (h : OwnRow w b (n * 3) (exCell es)) : AtE w (some ⟨b, 0, none⟩) n es := fun k hk =>
  ⟨b, 0, rfl, by rw [Nat.zero_add, h.cell (by omega), exCell_0], by rw [Nat.zero_add, h.cell (by omega), exCell_1], by rw [Nat.zero_add, h.cell (by omega), exCell_2]⟩
theorem ExtsO.reads {w : World} {v : Value} {es : List E3} {F : Nat → Prop} (h : ExtsO w v es F) : Exts w v es := by
  rcases h with ⟨rfl, a, cap, rfl⟩ | ⟨b, cap, _, h1, h2, h3⟩
  · exact Exts.nil w a cap
  · exact ⟨_, cap, h1, h2, h3.atE⟩
theorem ExtsO.keep {w w' : World} {v : Value} {es : List E3} {F : Nat → Prop} (h : ExtsO w v es F) (e : ∀ b, F b → b < w.heap.size → w'.heap[b]? = w.heap[b]?) : ExtsO w' v es F := by
  rcases h with h | ⟨b, cap, hF, h1, h2, h3⟩
  · exact Or.inl h
  · exact Or.inr ⟨b, cap, hF, h1, h2, h3.block (e b hF h3.lt)⟩
theorem ExtsO.mono {w : World} {v : Value} {es : List E3} {F G : Nat → Prop} (h : ExtsO w v es F) (e : ∀ b, F b → G b) : ExtsO w v es G := by
  rcases h with h | ⟨b, cap, hF, h1⟩
  · exact Or.inl h
  · exact Or.inr ⟨b, cap, e b hF, h1⟩
theorem ExtsO.bound {w : World} {v : Value} {es : List E3} {F : Nat → Prop} (h : ExtsO w v es F) : ExtsO w v es (fun b => F b ∧ b < w.heap.size) := by
  rcases h with h | ⟨b, cap, hF, h1, h2, h3⟩
  · exact Or.inl h
  · exact Or.inr ⟨b, cap, ⟨hF, h3.lt⟩, h1, h2, h3⟩
theorem ExtsO.later {w w' : World} {v : Value} {es : List E3} {F : Nat → Prop} (h : ExtsO w v es F) (hb : Below w.heap.size w w') : ExtsO w' v es F := h.keep fun b _ hlt => hb.block b hlt
theorem ExtsO.store {w : World} {v : Value} {es : List E3} {F : Nat → Prop} (h : ExtsO w v es F) {p : Addr} (hp : ∀ b, F b → b ≠ p.block) (x : Value) : ExtsO (w.setCell p x) v es F := h.keep fun b hb _ => Below.heap_setCell _ _ _ _ (hp b hb)

/-- The marks of n extents, from k on. -/
def marksE (k : Int) (n : Nat) : List E3 := (List.range n).map fun i : Nat => (k + 3 * (i : Int), k + 3 * (i : Int) + 1, k + 3 * (i : Int) + 2)
theorem marksE_length (k : Int) (n : Nat) : (marksE k n).length = n := by simp [marksE]
theorem marksE_get (k : Int) {n i : Nat} (h : i < n) : (marksE k n)[i]?.getD (0, 0, 0) = (k + 3 * (i : Int), k + 3 * (i : Int) + 1, k + 3 * (i : Int) + 2) := by simp [marksE, h]
theorem exCell_marks (k : Int) {n c : Nat} (h : c < n * 3) : exCell (marksE k n) c = .int .i64 (k + (c : Int)) := by
  have h3 : c / 3 < n := by omega
  unfold exCell
  rw [marksE_get k h3]
  congr 1
  have : c % 3 = 0 ∨ c % 3 = 1 ∨ c % 3 = 2 := by omega
  rcases this with e | e | e
  · rw [if_pos e]; omega
  · rw [if_neg (by omega), if_pos e]; show k + 3 * ((c / 3 : Nat) : Int) + 1 = k + (c : Int); omega
  · rw [if_neg (by omega), if_neg (by omega)]; show k + 3 * ((c / 3 : Nat) : Int) + 2 = k + (c : Int); omega

/-- 'make' of n triples. -/
theorem run_make_trip {P : Program} (t e : TypeId) (x y z : Value) (bytes : Nat) (ht : P.underlying t = some (.slice e)) (hinfo : (P.info? e).map (fun i => (i.zero, i.size, i.bytes)) = some (some (.agg #[x, y, z]), 3, bytes)) (hz : (Value.agg #[x, y, z]).cells = #[x, y, z])
    (kl kc : IntKind) (n : Nat) (hbytes : bytes * n ≤ 281474976710656) (h63 : n ≤ 9223372036854775807) (w : World) :
    (Instr.makeSlice t (.int kl (n : Int)) (.int kc (n : Int))).run P w = .ok (.slice (some ⟨w.heap.size, 0, none⟩) n n) (w.alloc (.cells (madeCells #[x, y, z] (n * 3)) e)) := by
  obtain ⟨i, hi, hzz⟩ := Option.map_eq_some_iff.1 hinfo
  simp only [Prod.mk.injEq] at hzz
  obtain ⟨h1, h2, h3⟩ := hzz
  have hb' : (i.bytes : Int) * (n : Int) ≤ 281474976710656 := by
    have h : ((i.bytes * n : Nat) : Int) ≤ 281474976710656 := by rw [h3]; omega
    rwa [Int.natCast_mul] at h
  have hr := run_make (P := P) w t e i _ ht hi h1 kl kc n n (by omega) (Int.le_refl _) hb' (by omega)
  simp only [Int.toNat_natCast, h2, hz] at hr
  exact hr
theorem OwnRow.madeTrip (w : World) (n : Nat) (t : TypeId) : OwnRow (w.alloc (.cells (madeCells #[.int .i64 0, .int .i64 0, .int .i64 0] (n * 3)) t)) w.heap.size (n * 3) (fun _ => .int .i64 0) := by
  refine ⟨_, t, Go.Deep.blk_alloc_new _ _, by rw [size_madeCells]; exact Nat.le_refl _, fun i hi => ?_⟩
  unfold madeCells
  rw [Array.getElem?_map]
  have h1 : (Array.range (n * 3))[i]? = some i := by simp [hi]
  rw [h1]
  have : i % 3 = 0 ∨ i % 3 = 1 ∨ i % 3 = 2 := by omega
  rcases this with e | e | e <;> simp [e]
/-- The cells of a row of extents of which the first j stand. -/
def partE (es : List E3) (j c : Nat) : Value := if c < j * 3 then exCell es c else .int .i64 0
theorem partE_next (es : List E3) (j c : Nat) : (if c = j * 3 + 2 then .int .i64 (es[j]?.getD (0, 0, 0)).2.2 else (if c = j * 3 + 1 then .int .i64 (es[j]?.getD (0, 0, 0)).2.1 else (if c = j * 3 then .int .i64 (es[j]?.getD (0, 0, 0)).1 else partE es j c))) = partE es (j + 1) c := by
  unfold partE
  by_cases e2 : c = j * 3 + 2
  · subst e2; rw [if_pos rfl, if_pos (by omega), exCell_2]
  · rw [if_neg e2]
    by_cases e1 : c = j * 3 + 1
    · subst e1; rw [if_pos rfl, if_pos (by omega), exCell_1]
    · rw [if_neg e1]
      by_cases e0 : c = j * 3
      · subst e0; rw [if_pos rfl, if_pos (by omega), exCell_0]
      · rw [if_neg e0]
        by_cases h : c < j * 3
        · rw [if_pos h, if_pos (by omega)]
        · rw [if_neg h, if_neg (by omega)]
end Go.Proofs.Ytagmmgcdebgfnaa

namespace Go.Proofs.Ytagmmgcdebgfnaa
open Go.RowKit
set_option maxRecDepth 100000

abbrev KD := DK × List E3
def KernR (w : World) (vB vC vE : Value) (d : KD) : Prop := DiskR w vB vC d.1 ∧ Exts w vE d.2
theorem KernR.later {w w' : World} {vB vC vE : Value} {d : KD} (h : KernR w vB vC vE d) (hb : Below w.heap.size w w') : KernR w' vB vC vE d := ⟨h.1.later hb, h.2.later hb⟩
def KernU (w : World) (vB vC vE : Value) (d : KD) (F : Nat → Prop) : Prop := ∃ F1 G1 : Nat → Prop, DiskU w vB vC d.1 F1 ∧ ExtsO w vE d.2 G1 ∧ (∀ b, F1 b → ¬ G1 b) ∧ ∀ b, F1 b ∨ G1 b → F b
theorem DiskU.keep {w w' : World} {vB vC : Value} {d : DK} {F : Nat → Prop} (h : DiskU w vB vC d F) (e : ∀ b, F b → b < w.heap.size → w'.heap[b]? = w.heap[b]?) : DiskU w' vB vC d F := DiskO.keep h e
theorem KernU.reads {w : World} {vB vC vE : Value} {d : KD} {F : Nat → Prop} (h : KernU w vB vC vE d F) : KernR w vB vC vE d := by
  obtain ⟨_, _, h1, h2, _⟩ := h
  exact ⟨h1.reads, h2.reads⟩
theorem KernU.keep {w w' : World} {vB vC vE : Value} {d : KD} {F : Nat → Prop} (h : KernU w vB vC vE d F) (e : ∀ b, F b → b < w.heap.size → w'.heap[b]? = w.heap[b]?) : KernU w' vB vC vE d F := by
  obtain ⟨F1, G1, h1, h2, hd, hf⟩ := h
  exact ⟨F1, G1, h1.keep fun b hb => e b (hf b (Or.inl hb)), h2.keep fun b hb => e b (hf b (Or.inr hb)), hd, hf⟩
theorem KernU.later {w w' : World} {vB vC vE : Value} {d : KD} {F : Nat → Prop} (h : KernU w vB vC vE d F) (hb : Below w.heap.size w w') : KernU w' vB vC vE d F := h.keep fun b _ hlt => hb.block b hlt
theorem KernU.mono {w : World} {vB vC vE : Value} {d : KD} {F G : Nat → Prop} (h : KernU w vB vC vE d F) (e : ∀ b, F b → G b) : KernU w vB vC vE d G := by
  obtain ⟨F1, G1, h1, h2, hd, hf⟩ := h
  exact ⟨F1, G1, h1, h2, hd, fun b hb => e b (hf b hb)⟩
theorem KernU.chg {w w' : World} {vB vC vE : Value} {d : KD} {F G : Nat → Prop} (h : KernU w vB vC vE d F) (hc : Chg G w w') (hd : ∀ b, F b → ¬ G b) : KernU w' vB vC vE d F := h.keep fun b hb hlt => hc.block b hlt (hd b hb)
theorem DiskU.bound {w : World} {vB vC : Value} {d : DK} {F : Nat → Prop} (h : DiskU w vB vC d F) : DiskU w vB vC d (fun b => F b ∧ b < w.heap.size) := DiskO.bound h
theorem KernU.bound {w : World} {vB vC vE : Value} {d : KD} {F : Nat → Prop} (h : KernU w vB vC vE d F) : KernU w vB vC vE d (fun b => F b ∧ b < w.heap.size) := by
  obtain ⟨F1, G1, h1, h2, hd, hf⟩ := h
  exact ⟨_, _, h1.bound, h2.bound, fun b hb hb' => hd b hb.1 hb'.1, fun b hb => hb.elim (fun h => ⟨hf b (Or.inl h.1), h.2⟩) (fun h => ⟨hf b (Or.inr h.1), h.2⟩)⟩
def sizeKern (d : KD) : Nat := sizeDisk d.1 + d.2.length

theorem OwnRow.new3 (w : World) (x y z : Value) (t : TypeId) : OwnRow (w.alloc (.cells #[x, y, z] t)) w.heap.size 3 (fun i => if i = 0 then x else if i = 1 then y else z) := by
  refine ⟨_, t, Go.Deep.blk_alloc_new _ _, by simp, fun i hi => ?_⟩
  have : i = 0 ∨ i = 1 ∨ i = 2 := by omega
  rcases this with rfl | rfl | rfl <;> simp

def spanKern (d : KD) : Nat := spanDisk d.1 + 3 * d.2.length
theorem spanKern_le (d : KD) : spanKern d ≤ 3 * sizeKern d := by have := spanDisk_le d.1; unfold spanKern sizeKern; omega
def mkKern (k : Int) (d : KD) : KD := (mkDisk k d.1, marksE (k + (spanDisk d.1 : Nat)) d.2.length)
theorem markDskU (w : World) (vB vC : Value) (d : DK) (F : Nat → Prop) (k : Int) (h : DiskU w vB vC d F) (hk0 : 0 ≤ k) (hk : k + (spanDisk d : Nat) ≤ 4611686018427387904) :
    Calls Try.prog 28 #[.agg #[vB, vC], .int .i64 k] w fun e w' => e = .returned (.int .i64 (k + (spanDisk d : Nat))) ∧ DiskU w' vB vC (mkDisk k d) F ∧ Chg F w w' := by
  obtain ⟨F1, G1, h1, h2, hd, hf⟩ := h
  exact (markDisk_any w vB vC d.1 d.2 F1 G1 k h1 h2 hd hk0 hk).mono fun e w' ⟨he, i1, i2, hc⟩ => ⟨he, ⟨F1, G1, i1, i2, hd, hf⟩, hc.mono hf⟩

theorem mkDisk_len1 (k : Int) (d : DK) : (mkDisk k d).1.length = d.1.length := by simp [mkDisk, marksS_length]
theorem mkDisk_len2 (k : Int) (d : DK) : (mkDisk k d).2.length = d.2.length := by simp [mkDisk, marksP_length, wlens]

end Go.Proofs.Ytagmmgcdebgfnaa

namespace Go.Proofs.Ytagmmgcdebgfnaa
open Go.RowKit
set_option maxRecDepth 100000

abbrev KResD := List Int × KD
def KResR (w : World) (vW vB vC vE : Value) (d : KResD) : Prop := Ints w vW d.1 ∧ KernR w vB vC vE d.2
theorem KResR.later {w w' : World} {vW vB vC vE : Value} {d : KResD} (h : KResR w vW vB vC vE d) (hb : Below w.heap.size w w') : KResR w' vW vB vC vE d := ⟨h.1.later hb, h.2.later hb⟩
def KResU (w : World) (vW vB vC vE : Value) (d : KResD) (F : Nat → Prop) : Prop := ∃ F1 G1 : Nat → Prop, IntsO w vW d.1 F1 ∧ KernU w vB vC vE d.2 G1 ∧ (∀ b, F1 b → ¬ G1 b) ∧ ∀ b, F1 b ∨ G1 b → F b
theorem KResU.reads {w : World} {vW vB vC vE : Value} {d : KResD} {F : Nat → Prop} (h : KResU w vW vB vC vE d F) : KResR w vW vB vC vE d := by
  obtain ⟨_, _, h1, h2, _⟩ := h
  exact ⟨h1.reads, h2.reads⟩
theorem KResU.keep {w w' : World} {vW vB vC vE : Value} {d : KResD} {F : Nat → Prop} (h : KResU w vW vB vC vE d F) (e : ∀ b, F b → b < w.heap.size → w'.heap[b]? = w.heap[b]?) : KResU w' vW vB vC vE d F := by
  obtain ⟨F1, G1, h1, h2, hd, hf⟩ := h
  exact ⟨F1, G1, h1.keep fun b hb => e b (hf b (Or.inl hb)), h2.keep fun b hb => e b (hf b (Or.inr hb)), hd, hf⟩
theorem KResU.later {w w' : World} {vW vB vC vE : Value} {d : KResD} {F : Nat → Prop} (h : KResU w vW vB vC vE d F) (hb : Below w.heap.size w w') : KResU w' vW vB vC vE d F := h.keep fun b _ hlt => hb.block b hlt
theorem KResU.mono {w : World} {vW vB vC vE : Value} {d : KResD} {F G : Nat → Prop} (h : KResU w vW vB vC vE d F) (e : ∀ b, F b → G b) : KResU w vW vB vC vE d G := by
  obtain ⟨F1, G1, h1, h2, hd, hf⟩ := h
  exact ⟨F1, G1, h1, h2, hd, fun b hb => e b (hf b hb)⟩
theorem KResU.chg {w w' : World} {vW vB vC vE : Value} {d : KResD} {F G : Nat → Prop} (h : KResU w vW vB vC vE d F) (hc : Chg G w w') (hd : ∀ b, F b → ¬ G b) : KResU w' vW vB vC vE d F := h.keep fun b hb hlt => hc.block b hlt (hd b hb)

/-- An answer: a code, words and a kern, in new memory of its own. -/
def AnsKR (w : World) (r : Int × KResD) (e : Ending) (w' : World) : Prop := ∃ aW nW cW aB nB cB aC nC cC aE nE cE, e = .returned (.agg #[.int .i64 r.1, .slice aW nW cW, .slice aB nB cB, .slice aC nC cC, .slice aE nE cE]) ∧ Below w.heap.size w w' ∧ KResU w' (.slice aW nW cW) (.slice aB nB cB) (.slice aC nC cC) (.slice aE nE cE) r.2 (fresh w w')
theorem ansK_bad {w w' : World} (hb : Below w.heap.size w w') (c : Int) : AnsKR w (c, [], ([], []), []) (.returned (.agg #[.int .i64 c, .slice none 0 0, .slice none 0 0, .slice none 0 0, .slice none 0 0])) w' :=
  ⟨none, 0, 0, none, 0, 0, none, 0, 0, none, 0, 0, rfl, hb, fun _ => False, fun _ => False, Or.inl ⟨rfl, none, 0, rfl⟩, ⟨fun _ => False, fun _ => False, ⟨fun _ => False, fun _ => False, Or.inl ⟨rfl, none, 0, rfl⟩, Or.inl ⟨rfl, none, 0, rfl⟩, fun _ h => h.elim, fun _ h => h.elim id id⟩, Or.inl ⟨rfl, none, 0, rfl⟩, fun _ h => h.elim, fun _ h => h.elim id id⟩, fun _ h => h.elim, fun _ h => h.elim False.elim False.elim⟩

theorem Bx.new5 (w : World) (a b c d e : Value) (t : TypeId) (i : Nat) (v : Value) (h : [a, b, c, d, e][i]? = some v) : (w.alloc (.cells #[a, b, c, d, e] t)).cell? ⟨w.heap.size, i, none⟩ = some v := Bx.new w [a, b, c, d, e] t i v h

def spanKRes (d : KResD) : Nat := d.1.length + spanKern d.2
def mkKRes (k : Int) (d : KResD) : KResD := (marks k d.1.length, mkKern (k + (d.1.length : Nat)) d.2)
theorem IntsO.bound' {w : World} {v : Value} {zs : List Int} {F : Nat → Prop} (h : IntsO w v zs F) : IntsO w v zs (fun b => F b ∧ b < w.heap.size) := by
  rcases h with h | ⟨b, cap, hF, h1, h2, h3⟩
  · exact Or.inl h
  · exact Or.inr ⟨b, cap, ⟨hF, h3.lt⟩, h1, h2, h3⟩

theorem eqIntResultU (w : World) (c v : Int) :
    Calls Try.prog 18 #[.agg #[.int .i64 c, .int .i64 v], .agg #[.int .i64 c, .int .i64 v]] w fun e w' => e = .returned (.bool true) ∧ Below w.heap.size w w' := by
  have h0 : (c != c) = false := by simp
  have h1 : (v != v) = false := by simp
  go_enter Try.func18, Try.ntmps18
  go_wp2
  go_ret
  exact ⟨rfl, later2 _ _ _⟩
end Go.Proofs.Ytagmmgcdebgfnaa

namespace Go.Proofs.Ytagmmgcdebgfnaa
open Go.ChangeShapes Go.WideShapes Go.ChangeAt Go.RowKit Go.Deep
set_option maxRecDepth 100000

section
variable {H : Type} {enc : TypeId × Value → H} {P : Program} {w : World} {base : Nat} {held : Bool}

theorem addr_of {a : Addr} {v : Value} (h : w.cell? (a.add 0) = some v) : a = ⟨a.block, a.off, none⟩ := by
  obtain ⟨b, o, s⟩ := a
  have : s = none := by simpa [Addr.add] using World.cell?_spot h
  subst this; rfl
theorem add_plain (b off k : Nat) : (⟨b, off, none⟩ : Addr).add k = ⟨b, off + k, none⟩ := by
  by_cases h : k = 0
  · subst h; simp [Addr.add]
  · simp [Addr.add, h]

theorem open_Ints {t e : TypeId} {fuel : Nat} {v : Value} {x : DataW H × List MemPlace} (ht : P.underlying t = some (.slice e)) (he : P.underlying e = some (.int .i64)) (ce : P.cellsOf e = 1) (h : DataW.trod enc P w base (fun _ => true) held fuel t [v] = some x) :
    ∃ zs, Ints w v zs := by
  rcases open_ints ht he ce h with ⟨hcs, _⟩ | ⟨a, len, cap, zs, hcs, _, hl, hm, hz, _, hcell, _⟩
  · simp only [List.cons.injEq, and_true] at hcs
    exact ⟨[], Or.inl ⟨rfl, none, 0, hcs⟩⟩
  · simp only [List.cons.injEq, and_true] at hcs
    simp only [if_true] at hz
    by_cases h0 : len = 0
    · subst h0; exact ⟨[], Or.inl ⟨rfl, some a, cap, hcs⟩⟩
    · have ha := addr_of (hcell 0 (by omega))
      refine ⟨zs.take len, Or.inr ⟨a.block, a.off, cap, ?_, ?_, fun k hk => ?_⟩⟩
      · rw [hcs, List.length_take, Nat.min_eq_left (by omega), ← ha]
      · rw [List.length_take]; omega
      · rw [List.length_take] at hk
        have h1 := hcell k (by omega)
        rw [ha, add_plain] at h1
        rw [h1, List.getElem?_take, if_pos (by omega)]
        rfl

theorem open_IntsS {t e q : TypeId} {fuel : Nat} {v : Value} {x : DataW H × List MemPlace} (ht : P.underlying t = some (.slice e)) (he : P.underlying e = some (.slice q)) (hq : P.underlying q = some (.int .i64)) (ce : P.cellsOf e = 1) (cq : P.cellsOf q = 1)
    (h : DataW.trod enc P w base (fun _ => true) held fuel t [v] = some x) : ∃ zss, IntsS w v zss := by
  rcases open_slice1 ht ce h with ⟨hcs, _⟩ | ⟨a, len, cap, m, n, V, D, Pl, hcs, _, hl, hm, hmm, _, hx⟩
  · simp only [List.cons.injEq, and_true] at hcs
    exact ⟨[], Or.inl ⟨rfl, none, 0, hcs⟩⟩
  · simp only [List.cons.injEq, and_true] at hcs
    simp only [if_true] at hmm
    by_cases h0 : len = 0
    · subst h0; exact ⟨[], Or.inl ⟨rfl, some a, cap, hcs⟩⟩
    · have ha := addr_of (hx 0 (by omega)).1
      obtain ⟨Z, hZ⟩ := choose_lt (α := List Int) (n := m) (p := fun i zs => Ints w (V i) zs) fun i hi => open_Ints he hq cq (hx i hi).2
      refine ⟨(List.range len).map Z, Or.inr ⟨a.block, a.off, cap, V, ?_, ?_, fun k hk => ?_⟩⟩
      · simp only [List.length_map, List.length_range]; rw [hcs, ← ha]
      · simp only [List.length_map, List.length_range]; omega
      · simp only [List.length_map, List.length_range] at hk
        have h1 := (hx k (by omega)).1
        rw [ha, add_plain] at h1
        refine ⟨h1, ?_⟩
        have := hZ k (by omega)
        simpa [hk] using this

theorem open_Puts {t e q : TypeId} {f0 f1 : Field} {fuel : Nat} {v : Value} {x : DataW H × List MemPlace} (ht : P.underlying t = some (.slice e)) (he : P.underlying e = some (.struct #[f0, f1]))
    (ce : P.cellsOf e = 2) (o0 : f0.offset = 0) (o1 : f1.offset = 1) (c0 : P.cellsOf f0.type = 1) (c1 : P.cellsOf f1.type = 1) (h0 : P.underlying f0.type = some (.int .i64)) (h1 : P.underlying f1.type = some (.slice q)) (hq : P.underlying q = some (.int .i64)) (cq : P.cellsOf q = 1)
    (h : DataW.trod enc P w base (fun _ => true) held fuel t [v] = some x) : ∃ ps, Puts w v ps := by
  rcases open_slice_pairs ht he ce o0 o1 c0 c1 h with ⟨hcs, _⟩ | ⟨a, len, cap, m, n, V0, V1, D0, D1, P0, P1, hcs, _, hl, hm, hmm, _, hx⟩
  · simp only [List.cons.injEq, and_true] at hcs
    exact ⟨[], Or.inl ⟨rfl, none, 0, hcs⟩⟩
  · simp only [List.cons.injEq, and_true] at hcs
    simp only [if_true] at hmm
    by_cases hl0 : len = 0
    · subst hl0; exact ⟨[], Or.inl ⟨rfl, some a, cap, hcs⟩⟩
    · have ha := addr_of (by simpa using (hx 0 (by omega)).1)
      obtain ⟨Z, hZ⟩ := choose_lt (α := Int × List Int) (n := m) (p := fun i z => V0 i = .int .i64 z.1 ∧ Ints w (V1 i) z.2) fun i hi => by
        obtain ⟨_, _, g0, g1⟩ := hx i hi
        obtain ⟨zs, hzs⟩ := open_Ints h1 hq cq g1
        obtain ⟨y, hy, _⟩ := DataW.trod_int h0 g0
        simp only [List.cons.injEq, and_true] at hy
        exact ⟨(y, zs), hy, hzs⟩
      refine ⟨(List.range len).map Z, Or.inr ⟨a.block, a.off, cap, V1, ?_, ?_, fun k hk => ?_⟩⟩
      · simp only [List.length_map, List.length_range]; rw [hcs, ← ha]
      · simp only [List.length_map, List.length_range]; omega
      · simp only [List.length_map, List.length_range] at hk
        obtain ⟨e0, e1, _, _⟩ := hx k (by omega)
        rw [ha, add_plain] at e0 e1
        obtain ⟨g0, g1⟩ := hZ k (by omega)
        rw [g0] at e0
        have hg : ((List.range len).map Z)[k]?.getD (0, []) = Z k := by simp [hk]
        rw [hg]
        exact ⟨e0, e1, g1⟩
end

end Go.Proofs.Ytagmmgcdebgfnaa

namespace Go.Proofs.Ytagmmgcdebgfnaa
open Go.ChangeShapes Go.WideShapes Go.ChangeAt Go.RowKit Go.Joins
set_option maxRecDepth 100000

theorem Try.own : ownKnob Try.prog.godebug = none := by kernel_rfl
theorem Try.laidOut : laidOutB Try.prog = true := by kernel_rfl
theorem Try.cellsDisk : Try.prog.cellsOf 44 = 2 := by kernel_rfl
theorem Try.cellsPut : Try.prog.cellsOf 106 = 2 := by kernel_rfl
theorem Try.cellsInt : Try.prog.cellsOf 2 = 1 := by kernel_rfl
theorem Try.cellsInts : Try.prog.cellsOf 22 = 1 := by kernel_rfl

set_option maxRecDepth 100000 in
/-- The argument of type Disk, opened. -/
theorem open_Disk {H : Type} {enc : TypeId × Value → H} {W : World} {r : Reach} {b0 : Nat} {v : Value} {d : DataW H} {p : List MemPlace} (hv : Value.okWide Try.prog W r b0 44 v) (h : DataW.Trod enc Try.prog W 0 (fun _ => true) true 44 v d p) :
    ∃ vB vC bs ps, v = .agg #[vB, vC] ∧ IntsS W vB bs ∧ Puts W vC ps := by
  obtain ⟨c0, c1, y0, y1, m, rfl, _, _, hy0, hy1⟩ := open_agg2 Try.underlying44 (by kernel_rfl) Try.cellsDisk hv h
  obtain ⟨bs, hbs⟩ := open_IntsS Try.underlying41 Try.underlying22 Try.underlying2 Try.cellsInts Try.cellsInt hy0
  obtain ⟨ps, hps⟩ := open_Puts Try.underlying42 Try.underlying106 Try.cellsPut rfl rfl Try.cellsInt Try.cellsInts Try.underlying2 Try.underlying22 Try.underlying2 Try.cellsInt hy1
  exact ⟨c0, c1, bs, ps, rfl, hbs, hps⟩

end Go.Proofs.Ytagmmgcdebgfnaa

namespace Go.Proofs.Ytagmmgcdebgfnaa
open Go.RowKit
set_option maxRecDepth 100000

theorem IntsSO.set {w X : World} {g n cap : Nat} {v : Value} {zs : List Int} {zss : List (List Int)} {F : Nat → Prop} (h : IntsSO w (.slice (some ⟨g, 0, none⟩) n cap) zss F) {x : Nat} (hx : x < zss.length) (hb : Below w.heap.size w X) (hF : ∀ b, F b → b < w.heap.size) (hv : IntsO X v zs (fresh w X)) :
    IntsSO (X.setCell ⟨g, x, none⟩ v) (.slice (some ⟨g, 0, none⟩) n cap) (zss.set x zs) (fun b => F b ∨ fresh w X b) := by
  rcases h with ⟨h, _⟩ | ⟨b, cap', u, G, hFb, hG, hGG, h1, h2, h3, h4⟩
  · subst h; simp at hx
  · simp only [Value.slice.injEq, Option.some.injEq, Addr.mk.injEq, and_true] at h1
    obtain ⟨rfl, rfl, rfl⟩ := h1
    have hgl := h3.lt
    refine Or.inr ⟨g, cap, fun j => if j = x then v else u j, fun i c => (i = x ∧ fresh w X c) ∨ (i ≠ x ∧ G i c), Or.inl hFb, fun i c hc => ?_, fun i j c e h5 h6 => ?_, by simp, by simpa using h2, by simpa using (h3.block (hb.block g hgl)).set x v, fun i hi => ?_⟩
    · rcases hc with ⟨_, hc⟩ | ⟨_, hc⟩
      · exact ⟨Or.inr hc, fun e => by have := hc.1; omega⟩
      · exact ⟨Or.inl (hG i c hc).1, (hG i c hc).2⟩
    · rcases h5 with ⟨e5, h5⟩ | ⟨e5, h5⟩ <;> rcases h6 with ⟨e6, h6⟩ | ⟨e6, h6⟩
      · omega
      · have := h5.1; have := hF c (hG j c h6).1; omega
      · have := h6.1; have := hF c (hG i c h5).1; omega
      · exact hGG i j c e h5 h6
    · simp only [List.length_set] at hi
      by_cases e : i = x
      · subst e
        have h7 : IntsO X v zs (fun c => (i = i ∧ fresh w X c) ∨ (i ≠ i ∧ G i c)) := hv.mono fun c hc => Or.inl ⟨rfl, hc⟩
        show IntsO _ (if i = i then v else u i) _ (fun c => (i = i ∧ fresh w X c) ∨ (i ≠ i ∧ G i c))
        rw [if_pos rfl, List.getElem?_set_self hx, Option.getD_some]
        refine h7.keep fun c hc _ => Below.heap_setCell _ _ _ _ ?_
        rcases hc with ⟨_, hc⟩ | ⟨hc, _⟩
        · show c ≠ g
          have := hc.1; omega
        · exact absurd rfl hc
      · show IntsO _ (if i = x then v else u i) _ (fun c => (i = x ∧ fresh w X c) ∨ (i ≠ x ∧ G i c))
        rw [if_neg e, List.getElem?_set_ne (fun h => e h.symm)]
        have h7 : IntsO w (u i) (zss[i]?.getD []) (fun c => (i = x ∧ fresh w X c) ∨ (i ≠ x ∧ G i c)) := (h4 i hi).mono fun c hc => Or.inr ⟨e, hc⟩
        refine h7.keep fun c hc hlt => ?_
        rcases hc with ⟨hc, _⟩ | ⟨_, hc⟩
        · exact absurd hc e
        · rw [Below.heap_setCell _ _ _ _ (show c ≠ g from (hG i c hc).2), hb.block c hlt]

theorem Box2.store {w : World} {b : Nat} {x y : Value} (h : Box2 w b x y) {p : Addr} (hp : b ≠ p.block) (v : Value) : Box2 (w.setCell p v) b x y :=
  ⟨(World.cell?_of_block (w := w) (a := ⟨b, 0, none⟩) (Below.heap_setCell _ _ _ _ hp)).trans h.1, (World.cell?_of_block (w := w) (a := ⟨b, 1, none⟩) (Below.heap_setCell _ _ _ _ hp)).trans h.2⟩
theorem IntsSO.cell {w : World} {a : Option Addr} {n cap : Nat} {zss : List (List Int)} {F : Nat → Prop} (h : IntsSO w (.slice a n cap) zss F) {x : Nat} (hx : x < zss.length) :
    ∃ g ua un uc, a = some ⟨g, 0, none⟩ ∧ F g ∧ g < w.heap.size ∧ w.cell? ⟨g, x, none⟩ = some (.slice ua un uc) ∧ w.frozen? ⟨g, x, none⟩ = false := by
  rcases h with ⟨h, _⟩ | ⟨b, cap', u, G, hFb, _, _, h1, _, h3, h4⟩
  · subst h; simp at hx
  · simp only [Value.slice.injEq] at h1
    obtain ⟨rfl, rfl, rfl⟩ := h1
    have hu : ∃ ua un uc, u x = .slice ua un uc := by
      rcases h4 x hx with ⟨_, a, c, e⟩ | ⟨_, _, _, e, _⟩
      · exact ⟨_, _, _, e⟩
      · exact ⟨_, _, _, e⟩
    obtain ⟨ua, un, uc, e⟩ := hu
    exact ⟨b, ua, un, uc, rfl, hFb, h3.lt, by rw [h3.cell hx, e], h3.frozen x⟩

/-- The blocks behind the first k puts of those that are picked. -/
def keepTo (pk : Nat → Bool) (bs : List (List Int)) (ps : List (Int × List Int)) : Nat → List (List Int)
  | 0 => bs
  | k + 1 => if pk k then (keepTo pk bs ps k).set (ps[k]?.getD (0, [])).1.toNat (ps[k]?.getD (0, [])).2 else keepTo pk bs ps k
theorem keepTo_length (pk : Nat → Bool) (bs : List (List Int)) (ps : List (Int × List Int)) (k : Nat) : (keepTo pk bs ps k).length = bs.length := by
  induction k with
  | zero => rfl
  | succ k ih => unfold keepTo; split <;> simp [ih]
theorem keepTo_len (pk : Nat → Bool) (bs : List (List Int)) (ps : List (Int × List Int)) {M : Nat} (hz : ∀ k : Nat, (bs[k]?.getD []).length ≤ M) (hzp : ∀ k : Nat, (ps[k]?.getD (0, [])).2.length ≤ M) (k : Nat) : ∀ i : Nat, ((keepTo pk bs ps k)[i]?.getD []).length ≤ M := by
  induction k with
  | zero => exact hz
  | succ k ih =>
    intro i
    unfold keepTo
    split
    · rw [List.getElem?_set]
      split
      · split
        · exact hzp k
        · simp
      · exact ih i
    · exact ih i
theorem keepTo_step {pk : Nat → Bool} {bs : List (List Int)} {ps : List (Int × List Int)} {k : Nat} (h : pk k = true) : keepTo pk bs ps (k + 1) = (keepTo pk bs ps k).set (ps[k]?.getD (0, [])).1.toNat (ps[k]?.getD (0, [])).2 := by simp [keepTo, h]
theorem keepTo_skip {pk : Nat → Bool} {bs : List (List Int)} {ps : List (Int × List Int)} {k : Nat} (h : pk k = false) : keepTo pk bs ps (k + 1) = keepTo pk bs ps k := by simp [keepTo, h]
end Go.Proofs.Ytagmmgcdebgfnaa

namespace Go.Proofs.Ytagmmgcdebgfnaa
open Go.RowKit
set_option maxRecDepth 100000

/-- A row of n elements that the call owns; element i is told by C i (u i), where u i is a list of its own in block k i. -/
structure LRow (C : Nat → Value → List Value) (w : World) (base lo : Nat) (e : TypeId) (size : Nat) (v : Value) (n : Nat) (f : Nat → List Int) (k : Nat → Nat) (u : Nat → Value) : Prop where
  own : w.ownsRow base e size v n ((List.range n).flatMap fun i => C i (u i))
  lo : ∀ i, i < n → lo ≤ k i ∧ k i < w.heap.size
  ne : ∀ i, i < n → v.ownBlock ≠ some (k i)
  inj : ∀ i j, i < n → j < n → i ≠ j → k i ≠ k j
  sh : ∀ i, i < n → ∃ a c, u i = .slice a (f i).length c
  at' : ∀ i, i < n → IntsO w (u i) (f i) (fun c => c = k i)

theorem LRow.nil {C : Nat → Value → List Value} (w : World) (base lo : Nat) (e : TypeId) (size : Nat) (f : Nat → List Int) : LRow C w base lo e size (.slice none 0 0) 0 f (fun _ => 0) (fun _ => .slice none 0 0) :=
  ⟨World.ownsRow_nil _ _ _ _, fun i hi => by omega, fun i hi => by omega, fun i j hi => by omega, fun i hi => by omega, fun i hi => by omega⟩
theorem LRow.keep {C : Nat → Value → List Value} {w w' : World} {base lo : Nat} {e : TypeId} {size : Nat} {v : Value} {n : Nat} {f : Nat → List Int} {k : Nat → Nat} {u : Nat → Value} (h : LRow C w base lo e size v n f k u) (hs : w.heap.size ≤ w'.heap.size)
    (hrow : ∀ g, v.ownBlock = some g → w'.heap[g]? = w.heap[g]?) (hk : ∀ i, i < n → w'.heap[k i]? = w.heap[k i]?) : LRow C w' base lo e size v n f k u := by
  refine ⟨?_, fun i hi => ⟨(h.lo i hi).1, Nat.lt_of_lt_of_le (h.lo i hi).2 hs⟩, h.ne, h.inj, h.sh, fun i hi => (h.at' i hi).keep fun b hb _ => by rw [hb]; exact hk i hi⟩
  obtain ⟨h1, h2⟩ := h.own
  refine ⟨h1, ?_⟩
  rcases h2 with h2 | ⟨g, cap, cur, hv, hg, hh, r⟩
  · exact Or.inl h2
  · exact Or.inr ⟨g, cap, cur, hv, hg, by rw [hrow g (by rw [hv]; rfl)]; exact hh, r⟩
theorem LRow.later {C : Nat → Value → List Value} {w w' : World} {base lo : Nat} {e : TypeId} {size : Nat} {v : Value} {n : Nat} {f : Nat → List Int} {k : Nat → Nat} {u : Nat → Value} (h : LRow C w base lo e size v n f k u) (hb : Below w.heap.size w w') : LRow C w' base lo e size v n f k u :=
  h.keep hb.size (fun g hg => hb.block g (h.own.lt g hg).2) (fun i hi => hb.block _ (h.lo i hi).2)
theorem LRow.store {C : Nat → Value → List Value} {w : World} {base lo : Nat} {e : TypeId} {size : Nat} {v : Value} {n : Nat} {f : Nat → List Int} {k : Nat → Nat} {u : Nat → Value} (h : LRow C w base lo e size v n f k u) {p : Addr} (h1 : p.block < base) (h2 : p.block < lo) (x : Value) : LRow C (w.setCell p x) base lo e size v n f k u :=
  h.keep (by simp [World.setCell]) (fun g hg => Below.heap_setCell _ _ _ _ (by have := (h.own.lt g hg).1; omega)) (fun i hi => Below.heap_setCell _ _ _ _ (by have := (h.lo i hi).1; omega))
theorem LRow.shape {C : Nat → Value → List Value} {w : World} {base lo : Nat} {e : TypeId} {size : Nat} {v : Value} {n : Nat} {f : Nat → List Int} {k : Nat → Nat} {u : Nat → Value} (h : LRow C w base lo e size v n f k u) : ∃ a c, v = .slice a n c := by
  rcases h.own.2 with ⟨rfl, rfl⟩ | ⟨g, c, cur, rfl, _⟩
  · exact ⟨_, _, rfl⟩
  · exact ⟨_, _, rfl⟩

/-- What 'append' of one element comes to. -/
theorem LRow.append {C : Nat → Value → List Value} (w w1 : World) (t ty e : TypeId) (i : TypeInfo) (z : Value) (size bytes : Nat) (ht : Try.prog.underlying t = some (.slice e)) (hi : Try.prog.info? e = some i) (hz : i.zero = some z) (hsize : i.size = size) (hby : i.bytes = bytes) (hzs : z.cells.size = size) (hsz : 0 < size) (hbb : bytes ≤ 1000)
    (base lo n : Nat) (v : Value) (f : Nat → List Int) (k : Nat → Nat) (u : Nat → Value) (h : LRow C w base lo e size v n f k u) (hb : base ≤ w.heap.size) (hn : n ≤ 100000) (hb1 : Below w.heap.size w w1)
    (a : Option Addr) (c : Nat) (hlen : (C n (.slice a (f n).length c)).length = size) (hone : ∀ x ∈ C n (.slice a (f n).length c), x.oneCell' = true) (kb : Nat) (hk1 : lo ≤ kb) (hk2 : kb < w1.heap.size) (hk3 : v.ownBlock ≠ some kb) (hk4 : ∀ i, i < n → k i ≠ kb) (hf : IntsO w1 (.slice a (f n).length c) (f n) (fun x => x = kb)) :
    ∃ g cap X, (Builtin.append_ #[t, t] ty #[v, .slice (some ⟨w1.heap.size, 0, none⟩) 1 1]).run Try.prog (w1.alloc (.cells (C n (.slice a (f n).length c)).toArray e)) = .ok (.slice (some ⟨g, 0, none⟩) (n + 1) cap) X ∧
      (∀ b, b < w1.heap.size → v.ownBlock ≠ some b → X.heap[b]? = w1.heap[b]?) ∧ Below base w X ∧ w1.heap.size < X.heap.size ∧
      LRow C X base lo e size (.slice (some ⟨g, 0, none⟩) (n + 1) cap) (n + 1) f (fun j => if j = n then kb else k j) (fun j => if j = n then .slice a (f n).length c else u j) := by
  have hsz1 := hb1.size
  have hbW : Below w.heap.size w (w1.alloc (.cells (C n (.slice a (f n).length c)).toArray e)) := hb1.trans ((later1 _ _).mono hb1.size)
  have hW := h.later hbW
  obtain ⟨g, cap, X, hr, ho, hg, hat, hgX⟩ := run_append_lies (P := Try.prog) (w1.alloc (.cells (C n (.slice a (f n).length c)).toArray e)) t ty base e i z size bytes ht hi hz hsize hby hzs hsz v n _ hW.own ⟨w1.heap.size, 0, none⟩ 1 1 (C n (.slice a (f n).length c)) (by rw [hlen, Nat.one_mul])
    (fun j x hx => by
      rw [add_plain', Nat.zero_add, new_cell]
      simpa using hx) hone (by decide) (by unfold maxLen; omega) (by have : (n + 1) * bytes ≤ 100001 * 1000 := Nat.mul_le_mul (by omega) hbb; omega) (by simp; omega) (w1.heap.size + 1) (by simp)
  have hrow : ∀ g, v.ownBlock = some g → g < w.heap.size := fun g hg => (h.own.lt g hg).2
  have hrowb : ∀ g, v.ownBlock = some g → base ≤ g := fun g hg => (h.own.lt g hg).1
  have hXb : ∀ b, b < w1.heap.size → v.ownBlock ≠ some b → X.heap[b]? = w1.heap[b]? := fun b hb' hne => (hg.block b (by simp; omega) (fun e => hne e.symm)).trans ((later1 _ _).block b hb')
  have hne : ∀ b, b < w1.heap.size → v.ownBlock ≠ some b → g ≠ b := by
    intro b hb' hb2 e
    subst e
    rcases hat with h | h
    · exact hb2 h
    · omega
  have old : ∀ b, b < w.heap.size → v.ownBlock ≠ some b → X.heap[b]? = w.heap[b]? := fun b hb' hne => (hXb b (by omega) hne).trans (hb1.block b hb')
  have hXs : w1.heap.size < X.heap.size := by have := hg.size; simp at this; omega
  refine ⟨g, cap, X, hr, hXb, (hbW.mono hb).trans (below_grown hg (by simp; omega) (fun g hg' => hrowb g hg')), hXs, ⟨?_, fun j hj => ?_, fun j hj => ?_, fun j j' hj hj' e => ?_, fun j hj => ?_, fun j hj => ?_⟩⟩
  · rw [List.range_succ, List.flatMap_append]
    have e1 : (List.range n).flatMap (fun i => C i (if i = n then .slice a (f n).length c else u i)) = (List.range n).flatMap (fun i => C i (u i)) := by
      have e0 : (List.range n).map (fun i => C i (if i = n then .slice a (f n).length c else u i)) = (List.range n).map (fun i => C i (u i)) := List.map_congr_left fun i hi => by rw [if_neg (by have := List.mem_range.1 hi; omega)]
      rw [List.flatMap_def, List.flatMap_def, e0]
    have e2 : [n].flatMap (fun i => C i (if i = n then .slice a (f n).length c else u i)) = C n (.slice a (f n).length c) := by simp only [List.flatMap_cons, List.flatMap_nil, List.append_nil, if_true]
    rw [e1, e2]
    exact ho
  · by_cases e : j = n
    · subst e; simp; omega
    · have := h.lo j (by omega); simp [e]; omega
  · by_cases e : j = n
    · subst e
      simp only [if_true]
      exact fun e => hne kb hk2 hk3 (by simpa [Value.ownBlock] using e)
    · have hj' : j < n := by omega
      have hl := h.lo j hj'
      simp only [e, if_false]
      exact fun e => hne (k j) (by omega) (h.ne j hj') (by simpa [Value.ownBlock] using e)
  · by_cases e1 : j = n
    · by_cases e2 : j' = n
      · omega
      · simp [e1, e2]; exact fun e => hk4 j' (by omega) e.symm
    · by_cases e2 : j' = n
      · simp [e1, e2]; exact hk4 j (by omega)
      · simp [e1, e2]; exact h.inj j j' (by omega) (by omega) e
  · by_cases e : j = n
    · subst e; exact ⟨a, c, by simp⟩
    · simp only [e, if_false]; exact h.sh j (by omega)
  · by_cases e : j = n
    · subst e
      simp only [if_true]
      exact hf.keep fun b hb' hlt' => by rw [hb']; exact hXb kb hk2 hk3
    · have hj' : j < n := by omega
      simp only [e, if_false]
      exact (h.at' j hj').keep fun b hb' hlt' => by rw [hb']; exact old _ (h.lo j hj').2 (h.ne j hj')

/-- The one block of a list that is fresh. -/
theorem IntsO.one {w w1 : World} {v : Value} {zs : List Int} (h : IntsO w1 v zs (fresh w w1)) (hlt : w.heap.size < w1.heap.size) : ∃ kb, w.heap.size ≤ kb ∧ kb < w1.heap.size ∧ IntsO w1 v zs (fun c => c = kb) := by
  rcases h with h | ⟨b, cap, hF, r⟩
  · exact ⟨w.heap.size, Nat.le_refl _, hlt, Or.inl h⟩
  · exact ⟨b, hF.1, hF.2, Or.inr ⟨b, cap, rfl, r⟩⟩

/-- A row of lists. -/
def C1 : Nat → Value → List Value := fun _ v => [v]
/-- A row of puts. -/
def C2 (f : Nat → Int) : Nat → Value → List Value := fun i v => [.int .i64 (f i), v]

theorem flat_len {C : Nat → Value → List Value} {size : Nat} (u : Nat → Value) (hC : ∀ i, (C i (u i)).length = size) (n : Nat) : ((List.range n).flatMap fun i => C i (u i)).length = n * size := by
  induction n with
  | zero => simp
  | succ n ih => rw [List.range_succ, List.flatMap_append, List.length_append, ih]; simp [hC, Nat.add_mul]
theorem flat_get {C : Nat → Value → List Value} {size : Nat} (_hsz : 0 < size) (u : Nat → Value) (hC : ∀ i, (C i (u i)).length = size) (n : Nat) : ∀ i j, i < n → j < size → ((List.range n).flatMap fun i => C i (u i))[i * size + j]? = (C i (u i))[j]? := by
  induction n with
  | zero => intro i j hi; omega
  | succ n ih =>
    intro i j hi hj
    have hl := flat_len u hC n
    rw [List.range_succ, List.flatMap_append]
    by_cases e : i = n
    · subst e
      rw [List.getElem?_append_right (by rw [hl]; omega), hl]
      simp
    · rw [List.getElem?_append_left (by rw [hl]; have : (i + 1) * size ≤ n * size := Nat.mul_le_mul_right _ (by omega); rw [Nat.add_mul] at this; omega)]
      exact ih i j (by omega) hj

/-- The cells of such a row. -/
theorem LRow.cells {C : Nat → Value → List Value} {w : World} {base lo : Nat} {e : TypeId} {size : Nat} {v : Value} {n : Nat} {f : Nat → List Int} {k : Nat → Nat} {u : Nat → Value} (h : LRow C w base lo e size v n f k u) (hsz : 0 < size) (hC : ∀ i, (C i (u i)).length = size) (hn : 0 < n) :
    ∃ g cap, v = .slice (some ⟨g, 0, none⟩) n cap ∧ base ≤ g ∧ g < w.heap.size ∧ n ≤ maxLen ∧ OwnRow w g (n * size) (fun c => (C (c / size) (u (c / size)))[c % size]?.getD undef) := by
  obtain ⟨hl, h2 | ⟨g, cap, cur, rfl, hb, hh, hnc, hcm, hcs, htake⟩⟩ := h.own
  · omega
  · have hle : n * size ≤ cap * size := Nat.mul_le_mul_right _ hnc
    refine ⟨g, cap, rfl, hb, (Array.getElem?_eq_some_iff.1 hh).1, by omega, cur, e, hh, by omega, fun c hc => ?_⟩
    have hd : c / size < n := by rw [Nat.div_lt_iff_lt_mul hsz]; exact hc
    have hm : c % size < size := Nat.mod_lt _ hsz
    have hg := flat_get hsz u hC n (c / size) (c % size) hd hm
    rw [Nat.div_add_mod'] at hg
    have h1 : ((List.range n).flatMap fun i => C i (u i))[c]? = cur[c]? := by rw [← htake, List.getElem?_take, if_pos hc, Array.getElem?_toList]
    rw [h1] at hg
    have hlt : c < cur.size := by omega
    show cur[c]? = some ((C (c / size) (u (c / size)))[c % size]?.getD undef)
    rw [← hg, Array.getElem?_eq_getElem hlt]; rfl

theorem LRow.intsS {w : World} {base lo : Nat} {e : TypeId} {v : Value} {n : Nat} {k : Nat → Nat} {u : Nat → Value} {zss : List (List Int)} (h : LRow C1 w base lo e 1 v n (fun i => zss[i]?.getD []) k u) (hn : zss.length = n) (F : Nat → Prop) (hF : ∀ c, base ≤ c → c < w.heap.size → F c) (hF' : ∀ c, lo ≤ c → c < w.heap.size → F c) : IntsSO w v zss F := by
  subst hn
  by_cases h0 : zss.length = 0
  · obtain ⟨a, c, rfl⟩ := h.shape
    exact Or.inl ⟨List.eq_nil_of_length_eq_zero h0, a, c, by rw [h0]⟩
  · obtain ⟨g, cap, rfl, hb, hg, hm, hrow⟩ := h.cells (by decide) (fun _ => rfl) (by omega)
    refine Or.inr ⟨g, cap, u, fun i c => i < zss.length ∧ c = k i, hF g hb hg, fun i c hc => ?_, fun i j c e h1 h2 => h.inj i j h1.1 h2.1 e (h1.2.symm.trans h2.2), rfl, hm, ?_, fun i hi => (h.at' i hi).mono fun c hc => ⟨hi, hc⟩⟩
    · have hl := h.lo i hc.1
      have hne := h.ne i hc.1
      rw [hc.2]
      exact ⟨hF' _ hl.1 hl.2, fun e => hne (by simp [Value.ownBlock, e])⟩
    · rw [Nat.mul_one] at hrow
      exact hrow.congr fun i hi => by simp [C1, Nat.mod_one]
theorem LRow.puts {w : World} {base lo : Nat} {e : TypeId} {v : Value} {n : Nat} {k : Nat → Nat} {u : Nat → Value} {ps : List (Int × List Int)} (h : LRow (C2 fun i => (ps[i]?.getD (0, [])).1) w base lo e 2 v n (fun i => (ps[i]?.getD (0, [])).2) k u) (hn : ps.length = n) (F : Nat → Prop) (hF : ∀ c, base ≤ c → c < w.heap.size → F c) (hF' : ∀ i, i < n → F (k i)) : PutsO w v ps F := by
  subst hn
  by_cases h0 : ps.length = 0
  · obtain ⟨a, c, rfl⟩ := h.shape
    exact Or.inl ⟨List.eq_nil_of_length_eq_zero h0, a, c, by rw [h0]⟩
  · obtain ⟨g, cap, rfl, hb, hg, hm, hrow⟩ := h.cells (by decide) (fun _ => rfl) (by omega)
    refine Or.inr ⟨g, cap, u, fun i c => i < ps.length ∧ c = k i, hF g hb hg, fun i c hc => ?_, fun i j c e h1 h2 => h.inj i j h1.1 h2.1 e (h1.2.symm.trans h2.2), rfl, hm, ?_, fun i hi => (h.at' i hi).mono fun c hc => ⟨hi, hc⟩⟩
    · have hne := h.ne i hc.1
      rw [hc.2]
      exact ⟨hF' i hc.1, fun e => hne (by simp [Value.ownBlock, e])⟩
    · refine hrow.congr fun c hc => ?_
      unfold putCell C2
      rcases Nat.mod_two_eq_zero_or_one c with h | h <;> simp [h]
end Go.Proofs.Ytagmmgcdebgfnaa

namespace Go.Proofs.Ytagmmgcdebgfnaa
open Go.RowKit
set_option maxRecDepth 100000

theorem Try.sizeInt : (Try.prog.info? 2).map (·.size) = some 1 := by kernel_rfl

/-- What 'copy' into a list that was just made comes to. -/
theorem copy_made (w : World) (a : Option Addr) (n cap : Nat) (zs : List Int) (hz : zs.length = n) (hc : At1 w a n (fun k => .int .i64 (zs[k]?.getD 0))) :
    ∃ X, (Builtin.copy_ #[22, 22] 3 #[.slice (some ⟨w.heap.size, 0, none⟩) n n, .slice a n cap]).run Try.prog (w.alloc (.cells (madeCells #[.int .i64 0] n) 2)) = .ok (goInt n) X ∧
      Below w.heap.size w X ∧ OwnRow X w.heap.size n (fun i => .int .i64 (zs[i]?.getD 0)) := by
  by_cases h0 : n = 0
  · subst h0
    have hr := run_copy_none (P := Try.prog) (w.alloc (.cells (madeCells #[.int .i64 0] 0) 2)) 22 22 3 2 (some ⟨w.heap.size, 0, none⟩) a 0 0 0 cap Try.underlying22 Try.sizeInt (by simp)
    exact ⟨_, hr, later1 _ _, (OwnRow.made w (.int .i64 0) 0 2).congr fun i hi => by omega⟩
  · obtain ⟨b, off, rfl, _⟩ := hc 0 (by omega)
    have hc' : ∀ k, k < n → w.cell? ⟨b, off + k, none⟩ = some (.int .i64 (zs[k]?.getD 0)) := by
      intro k hk
      obtain ⟨b', off', e, h⟩ := hc k hk
      simp only [Option.some.injEq, Addr.mk.injEq, and_true] at e
      rw [e.1, e.2]; exact h
    have hcp := run_copy_row (P := Try.prog) (w.alloc (.cells (madeCells #[.int .i64 0] n) 2)) 22 22 3 2 w.heap.size 0 n n ⟨b, off, none⟩ n cap (madeCells #[.int .i64 0] n) 2 (zs.map fun z => Value.int .i64 z) Try.underlying22 Try.sizeInt
      (Go.Deep.blk_alloc_new _ _) (by simp [hz]) (fun j v hv => by
        rw [List.getElem?_map, Option.map_eq_some_iff] at hv
        obtain ⟨z, hz1, rfl⟩ := hv
        have hj : j < n := by rw [← hz]; exact (List.getElem?_eq_some_iff.1 hz1).1
        have h2 := hc' j hj
        rw [hz1, Option.getD_some] at h2
        have ha : (⟨b, off, none⟩ : Addr).add j = ⟨b, off + j, none⟩ := by
          by_cases hj0 : j = 0
          · subst hj0; simp [Addr.add]
          · simp [Addr.add, hj0]
        rw [ha]
        exact cell_later (later1 _ _) h2) (by simp [size_madeCells, hz]) (fun v hv => by
        obtain ⟨z, _, rfl⟩ := List.mem_map.1 hv
        rfl)
    refine ⟨_, by rw [hcp, List.length_map, hz], below_setRow (later1 _ _) (Nat.le_refl _) _, ?_⟩
    refine ⟨_, 2, setRow_heap _ _ _ _ _ _ (Go.Deep.blk_alloc_new _ _), ?_, fun i hi => ?_⟩
    · simp [hz]
    · have hlen : i < zs.length := by omega
      simp [List.getElem?_append_left, hlen]
set_option maxHeartbeats 400000 in
theorem copyOf_more {w : World} {v : Value} {zs : List Int} (h : Ints w v zs) (hn : zs.length ≤ 1048576) :
    Calls Try.prog 87 #[v] w fun e w' => e = .returned (.slice (some ⟨w.heap.size, 0, none⟩) zs.length zs.length) ∧ Below w.heap.size w w' ∧ IntsO w' (.slice (some ⟨w.heap.size, 0, none⟩) zs.length zs.length) zs (fresh w w') ∧ w.heap.size < w'.heap.size := by
  obtain ⟨a, cap, rfl, hm, hc⟩ := h.open'
  clear h
  obtain ⟨X, hcp, hbX, hrX⟩ := copy_made w a zs.length cap zs rfl hc
  have hmk := fun w => run_make_row' (P := Try.prog) 22 2 (.int .i64 0) 8 Try.underlying22 Try.infoInt rfl .i64 .i64 zs.length (by omega) (by omega) w
  have HB : Hid (Below w.heap.size w X) := hbX
  have HR : Hid (OwnRow X w.heap.size zs.length (fun i => .int .i64 (zs[i]?.getD 0))) := hrX
  clear hbX hrX hc
  go_enter Try.func87, Try.ntmps87
  go_wp2
  go_ret
  exact ⟨rfl, HB.out, Or.inr ⟨w.heap.size, _, ⟨Nat.le_refl _, HR.out.lt⟩, rfl, hm, HR.out⟩, HR.out.lt⟩
theorem copyOf_any {w : World} {v : Value} {zs : List Int} (h : Ints w v zs) (hn : zs.length ≤ 1048576) :
    Calls Try.prog 87 #[v] w fun e w' => e = .returned (.slice (some ⟨w.heap.size, 0, none⟩) zs.length zs.length) ∧ Below w.heap.size w w' ∧ IntsO w' (.slice (some ⟨w.heap.size, 0, none⟩) zs.length zs.length) zs (fresh w w') :=
  (copyOf_more h hn).mono fun _ _ ⟨h1, h2, h3, _⟩ => ⟨h1, h2, h3⟩
end Go.Proofs.Ytagmmgcdebgfnaa

namespace Go.Proofs.Ytagmmgcdebgfnaa
open Go.RowKit
set_option maxRecDepth 100000

theorem newRack_any (w : World) (n : Nat) (hn : n ≤ 60) :
    Calls Try.prog 106 #[.int .i64 (n : Int)] w fun e w' => ∃ b, w.heap.size ≤ b ∧ e = .returned (.agg #[.slice (some ⟨b, 0, none⟩) n n]) ∧ Below w.heap.size w w' ∧ OwnRow w' b n (fun _ => .slice none 0 0) := by
  have hmk := fun w => run_make_row' (P := Try.prog) 41 22 (.slice none 0 0) 24 Try.underlying41 Try.infoInts rfl .i64 .i64 n (by omega) (by omega) w
  go_enter Try.func106, Try.ntmps106
  go_wp2
  refine bodyPost_ret (v := .agg #[.slice (some ⟨w.heap.size + 1, 0, none⟩) n n]) (by simp [results, Try.results106, go_sem]) rfl ⟨w.heap.size + 1, by omega, rfl, later2 _ _ _, ?_⟩
  have := OwnRow.made (w.alloc (Obj.cells #[Value.slice (some ⟨w.heap.size + 1, 0, none⟩) n n] 119)) (.slice none 0 0) n 22
  simpa using this

/-- n empty lists in one row that the call made. -/
theorem empties {w' : World} {b n : Nat} (F : Nat → Prop) (hF : F b) (hn : n ≤ 60) (h : OwnRow w' b n (fun _ => .slice none 0 0)) : IntsSO w' (.slice (some ⟨b, 0, none⟩) n n) (List.replicate n []) F := by
  refine Or.inr ⟨b, n, fun _ => .slice none 0 0, fun _ _ => False, hF, fun _ _ h => h.elim, fun _ _ _ _ h => h.elim, by simp, by unfold maxLen; simp; omega, by simpa using h, fun i hi => Or.inl ⟨?_, none, 0, rfl⟩⟩
  simp at hi
  simp [hi]

/-- The codes and the blocks of a new disk. -/
def newCode (size : Int) : Int := if 0 ≤ size ∧ size ≤ 60 then 0 else 3
def newBlocks (size : Int) : List (List Int) := if 0 ≤ size ∧ size ≤ 60 then List.replicate size.toNat [] else []

theorem ans_new {w w' : World} {b n : Nat} (hn : n ≤ 60) (hb : w.heap.size ≤ b) (hbel : Below w.heap.size w w') (hr : OwnRow w' b n (fun _ => .slice none 0 0)) : AnsDisk w 0 (List.replicate n []) [] (.returned (.agg #[.int .i64 0, .slice (some ⟨b, 0, none⟩) n n, .slice none 0 0])) w' :=
  ⟨_, n, n, none, 0, 0, rfl, hbel, fun c => c = b, fun _ => False, empties _ rfl hn hr, Or.inl ⟨rfl, none, 0, rfl⟩, fun _ _ h => h.elim, fun c h => by have := hr.lt; exact h.elim (fun h => ⟨by omega, by omega⟩) False.elim⟩

end Go.Proofs.Ytagmmgcdebgfnaa

namespace Go.Proofs.Ytagmmgcdebgfnaa
open Go.RowKit
set_option maxRecDepth 100000

set_option maxHeartbeats 800000 in
theorem set_any (w : World) (br o g n cap x : Nat) (u : Nat → Value) (v : Value) (zs : List Int) (_hn : n ≤ 60) (hx : x < n) (h0 : w.cell? ⟨br, o, none⟩ = some (.slice (some ⟨g, 0, none⟩) n cap)) (hr : OwnRow w g n u) (hu : ∃ ua un uc, u x = .slice ua un uc) (hi : Ints w v zs) (hl : zs.length ≤ 1048576) :
    Calls Try.prog 107 #[.pointer (some ⟨br, o, none⟩), .int .i64 (x : Int), v] w fun e w' => e = .returned (.tuple #[]) ∧
      ∃ X, w' = X.setCell ⟨g, x, none⟩ (.slice (some ⟨w.heap.size, 0, none⟩) zs.length zs.length) ∧ Below w.heap.size w X ∧ IntsO X (.slice (some ⟨w.heap.size, 0, none⟩) zs.length zs.length) zs (fresh w X) := by
  obtain ⟨ua, un, uc, hux⟩ := hu
  have HI : Hid (Ints w v zs) := hi
  have HR : Hid (OwnRow w g n u) := hr
  have c1 := hr.cell hx
  rw [hux] at c1
  have c2 := hr.frozen x
  have HL : Hid (zs.length ≤ 1048576) := hl
  clear hi hr hl hux
  go_enter Try.func107, Try.ntmps107
  go_wp2_with fail
  go_region_with ((go_at_call 87; refine (copyOf_any ?_ HL.out).mono ?_; exact HI.out; rintro e w1 ⟨rfl, hb1, ho1⟩; have d0 := cell_later hb1 h0; have d1 := cell_later hb1 c1; have d2 := (hb1.frozen (p := ⟨g, x, none⟩) (World.block_lt_of_cell? _ _ c1)).trans c2; have HB1 : Hid (Below w.heap.size w w1) := (Below.refl _ _).drew.trans hb1; have HO1 : Hid (IntsO w1 (.slice (some ⟨w.heap.size, 0, none⟩) zs.length zs.length) zs (fresh w w1)) := ho1; clear hb1 ho1))
  all_goals
    go_wp2
    go_end0
    exact ⟨rfl, w1, rfl, HB1.out, HO1.out⟩

set_option maxHeartbeats 1600000 in
theorem rackOf_walk (w : World) (a : Option Addr) (n cap : Nat) (bs : List (List Int)) (hbl : bs.length = n) (hn : n ≤ 60) (hz : ∀ k, k < n → (bs[k]?.getD []).length ≤ 1048576) (hB : AtS w a n bs) :
    Calls Try.prog 91 #[.slice a n cap] w fun e w' => ∃ g, e = .returned (.agg #[.slice (some ⟨g, 0, none⟩) n n]) ∧ Below w.heap.size w w' ∧ IntsSO w' (.slice (some ⟨g, 0, none⟩) n n) bs (fresh w w') := by
  have HBL : Hid (bs.length = n) := hbl
  have HZ : Hid (∀ k, k < n → (bs[k]?.getD []).length ≤ 1048576) := hz
  have HB : Hid (AtS w a n bs) := hB
  clear hbl hz hB
  go_enter Try.func91, Try.ntmps91
  go_wp2_with fail
  refine (newRack_any _ n hn).mono ?_
  rintro e w1 ⟨g, hg, rfl, hb1, hr1⟩
  simp at hg
  have HB1 : Hid (Below w.heap.size w w1) := (later1 _ _).trans (hb1.mono (by simp))
  have hgl : g < w1.heap.size := hr1.lt
  have HR1 : Hid (OwnRow w1 g n (fun _ => .slice none 0 0)) := hr1
  have t0 := cell_later hb1 (show (w.alloc (Obj.cells #[Value.slice none 0 0] 119)).cell? ⟨w.heap.size, 0, none⟩ = some (.slice none 0 0) by rw [new_cell]; rfl)
  have t1 : w1.frozen? ⟨w.heap.size, 0, none⟩ = false := by rw [hb1.frozen (by simp)]; simp
  have hz1 : w.heap.size < w1.heap.size := World.block_lt_of_cell? _ _ t0
  clear hb1 hr1
  go_wp2_with fail
  go_loopw [11] (fun i wr => ∃ j : Nat, j ≤ n ∧ i = .int .i64 j ∧ Below w.heap.size w wr ∧ wr.cell? ⟨w.heap.size, 0, none⟩ = some (.slice none 0 0) ∧ wr.frozen? ⟨w.heap.size, 0, none⟩ = false ∧ wr.cell? ⟨w1.heap.size, 0, none⟩ = some (.slice (some ⟨g, 0, none⟩) n n) ∧
    ∃ u s, OwnRow wr g n (fun i => if i < j then u i else .slice none 0 0) ∧ (∀ i, i < j → ∃ ua un uc, u i = .slice ua un uc) ∧ Built wr (w1.heap.size + 1) j u (fun i => bs[i]?.getD []) s) (fun i _ => n - (intOf i).toNat)
  case atStart => exact ⟨0, Nat.zero_le _, rfl, HB1.out.trans ((later1 _ _).mono HB1.out.size), cell_later (later1 _ _) t0, by rw [(later1 w1 _).frozen (p := ⟨w.heap.size, 0, none⟩) hz1]; exact t1, by rw [new_cell]; rfl, fun _ => .slice none 0 0, _, (HR1.out.later (later1 _ _)).congr fun i _ => by simp, fun i hi => by omega, Built.nil _ _ (by simp)⟩
  case round =>
    obtain ⟨j, hj, rfl, hbl, q0, q1, q2, u, s, hrow, hsh, hbt⟩ := hrel
    have HBW : Hid (Below w.heap.size w wr) := hbl
    have HROW : Hid (OwnRow wr g n (fun i => if i < j then u i else .slice none 0 0)) := hrow
    have HBT : Hid (Built wr (w1.heap.size + 1) j u (fun i => bs[i]?.getD []) s) := hbt
    have HSH : Hid (∀ i, i < j → ∃ ua un uc, u i = .slice ua un uc) := hsh
    clear hbl hrow hbt hsh t0 t1
    by_cases hlt : j < n
    · obtain ⟨b, off, ua, ucap, e, c1, i1⟩ := HB.out j hlt
      clear HB
      subst e
      replace c1 := cell_later HBW.out c1
      have HI : Hid (Ints wr (.slice ua (bs[j]?.getD []).length ucap) (bs[j]?.getD [])) := i1.later HBW.out
      clear i1
      go_wp2_with fail
      refine (set_any wr w1.heap.size 0 g n n j _ _ (bs[j]?.getD []) hn hlt q2 HROW.out ⟨none, 0, 0, by simp⟩ HI.out (HZ.out j hlt)).mono ?_
      rintro e w2 ⟨rfl, X, rfl, hbX, hoX⟩
      have HX : Hid (Below wr.heap.size wr X) := hbX
      have HO : Hid (IntsO X (.slice (some ⟨wr.heap.size, 0, none⟩) (bs[j]?.getD []).length (bs[j]?.getD []).length) (bs[j]?.getD []) (fresh wr X)) := hoX
      clear hbX hoX
      go_wp2
      go_roundw
      case rel =>
        refine ⟨j + 1, by omega, by go_num, (HBW.out.trans (HX.out.mono HBW.out.size)).setCell (by simp; omega) _, ?_, ?_, ?_, _, _, ((HROW.out.later HX.out).set j _).congr fun i hi => ?_, fun i hi => ?_, (HBT.out.next HX.out HO.out).store (by simp; omega) _⟩
        · rw [World.cell?_of_block (w := X) (Below.heap_setCell _ _ _ _ (by simp; omega))]; exact cell_later HX.out q0
        · rw [World.frozen?_of_block (w := X) (Below.heap_setCell _ _ _ _ (by simp; omega)), HX.out.frozen (World.block_lt_of_cell? _ _ q0)]; exact q1
        · rw [World.cell?_of_block (w := X) (Below.heap_setCell _ _ _ _ (by simp; omega))]; exact cell_later HX.out q2
        · by_cases e : i = j
          · subst e; simp
          · by_cases e2 : i < j
            · simp [e, e2, show i < j + 1 by omega]
            · simp [e, e2, show ¬ i < j + 1 by omega]
        · by_cases e : i = j
          · subst e; exact ⟨_, _, _, by simp; exact ⟨rfl, rfl, rfl⟩⟩
          · obtain ⟨a1, a2, a3, h⟩ := HSH.out i (by omega)
            exact ⟨a1, a2, a3, by simp [e, h]⟩
      case measure => simp [intOf]; omega
    · go_wp2
      have e : j = n := by omega
      subst e
      refine bodyPost_ret (v := .agg #[.slice (some ⟨g, 0, none⟩) j j]) (by simp [results, Try.results91, go_sem, q0]) rfl ⟨g, rfl, HBW.out.setCell (Nat.le_refl _) _, ?_⟩
      have hB' := HBT.out.store (p := ⟨w.heap.size, 0, none⟩) (by simp; omega) (.slice (some ⟨g, 0, none⟩) j j)
      have hR' := (HROW.out.congr (g := u) fun i hi => by simp [hi]).store (p := ⟨w.heap.size, 0, none⟩) (by simp; omega) (.slice (some ⟨g, 0, none⟩) j j)
      exact hB'.ints bs HBL.out (fun _ _ => rfl) (by unfold maxLen; omega) (by omega) hR' _ ⟨by omega, hR'.lt⟩ (fun c h1 h2 => ⟨by omega, h2⟩)
end Go.Proofs.Ytagmmgcdebgfnaa
