
/- One form for the contracts of the laws' own functions, type by type: what a value reads as, what it owns, how great it is. -/
import Derived.Test.YtagmmgcdebgfnaaResI
import Derived.Test.YtagmmgcdebgfnaaSz
import Derived.Test.YtagmmgcdebgfnaaTo
namespace Go.Proofs.Ytagmmgcdebgfnaa
open Go.RowKit
set_option maxRecDepth 100000

/-- The cells of block b, from the first on. -/
def Bx (w : World) (b : Nat) (vs : List Value) : Prop := ∀ i v, vs[i]? = some v → w.cell? ⟨b, i, none⟩ = some v
theorem Bx.new (w : World) (vs : List Value) (t : TypeId) : Bx (w.alloc (.cells vs.toArray t)) w.heap.size vs := fun i v h => by rw [new_cell]; simpa using h
theorem Bx.later {w w' : World} {b : Nat} {vs : List Value} (h : Bx w b vs) (hb : Below w.heap.size w w') : Bx w' b vs := fun i v e => cell_later hb (h i v e)
theorem Bx.chg {w w' : World} {b : Nat} {vs : List Value} {F : Nat → Prop} (h : Bx w b vs) (hc : Chg F w w') (hf : ¬ F b) : Bx w' b vs := fun i v e => by
  have := h i v e
  exact (hc.cell (a := ⟨b, i, none⟩) (World.block_lt_of_cell? _ _ this) hf).trans this
theorem Bx.lt {w : World} {b : Nat} {v : Value} {vs : List Value} (h : Bx w b (v :: vs)) : b < w.heap.size := World.block_lt_of_cell? _ _ (h 0 v rfl)

/-- Lists of integers. -/
theorem IntsO.reads {w : World} {v : Value} {zs : List Int} {F : Nat → Prop} (h : IntsO w v zs F) : Ints w v zs := h.ints
theorem toIntsU {w : World} {v : Value} {zs : List Int} (h : Ints w v zs) (hn : zs.length ≤ 1048576) :
    Calls Try.prog 48 #[v] w fun e w' => ∃ a n c, e = .returned (.slice a n c) ∧ Below w.heap.size w w' ∧ IntsO w' (.slice a n c) zs (fresh w w') :=
  (toInts_any h hn).mono fun _ _ ⟨h1, h2, h3⟩ => ⟨_, _, _, h1, h2, h3⟩
theorem eqIntsU {w : World} {v v' : Value} {zs : List Int} (h : Ints w v zs) (h' : Ints w v' zs) : Calls Try.prog 51 #[v, v'] w fun e w' => e = .returned (.bool true) ∧ Below w.heap.size w w' :=
  (eqInts_any h h').mono fun _ _ ⟨h1, m, h2⟩ => ⟨by rw [h1, beq_self_eq_true], h2 ▸ below_drewN (Below.refl _ _) m⟩
theorem markIntsU {w : World} {v : Value} {zs : List Int} {F : Nat → Prop} (k : Int) (h : IntsO w v zs F) (hk0 : 0 ≤ k) (hk : k + (zs.length : Nat) ≤ 4611686018427387904) :
    Calls Try.prog 89 #[v, .int .i64 k] w fun e w' => e = .returned (.int .i64 (k + (zs.length : Nat))) ∧ Chg F w w' :=
  (markInts_any k h hk0 hk).mono fun _ _ ⟨h1, _, h2⟩ => ⟨h1, h2⟩

/-- Disks. -/
abbrev DK := List (List Int) × List (Int × List Int)
def DiskR (w : World) (vB vC : Value) (d : DK) : Prop := IntsS w vB d.1 ∧ Puts w vC d.2
theorem DiskR.later {w w' : World} {vB vC : Value} {d : DK} (h : DiskR w vB vC d) (hb : Below w.heap.size w w') : DiskR w' vB vC d := ⟨h.1.later hb, h.2.later hb⟩
def DiskU (w : World) (vB vC : Value) (d : DK) (F : Nat → Prop) : Prop := DiskO w vB vC d.1 d.2 F
theorem DiskU.reads {w : World} {vB vC : Value} {d : DK} {F : Nat → Prop} (h : DiskU w vB vC d F) : DiskR w vB vC d := ⟨DiskO.ints h, DiskO.puts h⟩
theorem DiskU.later {w w' : World} {vB vC : Value} {d : DK} {F : Nat → Prop} (h : DiskU w vB vC d F) (hb : Below w.heap.size w w') : DiskU w' vB vC d F := DiskO.later h hb
theorem DiskU.mono {w : World} {vB vC : Value} {d : DK} {F G : Nat → Prop} (h : DiskU w vB vC d F) (e : ∀ b, F b → G b) : DiskU w vB vC d G := DiskO.mono h e
theorem DiskU.chg {w w' : World} {vB vC : Value} {d : DK} {F G : Nat → Prop} (h : DiskU w vB vC d F) (hc : Chg G w w') (hd : ∀ b, F b → ¬ G b) : DiskU w' vB vC d F := DiskO.chg h hc hd
def sizeDisk (d : DK) : Nat := dsize d.1 d.2
theorem szDiskU (w : World) (aB : Option Addr) (nB cB : Nat) (aC : Option Addr) (nC cC : Nat) (d : DK) (h : DiskR w (.slice aB nB cB) (.slice aC nC cC) d) (left : Int) (l0 : 0 ≤ left) (l1 : left ≤ 1048576) :
    Calls Try.prog 20 #[.agg #[.slice aB nB cB, .slice aC nC cC], .int .i64 left] w fun e w' => e = .returned (.int .i64 (szf left (sizeDisk d))) ∧ Below w.heap.size w w' := szDisk_any w aB aC nB cB nC cC d.1 d.2 h.1 h.2 left l0 l1
theorem toDiskU (w : World) (aB : Option Addr) (nB cB : Nat) (aC : Option Addr) (nC cC : Nat) (d : DK) (h : DiskR w (.slice aB nB cB) (.slice aC nC cC) d) (hs : sizeDisk d ≤ 1048576) :
    Calls Try.prog 22 #[.agg #[.slice aB nB cB, .slice aC nC cC]] w fun e w' => ∃ dB eB fB dC eC fC, e = .returned (.agg #[.slice dB eB fB, .slice dC eC fC]) ∧ Below w.heap.size w w' ∧ DiskU w' (.slice dB eB fB) (.slice dC eC fC) d (fresh w w') := by
  unfold sizeDisk dsize at hs
  exact (toDisk_any w aB aC nB cB nC cC d.1 d.2 h.1 h.2 (by omega) (by omega)).mono fun e w' ⟨dB, eB, fB, dC, eC, fC, h1, h2, h3⟩ => ⟨dB, eB, fB, dC, eC, fC, h1, h2, h3⟩
theorem eqDiskU (w : World) (vB vC vB' vC' : Value) (d : DK) (h : DiskR w vB vC d) (h' : DiskR w vB' vC' d) : Calls Try.prog 24 #[.agg #[vB, vC], .agg #[vB', vC']] w fun e w' => e = .returned (.bool true) ∧ Below w.heap.size w w' :=
  eqDisk_true w vB vC vB' vC' d.1 d.2 h.1 h.2 h'.1 h'.2
def spanDisk (d : DK) : Nat := dspan d.1 d.2
theorem spanDisk_le (d : DK) : spanDisk d ≤ sizeDisk d := by unfold spanDisk sizeDisk dspan dsize; omega
theorem markDiskU (w : World) (vB vC : Value) (d : DK) (F : Nat → Prop) (k : Int) (h : DiskU w vB vC d F) (hk0 : 0 ≤ k) (hk : k + (spanDisk d : Nat) ≤ 4611686018427387904) :
    Calls Try.prog 28 #[.agg #[vB, vC], .int .i64 k] w fun e w' => e = .returned (.int .i64 (k + (spanDisk d : Nat))) ∧ Chg F w w' := markDsk w vB vC d.1 d.2 F k h hk0 hk

/-- Answers that are a code and a disk. -/
def AnsDR (w : World) (r : Int × DK) (e : Ending) (w' : World) : Prop := ∃ aB nB cB aC nC cC, e = .returned (.agg #[.int .i64 r.1, .slice aB nB cB, .slice aC nC cC]) ∧ Below w.heap.size w w' ∧ DiskU w' (.slice aB nB cB) (.slice aC nC cC) r.2 (fresh w w')
theorem AnsDisk.uni {w w' : World} {c : Int} {bs : List (List Int)} {ps : List (Int × List Int)} {e : Ending} (h : AnsDisk w c bs ps e w') : AnsDR w (c, bs, ps) e w' := by
  obtain ⟨aB, nB, cB, aC, nC, cC, h1, h2⟩ := h
  exact ⟨aB, nB, cB, aC, nC, cC, h1, h2.below, h2.disk⟩
def mkDisk (k : Int) (d : DK) : DK := (marksS k (d.1.map List.length), marksP (k + ((d.1.map List.length).sum : Nat)) (wlens d.2))
end Go.Proofs.Ytagmmgcdebgfnaa
