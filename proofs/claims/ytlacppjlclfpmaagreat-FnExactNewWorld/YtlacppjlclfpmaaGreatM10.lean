/- The specification: has each block just the bytes that it should have? The program's copying of a file system. The program's copying of a file system: the walk. The program's faults of lists of inodes and of busy blocks. The program's counts of who needs a block: an array. -/
import Derived.Test.YtlacppjlclfpmaaGreatM09
import Derived.Deep.RegionHeld3
import Derived.Test.YtlacppjlclfpmaaGreatM08
import Derived.Test.YtlacppjlclfpmaaGreatM06
import Derived.Test.YtlacppjlclfpmaaGreatM07
import Derived.Deep.WholeRow
namespace Go.Proofs.YtlacppjlclfpmaaGreat
open Go.RowKit
set_option maxRecDepth 100000

theorem ino_size {d : ID} (h : inoF d = 0) : 0 ≤ d.2.2.1 ∧ d.2.2.1 ≤ 32 ∧ ((d.2.2.2.1.length : Nat) : Int) = (d.2.2.1 + 7) / 8 := by
  unfold inoF at h
  have fp : fpB d = false → d.2.2.1 = 0 ∧ d.2.2.2.1.length = 0 := fun hf => by
    unfold fpB at hf
    simp at hf
    exact ⟨hf.1.2, by rw [hf.2]; rfl⟩
  by_cases h0 : d.1 = 0
  · rw [if_pos h0] at h
    have hf : fpB d = false := by
      cases e : fpB d with
      | false => rfl
      | true => rw [e] at h; simp at h
    obtain ⟨h1, h2⟩ := fp hf
    omega
  · rw [if_neg h0] at h
    by_cases h1 : d.1 = 1
    · rw [if_pos h1] at h
      have hd : dpB d = false := by
        cases e : dpB d with
        | false => rfl
        | true => rw [e] at h; simp at h
      rw [hd] at h
      simp only [Bool.false_eq_true, if_false] at h
      unfold fileF at h
      by_cases hl : linkB d.2.1 = true ∧ sizeB d.2.2.1 = true
      · rw [if_pos hl] at h
        have hz := hl.2
        unfold sizeB at hz
        simp at hz
        by_cases hb : ((d.2.2.2.1.length : Nat) : Int) = (d.2.2.1 + 7) / 8
        · exact ⟨hz.1, hz.2, hb⟩
        · rw [if_neg hb] at h; omega
      · rw [if_neg hl] at h; omega
    · rw [if_neg h1] at h
      by_cases h2 : d.1 = 2
      · rw [if_pos h2] at h
        have hf : fpB d = false := by
          cases e : fpB d with
          | false => rfl
          | true => rw [e] at h; simp at h
        obtain ⟨h3, h4⟩ := fp hf
        omega
      · rw [if_neg h2] at h; omega
theorem ino_six {d : ID} (h : inoF d = 0) : d.2.2.2.2.length ≤ 6 := by
  unfold inoF at h
  have dp : dpB d = false → d.2.2.2.2.length = 0 := fun hd => by unfold dpB at hd; simp at hd; rw [hd]; rfl
  by_cases h0 : d.1 = 0
  · rw [if_pos h0] at h
    have hd : dpB d = false := by
      cases e : dpB d with
      | false => rfl
      | true => rw [e] at h; simp at h
    have := dp hd
    omega
  · rw [if_neg h0] at h
    by_cases h1 : d.1 = 1
    · rw [if_pos h1] at h
      have hd : dpB d = false := by
        cases e : dpB d with
        | false => rfl
        | true => rw [e] at h; simp at h
      have := dp hd
      omega
    · rw [if_neg h1] at h
      by_cases h2 : d.1 = 2
      · rw [if_pos h2] at h
        by_cases hf : fpB d = true
        · rw [if_pos hf] at h; omega
        · rw [if_neg hf] at h
          unfold dirF at h
          by_cases h6 : 6 < d.2.2.2.2.length
          · rw [if_pos h6] at h; omega
          · omega
      · rw [if_neg h2] at h; omega

theorem lt_of_cell {w : World} {b o : Nat} {v : Value} (h : w.cell? ⟨b, o, none⟩ = some v) : b < w.heap.size := by
  by_cases hb : b < w.heap.size
  · exact hb
  · simp [World.cell?, Array.getElem?_eq_none (Nat.le_of_not_lt hb)] at h
theorem wrap_in (x : Int) (h0 : -9223372036854775808 ≤ x) (h1 : x ≤ 9223372036854775807) : IntKind.i64.wrap x = x := by
  unfold IntKind.wrap
  simp only [IntKind.signed, IntKind.bits]
  simp
  split <;> omega
def m8 (x : Int) : Int := if 8 < x then 8 else x
def putD (f : Nat → Int) (b v : Int) : Nat → Int := fun i => if i = b.toNat then v else f i
/-- How many bytes each block has to hold, behind k blocks of one inode, behind j inodes. -/
def dueK (s : Int) (bs : List Int) (f : Nat → Int) : Nat → Nat → Int
  | 0 => f
  | k + 1 => putD (dueK s bs f k) (bs[k]?.getD 0) (m8 (s - 8 * (k : Int)))
def dueI (ds : List ID) : Nat → Nat → Int
  | 0 => fun _ => 0
  | j + 1 => dueK (ds[j]?.getD id0).2.2.1 (ds[j]?.getD id0).2.2.2.1 (dueI ds j) (ds[j]?.getD id0).2.2.2.1.length
def sizOK (d : FD) (i : Nat) : Bool := decide ((((d.2[i]?.getD []).length : Nat) : Int) = dueI d.1 d.1.length i)
def sizesB (d : FD) : Bool := (List.range 20).all (sizOK d)
theorem sizesB_no {d : FD} {i : Nat} (hi : i < 20) (h : sizOK d i = false) : sizesB d = false := by
  unfold sizesB
  rw [List.all_eq_false]
  exact ⟨i, by simpa using hi, by simp [h]⟩
theorem sizesB_yes {d : FD} (h : ∀ i, i < 20 → sizOK d i = true) : sizesB d = true := by
  unfold sizesB
  rw [List.all_eq_true]
  intro i hi
  exact h i (by simpa using hi)
def intF (f : Nat → Int) (i : Nat) : Value := .int .i64 (f i)

end Go.Proofs.YtlacppjlclfpmaaGreat

namespace Go.Proofs.YtlacppjlclfpmaaGreat
open Go.RowKit
set_option maxRecDepth 100000

theorem five {α : Type} (c k : Nat) (x0 x1 x2 x3 x4 r : α) : (if c = k + 4 then x4 else if c = k + 3 then x3 else if c = k + 2 then x2 else if c = k + 1 then x1 else if c = k then x0 else r) = (if c = k then x0 else if c = k + 1 then x1 else if c = k + 2 then x2 else if c = k + 3 then x3 else if c = k + 4 then x4 else r) := by
  by_cases h0 : c = k
  · subst h0; simp
  · by_cases h1 : c = k + 1
    · subst h1; simp
    · by_cases h2 : c = k + 2
      · subst h2; simp
      · by_cases h3 : c = k + 3
        · subst h3; simp
        · simp [h0, h1, h2, h3]
/-- Five cells of a row stored one behind the other. -/
def set5F (w : World) (b k : Nat) (x0 x1 x2 x3 x4 : Value) : World := ((((w.setCell ⟨b, k, none⟩ x0).setCell ⟨b, k + 1, none⟩ x1).setCell ⟨b, k + 2, none⟩ x2).setCell ⟨b, k + 3, none⟩ x3).setCell ⟨b, k + 4, none⟩ x4
theorem OwnRow.five {w : World} {b n : Nat} {f : Nat → Value} (h : OwnRow w b n f) (k : Nat) (x0 x1 x2 x3 x4 : Value) : OwnRow (set5F w b k x0 x1 x2 x3 x4) b n (fun c => if c = k then x0 else if c = k + 1 then x1 else if c = k + 2 then x2 else if c = k + 3 then x3 else if c = k + 4 then x4 else f c) :=
  (((((h.set k x0).set (k + 1) x1).set (k + 2) x2).set (k + 3) x3).set (k + 4) x4).congr fun c _ => Go.Proofs.YtlacppjlclfpmaaGreat.five c k x0 x1 x2 x3 x4 (f c)
theorem set5_heap (w : World) (b k : Nat) (x0 x1 x2 x3 x4 : Value) (c : Nat) (h : c ≠ b) : (set5F w b k x0 x1 x2 x3 x4).heap[c]? = w.heap[c]? := by
  unfold set5F
  rw [Below.heap_setCell _ _ _ _ h, Below.heap_setCell _ _ _ _ h, Below.heap_setCell _ _ _ _ h, Below.heap_setCell _ _ _ _ h, Below.heap_setCell _ _ _ _ h]
theorem set5_size (w : World) (b k : Nat) (x0 x1 x2 x3 x4 : Value) : (set5F w b k x0 x1 x2 x3 x4).heap.size = w.heap.size := by simp [set5F, World.setCell]
theorem set5_below {w W : World} {B b : Nat} (hB : Below B w W) (h : B ≤ b) (k : Nat) (x0 x1 x2 x3 x4 : Value) : Below B w (set5F W b k x0 x1 x2 x3 x4) := ((((hB.setCell h _).setCell h _).setCell h _).setCell h _).setCell h _
theorem inCell_put (ds : List ID) (U : Nat → Value × Value) (j : Nat) (hj : j < ds.length) (vB vE : Value) (c : Nat) : (if c = j * 5 then .int .i64 (ds[j]?.getD id0).1 else if c = j * 5 + 1 then .int .i64 (ds[j]?.getD id0).2.1 else if c = j * 5 + 2 then .int .i64 (ds[j]?.getD id0).2.2.1 else if c = j * 5 + 3 then vB else if c = j * 5 + 4 then vE else inCell ds U c) = inCell ds (fun i => if i = j then (vB, vE) else U i) c := by
  rw [← inCell_set ds U j hj (ds[j]?.getD id0) vB vE c]
  have e : ds.set j (ds[j]?.getD id0) = ds := by
    rw [List.getElem?_eq_getElem hj, Option.getD_some, List.set_getElem_self]
  rw [e]
/-- What stands at the head of each round: the first j inodes are copies. -/
def CfI (w : World) (d : FD) (n m bI g so lo : Nat) (u0 : Nat → Value × Value) (wr : World) (j : Nat) : Prop :=
  Below w.heap.size w wr ∧ ((w.heap.size + 2 ≤ bI ∧ bI < lo) ∧ (w.heap.size + 2 ≤ so ∧ so < lo) ∧ bI ≠ so ∧ lo ≤ wr.heap.size) ∧ OwnRow wr (w.heap.size + 1) 2 (fun _ => .slice none 0 0) ∧ OwnRow wr so 2 (fun i => if i = 0 then .slice (some ⟨bI, 0, none⟩) n n else .slice (some ⟨g, 0, none⟩) m m) ∧
    BytsO wr (.slice (some ⟨g, 0, none⟩) m m) d.2 (fun c => c ≠ bI ∧ c ≠ so ∧ w.heap.size + 2 ≤ c ∧ c < lo) ∧ ∃ u s, OwnRow wr bI (n * 5) (inCell d.1 (fun i => if i < j then u i else u0 i)) ∧ BuiltI wr lo j u (fun i => d.1[i]?.getD id0) s
theorem CfI.next {w wr W : World} {d : FD} {n m bI g so lo : Nat} {u0 : Nat → Value × Value} {j : Nat} (h : CfI w d n m bI g so lo u0 wr j) (hj : j < d.1.length) (hb : Below wr.heap.size wr W) (vB vE : Value)
    (hv : InoU W (.int .i64 (d.1[j]?.getD id0).1) (.int .i64 (d.1[j]?.getD id0).2.1) (.int .i64 (d.1[j]?.getD id0).2.2.1) vB vE (d.1[j]?.getD id0) (fresh wr W)) :
    CfI w d n m bI g so lo u0 (set5F W bI (j * 5) (.int .i64 (d.1[j]?.getD id0).1) (.int .i64 (d.1[j]?.getD id0).2.1) (.int .i64 (d.1[j]?.getD id0).2.2.1) vB vE) (j + 1) := by
  obtain ⟨h1, h2, h3, h4, h5, u, s, h6, h7⟩ := h
  have hs := hb.size
  refine ⟨set5_below (h1.trans (hb.mono (by omega))) (by omega) _ _ _ _ _ _, ⟨h2.1, h2.2.1, h2.2.2.1, by rw [set5_size]; omega⟩, (h3.later hb).block (set5_heap _ _ _ _ _ _ _ _ _ (by omega)), (h4.later hb).block (set5_heap _ _ _ _ _ _ _ _ _ (by omega)), (h5.later hb).keep fun c hc _ => set5_heap _ _ _ _ _ _ _ _ _ hc.1, fun i => if i = j then (vB, vE) else u i, _, ((h6.later hb).five _ _ _ _ _ _).congr fun c _ => ?_, (h7.next hb hv).keep (by rw [set5_size]; exact Nat.le_refl _) fun c hc _ => set5_heap _ _ _ _ _ _ _ _ _ (by omega)⟩
  rw [inCell_put d.1 _ j hj vB vE c]
  congr 1
  funext i
  by_cases e : i = j
  · subst e; simp
  · by_cases e2 : i < j
    · simp [e, e2, show i < j + 1 by omega]
    · simp [e, e2, show ¬ i < j + 1 by omega]
theorem CfI.fs {w wr : World} {d : FD} {n m bI g so lo : Nat} {u0 : Nat → Value × Value} (h : CfI w d n m bI g so lo u0 wr n) (hn : d.1.length = n) (hm : n ≤ maxLen) : FsU wr (.slice (some ⟨bI, 0, none⟩) n n) (.slice (some ⟨g, 0, none⟩) m m) d (fun c => w.heap.size + 2 ≤ c ∧ c < wr.heap.size) := by
  obtain ⟨h1, h2, h3, h4, h5, u, s, h6, h7⟩ := h
  have hr : OwnRow wr bI (n * 5) (inCell d.1 u) := h6.congr fun c hc => by
    unfold inCell
    dsimp only
    rw [if_pos (show c / 5 < n by omega)]
  refine ⟨fun c => c = bI ∨ (lo ≤ c ∧ c < wr.heap.size), _, BuiltI.inos d.1 h7 hn ⟨hm, Nat.le_refl _⟩ (by omega) hr _ (Or.inl rfl) (fun c hc hc' => Or.inr ⟨hc, hc'⟩), h5, fun b hb hb' => by omega, fun b hb => by omega⟩
theorem CfI.ino {w wr : World} {d : FD} {n m bI g so lo : Nat} {u0 : Nat → Value × Value} {j : Nat} (h : CfI w d n m bI g so lo u0 wr j) (hj : j < n) : wr.cell? ⟨bI, j * 5, none⟩ = some (.int .i64 (d.1[j]?.getD id0).1) ∧ wr.cell? ⟨bI, j * 5 + 1, none⟩ = some (.int .i64 (d.1[j]?.getD id0).2.1) ∧ wr.cell? ⟨bI, j * 5 + 2, none⟩ = some (.int .i64 (d.1[j]?.getD id0).2.2.1) ∧ wr.cell? ⟨bI, j * 5 + 3, none⟩ = some (u0 j).1 ∧ wr.cell? ⟨bI, j * 5 + 4, none⟩ = some (u0 j).2 ∧ ∀ i, wr.frozen? ⟨bI, i, none⟩ = false := by
  obtain ⟨h1, h2, h3, h4, h5, u, s, h6, h7⟩ := h
  have e0 := h6.cell (i := j * 5) (by omega)
  have e1 := h6.cell (i := j * 5 + 1) (by omega)
  have e2 := h6.cell (i := j * 5 + 2) (by omega)
  have e3 := h6.cell (i := j * 5 + 3) (by omega)
  have e4 := h6.cell (i := j * 5 + 4) (by omega)
  rw [inCell_0] at e0
  rw [inCell_1] at e1
  rw [inCell_2] at e2
  rw [inCell_3, if_neg (by omega)] at e3
  rw [inCell_4, if_neg (by omega)] at e4
  exact ⟨e0, e1, e2, e3, e4, h6.frozen⟩
/-- The cells of a list of inodes that can be read, in the form of a row. -/
theorem AtI.row {w : World} {a : Option Addr} {n : Nat} {ds : List ID} (h : AtI w a n ds) : ∃ u : Nat → Value × Value, (∀ i, i < n → ∃ aB cB aE cE, u i = (.slice aB (ds[i]?.getD id0).2.2.2.1.length cB, .slice aE (ds[i]?.getD id0).2.2.2.2.length cE) ∧ InoR w (.int .i64 (ds[i]?.getD id0).1) (.int .i64 (ds[i]?.getD id0).2.1) (.int .i64 (ds[i]?.getD id0).2.2.1) (u i).1 (u i).2 (ds[i]?.getD id0)) ∧
    ∀ c, c < n * 5 → ∃ b off, a = some ⟨b, off, none⟩ ∧ w.cell? ⟨b, off + c, none⟩ = some (inCell ds u c) := by
  have hx : ∀ i, i < n → ∃ q : (Option Addr × Nat) × (Option Addr × Nat), ∃ b o, a = some ⟨b, o, none⟩ ∧ w.cell? ⟨b, o + i * 5, none⟩ = some (.int .i64 (ds[i]?.getD id0).1) ∧ w.cell? ⟨b, o + i * 5 + 1, none⟩ = some (.int .i64 (ds[i]?.getD id0).2.1) ∧ w.cell? ⟨b, o + i * 5 + 2, none⟩ = some (.int .i64 (ds[i]?.getD id0).2.2.1) ∧ w.cell? ⟨b, o + i * 5 + 3, none⟩ = some (.slice q.1.1 (ds[i]?.getD id0).2.2.2.1.length q.1.2) ∧ w.cell? ⟨b, o + i * 5 + 4, none⟩ = some (.slice q.2.1 (ds[i]?.getD id0).2.2.2.2.length q.2.2) ∧
      InoR w (.int .i64 (ds[i]?.getD id0).1) (.int .i64 (ds[i]?.getD id0).2.1) (.int .i64 (ds[i]?.getD id0).2.2.1) (.slice q.1.1 (ds[i]?.getD id0).2.2.2.1.length q.1.2) (.slice q.2.1 (ds[i]?.getD id0).2.2.2.2.length q.2.2) (ds[i]?.getD id0) := fun i hi => by
    obtain ⟨b, o, e, aB, cB, aE, cE, h0, h1, h2, h3, h4, h5⟩ := h i hi
    exact ⟨((aB, cB), (aE, cE)), b, o, e, h0, h1, h2, h3, h4, h5⟩
  obtain ⟨f, hf⟩ := pickQ hx
  refine ⟨fun i => (.slice (f i).1.1 (ds[i]?.getD id0).2.2.2.1.length (f i).1.2, .slice (f i).2.1 (ds[i]?.getD id0).2.2.2.2.length (f i).2.2), fun i hi => ?_, fun c hc => ?_⟩
  · obtain ⟨b, o, e, h0, h1, h2, h3, h4, h5⟩ := hf i hi
    exact ⟨_, _, _, _, rfl, h5⟩
  · obtain ⟨b, o, e, h0, h1, h2, h3, h4, h5⟩ := hf (c / 5) (by omega)
    refine ⟨b, o, e, ?_⟩
    have : c % 5 = 0 ∨ c % 5 = 1 ∨ c % 5 = 2 ∨ c % 5 = 3 ∨ c % 5 = 4 := by omega
    unfold inCell
    rcases this with hc5 | hc5 | hc5 | hc5 | hc5
    · rw [if_pos hc5, show o + c = o + c / 5 * 5 by omega]; exact h0
    · rw [if_neg (by omega), if_pos hc5, show o + c = o + c / 5 * 5 + 1 by omega]; exact h1
    · rw [if_neg (by omega), if_neg (by omega), if_pos hc5, show o + c = o + c / 5 * 5 + 2 by omega]; exact h2
    · rw [if_neg (by omega), if_neg (by omega), if_neg (by omega), if_pos hc5, show o + c = o + c / 5 * 5 + 3 by omega]; exact h3
    · rw [if_neg (by omega), if_neg (by omega), if_neg (by omega), if_neg (by omega), show o + c = o + c / 5 * 5 + 4 by omega]; exact h4
end Go.Proofs.YtlacppjlclfpmaaGreat

namespace Go.Proofs.YtlacppjlclfpmaaGreat
open Go.RowKit
set_option maxRecDepth 100000

theorem two0 (W : World) (t : TypeId) : OwnRow (W.alloc (.cells #[.slice none 0 0, .slice none 0 0] t)) W.heap.size 2 (fun _ => .slice none 0 0) := (OwnRow.two W (.slice none 0 0) (.slice none 0 0) t).congr fun i _ => by simp
theorem field_rackY (a : Option Addr) (n c : Nat) (w : World) : (Instr.field 76 (.agg #[.slice a n c]) 0).run Tryz.prog w = .ok (.slice a n c) w := by kernel_rfl
set_option maxHeartbeats 64000000 in
theorem copyOfFs_any (w : World) (a1 : Option Addr) (n1 c1 : Nat) (a2 : Option Addr) (n2 c2 : Nat) (d : FD) (h : FsR w (.slice a1 n1 c1) (.slice a2 n2 c2) d) (hs : sizeFs d ≤ 1048576) (h60 : d.2.length ≤ 60) :
    Calls Tryz.prog 31 #[.agg #[.slice a1 n1 c1, .slice a2 n2 c2]] w (AnsFs w d) := by
  obtain ⟨_, _, e1, hm1, hAt⟩ := h.1.open'
  obtain ⟨_, _, e2, hm2, hBt⟩ := h.2.open'
  simp only [Value.slice.injEq] at e1 e2
  obtain ⟨rfl, rfl, rfl⟩ := e1
  obtain ⟨rfl, rfl, rfl⟩ := e2
  obtain ⟨u0, hu0, hrow0⟩ := hAt.row
  have hsz : d.1.length + (isz d.1).sum + (d.2.length + (ylens d.2).sum) ≤ 1048576 := hs
  have HSI : Hid (∀ k : Nat, sizeIno (d.1[k]?.getD id0) ≤ 1048576) := fun k => by
    have := isz_le d.1 k
    omega
  have HU0 : Hid (∀ i, i < d.1.length → ∃ aB cB aE cE, u0 i = (.slice aB (d.1[i]?.getD id0).2.2.2.1.length cB, .slice aE (d.1[i]?.getD id0).2.2.2.2.length cE) ∧ InoR w (.int .i64 (d.1[i]?.getD id0).1) (.int .i64 (d.1[i]?.getD id0).2.1) (.int .i64 (d.1[i]?.getD id0).2.2.1) (u0 i).1 (u0 i).2 (d.1[i]?.getD id0)) := hu0
  have hn1 : d.1.length ≤ 1048576 := by omega
  have hmx : d.1.length ≤ maxLen := hm1.1
  have HMX : Hid (d.1.length ≤ maxLen) := hmx
  have HCI : Hid (∀ W, Below w.heap.size w W → Calls Tryz.prog 56 #[.slice a1 d.1.length c1] W fun e w' => ∃ bI, e = .returned (.slice (some ⟨bI, 0, none⟩) d.1.length d.1.length) ∧ bI = W.heap.size ∧ Below W.heap.size W w' ∧ OwnRow w' bI (d.1.length * 5) (inCell d.1 u0)) := fun W hW => (copyOfI_any d.1 u0 hn1 (fun i hi => by
    obtain ⟨aB, cB, aE, cE, e, _⟩ := hu0 i hi
    rw [e]
    exact ⟨rfl, rfl⟩) (fun c hc => by
    obtain ⟨b, off, e, hcell⟩ := hrow0 c hc
    exact ⟨b, off, e, cell_later hW hcell⟩)).mono fun _ _ ⟨h1, h2, h3⟩ => ⟨_, h1, rfl, h2, h3⟩
  have HCY : Hid (∀ W, Below w.heap.size w W → Calls Tryz.prog 30 #[.slice a2 d.2.length c2] W fun e w' => ∃ g, e = .returned (.agg #[.slice (some ⟨g, 0, none⟩) d.2.length d.2.length]) ∧ Below W.heap.size W w' ∧ BytsO w' (.slice (some ⟨g, 0, none⟩) d.2.length d.2.length) d.2 (fresh W w')) := fun W hW => rackOfY_walk W a2 d.2.length c2 d.2 rfl h60 (fun k hk => by have := ylens_le d.2 k; omega) (hBt.later hW)
  have HB0 : Hid (Below w.heap.size w ((w.alloc (.cells #[.slice a1 d.1.length c1, .slice a2 d.2.length c2] 27)).alloc (.cells #[.slice none 0 0, .slice none 0 0] 27))) := later2 _ _ _
  have hz0 : ((w.alloc (.cells #[.slice a1 d.1.length c1, .slice a2 d.2.length c2] 27)).alloc (.cells #[.slice none 0 0, .slice none 0 0] 27)).heap.size = w.heap.size + 2 := by simp
  have HBX : Hid (Bx ((w.alloc (.cells #[.slice a1 d.1.length c1, .slice a2 d.2.length c2] 27)).alloc (.cells #[.slice none 0 0, .slice none 0 0] 27)) w.heap.size [.slice a1 d.1.length c1, .slice a2 d.2.length c2]) := (Bx.new w [.slice a1 d.1.length c1, .slice a2 d.2.length c2] _).later (later1 _ _)
  have HRS : Hid (OwnRow ((w.alloc (.cells #[.slice a1 d.1.length c1, .slice a2 d.2.length c2] 27)).alloc (.cells #[.slice none 0 0, .slice none 0 0] 27)) (w.heap.size + 1) 2 (fun _ => .slice none 0 0)) := by
    have p2 := OwnRow.two (w.alloc (.cells #[.slice a1 d.1.length c1, .slice a2 d.2.length c2] 27)) (.slice none 0 0) (.slice none 0 0) 27
    rw [World.size_alloc] at p2
    exact p2.congr fun i _ => by simp
  obtain ⟨n, hn⟩ : ∃ n, d.1.length = n := ⟨_, rfl⟩
  obtain ⟨m, hm⟩ : ∃ m, d.2.length = m := ⟨_, rfl⟩
  have HN : Hid (d.1.length = n) := hn
  rw [hn, hm] at HB0 HBX HRS hz0 ⊢
  rw [hn] at HCI hn1 HMX HU0
  rw [hm] at HCY
  have hf := fun a c w => field_rackY a m c w
  clear h hs hsz hAt hBt hm1 hm2 hn hm hu0 hrow0 h60 hmx
  go_enter Tryz.func31, Tryz.ntmps31
  go_wp2_with fail
  generalize ((w.alloc (.cells #[.slice a1 n c1, .slice a2 m c2] 27)).alloc (.cells #[.slice none 0 0, .slice none 0 0] 27)) = W0 at *
  have x0 := HBX.out 0 _ rfl
  have x1 := HBX.out 1 _ rfl
  have hw0 : w.heap.size < W0.heap.size := by omega
  have HZ0 : Hid (W0.heap.size = w.heap.size + 2) := hz0
  clear hz0
  go_region_with (first
    | (have h0 := HB0.out; clear HB0; go_at_call 56
       refine (HCI.out _ (by first | exact h0.drew | exact (h0.trans ((later1 _ _).mono h0.size)).drew)).mono ?_; rintro e v1 ⟨bI, rfl, ebI, hb, hr⟩
       have HV1 : Hid (Below W0.heap.size W0 v1) := by first | exact (Below.refl _ _).drew.trans hb | exact ((later1 _ _).drew).trans (hb.mono (by simp))
       try (have HZ1 : Hid (OwnRow v1 W0.heap.size 2 (fun _ => .slice none 0 0)) := OwnRow.later (two0 _ _) ((Below.refl _ _).drew.trans hb))
       simp at ebI
       first | (have HEB : Hid (bI = W0.heap.size) := ebI) | (have HEB : Hid (bI = W0.heap.size + 1) := ebI)
       clear ebI
       have HI1 : Hid (OwnRow v1 bI (n * 5) (inCell d.1 u0)) := hr
       have HW1 : Hid (Below w.heap.size w v1) := h0.trans (HV1.out.mono h0.size)
       have y1 := cell_later HV1.out x1
       have y0' := cell_later HV1.out x0
       have hwv : w.heap.size < v1.heap.size := Nat.lt_of_lt_of_le hw0 HV1.out.size
       have HVL : Hid (W0.heap.size ≤ v1.heap.size ∧ bI < v1.heap.size) := ⟨HV1.out.size, HI1.out.lt⟩
       clear hb hr h0)
    | (have h0 := HB0.out; clear HB0; go_at_call 30
       refine (HCY.out _ (by first | exact h0.drew | exact (h0.trans ((later1 _ _).mono h0.size)).drew)).mono ?_; rintro e v1 ⟨g, rfl, hb, hy⟩
       have HV1 : Hid (Below W0.heap.size W0 v1) := by first | exact (Below.refl _ _).drew.trans hb | exact ((later1 _ _).drew).trans (hb.mono (by simp))
       try (have HZ1 : Hid (OwnRow v1 W0.heap.size 2 (fun _ => .slice none 0 0)) := OwnRow.later (two0 _ _) ((Below.refl _ _).drew.trans hb))
       have HY1 : Hid (∃ lY hY, BytsO v1 (.slice (some ⟨g, 0, none⟩) m m) d.2 (fun c => lY ≤ c ∧ c < hY) ∧ hY = v1.heap.size ∧ W0.heap.size ≤ lY ∧ (lY = W0.heap.size ∨ lY = W0.heap.size + 1)) := ⟨_, _, hy, rfl, by simp, by simp⟩
       try (have HY1C : Hid (BytsO v1 (.slice (some ⟨g, 0, none⟩) m m) d.2 (fun c => W0.heap.size + 1 ≤ c ∧ c < v1.heap.size)) := hy.mono fun c hc => ⟨by have := hc.1; simp at this; omega, hc.2⟩)
       have HW1 : Hid (Below w.heap.size w v1) := h0.trans (HV1.out.mono h0.size)
       have y0 := cell_later HV1.out x0
       have y1' := cell_later HV1.out x1
       have hwv : w.heap.size < v1.heap.size := Nat.lt_of_lt_of_le hw0 HV1.out.size
       have HVL : Hid (W0.heap.size ≤ v1.heap.size) := HV1.out.size
       clear hb hy h0)
    | (have h1 := HI1.out; clear HI1; go_at_call 30
       refine (HCY.out _ (by first | exact HW1.out | exact HW1.out.trans ((later1 _ _).mono HW1.out.size))).mono ?_; rintro e v2 ⟨g, rfl, hb, hy⟩
       have HVV : Hid (Below v1.heap.size v1 v2) := by first | exact hb | exact (later1 _ _).trans (hb.mono (by simp))
       try (have HZ2 : Hid (OwnRow v2 v1.heap.size 2 (fun _ => .slice none 0 0)) := OwnRow.later (two0 _ _) hb)
       try (have HZ2 : Hid (OwnRow v2 W0.heap.size 2 (fun _ => .slice none 0 0)) := HZ1.out.later HVV.out)
       try (have zc0 := HZ2.out.cell (i := 0) (by omega); have zc1 := HZ2.out.cell (i := 1) (by omega); have zf0 := HZ2.out.frozen 0; have zf1 := HZ2.out.frozen 1; have zl := HZ2.out.lt)
       have HRI : Hid (OwnRow v2 bI (n * 5) (inCell d.1 u0)) := h1.later HVV.out
       have HYI : Hid (∃ lY hY, BytsO v2 (.slice (some ⟨g, 0, none⟩) m m) d.2 (fun c => lY ≤ c ∧ c < hY) ∧ hY = v2.heap.size ∧ v1.heap.size ≤ lY ∧ (lY = v1.heap.size ∨ lY = v1.heap.size + 1)) := ⟨_, _, hy, rfl, by simp, by simp⟩
       try (have HYP : Hid (BytsO v2 (.slice (some ⟨g, 0, none⟩) m m) d.2 (fun c => v1.heap.size + 1 ≤ c ∧ c < v2.heap.size)) := hy.mono fun c hc => ⟨by have := hc.1; simp at this; omega, hc.2⟩)
       clear hb hy h1)
    | (have h1 := HY1.out; clear HY1; go_at_call 56
       refine (HCI.out _ (by first | exact HW1.out | exact HW1.out.trans ((later1 _ _).mono HW1.out.size))).mono ?_; rintro e v2 ⟨bI, rfl, ebI, hb, hr⟩
       have HVV : Hid (Below v1.heap.size v1 v2) := by first | exact hb | exact (later1 _ _).trans (hb.mono (by simp))
       try (have HZ2 : Hid (OwnRow v2 v1.heap.size 2 (fun _ => .slice none 0 0)) := OwnRow.later (two0 _ _) hb)
       try (have HZ2 : Hid (OwnRow v2 W0.heap.size 2 (fun _ => .slice none 0 0)) := HZ1.out.later HVV.out)
       try (have zc0 := HZ2.out.cell (i := 0) (by omega); have zc1 := HZ2.out.cell (i := 1) (by omega); have zf0 := HZ2.out.frozen 0; have zf1 := HZ2.out.frozen 1; have zl := HZ2.out.lt)
       simp at ebI
       first | (have HEB : Hid (bI = v1.heap.size) := ebI) | (have HEB : Hid (bI = v1.heap.size + 1) := ebI)
       clear ebI
       have HRI : Hid (OwnRow v2 bI (n * 5) (inCell d.1 u0)) := hr
       have HYI : Hid (∃ lY hY, BytsO v2 (.slice (some ⟨g, 0, none⟩) m m) d.2 (fun c => lY ≤ c ∧ c < hY) ∧ hY = v1.heap.size ∧ W0.heap.size ≤ lY ∧ (lY = W0.heap.size ∨ lY = W0.heap.size + 1)) := by
         obtain ⟨lY, hY, hy, e1, e2, e3⟩ := h1
         exact ⟨lY, hY, hy.later HVV.out, e1, e2, e3⟩
       try (have HYP : Hid (BytsO v2 (.slice (some ⟨g, 0, none⟩) m m) d.2 (fun c => W0.heap.size + 1 ≤ c ∧ c < v1.heap.size)) := HY1C.out.later HVV.out)
       clear hb hr h1))
  all_goals
    have hrl := HRI.out.lt
    obtain ⟨lY, hY, hyI, el1, el2, el3⟩ := HYI.out
    have HW2 : Hid (Below w.heap.size w v2) := HW1.out.trans (HVV.out.mono HW1.out.size)
    have HR2 : Hid (OwnRow v2 (w.heap.size + 1) 2 (fun _ => .slice none 0 0)) := (HRS.out.later HV1.out).later HVV.out
  all_goals
    have k0 := HEB.out
    have k1 := HVL.out
    have k2 := HZ0.out
    have k3 := HVV.out.size
    first
      | (have HST : Hid (CfI w d n m bI g v1.heap.size (v2.heap.size) u0 ((v2.setCell ⟨v1.heap.size, 0, none⟩ (.slice (some ⟨bI, 0, none⟩) n n)).setCell ⟨v1.heap.size, 1, none⟩ (.slice (some ⟨g, 0, none⟩) m m)) 0) := by
           first
           | exact ⟨(HW2.out.setCell (by simp; omega) _).setCell (by simp; omega) _, ⟨⟨by omega, by omega⟩, ⟨by omega, by omega⟩, by omega, by simp [World.setCell]⟩, (HR2.out.store (by simp; omega) _).store (by simp; omega) _, ((HZ2.out.set 0 _).set 1 _).congr fun i hi => by rcases (show i = 0 ∨ i = 1 by omega) with rfl | rfl <;> rfl, ((HYP.out.keep fun b hb _ => by rw [Below.heap_setCell _ _ _ _ (by simp; omega), Below.heap_setCell _ _ _ _ (by simp; omega)])).mono fun c hc => ⟨by omega, by omega, by omega, by omega⟩, fun _ => (.slice none 0 0, .slice none 0 0), _, ((HRI.out.store (by simp; omega) _).store (by simp; omega) _).congr fun c _ => by simp, BuiltI.nil _ _ (by simp [World.setCell])⟩
           | exact ⟨(HW2.out.setCell (by simp; omega) _).setCell (by simp; omega) _, ⟨⟨by omega, by omega⟩, ⟨by omega, by omega⟩, by omega, by simp [World.setCell]⟩, (HR2.out.store (by simp; omega) _).store (by simp; omega) _, ((HZ2.out.set 0 _).set 1 _).congr fun i hi => by rcases (show i = 0 ∨ i = 1 by omega) with rfl | rfl <;> rfl, ((hyI.keep fun b hb _ => by rw [Below.heap_setCell _ _ _ _ (by simp; omega), Below.heap_setCell _ _ _ _ (by simp; omega)])).mono fun c hc => ⟨by omega, by omega, by omega, by omega⟩, fun _ => (.slice none 0 0, .slice none 0 0), _, ((HRI.out.store (by simp; omega) _).store (by simp; omega) _).congr fun c _ => by simp, BuiltI.nil _ _ (by simp [World.setCell])⟩
         obtain ⟨lo, HST⟩ : ∃ lo, Hid (CfI w d n m bI g v1.heap.size lo u0 ((v2.setCell ⟨v1.heap.size, 0, none⟩ (.slice (some ⟨bI, 0, none⟩) n n)).setCell ⟨v1.heap.size, 1, none⟩ (.slice (some ⟨g, 0, none⟩) m m)) 0) := ⟨_, HST⟩
         clear hyI el1 el2 el3 HEB HVL HZ0 hrl HYI HRI HR2 HW2 HVV HV1 HRS HBX HCI HCY
         generalize (v2.setCell ⟨v1.heap.size, 0, none⟩ (.slice (some ⟨bI, 0, none⟩) n n)).setCell ⟨v1.heap.size, 1, none⟩ (.slice (some ⟨g, 0, none⟩) m m) = W5 at *
         generalize v1.heap.size = so at *)
      | (have HST : Hid (CfI w d n m bI g W0.heap.size (v2.heap.size) u0 ((v2.setCell ⟨W0.heap.size, 0, none⟩ (.slice (some ⟨bI, 0, none⟩) n n)).setCell ⟨W0.heap.size, 1, none⟩ (.slice (some ⟨g, 0, none⟩) m m)) 0) := by
           first
           | exact ⟨(HW2.out.setCell (by simp; omega) _).setCell (by simp; omega) _, ⟨⟨by omega, by omega⟩, ⟨by omega, by omega⟩, by omega, by simp [World.setCell]⟩, (HR2.out.store (by simp; omega) _).store (by simp; omega) _, ((HZ2.out.set 0 _).set 1 _).congr fun i hi => by rcases (show i = 0 ∨ i = 1 by omega) with rfl | rfl <;> rfl, ((HYP.out.keep fun b hb _ => by rw [Below.heap_setCell _ _ _ _ (by simp; omega), Below.heap_setCell _ _ _ _ (by simp; omega)])).mono fun c hc => ⟨by omega, by omega, by omega, by omega⟩, fun _ => (.slice none 0 0, .slice none 0 0), _, ((HRI.out.store (by simp; omega) _).store (by simp; omega) _).congr fun c _ => by simp, BuiltI.nil _ _ (by simp [World.setCell])⟩
           | exact ⟨(HW2.out.setCell (by simp; omega) _).setCell (by simp; omega) _, ⟨⟨by omega, by omega⟩, ⟨by omega, by omega⟩, by omega, by simp [World.setCell]⟩, (HR2.out.store (by simp; omega) _).store (by simp; omega) _, ((HZ2.out.set 0 _).set 1 _).congr fun i hi => by rcases (show i = 0 ∨ i = 1 by omega) with rfl | rfl <;> rfl, ((hyI.keep fun b hb _ => by rw [Below.heap_setCell _ _ _ _ (by simp; omega), Below.heap_setCell _ _ _ _ (by simp; omega)])).mono fun c hc => ⟨by omega, by omega, by omega, by omega⟩, fun _ => (.slice none 0 0, .slice none 0 0), _, ((HRI.out.store (by simp; omega) _).store (by simp; omega) _).congr fun c _ => by simp, BuiltI.nil _ _ (by simp [World.setCell])⟩
         obtain ⟨lo, HST⟩ : ∃ lo, Hid (CfI w d n m bI g W0.heap.size lo u0 ((v2.setCell ⟨W0.heap.size, 0, none⟩ (.slice (some ⟨bI, 0, none⟩) n n)).setCell ⟨W0.heap.size, 1, none⟩ (.slice (some ⟨g, 0, none⟩) m m)) 0) := ⟨_, HST⟩
         clear hyI el1 el2 el3 HEB HVL HZ0 hrl HYI HRI HR2 HW2 HVV HV1 HRS HBX HCI HCY
         generalize (v2.setCell ⟨W0.heap.size, 0, none⟩ (.slice (some ⟨bI, 0, none⟩) n n)).setCell ⟨W0.heap.size, 1, none⟩ (.slice (some ⟨g, 0, none⟩) m m) = W5 at *
         generalize W0.heap.size = so at *)
      | (have HST : Hid (CfI w d n m bI g v2.heap.size (v2.heap.size + 1) u0 (v2.alloc (.cells #[.slice (some ⟨bI, 0, none⟩) n n, .slice (some ⟨g, 0, none⟩) m m] 27)) 0) := by
           first
           | exact ⟨HW2.out.trans ((later1 _ _).mono HW2.out.size), ⟨⟨by omega, by omega⟩, ⟨by omega, by omega⟩, by omega, by simp⟩, HR2.out.later (later1 _ _), OwnRow.two _ _ _ _, ((hyI.later (later1 _ _))).mono fun c hc => ⟨by omega, by omega, by omega, by omega⟩, fun _ => (.slice none 0 0, .slice none 0 0), _, (HRI.out.later (later1 _ _)).congr fun c _ => by simp, BuiltI.nil _ _ (by simp)⟩
         obtain ⟨lo, HST⟩ : ∃ lo, Hid (CfI w d n m bI g v2.heap.size lo u0 (v2.alloc (.cells #[.slice (some ⟨bI, 0, none⟩) n n, .slice (some ⟨g, 0, none⟩) m m] 27)) 0) := ⟨_, HST⟩
         clear hyI el1 el2 el3 HEB HVL HZ0 hrl HYI HRI HR2 HW2 HVV HV1 HRS HBX HCI HCY
         generalize v2.alloc (.cells #[.slice (some ⟨bI, 0, none⟩) n n, .slice (some ⟨g, 0, none⟩) m m] 27) = W5 at *
         generalize v2.heap.size = so at *)
    have ho0 : W5.cell? ⟨so, 0, none⟩ = some (.slice (some ⟨bI, 0, none⟩) n n) := HST.out.2.2.2.1.cell (i := 0) (by omega)
    clear k0 k1 k2 k3
    go_wp2_with fail
    go_loopw [17] (fun i wr => ∃ j : Nat, j ≤ n ∧ i = .int .i64 j ∧ CfI w d n m bI g so lo u0 wr j) (fun i _ => n - (intOf i).toNat)
    case atStart => exact ⟨0, Nat.zero_le _, rfl, HST.out⟩
    case round =>
      clear HST
      obtain ⟨j, hj, rfl, hc⟩ := hrel
      have HC : Hid (CfI w d n m bI g so lo u0 wr j) := hc
      have hl := hc.2.1
      have hl1 : so < wr.heap.size := by omega
      have hl2 : bI < wr.heap.size := by omega
      have o0 : wr.cell? ⟨so, 0, none⟩ = some (.slice (some ⟨bI, 0, none⟩) n n) := hc.2.2.2.1.cell (i := 0) (by omega)
      by_cases hlt : j < n
      · obtain ⟨i0, i1, i2, i3, i4, i5⟩ := hc.ino hlt
        obtain ⟨aB, cB, aE, cE, eu, hir⟩ := HU0.out j hlt
        rw [eu] at i3 i4 hir
        have i50 := i5 (j * 5)
        have i51 := i5 (j * 5 + 1)
        have i52 := i5 (j * 5 + 2)
        have i53 := i5 (j * 5 + 3)
        have i54 := i5 (j * 5 + 4)
        have HCN : Hid (∀ W, Below wr.heap.size wr W → Calls Tryz.prog 57 #[.agg #[.int .i64 (d.1[j]?.getD id0).1, .int .i64 (d.1[j]?.getD id0).2.1, .int .i64 (d.1[j]?.getD id0).2.2.1, .slice aB (d.1[j]?.getD id0).2.2.2.1.length cB, .slice aE (d.1[j]?.getD id0).2.2.2.2.length cE]] W (AnsIno W (d.1[j]?.getD id0))) := fun W hW => copyOfInode_any W aB _ cB aE _ cE _ ((hir.later hc.1).later hW) (HSI.out j)
        have HNX : Hid (∀ W vB vE, Below wr.heap.size wr W → InoU W (.int .i64 (d.1[j]?.getD id0).1) (.int .i64 (d.1[j]?.getD id0).2.1) (.int .i64 (d.1[j]?.getD id0).2.2.1) vB vE (d.1[j]?.getD id0) (fresh wr W) → CfI w d n m bI g so lo u0 (set5F W bI (j * 5) (.int .i64 (d.1[j]?.getD id0).1) (.int .i64 (d.1[j]?.getD id0).2.1) (.int .i64 (d.1[j]?.getD id0).2.2.1) vB vE) (j + 1)) := fun W vB vE hW hv => hc.next (by rw [HN.out]; exact hlt) hW vB vE hv
        clear hc hir i5 eu HSI HU0
        obtain ⟨x, hx⟩ : ∃ x, d.1[j]?.getD id0 = x := ⟨_, rfl⟩
        rw [hx] at i0 i1 i2 i3 i4 HCN HNX
        clear hx
        obtain ⟨z0, z1, z2, zb, ze⟩ := x
        dsimp only at i0 i1 i2 i3 i4 HCN HNX
        have hne1 : so ≠ bI := by omega
        have hne2 : bI ≠ so := by omega
        have hne3 : wr.heap.size ≠ bI := by omega
        have hne4 : bI ≠ wr.heap.size := by omega
        generalize zb.length = lB at *
        generalize ze.length = lE at *
        go_wp2_with fail
        go_region_held3 (fun W => W.cell? ⟨so, 0, none⟩ = some (.slice (some ⟨bI, 0, none⟩) n n) ∧ W.cell? ⟨wr.heap.size, 0, none⟩ = some (.int .i64 z0) ∧ W.cell? ⟨wr.heap.size, 1, none⟩ = some (.int .i64 z1) ∧ W.cell? ⟨wr.heap.size, 2, none⟩ = some (.int .i64 z2) ∧ W.cell? ⟨wr.heap.size, 3, none⟩ = some (.slice aB lB cB) ∧ W.cell? ⟨wr.heap.size, 4, none⟩ = some (.slice aE lE cE)) (go_keep) (first
          | (go_at_call 57; refine (HCN.out _ (later1 _ _).drew).mono ?_; rintro e v3 ⟨b1, m1, e1, b2, m2, e2, rfl, hb, ho⟩
             have HB3 : Hid (Below wr.heap.size wr v3) := ((later1 wr _).drew).trans (hb.mono (by simp [World.drew]))
             have hX3 : Bx v3 wr.heap.size [.int .i64 z0, .int .i64 z1, .int .i64 z2, .slice aB lB cB, .slice aE lE cE] := ((Bx.new wr [.int .i64 z0, .int .i64 z1, .int .i64 z2, .slice aB lB cB, .slice aE lE cE] _).later (Below.refl _ _).drew).later hb
             have g0 := hX3 0 _ rfl
             have g1 := hX3 1 _ rfl
             have g2 := hX3 2 _ rfl
             have g3 := hX3 3 _ rfl
             have g4 := hX3 4 _ rfl
             have k0 := cell_later HB3.out o0
             have k1 := cell_later HB3.out i0
             have k2 := cell_later HB3.out i1
             have k3 := cell_later HB3.out i2
             have k4 := cell_later HB3.out i3
             have k5 := cell_later HB3.out i4
             have f0 := (HB3.out.frozen (p := ⟨bI, j * 5, none⟩) hl2).trans i50
             have f1 := (HB3.out.frozen (p := ⟨bI, j * 5 + 1, none⟩) hl2).trans i51
             have f2 := (HB3.out.frozen (p := ⟨bI, j * 5 + 2, none⟩) hl2).trans i52
             have f3 := (HB3.out.frozen (p := ⟨bI, j * 5 + 3, none⟩) hl2).trans i53
             have f4 := (HB3.out.frozen (p := ⟨bI, j * 5 + 4, none⟩) hl2).trans i54
             have HNN : Hid (CfI w d n m bI g so lo u0 (set5F v3 bI (j * 5) (.int .i64 z0) (.int .i64 z1) (.int .i64 z2) (.slice b1 m1 e1) (.slice b2 m2 e2)) (j + 1)) := HNX.out v3 _ _ HB3.out (ho.mono fun c hc => ⟨by have := hc.1; simp [World.drew] at this; omega, hc.2⟩)
             clear hb ho)
          | fail)
        all_goals
          clear HCN HNX
          go_wp2
          go_roundw
          case rel => exact ⟨j + 1, by omega, by go_num, HNN.out⟩
          case measure => simp [intOf]; omega
      · have e : j = n := by omega
        subst e
        have HFS : Hid (FsU wr (.slice (some ⟨bI, 0, none⟩) j j) (.slice (some ⟨g, 0, none⟩) m m) d (fun c => w.heap.size + 2 ≤ c ∧ c < wr.heap.size)) := hc.fs HN.out HMX.out
        have HBW : Hid (Below w.heap.size w wr) := hc.1
        have o1 : wr.cell? ⟨so, 1, none⟩ = some (.slice (some ⟨g, 0, none⟩) m m) := hc.2.2.2.1.cell (i := 1) (by omega)
        have hrr := hc.2.2.1
        have t0 := hrr.cell (i := 0) (by omega)
        have t1 := hrr.cell (i := 1) (by omega)
        have s0 := hrr.frozen 0
        have s1 := hrr.frozen 1
        clear hc hrr HC
        go_wp2
        refine bodyPost_ret (v := .agg #[.slice (some ⟨bI, 0, none⟩) j j, .slice (some ⟨g, 0, none⟩) m m]) (by simp [results, Tryz.results31, go_sem, t0, t1]) rfl ⟨_, _, _, _, _, _, rfl, (HBW.out.setCell (by simp) _).setCell (by simp) _, (HFS.out.keep fun b hb _ => ?_).mono fun b hb => ?_⟩
        · rw [Below.heap_setCell _ _ _ _ (by simp; omega), Below.heap_setCell _ _ _ _ (by simp; omega)]
        · unfold fresh
          simp only [World.setCell, Array.size_modify]
          omega
end Go.Proofs.YtlacppjlclfpmaaGreat

namespace Go.Proofs.YtlacppjlclfpmaaGreat
open Go.RowKit
set_option maxRecDepth 100000

set_option maxHeartbeats 800000 in
theorem inodesFault_many (w : World) (a : Option Addr) (n c : Nat) (hn : 10 < n) :
    Calls Tryz.prog 91 #[.slice a n c] w fun e w' => e = .returned (.int .i64 2) ∧ w' = w := by
  have h6 : decide ((10 : Int) < (n : Int)) = true := by simp; omega
  go_enter Tryz.func91, Tryz.ntmps91
  go_wp2
  go_ret
  exact ⟨rfl, rfl⟩

set_option maxHeartbeats 1600000 in
theorem inodesFault_walk (w : World) (a : Option Addr) (n c : Nat) (ds : List ID) (hn : n ≤ 10) (hdn : ds.length = n) (hz : ∀ k : Nat, sizeIno (ds[k]?.getD id0) ≤ 1048576) (hc : AtI w a n ds) :
    Calls Tryz.prog 91 #[.slice a n c] w fun e w' => e = .returned (.int .i64 (fstNZ (fun i => inoF (ds[i]?.getD id0)) ds.length)) ∧ Below w.heap.size w w' := by
  have HC : Hid (AtI w a n ds) := hc
  have HN : Hid (ds.length = n) := hdn
  have HSZ : Hid (∀ k : Nat, sizeIno (ds[k]?.getD id0) ≤ 1048576) := hz
  have h6 : decide ((10 : Int) < (n : Int)) = false := by simp; omega
  clear hc hdn hz
  go_enter Tryz.func91, Tryz.ntmps91
  go_wp2
  go_loopw [11] (fun i wr => ∃ j : Nat, j ≤ n ∧ i = .int .i64 j ∧ Below w.heap.size w wr ∧ ∀ i : Nat, i < j → inoF (ds[i]?.getD id0) = 0) (fun i _ => n - (intOf i).toNat)
  case atStart => exact ⟨0, Nat.zero_le _, rfl, Below.refl _ _, fun i hi => by omega⟩
  case round =>
    obtain ⟨j, hj, rfl, hbl, hz⟩ := hrel
    have HZ : Hid (∀ i : Nat, i < j → inoF (ds[i]?.getD id0) = 0) := hz
    have HBL : Hid (Below w.heap.size w wr) := hbl
    clear hz hbl
    by_cases hlt : j < n
    · obtain ⟨b, o, rfl, hI⟩ := HC.out j hlt
      obtain ⟨aB, cB, aE, cE, c0, c1, c2, c3, c4, hR⟩ := hI.later HBL.out
      have HF : Hid (∀ W, Below wr.heap.size wr W → Calls Tryz.prog 90 #[.agg #[.int .i64 (ds[j]?.getD id0).1, .int .i64 (ds[j]?.getD id0).2.1, .int .i64 (ds[j]?.getD id0).2.2.1, .slice aB (ds[j]?.getD id0).2.2.2.1.length cB, .slice aE (ds[j]?.getD id0).2.2.2.2.length cE]] W fun e w' => e = .returned (.int .i64 (inoF (ds[j]?.getD id0))) ∧ Below W.heap.size W w') := fun W hW => implInoU W _ _ _ aB _ cB aE _ cE (ds[j]?.getD id0) (hR.later hW) (HSZ.out j)
      clear hI hR
      have HR : Hid (inoF (ds[j]?.getD id0) = 0 → (∀ i : Nat, i < j + 1 → inoF (ds[i]?.getD id0) = 0)) := fun h i hi => by
        by_cases e : i = j
        · subst e; exact h
        · exact HZ.out i (by omega)
      have HT : Hid (¬ inoF (ds[j]?.getD id0) = 0 → inoF (ds[j]?.getD id0) = fstNZ (fun i => inoF (ds[i]?.getD id0)) ds.length) := fun h => (fstNZ_at (f := fun i => inoF (ds[i]?.getD id0)) HZ.out h (by rw [HN.out]; exact hlt)).symm
      by_cases hzz : inoF (ds[j]?.getD id0) = 0
      · have HR' : Hid (∀ i : Nat, i < j + 1 → inoF (ds[i]?.getD id0) = 0) := HR.out hzz
        have HZZ : Hid (inoF (ds[j]?.getD id0) = 0) := hzz
        clear HR HT hzz HC
        go_wp2_with fail
        refine (HF.out _ (by first | exact Below.refl _ _ | exact later1 _ _ | exact later2 _ _ _)).mono ?_
        rw [HZZ.out]
        rintro e w1 ⟨rfl, hb⟩
        have HB1 : Hid (Below w.heap.size w w1) := by first | exact HBL.out.trans (hb.mono HBL.out.size) | exact (HBL.out.trans ((later1 _ _).mono HBL.out.size)).trans (hb.mono (HBL.out.trans ((later1 _ _).mono HBL.out.size)).size)
        clear hb
        go_wp2
        go_roundw
        case rel => exact ⟨j + 1, by omega, by go_num, HB1.out, HR'.out⟩
        case measure => simp [intOf]; omega
      · have HT' : Hid (inoF (ds[j]?.getD id0) = fstNZ (fun i => inoF (ds[i]?.getD id0)) ds.length) := HT.out hzz
        have hzb : (inoF (ds[j]?.getD id0) != 0) = true := by simpa using hzz
        clear HR HT HC hzz
        generalize inoF (ds[j]?.getD id0) = r at *
        go_wp2_with fail
        refine (HF.out _ (by first | exact Below.refl _ _ | exact later1 _ _ | exact later2 _ _ _)).mono ?_
        rintro e w1 ⟨rfl, hb⟩
        have HB1 : Hid (Below w.heap.size w w1) := by first | exact HBL.out.trans (hb.mono HBL.out.size) | exact (HBL.out.trans ((later1 _ _).mono HBL.out.size)).trans (hb.mono (HBL.out.trans ((later1 _ _).mono HBL.out.size)).size)
        clear hb
        go_wp2
        go_ret
        exact ⟨ret_int HT'.out, HB1.out⟩
    · go_wp2
      go_ret
      exact ⟨ret_int (fstNZ_zero (fun i hi => HZ.out i (by rw [HN.out] at hi; omega))).symm, HBL.out⟩
theorem inodesFault_any {w : World} {v : Value} {ds : List ID} (h : Inos w v ds) (hs : sizeInos ds ≤ 1048576) :
    Calls Tryz.prog 91 #[v] w fun e w' => e = .returned (.int .i64 (insF ds)) ∧ Below w.heap.size w w' := by
  obtain ⟨a, cap, rfl, hm, hc⟩ := h.open'
  unfold insF
  by_cases h : 10 < ds.length
  · rw [if_pos h]
    exact (inodesFault_many w _ _ _ h).mono fun e w' ⟨h1, h2⟩ => ⟨h1, h2 ▸ Below.refl _ _⟩
  · rw [if_neg h]
    exact inodesFault_walk w _ _ _ ds (by omega) rfl (fun k => by have := isz_le ds k; unfold sizeInos at hs; omega) hc
end Go.Proofs.YtlacppjlclfpmaaGreat

namespace Go.Proofs.YtlacppjlclfpmaaGreat
open Go.RowKit
set_option maxRecDepth 100000

/-- An array that holds how many need each block. -/
def arrC (f : Nat → Nat) : Array Value := ((List.range 20).map fun i => intV ((f i : Nat) : Int)).toArray
theorem arrC_size (f : Nat → Nat) : (arrC f).size = 20 := by simp [arrC]
theorem arrC_get (f : Nat → Nat) {i : Nat} (h : i < 20) : (arrC f)[i]? = some (.int .i64 ((f i : Nat) : Int)) := by
  simp [arrC, h, intV]
theorem arrC_set (f : Nat → Nat) (q x : Nat) : (arrC f).setIfInBounds q (.int .i64 ((x : Nat) : Int)) = arrC (fun i => if i = q then x else f i) := by
  apply Array.ext_getElem?
  intro i
  rw [Array.getElem?_setIfInBounds]
  by_cases hi : i < 20
  · rw [arrC_get _ hi, arrC_get _ hi, arrC_size]
    by_cases e : q = i
    · subst e; simp [hi]
    · rw [if_neg e, if_neg (fun h => e h.symm)]
  · have h1 : (arrC f)[i]? = none := by rw [Array.getElem?_eq_none_iff, arrC_size]; omega
    have h2 : (arrC (fun i => if i = q then x else f i))[i]? = none := by rw [Array.getElem?_eq_none_iff, arrC_size]; omega
    rw [h1, h2, arrC_size]
    by_cases e : q = i
    · subst e; simp [hi]
    · rw [if_neg e]
/-- Block b holds the counts f. -/
def Arr (w : World) (b : Nat) (f : Nat → Nat) : Prop := w.heap[b]? = some (.cells (arrC f) 133)
theorem Arr.cell {w : World} {b : Nat} {f : Nat → Nat} (h : Arr w b f) {i : Nat} (hi : i < 20) : w.cell? ⟨b, i, none⟩ = some (.int .i64 ((f i : Nat) : Int)) := by
  simp [World.cell?, show w.heap[b]? = some (.cells (arrC f) 133) from h, arrC_get f hi]
theorem Arr.frozen {w : World} {b : Nat} {f : Nat → Nat} (h : Arr w b f) (i : Nat) : w.frozen? ⟨b, i, none⟩ = false := by
  simp [World.frozen?, show w.heap[b]? = some (.cells (arrC f) 133) from h]
theorem Arr.lt {w : World} {b : Nat} {f : Nat → Nat} (h : Arr w b f) : b < w.heap.size := (Array.getElem?_eq_some_iff.1 h).1
theorem Arr.later {w w' : World} {b : Nat} {f : Nat → Nat} (h : Arr w b f) (hb : Below w.heap.size w w') : Arr w' b f := (hb.block b h.lt).trans h
theorem Arr.set {w : World} {b : Nat} {f : Nat → Nat} (h : Arr w b f) (q x : Nat) : Arr (w.setCell ⟨b, q, none⟩ (.int .i64 ((x : Nat) : Int))) b (fun i => if i = q then x else f i) := by
  have h' : w.heap[b]? = some (.cells (arrC f) 133) := h
  unfold Arr
  rw [← arrC_set f q x]
  simp [World.setCell, Array.getElem?_modify, h']
theorem Arr.store {w : World} {b : Nat} {f : Nat → Nat} (h : Arr w b f) {p : Addr} (hp : b ≠ p.block) (v : Value) : Arr (w.setCell p v) b f := (Below.heap_setCell _ _ _ _ hp).trans h
theorem Arr.new (w : World) (f : Nat → Nat) : Arr (w.alloc (.cells (arrC f) 133)) w.heap.size f := Go.Deep.blk_alloc_new _ _

theorem arrC_one (f : Nat → Nat) : (arrC f).all (·.oneCell') = true := by
  unfold arrC
  rw [Array.all_eq_true_iff_forall_mem]
  intro v hv
  simp only [List.mem_toArray, List.mem_map] at hv
  obtain ⟨i, _, rfl⟩ := hv
  rfl
theorem Tryz.infoNeeds : (Tryz.prog.info? 133).map (·.size) = some 20 := by kernel_rfl
theorem Arr.load {w : World} {b : Nat} {f : Nat → Nat} (h : Arr w b f) : (Instr.loadAt 133 (.pointer (some ⟨b, 0, none⟩))).run Tryz.prog w = .ok (.agg (arrC f)) w := by
  simp only [Instr.loadAt, Instr.sureAddr, Sem.run_bind, Sem.run_pure, Result.andThen]
  exact run_loadVar_row w b _ _ (arrC f) (0, 0) _ h Tryz.underlying133 rfl (by rw [arrC_size]; exact Tryz.infoNeeds)
theorem Arr.loadV {w : World} {b : Nat} {f : Nat → Nat} (h : Arr w b f) : (loadVar 133 ⟨b, 0, none⟩).run Tryz.prog w = .ok (.agg (arrC f)) w :=
  run_loadVar_row w b _ _ (arrC f) (0, 0) _ h Tryz.underlying133 rfl (by rw [arrC_size]; exact Tryz.infoNeeds)
theorem Arr.put {w : World} {b : Nat} {f : Nat → Nat} (h : Arr w b f) (g : Nat → Nat) : ∃ X, (Instr.storeAt 133 (.pointer (some ⟨b, 0, none⟩)) (.agg (arrC g))).run Tryz.prog w = .ok () X ∧ Arr X b g ∧ X.heap.size = w.heap.size ∧ (∀ c, c ≠ b → X.heap[c]? = w.heap[c]?) ∧ X.os = w.os ∧ X.tape = w.tape ∧ X.output = w.output := by
  refine ⟨w.setRow b (arrC g), ?_, ?_, ?_, fun c hc => ?_, rfl, rfl, rfl⟩
  · simp only [Instr.storeAt, Instr.sureAddr, Sem.run_bind, Sem.run_pure, Result.andThen]
    rw [run_storeVar_row w b _ _ (arrC f) (arrC g) h (by rw [arrC_size]; exact Tryz.infoNeeds) (by rw [arrC_size, arrC_size]) (arrC_one g)]
  · have h' : w.heap[b]? = some (.cells (arrC f) 133) := h
    unfold Arr
    simp [World.setRow, Array.getElem?_modify, h']
  · simp [World.setRow]
  · simp only [World.setRow]
    rw [Array.getElem?_modify, if_neg (fun e => hc e.symm)]
section
variable {P : Program} {w : World}
/-- A load, a store whose run is known, at its place in a walk. -/
theorem wpList_load_run {ops : Array Oper} {rest : List Oper} {o : Oper} {a : Act} {Q : Exit → Act → World → Prop} (hgd : o.guard = none) (s : Operand) (t : TypeId) (ho : o.op = .load t s) (v : Value) (hs : a.eval s = v) (v' : Value) (w' : World)
    (hr : (Instr.loadAt t v).run P w = .ok v' w') (h : wpList P ops Q rest (a.put o.dst v') w') : wpList P ops Q (o :: rest) a w := by
  refine wpList_plain hgd fun K hK => ?_
  unfold Oper.wp execOp
  simp only [ho, Sem.run_bind, Sem.run_pure, hs, hr, Result.andThen_ok]
  exact hK _ _ h
theorem wpList_store_run {ops : Array Oper} {rest : List Oper} {o : Oper} {a : Act} {Q : Exit → Act → World → Prop} (hgd : o.guard = none) (s x : Operand) (t : TypeId) (ho : o.op = .store t s x) (v y : Value) (hs : a.eval s = v) (hx : a.eval x = y) (w' : World)
    (hr : (Instr.storeAt t v y).run P w = .ok () w') (h : wpList P ops Q rest (a.put o.dst undef) w') : wpList P ops Q (o :: rest) a w := by
  refine wpList_plain hgd fun K hK => ?_
  unfold Oper.wp execOp
  simp only [ho, Sem.run_bind, Sem.run_pure, hs, hx, hr, Result.andThen_ok]
  exact hK _ _ h
end

set_option maxHeartbeats 800000 in
theorem needsWith_walk (w : World) (a : Option Addr) (n c : Nat) (f : Nat → Nat) (bs : List Int) (hn : n ≤ 1048576) (hbn : bs.length = n) (hf : ∀ i, f i ≤ 1000000000000) (hr : ∀ k, k < n → 0 ≤ bs[k]?.getD 0 ∧ bs[k]?.getD 0 < 20) (hc : At1 w a n (fun k => .int .i64 (bs[k]?.getD 0))) :
    Calls Tryz.prog 100 #[.agg (arrC f), .slice a n c] w fun e w' => e = .returned (.agg (arrC fun i => f i + bs.count (i : Int))) ∧ Below w.heap.size w w' := by
  have HC : Hid (At1 w a n (fun k => .int .i64 (bs[k]?.getD 0))) := hc
  have HR : Hid (∀ k, k < n → 0 ≤ bs[k]?.getD 0 ∧ bs[k]?.getD 0 < 20) := hr
  have HN : Hid (bs.length = n) := hbn
  have HF : Hid (∀ i, f i ≤ 1000000000000) := hf
  clear hc hr hbn hf
  have hsz := arrC_size f
  have h0 := Arr.new w f
  have z1 := Arr.new (w.alloc (.cells (arrC f) 133)) (fun _ => 0)
  have z0 := h0.later (later1 _ (.cells (arrC fun _ => 0) 133))
  rw [World.size_alloc] at z1
  have HB0 : Hid (Below w.heap.size w ((w.alloc (.cells (arrC f) 133)).alloc (.cells (arrC fun _ => 0) 133))) := later2 _ _ _
  have HZ0 : Hid (Arr _ _ _) := z0
  have HZ1 : Hid (Arr _ _ _) := z1
  clear h0 z0 z1
  go_enter Tryz.func100, Tryz.ntmps100
  go_wp2
  go_loopw [9] (fun i wr => ∃ j : Nat, j ≤ n ∧ i = .int .i64 j ∧ Below w.heap.size w wr ∧ Arr wr w.heap.size (fun i => f i + (bs.take j).count (i : Int)) ∧ Arr wr (w.heap.size + 1) (fun _ => 0)) (fun i _ => n - (intOf i).toNat)
  case atStart => exact ⟨0, Nat.zero_le _, rfl, HB0.out, by simp only [List.take_zero, List.count_nil, Nat.add_zero]; exact HZ0.out, HZ1.out⟩
  case round =>
    clear HB0 HZ0 HZ1
    obtain ⟨j, hj, rfl, hbl, hx, hy⟩ := hrel
    have HBL : Hid (Below w.heap.size w wr) := hbl
    have HX : Hid (Arr wr w.heap.size (fun i => f i + (bs.take j).count (i : Int))) := hx
    have HY : Hid (Arr wr (w.heap.size + 1) (fun _ => 0)) := hy
    clear hbl hx hy
    by_cases hlt : j < n
    · obtain ⟨b, o, rfl, d1⟩ := HC.out j hlt
      replace d1 : w.cell? ⟨b, o + j, none⟩ = some (.int .i64 (bs[j]?.getD 0)) := d1
      replace d1 := cell_later HBL.out d1
      have hrj := HR.out j hlt
      obtain ⟨q, hq⟩ := Int.eq_ofNat_of_zero_le hrj.1
      have hq20 : q < 20 := by omega
      have hfq := HF.out q
      have hct : (bs.take j).count (q : Int) ≤ 1048576 := by
        have := List.count_le_length (a := (q : Int)) (l := bs.take j)
        rw [List.length_take] at this
        omega
      have HNX : Hid (∀ i : Nat, (bs.take (j + 1)).count (i : Int) = (bs.take j).count (i : Int) + if i = q then 1 else 0) := fun i => by
        rw [count_next bs (i : Int) j (by rw [HN.out]; exact hlt), hq]
        congr 1
        by_cases e : i = q
        · rw [if_pos e, if_pos (by omega)]
        · rw [if_neg e, if_neg (by omega)]
      rw [hq] at d1
      have e1 := HX.out.cell hq20
      have e2 := HX.out.frozen q
      clear hrj hq HC HR
      have HS := HX.out.set q (f q + (bs.take j).count (q : Int) + 1)
      have HS' : Hid (Arr (wr.setCell ⟨w.heap.size, q, none⟩ (.int .i64 ((f q + (bs.take j).count (q : Int) + 1 : Nat) : Int))) w.heap.size (fun i => f i + (bs.take (j + 1)).count (i : Int))) := by
        have he : (fun i => f i + (bs.take (j + 1)).count (i : Int)) = (fun i : Nat => if i = q then f q + (bs.take j).count (q : Int) + 1 else f i + (bs.take j).count (i : Int)) := by
          funext i
          rw [HNX.out i]
          by_cases e : i = q
          · subst e; rw [if_pos rfl, if_pos rfl]; omega
          · rw [if_neg e, if_neg e]; omega
        unfold Hid
        rw [he]
        exact HS
      clear HS HNX
      generalize (bs.take j).count (q : Int) = cq at *
      generalize f q = fq at *
      go_wp2
      go_roundw
      case rel => exact ⟨j + 1, by omega, by go_num, HBL.out.setCell (by simp) _, by first | exact HS'.out | simpa using HS'.out, HY.out.store (by simp) _⟩
      case measure => simp [intOf]; omega
    · have he : bs.take j = bs := List.take_of_length_le (by rw [HN.out]; omega)
      rw [he] at HX
      clear he
      generalize hg : (fun i : Nat => f i + bs.count (i : Int)) = g at HX
      have HGE : Hid ((fun i : Nat => f i + bs.count (i : Int)) = g) := hg
      clear hg
      have HL : Hid (_ = _) := HX.out.load
      obtain ⟨X, hst, hax, hsx, hoth, hx1, hx2, hx3⟩ := HY.out.put g
      have HST : Hid (_ = _) := hst
      have HAX : Hid (Arr X (w.heap.size + 1) g) := hax
      have HBX : Hid (Below w.heap.size w X) := HBL.out.trans ⟨hx1, hx2, hx3, by omega, fun c hc => hoth c (by omega)⟩
      clear hst hax hsx hoth hx1 hx2 hx3
      go_wp2_with (first | refine wpList_load_run rfl _ 133 rfl _ rfl _ _ HL.out ?_ | refine wpList_store_run rfl _ _ 133 rfl _ _ rfl rfl _ HST.out ?_)
      refine bodyPost_ret (v := .agg (arrC g)) ?_ rfl ⟨by rw [HGE.out], HBX.out⟩
      have hlv := HAX.out.loadV
      simp [results, Tryz.results100, asAddr, Act.put, hlv]
end Go.Proofs.YtlacppjlclfpmaaGreat
