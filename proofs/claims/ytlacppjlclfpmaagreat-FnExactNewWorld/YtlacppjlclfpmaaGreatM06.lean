/- Rows of inodes that grow by append, each with lists of its own; rows of inodes copied. What an inode's fault is. No program is named here. Words that grow by append; what PackInode answers. Which blocks are used and which are free. No program is named here. The plain mathematics of chapter 1: the codes of words, puts and disks. No program, no world. The walks of the codes of words and disks, the program's and the specification's. BlocksFor. The specification's InodeFault. The specification's l4File. The specification's l4Dir and l4Fault. The specification's InodeFault. The specification's functions over lists of inodes. The specification's counts. The specification's other counts and places. The specification's lists of blocks. -/
import Derived.Test.YtlacppjlclfpmaaGreatM03
import Derived.Test.YtlacppjlclfpmaaGreatM05
import Derived.Test.YtlacppjlclfpmaaGreatM04
import Derived.Test.YtlacppjlclfpmaaGreatM01
import Derived.Test.YtlacppjlclfpmaaGreatRows
import Derived.Test.YtlacppjlclfpmaaGreatM00
import Derived.Laws.Cover1
namespace Go.Proofs.YtlacppjlclfpmaaGreat
open Go.RowKit
set_option maxRecDepth 100000

/-- The cells of one inode. -/
def C5 (d : ID) (u : Value × Value) : List Value := [.int .i64 d.1, .int .i64 d.2.1, .int .i64 d.2.2.1, u.1, u.2]
def inCells (ds : Nat → ID) (u : Nat → Value × Value) (n : Nat) : List Value := (List.range n).flatMap fun i => C5 (ds i) (u i)
theorem inCells_length (ds : Nat → ID) (u : Nat → Value × Value) (n : Nat) : (inCells ds u n).length = n * 5 := by
  unfold inCells
  induction n with
  | zero => simp
  | succ n ih => rw [List.range_succ, List.flatMap_append, List.length_append, ih]; simp [C5, Nat.add_mul]
theorem inCells_succ (ds : Nat → ID) (u : Nat → Value × Value) (n : Nat) : inCells ds u (n + 1) = inCells ds u n ++ C5 (ds n) (u n) := by
  unfold inCells
  rw [List.range_succ, List.flatMap_append]
  simp
theorem inCells_congr {ds : Nat → ID} {u u' : Nat → Value × Value} {n : Nat} (h : ∀ i, i < n → u i = u' i) : inCells ds u n = inCells ds u' n := by
  unfold inCells
  have e0 : (List.range n).map (fun i => C5 (ds i) (u i)) = (List.range n).map (fun i => C5 (ds i) (u' i)) := List.map_congr_left fun i hi => by rw [h i (List.mem_range.1 hi)]
  rw [List.flatMap_def, List.flatMap_def, e0]
theorem inCells_get (l : List ID) (u : Nat → Value × Value) (n : Nat) : ∀ c, c < n * 5 → (inCells (fun i => l[i]?.getD id0) u n)[c]? = some (inCell l u c) := by
  induction n with
  | zero => intro c hc; omega
  | succ n ih =>
    intro c hc
    rw [inCells_succ]
    by_cases h : c < n * 5
    · rw [List.getElem?_append_left (by rw [inCells_length]; exact h)]
      exact ih c h
    · rw [List.getElem?_append_right (by rw [inCells_length]; omega), inCells_length]
      have : c = n * 5 ∨ c = n * 5 + 1 ∨ c = n * 5 + 2 ∨ c = n * 5 + 3 ∨ c = n * 5 + 4 := by omega
      rcases this with e | e | e | e | e
      · subst e; rw [Nat.sub_self, inCell_0]; rfl
      · subst e; rw [show n * 5 + 1 - n * 5 = 1 by omega, inCell_1]; rfl
      · subst e; rw [show n * 5 + 2 - n * 5 = 2 by omega, inCell_2]; rfl
      · subst e; rw [show n * 5 + 3 - n * 5 = 3 by omega, inCell_3]; rfl
      · subst e; rw [show n * 5 + 4 - n * 5 = 4 by omega, inCell_4]; rfl
theorem Tryz.infoIno' : ∃ i, Tryz.prog.info? 58 = some i ∧ i.zero = some (.agg #[.int .i64 0, .int .i64 0, .int .i64 0, .slice none 0 0, .slice none 0 0]) ∧ i.size = 5 ∧ i.bytes = 72 := by
  obtain ⟨i, hi, h⟩ := Option.map_eq_some_iff.1 Tryz.infoIno
  simp only [Prod.mk.injEq] at h
  exact ⟨i, hi, h.1, h.2.1, h.2.2⟩
theorem Tryz.sizeInoT : (Tryz.prog.info? 58).map (·.size) = some 5 := by kernel_rfl

/-- A row of n inodes that the call owns; inode i has its lists in blocks of G i. -/
structure IRow (w : World) (base : Nat) (v : Value) (n : Nat) (ds : Nat → ID) (u : Nat → Value × Value) (G : Nat → Nat → Prop) : Prop where
  own : w.ownsRow base 58 5 v n (inCells ds u n)
  lo : ∀ i c, i < n → G i c → base ≤ c ∧ c < w.heap.size
  ne : ∀ i c, i < n → G i c → v.ownBlock ≠ some c
  inj : ∀ i j c, i < n → j < n → i ≠ j → G i c → ¬ G j c
  at' : ∀ i, i < n → InoU w (.int .i64 (ds i).1) (.int .i64 (ds i).2.1) (.int .i64 (ds i).2.2.1) (u i).1 (u i).2 (ds i) (G i)
theorem IRow.nil (w : World) (base : Nat) (ds : Nat → ID) : IRow w base (.slice none 0 0) 0 ds (fun _ => (.slice none 0 0, .slice none 0 0)) (fun _ _ => False) :=
  ⟨World.ownsRow_nil _ _ _ _, fun i _ hi => by omega, fun i _ hi => by omega, fun i _ _ hi => by omega, fun i hi => by omega⟩
theorem IRow.keep {w w' : World} {base : Nat} {v : Value} {n : Nat} {ds : Nat → ID} {u : Nat → Value × Value} {G : Nat → Nat → Prop} (h : IRow w base v n ds u G) (hs : w.heap.size ≤ w'.heap.size) (e : ∀ c, base ≤ c → c < w.heap.size → w'.heap[c]? = w.heap[c]?) : IRow w' base v n ds u G := by
  refine ⟨?_, fun i c hi hc => ⟨(h.lo i c hi hc).1, Nat.lt_of_lt_of_le (h.lo i c hi hc).2 hs⟩, h.ne, h.inj, fun i hi => (h.at' i hi).keep fun c hc hlt => e c (h.lo i c hi hc).1 hlt⟩
  obtain ⟨h1, h2⟩ := h.own
  refine ⟨h1, ?_⟩
  rcases h2 with h2 | ⟨g, cap, cur, hv, hg, hh, r⟩
  · exact Or.inl h2
  · exact Or.inr ⟨g, cap, cur, hv, hg, by rw [e g hg (Array.getElem?_eq_some_iff.1 hh).1]; exact hh, r⟩
theorem IRow.later {w w' : World} {base : Nat} {v : Value} {n : Nat} {ds : Nat → ID} {u : Nat → Value × Value} {G : Nat → Nat → Prop} (h : IRow w base v n ds u G) (hb : Below w.heap.size w w') : IRow w' base v n ds u G := h.keep hb.size fun c _ hlt => hb.block c hlt
theorem IRow.store {w : World} {base : Nat} {v : Value} {n : Nat} {ds : Nat → ID} {u : Nat → Value × Value} {G : Nat → Nat → Prop} (h : IRow w base v n ds u G) {p : Addr} (hp : p.block < base) (x : Value) : IRow (w.setCell p x) base v n ds u G :=
  h.keep (by simp [World.setCell]) fun c hc _ => Below.heap_setCell _ _ _ _ (by omega)
theorem IRow.shape {w : World} {base : Nat} {v : Value} {n : Nat} {ds : Nat → ID} {u : Nat → Value × Value} {G : Nat → Nat → Prop} (h : IRow w base v n ds u G) : ∃ a c, v = .slice a n c := by
  rcases h.own.2 with ⟨rfl, rfl⟩ | ⟨g, c, cur, rfl, _⟩
  · exact ⟨_, _, rfl⟩
  · exact ⟨_, _, rfl⟩
/-- What 'append' of one inode comes to. -/
theorem IRow.append (w w1 : World) (ty : TypeId) (base n : Nat) (v : Value) (ds : Nat → ID) (u : Nat → Value × Value) (G : Nat → Nat → Prop) (h : IRow w base v n ds u G) (hb : base ≤ w.heap.size) (hn : n ≤ 1048600) (hb1 : Below w.heap.size w w1)
    (aB : Option Addr) (nB cB : Nat) (aE : Option Addr) (nE cE : Nat) (hf : InoU w1 (.int .i64 (ds n).1) (.int .i64 (ds n).2.1) (.int .i64 (ds n).2.2.1) (.slice aB nB cB) (.slice aE nE cE) (ds n) (fresh w w1)) :
    ∃ g cap X u' G', (Builtin.append_ #[24, 24] ty #[v, .slice (some ⟨w1.heap.size, 0, none⟩) 1 1]).run Tryz.prog (w1.alloc (.cells #[.int .i64 (ds n).1, .int .i64 (ds n).2.1, .int .i64 (ds n).2.2.1, .slice aB nB cB, .slice aE nE cE] 58)) = .ok (.slice (some ⟨g, 0, none⟩) (n + 1) cap) X ∧
      Below base w X ∧ w1.heap.size < X.heap.size ∧ IRow X base (.slice (some ⟨g, 0, none⟩) (n + 1) cap) (n + 1) ds u' G' := by
  obtain ⟨i, hi, i1, i2, i3⟩ := Tryz.infoIno'
  have hsz1 := hb1.size
  have hbW : Below w.heap.size w (w1.alloc (.cells #[.int .i64 (ds n).1, .int .i64 (ds n).2.1, .int .i64 (ds n).2.2.1, .slice aB nB cB, .slice aE nE cE] 58)) := hb1.trans ((later1 _ _).mono hb1.size)
  have hW := h.later hbW
  obtain ⟨g, cap, X, hr, ho, hg, hat, hgX⟩ := run_append_lies (P := Tryz.prog) (w1.alloc (.cells #[.int .i64 (ds n).1, .int .i64 (ds n).2.1, .int .i64 (ds n).2.2.1, .slice aB nB cB, .slice aE nE cE] 58)) 24 ty base 58 i _ 5 72 Tryz.underlying24 hi i1 i2 i3 rfl (by decide) v n _ hW.own ⟨w1.heap.size, 0, none⟩ 1 1 (C5 (ds n) (.slice aB nB cB, .slice aE nE cE)) (by simp [C5])
    (fun j x hx => by
      rw [add_plain', Nat.zero_add, new_cell]
      simpa [C5] using hx) (fun x hx => by
      simp only [C5, List.mem_cons, List.not_mem_nil, or_false] at hx
      rcases hx with rfl | rfl | rfl | rfl | rfl <;> rfl) (by decide) (by unfold maxLen; omega) (by omega) (by simp; omega) (w1.heap.size + 1) (by simp)
  have hrowb : ∀ g, v.ownBlock = some g → base ≤ g ∧ g < w.heap.size := fun g hg => h.own.lt g hg
  have hXb : ∀ b, b < w1.heap.size → v.ownBlock ≠ some b → X.heap[b]? = w1.heap[b]? := fun b hb' hne => (hg.block b (by simp; omega) (fun e => hne e.symm)).trans ((later1 _ _).block b hb')
  have hne : ∀ b, b ≤ w1.heap.size → v.ownBlock ≠ some b → g ≠ b := by
    intro b hb' hb2 e
    subst e
    rcases hat with h | h
    · exact hb2 h
    · omega
  have old : ∀ b, b < w.heap.size → v.ownBlock ≠ some b → X.heap[b]? = w.heap[b]? := fun b hb' hne => (hXb b (by omega) hne).trans (hb1.block b hb')
  have hXs : w1.heap.size < X.heap.size := by have := hg.size; simp at this; omega
  have hfr : ∀ c, fresh w w1 c → v.ownBlock ≠ some c := fun c hc e => by have := (hrowb c e).2; have := hc.1; omega
  refine ⟨g, cap, X, fun j => if j = n then (.slice aB nB cB, .slice aE nE cE) else u j, fun j c => if j = n then fresh w w1 c else G j c, hr, (hbW.mono hb).trans (below_grown hg (by simp; omega) (fun g hg' => (hrowb g hg').1)), hXs, ⟨?_, fun j c hj hc => ?_, fun j c hj hc => ?_, fun j j' c hj hj' e hc hc' => ?_, fun j hj => ?_⟩⟩
  · rw [inCells_succ, inCells_congr (u' := u) (fun i hi => by rw [if_neg (by omega)])]
    simp only [if_true]
    exact ho
  · by_cases e : j = n
    · simp only [e, if_true] at hc
      have := hc.1
      have := hc.2
      omega
    · simp only [e, if_false] at hc
      have := h.lo j c (by omega) hc
      omega
  · by_cases e : j = n
    · simp only [e, if_true] at hc
      exact fun e' => hne c (Nat.le_of_lt hc.2) (hfr c hc) (by simpa [Value.ownBlock] using e')
    · simp only [e, if_false] at hc
      have hl := h.lo j c (by omega) hc
      exact fun e' => hne c (by omega) (h.ne j c (by omega) hc) (by simpa [Value.ownBlock] using e')
  · by_cases e1 : j = n
    · by_cases e2 : j' = n
      · omega
      · simp only [e1, e2, if_true, if_false] at hc hc'
        have := (h.lo j' c (by omega) hc').2
        have := hc.1
        omega
    · by_cases e2 : j' = n
      · simp only [e1, e2, if_true, if_false] at hc hc'
        have := (h.lo j c (by omega) hc).2
        have := hc'.1
        omega
      · simp only [e1, e2, if_false] at hc hc'
        exact h.inj j j' c (by omega) (by omega) e hc hc'
  · by_cases e : j = n
    · subst e
      simp only [if_true]
      exact hf.keep fun c hc hlt => hXb c hlt (hfr c hc)
    · simp only [e, if_false]
      exact (h.at' j (by omega)).keep fun c hc hlt => old c hlt (h.ne j c (by omega) hc)
theorem IRow.inos {w : World} {base : Nat} {v : Value} {n : Nat} {u : Nat → Value × Value} {G : Nat → Nat → Prop} {l : List ID} (h : IRow w base v n (fun i => l[i]?.getD id0) u G) (hn : l.length = n) : InosO w v l (fun c => base ≤ c ∧ c < w.heap.size ∧ (v.ownBlock = some c ∨ ∃ i, i < n ∧ G i c)) := by
  subst hn
  obtain ⟨hl, h2 | ⟨g, cap, cur, rfl, hb, hh, hnc, hcm, hcs, htake⟩⟩ := h.own
  · obtain ⟨rfl, h0⟩ := h2
    exact Or.inl ⟨List.eq_nil_of_length_eq_zero h0, none, 0, rfl⟩
  · refine Or.inr ⟨g, cap, u, fun i c => i < l.length ∧ G i c, ⟨hb, (Array.getElem?_eq_some_iff.1 hh).1, Or.inl rfl⟩, fun i c hc => ⟨⟨(h.lo i c hc.1 hc.2).1, (h.lo i c hc.1 hc.2).2, Or.inr ⟨i, hc⟩⟩, fun e => h.ne i c hc.1 hc.2 (by simp [Value.ownBlock, e])⟩, fun i j c e h1 h2 => h.inj i j c h1.1 h2.1 e h1.2 h2.2, rfl, ⟨by omega, hnc⟩, ⟨cur, _, hh, by rw [hcs]; exact Nat.mul_le_mul_right 5 hnc, fun c hc => ?_⟩, fun i hi => (h.at' i hi).mono fun c hc => ⟨hi, hc⟩⟩
    have h1 := inCells_get l u l.length c hc
    rw [← htake, List.getElem?_take, if_pos hc, Array.getElem?_toList] at h1
    exact h1

/-- What 'copy' of inodes into a list that was just made comes to: their lists are those of the first ones. -/
theorem copy_inos (w : World) (a : Option Addr) (n cap : Nat) (l : List ID) (u : Nat → Value × Value) (hs : ∀ i, i < n → (u i).1.oneCell' = true ∧ (u i).2.oneCell' = true) (hc : ∀ c, c < n * 5 → ∃ b off, a = some ⟨b, off, none⟩ ∧ w.cell? ⟨b, off + c, none⟩ = some (inCell l u c)) :
    ∃ X, (Builtin.copy_ #[24, 24] 3 #[.slice (some ⟨w.heap.size, 0, none⟩) n n, .slice a n cap]).run Tryz.prog (w.alloc (.cells (madeCells #[.int .i64 0, .int .i64 0, .int .i64 0, .slice none 0 0, .slice none 0 0] (n * 5)) 58)) = .ok (goInt n) X ∧
      Below w.heap.size w X ∧ OwnRow X w.heap.size (n * 5) (inCell l u) := by
  by_cases h0 : n = 0
  · subst h0
    have hr := run_copy_zero (P := Tryz.prog) (w.alloc (.cells (madeCells #[.int .i64 0, .int .i64 0, .int .i64 0, .slice none 0 0, .slice none 0 0] (0 * 5)) 58)) 24 24 3 58 (some ⟨w.heap.size, 0, none⟩) a 0 cap 5 Tryz.underlying24 Tryz.sizeInoT
    exact ⟨_, hr, later1 _ _, (OwnRow.madeFive w 0 58).congr fun i hi => by omega⟩
  · obtain ⟨b, off, rfl, _⟩ := hc 0 (by omega)
    have hcp := run_copy_wide (P := Tryz.prog) (w.alloc (.cells (madeCells #[.int .i64 0, .int .i64 0, .int .i64 0, .slice none 0 0, .slice none 0 0] (n * 5)) 58)) 24 24 3 58 w.heap.size n n ⟨b, off, none⟩ cap 5 (madeCells #[.int .i64 0, .int .i64 0, .int .i64 0, .slice none 0 0, .slice none 0 0] (n * 5)) 58 (inCells (fun i => l[i]?.getD id0) u n) Tryz.underlying24 Tryz.sizeInoT
      (Go.Deep.blk_alloc_new _ _) (inCells_length _ _ _) (fun j v hv => by
        have hj : j < n * 5 := by rw [← inCells_length (fun i => l[i]?.getD id0) u n]; exact (List.getElem?_eq_some_iff.1 hv).1
        rw [inCells_get l u n j hj] at hv
        simp only [Option.some.injEq] at hv
        subst hv
        obtain ⟨b', off', e, h⟩ := hc j hj
        simp only [Option.some.injEq, Addr.mk.injEq, and_true] at e
        rw [add_plain', e.1, e.2]
        exact cell_later (later1 _ _) h) (by simp [size_madeCells, inCells_length]) (fun v hv => by
        obtain ⟨j, hj, e⟩ := List.mem_iff_getElem.1 hv
        have hj' : j < n * 5 := by rw [← inCells_length (fun i => l[i]?.getD id0) u n]; exact hj
        have h1 := inCells_get l u n j hj'
        rw [List.getElem?_eq_getElem hj, e] at h1
        simp only [Option.some.injEq] at h1
        subst h1
        have hd : j / 5 < n := by omega
        unfold inCell
        split
        · rfl
        · split
          · rfl
          · split
            · rfl
            · split
              · exact (hs _ hd).1
              · exact (hs _ hd).2)
    refine ⟨_, hcp, below_setRow (later1 _ _) (Nat.le_refl _) _, ?_⟩
    refine ⟨_, 58, setRow_heap _ _ _ _ _ _ (Go.Deep.blk_alloc_new _ _), ?_, fun i hi => ?_⟩
    · simp [inCells_length, size_madeCells]
    · have hlen : i < (inCells (fun i => l[i]?.getD id0) u n).length := by rw [inCells_length]; exact hi
      rw [List.getElem?_toArray, List.getElem?_append_left hlen, inCells_get l u n i hi]
end Go.Proofs.YtlacppjlclfpmaaGreat

namespace Go.Proofs.YtlacppjlclfpmaaGreat
open Go.RowKit
set_option maxRecDepth 100000

/-- The first of f 0 .. f (n - 1) that is not 0, or 0. -/
def fstNZ (f : Nat → Int) : Nat → Int
  | 0 => 0
  | n + 1 => if fstNZ f n = 0 then f n else fstNZ f n
theorem fstNZ_zero {f : Nat → Int} : ∀ {n : Nat}, (∀ i, i < n → f i = 0) → fstNZ f n = 0
  | 0, _ => rfl
  | n + 1, h => by
    show (if fstNZ f n = 0 then f n else fstNZ f n) = 0
    rw [if_pos (fstNZ_zero fun i hi => h i (by omega))]
    exact h n (by omega)
theorem fstNZ_at {f : Nat → Int} {j : Nat} (h : ∀ i, i < j → f i = 0) (hj : ¬ f j = 0) : ∀ {n : Nat}, j < n → fstNZ f n = f j
  | 0, hn => by omega
  | n + 1, hn => by
    show (if fstNZ f n = 0 then f n else fstNZ f n) = f j
    by_cases e : j = n
    · subst e
      rw [if_pos (fstNZ_zero h)]
    · have := fstNZ_at h hj (n := n) (by omega)
      rw [this, if_neg hj]
theorem fstNZ_inv {f : Nat → Int} : ∀ {n : Nat}, fstNZ f n = 0 → ∀ i, i < n → f i = 0
  | 0, _, i, hi => by omega
  | n + 1, h, i, hi => by
    have h' : (if fstNZ f n = 0 then f n else fstNZ f n) = 0 := h
    by_cases e : fstNZ f n = 0
    · rw [if_pos e] at h'
      by_cases e2 : i = n
      · rw [e2]; exact h'
      · exact fstNZ_inv e i (by omega)
    · rw [if_neg e] at h'; exact absurd h' e

def rngF (bs : List Int) (i : Nat) : Int := if 0 ≤ bs[i]?.getD 0 ∧ bs[i]?.getD 0 ≤ 19 then 0 else 3
/-- Whether one ahead of i is the same. -/
def dupB (bs : List Int) (i : Nat) : Bool := (List.range i).any fun k => bs[k]?.getD 0 == bs[i]?.getD 0
def dupF (bs : List Int) (i : Nat) : Int := if dupB bs i then 7 else 0
theorem dupB_yes {bs : List Int} {i k : Nat} (hk : k < i) (e : bs[k]?.getD 0 = bs[i]?.getD 0) : dupB bs i = true := by
  unfold dupB; rw [List.any_eq_true]; exact ⟨k, by simpa using hk, by simp [e]⟩
theorem dupB_no {bs : List Int} {i : Nat} (h : ∀ k, k < i → ¬ bs[k]?.getD 0 = bs[i]?.getD 0) : dupB bs i = false := by
  unfold dupB; rw [List.any_eq_false]; intro k hk; simp at hk; simp [h k hk]
def blkF (bs : List Int) : Int := if fstNZ (rngF bs) bs.length = 0 then fstNZ (dupF bs) bs.length else fstNZ (rngF bs) bs.length
def linkB (x : Int) : Bool := decide (1 ≤ x ∧ x ≤ 60)
def sizeB (x : Int) : Bool := decide (0 ≤ x ∧ x ≤ 32)
/-- BlocksFor. -/
def bforR (x : Int) : Int × Int := if sizeB x then (0, (x + 7) / 8) else (3, 0)
def fileF (l s : Int) (bs : List Int) : Int := if linkB l = true ∧ sizeB s = true then (if (bs.length : Int) = (s + 7) / 8 then blkF bs else 1) else 3
/-- One text is not above another. -/
def strLe (a b : ByteArray) : Bool := Op.bytesLess a.toList b.toList || a.toList == b.toList
def entF (es : List EN) (i : Nat) : Int := if nameF (es[i]?.getD en0).1 = 0 then (if 0 ≤ (es[i]?.getD en0).2 ∧ (es[i]?.getD en0).2 ≤ 9 then (if 0 < i ∧ strLe (es[i]?.getD en0).1 (es[i - 1]?.getD en0).1 = true then 1 else 0) else 3) else nameF (es[i]?.getD en0).1
def dirF (es : List EN) : Int := if 6 < es.length then 2 else fstNZ (entF es) es.length
/-- What a file alone has, and what a directory alone has. -/
def fpB (d : ID) : Bool := decide (d.2.1 ≠ 0) || decide (d.2.2.1 ≠ 0) || decide (0 < d.2.2.2.1.length)
def dpB (d : ID) : Bool := decide (0 < d.2.2.2.2.length)
def inoF (d : ID) : Int := if d.1 = 0 then (if fpB d || dpB d then 1 else 0) else if d.1 = 1 then (if dpB d then 1 else fileF d.2.1 d.2.2.1 d.2.2.2.1) else if d.1 = 2 then (if fpB d then 1 else dirF d.2.2.2.2) else 1
end Go.Proofs.YtlacppjlclfpmaaGreat

namespace Go.Proofs.YtlacppjlclfpmaaGreat
open Go.RowKit
set_option maxRecDepth 100000

def intV (z : Int) : Value := .int .i64 z
/-- Words in memory that the call made since n₀. -/
def Wds (w : World) (n₀ : Nat) (v : Value) (zs : List Int) : Prop := w.ownsRow n₀ 2 1 v zs.length (zs.map intV)
theorem Wds.later {w w' : World} {n₀ : Nat} {v : Value} {zs : List Int} (h : Wds w n₀ v zs) (hb : Below w.heap.size w w') : Wds w' n₀ v zs := ownsRow_later h hb
theorem Wds.shape {w : World} {n₀ : Nat} {v : Value} {zs : List Int} (h : Wds w n₀ v zs) : ∃ a c, v = .slice a zs.length c := ownsRow_shape h
theorem Wds.lit (w : World) (n₀ : Nat) (hn : n₀ ≤ w.heap.size) (zs : List Int) (arr : Array Value) (he : arr = (zs.map intV).toArray) (n : Nat) (hz : zs.length = n) (hm : n ≤ 1048576) : Wds (w.alloc (.cells arr 2)) n₀ (.slice (some ⟨w.heap.size, 0, none⟩) n n) zs := by
  subst he
  subst hz
  have := World.ownsRow_lit (e := 2) (size := 1) w (zs.map intV).toArray zs.length hn (by unfold maxLen; omega) (by simp)
  simpa [Wds] using this
/-- Blocks of other types than words' stand as they did. -/
def KeepT (w w' : World) : Prop := ∀ (b : Nat) (c : Array Value) (t : TypeId) (fr : Nat × Nat), t ≠ 2 → w.heap[b]? = some (Obj.cells c t fr) → w'.heap[b]? = some (Obj.cells c t fr)
theorem KeepT.refl (w : World) : KeepT w w := fun _ _ _ _ _ h => h
theorem KeepT.trans {a b c : World} (h : KeepT a b) (k : KeepT b c) : KeepT a c := fun i cs t fr ht hi => k i cs t fr ht (h i cs t fr ht hi)
theorem KeepT.later {w w' : World} (hb : Below w.heap.size w w') : KeepT w w' := fun b _ _ _ _ h => (hb.block b (Array.getElem?_eq_some_iff.1 h).1).trans h
theorem KeepT.grown {w w' : World} {n₀ : Nat} {v : Value} {zs : List Int} (h : Wds w n₀ v zs) (hg : w.grownBy w' v.ownBlock) : KeepT w w' := fun b c t fr ht hb => by
  refine (hg.block b (Array.getElem?_eq_some_iff.1 hb).1 fun e => ?_).trans hb
  rcases h.2 with ⟨rfl, _⟩ | ⟨g, cap, cur, rfl, _, hh, _⟩
  · simp [Value.ownBlock] at e
  · simp only [Value.ownBlock, Option.some.injEq] at e
    subst e
    rw [hh] at hb
    simp only [Option.some.injEq, Obj.cells.injEq] at hb
    exact ht hb.2.1.symm
theorem append_any (w : World) (n₀ : Nat) (v : Value) (zs ys : List Int) (a : Option Addr) (m c : Nat) (hrow : Wds w n₀ v zs) (hn₀ : n₀ ≤ w.heap.size) (hm : ys.length = m) (hz : zs.length ≤ 16777216) (hy : m ≤ 1048576) (hc : At1 w a m (fun k => .int .i64 (ys[k]?.getD 0))) (hnn : ∃ g cap, v = .slice (some ⟨g, 0, none⟩) zs.length cap ∧ n₀ ≤ g) :
    ∃ v' X, (Builtin.append_ #[55, 55] 55 #[v, .slice a m c]).run Tryz.prog w = .ok v' X ∧ Wds X n₀ v' (zs ++ ys) ∧ Below n₀ w X ∧ KeepT w X := by
  obtain ⟨i, hi, h1, h2, h3⟩ := Tryz.infoInt'
  obtain ⟨g, cap, rfl, hg0⟩ := hnn
  by_cases ha : a = none
  · subst ha
    have h0 : m = 0 := by
      by_cases h : m = 0
      · exact h
      · obtain ⟨_, _, e, _⟩ := hc 0 (by omega); cases e
    subst h0
    have hys : ys = [] := List.eq_nil_of_length_eq_zero hm
    subst hys
    have hlc : zs.length ≤ cap := by
      rcases hrow.2 with ⟨e, _⟩ | ⟨g', cap', cur, e, _, _, hnc, _⟩
      · cases e
      · simp only [Value.slice.injEq] at e
        rw [e.2.2]; exact hnc
    refine ⟨.slice (some ⟨g, 0, none⟩) zs.length cap, w, ?_, by rw [List.append_nil]; exact hrow, Below.refl _ _, KeepT.refl _⟩
    simp [Builtin.append_, run_underlying Tryz.underlying55, sizeOf, typeInfo, hi, Builtin.lenOf, Builtin.firstCells, storeCells, hlc]
  · obtain ⟨ad, rfl⟩ := Option.ne_none_iff_exists'.1 ha
    obtain ⟨v', X, hr, ho, hg, _⟩ := run_append_own (P := Tryz.prog) w n₀ 55 55 2 i (.int .i64 0) 1 8 Tryz.underlying55 hi h1 h2 h3 rfl (by decide) _ zs.length _ hrow ad m c (ys.map intV)
      (by simp [hm]) (fun j u hu => by
        rw [List.getElem?_map, Option.map_eq_some_iff] at hu
        obtain ⟨z, hz1, rfl⟩ := hu
        have hj : j < m := by rw [← hm]; exact (List.getElem?_eq_some_iff.1 hz1).1
        obtain ⟨b, off, e, h⟩ := hc j hj
        simp only [Option.some.injEq] at e
        rw [e, add_plain']
        replace h : w.cell? ⟨b, off + j, none⟩ = some (.int .i64 (ys[j]?.getD 0)) := h
        rw [hz1, Option.getD_some] at h
        exact h) (fun u hu => by
        obtain ⟨z, _, rfl⟩ := List.mem_map.1 hu
        rfl) (by unfold maxLen; omega) (by omega) hn₀
    refine ⟨v', X, hr, ?_, below_grown hg hn₀ (fun k hk => ?_), KeepT.grown hrow hg⟩
    · unfold Wds
      rw [List.length_append, List.map_append, hm]
      exact ho
    · simp [Value.ownBlock] at hk; omega
/-- Words that were appended are never nil. -/
theorem Wds.some {w : World} {n₀ : Nat} {v : Value} {zs : List Int} (h : Wds w n₀ v zs) (h0 : 0 < zs.length) : ∃ g cap, v = .slice (some ⟨g, 0, none⟩) zs.length cap ∧ n₀ ≤ g := by
  obtain ⟨g, cap, h1, h2, _⟩ := ownsRow_row h h0
  exact ⟨g, cap, h1, h2⟩
theorem Wds.own {w w0 : World} {n₀ : Nat} {v : Value} {zs : List Int} (h : Wds w n₀ v zs) (h0 : 0 < zs.length) (hn : w0.heap.size ≤ n₀) : IntsO w v zs (fresh w0 w) := by
  obtain ⟨g, cap, rfl, h2, h3, h4, h5⟩ := ownsRow_row h h0
  refine Or.inr ⟨g, cap, ⟨by omega, h3⟩, rfl, h4, h5.congr fun i hi => ?_⟩
  rw [List.getElem?_map, List.getElem?_eq_getElem hi]
  rfl
/-- An append of words that are written out. -/
theorem append_wds (w : World) (n₀ : Nat) (v : Value) (zs ys : List Int) (arr : Array Value) (m : Nat) (he : arr = (ys.map intV).toArray) (hm : ys.length = m) (hrow : Wds w n₀ v zs) (hn₀ : n₀ ≤ w.heap.size) (hz : zs.length ≤ 16777216) (hz0 : 0 < zs.length) (hy : m ≤ 1048576) :
    ∃ v' X, (Builtin.append_ #[55, 55] 55 #[v, .slice (some ⟨w.heap.size, 0, none⟩) m m]).run Tryz.prog (w.alloc (.cells arr 2)) = .ok v' X ∧ Wds X n₀ v' (zs ++ ys) ∧ Below n₀ w X ∧ KeepT w X := by
  subst he
  obtain ⟨v', X, h1, h2, h3, h4⟩ := append_any (w.alloc (.cells (ys.map intV).toArray 2)) n₀ v zs ys (some ⟨w.heap.size, 0, none⟩) m m (hrow.later (later1 _ _)) (by simp; omega) hm hz hy (fun k hk => ⟨w.heap.size, 0, rfl, by
    rw [Nat.zero_add, new_cell]
    have : k < ys.length := by omega
    simp [List.getElem?_eq_getElem this, intV]⟩) (hrow.some hz0)
  exact ⟨v', X, h1, h2, ((later1 w _).mono hn₀).trans h3, (KeepT.later (later1 _ _)).trans h4⟩

/-- Block b holds vs, as cells of type t. -/
def Obx (w : World) (b : Nat) (vs : List Value) (t : TypeId) : Prop := w.heap[b]? = some (.cells vs.toArray t)
theorem Obx.new (w : World) (vs : List Value) (t : TypeId) : Obx (w.alloc (.cells vs.toArray t)) w.heap.size vs t := Go.Deep.blk_alloc_new _ _
theorem Obx.keep {w w' : World} {b : Nat} {vs : List Value} {t : TypeId} (h : Obx w b vs t) (hk : KeepT w w') (ht : t ≠ 2) : Obx w' b vs t := hk _ _ _ _ ht h
theorem Obx.bx {w : World} {b : Nat} {vs : List Value} {t : TypeId} (h : Obx w b vs t) : Bx w b vs := fun i v hv => by
  unfold Obx at h
  simp [World.cell?, h, hv]
theorem Obx.lt {w : World} {b : Nat} {vs : List Value} {t : TypeId} (h : Obx w b vs t) : b < w.heap.size := (Array.getElem?_eq_some_iff.1 h).1

/-- The words of an entry. -/
def byteZ (b : UInt8) : Int := (b.toNat : Int)
def entW (e : EN) : List Int := e.2 :: (e.1.size : Int) :: e.1.data.toList.map byteZ
def entsW (es : List EN) : List Int := es.flatMap entW
def packL (d : ID) : List Int := [d.1, d.2.1, d.2.2.1] ++ d.2.2.2.1 ++ (if d.1 = 2 then ((d.2.2.2.2.length : Nat) : Int) :: entsW d.2.2.2.2 else [])
def packR (d : ID) : Int × List Int := if inoF d = 0 then (0, packL d) else (inoF d, [])
theorem entW_len (e : EN) : (entW e).length = 2 + e.1.size := by
  show (e.2 :: (e.1.size : Int) :: e.1.data.toList.map byteZ).length = _
  rw [List.length_cons, List.length_cons, List.length_map, Array.length_toList]; show e.1.size + 1 + 1 = 2 + e.1.size; omega
theorem entsW_len (es : List EN) : (entsW es).length ≤ 2 * sizeN es := by
  unfold sizeN
  induction es with
  | nil => simp [entsW, nlens]
  | cons e t ih =>
    have h1 : (entsW (e :: t)).length = (entW e).length + (entsW t).length := by simp [entsW]
    have h2 : (nlens (e :: t)).sum = e.1.size + (nlens t).sum := by simp [nlens]
    rw [h1, h2, entW_len]
    simp only [List.length_cons]
    omega
theorem packL_len (d : ID) : (packL d).length ≤ 4 + 2 * sizeIno d := by
  have := entsW_len d.2.2.2.2
  unfold packL sizeIno
  split <;> simp <;> omega
theorem packSpan (d : ID) (h : sizeIno d ≤ 1048576) : ((packR d).2.length : Int) ≤ 100000000 := by
  unfold packR
  split
  · have := packL_len d
    show ((packL d).length : Int) ≤ _
    omega
  · simp
/-- The words of a name's first k bytes. -/
def nameW (x : ByteArray) (k : Nat) : List Int := (x.data.toList.take k).map byteZ
theorem nameW_next (x : ByteArray) (k : Nat) (hk : k < x.size) : nameW x (k + 1) = nameW x k ++ [((x[k]'hk).toNat : Int)] := by
  unfold nameW
  have h : k < x.data.toList.length := by rw [Array.length_toList]; exact hk
  rw [List.take_succ_eq_append_getElem h, List.map_append]
  rfl
theorem nameW_len (x : ByteArray) (k : Nat) : (nameW x k).length ≤ x.size := by
  unfold nameW
  rw [List.length_map, List.length_take, Array.length_toList]
  exact Nat.min_le_right _ _
theorem nameW_all (x : ByteArray) (y : Int) : [y, (x.size : Int)] ++ nameW x x.size = entW (x, y) := by
  unfold nameW entW
  rw [List.take_of_length_le (by rw [Array.length_toList]; exact Nat.le_refl _)]
  rfl
theorem upto_size (es : List EN) (j : Nat) (hj : j < es.length) : (entsW (es.take j)).length + 2 + (es[j]?.getD en0).1.size ≤ (entsW es).length := by
  have h1 : es = es.take (j + 1) ++ es.drop (j + 1) := (List.take_append_drop _ _).symm
  have h2 : (entsW es).length = (entsW (es.take (j + 1))).length + (entsW (es.drop (j + 1))).length := by
    conv => lhs; rw [h1]
    unfold entsW
    rw [List.flatMap_append, List.length_append]
  have h3 : entsW (es.take (j + 1)) = entsW (es.take j) ++ entW (es[j]?.getD en0) := by
    unfold entsW
    rw [List.take_succ_eq_append_getElem hj, List.flatMap_append, List.getElem?_eq_getElem hj]
    simp
  rw [h2, h3, List.length_append, entW_len]
  omega
theorem entsW_take (es : List EN) (j : Nat) (hj : j < es.length) : entsW (es.take (j + 1)) = entsW (es.take j) ++ entW (es[j]?.getD en0) := by
  unfold entsW
  rw [List.take_succ_eq_append_getElem hj, List.flatMap_append, List.getElem?_eq_getElem hj]
  simp
end Go.Proofs.YtlacppjlclfpmaaGreat

namespace Go.Proofs.YtlacppjlclfpmaaGreat
open Go.RowKit
set_option maxRecDepth 100000

/-- The fault of a list of inodes, and of busy blocks. -/
def insF (ds : List ID) : Int := if 10 < ds.length then 2 else fstNZ (fun i => inoF (ds[i]?.getD id0)) ds.length
def busF (bs : List Int) : Int := if 20 < bs.length then 2 else fstNZ (rngF bs) bs.length
/-- All blocks of all inodes, and all entries' inodes. -/
def allB (ds : List ID) : List Int := ds.flatMap fun d => d.2.2.2.1
def cntB (ds : List ID) (v : Int) : Nat := (allB ds).count v
def entI (es : List EN) : List Int := es.map fun e => e.2
def allE (ds : List ID) : List Int := ds.flatMap fun d => entI d.2.2.2.2
theorem flat_next {α β : Type} (f : α → List β) (l : List α) (z : α) (j : Nat) (h : j < l.length) : (l.take (j + 1)).flatMap f = (l.take j).flatMap f ++ f (l[j]?.getD z) := by
  rw [List.take_succ_eq_append_getElem h, List.flatMap_append, List.getElem?_eq_getElem h]
  simp
theorem count_next (l : List Int) (v : Int) (k : Nat) (h : k < l.length) : (l.take (k + 1)).count v = (l.take k).count v + (if l[k]?.getD 0 = v then 1 else 0) := by
  rw [List.take_succ_eq_append_getElem h, List.count_append, List.getElem?_eq_getElem h, List.count_singleton]
  simp only [Option.getD_some]
  by_cases e : l[k] = v
  · rw [if_pos e, e, beq_self_eq_true]; rfl
  · rw [if_neg e, show (l[k] == v) = false by simpa using e]; rfl
theorem allB_len (ds : List ID) : (allB ds).length ≤ (isz ds).sum := by
  unfold allB isz
  induction ds with
  | nil => simp
  | cons d ds ih =>
    simp only [List.flatMap_cons, List.length_append, List.map_cons, List.sum_cons]
    have hd : sizeIno d = d.2.2.2.1.length + sizeN d.2.2.2.2 := rfl
    omega
theorem allE_len (ds : List ID) : (allE ds).length ≤ (isz ds).sum := by
  unfold allE isz
  induction ds with
  | nil => simp
  | cons d ds ih =>
    simp only [List.flatMap_cons, List.length_append, List.map_cons, List.sum_cons]
    have : (entI d.2.2.2.2).length = d.2.2.2.2.length := by simp [entI]
    have hd : sizeIno d = d.2.2.2.1.length + (d.2.2.2.2.length + (nlens d.2.2.2.2).sum) := rfl
    omega
theorem flat_take {α β : Type} (f : α → List β) (l : List α) (j : Nat) : ((l.take j).flatMap f).length ≤ (l.flatMap f).length := by
  conv => rhs; rw [← List.take_append_drop j l]
  rw [List.flatMap_append, List.length_append]
  omega

/-- The numbers below j that p picks. -/
def selL (p : Nat → Bool) (j : Nat) : List Int := ((List.range j).filter p).map fun k : Nat => (k : Int)
theorem selL_yes {p : Nat → Bool} {j : Nat} (h : p j = true) : selL p (j + 1) = selL p j ++ [(j : Int)] := by simp [selL, List.range_succ, h]
theorem selL_no {p : Nat → Bool} {j : Nat} (h : p j = false) : selL p (j + 1) = selL p j := by simp [selL, List.range_succ, h]
theorem selL_len (p : Nat → Bool) (j : Nat) : (selL p j).length ≤ j := by
  unfold selL
  rw [List.length_map]
  have := List.length_filter_le p (List.range j)
  simpa using this

def usedP (ds : List ID) (k : Nat) : Bool := decide (0 < cntB ds (k : Int))
def onceB (ds : List ID) (j : Nat) : Bool := (List.range j).all fun k => decide (cntB ds (k : Int) ≤ 1)
theorem onceB_next (ds : List ID) (j : Nat) : onceB ds (j + 1) = (onceB ds j && decide (cntB ds (j : Int) ≤ 1)) := by
  unfold onceB
  rw [List.range_succ, List.all_append]
  simp
/-- UsedBlocks. -/
def usedR (ds : List ID) : Int × List Int := if insF ds = 0 then (if onceB ds 20 = true then (0, selL (usedP ds) 20) else (7, [])) else (insF ds, [])
def freeP (ds : List ID) (bs : List Int) (k : Nat) : Bool := decide (cntB ds (k : Int) = 0) && !(bs.contains (k : Int))
def askF (ds : List ID) (bs : List Int) : Int := if insF ds = 0 then busF bs else insF ds
/-- FreeBlocks. -/
def freeR (ds : List ID) (bs : List Int) : Int × List Int := if askF ds bs = 0 then (0, selL (freeP ds bs) 20) else (askF ds bs, [])
/-- PickBlocks. -/
def pickR (ds : List ID) (bs : List Int) (n : Int) : Int × List Int :=
  if askF ds bs = 0 then (if 0 ≤ n ∧ n ≤ 4 then (if ((selL (freeP ds bs) 20).length : Int) < n then (8, []) else (0, (selL (freeP ds bs) 20).take n.toNat)) else (3, [])) else (askF ds bs, [])
/-- The first inode that is free, or the place behind the last, or none. -/
def kindAt (ds : List ID) (k : Nat) : Int := (ds[k]?.getD id0).1
def plcI (ds : List ID) : Nat → Int
  | 0 => if ds.length < 10 then (ds.length : Int) else -1
  | m + 1 => if kindAt ds (ds.length - (m + 1)) = 0 then ((ds.length - (m + 1) : Nat) : Int) else plcI ds m
theorem plcI_yes (ds : List ID) {j : Nat} (hj : j < ds.length) (h : kindAt ds j = 0) : plcI ds (ds.length - j) = (j : Int) := by
  obtain ⟨m, hm⟩ : ∃ m, ds.length - j = m + 1 := ⟨ds.length - j - 1, by omega⟩
  rw [hm]
  show (if kindAt ds (ds.length - (m + 1)) = 0 then ((ds.length - (m + 1) : Nat) : Int) else plcI ds m) = _
  rw [show ds.length - (m + 1) = j by omega, if_pos h]
theorem plcI_no (ds : List ID) {j : Nat} (hj : j < ds.length) (h : ¬ kindAt ds j = 0) : plcI ds (ds.length - (j + 1)) = plcI ds (ds.length - j) := by
  obtain ⟨m, hm⟩ : ∃ m, ds.length - j = m + 1 := ⟨ds.length - j - 1, by omega⟩
  rw [hm, show ds.length - (j + 1) = m by omega]
  show _ = (if kindAt ds (ds.length - (m + 1)) = 0 then ((ds.length - (m + 1) : Nat) : Int) else plcI ds m)
  rw [show ds.length - (m + 1) = j by omega, if_neg h]
/-- FreeInode. -/
def finR (ds : List ID) : Int × Int := if insF ds = 0 then (if plcI ds ds.length < 0 then (8, 0) else (0, plcI ds ds.length)) else (insF ds, 0)
/-- LinksOf. -/
def lnkR (ds : List ID) (at_ : Int) : Int × Int := if insF ds = 0 then (if 0 ≤ at_ ∧ at_ ≤ (ds.length : Int) - 1 then (0, ((allE ds).count at_ : Nat)) else (3, 0)) else (insF ds, 0)

/-- An append of one word. -/
theorem append_w1 (w : World) (n₀ : Nat) (v : Value) (zs : List Int) (y : Int) (hrow : Wds w n₀ v zs) (hn₀ : n₀ ≤ w.heap.size) (hz : zs.length ≤ 16777216) :
    ∃ a c X, (Builtin.append_ #[55, 55] 55 #[v, .slice (some ⟨w.heap.size, 0, none⟩) 1 1]).run Tryz.prog (w.alloc (.cells #[.int .i64 y] 2)) = .ok (.slice a (zs ++ [y]).length c) X ∧ Wds X n₀ (.slice a (zs ++ [y]).length c) (zs ++ [y]) ∧ Below n₀ w X ∧ KeepT w X := by
  obtain ⟨i, hi, h1, h2, h3⟩ := Tryz.infoInt'
  have hrow2 : Wds (w.alloc (.cells #[.int .i64 y] 2)) n₀ v zs := hrow.later (later1 _ _)
  obtain ⟨v', X, hr, ho, hg, _⟩ := run_append_own (P := Tryz.prog) (w.alloc (.cells #[.int .i64 y] 2)) n₀ 55 55 2 i (.int .i64 0) 1 8 Tryz.underlying55 hi h1 h2 h3 rfl (by decide) v zs.length _ hrow2 ⟨w.heap.size, 0, none⟩ 1 1 [intV y]
    (by simp) (fun j u hu => by
      have hj : j = 0 := by
        have := (List.getElem?_eq_some_iff.1 hu).1
        simp at this; omega
      subst hj
      simp only [List.getElem?_cons_zero, Option.some.injEq] at hu
      subst hu
      rw [add_plain', Nat.add_zero, new_cell]
      rfl) (fun u hu => by
      simp only [List.mem_singleton] at hu
      subst hu
      rfl) (by unfold maxLen; omega) (by omega) (by simp; omega)
  have how : Wds X n₀ v' (zs ++ [y]) := by
    unfold Wds
    rw [List.length_append, List.map_append]
    exact ho
  obtain ⟨a, c, rfl⟩ := how.shape
  refine ⟨a, c, X, hr, how, ((later1 w _).mono hn₀).trans (below_grown hg (by simp; omega) (fun k hk => ?_)), (KeepT.later (later1 _ _)).trans (KeepT.grown hrow2 hg)⟩
  rcases hrow.2 with ⟨e, _⟩ | ⟨g, cap, cur, e, hb, _⟩
  · rw [e] at hk; simp [Value.ownBlock] at hk
  · rw [e] at hk
    simp only [Value.ownBlock, Option.some.injEq] at hk
    omega
theorem Wds.nil (w : World) (n₀ : Nat) : Wds w n₀ (.slice none 0 0) [] := ⟨by simp, Or.inl ⟨rfl, rfl⟩⟩
theorem Wds.own' {w w0 : World} {n₀ : Nat} {v : Value} {zs : List Int} (h : Wds w n₀ v zs) (hn : w0.heap.size ≤ n₀) : IntsO w v zs (fresh w0 w) := by
  by_cases h0 : 0 < zs.length
  · exact h.own h0 hn
  · obtain ⟨a, c, rfl⟩ := h.shape
    have : zs = [] := List.eq_nil_of_length_eq_zero (by omega)
    subst this
    exact Or.inl ⟨rfl, a, c, rfl⟩
end Go.Proofs.YtlacppjlclfpmaaGreat

namespace Go.Proofs.YtlacppjlclfpmaaGreat

def okW (z : Int) : Bool := decide (0 ≤ z ∧ z ≤ 65535)
def wordsF (ws : List Int) : Int := if 64 < ws.length then 2 else if ws.all okW then 0 else 3
/-- The first code that is not 0. -/
def firstF : List Int → Int
  | [] => 0
  | c :: cs => if c = 0 then firstF cs else c
def placeB (n : Nat) (x : Int) : Bool := decide (0 ≤ x ∧ x < (n : Int))
def putF (n : Nat) (p : Int × List Int) : Int := if placeB n p.1 = true then wordsF p.2 else 3
def faultF (bs : List (List Int)) (ps : List (Int × List Int)) : Int :=
  if 60 < bs.length ∨ 200 < ps.length then 2 else if firstF (bs.map wordsF) = 0 then firstF (ps.map (putF bs.length)) else firstF (bs.map wordsF)

theorem all_ok {ws : List Int} (h : ∀ i : Nat, i < ws.length → okW (ws[i]?.getD 0) = true) : ws.all okW = true := by
  rw [List.all_eq_true]
  intro x hx
  obtain ⟨i, hi, rfl⟩ := List.getElem_of_mem hx
  have := h i hi
  rwa [List.getElem?_eq_getElem hi, Option.getD_some] at this
theorem not_ok {ws : List Int} {i : Nat} (hi : i < ws.length) (h : okW (ws[i]?.getD 0) = false) : ws.all okW = false := by
  rw [List.getElem?_eq_getElem hi, Option.getD_some] at h
  rw [Bool.eq_false_iff]
  intro ha
  rw [List.all_eq_true] at ha
  have := ha _ (List.getElem_mem hi)
  rw [h] at this; cases this
theorem wordsF_many {ws : List Int} (h : 64 < ws.length) : wordsF ws = 2 := by simp [wordsF, h]
theorem wordsF_ok {ws : List Int} (h : ¬ 64 < ws.length) (ha : ∀ i : Nat, i < ws.length → okW (ws[i]?.getD 0) = true) : wordsF ws = 0 := by simp [wordsF, h, all_ok ha]
theorem wordsF_bad {ws : List Int} {i : Nat} (h : ¬ 64 < ws.length) (hi : i < ws.length) (ha : okW (ws[i]?.getD 0) = false) : wordsF ws = 3 := by simp [wordsF, h, not_ok hi ha]
theorem firstF_zero (l : List Int) : (∀ i : Nat, i < l.length → l[i]?.getD 0 = 0) → firstF l = 0 := by
  induction l with
  | nil => intro _; rfl
  | cons c cs ih =>
    intro h
    have h0 : c = 0 := by simpa using h 0 (by simp)
    have : firstF cs = 0 := ih fun i hi => by have := h (i + 1) (by simpa using hi); simpa using this
    simp [firstF, h0, this]
theorem firstF_at (l : List Int) : ∀ j : Nat, j < l.length → (∀ i : Nat, i < j → l[i]?.getD 0 = 0) → ¬ l[j]?.getD 0 = 0 → firstF l = l[j]?.getD 0 := by
  induction l with
  | nil => intro j hj; simp at hj
  | cons c cs ih =>
    intro j hj hz hn
    cases j with
    | zero => simp at hn; simp [firstF, hn]
    | succ j =>
      have h0 : c = 0 := by simpa using hz 0 (by omega)
      have := ih j (by simpa using hj) (fun i hi => by have := hz (i + 1) (by omega); simpa using this) (by simpa using hn)
      simp [firstF, h0, this]
theorem mapW_get (bs : List (List Int)) {i : Nat} (h : i < bs.length) : (bs.map wordsF)[i]?.getD 0 = wordsF (bs[i]?.getD []) := by
  rw [List.getElem?_map, List.getElem?_eq_getElem h]; rfl
theorem mapP_get (n : Nat) (ps : List (Int × List Int)) {i : Nat} (h : i < ps.length) : (ps.map (putF n))[i]?.getD 0 = putF n (ps[i]?.getD (0, [])) := by
  rw [List.getElem?_map, List.getElem?_eq_getElem h]; rfl
theorem faultF_many {bs : List (List Int)} {ps : List (Int × List Int)} (h : 60 < bs.length ∨ 200 < ps.length) : faultF bs ps = 2 := by simp [faultF, h]
theorem faultF_block {bs : List (List Int)} {ps : List (Int × List Int)} {j : Nat} (h : ¬ (60 < bs.length ∨ 200 < ps.length)) (hj : j < bs.length) (hz : ∀ i : Nat, i < j → wordsF (bs[i]?.getD []) = 0) (hn : ¬ wordsF (bs[j]?.getD []) = 0) : faultF bs ps = wordsF (bs[j]?.getD []) := by
  have e := firstF_at (bs.map wordsF) j (by simpa using hj) (fun i hi => by rw [mapW_get bs (by omega)]; exact hz i hi) (by rw [mapW_get bs hj]; exact hn)
  rw [mapW_get bs hj] at e
  simp [faultF, h, e, hn]
theorem faultF_put {bs : List (List Int)} {ps : List (Int × List Int)} {j : Nat} (h : ¬ (60 < bs.length ∨ 200 < ps.length)) (hb : ∀ i : Nat, i < bs.length → wordsF (bs[i]?.getD []) = 0) (hj : j < ps.length) (hz : ∀ i : Nat, i < j → putF bs.length (ps[i]?.getD (0, [])) = 0) (hn : ¬ putF bs.length (ps[j]?.getD (0, [])) = 0) : faultF bs ps = putF bs.length (ps[j]?.getD (0, [])) := by
  have e0 := firstF_zero (bs.map wordsF) (fun i hi => by rw [List.length_map] at hi; rw [mapW_get bs hi]; exact hb i hi)
  have e := firstF_at (ps.map (putF bs.length)) j (by simpa using hj) (fun i hi => by rw [mapP_get _ ps (by omega)]; exact hz i hi) (by rw [mapP_get _ ps hj]; exact hn)
  rw [mapP_get _ ps hj] at e
  simp [faultF, h, e0, e]
theorem faultF_ok {bs : List (List Int)} {ps : List (Int × List Int)} (h : ¬ (60 < bs.length ∨ 200 < ps.length)) (hb : ∀ i : Nat, i < bs.length → wordsF (bs[i]?.getD []) = 0) (hz : ∀ i : Nat, i < ps.length → putF bs.length (ps[i]?.getD (0, [])) = 0) : faultF bs ps = 0 := by
  have e0 := firstF_zero (bs.map wordsF) (fun i hi => by rw [List.length_map] at hi; rw [mapW_get bs hi]; exact hb i hi)
  have e := firstF_zero (ps.map (putF bs.length)) (fun i hi => by rw [List.length_map] at hi; rw [mapP_get _ ps hi]; exact hz i hi)
  simp [faultF, h, e0, e]

/-- The words that stand at place x while only the first k puts are looked at, the last one first. -/
def atK (bs : List (List Int)) (ps : List (Int × List Int)) (x : Int) : Nat → List Int
  | 0 => bs[x.toNat]?.getD []
  | k + 1 => if (ps[k]?.getD (0, [])).1 = x then (ps[k]?.getD (0, [])).2 else atK bs ps x k
def atF (bs : List (List Int)) (ps : List (Int × List Int)) (x : Int) : List Int := atK bs ps x ps.length
theorem atK_hit {bs : List (List Int)} {ps : List (Int × List Int)} {x : Int} {k : Nat} (h : (ps[k]?.getD (0, [])).1 = x) : atK bs ps x (k + 1) = (ps[k]?.getD (0, [])).2 := by simp [atK, h]
theorem atK_miss {bs : List (List Int)} {ps : List (Int × List Int)} {x : Int} {k : Nat} (h : ¬ (ps[k]?.getD (0, [])).1 = x) : atK bs ps x (k + 1) = atK bs ps x k := by simp [atK, h]
/-- The codes of PutBlock and of BlockAt. -/
def placeF (bs : List (List Int)) (ps : List (Int × List Int)) (x : Int) : Int := if faultF bs ps = 0 then (if placeB bs.length x = true then 0 else 3) else faultF bs ps

end Go.Proofs.YtlacppjlclfpmaaGreat

namespace Go.Proofs.YtlacppjlclfpmaaGreat
open Go.RowKit
set_option maxRecDepth 100000

theorem l1In_any (w : World) (v low high : Int) :
    Calls Tryz.prog 44 #[.int .i64 v, .int .i64 low, .int .i64 high] w fun e w' => e = .returned (.bool (decide (low ≤ v ∧ v ≤ high))) ∧ w' = w := by
  by_cases h1 : low ≤ v
  · by_cases h2 : v ≤ high
    · have e1 : decide (low ≤ v ∧ v ≤ high) = true := by simp [h1, h2]
      rw [e1]
      go_enter Tryz.func44, Tryz.ntmps44
      go_wp2
      go_ret
      exact ⟨rfl, rfl⟩
    · have e1 : decide (low ≤ v ∧ v ≤ high) = false := by simp [h2]
      rw [e1]
      go_enter Tryz.func44, Tryz.ntmps44
      go_wp2
      go_ret
      exact ⟨rfl, rfl⟩
  · have e1 : decide (low ≤ v ∧ v ≤ high) = false := by simp [h1]
    have hd : decide (low ≤ v) = false := by simpa using h1
    rw [e1]
    go_enter Tryz.func44, Tryz.ntmps44
    go_wp2
    go_ret
    exact ⟨rfl, rfl⟩

theorem l1In_is {w : World} {v low high : Int} {r : Bool} (h : decide (low ≤ v ∧ v ≤ high) = r) :
    Calls Tryz.prog 44 #[.int .i64 v, .int .i64 low, .int .i64 high] w fun e w' => e = .returned (.bool r) ∧ w' = w := by
  subst h; exact l1In_any w v low high

theorem place_l1 (n : Nat) (x : Int) : decide (0 ≤ x ∧ x ≤ (n : Int) - 1) = placeB n x := by
  unfold placeB
  by_cases h : 0 ≤ x ∧ x < (n : Int)
  · simp [h]; omega
  · simp [h]; omega

end Go.Proofs.YtlacppjlclfpmaaGreat

namespace Go.Proofs.YtlacppjlclfpmaaGreat
open Go.RowKit
set_option maxRecDepth 100000

theorem implBFor_any (w : World) (x : Int) :
    Calls Tryz.prog 104 #[.int .i64 x] w fun e w' => e = .returned (.agg #[.int .i64 (bforR x).1, .int .i64 (bforR x).2]) ∧ Below w.heap.size w w' := by
  unfold bforR sizeB
  by_cases h0 : x < 0
  · rw [show decide (0 ≤ x ∧ x ≤ 32) = false by simp; omega]
    go_enter Tryz.func104, Tryz.ntmps104
    go_wp2
    exact bodyPost_ret (v := .agg #[.int .i64 3, .int .i64 0]) (by simp [results, Tryz.results104, go_sem]) rfl ⟨rfl, by first | exact later1 _ _ | exact ((later1 _ _).setCell (by simp) _).setCell (by simp) _ | exact ((later2 _ _ _).setCell (by simp) _).setCell (by simp) _⟩
  · by_cases h1 : 32 < x
    · rw [show decide (0 ≤ x ∧ x ≤ 32) = false by simp; omega]
      go_enter Tryz.func104, Tryz.ntmps104
      go_wp2
      exact bodyPost_ret (v := .agg #[.int .i64 3, .int .i64 0]) (by simp [results, Tryz.results104, go_sem]) rfl ⟨rfl, by first | exact later1 _ _ | exact ((later1 _ _).setCell (by simp) _).setCell (by simp) _ | exact ((later2 _ _ _).setCell (by simp) _).setCell (by simp) _⟩
    · rw [show decide (0 ≤ x ∧ x ≤ 32) = true by simp; omega]
      go_enter Tryz.func104, Tryz.ntmps104
      go_wp2
      exact bodyPost_ret (v := .agg #[.int .i64 0, .int .i64 ((x + 7) / 8)]) (by simp [results, Tryz.results104, go_sem]; omega) rfl ⟨rfl, by first | exact later1 _ _ | exact ((later1 _ _).setCell (by simp) _).setCell (by simp) _⟩
end Go.Proofs.YtlacppjlclfpmaaGreat

namespace Go.Proofs.YtlacppjlclfpmaaGreat
open Go.RowKit
set_option maxRecDepth 100000

/-- The cells of block b, from place o on. -/
def BxO (w : World) (b o : Nat) (vs : List Value) : Prop := ∀ i v, vs[i]? = some v → w.cell? ⟨b, o + i, none⟩ = some v
theorem Bx.zero {w : World} {b : Nat} {vs : List Value} (h : Bx w b vs) : BxO w b 0 vs := fun i v e => by rw [Nat.zero_add]; exact h i v e
end Go.Proofs.YtlacppjlclfpmaaGreat

namespace Go.Proofs.YtlacppjlclfpmaaGreat
open Go.RowKit
set_option maxRecDepth 100000

theorem entF_name {es : List EN} {i : Nat} (h : ¬ nameF (es[i]?.getD en0).1 = 0) : entF es i = nameF (es[i]?.getD en0).1 := by unfold entF; rw [if_neg h]
theorem entF_rng {es : List EN} {i : Nat} (h : nameF (es[i]?.getD en0).1 = 0) (h2 : ¬ (0 ≤ (es[i]?.getD en0).2 ∧ (es[i]?.getD en0).2 ≤ 9)) : entF es i = 3 := by unfold entF; rw [if_pos h, if_neg h2]
theorem entF_form {es : List EN} {i : Nat} (h : nameF (es[i]?.getD en0).1 = 0) (h2 : 0 ≤ (es[i]?.getD en0).2 ∧ (es[i]?.getD en0).2 ≤ 9) (h3 : 0 < i) (h4 : strLe (es[i]?.getD en0).1 (es[i - 1]?.getD en0).1 = true) : entF es i = 1 := by unfold entF; rw [if_pos h, if_pos h2, if_pos ⟨h3, h4⟩]
theorem entF_ok {es : List EN} {i : Nat} (h : nameF (es[i]?.getD en0).1 = 0) (h2 : 0 ≤ (es[i]?.getD en0).2 ∧ (es[i]?.getD en0).2 ≤ 9) (h3 : ¬ (0 < i ∧ strLe (es[i]?.getD en0).1 (es[i - 1]?.getD en0).1 = true)) : entF es i = 0 := by unfold entF; rw [if_pos h, if_pos h2, if_neg h3]

end Go.Proofs.YtlacppjlclfpmaaGreat

namespace Go.Proofs.YtlacppjlclfpmaaGreat
open Go.RowKit
set_option maxRecDepth 100000

theorem InoAt.bx {w : World} {b o : Nat} {d : ID} (h : InoAt w b o d) : ∃ aB cB aE cE, BxO w b o [.int .i64 d.1, .int .i64 d.2.1, .int .i64 d.2.2.1, .slice aB d.2.2.2.1.length cB, .slice aE d.2.2.2.2.length cE] ∧ Ints w (.slice aB d.2.2.2.1.length cB) d.2.2.2.1 ∧ Ents w (.slice aE d.2.2.2.2.length cE) d.2.2.2.2 := by
  obtain ⟨aB, cB, aE, cE, h0, h1, h2, h3, h4, h5⟩ := h
  refine ⟨aB, cB, aE, cE, fun i v hi => ?_, h5.2.1, h5.2.2⟩
  match i, hi with
  | 0, hi => simp at hi; subst hi; exact h0
  | 1, hi => simp at hi; subst hi; exact h1
  | 2, hi => simp at hi; subst hi; exact h2
  | 3, hi => simp at hi; subst hi; exact h3
  | 4, hi => simp at hi; subst hi; exact h4
  | n + 5, hi => simp at hi

end Go.Proofs.YtlacppjlclfpmaaGreat

namespace Go.Proofs.YtlacppjlclfpmaaGreat
open Go.RowKit
set_option maxRecDepth 100000

theorem Wds.lit0 (w : World) : Wds (w.alloc (.cells #[] 2)) w.heap.size (.slice (Option.some ⟨w.heap.size, 0, none⟩) 0 0) [] := Wds.lit w w.heap.size (Nat.le_refl _) [] #[] rfl 0 rfl (by omega)

end Go.Proofs.YtlacppjlclfpmaaGreat
