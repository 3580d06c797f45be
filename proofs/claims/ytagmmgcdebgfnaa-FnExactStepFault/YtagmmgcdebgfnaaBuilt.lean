
/- Lists that a loop makes one behind the other, each in memory of its own. No program is named here. -/
import Derived.Test.YtagmmgcdebgfnaaOwn
namespace Go.Proofs.Ytagmmgcdebgfnaa
open Go.RowKit
set_option maxRecDepth 100000

/-- What came between w and w'. -/
def fresh (w w' : World) (b : Nat) : Prop := w.heap.size ≤ b ∧ b < w'.heap.size

/-- The first j lists stand, list i in the blocks from s i up to s (i + 1), none below lo. -/
structure Built (w : World) (lo j : Nat) (u : Nat → Value) (f : Nat → List Int) (s : Nat → Nat) : Prop where
  lo : lo ≤ s 0
  mono : ∀ i, i < j → s i ≤ s (i + 1)
  hi : s j ≤ w.heap.size
  at' : ∀ i, i < j → IntsO w (u i) (f i) (fun b => s i ≤ b ∧ b < s (i + 1))

theorem Built.nil {w : World} {lo : Nat} (u : Nat → Value) (f : Nat → List Int) (h : lo ≤ w.heap.size) : Built w lo 0 u f (fun _ => w.heap.size) :=
  ⟨h, fun i hi => by omega, Nat.le_refl _, fun i hi => by omega⟩
theorem Built.le {w : World} {lo j : Nat} {u : Nat → Value} {f : Nat → List Int} {s : Nat → Nat} (h : Built w lo j u f s) : ∀ i k, i ≤ k → k ≤ j → s i ≤ s k := by
  intro i k hik
  induction k with
  | zero => intro _; have : i = 0 := by omega
            subst this; exact Nat.le_refl _
  | succ k ih =>
    intro hk
    by_cases e : i = k + 1
    · subst e; exact Nat.le_refl _
    · exact Nat.le_trans (ih (by omega) (by omega)) (h.mono k (by omega))
theorem Built.low {w : World} {lo j : Nat} {u : Nat → Value} {f : Nat → List Int} {s : Nat → Nat} (h : Built w lo j u f s) (i : Nat) (hi : i ≤ j) : lo ≤ s i := Nat.le_trans h.lo (h.le 0 i (Nat.zero_le _) hi)
theorem Built.keep {w w' : World} {lo j : Nat} {u : Nat → Value} {f : Nat → List Int} {s : Nat → Nat} (h : Built w lo j u f s) (hs : w.heap.size ≤ w'.heap.size) (e : ∀ b, lo ≤ b → b < w.heap.size → w'.heap[b]? = w.heap[b]?) : Built w' lo j u f s :=
  ⟨h.lo, h.mono, Nat.le_trans h.hi hs, fun i hi => (h.at' i hi).keep fun b hb hlt => e b (Nat.le_trans (h.low i (by omega)) hb.1) hlt⟩
theorem Built.later {w w' : World} {lo j : Nat} {u : Nat → Value} {f : Nat → List Int} {s : Nat → Nat} (h : Built w lo j u f s) (hb : Below w.heap.size w w') : Built w' lo j u f s := h.keep hb.size fun b _ hlt => hb.block b hlt
theorem Built.store {w : World} {lo j : Nat} {u : Nat → Value} {f : Nat → List Int} {s : Nat → Nat} (h : Built w lo j u f s) {p : Addr} (hp : p.block < lo) (v : Value) : Built (w.setCell p v) lo j u f s :=
  h.keep (by simp [World.setCell]) fun b hb _ => Below.heap_setCell _ _ _ _ (by omega)
theorem Built.next {w w' : World} {lo j : Nat} {u : Nat → Value} {f : Nat → List Int} {s : Nat → Nat} {v : Value} (h : Built w lo j u f s) (hb : Below w.heap.size w w') (hv : IntsO w' v (f j) (fresh w w')) :
    Built w' lo (j + 1) (fun i => if i = j then v else u i) f (fun i => if i ≤ j then s i else w'.heap.size) := by
  have h' := h.later hb
  have en : ∀ i : Nat, ¬ i + 1 ≤ i := fun i => by omega
  refine ⟨by simpa using h.lo, fun i hi => ?_, by simp [en], fun i hi => ?_⟩
  · by_cases e : i = j
    · subst e; simp [en]; exact h'.hi
    · simp [show i ≤ j by omega, show i + 1 ≤ j by omega]; exact h.mono i (by omega)
  · by_cases e : i = j
    · subst e
      simp [en]
      exact hv.mono fun b hb => ⟨Nat.le_trans h.hi hb.1, hb.2⟩
    · simp [e, show i ≤ j by omega, show i + 1 ≤ j by omega]
      exact h'.at' i (by omega)
theorem Built.apart {w : World} {lo n : Nat} {u : Nat → Value} {f : Nat → List Int} {s : Nat → Nat} (h : Built w lo n u f s) (i j c : Nat) (e : i ≠ j) (h1 : i < n ∧ s i ≤ c ∧ c < s (i + 1)) (h2 : j < n ∧ s j ≤ c ∧ c < s (j + 1)) : False := by
  rcases Nat.lt_or_gt_of_ne e with h3 | h3
  · have := h.le (i + 1) j (by omega) (by omega); omega
  · have := h.le (j + 1) i (by omega) (by omega); omega
theorem Built.ints {w : World} {lo n b cap : Nat} {u : Nat → Value} {f : Nat → List Int} {s : Nat → Nat} (h : Built w lo n u f s) (zss : List (List Int)) (hn : zss.length = n) (hf : ∀ i, i < n → f i = zss[i]?.getD []) (hm : n ≤ maxLen) (hb : b < lo) (hr : OwnRow w b n u) (F : Nat → Prop) (hF : F b) (hF' : ∀ c, lo ≤ c → c < w.heap.size → F c) :
    IntsSO w (.slice (some ⟨b, 0, none⟩) n cap) zss F := by
  subst hn
  refine Or.inr ⟨b, cap, u, fun i c => i < zss.length ∧ s i ≤ c ∧ c < s (i + 1), hF, fun i c hc => ?_, fun i j c e h1 h2 => h.apart i j c e h1 h2, rfl, hm, hr, fun i hi => ?_⟩
  · have h1 := h.low i (by omega)
    have h2 := h.le (i + 1) zss.length (by omega) (Nat.le_refl _)
    have h3 := h.hi
    exact ⟨hF' c (by omega) (by omega), by omega⟩
  · rw [← hf i hi]
    exact (h.at' i hi).mono fun c hc => ⟨hi, hc⟩
theorem Built.puts {w : World} {lo n b cap : Nat} {u : Nat → Value} {f : Nat → List Int} {s : Nat → Nat} (h : Built w lo n u f s) (ps : List (Int × List Int)) (hn : ps.length = n) (hf : ∀ i, i < n → f i = (ps[i]?.getD (0, [])).2) (hm : n ≤ maxLen) (hb : b < lo) (hr : OwnRow w b (n * 2) (putCell ps u)) (F : Nat → Prop) (hF : F b) (hF' : ∀ c, lo ≤ c → c < w.heap.size → F c) :
    PutsO w (.slice (some ⟨b, 0, none⟩) n cap) ps F := by
  subst hn
  refine Or.inr ⟨b, cap, u, fun i c => i < ps.length ∧ s i ≤ c ∧ c < s (i + 1), hF, fun i c hc => ?_, fun i j c e h1 h2 => h.apart i j c e h1 h2, rfl, hm, hr, fun i hi => ?_⟩
  · have h1 := h.low i (by omega)
    have h2 := h.le (i + 1) ps.length (by omega) (Nat.le_refl _)
    have h3 := h.hi
    exact ⟨hF' c (by omega) (by omega), by omega⟩
  · rw [← hf i hi]
    exact (h.at' i hi).mono fun c hc => ⟨hi, hc⟩

theorem OwnRow.made (w : World) (z : Value) (n : Nat) (t : TypeId) : OwnRow (w.alloc (.cells (madeCells #[z] n) t)) w.heap.size n (fun _ => z) := by
  obtain ⟨c, h1, h2, h3⟩ := World.rowIs_made w z n t
  exact ⟨c, t, h1, by omega, h3⟩
theorem bcell {W w1 : World} (hb : Below W.heap.size W w1) : (∀ b o, b < W.heap.size → w1.cell? ⟨b, o, none⟩ = W.cell? ⟨b, o, none⟩) ∧ (∀ b o, b < W.heap.size → w1.frozen? ⟨b, o, none⟩ = W.frozen? ⟨b, o, none⟩) :=
  ⟨fun b o h => hb.cell (p := ⟨b, o, none⟩) h, fun b o h => hb.frozen (p := ⟨b, o, none⟩) h⟩
theorem later3 (w : World) (o o' o'' : Obj) : Below w.heap.size w (((w.alloc o).alloc o').alloc o'') := (later2 w o o').alloc (by simp; omega) _

/-- 'make' of n pairs. -/
theorem run_make_pair {P : Program} (t e : TypeId) (x y : Value) (bytes : Nat) (ht : P.underlying t = some (.slice e)) (hinfo : (P.info? e).map (fun i => (i.zero, i.size, i.bytes)) = some (some (.agg #[x, y]), 2, bytes)) (hz : (Value.agg #[x, y]).cells = #[x, y])
    (kl kc : IntKind) (n : Nat) (hbytes : bytes * n ≤ 281474976710656) (h63 : n ≤ 9223372036854775807) (w : World) :
    (Instr.makeSlice t (.int kl (n : Int)) (.int kc (n : Int))).run P w = .ok (.slice (some ⟨w.heap.size, 0, none⟩) n n) (w.alloc (.cells (madeCells #[x, y] (n * 2)) e)) := by
  obtain ⟨i, hi, hzz⟩ := Option.map_eq_some_iff.1 hinfo
  simp only [Prod.mk.injEq] at hzz
  obtain ⟨h1, h2, h3⟩ := hzz
  have hb' : (i.bytes : Int) * (n : Int) ≤ 281474976710656 := by
    have h : ((i.bytes * n : Nat) : Int) ≤ 281474976710656 := by rw [h3]; omega
    rwa [Int.natCast_mul] at h
  have hr := run_make (P := P) w t e i _ ht hi h1 kl kc n n (by omega) (Int.le_refl _) hb' (by omega)
  simp only [Int.toNat_natCast, h2, hz] at hr
  exact hr
def pairCell (x y : Value) (j : Nat) : Value := if j % 2 = 0 then x else y
theorem OwnRow.madePair (w : World) (x y : Value) (n : Nat) (t : TypeId) : OwnRow (w.alloc (.cells (madeCells #[x, y] (n * 2)) t)) w.heap.size (n * 2) (pairCell x y) := by
  refine ⟨_, t, Go.Deep.blk_alloc_new _ _, by rw [size_madeCells]; exact Nat.le_refl _, fun i hi => ?_⟩
  unfold madeCells pairCell
  rw [Array.getElem?_map]
  have h1 : (Array.range (n * 2))[i]? = some i := by simp [hi]
  rw [h1]
  rcases Nat.mod_two_eq_zero_or_one i with h | h
  · simp [h]
  · simp [h]

theorem OwnRow.two (w : World) (x y : Value) (t : TypeId) : OwnRow (w.alloc (.cells #[x, y] t)) w.heap.size 2 (fun i => if i = 0 then x else y) := by
  refine ⟨_, t, Go.Deep.blk_alloc_new _ _, by simp, fun i hi => ?_⟩
  have : i = 0 ∨ i = 1 := by omega
  rcases this with rfl | rfl <;> simp
theorem OwnRow.later {w w' : World} {b n : Nat} {f : Nat → Value} (h : OwnRow w b n f) (hb : Below w.heap.size w w') : OwnRow w' b n f := h.block (hb.block b h.lt)

/-- Nothing but new memory has come, and in it an answer. -/
structure DiskNew (w : World) (bs : List (List Int)) (ps : List (Int × List Int)) (vB vC : Value) (w' : World) : Prop where
  below : Below w.heap.size w w'
  disk : DiskO w' vB vC bs ps (fun b => w.heap.size ≤ b ∧ b < w'.heap.size)

/-- An answer that is a disk: its code, its blocks and its cache, in new memory of its own. -/
def AnsDisk (w : World) (code : Int) (bs : List (List Int)) (ps : List (Int × List Int)) (e : Ending) (w' : World) : Prop :=
  ∃ aB nB cB aC nC cC, e = .returned (.agg #[.int .i64 code, .slice aB nB cB, .slice aC nC cC]) ∧ DiskNew w bs ps (.slice aB nB cB) (.slice aC nC cC) w'

theorem ans_bad {w w' : World} (hb : Below w.heap.size w w') (code : Int) : AnsDisk w code [] [] (.returned (.agg #[.int .i64 code, .slice none 0 0, .slice none 0 0])) w' :=
  ⟨none, 0, 0, none, 0, 0, rfl, hb, fun _ => False, fun _ => False, Or.inl ⟨rfl, none, 0, rfl⟩, Or.inl ⟨rfl, none, 0, rfl⟩, fun _ h => h.elim, fun _ h => h.elim False.elim False.elim⟩

end Go.Proofs.Ytagmmgcdebgfnaa
