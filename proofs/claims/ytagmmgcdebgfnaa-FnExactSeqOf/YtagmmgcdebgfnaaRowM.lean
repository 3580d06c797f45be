
/- Rows that grow by append: where the row lies behind it; and rows told otherwise. -/
import Derived.Test.YtagmmgcdebgfnaaCpyA
namespace Go.Proofs.Ytagmmgcdebgfnaa
open Go.RowKit
set_option maxRecDepth 100000

/-- What 'append' of one element comes to, and where the row lies behind it. -/
theorem LRow.append2 {C : Nat → Value → List Value} (w w1 : World) (t ty e : TypeId) (i : TypeInfo) (z : Value) (size bytes : Nat) (ht : Try.prog.underlying t = some (.slice e)) (hi : Try.prog.info? e = some i) (hz : i.zero = some z) (hsize : i.size = size) (hby : i.bytes = bytes) (hzs : z.cells.size = size) (hsz : 0 < size) (hbb : bytes ≤ 1000)
    (base lo n : Nat) (v : Value) (f : Nat → List Int) (k : Nat → Nat) (u : Nat → Value) (h : LRow C w base lo e size v n f k u) (hb : base ≤ w.heap.size) (hn : n ≤ 100000) (hb1 : Below w.heap.size w w1)
    (a : Option Addr) (c : Nat) (hlen : (C n (.slice a (f n).length c)).length = size) (hone : ∀ x ∈ C n (.slice a (f n).length c), x.oneCell' = true) (kb : Nat) (hk1 : lo ≤ kb) (hk2 : kb < w1.heap.size) (hk3 : v.ownBlock ≠ some kb) (hk4 : ∀ i, i < n → k i ≠ kb) (hf : IntsO w1 (.slice a (f n).length c) (f n) (fun x => x = kb)) :
    ∃ g cap X, (Builtin.append_ #[t, t] ty #[v, .slice (some ⟨w1.heap.size, 0, none⟩) 1 1]).run Try.prog (w1.alloc (.cells (C n (.slice a (f n).length c)).toArray e)) = .ok (.slice (some ⟨g, 0, none⟩) (n + 1) cap) X ∧
      (∀ b, b < w1.heap.size → v.ownBlock ≠ some b → X.heap[b]? = w1.heap[b]?) ∧ Below base w X ∧ w1.heap.size < X.heap.size ∧ (v.ownBlock = some g ∨ w1.heap.size < g) ∧
      LRow C X base lo e size (.slice (some ⟨g, 0, none⟩) (n + 1) cap) (n + 1) f (fun j => if j = n then kb else k j) (fun j => if j = n then .slice a (f n).length c else u j) := by
  have hsz1 := hb1.size
  have hbW : Below w.heap.size w (w1.alloc (.cells (C n (.slice a (f n).length c)).toArray e)) := hb1.trans ((later1 _ _).mono hb1.size)
  have hW := h.later hbW
  obtain ⟨g, cap, X, hr, ho, hg, hat, hgX⟩ := run_append_lies (P := Try.prog) (w1.alloc (.cells (C n (.slice a (f n).length c)).toArray e)) t ty base e i z size bytes ht hi hz hsize hby hzs hsz v n _ hW.own ⟨w1.heap.size, 0, none⟩ 1 1 (C n (.slice a (f n).length c)) (by rw [hlen, Nat.one_mul])
    (fun j x hx => by
      rw [add_plain', Nat.zero_add, new_cell]
      simpa using hx) hone (by decide) (by unfold maxLen; omega) (by have : (n + 1) * bytes ≤ 100001 * 1000 := Nat.mul_le_mul (by omega) hbb; omega) (by simp; omega) (w1.heap.size + 1) (by simp)
  have hrow : ∀ g, v.ownBlock = some g → g < w.heap.size := fun g hg => (h.own.lt g hg).2
  have hrowb : ∀ g, v.ownBlock = some g → base ≤ g := fun g hg => (h.own.lt g hg).1
  have hXb : ∀ b, b < w1.heap.size → v.ownBlock ≠ some b → X.heap[b]? = w1.heap[b]? := fun b hb' hne => (hg.block b (by simp; omega) (fun e => hne e.symm)).trans ((later1 _ _).block b hb')
  have hne : ∀ b, b < w1.heap.size → v.ownBlock ≠ some b → g ≠ b := by
    intro b hb' hb2 e
    subst e
    rcases hat with h | h
    · exact hb2 h
    · omega
  have old : ∀ b, b < w.heap.size → v.ownBlock ≠ some b → X.heap[b]? = w.heap[b]? := fun b hb' hne => (hXb b (by omega) hne).trans (hb1.block b hb')
  have hXs : w1.heap.size < X.heap.size := by have := hg.size; simp at this; omega
  refine ⟨g, cap, X, hr, hXb, (hbW.mono hb).trans (below_grown hg (by simp; omega) (fun g hg' => hrowb g hg')), hXs, hat.imp_right (fun h => by omega), ⟨?_, fun j hj => ?_, fun j hj => ?_, fun j j' hj hj' e => ?_, fun j hj => ?_, fun j hj => ?_⟩⟩
  · rw [List.range_succ, List.flatMap_append]
    have e1 : (List.range n).flatMap (fun i => C i (if i = n then .slice a (f n).length c else u i)) = (List.range n).flatMap (fun i => C i (u i)) := by
      have e0 : (List.range n).map (fun i => C i (if i = n then .slice a (f n).length c else u i)) = (List.range n).map (fun i => C i (u i)) := List.map_congr_left fun i hi => by rw [if_neg (by have := List.mem_range.1 hi; omega)]
      rw [List.flatMap_def, List.flatMap_def, e0]
    have e2 : [n].flatMap (fun i => C i (if i = n then .slice a (f n).length c else u i)) = C n (.slice a (f n).length c) := by simp only [List.flatMap_cons, List.flatMap_nil, List.append_nil, if_true]
    rw [e1, e2]
    exact ho
  · by_cases e : j = n
    · subst e; simp; omega
    · have := h.lo j (by omega); simp [e]; omega
  · by_cases e : j = n
    · subst e
      simp only [if_true]
      exact fun e => hne kb hk2 hk3 (by simpa [Value.ownBlock] using e)
    · have hj' : j < n := by omega
      have hl := h.lo j hj'
      simp only [e, if_false]
      exact fun e => hne (k j) (by omega) (h.ne j hj') (by simpa [Value.ownBlock] using e)
  · by_cases e1 : j = n
    · by_cases e2 : j' = n
      · omega
      · simp [e1, e2]; exact fun e => hk4 j' (by omega) e.symm
    · by_cases e2 : j' = n
      · simp [e1, e2]; exact hk4 j (by omega)
      · simp [e1, e2]; exact h.inj j j' (by omega) (by omega) e
  · by_cases e : j = n
    · subst e; exact ⟨a, c, by simp⟩
    · simp only [e, if_false]; exact h.sh j (by omega)
  · by_cases e : j = n
    · subst e
      simp only [if_true]
      exact hf.keep fun b hb' hlt' => by rw [hb']; exact hXb kb hk2 hk3
    · have hj' : j < n := by omega
      simp only [e, if_false]
      exact (h.at' j hj').keep fun b hb' hlt' => by rw [hb']; exact old _ (h.lo j hj').2 (h.ne j hj')


theorem LRow.congr2 {a a' : Nat → Int} {w : World} {base lo : Nat} {e : TypeId} {size : Nat} {v : Value} {n : Nat} {f f' : Nat → List Int} {k : Nat → Nat} {u : Nat → Value} (h : LRow (C2 a) w base lo e size v n f k u) (ha : ∀ i, i < n → a i = a' i) (hf : ∀ i, i < n → f i = f' i) : LRow (C2 a') w base lo e size v n f' k u := by
  refine ⟨?_, h.lo, h.ne, h.inj, fun i hi => by rw [← hf i hi]; exact h.sh i hi, fun i hi => by rw [← hf i hi]; exact h.at' i hi⟩
  have e0 : (List.range n).map (fun i => C2 a i (u i)) = (List.range n).map (fun i => C2 a' i (u i)) := List.map_congr_left fun i hi => by unfold C2; rw [ha i (List.mem_range.1 hi)]
  have := h.own
  rw [List.flatMap_def, e0, ← List.flatMap_def] at this
  exact this

/-- The copy of a put's words, and what appending that put comes to: in one contract; blocks that are neither the row's nor new stay. -/
theorem l1Ints_put2 (wr : World) (S q : Nat) (v uv : Value) (f : Nat → Int × List Int) (k : Nat → Nat) (u : Nat → Value) (hLR : LRow (C2 fun i => (f i).1) wr S S 100 2 v q (fun i => (f i).2) k u) (hsq : S ≤ wr.heap.size) (hq : q ≤ 100000) (hi : Ints wr uv (f q).2) (hl : (f q).2.length ≤ 1048576) :
    Calls Try.prog 95 #[uv] wr.drew fun e w1 => ∃ na nc g2 cap2 X k' u', e = .returned (.slice na (f q).2.length nc) ∧
      Hid ((Builtin.append_ #[47, 47] 47 #[v, .slice (some ⟨w1.heap.size, 0, none⟩) 1 1]).run Try.prog (w1.alloc (.cells #[.int .i64 (f q).1, .slice na (f q).2.length nc] 100)) = .ok (.slice (some ⟨g2, 0, none⟩) (q + 1) cap2) X) ∧
      Below wr.heap.size wr w1 ∧ (∀ b, b < wr.heap.size → v.ownBlock ≠ some b → X.heap[b]? = wr.heap[b]?) ∧ wr.heap.size ≤ X.heap.size ∧ (v.ownBlock = some g2 ∨ wr.heap.size < g2) ∧ (∀ i, i < q + 1 → k' i = k i ∧ i < q ∨ wr.heap.size ≤ k' i) ∧ Below S wr X ∧ Hid (LRow (C2 fun i => (f i).1) X S S 100 2 (.slice (some ⟨g2, 0, none⟩) (q + 1) cap2) (q + 1) (fun i => (f i).2) k' u') := by
  refine (l1Ints_more (w := wr.drew) hi hl).mono ?_
  rintro e w1 ⟨na, nc, rfl, hb1, ho1, hs1⟩
  obtain ⟨kb, hk1, hk2, hkf⟩ := ho1.one hs1
  obtain ⟨ti, hi, h1, h2, h3⟩ := Try.infoPut'
  have hk1' : wr.heap.size ≤ kb := hk1
  have hs1' : wr.heap.size < w1.heap.size := hs1
  obtain ⟨g2, cap2, X, hr, hXb, hBX, hXs, hat, hLX⟩ := LRow.append2 wr w1 47 47 100 ti _ 2 32 Try.underlying47 hi h1 h2 h3 rfl (by decide) (by decide) S S q _ _ k u hLR hsq hq ((Below.refl _ _).drew.trans hb1) na nc rfl (fun x hx => by simp [C2] at hx; rcases hx with rfl | rfl <;> rfl) kb (Nat.le_trans hsq hk1') hk2 (fun e => by have := (hLR.own.lt _ e).2; omega) (fun i hi e => by have := (hLR.lo i hi).2; omega) hkf
  refine ⟨na, nc, g2, cap2, X, _, _, rfl, hr, (Below.refl _ _).drew.trans hb1, fun b hb hne => (hXb b (by omega) hne).trans (hb1.block b hb), by omega, hat.imp_right (fun h => by omega), fun i hi => ?_, hBX, hLX⟩
  by_cases e : i = q
  · right; simp [e]; exact hk1'
  · left; simp [e]; omega

end Go.Proofs.Ytagmmgcdebgfnaa
