/- What a drawn disk lies in: lists of numbers that nothing turns, a row of lists, a row of puts that grows. Lists of inodes: how they read, what they own. No program is named here. Which blocks are used and which are free. No program is named here. The specification's draws: a pick, words. The plain mathematics of chapter 1: the codes of words, puts and disks. No program, no world. -/
import Derived.Test.YtjbppdkijjfejaaM02
import Derived.Test.YtjbppdkijjfejaaM03
namespace Go.Proofs.Ytjbppdkijjfejaa
open Go.RowKit
set_option maxRecDepth 100000

theorem pick_lt {α : Type} [Inhabited α] {n : Nat} {P : Nat → α → Prop} (h : ∀ i, i < n → ∃ q, P i q) : ∃ f : Nat → α, ∀ i, i < n → P i (f i) := by
  have h' : ∀ i, ∃ q, i < n → P i q := fun i => by
    by_cases hi : i < n
    · obtain ⟨q, hq⟩ := h i hi
      exact ⟨q, fun _ => hq⟩
    · exact ⟨default, fun h => absurd h hi⟩
  exact ⟨fun i => Classical.choose (h' i), fun i hi => Classical.choose_spec (h' i) hi⟩
/-- A short list of numbers in one block of its own type, none below lo. -/
def IntsX (w : World) (lo : Nat) (v : Value) (zs : List Int) : Prop :=
  ∃ a n c, v = .slice a n c ∧ zs.length = n ∧ n ≤ 70 ∧ (n = 0 ∨ ∃ b cs fr, a = some ⟨b, 0, none⟩ ∧ lo ≤ b ∧ w.heap[b]? = some (.cells cs 2 fr) ∧ ∀ k, k < n → cs[k]? = some (.int .i64 (zs[k]?.getD 0)))
/-- Blocks of numbers stand as they did. -/
def KeepX (lo : Nat) (w w' : World) : Prop := ∀ (b : Nat) (c : Array Value) (fr : Nat × Nat), lo ≤ b → w.heap[b]? = some (Obj.cells c 2 fr) → w'.heap[b]? = some (Obj.cells c 2 fr)
theorem KeepX.refl (lo : Nat) (w : World) : KeepX lo w w := fun _ _ _ _ h => h
theorem KeepX.trans {lo : Nat} {a b c : World} (h : KeepX lo a b) (k : KeepX lo b c) : KeepX lo a c := fun i cs fr hl hi => k i cs fr hl (h i cs fr hl hi)
theorem KeepX.later {lo : Nat} {w w' : World} (hb : Below w.heap.size w w') : KeepX lo w w' := fun b _ _ _ h => (hb.block b (Array.getElem?_eq_some_iff.1 h).1).trans h
theorem KeepX.chg {lo sb : Nat} {w w' : World} (hc : Chg (fun b => b = sb) w w') (hs : sb < lo) : KeepX lo w w' := fun b _ _ hl h => (hc.block b (Array.getElem?_eq_some_iff.1 h).1 (by omega)).trans h
theorem KeepX.set {lo : Nat} {w : World} {p : Addr} {cs : Array Value} {t : TypeId} {f : Nat × Nat} (hp : w.heap[p.block]? = some (.cells cs t f)) (ht : t ≠ 2) (v : Value) : KeepX lo w (w.setCell p v) := fun b c fr _ h => by
  refine (Below.heap_setCell _ _ _ _ fun e => ?_).trans h
  subst e
  rw [hp] at h
  simp only [Option.some.injEq, Obj.cells.injEq] at h
  exact ht h.2.1
theorem IntsX.keep {w w' : World} {lo : Nat} {v : Value} {zs : List Int} (h : IntsX w lo v zs) (hk : KeepX lo w w') : IntsX w' lo v zs := by
  obtain ⟨a, n, c, e, hl, hn, h0 | ⟨b, cs, fr, ea, hlo, hb, hc⟩⟩ := h
  · exact ⟨a, n, c, e, hl, hn, Or.inl h0⟩
  · exact ⟨a, n, c, e, hl, hn, Or.inr ⟨b, cs, fr, ea, hlo, hk b cs fr hlo hb, hc⟩⟩
theorem IntsX.ints {w : World} {lo : Nat} {v : Value} {zs : List Int} (h : IntsX w lo v zs) : Ints w v zs := by
  obtain ⟨a, n, c, rfl, hl, hn, h0 | ⟨b, cs, fr, rfl, _, hb, hc⟩⟩ := h
  · subst h0
    exact Or.inl ⟨List.eq_nil_of_length_eq_zero hl, a, c, rfl⟩
  · refine Or.inr ⟨b, 0, c, by rw [hl], by rw [hl]; unfold maxLen; omega, fun k hk => ?_⟩
    rw [hl] at hk
    simp [World.cell?, hb, hc k hk]
theorem IntsX.len {w : World} {lo : Nat} {v : Value} {zs : List Int} (h : IntsX w lo v zs) : zs.length ≤ 70 := by
  obtain ⟨a, n, c, _, hl, hn, _⟩ := h
  omega
theorem IntsX.nil (w : World) (lo : Nat) (a : Option Addr) (c : Nat) : IntsX w lo (.slice a 0 c) [] := ⟨a, 0, c, rfl, rfl, by omega, Or.inl rfl⟩
theorem IntsX.lit (w : World) (lo : Nat) (zs : List Int) (arr : Array Value) (n : Nat) (he : arr = (zs.map intV).toArray) (hn : zs.length = n) (h70 : n ≤ 70) (hlo : lo ≤ w.heap.size) : IntsX (w.alloc (.cells arr 2)) lo (.slice (some ⟨w.heap.size, 0, none⟩) n n) zs := by
  subst he
  refine ⟨_, _, _, rfl, hn, h70, Or.inr ⟨w.heap.size, _, _, rfl, hlo, Go.Deep.blk_alloc_new _ _, fun k hk => ?_⟩⟩
  have : k < zs.length := by omega
  simp [List.getElem?_eq_getElem this, intV]
theorem Wds.x {w : World} {lo : Nat} {v : Value} {zs : List Int} (h : Wds w lo v zs) (h70 : zs.length ≤ 70) : IntsX w lo v zs := by
  obtain ⟨a, c, rfl⟩ := h.shape
  by_cases h0 : zs.length = 0
  · exact ⟨_, _, _, rfl, rfl, h70, Or.inl h0⟩
  · rcases h.2 with ⟨_, e⟩ | ⟨g, cap, cur, e, hb, hh, hnc, hcm, hcs, htake⟩
    · omega
    · simp only [Value.slice.injEq] at e
      obtain ⟨rfl, _, rfl⟩ := e
      refine ⟨_, _, _, rfl, rfl, h70, Or.inr ⟨g, cur, _, rfl, hb, hh, fun k hk => ?_⟩⟩
      rw [Nat.mul_one] at htake
      have h1 : (zs.map intV)[k]? = cur[k]? := by rw [← htake, List.getElem?_take, if_pos hk, Array.getElem?_toList]
      rw [← h1, List.getElem?_map, List.getElem?_eq_getElem hk]
      rfl

/-- A row of n short lists in block b. -/
def RowX (w : World) (lo b n : Nat) : Prop := ∃ us : List Value, us.length = n ∧ w.heap[b]? = some (.cells us.toArray 36 (0, 0)) ∧ ∀ i, i < n → ∃ zs, IntsX w lo (us[i]?.getD (.bool false)) zs
theorem RowX.keep {w w' : World} {lo b n : Nat} (h : RowX w lo b n) (hb : w'.heap[b]? = w.heap[b]?) (hk : KeepX lo w w') : RowX w' lo b n := by
  obtain ⟨us, hl, hr, hi⟩ := h
  exact ⟨us, hl, hb.trans hr, fun i hin => by obtain ⟨zs, hz⟩ := hi i hin; exact ⟨zs, hz.keep hk⟩⟩
theorem RowX.lt {w : World} {lo b n : Nat} (h : RowX w lo b n) : b < w.heap.size := by
  obtain ⟨us, _, hr, _⟩ := h
  exact (Array.getElem?_eq_some_iff.1 hr).1
theorem RowX.cell {w : World} {lo b n i : Nat} (h : RowX w lo b n) (hi : i < n) : ∃ a m c, w.cell? ⟨b, i, none⟩ = some (.slice a m c) := by
  obtain ⟨us, hl, hr, hz⟩ := h
  obtain ⟨zs, a, m, c, e, _⟩ := hz i hi
  refine ⟨a, m, c, ?_⟩
  rw [← e]
  simp [World.cell?, hr, List.getElem?_eq_getElem (show i < us.length by omega)]
theorem RowX.frozen {w : World} {lo b n : Nat} (h : RowX w lo b n) (i : Nat) : w.frozen? ⟨b, i, none⟩ = false := by
  obtain ⟨us, hl, hr, hz⟩ := h
  simp [World.frozen?, hr]
theorem RowX.set {w : World} {lo b n : Nat} (h : RowX w lo b n) (i : Nat) {v : Value} {zs : List Int} (hv : IntsX w lo v zs) : RowX (w.setCell ⟨b, i, none⟩ v) lo b n ∧ KeepX lo w (w.setCell ⟨b, i, none⟩ v) := by
  obtain ⟨us, hl, hr, hz⟩ := h
  have hk : KeepX lo w (w.setCell ⟨b, i, none⟩ v) := KeepX.set (p := ⟨b, i, none⟩) hr (by decide) v
  refine ⟨⟨us.set i v, by simpa using hl, ?_, fun j hj => ?_⟩, hk⟩
  · simp [World.setCell, Array.getElem?_modify, hr]
  · by_cases e : i = j
    · subst e
      rw [List.getElem?_set_self (by omega)]
      exact ⟨zs, hv.keep hk⟩
    · rw [List.getElem?_set_ne e]
      obtain ⟨z, h2⟩ := hz j hj
      exact ⟨z, h2.keep hk⟩
theorem RowX.ints {w : World} {lo b n c : Nat} (h : RowX w lo b n) (hn : n ≤ 100) : ∃ zss, zss.length = n ∧ (∀ W : World, W.heap[b]? = w.heap[b]? → KeepX lo w W → IntsS W (.slice (some ⟨b, 0, none⟩) n c) zss) ∧ ∀ k : Nat, (zss[k]?.getD []).length ≤ 70 := by
  obtain ⟨us, hl, hr, hz⟩ := h
  obtain ⟨f, hf⟩ := pick_lt hz
  refine ⟨(List.range n).map f, by simp, fun W hW hK => Or.inr ⟨b, 0, c, fun k => us[k]?.getD (.bool false), by simp, by simp; unfold maxLen; omega, fun k hk => ?_⟩, fun k => ?_⟩
  · simp only [List.length_map, List.length_range] at hk
    have hg : ((List.range n).map f)[k]?.getD [] = f k := by simp [hk]
    rw [hg]
    exact ⟨by simp [World.cell?, hW.trans hr, List.getElem?_eq_getElem (show k < us.length by omega)], ((hf k hk).keep hK).ints⟩
  · by_cases hk : k < n
    · have hg : ((List.range n).map f)[k]?.getD [] = f k := by simp [hk]
      rw [hg]
      exact (hf k hk).len
    · rw [List.getElem?_eq_none (by simpa using Nat.le_of_not_lt hk)]; simp
theorem RowX.made (w : World) (lo n : Nat) : RowX (w.alloc (.cells (madeCells #[.slice none 0 0] n) 36)) lo w.heap.size n := by
  refine ⟨List.replicate n (.slice none 0 0), by simp, ?_, fun i hi => ⟨[], by rw [List.getElem?_replicate, if_pos hi]; exact IntsX.nil _ _ _ _⟩⟩
  rw [Go.Deep.blk_alloc_new]
  congr 2
  apply Array.ext_getElem?
  intro i
  unfold madeCells
  rw [Array.getElem?_map]
  by_cases hi : i < n
  · simp [hi, Nat.mod_one]
  · simp [hi]

/-- Puts that were appended, their words short lists. -/
def PutX (w : World) (lo : Nat) (v : Value) (m : Nat) : Prop := ∃ xs : List Value, w.ownsRow lo 38 2 v m xs ∧ ∀ i, i < m → ∃ z uv ws, xs[i * 2]? = some (.int .i64 z) ∧ xs[i * 2 + 1]? = some uv ∧ IntsX w lo uv ws
/-- Blocks of other types than puts' stand as they did. -/
def KeepP (w w' : World) : Prop := ∀ (b : Nat) (c : Array Value) (t : TypeId) (fr : Nat × Nat), t ≠ 38 → w.heap[b]? = some (Obj.cells c t fr) → w'.heap[b]? = some (Obj.cells c t fr)
theorem KeepP.trans {a b c : World} (h : KeepP a b) (k : KeepP b c) : KeepP a c := fun i cs t fr ht hi => k i cs t fr ht (h i cs t fr ht hi)
theorem KeepP.later {w w' : World} (hb : Below w.heap.size w w') : KeepP w w' := fun b _ _ _ _ h => (hb.block b (Array.getElem?_eq_some_iff.1 h).1).trans h
theorem KeepP.x {lo : Nat} {w w' : World} (h : KeepP w w') : KeepX lo w w' := fun b c fr _ hb => h b c _ fr (by decide) hb
theorem PutX.nil (w : World) (lo : Nat) : PutX w lo (.slice none 0 0) 0 := ⟨[], ⟨by simp, Or.inl ⟨rfl, rfl⟩⟩, fun i hi => by omega⟩
theorem PutX.shape {w : World} {lo m : Nat} {v : Value} (h : PutX w lo v m) : ∃ a c, v = .slice a m c := by
  obtain ⟨xs, h, _⟩ := h
  rcases h.2 with ⟨e, h0⟩ | ⟨g, cap, cur, e, _⟩
  · exact ⟨none, 0, by rw [e, h0]⟩
  · exact ⟨_, _, e⟩
theorem PutX.move {w w' : World} {lo m : Nat} {v : Value} (h : PutX w lo v m) (hg : ∀ g cur, lo ≤ g → w.heap[g]? = some (.cells cur 38) → w'.heap[g]? = w.heap[g]?) (hk : KeepX lo w w') : PutX w' lo v m := by
  obtain ⟨xs, ⟨hl, ho⟩, hx⟩ := h
  refine ⟨xs, ⟨hl, ?_⟩, fun i hi => ?_⟩
  · rcases ho with h | ⟨g, cap, cur, h1, h2, h3, h4⟩
    · exact Or.inl h
    · exact Or.inr ⟨g, cap, cur, h1, h2, (hg g cur h2 h3).trans h3, h4⟩
  · obtain ⟨z, uv, ws, h1, h2, h3⟩ := hx i hi
    exact ⟨z, uv, ws, h1, h2, h3.keep hk⟩
theorem Try.infoPutX : ∃ i, Try.prog.info? 38 = some i ∧ i.zero = some (.agg #[.int .i64 0, .slice none 0 0]) ∧ i.size = 2 ∧ i.bytes = 32 := by
  obtain ⟨i, hi, h⟩ := Option.map_eq_some_iff.1 Try.infoPut
  simp only [Prod.mk.injEq] at h
  exact ⟨i, hi, h.1, h.2.1, h.2.2⟩
theorem PutX.append (w : World) (lo m : Nat) (v : Value) (z : Int) (a : Option Addr) (n c : Nat) (ws : List Int) (h : PutX w lo v m) (hm : m ≤ 1000) (hlo : lo ≤ w.heap.size) (hw : IntsX w lo (.slice a n c) ws) :
    ∃ g cap X, (Builtin.append_ #[25, 25] 25 #[v, .slice (some ⟨w.heap.size, 0, none⟩) 1 1]).run Try.prog (w.alloc (.cells #[.int .i64 z, .slice a n c] 38)) = .ok (.slice (some ⟨g, 0, none⟩) (m + 1) cap) X ∧
      PutX X lo (.slice (some ⟨g, 0, none⟩) (m + 1) cap) (m + 1) ∧ Below lo w X ∧ KeepP w X := by
  obtain ⟨i, hi, h1, h2, h3⟩ := Try.infoPutX
  obtain ⟨xs, ho, hx⟩ := h
  have ho2 := ownsRow_later ho (later1 w (.cells #[.int .i64 z, .slice a n c] 38))
  obtain ⟨v', X, hr, how, hg, _⟩ := run_append_own (P := Try.prog) (w.alloc (.cells #[.int .i64 z, .slice a n c] 38)) lo 25 25 38 i (.agg #[.int .i64 0, .slice none 0 0]) 2 32 Try.underlying25 hi h1 h2 h3 rfl (by decide) v m xs ho2 ⟨w.heap.size, 0, none⟩ 1 1 [.int .i64 z, .slice a n c]
    (by simp) (fun j u hu => by
      rw [add_plain', Nat.zero_add, new_cell]
      simpa using hu) (fun u hu => by
      simp only [List.mem_cons, List.not_mem_nil, or_false] at hu
      rcases hu with rfl | rfl <;> rfl) (by unfold maxLen; omega) (by omega) (by simp; omega)
  have hv' : ∃ g cap, v' = .slice (some ⟨g, 0, none⟩) (m + 1) cap := by
    rcases how.2 with ⟨_, e⟩ | ⟨g, cap, cur, e, _⟩
    · omega
    · exact ⟨g, cap, e⟩
  obtain ⟨g, cap, rfl⟩ := hv'
  have hkp : KeepP (w.alloc (.cells #[.int .i64 z, .slice a n c] 38)) X := fun b cs t fr ht hb => by
    refine (hg.block b (Array.getElem?_eq_some_iff.1 hb).1 fun e => ?_).trans hb
    rcases ho2.2 with ⟨rfl, _⟩ | ⟨g', cap', cur, rfl, _, hh, _⟩
    · simp [Value.ownBlock] at e
    · simp only [Value.ownBlock, Option.some.injEq] at e
      subst e
      rw [hh] at hb
      simp only [Option.some.injEq, Obj.cells.injEq] at hb
      exact ht hb.2.1.symm
  have hkw : KeepP w X := (KeepP.later (later1 _ _)).trans hkp
  refine ⟨g, cap, X, hr, ⟨xs ++ [.int .i64 z, .slice a n c], how, fun j hj => ?_⟩, ((later1 w _).mono hlo).trans (below_grown hg (by simp; omega) (fun k hk => ?_)), hkw⟩
  · have hxl : xs.length = m * 2 := ho.1
    by_cases e : j = m
    · subst e
      refine ⟨z, .slice a n c, ws, ?_, ?_, hw.keep hkw.x⟩
      · rw [List.getElem?_append_right (by omega), hxl, Nat.sub_self]; rfl
      · rw [List.getElem?_append_right (by omega), hxl, show j * 2 + 1 - j * 2 = 1 by omega]; rfl
    · obtain ⟨z', uv, ws', e1, e2, e3⟩ := hx j (by omega)
      exact ⟨z', uv, ws', by rw [List.getElem?_append_left (by omega)]; exact e1, by rw [List.getElem?_append_left (by omega)]; exact e2, e3.keep hkw.x⟩
  · rcases ho2.2 with ⟨rfl, _⟩ | ⟨g', cap', cur, rfl, hlo', _⟩
    · simp [Value.ownBlock] at hk
    · simp only [Value.ownBlock, Option.some.injEq] at hk
      omega
theorem PutX.puts {w : World} {lo m : Nat} {v : Value} (h : PutX w lo v m) (hm : m ≤ 1000) : ∃ ps : List (Int × List Int), ps.length = m ∧ (∀ W : World, (∀ g cur, lo ≤ g → w.heap[g]? = some (.cells cur 38) → W.heap[g]? = w.heap[g]?) → KeepX lo w W → Puts W v ps) ∧ ∀ k : Nat, (ps[k]?.getD (0, [])).2.length ≤ 70 := by
  obtain ⟨xs, ⟨hl, ho⟩, hx⟩ := h
  rcases ho with ⟨rfl, rfl⟩ | ⟨g, cap, cur, rfl, hlg, hh, hnc, hcm, hcs, htake⟩
  · exact ⟨[], rfl, fun _ _ _ => Or.inl ⟨rfl, _, _, rfl⟩, fun k => by simp⟩
  · have hx' : ∀ i, i < m → ∃ q : (Int × List Int) × Option Value, xs[i * 2]? = some (.int .i64 q.1.1) ∧ xs[i * 2 + 1]? = q.2 ∧ (∃ u, q.2 = some u ∧ IntsX w lo u q.1.2) := fun i hi => by
      obtain ⟨z, uv, ws, h1, h2, h3⟩ := hx i hi
      exact ⟨((z, ws), some uv), h1, h2, uv, rfl, h3⟩
    obtain ⟨f, hf⟩ := pick_lt hx'
    have hcell : ∀ W : World, W.heap[g]? = w.heap[g]? → ∀ j, j < m * 2 → W.cell? ⟨g, j, none⟩ = xs[j]? := fun W hW j hj => by
      rw [← htake, List.getElem?_take, if_pos hj, Array.getElem?_toList]
      simp [World.cell?, hW.trans hh]
    refine ⟨(List.range m).map fun i => (f i).1, by simp, fun W hW hK => Or.inr ⟨g, 0, cap, fun k => (f k).2.getD (.bool false), by simp, by simp; unfold maxLen; omega, fun k hk => ?_⟩, fun k => ?_⟩
    · simp only [List.length_map, List.length_range] at hk
      have hg : ((List.range m).map fun i => (f i).1)[k]?.getD (0, []) = (f k).1 := by simp [hk]
      rw [hg]
      obtain ⟨h1, h2, u, e, h3⟩ := hf k hk
      have eu : (f k).2.getD (.bool false) = u := by rw [e]; rfl
      exact ⟨by rw [Nat.zero_add, hcell W (hW g cur hlg hh) _ (by omega)]; exact h1, by rw [Nat.zero_add, hcell W (hW g cur hlg hh) _ (by omega), h2, e]; exact congrArg some eu.symm, by show Ints W ((f k).2.getD (.bool false)) _; rw [eu]; exact (h3.keep hK).ints⟩
    · by_cases hk : k < m
      · have hg : ((List.range m).map fun i => (f i).1)[k]?.getD (0, []) = (f k).1 := by simp [hk]
        rw [hg]
        obtain ⟨_, _, u, _, h3⟩ := hf k hk
        exact h3.len
      · rw [List.getElem?_eq_none (by simpa using Nat.le_of_not_lt hk)]; simp
end Go.Proofs.Ytjbppdkijjfejaa

namespace Go.Proofs.Ytjbppdkijjfejaa
open Go.RowKit
set_option maxRecDepth 100000

def id0 : ID := (0, 0, 0, [], [])
/-- The cells of a row of inodes. -/
def inCell (ds : List ID) (u : Nat → Value × Value) (j : Nat) : Value :=
  if j % 5 = 0 then .int .i64 (ds[j / 5]?.getD id0).1 else if j % 5 = 1 then .int .i64 (ds[j / 5]?.getD id0).2.1 else if j % 5 = 2 then .int .i64 (ds[j / 5]?.getD id0).2.2.1 else if j % 5 = 3 then (u (j / 5)).1 else (u (j / 5)).2
theorem inCell_0 (ds : List ID) (u : Nat → Value × Value) (k : Nat) : inCell ds u (k * 5) = .int .i64 (ds[k]?.getD id0).1 := by
  unfold inCell; rw [if_pos (by omega), show k * 5 / 5 = k by omega]
theorem inCell_1 (ds : List ID) (u : Nat → Value × Value) (k : Nat) : inCell ds u (k * 5 + 1) = .int .i64 (ds[k]?.getD id0).2.1 := by
  unfold inCell; rw [if_neg (by omega), if_pos (by omega), show (k * 5 + 1) / 5 = k by omega]
theorem inCell_2 (ds : List ID) (u : Nat → Value × Value) (k : Nat) : inCell ds u (k * 5 + 2) = .int .i64 (ds[k]?.getD id0).2.2.1 := by
  unfold inCell; rw [if_neg (by omega), if_neg (by omega), if_pos (by omega), show (k * 5 + 2) / 5 = k by omega]
theorem inCell_3 (ds : List ID) (u : Nat → Value × Value) (k : Nat) : inCell ds u (k * 5 + 3) = (u k).1 := by
  unfold inCell; rw [if_neg (by omega), if_neg (by omega), if_neg (by omega), if_pos (by omega), show (k * 5 + 3) / 5 = k by omega]
theorem inCell_4 (ds : List ID) (u : Nat → Value × Value) (k : Nat) : inCell ds u (k * 5 + 4) = (u k).2 := by
  unfold inCell; rw [if_neg (by omega), if_neg (by omega), if_neg (by omega), if_neg (by omega), show (k * 5 + 4) / 5 = k by omega]

/-- Inode d lies at block b, place o. -/
def InoAt (w : World) (b o : Nat) (d : ID) : Prop :=
  ∃ aB cB aE cE, w.cell? ⟨b, o, none⟩ = some (.int .i64 d.1) ∧ w.cell? ⟨b, o + 1, none⟩ = some (.int .i64 d.2.1) ∧ w.cell? ⟨b, o + 2, none⟩ = some (.int .i64 d.2.2.1) ∧
    w.cell? ⟨b, o + 3, none⟩ = some (.slice aB d.2.2.2.1.length cB) ∧ w.cell? ⟨b, o + 4, none⟩ = some (.slice aE d.2.2.2.2.length cE) ∧
    InoR w (.int .i64 d.1) (.int .i64 d.2.1) (.int .i64 d.2.2.1) (.slice aB d.2.2.2.1.length cB) (.slice aE d.2.2.2.2.length cE) d
theorem InoAt.later {w w' : World} {b o : Nat} {d : ID} (h : InoAt w b o d) (hb : Below w.heap.size w w') : InoAt w' b o d := by
  obtain ⟨aB, cB, aE, cE, h0, h1, h2, h3, h4, h5⟩ := h
  exact ⟨aB, cB, aE, cE, cell_later hb h0, cell_later hb h1, cell_later hb h2, cell_later hb h3, cell_later hb h4, h5.later hb⟩
theorem InoAt.mk' {w : World} {b o : Nat} {d : ID} {vB vE : Value} (h0 : w.cell? ⟨b, o, none⟩ = some (.int .i64 d.1)) (h1 : w.cell? ⟨b, o + 1, none⟩ = some (.int .i64 d.2.1)) (h2 : w.cell? ⟨b, o + 2, none⟩ = some (.int .i64 d.2.2.1)) (h3 : w.cell? ⟨b, o + 3, none⟩ = some vB) (h4 : w.cell? ⟨b, o + 4, none⟩ = some vE)
    (h : InoR w (.int .i64 d.1) (.int .i64 d.2.1) (.int .i64 d.2.2.1) vB vE d) : InoAt w b o d := by
  obtain ⟨aB, cB, eB, _, _⟩ := h.2.1.open'
  obtain ⟨aE, cE, eE, _, _⟩ := h.2.2.open'
  subst eB eE
  exact ⟨aB, cB, aE, cE, h0, h1, h2, h3, h4, h⟩

/-- Where the inodes of a list lie. -/
def AtI (w : World) (a : Option Addr) (n : Nat) (ds : List ID) : Prop :=
  ∀ k, k < n → ∃ b o, a = some ⟨b, o, none⟩ ∧ InoAt w b (o + k * 5) (ds[k]?.getD id0)
theorem AtI.later {w w' : World} {a : Option Addr} {n : Nat} {ds : List ID} (h : AtI w a n ds) (hb : Below w.heap.size w w') : AtI w' a n ds := fun k hk => by
  obtain ⟨b, o, e, h1⟩ := h k hk
  exact ⟨b, o, e, h1.later hb⟩
/-- The slice v reads as the inodes ds. -/
def Inos (w : World) (v : Value) (ds : List ID) : Prop := ∃ a cap, v = .slice a ds.length cap ∧ (ds.length ≤ maxLen ∧ ds.length ≤ cap) ∧ AtI w a ds.length ds
theorem Inos.later {w w' : World} {v : Value} {ds : List ID} (h : Inos w v ds) (hb : Below w.heap.size w w') : Inos w' v ds := by
  obtain ⟨a, cap, h1, h2, h3⟩ := h
  exact ⟨a, cap, h1, h2, h3.later hb⟩
theorem Inos.nil (w : World) (a : Option Addr) (cap : Nat) : Inos w (.slice a 0 cap) [] := ⟨a, cap, rfl, ⟨by simp, by simp⟩, fun k hk => by simp at hk⟩
theorem Inos.open' {w : World} {v : Value} {ds : List ID} (h : Inos w v ds) : ∃ a cap, v = .slice a ds.length cap ∧ (ds.length ≤ maxLen ∧ ds.length ≤ cap) ∧ AtI w a ds.length ds := h

/-- The slice v holds the inodes ds; no two of their lists, nor the outer one, lie in one block. -/
def InosO (w : World) (v : Value) (ds : List ID) (F : Nat → Prop) : Prop :=
  (ds = [] ∧ ∃ a cap, v = .slice a 0 cap) ∨
  (∃ b cap, ∃ u : Nat → Value × Value, ∃ G : Nat → Nat → Prop, F b ∧ (∀ i c, G i c → F c ∧ c ≠ b) ∧ (∀ i j c, i ≠ j → G i c → ¬ G j c) ∧
    v = .slice (some ⟨b, 0, none⟩) ds.length cap ∧ (ds.length ≤ maxLen ∧ ds.length ≤ cap) ∧ OwnRow w b (ds.length * 5) (inCell ds u) ∧
    ∀ i, i < ds.length → InoU w (.int .i64 (ds[i]?.getD id0).1) (.int .i64 (ds[i]?.getD id0).2.1) (.int .i64 (ds[i]?.getD id0).2.2.1) (u i).1 (u i).2 (ds[i]?.getD id0) (G i))
theorem InosO.reads {w : World} {v : Value} {ds : List ID} {F : Nat → Prop} (h : InosO w v ds F) : Inos w v ds := by
  rcases h with ⟨rfl, a, cap, rfl⟩ | ⟨b, cap, u, G, _, _, _, h1, h2, h3, h4⟩
  · exact Inos.nil w a cap
  · refine ⟨_, cap, h1, h2, fun k hk => ⟨b, 0, rfl, ?_⟩⟩
    rw [Nat.zero_add]
    have e0 := h3.cell (i := k * 5) (by omega)
    have e1 := h3.cell (i := k * 5 + 1) (by omega)
    have e2 := h3.cell (i := k * 5 + 2) (by omega)
    have e3 := h3.cell (i := k * 5 + 3) (by omega)
    have e4 := h3.cell (i := k * 5 + 4) (by omega)
    rw [inCell_0] at e0
    rw [inCell_1] at e1
    rw [inCell_2] at e2
    rw [inCell_3] at e3
    rw [inCell_4] at e4
    exact InoAt.mk' e0 e1 e2 e3 e4 (h4 k hk).reads
theorem InosO.keep {w w' : World} {v : Value} {ds : List ID} {F : Nat → Prop} (h : InosO w v ds F) (e : ∀ b, F b → b < w.heap.size → w'.heap[b]? = w.heap[b]?) : InosO w' v ds F := by
  rcases h with h | ⟨b, cap, u, G, hF, hG, hGG, h1, h2, h3, h4⟩
  · exact Or.inl h
  · exact Or.inr ⟨b, cap, u, G, hF, hG, hGG, h1, h2, h3.block (e b hF h3.lt), fun i hi => (h4 i hi).keep fun c hc => e c (hG i c hc).1⟩
theorem InosO.mono {w : World} {v : Value} {ds : List ID} {F F' : Nat → Prop} (h : InosO w v ds F) (e : ∀ b, F b → F' b) : InosO w v ds F' := by
  rcases h with h | ⟨b, cap, u, G, hF, hG, h1⟩
  · exact Or.inl h
  · exact Or.inr ⟨b, cap, u, G, e b hF, fun i c hc => ⟨e c (hG i c hc).1, (hG i c hc).2⟩, h1⟩
theorem InosO.later {w w' : World} {v : Value} {ds : List ID} {F : Nat → Prop} (h : InosO w v ds F) (hb : Below w.heap.size w w') : InosO w' v ds F := h.keep fun b _ hlt => hb.block b hlt
theorem InosO.chg {w w' : World} {v : Value} {ds : List ID} {F G : Nat → Prop} (h : InosO w v ds F) (hc : Chg G w w') (hd : ∀ b, F b → ¬ G b) : InosO w' v ds F := h.keep fun b hb hlt => hc.block b hlt (hd b hb)

/-- How great lists of inodes are, and how far they are marked. -/
def isz (ds : List ID) : List Nat := ds.map sizeIno
theorem isz_length (ds : List ID) : (isz ds).length = ds.length := by simp [isz]
theorem isz_get (ds : List ID) (i : Nat) : (isz ds)[i]?.getD 0 = sizeIno (ds[i]?.getD id0) := by
  unfold isz; rw [List.getElem?_map]; cases ds[i]? <;> rfl
def sizeInos (ds : List ID) : Nat := ds.length + (isz ds).sum
def isp (ds : List ID) : List Nat := ds.map fun d => 3 + spanIno d
theorem isp_length (ds : List ID) : (isp ds).length = ds.length := by simp [isp]
theorem isp_get (ds : List ID) (i : Nat) (h : i < ds.length) : (isp ds)[i]?.getD 0 = 3 + spanIno (ds[i]?.getD id0) := by
  unfold isp; rw [List.getElem?_map, List.getElem?_eq_getElem h]; rfl
def spanInos (ds : List ID) : Nat := (isp ds).sum
theorem spanInos_le (ds : List ID) : spanInos ds ≤ 3 * sizeInos ds := by
  unfold spanInos sizeInos isp isz
  induction ds with
  | nil => simp
  | cons d ds ih =>
    have := spanIno_le d
    simp only [List.map_cons, List.sum_cons, List.length_cons] at ih ⊢
    omega
theorem isz_le (ds : List ID) (k : Nat) : sizeIno (ds[k]?.getD id0) ≤ (isz ds).sum := by
  by_cases h : k < ds.length
  · have h1 := upto_succ (isz ds) k (by rw [isz_length]; exact h)
    rw [isz_get] at h1
    have h2 := upto_le (isz ds) (k + 1)
    omega
  · rw [List.getElem?_eq_none (by omega)]; simp [sizeIno, sizeN, nlens, id0]

/-- The first j inodes stand, inode i in the blocks from s i up to s (i + 1), none below lo. -/
structure BuiltI (w : World) (lo j : Nat) (u : Nat → Value × Value) (f : Nat → ID) (s : Nat → Nat) : Prop where
  lo : lo ≤ s 0
  mono : ∀ i, i < j → s i ≤ s (i + 1)
  hi : s j ≤ w.heap.size
  at' : ∀ i, i < j → InoU w (.int .i64 (f i).1) (.int .i64 (f i).2.1) (.int .i64 (f i).2.2.1) (u i).1 (u i).2 (f i) (fun b => s i ≤ b ∧ b < s (i + 1))
theorem BuiltI.nil {w : World} {lo : Nat} (u : Nat → Value × Value) (f : Nat → ID) (h : lo ≤ w.heap.size) : BuiltI w lo 0 u f (fun _ => w.heap.size) :=
  ⟨h, fun i hi => by omega, Nat.le_refl _, fun i hi => by omega⟩
theorem BuiltI.le {w : World} {lo j : Nat} {u : Nat → Value × Value} {f : Nat → ID} {s : Nat → Nat} (h : BuiltI w lo j u f s) : ∀ i k, i ≤ k → k ≤ j → s i ≤ s k := by
  intro i k hik
  induction k with
  | zero => intro _; have : i = 0 := by omega
            subst this; exact Nat.le_refl _
  | succ k ih =>
    intro hk
    by_cases e : i = k + 1
    · subst e; exact Nat.le_refl _
    · exact Nat.le_trans (ih (by omega) (by omega)) (h.mono k (by omega))
theorem BuiltI.low {w : World} {lo j : Nat} {u : Nat → Value × Value} {f : Nat → ID} {s : Nat → Nat} (h : BuiltI w lo j u f s) (i : Nat) (hi : i ≤ j) : lo ≤ s i := Nat.le_trans h.lo (h.le 0 i (Nat.zero_le _) hi)
theorem BuiltI.keep {w w' : World} {lo j : Nat} {u : Nat → Value × Value} {f : Nat → ID} {s : Nat → Nat} (h : BuiltI w lo j u f s) (hs : w.heap.size ≤ w'.heap.size) (e : ∀ b, lo ≤ b → b < w.heap.size → w'.heap[b]? = w.heap[b]?) : BuiltI w' lo j u f s :=
  ⟨h.lo, h.mono, Nat.le_trans h.hi hs, fun i hi => (h.at' i hi).keep fun b hb hlt => e b (Nat.le_trans (h.low i (by omega)) hb.1) hlt⟩
theorem BuiltI.later {w w' : World} {lo j : Nat} {u : Nat → Value × Value} {f : Nat → ID} {s : Nat → Nat} (h : BuiltI w lo j u f s) (hb : Below w.heap.size w w') : BuiltI w' lo j u f s := h.keep hb.size fun b _ hlt => hb.block b hlt
theorem BuiltI.store {w : World} {lo j : Nat} {u : Nat → Value × Value} {f : Nat → ID} {s : Nat → Nat} (h : BuiltI w lo j u f s) {p : Addr} (hp : p.block < lo) (v : Value) : BuiltI (w.setCell p v) lo j u f s :=
  h.keep (by simp [World.setCell]) fun b hb _ => Below.heap_setCell _ _ _ _ (by omega)
theorem BuiltI.next {w w' : World} {lo j : Nat} {u : Nat → Value × Value} {f : Nat → ID} {s : Nat → Nat} {vB vE : Value} (h : BuiltI w lo j u f s) (hb : Below w.heap.size w w') (hv : InoU w' (.int .i64 (f j).1) (.int .i64 (f j).2.1) (.int .i64 (f j).2.2.1) vB vE (f j) (fresh w w')) :
    BuiltI w' lo (j + 1) (fun i => if i = j then (vB, vE) else u i) f (fun i => if i ≤ j then s i else w'.heap.size) := by
  have h' := h.later hb
  have en : ∀ i : Nat, ¬ i + 1 ≤ i := fun i => by omega
  refine ⟨by simpa using h.lo, fun i hi => ?_, by simp [en], fun i hi => ?_⟩
  · by_cases e : i = j
    · subst e; simp [en]; exact h'.hi
    · simp [show i ≤ j by omega, show i + 1 ≤ j by omega]; exact h.mono i (by omega)
  · by_cases e : i = j
    · subst e
      simp [en]
      exact hv.mono fun b hb => ⟨Nat.le_trans h.hi hb.1, hb.2⟩
    · simp [e, show i ≤ j by omega, show i + 1 ≤ j by omega]
      exact h'.at' i (by omega)
theorem BuiltI.apart {w : World} {lo n : Nat} {u : Nat → Value × Value} {f : Nat → ID} {s : Nat → Nat} (h : BuiltI w lo n u f s) (i j c : Nat) (e : i ≠ j) (h1 : i < n ∧ s i ≤ c ∧ c < s (i + 1)) (h2 : j < n ∧ s j ≤ c ∧ c < s (j + 1)) : False := by
  rcases Nat.lt_or_gt_of_ne e with h3 | h3
  · have := h.le (i + 1) j (by omega) (by omega); omega
  · have := h.le (j + 1) i (by omega) (by omega); omega
theorem BuiltI.inos {w : World} {lo n b cap : Nat} {u : Nat → Value × Value} {s : Nat → Nat} (ds : List ID) (h : BuiltI w lo n u (fun i => ds[i]?.getD id0) s) (hn : ds.length = n) (hm : n ≤ maxLen ∧ n ≤ cap) (hb : b < lo) (hr : OwnRow w b (n * 5) (inCell ds u)) (F : Nat → Prop) (hF : F b) (hF' : ∀ c, lo ≤ c → c < w.heap.size → F c) :
    InosO w (.slice (some ⟨b, 0, none⟩) n cap) ds F := by
  subst hn
  refine Or.inr ⟨b, cap, u, fun i c => i < ds.length ∧ s i ≤ c ∧ c < s (i + 1), hF, fun i c hc => ?_, fun i j c e h1 h2 => h.apart i j c e h1 h2, rfl, hm, hr, fun i hi => ?_⟩
  · have h1 := h.low i (by omega)
    have h2 := h.le (i + 1) ds.length (by omega) (Nat.le_refl _)
    have h3 := h.hi
    exact ⟨hF' c (by omega) (by omega), by omega⟩
  · exact (h.at' i hi).mono fun c hc => ⟨hi, hc⟩

/-- The cells of a row of inodes of which the first j stand. -/
def zeroI (j : Nat) : Value := if j % 5 < 3 then .int .i64 0 else .slice none 0 0
def partI (ds : List ID) (u : Nat → Value × Value) (j c : Nat) : Value := if c < j * 5 then inCell ds u c else zeroI c
theorem partI_next (ds : List ID) (u : Nat → Value × Value) (j c : Nat) (vB vE : Value) :
    (if c = j * 5 + 4 then vE else if c = j * 5 + 3 then vB else if c = j * 5 + 2 then .int .i64 (ds[j]?.getD id0).2.2.1 else if c = j * 5 + 1 then .int .i64 (ds[j]?.getD id0).2.1 else if c = j * 5 then .int .i64 (ds[j]?.getD id0).1 else partI ds u j c) = partI ds (fun i => if i = j then (vB, vE) else u i) (j + 1) c := by
  unfold partI
  by_cases e4 : c = j * 5 + 4
  · subst e4; rw [if_pos rfl, if_pos (by omega), inCell_4]; simp
  · rw [if_neg e4]
    by_cases e3 : c = j * 5 + 3
    · subst e3; rw [if_pos rfl, if_pos (by omega), inCell_3]; simp
    · rw [if_neg e3]
      by_cases e2 : c = j * 5 + 2
      · subst e2; rw [if_pos rfl, if_pos (by omega), inCell_2]
      · rw [if_neg e2]
        by_cases e1 : c = j * 5 + 1
        · subst e1; rw [if_pos rfl, if_pos (by omega), inCell_1]
        · rw [if_neg e1]
          by_cases e0 : c = j * 5
          · subst e0; rw [if_pos rfl, if_pos (by omega), inCell_0]
          · rw [if_neg e0]
            by_cases e : c < j * 5
            · rw [if_pos e, if_pos (by omega)]
              unfold inCell
              dsimp only
              rw [if_neg (show ¬ c / 5 = j by omega)]
            · rw [if_neg e, if_neg (by omega)]

/-- 'make' of n inodes. -/
theorem run_make_five {P : Program} (t e : TypeId) (x0 x1 x2 x3 x4 : Value) (bytes : Nat) (ht : P.underlying t = some (.slice e)) (hinfo : (P.info? e).map (fun i => (i.zero, i.size, i.bytes)) = some (some (.agg #[x0, x1, x2, x3, x4]), 5, bytes)) (hz : (Value.agg #[x0, x1, x2, x3, x4]).cells = #[x0, x1, x2, x3, x4])
    (kl kc : IntKind) (n : Nat) (hbytes : bytes * n ≤ 281474976710656) (h63 : n ≤ 9223372036854775807) (w : World) :
    (Instr.makeSlice t (.int kl (n : Int)) (.int kc (n : Int))).run P w = .ok (.slice (some ⟨w.heap.size, 0, none⟩) n n) (w.alloc (.cells (madeCells #[x0, x1, x2, x3, x4] (n * 5)) e)) := by
  obtain ⟨i, hi, hzz⟩ := Option.map_eq_some_iff.1 hinfo
  simp only [Prod.mk.injEq] at hzz
  obtain ⟨h1, h2, h3⟩ := hzz
  have hb' : (i.bytes : Int) * (n : Int) ≤ 281474976710656 := by
    have h : ((i.bytes * n : Nat) : Int) ≤ 281474976710656 := by rw [h3]; omega
    rwa [Int.natCast_mul] at h
  have hr := run_make (P := P) w t e i _ ht hi h1 kl kc n n (by omega) (Int.le_refl _) hb' (by omega)
  simp only [Int.toNat_natCast, h2, hz] at hr
  exact hr
theorem OwnRow.madeFive (w : World) (n : Nat) (t : TypeId) : OwnRow (w.alloc (.cells (madeCells #[.int .i64 0, .int .i64 0, .int .i64 0, .slice none 0 0, .slice none 0 0] (n * 5)) t)) w.heap.size (n * 5) zeroI := by
  refine ⟨_, t, Go.Deep.blk_alloc_new _ _, by rw [size_madeCells]; exact Nat.le_refl _, fun i hi => ?_⟩
  unfold madeCells zeroI
  rw [Array.getElem?_map]
  have h1 : (Array.range (n * 5))[i]? = some i := by simp [hi]
  rw [h1]
  have : i % 5 = 0 ∨ i % 5 = 1 ∨ i % 5 = 2 ∨ i % 5 = 3 ∨ i % 5 = 4 := by omega
  rcases this with h | h | h | h | h <;> simp [h]
end Go.Proofs.Ytjbppdkijjfejaa

namespace Go.Proofs.Ytjbppdkijjfejaa
open Go.RowKit
set_option maxRecDepth 100000

/-- The fault of a list of inodes, and of busy blocks. -/
def insF (ds : List ID) : Int := if 10 < ds.length then 2 else fstNZ (fun i => inoF (ds[i]?.getD id0)) ds.length
def busF (bs : List Int) : Int := if 20 < bs.length then 2 else fstNZ (rngF bs) bs.length
/-- All blocks of all inodes, and all entries' inodes. -/
def allB (ds : List ID) : List Int := ds.flatMap fun d => d.2.2.2.1
def cntB (ds : List ID) (v : Int) : Nat := (allB ds).count v
def entI (es : List EN) : List Int := es.map fun e => e.2
def allE (ds : List ID) : List Int := ds.flatMap fun d => entI d.2.2.2.2
theorem flat_next {α β : Type} (f : α → List β) (l : List α) (z : α) (j : Nat) (h : j < l.length) : (l.take (j + 1)).flatMap f = (l.take j).flatMap f ++ f (l[j]?.getD z) := by
  rw [List.take_succ_eq_append_getElem h, List.flatMap_append, List.getElem?_eq_getElem h]
  simp
theorem count_next (l : List Int) (v : Int) (k : Nat) (h : k < l.length) : (l.take (k + 1)).count v = (l.take k).count v + (if l[k]?.getD 0 = v then 1 else 0) := by
  rw [List.take_succ_eq_append_getElem h, List.count_append, List.getElem?_eq_getElem h, List.count_singleton]
  simp only [Option.getD_some]
  by_cases e : l[k] = v
  · rw [if_pos e, e, beq_self_eq_true]; rfl
  · rw [if_neg e, show (l[k] == v) = false by simpa using e]; rfl
theorem allB_len (ds : List ID) : (allB ds).length ≤ (isz ds).sum := by
  unfold allB isz
  induction ds with
  | nil => simp
  | cons d ds ih =>
    simp only [List.flatMap_cons, List.length_append, List.map_cons, List.sum_cons]
    have hd : sizeIno d = d.2.2.2.1.length + sizeN d.2.2.2.2 := rfl
    omega
theorem allE_len (ds : List ID) : (allE ds).length ≤ (isz ds).sum := by
  unfold allE isz
  induction ds with
  | nil => simp
  | cons d ds ih =>
    simp only [List.flatMap_cons, List.length_append, List.map_cons, List.sum_cons]
    have : (entI d.2.2.2.2).length = d.2.2.2.2.length := by simp [entI]
    have hd : sizeIno d = d.2.2.2.1.length + (d.2.2.2.2.length + (nlens d.2.2.2.2).sum) := rfl
    omega
theorem flat_take {α β : Type} (f : α → List β) (l : List α) (j : Nat) : ((l.take j).flatMap f).length ≤ (l.flatMap f).length := by
  conv => rhs; rw [← List.take_append_drop j l]
  rw [List.flatMap_append, List.length_append]
  omega

/-- The numbers below j that p picks. -/
def selL (p : Nat → Bool) (j : Nat) : List Int := ((List.range j).filter p).map fun k : Nat => (k : Int)
theorem selL_yes {p : Nat → Bool} {j : Nat} (h : p j = true) : selL p (j + 1) = selL p j ++ [(j : Int)] := by simp [selL, List.range_succ, h]
theorem selL_no {p : Nat → Bool} {j : Nat} (h : p j = false) : selL p (j + 1) = selL p j := by simp [selL, List.range_succ, h]
theorem selL_len (p : Nat → Bool) (j : Nat) : (selL p j).length ≤ j := by
  unfold selL
  rw [List.length_map]
  have := List.length_filter_le p (List.range j)
  simpa using this

def usedP (ds : List ID) (k : Nat) : Bool := decide (0 < cntB ds (k : Int))
def onceB (ds : List ID) (j : Nat) : Bool := (List.range j).all fun k => decide (cntB ds (k : Int) ≤ 1)
theorem onceB_next (ds : List ID) (j : Nat) : onceB ds (j + 1) = (onceB ds j && decide (cntB ds (j : Int) ≤ 1)) := by
  unfold onceB
  rw [List.range_succ, List.all_append]
  simp
/-- UsedBlocks. -/
def usedR (ds : List ID) : Int × List Int := if insF ds = 0 then (if onceB ds 20 = true then (0, selL (usedP ds) 20) else (7, [])) else (insF ds, [])
def freeP (ds : List ID) (bs : List Int) (k : Nat) : Bool := decide (cntB ds (k : Int) = 0) && !(bs.contains (k : Int))
def askF (ds : List ID) (bs : List Int) : Int := if insF ds = 0 then busF bs else insF ds
/-- FreeBlocks. -/
def freeR (ds : List ID) (bs : List Int) : Int × List Int := if askF ds bs = 0 then (0, selL (freeP ds bs) 20) else (askF ds bs, [])
/-- PickBlocks. -/
def pickR (ds : List ID) (bs : List Int) (n : Int) : Int × List Int :=
  if askF ds bs = 0 then (if 0 ≤ n ∧ n ≤ 4 then (if ((selL (freeP ds bs) 20).length : Int) < n then (8, []) else (0, (selL (freeP ds bs) 20).take n.toNat)) else (3, [])) else (askF ds bs, [])
/-- The first inode that is free, or the place behind the last, or none. -/
def kindAt (ds : List ID) (k : Nat) : Int := (ds[k]?.getD id0).1
def plcI (ds : List ID) : Nat → Int
  | 0 => if ds.length < 10 then (ds.length : Int) else -1
  | m + 1 => if kindAt ds (ds.length - (m + 1)) = 0 then ((ds.length - (m + 1) : Nat) : Int) else plcI ds m
theorem plcI_yes (ds : List ID) {j : Nat} (hj : j < ds.length) (h : kindAt ds j = 0) : plcI ds (ds.length - j) = (j : Int) := by
  obtain ⟨m, hm⟩ : ∃ m, ds.length - j = m + 1 := ⟨ds.length - j - 1, by omega⟩
  rw [hm]
  show (if kindAt ds (ds.length - (m + 1)) = 0 then ((ds.length - (m + 1) : Nat) : Int) else plcI ds m) = _
  rw [show ds.length - (m + 1) = j by omega, if_pos h]
theorem plcI_no (ds : List ID) {j : Nat} (hj : j < ds.length) (h : ¬ kindAt ds j = 0) : plcI ds (ds.length - (j + 1)) = plcI ds (ds.length - j) := by
  obtain ⟨m, hm⟩ : ∃ m, ds.length - j = m + 1 := ⟨ds.length - j - 1, by omega⟩
  rw [hm, show ds.length - (j + 1) = m by omega]
  show _ = (if kindAt ds (ds.length - (m + 1)) = 0 then ((ds.length - (m + 1) : Nat) : Int) else plcI ds m)
  rw [show ds.length - (m + 1) = j by omega, if_neg h]
/-- FreeInode. -/
def finR (ds : List ID) : Int × Int := if insF ds = 0 then (if plcI ds ds.length < 0 then (8, 0) else (0, plcI ds ds.length)) else (insF ds, 0)
/-- LinksOf. -/
def lnkR (ds : List ID) (at_ : Int) : Int × Int := if insF ds = 0 then (if 0 ≤ at_ ∧ at_ ≤ (ds.length : Int) - 1 then (0, ((allE ds).count at_ : Nat)) else (3, 0)) else (insF ds, 0)

/-- An append of one word. -/
theorem append_w1 (w : World) (n₀ : Nat) (v : Value) (zs : List Int) (y : Int) (hrow : Wds w n₀ v zs) (hn₀ : n₀ ≤ w.heap.size) (hz : zs.length ≤ 16777216) :
    ∃ a c X, (Builtin.append_ #[36, 36] 36 #[v, .slice (some ⟨w.heap.size, 0, none⟩) 1 1]).run Try.prog (w.alloc (.cells #[.int .i64 y] 2)) = .ok (.slice a (zs ++ [y]).length c) X ∧ Wds X n₀ (.slice a (zs ++ [y]).length c) (zs ++ [y]) ∧ Below n₀ w X ∧ KeepT w X := by
  obtain ⟨i, hi, h1, h2, h3⟩ := Try.infoInt'
  have hrow2 : Wds (w.alloc (.cells #[.int .i64 y] 2)) n₀ v zs := hrow.later (later1 _ _)
  obtain ⟨v', X, hr, ho, hg, _⟩ := run_append_own (P := Try.prog) (w.alloc (.cells #[.int .i64 y] 2)) n₀ 36 36 2 i (.int .i64 0) 1 8 Try.underlying36 hi h1 h2 h3 rfl (by decide) v zs.length _ hrow2 ⟨w.heap.size, 0, none⟩ 1 1 [intV y]
    (by simp) (fun j u hu => by
      have hj : j = 0 := by
        have := (List.getElem?_eq_some_iff.1 hu).1
        simp at this; omega
      subst hj
      simp only [List.getElem?_cons_zero, Option.some.injEq] at hu
      subst hu
      rw [add_plain', Nat.add_zero, new_cell]
      rfl) (fun u hu => by
      simp only [List.mem_singleton] at hu
      subst hu
      rfl) (by unfold maxLen; omega) (by omega) (by simp; omega)
  have how : Wds X n₀ v' (zs ++ [y]) := by
    unfold Wds
    rw [List.length_append, List.map_append]
    exact ho
  obtain ⟨a, c, rfl⟩ := how.shape
  refine ⟨a, c, X, hr, how, ((later1 w _).mono hn₀).trans (below_grown hg (by simp; omega) (fun k hk => ?_)), (KeepT.later (later1 _ _)).trans (KeepT.grown hrow2 hg)⟩
  rcases hrow.2 with ⟨e, _⟩ | ⟨g, cap, cur, e, hb, _⟩
  · rw [e] at hk; simp [Value.ownBlock] at hk
  · rw [e] at hk
    simp only [Value.ownBlock, Option.some.injEq] at hk
    omega
theorem Wds.nil (w : World) (n₀ : Nat) : Wds w n₀ (.slice none 0 0) [] := ⟨by simp, Or.inl ⟨rfl, rfl⟩⟩
theorem Wds.own' {w w0 : World} {n₀ : Nat} {v : Value} {zs : List Int} (h : Wds w n₀ v zs) (hn : w0.heap.size ≤ n₀) : IntsO w v zs (fresh w0 w) := by
  by_cases h0 : 0 < zs.length
  · exact h.own h0 hn
  · obtain ⟨a, c, rfl⟩ := h.shape
    have : zs = [] := List.eq_nil_of_length_eq_zero (by omega)
    subst this
    exact Or.inl ⟨rfl, a, c, rfl⟩
end Go.Proofs.Ytjbppdkijjfejaa

namespace Go.Proofs.Ytjbppdkijjfejaa
open Go.RowKit
set_option maxRecDepth 100000

theorem DS.low {w0 w X : World} {sb lo : Nat} {a : Option Addr} {n c at' : Nat} (h : DS w0 w sb a n c at') (hb : Below lo w X) (hs : sb < lo) (h0 : w0.heap.size ≤ lo) : DS w0 X sb a n c at' :=
  ⟨OwnRow.block h.src (hb.block sb hs), h.below.trans (hb.mono h0), h.new, h.len, h.bytes⟩
theorem Chg.low {w wr X : World} {sb lo : Nat} (hc : Chg (fun b => b = sb) w wr) (hb : Below lo wr X) (hl : w.heap.size ≤ lo) : Chg (fun b => b = sb) w X :=
  ⟨hb.os.trans hc.os, hb.tape.trans hc.tape, hb.output.trans hc.output, Nat.le_trans hc.size hb.size, fun b hlt hne => (hb.block b (by omega)).trans (hc.block b hlt hne)⟩
theorem Wds.chg {w w' : World} {lo sb : Nat} {v : Value} {zs : List Int} (h : Wds w lo v zs) (hc : Chg (fun b => b = sb) w w') (hs : sb < lo) : Wds w' lo v zs := ownsRow_chg h hc hs

set_option maxHeartbeats 3200000 in
theorem pickN_ds (w0 w : World) (sb : Nat) (a : Option Addr) (n c at' : Nat) (lb m : Nat) (zs : List Int) (h : DS w0 w sb a n c at') (hat : at' ≤ 1000000) (hm1 : 1 ≤ m) (hm2 : m ≤ 200) (hl : ∀ i : Nat, i < m → w.cell? ⟨lb, i, none⟩ = some (.int .i64 (zs[i]?.getD 0))) (hne : lb ≠ sb) :
    Calls Try.prog 85 #[.pointer (some ⟨sb, 0, none⟩), .slice (some ⟨lb, 0, none⟩) m m] w fun e w' => ∃ r : Nat, r < m ∧ e = .returned (.int .i64 (zs[r]?.getD 0)) ∧ DS w0 w' sb a n c (at' + 1) ∧ Chg (fun b => b = sb) w w' := by
  have H : Hid (DS w0 w sb a n c at') := h
  have HL : Hid (∀ i : Nat, i < m → w.cell? ⟨lb, i, none⟩ = some (.int .i64 (zs[i]?.getD 0))) := hl
  clear h hl
  go_enter Try.func85, Try.ntmps85
  go_wp2_with fail
  refine (l1Next_ds w0 _ sb a n c at' m H.out hat hm1 hm2).mono ?_
  rintro e w1 ⟨r, rfl, hr, hd, hc⟩
  have c0 : w1.cell? ⟨lb, r, none⟩ = some (.int .i64 (zs[r]?.getD 0)) := by
    have h1 := HL.out r hr
    exact (hc.cell (a := ⟨lb, r, none⟩) (World.block_lt_of_cell? _ _ h1) hne).trans h1
  have HD : Hid (DS w0 w1 sb a n c (at' + 1)) := hd
  have HC : Hid (Chg (fun b => b = sb) w w1) := hc
  generalize hz : zs[r]?.getD 0 = z at *
  have HZ : Hid (zs[r]?.getD 0 = z) := hz
  clear hd hc hz
  go_wp2
  go_ret
  exact ⟨r, hr, by rw [HZ.out]; rfl, HD.out, HC.out⟩

set_option maxHeartbeats 6400000 in
theorem drawWords_ds (w0 w : World) (sb : Nat) (a : Option Addr) (n c at' : Nat) (h : DS w0 w sb a n c at') (hat : at' ≤ 900000) :
    Calls Try.prog 67 #[.pointer (some ⟨sb, 0, none⟩)] w fun e w' => ∃ v zs at2, e = .returned v ∧ IntsX w' w.heap.size v zs ∧ at2 ≤ at' + 8 ∧ DS w0 w' sb a n c at2 ∧ Chg (fun b => b = sb) w w' := by
  have H : Hid (DS w0 w sb a n c at') := h
  have hsb := h.lt
  have HB0 : Hid (w0.heap.size ≤ w.heap.size) := h.below.size
  have hmk : ∀ W : World, (Instr.makeSlice 36 (.int .i64 65) (.int .i64 65)).run Try.prog W = .ok (.slice (some ⟨W.heap.size, 0, none⟩) 65 65) (W.alloc (.cells (madeCells #[.int .i64 0] 65) 2)) := fun W => run_make_row' (P := Try.prog) 36 2 (.int .i64 0) 8 Try.underlying36 Try.infoInt rfl .i64 .i64 65 (by omega) (by omega) W
  clear h
  go_enter Try.func67, Try.ntmps67
  go_wp2_with fail
  refine (l1Next_ds w0 _ sb a n c at' 5 (H.out.later (later1 _ _)) (by omega) (by omega) (by omega)).mono ?_
  rintro e w1 ⟨k0, rfl, hk0, hd, hc⟩
  have HD : Hid (DS w0 w1 sb a n c (at' + 1)) := hd
  have HC : Hid (Chg (fun b => b = sb) w w1) := (Chg.of_below (later1 _ _)).trans hc
  have HW : Hid (Wds w1 w.heap.size (.slice (some ⟨w.heap.size, 0, none⟩) 0 0) []) := (Wds.lit w w.heap.size (Nat.le_refl _) [] #[] rfl 0 rfl (by omega)).chg hc hsb
  clear hd hc H
  go_wp2
  go_loopw [3, 4] (fun o i wr => ∃ (j : Nat) (v : Value) (zs : List Int), o = v ∧ i = .int .i64 (j : Int) ∧ j + zs.length = k0 ∧ DS w0 wr sb a n c (at' + 1 + zs.length) ∧ Chg (fun b => b = sb) w wr ∧ Wds wr w.heap.size v zs) (fun _ i _ => (intOf i).toNat)
  case atStart => exact ⟨k0, _, [], rfl, rfl, by simp, HD.out, HC.out, HW.out⟩
  case round =>
    clear HD HC HW
    obtain ⟨j, v, zs, rfl, rfl, hjk, hd, hc, hw⟩ := hrel
    obtain ⟨aV, cV, rfl⟩ := hw.shape
    have HD : Hid (DS w0 wr sb a n c (at' + 1 + zs.length)) := hd
    have HC : Hid (Chg (fun b => b = sb) w wr) := hc
    have HW : Hid (Wds wr w.heap.size (.slice aV zs.length cV) zs) := hw
    clear hd hc hw
    by_cases hj : 0 < j
    · have hj' : decide ((0 : Int) < (j : Int)) = true := by simp; omega
      clear hmk
      go_wp2_with fail
      refine (l1Next_ds w0 _ sb a n c _ 99 HD.out (by omega) (by omega) (by omega)).mono ?_
      rintro e w2 ⟨r, rfl, hr, hd, hc⟩
      have hs2 : w.heap.size ≤ w2.heap.size := (HC.out.trans hc).size
      obtain ⟨a', c', X, hrun, hwX, hbX, _⟩ := append_w1 w2 w.heap.size _ zs (r : Int) (HW.out.chg hc hsb) hs2 (by omega)
      have ez : (zs ++ [(r : Int)]).length = zs.length + 1 := by simp
      rw [ez] at hrun hwX
      clear ez
      have HR : Hid (_ = _) := hrun
      have HWX : Hid (Wds X w.heap.size _ (zs ++ [(r : Int)])) := hwX
      have HDX : Hid (DS w0 X sb a n c (at' + 1 + zs.length + 1)) := hd.low hbX hsb HB0.out
      have HCX : Hid (Chg (fun b => b = sb) w X) := (HC.out.trans hc).low hbX (Nat.le_refl _)
      clear hrun hwX hbX hd hc
      go_wp2_with (at_builtin; refine wpList_append_run rfl _ _ 36 rfl _ _ rfl rfl _ _ HR.out ?_)
      go_roundw
      case rel => exact ⟨j - 1, _, zs ++ [(r : Int)], rfl, by congr 1; omega, by simp; omega, by simpa [Nat.add_assoc] using HDX.out, HCX.out, HWX.out⟩
      case measure => simp [intOf]; omega
    · have hj' : decide ((0 : Int) < (j : Int)) = false := by simp; omega
      have hz4 : zs.length ≤ 4 := by omega
      go_wp2_with fail
      refine (l1Next_ds w0 _ sb a n c _ 30 HD.out (by omega) (by omega) (by omega)).mono ?_
      rintro e w2 ⟨r, rfl, hr, hd, hc⟩
      have hs2 : w.heap.size ≤ w2.heap.size := (HC.out.trans hc).size
      have HD2 : Hid (DS w0 w2 sb a n c (at' + 1 + zs.length + 1)) := hd
      have HC2 : Hid (Chg (fun b => b = sb) w w2) := HC.out.trans hc
      have HW2 : Hid (Wds w2 w.heap.size (.slice aV zs.length cV) zs) := HW.out.chg hc hsb
      clear hd hc HD HC HW
      by_cases h0 : r = 0
      · subst h0
        clear hmk
        go_wp2_with fail
        have HLR : Hid (∀ i : Nat, i < 3 → (w2.alloc (.cells #[.int .i64 (-1), .int .i64 65536, .int .i64 65535] 2)).cell? ⟨w2.heap.size, i, none⟩ = some (.int .i64 (([-1, 65536, 65535] : List Int)[i]?.getD 0))) := fun i hi => by
          rw [new_cell]
          match i, hi with
          | 0, _ => rfl
          | 1, _ => rfl
          | 2, _ => rfl
        refine (pickN_ds w0 _ sb a n c _ w2.heap.size 3 [-1, 65536, 65535] (HD2.out.later (later1 _ _)) (by omega) (by omega) (by omega) HLR.out (by omega)).mono ?_
        rintro e w3 ⟨q, hq, rfl, hd, hc⟩
        generalize ([-1, 65536, 65535] : List Int)[q]?.getD 0 = z at *
        have hc3 : Chg (fun b => b = sb) w2 w3 := (Chg.of_below (later1 _ _)).trans hc
        have hs3 : w.heap.size ≤ w3.heap.size := (HC2.out.trans hc3).size
        obtain ⟨a', c', X, hrun, hwX, hbX, _⟩ := append_w1 w3 w.heap.size _ zs z (HW2.out.chg hc3 hsb) hs3 (by omega)
        have ez : (zs ++ [z]).length = zs.length + 1 := by simp
        rw [ez] at hrun hwX
        have HR : Hid (_ = _) := hrun
        have HWX : Hid (IntsX X w.heap.size _ (zs ++ [z])) := hwX.x (by rw [ez]; omega)
        clear ez
        have HDX : Hid (DS w0 X sb a n c (at' + 1 + zs.length + 1 + 1)) := hd.low hbX hsb HB0.out
        have HCX : Hid (Chg (fun b => b = sb) w X) := (HC2.out.trans hc3).low hbX (Nat.le_refl _)
        clear hrun hwX hbX hd hc hc3 HLR
        go_wp2_with (at_builtin; refine wpList_append_run rfl _ _ 36 rfl _ _ rfl rfl _ _ HR.out ?_)
        go_ret
        exact ⟨_, _, _, rfl, HWX.out, by omega, HDX.out, HCX.out⟩
      · have hr0 : ((r : Int) == 0) = false := by rw [beq_eq_false_iff_ne]; omega
        by_cases h1 : r = 1
        · subst h1
          have HX : Hid (IntsX (w2.alloc (.cells (madeCells #[.int .i64 0] 65) 2)) w.heap.size (.slice (some ⟨w2.heap.size, 0, none⟩) 65 65) (List.replicate 65 0)) := by
            refine ⟨_, _, _, rfl, by simp, by omega, Or.inr ⟨w2.heap.size, _, _, rfl, hs2, Go.Deep.blk_alloc_new _ _, fun k hk => ?_⟩⟩
            obtain ⟨cc, h1, h2, h3⟩ := World.rowIs_made w2 (.int .i64 0) 65 2
            rw [Go.Deep.blk_alloc_new] at h1
            simp only [Option.some.injEq, Obj.cells.injEq] at h1
            rw [h1.1, h3 k hk, List.getElem?_replicate, if_pos hk]
            rfl
          have HDX : Hid (DS w0 (w2.alloc (.cells (madeCells #[.int .i64 0] 65) 2)) sb a n c (at' + 1 + zs.length + 1)) := HD2.out.later (later1 _ _)
          have HCX : Hid (Chg (fun b => b = sb) w (w2.alloc (.cells (madeCells #[.int .i64 0] 65) 2))) := HC2.out.trans (Chg.of_below (later1 _ _))
          go_wp2
          go_ret
          exact ⟨_, _, _, rfl, HX.out, by omega, HDX.out, HCX.out⟩
        · have hr1 : ((r : Int) == 1) = false := by rw [beq_eq_false_iff_ne]; omega
          clear hmk
          go_wp2
          go_ret
          exact ⟨_, zs, _, rfl, HW2.out.x (by omega), by omega, HD2.out, HC2.out⟩
end Go.Proofs.Ytjbppdkijjfejaa

namespace Go.Proofs.Ytjbppdkijjfejaa

def okW (z : Int) : Bool := decide (0 ≤ z ∧ z ≤ 65535)
def wordsF (ws : List Int) : Int := if 64 < ws.length then 2 else if ws.all okW then 0 else 3
/-- The first code that is not 0. -/
def firstF : List Int → Int
  | [] => 0
  | c :: cs => if c = 0 then firstF cs else c
def placeB (n : Nat) (x : Int) : Bool := decide (0 ≤ x ∧ x < (n : Int))
def putF (n : Nat) (p : Int × List Int) : Int := if placeB n p.1 = true then wordsF p.2 else 3
def faultF (bs : List (List Int)) (ps : List (Int × List Int)) : Int :=
  if 60 < bs.length ∨ 200 < ps.length then 2 else if firstF (bs.map wordsF) = 0 then firstF (ps.map (putF bs.length)) else firstF (bs.map wordsF)

theorem all_ok {ws : List Int} (h : ∀ i : Nat, i < ws.length → okW (ws[i]?.getD 0) = true) : ws.all okW = true := by
  rw [List.all_eq_true]
  intro x hx
  obtain ⟨i, hi, rfl⟩ := List.getElem_of_mem hx
  have := h i hi
  rwa [List.getElem?_eq_getElem hi, Option.getD_some] at this
theorem not_ok {ws : List Int} {i : Nat} (hi : i < ws.length) (h : okW (ws[i]?.getD 0) = false) : ws.all okW = false := by
  rw [List.getElem?_eq_getElem hi, Option.getD_some] at h
  rw [Bool.eq_false_iff]
  intro ha
  rw [List.all_eq_true] at ha
  have := ha _ (List.getElem_mem hi)
  rw [h] at this; cases this
theorem wordsF_many {ws : List Int} (h : 64 < ws.length) : wordsF ws = 2 := by simp [wordsF, h]
theorem wordsF_ok {ws : List Int} (h : ¬ 64 < ws.length) (ha : ∀ i : Nat, i < ws.length → okW (ws[i]?.getD 0) = true) : wordsF ws = 0 := by simp [wordsF, h, all_ok ha]
theorem wordsF_bad {ws : List Int} {i : Nat} (h : ¬ 64 < ws.length) (hi : i < ws.length) (ha : okW (ws[i]?.getD 0) = false) : wordsF ws = 3 := by simp [wordsF, h, not_ok hi ha]
theorem firstF_zero (l : List Int) : (∀ i : Nat, i < l.length → l[i]?.getD 0 = 0) → firstF l = 0 := by
  induction l with
  | nil => intro _; rfl
  | cons c cs ih =>
    intro h
    have h0 : c = 0 := by simpa using h 0 (by simp)
    have : firstF cs = 0 := ih fun i hi => by have := h (i + 1) (by simpa using hi); simpa using this
    simp [firstF, h0, this]
theorem firstF_at (l : List Int) : ∀ j : Nat, j < l.length → (∀ i : Nat, i < j → l[i]?.getD 0 = 0) → ¬ l[j]?.getD 0 = 0 → firstF l = l[j]?.getD 0 := by
  induction l with
  | nil => intro j hj; simp at hj
  | cons c cs ih =>
    intro j hj hz hn
    cases j with
    | zero => simp at hn; simp [firstF, hn]
    | succ j =>
      have h0 : c = 0 := by simpa using hz 0 (by omega)
      have := ih j (by simpa using hj) (fun i hi => by have := hz (i + 1) (by omega); simpa using this) (by simpa using hn)
      simp [firstF, h0, this]
theorem mapW_get (bs : List (List Int)) {i : Nat} (h : i < bs.length) : (bs.map wordsF)[i]?.getD 0 = wordsF (bs[i]?.getD []) := by
  rw [List.getElem?_map, List.getElem?_eq_getElem h]; rfl
theorem mapP_get (n : Nat) (ps : List (Int × List Int)) {i : Nat} (h : i < ps.length) : (ps.map (putF n))[i]?.getD 0 = putF n (ps[i]?.getD (0, [])) := by
  rw [List.getElem?_map, List.getElem?_eq_getElem h]; rfl
theorem faultF_many {bs : List (List Int)} {ps : List (Int × List Int)} (h : 60 < bs.length ∨ 200 < ps.length) : faultF bs ps = 2 := by simp [faultF, h]
theorem faultF_block {bs : List (List Int)} {ps : List (Int × List Int)} {j : Nat} (h : ¬ (60 < bs.length ∨ 200 < ps.length)) (hj : j < bs.length) (hz : ∀ i : Nat, i < j → wordsF (bs[i]?.getD []) = 0) (hn : ¬ wordsF (bs[j]?.getD []) = 0) : faultF bs ps = wordsF (bs[j]?.getD []) := by
  have e := firstF_at (bs.map wordsF) j (by simpa using hj) (fun i hi => by rw [mapW_get bs (by omega)]; exact hz i hi) (by rw [mapW_get bs hj]; exact hn)
  rw [mapW_get bs hj] at e
  simp [faultF, h, e, hn]
theorem faultF_put {bs : List (List Int)} {ps : List (Int × List Int)} {j : Nat} (h : ¬ (60 < bs.length ∨ 200 < ps.length)) (hb : ∀ i : Nat, i < bs.length → wordsF (bs[i]?.getD []) = 0) (hj : j < ps.length) (hz : ∀ i : Nat, i < j → putF bs.length (ps[i]?.getD (0, [])) = 0) (hn : ¬ putF bs.length (ps[j]?.getD (0, [])) = 0) : faultF bs ps = putF bs.length (ps[j]?.getD (0, [])) := by
  have e0 := firstF_zero (bs.map wordsF) (fun i hi => by rw [List.length_map] at hi; rw [mapW_get bs hi]; exact hb i hi)
  have e := firstF_at (ps.map (putF bs.length)) j (by simpa using hj) (fun i hi => by rw [mapP_get _ ps (by omega)]; exact hz i hi) (by rw [mapP_get _ ps hj]; exact hn)
  rw [mapP_get _ ps hj] at e
  simp [faultF, h, e0, e]
theorem faultF_ok {bs : List (List Int)} {ps : List (Int × List Int)} (h : ¬ (60 < bs.length ∨ 200 < ps.length)) (hb : ∀ i : Nat, i < bs.length → wordsF (bs[i]?.getD []) = 0) (hz : ∀ i : Nat, i < ps.length → putF bs.length (ps[i]?.getD (0, [])) = 0) : faultF bs ps = 0 := by
  have e0 := firstF_zero (bs.map wordsF) (fun i hi => by rw [List.length_map] at hi; rw [mapW_get bs hi]; exact hb i hi)
  have e := firstF_zero (ps.map (putF bs.length)) (fun i hi => by rw [List.length_map] at hi; rw [mapP_get _ ps hi]; exact hz i hi)
  simp [faultF, h, e0, e]

/-- The words that stand at place x while only the first k puts are looked at, the last one first. -/
def atK (bs : List (List Int)) (ps : List (Int × List Int)) (x : Int) : Nat → List Int
  | 0 => bs[x.toNat]?.getD []
  | k + 1 => if (ps[k]?.getD (0, [])).1 = x then (ps[k]?.getD (0, [])).2 else atK bs ps x k
def atF (bs : List (List Int)) (ps : List (Int × List Int)) (x : Int) : List Int := atK bs ps x ps.length
theorem atK_hit {bs : List (List Int)} {ps : List (Int × List Int)} {x : Int} {k : Nat} (h : (ps[k]?.getD (0, [])).1 = x) : atK bs ps x (k + 1) = (ps[k]?.getD (0, [])).2 := by simp [atK, h]
theorem atK_miss {bs : List (List Int)} {ps : List (Int × List Int)} {x : Int} {k : Nat} (h : ¬ (ps[k]?.getD (0, [])).1 = x) : atK bs ps x (k + 1) = atK bs ps x k := by simp [atK, h]
/-- The codes of PutBlock and of BlockAt. -/
def placeF (bs : List (List Int)) (ps : List (Int × List Int)) (x : Int) : Int := if faultF bs ps = 0 then (if placeB bs.length x = true then 0 else 3) else faultF bs ps

end Go.Proofs.Ytjbppdkijjfejaa
