/- What 'append' and 'copy' of extents come to. The program's copying of a list of extents. Pieces of a list of extents: what slicing it comes to. A queue: words that grow by append and are gone through from the front. A list of a row of lists is put in the place of another: what the row is behind it. What a flush or a crash keeps. No program is named here. The walk of the specification's copying of a disk. The walk of the specification's keeping of what is picked. Rows that grow by append: where the row lies behind it; and rows told otherwise. The walk of the specification's PutBlock. The walks of the specification's FlushDisk and CrashDisk. The walk of the specification's PutBlock where it puts. The walk of the program's PutBlock. The walk of the program's settling of what is picked. The walks of the program's FlushDisk and CrashDisk. Lists of bits: how they read, and the walks of the laws' functions over them. The specification: which places can be reached. What can be reached: rounds over all inodes, and the way from one to the next, come to the same. -/
import Derived.Test.YtlohgnidbkechaaM06
import Derived.Test.YtlohgnidbkechaaM02
import Derived.Deep.AppendLies
import Derived.Laws.CopyOwn
import Derived.Test.YtlohgnidbkechaaM01
import Derived.Test.YtlohgnidbkechaaM04
import Derived.Test.YtlohgnidbkechaaM03
import Derived.Deep.RegionHeld3
import Derived.Test.YtlohgnidbkechaaM05
namespace Go.Proofs.Ytlohgnidbkechaa
open Go.RowKit
set_option maxRecDepth 100000

/-- The cells of extents, one behind the other. -/
def exCells (es : List E3) : List Value := es.flatMap fun e => [.int .i64 e.1, .int .i64 e.2.1, .int .i64 e.2.2]
theorem exCells_length (es : List E3) : (exCells es).length = es.length * 3 := by
  induction es with
  | nil => rfl
  | cons a t ih =>
    have : exCells (a :: t) = [.int .i64 a.1, .int .i64 a.2.1, .int .i64 a.2.2] ++ exCells t := by simp [exCells]
    rw [this, List.length_append, ih]
    simp [Nat.add_mul]
    omega
theorem exCells_append (es fs : List E3) : exCells (es ++ fs) = exCells es ++ exCells fs := by simp [exCells]
theorem exCells_get (es : List E3) (j : Nat) (h : j < es.length * 3) : (exCells es)[j]? = some (exCell es j) := by
  induction es generalizing j with
  | nil => simp at h
  | cons a t ih =>
    have e : exCells (a :: t) = .int .i64 a.1 :: .int .i64 a.2.1 :: .int .i64 a.2.2 :: exCells t := by simp [exCells]
    rw [e]
    match j with
    | 0 => simp [exCell]
    | 1 => simp [exCell]
    | 2 => simp [exCell]
    | j + 3 =>
      simp only [List.getElem?_cons_succ]
      rw [ih j (by simp at h; omega)]
      unfold exCell
      have h1 : (j + 3) % 3 = j % 3 := by omega
      have h2 : (j + 3) / 3 = j / 3 + 1 := by omega
      rw [h1, h2]
      simp
theorem exCells_one (es : List E3) : ∀ u ∈ exCells es, u.oneCell' = true := by
  intro u hu
  simp only [exCells, List.mem_flatMap] at hu
  obtain ⟨e, _, hu⟩ := hu
  simp at hu
  rcases hu with rfl | rfl | rfl <;> rfl
theorem AtE.cells {w : World} {b off n : Nat} {es : List E3} (h : AtE w (some ⟨b, off, none⟩) n es) (hn : es.length = n) (j : Nat) (u : Value) (hu : (exCells es)[j]? = some u) : w.cell? ((⟨b, off, none⟩ : Addr).add j) = some u := by
  have hj : j < es.length * 3 := by rw [← exCells_length]; exact (List.getElem?_eq_some_iff.1 hu).1
  rw [exCells_get es j hj] at hu
  simp only [Option.some.injEq] at hu
  subst hu
  obtain ⟨b', off', e, c0, c1, c2⟩ := h (j / 3) (by omega)
  simp only [Option.some.injEq, Addr.mk.injEq, and_true] at e
  obtain ⟨rfl, rfl⟩ := e
  rw [add_plain']
  have : j % 3 = 0 ∨ j % 3 = 1 ∨ j % 3 = 2 := by omega
  unfold exCell
  rcases this with e | e | e
  · rw [if_pos e, ← c0, show off + j = off + j / 3 * 3 by omega]
  · rw [if_neg (by omega), if_pos e, ← c1, show off + j = off + j / 3 * 3 + 1 by omega]
  · rw [if_neg (by omega), if_neg (by omega), ← c2, show off + j = off + j / 3 * 3 + 2 by omega]

end Go.Proofs.Ytlohgnidbkechaa

namespace Go.Proofs.Ytlohgnidbkechaa
open Go.RowKit
set_option maxRecDepth 100000

/-- 'copy' between two rows of n elements of 'size' cells each. -/
theorem run_copy_wide {P : Program} (w : World) (dT sT ty elem : TypeId) (g n dCap : Nat) (a : Addr) (sCap size : Nat) (cur : Array Value) (t : TypeId) (cs : List Value)
    (hu : P.underlying dT = some (.slice elem)) (hs : (P.info? elem).map (·.size) = some size)
    (hg : w.heap[g]? = some (.cells cur t (0, 0))) (hn : cs.length = n * size)
    (hsrc : ∀ j v, cs[j]? = some v → w.cell? (a.add j) = some v) (hfit : cs.length ≤ cur.size) (h1 : ∀ v ∈ cs, v.oneCell' = true) :
    (Builtin.copy_ #[dT, sT] ty #[.slice (some ⟨g, 0, none⟩) n dCap, .slice (some a) n sCap]).run P w = .ok (goInt n) (w.setRow g (cs ++ cur.toList.drop cs.length).toArray) := by
  have hl := run_loadCells_list (P := P) w a cs hsrc
  have hst := run_storeCells_at P g 0 t cs 0 cur w hg (by simpa using hfit) h1
  simp only [Nat.zero_add, List.take_zero, List.nil_append] at hst
  cases hq : P.info? elem with
  | none => simp [hq] at hs
  | some i =>
    have hi : i.size = size := by simpa [hq] using hs
    have hm : Nat.min n n = n := Nat.min_self n
    simp [Builtin.copy_, run_underlying hu, Builtin.lenOf, Builtin.firstCells, sizeOf, typeInfo, hq, hi, hm, ← hn, hl, hst]
theorem run_copy_zero {P : Program} (w : World) (dT sT ty elem : TypeId) (d a : Option Addr) (dCap sCap size : Nat) (hu : P.underlying dT = some (.slice elem)) (hs : (P.info? elem).map (·.size) = some size) :
    (Builtin.copy_ #[dT, sT] ty #[.slice d 0 dCap, .slice a 0 sCap]).run P w = .ok (goInt 0) w := by
  cases hq : P.info? elem with
  | none => simp [hq] at hs
  | some i => cases a <;> cases d <;> simp [Builtin.copy_, run_underlying hu, Builtin.lenOf, Builtin.firstCells, sizeOf, typeInfo, hq, storeCells, loadCells, loadCellsFrom]

end Go.Proofs.Ytlohgnidbkechaa

namespace Go.Proofs.Ytlohgnidbkechaa
open Go.RowKit
set_option maxRecDepth 100000

theorem AtE.take {w : World} {a : Option Addr} {n : Nat} {es : List E3} (h : AtE w a n es) {j : Nat} (hj : j ≤ n) : AtE w a j (es.take j) := fun k hk => by
  obtain ⟨b, off, e, c0, c1, c2⟩ := h k (by omega)
  refine ⟨b, off, e, ?_, ?_, ?_⟩ <;> rw [List.getElem?_take, if_pos hk] <;> assumption
end Go.Proofs.Ytlohgnidbkechaa

namespace Go.Proofs.Ytlohgnidbkechaa
open Go.RowKit
set_option maxRecDepth 100000

def Qu (w : World) (n₀ : Nat) (v : Value) (zs : List Int) : Prop :=
  ∃ g off cap cur, v = .slice (some ⟨g, off, none⟩) zs.length cap ∧ n₀ ≤ g ∧ w.heap[g]? = some (.cells cur 2 (0, 0)) ∧ zs.length ≤ cap ∧ cap ≤ maxLen ∧ off + cap ≤ cur.size ∧ ∀ k, k < zs.length → cur[off + k]? = some (.int .i64 (zs[k]?.getD 0))
theorem Qu.keep {w w' : World} {n₀ : Nat} {v : Value} {zs : List Int} (h : Qu w n₀ v zs) (e : ∀ b c f, n₀ ≤ b → w.heap[b]? = some (.cells c 2 f) → w'.heap[b]? = w.heap[b]?) : Qu w' n₀ v zs := by
  obtain ⟨g, off, cap, cur, h1, h2, h3, h4⟩ := h
  exact ⟨g, off, cap, cur, h1, h2, (e g _ _ h2 h3).trans h3, h4⟩
theorem Qu.later {w w' : World} {n₀ : Nat} {v : Value} {zs : List Int} (h : Qu w n₀ v zs) (hb : Below w.heap.size w w') : Qu w' n₀ v zs := h.keep fun b _ _ _ hc => hb.block b (Array.getElem?_eq_some_iff.1 hc).1
theorem Qu.shape {w : World} {n₀ : Nat} {v : Value} {zs : List Int} (h : Qu w n₀ v zs) : ∃ a c, v = .slice a zs.length c ∧ zs.length ≤ c := by
  obtain ⟨g, off, cap, cur, rfl, _, _, h4, _⟩ := h
  exact ⟨_, _, rfl, h4⟩
theorem Qu.one (w : World) (n₀ : Nat) (hn : n₀ ≤ w.heap.size) (x : Int) : Qu (w.alloc (.cells #[.int .i64 x] 2)) n₀ (.slice (some ⟨w.heap.size, 0, none⟩) 1 1) [x] :=
  ⟨w.heap.size, 0, 1, #[.int .i64 x], rfl, hn, Go.Deep.blk_alloc_new _ _, by simp, by unfold maxLen; omega, by simp, fun k hk => by
    have : k = 0 := by simp at hk; exact hk
    subst this; rfl⟩
theorem Qu.cell {w : World} {n₀ : Nat} {a : Option Addr} {n c : Nat} {zs : List Int} (h : Qu w n₀ (.slice a n c) zs) {k : Nat} (hk : k < zs.length) : ∃ g off, a = some ⟨g, off, none⟩ ∧ w.cell? ⟨g, off + k, none⟩ = some (.int .i64 (zs[k]?.getD 0)) := by
  obtain ⟨g, off, cap, cur, e, _, h3, _, _, _, h6⟩ := h
  simp only [Value.slice.injEq] at e
  refine ⟨g, off, e.1, ?_⟩
  have := h6 k hk
  simp [World.cell?, h3, this]
theorem slice_tailQ (a : Option Addr) (n c : Nat) (hl : 1 ≤ n) (hc : n ≤ c) :
    ∃ A C, (∀ W : World, (Instr.slice 40 (.slice a n c) (some (.int .i64 1)) none none).run Try.prog W = .ok (.slice A (n - 1) C) W) ∧ ∀ (W : World) (n₀ : Nat) (z : Int) (zs : List Int), Qu W n₀ (.slice a n c) (z :: zs) → Qu W n₀ (.slice A (n - 1) C) zs := by
  obtain ⟨i, hi, _, h2, _⟩ := Try.infoInt'
  refine ⟨if c = 1 then a else a.map (·.add 1), c - 1, fun W => ?_, fun W n₀ z zs h => ?_⟩
  · simp [Instr.slice, Instr.sliceBounds, Instr.sliceBound, asIntOf, run_underlying Try.underlying40, sizeOf, typeInfo, hi, h2]
    intro hlt
    omega
  · obtain ⟨g, off, cap, cur, e, h1, h3, h4, h5, h6, h7⟩ := h
    simp only [Value.slice.injEq, List.length_cons] at e
    obtain ⟨rfl, rfl, rfl⟩ := e
    simp only [List.length_cons] at h4 h7
    by_cases hcl : c = 1
    · have hz : zs = [] := List.eq_nil_of_length_eq_zero (by omega)
      subst hz
      rw [if_pos hcl]
      exact ⟨g, off, c - 1, cur, by simp, h1, h3, by simp, by omega, by omega, fun k hk => by simp at hk⟩
    · rw [if_neg hcl]
      refine ⟨g, off + 1, c - 1, cur, by simp [add_plain'], h1, h3, by omega, by omega, by omega, fun k hk => ?_⟩
      have := h7 (k + 1) (by omega)
      rw [show off + 1 + k = off + (k + 1) by omega, this]
      simp
/-- Blocks that hold no words stand as they did. -/
def KeepQ (w w' : World) : Prop := ∀ (b : Nat) (o : Obj), w.heap[b]? = some o → (∀ c f, o ≠ .cells c 2 f) → w'.heap[b]? = some o
theorem append_q (w : World) (n₀ : Nat) (v : Value) (zs : List Int) (x : Int) (hq : Qu w n₀ v zs) (hn₀ : n₀ ≤ w.heap.size) (hz : zs.length ≤ 1000) :
    ∃ v' X, (Builtin.append_ #[40, 40] 40 #[v, .slice (some ⟨w.heap.size, 0, none⟩) 1 1]).run Try.prog (w.alloc (.cells #[.int .i64 x] 2)) = .ok v' X ∧ Qu X n₀ v' (zs ++ [x]) ∧ Below n₀ w X ∧ KeepQ w X := by
  obtain ⟨i, hi, h1, h2, h3⟩ := Try.infoInt'
  have hq' := hq.later (later1 w (.cells #[.int .i64 x] 2))
  have hBW : Below n₀ w (w.alloc (.cells #[.int .i64 x] 2)) := (later1 w _).mono hn₀
  have hKW : KeepQ w (w.alloc (.cells #[.int .i64 x] 2)) := fun b o hb _ => ((later1 w _).block b (Array.getElem?_eq_some_iff.1 hb).1).trans hb
  have hcell : (w.alloc (.cells #[.int .i64 x] 2)).cell? ⟨w.heap.size, 0, none⟩ = some (.int .i64 x) := by rw [new_cell]; rfl
  have hsz : n₀ ≤ (w.alloc (.cells #[.int .i64 x] 2)).heap.size := by simp; omega
  generalize hW : w.alloc (.cells #[.int .i64 x] 2) = W at *
  clear hW
  obtain ⟨g, off, cap, cur, rfl, hg0, hg, hnc, hcm, hoc, hrd⟩ := hq'
  have hglt : g < W.heap.size := (Array.getElem?_eq_some_iff.1 hg).1
  have hnews : ∀ j u, ([.int .i64 x] : List Value)[j]? = some u → W.cell? ((⟨w.heap.size, 0, none⟩ : Addr).add j) = some u := fun j u hu => by
    match j, hu with
    | 0, hu => simp at hu; subst hu; rw [add_plain']; exact hcell
    | j + 1, hu => simp at hu
  by_cases hroom : zs.length + 1 ≤ cap
  · have hf := run_firstCells_some (P := Try.prog) W i.size 1 ⟨w.heap.size, 0, none⟩ 1 1 [.int .i64 x] (by simp [h2]) hnews
    rw [h2] at hf
    have hst := run_storeCells_at Try.prog g (off + zs.length) 2 [.int .i64 x] 0 cur W hg (by simp; omega) (by simp [Value.oneCell'])
    simp only [Nat.add_zero, List.length_cons, List.length_nil, Nat.zero_add] at hst
    refine ⟨.slice (some ⟨g, off, none⟩) (zs.length + 1) cap, W.setRow g (cur.toList.take (off + zs.length) ++ [Value.int .i64 x] ++ cur.toList.drop (off + zs.length + 1)).toArray, ?_, ?_, hBW.trans ?_, ?_⟩
    · simp [Builtin.append_, run_underlying Try.underlying40, sizeOf, typeInfo, hi, h2, Builtin.lenOf, hroom, hf, add_plain', hst]
    · refine ⟨g, off, cap, _, by simp, hg0, setRow_heap W g cur _ 2 _ hg, by simp; omega, hcm, ?_, fun k hk => ?_⟩
      · simp only [List.size_toArray, List.length_append, List.length_take, List.length_drop, Array.length_toList, List.length_cons, List.length_nil]
        omega
      · simp only [List.length_append, List.length_cons, List.length_nil] at hk
        have hlt : (cur.toList.take (off + zs.length)).length = off + zs.length := by rw [List.length_take]; simp; omega
        rw [List.getElem?_toArray, List.append_assoc]
        by_cases hkz : k < zs.length
        · rw [List.getElem?_append_left (by rw [hlt]; omega), List.getElem?_take, if_pos (by omega), List.getElem?_append_left hkz, Array.getElem?_toList]
          exact hrd k hkz
        · have : k = zs.length := by omega
          subst this
          rw [List.getElem?_append_right (by rw [hlt]; omega), hlt, Nat.sub_self]
          simp
    · refine ⟨rfl, rfl, rfl, by simp, fun b hb => setRow_other W g b _ (by omega)⟩
    · intro b o hb ho
      have hb' := hKW b o hb ho
      by_cases e : b = g
      · subst e
        rw [hg] at hb'
        simp only [Option.some.injEq] at hb'
        exact absurd hb'.symm (ho _ _)
      · rw [← hb']; exact setRow_other W g b _ e
  · have hr := run_append_grow (P := Try.prog) W 40 40 2 i (.int .i64 0) Try.underlying40 hi h1 ⟨g, off, none⟩ zs.length cap (zs.map intV) (by simp [h2]) (fun j u hu => by
      rw [List.getElem?_map, Option.map_eq_some_iff] at hu
      obtain ⟨z, hz1, rfl⟩ := hu
      have hj : j < zs.length := (List.getElem?_eq_some_iff.1 hz1).1
      have := hrd j hj
      rw [hz1, Option.getD_some] at this
      rw [add_plain']
      simp [World.cell?, hg, this, intV]) ⟨w.heap.size, 0, none⟩ 1 1 [.int .i64 x] (by simp [h2]) hnews (by omega) (by omega) (growslice_fits (by omega) (by rw [h3]; omega))
    have hge := grownCap_ge W (zs.length + 1) cap 2
    have hcm' := grownCap_le_maxLen W (zs.length + 1) cap 2 (by unfold maxLen; omega)
    have hBX : ∀ o, Below W.heap.size W (W.drew.alloc o) := fun o => ⟨rfl, rfl, rfl, by simp, fun b hb => (later1 W.drew o).block b hb⟩
    refine ⟨_, _, hr, ?_, hBW.trans ((hBX _).mono hsz), fun b o hb ho => ?_⟩
    · refine ⟨W.heap.size, 0, _, _, by simp, hsz, Go.Deep.blk_alloc_new _ _, by simp; omega, hcm', ?_, fun k hk => ?_⟩
      · simp only [Array.size_append, List.size_toArray, size_zeroCells, List.length_map, List.length_cons, List.length_nil, Value.cells]
        simp
        omega
      · simp only [List.length_append, List.length_cons, List.length_nil] at hk
        rw [Nat.zero_add, Array.getElem?_append_left (by simp; omega)]
        by_cases hkz : k < zs.length
        · rw [Array.getElem?_append_left (by simpa using hkz), List.getElem?_append_left hkz]
          simp [List.getElem?_eq_getElem hkz, intV]
        · have : k = zs.length := by omega
          subst this
          rw [Array.getElem?_append_right (by simp)]
          simp
    · rw [(hBX _).block b (Array.getElem?_eq_some_iff.1 (hKW b o hb ho)).1]
      exact hKW b o hb ho
end Go.Proofs.Ytlohgnidbkechaa

namespace Go.Proofs.Ytlohgnidbkechaa
open Go.RowKit
set_option maxRecDepth 100000

theorem IntsSO.set {w X : World} {g n cap : Nat} {v : Value} {zs : List Int} {zss : List (List Int)} {F : Nat → Prop} (h : IntsSO w (.slice (some ⟨g, 0, none⟩) n cap) zss F) {x : Nat} (hx : x < zss.length) (hb : Below w.heap.size w X) (hF : ∀ b, F b → b < w.heap.size) (hv : IntsO X v zs (fresh w X)) :
    IntsSO (X.setCell ⟨g, x, none⟩ v) (.slice (some ⟨g, 0, none⟩) n cap) (zss.set x zs) (fun b => F b ∨ fresh w X b) := by
  rcases h with ⟨h, _⟩ | ⟨b, cap', u, G, hFb, hG, hGG, h1, h2, h3, h4⟩
  · subst h; simp at hx
  · simp only [Value.slice.injEq, Option.some.injEq, Addr.mk.injEq, and_true] at h1
    obtain ⟨rfl, rfl, rfl⟩ := h1
    have hgl := h3.lt
    refine Or.inr ⟨g, cap, fun j => if j = x then v else u j, fun i c => (i = x ∧ fresh w X c) ∨ (i ≠ x ∧ G i c), Or.inl hFb, fun i c hc => ?_, fun i j c e h5 h6 => ?_, by simp, by simpa using h2, by simpa using (h3.block (hb.block g hgl)).set x v, fun i hi => ?_⟩
    · rcases hc with ⟨_, hc⟩ | ⟨_, hc⟩
      · exact ⟨Or.inr hc, fun e => by have := hc.1; omega⟩
      · exact ⟨Or.inl (hG i c hc).1, (hG i c hc).2⟩
    · rcases h5 with ⟨e5, h5⟩ | ⟨e5, h5⟩ <;> rcases h6 with ⟨e6, h6⟩ | ⟨e6, h6⟩
      · omega
      · have := h5.1; have := hF c (hG j c h6).1; omega
      · have := h6.1; have := hF c (hG i c h5).1; omega
      · exact hGG i j c e h5 h6
    · simp only [List.length_set] at hi
      by_cases e : i = x
      · subst e
        have h7 : IntsO X v zs (fun c => (i = i ∧ fresh w X c) ∨ (i ≠ i ∧ G i c)) := hv.mono fun c hc => Or.inl ⟨rfl, hc⟩
        show IntsO _ (if i = i then v else u i) _ (fun c => (i = i ∧ fresh w X c) ∨ (i ≠ i ∧ G i c))
        rw [if_pos rfl, List.getElem?_set_self hx, Option.getD_some]
        refine h7.keep fun c hc _ => Below.heap_setCell _ _ _ _ ?_
        rcases hc with ⟨_, hc⟩ | ⟨hc, _⟩
        · show c ≠ g
          have := hc.1; omega
        · exact absurd rfl hc
      · show IntsO _ (if i = x then v else u i) _ (fun c => (i = x ∧ fresh w X c) ∨ (i ≠ x ∧ G i c))
        rw [if_neg e, List.getElem?_set_ne (fun h => e h.symm)]
        have h7 : IntsO w (u i) (zss[i]?.getD []) (fun c => (i = x ∧ fresh w X c) ∨ (i ≠ x ∧ G i c)) := (h4 i hi).mono fun c hc => Or.inr ⟨e, hc⟩
        refine h7.keep fun c hc hlt => ?_
        rcases hc with ⟨hc, _⟩ | ⟨_, hc⟩
        · exact absurd hc e
        · rw [Below.heap_setCell _ _ _ _ (show c ≠ g from (hG i c hc).2), hb.block c hlt]

theorem Box2.store {w : World} {b : Nat} {x y : Value} (h : Box2 w b x y) {p : Addr} (hp : b ≠ p.block) (v : Value) : Box2 (w.setCell p v) b x y :=
  ⟨(World.cell?_of_block (w := w) (a := ⟨b, 0, none⟩) (Below.heap_setCell _ _ _ _ hp)).trans h.1, (World.cell?_of_block (w := w) (a := ⟨b, 1, none⟩) (Below.heap_setCell _ _ _ _ hp)).trans h.2⟩
theorem IntsSO.cell {w : World} {a : Option Addr} {n cap : Nat} {zss : List (List Int)} {F : Nat → Prop} (h : IntsSO w (.slice a n cap) zss F) {x : Nat} (hx : x < zss.length) :
    ∃ g ua un uc, a = some ⟨g, 0, none⟩ ∧ F g ∧ g < w.heap.size ∧ w.cell? ⟨g, x, none⟩ = some (.slice ua un uc) ∧ w.frozen? ⟨g, x, none⟩ = false := by
  rcases h with ⟨h, _⟩ | ⟨b, cap', u, G, hFb, _, _, h1, _, h3, h4⟩
  · subst h; simp at hx
  · simp only [Value.slice.injEq] at h1
    obtain ⟨rfl, rfl, rfl⟩ := h1
    have hu : ∃ ua un uc, u x = .slice ua un uc := by
      rcases h4 x hx with ⟨_, a, c, e⟩ | ⟨_, _, _, e, _⟩
      · exact ⟨_, _, _, e⟩
      · exact ⟨_, _, _, e⟩
    obtain ⟨ua, un, uc, e⟩ := hu
    exact ⟨b, ua, un, uc, rfl, hFb, h3.lt, by rw [h3.cell hx, e], h3.frozen x⟩

/-- The blocks behind the first k puts of those that are picked. -/
def keepTo (pk : Nat → Bool) (bs : List (List Int)) (ps : List (Int × List Int)) : Nat → List (List Int)
  | 0 => bs
  | k + 1 => if pk k then (keepTo pk bs ps k).set (ps[k]?.getD (0, [])).1.toNat (ps[k]?.getD (0, [])).2 else keepTo pk bs ps k
theorem keepTo_length (pk : Nat → Bool) (bs : List (List Int)) (ps : List (Int × List Int)) (k : Nat) : (keepTo pk bs ps k).length = bs.length := by
  induction k with
  | zero => rfl
  | succ k ih => unfold keepTo; split <;> simp [ih]
theorem keepTo_len (pk : Nat → Bool) (bs : List (List Int)) (ps : List (Int × List Int)) {M : Nat} (hz : ∀ k : Nat, (bs[k]?.getD []).length ≤ M) (hzp : ∀ k : Nat, (ps[k]?.getD (0, [])).2.length ≤ M) (k : Nat) : ∀ i : Nat, ((keepTo pk bs ps k)[i]?.getD []).length ≤ M := by
  induction k with
  | zero => exact hz
  | succ k ih =>
    intro i
    unfold keepTo
    split
    · rw [List.getElem?_set]
      split
      · split
        · exact hzp k
        · simp
      · exact ih i
    · exact ih i
theorem keepTo_step {pk : Nat → Bool} {bs : List (List Int)} {ps : List (Int × List Int)} {k : Nat} (h : pk k = true) : keepTo pk bs ps (k + 1) = (keepTo pk bs ps k).set (ps[k]?.getD (0, [])).1.toNat (ps[k]?.getD (0, [])).2 := by simp [keepTo, h]
theorem keepTo_skip {pk : Nat → Bool} {bs : List (List Int)} {ps : List (Int × List Int)} {k : Nat} (h : pk k = false) : keepTo pk bs ps (k + 1) = keepTo pk bs ps k := by simp [keepTo, h]
end Go.Proofs.Ytlohgnidbkechaa

namespace Go.Proofs.Ytlohgnidbkechaa
open Go.RowKit
set_option maxRecDepth 100000

/-- What stands at the head of each round of the second loop. -/
def Copy2 (w : World) (S : Nat) (aB aC aX : Option Addr) (j cB nC cC cX : Nat) (bs : List (List Int)) (ps : List (Int × List Int)) (wq : World) (q : Nat) : Prop :=
  Below w.heap.size w wq ∧ S ≤ wq.heap.size ∧ Box2 wq w.heap.size (.slice aB j cB) (.slice aC nC cC) ∧ OwnRow wq (w.heap.size + 1) 2 (fun c => if c = 0 then .slice none 0 0 else .slice none 0 0) ∧ IntsSO wq (.slice aX j cX) bs (fun c => w.heap.size + 3 ≤ c ∧ c < S) ∧
    ∃ aY cY k u, OwnRow wq (w.heap.size + 2) 2 (fun c => if c = 0 then .slice aX j cX else .slice aY q cY) ∧ LRow (C2 fun i => (ps[i]?.getD (0, [])).1) wq S S 53 2 (.slice aY q cY) q (fun i => (ps[i]?.getD (0, [])).2) k u
theorem Copy2.next {w : World} {S : Nat} {aB aC aX : Option Addr} {j cB nC cC cX : Nat} {bs : List (List Int)} {ps : List (Int × List Int)} {wr X : World} {q g2 cap2 : Nat} {k' : Nat → Nat} {u' : Nat → Value} (hS : w.heap.size + 3 ≤ S)
    (h : Copy2 w S aB aC aX j cB nC cC cX bs ps wr q) (hX : Below S wr X) (hL : LRow (C2 fun i => (ps[i]?.getD (0, [])).1) X S S 53 2 (.slice (some ⟨g2, 0, none⟩) (q + 1) cap2) (q + 1) (fun i => (ps[i]?.getD (0, [])).2) k' u') :
    Copy2 w S aB aC aX j cB nC cC cX bs ps (X.setCell ⟨w.heap.size + 2, 1, none⟩ (.slice (some ⟨g2, 0, none⟩) (q + 1) cap2)) (q + 1) := by
  obtain ⟨h1, h2, h3, h4, h5, aY, cY, k, u, h6, h7⟩ := h
  refine ⟨(h1.trans (hX.mono (by omega))).setCell (by simp) _, ?_, ?_, (h4.block (hX.block _ (by omega))).store (by simp) _, (h5.keep fun b hb hlt => hX.block b (by omega)).store (fun b hb => by simp; omega) _, some ⟨g2, 0, none⟩, cap2, k', u', ((h6.block (hX.block _ (by omega))).set 1 _).congr fun c hc => ?_, hL.store (by simp; omega) (by simp; omega) _⟩
  · have := hX.size; simp [World.setCell]; omega
  · have hb := World.cell?_of_block (w := X) (a := ⟨w.heap.size, 0, none⟩) (Below.heap_setCell X ⟨w.heap.size + 2, 1, none⟩ (.slice (some ⟨g2, 0, none⟩) (q + 1) cap2) w.heap.size (by simp))
    have hb' := World.cell?_of_block (w := X) (a := ⟨w.heap.size, 1, none⟩) (Below.heap_setCell X ⟨w.heap.size + 2, 1, none⟩ (.slice (some ⟨g2, 0, none⟩) (q + 1) cap2) w.heap.size (by simp))
    exact ⟨hb.trans ((hX.cell (p := ⟨w.heap.size, 0, none⟩) (by simp; omega)).trans h3.1), hb'.trans ((hX.cell (p := ⟨w.heap.size, 1, none⟩) (by simp; omega)).trans h3.2)⟩
  · have : c = 0 ∨ c = 1 := by omega
    rcases this with rfl | rfl <;> simp

end Go.Proofs.Ytlohgnidbkechaa

namespace Go.Proofs.Ytlohgnidbkechaa
open Go.RowKit
set_option maxRecDepth 100000

/-- Where the bits of a list lie. -/
def AtBs (w : World) (a : Option Addr) (n : Nat) (pb : List Bool) : Prop := ∀ k, k < n → ∃ b off, a = some ⟨b, off, none⟩ ∧ w.cell? ⟨b, off + k, none⟩ = some (.bool (pb[k]?.getD false))
theorem AtBs.later {w w' : World} {a : Option Addr} {n : Nat} {pb : List Bool} (h : AtBs w a n pb) (hb : Below w.heap.size w w') : AtBs w' a n pb := fun k hk => by
  obtain ⟨b, off, e, c⟩ := h k hk
  exact ⟨b, off, e, cell_later hb c⟩

end Go.Proofs.Ytlohgnidbkechaa

namespace Go.Proofs.Ytlohgnidbkechaa
open Go.RowKit
set_option maxRecDepth 100000

/-- What 'append' of one element comes to, and where the row lies behind it. -/
theorem LRow.append2 {C : Nat → Value → List Value} (w w1 : World) (t ty e : TypeId) (i : TypeInfo) (z : Value) (size bytes : Nat) (ht : Try.prog.underlying t = some (.slice e)) (hi : Try.prog.info? e = some i) (hz : i.zero = some z) (hsize : i.size = size) (hby : i.bytes = bytes) (hzs : z.cells.size = size) (hsz : 0 < size) (hbb : bytes ≤ 1000)
    (base lo n : Nat) (v : Value) (f : Nat → List Int) (k : Nat → Nat) (u : Nat → Value) (h : LRow C w base lo e size v n f k u) (hb : base ≤ w.heap.size) (hn : n ≤ 100000) (hb1 : Below w.heap.size w w1)
    (a : Option Addr) (c : Nat) (hlen : (C n (.slice a (f n).length c)).length = size) (hone : ∀ x ∈ C n (.slice a (f n).length c), x.oneCell' = true) (kb : Nat) (hk1 : lo ≤ kb) (hk2 : kb < w1.heap.size) (hk3 : v.ownBlock ≠ some kb) (hk4 : ∀ i, i < n → k i ≠ kb) (hf : IntsO w1 (.slice a (f n).length c) (f n) (fun x => x = kb)) :
    ∃ g cap X, (Builtin.append_ #[t, t] ty #[v, .slice (some ⟨w1.heap.size, 0, none⟩) 1 1]).run Try.prog (w1.alloc (.cells (C n (.slice a (f n).length c)).toArray e)) = .ok (.slice (some ⟨g, 0, none⟩) (n + 1) cap) X ∧
      (∀ b, b < w1.heap.size → v.ownBlock ≠ some b → X.heap[b]? = w1.heap[b]?) ∧ Below base w X ∧ w1.heap.size < X.heap.size ∧ (v.ownBlock = some g ∨ w1.heap.size < g) ∧
      LRow C X base lo e size (.slice (some ⟨g, 0, none⟩) (n + 1) cap) (n + 1) f (fun j => if j = n then kb else k j) (fun j => if j = n then .slice a (f n).length c else u j) := by
  have hsz1 := hb1.size
  have hbW : Below w.heap.size w (w1.alloc (.cells (C n (.slice a (f n).length c)).toArray e)) := hb1.trans ((later1 _ _).mono hb1.size)
  have hW := h.later hbW
  obtain ⟨g, cap, X, hr, ho, hg, hat, hgX⟩ := run_append_lies (P := Try.prog) (w1.alloc (.cells (C n (.slice a (f n).length c)).toArray e)) t ty base e i z size bytes ht hi hz hsize hby hzs hsz v n _ hW.own ⟨w1.heap.size, 0, none⟩ 1 1 (C n (.slice a (f n).length c)) (by rw [hlen, Nat.one_mul])
    (fun j x hx => by
      rw [add_plain', Nat.zero_add, new_cell]
      simpa using hx) hone (by decide) (by unfold maxLen; omega) (by have : (n + 1) * bytes ≤ 100001 * 1000 := Nat.mul_le_mul (by omega) hbb; omega) (by simp; omega) (w1.heap.size + 1) (by simp)
  have hrow : ∀ g, v.ownBlock = some g → g < w.heap.size := fun g hg => (h.own.lt g hg).2
  have hrowb : ∀ g, v.ownBlock = some g → base ≤ g := fun g hg => (h.own.lt g hg).1
  have hXb : ∀ b, b < w1.heap.size → v.ownBlock ≠ some b → X.heap[b]? = w1.heap[b]? := fun b hb' hne => (hg.block b (by simp; omega) (fun e => hne e.symm)).trans ((later1 _ _).block b hb')
  have hne : ∀ b, b < w1.heap.size → v.ownBlock ≠ some b → g ≠ b := by
    intro b hb' hb2 e
    subst e
    rcases hat with h | h
    · exact hb2 h
    · omega
  have old : ∀ b, b < w.heap.size → v.ownBlock ≠ some b → X.heap[b]? = w.heap[b]? := fun b hb' hne => (hXb b (by omega) hne).trans (hb1.block b hb')
  have hXs : w1.heap.size < X.heap.size := by have := hg.size; simp at this; omega
  refine ⟨g, cap, X, hr, hXb, (hbW.mono hb).trans (below_grown hg (by simp; omega) (fun g hg' => hrowb g hg')), hXs, hat.imp_right (fun h => by omega), ⟨?_, fun j hj => ?_, fun j hj => ?_, fun j j' hj hj' e => ?_, fun j hj => ?_, fun j hj => ?_⟩⟩
  · rw [List.range_succ, List.flatMap_append]
    have e1 : (List.range n).flatMap (fun i => C i (if i = n then .slice a (f n).length c else u i)) = (List.range n).flatMap (fun i => C i (u i)) := by
      have e0 : (List.range n).map (fun i => C i (if i = n then .slice a (f n).length c else u i)) = (List.range n).map (fun i => C i (u i)) := List.map_congr_left fun i hi => by rw [if_neg (by have := List.mem_range.1 hi; omega)]
      rw [List.flatMap_def, List.flatMap_def, e0]
    have e2 : [n].flatMap (fun i => C i (if i = n then .slice a (f n).length c else u i)) = C n (.slice a (f n).length c) := by simp only [List.flatMap_cons, List.flatMap_nil, List.append_nil, if_true]
    rw [e1, e2]
    exact ho
  · by_cases e : j = n
    · subst e; simp; omega
    · have := h.lo j (by omega); simp [e]; omega
  · by_cases e : j = n
    · subst e
      simp only [if_true]
      exact fun e => hne kb hk2 hk3 (by simpa [Value.ownBlock] using e)
    · have hj' : j < n := by omega
      have hl := h.lo j hj'
      simp only [e, if_false]
      exact fun e => hne (k j) (by omega) (h.ne j hj') (by simpa [Value.ownBlock] using e)
  · by_cases e1 : j = n
    · by_cases e2 : j' = n
      · omega
      · simp [e1, e2]; exact fun e => hk4 j' (by omega) e.symm
    · by_cases e2 : j' = n
      · simp [e1, e2]; exact hk4 j (by omega)
      · simp [e1, e2]; exact h.inj j j' (by omega) (by omega) e
  · by_cases e : j = n
    · subst e; exact ⟨a, c, by simp⟩
    · simp only [e, if_false]; exact h.sh j (by omega)
  · by_cases e : j = n
    · subst e
      simp only [if_true]
      exact hf.keep fun b hb' hlt' => by rw [hb']; exact hXb kb hk2 hk3
    · have hj' : j < n := by omega
      simp only [e, if_false]
      exact (h.at' j hj').keep fun b hb' hlt' => by rw [hb']; exact old _ (h.lo j hj').2 (h.ne j hj')


theorem LRow.congr2 {a a' : Nat → Int} {w : World} {base lo : Nat} {e : TypeId} {size : Nat} {v : Value} {n : Nat} {f f' : Nat → List Int} {k : Nat → Nat} {u : Nat → Value} (h : LRow (C2 a) w base lo e size v n f k u) (ha : ∀ i, i < n → a i = a' i) (hf : ∀ i, i < n → f i = f' i) : LRow (C2 a') w base lo e size v n f' k u := by
  refine ⟨?_, h.lo, h.ne, h.inj, fun i hi => by rw [← hf i hi]; exact h.sh i hi, fun i hi => by rw [← hf i hi]; exact h.at' i hi⟩
  have e0 : (List.range n).map (fun i => C2 a i (u i)) = (List.range n).map (fun i => C2 a' i (u i)) := List.map_congr_left fun i hi => by unfold C2; rw [ha i (List.mem_range.1 hi)]
  have := h.own
  rw [List.flatMap_def, e0, ← List.flatMap_def] at this
  exact this

end Go.Proofs.Ytlohgnidbkechaa

namespace Go.Proofs.Ytlohgnidbkechaa
open Go.RowKit
set_option maxRecDepth 100000

def putCode (bs : List (List Int)) (ps : List (Int × List Int)) (x : Int) (ws : List Int) : Int :=
  if placeF bs ps x = 0 then (if wordsF ws = 0 then (if 200 ≤ ps.length then 2 else 0) else wordsF ws) else placeF bs ps x
def putBlocks (bs : List (List Int)) (ps : List (Int × List Int)) (x : Int) (ws : List Int) : List (List Int) := if putCode bs ps x ws = 0 then bs else []
def putCache (bs : List (List Int)) (ps : List (Int × List Int)) (x : Int) (ws : List Int) : List (Int × List Int) := if putCode bs ps x ws = 0 then ps ++ [(x, ws)] else []

theorem three (w : World) (x y z : Value) (t : TypeId) : OwnRow (w.alloc (.cells #[x, y, z] t)) w.heap.size 3 (fun i => if i = 0 then x else if i = 1 then y else z) := by
  refine ⟨_, t, Go.Deep.blk_alloc_new _ _, by simp, fun i hi => ?_⟩
  have : i = 0 ∨ i = 1 ∨ i = 2 := by omega
  rcases this with rfl | rfl | rfl <;> simp

end Go.Proofs.Ytlohgnidbkechaa

namespace Go.Proofs.Ytlohgnidbkechaa
open Go.RowKit
set_option maxRecDepth 100000

theorem faultF_places {bs : List (List Int)} {ps : List (Int × List Int)} (h : faultF bs ps = 0) : ∀ k, k < ps.length → ∃ x : Nat, (ps[k]?.getD (0, [])).1 = x ∧ x < bs.length := by
  have g := faultF_lens h
  have hb : ∀ n, ∀ i : Nat, i < n → i < bs.length → wordsF (bs[i]?.getD []) = 0 := by
    intro n
    induction n with
    | zero => intro i hi; omega
    | succ n ih =>
      intro i hi hl
      by_cases e : wordsF (bs[i]?.getD []) = 0
      · exact e
      · exact absurd (faultF_block (ps := ps) (by omega) hl (fun j hj => ih j (by omega) (by omega)) e) (by rw [h]; exact fun e' => e e'.symm)
  have hp : ∀ n, ∀ i : Nat, i < n → i < ps.length → putF bs.length (ps[i]?.getD (0, [])) = 0 := by
    intro n
    induction n with
    | zero => intro i hi; omega
    | succ n ih =>
      intro i hi hl
      by_cases e : putF bs.length (ps[i]?.getD (0, [])) = 0
      · exact e
      · exact absurd (faultF_put (by omega) (fun j hj => hb (j + 1) j (by omega) hj) hl (fun j hj => ih j (by omega) (by omega)) e) (by rw [h]; exact fun e' => e e'.symm)
  intro k hk
  have := hp (k + 1) k (by omega) hk
  unfold putF at this
  split at this
  · rename_i hq
    unfold placeB at hq
    simp only [decide_eq_true_eq] at hq
    exact ⟨(ps[k]?.getD (0, [])).1.toNat, by omega, by omega⟩
  · omega

/-- What a flush or a crash leaves in the blocks. -/
def keepBlocks (pk : Nat → Bool) (bs : List (List Int)) (ps : List (Int × List Int)) : List (List Int) := if faultF bs ps = 0 then keepTo pk bs ps ps.length else []

end Go.Proofs.Ytlohgnidbkechaa

namespace Go.Proofs.Ytlohgnidbkechaa
open Go.RowKit
set_option maxRecDepth 100000

theorem LRow.puts2 {w : World} {base lo : Nat} {e : TypeId} {v : Value} {n : Nat} {k : Nat → Nat} {u : Nat → Value} {ps : List (Int × List Int)} (h : LRow (C2 fun i => (ps[i]?.getD (0, [])).1) w base lo e 2 v n (fun i => (ps[i]?.getD (0, [])).2) k u) (hn : ps.length = n) (F : Nat → Prop) (hF : ∀ g, v.ownBlock = some g → F g) (hF' : ∀ i, i < n → F (k i)) : PutsO w v ps F := by
  subst hn
  by_cases h0 : ps.length = 0
  · obtain ⟨a, c, rfl⟩ := h.shape
    exact Or.inl ⟨List.eq_nil_of_length_eq_zero h0, a, c, by rw [h0]⟩
  · obtain ⟨g, cap, rfl, _, _, hm, hrow⟩ := h.cells (by decide) (fun _ => rfl) (by omega)
    refine Or.inr ⟨g, cap, u, fun i c => i < ps.length ∧ c = k i, hF g rfl, fun i c hc => ?_, fun i j c e h1 h2 => h.inj i j h1.1 h2.1 e (h1.2.symm.trans h2.2), rfl, hm, ?_, fun i hi => (h.at' i hi).mono fun c hc => ⟨hi, hc⟩⟩
    · have hne := h.ne i hc.1
      rw [hc.2]
      exact ⟨hF' i hc.1, fun e => hne (by simp [Value.ownBlock, e])⟩
    · refine hrow.congr fun c hc => ?_
      unfold putCell C2
      rcases Nat.mod_two_eq_zero_or_one c with h | h <;> simp [h]

/-- The puts, and one more. -/
def more (ps : List (Int × List Int)) (x : Int) (ws : List Int) (i : Nat) : Int × List Int := (ps ++ [(x, ws)])[i]?.getD (0, [])
theorem more_old {ps : List (Int × List Int)} {x : Int} {ws : List Int} {i : Nat} (h : i < ps.length) : more ps x ws i = ps[i]?.getD (0, []) := by unfold more; rw [List.getElem?_append_left h]
theorem more_new {ps : List (Int × List Int)} {x : Int} {ws : List Int} : more ps x ws ps.length = (x, ws) := by unfold more; simp

end Go.Proofs.Ytlohgnidbkechaa

namespace Go.Proofs.Ytlohgnidbkechaa
open Go.RowKit
set_option maxRecDepth 100000

theorem resRow {w w1 : World} (x y : Value) (h : Below ((w.alloc (.cells #[x, y] 25)).alloc (.cells #[.int .i64 0, .slice none 0 0, .slice none 0 0] 27)).heap.size ((w.alloc (.cells #[x, y] 25)).alloc (.cells #[.int .i64 0, .slice none 0 0, .slice none 0 0] 27)) w1) :
    OwnRow w1 (w.heap.size + 1) 3 (fun i => if i = 0 then .int .i64 0 else if i = 1 then .slice none 0 0 else .slice none 0 0) := by
  have h2 := (three (w.alloc (.cells #[x, y] 25)) (.int .i64 0) (.slice none 0 0) (.slice none 0 0) 27).later h
  simpa using h2

end Go.Proofs.Ytlohgnidbkechaa

namespace Go.Proofs.Ytlohgnidbkechaa
open Go.RowKit
set_option maxRecDepth 100000

theorem IntsSO.row {w : World} {g n cap : Nat} {zss : List (List Int)} {F : Nat → Prop} (h : IntsSO w (.slice (some ⟨g, 0, none⟩) n cap) zss F) (h0 : 0 < zss.length) : ∃ u, OwnRow w g n u ∧ F g ∧ ∀ i, i < n → ∃ ua un uc, u i = .slice ua un uc := by
  rcases h with ⟨h, _⟩ | ⟨b, cap', u, G, hFb, _, _, h1, _, h3, h4⟩
  · subst h; simp at h0
  · simp only [Value.slice.injEq, Option.some.injEq, Addr.mk.injEq, and_true] at h1
    obtain ⟨rfl, rfl, rfl⟩ := h1
    refine ⟨u, h3, hFb, fun i hi => ?_⟩
    rcases h4 i hi with ⟨_, a, c, e⟩ | ⟨_, _, _, e, _⟩
    · exact ⟨_, _, _, e⟩
    · exact ⟨_, _, _, e⟩
theorem AtBs.set {w X : World} {a : Option Addr} {n g x : Nat} {v : Value} {pb : List Bool} (h : AtBs w a n pb) (hb : Below w.heap.size w X) (hg : ∀ b off, a = some ⟨b, off, none⟩ → b ≠ g) : AtBs (X.setCell ⟨g, x, none⟩ v) a n pb := fun k hk => by
  obtain ⟨b, off, e, c⟩ := h k hk
  exact ⟨b, off, e, (World.cell?_of_block (w := X) (Below.heap_setCell _ _ _ _ (hg b off e))).trans (cell_later hb c)⟩

end Go.Proofs.Ytlohgnidbkechaa

namespace Go.Proofs.Ytlohgnidbkechaa
open Go.RowKit
set_option maxRecDepth 100000

theorem Try.infoBool : (Try.prog.info? 4).map (fun i => (i.zero, i.size, i.bytes)) = some (some (.bool false), 1, 1) := by kernel_rfl

theorem keepTo_congr {pk pk' : Nat → Bool} {bs : List (List Int)} {ps : List (Int × List Int)} (n : Nat) (h : ∀ i, i < n → pk i = pk' i) : keepTo pk bs ps n = keepTo pk' bs ps n := by
  induction n with
  | zero => rfl
  | succ n ih =>
    unfold keepTo
    rw [ih fun i hi => h i (by omega), h n (by omega)]

end Go.Proofs.Ytlohgnidbkechaa

namespace Go.Proofs.Ytlohgnidbkechaa
open Go.RowKit
set_option maxRecDepth 100000

def Bools (w : World) (v : Value) (zs : List Bool) : Prop :=
  (zs = [] ∧ ∃ a cap, v = .slice a 0 cap) ∨
  (∃ b off cap, v = .slice (some ⟨b, off, none⟩) zs.length cap ∧ zs.length ≤ maxLen ∧ ∀ k, k < zs.length → w.cell? ⟨b, off + k, none⟩ = some (.bool (zs[k]?.getD false)))
theorem Bools.later {w wx : World} {v : Value} {zs : List Bool} (h : Bools w v zs) (hb : Below w.heap.size w wx) : Bools wx v zs := by
  rcases h with h | ⟨b, off, cap, h1, h2, h3⟩
  · exact Or.inl h
  · exact Or.inr ⟨b, off, cap, h1, h2, fun k hk => cell_later hb (h3 k hk)⟩
theorem Bools.open' {w : World} {v : Value} {zs : List Bool} (h : Bools w v zs) : ∃ a cap, v = .slice a zs.length cap ∧ zs.length ≤ maxLen ∧ AtBs w a zs.length zs := by
  rcases h with ⟨rfl, a, cap, rfl⟩ | ⟨b, off, cap, rfl, hl, hc⟩
  · exact ⟨a, cap, rfl, by simp, fun k hk => by simp at hk⟩
  · exact ⟨_, cap, rfl, hl, fun k hk => ⟨b, off, rfl, hc k hk⟩⟩
/-- .. in one block of F. -/
def BoolsO (w : World) (v : Value) (zs : List Bool) (F : Nat → Prop) : Prop :=
  (zs = [] ∧ ∃ a cap, v = .slice a 0 cap) ∨
  (∃ b cap, F b ∧ v = .slice (some ⟨b, 0, none⟩) zs.length cap ∧ zs.length ≤ maxLen ∧ OwnRow w b zs.length (fun i => .bool (zs[i]?.getD false)))
theorem BoolsO.reads {w : World} {v : Value} {zs : List Bool} {F : Nat → Prop} (h : BoolsO w v zs F) : Bools w v zs := by
  rcases h with h | ⟨b, cap, _, h1, h2, h3⟩
  · exact Or.inl h
  · exact Or.inr ⟨b, 0, cap, h1, h2, fun k hk => by rw [Nat.zero_add]; exact h3.cell hk⟩
theorem BoolsO.keep {w w' : World} {v : Value} {zs : List Bool} {F : Nat → Prop} (h : BoolsO w v zs F) (e : ∀ b, F b → b < w.heap.size → w'.heap[b]? = w.heap[b]?) : BoolsO w' v zs F := by
  rcases h with h | ⟨b, cap, hF, h1, h2, h3⟩
  · exact Or.inl h
  · exact Or.inr ⟨b, cap, hF, h1, h2, h3.block (e b hF h3.lt)⟩
theorem BoolsO.mono {w : World} {v : Value} {zs : List Bool} {F G : Nat → Prop} (h : BoolsO w v zs F) (e : ∀ b, F b → G b) : BoolsO w v zs G := by
  rcases h with h | ⟨b, cap, hF, h1⟩
  · exact Or.inl h
  · exact Or.inr ⟨b, cap, e b hF, h1⟩
theorem BoolsO.later {w w' : World} {v : Value} {zs : List Bool} {F : Nat → Prop} (h : BoolsO w v zs F) (hb : Below w.heap.size w w') : BoolsO w' v zs F := h.keep fun b _ hlt => hb.block b hlt
theorem BoolsO.chg {w w' : World} {v : Value} {zs : List Bool} {F G : Nat → Prop} (h : BoolsO w v zs F) (hc : Chg G w w') (hd : ∀ b, F b → ¬ G b) : BoolsO w' v zs F := h.keep fun b hb hlt => hc.block b hlt (hd b hb)

theorem row_bool {w : World} {b n : Nat} {f : Nat → Bool} (h : OwnRow w b n (fun i => .bool (f i))) (j : Nat) (x : Bool) : ∃ g : Nat → Bool, OwnRow (w.setCell ⟨b, j, none⟩ (.bool x)) b n (fun i => .bool (g i)) :=
  ⟨fun i => if i = j then x else f i, (h.set j _).congr fun i _ => by by_cases e : i = j <;> simp [e]⟩

end Go.Proofs.Ytlohgnidbkechaa

namespace Go.Proofs.Ytlohgnidbkechaa
open Go.RowKit
set_option maxRecDepth 100000

def setB (g : Nat → Bool) (x : Int) : Nat → Bool := fun i => if i = x.toNat then true else g i
theorem setB_mono {g : Nat → Bool} {i : Nat} (h : g i = true) (x : Int) : setB g x i = true := by unfold setB; by_cases e : i = x.toNat <;> simp [e, h]
theorem foldB_mono {i : Nat} : ∀ (xs : List Int) {g : Nat → Bool}, g i = true → (xs.foldl setB g) i = true
  | [], _, h => h
  | x :: xs, _, h => foldB_mono xs (setB_mono h x)
theorem foldB_next (xs : List Int) (g : Nat → Bool) (k : Nat) (h : k < xs.length) : (xs.take (k + 1)).foldl setB g = setB ((xs.take k).foldl setB g) (xs[k]?.getD 0) := by
  rw [List.take_succ_eq_append_getElem h, List.foldl_append]; simp [h]
def inoB (ds : List ID) (g : Nat → Bool) (i : Nat) : Nat → Bool := if g i = true then (entI (ds[i]?.getD id0).2.2.2.2).foldl setB g else g
def sweepB (ds : List ID) (g : Nat → Bool) : Nat → Nat → Bool
  | 0 => g
  | i + 1 => inoB ds (sweepB ds g i) i
def reachG (ds : List ID) : Nat → Nat → Bool
  | 0 => fun i => decide (i = 0)
  | r + 1 => sweepB ds (reachG ds r) ds.length

end Go.Proofs.Ytlohgnidbkechaa

namespace Go.Proofs.Ytlohgnidbkechaa
open Go.RowKit
set_option maxRecDepth 100000

/-- What can be reached from a place; from the top. -/
inductive RT (E : Nat → List Int) (t : Nat) : Nat → Prop
  | zero : RT E t t
  | step {i : Nat} {x : Int} : RT E t i → x ∈ E i → RT E t x.toNat
abbrev RP (E : Nat → List Int) : Nat → Prop := RT E 0
def entsOf (ds : List ID) (i : Nat) : List Int := entI (ds[i]?.getD id0).2.2.2.2

theorem foldB_sound {Q : Nat → Prop} : ∀ (xs : List Int) {g : Nat → Bool}, (∀ i, g i = true → Q i) → (∀ x ∈ xs, Q x.toNat) → ∀ i, (xs.foldl setB g) i = true → Q i
  | [], _, hg, _, i, h => hg i h
  | x :: xs, g, hg, hx, i, h => foldB_sound xs (g := setB g x) (fun j hj => by
      unfold setB at hj
      by_cases e : j = x.toNat
      · rw [e]; exact hx x (by simp)
      · rw [if_neg e] at hj; exact hg j hj) (fun y hy => hx y (by simp [hy])) i h
theorem foldB_has : ∀ (xs : List Int) {g : Nat → Bool} {x : Int}, x ∈ xs → (xs.foldl setB g) x.toNat = true
  | y :: xs, g, x, h => by
    rcases List.mem_cons.1 h with rfl | h
    · exact foldB_mono xs (by simp [setB])
    · exact foldB_has xs h
theorem inoB_mono {ds : List ID} {g : Nat → Bool} {i j : Nat} (h : g i = true) : inoB ds g j i = true := by
  unfold inoB
  split
  · exact foldB_mono _ h
  · exact h
theorem sweepB_mono {ds : List ID} {g : Nat → Bool} {i : Nat} (h : g i = true) : ∀ j, sweepB ds g j i = true
  | 0 => h
  | j + 1 => inoB_mono (sweepB_mono h j)
theorem sweepB_later {ds : List ID} {g : Nat → Bool} {i j : Nat} (h : sweepB ds g j i = true) : ∀ k, sweepB ds g (j + k) i = true
  | 0 => h
  | k + 1 => inoB_mono (sweepB_later h k)
theorem sweepB_sound {ds : List ID} {g : Nat → Bool} (hg : ∀ i, g i = true → RP (entsOf ds) i) : ∀ j i, sweepB ds g j i = true → RP (entsOf ds) i
  | 0, i, h => hg i h
  | j + 1, i, h => by
    have h' : inoB ds (sweepB ds g j) j i = true := h
    unfold inoB at h'
    by_cases e : sweepB ds g j j = true
    · rw [if_pos e] at h'
      exact foldB_sound _ (sweepB_sound hg j) (fun x hx => .step (sweepB_sound hg j j e) hx) i h'
    · rw [if_neg e] at h'
      exact sweepB_sound hg j i h'
theorem sweepB_step {ds : List ID} {g : Nat → Bool} {i n : Nat} {x : Int} (hi : i < n) (hg : g i = true) (hx : x ∈ entsOf ds i) : sweepB ds g n x.toNat = true := by
  have h1 : sweepB ds g (i + 1) x.toNat = true := by
    show inoB ds (sweepB ds g i) i x.toNat = true
    unfold inoB
    rw [if_pos (sweepB_mono hg i)]
    exact foldB_has _ hx
  have h2 := sweepB_later h1 (n - (i + 1))
  rwa [show i + 1 + (n - (i + 1)) = n by omega] at h2
theorem reachG_sound {ds : List ID} : ∀ r i, reachG ds r i = true → RP (entsOf ds) i
  | 0, i, h => by
    have : i = 0 := by simpa [reachG] using h
    rw [this]; exact .zero
  | r + 1, i, h => sweepB_sound (reachG_sound r) _ i h
theorem reachG_mono {ds : List ID} {i r : Nat} (h : reachG ds r i = true) : ∀ k, reachG ds (r + k) i = true
  | 0 => h
  | k + 1 => sweepB_mono (reachG_mono h k) _
def cntG (g : Nat → Bool) : Nat → Nat
  | 0 => 0
  | n + 1 => cntG g n + if g n = true then 1 else 0
theorem cntG_le (g : Nat → Bool) : ∀ n, cntG g n ≤ n
  | 0 => Nat.le_refl _
  | n + 1 => by have := cntG_le g n; unfold cntG; split <;> omega
theorem cntG_mono {g g' : Nat → Bool} (h : ∀ i, g i = true → g' i = true) : ∀ n, cntG g n ≤ cntG g' n
  | 0 => Nat.le_refl _
  | n + 1 => by
    have := cntG_mono h n
    unfold cntG
    by_cases e : g n = true
    · rw [if_pos e, if_pos (h n e)]; omega
    · rw [if_neg e]; split <;> omega
theorem cntG_lt {g g' : Nat → Bool} (h : ∀ i, g i = true → g' i = true) {j : Nat} (h1 : g' j = true) (h0 : ¬ g j = true) : ∀ n, j < n → cntG g n < cntG g' n
  | n + 1, hj => by
    unfold cntG
    by_cases e : j = n
    · subst e
      have := cntG_mono h j
      rw [if_neg h0, if_pos h1]; omega
    · have := cntG_lt h h1 h0 n (by omega)
      by_cases e2 : g n = true
      · rw [if_pos e2, if_pos (h n e2)]; omega
      · rw [if_neg e2]; split <;> omega
def closedB (ds : List ID) (g : Nat → Bool) : Prop := ∀ i, i < ds.length → g i = true → ∀ x ∈ entsOf ds i, x.toNat < ds.length → g x.toNat = true
theorem reachG_closes (ds : List ID) (h0 : 0 < ds.length) : ∀ r, (∃ q, q ≤ r ∧ closedB ds (reachG ds q)) ∨ r + 1 ≤ cntG (reachG ds r) ds.length
  | 0 => by
    right
    have := cntG_lt (g := fun _ => false) (g' := reachG ds 0) (by simp) (j := 0) (by simp [reachG]) (by simp) ds.length h0
    omega
  | r + 1 => by
    rcases reachG_closes ds h0 r with ⟨q, hq, hc⟩ | h
    · exact Or.inl ⟨q, by omega, hc⟩
    · by_cases hc : closedB ds (reachG ds r)
      · exact Or.inl ⟨r, by omega, hc⟩
      · right
        have hm : ∀ i, reachG ds r i = true → reachG ds (r + 1) i = true := fun i hi => reachG_mono hi 1
        have : ∃ j, j < ds.length ∧ reachG ds (r + 1) j = true ∧ ¬ reachG ds r j = true := by
          apply Classical.byContradiction
          intro hno
          apply hc
          intro i hi hg x hx hxl
          apply Classical.byContradiction
          intro hn
          exact hno ⟨x.toNat, hxl, sweepB_step hi hg hx, hn⟩
        obtain ⟨j, hj, h1, h2⟩ := this
        have := cntG_lt hm h1 h2 ds.length hj
        omega
def inRange (ds : List ID) : Prop := ∀ i, i < ds.length → ∀ x ∈ entsOf ds i, 0 ≤ x ∧ x < (ds.length : Int)
theorem RT.lt {ds : List ID} {t : Nat} (hr : inRange ds) (h0 : t < ds.length) {i : Nat} (h : RT (entsOf ds) t i) : i < ds.length := by
  induction h with
  | zero => exact h0
  | step _ hx ih => have := hr _ ih _ hx; omega
/-- After as many rounds as there are inodes just what can be reached is marked. -/
theorem reachG_iff {ds : List ID} (hr : inRange ds) (h0 : 0 < ds.length) (i : Nat) : reachG ds ds.length i = true ↔ RP (entsOf ds) i := by
  refine ⟨reachG_sound _ i, fun h => ?_⟩
  rcases reachG_closes ds h0 ds.length with ⟨q, hq, hc⟩ | hbig
  · have key : reachG ds q i = true := by
      induction h with
      | zero => have := reachG_mono (ds := ds) (i := 0) (r := 0) (by simp [reachG]) q; rwa [Nat.zero_add] at this
      | step hp hx ih => exact hc _ (hp.lt hr h0) ih _ hx (by have := hr _ (hp.lt hr h0) _ hx; omega)
    have := reachG_mono key (ds.length - q)
    rwa [show q + (ds.length - q) = ds.length by omega] at this
  · have := cntG_le (reachG ds ds.length) ds.length
    omega

theorem nodup_len : ∀ (n : Nat) (h : List Nat), h.Nodup → (∀ i ∈ h, i < n) → h.length ≤ n
  | 0, h, _, hl => by
    match h, hl with
    | [], _ => simp
    | a :: _, hl => exact absurd (hl a (by simp)) (by omega)
  | n + 1, h, hd, hl => by
    have h1 := nodup_len n (h.erase n) (hd.erase n) (fun i hi => by
      have hne := (hd.mem_erase_iff.1 hi).1
      have := hl i (List.mem_of_mem_erase hi)
      omega)
    rw [List.length_erase] at h1
    split at h1 <;> omega

/-- The program's way: h is what was met, in that order; p of it are done, and k entries of the next one; m is how often each was met. -/
structure Bfs (E : Nat → List Int) (n : Nat) (h : List Nat) (p k : Nat) (m : Int → Int) (t : Nat) : Prop where
  nd : h.Nodup
  lt : ∀ i ∈ h, i < n
  rp : ∀ i ∈ h, RT E t i
  top : t ∈ h
  le : p ≤ h.length
  pos : ∀ i : Nat, 0 < m (i : Int) ↔ i ∈ h
  nn : ∀ x, 0 ≤ m x
  clo : ∀ q, q < p → ∀ x ∈ E (h[q]?.getD 0), x.toNat ∈ h
  cur : ∀ x ∈ (E (h[p]?.getD 0)).take k, x.toNat ∈ h
  bd : ∀ x, m x ≤ 1 + 6 * p + k
def putM (m : Int → Int) (x v : Int) : Int → Int := fun y => if y = x then v else m y
theorem Bfs.init (E : Nat → List Int) (n t : Nat) (hn : t < n) : Bfs E n [t] 0 0 (putM (fun _ => 0) (t : Int) 1) t where
  nd := by simp
  lt := by simpa using hn
  rp := by intro i hi; rw [List.mem_singleton.1 hi]; exact .zero
  top := by simp
  le := by simp
  pos := fun i => by
    unfold putM
    by_cases e : (i : Int) = (t : Int)
    · rw [if_pos e]
      have : i = t := by omega
      simp [this]
    · rw [if_neg e]
      simp; omega
  nn := fun x => by unfold putM; by_cases e : x = (t : Int) <;> simp [e]
  clo := fun q hq => by omega
  cur := by simp
  bd := fun x => by unfold putM; by_cases e : x = (t : Int) <;> simp [e]
theorem Bfs.len {E : Nat → List Int} {n : Nat} {h : List Nat} {p k : Nat} {m : Int → Int} {t : Nat} (b : Bfs E n h p k m t) : h.length ≤ n := nodup_len n h b.nd b.lt
theorem Bfs.bnd {E : Nat → List Int} {n : Nat} {h : List Nat} {p k : Nat} {m : Int → Int} {t : Nat} (b : Bfs E n h p k m t) (hn : n ≤ 10) (hk : k ≤ 6) (x : Int) : 0 ≤ m x ∧ m x ≤ 67 := by
  have h1 := b.bd x
  have h2 := b.len
  have h3 := b.le
  exact ⟨b.nn x, by omega⟩
theorem take_mem_succ {α : Type} {l : List α} {k : Nat} {a x : α} (hk : l[k]? = some a) (hx : x ∈ l.take (k + 1)) : x ∈ l.take k ∨ x = a := by
  have hlt := (List.getElem?_eq_some_iff.1 hk).1
  rw [List.take_succ_eq_append_getElem hlt] at hx
  rcases List.mem_append.1 hx with h | h
  · exact Or.inl h
  · right
    rw [List.mem_singleton.1 h]
    exact (List.getElem?_eq_some_iff.1 hk).2
theorem Bfs.old {E : Nat → List Int} {n : Nat} {h : List Nat} {p k : Nat} {m : Int → Int} {t : Nat} (b : Bfs E n h p k m t) {x : Int} (hx : (E (h[p]?.getD 0))[k]? = some x) (hx0 : 0 ≤ x) (hm : ¬ m x + 1 = 1) : Bfs E n h p (k + 1) (putM m x (m x + 1)) t := by
  have hmx := b.nn x
  have hxn : ((x.toNat : Nat) : Int) = x := by omega
  have hin : x.toNat ∈ h := (b.pos x.toNat).1 (by rw [hxn]; omega)
  refine ⟨b.nd, b.lt, b.rp, b.top, b.le, fun i => ?_, fun y => ?_, b.clo, fun y hy => ?_, fun y => ?_⟩
  · unfold putM
    by_cases e : (i : Int) = x
    · rw [if_pos e]
      have : i = x.toNat := by omega
      subst this
      exact ⟨fun _ => hin, fun _ => by omega⟩
    · rw [if_neg e]; exact b.pos i
  · unfold putM; split
    · omega
    · exact b.nn y
  · rcases take_mem_succ hx hy with hy | rfl
    · exact b.cur y hy
    · exact hin
  · have h1 := b.bd y
    have h2 := b.bd x
    unfold putM; split <;> omega
theorem Bfs.new {E : Nat → List Int} {n : Nat} {h : List Nat} {p k : Nat} {m : Int → Int} {t : Nat} (b : Bfs E n h p k m t) (hp : p < h.length) {x : Int} (hx : (E (h[p]?.getD 0))[k]? = some x) (hx0 : 0 ≤ x) (hxn : x < (n : Int)) (hm : m x + 1 = 1) : Bfs E n (h ++ [x.toNat]) p (k + 1) (putM m x (m x + 1)) t := by
  have hxe : ((x.toNat : Nat) : Int) = x := by omega
  have hni : ¬ x.toNat ∈ h := fun hin => by have := (b.pos x.toNat).2 hin; rw [hxe] at this; omega
  have hget : ∀ q, q < h.length → (h ++ [x.toNat])[q]?.getD 0 = h[q]?.getD 0 := fun q hq => by rw [List.getElem?_append_left hq]
  have hpin : h[p]?.getD 0 ∈ h := by rw [List.getElem?_eq_getElem hp]; exact List.getElem_mem hp
  have hle := b.le
  refine ⟨?_, fun i hi => ?_, fun i hi => ?_, by simp [b.top], by simp; omega, fun i => ?_, fun y => ?_, fun q hq y hy => ?_, fun y hy => ?_, fun y => ?_⟩
  · rw [List.nodup_append]
    exact ⟨b.nd, by simp, fun a ha c hc => by rw [List.mem_singleton.1 hc]; intro e; exact hni (e ▸ ha)⟩
  · rcases List.mem_append.1 hi with hi | hi
    · exact b.lt i hi
    · rw [List.mem_singleton.1 hi]; omega
  · rcases List.mem_append.1 hi with hi | hi
    · exact b.rp i hi
    · rw [List.mem_singleton.1 hi]
      exact .step (b.rp _ hpin) (List.mem_of_getElem? hx)
  · unfold putM
    by_cases e : (i : Int) = x
    · rw [if_pos e]
      have : i = x.toNat := by omega
      subst this
      simp; omega
    · rw [if_neg e, b.pos i]
      simp; intro e2; exact absurd (by omega) e
  · unfold putM; split
    · omega
    · exact b.nn y
  · rw [hget q (by omega)] at hy
    exact List.mem_append_left _ (b.clo q hq y hy)
  · rw [hget p hp] at hy
    rcases take_mem_succ hx hy with hy | rfl
    · exact List.mem_append_left _ (b.cur y hy)
    · simp
  · have h1 := b.bd y
    have h2 := b.bd x
    unfold putM; split <;> omega
theorem Bfs.next {E : Nat → List Int} {n : Nat} {h : List Nat} {p k : Nat} {m : Int → Int} {t : Nat} (b : Bfs E n h p k m t) (hp : p < h.length) (hk : (E (h[p]?.getD 0)).length = k) (hk6 : k ≤ 6) : Bfs E n h (p + 1) 0 m t := by
  refine ⟨b.nd, b.lt, b.rp, b.top, hp, b.pos, b.nn, fun q hq x hx => ?_, by simp, fun x => by have := b.bd x; omega⟩
  by_cases e : q = p
  · subst e
    exact b.cur x (by rw [List.take_of_length_le (by omega)]; exact hx)
  · exact b.clo q (by omega) x hx
theorem Bfs.done {E : Nat → List Int} {n : Nat} {h : List Nat} {p k : Nat} {m : Int → Int} {t : Nat} (b : Bfs E n h p k m t) (hp : p = h.length) (i : Nat) : 0 < m (i : Int) ↔ RT E t i := by
  rw [b.pos i]
  refine ⟨b.rp i, fun hr => ?_⟩
  induction hr with
  | zero => exact b.top
  | @step j x _ hx ih =>
    obtain ⟨q, hq, he⟩ := List.getElem_of_mem ih
    refine b.clo q (by omega) x ?_
    rw [List.getElem?_eq_getElem hq, Option.getD_some, he]
    exact hx
end Go.Proofs.Ytlohgnidbkechaa
