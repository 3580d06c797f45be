/- A queue: words that grow by append and are gone through from the front. What can be reached: rounds over all inodes, and the way from one to the next, come to the same. Maps from int64 to int64 that the call made: what they tell of a key. The program: what is reached, in a map. -/
import Derived.Test.YtjabimfinanjoaaGreatM06
import Derived.Test.YtjabimfinanjoaaGreatM14
import Derived.Test.YtjabimfinanjoaaGreatM11
import Derived.Maps.RangeWalk
import Derived.Maps.OwnOps
import Derived.Maps.Views
import Derived.Deep.LoopGhost
namespace Go.Proofs.YtjabimfinanjoaaGreat
open Go.RowKit
set_option maxRecDepth 100000

def Qu (w : World) (n₀ : Nat) (v : Value) (zs : List Int) : Prop :=
  ∃ g off cap cur, v = .slice (some ⟨g, off, none⟩) zs.length cap ∧ n₀ ≤ g ∧ w.heap[g]? = some (.cells cur 2 (0, 0)) ∧ zs.length ≤ cap ∧ cap ≤ maxLen ∧ off + cap ≤ cur.size ∧ ∀ k, k < zs.length → cur[off + k]? = some (.int .i64 (zs[k]?.getD 0))
theorem Qu.keep {w w' : World} {n₀ : Nat} {v : Value} {zs : List Int} (h : Qu w n₀ v zs) (e : ∀ b c f, n₀ ≤ b → w.heap[b]? = some (.cells c 2 f) → w'.heap[b]? = w.heap[b]?) : Qu w' n₀ v zs := by
  obtain ⟨g, off, cap, cur, h1, h2, h3, h4⟩ := h
  exact ⟨g, off, cap, cur, h1, h2, (e g _ _ h2 h3).trans h3, h4⟩
theorem Qu.later {w w' : World} {n₀ : Nat} {v : Value} {zs : List Int} (h : Qu w n₀ v zs) (hb : Below w.heap.size w w') : Qu w' n₀ v zs := h.keep fun b _ _ _ hc => hb.block b (Array.getElem?_eq_some_iff.1 hc).1
theorem Qu.shape {w : World} {n₀ : Nat} {v : Value} {zs : List Int} (h : Qu w n₀ v zs) : ∃ a c, v = .slice a zs.length c ∧ zs.length ≤ c := by
  obtain ⟨g, off, cap, cur, rfl, _, _, h4, _⟩ := h
  exact ⟨_, _, rfl, h4⟩
theorem Qu.one (w : World) (n₀ : Nat) (hn : n₀ ≤ w.heap.size) (x : Int) : Qu (w.alloc (.cells #[.int .i64 x] 2)) n₀ (.slice (some ⟨w.heap.size, 0, none⟩) 1 1) [x] :=
  ⟨w.heap.size, 0, 1, #[.int .i64 x], rfl, hn, Go.Deep.blk_alloc_new _ _, by simp, by unfold maxLen; omega, by simp, fun k hk => by
    have : k = 0 := by simp at hk; exact hk
    subst this; rfl⟩
theorem Qu.cell {w : World} {n₀ : Nat} {a : Option Addr} {n c : Nat} {zs : List Int} (h : Qu w n₀ (.slice a n c) zs) {k : Nat} (hk : k < zs.length) : ∃ g off, a = some ⟨g, off, none⟩ ∧ w.cell? ⟨g, off + k, none⟩ = some (.int .i64 (zs[k]?.getD 0)) := by
  obtain ⟨g, off, cap, cur, e, _, h3, _, _, _, h6⟩ := h
  simp only [Value.slice.injEq] at e
  refine ⟨g, off, e.1, ?_⟩
  have := h6 k hk
  simp [World.cell?, h3, this]
theorem slice_tailQ (a : Option Addr) (n c : Nat) (hl : 1 ≤ n) (hc : n ≤ c) :
    ∃ A C, (∀ W : World, (Instr.slice 27 (.slice a n c) (some (.int .i64 1)) none none).run Tryz.prog W = .ok (.slice A (n - 1) C) W) ∧ ∀ (W : World) (n₀ : Nat) (z : Int) (zs : List Int), Qu W n₀ (.slice a n c) (z :: zs) → Qu W n₀ (.slice A (n - 1) C) zs := by
  obtain ⟨i, hi, _, h2, _⟩ := Tryz.infoInt'
  refine ⟨if c = 1 then a else a.map (·.add 1), c - 1, fun W => ?_, fun W n₀ z zs h => ?_⟩
  · simp [Instr.slice, Instr.sliceBounds, Instr.sliceBound, asIntOf, run_underlying Tryz.underlying27, sizeOf, typeInfo, hi, h2]
    intro hlt
    omega
  · obtain ⟨g, off, cap, cur, e, h1, h3, h4, h5, h6, h7⟩ := h
    simp only [Value.slice.injEq, List.length_cons] at e
    obtain ⟨rfl, rfl, rfl⟩ := e
    simp only [List.length_cons] at h4 h7
    by_cases hcl : c = 1
    · have hz : zs = [] := List.eq_nil_of_length_eq_zero (by omega)
      subst hz
      rw [if_pos hcl]
      exact ⟨g, off, c - 1, cur, by simp, h1, h3, by simp, by omega, by omega, fun k hk => by simp at hk⟩
    · rw [if_neg hcl]
      refine ⟨g, off + 1, c - 1, cur, by simp [add_plain'], h1, h3, by omega, by omega, by omega, fun k hk => ?_⟩
      have := h7 (k + 1) (by omega)
      rw [show off + 1 + k = off + (k + 1) by omega, this]
      simp
/-- Blocks that hold no words stand as they did. -/
def KeepQ (w w' : World) : Prop := ∀ (b : Nat) (o : Obj), w.heap[b]? = some o → (∀ c f, o ≠ .cells c 2 f) → w'.heap[b]? = some o
theorem append_q (w : World) (n₀ : Nat) (v : Value) (zs : List Int) (x : Int) (hq : Qu w n₀ v zs) (hn₀ : n₀ ≤ w.heap.size) (hz : zs.length ≤ 1000) :
    ∃ v' X, (Builtin.append_ #[27, 27] 27 #[v, .slice (some ⟨w.heap.size, 0, none⟩) 1 1]).run Tryz.prog (w.alloc (.cells #[.int .i64 x] 2)) = .ok v' X ∧ Qu X n₀ v' (zs ++ [x]) ∧ Below n₀ w X ∧ KeepQ w X := by
  obtain ⟨i, hi, h1, h2, h3⟩ := Tryz.infoInt'
  have hq' := hq.later (later1 w (.cells #[.int .i64 x] 2))
  have hBW : Below n₀ w (w.alloc (.cells #[.int .i64 x] 2)) := (later1 w _).mono hn₀
  have hKW : KeepQ w (w.alloc (.cells #[.int .i64 x] 2)) := fun b o hb _ => ((later1 w _).block b (Array.getElem?_eq_some_iff.1 hb).1).trans hb
  have hcell : (w.alloc (.cells #[.int .i64 x] 2)).cell? ⟨w.heap.size, 0, none⟩ = some (.int .i64 x) := by rw [new_cell]; rfl
  have hsz : n₀ ≤ (w.alloc (.cells #[.int .i64 x] 2)).heap.size := by simp; omega
  generalize hW : w.alloc (.cells #[.int .i64 x] 2) = W at *
  clear hW
  obtain ⟨g, off, cap, cur, rfl, hg0, hg, hnc, hcm, hoc, hrd⟩ := hq'
  have hglt : g < W.heap.size := (Array.getElem?_eq_some_iff.1 hg).1
  have hnews : ∀ j u, ([.int .i64 x] : List Value)[j]? = some u → W.cell? ((⟨w.heap.size, 0, none⟩ : Addr).add j) = some u := fun j u hu => by
    match j, hu with
    | 0, hu => simp at hu; subst hu; rw [add_plain']; exact hcell
    | j + 1, hu => simp at hu
  by_cases hroom : zs.length + 1 ≤ cap
  · have hf := run_firstCells_some (P := Tryz.prog) W i.size 1 ⟨w.heap.size, 0, none⟩ 1 1 [.int .i64 x] (by simp [h2]) hnews
    rw [h2] at hf
    have hst := run_storeCells_at Tryz.prog g (off + zs.length) 2 [.int .i64 x] 0 cur W hg (by simp; omega) (by simp [Value.oneCell'])
    simp only [Nat.add_zero, List.length_cons, List.length_nil, Nat.zero_add] at hst
    refine ⟨.slice (some ⟨g, off, none⟩) (zs.length + 1) cap, W.setRow g (cur.toList.take (off + zs.length) ++ [Value.int .i64 x] ++ cur.toList.drop (off + zs.length + 1)).toArray, ?_, ?_, hBW.trans ?_, ?_⟩
    · simp [Builtin.append_, run_underlying Tryz.underlying27, sizeOf, typeInfo, hi, h2, Builtin.lenOf, hroom, hf, add_plain', hst]
    · refine ⟨g, off, cap, _, by simp, hg0, setRow_heap W g cur _ 2 _ hg, by simp; omega, hcm, ?_, fun k hk => ?_⟩
      · simp only [List.size_toArray, List.length_append, List.length_take, List.length_drop, Array.length_toList, List.length_cons, List.length_nil]
        omega
      · simp only [List.length_append, List.length_cons, List.length_nil] at hk
        have hlt : (cur.toList.take (off + zs.length)).length = off + zs.length := by rw [List.length_take]; simp; omega
        rw [List.getElem?_toArray, List.append_assoc]
        by_cases hkz : k < zs.length
        · rw [List.getElem?_append_left (by rw [hlt]; omega), List.getElem?_take, if_pos (by omega), List.getElem?_append_left hkz, Array.getElem?_toList]
          exact hrd k hkz
        · have : k = zs.length := by omega
          subst this
          rw [List.getElem?_append_right (by rw [hlt]; omega), hlt, Nat.sub_self]
          simp
    · refine ⟨rfl, rfl, rfl, by simp, fun b hb => setRow_other W g b _ (by omega)⟩
    · intro b o hb ho
      have hb' := hKW b o hb ho
      by_cases e : b = g
      · subst e
        rw [hg] at hb'
        simp only [Option.some.injEq] at hb'
        exact absurd hb'.symm (ho _ _)
      · rw [← hb']; exact setRow_other W g b _ e
  · have hr := run_append_grow (P := Tryz.prog) W 27 27 2 i (.int .i64 0) Tryz.underlying27 hi h1 ⟨g, off, none⟩ zs.length cap (zs.map intV) (by simp [h2]) (fun j u hu => by
      rw [List.getElem?_map, Option.map_eq_some_iff] at hu
      obtain ⟨z, hz1, rfl⟩ := hu
      have hj : j < zs.length := (List.getElem?_eq_some_iff.1 hz1).1
      have := hrd j hj
      rw [hz1, Option.getD_some] at this
      rw [add_plain']
      simp [World.cell?, hg, this, intV]) ⟨w.heap.size, 0, none⟩ 1 1 [.int .i64 x] (by simp [h2]) hnews (by omega) (by omega) (growslice_fits (by omega) (by rw [h3]; omega))
    have hge := grownCap_ge W (zs.length + 1) cap 2
    have hcm' := grownCap_le_maxLen W (zs.length + 1) cap 2 (by unfold maxLen; omega)
    have hBX : ∀ o, Below W.heap.size W (W.drew.alloc o) := fun o => ⟨rfl, rfl, rfl, by simp, fun b hb => (later1 W.drew o).block b hb⟩
    refine ⟨_, _, hr, ?_, hBW.trans ((hBX _).mono hsz), fun b o hb ho => ?_⟩
    · refine ⟨W.heap.size, 0, _, _, by simp, hsz, Go.Deep.blk_alloc_new _ _, by simp; omega, hcm', ?_, fun k hk => ?_⟩
      · simp only [Array.size_append, List.size_toArray, size_zeroCells, List.length_map, List.length_cons, List.length_nil, Value.cells]
        simp
        omega
      · simp only [List.length_append, List.length_cons, List.length_nil] at hk
        rw [Nat.zero_add, Array.getElem?_append_left (by simp; omega)]
        by_cases hkz : k < zs.length
        · rw [Array.getElem?_append_left (by simpa using hkz), List.getElem?_append_left hkz]
          simp [List.getElem?_eq_getElem hkz, intV]
        · have : k = zs.length := by omega
          subst this
          rw [Array.getElem?_append_right (by simp)]
          simp
    · rw [(hBX _).block b (Array.getElem?_eq_some_iff.1 (hKW b o hb ho)).1]
      exact hKW b o hb ho
end Go.Proofs.YtjabimfinanjoaaGreat

namespace Go.Proofs.YtjabimfinanjoaaGreat
open Go.RowKit
set_option maxRecDepth 100000

/-- What can be reached from a place; from the top. -/
inductive RT (E : Nat → List Int) (t : Nat) : Nat → Prop
  | zero : RT E t t
  | step {i : Nat} {x : Int} : RT E t i → x ∈ E i → RT E t x.toNat
abbrev RP (E : Nat → List Int) : Nat → Prop := RT E 0
def entsOf (ds : List ID) (i : Nat) : List Int := entI (ds[i]?.getD id0).2.2.2.2

theorem foldB_sound {Q : Nat → Prop} : ∀ (xs : List Int) {g : Nat → Bool}, (∀ i, g i = true → Q i) → (∀ x ∈ xs, Q x.toNat) → ∀ i, (xs.foldl setB g) i = true → Q i
  | [], _, hg, _, i, h => hg i h
  | x :: xs, g, hg, hx, i, h => foldB_sound xs (g := setB g x) (fun j hj => by
      unfold setB at hj
      by_cases e : j = x.toNat
      · rw [e]; exact hx x (by simp)
      · rw [if_neg e] at hj; exact hg j hj) (fun y hy => hx y (by simp [hy])) i h
theorem foldB_has : ∀ (xs : List Int) {g : Nat → Bool} {x : Int}, x ∈ xs → (xs.foldl setB g) x.toNat = true
  | y :: xs, g, x, h => by
    rcases List.mem_cons.1 h with rfl | h
    · exact foldB_mono xs (by simp [setB])
    · exact foldB_has xs h
theorem inoB_mono {ds : List ID} {g : Nat → Bool} {i j : Nat} (h : g i = true) : inoB ds g j i = true := by
  unfold inoB
  split
  · exact foldB_mono _ h
  · exact h
theorem sweepB_mono {ds : List ID} {g : Nat → Bool} {i : Nat} (h : g i = true) : ∀ j, sweepB ds g j i = true
  | 0 => h
  | j + 1 => inoB_mono (sweepB_mono h j)
theorem sweepB_later {ds : List ID} {g : Nat → Bool} {i j : Nat} (h : sweepB ds g j i = true) : ∀ k, sweepB ds g (j + k) i = true
  | 0 => h
  | k + 1 => inoB_mono (sweepB_later h k)
theorem sweepB_sound {ds : List ID} {g : Nat → Bool} (hg : ∀ i, g i = true → RP (entsOf ds) i) : ∀ j i, sweepB ds g j i = true → RP (entsOf ds) i
  | 0, i, h => hg i h
  | j + 1, i, h => by
    have h' : inoB ds (sweepB ds g j) j i = true := h
    unfold inoB at h'
    by_cases e : sweepB ds g j j = true
    · rw [if_pos e] at h'
      exact foldB_sound _ (sweepB_sound hg j) (fun x hx => .step (sweepB_sound hg j j e) hx) i h'
    · rw [if_neg e] at h'
      exact sweepB_sound hg j i h'
theorem sweepB_step {ds : List ID} {g : Nat → Bool} {i n : Nat} {x : Int} (hi : i < n) (hg : g i = true) (hx : x ∈ entsOf ds i) : sweepB ds g n x.toNat = true := by
  have h1 : sweepB ds g (i + 1) x.toNat = true := by
    show inoB ds (sweepB ds g i) i x.toNat = true
    unfold inoB
    rw [if_pos (sweepB_mono hg i)]
    exact foldB_has _ hx
  have h2 := sweepB_later h1 (n - (i + 1))
  rwa [show i + 1 + (n - (i + 1)) = n by omega] at h2
theorem reachG_sound {ds : List ID} : ∀ r i, reachG ds r i = true → RP (entsOf ds) i
  | 0, i, h => by
    have : i = 0 := by simpa [reachG] using h
    rw [this]; exact .zero
  | r + 1, i, h => sweepB_sound (reachG_sound r) _ i h
theorem reachG_mono {ds : List ID} {i r : Nat} (h : reachG ds r i = true) : ∀ k, reachG ds (r + k) i = true
  | 0 => h
  | k + 1 => sweepB_mono (reachG_mono h k) _
def cntG (g : Nat → Bool) : Nat → Nat
  | 0 => 0
  | n + 1 => cntG g n + if g n = true then 1 else 0
theorem cntG_le (g : Nat → Bool) : ∀ n, cntG g n ≤ n
  | 0 => Nat.le_refl _
  | n + 1 => by have := cntG_le g n; unfold cntG; split <;> omega
theorem cntG_mono {g g' : Nat → Bool} (h : ∀ i, g i = true → g' i = true) : ∀ n, cntG g n ≤ cntG g' n
  | 0 => Nat.le_refl _
  | n + 1 => by
    have := cntG_mono h n
    unfold cntG
    by_cases e : g n = true
    · rw [if_pos e, if_pos (h n e)]; omega
    · rw [if_neg e]; split <;> omega
theorem cntG_lt {g g' : Nat → Bool} (h : ∀ i, g i = true → g' i = true) {j : Nat} (h1 : g' j = true) (h0 : ¬ g j = true) : ∀ n, j < n → cntG g n < cntG g' n
  | n + 1, hj => by
    unfold cntG
    by_cases e : j = n
    · subst e
      have := cntG_mono h j
      rw [if_neg h0, if_pos h1]; omega
    · have := cntG_lt h h1 h0 n (by omega)
      by_cases e2 : g n = true
      · rw [if_pos e2, if_pos (h n e2)]; omega
      · rw [if_neg e2]; split <;> omega
def closedB (ds : List ID) (g : Nat → Bool) : Prop := ∀ i, i < ds.length → g i = true → ∀ x ∈ entsOf ds i, x.toNat < ds.length → g x.toNat = true
theorem reachG_closes (ds : List ID) (h0 : 0 < ds.length) : ∀ r, (∃ q, q ≤ r ∧ closedB ds (reachG ds q)) ∨ r + 1 ≤ cntG (reachG ds r) ds.length
  | 0 => by
    right
    have := cntG_lt (g := fun _ => false) (g' := reachG ds 0) (by simp) (j := 0) (by simp [reachG]) (by simp) ds.length h0
    omega
  | r + 1 => by
    rcases reachG_closes ds h0 r with ⟨q, hq, hc⟩ | h
    · exact Or.inl ⟨q, by omega, hc⟩
    · by_cases hc : closedB ds (reachG ds r)
      · exact Or.inl ⟨r, by omega, hc⟩
      · right
        have hm : ∀ i, reachG ds r i = true → reachG ds (r + 1) i = true := fun i hi => reachG_mono hi 1
        have : ∃ j, j < ds.length ∧ reachG ds (r + 1) j = true ∧ ¬ reachG ds r j = true := by
          apply Classical.byContradiction
          intro hno
          apply hc
          intro i hi hg x hx hxl
          apply Classical.byContradiction
          intro hn
          exact hno ⟨x.toNat, hxl, sweepB_step hi hg hx, hn⟩
        obtain ⟨j, hj, h1, h2⟩ := this
        have := cntG_lt hm h1 h2 ds.length hj
        omega
def inRange (ds : List ID) : Prop := ∀ i, i < ds.length → ∀ x ∈ entsOf ds i, 0 ≤ x ∧ x < (ds.length : Int)
theorem RT.lt {ds : List ID} {t : Nat} (hr : inRange ds) (h0 : t < ds.length) {i : Nat} (h : RT (entsOf ds) t i) : i < ds.length := by
  induction h with
  | zero => exact h0
  | step _ hx ih => have := hr _ ih _ hx; omega
/-- After as many rounds as there are inodes just what can be reached is marked. -/
theorem reachG_iff {ds : List ID} (hr : inRange ds) (h0 : 0 < ds.length) (i : Nat) : reachG ds ds.length i = true ↔ RP (entsOf ds) i := by
  refine ⟨reachG_sound _ i, fun h => ?_⟩
  rcases reachG_closes ds h0 ds.length with ⟨q, hq, hc⟩ | hbig
  · have key : reachG ds q i = true := by
      induction h with
      | zero => have := reachG_mono (ds := ds) (i := 0) (r := 0) (by simp [reachG]) q; rwa [Nat.zero_add] at this
      | step hp hx ih => exact hc _ (hp.lt hr h0) ih _ hx (by have := hr _ (hp.lt hr h0) _ hx; omega)
    have := reachG_mono key (ds.length - q)
    rwa [show q + (ds.length - q) = ds.length by omega] at this
  · have := cntG_le (reachG ds ds.length) ds.length
    omega

theorem nodup_len : ∀ (n : Nat) (h : List Nat), h.Nodup → (∀ i ∈ h, i < n) → h.length ≤ n
  | 0, h, _, hl => by
    match h, hl with
    | [], _ => simp
    | a :: _, hl => exact absurd (hl a (by simp)) (by omega)
  | n + 1, h, hd, hl => by
    have h1 := nodup_len n (h.erase n) (hd.erase n) (fun i hi => by
      have hne := (hd.mem_erase_iff.1 hi).1
      have := hl i (List.mem_of_mem_erase hi)
      omega)
    rw [List.length_erase] at h1
    split at h1 <;> omega

/-- The program's way: h is what was met, in that order; p of it are done, and k entries of the next one; m is how often each was met. -/
structure Bfs (E : Nat → List Int) (n : Nat) (h : List Nat) (p k : Nat) (m : Int → Int) (t : Nat) : Prop where
  nd : h.Nodup
  lt : ∀ i ∈ h, i < n
  rp : ∀ i ∈ h, RT E t i
  top : t ∈ h
  le : p ≤ h.length
  pos : ∀ i : Nat, 0 < m (i : Int) ↔ i ∈ h
  nn : ∀ x, 0 ≤ m x
  clo : ∀ q, q < p → ∀ x ∈ E (h[q]?.getD 0), x.toNat ∈ h
  cur : ∀ x ∈ (E (h[p]?.getD 0)).take k, x.toNat ∈ h
  bd : ∀ x, m x ≤ 1 + 6 * p + k
def putM (m : Int → Int) (x v : Int) : Int → Int := fun y => if y = x then v else m y
theorem Bfs.init (E : Nat → List Int) (n t : Nat) (hn : t < n) : Bfs E n [t] 0 0 (putM (fun _ => 0) (t : Int) 1) t where
  nd := by simp
  lt := by simpa using hn
  rp := by intro i hi; rw [List.mem_singleton.1 hi]; exact .zero
  top := by simp
  le := by simp
  pos := fun i => by
    unfold putM
    by_cases e : (i : Int) = (t : Int)
    · rw [if_pos e]
      have : i = t := by omega
      simp [this]
    · rw [if_neg e]
      simp; omega
  nn := fun x => by unfold putM; by_cases e : x = (t : Int) <;> simp [e]
  clo := fun q hq => by omega
  cur := by simp
  bd := fun x => by unfold putM; by_cases e : x = (t : Int) <;> simp [e]
theorem Bfs.len {E : Nat → List Int} {n : Nat} {h : List Nat} {p k : Nat} {m : Int → Int} {t : Nat} (b : Bfs E n h p k m t) : h.length ≤ n := nodup_len n h b.nd b.lt
theorem Bfs.bnd {E : Nat → List Int} {n : Nat} {h : List Nat} {p k : Nat} {m : Int → Int} {t : Nat} (b : Bfs E n h p k m t) (hn : n ≤ 10) (hk : k ≤ 6) (x : Int) : 0 ≤ m x ∧ m x ≤ 67 := by
  have h1 := b.bd x
  have h2 := b.len
  have h3 := b.le
  exact ⟨b.nn x, by omega⟩
theorem take_mem_succ {α : Type} {l : List α} {k : Nat} {a x : α} (hk : l[k]? = some a) (hx : x ∈ l.take (k + 1)) : x ∈ l.take k ∨ x = a := by
  have hlt := (List.getElem?_eq_some_iff.1 hk).1
  rw [List.take_succ_eq_append_getElem hlt] at hx
  rcases List.mem_append.1 hx with h | h
  · exact Or.inl h
  · right
    rw [List.mem_singleton.1 h]
    exact (List.getElem?_eq_some_iff.1 hk).2
theorem Bfs.old {E : Nat → List Int} {n : Nat} {h : List Nat} {p k : Nat} {m : Int → Int} {t : Nat} (b : Bfs E n h p k m t) {x : Int} (hx : (E (h[p]?.getD 0))[k]? = some x) (hx0 : 0 ≤ x) (hm : ¬ m x + 1 = 1) : Bfs E n h p (k + 1) (putM m x (m x + 1)) t := by
  have hmx := b.nn x
  have hxn : ((x.toNat : Nat) : Int) = x := by omega
  have hin : x.toNat ∈ h := (b.pos x.toNat).1 (by rw [hxn]; omega)
  refine ⟨b.nd, b.lt, b.rp, b.top, b.le, fun i => ?_, fun y => ?_, b.clo, fun y hy => ?_, fun y => ?_⟩
  · unfold putM
    by_cases e : (i : Int) = x
    · rw [if_pos e]
      have : i = x.toNat := by omega
      subst this
      exact ⟨fun _ => hin, fun _ => by omega⟩
    · rw [if_neg e]; exact b.pos i
  · unfold putM; split
    · omega
    · exact b.nn y
  · rcases take_mem_succ hx hy with hy | rfl
    · exact b.cur y hy
    · exact hin
  · have h1 := b.bd y
    have h2 := b.bd x
    unfold putM; split <;> omega
theorem Bfs.new {E : Nat → List Int} {n : Nat} {h : List Nat} {p k : Nat} {m : Int → Int} {t : Nat} (b : Bfs E n h p k m t) (hp : p < h.length) {x : Int} (hx : (E (h[p]?.getD 0))[k]? = some x) (hx0 : 0 ≤ x) (hxn : x < (n : Int)) (hm : m x + 1 = 1) : Bfs E n (h ++ [x.toNat]) p (k + 1) (putM m x (m x + 1)) t := by
  have hxe : ((x.toNat : Nat) : Int) = x := by omega
  have hni : ¬ x.toNat ∈ h := fun hin => by have := (b.pos x.toNat).2 hin; rw [hxe] at this; omega
  have hget : ∀ q, q < h.length → (h ++ [x.toNat])[q]?.getD 0 = h[q]?.getD 0 := fun q hq => by rw [List.getElem?_append_left hq]
  have hpin : h[p]?.getD 0 ∈ h := by rw [List.getElem?_eq_getElem hp]; exact List.getElem_mem hp
  have hle := b.le
  refine ⟨?_, fun i hi => ?_, fun i hi => ?_, by simp [b.top], by simp; omega, fun i => ?_, fun y => ?_, fun q hq y hy => ?_, fun y hy => ?_, fun y => ?_⟩
  · rw [List.nodup_append]
    exact ⟨b.nd, by simp, fun a ha c hc => by rw [List.mem_singleton.1 hc]; intro e; exact hni (e ▸ ha)⟩
  · rcases List.mem_append.1 hi with hi | hi
    · exact b.lt i hi
    · rw [List.mem_singleton.1 hi]; omega
  · rcases List.mem_append.1 hi with hi | hi
    · exact b.rp i hi
    · rw [List.mem_singleton.1 hi]
      exact .step (b.rp _ hpin) (List.mem_of_getElem? hx)
  · unfold putM
    by_cases e : (i : Int) = x
    · rw [if_pos e]
      have : i = x.toNat := by omega
      subst this
      simp; omega
    · rw [if_neg e, b.pos i]
      simp; intro e2; exact absurd (by omega) e
  · unfold putM; split
    · omega
    · exact b.nn y
  · rw [hget q (by omega)] at hy
    exact List.mem_append_left _ (b.clo q hq y hy)
  · rw [hget p hp] at hy
    rcases take_mem_succ hx hy with hy | rfl
    · exact List.mem_append_left _ (b.cur y hy)
    · simp
  · have h1 := b.bd y
    have h2 := b.bd x
    unfold putM; split <;> omega
theorem Bfs.next {E : Nat → List Int} {n : Nat} {h : List Nat} {p k : Nat} {m : Int → Int} {t : Nat} (b : Bfs E n h p k m t) (hp : p < h.length) (hk : (E (h[p]?.getD 0)).length = k) (hk6 : k ≤ 6) : Bfs E n h (p + 1) 0 m t := by
  refine ⟨b.nd, b.lt, b.rp, b.top, hp, b.pos, b.nn, fun q hq x hx => ?_, by simp, fun x => by have := b.bd x; omega⟩
  by_cases e : q = p
  · subst e
    exact b.cur x (by rw [List.take_of_length_le (by omega)]; exact hx)
  · exact b.clo q (by omega) x hx
theorem Bfs.done {E : Nat → List Int} {n : Nat} {h : List Nat} {p k : Nat} {m : Int → Int} {t : Nat} (b : Bfs E n h p k m t) (hp : p = h.length) (i : Nat) : 0 < m (i : Int) ↔ RT E t i := by
  rw [b.pos i]
  refine ⟨b.rp i, fun hr => ?_⟩
  induction hr with
  | zero => exact b.top
  | @step j x _ hx ih =>
    obtain ⟨q, hq, he⟩ := List.getElem_of_mem ih
    refine b.clo q (by omega) x ?_
    rw [List.getElem?_eq_getElem hq, Option.getD_some, he]
    exact hx
end Go.Proofs.YtjabimfinanjoaaGreat

namespace Go.Proofs.YtjabimfinanjoaaGreat
open Go.RowKit Go.Maps
set_option maxRecDepth 100000

theorem Tryz.keyInt : Keyed Tryz.prog 2 := int_keyed Tryz.underlying2
theorem Tryz.zeroInt (w : World) : (zeroValue 2).run Tryz.prog w = .ok (.int .i64 0) w := by
  obtain ⟨i, hi, h1, _⟩ := Tryz.infoInt'
  simp [zeroValue, typeInfo, hi, h1]
abbrev wf64 (x : Int) : Prop := (Lit.int .i64 x).wf = true
theorem wf64_of {x : Int} (h0 : 0 ≤ x) (h1 : x ≤ 1000000) : wf64 x := by
  have h3 : IntKind.i64.min = -9223372036854775808 := by decide
  have h4 : IntKind.i64.max = 9223372036854775807 := by decide
  simp only [wf64, Lit.wf, h3, h4]
  simp
  omega
/-- Which keys a map has, and what it tells of each. -/
structure Tells (D : DataW Unit) (p : Int → Bool) (m : Int → Int) : Prop where
  val : ∀ x, wf64 x → D.atKey (.int .i64 x) (.lit (.int .i64 0)) = .lit (.int .i64 (m x))
  has : ∀ x, wf64 x → Maps.has D (.int .i64 x) = p x
def Mp (w : World) (b n : Nat) (p : Int → Bool) (m : Int → Int) : Prop := ∃ D : DataW Unit, w.ownsMap Tryz.prog 2 (plainElem Tryz.prog 2) b n D ∧ Tells D p m
theorem Mp.made (w : World) : Mp (w.alloc (.map #[] 0)) w.heap.size 0 (fun _ => false) (fun _ => 0) :=
  ⟨.map [], World.ownsMap_made w Tryz.prog 2 _, fun _ _ => rfl, fun _ _ => rfl⟩
theorem Mp.lt {w : World} {b n : Nat} {p : Int → Bool} {m : Int → Int} (h : Mp w b n p m) : b < w.heap.size := by
  obtain ⟨D, h, _⟩ := h
  exact h.lt
theorem Mp.keep {w w' : World} {b n : Nat} {p : Int → Bool} {m : Int → Int} (h : Mp w b n p m) (e : w'.heap[b]? = w.heap[b]?) : Mp w' b n p m := by
  obtain ⟨D, ⟨es, clock, hb, r⟩, ht⟩ := h
  exact ⟨D, ⟨es, clock, e.trans hb, r⟩, ht⟩
theorem Mp.later {w w' : World} {b n : Nat} {p : Int → Bool} {m : Int → Int} (h : Mp w b n p m) (hb : Below w.heap.size w w') : Mp w' b n p m := h.keep (hb.block b h.lt)
theorem Mp.drewN {w : World} {b n : Nat} {p : Int → Bool} {m : Int → Int} (h : Mp w b n p m) (q : Nat) : Mp (w.drewN q) b n p m := h.later (below_drewN (Below.refl _ _) q)
theorem Mp.keepQ {w w' : World} {b n : Nat} {p : Int → Bool} {m : Int → Int} (h : Mp w b n p m) (hk : KeepQ w w') : Mp w' b n p m := by
  have h0 := h
  obtain ⟨D, ⟨es, clock, hb, r⟩, ht⟩ := h
  exact h0.keep ((hk b _ hb (by intros; simp)).trans hb.symm)
theorem Mp.look {w : World} {b n : Nat} {p : Int → Bool} {m : Int → Int} (h : Mp w b n p m) {x : Int} (hx : wf64 x) : (Instr.lookup 132 (.map (some b)) (.int .i64 x) false).run Tryz.prog w = .ok (.int .i64 (m x)) w := by
  obtain ⟨D, ho, ht⟩ := h
  obtain ⟨c, hr, hc, _⟩ := ho.lookup_int Tryz.keyInt Tryz.underlying132 Tryz.underlying2 (Tryz.zeroInt w) (keyOf_int_mk Tryz.underlying2 hx)
  rw [ht.val x hx] at hc
  simp at hc
  rw [hr, hc]
def putP (p : Int → Bool) (x : Int) : Int → Bool := fun y => if y = x then true else p y
theorem Mp.put {w : World} {b n : Nat} {p : Int → Bool} {m : Int → Int} (h : Mp w b n p m) (hn : n < maxLen) {x v : Int} (hx : wf64 x) (hv : wf64 v) :
    ∃ w', (Instr.mapUpdate 132 (.map (some b)) (.int .i64 x) (.int .i64 v)).run Tryz.prog w = .ok () w' ∧ Mp w' b (n + 1) (putP p x) (putM m x v) ∧ w.mapTurned w' b := by
  obtain ⟨D, ho, ht⟩ := h
  have hk : keyOf Tryz.prog 2 (.int .i64 x) = some (.int .i64 x) := keyOf_int_mk Tryz.underlying2 hx
  obtain ⟨w', hr, ho', hturn⟩ := ho.store Tryz.keyInt Tryz.underlying132 hn hk (plainElem_int Tryz.underlying2 hv)
  refine ⟨w', hr, ⟨_, ho', fun y hy => ?_, fun y hy => ?_⟩, hturn⟩
  · unfold putM
    by_cases e : y = x
    · subst e; rw [if_pos rfl, Maps.atKey_put_same ho.isMap (Tryz.keyInt.key hk)]
    · rw [if_neg e, Maps.atKey_put_other (by simpa using e)]; exact ht.val y hy
  · unfold putP
    by_cases e : y = x
    · subst e; rw [if_pos rfl]; exact Maps.has_put_same ho.isMap (Tryz.keyInt.key hk) _
    · rw [if_neg e, ← ht.has y hy]; exact Maps.has_put_other (by simpa using e) _
theorem turned_block {w w' : World} {b : Nat} (h : w.mapTurned w' b) (k : Nat) (hk : k ≠ b) : w'.heap[k]? = w.heap[k]? := by
  by_cases hlt : k < w.heap.size
  · exact h.grown.block k hlt (by simpa using hk)
  · obtain ⟨es, c, es', c', hb, rfl⟩ := h
    exact (MapKept.heap_set hb).2 k hk
theorem turned_below {w w' : World} {b B : Nat} (h : w.mapTurned w' b) (hB : B ≤ b) : Below B w w' :=
  ⟨h.grown.os, h.grown.tape, h.grown.output, h.grown.size, fun k hk => turned_block h k (by omega)⟩
/-- While a map is gone through and what is 0 is deleted: what it tells stays. -/
structure SweepT (D : DataW Unit) (p : Int → Bool) (m : Int → Int) (left : Lit → Bool) : Prop where
  val : ∀ x, wf64 x → D.atKey (.int .i64 x) (.lit (.int .i64 0)) = .lit (.int .i64 (m x))
  has : ∀ x, wf64 x → Maps.has D (.int .i64 x) = (p x && (!decide (m x = 0) || left (.int .i64 x)))
theorem SweepT.start {D : DataW Unit} {p : Int → Bool} {m : Int → Int} (h : Tells D p m) : SweepT D p m (Maps.has D) :=
  ⟨h.val, fun x hx => by rw [h.has x hx]; cases p x <;> simp⟩
theorem SweepT.stays {D : DataW Unit} {p : Int → Bool} {m : Int → Int} {left : Lit → Bool} (h : SweepT D p m left) {x c : Int} (hx : wf64 x) (hat : ∀ zd, D.atKey (.int .i64 x) zd = .lit (.int .i64 c)) (hc : ¬ c = 0) : SweepT D p m (fun z => left z && !z.sameKey (.int .i64 x)) := by
  have hm : m x = c := by have := h.val x hx; rw [hat] at this; simpa using this.symm
  refine ⟨h.val, fun y hy => ?_⟩
  rw [h.has y hy]
  by_cases e : y = x
  · subst e; rw [hm]; simp [hc]
  · have : (Lit.int .i64 y).sameKey (.int .i64 x) = false := by
      cases hs : (Lit.int .i64 y).sameKey (.int .i64 x) with
      | false => rfl
      | true => exact absurd (by simpa using WideAt.sameKey_eq hs) e
    simp [this]
theorem SweepT.struck {D : DataW Unit} {p : Int → Bool} {m : Int → Int} {left : Lit → Bool} (h : SweepT D p m left) {x : Int} (hx : wf64 x) (hat : ∀ zd, D.atKey (.int .i64 x) zd = .lit (.int .i64 0)) : SweepT (D.del (.int .i64 x)) p m (fun z => left z && !z.sameKey (.int .i64 x)) := by
  have hm : m x = 0 := by have := h.val x hx; rw [hat] at this; simpa using this.symm
  have hk : WideAt.IsKeyLit (.int .i64 x) := Tryz.keyInt.key (keyOf_int_mk Tryz.underlying2 hx)
  refine ⟨fun y hy => ?_, fun y hy => ?_⟩
  · by_cases e : y = x
    · subst e; rw [Maps.atKey_del_same, hm]
    · rw [Maps.atKey_del_other (by simpa using e)]; exact h.val y hy
  · by_cases e : y = x
    · subst e; rw [Maps.has_del_same, hm, WideAt.sameKey_self hk]; simp
    · have : (Lit.int .i64 y).sameKey (.int .i64 x) = false := by
        cases hs : (Lit.int .i64 y).sameKey (.int .i64 x) with
        | false => rfl
        | true => exact absurd (by simpa using WideAt.sameKey_eq hs) e
      rw [Maps.has_del_other (by simpa using e), h.has y hy, this]; simp
theorem SweepT.done {D : DataW Unit} {p : Int → Bool} {m : Int → Int} {left : Lit → Bool} (h : SweepT D p m left) (hl : ∀ kl, left kl = false) : Tells D (fun x => p x && !decide (m x = 0)) m :=
  ⟨h.val, fun x hx => by rw [h.has x hx, hl]; simp⟩
end Go.Proofs.YtjabimfinanjoaaGreat

namespace Go.Proofs.YtjabimfinanjoaaGreat
open Go.RowKit Go.Maps
set_option maxRecDepth 100000

section
variable {P : Program} {w : World}
/-- A look-up, a store into a map whose run is known, at its place in a walk. -/
theorem wpList_lookup_run {ops : Array Oper} {rest : List Oper} {o : Oper} {a : Act} {Q : Exit → Act → World → Prop} (hgd : o.guard = none) (m x : Operand) (t : TypeId) (ho : o.op = .lookup t m x false) (vm vx : Value) (hm : a.eval m = vm) (hx : a.eval x = vx) (v' : Value)
    (hr : (Instr.lookup t vm vx false).run P w = .ok v' w) (h : wpList P ops Q rest (a.put o.dst v') w) : wpList P ops Q (o :: rest) a w := by
  refine wpList_plain hgd fun K hK => ?_
  unfold Oper.wp
  simp [execOp, ho, hm, hx, hr, Result.andThen]
  exact hK _ _ h
theorem wpList_mapUpdate_run {ops : Array Oper} {rest : List Oper} {o : Oper} {a : Act} {Q : Exit → Act → World → Prop} (hgd : o.guard = none) (m x v : Operand) (t : TypeId) (ho : o.op = .mapUpdate t m x v) (vm vx vv : Value) (hm : a.eval m = vm) (hx : a.eval x = vx) (hv : a.eval v = vv) (w' : World)
    (hr : (Instr.mapUpdate t vm vx vv).run P w = .ok () w') (h : wpList P ops Q rest (a.put o.dst undef) w') : wpList P ops Q (o :: rest) a w := by
  refine wpList_plain hgd fun K hK => ?_
  unfold Oper.wp
  simp [execOp, ho, hm, hx, hv, hr, Result.andThen]
  exact hK _ _ h
end
theorem putP_same {p : Int → Bool} {x : Int} (h : p x = true) : putP p x = p := by
  funext y
  unfold putP
  by_cases e : y = x
  · rw [if_pos e, e, h]
  · rw [if_neg e]
theorem putP_next (j : Nat) : putP (fun x => decide (0 ≤ x ∧ x < (j : Int))) (j : Int) = fun x => decide (0 ≤ x ∧ x < ((j + 1 : Nat) : Int)) := by
  funext y
  unfold putP
  by_cases e : y = j
  · rw [if_pos e]; simp; omega
  · rw [if_neg e]
    show decide (0 ≤ y ∧ y < (j : Int)) = _
    by_cases h : 0 ≤ y ∧ y < (j : Int)
    · rw [decide_eq_true h, decide_eq_true (by omega)]
    · rw [decide_eq_false h, decide_eq_false (by omega)]
theorem putM_zero (x : Int) : putM (fun _ => 0) x 0 = fun _ => 0 := by
  funext y
  unfold putM
  split <;> rfl
theorem putM_at (m : Int → Int) (x v : Int) : putM m x v x = v := by unfold putM; rw [if_pos rfl]
/-- A map's block is no words' block, and what was made since stands apart from it. -/
theorem Qu.turned {w w' : World} {n₀ b : Nat} {v : Value} {zs : List Int} {N : Nat} {p : Int → Bool} {m : Int → Int} (h : Qu w n₀ v zs) (hm : Mp w b N p m) (ht : w.mapTurned w' b) : Qu w' n₀ v zs := h.keep fun k c f _ hk => turned_block ht k fun e => by
  obtain ⟨D, ⟨es, clock, hb, _⟩, _⟩ := hm
  rw [e, hb] at hk
  cases hk
theorem cell_turned {w w' : World} {b : Nat} (ht : w.mapTurned w' b) {k i : Nat} (hk : k ≠ b) {v : Value} (h : w.cell? ⟨k, i, none⟩ = some v) : w'.cell? ⟨k, i, none⟩ = some v := by
  simp only [World.cell?] at h ⊢
  rw [turned_block ht k hk]
  exact h
def intsN (h : List Nat) : List Int := h.map fun k : Nat => (k : Int)
theorem intsN_len (h : List Nat) : (intsN h).length = h.length := by simp [intsN]
theorem intsN_get (h : List Nat) (k : Nat) : (intsN h)[k]?.getD 0 = ((h[k]?.getD 0 : Nat) : Int) := by
  unfold intsN
  rw [List.getElem?_map]
  cases h[k]? <;> simp
theorem entsOf_get {ds : List ID} {j k : Nat} (hk : k < (ds[j]?.getD id0).2.2.2.2.length) : (entsOf ds j)[k]? = some ((ds[j]?.getD id0).2.2.2.2[k]?.getD en0).2 := by
  unfold entsOf entI
  rw [List.getElem?_map, List.getElem?_eq_getElem hk]
  rfl
theorem entsOf_len (ds : List ID) (j : Nat) : (entsOf ds j).length = (ds[j]?.getD id0).2.2.2.2.length := by simp [entsOf, entI]

set_option maxHeartbeats 6400000 in
theorem reachFrom_top (w : World) (a : Option Addr) (n c t : Nat) (ds : List ID) (hdn : ds.length = n) (hn0 : t < n) (hn : n ≤ 10) (hc : AtI w a n ds) (hr : inRange ds) (h6 : ∀ i, (entsOf ds i).length ≤ 6) :
    Calls Tryz.prog 107 #[.slice a n c, .int .i64 (t : Int)] w fun e w' => ∃ b N m, e = .returned (.map (some b)) ∧ Below w.heap.size w w' ∧ w.heap.size ≤ b ∧ Mp w' b N (fun x => decide (0 ≤ x ∧ x < (n : Int)) && !decide (m x = 0)) m ∧ (∀ i : Nat, 0 < m (i : Int) ↔ RT (entsOf ds) t i) ∧ ∀ x, 0 ≤ m x := by
  have HC : Hid (AtI w a n ds) := hc
  have HR : Hid (∀ i, i < n → ∀ x ∈ entsOf ds i, 0 ≤ x ∧ x < (n : Int)) := by rw [← hdn]; exact hr
  have H6 : Hid (∀ i, (entsOf ds i).length ≤ 6) := h6
  have HM0 : Hid (Mp (w.alloc (.map #[] 0)) w.heap.size 0 (fun _ => false) (fun _ => 0)) := Mp.made w
  have hmm := @run_makeMap Tryz.prog
  clear hc hr h6 hdn
  go_enter Tryz.func107, Tryz.ntmps107
  go_wp2
  clear hmm
  go_loopw [15] (fun i wr => ∃ j : Nat, j ≤ n ∧ i = .int .i64 j ∧ Below w.heap.size w wr ∧ Mp wr w.heap.size j (fun x => decide (0 ≤ x ∧ x < (j : Int))) (fun _ => 0)) (fun i _ => n - (intOf i).toNat)
  case atStart =>
    refine ⟨0, Nat.zero_le _, rfl, later1 _ _, ?_⟩
    have : (fun x : Int => decide (0 ≤ x ∧ x < ((0 : Nat) : Int))) = fun _ => false := by funext x; simp
    rw [this]; exact HM0.out
  case round =>
    obtain ⟨j, hj, rfl, hbl, hmp⟩ := hrel
    have HBL : Hid (Below w.heap.size w wr) := hbl
    have HMP : Hid (Mp wr w.heap.size j (fun x => decide (0 ≤ x ∧ x < (j : Int))) (fun _ => 0)) := hmp
    clear hbl hmp HM0
    by_cases hlt : j < n
    · obtain ⟨w1, hup, hmp1, hturn⟩ := HMP.out.put (x := (j : Int)) (v := 0) (by unfold maxLen; omega) (wf64_of (by omega) (by omega)) (wf64_of (by omega) (by omega))
      rw [putP_next, putM_zero] at hmp1
      have HUP : Hid (_ = _) := hup
      have HMP1 : Hid (Mp w1 w.heap.size (j + 1) (fun x => decide (0 ≤ x ∧ x < ((j + 1 : Nat) : Int))) (fun _ => 0)) := hmp1
      have HB1 : Hid (Below w.heap.size w w1) := HBL.out.trans (turned_below hturn (Nat.le_refl _))
      clear hup hmp1 hturn
      go_wp2_with (first | (at_mapUpdate; refine wpList_mapUpdate_run rfl _ _ _ _ rfl _ _ _ rfl rfl rfl _ HUP.out ?_) | fail)
      go_roundw
      case rel => exact ⟨j + 1, by omega, by go_num, HB1.out, HMP1.out⟩
      case measure => simp [intOf]; omega
    · have hjn : j = n := by omega
      subst hjn
      clear hlt hj
      obtain ⟨w1, hup, hmp1, hturn⟩ := HMP.out.put (x := (t : Int)) (v := 1) (by unfold maxLen; omega) (wf64_of (by omega) (by omega)) (wf64_of (by omega) (by omega))
      rw [putP_same (by simp; omega)] at hmp1
      have HUP : Hid (_ = _) := hup
      have HB1 : Hid (Below w.heap.size w w1) := HBL.out.trans (turned_below hturn (Nat.le_refl _))
      have HMP1 : Hid (Mp (w1.alloc (.cells #[.int .i64 (t : Int)] 2)) w.heap.size (j + 1) (fun x => decide (0 ≤ x ∧ x < (j : Int))) (putM (fun _ => 0) (t : Int) 1)) := hmp1.later (later1 _ _)
      have HQ1 : Hid (Qu (w1.alloc (.cells #[.int .i64 (t : Int)] 2)) w.heap.size (.slice (some ⟨w1.heap.size, 0, none⟩) 1 1) (intsN [t])) := Qu.one w1 _ HB1.out.size (t : Int)
      have HBQ : Hid (Below w.heap.size w (w1.alloc (.cells #[.int .i64 (t : Int)] 2))) := HB1.out.trans ((later1 _ _).mono HB1.out.size)
      clear hup hmp1 hturn HMP HBL
      have HBF : Hid (Bfs (entsOf ds) j [t] 0 0 (putM (fun _ => 0) (t : Int) 1) t) := Bfs.init _ _ _ hn0
      go_wp2_with (first | (at_mapUpdate; refine wpList_mapUpdate_run rfl _ _ _ _ rfl _ _ _ rfl rfl rfl _ HUP.out ?_) | fail)
      generalize hW : w1.alloc (.cells #[.int .i64 (t : Int)] 2) = W1 at *
      clear hW HUP HB1
      go_loopg [7] j (fun gk v wr => ∃ (h : List Nat) (p : Nat) (m : Int → Int) (N : Nat), gk + p = j ∧ N ≤ j + 1 + 6 * p ∧ Bfs (entsOf ds) j h p 0 m t ∧ Qu wr w.heap.size v (intsN (h.drop p)) ∧ Mp wr w.heap.size N (fun x => decide (0 ≤ x ∧ x < (j : Int))) m ∧ Below w.heap.size w wr)
      case atStart => exact ⟨[t], 0, _, j + 1, rfl, by omega, HBF.out, HQ1.out, HMP1.out, HBQ.out⟩
      case round =>
        obtain ⟨h, p, m, N, hgk, hN, hbf, hq, hmp, hbw⟩ := hrel
        have HBFS : Hid (Bfs (entsOf ds) j h p 0 m t) := hbf
        have HMPR : Hid (Mp wr w.heap.size N (fun x => decide (0 ≤ x ∧ x < (j : Int))) m) := hmp
        have HBW : Hid (Below w.heap.size w wr) := hbw
        obtain ⟨aq, cq, hv, hcq⟩ := hq.shape
        have HQU : Hid (Qu wr w.heap.size _ (intsN (h.drop p))) := hq
        have hlen : (intsN (h.drop p)).length = h.length - p := by rw [intsN_len, List.length_drop]
        rw [hlen] at hv hcq
        subst hv
        have hpl := hbf.le
        have hhl := hbf.len
        clear hbf hq hmp hbw HBF HQ1 HMP1 HBQ
        by_cases hp : p < h.length
        · obtain ⟨q, hqe⟩ : ∃ q, h[p]?.getD 0 = q := ⟨_, rfl⟩
          have HQE : Hid (h[p]?.getD 0 = q) := hqe
          have hqin : q ∈ h := by rw [← hqe, List.getElem?_eq_getElem hp]; exact List.getElem_mem hp
          have hqj : q < j := HBFS.out.lt q hqin
          have hdrop : h.drop p = q :: h.drop (p + 1) := by
            rw [List.drop_eq_getElem_cons hp, ← hqe, List.getElem?_eq_getElem hp]; rfl
          obtain ⟨g, off, rfl, cQ⟩ := HQU.out.cell (k := 0) (by rw [hlen]; omega)
          rw [intsN_get, hdrop] at cQ
          simp only [List.getElem?_cons_zero, Option.getD_some, Nat.add_zero] at cQ
          obtain ⟨b0, o0, rfl, hI⟩ := HC.out q hqj
          obtain ⟨aB, cB, aE, cE, _, _, _, _, c4w, h5⟩ := hI
          obtain ⟨_, _, e1, hm1, _, hc1⟩ := h5.2.2.open'
          simp only [Value.slice.injEq] at e1
          obtain ⟨rfl, _, rfl⟩ := e1
          have c4 := cell_later HBW.out c4w
          have HCB : Hid (AtN w aE (ds[q]?.getD id0).2.2.2.2.length (ds[q]?.getD id0).2.2.2.2) := hc1
          have HEG : Hid (∀ k, k < (ds[q]?.getD id0).2.2.2.2.length → (entsOf ds q)[k]? = some ((ds[q]?.getD id0).2.2.2.2[k]?.getD en0).2) := fun k hk => entsOf_get hk
          have HEL : Hid ((entsOf ds q).length = (ds[q]?.getD id0).2.2.2.2.length) := entsOf_len ds q
          have hE6 : (ds[q]?.getD id0).2.2.2.2.length ≤ 6 := by have := H6.out q; rw [HEL.out] at this; exact this
          have HRQ : Hid (∀ x ∈ entsOf ds q, 0 ≤ x ∧ x < (j : Int)) := HR.out q hqj
          clear c4w h5 hc1 hm1 hqin
          generalize (ds[q]?.getD id0).2.2.2.2 = es at *
          generalize es.length = nE at *
          have hq0 : ((q : Nat) : Int) < (j : Int) := by omega
          have hpos : 0 < h.length - p := by omega
          have HHL : Hid (h.length ≤ j) := hhl
          have HGK : Hid (gk + p = j) := hgk
          have HNN : Hid (N ≤ j + 1 + 6 * p) := hN
          have HPL : Hid (p < h.length) := hp
          have hp10 : p ≤ 10 := by omega
          clear hlen hqe hdrop hhl hgk hN hp hpl
          generalize h.length - p = nq at *
          go_wp2
          clear cQ c4
          obtain ⟨wo, rfl⟩ : ∃ wo, wo = wr := ⟨_, rfl⟩
          go_loopw [7, 38] (fun v i wr2 => ∃ (k : Nat) (h2 : List Nat) (m2 : Int → Int) (N2 : Nat), k ≤ nE ∧ i = .int .i64 k ∧ N2 ≤ j + 1 + 6 * p + k ∧ p < h2.length ∧ h2[p]?.getD 0 = q ∧ Bfs (entsOf ds) j h2 p k m2 t ∧ Qu wr2 w.heap.size v (intsN (h2.drop p)) ∧ Mp wr2 w.heap.size N2 (fun x => decide (0 ≤ x ∧ x < (j : Int))) m2 ∧ Below w.heap.size w wr2) (fun _ i _ => nE - (intOf i).toNat)
          case atStart => exact ⟨0, h, m, N, Nat.zero_le _, rfl, HNN.out, HPL.out, HQE.out, HBFS.out, HQU.out, HMPR.out, HBW.out⟩
          case round =>
            obtain ⟨k, h2, m2, N2, hk, rfl, hN2, hp2, hq2, hbf2, hqu2, hmp2, hbw2⟩ := hrel
            have HN2 : Hid (N2 ≤ j + 1 + 6 * p + k) := hN2
            have HP2 : Hid (p < h2.length) := hp2
            have HQ2 : Hid (h2[p]?.getD 0 = q) := hq2
            have HBF2 : Hid (Bfs (entsOf ds) j h2 p k m2 t) := hbf2
            have HMP2 : Hid (Mp wr w.heap.size N2 (fun x => decide (0 ≤ x ∧ x < (j : Int))) m2) := hmp2
            have HBW2 : Hid (Below w.heap.size w wr) := hbw2
            obtain ⟨av, cv, hv, hcv⟩ := hqu2.shape
            have HQU2 : Hid (Qu wr w.heap.size _ (intsN (h2.drop p))) := hqu2
            have hlen2 : (intsN (h2.drop p)).length = h2.length - p := by rw [intsN_len, List.length_drop]
            rw [hlen2] at hv hcv
            have hh2 := hbf2.len
            subst hv
            clear hN2 hbf2 hqu2 hmp2 hbw2 HQU HMPR HBFS HNN HPL HQE HBW
            by_cases hlk : k < nE
            · obtain ⟨b1, o1, rfl, d0, d1⟩ := HCB.out k hlk
              replace d0 := cell_later HBW2.out d0
              replace d1 := cell_later HBW2.out d1
              have hxk := HEG.out k hlk
              have hxr := HRQ.out _ (List.mem_of_getElem? hxk)
              have HXK : Hid ((entsOf ds (h2[p]?.getD 0))[k]? = some (es[k]?.getD en0).2) := by unfold Hid; rw [HQ2.out]; exact hxk
              clear hxk hlen2 hq2 HEG
              generalize (es[k]?.getD en0).1 = nm at *
              generalize (es[k]?.getD en0).2 = x at *
              have hwx : wf64 x := wf64_of hxr.1 (by omega)
              have hbn := HBF2.out.bnd hn (by omega) x
              have hmpa : Mp (wr.alloc (.cells #[.string nm, .int .i64 x] 115)) w.heap.size N2 (fun x => decide (0 ≤ x ∧ x < (j : Int))) m2 := HMP2.out.later (later1 _ _)
              have HLK1 : Hid (_ = _) := hmpa.look hwx
              obtain ⟨wB, hup, hmpb, hturn⟩ := hmpa.put (x := x) (v := m2 x + 1) (by have := HN2.out; unfold maxLen; omega) hwx (wf64_of (by omega) (by omega))
              rw [putP_same (by simp; omega)] at hmpb
              have HUP : Hid (_ = _) := hup
              have HLK2 : Hid (_ = _) := hmpb.look hwx
              rw [putM_at] at HLK2
              have hsz2 : w.heap.size ≤ wr.heap.size := HBW2.out.size
              have ce : (wr.alloc (.cells #[.string nm, .int .i64 x] 115)).cell? ⟨wr.heap.size, 1, none⟩ = some (.int .i64 x) := by rw [new_cell]; rfl
              have hblt : w.heap.size < wr.heap.size := HMP2.out.lt
              have ceB : wB.cell? ⟨wr.heap.size, 1, none⟩ = some (.int .i64 x) := cell_turned hturn (by omega) ce
              have HQB : Hid (Qu wB w.heap.size (.slice av (h2.length - p) cv) (intsN (h2.drop p))) := (HQU2.out.later (later1 _ _)).turned hmpa hturn
              have HBB : Hid (Below w.heap.size w wB) := (HBW2.out.trans ((later1 _ _).mono hsz2)).trans (turned_below hturn (Nat.le_refl _))
              have HMB : Hid (Mp wB w.heap.size (N2 + 1) (fun x => decide (0 ≤ x ∧ x < (j : Int))) (putM m2 x (m2 x + 1))) := hmpb
              obtain ⟨mx, hmx⟩ : ∃ mx, m2 x = mx := ⟨_, rfl⟩
              have HMX : Hid (m2 x = mx) := hmx
              rw [hmx] at HLK1 HUP HLK2 hbn HMB
              clear hmpa hup hmpb hturn hmx HMP2 HBW2
              by_cases hone : mx + 1 = 1
              · have hb1 : (mx + 1 == 1) = true := by simpa using hone
                obtain ⟨v', X, hap, hqX, hbX, hkX⟩ := append_q wB w.heap.size _ _ x HQB.out HBB.out.size (by rw [intsN_len, List.length_drop]; omega)
                have HAP : Hid (_ = _) := hap
                have hxn : ((x.toNat : Nat) : Int) = x := by omega
                have HBFN : Hid (Bfs (entsOf ds) j (h2 ++ [x.toNat]) p (k + 1) (putM m2 x (mx + 1)) t) := by
                  have := HBF2.out.new HP2.out HXK.out hxr.1 hxr.2 (by rw [HMX.out]; exact hone)
                  rw [HMX.out] at this
                  exact this
                have HQX : Hid (Qu X w.heap.size v' (intsN ((h2 ++ [x.toNat]).drop p))) := by
                  unfold Hid
                  rw [List.drop_append_of_le_length (by omega)]
                  unfold intsN at hqX ⊢
                  rw [List.map_append, List.map_singleton, hxn]
                  exact hqX
                have HMX2 : Hid (Mp X w.heap.size (N2 + 1) (fun x => decide (0 ≤ x ∧ x < (j : Int))) (putM m2 x (mx + 1))) := HMB.out.keepQ hkX
                have HBX : Hid (Below w.heap.size w X) := HBB.out.trans hbX
                have HQP : Hid ((h2 ++ [x.toNat])[p]?.getD 0 = q) := by unfold Hid; rw [List.getElem?_append_left HP2.out]; exact HQ2.out
                clear hap hqX hbX hkX hone HQB HMB HBB hxn
                go_wp2_with (first
                  | (at_lookup; first | refine wpList_lookup_run rfl _ _ _ rfl _ _ rfl rfl _ HLK1.out ?_ | refine wpList_lookup_run rfl _ _ _ rfl _ _ rfl rfl _ HLK2.out ?_)
                  | (at_mapUpdate; refine wpList_mapUpdate_run rfl _ _ _ _ rfl _ _ _ rfl rfl rfl _ HUP.out ?_)
                  | refine wpList_append_run rfl _ _ _ rfl _ _ rfl rfl _ _ HAP.out ?_
                  | fail)
                go_roundw
                case rel => exact ⟨k + 1, h2 ++ [x.toNat], _, N2 + 1, by omega, by go_num, by have := HN2.out; omega, by rw [List.length_append]; have := HP2.out; omega, HQP.out, HBFN.out, HQX.out, HMX2.out, HBX.out⟩
                case measure => simp [intOf]; omega
              · have hb1 : (mx + 1 == 1) = false := by simpa using hone
                have HBFN : Hid (Bfs (entsOf ds) j h2 p (k + 1) (putM m2 x (mx + 1)) t) := by
                  have := HBF2.out.old HXK.out hxr.1 (by rw [HMX.out]; exact hone)
                  rw [HMX.out] at this
                  exact this
                clear hone
                go_wp2_with (first
                  | (at_lookup; first | refine wpList_lookup_run rfl _ _ _ rfl _ _ rfl rfl _ HLK1.out ?_ | refine wpList_lookup_run rfl _ _ _ rfl _ _ rfl rfl _ HLK2.out ?_)
                  | (at_mapUpdate; refine wpList_mapUpdate_run rfl _ _ _ _ rfl _ _ _ rfl rfl rfl _ HUP.out ?_)
                  | fail)
                go_roundw
                case rel => exact ⟨k + 1, h2, _, N2 + 1, by omega, by go_num, by have := HN2.out; omega, HP2.out, HQ2.out, HBFN.out, HQB.out, HMB.out, HBB.out⟩
                case measure => simp [intOf]; omega
            · have hke : k = nE := by omega
              have hBN : Bfs (entsOf ds) j h2 (p + 1) 0 m2 t := HBF2.out.next HP2.out (by rw [HQ2.out, HEL.out]; exact hke.symm) (by omega)
              have hd2 : h2.drop p = q :: h2.drop (p + 1) := by
                rw [List.drop_eq_getElem_cons hp2, ← hq2, List.getElem?_eq_getElem hp2]; rfl
              obtain ⟨A, C, hsl, htl⟩ := slice_tailQ av (h2.length - p) cv (by omega) hcv
              have HQT : Hid (Qu wr w.heap.size (.slice A (h2.length - p - 1) C) (intsN (h2.drop (p + 1)))) := htl wr w.heap.size (q : Int) _ (by
                have := HQU2.out
                rw [hd2] at this
                exact this)
              have HBFN : Hid (Bfs (entsOf ds) j h2 (p + 1) 0 m2 t) := hBN
              have HG2 : Hid (gk - 1 < gk ∧ gk - 1 + (p + 1) = j) := by have := HGK.out; have := HBFN.out.le; have := HBFN.out.len; unfold Hid; omega
              have HNX : Hid (N2 ≤ j + 1 + 6 * (p + 1)) := by have := HN2.out; unfold Hid; omega
              clear hBN hd2 htl hke hq2 hlen2
              go_wp2
              go_roundg (gk - 1)
              case measure => exact HG2.out.1
              case rel => exact ⟨h2, p + 1, m2, N2, HG2.out.2, HNX.out, HBFN.out, HQT.out, HMP2.out, HBW2.out⟩
        · have hpe : p = h.length := by omega
          have HD : Hid (∀ i : Nat, 0 < m (i : Int) ↔ RT (entsOf ds) t i) := fun i => HBFS.out.done hpe i
          have HNNEG : Hid (∀ x, 0 ≤ m x) := HBFS.out.nn
          obtain ⟨D, ho, ht⟩ := HMPR.out
          have HT : Hid (Tells D (fun x => decide (0 ≤ x ∧ x < (j : Int))) m) := ht
          have hz0 : h.length - p = 0 := by omega
          have hbs : w.heap.size ≤ wr.heap.size := HBW.out.size
          rw [hz0] at *
          clear ht hlen hpe hp hpl hhl hgk hN hcq HQU HBFS HMPR HC HR H6
          go_wp2_with (first
            | (at_range; refine wpList_range_own _ rfl _ 132 rfl 2 2 Tryz.keyInt Tryz.underlying132 _ w.heap.size N _ rfl ho ?_; intro w0 hrg0 hg0 hs0)
            | go_in)
          try go_frame
          have HRG0 : Hid (w0.ranges Tryz.prog 2 (plainElem Tryz.prog 2) w.heap.size wr.heap.size N D (Maps.has D) (Maps.size D)) := hrg0
          have HB0 : Hid (Below w.heap.size w w0) := HBW.out.trans (below_grown hg0 hbs (by simp))
          clear hrg0 hg0 hs0 ho
          generalize wr.heap.size = rb at *
          go_loopw [10] (fun _ wr2 => ∃ (left : Lit → Bool) (cnt : Nat) (D2 : DataW Unit), wr2.ranges Tryz.prog 2 (plainElem Tryz.prog 2) w.heap.size rb N D2 left cnt ∧ SweepT D2 (fun x => decide (0 ≤ x ∧ x < (j : Int))) m left ∧ Below w.heap.size w wr2) (fun _ wr2 => wr2.rangeLeft w.heap.size rb)
          case atStart => exact ⟨_, _, D, HRG0.out, SweepT.start HT.out, HB0.out⟩
          case round =>
            obtain ⟨left, cnt, D2, hrg, hsw, hbw⟩ := hrel
            have HSW : Hid (SweepT D2 (fun x => decide (0 ≤ x ∧ x < (j : Int))) m left) := hsw
            have HB2 : Hid (Below w.heap.size w wr) := hbw
            clear hsw hbw HRG0 HT HB0 HBW
            have hsz := HB2.out.size
            go_wp2_with (first
              | (at_next; refine wpList_next_ranges_ii _ rfl _ rfl 2 2 .i64 .i64 Tryz.keyInt Tryz.underlying2 Tryz.underlying2 w.heap.size rb N _ _ _ rfl hrg ?_ ?_)
              | go_in)
            · intro _ hl0
              have HTL := HSW.out.done hl0
              have HMF : Hid (Mp wr w.heap.size N (fun x => decide (0 ≤ x ∧ x < (j : Int)) && !decide (m x = 0)) m) := ⟨D2, hrg.owns, HTL⟩
              clear HTL hl0 hrg
              go_wp2
              go_ret
              exact ⟨_, _, m, rfl, HB2.out, Nat.le_refl _, HMF.out, HD.out, HNNEG.out⟩
            · intro x c w1 cnt1 hwx hwc hlx hat hrg1 hlt hg1 hs1 hen
              have HB1 : Hid (Below w.heap.size w w1) := HB2.out.trans (below_grown hg1 hsz (fun k hk => by cases hk; exact hbs))
              go_wp2_with (first
                | (at_delete; refine wpList_delete_ranges _ rfl _ _ 132 2 rfl 2 Tryz.keyInt Tryz.underlying132 _ w.heap.size rb N _ _ _ rfl hrg1 _ _ rfl (keyOf_int_mk Tryz.underlying2 hwx) ?_; intro w2 cnt2 hrg2 hle hturn; go_frame)
                | go_in)
              · have hc0 : c = 0 := by simpa using (by assumption : (c == 0) = true)
                subst hc0
                rw [strike_twice] at hrg2
                go_roundw
                case rel => exact ⟨_, cnt2, _, hrg2, HSW.out.struck hwx hat, HB1.out.trans (turned_below hturn (Nat.le_refl _))⟩
                case measure => rw [hrg2.left_eq, hrg.left_eq]; omega
              · have hc0 : ¬ c = 0 := by simpa using (by assumption : (c == 0) = false)
                go_roundw
                case rel => exact ⟨_, cnt1, _, hrg1, HSW.out.stays hwx hat hc0, HB1.out⟩
                case measure => rw [hrg1.left_eq, hrg.left_eq]; exact hlt
theorem reachFrom_any (w : World) (a : Option Addr) (n c : Nat) (ds : List ID) (hdn : ds.length = n) (hn0 : 0 < n) (hn : n ≤ 10) (hc : AtI w a n ds) (hr : inRange ds) (h6 : ∀ i, (entsOf ds i).length ≤ 6) :
    Calls Tryz.prog 107 #[.slice a n c, .int .i64 0] w fun e w' => ∃ b N m, e = .returned (.map (some b)) ∧ Below w.heap.size w w' ∧ w.heap.size ≤ b ∧ Mp w' b N (fun x => decide (0 ≤ x ∧ x < (n : Int)) && !decide (m x = 0)) m ∧ (∀ i : Nat, 0 < m (i : Int) ↔ RP (entsOf ds) i) ∧ ∀ x, 0 ≤ m x :=
  reachFrom_top w a n c 0 ds hdn hn0 hn hc hr h6
end Go.Proofs.YtjabimfinanjoaaGreat
