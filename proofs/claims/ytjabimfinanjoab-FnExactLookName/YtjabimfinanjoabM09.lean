/- A queue: words that grow by append and are gone through from the front. What can be reached: rounds over all inodes, and the way from one to the next, come to the same. Maps from int64 to int64 that the call made: what they tell of a key. The program: what is reached, in a map. The program's PickBlocks and FreeInode. The program's PackInode. PackInode, and answers that are words, in the one form of the laws. Kerns: how they read, what they own, and the walks of the laws' functions over them. Answers with a kern: how they read, what they own, and the walks of the laws' functions over them. What the laws of chapter 5 ask: how long the answers are. The program's LinksOf. The program: links and places. The program: how many bytes each block has to hold; what is wrong of a file system. The bytes of a place, whatever is there. -/
import Derived.Test.YtjabimfinanjoabM03
import Derived.Test.YtjabimfinanjoabM08
import Derived.Test.YtjabimfinanjoabM06
import Derived.Maps.RangeWalk
import Derived.Maps.OwnOps
import Derived.Maps.Views
import Derived.Deep.LoopGhost
import Derived.Test.YtjabimfinanjoabM02
import Derived.Deep.RegionHeld3
import Derived.Test.YtjabimfinanjoabM07
namespace Go.Proofs.Ytjabimfinanjoab
open Go.RowKit
set_option maxRecDepth 100000

def Qu (w : World) (n₀ : Nat) (v : Value) (zs : List Int) : Prop :=
  ∃ g off cap cur, v = .slice (some ⟨g, off, none⟩) zs.length cap ∧ n₀ ≤ g ∧ w.heap[g]? = some (.cells cur 2 (0, 0)) ∧ zs.length ≤ cap ∧ cap ≤ maxLen ∧ off + cap ≤ cur.size ∧ ∀ k, k < zs.length → cur[off + k]? = some (.int .i64 (zs[k]?.getD 0))
theorem Qu.keep {w w' : World} {n₀ : Nat} {v : Value} {zs : List Int} (h : Qu w n₀ v zs) (e : ∀ b c f, n₀ ≤ b → w.heap[b]? = some (.cells c 2 f) → w'.heap[b]? = w.heap[b]?) : Qu w' n₀ v zs := by
  obtain ⟨g, off, cap, cur, h1, h2, h3, h4⟩ := h
  exact ⟨g, off, cap, cur, h1, h2, (e g _ _ h2 h3).trans h3, h4⟩
theorem Qu.later {w w' : World} {n₀ : Nat} {v : Value} {zs : List Int} (h : Qu w n₀ v zs) (hb : Below w.heap.size w w') : Qu w' n₀ v zs := h.keep fun b _ _ _ hc => hb.block b (Array.getElem?_eq_some_iff.1 hc).1
theorem Qu.shape {w : World} {n₀ : Nat} {v : Value} {zs : List Int} (h : Qu w n₀ v zs) : ∃ a c, v = .slice a zs.length c ∧ zs.length ≤ c := by
  obtain ⟨g, off, cap, cur, rfl, _, _, h4, _⟩ := h
  exact ⟨_, _, rfl, h4⟩
theorem Qu.one (w : World) (n₀ : Nat) (hn : n₀ ≤ w.heap.size) (x : Int) : Qu (w.alloc (.cells #[.int .i64 x] 2)) n₀ (.slice (some ⟨w.heap.size, 0, none⟩) 1 1) [x] :=
  ⟨w.heap.size, 0, 1, #[.int .i64 x], rfl, hn, Go.Deep.blk_alloc_new _ _, by simp, by unfold maxLen; omega, by simp, fun k hk => by
    have : k = 0 := by simp at hk; exact hk
    subst this; rfl⟩
theorem Qu.cell {w : World} {n₀ : Nat} {a : Option Addr} {n c : Nat} {zs : List Int} (h : Qu w n₀ (.slice a n c) zs) {k : Nat} (hk : k < zs.length) : ∃ g off, a = some ⟨g, off, none⟩ ∧ w.cell? ⟨g, off + k, none⟩ = some (.int .i64 (zs[k]?.getD 0)) := by
  obtain ⟨g, off, cap, cur, e, _, h3, _, _, _, h6⟩ := h
  simp only [Value.slice.injEq] at e
  refine ⟨g, off, e.1, ?_⟩
  have := h6 k hk
  simp [World.cell?, h3, this]
theorem slice_tailQ (a : Option Addr) (n c : Nat) (hl : 1 ≤ n) (hc : n ≤ c) :
    ∃ A C, (∀ W : World, (Instr.slice 42 (.slice a n c) (some (.int .i64 1)) none none).run Try.prog W = .ok (.slice A (n - 1) C) W) ∧ ∀ (W : World) (n₀ : Nat) (z : Int) (zs : List Int), Qu W n₀ (.slice a n c) (z :: zs) → Qu W n₀ (.slice A (n - 1) C) zs := by
  obtain ⟨i, hi, _, h2, _⟩ := Try.infoInt'
  refine ⟨if c = 1 then a else a.map (·.add 1), c - 1, fun W => ?_, fun W n₀ z zs h => ?_⟩
  · simp [Instr.slice, Instr.sliceBounds, Instr.sliceBound, asIntOf, run_underlying Try.underlying42, sizeOf, typeInfo, hi, h2]
    intro hlt
    omega
  · obtain ⟨g, off, cap, cur, e, h1, h3, h4, h5, h6, h7⟩ := h
    simp only [Value.slice.injEq, List.length_cons] at e
    obtain ⟨rfl, rfl, rfl⟩ := e
    simp only [List.length_cons] at h4 h7
    by_cases hcl : c = 1
    · have hz : zs = [] := List.eq_nil_of_length_eq_zero (by omega)
      subst hz
      rw [if_pos hcl]
      exact ⟨g, off, c - 1, cur, by simp, h1, h3, by simp, by omega, by omega, fun k hk => by simp at hk⟩
    · rw [if_neg hcl]
      refine ⟨g, off + 1, c - 1, cur, by simp [add_plain'], h1, h3, by omega, by omega, by omega, fun k hk => ?_⟩
      have := h7 (k + 1) (by omega)
      rw [show off + 1 + k = off + (k + 1) by omega, this]
      simp
/-- Blocks that hold no words stand as they did. -/
def KeepQ (w w' : World) : Prop := ∀ (b : Nat) (o : Obj), w.heap[b]? = some o → (∀ c f, o ≠ .cells c 2 f) → w'.heap[b]? = some o
theorem append_q (w : World) (n₀ : Nat) (v : Value) (zs : List Int) (x : Int) (hq : Qu w n₀ v zs) (hn₀ : n₀ ≤ w.heap.size) (hz : zs.length ≤ 1000) :
    ∃ v' X, (Builtin.append_ #[42, 42] 42 #[v, .slice (some ⟨w.heap.size, 0, none⟩) 1 1]).run Try.prog (w.alloc (.cells #[.int .i64 x] 2)) = .ok v' X ∧ Qu X n₀ v' (zs ++ [x]) ∧ Below n₀ w X ∧ KeepQ w X := by
  obtain ⟨i, hi, h1, h2, h3⟩ := Try.infoInt'
  have hq' := hq.later (later1 w (.cells #[.int .i64 x] 2))
  have hBW : Below n₀ w (w.alloc (.cells #[.int .i64 x] 2)) := (later1 w _).mono hn₀
  have hKW : KeepQ w (w.alloc (.cells #[.int .i64 x] 2)) := fun b o hb _ => ((later1 w _).block b (Array.getElem?_eq_some_iff.1 hb).1).trans hb
  have hcell : (w.alloc (.cells #[.int .i64 x] 2)).cell? ⟨w.heap.size, 0, none⟩ = some (.int .i64 x) := by rw [new_cell]; rfl
  have hsz : n₀ ≤ (w.alloc (.cells #[.int .i64 x] 2)).heap.size := by simp; omega
  generalize hW : w.alloc (.cells #[.int .i64 x] 2) = W at *
  clear hW
  obtain ⟨g, off, cap, cur, rfl, hg0, hg, hnc, hcm, hoc, hrd⟩ := hq'
  have hglt : g < W.heap.size := (Array.getElem?_eq_some_iff.1 hg).1
  have hnews : ∀ j u, ([.int .i64 x] : List Value)[j]? = some u → W.cell? ((⟨w.heap.size, 0, none⟩ : Addr).add j) = some u := fun j u hu => by
    match j, hu with
    | 0, hu => simp at hu; subst hu; rw [add_plain']; exact hcell
    | j + 1, hu => simp at hu
  by_cases hroom : zs.length + 1 ≤ cap
  · have hf := run_firstCells_some (P := Try.prog) W i.size 1 ⟨w.heap.size, 0, none⟩ 1 1 [.int .i64 x] (by simp [h2]) hnews
    rw [h2] at hf
    have hst := run_storeCells_at Try.prog g (off + zs.length) 2 [.int .i64 x] 0 cur W hg (by simp; omega) (by simp [Value.oneCell'])
    simp only [Nat.add_zero, List.length_cons, List.length_nil, Nat.zero_add] at hst
    refine ⟨.slice (some ⟨g, off, none⟩) (zs.length + 1) cap, W.setRow g (cur.toList.take (off + zs.length) ++ [Value.int .i64 x] ++ cur.toList.drop (off + zs.length + 1)).toArray, ?_, ?_, hBW.trans ?_, ?_⟩
    · simp [Builtin.append_, run_underlying Try.underlying42, sizeOf, typeInfo, hi, h2, Builtin.lenOf, hroom, hf, add_plain', hst]
    · refine ⟨g, off, cap, _, by simp, hg0, setRow_heap W g cur _ 2 _ hg, by simp; omega, hcm, ?_, fun k hk => ?_⟩
      · simp only [List.size_toArray, List.length_append, List.length_take, List.length_drop, Array.length_toList, List.length_cons, List.length_nil]
        omega
      · simp only [List.length_append, List.length_cons, List.length_nil] at hk
        have hlt : (cur.toList.take (off + zs.length)).length = off + zs.length := by rw [List.length_take]; simp; omega
        rw [List.getElem?_toArray, List.append_assoc]
        by_cases hkz : k < zs.length
        · rw [List.getElem?_append_left (by rw [hlt]; omega), List.getElem?_take, if_pos (by omega), List.getElem?_append_left hkz, Array.getElem?_toList]
          exact hrd k hkz
        · have : k = zs.length := by omega
          subst this
          rw [List.getElem?_append_right (by rw [hlt]; omega), hlt, Nat.sub_self]
          simp
    · refine ⟨rfl, rfl, rfl, by simp, fun b hb => setRow_other W g b _ (by omega)⟩
    · intro b o hb ho
      have hb' := hKW b o hb ho
      by_cases e : b = g
      · subst e
        rw [hg] at hb'
        simp only [Option.some.injEq] at hb'
        exact absurd hb'.symm (ho _ _)
      · rw [← hb']; exact setRow_other W g b _ e
  · have hr := run_append_grow (P := Try.prog) W 42 42 2 i (.int .i64 0) Try.underlying42 hi h1 ⟨g, off, none⟩ zs.length cap (zs.map intV) (by simp [h2]) (fun j u hu => by
      rw [List.getElem?_map, Option.map_eq_some_iff] at hu
      obtain ⟨z, hz1, rfl⟩ := hu
      have hj : j < zs.length := (List.getElem?_eq_some_iff.1 hz1).1
      have := hrd j hj
      rw [hz1, Option.getD_some] at this
      rw [add_plain']
      simp [World.cell?, hg, this, intV]) ⟨w.heap.size, 0, none⟩ 1 1 [.int .i64 x] (by simp [h2]) hnews (by omega) (by omega) (growslice_fits (by omega) (by rw [h3]; omega))
    have hge := grownCap_ge W (zs.length + 1) cap 2
    have hcm' := grownCap_le_maxLen W (zs.length + 1) cap 2 (by unfold maxLen; omega)
    have hBX : ∀ o, Below W.heap.size W (W.drew.alloc o) := fun o => ⟨rfl, rfl, rfl, by simp, fun b hb => (later1 W.drew o).block b hb⟩
    refine ⟨_, _, hr, ?_, hBW.trans ((hBX _).mono hsz), fun b o hb ho => ?_⟩
    · refine ⟨W.heap.size, 0, _, _, by simp, hsz, Go.Deep.blk_alloc_new _ _, by simp; omega, hcm', ?_, fun k hk => ?_⟩
      · simp only [Array.size_append, List.size_toArray, size_zeroCells, List.length_map, List.length_cons, List.length_nil, Value.cells]
        simp
        omega
      · simp only [List.length_append, List.length_cons, List.length_nil] at hk
        rw [Nat.zero_add, Array.getElem?_append_left (by simp; omega)]
        by_cases hkz : k < zs.length
        · rw [Array.getElem?_append_left (by simpa using hkz), List.getElem?_append_left hkz]
          simp [List.getElem?_eq_getElem hkz, intV]
        · have : k = zs.length := by omega
          subst this
          rw [Array.getElem?_append_right (by simp)]
          simp
    · rw [(hBX _).block b (Array.getElem?_eq_some_iff.1 (hKW b o hb ho)).1]
      exact hKW b o hb ho
end Go.Proofs.Ytjabimfinanjoab

namespace Go.Proofs.Ytjabimfinanjoab
open Go.RowKit
set_option maxRecDepth 100000

/-- What can be reached from a place; from the top. -/
inductive RT (E : Nat → List Int) (t : Nat) : Nat → Prop
  | zero : RT E t t
  | step {i : Nat} {x : Int} : RT E t i → x ∈ E i → RT E t x.toNat
abbrev RP (E : Nat → List Int) : Nat → Prop := RT E 0
def entsOf (ds : List ID) (i : Nat) : List Int := entI (ds[i]?.getD id0).2.2.2.2

theorem foldB_sound {Q : Nat → Prop} : ∀ (xs : List Int) {g : Nat → Bool}, (∀ i, g i = true → Q i) → (∀ x ∈ xs, Q x.toNat) → ∀ i, (xs.foldl setB g) i = true → Q i
  | [], _, hg, _, i, h => hg i h
  | x :: xs, g, hg, hx, i, h => foldB_sound xs (g := setB g x) (fun j hj => by
      unfold setB at hj
      by_cases e : j = x.toNat
      · rw [e]; exact hx x (by simp)
      · rw [if_neg e] at hj; exact hg j hj) (fun y hy => hx y (by simp [hy])) i h
theorem foldB_has : ∀ (xs : List Int) {g : Nat → Bool} {x : Int}, x ∈ xs → (xs.foldl setB g) x.toNat = true
  | y :: xs, g, x, h => by
    rcases List.mem_cons.1 h with rfl | h
    · exact foldB_mono xs (by simp [setB])
    · exact foldB_has xs h
theorem inoB_mono {ds : List ID} {g : Nat → Bool} {i j : Nat} (h : g i = true) : inoB ds g j i = true := by
  unfold inoB
  split
  · exact foldB_mono _ h
  · exact h
theorem sweepB_mono {ds : List ID} {g : Nat → Bool} {i : Nat} (h : g i = true) : ∀ j, sweepB ds g j i = true
  | 0 => h
  | j + 1 => inoB_mono (sweepB_mono h j)
theorem sweepB_later {ds : List ID} {g : Nat → Bool} {i j : Nat} (h : sweepB ds g j i = true) : ∀ k, sweepB ds g (j + k) i = true
  | 0 => h
  | k + 1 => inoB_mono (sweepB_later h k)
theorem sweepB_sound {ds : List ID} {g : Nat → Bool} (hg : ∀ i, g i = true → RP (entsOf ds) i) : ∀ j i, sweepB ds g j i = true → RP (entsOf ds) i
  | 0, i, h => hg i h
  | j + 1, i, h => by
    have h' : inoB ds (sweepB ds g j) j i = true := h
    unfold inoB at h'
    by_cases e : sweepB ds g j j = true
    · rw [if_pos e] at h'
      exact foldB_sound _ (sweepB_sound hg j) (fun x hx => .step (sweepB_sound hg j j e) hx) i h'
    · rw [if_neg e] at h'
      exact sweepB_sound hg j i h'
theorem sweepB_step {ds : List ID} {g : Nat → Bool} {i n : Nat} {x : Int} (hi : i < n) (hg : g i = true) (hx : x ∈ entsOf ds i) : sweepB ds g n x.toNat = true := by
  have h1 : sweepB ds g (i + 1) x.toNat = true := by
    show inoB ds (sweepB ds g i) i x.toNat = true
    unfold inoB
    rw [if_pos (sweepB_mono hg i)]
    exact foldB_has _ hx
  have h2 := sweepB_later h1 (n - (i + 1))
  rwa [show i + 1 + (n - (i + 1)) = n by omega] at h2
theorem reachG_sound {ds : List ID} : ∀ r i, reachG ds r i = true → RP (entsOf ds) i
  | 0, i, h => by
    have : i = 0 := by simpa [reachG] using h
    rw [this]; exact .zero
  | r + 1, i, h => sweepB_sound (reachG_sound r) _ i h
theorem reachG_mono {ds : List ID} {i r : Nat} (h : reachG ds r i = true) : ∀ k, reachG ds (r + k) i = true
  | 0 => h
  | k + 1 => sweepB_mono (reachG_mono h k) _
def cntG (g : Nat → Bool) : Nat → Nat
  | 0 => 0
  | n + 1 => cntG g n + if g n = true then 1 else 0
theorem cntG_le (g : Nat → Bool) : ∀ n, cntG g n ≤ n
  | 0 => Nat.le_refl _
  | n + 1 => by have := cntG_le g n; unfold cntG; split <;> omega
theorem cntG_mono {g g' : Nat → Bool} (h : ∀ i, g i = true → g' i = true) : ∀ n, cntG g n ≤ cntG g' n
  | 0 => Nat.le_refl _
  | n + 1 => by
    have := cntG_mono h n
    unfold cntG
    by_cases e : g n = true
    · rw [if_pos e, if_pos (h n e)]; omega
    · rw [if_neg e]; split <;> omega
theorem cntG_lt {g g' : Nat → Bool} (h : ∀ i, g i = true → g' i = true) {j : Nat} (h1 : g' j = true) (h0 : ¬ g j = true) : ∀ n, j < n → cntG g n < cntG g' n
  | n + 1, hj => by
    unfold cntG
    by_cases e : j = n
    · subst e
      have := cntG_mono h j
      rw [if_neg h0, if_pos h1]; omega
    · have := cntG_lt h h1 h0 n (by omega)
      by_cases e2 : g n = true
      · rw [if_pos e2, if_pos (h n e2)]; omega
      · rw [if_neg e2]; split <;> omega
def closedB (ds : List ID) (g : Nat → Bool) : Prop := ∀ i, i < ds.length → g i = true → ∀ x ∈ entsOf ds i, x.toNat < ds.length → g x.toNat = true
theorem reachG_closes (ds : List ID) (h0 : 0 < ds.length) : ∀ r, (∃ q, q ≤ r ∧ closedB ds (reachG ds q)) ∨ r + 1 ≤ cntG (reachG ds r) ds.length
  | 0 => by
    right
    have := cntG_lt (g := fun _ => false) (g' := reachG ds 0) (by simp) (j := 0) (by simp [reachG]) (by simp) ds.length h0
    omega
  | r + 1 => by
    rcases reachG_closes ds h0 r with ⟨q, hq, hc⟩ | h
    · exact Or.inl ⟨q, by omega, hc⟩
    · by_cases hc : closedB ds (reachG ds r)
      · exact Or.inl ⟨r, by omega, hc⟩
      · right
        have hm : ∀ i, reachG ds r i = true → reachG ds (r + 1) i = true := fun i hi => reachG_mono hi 1
        have : ∃ j, j < ds.length ∧ reachG ds (r + 1) j = true ∧ ¬ reachG ds r j = true := by
          apply Classical.byContradiction
          intro hno
          apply hc
          intro i hi hg x hx hxl
          apply Classical.byContradiction
          intro hn
          exact hno ⟨x.toNat, hxl, sweepB_step hi hg hx, hn⟩
        obtain ⟨j, hj, h1, h2⟩ := this
        have := cntG_lt hm h1 h2 ds.length hj
        omega
def inRange (ds : List ID) : Prop := ∀ i, i < ds.length → ∀ x ∈ entsOf ds i, 0 ≤ x ∧ x < (ds.length : Int)
theorem RT.lt {ds : List ID} {t : Nat} (hr : inRange ds) (h0 : t < ds.length) {i : Nat} (h : RT (entsOf ds) t i) : i < ds.length := by
  induction h with
  | zero => exact h0
  | step _ hx ih => have := hr _ ih _ hx; omega
/-- After as many rounds as there are inodes just what can be reached is marked. -/
theorem reachG_iff {ds : List ID} (hr : inRange ds) (h0 : 0 < ds.length) (i : Nat) : reachG ds ds.length i = true ↔ RP (entsOf ds) i := by
  refine ⟨reachG_sound _ i, fun h => ?_⟩
  rcases reachG_closes ds h0 ds.length with ⟨q, hq, hc⟩ | hbig
  · have key : reachG ds q i = true := by
      induction h with
      | zero => have := reachG_mono (ds := ds) (i := 0) (r := 0) (by simp [reachG]) q; rwa [Nat.zero_add] at this
      | step hp hx ih => exact hc _ (hp.lt hr h0) ih _ hx (by have := hr _ (hp.lt hr h0) _ hx; omega)
    have := reachG_mono key (ds.length - q)
    rwa [show q + (ds.length - q) = ds.length by omega] at this
  · have := cntG_le (reachG ds ds.length) ds.length
    omega

theorem nodup_len : ∀ (n : Nat) (h : List Nat), h.Nodup → (∀ i ∈ h, i < n) → h.length ≤ n
  | 0, h, _, hl => by
    match h, hl with
    | [], _ => simp
    | a :: _, hl => exact absurd (hl a (by simp)) (by omega)
  | n + 1, h, hd, hl => by
    have h1 := nodup_len n (h.erase n) (hd.erase n) (fun i hi => by
      have hne := (hd.mem_erase_iff.1 hi).1
      have := hl i (List.mem_of_mem_erase hi)
      omega)
    rw [List.length_erase] at h1
    split at h1 <;> omega

/-- The program's way: h is what was met, in that order; p of it are done, and k entries of the next one; m is how often each was met. -/
structure Bfs (E : Nat → List Int) (n : Nat) (h : List Nat) (p k : Nat) (m : Int → Int) (t : Nat) : Prop where
  nd : h.Nodup
  lt : ∀ i ∈ h, i < n
  rp : ∀ i ∈ h, RT E t i
  top : t ∈ h
  le : p ≤ h.length
  pos : ∀ i : Nat, 0 < m (i : Int) ↔ i ∈ h
  nn : ∀ x, 0 ≤ m x
  clo : ∀ q, q < p → ∀ x ∈ E (h[q]?.getD 0), x.toNat ∈ h
  cur : ∀ x ∈ (E (h[p]?.getD 0)).take k, x.toNat ∈ h
  bd : ∀ x, m x ≤ 1 + 6 * p + k
def putM (m : Int → Int) (x v : Int) : Int → Int := fun y => if y = x then v else m y
theorem Bfs.init (E : Nat → List Int) (n t : Nat) (hn : t < n) : Bfs E n [t] 0 0 (putM (fun _ => 0) (t : Int) 1) t where
  nd := by simp
  lt := by simpa using hn
  rp := by intro i hi; rw [List.mem_singleton.1 hi]; exact .zero
  top := by simp
  le := by simp
  pos := fun i => by
    unfold putM
    by_cases e : (i : Int) = (t : Int)
    · rw [if_pos e]
      have : i = t := by omega
      simp [this]
    · rw [if_neg e]
      simp; omega
  nn := fun x => by unfold putM; by_cases e : x = (t : Int) <;> simp [e]
  clo := fun q hq => by omega
  cur := by simp
  bd := fun x => by unfold putM; by_cases e : x = (t : Int) <;> simp [e]
theorem Bfs.len {E : Nat → List Int} {n : Nat} {h : List Nat} {p k : Nat} {m : Int → Int} {t : Nat} (b : Bfs E n h p k m t) : h.length ≤ n := nodup_len n h b.nd b.lt
theorem Bfs.bnd {E : Nat → List Int} {n : Nat} {h : List Nat} {p k : Nat} {m : Int → Int} {t : Nat} (b : Bfs E n h p k m t) (hn : n ≤ 10) (hk : k ≤ 6) (x : Int) : 0 ≤ m x ∧ m x ≤ 67 := by
  have h1 := b.bd x
  have h2 := b.len
  have h3 := b.le
  exact ⟨b.nn x, by omega⟩
theorem take_mem_succ {α : Type} {l : List α} {k : Nat} {a x : α} (hk : l[k]? = some a) (hx : x ∈ l.take (k + 1)) : x ∈ l.take k ∨ x = a := by
  have hlt := (List.getElem?_eq_some_iff.1 hk).1
  rw [List.take_succ_eq_append_getElem hlt] at hx
  rcases List.mem_append.1 hx with h | h
  · exact Or.inl h
  · right
    rw [List.mem_singleton.1 h]
    exact (List.getElem?_eq_some_iff.1 hk).2
theorem Bfs.old {E : Nat → List Int} {n : Nat} {h : List Nat} {p k : Nat} {m : Int → Int} {t : Nat} (b : Bfs E n h p k m t) {x : Int} (hx : (E (h[p]?.getD 0))[k]? = some x) (hx0 : 0 ≤ x) (hm : ¬ m x + 1 = 1) : Bfs E n h p (k + 1) (putM m x (m x + 1)) t := by
  have hmx := b.nn x
  have hxn : ((x.toNat : Nat) : Int) = x := by omega
  have hin : x.toNat ∈ h := (b.pos x.toNat).1 (by rw [hxn]; omega)
  refine ⟨b.nd, b.lt, b.rp, b.top, b.le, fun i => ?_, fun y => ?_, b.clo, fun y hy => ?_, fun y => ?_⟩
  · unfold putM
    by_cases e : (i : Int) = x
    · rw [if_pos e]
      have : i = x.toNat := by omega
      subst this
      exact ⟨fun _ => hin, fun _ => by omega⟩
    · rw [if_neg e]; exact b.pos i
  · unfold putM; split
    · omega
    · exact b.nn y
  · rcases take_mem_succ hx hy with hy | rfl
    · exact b.cur y hy
    · exact hin
  · have h1 := b.bd y
    have h2 := b.bd x
    unfold putM; split <;> omega
theorem Bfs.new {E : Nat → List Int} {n : Nat} {h : List Nat} {p k : Nat} {m : Int → Int} {t : Nat} (b : Bfs E n h p k m t) (hp : p < h.length) {x : Int} (hx : (E (h[p]?.getD 0))[k]? = some x) (hx0 : 0 ≤ x) (hxn : x < (n : Int)) (hm : m x + 1 = 1) : Bfs E n (h ++ [x.toNat]) p (k + 1) (putM m x (m x + 1)) t := by
  have hxe : ((x.toNat : Nat) : Int) = x := by omega
  have hni : ¬ x.toNat ∈ h := fun hin => by have := (b.pos x.toNat).2 hin; rw [hxe] at this; omega
  have hget : ∀ q, q < h.length → (h ++ [x.toNat])[q]?.getD 0 = h[q]?.getD 0 := fun q hq => by rw [List.getElem?_append_left hq]
  have hpin : h[p]?.getD 0 ∈ h := by rw [List.getElem?_eq_getElem hp]; exact List.getElem_mem hp
  have hle := b.le
  refine ⟨?_, fun i hi => ?_, fun i hi => ?_, by simp [b.top], by simp; omega, fun i => ?_, fun y => ?_, fun q hq y hy => ?_, fun y hy => ?_, fun y => ?_⟩
  · rw [List.nodup_append]
    exact ⟨b.nd, by simp, fun a ha c hc => by rw [List.mem_singleton.1 hc]; intro e; exact hni (e ▸ ha)⟩
  · rcases List.mem_append.1 hi with hi | hi
    · exact b.lt i hi
    · rw [List.mem_singleton.1 hi]; omega
  · rcases List.mem_append.1 hi with hi | hi
    · exact b.rp i hi
    · rw [List.mem_singleton.1 hi]
      exact .step (b.rp _ hpin) (List.mem_of_getElem? hx)
  · unfold putM
    by_cases e : (i : Int) = x
    · rw [if_pos e]
      have : i = x.toNat := by omega
      subst this
      simp; omega
    · rw [if_neg e, b.pos i]
      simp; intro e2; exact absurd (by omega) e
  · unfold putM; split
    · omega
    · exact b.nn y
  · rw [hget q (by omega)] at hy
    exact List.mem_append_left _ (b.clo q hq y hy)
  · rw [hget p hp] at hy
    rcases take_mem_succ hx hy with hy | rfl
    · exact List.mem_append_left _ (b.cur y hy)
    · simp
  · have h1 := b.bd y
    have h2 := b.bd x
    unfold putM; split <;> omega
theorem Bfs.next {E : Nat → List Int} {n : Nat} {h : List Nat} {p k : Nat} {m : Int → Int} {t : Nat} (b : Bfs E n h p k m t) (hp : p < h.length) (hk : (E (h[p]?.getD 0)).length = k) (hk6 : k ≤ 6) : Bfs E n h (p + 1) 0 m t := by
  refine ⟨b.nd, b.lt, b.rp, b.top, hp, b.pos, b.nn, fun q hq x hx => ?_, by simp, fun x => by have := b.bd x; omega⟩
  by_cases e : q = p
  · subst e
    exact b.cur x (by rw [List.take_of_length_le (by omega)]; exact hx)
  · exact b.clo q (by omega) x hx
theorem Bfs.done {E : Nat → List Int} {n : Nat} {h : List Nat} {p k : Nat} {m : Int → Int} {t : Nat} (b : Bfs E n h p k m t) (hp : p = h.length) (i : Nat) : 0 < m (i : Int) ↔ RT E t i := by
  rw [b.pos i]
  refine ⟨b.rp i, fun hr => ?_⟩
  induction hr with
  | zero => exact b.top
  | @step j x _ hx ih =>
    obtain ⟨q, hq, he⟩ := List.getElem_of_mem ih
    refine b.clo q (by omega) x ?_
    rw [List.getElem?_eq_getElem hq, Option.getD_some, he]
    exact hx
end Go.Proofs.Ytjabimfinanjoab

namespace Go.Proofs.Ytjabimfinanjoab
open Go.RowKit Go.Maps
set_option maxRecDepth 100000

theorem Try.keyInt : Keyed Try.prog 2 := int_keyed Try.underlying2
theorem Try.zeroInt (w : World) : (zeroValue 2).run Try.prog w = .ok (.int .i64 0) w := by
  obtain ⟨i, hi, h1, _⟩ := Try.infoInt'
  simp [zeroValue, typeInfo, hi, h1]
abbrev wf64 (x : Int) : Prop := (Lit.int .i64 x).wf = true
theorem wf64_of {x : Int} (h0 : 0 ≤ x) (h1 : x ≤ 1000000) : wf64 x := by
  have h3 : IntKind.i64.min = -9223372036854775808 := by decide
  have h4 : IntKind.i64.max = 9223372036854775807 := by decide
  simp only [wf64, Lit.wf, h3, h4]
  simp
  omega
/-- Which keys a map has, and what it tells of each. -/
structure Tells (D : DataW Unit) (p : Int → Bool) (m : Int → Int) : Prop where
  val : ∀ x, wf64 x → D.atKey (.int .i64 x) (.lit (.int .i64 0)) = .lit (.int .i64 (m x))
  has : ∀ x, wf64 x → Maps.has D (.int .i64 x) = p x
def Mp (w : World) (b n : Nat) (p : Int → Bool) (m : Int → Int) : Prop := ∃ D : DataW Unit, w.ownsMap Try.prog 2 (plainElem Try.prog 2) b n D ∧ Tells D p m
theorem Mp.made (w : World) : Mp (w.alloc (.map #[] 0)) w.heap.size 0 (fun _ => false) (fun _ => 0) :=
  ⟨.map [], World.ownsMap_made w Try.prog 2 _, fun _ _ => rfl, fun _ _ => rfl⟩
theorem Mp.lt {w : World} {b n : Nat} {p : Int → Bool} {m : Int → Int} (h : Mp w b n p m) : b < w.heap.size := by
  obtain ⟨D, h, _⟩ := h
  exact h.lt
theorem Mp.keep {w w' : World} {b n : Nat} {p : Int → Bool} {m : Int → Int} (h : Mp w b n p m) (e : w'.heap[b]? = w.heap[b]?) : Mp w' b n p m := by
  obtain ⟨D, ⟨es, clock, hb, r⟩, ht⟩ := h
  exact ⟨D, ⟨es, clock, e.trans hb, r⟩, ht⟩
theorem Mp.later {w w' : World} {b n : Nat} {p : Int → Bool} {m : Int → Int} (h : Mp w b n p m) (hb : Below w.heap.size w w') : Mp w' b n p m := h.keep (hb.block b h.lt)
theorem Mp.drewN {w : World} {b n : Nat} {p : Int → Bool} {m : Int → Int} (h : Mp w b n p m) (q : Nat) : Mp (w.drewN q) b n p m := h.later (below_drewN (Below.refl _ _) q)
theorem Mp.keepQ {w w' : World} {b n : Nat} {p : Int → Bool} {m : Int → Int} (h : Mp w b n p m) (hk : KeepQ w w') : Mp w' b n p m := by
  have h0 := h
  obtain ⟨D, ⟨es, clock, hb, r⟩, ht⟩ := h
  exact h0.keep ((hk b _ hb (by intros; simp)).trans hb.symm)
def putP (p : Int → Bool) (x : Int) : Int → Bool := fun y => if y = x then true else p y
theorem turned_block {w w' : World} {b : Nat} (h : w.mapTurned w' b) (k : Nat) (hk : k ≠ b) : w'.heap[k]? = w.heap[k]? := by
  by_cases hlt : k < w.heap.size
  · exact h.grown.block k hlt (by simpa using hk)
  · obtain ⟨es, c, es', c', hb, rfl⟩ := h
    exact (MapKept.heap_set hb).2 k hk
theorem turned_below {w w' : World} {b B : Nat} (h : w.mapTurned w' b) (hB : B ≤ b) : Below B w w' :=
  ⟨h.grown.os, h.grown.tape, h.grown.output, h.grown.size, fun k hk => turned_block h k (by omega)⟩
/-- While a map is gone through and what is 0 is deleted: what it tells stays. -/
structure SweepT (D : DataW Unit) (p : Int → Bool) (m : Int → Int) (left : Lit → Bool) : Prop where
  val : ∀ x, wf64 x → D.atKey (.int .i64 x) (.lit (.int .i64 0)) = .lit (.int .i64 (m x))
  has : ∀ x, wf64 x → Maps.has D (.int .i64 x) = (p x && (!decide (m x = 0) || left (.int .i64 x)))
theorem SweepT.start {D : DataW Unit} {p : Int → Bool} {m : Int → Int} (h : Tells D p m) : SweepT D p m (Maps.has D) :=
  ⟨h.val, fun x hx => by rw [h.has x hx]; cases p x <;> simp⟩
theorem SweepT.stays {D : DataW Unit} {p : Int → Bool} {m : Int → Int} {left : Lit → Bool} (h : SweepT D p m left) {x c : Int} (hx : wf64 x) (hat : ∀ zd, D.atKey (.int .i64 x) zd = .lit (.int .i64 c)) (hc : ¬ c = 0) : SweepT D p m (fun z => left z && !z.sameKey (.int .i64 x)) := by
  have hm : m x = c := by have := h.val x hx; rw [hat] at this; simpa using this.symm
  refine ⟨h.val, fun y hy => ?_⟩
  rw [h.has y hy]
  by_cases e : y = x
  · subst e; rw [hm]; simp [hc]
  · have : (Lit.int .i64 y).sameKey (.int .i64 x) = false := by
      cases hs : (Lit.int .i64 y).sameKey (.int .i64 x) with
      | false => rfl
      | true => exact absurd (by simpa using WideAt.sameKey_eq hs) e
    simp [this]
theorem SweepT.struck {D : DataW Unit} {p : Int → Bool} {m : Int → Int} {left : Lit → Bool} (h : SweepT D p m left) {x : Int} (hx : wf64 x) (hat : ∀ zd, D.atKey (.int .i64 x) zd = .lit (.int .i64 0)) : SweepT (D.del (.int .i64 x)) p m (fun z => left z && !z.sameKey (.int .i64 x)) := by
  have hm : m x = 0 := by have := h.val x hx; rw [hat] at this; simpa using this.symm
  have hk : WideAt.IsKeyLit (.int .i64 x) := Try.keyInt.key (keyOf_int_mk Try.underlying2 hx)
  refine ⟨fun y hy => ?_, fun y hy => ?_⟩
  · by_cases e : y = x
    · subst e; rw [Maps.atKey_del_same, hm]
    · rw [Maps.atKey_del_other (by simpa using e)]; exact h.val y hy
  · by_cases e : y = x
    · subst e; rw [Maps.has_del_same, hm, WideAt.sameKey_self hk]; simp
    · have : (Lit.int .i64 y).sameKey (.int .i64 x) = false := by
        cases hs : (Lit.int .i64 y).sameKey (.int .i64 x) with
        | false => rfl
        | true => exact absurd (by simpa using WideAt.sameKey_eq hs) e
      rw [Maps.has_del_other (by simpa using e), h.has y hy, this]; simp
theorem SweepT.done {D : DataW Unit} {p : Int → Bool} {m : Int → Int} {left : Lit → Bool} (h : SweepT D p m left) (hl : ∀ kl, left kl = false) : Tells D (fun x => p x && !decide (m x = 0)) m :=
  ⟨h.val, fun x hx => by rw [h.has x hx, hl]; simp⟩
end Go.Proofs.Ytjabimfinanjoab

namespace Go.Proofs.Ytjabimfinanjoab
open Go.RowKit Go.Maps
set_option maxRecDepth 100000

section
variable {P : Program} {w : World}
/-- A look-up, a store into a map whose run is known, at its place in a walk. -/
theorem wpList_lookup_run {ops : Array Oper} {rest : List Oper} {o : Oper} {a : Act} {Q : Exit → Act → World → Prop} (hgd : o.guard = none) (m x : Operand) (t : TypeId) (ho : o.op = .lookup t m x false) (vm vx : Value) (hm : a.eval m = vm) (hx : a.eval x = vx) (v' : Value)
    (hr : (Instr.lookup t vm vx false).run P w = .ok v' w) (h : wpList P ops Q rest (a.put o.dst v') w) : wpList P ops Q (o :: rest) a w := by
  refine wpList_plain hgd fun K hK => ?_
  unfold Oper.wp
  simp [execOp, ho, hm, hx, hr, Result.andThen]
  exact hK _ _ h
theorem wpList_mapUpdate_run {ops : Array Oper} {rest : List Oper} {o : Oper} {a : Act} {Q : Exit → Act → World → Prop} (hgd : o.guard = none) (m x v : Operand) (t : TypeId) (ho : o.op = .mapUpdate t m x v) (vm vx vv : Value) (hm : a.eval m = vm) (hx : a.eval x = vx) (hv : a.eval v = vv) (w' : World)
    (hr : (Instr.mapUpdate t vm vx vv).run P w = .ok () w') (h : wpList P ops Q rest (a.put o.dst undef) w') : wpList P ops Q (o :: rest) a w := by
  refine wpList_plain hgd fun K hK => ?_
  unfold Oper.wp
  simp [execOp, ho, hm, hx, hv, hr, Result.andThen]
  exact hK _ _ h
end
theorem putP_same {p : Int → Bool} {x : Int} (h : p x = true) : putP p x = p := by
  funext y
  unfold putP
  by_cases e : y = x
  · rw [if_pos e, e, h]
  · rw [if_neg e]
theorem putP_next (j : Nat) : putP (fun x => decide (0 ≤ x ∧ x < (j : Int))) (j : Int) = fun x => decide (0 ≤ x ∧ x < ((j + 1 : Nat) : Int)) := by
  funext y
  unfold putP
  by_cases e : y = j
  · rw [if_pos e]; simp; omega
  · rw [if_neg e]
    show decide (0 ≤ y ∧ y < (j : Int)) = _
    by_cases h : 0 ≤ y ∧ y < (j : Int)
    · rw [decide_eq_true h, decide_eq_true (by omega)]
    · rw [decide_eq_false h, decide_eq_false (by omega)]
theorem putM_zero (x : Int) : putM (fun _ => 0) x 0 = fun _ => 0 := by
  funext y
  unfold putM
  split <;> rfl
theorem putM_at (m : Int → Int) (x v : Int) : putM m x v x = v := by unfold putM; rw [if_pos rfl]
/-- A map's block is no words' block, and what was made since stands apart from it. -/
theorem Qu.turned {w w' : World} {n₀ b : Nat} {v : Value} {zs : List Int} {N : Nat} {p : Int → Bool} {m : Int → Int} (h : Qu w n₀ v zs) (hm : Mp w b N p m) (ht : w.mapTurned w' b) : Qu w' n₀ v zs := h.keep fun k c f _ hk => turned_block ht k fun e => by
  obtain ⟨D, ⟨es, clock, hb, _⟩, _⟩ := hm
  rw [e, hb] at hk
  cases hk
theorem cell_turned {w w' : World} {b : Nat} (ht : w.mapTurned w' b) {k i : Nat} (hk : k ≠ b) {v : Value} (h : w.cell? ⟨k, i, none⟩ = some v) : w'.cell? ⟨k, i, none⟩ = some v := by
  simp only [World.cell?] at h ⊢
  rw [turned_block ht k hk]
  exact h
def intsN (h : List Nat) : List Int := h.map fun k : Nat => (k : Int)
theorem intsN_len (h : List Nat) : (intsN h).length = h.length := by simp [intsN]
theorem intsN_get (h : List Nat) (k : Nat) : (intsN h)[k]?.getD 0 = ((h[k]?.getD 0 : Nat) : Int) := by
  unfold intsN
  rw [List.getElem?_map]
  cases h[k]? <;> simp
theorem entsOf_get {ds : List ID} {j k : Nat} (hk : k < (ds[j]?.getD id0).2.2.2.2.length) : (entsOf ds j)[k]? = some ((ds[j]?.getD id0).2.2.2.2[k]?.getD en0).2 := by
  unfold entsOf entI
  rw [List.getElem?_map, List.getElem?_eq_getElem hk]
  rfl
theorem entsOf_len (ds : List ID) (j : Nat) : (entsOf ds j).length = (ds[j]?.getD id0).2.2.2.2.length := by simp [entsOf, entI]

end Go.Proofs.Ytjabimfinanjoab

namespace Go.Proofs.Ytjabimfinanjoab
open Go.RowKit
set_option maxRecDepth 100000

theorem AnsIR.gen {w w2 : World} {r : Int} {a : Option Addr} {n c : Nat} {zs : List Int} (hb : Below w.heap.size w w2) (ho : IntsO w2 (.slice a n c) zs (fun b => w.heap.size + 1 ≤ b ∧ b < w2.heap.size)) (x y : Value) :
    AnsIR w (r, zs) (.returned (.agg #[.int .i64 r, .slice a n c])) ((w2.setCell ⟨w.heap.size, 0, none⟩ x).setCell ⟨w.heap.size, 1, none⟩ y) := by
  refine ⟨_, _, _, rfl, (hb.setCell (by simp) _).setCell (by simp) _, (ho.keep fun b hb hlt => ?_).mono fun b hb => ⟨by omega, by simp only [World.setCell, Array.size_modify]; exact hb.2⟩⟩
  rw [Below.heap_setCell _ _ _ _ (by simp; omega), Below.heap_setCell _ _ _ _ (by simp; omega)]
theorem AnsIR.later {w w2 w3 : World} {r : Int × List Int} {e : Ending} (h : AnsIR w r e w2) (hb : Below w2.heap.size w2 w3) : AnsIR w r e w3 := by
  obtain ⟨a, n, c, h1, h2, h3⟩ := h
  exact ⟨a, n, c, h1, h2.trans (hb.mono h2.size), (h3.keep fun b _ hlt => hb.block b hlt).mono fun b hh => ⟨hh.1, Nat.lt_of_lt_of_le hh.2 hb.size⟩⟩

end Go.Proofs.Ytjabimfinanjoab

namespace Go.Proofs.Ytjabimfinanjoab
open Go.RowKit
set_option maxRecDepth 100000

/-- Block b holds vs and is not frozen. -/
theorem Obx.row {w : World} {b : Nat} {x y : Value} {t : TypeId} (h : Obx w b [x, y] t) : OwnRow w b 2 (fun i => if i = 0 then x else y) := by
  refine ⟨_, _, h, by simp, fun i hi => ?_⟩
  have : i = 0 ∨ i = 1 := by omega
  rcases this with rfl | rfl <;> simp

end Go.Proofs.Ytjabimfinanjoab

namespace Go.Proofs.Ytjabimfinanjoab
open Go.RowKit
set_option maxRecDepth 100000

def mkInts (k : Int) (zs : List Int) : List Int := marks k zs.length
end Go.Proofs.Ytjabimfinanjoab

namespace Go.Proofs.Ytjabimfinanjoab
open Go.RowKit
set_option maxRecDepth 100000

abbrev KD := DK × List E3
def KernR (w : World) (vB vC vE : Value) (d : KD) : Prop := DiskR w vB vC d.1 ∧ Exts w vE d.2
theorem KernR.later {w w' : World} {vB vC vE : Value} {d : KD} (h : KernR w vB vC vE d) (hb : Below w.heap.size w w') : KernR w' vB vC vE d := ⟨h.1.later hb, h.2.later hb⟩
def KernU (w : World) (vB vC vE : Value) (d : KD) (F : Nat → Prop) : Prop := ∃ F1 G1 : Nat → Prop, DiskU w vB vC d.1 F1 ∧ ExtsO w vE d.2 G1 ∧ (∀ b, F1 b → ¬ G1 b) ∧ ∀ b, F1 b ∨ G1 b → F b
theorem DiskU.keep {w w' : World} {vB vC : Value} {d : DK} {F : Nat → Prop} (h : DiskU w vB vC d F) (e : ∀ b, F b → b < w.heap.size → w'.heap[b]? = w.heap[b]?) : DiskU w' vB vC d F := DiskO.keep h e
theorem KernU.reads {w : World} {vB vC vE : Value} {d : KD} {F : Nat → Prop} (h : KernU w vB vC vE d F) : KernR w vB vC vE d := by
  obtain ⟨_, _, h1, h2, _⟩ := h
  exact ⟨h1.reads, h2.reads⟩
theorem KernU.keep {w w' : World} {vB vC vE : Value} {d : KD} {F : Nat → Prop} (h : KernU w vB vC vE d F) (e : ∀ b, F b → b < w.heap.size → w'.heap[b]? = w.heap[b]?) : KernU w' vB vC vE d F := by
  obtain ⟨F1, G1, h1, h2, hd, hf⟩ := h
  exact ⟨F1, G1, h1.keep fun b hb => e b (hf b (Or.inl hb)), h2.keep fun b hb => e b (hf b (Or.inr hb)), hd, hf⟩
theorem KernU.later {w w' : World} {vB vC vE : Value} {d : KD} {F : Nat → Prop} (h : KernU w vB vC vE d F) (hb : Below w.heap.size w w') : KernU w' vB vC vE d F := h.keep fun b _ hlt => hb.block b hlt
theorem KernU.mono {w : World} {vB vC vE : Value} {d : KD} {F G : Nat → Prop} (h : KernU w vB vC vE d F) (e : ∀ b, F b → G b) : KernU w vB vC vE d G := by
  obtain ⟨F1, G1, h1, h2, hd, hf⟩ := h
  exact ⟨F1, G1, h1, h2, hd, fun b hb => e b (hf b hb)⟩
theorem KernU.chg {w w' : World} {vB vC vE : Value} {d : KD} {F G : Nat → Prop} (h : KernU w vB vC vE d F) (hc : Chg G w w') (hd : ∀ b, F b → ¬ G b) : KernU w' vB vC vE d F := h.keep fun b hb hlt => hc.block b hlt (hd b hb)
theorem DiskU.bound {w : World} {vB vC : Value} {d : DK} {F : Nat → Prop} (h : DiskU w vB vC d F) : DiskU w vB vC d (fun b => F b ∧ b < w.heap.size) := DiskO.bound h
theorem KernU.bound {w : World} {vB vC vE : Value} {d : KD} {F : Nat → Prop} (h : KernU w vB vC vE d F) : KernU w vB vC vE d (fun b => F b ∧ b < w.heap.size) := by
  obtain ⟨F1, G1, h1, h2, hd, hf⟩ := h
  exact ⟨_, _, h1.bound, h2.bound, fun b hb hb' => hd b hb.1 hb'.1, fun b hb => hb.elim (fun h => ⟨hf b (Or.inl h.1), h.2⟩) (fun h => ⟨hf b (Or.inr h.1), h.2⟩)⟩
def sizeKern (d : KD) : Nat := sizeDisk d.1 + d.2.length

theorem OwnRow.new3 (w : World) (x y z : Value) (t : TypeId) : OwnRow (w.alloc (.cells #[x, y, z] t)) w.heap.size 3 (fun i => if i = 0 then x else if i = 1 then y else z) := by
  refine ⟨_, t, Go.Deep.blk_alloc_new _ _, by simp, fun i hi => ?_⟩
  have : i = 0 ∨ i = 1 ∨ i = 2 := by omega
  rcases this with rfl | rfl | rfl <;> simp

def spanKern (d : KD) : Nat := spanDisk d.1 + 3 * d.2.length
theorem spanKern_le (d : KD) : spanKern d ≤ 3 * sizeKern d := by have := spanDisk_le d.1; unfold spanKern sizeKern; omega
def mkKern (k : Int) (d : KD) : KD := (mkDisk k d.1, marksE (k + (spanDisk d.1 : Nat)) d.2.length)
theorem mkDisk_len1 (k : Int) (d : DK) : (mkDisk k d).1.length = d.1.length := by simp [mkDisk, marksS_length]
theorem mkDisk_len2 (k : Int) (d : DK) : (mkDisk k d).2.length = d.2.length := by simp [mkDisk, marksP_length, wlens]

end Go.Proofs.Ytjabimfinanjoab

namespace Go.Proofs.Ytjabimfinanjoab
open Go.RowKit
set_option maxRecDepth 100000

abbrev KResD := List Int × KD
def KResR (w : World) (vW vB vC vE : Value) (d : KResD) : Prop := Ints w vW d.1 ∧ KernR w vB vC vE d.2
theorem KResR.later {w w' : World} {vW vB vC vE : Value} {d : KResD} (h : KResR w vW vB vC vE d) (hb : Below w.heap.size w w') : KResR w' vW vB vC vE d := ⟨h.1.later hb, h.2.later hb⟩
def KResU (w : World) (vW vB vC vE : Value) (d : KResD) (F : Nat → Prop) : Prop := ∃ F1 G1 : Nat → Prop, IntsO w vW d.1 F1 ∧ KernU w vB vC vE d.2 G1 ∧ (∀ b, F1 b → ¬ G1 b) ∧ ∀ b, F1 b ∨ G1 b → F b
theorem KResU.reads {w : World} {vW vB vC vE : Value} {d : KResD} {F : Nat → Prop} (h : KResU w vW vB vC vE d F) : KResR w vW vB vC vE d := by
  obtain ⟨_, _, h1, h2, _⟩ := h
  exact ⟨h1.reads, h2.reads⟩
theorem KResU.keep {w w' : World} {vW vB vC vE : Value} {d : KResD} {F : Nat → Prop} (h : KResU w vW vB vC vE d F) (e : ∀ b, F b → b < w.heap.size → w'.heap[b]? = w.heap[b]?) : KResU w' vW vB vC vE d F := by
  obtain ⟨F1, G1, h1, h2, hd, hf⟩ := h
  exact ⟨F1, G1, h1.keep fun b hb => e b (hf b (Or.inl hb)), h2.keep fun b hb => e b (hf b (Or.inr hb)), hd, hf⟩
theorem KResU.later {w w' : World} {vW vB vC vE : Value} {d : KResD} {F : Nat → Prop} (h : KResU w vW vB vC vE d F) (hb : Below w.heap.size w w') : KResU w' vW vB vC vE d F := h.keep fun b _ hlt => hb.block b hlt
theorem KResU.mono {w : World} {vW vB vC vE : Value} {d : KResD} {F G : Nat → Prop} (h : KResU w vW vB vC vE d F) (e : ∀ b, F b → G b) : KResU w vW vB vC vE d G := by
  obtain ⟨F1, G1, h1, h2, hd, hf⟩ := h
  exact ⟨F1, G1, h1, h2, hd, fun b hb => e b (hf b hb)⟩
theorem KResU.chg {w w' : World} {vW vB vC vE : Value} {d : KResD} {F G : Nat → Prop} (h : KResU w vW vB vC vE d F) (hc : Chg G w w') (hd : ∀ b, F b → ¬ G b) : KResU w' vW vB vC vE d F := h.keep fun b hb hlt => hc.block b hlt (hd b hb)

/-- An answer: a code, words and a kern, in new memory of its own. -/
def AnsKR (w : World) (r : Int × KResD) (e : Ending) (w' : World) : Prop := ∃ aW nW cW aB nB cB aC nC cC aE nE cE, e = .returned (.agg #[.int .i64 r.1, .slice aW nW cW, .slice aB nB cB, .slice aC nC cC, .slice aE nE cE]) ∧ Below w.heap.size w w' ∧ KResU w' (.slice aW nW cW) (.slice aB nB cB) (.slice aC nC cC) (.slice aE nE cE) r.2 (fresh w w')
theorem ansK_bad {w w' : World} (hb : Below w.heap.size w w') (c : Int) : AnsKR w (c, [], ([], []), []) (.returned (.agg #[.int .i64 c, .slice none 0 0, .slice none 0 0, .slice none 0 0, .slice none 0 0])) w' :=
  ⟨none, 0, 0, none, 0, 0, none, 0, 0, none, 0, 0, rfl, hb, fun _ => False, fun _ => False, Or.inl ⟨rfl, none, 0, rfl⟩, ⟨fun _ => False, fun _ => False, ⟨fun _ => False, fun _ => False, Or.inl ⟨rfl, none, 0, rfl⟩, Or.inl ⟨rfl, none, 0, rfl⟩, fun _ h => h.elim, fun _ h => h.elim id id⟩, Or.inl ⟨rfl, none, 0, rfl⟩, fun _ h => h.elim, fun _ h => h.elim id id⟩, fun _ h => h.elim, fun _ h => h.elim False.elim False.elim⟩

theorem Bx.new5 (w : World) (a b c d e : Value) (t : TypeId) (i : Nat) (v : Value) (h : [a, b, c, d, e][i]? = some v) : (w.alloc (.cells #[a, b, c, d, e] t)).cell? ⟨w.heap.size, i, none⟩ = some v := Bx.new w [a, b, c, d, e] t i v h

def spanKRes (d : KResD) : Nat := d.1.length + spanKern d.2
def mkKRes (k : Int) (d : KResD) : KResD := (marks k d.1.length, mkKern (k + (d.1.length : Nat)) d.2)
theorem IntsO.bound' {w : World} {v : Value} {zs : List Int} {F : Nat → Prop} (h : IntsO w v zs F) : IntsO w v zs (fun b => F b ∧ b < w.heap.size) := by
  rcases h with h | ⟨b, cap, hF, h1, h2, h3⟩
  · exact Or.inl h
  · exact Or.inr ⟨b, cap, ⟨hF, h3.lt⟩, h1, h2, h3⟩

theorem eqIntResultU (w : World) (c v : Int) :
    Calls Try.prog 8 #[.agg #[.int .i64 c, .int .i64 v], .agg #[.int .i64 c, .int .i64 v]] w fun e w' => e = .returned (.bool true) ∧ Below w.heap.size w w' := by
  have h0 : (c != c) = false := by simp
  have h1 : (v != v) = false := by simp
  go_enter Try.func8, Try.ntmps8
  go_wp2
  go_ret
  exact ⟨rfl, later2 _ _ _⟩
end Go.Proofs.Ytjabimfinanjoab

namespace Go.Proofs.Ytjabimfinanjoab
open Go.RowKit
set_option maxRecDepth 100000

theorem usedSpan (ds : List ID) : (usedR ds).2.length ≤ 20 := by
  have := selL_len (usedP ds) 20
  unfold usedR
  split
  · split
    · exact this
    · simp
  · simp
theorem freeSpan (ds : List ID) (bs : List Int) : (freeR ds bs).2.length ≤ 20 := by
  have := selL_len (freeP ds bs) 20
  unfold freeR
  split
  · exact this
  · simp
theorem pickSpan (ds : List ID) (bs : List Int) (k : Int) : (pickR ds bs k).2.length ≤ 20 := by
  have := selL_len (freeP ds bs) 20
  unfold pickR
  split
  · split
    · split
      · simp
      · show ((selL (freeP ds bs) 20).take k.toNat).length ≤ 20
        rw [List.length_take]
        omega
    · simp
  · simp
end Go.Proofs.Ytjabimfinanjoab

namespace Go.Proofs.Ytjabimfinanjoab
open Go.RowKit Go.Maps
set_option maxRecDepth 100000

theorem field_intR (z v : Int) (w : World) : (Instr.field 28 (.agg #[.int .i64 z, .int .i64 v]) 1).run Try.prog w = .ok (.int .i64 v) w := by rfl
def treeF (ds : List ID) : Int := if linksB ds then 0 else 1

theorem map_zero {ds : List ID} {m : Int → Int} (hr : inRange ds) (h0 : 0 < ds.length) (hp : ∀ i : Nat, 0 < m (i : Int) ↔ RP (entsOf ds) i) (hnn : ∀ x, 0 ≤ m x) (j : Nat) : (m (j : Int) == 0) = !reachG ds ds.length j := by
  cases hg : reachG ds ds.length j with
  | true =>
    have := (hp j).2 ((reachG_iff hr h0 j).1 hg)
    simp; omega
  | false =>
    have h1 : ¬ 0 < m (j : Int) := fun h => by
      have := (reachG_iff hr h0 j).2 ((hp j).1 h)
      rw [hg] at this; cases this
    have := hnn (j : Int)
    simp; omega
end Go.Proofs.Ytjabimfinanjoab

namespace Go.Proofs.Ytjabimfinanjoab
open Go.RowKit
set_option maxRecDepth 100000

/-- An array that holds a number for each block. -/
def arrI (f : Nat → Int) : Array Value := ((List.range 20).map fun i => intV (f i)).toArray
theorem arrI_size (f : Nat → Int) : (arrI f).size = 20 := by simp [arrI]
theorem arrI_get (f : Nat → Int) {i : Nat} (h : i < 20) : (arrI f)[i]? = some (.int .i64 (f i)) := by
  simp [arrI, h, intV]
theorem arrI_set (f : Nat → Int) (q : Nat) (x : Int) : (arrI f).setIfInBounds q (.int .i64 x) = arrI (fun i => if i = q then x else f i) := by
  apply Array.ext_getElem?
  intro i
  rw [Array.getElem?_setIfInBounds]
  by_cases hi : i < 20
  · rw [arrI_get _ hi, arrI_get _ hi, arrI_size]
    by_cases e : q = i
    · subst e; simp [hi]
    · rw [if_neg e, if_neg (fun h => e h.symm)]
  · have h1 : (arrI f)[i]? = none := by rw [Array.getElem?_eq_none_iff, arrI_size]; omega
    have h2 : (arrI (fun i => if i = q then x else f i))[i]? = none := by rw [Array.getElem?_eq_none_iff, arrI_size]; omega
    rw [h1, h2, arrI_size]
    by_cases e : q = i
    · subst e; simp [hi]
    · rw [if_neg e]
/-- Block b holds the numbers f. -/
def ArI (w : World) (b : Nat) (f : Nat → Int) : Prop := w.heap[b]? = some (.cells (arrI f) 90)
theorem ArI.cell {w : World} {b : Nat} {f : Nat → Int} (h : ArI w b f) {i : Nat} (hi : i < 20) : w.cell? ⟨b, i, none⟩ = some (.int .i64 (f i)) := by
  simp [World.cell?, show w.heap[b]? = some (.cells (arrI f) 90) from h, arrI_get f hi]
theorem ArI.frozen {w : World} {b : Nat} {f : Nat → Int} (h : ArI w b f) (i : Nat) : w.frozen? ⟨b, i, none⟩ = false := by
  simp [World.frozen?, show w.heap[b]? = some (.cells (arrI f) 90) from h]
theorem ArI.lt {w : World} {b : Nat} {f : Nat → Int} (h : ArI w b f) : b < w.heap.size := (Array.getElem?_eq_some_iff.1 h).1
theorem ArI.later {w w' : World} {b : Nat} {f : Nat → Int} (h : ArI w b f) (hb : Below w.heap.size w w') : ArI w' b f := (hb.block b h.lt).trans h
theorem ArI.set {w : World} {b : Nat} {f : Nat → Int} (h : ArI w b f) (q : Nat) (x : Int) : ArI (w.setCell ⟨b, q, none⟩ (.int .i64 x)) b (fun i => if i = q then x else f i) := by
  have h' : w.heap[b]? = some (.cells (arrI f) 90) := h
  unfold ArI
  rw [← arrI_set f q x]
  simp [World.setCell, Array.getElem?_modify, h']
theorem ArI.store {w : World} {b : Nat} {f : Nat → Int} (h : ArI w b f) {p : Addr} (hp : b ≠ p.block) (v : Value) : ArI (w.setCell p v) b f := (Below.heap_setCell _ _ _ _ hp).trans h
theorem ArI.new (w : World) (f : Nat → Int) : ArI (w.alloc (.cells (arrI f) 90)) w.heap.size f := Go.Deep.blk_alloc_new _ _

theorem arrI_one (f : Nat → Int) : (arrI f).all (·.oneCell') = true := by
  unfold arrI
  rw [Array.all_eq_true_iff_forall_mem]
  intro v hv
  simp only [List.mem_toArray, List.mem_map] at hv
  obtain ⟨i, _, rfl⟩ := hv
  rfl
theorem Try.infoA20 : (Try.prog.info? 90).map (·.size) = some 20 := by kernel_rfl
theorem ArI.load {w : World} {b : Nat} {f : Nat → Int} (h : ArI w b f) : (Instr.loadAt 90 (.pointer (some ⟨b, 0, none⟩))).run Try.prog w = .ok (.agg (arrI f)) w := by
  simp only [Instr.loadAt, Instr.sureAddr, Sem.run_bind, Sem.run_pure, Result.andThen]
  exact run_loadVar_row w b _ _ (arrI f) (0, 0) _ h Try.underlying90 rfl (by rw [arrI_size]; exact Try.infoA20)
theorem ArI.loadV {w : World} {b : Nat} {f : Nat → Int} (h : ArI w b f) : (loadVar 90 ⟨b, 0, none⟩).run Try.prog w = .ok (.agg (arrI f)) w :=
  run_loadVar_row w b _ _ (arrI f) (0, 0) _ h Try.underlying90 rfl (by rw [arrI_size]; exact Try.infoA20)
theorem ArI.put {w : World} {b : Nat} {f : Nat → Int} (h : ArI w b f) (g : Nat → Int) : ∃ X, (Instr.storeAt 90 (.pointer (some ⟨b, 0, none⟩)) (.agg (arrI g))).run Try.prog w = .ok () X ∧ ArI X b g ∧ X.heap.size = w.heap.size ∧ (∀ c, c ≠ b → X.heap[c]? = w.heap[c]?) ∧ X.os = w.os ∧ X.tape = w.tape ∧ X.output = w.output := by
  refine ⟨w.setRow b (arrI g), ?_, ?_, ?_, fun c hc => ?_, rfl, rfl, rfl⟩
  · simp only [Instr.storeAt, Instr.sureAddr, Sem.run_bind, Sem.run_pure, Result.andThen]
    rw [run_storeVar_row w b _ _ (arrI f) (arrI g) h (by rw [arrI_size]; exact Try.infoA20) (by rw [arrI_size, arrI_size]) (arrI_one g)]
  · have h' : w.heap[b]? = some (.cells (arrI f) 90) := h
    unfold ArI
    simp [World.setRow, Array.getElem?_modify, h']
  · simp [World.setRow]
  · simp only [World.setRow]
    rw [Array.getElem?_modify, if_neg (fun e => hc e.symm)]

theorem m8_left {s : Int} {nB k : Nat} (hn : ((nB : Nat) : Int) = (s + 7) / 8) (hk : k + 1 < nB) : s - 8 * (k : Int) - m8 (s - 8 * (k : Int)) = s - 8 * ((k + 1 : Nat) : Int) := by
  unfold m8
  rw [if_pos (by omega)]
  omega
def bytF (d : FD) : Int := if sizesB d then 0 else 1
/-- The program's codes up to entries are the specification's. -/
theorem fsE_eq (d : FD) : fsE d = if insF d.1 = 0 then (if d.1.length = 0 ∨ ¬ kindAt d.1 0 = 2 then 1 else if dataF d = 0 then lostF d.1 else dataF d) else insF d.1 := by
  unfold fsE dataF formB
  by_cases h1 : insF d.1 = 0
  · rw [if_pos h1, if_pos h1]
    by_cases h2 : d.1.length = 0 ∨ ¬ kindAt d.1 0 = 2
    · rw [if_pos h2, if_pos (by rcases h2 with h | h <;> simp [h])]
    · rw [if_neg h2]
      have h2a : ¬ d.1.length = 0 := fun e => h2 (Or.inl e)
      have h2b : kindAt d.1 0 = 2 := Classical.byContradiction fun e => h2 (Or.inr e)
      by_cases h3 : d.2.length = 20
      · rw [if_neg (by simp [h2b, h3]; intro e; exact h2a (by rw [e]; rfl)), if_pos h3]
        by_cases h4 : fstNZ (manyF d.2) d.2.length = 0
        · rw [if_pos h4]
          by_cases h5 : onceB d.1 20 = true
          · rw [if_pos h5]; simp [h4, h5]
          · rw [if_neg h5]; simp [h4, h5]
        · rw [if_neg h4, if_neg h4, if_neg h4]
      · rw [if_pos (by simp [h3]), if_neg h3]; simp
  · rw [if_neg h1, if_neg h1]
/-- What is wrong of inodes and of their top. -/
def topF (ds : List ID) : Int := if insF ds = 0 then (if ds.length = 0 ∨ ¬ kindAt ds 0 = 2 then 1 else 0) else insF ds
theorem fsE_top (d : FD) : fsE d = if topF d.1 = 0 then (if dataF d = 0 then lostF d.1 else dataF d) else topF d.1 := by
  rw [fsE_eq]; unfold topF
  by_cases h1 : insF d.1 = 0
  · rw [if_pos h1, if_pos h1]
    by_cases h2 : d.1.length = 0 ∨ ¬ kindAt d.1 0 = 2
    · rw [if_pos h2, if_pos h2, if_neg (by decide)]
    · rw [if_neg h2, if_neg h2, if_pos rfl]
  · rw [if_neg h1, if_neg h1, if_neg h1]
theorem top_ins {ds : List ID} (h : topF ds = 0) : insF ds = 0 := by
  unfold topF at h
  by_cases h1 : insF ds = 0
  · exact h1
  · simp [h1] at h
set_option maxHeartbeats 3200000 in
theorem topFault_any (w : World) (aI : Option Addr) (nI cI : Nat) (ds : List ID) (h : Inos w (.slice aI nI cI) ds) (hs : sizeInos ds ≤ 1048576) :
    Calls Try.prog 46 #[.slice aI nI cI] w fun e w' => e = .returned (.int .i64 (topF ds)) ∧ Below w.heap.size w w' := by
  have HF : Hid (∀ W, Below w.heap.size w W → Calls Try.prog 52 #[.slice aI nI cI] W fun e w' => e = .returned (.int .i64 (insF ds)) ∧ Below W.heap.size W w') := fun W hW => inodesFault_any (h.later hW) hs
  have HE : Hid (topF ds = if insF ds = 0 then (if ds.length = 0 ∨ ¬ kindAt ds 0 = 2 then 1 else 0) else insF ds) := rfl
  by_cases h1 : insF ds = 0
  rotate_left
  · have HR : Hid (topF ds = insF ds) := by unfold Hid; rw [HE.out, if_neg h1]
    have hb : (insF ds != 0) = true := by simpa using h1
    clear HE h1 h
    generalize insF ds = r at *
    generalize topF ds = tf at *
    go_enter Try.func46, Try.ntmps46
    go_wp2_with fail
    refine (HF.out _ (Below.refl _ _)).mono ?_
    rintro e w1 ⟨rfl, hb1⟩
    go_wp2
    go_ret
    exact ⟨ret_int HR.out.symm, hb1⟩
  · obtain ⟨_, _, e2, hm2, hc⟩ := h.open'
    simp only [Value.slice.injEq] at e2
    obtain ⟨rfl, rfl, rfl⟩ := e2
    rw [h1, if_pos rfl] at HE
    rw [h1] at HF
    have HC : Hid (AtI w aI ds.length ds) := hc
    clear h h1 hc hs hm2
    by_cases h0 : ds.length = 0
    · have hb0 : (((ds.length : Nat) : Int) == 0) = true := by simp [h0]
      have HR : Hid (topF ds = 1) := by unfold Hid; rw [HE.out, if_pos (Or.inl h0)]
      clear HE h0 HC
      generalize topF ds = tf at *
      generalize ds.length = n at *
      go_enter Try.func46, Try.ntmps46
      go_wp2_with fail
      refine (HF.out _ (Below.refl _ _)).mono ?_
      rintro e w1 ⟨rfl, hb1⟩
      go_wp2
      go_ret
      exact ⟨ret_int HR.out.symm, hb1⟩
    · have hb0 : (((ds.length : Nat) : Int) == 0) = false := by simp; intro e; exact h0 (by rw [e]; rfl)
      obtain ⟨b0, o0, rfl, hI⟩ := HC.out 0 (by omega)
      obtain ⟨_, _, _, _, kc, _⟩ := hI
      replace kc : w.cell? ⟨b0, o0, none⟩ = some (.int .i64 (kindAt ds 0)) := by simpa [kindAt] using kc
      have h00 : 0 < ds.length := by omega
      have HE2 : Hid (topF ds = if ¬ kindAt ds 0 = 2 then 1 else 0) := by
        unfold Hid; rw [HE.out]; simp only [h0, false_or]
      clear HE h0 HC
      generalize topF ds = tf at *
      generalize ds.length = n at *
      generalize kindAt ds 0 = kd at *
      by_cases hk : kd = 2
      · have hb2 : (kd != 2) = false := by simpa using hk
        have HR : Hid (tf = 0) := by unfold Hid; rw [HE2.out, if_neg (by simp [hk])]
        clear HE2 hk
        go_enter Try.func46, Try.ntmps46
        go_wp2_with fail
        refine (HF.out _ (Below.refl _ _)).mono ?_
        rintro e w1 ⟨rfl, hb1⟩
        replace kc := cell_later hb1 kc
        go_wp2
        go_ret
        exact ⟨ret_int HR.out.symm, hb1⟩
      · have hb2 : (kd != 2) = true := by simpa using hk
        have HR : Hid (tf = 1) := by unfold Hid; rw [HE2.out, if_pos hk]
        clear HE2 hk
        go_enter Try.func46, Try.ntmps46
        go_wp2_with fail
        refine (HF.out _ (Below.refl _ _)).mono ?_
        rintro e w1 ⟨rfl, hb1⟩
        replace kc := cell_later hb1 kc
        go_wp2
        go_ret
        exact ⟨ret_int HR.out.symm, hb1⟩
set_option maxHeartbeats 3200000 in
theorem reachFault_any (w : World) (aI : Option Addr) (nI cI : Nat) (aD : Option Addr) (nD cD : Nat) (d : FD) (h : FsR w (.slice aI nI cI) (.slice aD nD cD) d) (hs : sizeInos d.1 ≤ 1048576) :
    Calls Try.prog 36 #[.agg #[.slice aI nI cI, .slice aD nD cD]] w fun e w' => e = .returned (.int .i64 (fsE d)) ∧ Below w.heap.size w w' := by
  have HF : Hid (∀ W, Below w.heap.size w W → Calls Try.prog 46 #[.slice aI nI cI] W fun e w' => e = .returned (.int .i64 (topF d.1)) ∧ Below W.heap.size W w') := fun W hW => topFault_any W aI nI cI d.1 (h.1.later hW) hs
  have HE : Hid (fsE d = if topF d.1 = 0 then (if dataF d = 0 then lostF d.1 else dataF d) else topF d.1) := fsE_top d
  have HX : Hid (Bx (w.alloc (.cells #[.slice aI nI cI, .slice aD nD cD] 32)) w.heap.size [.slice aI nI cI, .slice aD nD cD]) := Bx.new w [.slice aI nI cI, .slice aD nD cD] _
  by_cases h1 : topF d.1 = 0
  rotate_left
  · have HR : Hid (fsE d = topF d.1) := by unfold Hid; rw [HE.out, if_neg h1]
    have hb : (topF d.1 != 0) = true := by simpa using h1
    clear HE h1 h
    generalize topF d.1 = r at *
    go_enter Try.func36, Try.ntmps36
    go_wp2_with fail
    refine (HF.out _ (later1 _ _)).mono ?_
    rintro e w1 ⟨rfl, hb1⟩
    have HB1 : Hid (Below w.heap.size w w1) := (later1 _ _).trans (hb1.mono (by simp))
    clear hb1
    go_wp2
    go_ret
    exact ⟨ret_int HR.out.symm, HB1.out⟩
  · have h1' := top_ins h1
    have HD : Hid (∀ W, Below w.heap.size w W → Calls Try.prog 47 #[.agg #[.slice aI nI cI, .slice aD nD cD]] W fun e w' => e = .returned (.int .i64 (dataF d)) ∧ Below W.heap.size W w') := fun W hW => dataFault_any W aI nI cI aD nD cD d (h.later hW) hs h1'
    have HN : Hid (∀ W, Below w.heap.size w W → Calls Try.prog 48 #[.agg #[.slice aI nI cI, .slice aD nD cD]] W fun e w' => e = .returned (.int .i64 (lostF d.1)) ∧ Below W.heap.size W w') := fun W hW => entriesFault_any W aI nI cI aD nD cD d (h.later hW) hs h1'
    rw [h1, if_pos rfl] at HE
    rw [h1] at HF
    clear h h1 h1' hs
    generalize dataF d = df at *
    generalize lostF d.1 = lf at *
    by_cases hd : df = 0
    · have hb3 : (df != 0) = false := by simpa using hd
      have HR : Hid (fsE d = lf) := by unfold Hid; rw [HE.out, if_pos hd]
      clear HE hd
      go_enter Try.func36, Try.ntmps36
      go_wp2_with fail
      refine (HF.out _ (later1 _ _)).mono ?_
      rintro e w1 ⟨rfl, hb1⟩
      have HB1 : Hid (Below w.heap.size w w1) := (later1 _ _).trans (hb1.mono (by simp))
      have HX1 : Hid (Bx w1 w.heap.size _) := HX.out.later hb1
      have x0 := HX1.out 0 _ rfl
      have x1 := HX1.out 1 _ rfl
      clear hb1
      go_wp2_with fail
      refine (HD.out _ HB1.out).mono ?_
      rintro e w2 ⟨rfl, hb2'⟩
      have HB2 : Hid (Below w.heap.size w w2) := HB1.out.trans (hb2'.mono HB1.out.size)
      have y0 := (HX1.out.later hb2') 0 _ rfl
      have y1 := (HX1.out.later hb2') 1 _ rfl
      clear hb2' x0 x1
      go_wp2_with fail
      refine (HN.out _ HB2.out).mono ?_
      rintro e w3 ⟨rfl, hb3'⟩
      have HB3 : Hid (Below w.heap.size w w3) := HB2.out.trans (hb3'.mono HB2.out.size)
      clear hb3'
      go_wp2
      go_ret
      exact ⟨ret_int HR.out.symm, HB3.out⟩
    · have hb3 : (df != 0) = true := by simpa using hd
      have HR : Hid (fsE d = df) := by unfold Hid; rw [HE.out, if_neg hd]
      clear HE hd
      go_enter Try.func36, Try.ntmps36
      go_wp2_with fail
      refine (HF.out _ (later1 _ _)).mono ?_
      rintro e w1 ⟨rfl, hb1⟩
      have HB1 : Hid (Below w.heap.size w w1) := (later1 _ _).trans (hb1.mono (by simp))
      have HX1 : Hid (Bx w1 w.heap.size _) := HX.out.later hb1
      have x0 := HX1.out 0 _ rfl
      have x1 := HX1.out 1 _ rfl
      clear hb1
      go_wp2_with fail
      refine (HD.out _ HB1.out).mono ?_
      rintro e w2 ⟨rfl, hb2'⟩
      have HB2 : Hid (Below w.heap.size w w2) := HB1.out.trans (hb2'.mono HB1.out.size)
      clear hb2' x0 x1
      go_wp2
      go_ret
      exact ⟨ret_int HR.out.symm, HB2.out⟩

theorem range_of {ds : List ID} (hi : insF ds = 0) (h : lostF ds = 0) : inRange ds := fun i hil x hx => by
  unfold entsOf entI at hx
  obtain ⟨e, he, rfl⟩ := List.mem_map.1 hx
  obtain ⟨k, hk, hke⟩ := List.getElem_of_mem he
  have := lost_in hi h i hil k hk
  rw [List.getElem?_eq_getElem hk, Option.getD_some, hke] at this
  exact this
theorem six_of {ds : List ID} (hi : insF ds = 0) (i : Nat) : (entsOf ds i).length ≤ 6 := by
  rw [entsOf_len]
  by_cases h : i < ds.length
  · exact ino_six (ins_ino hi i h)
  · rw [List.getElem?_eq_none (by omega)]; simp [id0]
end Go.Proofs.Ytjabimfinanjoab

namespace Go.Proofs.Ytjabimfinanjoab
open Go.RowKit
set_option maxRecDepth 100000

theorem WdY.down {w : World} {n₀ m₀ : Nat} {v : Value} {zs : List UInt8} (h : WdY w n₀ v zs) (hm : m₀ ≤ n₀) : WdY w m₀ v zs := by
  obtain ⟨h1, h2⟩ := h
  refine ⟨h1, ?_⟩
  rcases h2 with h2 | ⟨g, cap, cur, h3, h4, h5⟩
  · exact Or.inl h2
  · exact Or.inr ⟨g, cap, cur, h3, Nat.le_trans hm h4, h5⟩
end Go.Proofs.Ytjabimfinanjoab
