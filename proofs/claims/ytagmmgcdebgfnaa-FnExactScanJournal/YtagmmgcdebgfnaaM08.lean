/- A list of a row of lists is put in the place of another: what the row is behind it. What a flush or a crash keeps. No program is named here. The walk of the specification's copying of a disk. The walk of the specification's keeping of what is picked. Rows that grow by append: where the row lies behind it; and rows told otherwise. The walk of the specification's PutBlock. The walks of the specification's FlushDisk and CrashDisk. The walk of the specification's PutBlock where it puts. The walk of the program's PutBlock. The walk of the program's settling of what is picked. The walks of the program's FlushDisk and CrashDisk. Lists of bits: how they read, and the walks of the laws' functions over them. The specification: which places can be reached. What can be reached: rounds over all inodes, and the way from one to the next, come to the same. Maps from int64 to int64 that the call made: what they tell of a key. The program: what is reached, in a map. The specification's LinksOf. The specification: are links and places right? The program's PickBlocks and FreeInode. Lists of inodes are marked. The program's PackInode. -/
import Derived.Test.YtagmmgcdebgfnaaM01
import Derived.Test.YtagmmgcdebgfnaaM02
import Derived.Test.YtagmmgcdebgfnaaM06
import Derived.Deep.RegionHeld3
import Derived.Test.YtagmmgcdebgfnaaM03
import Derived.Test.YtagmmgcdebgfnaaM07
import Derived.Maps.RangeWalk
import Derived.Maps.OwnOps
import Derived.Maps.Views
import Derived.Deep.LoopGhost
namespace Go.Proofs.Ytagmmgcdebgfnaa
open Go.RowKit
set_option maxRecDepth 100000

theorem IntsSO.set {w X : World} {g n cap : Nat} {v : Value} {zs : List Int} {zss : List (List Int)} {F : Nat → Prop} (h : IntsSO w (.slice (some ⟨g, 0, none⟩) n cap) zss F) {x : Nat} (hx : x < zss.length) (hb : Below w.heap.size w X) (hF : ∀ b, F b → b < w.heap.size) (hv : IntsO X v zs (fresh w X)) :
    IntsSO (X.setCell ⟨g, x, none⟩ v) (.slice (some ⟨g, 0, none⟩) n cap) (zss.set x zs) (fun b => F b ∨ fresh w X b) := by
  rcases h with ⟨h, _⟩ | ⟨b, cap', u, G, hFb, hG, hGG, h1, h2, h3, h4⟩
  · subst h; simp at hx
  · simp only [Value.slice.injEq, Option.some.injEq, Addr.mk.injEq, and_true] at h1
    obtain ⟨rfl, rfl, rfl⟩ := h1
    have hgl := h3.lt
    refine Or.inr ⟨g, cap, fun j => if j = x then v else u j, fun i c => (i = x ∧ fresh w X c) ∨ (i ≠ x ∧ G i c), Or.inl hFb, fun i c hc => ?_, fun i j c e h5 h6 => ?_, by simp, by simpa using h2, by simpa using (h3.block (hb.block g hgl)).set x v, fun i hi => ?_⟩
    · rcases hc with ⟨_, hc⟩ | ⟨_, hc⟩
      · exact ⟨Or.inr hc, fun e => by have := hc.1; omega⟩
      · exact ⟨Or.inl (hG i c hc).1, (hG i c hc).2⟩
    · rcases h5 with ⟨e5, h5⟩ | ⟨e5, h5⟩ <;> rcases h6 with ⟨e6, h6⟩ | ⟨e6, h6⟩
      · omega
      · have := h5.1; have := hF c (hG j c h6).1; omega
      · have := h6.1; have := hF c (hG i c h5).1; omega
      · exact hGG i j c e h5 h6
    · simp only [List.length_set] at hi
      by_cases e : i = x
      · subst e
        have h7 : IntsO X v zs (fun c => (i = i ∧ fresh w X c) ∨ (i ≠ i ∧ G i c)) := hv.mono fun c hc => Or.inl ⟨rfl, hc⟩
        show IntsO _ (if i = i then v else u i) _ (fun c => (i = i ∧ fresh w X c) ∨ (i ≠ i ∧ G i c))
        rw [if_pos rfl, List.getElem?_set_self hx, Option.getD_some]
        refine h7.keep fun c hc _ => Below.heap_setCell _ _ _ _ ?_
        rcases hc with ⟨_, hc⟩ | ⟨hc, _⟩
        · show c ≠ g
          have := hc.1; omega
        · exact absurd rfl hc
      · show IntsO _ (if i = x then v else u i) _ (fun c => (i = x ∧ fresh w X c) ∨ (i ≠ x ∧ G i c))
        rw [if_neg e, List.getElem?_set_ne (fun h => e h.symm)]
        have h7 : IntsO w (u i) (zss[i]?.getD []) (fun c => (i = x ∧ fresh w X c) ∨ (i ≠ x ∧ G i c)) := (h4 i hi).mono fun c hc => Or.inr ⟨e, hc⟩
        refine h7.keep fun c hc hlt => ?_
        rcases hc with ⟨hc, _⟩ | ⟨_, hc⟩
        · exact absurd hc e
        · rw [Below.heap_setCell _ _ _ _ (show c ≠ g from (hG i c hc).2), hb.block c hlt]

theorem Box2.store {w : World} {b : Nat} {x y : Value} (h : Box2 w b x y) {p : Addr} (hp : b ≠ p.block) (v : Value) : Box2 (w.setCell p v) b x y :=
  ⟨(World.cell?_of_block (w := w) (a := ⟨b, 0, none⟩) (Below.heap_setCell _ _ _ _ hp)).trans h.1, (World.cell?_of_block (w := w) (a := ⟨b, 1, none⟩) (Below.heap_setCell _ _ _ _ hp)).trans h.2⟩
theorem IntsSO.cell {w : World} {a : Option Addr} {n cap : Nat} {zss : List (List Int)} {F : Nat → Prop} (h : IntsSO w (.slice a n cap) zss F) {x : Nat} (hx : x < zss.length) :
    ∃ g ua un uc, a = some ⟨g, 0, none⟩ ∧ F g ∧ g < w.heap.size ∧ w.cell? ⟨g, x, none⟩ = some (.slice ua un uc) ∧ w.frozen? ⟨g, x, none⟩ = false := by
  rcases h with ⟨h, _⟩ | ⟨b, cap', u, G, hFb, _, _, h1, _, h3, h4⟩
  · subst h; simp at hx
  · simp only [Value.slice.injEq] at h1
    obtain ⟨rfl, rfl, rfl⟩ := h1
    have hu : ∃ ua un uc, u x = .slice ua un uc := by
      rcases h4 x hx with ⟨_, a, c, e⟩ | ⟨_, _, _, e, _⟩
      · exact ⟨_, _, _, e⟩
      · exact ⟨_, _, _, e⟩
    obtain ⟨ua, un, uc, e⟩ := hu
    exact ⟨b, ua, un, uc, rfl, hFb, h3.lt, by rw [h3.cell hx, e], h3.frozen x⟩

/-- The blocks behind the first k puts of those that are picked. -/
def keepTo (pk : Nat → Bool) (bs : List (List Int)) (ps : List (Int × List Int)) : Nat → List (List Int)
  | 0 => bs
  | k + 1 => if pk k then (keepTo pk bs ps k).set (ps[k]?.getD (0, [])).1.toNat (ps[k]?.getD (0, [])).2 else keepTo pk bs ps k
theorem keepTo_length (pk : Nat → Bool) (bs : List (List Int)) (ps : List (Int × List Int)) (k : Nat) : (keepTo pk bs ps k).length = bs.length := by
  induction k with
  | zero => rfl
  | succ k ih => unfold keepTo; split <;> simp [ih]
theorem keepTo_len (pk : Nat → Bool) (bs : List (List Int)) (ps : List (Int × List Int)) {M : Nat} (hz : ∀ k : Nat, (bs[k]?.getD []).length ≤ M) (hzp : ∀ k : Nat, (ps[k]?.getD (0, [])).2.length ≤ M) (k : Nat) : ∀ i : Nat, ((keepTo pk bs ps k)[i]?.getD []).length ≤ M := by
  induction k with
  | zero => exact hz
  | succ k ih =>
    intro i
    unfold keepTo
    split
    · rw [List.getElem?_set]
      split
      · split
        · exact hzp k
        · simp
      · exact ih i
    · exact ih i
theorem keepTo_step {pk : Nat → Bool} {bs : List (List Int)} {ps : List (Int × List Int)} {k : Nat} (h : pk k = true) : keepTo pk bs ps (k + 1) = (keepTo pk bs ps k).set (ps[k]?.getD (0, [])).1.toNat (ps[k]?.getD (0, [])).2 := by simp [keepTo, h]
theorem keepTo_skip {pk : Nat → Bool} {bs : List (List Int)} {ps : List (Int × List Int)} {k : Nat} (h : pk k = false) : keepTo pk bs ps (k + 1) = keepTo pk bs ps k := by simp [keepTo, h]
end Go.Proofs.Ytagmmgcdebgfnaa

namespace Go.Proofs.Ytagmmgcdebgfnaa
open Go.RowKit
set_option maxRecDepth 100000

/-- The copy of a put's words, and what appending that put comes to: in one contract. -/
theorem l1Ints_put (wr : World) (S q : Nat) (v uv : Value) (f : Nat → Int × List Int) (k : Nat → Nat) (u : Nat → Value) (hLR : LRow (C2 fun i => (f i).1) wr S S 100 2 v q (fun i => (f i).2) k u) (hsq : S ≤ wr.heap.size) (hq : q ≤ 100000) (hi : Ints wr uv (f q).2) (hl : (f q).2.length ≤ 1048576) :
    Calls Try.prog 95 #[uv] wr.drew fun e w1 => ∃ na nc g2 cap2 X k' u', e = .returned (.slice na (f q).2.length nc) ∧
      Hid ((Builtin.append_ #[47, 47] 47 #[v, .slice (some ⟨w1.heap.size, 0, none⟩) 1 1]).run Try.prog (w1.alloc (.cells #[.int .i64 (f q).1, .slice na (f q).2.length nc] 100)) = .ok (.slice (some ⟨g2, 0, none⟩) (q + 1) cap2) X) ∧
      Below wr.heap.size wr w1 ∧ Below S wr X ∧ Hid (LRow (C2 fun i => (f i).1) X S S 100 2 (.slice (some ⟨g2, 0, none⟩) (q + 1) cap2) (q + 1) (fun i => (f i).2) k' u') := by
  refine (l1Ints_more (w := wr.drew) hi hl).mono ?_
  rintro e w1 ⟨na, nc, rfl, hb1, ho1, hs1⟩
  obtain ⟨kb, hk1, hk2, hkf⟩ := ho1.one hs1
  obtain ⟨ti, hi, h1, h2, h3⟩ := Try.infoPut'
  have hk1' : wr.heap.size ≤ kb := hk1
  obtain ⟨g2, cap2, X, hr, _, hBX, _, hLX⟩ := LRow.append wr w1 47 47 100 ti _ 2 32 Try.underlying47 hi h1 h2 h3 rfl (by decide) (by decide) S S q _ _ k u hLR hsq hq ((Below.refl _ _).drew.trans hb1) na nc rfl (fun x hx => by simp [C2] at hx; rcases hx with rfl | rfl <;> rfl) kb (Nat.le_trans hsq hk1') hk2 (fun e => by have := (hLR.own.lt _ e).2; omega) (fun i hi e => by have := (hLR.lo i hi).2; omega) hkf
  exact ⟨na, nc, g2, cap2, X, _, _, rfl, hr, (Below.refl _ _).drew.trans hb1, hBX, hLX⟩

/-- What stands at the head of each round of the second loop. -/
def Copy2 (w : World) (S : Nat) (aB aC aX : Option Addr) (j cB nC cC cX : Nat) (bs : List (List Int)) (ps : List (Int × List Int)) (wq : World) (q : Nat) : Prop :=
  Below w.heap.size w wq ∧ S ≤ wq.heap.size ∧ Box2 wq w.heap.size (.slice aB j cB) (.slice aC nC cC) ∧ OwnRow wq (w.heap.size + 1) 2 (fun c => if c = 0 then .slice none 0 0 else .slice none 0 0) ∧ IntsSO wq (.slice aX j cX) bs (fun c => w.heap.size + 3 ≤ c ∧ c < S) ∧
    ∃ aY cY k u, OwnRow wq (w.heap.size + 2) 2 (fun c => if c = 0 then .slice aX j cX else .slice aY q cY) ∧ LRow (C2 fun i => (ps[i]?.getD (0, [])).1) wq S S 100 2 (.slice aY q cY) q (fun i => (ps[i]?.getD (0, [])).2) k u
theorem Copy2.next {w : World} {S : Nat} {aB aC aX : Option Addr} {j cB nC cC cX : Nat} {bs : List (List Int)} {ps : List (Int × List Int)} {wr X : World} {q g2 cap2 : Nat} {k' : Nat → Nat} {u' : Nat → Value} (hS : w.heap.size + 3 ≤ S)
    (h : Copy2 w S aB aC aX j cB nC cC cX bs ps wr q) (hX : Below S wr X) (hL : LRow (C2 fun i => (ps[i]?.getD (0, [])).1) X S S 100 2 (.slice (some ⟨g2, 0, none⟩) (q + 1) cap2) (q + 1) (fun i => (ps[i]?.getD (0, [])).2) k' u') :
    Copy2 w S aB aC aX j cB nC cC cX bs ps (X.setCell ⟨w.heap.size + 2, 1, none⟩ (.slice (some ⟨g2, 0, none⟩) (q + 1) cap2)) (q + 1) := by
  obtain ⟨h1, h2, h3, h4, h5, aY, cY, k, u, h6, h7⟩ := h
  refine ⟨(h1.trans (hX.mono (by omega))).setCell (by simp) _, ?_, ?_, (h4.block (hX.block _ (by omega))).store (by simp) _, (h5.keep fun b hb hlt => hX.block b (by omega)).store (fun b hb => by simp; omega) _, some ⟨g2, 0, none⟩, cap2, k', u', ((h6.block (hX.block _ (by omega))).set 1 _).congr fun c hc => ?_, hL.store (by simp; omega) (by simp; omega) _⟩
  · have := hX.size; simp [World.setCell]; omega
  · have hb := World.cell?_of_block (w := X) (a := ⟨w.heap.size, 0, none⟩) (Below.heap_setCell X ⟨w.heap.size + 2, 1, none⟩ (.slice (some ⟨g2, 0, none⟩) (q + 1) cap2) w.heap.size (by simp))
    have hb' := World.cell?_of_block (w := X) (a := ⟨w.heap.size, 1, none⟩) (Below.heap_setCell X ⟨w.heap.size + 2, 1, none⟩ (.slice (some ⟨g2, 0, none⟩) (q + 1) cap2) w.heap.size (by simp))
    exact ⟨hb.trans ((hX.cell (p := ⟨w.heap.size, 0, none⟩) (by simp; omega)).trans h3.1), hb'.trans ((hX.cell (p := ⟨w.heap.size, 1, none⟩) (by simp; omega)).trans h3.2)⟩
  · have : c = 0 ∨ c = 1 := by omega
    rcases this with rfl | rfl <;> simp

end Go.Proofs.Ytagmmgcdebgfnaa

namespace Go.Proofs.Ytagmmgcdebgfnaa
open Go.RowKit
set_option maxRecDepth 100000

/-- Where the bits of a list lie. -/
def AtBs (w : World) (a : Option Addr) (n : Nat) (pb : List Bool) : Prop := ∀ k, k < n → ∃ b off, a = some ⟨b, off, none⟩ ∧ w.cell? ⟨b, off + k, none⟩ = some (.bool (pb[k]?.getD false))
theorem AtBs.later {w w' : World} {a : Option Addr} {n : Nat} {pb : List Bool} (h : AtBs w a n pb) (hb : Below w.heap.size w w') : AtBs w' a n pb := fun k hk => by
  obtain ⟨b, off, e, c⟩ := h k hk
  exact ⟨b, off, e, cell_later hb c⟩

end Go.Proofs.Ytagmmgcdebgfnaa

namespace Go.Proofs.Ytagmmgcdebgfnaa
open Go.RowKit
set_option maxRecDepth 100000

/-- What 'append' of one element comes to, and where the row lies behind it. -/
theorem LRow.append2 {C : Nat → Value → List Value} (w w1 : World) (t ty e : TypeId) (i : TypeInfo) (z : Value) (size bytes : Nat) (ht : Try.prog.underlying t = some (.slice e)) (hi : Try.prog.info? e = some i) (hz : i.zero = some z) (hsize : i.size = size) (hby : i.bytes = bytes) (hzs : z.cells.size = size) (hsz : 0 < size) (hbb : bytes ≤ 1000)
    (base lo n : Nat) (v : Value) (f : Nat → List Int) (k : Nat → Nat) (u : Nat → Value) (h : LRow C w base lo e size v n f k u) (hb : base ≤ w.heap.size) (hn : n ≤ 100000) (hb1 : Below w.heap.size w w1)
    (a : Option Addr) (c : Nat) (hlen : (C n (.slice a (f n).length c)).length = size) (hone : ∀ x ∈ C n (.slice a (f n).length c), x.oneCell' = true) (kb : Nat) (hk1 : lo ≤ kb) (hk2 : kb < w1.heap.size) (hk3 : v.ownBlock ≠ some kb) (hk4 : ∀ i, i < n → k i ≠ kb) (hf : IntsO w1 (.slice a (f n).length c) (f n) (fun x => x = kb)) :
    ∃ g cap X, (Builtin.append_ #[t, t] ty #[v, .slice (some ⟨w1.heap.size, 0, none⟩) 1 1]).run Try.prog (w1.alloc (.cells (C n (.slice a (f n).length c)).toArray e)) = .ok (.slice (some ⟨g, 0, none⟩) (n + 1) cap) X ∧
      (∀ b, b < w1.heap.size → v.ownBlock ≠ some b → X.heap[b]? = w1.heap[b]?) ∧ Below base w X ∧ w1.heap.size < X.heap.size ∧ (v.ownBlock = some g ∨ w1.heap.size < g) ∧
      LRow C X base lo e size (.slice (some ⟨g, 0, none⟩) (n + 1) cap) (n + 1) f (fun j => if j = n then kb else k j) (fun j => if j = n then .slice a (f n).length c else u j) := by
  have hsz1 := hb1.size
  have hbW : Below w.heap.size w (w1.alloc (.cells (C n (.slice a (f n).length c)).toArray e)) := hb1.trans ((later1 _ _).mono hb1.size)
  have hW := h.later hbW
  obtain ⟨g, cap, X, hr, ho, hg, hat, hgX⟩ := run_append_lies (P := Try.prog) (w1.alloc (.cells (C n (.slice a (f n).length c)).toArray e)) t ty base e i z size bytes ht hi hz hsize hby hzs hsz v n _ hW.own ⟨w1.heap.size, 0, none⟩ 1 1 (C n (.slice a (f n).length c)) (by rw [hlen, Nat.one_mul])
    (fun j x hx => by
      rw [add_plain', Nat.zero_add, new_cell]
      simpa using hx) hone (by decide) (by unfold maxLen; omega) (by have : (n + 1) * bytes ≤ 100001 * 1000 := Nat.mul_le_mul (by omega) hbb; omega) (by simp; omega) (w1.heap.size + 1) (by simp)
  have hrow : ∀ g, v.ownBlock = some g → g < w.heap.size := fun g hg => (h.own.lt g hg).2
  have hrowb : ∀ g, v.ownBlock = some g → base ≤ g := fun g hg => (h.own.lt g hg).1
  have hXb : ∀ b, b < w1.heap.size → v.ownBlock ≠ some b → X.heap[b]? = w1.heap[b]? := fun b hb' hne => (hg.block b (by simp; omega) (fun e => hne e.symm)).trans ((later1 _ _).block b hb')
  have hne : ∀ b, b < w1.heap.size → v.ownBlock ≠ some b → g ≠ b := by
    intro b hb' hb2 e
    subst e
    rcases hat with h | h
    · exact hb2 h
    · omega
  have old : ∀ b, b < w.heap.size → v.ownBlock ≠ some b → X.heap[b]? = w.heap[b]? := fun b hb' hne => (hXb b (by omega) hne).trans (hb1.block b hb')
  have hXs : w1.heap.size < X.heap.size := by have := hg.size; simp at this; omega
  refine ⟨g, cap, X, hr, hXb, (hbW.mono hb).trans (below_grown hg (by simp; omega) (fun g hg' => hrowb g hg')), hXs, hat.imp_right (fun h => by omega), ⟨?_, fun j hj => ?_, fun j hj => ?_, fun j j' hj hj' e => ?_, fun j hj => ?_, fun j hj => ?_⟩⟩
  · rw [List.range_succ, List.flatMap_append]
    have e1 : (List.range n).flatMap (fun i => C i (if i = n then .slice a (f n).length c else u i)) = (List.range n).flatMap (fun i => C i (u i)) := by
      have e0 : (List.range n).map (fun i => C i (if i = n then .slice a (f n).length c else u i)) = (List.range n).map (fun i => C i (u i)) := List.map_congr_left fun i hi => by rw [if_neg (by have := List.mem_range.1 hi; omega)]
      rw [List.flatMap_def, List.flatMap_def, e0]
    have e2 : [n].flatMap (fun i => C i (if i = n then .slice a (f n).length c else u i)) = C n (.slice a (f n).length c) := by simp only [List.flatMap_cons, List.flatMap_nil, List.append_nil, if_true]
    rw [e1, e2]
    exact ho
  · by_cases e : j = n
    · subst e; simp; omega
    · have := h.lo j (by omega); simp [e]; omega
  · by_cases e : j = n
    · subst e
      simp only [if_true]
      exact fun e => hne kb hk2 hk3 (by simpa [Value.ownBlock] using e)
    · have hj' : j < n := by omega
      have hl := h.lo j hj'
      simp only [e, if_false]
      exact fun e => hne (k j) (by omega) (h.ne j hj') (by simpa [Value.ownBlock] using e)
  · by_cases e1 : j = n
    · by_cases e2 : j' = n
      · omega
      · simp [e1, e2]; exact fun e => hk4 j' (by omega) e.symm
    · by_cases e2 : j' = n
      · simp [e1, e2]; exact hk4 j (by omega)
      · simp [e1, e2]; exact h.inj j j' (by omega) (by omega) e
  · by_cases e : j = n
    · subst e; exact ⟨a, c, by simp⟩
    · simp only [e, if_false]; exact h.sh j (by omega)
  · by_cases e : j = n
    · subst e
      simp only [if_true]
      exact hf.keep fun b hb' hlt' => by rw [hb']; exact hXb kb hk2 hk3
    · have hj' : j < n := by omega
      simp only [e, if_false]
      exact (h.at' j hj').keep fun b hb' hlt' => by rw [hb']; exact old _ (h.lo j hj').2 (h.ne j hj')


theorem LRow.congr2 {a a' : Nat → Int} {w : World} {base lo : Nat} {e : TypeId} {size : Nat} {v : Value} {n : Nat} {f f' : Nat → List Int} {k : Nat → Nat} {u : Nat → Value} (h : LRow (C2 a) w base lo e size v n f k u) (ha : ∀ i, i < n → a i = a' i) (hf : ∀ i, i < n → f i = f' i) : LRow (C2 a') w base lo e size v n f' k u := by
  refine ⟨?_, h.lo, h.ne, h.inj, fun i hi => by rw [← hf i hi]; exact h.sh i hi, fun i hi => by rw [← hf i hi]; exact h.at' i hi⟩
  have e0 : (List.range n).map (fun i => C2 a i (u i)) = (List.range n).map (fun i => C2 a' i (u i)) := List.map_congr_left fun i hi => by unfold C2; rw [ha i (List.mem_range.1 hi)]
  have := h.own
  rw [List.flatMap_def, e0, ← List.flatMap_def] at this
  exact this

/-- The copy of a put's words, and what appending that put comes to: in one contract; blocks that are neither the row's nor new stay. -/
theorem l1Ints_put2 (wr : World) (S q : Nat) (v uv : Value) (f : Nat → Int × List Int) (k : Nat → Nat) (u : Nat → Value) (hLR : LRow (C2 fun i => (f i).1) wr S S 100 2 v q (fun i => (f i).2) k u) (hsq : S ≤ wr.heap.size) (hq : q ≤ 100000) (hi : Ints wr uv (f q).2) (hl : (f q).2.length ≤ 1048576) :
    Calls Try.prog 95 #[uv] wr.drew fun e w1 => ∃ na nc g2 cap2 X k' u', e = .returned (.slice na (f q).2.length nc) ∧
      Hid ((Builtin.append_ #[47, 47] 47 #[v, .slice (some ⟨w1.heap.size, 0, none⟩) 1 1]).run Try.prog (w1.alloc (.cells #[.int .i64 (f q).1, .slice na (f q).2.length nc] 100)) = .ok (.slice (some ⟨g2, 0, none⟩) (q + 1) cap2) X) ∧
      Below wr.heap.size wr w1 ∧ (∀ b, b < wr.heap.size → v.ownBlock ≠ some b → X.heap[b]? = wr.heap[b]?) ∧ wr.heap.size ≤ X.heap.size ∧ (v.ownBlock = some g2 ∨ wr.heap.size < g2) ∧ (∀ i, i < q + 1 → k' i = k i ∧ i < q ∨ wr.heap.size ≤ k' i) ∧ Below S wr X ∧ Hid (LRow (C2 fun i => (f i).1) X S S 100 2 (.slice (some ⟨g2, 0, none⟩) (q + 1) cap2) (q + 1) (fun i => (f i).2) k' u') := by
  refine (l1Ints_more (w := wr.drew) hi hl).mono ?_
  rintro e w1 ⟨na, nc, rfl, hb1, ho1, hs1⟩
  obtain ⟨kb, hk1, hk2, hkf⟩ := ho1.one hs1
  obtain ⟨ti, hi, h1, h2, h3⟩ := Try.infoPut'
  have hk1' : wr.heap.size ≤ kb := hk1
  have hs1' : wr.heap.size < w1.heap.size := hs1
  obtain ⟨g2, cap2, X, hr, hXb, hBX, hXs, hat, hLX⟩ := LRow.append2 wr w1 47 47 100 ti _ 2 32 Try.underlying47 hi h1 h2 h3 rfl (by decide) (by decide) S S q _ _ k u hLR hsq hq ((Below.refl _ _).drew.trans hb1) na nc rfl (fun x hx => by simp [C2] at hx; rcases hx with rfl | rfl <;> rfl) kb (Nat.le_trans hsq hk1') hk2 (fun e => by have := (hLR.own.lt _ e).2; omega) (fun i hi e => by have := (hLR.lo i hi).2; omega) hkf
  refine ⟨na, nc, g2, cap2, X, _, _, rfl, hr, (Below.refl _ _).drew.trans hb1, fun b hb hne => (hXb b (by omega) hne).trans (hb1.block b hb), by omega, hat.imp_right (fun h => by omega), fun i hi => ?_, hBX, hLX⟩
  by_cases e : i = q
  · right; simp [e]; exact hk1'
  · left; simp [e]; omega

end Go.Proofs.Ytagmmgcdebgfnaa

namespace Go.Proofs.Ytagmmgcdebgfnaa
open Go.RowKit
set_option maxRecDepth 100000

def putCode (bs : List (List Int)) (ps : List (Int × List Int)) (x : Int) (ws : List Int) : Int :=
  if placeF bs ps x = 0 then (if wordsF ws = 0 then (if 200 ≤ ps.length then 2 else 0) else wordsF ws) else placeF bs ps x
def putBlocks (bs : List (List Int)) (ps : List (Int × List Int)) (x : Int) (ws : List Int) : List (List Int) := if putCode bs ps x ws = 0 then bs else []
def putCache (bs : List (List Int)) (ps : List (Int × List Int)) (x : Int) (ws : List Int) : List (Int × List Int) := if putCode bs ps x ws = 0 then ps ++ [(x, ws)] else []

theorem three (w : World) (x y z : Value) (t : TypeId) : OwnRow (w.alloc (.cells #[x, y, z] t)) w.heap.size 3 (fun i => if i = 0 then x else if i = 1 then y else z) := by
  refine ⟨_, t, Go.Deep.blk_alloc_new _ _, by simp, fun i hi => ?_⟩
  have : i = 0 ∨ i = 1 ∨ i = 2 := by omega
  rcases this with rfl | rfl | rfl <;> simp

end Go.Proofs.Ytagmmgcdebgfnaa

namespace Go.Proofs.Ytagmmgcdebgfnaa
open Go.RowKit
set_option maxRecDepth 100000

theorem faultF_places {bs : List (List Int)} {ps : List (Int × List Int)} (h : faultF bs ps = 0) : ∀ k, k < ps.length → ∃ x : Nat, (ps[k]?.getD (0, [])).1 = x ∧ x < bs.length := by
  have g := faultF_lens h
  have hb : ∀ n, ∀ i : Nat, i < n → i < bs.length → wordsF (bs[i]?.getD []) = 0 := by
    intro n
    induction n with
    | zero => intro i hi; omega
    | succ n ih =>
      intro i hi hl
      by_cases e : wordsF (bs[i]?.getD []) = 0
      · exact e
      · exact absurd (faultF_block (ps := ps) (by omega) hl (fun j hj => ih j (by omega) (by omega)) e) (by rw [h]; exact fun e' => e e'.symm)
  have hp : ∀ n, ∀ i : Nat, i < n → i < ps.length → putF bs.length (ps[i]?.getD (0, [])) = 0 := by
    intro n
    induction n with
    | zero => intro i hi; omega
    | succ n ih =>
      intro i hi hl
      by_cases e : putF bs.length (ps[i]?.getD (0, [])) = 0
      · exact e
      · exact absurd (faultF_put (by omega) (fun j hj => hb (j + 1) j (by omega) hj) hl (fun j hj => ih j (by omega) (by omega)) e) (by rw [h]; exact fun e' => e e'.symm)
  intro k hk
  have := hp (k + 1) k (by omega) hk
  unfold putF at this
  split at this
  · rename_i hq
    unfold placeB at hq
    simp only [decide_eq_true_eq] at hq
    exact ⟨(ps[k]?.getD (0, [])).1.toNat, by omega, by omega⟩
  · omega

/-- What a flush or a crash leaves in the blocks. -/
def keepBlocks (pk : Nat → Bool) (bs : List (List Int)) (ps : List (Int × List Int)) : List (List Int) := if faultF bs ps = 0 then keepTo pk bs ps ps.length else []

end Go.Proofs.Ytagmmgcdebgfnaa

namespace Go.Proofs.Ytagmmgcdebgfnaa
open Go.RowKit
set_option maxRecDepth 100000

theorem LRow.puts2 {w : World} {base lo : Nat} {e : TypeId} {v : Value} {n : Nat} {k : Nat → Nat} {u : Nat → Value} {ps : List (Int × List Int)} (h : LRow (C2 fun i => (ps[i]?.getD (0, [])).1) w base lo e 2 v n (fun i => (ps[i]?.getD (0, [])).2) k u) (hn : ps.length = n) (F : Nat → Prop) (hF : ∀ g, v.ownBlock = some g → F g) (hF' : ∀ i, i < n → F (k i)) : PutsO w v ps F := by
  subst hn
  by_cases h0 : ps.length = 0
  · obtain ⟨a, c, rfl⟩ := h.shape
    exact Or.inl ⟨List.eq_nil_of_length_eq_zero h0, a, c, by rw [h0]⟩
  · obtain ⟨g, cap, rfl, _, _, hm, hrow⟩ := h.cells (by decide) (fun _ => rfl) (by omega)
    refine Or.inr ⟨g, cap, u, fun i c => i < ps.length ∧ c = k i, hF g rfl, fun i c hc => ?_, fun i j c e h1 h2 => h.inj i j h1.1 h2.1 e (h1.2.symm.trans h2.2), rfl, hm, ?_, fun i hi => (h.at' i hi).mono fun c hc => ⟨hi, hc⟩⟩
    · have hne := h.ne i hc.1
      rw [hc.2]
      exact ⟨hF' i hc.1, fun e => hne (by simp [Value.ownBlock, e])⟩
    · refine hrow.congr fun c hc => ?_
      unfold putCell C2
      rcases Nat.mod_two_eq_zero_or_one c with h | h <;> simp [h]

/-- The puts, and one more. -/
def more (ps : List (Int × List Int)) (x : Int) (ws : List Int) (i : Nat) : Int × List Int := (ps ++ [(x, ws)])[i]?.getD (0, [])
theorem more_old {ps : List (Int × List Int)} {x : Int} {ws : List Int} {i : Nat} (h : i < ps.length) : more ps x ws i = ps[i]?.getD (0, []) := by unfold more; rw [List.getElem?_append_left h]
theorem more_new {ps : List (Int × List Int)} {x : Int} {ws : List Int} : more ps x ws ps.length = (x, ws) := by unfold more; simp

end Go.Proofs.Ytagmmgcdebgfnaa

namespace Go.Proofs.Ytagmmgcdebgfnaa
open Go.RowKit
set_option maxRecDepth 100000

theorem IntsSO.row {w : World} {g n cap : Nat} {zss : List (List Int)} {F : Nat → Prop} (h : IntsSO w (.slice (some ⟨g, 0, none⟩) n cap) zss F) (h0 : 0 < zss.length) : ∃ u, OwnRow w g n u ∧ F g ∧ ∀ i, i < n → ∃ ua un uc, u i = .slice ua un uc := by
  rcases h with ⟨h, _⟩ | ⟨b, cap', u, G, hFb, _, _, h1, _, h3, h4⟩
  · subst h; simp at h0
  · simp only [Value.slice.injEq, Option.some.injEq, Addr.mk.injEq, and_true] at h1
    obtain ⟨rfl, rfl, rfl⟩ := h1
    refine ⟨u, h3, hFb, fun i hi => ?_⟩
    rcases h4 i hi with ⟨_, a, c, e⟩ | ⟨_, _, _, e, _⟩
    · exact ⟨_, _, _, e⟩
    · exact ⟨_, _, _, e⟩
theorem AtBs.set {w X : World} {a : Option Addr} {n g x : Nat} {v : Value} {pb : List Bool} (h : AtBs w a n pb) (hb : Below w.heap.size w X) (hg : ∀ b off, a = some ⟨b, off, none⟩ → b ≠ g) : AtBs (X.setCell ⟨g, x, none⟩ v) a n pb := fun k hk => by
  obtain ⟨b, off, e, c⟩ := h k hk
  exact ⟨b, off, e, (World.cell?_of_block (w := X) (Below.heap_setCell _ _ _ _ (hg b off e))).trans (cell_later hb c)⟩

end Go.Proofs.Ytagmmgcdebgfnaa

namespace Go.Proofs.Ytagmmgcdebgfnaa
open Go.RowKit
set_option maxRecDepth 100000

theorem Try.infoBool : (Try.prog.info? 4).map (fun i => (i.zero, i.size, i.bytes)) = some (some (.bool false), 1, 1) := by kernel_rfl

theorem keepTo_congr {pk pk' : Nat → Bool} {bs : List (List Int)} {ps : List (Int × List Int)} (n : Nat) (h : ∀ i, i < n → pk i = pk' i) : keepTo pk bs ps n = keepTo pk' bs ps n := by
  induction n with
  | zero => rfl
  | succ n ih =>
    unfold keepTo
    rw [ih fun i hi => h i (by omega), h n (by omega)]

end Go.Proofs.Ytagmmgcdebgfnaa

namespace Go.Proofs.Ytagmmgcdebgfnaa
open Go.RowKit
set_option maxRecDepth 100000

def Bools (w : World) (v : Value) (zs : List Bool) : Prop :=
  (zs = [] ∧ ∃ a cap, v = .slice a 0 cap) ∨
  (∃ b off cap, v = .slice (some ⟨b, off, none⟩) zs.length cap ∧ zs.length ≤ maxLen ∧ ∀ k, k < zs.length → w.cell? ⟨b, off + k, none⟩ = some (.bool (zs[k]?.getD false)))
theorem Bools.later {w wx : World} {v : Value} {zs : List Bool} (h : Bools w v zs) (hb : Below w.heap.size w wx) : Bools wx v zs := by
  rcases h with h | ⟨b, off, cap, h1, h2, h3⟩
  · exact Or.inl h
  · exact Or.inr ⟨b, off, cap, h1, h2, fun k hk => cell_later hb (h3 k hk)⟩
theorem Bools.open' {w : World} {v : Value} {zs : List Bool} (h : Bools w v zs) : ∃ a cap, v = .slice a zs.length cap ∧ zs.length ≤ maxLen ∧ AtBs w a zs.length zs := by
  rcases h with ⟨rfl, a, cap, rfl⟩ | ⟨b, off, cap, rfl, hl, hc⟩
  · exact ⟨a, cap, rfl, by simp, fun k hk => by simp at hk⟩
  · exact ⟨_, cap, rfl, hl, fun k hk => ⟨b, off, rfl, hc k hk⟩⟩
/-- .. in one block of F. -/
def BoolsO (w : World) (v : Value) (zs : List Bool) (F : Nat → Prop) : Prop :=
  (zs = [] ∧ ∃ a cap, v = .slice a 0 cap) ∨
  (∃ b cap, F b ∧ v = .slice (some ⟨b, 0, none⟩) zs.length cap ∧ zs.length ≤ maxLen ∧ OwnRow w b zs.length (fun i => .bool (zs[i]?.getD false)))
theorem BoolsO.reads {w : World} {v : Value} {zs : List Bool} {F : Nat → Prop} (h : BoolsO w v zs F) : Bools w v zs := by
  rcases h with h | ⟨b, cap, _, h1, h2, h3⟩
  · exact Or.inl h
  · exact Or.inr ⟨b, 0, cap, h1, h2, fun k hk => by rw [Nat.zero_add]; exact h3.cell hk⟩
theorem BoolsO.keep {w w' : World} {v : Value} {zs : List Bool} {F : Nat → Prop} (h : BoolsO w v zs F) (e : ∀ b, F b → b < w.heap.size → w'.heap[b]? = w.heap[b]?) : BoolsO w' v zs F := by
  rcases h with h | ⟨b, cap, hF, h1, h2, h3⟩
  · exact Or.inl h
  · exact Or.inr ⟨b, cap, hF, h1, h2, h3.block (e b hF h3.lt)⟩
theorem BoolsO.mono {w : World} {v : Value} {zs : List Bool} {F G : Nat → Prop} (h : BoolsO w v zs F) (e : ∀ b, F b → G b) : BoolsO w v zs G := by
  rcases h with h | ⟨b, cap, hF, h1⟩
  · exact Or.inl h
  · exact Or.inr ⟨b, cap, e b hF, h1⟩
theorem BoolsO.later {w w' : World} {v : Value} {zs : List Bool} {F : Nat → Prop} (h : BoolsO w v zs F) (hb : Below w.heap.size w w') : BoolsO w' v zs F := h.keep fun b _ hlt => hb.block b hlt
theorem BoolsO.chg {w w' : World} {v : Value} {zs : List Bool} {F G : Nat → Prop} (h : BoolsO w v zs F) (hc : Chg G w w') (hd : ∀ b, F b → ¬ G b) : BoolsO w' v zs F := h.keep fun b hb hlt => hc.block b hlt (hd b hb)

theorem row_bool {w : World} {b n : Nat} {f : Nat → Bool} (h : OwnRow w b n (fun i => .bool (f i))) (j : Nat) (x : Bool) : ∃ g : Nat → Bool, OwnRow (w.setCell ⟨b, j, none⟩ (.bool x)) b n (fun i => .bool (g i)) :=
  ⟨fun i => if i = j then x else f i, (h.set j _).congr fun i _ => by by_cases e : i = j <;> simp [e]⟩

end Go.Proofs.Ytagmmgcdebgfnaa

namespace Go.Proofs.Ytagmmgcdebgfnaa
open Go.RowKit
set_option maxRecDepth 100000

def setB (g : Nat → Bool) (x : Int) : Nat → Bool := fun i => if i = x.toNat then true else g i
theorem setB_mono {g : Nat → Bool} {i : Nat} (h : g i = true) (x : Int) : setB g x i = true := by unfold setB; by_cases e : i = x.toNat <;> simp [e, h]
theorem foldB_mono {i : Nat} : ∀ (xs : List Int) {g : Nat → Bool}, g i = true → (xs.foldl setB g) i = true
  | [], _, h => h
  | x :: xs, _, h => foldB_mono xs (setB_mono h x)
theorem foldB_next (xs : List Int) (g : Nat → Bool) (k : Nat) (h : k < xs.length) : (xs.take (k + 1)).foldl setB g = setB ((xs.take k).foldl setB g) (xs[k]?.getD 0) := by
  rw [List.take_succ_eq_append_getElem h, List.foldl_append]; simp [h]
def inoB (ds : List ID) (g : Nat → Bool) (i : Nat) : Nat → Bool := if g i = true then (entI (ds[i]?.getD id0).2.2.2.2).foldl setB g else g
def sweepB (ds : List ID) (g : Nat → Bool) : Nat → Nat → Bool
  | 0 => g
  | i + 1 => inoB ds (sweepB ds g i) i
def reachG (ds : List ID) : Nat → Nat → Bool
  | 0 => fun i => decide (i = 0)
  | r + 1 => sweepB ds (reachG ds r) ds.length

end Go.Proofs.Ytagmmgcdebgfnaa

namespace Go.Proofs.Ytagmmgcdebgfnaa
open Go.RowKit
set_option maxRecDepth 100000

/-- What can be reached from a place; from the top. -/
inductive RT (E : Nat → List Int) (t : Nat) : Nat → Prop
  | zero : RT E t t
  | step {i : Nat} {x : Int} : RT E t i → x ∈ E i → RT E t x.toNat
abbrev RP (E : Nat → List Int) : Nat → Prop := RT E 0
def entsOf (ds : List ID) (i : Nat) : List Int := entI (ds[i]?.getD id0).2.2.2.2

theorem foldB_sound {Q : Nat → Prop} : ∀ (xs : List Int) {g : Nat → Bool}, (∀ i, g i = true → Q i) → (∀ x ∈ xs, Q x.toNat) → ∀ i, (xs.foldl setB g) i = true → Q i
  | [], _, hg, _, i, h => hg i h
  | x :: xs, g, hg, hx, i, h => foldB_sound xs (g := setB g x) (fun j hj => by
      unfold setB at hj
      by_cases e : j = x.toNat
      · rw [e]; exact hx x (by simp)
      · rw [if_neg e] at hj; exact hg j hj) (fun y hy => hx y (by simp [hy])) i h
theorem foldB_has : ∀ (xs : List Int) {g : Nat → Bool} {x : Int}, x ∈ xs → (xs.foldl setB g) x.toNat = true
  | y :: xs, g, x, h => by
    rcases List.mem_cons.1 h with rfl | h
    · exact foldB_mono xs (by simp [setB])
    · exact foldB_has xs h
theorem inoB_mono {ds : List ID} {g : Nat → Bool} {i j : Nat} (h : g i = true) : inoB ds g j i = true := by
  unfold inoB
  split
  · exact foldB_mono _ h
  · exact h
theorem sweepB_mono {ds : List ID} {g : Nat → Bool} {i : Nat} (h : g i = true) : ∀ j, sweepB ds g j i = true
  | 0 => h
  | j + 1 => inoB_mono (sweepB_mono h j)
theorem sweepB_later {ds : List ID} {g : Nat → Bool} {i j : Nat} (h : sweepB ds g j i = true) : ∀ k, sweepB ds g (j + k) i = true
  | 0 => h
  | k + 1 => inoB_mono (sweepB_later h k)
theorem sweepB_sound {ds : List ID} {g : Nat → Bool} (hg : ∀ i, g i = true → RP (entsOf ds) i) : ∀ j i, sweepB ds g j i = true → RP (entsOf ds) i
  | 0, i, h => hg i h
  | j + 1, i, h => by
    have h' : inoB ds (sweepB ds g j) j i = true := h
    unfold inoB at h'
    by_cases e : sweepB ds g j j = true
    · rw [if_pos e] at h'
      exact foldB_sound _ (sweepB_sound hg j) (fun x hx => .step (sweepB_sound hg j j e) hx) i h'
    · rw [if_neg e] at h'
      exact sweepB_sound hg j i h'
theorem sweepB_step {ds : List ID} {g : Nat → Bool} {i n : Nat} {x : Int} (hi : i < n) (hg : g i = true) (hx : x ∈ entsOf ds i) : sweepB ds g n x.toNat = true := by
  have h1 : sweepB ds g (i + 1) x.toNat = true := by
    show inoB ds (sweepB ds g i) i x.toNat = true
    unfold inoB
    rw [if_pos (sweepB_mono hg i)]
    exact foldB_has _ hx
  have h2 := sweepB_later h1 (n - (i + 1))
  rwa [show i + 1 + (n - (i + 1)) = n by omega] at h2
theorem reachG_sound {ds : List ID} : ∀ r i, reachG ds r i = true → RP (entsOf ds) i
  | 0, i, h => by
    have : i = 0 := by simpa [reachG] using h
    rw [this]; exact .zero
  | r + 1, i, h => sweepB_sound (reachG_sound r) _ i h
theorem reachG_mono {ds : List ID} {i r : Nat} (h : reachG ds r i = true) : ∀ k, reachG ds (r + k) i = true
  | 0 => h
  | k + 1 => sweepB_mono (reachG_mono h k) _
def cntG (g : Nat → Bool) : Nat → Nat
  | 0 => 0
  | n + 1 => cntG g n + if g n = true then 1 else 0
theorem cntG_le (g : Nat → Bool) : ∀ n, cntG g n ≤ n
  | 0 => Nat.le_refl _
  | n + 1 => by have := cntG_le g n; unfold cntG; split <;> omega
theorem cntG_mono {g g' : Nat → Bool} (h : ∀ i, g i = true → g' i = true) : ∀ n, cntG g n ≤ cntG g' n
  | 0 => Nat.le_refl _
  | n + 1 => by
    have := cntG_mono h n
    unfold cntG
    by_cases e : g n = true
    · rw [if_pos e, if_pos (h n e)]; omega
    · rw [if_neg e]; split <;> omega
theorem cntG_lt {g g' : Nat → Bool} (h : ∀ i, g i = true → g' i = true) {j : Nat} (h1 : g' j = true) (h0 : ¬ g j = true) : ∀ n, j < n → cntG g n < cntG g' n
  | n + 1, hj => by
    unfold cntG
    by_cases e : j = n
    · subst e
      have := cntG_mono h j
      rw [if_neg h0, if_pos h1]; omega
    · have := cntG_lt h h1 h0 n (by omega)
      by_cases e2 : g n = true
      · rw [if_pos e2, if_pos (h n e2)]; omega
      · rw [if_neg e2]; split <;> omega
def closedB (ds : List ID) (g : Nat → Bool) : Prop := ∀ i, i < ds.length → g i = true → ∀ x ∈ entsOf ds i, x.toNat < ds.length → g x.toNat = true
theorem reachG_closes (ds : List ID) (h0 : 0 < ds.length) : ∀ r, (∃ q, q ≤ r ∧ closedB ds (reachG ds q)) ∨ r + 1 ≤ cntG (reachG ds r) ds.length
  | 0 => by
    right
    have := cntG_lt (g := fun _ => false) (g' := reachG ds 0) (by simp) (j := 0) (by simp [reachG]) (by simp) ds.length h0
    omega
  | r + 1 => by
    rcases reachG_closes ds h0 r with ⟨q, hq, hc⟩ | h
    · exact Or.inl ⟨q, by omega, hc⟩
    · by_cases hc : closedB ds (reachG ds r)
      · exact Or.inl ⟨r, by omega, hc⟩
      · right
        have hm : ∀ i, reachG ds r i = true → reachG ds (r + 1) i = true := fun i hi => reachG_mono hi 1
        have : ∃ j, j < ds.length ∧ reachG ds (r + 1) j = true ∧ ¬ reachG ds r j = true := by
          apply Classical.byContradiction
          intro hno
          apply hc
          intro i hi hg x hx hxl
          apply Classical.byContradiction
          intro hn
          exact hno ⟨x.toNat, hxl, sweepB_step hi hg hx, hn⟩
        obtain ⟨j, hj, h1, h2⟩ := this
        have := cntG_lt hm h1 h2 ds.length hj
        omega
def inRange (ds : List ID) : Prop := ∀ i, i < ds.length → ∀ x ∈ entsOf ds i, 0 ≤ x ∧ x < (ds.length : Int)
theorem RT.lt {ds : List ID} {t : Nat} (hr : inRange ds) (h0 : t < ds.length) {i : Nat} (h : RT (entsOf ds) t i) : i < ds.length := by
  induction h with
  | zero => exact h0
  | step _ hx ih => have := hr _ ih _ hx; omega
/-- After as many rounds as there are inodes just what can be reached is marked. -/
theorem reachG_iff {ds : List ID} (hr : inRange ds) (h0 : 0 < ds.length) (i : Nat) : reachG ds ds.length i = true ↔ RP (entsOf ds) i := by
  refine ⟨reachG_sound _ i, fun h => ?_⟩
  rcases reachG_closes ds h0 ds.length with ⟨q, hq, hc⟩ | hbig
  · have key : reachG ds q i = true := by
      induction h with
      | zero => have := reachG_mono (ds := ds) (i := 0) (r := 0) (by simp [reachG]) q; rwa [Nat.zero_add] at this
      | step hp hx ih => exact hc _ (hp.lt hr h0) ih _ hx (by have := hr _ (hp.lt hr h0) _ hx; omega)
    have := reachG_mono key (ds.length - q)
    rwa [show q + (ds.length - q) = ds.length by omega] at this
  · have := cntG_le (reachG ds ds.length) ds.length
    omega

theorem nodup_len : ∀ (n : Nat) (h : List Nat), h.Nodup → (∀ i ∈ h, i < n) → h.length ≤ n
  | 0, h, _, hl => by
    match h, hl with
    | [], _ => simp
    | a :: _, hl => exact absurd (hl a (by simp)) (by omega)
  | n + 1, h, hd, hl => by
    have h1 := nodup_len n (h.erase n) (hd.erase n) (fun i hi => by
      have hne := (hd.mem_erase_iff.1 hi).1
      have := hl i (List.mem_of_mem_erase hi)
      omega)
    rw [List.length_erase] at h1
    split at h1 <;> omega

/-- The program's way: h is what was met, in that order; p of it are done, and k entries of the next one; m is how often each was met. -/
structure Bfs (E : Nat → List Int) (n : Nat) (h : List Nat) (p k : Nat) (m : Int → Int) (t : Nat) : Prop where
  nd : h.Nodup
  lt : ∀ i ∈ h, i < n
  rp : ∀ i ∈ h, RT E t i
  top : t ∈ h
  le : p ≤ h.length
  pos : ∀ i : Nat, 0 < m (i : Int) ↔ i ∈ h
  nn : ∀ x, 0 ≤ m x
  clo : ∀ q, q < p → ∀ x ∈ E (h[q]?.getD 0), x.toNat ∈ h
  cur : ∀ x ∈ (E (h[p]?.getD 0)).take k, x.toNat ∈ h
  bd : ∀ x, m x ≤ 1 + 6 * p + k
def putM (m : Int → Int) (x v : Int) : Int → Int := fun y => if y = x then v else m y
theorem Bfs.init (E : Nat → List Int) (n t : Nat) (hn : t < n) : Bfs E n [t] 0 0 (putM (fun _ => 0) (t : Int) 1) t where
  nd := by simp
  lt := by simpa using hn
  rp := by intro i hi; rw [List.mem_singleton.1 hi]; exact .zero
  top := by simp
  le := by simp
  pos := fun i => by
    unfold putM
    by_cases e : (i : Int) = (t : Int)
    · rw [if_pos e]
      have : i = t := by omega
      simp [this]
    · rw [if_neg e]
      simp; omega
  nn := fun x => by unfold putM; by_cases e : x = (t : Int) <;> simp [e]
  clo := fun q hq => by omega
  cur := by simp
  bd := fun x => by unfold putM; by_cases e : x = (t : Int) <;> simp [e]
theorem Bfs.len {E : Nat → List Int} {n : Nat} {h : List Nat} {p k : Nat} {m : Int → Int} {t : Nat} (b : Bfs E n h p k m t) : h.length ≤ n := nodup_len n h b.nd b.lt
theorem Bfs.bnd {E : Nat → List Int} {n : Nat} {h : List Nat} {p k : Nat} {m : Int → Int} {t : Nat} (b : Bfs E n h p k m t) (hn : n ≤ 10) (hk : k ≤ 6) (x : Int) : 0 ≤ m x ∧ m x ≤ 67 := by
  have h1 := b.bd x
  have h2 := b.len
  have h3 := b.le
  exact ⟨b.nn x, by omega⟩
theorem take_mem_succ {α : Type} {l : List α} {k : Nat} {a x : α} (hk : l[k]? = some a) (hx : x ∈ l.take (k + 1)) : x ∈ l.take k ∨ x = a := by
  have hlt := (List.getElem?_eq_some_iff.1 hk).1
  rw [List.take_succ_eq_append_getElem hlt] at hx
  rcases List.mem_append.1 hx with h | h
  · exact Or.inl h
  · right
    rw [List.mem_singleton.1 h]
    exact (List.getElem?_eq_some_iff.1 hk).2
theorem Bfs.old {E : Nat → List Int} {n : Nat} {h : List Nat} {p k : Nat} {m : Int → Int} {t : Nat} (b : Bfs E n h p k m t) {x : Int} (hx : (E (h[p]?.getD 0))[k]? = some x) (hx0 : 0 ≤ x) (hm : ¬ m x + 1 = 1) : Bfs E n h p (k + 1) (putM m x (m x + 1)) t := by
  have hmx := b.nn x
  have hxn : ((x.toNat : Nat) : Int) = x := by omega
  have hin : x.toNat ∈ h := (b.pos x.toNat).1 (by rw [hxn]; omega)
  refine ⟨b.nd, b.lt, b.rp, b.top, b.le, fun i => ?_, fun y => ?_, b.clo, fun y hy => ?_, fun y => ?_⟩
  · unfold putM
    by_cases e : (i : Int) = x
    · rw [if_pos e]
      have : i = x.toNat := by omega
      subst this
      exact ⟨fun _ => hin, fun _ => by omega⟩
    · rw [if_neg e]; exact b.pos i
  · unfold putM; split
    · omega
    · exact b.nn y
  · rcases take_mem_succ hx hy with hy | rfl
    · exact b.cur y hy
    · exact hin
  · have h1 := b.bd y
    have h2 := b.bd x
    unfold putM; split <;> omega
theorem Bfs.new {E : Nat → List Int} {n : Nat} {h : List Nat} {p k : Nat} {m : Int → Int} {t : Nat} (b : Bfs E n h p k m t) (hp : p < h.length) {x : Int} (hx : (E (h[p]?.getD 0))[k]? = some x) (hx0 : 0 ≤ x) (hxn : x < (n : Int)) (hm : m x + 1 = 1) : Bfs E n (h ++ [x.toNat]) p (k + 1) (putM m x (m x + 1)) t := by
  have hxe : ((x.toNat : Nat) : Int) = x := by omega
  have hni : ¬ x.toNat ∈ h := fun hin => by have := (b.pos x.toNat).2 hin; rw [hxe] at this; omega
  have hget : ∀ q, q < h.length → (h ++ [x.toNat])[q]?.getD 0 = h[q]?.getD 0 := fun q hq => by rw [List.getElem?_append_left hq]
  have hpin : h[p]?.getD 0 ∈ h := by rw [List.getElem?_eq_getElem hp]; exact List.getElem_mem hp
  have hle := b.le
  refine ⟨?_, fun i hi => ?_, fun i hi => ?_, by simp [b.top], by simp; omega, fun i => ?_, fun y => ?_, fun q hq y hy => ?_, fun y hy => ?_, fun y => ?_⟩
  · rw [List.nodup_append]
    exact ⟨b.nd, by simp, fun a ha c hc => by rw [List.mem_singleton.1 hc]; intro e; exact hni (e ▸ ha)⟩
  · rcases List.mem_append.1 hi with hi | hi
    · exact b.lt i hi
    · rw [List.mem_singleton.1 hi]; omega
  · rcases List.mem_append.1 hi with hi | hi
    · exact b.rp i hi
    · rw [List.mem_singleton.1 hi]
      exact .step (b.rp _ hpin) (List.mem_of_getElem? hx)
  · unfold putM
    by_cases e : (i : Int) = x
    · rw [if_pos e]
      have : i = x.toNat := by omega
      subst this
      simp; omega
    · rw [if_neg e, b.pos i]
      simp; intro e2; exact absurd (by omega) e
  · unfold putM; split
    · omega
    · exact b.nn y
  · rw [hget q (by omega)] at hy
    exact List.mem_append_left _ (b.clo q hq y hy)
  · rw [hget p hp] at hy
    rcases take_mem_succ hx hy with hy | rfl
    · exact List.mem_append_left _ (b.cur y hy)
    · simp
  · have h1 := b.bd y
    have h2 := b.bd x
    unfold putM; split <;> omega
theorem Bfs.next {E : Nat → List Int} {n : Nat} {h : List Nat} {p k : Nat} {m : Int → Int} {t : Nat} (b : Bfs E n h p k m t) (hp : p < h.length) (hk : (E (h[p]?.getD 0)).length = k) (hk6 : k ≤ 6) : Bfs E n h (p + 1) 0 m t := by
  refine ⟨b.nd, b.lt, b.rp, b.top, hp, b.pos, b.nn, fun q hq x hx => ?_, by simp, fun x => by have := b.bd x; omega⟩
  by_cases e : q = p
  · subst e
    exact b.cur x (by rw [List.take_of_length_le (by omega)]; exact hx)
  · exact b.clo q (by omega) x hx
theorem Bfs.done {E : Nat → List Int} {n : Nat} {h : List Nat} {p k : Nat} {m : Int → Int} {t : Nat} (b : Bfs E n h p k m t) (hp : p = h.length) (i : Nat) : 0 < m (i : Int) ↔ RT E t i := by
  rw [b.pos i]
  refine ⟨b.rp i, fun hr => ?_⟩
  induction hr with
  | zero => exact b.top
  | @step j x _ hx ih =>
    obtain ⟨q, hq, he⟩ := List.getElem_of_mem ih
    refine b.clo q (by omega) x ?_
    rw [List.getElem?_eq_getElem hq, Option.getD_some, he]
    exact hx
end Go.Proofs.Ytagmmgcdebgfnaa

namespace Go.Proofs.Ytagmmgcdebgfnaa
open Go.RowKit Go.Maps
set_option maxRecDepth 100000

theorem Try.keyInt : Keyed Try.prog 2 := int_keyed Try.underlying2
theorem Try.zeroInt (w : World) : (zeroValue 2).run Try.prog w = .ok (.int .i64 0) w := by
  obtain ⟨i, hi, h1, _⟩ := Try.infoInt'
  simp [zeroValue, typeInfo, hi, h1]
abbrev wf64 (x : Int) : Prop := (Lit.int .i64 x).wf = true
theorem wf64_of {x : Int} (h0 : 0 ≤ x) (h1 : x ≤ 1000000) : wf64 x := by
  have h3 : IntKind.i64.min = -9223372036854775808 := by decide
  have h4 : IntKind.i64.max = 9223372036854775807 := by decide
  simp only [wf64, Lit.wf, h3, h4]
  simp
  omega
/-- Which keys a map has, and what it tells of each. -/
structure Tells (D : DataW Unit) (p : Int → Bool) (m : Int → Int) : Prop where
  val : ∀ x, wf64 x → D.atKey (.int .i64 x) (.lit (.int .i64 0)) = .lit (.int .i64 (m x))
  has : ∀ x, wf64 x → Maps.has D (.int .i64 x) = p x
def Mp (w : World) (b n : Nat) (p : Int → Bool) (m : Int → Int) : Prop := ∃ D : DataW Unit, w.ownsMap Try.prog 2 (plainElem Try.prog 2) b n D ∧ Tells D p m
theorem Mp.made (w : World) : Mp (w.alloc (.map #[] 0)) w.heap.size 0 (fun _ => false) (fun _ => 0) :=
  ⟨.map [], World.ownsMap_made w Try.prog 2 _, fun _ _ => rfl, fun _ _ => rfl⟩
theorem Mp.lt {w : World} {b n : Nat} {p : Int → Bool} {m : Int → Int} (h : Mp w b n p m) : b < w.heap.size := by
  obtain ⟨D, h, _⟩ := h
  exact h.lt
theorem Mp.keep {w w' : World} {b n : Nat} {p : Int → Bool} {m : Int → Int} (h : Mp w b n p m) (e : w'.heap[b]? = w.heap[b]?) : Mp w' b n p m := by
  obtain ⟨D, ⟨es, clock, hb, r⟩, ht⟩ := h
  exact ⟨D, ⟨es, clock, e.trans hb, r⟩, ht⟩
theorem Mp.later {w w' : World} {b n : Nat} {p : Int → Bool} {m : Int → Int} (h : Mp w b n p m) (hb : Below w.heap.size w w') : Mp w' b n p m := h.keep (hb.block b h.lt)
theorem Mp.drewN {w : World} {b n : Nat} {p : Int → Bool} {m : Int → Int} (h : Mp w b n p m) (q : Nat) : Mp (w.drewN q) b n p m := h.later (below_drewN (Below.refl _ _) q)
theorem Mp.keepQ {w w' : World} {b n : Nat} {p : Int → Bool} {m : Int → Int} (h : Mp w b n p m) (hk : KeepQ w w') : Mp w' b n p m := by
  have h0 := h
  obtain ⟨D, ⟨es, clock, hb, r⟩, ht⟩ := h
  exact h0.keep ((hk b _ hb (by intros; simp)).trans hb.symm)
def putP (p : Int → Bool) (x : Int) : Int → Bool := fun y => if y = x then true else p y
theorem turned_block {w w' : World} {b : Nat} (h : w.mapTurned w' b) (k : Nat) (hk : k ≠ b) : w'.heap[k]? = w.heap[k]? := by
  by_cases hlt : k < w.heap.size
  · exact h.grown.block k hlt (by simpa using hk)
  · obtain ⟨es, c, es', c', hb, rfl⟩ := h
    exact (MapKept.heap_set hb).2 k hk
theorem turned_below {w w' : World} {b B : Nat} (h : w.mapTurned w' b) (hB : B ≤ b) : Below B w w' :=
  ⟨h.grown.os, h.grown.tape, h.grown.output, h.grown.size, fun k hk => turned_block h k (by omega)⟩
/-- While a map is gone through and what is 0 is deleted: what it tells stays. -/
structure SweepT (D : DataW Unit) (p : Int → Bool) (m : Int → Int) (left : Lit → Bool) : Prop where
  val : ∀ x, wf64 x → D.atKey (.int .i64 x) (.lit (.int .i64 0)) = .lit (.int .i64 (m x))
  has : ∀ x, wf64 x → Maps.has D (.int .i64 x) = (p x && (!decide (m x = 0) || left (.int .i64 x)))
theorem SweepT.start {D : DataW Unit} {p : Int → Bool} {m : Int → Int} (h : Tells D p m) : SweepT D p m (Maps.has D) :=
  ⟨h.val, fun x hx => by rw [h.has x hx]; cases p x <;> simp⟩
theorem SweepT.stays {D : DataW Unit} {p : Int → Bool} {m : Int → Int} {left : Lit → Bool} (h : SweepT D p m left) {x c : Int} (hx : wf64 x) (hat : ∀ zd, D.atKey (.int .i64 x) zd = .lit (.int .i64 c)) (hc : ¬ c = 0) : SweepT D p m (fun z => left z && !z.sameKey (.int .i64 x)) := by
  have hm : m x = c := by have := h.val x hx; rw [hat] at this; simpa using this.symm
  refine ⟨h.val, fun y hy => ?_⟩
  rw [h.has y hy]
  by_cases e : y = x
  · subst e; rw [hm]; simp [hc]
  · have : (Lit.int .i64 y).sameKey (.int .i64 x) = false := by
      cases hs : (Lit.int .i64 y).sameKey (.int .i64 x) with
      | false => rfl
      | true => exact absurd (by simpa using WideAt.sameKey_eq hs) e
    simp [this]
theorem SweepT.struck {D : DataW Unit} {p : Int → Bool} {m : Int → Int} {left : Lit → Bool} (h : SweepT D p m left) {x : Int} (hx : wf64 x) (hat : ∀ zd, D.atKey (.int .i64 x) zd = .lit (.int .i64 0)) : SweepT (D.del (.int .i64 x)) p m (fun z => left z && !z.sameKey (.int .i64 x)) := by
  have hm : m x = 0 := by have := h.val x hx; rw [hat] at this; simpa using this.symm
  have hk : WideAt.IsKeyLit (.int .i64 x) := Try.keyInt.key (keyOf_int_mk Try.underlying2 hx)
  refine ⟨fun y hy => ?_, fun y hy => ?_⟩
  · by_cases e : y = x
    · subst e; rw [Maps.atKey_del_same, hm]
    · rw [Maps.atKey_del_other (by simpa using e)]; exact h.val y hy
  · by_cases e : y = x
    · subst e; rw [Maps.has_del_same, hm, WideAt.sameKey_self hk]; simp
    · have : (Lit.int .i64 y).sameKey (.int .i64 x) = false := by
        cases hs : (Lit.int .i64 y).sameKey (.int .i64 x) with
        | false => rfl
        | true => exact absurd (by simpa using WideAt.sameKey_eq hs) e
      rw [Maps.has_del_other (by simpa using e), h.has y hy, this]; simp
theorem SweepT.done {D : DataW Unit} {p : Int → Bool} {m : Int → Int} {left : Lit → Bool} (h : SweepT D p m left) (hl : ∀ kl, left kl = false) : Tells D (fun x => p x && !decide (m x = 0)) m :=
  ⟨h.val, fun x hx => by rw [h.has x hx, hl]; simp⟩
end Go.Proofs.Ytagmmgcdebgfnaa

namespace Go.Proofs.Ytagmmgcdebgfnaa
open Go.RowKit Go.Maps
set_option maxRecDepth 100000

section
variable {P : Program} {w : World}
/-- A look-up, a store into a map whose run is known, at its place in a walk. -/
theorem wpList_lookup_run {ops : Array Oper} {rest : List Oper} {o : Oper} {a : Act} {Q : Exit → Act → World → Prop} (hgd : o.guard = none) (m x : Operand) (t : TypeId) (ho : o.op = .lookup t m x false) (vm vx : Value) (hm : a.eval m = vm) (hx : a.eval x = vx) (v' : Value)
    (hr : (Instr.lookup t vm vx false).run P w = .ok v' w) (h : wpList P ops Q rest (a.put o.dst v') w) : wpList P ops Q (o :: rest) a w := by
  refine wpList_plain hgd fun K hK => ?_
  unfold Oper.wp
  simp [execOp, ho, hm, hx, hr, Result.andThen]
  exact hK _ _ h
theorem wpList_mapUpdate_run {ops : Array Oper} {rest : List Oper} {o : Oper} {a : Act} {Q : Exit → Act → World → Prop} (hgd : o.guard = none) (m x v : Operand) (t : TypeId) (ho : o.op = .mapUpdate t m x v) (vm vx vv : Value) (hm : a.eval m = vm) (hx : a.eval x = vx) (hv : a.eval v = vv) (w' : World)
    (hr : (Instr.mapUpdate t vm vx vv).run P w = .ok () w') (h : wpList P ops Q rest (a.put o.dst undef) w') : wpList P ops Q (o :: rest) a w := by
  refine wpList_plain hgd fun K hK => ?_
  unfold Oper.wp
  simp [execOp, ho, hm, hx, hv, hr, Result.andThen]
  exact hK _ _ h
end
theorem putP_same {p : Int → Bool} {x : Int} (h : p x = true) : putP p x = p := by
  funext y
  unfold putP
  by_cases e : y = x
  · rw [if_pos e, e, h]
  · rw [if_neg e]
theorem putP_next (j : Nat) : putP (fun x => decide (0 ≤ x ∧ x < (j : Int))) (j : Int) = fun x => decide (0 ≤ x ∧ x < ((j + 1 : Nat) : Int)) := by
  funext y
  unfold putP
  by_cases e : y = j
  · rw [if_pos e]; simp; omega
  · rw [if_neg e]
    show decide (0 ≤ y ∧ y < (j : Int)) = _
    by_cases h : 0 ≤ y ∧ y < (j : Int)
    · rw [decide_eq_true h, decide_eq_true (by omega)]
    · rw [decide_eq_false h, decide_eq_false (by omega)]
theorem putM_zero (x : Int) : putM (fun _ => 0) x 0 = fun _ => 0 := by
  funext y
  unfold putM
  split <;> rfl
theorem putM_at (m : Int → Int) (x v : Int) : putM m x v x = v := by unfold putM; rw [if_pos rfl]
/-- A map's block is no words' block, and what was made since stands apart from it. -/
theorem Qu.turned {w w' : World} {n₀ b : Nat} {v : Value} {zs : List Int} {N : Nat} {p : Int → Bool} {m : Int → Int} (h : Qu w n₀ v zs) (hm : Mp w b N p m) (ht : w.mapTurned w' b) : Qu w' n₀ v zs := h.keep fun k c f _ hk => turned_block ht k fun e => by
  obtain ⟨D, ⟨es, clock, hb, _⟩, _⟩ := hm
  rw [e, hb] at hk
  cases hk
theorem cell_turned {w w' : World} {b : Nat} (ht : w.mapTurned w' b) {k i : Nat} (hk : k ≠ b) {v : Value} (h : w.cell? ⟨k, i, none⟩ = some v) : w'.cell? ⟨k, i, none⟩ = some v := by
  simp only [World.cell?] at h ⊢
  rw [turned_block ht k hk]
  exact h
def intsN (h : List Nat) : List Int := h.map fun k : Nat => (k : Int)
theorem intsN_len (h : List Nat) : (intsN h).length = h.length := by simp [intsN]
theorem intsN_get (h : List Nat) (k : Nat) : (intsN h)[k]?.getD 0 = ((h[k]?.getD 0 : Nat) : Int) := by
  unfold intsN
  rw [List.getElem?_map]
  cases h[k]? <;> simp
theorem entsOf_get {ds : List ID} {j k : Nat} (hk : k < (ds[j]?.getD id0).2.2.2.2.length) : (entsOf ds j)[k]? = some ((ds[j]?.getD id0).2.2.2.2[k]?.getD en0).2 := by
  unfold entsOf entI
  rw [List.getElem?_map, List.getElem?_eq_getElem hk]
  rfl
theorem entsOf_len (ds : List ID) (j : Nat) : (entsOf ds j).length = (ds[j]?.getD id0).2.2.2.2.length := by simp [entsOf, entI]

end Go.Proofs.Ytagmmgcdebgfnaa

namespace Go.Proofs.Ytagmmgcdebgfnaa
open Go.RowKit
set_option maxRecDepth 100000

theorem entI_get (es : List EN) (k : Nat) : (entI es)[k]?.getD 0 = (es[k]?.getD en0).2 := by
  unfold entI; rw [List.getElem?_map]; cases es[k]? <;> rfl
theorem entI_len (es : List EN) : (entI es).length = es.length := by simp [entI]
theorem allE_bound (ds : List ID) (hs : sizeInos ds ≤ 1048576) (v : Int) : (allE ds).count v ≤ 1048576 := by
  have h2 := allE_len ds
  have h3 := List.count_le_length (a := v) (l := allE ds)
  unfold sizeInos at hs
  omega

end Go.Proofs.Ytagmmgcdebgfnaa

namespace Go.Proofs.Ytagmmgcdebgfnaa
open Go.RowKit
set_option maxRecDepth 100000

/-- How many entries have to name an inode. -/
def wantL (ds : List ID) (i : Nat) : Int := if kindAt ds i = 1 then (ds[i]?.getD id0).2.1 else if i = 0 then 0 else 1
def lnkOK (ds : List ID) (i : Nat) : Bool := decide (kindAt ds i = 0) || (decide ((((allE ds).count (i : Int) : Nat) : Int) = wantL ds i) && reachG ds ds.length i)
def linksB (ds : List ID) : Bool := (List.range ds.length).all (lnkOK ds)
theorem linksB_no {ds : List ID} {i : Nat} (hi : i < ds.length) (h : lnkOK ds i = false) : linksB ds = false := by
  unfold linksB
  rw [List.all_eq_false]
  exact ⟨i, by simpa using hi, by simp [h]⟩
theorem linksB_yes {ds : List ID} (h : ∀ i, i < ds.length → lnkOK ds i = true) : linksB ds = true := by
  unfold linksB
  rw [List.all_eq_true]
  intro i hi
  exact h i (by simpa using hi)
theorem selL_contains (p : Nat → Bool) {n i : Nat} (hi : i < n) : (selL p n).contains (i : Int) = p i := by
  cases hp : p i with
  | true =>
    rw [List.contains_iff_mem]
    unfold selL
    rw [List.mem_map]
    exact ⟨i, List.mem_filter.2 ⟨by simpa using hi, hp⟩, rfl⟩
  | false =>
    rw [Bool.eq_false_iff]
    intro hc
    rw [List.contains_iff_mem] at hc
    unfold selL at hc
    rw [List.mem_map] at hc
    obtain ⟨k, hk, e⟩ := hc
    have : k = i := by omega
    subst this
    rw [(List.mem_filter.1 hk).2] at hp
    cases hp

end Go.Proofs.Ytagmmgcdebgfnaa

namespace Go.Proofs.Ytagmmgcdebgfnaa
open Go.RowKit
set_option maxRecDepth 100000

theorem AnsIR.gen {w w2 : World} {r : Int} {a : Option Addr} {n c : Nat} {zs : List Int} (hb : Below w.heap.size w w2) (ho : IntsO w2 (.slice a n c) zs (fun b => w.heap.size + 1 ≤ b ∧ b < w2.heap.size)) (x y : Value) :
    AnsIR w (r, zs) (.returned (.agg #[.int .i64 r, .slice a n c])) ((w2.setCell ⟨w.heap.size, 0, none⟩ x).setCell ⟨w.heap.size, 1, none⟩ y) := by
  refine ⟨_, _, _, rfl, (hb.setCell (by simp) _).setCell (by simp) _, (ho.keep fun b hb hlt => ?_).mono fun b hb => ⟨by omega, by simp only [World.setCell, Array.size_modify]; exact hb.2⟩⟩
  rw [Below.heap_setCell _ _ _ _ (by simp; omega), Below.heap_setCell _ _ _ _ (by simp; omega)]
theorem AnsIR.later {w w2 w3 : World} {r : Int × List Int} {e : Ending} (h : AnsIR w r e w2) (hb : Below w2.heap.size w2 w3) : AnsIR w r e w3 := by
  obtain ⟨a, n, c, h1, h2, h3⟩ := h
  exact ⟨a, n, c, h1, h2.trans (hb.mono h2.size), (h3.keep fun b _ hlt => hb.block b hlt).mono fun b hh => ⟨hh.1, Nat.lt_of_lt_of_le hh.2 hb.size⟩⟩

end Go.Proofs.Ytagmmgcdebgfnaa

namespace Go.Proofs.Ytagmmgcdebgfnaa
open Go.RowKit
set_option maxRecDepth 100000

/-- Where the marks of inode j begin. -/
def inum (k : Nat) (ds : List ID) (j : Nat) : Nat := k + upto (isp ds) j
/-- What stands of a list of inodes of which the first j are marked. -/
structure HalfI (w : World) (b n j : Nat) (ds : List ID) (u : Nat → Value × Value) (F1 G1 : Nat → Nat → Prop) : Prop where
  row : ∃ f, OwnRow w b (n * 5) f ∧ (∀ i, i < n → f (i * 5 + 3) = (u i).1 ∧ f (i * 5 + 4) = (u i).2) ∧ ∀ i, i < n → ∀ q, q < 3 → ∃ z, f (i * 5 + q) = .int .i64 z
  ints : ∀ i, j ≤ i → i < n → IntsO w (u i).1 (ds[i]?.getD id0).2.2.2.1 (F1 i)
  ents : ∀ i, j ≤ i → i < n → EntsO w (u i).2 (ds[i]?.getD id0).2.2.2.2 (G1 i)
theorem HalfI.row_set {w : World} {b n j q : Nat} {ds : List ID} {u : Nat → Value × Value} {F1 G1 : Nat → Nat → Prop} (h : HalfI w b n j ds u F1 G1) (i : Nat) (hq : q < 3) (z : Int) (hF : ∀ i, ¬ F1 i b) (hG : ∀ i, ¬ G1 i b) : HalfI (w.setCell ⟨b, i * 5 + q, none⟩ (.int .i64 z)) b n j ds u F1 G1 := by
  obtain ⟨f, hr, h1, h2⟩ := h.row
  refine ⟨⟨_, hr.set (i * 5 + q) (.int .i64 z), fun k hk => ?_, fun k hk p hp => ?_⟩, fun k hj hk => (h.ints k hj hk).keep fun c hc _ => Below.heap_setCell _ _ _ _ (fun e => hF k (by have e' : c = b := e; rwa [e'] at hc)), fun k hj hk => (h.ents k hj hk).keep fun c hc _ => Below.heap_setCell _ _ _ _ (fun e => hG k (by have e' : c = b := e; rwa [e'] at hc))⟩
  · rw [if_neg (by omega), if_neg (by omega)]
    exact h1 k hk
  · by_cases e : k * 5 + p = i * 5 + q
    · exact ⟨z, by rw [if_pos e]⟩
    · rw [if_neg e]; exact h2 k hk p hp

theorem choose_fg {n : Nat} {P : Nat → (Nat → Prop) → (Nat → Prop) → Prop} (h : ∀ i, i < n → ∃ F G, P i F G) : ∃ (F G : Nat → Nat → Prop), ∀ i, i < n → P i (F i) (G i) := by
  have h' : ∀ i, ∃ FG : (Nat → Prop) × (Nat → Prop), i < n → P i FG.1 FG.2 := fun i => by
    by_cases hi : i < n
    · obtain ⟨F, G, hp⟩ := h i hi
      exact ⟨(F, G), fun _ => hp⟩
    · exact ⟨(fun _ => False, fun _ => False), fun h => absurd h hi⟩
  exact ⟨fun i => (Classical.choose (h' i)).1, fun i => (Classical.choose (h' i)).2, fun i hi => Classical.choose_spec (h' i) hi⟩

end Go.Proofs.Ytagmmgcdebgfnaa

namespace Go.Proofs.Ytagmmgcdebgfnaa
open Go.RowKit
set_option maxRecDepth 100000

/-- Block b holds vs and is not frozen. -/
theorem Obx.row {w : World} {b : Nat} {x y : Value} {t : TypeId} (h : Obx w b [x, y] t) : OwnRow w b 2 (fun i => if i = 0 then x else y) := by
  refine ⟨_, _, h, by simp, fun i hi => ?_⟩
  have : i = 0 ∨ i = 1 := by omega
  rcases this with rfl | rfl <;> simp

end Go.Proofs.Ytagmmgcdebgfnaa
