/- The walks of the program's look at a block. The walk of the specification's PutBlock. The walks of the specification's FlushDisk and CrashDisk. The walk of the specification's PutBlock where it puts. The walk of the program's PutBlock. The walk of the program's settling of what is picked. The walks of the program's FlushDisk and CrashDisk. Lists of bits: how they read, and the walks of the laws' functions over them. The specification: which places can be reached. The specification's LinksOf. The specification: are links and places right? -/
import Derived.Test.YtjabimfinanjoaaGreatM10
import Derived.Test.YtjabimfinanjoaaGreatM01
import Derived.Test.YtjabimfinanjoaaGreatM08
namespace Go.Proofs.YtjabimfinanjoaaGreat
open Go.RowKit
set_option maxRecDepth 100000

theorem placeF_fault {bs : List (List Int)} {ps : List (Int × List Int)} {x : Int} (h : ¬ faultF bs ps = 0) : placeF bs ps x = faultF bs ps := by simp [placeF, h]
theorem placeF_no {bs : List (List Int)} {ps : List (Int × List Int)} {x : Int} (h : faultF bs ps = 0) (h2 : placeB bs.length x = false) : placeF bs ps x = 3 := by simp [placeF, h, h2]
theorem placeF_ok {bs : List (List Int)} {ps : List (Int × List Int)} {x : Int} (h : faultF bs ps = 0) (h2 : placeB bs.length x = true) : placeF bs ps x = 0 := by simp [placeF, h, h2]

/-- How the cache of a drive is read. -/
def AtC (w : World) (a : Option Addr) (n : Nat) (ps : List (Int × List Int)) : Prop :=
  ∀ i, i < n → ∃ g pb ua uc, a = some ⟨g, 0, none⟩ ∧ w.cell? ⟨g, i, none⟩ = some (.pointer (some ⟨pb, 0, none⟩)) ∧ w.cell? ⟨pb, 0, none⟩ = some (.int .i64 (ps[i]?.getD (0, [])).1) ∧ w.cell? ⟨pb, 1, none⟩ = some (.slice ua (ps[i]?.getD (0, [])).2.length uc) ∧ Ints w (.slice ua (ps[i]?.getD (0, [])).2.length uc) (ps[i]?.getD (0, [])).2
theorem atF_len {bs : List (List Int)} {ps : List (Int × List Int)} {x : Int} {M : Nat} (hz : ∀ k : Nat, (bs[k]?.getD []).length ≤ M) (hzp : ∀ k : Nat, (ps[k]?.getD (0, [])).2.length ≤ M) : (atF bs ps x).length ≤ M := by
  unfold atF
  generalize ps.length = n
  induction n with
  | zero => exact hz _
  | succ n ih =>
    by_cases h : (ps[n]?.getD (0, [])).1 = x
    · rw [atK_hit h]; exact hzp n
    · rw [atK_miss h]; exact ih

end Go.Proofs.YtjabimfinanjoaaGreat

namespace Go.Proofs.YtjabimfinanjoaaGreat
open Go.RowKit
set_option maxRecDepth 100000

def putCode (bs : List (List Int)) (ps : List (Int × List Int)) (x : Int) (ws : List Int) : Int :=
  if placeF bs ps x = 0 then (if wordsF ws = 0 then (if 200 ≤ ps.length then 2 else 0) else wordsF ws) else placeF bs ps x
def putBlocks (bs : List (List Int)) (ps : List (Int × List Int)) (x : Int) (ws : List Int) : List (List Int) := if putCode bs ps x ws = 0 then bs else []
def putCache (bs : List (List Int)) (ps : List (Int × List Int)) (x : Int) (ws : List Int) : List (Int × List Int) := if putCode bs ps x ws = 0 then ps ++ [(x, ws)] else []

theorem three (w : World) (x y z : Value) (t : TypeId) : OwnRow (w.alloc (.cells #[x, y, z] t)) w.heap.size 3 (fun i => if i = 0 then x else if i = 1 then y else z) := by
  refine ⟨_, t, Go.Deep.blk_alloc_new _ _, by simp, fun i hi => ?_⟩
  have : i = 0 ∨ i = 1 ∨ i = 2 := by omega
  rcases this with rfl | rfl | rfl <;> simp

end Go.Proofs.YtjabimfinanjoaaGreat

namespace Go.Proofs.YtjabimfinanjoaaGreat
open Go.RowKit
set_option maxRecDepth 100000

theorem faultF_places {bs : List (List Int)} {ps : List (Int × List Int)} (h : faultF bs ps = 0) : ∀ k, k < ps.length → ∃ x : Nat, (ps[k]?.getD (0, [])).1 = x ∧ x < bs.length := by
  have g := faultF_lens h
  have hb : ∀ n, ∀ i : Nat, i < n → i < bs.length → wordsF (bs[i]?.getD []) = 0 := by
    intro n
    induction n with
    | zero => intro i hi; omega
    | succ n ih =>
      intro i hi hl
      by_cases e : wordsF (bs[i]?.getD []) = 0
      · exact e
      · exact absurd (faultF_block (ps := ps) (by omega) hl (fun j hj => ih j (by omega) (by omega)) e) (by rw [h]; exact fun e' => e e'.symm)
  have hp : ∀ n, ∀ i : Nat, i < n → i < ps.length → putF bs.length (ps[i]?.getD (0, [])) = 0 := by
    intro n
    induction n with
    | zero => intro i hi; omega
    | succ n ih =>
      intro i hi hl
      by_cases e : putF bs.length (ps[i]?.getD (0, [])) = 0
      · exact e
      · exact absurd (faultF_put (by omega) (fun j hj => hb (j + 1) j (by omega) hj) hl (fun j hj => ih j (by omega) (by omega)) e) (by rw [h]; exact fun e' => e e'.symm)
  intro k hk
  have := hp (k + 1) k (by omega) hk
  unfold putF at this
  split at this
  · rename_i hq
    unfold placeB at hq
    simp only [decide_eq_true_eq] at hq
    exact ⟨(ps[k]?.getD (0, [])).1.toNat, by omega, by omega⟩
  · omega

/-- What a flush or a crash leaves in the blocks. -/
def keepBlocks (pk : Nat → Bool) (bs : List (List Int)) (ps : List (Int × List Int)) : List (List Int) := if faultF bs ps = 0 then keepTo pk bs ps ps.length else []

end Go.Proofs.YtjabimfinanjoaaGreat

namespace Go.Proofs.YtjabimfinanjoaaGreat
open Go.RowKit
set_option maxRecDepth 100000

theorem LRow.puts2 {w : World} {base lo : Nat} {e : TypeId} {v : Value} {n : Nat} {k : Nat → Nat} {u : Nat → Value} {ps : List (Int × List Int)} (h : LRow (C2 fun i => (ps[i]?.getD (0, [])).1) w base lo e 2 v n (fun i => (ps[i]?.getD (0, [])).2) k u) (hn : ps.length = n) (F : Nat → Prop) (hF : ∀ g, v.ownBlock = some g → F g) (hF' : ∀ i, i < n → F (k i)) : PutsO w v ps F := by
  subst hn
  by_cases h0 : ps.length = 0
  · obtain ⟨a, c, rfl⟩ := h.shape
    exact Or.inl ⟨List.eq_nil_of_length_eq_zero h0, a, c, by rw [h0]⟩
  · obtain ⟨g, cap, rfl, _, _, hm, hrow⟩ := h.cells (by decide) (fun _ => rfl) (by omega)
    refine Or.inr ⟨g, cap, u, fun i c => i < ps.length ∧ c = k i, hF g rfl, fun i c hc => ?_, fun i j c e h1 h2 => h.inj i j h1.1 h2.1 e (h1.2.symm.trans h2.2), rfl, hm, ?_, fun i hi => (h.at' i hi).mono fun c hc => ⟨hi, hc⟩⟩
    · have hne := h.ne i hc.1
      rw [hc.2]
      exact ⟨hF' i hc.1, fun e => hne (by simp [Value.ownBlock, e])⟩
    · refine hrow.congr fun c hc => ?_
      unfold putCell C2
      rcases Nat.mod_two_eq_zero_or_one c with h | h <;> simp [h]

/-- The puts, and one more. -/
def more (ps : List (Int × List Int)) (x : Int) (ws : List Int) (i : Nat) : Int × List Int := (ps ++ [(x, ws)])[i]?.getD (0, [])
theorem more_old {ps : List (Int × List Int)} {x : Int} {ws : List Int} {i : Nat} (h : i < ps.length) : more ps x ws i = ps[i]?.getD (0, []) := by unfold more; rw [List.getElem?_append_left h]
theorem more_new {ps : List (Int × List Int)} {x : Int} {ws : List Int} : more ps x ws ps.length = (x, ws) := by unfold more; simp

end Go.Proofs.YtjabimfinanjoaaGreat

namespace Go.Proofs.YtjabimfinanjoaaGreat
open Go.RowKit
set_option maxRecDepth 100000

theorem IntsSO.row {w : World} {g n cap : Nat} {zss : List (List Int)} {F : Nat → Prop} (h : IntsSO w (.slice (some ⟨g, 0, none⟩) n cap) zss F) (h0 : 0 < zss.length) : ∃ u, OwnRow w g n u ∧ F g ∧ ∀ i, i < n → ∃ ua un uc, u i = .slice ua un uc := by
  rcases h with ⟨h, _⟩ | ⟨b, cap', u, G, hFb, _, _, h1, _, h3, h4⟩
  · subst h; simp at h0
  · simp only [Value.slice.injEq, Option.some.injEq, Addr.mk.injEq, and_true] at h1
    obtain ⟨rfl, rfl, rfl⟩ := h1
    refine ⟨u, h3, hFb, fun i hi => ?_⟩
    rcases h4 i hi with ⟨_, a, c, e⟩ | ⟨_, _, _, e, _⟩
    · exact ⟨_, _, _, e⟩
    · exact ⟨_, _, _, e⟩
theorem AtBs.set {w X : World} {a : Option Addr} {n g x : Nat} {v : Value} {pb : List Bool} (h : AtBs w a n pb) (hb : Below w.heap.size w X) (hg : ∀ b off, a = some ⟨b, off, none⟩ → b ≠ g) : AtBs (X.setCell ⟨g, x, none⟩ v) a n pb := fun k hk => by
  obtain ⟨b, off, e, c⟩ := h k hk
  exact ⟨b, off, e, (World.cell?_of_block (w := X) (Below.heap_setCell _ _ _ _ (hg b off e))).trans (cell_later hb c)⟩

end Go.Proofs.YtjabimfinanjoaaGreat

namespace Go.Proofs.YtjabimfinanjoaaGreat
open Go.RowKit
set_option maxRecDepth 100000

theorem Tryz.infoBool : (Tryz.prog.info? 4).map (fun i => (i.zero, i.size, i.bytes)) = some (some (.bool false), 1, 1) := by kernel_rfl

theorem keepTo_congr {pk pk' : Nat → Bool} {bs : List (List Int)} {ps : List (Int × List Int)} (n : Nat) (h : ∀ i, i < n → pk i = pk' i) : keepTo pk bs ps n = keepTo pk' bs ps n := by
  induction n with
  | zero => rfl
  | succ n ih =>
    unfold keepTo
    rw [ih fun i hi => h i (by omega), h n (by omega)]

end Go.Proofs.YtjabimfinanjoaaGreat

namespace Go.Proofs.YtjabimfinanjoaaGreat
open Go.RowKit
set_option maxRecDepth 100000

def Bools (w : World) (v : Value) (zs : List Bool) : Prop :=
  (zs = [] ∧ ∃ a cap, v = .slice a 0 cap) ∨
  (∃ b off cap, v = .slice (some ⟨b, off, none⟩) zs.length cap ∧ zs.length ≤ maxLen ∧ ∀ k, k < zs.length → w.cell? ⟨b, off + k, none⟩ = some (.bool (zs[k]?.getD false)))
theorem Bools.later {w wx : World} {v : Value} {zs : List Bool} (h : Bools w v zs) (hb : Below w.heap.size w wx) : Bools wx v zs := by
  rcases h with h | ⟨b, off, cap, h1, h2, h3⟩
  · exact Or.inl h
  · exact Or.inr ⟨b, off, cap, h1, h2, fun k hk => cell_later hb (h3 k hk)⟩
theorem Bools.open' {w : World} {v : Value} {zs : List Bool} (h : Bools w v zs) : ∃ a cap, v = .slice a zs.length cap ∧ zs.length ≤ maxLen ∧ AtBs w a zs.length zs := by
  rcases h with ⟨rfl, a, cap, rfl⟩ | ⟨b, off, cap, rfl, hl, hc⟩
  · exact ⟨a, cap, rfl, by simp, fun k hk => by simp at hk⟩
  · exact ⟨_, cap, rfl, hl, fun k hk => ⟨b, off, rfl, hc k hk⟩⟩
/-- .. in one block of F. -/
def BoolsO (w : World) (v : Value) (zs : List Bool) (F : Nat → Prop) : Prop :=
  (zs = [] ∧ ∃ a cap, v = .slice a 0 cap) ∨
  (∃ b cap, F b ∧ v = .slice (some ⟨b, 0, none⟩) zs.length cap ∧ zs.length ≤ maxLen ∧ OwnRow w b zs.length (fun i => .bool (zs[i]?.getD false)))
theorem BoolsO.reads {w : World} {v : Value} {zs : List Bool} {F : Nat → Prop} (h : BoolsO w v zs F) : Bools w v zs := by
  rcases h with h | ⟨b, cap, _, h1, h2, h3⟩
  · exact Or.inl h
  · exact Or.inr ⟨b, 0, cap, h1, h2, fun k hk => by rw [Nat.zero_add]; exact h3.cell hk⟩
theorem BoolsO.keep {w w' : World} {v : Value} {zs : List Bool} {F : Nat → Prop} (h : BoolsO w v zs F) (e : ∀ b, F b → b < w.heap.size → w'.heap[b]? = w.heap[b]?) : BoolsO w' v zs F := by
  rcases h with h | ⟨b, cap, hF, h1, h2, h3⟩
  · exact Or.inl h
  · exact Or.inr ⟨b, cap, hF, h1, h2, h3.block (e b hF h3.lt)⟩
theorem BoolsO.mono {w : World} {v : Value} {zs : List Bool} {F G : Nat → Prop} (h : BoolsO w v zs F) (e : ∀ b, F b → G b) : BoolsO w v zs G := by
  rcases h with h | ⟨b, cap, hF, h1⟩
  · exact Or.inl h
  · exact Or.inr ⟨b, cap, e b hF, h1⟩
theorem BoolsO.later {w w' : World} {v : Value} {zs : List Bool} {F : Nat → Prop} (h : BoolsO w v zs F) (hb : Below w.heap.size w w') : BoolsO w' v zs F := h.keep fun b _ hlt => hb.block b hlt
theorem BoolsO.chg {w w' : World} {v : Value} {zs : List Bool} {F G : Nat → Prop} (h : BoolsO w v zs F) (hc : Chg G w w') (hd : ∀ b, F b → ¬ G b) : BoolsO w' v zs F := h.keep fun b hb hlt => hc.block b hlt (hd b hb)

theorem row_bool {w : World} {b n : Nat} {f : Nat → Bool} (h : OwnRow w b n (fun i => .bool (f i))) (j : Nat) (x : Bool) : ∃ g : Nat → Bool, OwnRow (w.setCell ⟨b, j, none⟩ (.bool x)) b n (fun i => .bool (g i)) :=
  ⟨fun i => if i = j then x else f i, (h.set j _).congr fun i _ => by by_cases e : i = j <;> simp [e]⟩

end Go.Proofs.YtjabimfinanjoaaGreat

namespace Go.Proofs.YtjabimfinanjoaaGreat
open Go.RowKit
set_option maxRecDepth 100000

def setB (g : Nat → Bool) (x : Int) : Nat → Bool := fun i => if i = x.toNat then true else g i
theorem setB_mono {g : Nat → Bool} {i : Nat} (h : g i = true) (x : Int) : setB g x i = true := by unfold setB; by_cases e : i = x.toNat <;> simp [e, h]
theorem foldB_mono {i : Nat} : ∀ (xs : List Int) {g : Nat → Bool}, g i = true → (xs.foldl setB g) i = true
  | [], _, h => h
  | x :: xs, _, h => foldB_mono xs (setB_mono h x)
theorem foldB_next (xs : List Int) (g : Nat → Bool) (k : Nat) (h : k < xs.length) : (xs.take (k + 1)).foldl setB g = setB ((xs.take k).foldl setB g) (xs[k]?.getD 0) := by
  rw [List.take_succ_eq_append_getElem h, List.foldl_append]; simp [h]
def inoB (ds : List ID) (g : Nat → Bool) (i : Nat) : Nat → Bool := if g i = true then (entI (ds[i]?.getD id0).2.2.2.2).foldl setB g else g
def sweepB (ds : List ID) (g : Nat → Bool) : Nat → Nat → Bool
  | 0 => g
  | i + 1 => inoB ds (sweepB ds g i) i
def reachG (ds : List ID) : Nat → Nat → Bool
  | 0 => fun i => decide (i = 0)
  | r + 1 => sweepB ds (reachG ds r) ds.length

set_option maxHeartbeats 3200000 in
theorem l6Reach_any (w : World) (b o : Nat) (d : FD) (aI : Option Addr) (cI : Nat) (aD : Option Addr) (cD : Nat) (h : FsX w b o d aI cI aD cD) (hn0 : ¬ d.1.length = 0) (hn : d.1.length ≤ 10)
    (hx : ∀ j, j < d.1.length → ∀ k, k < (d.1[j]?.getD id0).2.2.2.2.length → 0 ≤ ((d.1[j]?.getD id0).2.2.2.2[k]?.getD en0).2 ∧ ((d.1[j]?.getD id0).2.2.2.2[k]?.getD en0).2 < (d.1.length : Int)) :
    Calls Tryz.prog 116 #[.pointer (some ⟨b, o, none⟩)] w fun e w' => ∃ a c n₀, e = .returned (.slice a (selL (reachG d.1 d.1.length) d.1.length).length c) ∧ Below w.heap.size w w' ∧ w.heap.size ≤ n₀ ∧ Wds w' n₀ (.slice a (selL (reachG d.1 d.1.length) d.1.length).length c) (selL (reachG d.1 d.1.length) d.1.length) := by
  have HX : Hid (FsX w b o d aI cI aD cD) := h
  have HP : Hid (∀ j, j < d.1.length → ∀ k, k < (d.1[j]?.getD id0).2.2.2.2.length → 0 ≤ ((d.1[j]?.getD id0).2.2.2.2[k]?.getD en0).2 ∧ ((d.1[j]?.getD id0).2.2.2.2[k]?.getD en0).2 < (d.1.length : Int)) := hx
  obtain ⟨_, _, e1, hm1, hAt⟩ := h.ins.open'
  simp only [Value.slice.injEq] at e1
  obtain ⟨rfl, -, rfl⟩ := e1
  have HAT : Hid (AtI w aI d.1.length d.1) := hAt
  have HRS : Hid (∀ r, reachG d.1 (r + 1) = sweepB d.1 (reachG d.1 r) d.1.length) := fun r => rfl
  have HR0 : Hid (reachG d.1 0 = fun i => decide (i = 0)) := rfl
  have c0 := h.c0
  clear h hx hAt hm1
  obtain ⟨n, hnn⟩ : ∃ n, d.1.length = n := ⟨_, rfl⟩
  have HN : Hid (d.1.length = n) := hnn
  rw [hnn] at HP c0 hn0 hn HAT HRS ⊢
  clear hnn
  generalize reachG d.1 = R at *
  have hmk := fun w => run_make_row' (P := Tryz.prog) 144 4 (.bool false) 1 Tryz.underlying144 Tryz.infoBool rfl .i64 .i64 n (by omega) (by omega) w
  have h00 : (0 : Nat) < n := by omega
  have HM0 : Hid (OwnRow (w.alloc (.cells (madeCells #[.bool false] n) 4)) w.heap.size n (fun _ => .bool false)) := OwnRow.made w (.bool false) n 4
  have m1 := HM0.out.cell h00
  have m2 := HM0.out.frozen 0
  have c0' := cell_later (later1 w (.cells (madeCells #[.bool false] n) 4)) c0
  go_enter Tryz.func116, Tryz.ntmps116
  go_wp2
  go_loopw [4] (fun i wr => ∃ r : Nat, r ≤ n ∧ i = .int .i64 r ∧ Below w.heap.size w wr ∧ OwnRow wr w.heap.size n (fun i => .bool (R r i))) (fun i _ => n - (intOf i).toNat)
  case atStart =>
    refine ⟨0, Nat.zero_le _, rfl, later1 _ _, ?_⟩
    have h1 := HM0.out.set 0 (.bool true)
    rw [World.setCell_alloc_new] at h1
    exact h1.congr fun i _ => by rw [HR0.out]; by_cases e : i = 0 <;> simp [e]
  case round =>
    obtain ⟨r, hr, rfl, hbl, hrow⟩ := hrel
    have HBL : Hid (Below w.heap.size w wr) := hbl
    have HROW : Hid (OwnRow wr w.heap.size n (fun i => .bool (R r i))) := hrow
    have c0r := cell_later hbl c0
    clear hbl hrow m1 m2 c0' HM0 hmk
    by_cases hlt : r < n
    · have HSW : Hid (R (r + 1) = sweepB d.1 (R r) n) := HRS.out r
      have HS0 : Hid (sweepB d.1 (R r) 0 = R r) := rfl
      have HSI : Hid (∀ i, sweepB d.1 (R r) (i + 1) = inoB d.1 (sweepB d.1 (R r) i) i) := fun i => rfl
      generalize sweepB d.1 (R r) = S at *
      go_wp2
      go_loopw [5] (fun i wr => ∃ j : Nat, j ≤ n ∧ i = .int .i64 j ∧ Below w.heap.size w wr ∧ OwnRow wr w.heap.size n (fun i => .bool (S j i))) (fun i _ => n - (intOf i).toNat)
      case atStart => exact ⟨0, Nat.zero_le _, rfl, HBL.out, by rw [HS0.out]; exact HROW.out⟩
      case round =>
        obtain ⟨j, hj, rfl, hbl, hrow⟩ := hrel
        have HBL : Hid (Below w.heap.size w wr) := hbl
        have HROW : Hid (OwnRow wr w.heap.size n (fun i => .bool (S j i))) := hrow
        have c0j := cell_later hbl c0
        clear hbl hrow c0r
        by_cases hlj : j < n
        · have b1 := HROW.out.cell hlj
          have HSJ : Hid (S (j + 1) = inoB d.1 (S j) j) := HSI.out j
          obtain ⟨bI, oI, rfl, hI⟩ := (HAT.out.later HBL.out) j hlj
          obtain ⟨aB, cB, aE, cE, g0, g1, g2, g3, g4, g5⟩ := hI
          obtain ⟨_, _, e3, hm3, _, hc3⟩ := g5.2.2.open'
          simp only [Value.slice.injEq] at e3
          obtain ⟨rfl, _, rfl⟩ := e3
          clear g0 g1 g2 g3 g5 HSI
          cases hg : S j j with
          | false =>
            have HSE : Hid (S (j + 1) = S j) := by unfold Hid; rw [HSJ.out, inoB, hg, if_neg (by simp)]
            rw [hg] at b1
            clear HSJ hg hm3 hc3
            go_wp2
            go_loopw [6] (fun i wr' => i = .int .i64 0 ∧ wr' = wr) (fun _ _ => 0)
            case atStart => exact ⟨rfl, rfl⟩
            case round =>
              obtain ⟨rfl, rfl⟩ := hrel
              go_wp2
              go_roundw
              case rel => exact ⟨j + 1, by omega, by go_num, HBL.out, by rw [HSE.out]; exact HROW.out⟩
              case measure => simp [intOf]; omega
          | true =>
            have HSE : Hid (S (j + 1) = (entI (d.1[j]?.getD id0).2.2.2.2).foldl setB (S j)) := by unfold Hid; rw [HSJ.out, inoB, if_pos hg]
            have HGJ : Hid (S j j = true) := hg
            have HPJ : Hid (∀ k, k < (d.1[j]?.getD id0).2.2.2.2.length → 0 ≤ ((d.1[j]?.getD id0).2.2.2.2[k]?.getD en0).2 ∧ ((d.1[j]?.getD id0).2.2.2.2[k]?.getD en0).2 < (n : Int)) := HP.out j hlj
            have HCW : Hid (AtN w aE (d.1[j]?.getD id0).2.2.2.2.length (d.1[j]?.getD id0).2.2.2.2 ∧ w.cell? ⟨bI, oI + j * 5 + 4, none⟩ = some (.slice aE (d.1[j]?.getD id0).2.2.2.2.length cE)) := by
              obtain ⟨b2, o2, e2, hI⟩ := HAT.out j hlj
              simp only [Option.some.injEq, Addr.mk.injEq, and_true] at e2
              obtain ⟨rfl, rfl⟩ := e2
              obtain ⟨_, _, aE', cE', _, _, _, _, q4, q5⟩ := hI
              have q6 := cell_later HBL.out q4
              rw [g4] at q6
              simp only [Option.some.injEq, Value.slice.injEq, true_and] at q6
              obtain ⟨rfl, rfl⟩ := q6
              obtain ⟨_, _, e3, _, _, hc4⟩ := q5.2.2.open'
              simp only [Value.slice.injEq] at e3
              obtain ⟨rfl, _, rfl⟩ := e3
              exact ⟨hc4, q4⟩
            clear HSJ hg hc3 g4 b1
            generalize (d.1[j]?.getD id0).2.2.2.2 = es at *
            obtain ⟨nB, hnB⟩ : ∃ nB, nB = es.length := ⟨_, rfl⟩
            have HNB : Hid (nB = es.length) := hnB
            have HNI : Hid (nB = (entI es).length) := by unfold Hid entI; rw [List.length_map]; exact hnB
            have HEG : Hid (∀ k : Nat, (entI es)[k]?.getD 0 = (es[k]?.getD en0).2) := fun k => by unfold entI; rw [List.getElem?_map]; cases es[k]? <;> rfl
            rw [← hnB] at hm3 HCW HPJ
            unfold maxLen at hm3
            clear hnB
            generalize entI es = bs at *
            go_wp2
            go_loopw [6] (fun i wr' => ∃ k : Nat, k ≤ nB ∧ i = .int .i64 k ∧ Below w.heap.size w wr' ∧ OwnRow wr' w.heap.size n (fun i => .bool (((bs.take k).foldl setB (S j)) i))) (fun i _ => nB - (intOf i).toNat)
            case atStart => exact ⟨0, Nat.zero_le _, rfl, HBL.out, HROW.out⟩
            case round =>
              obtain ⟨k, hk, rfl, hbl2, hrow2⟩ := hrel
              have HT : Hid (((bs.take k).foldl setB (S j)) j = true) := foldB_mono _ HGJ.out
              have b1 := hrow2.cell hlj
              rw [HT.out] at b1
              have c0k := cell_later hbl2 c0
              have g4 := cell_later hbl2 HCW.out.2
              by_cases hlk : k < nB
              · obtain ⟨b3, o3, rfl, _, d1⟩ := HCW.out.1 k hlk
                have d2 := cell_later hbl2 d1
                have hp := HPJ.out k hlk
                have HFN : Hid ((bs.take (k + 1)).foldl setB (S j) = setB ((bs.take k).foldl setB (S j)) (es[k]?.getD en0).2) := by unfold Hid; rw [foldB_next bs _ k (by rw [← HNI.out]; exact hlk), HEG.out]
                clear d1 HCW HPJ
                generalize (es[k]?.getD en0).2 = x at *
                obtain ⟨t, rfl⟩ := Int.eq_ofNat_of_zero_le hp.1
                have htn : t < n := by omega
                have f1 := hrow2.cell htn
                have f2 := hrow2.frozen t
                generalize (bs.take k).foldl setB (S j) = G at *
                have HB2 : Hid (Below w.heap.size w _) := hbl2
                have HR2 : Hid (OwnRow _ w.heap.size n (fun i => .bool (G i))) := hrow2
                clear hbl2 hrow2
                go_wp2
                go_roundw
                case rel =>
                  refine ⟨k + 1, by omega, by go_num, HB2.out.setCell (Nat.le_refl _) _, (HR2.out.set t _).congr fun i _ => ?_⟩
                  rw [HFN.out]
                  unfold setB
                  by_cases e : i = t <;> simp [e]
                case measure => simp [intOf]; omega
              · have hkn : bs.take k = bs := List.take_of_length_le (by rw [← HNI.out]; omega)
                rw [hkn, ← HSE.out] at hrow2
                have HB2 : Hid (Below w.heap.size w _) := hbl2
                have HR2 : Hid (OwnRow _ w.heap.size n (fun i => .bool (S (j + 1) i))) := hrow2
                clear hbl2 hrow2 hkn
                go_wp2
                go_roundw
                case rel => exact ⟨j + 1, by omega, by go_num, HB2.out, HR2.out⟩
                case measure => simp [intOf]; omega
        · have HJ : Hid (S j = R (r + 1)) := by unfold Hid; rw [HSW.out, show j = n by omega]
          go_wp2
          go_roundw
          case rel => exact ⟨r + 1, by omega, by go_num, HBL.out, by rw [← HJ.out]; exact HROW.out⟩
          case measure => simp [intOf]; omega
    · have HRN : Hid (R r = R n) := by unfold Hid; rw [show r = n by omega]
      rw [HRN.out] at HROW
      have HL : Hid (∀ j, (selL (R n) j).length ≤ j) := fun j => selL_len _ _
      clear HRN
      generalize hRg : R n = g at *
      have HRG : Hid (R n = g) := hRg
      clear hRg
      go_wp2
      go_loopw [7, 8] (fun o i wr' => ∃ (j : Nat) (v : Value), j ≤ n ∧ i = .int .i64 j ∧ o = v ∧ Below wr.heap.size wr wr' ∧ Wds wr' wr.heap.size v (selL g j)) (fun _ i _ => n - (intOf i).toNat)
      case atStart => exact ⟨0, _, Nat.zero_le _, rfl, rfl, later1 _ _, Wds.lit0 wr⟩
      case round =>
        obtain ⟨j, v, hj, rfl, rfl, hbl, hwd⟩ := hrel
        obtain ⟨aV, cV, rfl⟩ := hwd.shape
        have b1 := (HROW.out.later hbl)
        have HBJ : Hid (Below _ _ _) := hbl
        have HWD : Hid (Wds _ _ _ _) := hwd
        have hlj := HL.out j
        by_cases hlt2 : j < n
        · have b2 := b1.cell hlt2
          clear b1 hbl hwd
          cases hgj : g j with
          | true =>
            rw [hgj] at b2
            have HYJ : Hid (selL g (j + 1) = selL g j ++ [(j : Int)]) := selL_yes hgj
            obtain ⟨a', c', X, hr, hw, hb, _⟩ := append_w1 _ _ _ (selL g j) (j : Int) HWD.out HBJ.out.size (by omega)
            have HR : Hid (_ = _) := hr
            rw [← HYJ.out] at HR hw
            have HW : Hid (Wds X _ _ (selL g (j + 1))) := hw
            have HB : Hid (Below _ _ X) := HBJ.out.trans hb
            clear hr hw hb hgj
            go_wp2_with (at_builtin; refine wpList_append_run rfl _ _ 27 rfl _ _ rfl rfl _ _ HR.out ?_)
            go_roundw
            case rel => exact ⟨j + 1, _, by omega, by go_num, rfl, HB.out, HW.out⟩
            case measure => simp [intOf]; omega
          | false =>
            rw [hgj] at b2
            have HNJ : Hid (selL g (j + 1) = selL g j) := selL_no hgj
            clear hgj
            go_wp2
            go_roundw
            case rel => exact ⟨j + 1, _, by omega, by go_num, rfl, HBJ.out, by rw [HNJ.out]; exact HWD.out⟩
            case measure => simp [intOf]; omega
        · have he : j = n := by omega
          subst he
          clear b1 hbl hwd hlt2
          go_wp2
          go_ret
          simp only [HRG.out]
          exact ⟨_, _, _, rfl, HBL.out.trans ⟨HBJ.out.os, HBJ.out.tape, HBJ.out.output, HBJ.out.size, fun b hb => HBJ.out.block b (Nat.lt_of_lt_of_le hb HBL.out.size)⟩, HBL.out.size, HWD.out⟩
end Go.Proofs.YtjabimfinanjoaaGreat

namespace Go.Proofs.YtjabimfinanjoaaGreat
open Go.RowKit
set_option maxRecDepth 100000

theorem entI_get (es : List EN) (k : Nat) : (entI es)[k]?.getD 0 = (es[k]?.getD en0).2 := by
  unfold entI; rw [List.getElem?_map]; cases es[k]? <;> rfl
theorem entI_len (es : List EN) : (entI es).length = es.length := by simp [entI]
theorem allE_bound (ds : List ID) (hs : sizeInos ds ≤ 1048576) (v : Int) : (allE ds).count v ≤ 1048576 := by
  have h2 := allE_len ds
  have h3 := List.count_le_length (a := v) (l := allE ds)
  unfold sizeInos at hs
  omega

set_option maxHeartbeats 1600000 in
theorem l5Links_walk (w : World) (a : Option Addr) (n c : Nat) (ds : List ID) (v : Int) (hn : n ≤ 1048576) (hdn : ds.length = n) (hs : (isz ds).sum ≤ 1048576) (hc : AtI w a n ds) :
    Calls Tryz.prog 117 #[.slice a n c, .int .i64 v] w fun e w' => e = .returned (.int .i64 (((allE ds).count v : Nat) : Int)) ∧ ∃ m, w' = w.drewN m := by
  have HC : Hid (AtI w a n ds) := hc
  have HN : Hid (ds.length = n) := hdn
  have HT : Hid ((allE ds).count v = (((ds.take n).flatMap fun d => entI d.2.2.2.2)).count v) := by unfold Hid allE; rw [List.take_of_length_le (by omega)]
  have HS : Hid (∀ j, (((ds.take j).flatMap fun d => entI d.2.2.2.2)).count v ≤ 1048576) := fun j => by
    have h1 := flat_take (fun d : ID => entI d.2.2.2.2) ds j
    have h2 := allE_len ds
    have h3 := List.count_le_length (a := v) (l := (ds.take j).flatMap fun d => entI d.2.2.2.2)
    unfold allE at h2
    omega
  have HX : Hid (∀ j, j < n → ((ds.take (j + 1)).flatMap fun d => entI d.2.2.2.2).count v = ((ds.take j).flatMap fun d => entI d.2.2.2.2).count v + (entI (ds[j]?.getD id0).2.2.2.2).count v) := fun j hj => by
    rw [flat_next (fun d : ID => entI d.2.2.2.2) ds id0 j (by omega), List.count_append]
  have HZ : Hid (∀ j, (ds[j]?.getD id0).2.2.2.2.length ≤ 1048576) := fun j => by
    have := isz_le ds j
    have hd : sizeIno (ds[j]?.getD id0) = (ds[j]?.getD id0).2.2.2.1.length + ((ds[j]?.getD id0).2.2.2.2.length + (nlens (ds[j]?.getD id0).2.2.2.2).sum) := rfl
    omega
  rw [HT.out]
  clear hc hdn hs HT
  generalize hG : (fun j => ((ds.take j).flatMap fun d => entI d.2.2.2.2).count v) = G at *
  have HG : Hid (∀ j, ((ds.take j).flatMap fun d => entI d.2.2.2.2).count v = G j) := fun j => congrFun hG j
  simp only [HG.out] at HS HX ⊢
  have HG0 : Hid (G 0 = 0) := by unfold Hid; rw [← HG.out 0]; simp
  clear hG HG
  go_enter Tryz.func117, Tryz.ntmps117
  go_wp2
  go_loopw [5, 6] (fun q i wr => ∃ j m : Nat, j ≤ n ∧ i = .int .i64 j ∧ q = .int .i64 ((G j : Nat) : Int) ∧ wr = w.drewN m) (fun _ i _ => n - (intOf i).toNat)
  case atStart => exact ⟨0, 0, Nat.zero_le _, rfl, by rw [HG0.out]; rfl, rfl⟩
  case round =>
    obtain ⟨j, m, hj, rfl, rfl, rfl⟩ := hrel
    by_cases hlt : j < n
    · obtain ⟨b, o, rfl, hI⟩ := HC.out j hlt
      obtain ⟨aB, cB, aE, cE, h0, h1, h2, h3, h4, h5⟩ := hI
      obtain ⟨_, _, e1, hm1, _, hc1⟩ := h5.2.2.open'
      simp only [Value.slice.injEq] at e1
      obtain ⟨rfl, _, rfl⟩ := e1
      have HZJ := HZ.out j
      have HSJ := HS.out (j + 1)
      have HXJ' : Hid (G (j + 1) = G j + (entI (ds[j]?.getD id0).2.2.2.2).count v) := HX.out j hlt
      clear h0 h1 h2 h3 h5 HC
      generalize (ds[j]?.getD id0).2.2.2.2 = es at *
      have HCB : Hid (AtN w aE es.length es) := hc1
      obtain ⟨nB, hnB⟩ : ∃ nB, nB = es.length := ⟨_, rfl⟩
      have HNB : Hid (nB = es.length) := hnB
      have HNI : Hid (nB = (entI es).length) := by unfold Hid; rw [entI_len]; exact hnB
      rw [← hnB] at h4 hm1 HZJ
      have hle : G j + (entI es).count v ≤ 1048576 := by have := HXJ'.out; omega
      have HEG : Hid (∀ k : Nat, (entI es)[k]?.getD 0 = (es[k]?.getD en0).2) := fun k => entI_get es k
      clear hc1 hnB HSJ
      generalize entI es = bs at *
      go_wp2
      go_loopw [5, 7] (fun q i wr => ∃ k m2 : Nat, k ≤ nB ∧ i = .int .i64 k ∧ q = .int .i64 (((G j + (bs.take k).count v : Nat)) : Int) ∧ wr = w.drewN m2) (fun _ i _ => nB - (intOf i).toNat)
      case atStart => exact ⟨0, m, Nat.zero_le _, rfl, by simp, rfl⟩
      case round =>
        obtain ⟨k, m2, hk, rfl, rfl, rfl⟩ := hrel
        by_cases hlk : k < nB
        · obtain ⟨b1, o1, rfl, _, d1⟩ := HCB.out k (by rw [← HNB.out]; exact hlk)
          rw [← HEG.out k] at d1
          have hcn := count_next bs v k (by rw [← HNI.out]; exact hlk)
          have HCN : Hid ((bs.take (k + 1)).count v = (bs.take k).count v + (if bs[k]?.getD 0 = v then 1 else 0)) := hcn
          have hct : (bs.take k).count v ≤ bs.count v := List.Sublist.count_le v (List.take_sublist k bs)
          generalize (bs.take k).count v = ck at *
          clear hcn HCB HEG
          generalize bs[k]?.getD 0 = x at *
          by_cases hxv : x = v
          · have hxb : (x == v) = true := by simpa using hxv
            have HCN' : Hid ((bs.take (k + 1)).count v = ck + 1) := by unfold Hid; rw [HCN.out, if_pos hxv]
            clear hxv HCN
            go_wp2
            go_roundw
            case rel => exact ⟨k + 1, _, by omega, by go_num, by rw [HCN'.out]; go_num, rfl⟩
            case measure => simp [intOf]; omega
          · have hxb : (x == v) = false := by simpa using hxv
            have HCN' : Hid ((bs.take (k + 1)).count v = ck) := by unfold Hid; rw [HCN.out, if_neg hxv, Nat.add_zero]
            clear hxv HCN
            go_wp2
            go_roundw
            case rel => exact ⟨k + 1, _, by omega, by go_num, by rw [HCN'.out], rfl⟩
            case measure => simp [intOf]; omega
        · have hkn : bs.take k = bs := List.take_of_length_le (by rw [← HNI.out]; omega)
          rw [hkn]
          clear hkn
          have HE : Hid (((G j + bs.count v : Nat) : Int) = ((G (j + 1) : Nat) : Int)) := by unfold Hid; rw [HXJ'.out]
          go_wp2
          go_roundw
          case rel => exact ⟨j + 1, _, by omega, by go_num, by rw [HE.out], rfl⟩
          case measure => simp [intOf]; omega
    · have HJ : Hid (G j = G n) := by unfold Hid; rw [show j = n by omega]
      go_wp2
      go_ret
      exact ⟨ret_int (by rw [HJ.out]), m, rfl⟩
theorem l5Links_any {w : World} {vv : Value} {ds : List ID} (h : Inos w vv ds) (hs : sizeInos ds ≤ 1048576) (v : Int) :
    Calls Tryz.prog 117 #[vv, .int .i64 v] w fun e w' => e = .returned (.int .i64 (((allE ds).count v : Nat) : Int)) ∧ ∃ m, w' = w.drewN m := by
  obtain ⟨a, cap, rfl, hm, hc⟩ := h.open'
  unfold sizeInos at hs
  exact l5Links_walk w a _ cap ds v (by omega) rfl (by omega) hc

end Go.Proofs.YtjabimfinanjoaaGreat

namespace Go.Proofs.YtjabimfinanjoaaGreat
open Go.RowKit
set_option maxRecDepth 100000

/-- How many entries have to name an inode. -/
def wantL (ds : List ID) (i : Nat) : Int := if kindAt ds i = 1 then (ds[i]?.getD id0).2.1 else if i = 0 then 0 else 1
def lnkOK (ds : List ID) (i : Nat) : Bool := decide (kindAt ds i = 0) || (decide ((((allE ds).count (i : Int) : Nat) : Int) = wantL ds i) && reachG ds ds.length i)
def linksB (ds : List ID) : Bool := (List.range ds.length).all (lnkOK ds)
theorem linksB_no {ds : List ID} {i : Nat} (hi : i < ds.length) (h : lnkOK ds i = false) : linksB ds = false := by
  unfold linksB
  rw [List.all_eq_false]
  exact ⟨i, by simpa using hi, by simp [h]⟩
theorem linksB_yes {ds : List ID} (h : ∀ i, i < ds.length → lnkOK ds i = true) : linksB ds = true := by
  unfold linksB
  rw [List.all_eq_true]
  intro i hi
  exact h i (by simpa using hi)
theorem selL_contains (p : Nat → Bool) {n i : Nat} (hi : i < n) : (selL p n).contains (i : Int) = p i := by
  cases hp : p i with
  | true =>
    rw [List.contains_iff_mem]
    unfold selL
    rw [List.mem_map]
    exact ⟨i, List.mem_filter.2 ⟨by simpa using hi, hp⟩, rfl⟩
  | false =>
    rw [Bool.eq_false_iff]
    intro hc
    rw [List.contains_iff_mem] at hc
    unfold selL at hc
    rw [List.mem_map] at hc
    obtain ⟨k, hk, e⟩ := hc
    have : k = i := by omega
    subst this
    rw [(List.mem_filter.1 hk).2] at hp
    cases hp

set_option maxHeartbeats 6400000 in
theorem l6Links_any (w : World) (b o : Nat) (d : FD) (aI : Option Addr) (cI : Nat) (aD : Option Addr) (cD : Nat) (h : FsX w b o d aI cI aD cD) (hs : sizeInos d.1 ≤ 1048576) (hn0 : ¬ d.1.length = 0) (hn : d.1.length ≤ 10)
    (hx : ∀ j, j < d.1.length → ∀ k, k < (d.1[j]?.getD id0).2.2.2.2.length → 0 ≤ ((d.1[j]?.getD id0).2.2.2.2[k]?.getD en0).2 ∧ ((d.1[j]?.getD id0).2.2.2.2[k]?.getD en0).2 < (d.1.length : Int)) :
    Calls Tryz.prog 101 #[.pointer (some ⟨b, o, none⟩)] w fun e w' => e = .returned (.bool (linksB d.1)) ∧ Below w.heap.size w w' := by
  have HRE : Hid (Calls Tryz.prog 116 #[.pointer (some ⟨b, o, none⟩)] w fun e w' => ∃ a c n₀, e = .returned (.slice a (selL (reachG d.1 d.1.length) d.1.length).length c) ∧ Below w.heap.size w w' ∧ w.heap.size ≤ n₀ ∧ Wds w' n₀ (.slice a (selL (reachG d.1 d.1.length) d.1.length).length c) (selL (reachG d.1 d.1.length) d.1.length)) := l6Reach_any w b o d aI cI aD cD h hn0 hn hx
  have HX : Hid (FsX w b o d aI cI aD cD) := h
  have HAM : Hid (∀ i : Nat, i < d.1.length → (selL (reachG d.1 d.1.length) d.1.length).contains (i : Int) = reachG d.1 d.1.length i) := fun i hi => selL_contains _ hi
  clear h hx
  generalize selL (reachG d.1 d.1.length) d.1.length = zs at *
  go_enter Tryz.func101, Tryz.ntmps101
  go_wp2_with fail
  refine HRE.out.mono ?_
  rintro e w1 ⟨ar, cr, n₀, rfl, hb1, hn1, hwd⟩
  have HB1 : Hid (Below w.heap.size w w1) := hb1
  have hX1 := HX.out.later hb1
  have HIN : Hid (Ints w1 (.slice ar zs.length cr) zs) := (hwd.own' hn1).reads
  have HAMO : Hid (∀ (m i : Nat), Calls Tryz.prog 87 #[.slice ar zs.length cr, .int .i64 (i : Int)] (w1.drewN m) fun e w' => e = .returned (.bool (zs.contains (i : Int))) ∧ ∃ m', w' = (w1.drewN m).drewN m') := fun m i => l5Among_any (HIN.out.drewN m) _
  have HLN : Hid (∀ (m i : Nat), Calls Tryz.prog 117 #[.slice aI d.1.length cI, .int .i64 (i : Int)] (w1.drewN m) fun e w' => e = .returned (.int .i64 (((allE d.1).count (i : Int) : Nat) : Int)) ∧ ∃ m', w' = (w1.drewN m).drewN m') := fun m i => l5Links_any (hX1.ins.later (below_drewN (Below.refl _ _) m)) hs _
  obtain ⟨_, _, e1, hm1, hAt⟩ := hX1.ins.open'
  simp only [Value.slice.injEq] at e1
  obtain ⟨rfl, -, rfl⟩ := e1
  have HAT : Hid (AtI w1 aI d.1.length d.1) := hAt
  have c0 := hX1.c0
  have HCL : Hid (∀ i, (allE d.1).count (i : Int) ≤ 1048576) := fun i => by
    have h1 := List.count_le_length (a := i) (l := allE d.1)
    have h2 := allE_len d.1
    unfold sizeInos at hs
    omega
  clear hb1 hwd HRE HX hX1 hAt hm1 hs
  obtain ⟨n, hnn⟩ : ∃ n, d.1.length = n := ⟨_, rfl⟩
  have HN : Hid (d.1.length = n) := hnn
  have HOK : Hid (∀ i : Nat, i < n → lnkOK d.1 i = (decide (kindAt d.1 i = 0) || (decide ((((allE d.1).count (i : Int) : Nat) : Int) = wantL d.1 i) && zs.contains (i : Int)))) := fun i hi => by
    rw [HAM.out i (by rw [hnn]; exact hi)]; rfl
  rw [hnn] at HLN HAT c0 hn0 hn
  clear hnn HAM
  generalize zs.length = nz at *
  go_wp2
  go_loopw [4] (fun i wr => ∃ j m : Nat, j ≤ n ∧ i = .int .i64 j ∧ wr = w1.drewN m ∧ ∀ k, k < j → lnkOK d.1 k = true) (fun i _ => n - (intOf i).toNat)
  case atStart => exact ⟨0, 0, Nat.zero_le _, rfl, rfl, fun k hk => by omega⟩
  case round =>
    obtain ⟨j, m, hj, rfl, rfl, hz⟩ := hrel
    have HZ : Hid (∀ k, k < j → lnkOK d.1 k = true) := hz
    clear hz
    by_cases hlt : j < n
    · obtain ⟨b0, o0, rfl, hI⟩ := HAT.out j hlt
      obtain ⟨_, _, _, _, k0, k1, _⟩ := hI
      have HL := HLN.out m j
      have HA := fun q => HAMO.out q j
      have hcl := HCL.out (j : Int)
      have HY : Hid (lnkOK d.1 j = true → ∀ k, k < j + 1 → lnkOK d.1 k = true) := fun hh k hk => by
        by_cases e : k = j
        · subst e; exact hh
        · exact HZ.out k (by omega)
      have HNO : Hid (lnkOK d.1 j = false → linksB d.1 = false) := fun hh => linksB_no (by rw [HN.out]; exact hlt) hh
      have HO : Hid (lnkOK d.1 j = (decide (kindAt d.1 j = 0) || (decide ((((allE d.1).count (j : Int) : Nat) : Int) = wantL d.1 j) && zs.contains (j : Int)))) := HOK.out j hlt
      have HW : Hid (wantL d.1 j = if (d.1[j]?.getD id0).1 = 1 then (d.1[j]?.getD id0).2.1 else if j = 0 then 0 else 1) := rfl
      have HK : Hid (kindAt d.1 j = (d.1[j]?.getD id0).1) := rfl
      have HL' : Hid (Calls Tryz.prog 117 _ _ _) := HL
      have HA' : Hid (∀ q, Calls Tryz.prog 87 _ (w1.drewN q) _) := HA
      clear HL HA
      generalize (d.1[j]?.getD id0).1 = kd at *
      generalize (d.1[j]?.getD id0).2.1 = lk at *
      generalize (allE d.1).count (j : Int) = cn at *
      generalize zs.contains (j : Int) = am at *
      by_cases hk0 : kd = 0
      · have hb0 : (kd == 0) = true := by simpa using hk0
        have HR : Hid (∀ k, k < j + 1 → lnkOK d.1 k = true) := HY.out (by rw [HO.out, HK.out]; simp [hk0])
        clear hk0 HO HW HK HY HNO
        go_wp2_with fail
        refine HL'.out.mono ?_
        rintro e w2 ⟨rfl, m', rfl⟩
        go_wp2
        go_roundw
        case rel => exact ⟨j + 1, _, by omega, by go_num, by first | rfl | rw [World.drewN_drewN], HR.out⟩
        case measure => simp [intOf]; omega
      · have hb0 : (kd == 0) = false := by simpa using hk0
        have HO2 : Hid (lnkOK d.1 j = (decide (((cn : Nat) : Int) = wantL d.1 j) && am)) := by unfold Hid; rw [HO.out, HK.out]; simp [hk0]
        clear hk0 HO HK
        by_cases hk1 : kd = 1
        · have hb1 : (kd == 1) = true := by simpa using hk1
          have HW2 : Hid (wantL d.1 j = lk) := by unfold Hid; rw [HW.out, if_pos hk1]
          clear hk1 HW
          have HW := HW2
          clear HW2
          by_cases hcw : ((cn : Nat) : Int) = lk
          rotate_left
          · have hbc : (((cn : Nat) : Int) != lk) = true := by simpa using hcw
            have HR : Hid (linksB d.1 = false) := HNO.out (by rw [HO2.out, HW.out, decide_eq_false hcw]; rfl)
            clear hcw HO2 HW HY HNO HA'
            go_wp2_with fail
            refine HL'.out.mono ?_
            rintro e w2 ⟨rfl, m', rfl⟩
            go_wp2
            go_ret
            exact ⟨ret_bool HR.out.symm, by first | exact below_drewN HB1.out _ | exact below_drewN (below_drewN HB1.out _) _⟩
          · have hbc : (((cn : Nat) : Int) != lk) = false := by simpa using hcw
            have HO3 : Hid (lnkOK d.1 j = am) := by unfold Hid; rw [HO2.out, HW.out, decide_eq_true hcw]; simp
            clear hcw HO2 HW
            cases am with
            | true =>
              have HR : Hid (∀ k, k < j + 1 → lnkOK d.1 k = true) := HY.out HO3.out
              clear HO3 HY HNO
              go_wp2_with fail
              refine HL'.out.mono ?_
              rintro e w2 ⟨rfl, m', rfl⟩
              rw [World.drewN_drewN]
              go_wp2_with fail
              refine (HA'.out _).mono ?_
              rintro e w3 ⟨rfl, m3, rfl⟩
              go_wp2
              go_roundw
              case rel => exact ⟨j + 1, _, by omega, by go_num, by first | rfl | rw [World.drewN_drewN], HR.out⟩
              case measure => simp [intOf]; omega
            | false =>
              have HR : Hid (linksB d.1 = false) := HNO.out HO3.out
              clear HO3 HY HNO
              go_wp2_with fail
              refine HL'.out.mono ?_
              rintro e w2 ⟨rfl, m', rfl⟩
              rw [World.drewN_drewN]
              go_wp2_with fail
              refine (HA'.out _).mono ?_
              rintro e w3 ⟨rfl, m3, rfl⟩
              go_wp2
              go_ret
              exact ⟨ret_bool HR.out.symm, by first | exact below_drewN HB1.out _ | exact below_drewN (below_drewN HB1.out _) _⟩
        · have hb1 : (kd == 1) = false := by simpa using hk1
          by_cases hj0 : j = 0
          · have hbj : ((j : Int) == 0) = true := by simp [hj0]
            have HW2 : Hid (wantL d.1 j = 0) := by unfold Hid; rw [HW.out, if_neg hk1, if_pos hj0]
            clear hk1 HW hj0
            have HW := HW2
            clear HW2
            by_cases hcw : ((cn : Nat) : Int) = 0
            rotate_left
            · have hbc : (((cn : Nat) : Int) != 0) = true := by simpa using hcw
              have HR : Hid (linksB d.1 = false) := HNO.out (by rw [HO2.out, HW.out, decide_eq_false hcw]; rfl)
              clear hcw HO2 HW HY HNO HA'
              go_wp2_with fail
              refine HL'.out.mono ?_
              rintro e w2 ⟨rfl, m', rfl⟩
              go_wp2
              go_ret
              exact ⟨ret_bool HR.out.symm, by first | exact below_drewN HB1.out _ | exact below_drewN (below_drewN HB1.out _) _⟩
            · have hbc : (((cn : Nat) : Int) != 0) = false := by simpa using hcw
              have HO3 : Hid (lnkOK d.1 j = am) := by unfold Hid; rw [HO2.out, HW.out, decide_eq_true hcw]; simp
              clear hcw HO2 HW
              cases am with
              | true =>
                have HR : Hid (∀ k, k < j + 1 → lnkOK d.1 k = true) := HY.out HO3.out
                clear HO3 HY HNO
                go_wp2_with fail
                refine HL'.out.mono ?_
                rintro e w2 ⟨rfl, m', rfl⟩
                rw [World.drewN_drewN]
                go_wp2_with fail
                refine (HA'.out _).mono ?_
                rintro e w3 ⟨rfl, m3, rfl⟩
                go_wp2
                go_roundw
                case rel => exact ⟨j + 1, _, by omega, by go_num, by first | rfl | rw [World.drewN_drewN], HR.out⟩
                case measure => simp [intOf]; omega
              | false =>
                have HR : Hid (linksB d.1 = false) := HNO.out HO3.out
                clear HO3 HY HNO
                go_wp2_with fail
                refine HL'.out.mono ?_
                rintro e w2 ⟨rfl, m', rfl⟩
                rw [World.drewN_drewN]
                go_wp2_with fail
                refine (HA'.out _).mono ?_
                rintro e w3 ⟨rfl, m3, rfl⟩
                go_wp2
                go_ret
                exact ⟨ret_bool HR.out.symm, by first | exact below_drewN HB1.out _ | exact below_drewN (below_drewN HB1.out _) _⟩
          · have hbj : ((j : Int) == 0) = false := by simp; omega
            have HW2 : Hid (wantL d.1 j = 1) := by unfold Hid; rw [HW.out, if_neg hk1, if_neg hj0]
            clear hk1 HW hj0
            have HW := HW2
            clear HW2
            by_cases hcw : ((cn : Nat) : Int) = 1
            rotate_left
            · have hbc : (((cn : Nat) : Int) != 1) = true := by simpa using hcw
              have HR : Hid (linksB d.1 = false) := HNO.out (by rw [HO2.out, HW.out, decide_eq_false hcw]; rfl)
              clear hcw HO2 HW HY HNO HA'
              go_wp2_with fail
              refine HL'.out.mono ?_
              rintro e w2 ⟨rfl, m', rfl⟩
              go_wp2
              go_ret
              exact ⟨ret_bool HR.out.symm, by first | exact below_drewN HB1.out _ | exact below_drewN (below_drewN HB1.out _) _⟩
            · have hbc : (((cn : Nat) : Int) != 1) = false := by simpa using hcw
              have HO3 : Hid (lnkOK d.1 j = am) := by unfold Hid; rw [HO2.out, HW.out, decide_eq_true hcw]; simp
              clear hcw HO2 HW
              cases am with
              | true =>
                have HR : Hid (∀ k, k < j + 1 → lnkOK d.1 k = true) := HY.out HO3.out
                clear HO3 HY HNO
                go_wp2_with fail
                refine HL'.out.mono ?_
                rintro e w2 ⟨rfl, m', rfl⟩
                rw [World.drewN_drewN]
                go_wp2_with fail
                refine (HA'.out _).mono ?_
                rintro e w3 ⟨rfl, m3, rfl⟩
                go_wp2
                go_roundw
                case rel => exact ⟨j + 1, _, by omega, by go_num, by first | rfl | rw [World.drewN_drewN], HR.out⟩
                case measure => simp [intOf]; omega
              | false =>
                have HR : Hid (linksB d.1 = false) := HNO.out HO3.out
                clear HO3 HY HNO
                go_wp2_with fail
                refine HL'.out.mono ?_
                rintro e w2 ⟨rfl, m', rfl⟩
                rw [World.drewN_drewN]
                go_wp2_with fail
                refine (HA'.out _).mono ?_
                rintro e w3 ⟨rfl, m3, rfl⟩
                go_wp2
                go_ret
                exact ⟨ret_bool HR.out.symm, by first | exact below_drewN HB1.out _ | exact below_drewN (below_drewN HB1.out _) _⟩
    · have HR : Hid (linksB d.1 = true) := linksB_yes fun i hi => HZ.out i (by rw [HN.out] at hi; omega)
      go_wp2
      go_ret
      exact ⟨ret_bool HR.out.symm, below_drewN HB1.out m⟩
end Go.Proofs.YtjabimfinanjoaaGreat
