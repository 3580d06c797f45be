/- The walks of the specification's FlushDisk and CrashDisk. The walk of the specification's PutBlock where it puts. The walk of the program's PutBlock. The walk of the program's settling of what is picked. The walks of the program's FlushDisk and CrashDisk. Lists of bits: how they read, and the walks of the laws' functions over them. The specification: which places can be reached. The specification's l4Pack. The program's InodeFault. The program's InodeFault: its kinds. The program's InodeFault. PackInode, both sides. The specification's UsedBlocks, FreeBlocks, PickBlocks and FreeInode. The specification's LinksOf. The specification: are links and places right? The specification: has each block just the bytes that it should have? The program's faults of lists of inodes and of busy blocks. -/
import Derived.Test.YtjabimfinanjoabM05
import Derived.Test.YtjabimfinanjoabM02
import Derived.Test.YtjabimfinanjoabM03
import Derived.Test.YtjabimfinanjoabM04
import Derived.Laws.Cover1
import Derived.Deep.RegionHeld3
namespace Go.Proofs.Ytjabimfinanjoab
open Go.RowKit
set_option maxRecDepth 100000

theorem faultF_places {bs : List (List Int)} {ps : List (Int × List Int)} (h : faultF bs ps = 0) : ∀ k, k < ps.length → ∃ x : Nat, (ps[k]?.getD (0, [])).1 = x ∧ x < bs.length := by
  have g := faultF_lens h
  have hb : ∀ n, ∀ i : Nat, i < n → i < bs.length → wordsF (bs[i]?.getD []) = 0 := by
    intro n
    induction n with
    | zero => intro i hi; omega
    | succ n ih =>
      intro i hi hl
      by_cases e : wordsF (bs[i]?.getD []) = 0
      · exact e
      · exact absurd (faultF_block (ps := ps) (by omega) hl (fun j hj => ih j (by omega) (by omega)) e) (by rw [h]; exact fun e' => e e'.symm)
  have hp : ∀ n, ∀ i : Nat, i < n → i < ps.length → putF bs.length (ps[i]?.getD (0, [])) = 0 := by
    intro n
    induction n with
    | zero => intro i hi; omega
    | succ n ih =>
      intro i hi hl
      by_cases e : putF bs.length (ps[i]?.getD (0, [])) = 0
      · exact e
      · exact absurd (faultF_put (by omega) (fun j hj => hb (j + 1) j (by omega) hj) hl (fun j hj => ih j (by omega) (by omega)) e) (by rw [h]; exact fun e' => e e'.symm)
  intro k hk
  have := hp (k + 1) k (by omega) hk
  unfold putF at this
  split at this
  · rename_i hq
    unfold placeB at hq
    simp only [decide_eq_true_eq] at hq
    exact ⟨(ps[k]?.getD (0, [])).1.toNat, by omega, by omega⟩
  · omega

/-- What a flush or a crash leaves in the blocks. -/
def keepBlocks (pk : Nat → Bool) (bs : List (List Int)) (ps : List (Int × List Int)) : List (List Int) := if faultF bs ps = 0 then keepTo pk bs ps ps.length else []

end Go.Proofs.Ytjabimfinanjoab

namespace Go.Proofs.Ytjabimfinanjoab
open Go.RowKit
set_option maxRecDepth 100000

theorem LRow.puts2 {w : World} {base lo : Nat} {e : TypeId} {v : Value} {n : Nat} {k : Nat → Nat} {u : Nat → Value} {ps : List (Int × List Int)} (h : LRow (C2 fun i => (ps[i]?.getD (0, [])).1) w base lo e 2 v n (fun i => (ps[i]?.getD (0, [])).2) k u) (hn : ps.length = n) (F : Nat → Prop) (hF : ∀ g, v.ownBlock = some g → F g) (hF' : ∀ i, i < n → F (k i)) : PutsO w v ps F := by
  subst hn
  by_cases h0 : ps.length = 0
  · obtain ⟨a, c, rfl⟩ := h.shape
    exact Or.inl ⟨List.eq_nil_of_length_eq_zero h0, a, c, by rw [h0]⟩
  · obtain ⟨g, cap, rfl, _, _, hm, hrow⟩ := h.cells (by decide) (fun _ => rfl) (by omega)
    refine Or.inr ⟨g, cap, u, fun i c => i < ps.length ∧ c = k i, hF g rfl, fun i c hc => ?_, fun i j c e h1 h2 => h.inj i j h1.1 h2.1 e (h1.2.symm.trans h2.2), rfl, hm, ?_, fun i hi => (h.at' i hi).mono fun c hc => ⟨hi, hc⟩⟩
    · have hne := h.ne i hc.1
      rw [hc.2]
      exact ⟨hF' i hc.1, fun e => hne (by simp [Value.ownBlock, e])⟩
    · refine hrow.congr fun c hc => ?_
      unfold putCell C2
      rcases Nat.mod_two_eq_zero_or_one c with h | h <;> simp [h]

/-- The puts, and one more. -/
def more (ps : List (Int × List Int)) (x : Int) (ws : List Int) (i : Nat) : Int × List Int := (ps ++ [(x, ws)])[i]?.getD (0, [])
theorem more_old {ps : List (Int × List Int)} {x : Int} {ws : List Int} {i : Nat} (h : i < ps.length) : more ps x ws i = ps[i]?.getD (0, []) := by unfold more; rw [List.getElem?_append_left h]
theorem more_new {ps : List (Int × List Int)} {x : Int} {ws : List Int} : more ps x ws ps.length = (x, ws) := by unfold more; simp

end Go.Proofs.Ytjabimfinanjoab

namespace Go.Proofs.Ytjabimfinanjoab
open Go.RowKit
set_option maxRecDepth 100000

theorem IntsSO.row {w : World} {g n cap : Nat} {zss : List (List Int)} {F : Nat → Prop} (h : IntsSO w (.slice (some ⟨g, 0, none⟩) n cap) zss F) (h0 : 0 < zss.length) : ∃ u, OwnRow w g n u ∧ F g ∧ ∀ i, i < n → ∃ ua un uc, u i = .slice ua un uc := by
  rcases h with ⟨h, _⟩ | ⟨b, cap', u, G, hFb, _, _, h1, _, h3, h4⟩
  · subst h; simp at h0
  · simp only [Value.slice.injEq, Option.some.injEq, Addr.mk.injEq, and_true] at h1
    obtain ⟨rfl, rfl, rfl⟩ := h1
    refine ⟨u, h3, hFb, fun i hi => ?_⟩
    rcases h4 i hi with ⟨_, a, c, e⟩ | ⟨_, _, _, e, _⟩
    · exact ⟨_, _, _, e⟩
    · exact ⟨_, _, _, e⟩
theorem AtBs.set {w X : World} {a : Option Addr} {n g x : Nat} {v : Value} {pb : List Bool} (h : AtBs w a n pb) (hb : Below w.heap.size w X) (hg : ∀ b off, a = some ⟨b, off, none⟩ → b ≠ g) : AtBs (X.setCell ⟨g, x, none⟩ v) a n pb := fun k hk => by
  obtain ⟨b, off, e, c⟩ := h k hk
  exact ⟨b, off, e, (World.cell?_of_block (w := X) (Below.heap_setCell _ _ _ _ (hg b off e))).trans (cell_later hb c)⟩

end Go.Proofs.Ytjabimfinanjoab

namespace Go.Proofs.Ytjabimfinanjoab
open Go.RowKit
set_option maxRecDepth 100000

theorem Try.infoBool : (Try.prog.info? 4).map (fun i => (i.zero, i.size, i.bytes)) = some (some (.bool false), 1, 1) := by kernel_rfl

theorem keepTo_congr {pk pk' : Nat → Bool} {bs : List (List Int)} {ps : List (Int × List Int)} (n : Nat) (h : ∀ i, i < n → pk i = pk' i) : keepTo pk bs ps n = keepTo pk' bs ps n := by
  induction n with
  | zero => rfl
  | succ n ih =>
    unfold keepTo
    rw [ih fun i hi => h i (by omega), h n (by omega)]

end Go.Proofs.Ytjabimfinanjoab

namespace Go.Proofs.Ytjabimfinanjoab
open Go.RowKit
set_option maxRecDepth 100000

def Bools (w : World) (v : Value) (zs : List Bool) : Prop :=
  (zs = [] ∧ ∃ a cap, v = .slice a 0 cap) ∨
  (∃ b off cap, v = .slice (some ⟨b, off, none⟩) zs.length cap ∧ zs.length ≤ maxLen ∧ ∀ k, k < zs.length → w.cell? ⟨b, off + k, none⟩ = some (.bool (zs[k]?.getD false)))
theorem Bools.later {w wx : World} {v : Value} {zs : List Bool} (h : Bools w v zs) (hb : Below w.heap.size w wx) : Bools wx v zs := by
  rcases h with h | ⟨b, off, cap, h1, h2, h3⟩
  · exact Or.inl h
  · exact Or.inr ⟨b, off, cap, h1, h2, fun k hk => cell_later hb (h3 k hk)⟩
theorem Bools.open' {w : World} {v : Value} {zs : List Bool} (h : Bools w v zs) : ∃ a cap, v = .slice a zs.length cap ∧ zs.length ≤ maxLen ∧ AtBs w a zs.length zs := by
  rcases h with ⟨rfl, a, cap, rfl⟩ | ⟨b, off, cap, rfl, hl, hc⟩
  · exact ⟨a, cap, rfl, by simp, fun k hk => by simp at hk⟩
  · exact ⟨_, cap, rfl, hl, fun k hk => ⟨b, off, rfl, hc k hk⟩⟩
/-- .. in one block of F. -/
def BoolsO (w : World) (v : Value) (zs : List Bool) (F : Nat → Prop) : Prop :=
  (zs = [] ∧ ∃ a cap, v = .slice a 0 cap) ∨
  (∃ b cap, F b ∧ v = .slice (some ⟨b, 0, none⟩) zs.length cap ∧ zs.length ≤ maxLen ∧ OwnRow w b zs.length (fun i => .bool (zs[i]?.getD false)))
theorem BoolsO.reads {w : World} {v : Value} {zs : List Bool} {F : Nat → Prop} (h : BoolsO w v zs F) : Bools w v zs := by
  rcases h with h | ⟨b, cap, _, h1, h2, h3⟩
  · exact Or.inl h
  · exact Or.inr ⟨b, 0, cap, h1, h2, fun k hk => by rw [Nat.zero_add]; exact h3.cell hk⟩
theorem BoolsO.keep {w w' : World} {v : Value} {zs : List Bool} {F : Nat → Prop} (h : BoolsO w v zs F) (e : ∀ b, F b → b < w.heap.size → w'.heap[b]? = w.heap[b]?) : BoolsO w' v zs F := by
  rcases h with h | ⟨b, cap, hF, h1, h2, h3⟩
  · exact Or.inl h
  · exact Or.inr ⟨b, cap, hF, h1, h2, h3.block (e b hF h3.lt)⟩
theorem BoolsO.mono {w : World} {v : Value} {zs : List Bool} {F G : Nat → Prop} (h : BoolsO w v zs F) (e : ∀ b, F b → G b) : BoolsO w v zs G := by
  rcases h with h | ⟨b, cap, hF, h1⟩
  · exact Or.inl h
  · exact Or.inr ⟨b, cap, e b hF, h1⟩
theorem BoolsO.later {w w' : World} {v : Value} {zs : List Bool} {F : Nat → Prop} (h : BoolsO w v zs F) (hb : Below w.heap.size w w') : BoolsO w' v zs F := h.keep fun b _ hlt => hb.block b hlt
theorem BoolsO.chg {w w' : World} {v : Value} {zs : List Bool} {F G : Nat → Prop} (h : BoolsO w v zs F) (hc : Chg G w w') (hd : ∀ b, F b → ¬ G b) : BoolsO w' v zs F := h.keep fun b hb hlt => hc.block b hlt (hd b hb)

theorem row_bool {w : World} {b n : Nat} {f : Nat → Bool} (h : OwnRow w b n (fun i => .bool (f i))) (j : Nat) (x : Bool) : ∃ g : Nat → Bool, OwnRow (w.setCell ⟨b, j, none⟩ (.bool x)) b n (fun i => .bool (g i)) :=
  ⟨fun i => if i = j then x else f i, (h.set j _).congr fun i _ => by by_cases e : i = j <;> simp [e]⟩

end Go.Proofs.Ytjabimfinanjoab

namespace Go.Proofs.Ytjabimfinanjoab
open Go.RowKit
set_option maxRecDepth 100000

def setB (g : Nat → Bool) (x : Int) : Nat → Bool := fun i => if i = x.toNat then true else g i
theorem setB_mono {g : Nat → Bool} {i : Nat} (h : g i = true) (x : Int) : setB g x i = true := by unfold setB; by_cases e : i = x.toNat <;> simp [e, h]
theorem foldB_mono {i : Nat} : ∀ (xs : List Int) {g : Nat → Bool}, g i = true → (xs.foldl setB g) i = true
  | [], _, h => h
  | x :: xs, _, h => foldB_mono xs (setB_mono h x)
theorem foldB_next (xs : List Int) (g : Nat → Bool) (k : Nat) (h : k < xs.length) : (xs.take (k + 1)).foldl setB g = setB ((xs.take k).foldl setB g) (xs[k]?.getD 0) := by
  rw [List.take_succ_eq_append_getElem h, List.foldl_append]; simp [h]
def inoB (ds : List ID) (g : Nat → Bool) (i : Nat) : Nat → Bool := if g i = true then (entI (ds[i]?.getD id0).2.2.2.2).foldl setB g else g
def sweepB (ds : List ID) (g : Nat → Bool) : Nat → Nat → Bool
  | 0 => g
  | i + 1 => inoB ds (sweepB ds g i) i
def reachG (ds : List ID) : Nat → Nat → Bool
  | 0 => fun i => decide (i = 0)
  | r + 1 => sweepB ds (reachG ds r) ds.length

end Go.Proofs.Ytjabimfinanjoab

namespace Go.Proofs.Ytjabimfinanjoab
open Go.RowKit
set_option maxRecDepth 100000

/-- The first append: three words, then the blocks. -/
theorem append_first (w W : World) (hW : Below w.heap.size w W) (z0 z1 z2 : Int) (aB : Option Addr) (nB cB : Nat) (bs : List Int) (hn : nB ≤ 1048576) (hbn : bs.length = nB) (hc : At1 w aB nB (fun k => .int .i64 (bs[k]?.getD 0))) :
    ∃ v' X, (Builtin.append_ #[42, 42] 42 #[.slice (some ⟨W.heap.size, 0, none⟩) 3 3, .slice aB nB cB]).run Try.prog (W.alloc (.cells #[.int .i64 z0, .int .i64 z1, .int .i64 z2] 2)) = .ok v' X ∧ Wds X w.heap.size v' ([z0, z1, z2] ++ bs) ∧ Below w.heap.size w X ∧ KeepT W X := by
  have hW1 : Below w.heap.size w (W.alloc (.cells #[.int .i64 z0, .int .i64 z1, .int .i64 z2] 2)) := hW.trans ((later1 _ _).mono hW.size)
  have hl := Wds.lit W w.heap.size hW.size [z0, z1, z2] #[.int .i64 z0, .int .i64 z1, .int .i64 z2] rfl 3 rfl (by omega)
  obtain ⟨v', X, h1, h2, h3, h4⟩ := append_any _ w.heap.size _ [z0, z1, z2] bs aB nB cB hl hW1.size hbn (by simp) hn (fun k hk => by
    obtain ⟨b, off, e, h⟩ := hc k hk
    exact ⟨b, off, e, cell_later hW1 h⟩) (hl.some (by simp))
  exact ⟨v', X, h1, h2, hW1.trans h3, (KeepT.later (later1 _ _)).trans h4⟩

end Go.Proofs.Ytjabimfinanjoab

namespace Go.Proofs.Ytjabimfinanjoab
open Go.RowKit
set_option maxRecDepth 100000

set_option maxHeartbeats 1600000 in
theorem hasFile_any (w : World) (k l s : Int) (a : Option Addr) (n c : Nat) (vE : Value) (a' : Option Addr) (n' c' : Nat) (hv : vE = .slice a' n' c') :
    Calls Try.prog 65 #[.agg #[.int .i64 k, .int .i64 l, .int .i64 s, .slice a n c, vE]] w fun e w' => e = .returned (.bool (decide (l ≠ 0) || decide (s ≠ 0) || decide (0 < n))) ∧ Below w.heap.size w w' := by
  subst hv
  by_cases hl : l = 0
  · subst hl
    by_cases hs : s = 0
    · subst hs
      by_cases hn : 0 < n
      · have hn' : decide ((0 : Int) < (n : Int)) = true := by simp; omega
        rw [show (decide ((0 : Int) ≠ 0) || decide ((0 : Int) ≠ 0) || decide (0 < n)) = true by simp; omega]
        go_enter Try.func65, Try.ntmps65
        go_wp2
        go_ret
        exact ⟨rfl, later1 _ _⟩
      · have hn' : decide ((0 : Int) < (n : Int)) = false := by simp; omega
        rw [show (decide ((0 : Int) ≠ 0) || decide ((0 : Int) ≠ 0) || decide (0 < n)) = false by simp; omega]
        go_enter Try.func65, Try.ntmps65
        go_wp2
        go_ret
        exact ⟨rfl, later1 _ _⟩
    · have hs' : (s != 0) = true := by simpa using hs
      rw [show (decide ((0 : Int) ≠ 0) || decide (s ≠ 0) || decide (0 < n)) = true by simp [hs]]
      go_enter Try.func65, Try.ntmps65
      go_wp2
      go_ret
      exact ⟨rfl, later1 _ _⟩
  · have hl' : (l != 0) = true := by simpa using hl
    rw [show (decide (l ≠ 0) || decide (s ≠ 0) || decide (0 < n)) = true by simp [hl]]
    go_enter Try.func65, Try.ntmps65
    go_wp2
    go_ret
    exact ⟨rfl, later1 _ _⟩
theorem hasDir_any (w : World) (k l s : Int) (a : Option Addr) (n c : Nat) (a' : Option Addr) (n' c' : Nat) :
    Calls Try.prog 66 #[.agg #[.int .i64 k, .int .i64 l, .int .i64 s, .slice a n c, .slice a' n' c']] w fun e w' => e = .returned (.bool (decide (0 < n'))) ∧ Below w.heap.size w w' := by
  by_cases hn : 0 < n'
  · have hn' : decide ((0 : Int) < (n' : Int)) = true := by simp; omega
    rw [show decide (0 < n') = true by simpa using hn]
    go_enter Try.func66, Try.ntmps66
    go_wp2
    go_ret
    exact ⟨rfl, later1 _ _⟩
  · have hn' : decide ((0 : Int) < (n' : Int)) = false := by simp; omega
    rw [show decide (0 < n') = false by simpa using hn]
    go_enter Try.func66, Try.ntmps66
    go_wp2
    go_ret
    exact ⟨rfl, later1 _ _⟩

/-- Whether one of the first n is x. -/
def hasI (bs : List Int) (n : Nat) (x : Int) : Bool := (List.range n).any fun k => bs[k]?.getD 0 == x
theorem hasI_yes {bs : List Int} {n k : Nat} {x : Int} (hk : k < n) (e : bs[k]?.getD 0 = x) : hasI bs n x = true := by
  unfold hasI; rw [List.any_eq_true]; exact ⟨k, by simpa using hk, by simp [e]⟩
theorem hasI_no {bs : List Int} {n : Nat} {x : Int} (h : ∀ k, k < n → ¬ bs[k]?.getD 0 = x) : hasI bs n x = false := by
  unfold hasI; rw [List.any_eq_false]; intro k hk; simp at hk; simp [h k hk]

set_option maxHeartbeats 1600000 in
theorem indexI_any (w : World) (a : Option Addr) (n c : Nat) (bs : List Int) (x : Int) (hn : n ≤ 1048576) (hc : At1 w a n (fun k => .int .i64 (bs[k]?.getD 0))) :
    Calls Try.prog 70 #[.slice a n c, .int .i64 x] w fun e w' => ∃ r : Int, e = .returned (.int .i64 r) ∧ decide (0 ≤ r) = hasI bs n x ∧ ∃ m, w' = w.drewN m := by
  have HC : Hid (At1 w a n (fun k => .int .i64 (bs[k]?.getD 0))) := hc
  clear hc
  go_enter Try.func70, Try.ntmps70
  go_wp2
  go_loopw [8] (fun i wr => ∃ j m : Nat, j ≤ n ∧ i = .int .i64 j ∧ wr = w.drewN m ∧ ∀ i : Nat, i < j → ¬ bs[i]?.getD 0 = x) (fun i _ => n - (intOf i).toNat)
  case atStart => exact ⟨0, 0, Nat.zero_le _, rfl, rfl, fun i hi => by omega⟩
  case round =>
    obtain ⟨j, m, hj, rfl, rfl, hall⟩ := hrel
    have HA : Hid (∀ i : Nat, i < j → ¬ bs[i]?.getD 0 = x) := hall
    clear hall
    by_cases hlt : j < n
    · obtain ⟨b1, off, rfl, e1⟩ := HC.out j hlt
      dsimp only at e1
      by_cases he : bs[j]?.getD 0 = x
      · have HH : Hid (hasI bs n x = true) := hasI_yes hlt he
        rw [he] at e1
        clear he
        go_wp2
        go_ret
        exact ⟨(j : Int), rfl, by rw [HH.out]; simp, m, rfl⟩
      · have HNE : Hid (∀ i : Nat, i < j + 1 → ¬ bs[i]?.getD 0 = x) := fun i hi => by
          by_cases e : i = j
          · rw [e]; exact he
          · exact HA.out i (by omega)
        have he' : (x == bs[j]?.getD 0) = false := by simp; exact fun h => he h.symm
        have he2 : (x = bs[j]?.getD 0) = False := by simp; exact fun h => he h.symm
        clear he
        generalize bs[j]?.getD 0 = y at *
        go_wp2
        go_roundw
        case rel => exact ⟨j + 1, m, by omega, by go_num, rfl, HNE.out⟩
        case measure => simp [intOf]; omega
    · have HH : Hid (hasI bs n x = false) := hasI_no fun k hk => HA.out k (by omega)
      go_wp2
      go_ret
      exact ⟨-1, rfl, by rw [HH.out]; rfl, m, rfl⟩

set_option maxHeartbeats 1600000 in
theorem containsI_any (w : World) (a : Option Addr) (n c : Nat) (bs : List Int) (x : Int) (hn : n ≤ 1048576) (hc : At1 w a n (fun k => .int .i64 (bs[k]?.getD 0))) :
    Calls Try.prog 69 #[.slice a n c, .int .i64 x] w fun e w' => e = .returned (.bool (hasI bs n x)) ∧ ∃ m, w' = w.drewN m := by
  have HC : Hid (At1 w a n (fun k => .int .i64 (bs[k]?.getD 0))) := hc
  clear hc
  go_enter Try.func69, Try.ntmps69
  go_wp2_with fail
  refine (indexI_any _ a n c bs x hn HC.out).mono ?_
  rintro e w1 ⟨r, rfl, hr, m, rfl⟩
  have HR : Hid (decide (0 ≤ r) = hasI bs n x) := hr
  clear hr
  go_wp2
  go_ret
  exact ⟨by rw [← HR.out]; rfl, m, rfl⟩

set_option maxHeartbeats 3200000 in
theorem blocksFault_any (w : World) (a : Option Addr) (n c : Nat) (bs : List Int) (hn : n ≤ 1048576) (hcap : n ≤ c) (hbn : bs.length = n) (hc : At1 w a n (fun k => .int .i64 (bs[k]?.getD 0))) :
    Calls Try.prog 68 #[.slice a n c] w fun e w' => e = .returned (.int .i64 (blkF bs)) ∧ ∃ m, w' = w.drewN m := by
  have HC : Hid (At1 w a n (fun k => .int .i64 (bs[k]?.getD 0))) := hc
  have HN : Hid (bs.length = n) := hbn
  clear hc hbn
  go_enter Try.func68, Try.ntmps68
  go_wp2
  go_loopw [9] (fun i wr => ∃ j m : Nat, j ≤ n ∧ i = .int .i64 j ∧ wr = w.drewN m ∧ ∀ i : Nat, i < j → rngF bs i = 0) (fun i _ => n - (intOf i).toNat)
  case atStart => exact ⟨0, 0, Nat.zero_le _, rfl, rfl, fun i hi => by omega⟩
  case round =>
    obtain ⟨j, m, hj, rfl, rfl, hall⟩ := hrel
    have HA : Hid (∀ i : Nat, i < j → rngF bs i = 0) := hall
    clear hall
    by_cases hlt : j < n
    · obtain ⟨b1, off, rfl, e1⟩ := HC.out j hlt
      dsimp only at e1
      have HRF : Hid (rngF bs j = if 0 ≤ bs[j]?.getD 0 ∧ bs[j]?.getD 0 ≤ 19 then 0 else 3) := rfl
      generalize bs[j]?.getD 0 = x at *
      have HB3 : Hid (rngF bs j = 3 → blkF bs = 3) := fun h => by
        have h3 : fstNZ (rngF bs) bs.length = 3 := by rw [fstNZ_at HA.out (by rw [h]; decide) (by rw [HN.out]; exact hlt), h]
        unfold blkF; rw [h3]; rfl
      by_cases h0 : x < 0
      · have HZ : Hid (blkF bs = 3) := HB3.out (by rw [HRF.out, if_neg (by omega)])
        go_wp2
        go_ret
        exact ⟨ret_int HZ.out.symm, m, rfl⟩
      · by_cases h1 : 20 ≤ x
        · have HZ : Hid (blkF bs = 3) := HB3.out (by rw [HRF.out, if_neg (by omega)])
          go_wp2
          go_ret
          exact ⟨ret_int HZ.out.symm, m, rfl⟩
        · have HZ : Hid (rngF bs j = 0) := by unfold Hid; rw [HRF.out, if_pos (by omega)]
          go_wp2
          go_roundw
          case rel =>
            refine ⟨j + 1, m, by omega, by go_num, rfl, fun i hi => ?_⟩
            by_cases e : i = j
            · subst e; exact HZ.out
            · exact HA.out i (by omega)
          case measure => simp [intOf]; omega
    · have HB : Hid (blkF bs = fstNZ (dupF bs) bs.length) := by
        unfold Hid blkF; rw [if_pos (fstNZ_zero fun i hi => HA.out i (by rw [HN.out] at hi; omega))]
      clear HA
      go_wp2
      go_loopw [22] (fun i wr => ∃ j m : Nat, j ≤ n ∧ i = .int .i64 j ∧ wr = w.drewN m ∧ ∀ i : Nat, i < j → dupF bs i = 0) (fun i _ => n - (intOf i).toNat)
      case atStart => exact ⟨0, m, Nat.zero_le _, rfl, rfl, fun i hi => by omega⟩
      case round =>
        obtain ⟨j2, m2, hj2, rfl, rfl, hall⟩ := hrel
        have HA : Hid (∀ i : Nat, i < j2 → dupF bs i = 0) := hall
        clear hall
        by_cases hlt2 : j2 < n
        · obtain ⟨b1, off, rfl, e1⟩ := HC.out j2 hlt2
          dsimp only at e1
          have HD : Hid (dupF bs j2 = if hasI bs j2 (bs[j2]?.getD 0) then 7 else 0) := rfl
          have HCN : Hid (∀ W : World, At1 W (some ⟨b1, off, none⟩) j2 (fun k => .int .i64 (bs[k]?.getD 0)) → ∀ cc, Calls Try.prog 69 #[.slice (some ⟨b1, off, none⟩) j2 cc, .int .i64 (bs[j2]?.getD 0)] W fun e w' => e = .returned (.bool (hasI bs j2 (bs[j2]?.getD 0))) ∧ ∃ m, w' = W.drewN m) := fun W hW cc => containsI_any W _ j2 cc bs _ (by omega) hW
          have HAT : Hid (At1 w (some ⟨b1, off, none⟩) j2 (fun k => .int .i64 (bs[k]?.getD 0))) := fun k hk => HC.out k (by omega)
          generalize hasI bs j2 (bs[j2]?.getD 0) = hh at *
          generalize bs[j2]?.getD 0 = x at *
          have hj2c : j2 ≤ c := by omega
          cases hh
          · have HZ : Hid (∀ i : Nat, i < j2 + 1 → dupF bs i = 0) := fun i hi => by
              by_cases e : i = j2
              · rw [e, HD.out]; rfl
              · exact HA.out i (by omega)
            go_wp2_with fail
            refine (HCN.out (w.drewN m2) HAT.out _).mono ?_
            rintro e w2 ⟨rfl, m3, rfl⟩
            go_wp2
            go_roundw
            case rel => exact ⟨j2 + 1, _, by omega, by go_num, by first | rfl | rw [World.drewN_drewN], HZ.out⟩
            case measure => simp [intOf]; omega
          · have HZ : Hid (blkF bs = 7) := by
              have h7 : dupF bs j2 = 7 := by rw [HD.out]; rfl
              unfold Hid; rw [HB.out, fstNZ_at HA.out (by rw [h7]; decide) (by rw [HN.out]; exact hlt2), h7]
            go_wp2_with fail
            refine (HCN.out (w.drewN m2) HAT.out _).mono ?_
            rintro e w2 ⟨rfl, m3, rfl⟩
            go_wp2
            go_ret
            exact ⟨ret_int HZ.out.symm, _, by first | rfl | rw [World.drewN_drewN]⟩
        · have HZ : Hid (blkF bs = 0) := by unfold Hid; rw [HB.out, fstNZ_zero fun i hi => HA.out i (by rw [HN.out] at hi; omega)]
          go_wp2
          go_ret
          exact ⟨ret_int HZ.out.symm, m2, rfl⟩
end Go.Proofs.Ytjabimfinanjoab

namespace Go.Proofs.Ytjabimfinanjoab
open Go.RowKit
set_option maxRecDepth 100000

set_option maxHeartbeats 1600000 in
theorem freeFault_any (w : World) (k l s : Int) (a : Option Addr) (n c : Nat) (a' : Option Addr) (n' c' : Nat) :
    Calls Try.prog 62 #[.agg #[.int .i64 k, .int .i64 l, .int .i64 s, .slice a n c, .slice a' n' c']] w fun e w' => e = .returned (.int .i64 (if (decide (l ≠ 0) || decide (s ≠ 0) || decide (0 < n)) || decide (0 < n') then 1 else 0)) ∧ Below w.heap.size w w' := by
  have HF := fun W => hasFile_any W k l s a n c (.slice a' n' c') a' n' c' rfl
  have HD := fun W => hasDir_any W k l s a n c a' n' c'
  generalize (decide (l ≠ 0) || decide (s ≠ 0) || decide (0 < n)) = f at *
  generalize decide (0 < n') = g at *
  have HHF : Hid (∀ W : World, _) := HF
  have HHD : Hid (∀ W : World, _) := HD
  clear HF HD
  cases f
  · have HG : Hid ((if (false || g) = true then (1 : Int) else 0) = if g = true then 1 else 0) := by unfold Hid; cases g <;> rfl
    rw [HG.out]
    go_enter Try.func62, Try.ntmps62
    go_wp2_with fail
    refine (HHF.out _).mono ?_
    rintro e w1 ⟨rfl, hb1⟩
    have HB1 : Hid (Below w.heap.size w w1) := (later1 _ _).trans (hb1.mono (by simp))
    have hx : Bx w1 w.heap.size [.int .i64 k, .int .i64 l, .int .i64 s, .slice a n c, .slice a' n' c'] := (Bx.new w _ _).later hb1
    have c0 := hx 0 _ rfl
    have c1 := hx 1 _ rfl
    have c2 := hx 2 _ rfl
    have c3 := hx 3 _ rfl
    have c4 := hx 4 _ rfl
    clear hb1 hx
    go_wp2_with fail
    refine (HHD.out _).mono ?_
    rintro e w2 ⟨rfl, hb2⟩
    have HB2 : Hid (Below w.heap.size w w2) := HB1.out.trans (hb2.mono HB1.out.size)
    clear hb2 c0 c1 c2 c3 c4
    cases g
    · go_wp2
      go_ret
      exact ⟨rfl, HB2.out⟩
    · go_wp2
      go_ret
      exact ⟨rfl, HB2.out⟩
  · go_enter Try.func62, Try.ntmps62
    go_wp2_with fail
    refine (HHF.out _).mono ?_
    rintro e w1 ⟨rfl, hb1⟩
    have HB1 : Hid (Below w.heap.size w w1) := (later1 _ _).trans (hb1.mono (by simp))
    clear hb1
    go_wp2
    go_ret
    exact ⟨rfl, HB1.out⟩

set_option maxHeartbeats 3200000 in
theorem fileFault_any (w : World) (k l s : Int) (a : Option Addr) (n c : Nat) (a' : Option Addr) (n' c' : Nat) (bs : List Int) (hn : n ≤ 1048576) (hcap : n ≤ c) (hbn : bs.length = n) (hc : At1 w a n (fun k => .int .i64 (bs[k]?.getD 0))) :
    Calls Try.prog 63 #[.agg #[.int .i64 k, .int .i64 l, .int .i64 s, .slice a n c, .slice a' n' c']] w fun e w' => e = .returned (.int .i64 (if decide (0 < n') then 1 else fileF l s bs)) ∧ Below w.heap.size w w' := by
  have HD := fun W => hasDir_any W k l s a n c a' n' c'
  generalize decide (0 < n') = g at *
  have HHD : Hid (∀ W : World, _) := HD
  have HC : Hid (At1 w a n (fun k => .int .i64 (bs[k]?.getD 0))) := hc
  have HN : Hid (bs.length = n) := hbn
  clear HD hc hbn
  cases g
  rotate_left
  · go_enter Try.func63, Try.ntmps63
    go_wp2_with fail
    refine (HHD.out _).mono ?_
    rintro e w1 ⟨rfl, hb1⟩
    have HB1 : Hid (Below w.heap.size w w1) := (later1 _ _).trans (hb1.mono (by simp))
    clear hb1
    go_wp2
    go_ret
    exact ⟨rfl, HB1.out⟩
  · have HFF : Hid (fileF l s bs = if linkB l = true ∧ sizeB s = true then (if (n : Int) = (s + 7) / 8 then blkF bs else 1) else 3) := by unfold Hid fileF; rw [HN.out]
    have HBF : Hid (bforR s = if sizeB s then (0, (s + 7) / 8) else (3, 0)) := rfl
    have HLK : Hid (linkB l = decide (1 ≤ l ∧ l ≤ 60)) := rfl
    go_enter Try.func63, Try.ntmps63
    go_wp2_with fail
    refine (HHD.out _).mono ?_
    rintro e w1 ⟨rfl, hb1⟩
    have HB1 : Hid (Below w.heap.size w w1) := (later1 _ _).trans (hb1.mono (by simp))
    have hx : Bx w1 w.heap.size [.int .i64 k, .int .i64 l, .int .i64 s, .slice a n c, .slice a' n' c'] := (Bx.new w _ _).later hb1
    have HX1 : Hid (Bx w1 w.heap.size [.int .i64 k, .int .i64 l, .int .i64 s, .slice a n c, .slice a' n' c']) := hx
    have c2 := hx 2 _ rfl
    clear hb1 hx
    go_wp2_with fail
    refine (implBFor_any _ s).mono ?_
    rw [HBF.out]
    rintro e w2 ⟨rfl, hb2⟩
    have HB2 : Hid (Below w.heap.size w w2) := HB1.out.trans (hb2.mono HB1.out.size)
    have hx : Bx w2 w.heap.size [.int .i64 k, .int .i64 l, .int .i64 s, .slice a n c, .slice a' n' c'] := HX1.out.later hb2
    have c1 := hx 1 _ rfl
    have c3 := hx 3 _ rfl
    have hlt := hx.lt
    clear hb2 hx c2 HX1 HB1
    by_cases hl1 : l < 1
    · have HR : Hid (fileF l s bs = 3) := by unfold Hid; rw [HFF.out, if_neg]; intro h; have := h.1; rw [HLK.out] at this; simp at this; omega
      go_wp2
      all_goals
        go_ret
        exact ⟨ret_int HR.out.symm, HB2.out.trans ((later1 _ _).mono HB2.out.size)⟩
    · by_cases hl2 : 60 < l
      · have HR : Hid (fileF l s bs = 3) := by unfold Hid; rw [HFF.out, if_neg]; intro h; have := h.1; rw [HLK.out] at this; simp at this; omega
        go_wp2
        all_goals
          go_ret
          exact ⟨ret_int HR.out.symm, HB2.out.trans ((later1 _ _).mono HB2.out.size)⟩
      · have hlk : linkB l = true := by rw [HLK.out]; simp; omega
        cases hsz : sizeB s
        · have HR : Hid (fileF l s bs = 3) := by unfold Hid; rw [HFF.out, if_neg]; intro h; rw [hsz] at h; exact absurd h.2 (by decide)
          clear hsz hlk
          go_wp2
          go_ret
          exact ⟨ret_int HR.out.symm, HB2.out.trans ((later1 _ _).mono HB2.out.size)⟩
        · by_cases hlen : (n : Int) = (s + 7) / 8
          · have HR : Hid (fileF l s bs = blkF bs) := by unfold Hid; rw [HFF.out, if_pos ⟨hlk, hsz⟩, if_pos hlen]
            have HBK : Hid (∀ W, Below w.heap.size w W → Calls Try.prog 68 #[.slice a n c] W fun e w' => e = .returned (.int .i64 (blkF bs)) ∧ ∃ m, w' = W.drewN m) := fun W hW => blocksFault_any W a n c bs hn hcap HN.out (fun k hk => by
              obtain ⟨b, off, e, h⟩ := HC.out k hk
              exact ⟨b, off, e, cell_later hW h⟩)
            have hnn : ((n : Int) != (n : Int)) = false := by simp
            have HLE : Hid ((n : Int) = (s + 7) / 8) := hlen
            rw [← hlen]
            clear hsz hlk hlen
            go_wp2_with fail
            refine (HBK.out _ (HB2.out.trans ((later1 _ _).mono HB2.out.size))).mono ?_
            rintro e w3 ⟨rfl, m, rfl⟩
            go_wp2
            go_ret
            exact ⟨ret_int HR.out.symm, below_drewN (HB2.out.trans ((later1 _ _).mono HB2.out.size)) m⟩
          · have HR : Hid (fileF l s bs = 1) := by unfold Hid; rw [HFF.out, if_pos ⟨hlk, hsz⟩, if_neg hlen]
            have hne : ((n : Int) != (s + 7) / 8) = true := by simpa using hlen
            clear hsz hlk hlen
            generalize (s + 7) / 8 = q at *
            go_wp2
            go_ret
            exact ⟨ret_int HR.out.symm, HB2.out.trans ((later1 _ _).mono HB2.out.size)⟩
end Go.Proofs.Ytjabimfinanjoab

namespace Go.Proofs.Ytjabimfinanjoab
open Go.RowKit
set_option maxRecDepth 100000

set_option maxHeartbeats 6400000 in
theorem dirFault_any (w : World) (k l s : Int) (a : Option Addr) (n c : Nat) (a' : Option Addr) (n' c' : Nat) (es : List EN) (hen : es.length = n') (_hm : n' ≤ maxLen) (hz : ∀ k : Nat, (es[k]?.getD en0).1.size ≤ maxLen) (hc : AtN w a' n' es) :
    Calls Try.prog 64 #[.agg #[.int .i64 k, .int .i64 l, .int .i64 s, .slice a n c, .slice a' n' c']] w fun e w' => e = .returned (.int .i64 (if decide (l ≠ 0) || decide (s ≠ 0) || decide (0 < n) then 1 else dirF es)) ∧ Below w.heap.size w w' := by
  have HF := fun W => hasFile_any W k l s a n c (.slice a' n' c') a' n' c' rfl
  generalize (decide (l ≠ 0) || decide (s ≠ 0) || decide (0 < n)) = f at *
  have HHF : Hid (∀ W : World, _) := HF
  have HC : Hid (AtN w a' n' es) := hc
  have HZ : Hid (∀ k : Nat, (es[k]?.getD en0).1.size ≤ maxLen) := hz
  have HN : Hid (es.length = n') := hen
  clear HF hc hz hen
  cases f
  rotate_left
  · go_enter Try.func64, Try.ntmps64
    go_wp2_with fail
    refine (HHF.out _).mono ?_
    rintro e w1 ⟨rfl, hb1⟩
    have HB1 : Hid (Below w.heap.size w w1) := (later1 _ _).trans (hb1.mono (by simp))
    clear hb1
    go_wp2
    go_ret
    exact ⟨rfl, HB1.out⟩
  · have HDF : Hid (dirF es = if 6 < n' then 2 else fstNZ (entF es) es.length) := by unfold Hid dirF; rw [HN.out]
    go_enter Try.func64, Try.ntmps64
    go_wp2_with fail
    refine (HHF.out _).mono ?_
    rintro e w1 ⟨rfl, hb1⟩
    have HB1 : Hid (Below w.heap.size w w1) := (later1 _ _).trans (hb1.mono (by simp))
    have hx : Bx w1 w.heap.size [.int .i64 k, .int .i64 l, .int .i64 s, .slice a n c, .slice a' n' c'] := (Bx.new w _ _).later hb1
    have c4 := hx 4 _ rfl
    have HX1 : Hid (Bx w1 w.heap.size [.int .i64 k, .int .i64 l, .int .i64 s, .slice a n c, .slice a' n' c']) := hx
    have hlt1 := hx.lt
    clear hb1 hx
    by_cases h6 : 6 < n'
    · have h6' : decide ((6 : Int) < (n' : Int)) = true := by simp; omega
      have HR : Hid (dirF es = 2) := by unfold Hid; rw [HDF.out, if_pos h6]
      go_wp2
      go_ret
      exact ⟨ret_int HR.out.symm, HB1.out⟩
    · have h6' : decide ((6 : Int) < (n' : Int)) = false := by simp; omega
      have HR : Hid (dirF es = fstNZ (entF es) es.length) := by unfold Hid; rw [HDF.out, if_neg h6]
      go_wp2
      go_loopw [15] (fun i wr => ∃ j : Nat, j ≤ n' ∧ i = .int .i64 j ∧ Below w1.heap.size w1 wr ∧ ∀ i : Nat, i < j → entF es i = 0) (fun i _ => n' - (intOf i).toNat)
      case atStart => exact ⟨0, Nat.zero_le _, rfl, Below.refl _ _, fun i hi => by omega⟩
      case round =>
        obtain ⟨j, hj, rfl, hbl, hall⟩ := hrel
        have HA : Hid (∀ i : Nat, i < j → entF es i = 0) := hall
        have HBL : Hid (Below w1.heap.size w1 wr) := hbl
        have HBW : Hid (Below w.heap.size w wr) := HB1.out.trans (hbl.mono HB1.out.size)
        have HBN : Hid (∀ o : Obj, Below w1.heap.size w1 (wr.alloc o)) := fun o => hbl.trans ((later1 _ _).mono hbl.size)
        have HBO : Hid (∀ o : Obj, Below w.heap.size w (wr.alloc o)) := fun o => HBW.out.trans ((later1 _ _).mono HBW.out.size)
        have c4' := cell_later hbl c4
        have hlw : w.heap.size < wr.heap.size := Nat.lt_of_lt_of_le hlt1 hbl.size
        clear hall hbl
        by_cases hlt : j < n'
        · obtain ⟨b1, off, rfl, e0, e1⟩ := HC.out j hlt
          have hb1l : b1 < wr.heap.size := Nat.lt_of_lt_of_le (World.block_lt_of_cell? _ _ e0) HBW.out.size
          replace e0 := cell_later HBW.out e0
          replace e1 := cell_later HBW.out e1
          have HSZ : Hid ((es[j]?.getD en0).1.size ≤ maxLen) := HZ.out j
          have HE : Hid (¬ entF es j = 0 → dirF es = entF es j) := fun h => HR.out.trans (fstNZ_at HA.out h (by rw [HN.out]; exact hlt))
          by_cases hnm : nameF (es[j]?.getD en0).1 = 0
          rotate_left
          · have HF : Hid (dirF es = nameF (es[j]?.getD en0).1) := by unfold Hid; rw [HE.out (by rw [entF_name hnm]; exact hnm), entF_name hnm]
            have HNM : Hid (¬ nameF (es[j]?.getD en0).1 = 0) := hnm
            clear hnm HE HA
            generalize (es[j]?.getD en0).1 = x at *
            generalize (es[j]?.getD en0).2 = y at *
            go_wp2_with fail
            refine (implName_any _ x HSZ.out).mono ?_
            generalize nameF x = q at *
            have hq : (q = 0) = False := by simpa using HNM.out
            have hq2 : (q == 0) = false := by simpa using HNM.out
            rintro e w2 ⟨rfl, rfl⟩
            go_wp2
            go_ret
            exact ⟨ret_int HF.out.symm, HBO.out _⟩
          · have HNM : Hid (nameF (es[j]?.getD en0).1 = 0) := hnm
            by_cases hy0 : (es[j]?.getD en0).2 < 0
            · have HF : Hid (dirF es = 3) := by unfold Hid; rw [HE.out (by rw [entF_rng hnm (by omega)]; decide), entF_rng hnm (by omega)]
              clear hnm HE HA
              generalize (es[j]?.getD en0).1 = x at *
              generalize (es[j]?.getD en0).2 = y at *
              go_wp2_with fail
              refine (implName_any _ x HSZ.out).mono ?_
              rw [HNM.out]
              rintro e w2 ⟨rfl, rfl⟩
              go_wp2
              go_ret
              exact ⟨ret_int HF.out.symm, HBO.out _⟩
            · by_cases hy9 : 10 ≤ (es[j]?.getD en0).2
              · have HF : Hid (dirF es = 3) := by unfold Hid; rw [HE.out (by rw [entF_rng hnm (by omega)]; decide), entF_rng hnm (by omega)]
                clear hnm HE HA
                generalize (es[j]?.getD en0).1 = x at *
                generalize (es[j]?.getD en0).2 = y at *
                go_wp2_with fail
                refine (implName_any _ x HSZ.out).mono ?_
                rw [HNM.out]
                rintro e w2 ⟨rfl, rfl⟩
                go_wp2
                go_ret
                exact ⟨ret_int HF.out.symm, HBO.out _⟩
              · have hr : 0 ≤ (es[j]?.getD en0).2 ∧ (es[j]?.getD en0).2 ≤ 9 := by omega
                by_cases h0 : j = 0
                · have HNX : Hid (∀ i : Nat, i < j + 1 → entF es i = 0) := fun i hi => by
                    have : i = j := by omega
                    rw [this]; exact entF_ok hnm hr (by omega)
                  clear hnm HE HA hr
                  generalize (es[j]?.getD en0).1 = x at *
                  generalize (es[j]?.getD en0).2 = y at *
                  subst h0
                  simp only [Nat.zero_mul, Nat.add_zero] at e0 e1
                  go_wp2_with fail
                  refine (implName_any _ x HSZ.out).mono ?_
                  rw [HNM.out]
                  rintro e w2 ⟨rfl, rfl⟩
                  go_wp2_with fail
                  go_quiet (fail)
                  go_wp2
                  go_roundw
                  case rel => exact ⟨1, by omega, by go_num, below_drewN (HBN.out _) nq, HNX.out⟩
                  case measure => simp [intOf]; omega
                · obtain ⟨i, hi⟩ : ∃ i, j = i + 1 := ⟨j - 1, by omega⟩
                  obtain ⟨b2, off2, h12, e2, _⟩ := HC.out i (by omega)
                  simp only [Option.some.injEq, Addr.mk.injEq, and_true] at h12
                  obtain ⟨rfl, rfl⟩ := h12
                  replace e2 := cell_later HBW.out e2
                  have hji : j - 1 = i := by omega
                  by_cases hle : strLe (es[j]?.getD en0).1 (es[i]?.getD en0).1 = true
                  · have HF : Hid (dirF es = 1) := by unfold Hid; rw [HE.out (by rw [entF_form hnm hr (by omega) (by rw [hji]; exact hle)]; decide), entF_form hnm hr (by omega) (by rw [hji]; exact hle)]
                    have hle2 := hle
                    unfold strLe at hle2
                    clear hnm HE HA hr hle
                    subst hi
                    generalize (es[i + 1]?.getD en0).1 = x at *
                    generalize (es[i + 1]?.getD en0).2 = y at *
                    generalize (es[i]?.getD en0).1 = x2 at *
                    have hpos : (0 : Int) < ((i + 1 : Nat) : Int) := by omega
                    go_wp2_with fail
                    refine (implName_any _ x HSZ.out).mono ?_
                    rw [HNM.out]
                    rintro e w2 ⟨rfl, rfl⟩
                    go_wp2_with fail
                    go_quiet (fail)
                    go_wp2
                    go_ret
                    exact ⟨ret_int HF.out.symm, below_drewN (HBO.out _) nq⟩
                  · have HNX : Hid (∀ q : Nat, q < j + 1 → entF es q = 0) := fun q hq => by
                      by_cases e : q = j
                      · rw [e]; exact entF_ok hnm hr (by rw [hji]; exact fun h => hle h.2)
                      · exact HA.out q (by omega)
                    have hle2 : strLe (es[j]?.getD en0).1 (es[i]?.getD en0).1 = false := by simpa using hle
                    unfold strLe at hle2
                    clear hnm HE HA hr hle
                    subst hi
                    generalize (es[i + 1]?.getD en0).1 = x at *
                    generalize (es[i + 1]?.getD en0).2 = y at *
                    generalize (es[i]?.getD en0).1 = x2 at *
                    have hpos : (0 : Int) < ((i + 1 : Nat) : Int) := by omega
                    go_wp2_with fail
                    refine (implName_any _ x HSZ.out).mono ?_
                    rw [HNM.out]
                    rintro e w2 ⟨rfl, rfl⟩
                    go_wp2_with fail
                    go_quiet (fail)
                    go_wp2
                    go_roundw
                    case rel => exact ⟨i + 1 + 1, by omega, by go_num, below_drewN (HBN.out _) nq, HNX.out⟩
                    case measure => simp [intOf]; omega
        · have HF : Hid (dirF es = 0) := by unfold Hid; rw [HR.out, fstNZ_zero fun i hi => HA.out i (by rw [HN.out] at hi; omega)]
          go_wp2
          go_ret
          exact ⟨ret_int HF.out.symm, HBW.out⟩

set_option maxHeartbeats 3200000 in
theorem implInoU (w : World) (z0 z1 z2 : Int) (aB : Option Addr) (nB cB : Nat) (aE : Option Addr) (nE cE : Nat) (d : ID) (h : InoR w (.int .i64 z0) (.int .i64 z1) (.int .i64 z2) (.slice aB nB cB) (.slice aE nE cE) d) (hs : sizeIno d ≤ 1048576) :
    Calls Try.prog 58 #[.agg #[.int .i64 z0, .int .i64 z1, .int .i64 z2, .slice aB nB cB, .slice aE nE cE]] w fun e w' => e = .returned (.int .i64 (inoF d)) ∧ Below w.heap.size w w' := by
  obtain ⟨⟨h0, h1, h2, hcap⟩, hi, he⟩ := h
  simp only [Value.int.injEq, true_and] at h0 h1 h2
  obtain ⟨_, _, _, ec, hcap⟩ := hcap
  simp only [Value.slice.injEq] at ec
  obtain ⟨rfl, rfl, rfl⟩ := ec
  obtain ⟨_, _, e1, hm1, hc1⟩ := hi.open'
  obtain ⟨_, _, e2, hm2, hz2, hc2⟩ := he.open'
  simp only [Value.slice.injEq] at e1 e2
  obtain ⟨rfl, e1n, rfl⟩ := e1
  obtain ⟨rfl, rfl, rfl⟩ := e2
  obtain ⟨k, l, s, bs, es⟩ := d
  dsimp only at *
  subst h0 h1 h2
  have hn1 : bs.length ≤ 1048576 := by unfold sizeIno at hs; dsimp only at hs; omega
  subst e1n
  have HFR : Hid (∀ W, Calls Try.prog 62 #[.agg #[.int .i64 z0, .int .i64 z1, .int .i64 z2, .slice aB bs.length cB, .slice aE es.length cE]] W fun e w' => e = .returned (.int .i64 (if (decide (z1 ≠ 0) || decide (z2 ≠ 0) || decide (0 < bs.length)) || decide (0 < es.length) then 1 else 0)) ∧ Below W.heap.size W w') := fun W => freeFault_any W z0 z1 z2 aB _ cB aE _ cE
  have HFI : Hid (∀ W, Below w.heap.size w W → Calls Try.prog 63 #[.agg #[.int .i64 z0, .int .i64 z1, .int .i64 z2, .slice aB bs.length cB, .slice aE es.length cE]] W fun e w' => e = .returned (.int .i64 (if decide (0 < es.length) then 1 else fileF z1 z2 bs)) ∧ Below W.heap.size W w') := fun W hW => fileFault_any W z0 z1 z2 aB _ cB aE _ cE bs hn1 hcap rfl (fun k hk => by
    obtain ⟨b, off, e, h⟩ := hc1 k hk
    exact ⟨b, off, e, cell_later hW h⟩)
  have HDI : Hid (∀ W, Below w.heap.size w W → Calls Try.prog 64 #[.agg #[.int .i64 z0, .int .i64 z1, .int .i64 z2, .slice aB bs.length cB, .slice aE es.length cE]] W fun e w' => e = .returned (.int .i64 (if decide (z1 ≠ 0) || decide (z2 ≠ 0) || decide (0 < bs.length) then 1 else dirF es)) ∧ Below W.heap.size W w') := fun W hW => dirFault_any W z0 z1 z2 aB _ cB aE _ cE es rfl hm2 hz2 (hc2.later hW)
  have HF : Hid (inoF (z0, z1, z2, bs, es) = if z0 = 0 then (if (decide (z1 ≠ 0) || decide (z2 ≠ 0) || decide (0 < bs.length)) || decide (0 < es.length) then 1 else 0) else if z0 = 1 then (if decide (0 < es.length) then 1 else fileF z1 z2 bs) else if z0 = 2 then (if (decide (z1 ≠ 0) || decide (z2 ≠ 0) || decide (0 < bs.length)) then 1 else dirF es) else 1) := rfl
  rw [HF.out]
  clear HF hi he hc1 hc2 hm1 hm2 hz2 hcap hs hn1
  generalize (if (decide (z1 ≠ 0) || decide (z2 ≠ 0) || decide (0 < bs.length)) || decide (0 < es.length) then (1 : Int) else 0) = r0 at *
  generalize (if decide (0 < es.length) then (1 : Int) else fileF z1 z2 bs) = r1 at *
  generalize (if (decide (z1 ≠ 0) || decide (z2 ≠ 0) || decide (0 < bs.length)) then (1 : Int) else dirF es) = r2 at *
  generalize bs.length = n1 at *
  generalize es.length = n2 at *
  by_cases h0 : z0 = 0
  · rw [if_pos h0]
    subst h0
    go_enter Try.func58, Try.ntmps58
    go_wp2_with fail
    refine (HFR.out _).mono ?_
    rintro e w1 ⟨rfl, hb1⟩
    have HB1 : Hid (Below w.heap.size w w1) := (later1 _ _).trans (hb1.mono (by simp))
    clear hb1
    go_wp2
    go_ret
    exact ⟨rfl, HB1.out⟩
  · rw [if_neg h0]
    by_cases h1 : z0 = 1
    · rw [if_pos h1]
      subst h1
      go_enter Try.func58, Try.ntmps58
      go_wp2_with fail
      refine (HFI.out _ (later1 _ _)).mono ?_
      rintro e w1 ⟨rfl, hb1⟩
      have HB1 : Hid (Below w.heap.size w w1) := (later1 _ _).trans (hb1.mono (by simp))
      clear hb1
      go_wp2
      go_ret
      exact ⟨rfl, HB1.out⟩
    · rw [if_neg h1]
      by_cases h2 : z0 = 2
      · rw [if_pos h2]
        subst h2
        go_enter Try.func58, Try.ntmps58
        go_wp2_with fail
        refine (HDI.out _ (later1 _ _)).mono ?_
        rintro e w1 ⟨rfl, hb1⟩
        have HB1 : Hid (Below w.heap.size w w1) := (later1 _ _).trans (hb1.mono (by simp))
        clear hb1
        go_wp2
        go_ret
        exact ⟨rfl, HB1.out⟩
      · rw [if_neg h2]
        have g0 : (z0 == 0) = false := by simpa using h0
        have g1 : (z0 == 1) = false := by simpa using h1
        have g2 : (z0 == 2) = false := by simpa using h2
        go_enter Try.func58, Try.ntmps58
        go_wp2
        go_ret
        exact ⟨rfl, later1 _ _⟩
end Go.Proofs.Ytjabimfinanjoab

namespace Go.Proofs.Ytjabimfinanjoab
open Go.RowKit
set_option maxRecDepth 100000

/-- Answers that are a code and words. -/
def AnsIR (w : World) (r : Int × List Int) (e : Ending) (w' : World) : Prop := ∃ a n c, e = .returned (.agg #[.int .i64 r.1, .slice a n c]) ∧ Below w.heap.size w w' ∧ IntsO w' (.slice a n c) r.2 (fresh w w')

end Go.Proofs.Ytjabimfinanjoab

namespace Go.Proofs.Ytjabimfinanjoab
open Go.RowKit
set_option maxRecDepth 100000

theorem AnsIR.box {w w2 : World} {a : Option Addr} {n c : Nat} {zs : List Int} (hb : Below w.heap.size w w2) (ho : IntsO w2 (.slice a n c) zs (fun b => w.heap.size + 1 ≤ b ∧ b < w2.heap.size)) (x y : Value) :
    AnsIR w (0, zs) (.returned (.agg #[.int .i64 0, .slice a n c])) ((w2.setCell ⟨w.heap.size, 0, none⟩ x).setCell ⟨w.heap.size, 1, none⟩ y) := by
  refine ⟨_, _, _, rfl, (hb.setCell (by simp) _).setCell (by simp) _, (ho.keep fun b hb hlt => ?_).mono fun b hb => ⟨by omega, by simp only [World.setCell, Array.size_modify]; exact hb.2⟩⟩
  rw [Below.heap_setCell _ _ _ _ (by simp; omega), Below.heap_setCell _ _ _ _ (by simp; omega)]
theorem AnsIR.bad {w w2 : World} (r : Int) (hb : Below w.heap.size w w2) (x y : Value) :
    AnsIR w (r, []) (.returned (.agg #[.int .i64 r, .slice none 0 0])) ((w2.setCell ⟨w.heap.size, 0, none⟩ x).setCell ⟨w.heap.size, 1, none⟩ y) :=
  ⟨_, _, _, rfl, (hb.setCell (by simp) _).setCell (by simp) _, Or.inl ⟨rfl, _, _, rfl⟩⟩
/-- The result's box, made first. -/
theorem box2 (w : World) (t : TypeId) : OwnRow (w.alloc (.cells #[.int .i64 0, .slice none 0 0] t)) w.heap.size 2 (fun i => if i = 0 then .int .i64 0 else .slice none 0 0) := OwnRow.newS w (.int .i64 0) (.slice none 0 0) t
theorem Wds.box {w W w2 : World} {a : Option Addr} {n c : Nat} {zs : List Int} (hW : W.heap.size = w.heap.size + 1) (h : Wds w2 W.heap.size (.slice a n c) zs) : IntsO w2 (.slice a n c) zs (fun b => w.heap.size + 1 ≤ b ∧ b < w2.heap.size) :=
  (h.own' (w0 := W) (Nat.le_refl _)).mono fun b hb => ⟨by have := hb.1; omega, hb.2⟩

end Go.Proofs.Ytjabimfinanjoab

namespace Go.Proofs.Ytjabimfinanjoab
open Go.RowKit
set_option maxRecDepth 100000

theorem entI_get (es : List EN) (k : Nat) : (entI es)[k]?.getD 0 = (es[k]?.getD en0).2 := by
  unfold entI; rw [List.getElem?_map]; cases es[k]? <;> rfl
theorem entI_len (es : List EN) : (entI es).length = es.length := by simp [entI]
theorem allE_bound (ds : List ID) (hs : sizeInos ds ≤ 1048576) (v : Int) : (allE ds).count v ≤ 1048576 := by
  have h2 := allE_len ds
  have h3 := List.count_le_length (a := v) (l := allE ds)
  unfold sizeInos at hs
  omega

end Go.Proofs.Ytjabimfinanjoab

namespace Go.Proofs.Ytjabimfinanjoab
open Go.RowKit
set_option maxRecDepth 100000

/-- How many entries have to name an inode. -/
def wantL (ds : List ID) (i : Nat) : Int := if kindAt ds i = 1 then (ds[i]?.getD id0).2.1 else if i = 0 then 0 else 1
def lnkOK (ds : List ID) (i : Nat) : Bool := decide (kindAt ds i = 0) || (decide ((((allE ds).count (i : Int) : Nat) : Int) = wantL ds i) && reachG ds ds.length i)
def linksB (ds : List ID) : Bool := (List.range ds.length).all (lnkOK ds)
theorem linksB_no {ds : List ID} {i : Nat} (hi : i < ds.length) (h : lnkOK ds i = false) : linksB ds = false := by
  unfold linksB
  rw [List.all_eq_false]
  exact ⟨i, by simpa using hi, by simp [h]⟩
theorem linksB_yes {ds : List ID} (h : ∀ i, i < ds.length → lnkOK ds i = true) : linksB ds = true := by
  unfold linksB
  rw [List.all_eq_true]
  intro i hi
  exact h i (by simpa using hi)
theorem selL_contains (p : Nat → Bool) {n i : Nat} (hi : i < n) : (selL p n).contains (i : Int) = p i := by
  cases hp : p i with
  | true =>
    rw [List.contains_iff_mem]
    unfold selL
    rw [List.mem_map]
    exact ⟨i, List.mem_filter.2 ⟨by simpa using hi, hp⟩, rfl⟩
  | false =>
    rw [Bool.eq_false_iff]
    intro hc
    rw [List.contains_iff_mem] at hc
    unfold selL at hc
    rw [List.mem_map] at hc
    obtain ⟨k, hk, e⟩ := hc
    have : k = i := by omega
    subst this
    rw [(List.mem_filter.1 hk).2] at hp
    cases hp

end Go.Proofs.Ytjabimfinanjoab

namespace Go.Proofs.Ytjabimfinanjoab
open Go.RowKit
set_option maxRecDepth 100000

theorem ino_size {d : ID} (h : inoF d = 0) : 0 ≤ d.2.2.1 ∧ d.2.2.1 ≤ 32 ∧ ((d.2.2.2.1.length : Nat) : Int) = (d.2.2.1 + 7) / 8 := by
  unfold inoF at h
  have fp : fpB d = false → d.2.2.1 = 0 ∧ d.2.2.2.1.length = 0 := fun hf => by
    unfold fpB at hf
    simp at hf
    exact ⟨hf.1.2, by rw [hf.2]; rfl⟩
  by_cases h0 : d.1 = 0
  · rw [if_pos h0] at h
    have hf : fpB d = false := by
      cases e : fpB d with
      | false => rfl
      | true => rw [e] at h; simp at h
    obtain ⟨h1, h2⟩ := fp hf
    omega
  · rw [if_neg h0] at h
    by_cases h1 : d.1 = 1
    · rw [if_pos h1] at h
      have hd : dpB d = false := by
        cases e : dpB d with
        | false => rfl
        | true => rw [e] at h; simp at h
      rw [hd] at h
      simp only [Bool.false_eq_true, if_false] at h
      unfold fileF at h
      by_cases hl : linkB d.2.1 = true ∧ sizeB d.2.2.1 = true
      · rw [if_pos hl] at h
        have hz := hl.2
        unfold sizeB at hz
        simp at hz
        by_cases hb : ((d.2.2.2.1.length : Nat) : Int) = (d.2.2.1 + 7) / 8
        · exact ⟨hz.1, hz.2, hb⟩
        · rw [if_neg hb] at h; omega
      · rw [if_neg hl] at h; omega
    · rw [if_neg h1] at h
      by_cases h2 : d.1 = 2
      · rw [if_pos h2] at h
        have hf : fpB d = false := by
          cases e : fpB d with
          | false => rfl
          | true => rw [e] at h; simp at h
        obtain ⟨h3, h4⟩ := fp hf
        omega
      · rw [if_neg h2] at h; omega
theorem ino_six {d : ID} (h : inoF d = 0) : d.2.2.2.2.length ≤ 6 := by
  unfold inoF at h
  have dp : dpB d = false → d.2.2.2.2.length = 0 := fun hd => by unfold dpB at hd; simp at hd; rw [hd]; rfl
  by_cases h0 : d.1 = 0
  · rw [if_pos h0] at h
    have hd : dpB d = false := by
      cases e : dpB d with
      | false => rfl
      | true => rw [e] at h; simp at h
    have := dp hd
    omega
  · rw [if_neg h0] at h
    by_cases h1 : d.1 = 1
    · rw [if_pos h1] at h
      have hd : dpB d = false := by
        cases e : dpB d with
        | false => rfl
        | true => rw [e] at h; simp at h
      have := dp hd
      omega
    · rw [if_neg h1] at h
      by_cases h2 : d.1 = 2
      · rw [if_pos h2] at h
        by_cases hf : fpB d = true
        · rw [if_pos hf] at h; omega
        · rw [if_neg hf] at h
          unfold dirF at h
          by_cases h6 : 6 < d.2.2.2.2.length
          · rw [if_pos h6] at h; omega
          · omega
      · rw [if_neg h2] at h; omega

theorem lt_of_cell {w : World} {b o : Nat} {v : Value} (h : w.cell? ⟨b, o, none⟩ = some v) : b < w.heap.size := by
  by_cases hb : b < w.heap.size
  · exact hb
  · simp [World.cell?, Array.getElem?_eq_none (Nat.le_of_not_lt hb)] at h
theorem wrap_in (x : Int) (h0 : -9223372036854775808 ≤ x) (h1 : x ≤ 9223372036854775807) : IntKind.i64.wrap x = x := by
  unfold IntKind.wrap
  simp only [IntKind.signed, IntKind.bits]
  simp
  split <;> omega
def m8 (x : Int) : Int := if 8 < x then 8 else x
def putD (f : Nat → Int) (b v : Int) : Nat → Int := fun i => if i = b.toNat then v else f i
/-- How many bytes each block has to hold, behind k blocks of one inode, behind j inodes. -/
def dueK (s : Int) (bs : List Int) (f : Nat → Int) : Nat → Nat → Int
  | 0 => f
  | k + 1 => putD (dueK s bs f k) (bs[k]?.getD 0) (m8 (s - 8 * (k : Int)))
def dueI (ds : List ID) : Nat → Nat → Int
  | 0 => fun _ => 0
  | j + 1 => dueK (ds[j]?.getD id0).2.2.1 (ds[j]?.getD id0).2.2.2.1 (dueI ds j) (ds[j]?.getD id0).2.2.2.1.length
def sizOK (d : FD) (i : Nat) : Bool := decide ((((d.2[i]?.getD []).length : Nat) : Int) = dueI d.1 d.1.length i)
def sizesB (d : FD) : Bool := (List.range 20).all (sizOK d)
theorem sizesB_no {d : FD} {i : Nat} (hi : i < 20) (h : sizOK d i = false) : sizesB d = false := by
  unfold sizesB
  rw [List.all_eq_false]
  exact ⟨i, by simpa using hi, by simp [h]⟩
theorem sizesB_yes {d : FD} (h : ∀ i, i < 20 → sizOK d i = true) : sizesB d = true := by
  unfold sizesB
  rw [List.all_eq_true]
  intro i hi
  exact h i (by simpa using hi)
def intF (f : Nat → Int) (i : Nat) : Value := .int .i64 (f i)

end Go.Proofs.Ytjabimfinanjoab

namespace Go.Proofs.Ytjabimfinanjoab
open Go.RowKit
set_option maxRecDepth 100000

set_option maxHeartbeats 800000 in
theorem inodesFault_many (w : World) (a : Option Addr) (n c : Nat) (hn : 10 < n) :
    Calls Try.prog 52 #[.slice a n c] w fun e w' => e = .returned (.int .i64 2) ∧ w' = w := by
  have h6 : decide ((10 : Int) < (n : Int)) = true := by simp; omega
  go_enter Try.func52, Try.ntmps52
  go_wp2
  go_ret
  exact ⟨rfl, rfl⟩

set_option maxHeartbeats 1600000 in
theorem inodesFault_walk (w : World) (a : Option Addr) (n c : Nat) (ds : List ID) (hn : n ≤ 10) (hdn : ds.length = n) (hz : ∀ k : Nat, sizeIno (ds[k]?.getD id0) ≤ 1048576) (hc : AtI w a n ds) :
    Calls Try.prog 52 #[.slice a n c] w fun e w' => e = .returned (.int .i64 (fstNZ (fun i => inoF (ds[i]?.getD id0)) ds.length)) ∧ Below w.heap.size w w' := by
  have HC : Hid (AtI w a n ds) := hc
  have HN : Hid (ds.length = n) := hdn
  have HSZ : Hid (∀ k : Nat, sizeIno (ds[k]?.getD id0) ≤ 1048576) := hz
  have h6 : decide ((10 : Int) < (n : Int)) = false := by simp; omega
  clear hc hdn hz
  go_enter Try.func52, Try.ntmps52
  go_wp2
  go_loopw [11] (fun i wr => ∃ j : Nat, j ≤ n ∧ i = .int .i64 j ∧ Below w.heap.size w wr ∧ ∀ i : Nat, i < j → inoF (ds[i]?.getD id0) = 0) (fun i _ => n - (intOf i).toNat)
  case atStart => exact ⟨0, Nat.zero_le _, rfl, Below.refl _ _, fun i hi => by omega⟩
  case round =>
    obtain ⟨j, hj, rfl, hbl, hz⟩ := hrel
    have HZ : Hid (∀ i : Nat, i < j → inoF (ds[i]?.getD id0) = 0) := hz
    have HBL : Hid (Below w.heap.size w wr) := hbl
    clear hz hbl
    by_cases hlt : j < n
    · obtain ⟨b, o, rfl, hI⟩ := HC.out j hlt
      obtain ⟨aB, cB, aE, cE, c0, c1, c2, c3, c4, hR⟩ := hI.later HBL.out
      have HF : Hid (∀ W, Below wr.heap.size wr W → Calls Try.prog 58 #[.agg #[.int .i64 (ds[j]?.getD id0).1, .int .i64 (ds[j]?.getD id0).2.1, .int .i64 (ds[j]?.getD id0).2.2.1, .slice aB (ds[j]?.getD id0).2.2.2.1.length cB, .slice aE (ds[j]?.getD id0).2.2.2.2.length cE]] W fun e w' => e = .returned (.int .i64 (inoF (ds[j]?.getD id0))) ∧ Below W.heap.size W w') := fun W hW => implInoU W _ _ _ aB _ cB aE _ cE (ds[j]?.getD id0) (hR.later hW) (HSZ.out j)
      clear hI hR
      have HR : Hid (inoF (ds[j]?.getD id0) = 0 → (∀ i : Nat, i < j + 1 → inoF (ds[i]?.getD id0) = 0)) := fun h i hi => by
        by_cases e : i = j
        · subst e; exact h
        · exact HZ.out i (by omega)
      have HT : Hid (¬ inoF (ds[j]?.getD id0) = 0 → inoF (ds[j]?.getD id0) = fstNZ (fun i => inoF (ds[i]?.getD id0)) ds.length) := fun h => (fstNZ_at (f := fun i => inoF (ds[i]?.getD id0)) HZ.out h (by rw [HN.out]; exact hlt)).symm
      by_cases hzz : inoF (ds[j]?.getD id0) = 0
      · have HR' : Hid (∀ i : Nat, i < j + 1 → inoF (ds[i]?.getD id0) = 0) := HR.out hzz
        have HZZ : Hid (inoF (ds[j]?.getD id0) = 0) := hzz
        clear HR HT hzz HC
        go_wp2_with fail
        refine (HF.out _ (by first | exact Below.refl _ _ | exact later1 _ _ | exact later2 _ _ _)).mono ?_
        rw [HZZ.out]
        rintro e w1 ⟨rfl, hb⟩
        have HB1 : Hid (Below w.heap.size w w1) := by first | exact HBL.out.trans (hb.mono HBL.out.size) | exact (HBL.out.trans ((later1 _ _).mono HBL.out.size)).trans (hb.mono (HBL.out.trans ((later1 _ _).mono HBL.out.size)).size)
        clear hb
        go_wp2
        go_roundw
        case rel => exact ⟨j + 1, by omega, by go_num, HB1.out, HR'.out⟩
        case measure => simp [intOf]; omega
      · have HT' : Hid (inoF (ds[j]?.getD id0) = fstNZ (fun i => inoF (ds[i]?.getD id0)) ds.length) := HT.out hzz
        have hzb : (inoF (ds[j]?.getD id0) != 0) = true := by simpa using hzz
        clear HR HT HC hzz
        generalize inoF (ds[j]?.getD id0) = r at *
        go_wp2_with fail
        refine (HF.out _ (by first | exact Below.refl _ _ | exact later1 _ _ | exact later2 _ _ _)).mono ?_
        rintro e w1 ⟨rfl, hb⟩
        have HB1 : Hid (Below w.heap.size w w1) := by first | exact HBL.out.trans (hb.mono HBL.out.size) | exact (HBL.out.trans ((later1 _ _).mono HBL.out.size)).trans (hb.mono (HBL.out.trans ((later1 _ _).mono HBL.out.size)).size)
        clear hb
        go_wp2
        go_ret
        exact ⟨ret_int HT'.out, HB1.out⟩
    · go_wp2
      go_ret
      exact ⟨ret_int (fstNZ_zero (fun i hi => HZ.out i (by rw [HN.out] at hi; omega))).symm, HBL.out⟩
theorem inodesFault_any {w : World} {v : Value} {ds : List ID} (h : Inos w v ds) (hs : sizeInos ds ≤ 1048576) :
    Calls Try.prog 52 #[v] w fun e w' => e = .returned (.int .i64 (insF ds)) ∧ Below w.heap.size w w' := by
  obtain ⟨a, cap, rfl, hm, hc⟩ := h.open'
  unfold insF
  by_cases h : 10 < ds.length
  · rw [if_pos h]
    exact (inodesFault_many w _ _ _ h).mono fun e w' ⟨h1, h2⟩ => ⟨h1, h2 ▸ Below.refl _ _⟩
  · rw [if_neg h]
    exact inodesFault_walk w _ _ _ ds (by omega) rfl (fun k => by have := isz_le ds k; unfold sizeInos at hs; omega) hc
end Go.Proofs.Ytjabimfinanjoab
