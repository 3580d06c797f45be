/- The walks of the copying functions. One form for the contracts of the laws' own functions, type by type: what a value reads as, what it owns, how great it is. Rows told by the list of their values. NameFault, the specification's and the program's: what both come to. Texts as lists of bytes: cut at each slash. No program is named here but for slicing. The library's IndexByte, laid from the shelf. The iterator that tells the names of a path: its contract. Ranges over the names of a path: howMany. The marks of texts. Ranges over the names of a path: namesFault. Contracts of the library, laid from the shelf for this program. What of a path is wrong: the walk of the program's pathFault. SplitPath, the program's. What 'append' comes to, as laws for the walk, and the specification's copying of a list. The specification's cutting of a text at each slash. The specification's l3Names and l3Split. Lists of texts: marking, holding, comparing. -/
import Derived.Test.YtjabimfinanjoaaGreatRows
import Derived.Test.YtjabimfinanjoaaGreatM00
import Derived.Lib.Bytealg
import Derived.Shelf.Small.Strs
import Derived.Shelf.Strings.Search1
import Derived.RangeFuncNested
import Derived.RangeFuncBound
import Derived.RangeFuncCalls
import Derived.RangeFuncLeaves
import Derived.RangeFuncFrom
import Derived.Shelf.Abstract
import Derived.Shelf.RegionOpen
import Derived.WalkKit
import Derived.OwnWalkIn
import Derived.TacticsInMore
import Derived.LoopNIn
import Derived.LoopIn
import Derived.Laws.IdiomStrings
import Derived.Scope
import Derived.Shelf.LaysM
import Derived.Shelf.Strconv.Clone
import Derived.Shelf.Strings.Prefix
import Derived.Shelf.Slices.Equal
import Derived.Shelf.Slices.Empties2
import Derived.RangeFuncWrites
import Derived.RangeFuncBox
import Derived.Maps.AppendAt
import Derived.OwnWalk
import Derived.Deep.RegionLaw
import Derived.Deep.RegionHeld3
namespace Go.Proofs.YtjabimfinanjoaaGreat
open Go.RowKit
set_option maxRecDepth 100000

theorem Tryz.infoInt : (Tryz.prog.info? 2).map (fun i => (i.zero, i.size, i.bytes)) = some (some (.int .i64 0), 1, 8) := by kernel_rfl
theorem Tryz.infoInts : (Tryz.prog.info? 27).map (fun i => (i.zero, i.size, i.bytes)) = some (some (.slice none 0 0), 1, 24) := by kernel_rfl

set_option maxHeartbeats 400000 in
theorem toInts_nil (w : World) (a : Option Addr) (cap n : Nat) (hn : n ≤ 0) :
    Calls Tryz.prog 8 #[.slice a n cap] w fun e w' => e = .returned (.slice (some ⟨w.heap.size, 0, none⟩) n n) ∧ Below w.heap.size w w' := by
  have hmk := fun w => run_make_row' (P := Tryz.prog) 27 2 (.int .i64 0) 8 Tryz.underlying27 Tryz.infoInt rfl .i64 .i64 n (by omega) (by omega) w
  go_enter Tryz.func8, Tryz.ntmps8
  go_wp2
  go_loop [4] (fun i => i = .int .i64 0) (fun _ => 0)
  case atStart => rfl
  case round =>
    obtain rfl := hrel
    go_wp2
    go_ret
    exact ⟨rfl, later1 _ _⟩

set_option maxHeartbeats 400000 in
theorem toInts_walk (w : World) (b off cap n : Nat) (zs : List Int) (hn : n ≤ 1048576) (hc : ∀ k, k < n → w.cell? ⟨b, off + k, none⟩ = some (.int .i64 (zs[k]?.getD 0))) :
    Calls Tryz.prog 8 #[.slice (some ⟨b, off, none⟩) n cap] w fun e w' => e = .returned (.slice (some ⟨w.heap.size, 0, none⟩) n n) ∧ Below w.heap.size w w' ∧ OwnRow w' w.heap.size n (fun i => .int .i64 (zs[i]?.getD 0)) := by
  have hmk := fun w => run_make_row' (P := Tryz.prog) 27 2 (.int .i64 0) 8 Tryz.underlying27 Tryz.infoInt rfl .i64 .i64 n (by omega) (by omega) w
  go_enter Tryz.func8, Tryz.ntmps8
  go_wp2
  go_loopw [4] (fun i wr => ∃ j : Nat, j ≤ n ∧ i = .int .i64 j ∧ Below w.heap.size w wr ∧ OwnRow wr w.heap.size n (fun i => if i < j then .int .i64 (zs[i]?.getD 0) else .int .i64 0)) (fun i _ => n - (intOf i).toNat)
  case atStart => exact ⟨0, Nat.zero_le _, rfl, later1 _ _, (OwnRow.made w (.int .i64 0) n 2).congr fun i _ => by simp⟩
  case round =>
    obtain ⟨j, hj, rfl, hbl, hrow⟩ := hrel
    by_cases hlt : j < n
    · have c1 := cell_later hbl (hc j hlt)
      have d1 := hrow.cell hlt
      have d2 := hrow.frozen j
      simp only [Nat.lt_irrefl, if_false] at d1
      have HBL : Hid (Below w.heap.size w wr) := hbl
      have HROW : Hid (OwnRow wr w.heap.size n (fun i => if i < j then .int .i64 (zs[i]?.getD 0) else .int .i64 0)) := hrow
      clear hbl hrow hc
      go_wp2
      go_roundw
      case rel =>
        refine ⟨j + 1, by omega, by go_num, HBL.out.setCell (Nat.le_refl _) _, (HROW.out.set j _).congr fun i hi => ?_⟩
        by_cases e : i = j
        · subst e; simp
        · by_cases e2 : i < j
          · simp [e, e2, show i < j + 1 by omega]
          · simp [e, e2, show ¬ i < j + 1 by omega]
      case measure => simp [intOf]; omega
    · go_wp2
      go_ret
      have e : j = n := by omega
      subst e
      exact ⟨rfl, hbl, hrow.congr fun i hi => by simp [hi]⟩

theorem toInts_any {w : World} {v : Value} {zs : List Int} (h : Ints w v zs) (hn : zs.length ≤ 1048576) :
    Calls Tryz.prog 8 #[v] w fun e w' => e = .returned (.slice (some ⟨w.heap.size, 0, none⟩) zs.length zs.length) ∧ Below w.heap.size w w' ∧ IntsO w' (.slice (some ⟨w.heap.size, 0, none⟩) zs.length zs.length) zs (fresh w w') := by
  rcases h with ⟨rfl, a, cap, rfl⟩ | ⟨b, off, cap, rfl, hl, hc⟩
  · exact (toInts_nil w a cap 0 (Nat.le_refl _)).mono fun e w' ⟨he, hb⟩ => ⟨he, hb, Or.inl ⟨rfl, _, _, rfl⟩⟩
  · exact (toInts_walk w b off cap zs.length zs hn hc).mono fun e w' ⟨he, hb, hr⟩ => ⟨he, hb, Or.inr ⟨w.heap.size, _, ⟨Nat.le_refl _, hr.lt⟩, rfl, hl, hr⟩⟩

theorem len_le_sum (zss : List (List Int)) : ∀ k : Nat, (zss[k]?.getD []).length ≤ (zss.map List.length).sum := by
  intro k
  by_cases h : k < zss.length
  · have h1 := upto_succ (zss.map List.length) k (by simpa using h)
    rw [lens_get] at h1
    have h2 := upto_le (zss.map List.length) (k + 1)
    omega
  · rw [List.getElem?_eq_none (by omega)]; simp
theorem wlen_le_sum (ps : List (Int × List Int)) : ∀ k : Nat, (ps[k]?.getD (0, [])).2.length ≤ (wlens ps).sum := by
  intro k
  by_cases h : k < ps.length
  · have h1 := upto_succ (wlens ps) k (by rw [wlens_length]; exact h)
    rw [wlens_get] at h1
    have h2 := upto_le (wlens ps) (k + 1)
    omega
  · rw [List.getElem?_eq_none (by omega)]; simp

/-- The cells of a row of puts of which the first j stand. -/
def partCell (ps : List (Int × List Int)) (u : Nat → Value) (j c : Nat) : Value := if c < j * 2 then putCell ps u c else pairCell (.int .i64 0) (.slice none 0 0) c
theorem partCell_next (ps : List (Int × List Int)) (u : Nat → Value) (j c : Nat) (v : Value) : (if c = j * 2 + 1 then v else (if c = j * 2 then .int .i64 (ps[j]?.getD (0, [])).1 else partCell ps u j c)) = partCell ps (fun i => if i = j then v else u i) (j + 1) c := by
  unfold partCell
  by_cases e : c = j * 2 + 1
  · subst e; rw [if_pos rfl, if_pos (by omega), putCell_words]; simp
  · rw [if_neg e]
    by_cases e2 : c = j * 2
    · subst e2; rw [if_pos rfl, if_pos (by omega), putCell_at]
    · rw [if_neg e2]
      by_cases e3 : c < j * 2
      · rw [if_pos e3, if_pos (by omega)]
        unfold putCell
        by_cases e4 : c % 2 = 0
        · rw [if_pos e4, if_pos e4]
        · rw [if_neg e4, if_neg e4]
          show u (c / 2) = if c / 2 = j then v else u (c / 2)
          rw [if_neg (by omega)]
      · rw [if_neg e3, if_neg (by omega)]

/-- An answer that is a disk by itself. -/
def AnsBare (w : World) (bs : List (List Int)) (ps : List (Int × List Int)) (e : Ending) (w' : World) : Prop :=
  ∃ aB nB cB aC nC cC, e = .returned (.agg #[.slice aB nB cB, .slice aC nC cC]) ∧ Below w.heap.size w w' ∧ DiskO w' (.slice aB nB cB) (.slice aC nC cC) bs ps (fresh w w')

end Go.Proofs.YtjabimfinanjoaaGreat

namespace Go.Proofs.YtjabimfinanjoaaGreat
open Go.RowKit
set_option maxRecDepth 100000

/-- The cells of block b, from the first on. -/
def Bx (w : World) (b : Nat) (vs : List Value) : Prop := ∀ i v, vs[i]? = some v → w.cell? ⟨b, i, none⟩ = some v
theorem Bx.new (w : World) (vs : List Value) (t : TypeId) : Bx (w.alloc (.cells vs.toArray t)) w.heap.size vs := fun i v h => by rw [new_cell]; simpa using h
theorem Bx.later {w w' : World} {b : Nat} {vs : List Value} (h : Bx w b vs) (hb : Below w.heap.size w w') : Bx w' b vs := fun i v e => cell_later hb (h i v e)
theorem Bx.chg {w w' : World} {b : Nat} {vs : List Value} {F : Nat → Prop} (h : Bx w b vs) (hc : Chg F w w') (hf : ¬ F b) : Bx w' b vs := fun i v e => by
  have := h i v e
  exact (hc.cell (a := ⟨b, i, none⟩) (World.block_lt_of_cell? _ _ this) hf).trans this
theorem Bx.lt {w : World} {b : Nat} {v : Value} {vs : List Value} (h : Bx w b (v :: vs)) : b < w.heap.size := World.block_lt_of_cell? _ _ (h 0 v rfl)

/-- Lists of integers. -/
theorem IntsO.reads {w : World} {v : Value} {zs : List Int} {F : Nat → Prop} (h : IntsO w v zs F) : Ints w v zs := h.ints
theorem toIntsU {w : World} {v : Value} {zs : List Int} (h : Ints w v zs) (hn : zs.length ≤ 1048576) :
    Calls Tryz.prog 8 #[v] w fun e w' => ∃ a n c, e = .returned (.slice a n c) ∧ Below w.heap.size w w' ∧ IntsO w' (.slice a n c) zs (fresh w w') :=
  (toInts_any h hn).mono fun _ _ ⟨h1, h2, h3⟩ => ⟨_, _, _, h1, h2, h3⟩
theorem eqIntsU {w : World} {v v' : Value} {zs : List Int} (h : Ints w v zs) (h' : Ints w v' zs) : Calls Tryz.prog 13 #[v, v'] w fun e w' => e = .returned (.bool true) ∧ Below w.heap.size w w' :=
  (eqInts_any h h').mono fun _ _ ⟨h1, m, h2⟩ => ⟨by rw [h1, beq_self_eq_true], h2 ▸ below_drewN (Below.refl _ _) m⟩
theorem markIntsU {w : World} {v : Value} {zs : List Int} {F : Nat → Prop} (k : Int) (h : IntsO w v zs F) (hk0 : 0 ≤ k) (hk : k + (zs.length : Nat) ≤ 4611686018427387904) :
    Calls Tryz.prog 16 #[v, .int .i64 k] w fun e w' => e = .returned (.int .i64 (k + (zs.length : Nat))) ∧ Chg F w w' :=
  (markInts_any k h hk0 hk).mono fun _ _ ⟨h1, _, h2⟩ => ⟨h1, h2⟩

/-- Disks. -/
abbrev DK := List (List Int) × List (Int × List Int)
def DiskR (w : World) (vB vC : Value) (d : DK) : Prop := IntsS w vB d.1 ∧ Puts w vC d.2
theorem DiskR.later {w w' : World} {vB vC : Value} {d : DK} (h : DiskR w vB vC d) (hb : Below w.heap.size w w') : DiskR w' vB vC d := ⟨h.1.later hb, h.2.later hb⟩
def DiskU (w : World) (vB vC : Value) (d : DK) (F : Nat → Prop) : Prop := DiskO w vB vC d.1 d.2 F
theorem DiskU.reads {w : World} {vB vC : Value} {d : DK} {F : Nat → Prop} (h : DiskU w vB vC d F) : DiskR w vB vC d := ⟨DiskO.ints h, DiskO.puts h⟩
theorem DiskU.later {w w' : World} {vB vC : Value} {d : DK} {F : Nat → Prop} (h : DiskU w vB vC d F) (hb : Below w.heap.size w w') : DiskU w' vB vC d F := DiskO.later h hb
theorem DiskU.mono {w : World} {vB vC : Value} {d : DK} {F G : Nat → Prop} (h : DiskU w vB vC d F) (e : ∀ b, F b → G b) : DiskU w vB vC d G := DiskO.mono h e
theorem DiskU.chg {w w' : World} {vB vC : Value} {d : DK} {F G : Nat → Prop} (h : DiskU w vB vC d F) (hc : Chg G w w') (hd : ∀ b, F b → ¬ G b) : DiskU w' vB vC d F := DiskO.chg h hc hd
def sizeDisk (d : DK) : Nat := dsize d.1 d.2
def spanDisk (d : DK) : Nat := dspan d.1 d.2
theorem spanDisk_le (d : DK) : spanDisk d ≤ sizeDisk d := by unfold spanDisk sizeDisk dspan dsize; omega
/-- Answers that are a code and a disk. -/
def AnsDR (w : World) (r : Int × DK) (e : Ending) (w' : World) : Prop := ∃ aB nB cB aC nC cC, e = .returned (.agg #[.int .i64 r.1, .slice aB nB cB, .slice aC nC cC]) ∧ Below w.heap.size w w' ∧ DiskU w' (.slice aB nB cB) (.slice aC nC cC) r.2 (fresh w w')
theorem AnsDisk.uni {w w' : World} {c : Int} {bs : List (List Int)} {ps : List (Int × List Int)} {e : Ending} (h : AnsDisk w c bs ps e w') : AnsDR w (c, bs, ps) e w' := by
  obtain ⟨aB, nB, cB, aC, nC, cC, h1, h2⟩ := h
  exact ⟨aB, nB, cB, aC, nC, cC, h1, h2.below, h2.disk⟩
def mkDisk (k : Int) (d : DK) : DK := (marksS k (d.1.map List.length), marksP (k + ((d.1.map List.length).sum : Nat)) (wlens d.2))
end Go.Proofs.YtjabimfinanjoaaGreat

namespace Go.Proofs.YtjabimfinanjoaaGreat
open Go.RowKit
set_option maxRecDepth 100000

theorem rowVL (w : World) (vs : List Value) (t : TypeId) : OwnRow (w.alloc (.cells vs.toArray t)) w.heap.size vs.length (fun i => vs[i]?.getD (.int .i64 0)) := by
  refine ⟨_, t, Go.Deep.blk_alloc_new _ _, by simp, fun i hi => ?_⟩
  simp [hi]

def cel (vs : List Value) (i : Nat) : Value := vs[i]?.getD (.int .i64 0)
theorem newCel (w : World) (vs : List Value) (t : TypeId) : OwnRow (w.alloc (.cells vs.toArray t)) w.heap.size vs.length (cel vs) := rowVL w vs t
end Go.Proofs.YtjabimfinanjoaaGreat

namespace Go.Proofs.YtjabimfinanjoaaGreat
open Go.RowKit
set_option maxRecDepth 100000

def byB (c : UInt8) : Bool := decide (97 ≤ (c.toNat : Int)) && decide ((c.toNat : Int) ≤ 122)
def nameF (s : ByteArray) : Int := if s.size = 0 then 5 else if s.data.toList.all byB = true then (if 4 < s.size then 2 else 0) else 5
theorem nameF_bad {s : ByteArray} {k : Nat} (h : k < s.size) (hb : byB s[k] = false) : nameF s = 5 := by
  unfold nameF
  split
  · rfl
  · rw [if_neg]
    intro ha
    rw [List.all_eq_true] at ha
    have := ha s[k] (by
      have : s[k] = s.data.toList[k]'(by simpa using h) := rfl
      rw [this]; exact List.getElem_mem _)
    rw [hb] at this
    exact absurd this (by simp)
theorem nameF_good {s : ByteArray} (ha : ∀ j (h : j < s.size), byB s[j] = true) : nameF s = if s.size = 0 then 5 else if 4 < s.size then 2 else 0 := by
  unfold nameF
  rw [if_pos (c := s.data.toList.all byB = true)]
  rw [List.all_eq_true]
  intro c hc
  obtain ⟨k, hk, rfl⟩ := List.mem_iff_getElem.1 hc
  exact ha k (by simpa using hk)

theorem toList_size (s : ByteArray) : s.toList.length = s.size := by rw [ByteArray.toList_eq]; rfl
theorem emp_no {s : ByteArray} (h : ¬ s.size = 0) : s.toList.isEmpty = false := by
  cases hs : s.toList with
  | nil => have := toList_size s; rw [hs] at this; exact absurd this.symm h
  | cons a t => rfl
theorem emp_yes {s : ByteArray} (h : s.size = 0) : s.toList.isEmpty = true := by
  cases hs : s.toList with
  | nil => rfl
  | cons a t => have := toList_size s; rw [hs, h] at this; simp at this

set_option maxHeartbeats 800000 in
theorem isNameByte_any (w : World) (c : UInt8) : Calls Tryz.prog 128 #[.int .u8 (c.toNat : Int)] w fun e w' => e = .returned (.bool (byB c)) ∧ w' = w := by
  unfold byB
  by_cases h1 : 97 ≤ (c.toNat : Int)
  · by_cases h2 : (c.toNat : Int) ≤ 122
    · rw [decide_eq_true h1, decide_eq_true h2]
      go_enter Tryz.func128, Tryz.ntmps128
      go_wp2
      go_ret
      exact ⟨rfl, rfl⟩
    · rw [decide_eq_true h1, decide_eq_false h2]
      have d2 : decide ((c.toNat : Int) ≤ 122) = false := by simpa using h2
      go_enter Tryz.func128, Tryz.ntmps128
      go_wp2
      go_ret
      exact ⟨rfl, rfl⟩
  · rw [decide_eq_false h1]
    have d1 : decide (97 ≤ (c.toNat : Int)) = false := by simpa using h1
    go_enter Tryz.func128, Tryz.ntmps128
    go_wp2
    go_ret
    exact ⟨rfl, rfl⟩

set_option maxHeartbeats 800000 in
theorem specName_any (w : World) (s : ByteArray) (hs : s.size ≤ maxLen) : Calls Tryz.prog 126 #[.string s] w fun e w' => e = .returned (.int .i64 (nameF s)) ∧ w' = w := by
  unfold maxLen at hs
  go_enter Tryz.func126, Tryz.ntmps126
  go_wp2
  go_loop [3] (fun i => ∃ k : Nat, k ≤ s.size ∧ i = .int .i64 k ∧ ∀ j (h : j < s.size), j < k → byB s[j] = true) (fun i => s.size - (intOf i).toNat)
  case atStart => exact ⟨0, Nat.zero_le _, rfl, fun j h h' => by omega⟩
  case round =>
    obtain ⟨k, hk, rfl, ha⟩ := hrel
    have HA : Hid (∀ j (h : j < s.size), j < k → byB s[j] = true) := ha
    clear ha
    by_cases hlt : k < s.size
    · by_cases h1 : (s[k].toNat : Int) < 97
      · have HB : Hid (nameF s = 5) := nameF_bad hlt (by unfold byB; rw [decide_eq_false (by omega)]; rfl)
        go_wp2
        go_ret
        exact ⟨ret_int HB.out.symm, rfl⟩
      · by_cases h2 : 122 < (s[k].toNat : Int)
        · have HB : Hid (nameF s = 5) := nameF_bad hlt (by unfold byB; rw [decide_eq_false (p := (s[k].toNat : Int) ≤ 122) (by omega)]; simp)
          go_wp2
          go_ret
          exact ⟨ret_int HB.out.symm, rfl⟩
        · have HB : Hid (byB s[k] = true) := by unfold Hid byB; rw [decide_eq_true (by omega), decide_eq_true (by omega)]; rfl
          go_wp2
          go_round
          case rel =>
            refine ⟨k + 1, by omega, by go_num, fun j h hj => ?_⟩
            by_cases e : j = k
            · subst e; exact HB.out
            · exact HA.out j h (by omega)
          case measure => simp [intOf]; omega
    · have HN : Hid (nameF s = if s.size = 0 then 5 else if 4 < s.size then 2 else 0) := nameF_good fun j h => HA.out j h (by omega)
      by_cases h0 : s.size = 0
      · have hem := emp_yes h0
        go_wp2
        go_ret
        exact ⟨ret_int (by rw [HN.out, if_pos h0]), rfl⟩
      · have hem := emp_no h0
        by_cases h4 : 4 < s.size
        · go_wp2
          go_ret
          exact ⟨ret_int (by rw [HN.out, if_neg h0, if_pos h4]), rfl⟩
        · go_wp2
          go_ret
          exact ⟨ret_int (by rw [HN.out, if_neg h0, if_neg h4]), rfl⟩

set_option maxHeartbeats 800000 in
theorem implName_any (w : World) (s : ByteArray) (hs : s.size ≤ maxLen) : Calls Tryz.prog 125 #[.string s] w fun e w' => e = .returned (.int .i64 (nameF s)) ∧ w' = w := by
  unfold maxLen at hs
  by_cases h0 : s.size = 0
  · have hem := emp_yes h0
    have HN : Hid (nameF s = 5) := by unfold Hid nameF; rw [if_pos h0]
    rw [HN.out]
    go_enter Tryz.func125, Tryz.ntmps125
    go_wp2
    go_ret
    exact ⟨rfl, rfl⟩
  · have hem := emp_no h0
    go_enter Tryz.func125, Tryz.ntmps125
    go_wp2
    go_loop [8] (fun i => ∃ k : Nat, k ≤ s.size ∧ i = .int .i64 k ∧ ∀ j (h : j < s.size), j < k → byB s[j] = true) (fun i => s.size - (intOf i).toNat)
    case atStart => exact ⟨0, Nat.zero_le _, rfl, fun j h h' => by omega⟩
    case round =>
      obtain ⟨k, hk, rfl, ha⟩ := hrel
      have HA : Hid (∀ j (h : j < s.size), j < k → byB s[j] = true) := ha
      clear ha
      by_cases hlt : k < s.size
      · cases hb : byB s[k]
        · have HB : Hid (byB s[k] = false) := hb
          have HN : Hid (nameF s = 5) := nameF_bad hlt hb
          clear hb
          go_wp2_with fail
          refine (isNameByte_any _ _).mono ?_
          rw [HB.out]
          rintro e w1 ⟨rfl, rfl⟩
          go_wp2
          go_ret
          exact ⟨ret_int HN.out.symm, rfl⟩
        · have HB : Hid (byB s[k] = true) := hb
          clear hb
          go_wp2_with fail
          refine (isNameByte_any _ _).mono ?_
          rw [HB.out]
          rintro e w1 ⟨rfl, rfl⟩
          go_wp2
          go_round
          case rel =>
            refine ⟨k + 1, by omega, by go_num, fun j h hj => ?_⟩
            by_cases e : j = k
            · subst e; exact HB.out
            · exact HA.out j h (by omega)
          case measure => simp [intOf]; omega
      · have HN : Hid (nameF s = if s.size = 0 then 5 else if 4 < s.size then 2 else 0) := nameF_good fun j h => HA.out j h (by omega)
        by_cases h4 : 4 < s.size
        · go_wp2
          go_ret
          exact ⟨ret_int (by rw [HN.out, if_neg h0, if_pos h4]), rfl⟩
        · go_wp2
          go_ret
          exact ⟨ret_int (by rw [HN.out, if_neg h0, if_neg h4]), rfl⟩

end Go.Proofs.YtjabimfinanjoaaGreat

namespace Go.Proofs.YtjabimfinanjoaaGreat
open Go.RowKit
set_option maxRecDepth 100000

def mkB (l : List UInt8) : ByteArray := ⟨l.toArray⟩
theorem mkB_data (s : ByteArray) : mkB s.data.toList = s := by cases s; simp [mkB]
theorem mkB_list (l : List UInt8) : (mkB l).data.toList = l := by simp [mkB]
theorem mkB_size (l : List UInt8) : (mkB l).size = l.length := by simp [mkB, ByteArray.size]
theorem mkB_inj {l m : List UInt8} (h : mkB l = mkB m) : l = m := by rw [← mkB_list l, h, mkB_list]
def cutHead (b : UInt8) : List (List UInt8) → List (List UInt8)
  | [] => [[b]]
  | p :: ps => (b :: p) :: ps
/-- A text cut at each slash. -/
def cutB : List UInt8 → List (List UInt8)
  | [] => [[]]
  | b :: l => if b = 47 then [] :: cutB l else cutHead b (cutB l)
def takeTo (l : List UInt8) : List UInt8 := l.takeWhile (· != 47)
def dropTo (l : List UInt8) : List UInt8 := l.dropWhile (· != 47)
/-- What stands behind each slash, the first sign being one. -/
def restN : List UInt8 → List (List UInt8)
  | [] => []
  | _ :: t => cutB t
theorem cut_step (t : List UInt8) : cutB t = takeTo t :: restN (dropTo t) := by
  induction t with
  | nil => rfl
  | cons b l ih =>
    unfold cutB takeTo dropTo
    by_cases h : b = 47
    · rw [if_pos h, List.takeWhile_cons, List.dropWhile_cons, if_neg (by simp [h]), if_neg (by simp [h])]
      rfl
    · rw [if_neg h, ih, List.takeWhile_cons, List.dropWhile_cons, if_pos (by simpa using h), if_pos (by simpa using h)]
      rfl
theorem idx_cases (t : List UInt8) : (Lib.indexByte t 47 = -1 ∧ takeTo t = t ∧ dropTo t = []) ∨ ∃ o : Nat, Lib.indexByte t 47 = (o : Int) ∧ o < t.length ∧ takeTo t = t.take o ∧ dropTo t = t.drop o := by
  induction t with
  | nil => exact Or.inl ⟨rfl, rfl, rfl⟩
  | cons b l ih =>
    unfold Lib.indexByte takeTo dropTo
    by_cases h : b = 47
    · exact Or.inr ⟨0, by simp [h], by simp, by simp [h], by simp [h]⟩
    · have hb : (b == 47) = false := by simpa using h
      rcases ih with ⟨h1, h2, h3⟩ | ⟨o, h1, h2, h3, h4⟩
      · refine Or.inl ⟨by simp [hb, h1], ?_, ?_⟩
        · rw [List.takeWhile_cons, if_pos (by simpa using h)]; unfold takeTo at h2; rw [h2]
        · rw [List.dropWhile_cons, if_pos (by simpa using h)]; unfold dropTo at h3; rw [h3]
      · refine Or.inr ⟨o + 1, ?_, by simp; omega, ?_, ?_⟩
        · have : (Lib.indexByte l 47 == -1) = false := by rw [h1]; simp
          simp [hb, h1]
        · rw [List.takeWhile_cons, if_pos (by simpa using h)]; unfold takeTo at h3; rw [h3]; rfl
        · rw [List.dropWhile_cons, if_pos (by simpa using h)]; unfold dropTo at h4; rw [h4]; rfl
theorem restN_cons (b : UInt8) (t : List UInt8) : restN (b :: t) = takeTo t :: restN (dropTo t) := cut_step t
theorem dropTo_le (t : List UInt8) : (dropTo t).length ≤ t.length := by unfold dropTo; exact (List.dropWhile_sublist _).length_le
theorem takeTo_le (t : List UInt8) : (takeTo t).length ≤ t.length := by unfold takeTo; exact (List.takeWhile_sublist _).length_le
/-- The names that a path tells. -/
def namesL (l : List UInt8) : List (List UInt8) := if l = [47] then [] else restN l

theorem run_from (l : List UInt8) (k : Nat) (hk : k ≤ l.length) (W : World) : (Instr.slice 9 (.string (mkB l)) (some (.int .i64 (k : Int))) none none).run Tryz.prog W = .ok (.string (mkB (l.drop k))) W := by
  have hs := mkB_size l
  have he : (mkB l).extract k (mkB l).size = mkB (l.drop k) := by
    have h : ((mkB l).extract k (mkB l).size).data.toList = l.drop k := by
      simp only [mkB, ByteArray.size, ByteArray.data_extract, Array.toList_extract, List.size_toArray, List.extract_eq_take_drop]
      exact List.take_of_length_le (by simp)
    rw [← mkB_data ((mkB l).extract k (mkB l).size), h]
  simp [Instr.slice, Instr.sliceBounds, Instr.sliceBound, asIntOf, run_underlying Tryz.underlying9, hs, hk]
  rw [← hs]
  exact he
theorem run_upto (l : List UInt8) (k : Nat) (hk : k ≤ l.length) (W : World) : (Instr.slice 9 (.string (mkB l)) none (some (.int .i64 (k : Int))) none).run Tryz.prog W = .ok (.string (mkB (l.take k))) W := by
  have hs := mkB_size l
  have he : (mkB l).extract 0 k = mkB (l.take k) := by
    have h : ((mkB l).extract 0 k).data.toList = l.take k := by simp [mkB]
    rw [← mkB_data ((mkB l).extract 0 k), h]
  simp [Instr.slice, Instr.sliceBounds, Instr.sliceBound, asIntOf, run_underlying Tryz.underlying9, hs, hk]
  exact he
end Go.Proofs.YtjabimfinanjoaaGreat

namespace Go.Proofs.YtjabimfinanjoaaGreat
open Go.RowKit Go.Shelf
set_option maxRecDepth 100000
attribute [local go_sem] Oper.semAt_some

/-- A text that is no longer than a row takes. -/
abbrev BL := { l : List UInt8 // l.length ≤ 1048576 }
/-- A name as it is told. -/
abbrev encB (x : BL) : Array Value := #[.string (mkB x.1)]
abbrev txt (pre : List BL) : List (List UInt8) := pre.map (·.1)
theorem mkB_toList (l : List UInt8) : (mkB l).toList = l := by rw [ByteArray.toList_eq, mkB_list]
def strLen : Value → Nat
  | .string s => s.size
  | _ => 0

end Go.Proofs.YtjabimfinanjoaaGreat

namespace Go.Proofs.YtjabimfinanjoaaGreat
open Go.RowKit Go.Shelf
set_option maxRecDepth 100000
attribute [local go_sem] Oper.semAt_some

theorem cutHead_len (b : UInt8) (ps : List (List UInt8)) (h : ps ≠ []) : (cutHead b ps).length = ps.length := by
  cases ps with
  | nil => exact absurd rfl h
  | cons a t => rfl
theorem cutB_ne (l : List UInt8) : cutB l ≠ [] := by rw [cut_step]; simp
theorem cutB_len (l : List UInt8) : (cutB l).length ≤ l.length + 1 := by
  induction l with
  | nil => simp [cutB]
  | cons b t ih =>
    unfold cutB
    split
    · simp only [List.length_cons]; omega
    · rw [cutHead_len b _ (cutB_ne t)]; simp only [List.length_cons]; omega
theorem namesL_len (l : List UInt8) : (namesL l).length ≤ l.length + 1 := by
  unfold namesL
  split
  · simp
  · cases l with
    | nil => simp [restN]
    | cons b t => have := cutB_len t; simp only [restN, List.length_cons]; omega
theorem cell_new_l (W : World) (v : Value) (t : TypeId) : (W.alloc (.cells #[v] t)).cell? ⟨W.heap.size, 0, none⟩ = some v ∧ (W.alloc (.cells #[v] t)).frozen? ⟨W.heap.size, 0, none⟩ = false := by
  have h : (W.alloc (.cells #[v] t)).heap[W.heap.size]? = some (.cells #[v] t (0, 0)) := World.alloc_heap_new W _
  constructor
  · simp only [World.cell?, h]; rfl
  · simp only [World.frozen?, h]; rfl

end Go.Proofs.YtjabimfinanjoaaGreat

namespace Go.Proofs.YtjabimfinanjoaaGreat
open Go.RowKit
set_option maxRecDepth 100000

/-- The digits of a number ahead of what stands. -/
def dg (k : Nat) (acc : List UInt8) : List UInt8 := if h : k = 0 then acc else dg (k / 10) (UInt8.ofNat (48 + k % 10) :: acc)
termination_by k
decreasing_by omega

theorem mkB_app (a b : List UInt8) : mkB a ++ mkB b = mkB (a ++ b) := by
  have h : (mkB a ++ mkB b).data.toList = a ++ b := by simp [mkB]
  rw [← mkB_data (mkB a ++ mkB b), h]
theorem conv_one (w : World) (j : Nat) :
    (convert 26 9 (.slice (some ⟨w.heap.size, 0, none⟩) 1 1)).run Tryz.prog (w.alloc (.cells #[.int .u8 (48 + (j : Int) % 10)] 5)) = .ok (.string (mkB [UInt8.ofNat (48 + j % 10)])) (w.alloc (.cells #[.int .u8 (48 + (j : Int) % 10)] 5)) := by
  refine run_convert_bytes_back _ 26 9 5 ⟨w.heap.size, 0, none⟩ 1 [UInt8.ofNat (48 + j % 10)] Tryz.underlying26 Tryz.underlying5 Tryz.underlying9 (fun i hi => ?_)
  have hi0 : i = 0 := by simpa using hi
  subst hi0
  have h1 : (UInt8.ofNat (48 + j % 10)).toNat = 48 + j % 10 := by rw [UInt8.toNat_ofNat']; omega
  show (w.alloc (.cells #[.int .u8 (48 + (j : Int) % 10)] 5)).cell? ⟨w.heap.size, 0, none⟩ = some (.int .u8 ((UInt8.ofNat (48 + j % 10)).toNat : Int))
  rw [h1, (cell_new_l w _ _).1]
  congr 2

set_option maxHeartbeats 1600000 in
theorem markText_any (w : World) (k : Nat) (hk : 1 ≤ k) (hk2 : k ≤ 4294967296) :
    Calls Tryz.prog 77 #[.int .i64 (k : Int)] w fun e w' => e = .returned (.string (mkB (109 :: dg k []))) ∧ Below w.heap.size w w' := by
  have hk' : decide ((k : Int) ≤ 0) = false := by simp; omega
  go_enter Tryz.func77, Tryz.ntmps77
  go_wp2
  go_loopw [0, 3] (fun q o wr => ∃ (j : Nat) (acc : List UInt8), acc.length + j ≤ k ∧ q = .int .i64 (j : Int) ∧ o = .string (mkB acc) ∧ dg j acc = dg k [] ∧ Below w.heap.size w wr) (fun q _ _ => (intOf q).toNat)
  case atStart => exact ⟨k, [], by simp, rfl, rfl, rfl, Below.refl _ _⟩
  case round =>
    obtain ⟨j, acc, hj, rfl, rfl, hdg, hbl⟩ := hrel
    have HD : Hid (dg j acc = dg k []) := hdg
    have HB : Hid (Below w.heap.size w wr) := hbl
    have hkz : (k = 0) = False := by simp; omega
    clear hdg hbl
    by_cases h0 : j = 0
    · subst h0
      have HE : Hid (acc = dg k []) := by unfold Hid; rw [← HD.out]; unfold dg; simp
      have HE2 : Hid (mkB [109] ++ mkB acc = mkB (109 :: dg k [])) := by unfold Hid; rw [mkB_app, ← HE.out]; rfl
      have hm : (⟨#[109]⟩ : ByteArray) = mkB [109] := rfl
      have hsz : (9223372036854775807 < (mkB [109]).size + (mkB acc).size) = False := by rw [mkB_size, mkB_size]; simp; omega
      go_wp2
      go_ret
      exact ⟨by rw [← HE2.out]; rfl, HB.out⟩
    · have hp : (0 : Int) < (j : Int) := by omega
      have hcv := conv_one wr j
      have HAP : Hid (mkB [UInt8.ofNat (48 + j % 10)] ++ mkB acc = mkB (UInt8.ofNat (48 + j % 10) :: acc)) := mkB_app _ _
      have HDD : Hid (dg (j / 10) (UInt8.ofNat (48 + j % 10) :: acc) = dg k []) := by unfold Hid; rw [← HD.out]; conv => rhs; unfold dg; rw [dif_neg h0]
      have hsz : (9223372036854775807 < (mkB [UInt8.ofNat (48 + j % 10)]).size + (mkB acc).size) = False := by rw [mkB_size, mkB_size]; simp; omega
      generalize UInt8.ofNat (48 + j % 10) = b at *
      go_wp2
      go_roundw
      case rel => exact ⟨j / 10, b :: acc, by simp; omega, by go_num, by rw [HAP.out], HDD.out, HB.out.trans ((later1 _ _).mono HB.out.size)⟩
      case measure => simp [intOf]; omega
end Go.Proofs.YtjabimfinanjoaaGreat

namespace Go.Proofs.YtjabimfinanjoaaGreat
open Go.RowKit Go.Shelf
set_option maxRecDepth 100000
attribute [local go_sem] Oper.semAt_some

/-- The fault of the first name that has one. -/
def namesF : List (List UInt8) → Int
  | [] => 0
  | x :: t => if nameF (mkB x) = 0 then namesF t else nameF (mkB x)
theorem nameF_cases (s : ByteArray) : nameF s = 0 ∨ nameF s = 2 ∨ nameF s = 5 := by
  unfold nameF
  split
  · simp
  · split
    · split <;> simp
    · simp
theorem namesF_app (a b : List (List UInt8)) : namesF (a ++ b) = if namesF a = 0 then namesF b else namesF a := by
  induction a with
  | nil => simp [namesF]
  | cons x t ih =>
    simp only [List.cons_append, namesF]
    split
    · exact ih
    · rfl
theorem namesF_snoc {a : List (List UInt8)} (x : List UInt8) (h : namesF a = 0) : namesF (a ++ [x]) = nameF (mkB x) := by
  rw [namesF_app, if_pos h]
  simp only [namesF]
  split
  · rename_i h; exact h.symm
  · rfl
theorem namesF_prefix {a b : List (List UInt8)} (h : a <+: b) (hn : ¬ namesF a = 0) : namesF b = namesF a := by
  obtain ⟨t, rfl⟩ := h
  rw [namesF_app, if_neg hn]

end Go.Proofs.YtjabimfinanjoaaGreat

namespace Go.Proofs.YtjabimfinanjoaaGreat
open Go.Shelf Go.RowKit Go.Lib
set_option maxRecDepth 100000
def Tryz.laysM316_ren : Go.Shelf.Ren := ⟨fun | 316 => 114 | n => n, fun | 9 => 9 | 3 => 3 | 4 => 4 | 37 => 26 | 0 => 0 | 127 => 143 | 5 => 5 | n => n, fun | n => n⟩
theorem Tryz.laysM316 : Go.Proofs.LaysM.n316 Tryz.prog Tryz.laysM316_ren := {
  mixed := by kernel_rfl
  f316 := Tryz.func114.trans (congrArg some (by kernel_rfl))
  t0 := Tryz.underlying0
  a0 := Tryz.isAgg0
  z0 := Tryz.sizeOf0
  v0 := Tryz.zeroValue0
  t3 := Tryz.underlying3
  a3 := Tryz.isAgg3
  z3 := Tryz.sizeOf3
  v3 := Tryz.zeroValue3
  t4 := Tryz.underlying4
  a4 := Tryz.isAgg4
  z4 := Tryz.sizeOf4
  v4 := Tryz.zeroValue4
  t9 := Tryz.underlying9
  a9 := Tryz.isAgg9
  z9 := Tryz.sizeOf9
  v9 := Tryz.zeroValue9
  t37 := Tryz.underlying26
  a37 := Tryz.isAgg26
  z37 := Tryz.sizeOf26
  v37 := Tryz.zeroValue26
  t127 := Tryz.underlying143
  a127 := Tryz.isAgg143
  z127 := Tryz.sizeOf143
  v127 := Tryz.zeroValue143
  t5 := Tryz.underlying5
  a5 := Tryz.isAgg5
  z5 := Tryz.sizeOf5
  v5 := Tryz.zeroValue5
  i0 := by kernel_rfl
  i3 := by kernel_rfl
  i4 := by kernel_rfl
  i5 := by kernel_rfl
  i9 := by kernel_rfl
  i37 := by kernel_rfl
  i127 := by kernel_rfl }
theorem Tryz.stringslite_Clone (s : ByteArray) (w : World) (hlim : s.size ≤ 281474976710656) :
    Calls Tryz.prog 114 #[.string s] w fun e w' => e = .returned (.string s) ∧ Below w.heap.size w w' := Any.stringslite_Clone Tryz.laysM316 s w hlim
end Go.Proofs.YtjabimfinanjoaaGreat

namespace Go.Proofs.YtjabimfinanjoaaGreat
open Go.RowKit
set_option maxRecDepth 100000

def preB (l : List UInt8) : Bool := l.head? == some 47
def sufB (l : List UInt8) : Bool := l.getLast? == some 47
def topB (l : List UInt8) : Bool := l == [47]
theorem pre_lib (l : List UInt8) : Lib.hasPrefix l [47] = preB l := by
  cases l with
  | nil => rfl
  | cons b t => simp [Lib.hasPrefix, preB, List.isPrefixOf]; exact BEq.comm
theorem suf_lib (l : List UInt8) : Lib.hasSuffix l [47] = sufB l := by
  unfold Lib.hasSuffix sufB
  cases h : l.reverse with
  | nil =>
    have : l = [] := by simpa using h
    subst this; rfl
  | cons b t =>
    have : l = t.reverse ++ [b] := by
      have := congrArg List.reverse h
      simpa using this
    subst this
    simp [List.isSuffixOf, List.isPrefixOf]; exact BEq.comm
def pathF (l : List UInt8) : Int :=
  if 30 < l.length then 2 else if preB l = true then (if sufB l = true ∧ topB l = false then 5 else if 6 < (namesL l).length then 2 else namesF (namesL l)) else 5

end Go.Proofs.YtjabimfinanjoaaGreat

namespace Go.Proofs.YtjabimfinanjoaaGreat
open Go.RowKit Go.Shelf
set_option maxRecDepth 100000
attribute [local go_sem] Oper.semAt_some

theorem Tryz.infoStr : (Tryz.prog.info? 9).map (fun i => (i.zero, i.size, i.bytes)) = some (some (.string ⟨#[]⟩), 1, 16) := by kernel_rfl
/-- The cells of a list of texts. -/
def strV (l : List UInt8) : Value := .string (mkB l)
theorem clone_any (w : World) (l : List UInt8) (hl : l.length ≤ 1048576) : Calls Tryz.prog 98 #[.string (mkB l)] w fun e w' => e = .returned (.string (mkB l)) ∧ Below w.heap.size w w' := by
  go_enter Tryz.func98, Tryz.ntmps98
  go_wp2_with fail
  refine (Tryz.stringslite_Clone (mkB l) _ (by rw [mkB_size]; omega)).mono ?_
  rintro e w1 ⟨rfl, hb1⟩
  go_wp2
  go_ret
  exact ⟨rfl, hb1⟩
/-- The names that SplitPath answers. -/
def splitL (l : List UInt8) : List (List UInt8) := if pathF l = 0 then namesL l else []

theorem ownsRow_later {B : Nat} {e : TypeId} {k : Nat} {v : Value} {n : Nat} {xs : List Value} {w w' : World} (h : w.ownsRow B e k v n xs) (hb : Below w.heap.size w w') : w'.ownsRow B e k v n xs :=
  h.kept (row := none) ⟨hb.os, hb.tape, hb.output, hb.size, fun j hj _ => hb.block j hj⟩ (by cases hv : v.ownBlock <;> simp)
theorem ownsRow_shape {w : World} {B : Nat} {e : TypeId} {k : Nat} {v : Value} {n : Nat} {xs : List Value} (h : w.ownsRow B e k v n xs) : ∃ a c, v = .slice a n c := by
  rcases h.2 with ⟨rfl, rfl⟩ | ⟨g, cap, cur, rfl, _⟩
  · exact ⟨_, _, rfl⟩
  · exact ⟨_, _, rfl⟩
theorem ownsRow_base {w : World} {B B' : Nat} {e : TypeId} {k : Nat} {v : Value} {n : Nat} {xs : List Value} (h : w.ownsRow B e k v n xs) (hb : B' ≤ B) : w.ownsRow B' e k v n xs := by
  obtain ⟨hl, h | ⟨g, cap, cur, h1, h2, r⟩⟩ := h
  · exact ⟨hl, Or.inl h⟩
  · exact ⟨hl, Or.inr ⟨g, cap, cur, h1, Nat.le_trans hb h2, r⟩⟩
theorem ownsRow_store {w : World} {B : Nat} {e : TypeId} {k : Nat} {v : Value} {n : Nat} {xs : List Value} (h : w.ownsRow B e k v n xs) {p : Addr} (hp : p.block < B) (u : Value) : (w.setCell p u).ownsRow B e k v n xs := by
  obtain ⟨hl, h | ⟨g, cap, cur, h1, h2, h3, r⟩⟩ := h
  · exact ⟨hl, Or.inl h⟩
  · exact ⟨hl, Or.inr ⟨g, cap, cur, h1, h2, (Below.heap_setCell _ _ _ _ (by omega)).trans h3, r⟩⟩
theorem keeps_later {w w' : World} (hb : Below w.heap.size w w') : KeepsOthers w w' := ⟨hb.size, fun j _ hj _ => (hb.block j (Array.getElem?_eq_some_iff.1 hj).1).trans hj⟩
theorem OwnRow.newS (w : World) (x y : Value) (t : TypeId) : OwnRow (w.alloc (.cells #[x, y] t)) w.heap.size 2 (fun i => if i = 0 then x else y) := by
  refine ⟨_, t, World.alloc_heap_new w _, by simp, fun i hi => ?_⟩
  have : i = 0 ∨ i = 1 := by omega
  rcases this with rfl | rfl <;> simp

/-- What a builtin append is known to come to, inside a region of a round that draws its order. -/
theorem stepIn_append_run {F : Fence} {n : Nat} {P : Program} {w : World} {ops : Array Oper} {o : Oper} {a : Act} {K : Act → World → Prop} {Q : Exit → Act → World → Prop} {E : Prop} (hgd : o.guard = none) (s x : Operand) (t : TypeId)
    (hop : o.op = .call { callee := .builtin .append, args := #[s, x], argTypes := #[t, t] }) (v y : Value) (hs : a.eval s = v) (hx : a.eval x = y) (v' : Value) (w' : World)
    (hr : (Builtin.append_ #[t, t] o.type #[v, y]).run P w = .ok v' w') (h : K (a.put o.dst v') w') : if Region.wanted o (yielded ops a.tmps) = true then Oper.wpIn F n P o a w K Q else E := by
  have hw : Region.wanted o (yielded ops a.tmps) = true := by simp [Region.wanted, hgd]
  rw [if_pos hw]
  unfold Oper.wpIn
  refine ⟨?_, ?_⟩
  · simp [Oper.about, hop, resolve, Target.leads, Sem.run_pure]
  · rw [Oper.semAt_plain F _ _ (by rw [hop]; intro c hc'; cases hc')]
    simp [execOp, hop, resolve, invoke, builtin, hs, hx, hr, Result.andThen]
    exact h

end Go.Proofs.YtjabimfinanjoaaGreat

namespace Go.Proofs.YtjabimfinanjoaaGreat
open Go.RowKit
set_option maxRecDepth 100000

section
variable {P : Program} {w : World}
/-- An append whose run is known, at its place in a walk. -/
theorem wpList_append_run {ops : Array Oper} {rest : List Oper} {o : Oper} {a : Act} {Q : Exit → Act → World → Prop} (hgd : o.guard = none) (s x : Operand) (t : TypeId)
    (ho : o.op = .call { callee := .builtin .append, args := #[s, x], argTypes := #[t, t] }) (v y : Value) (hs : a.eval s = v) (hx : a.eval x = y) (v' : Value) (w' : World)
    (hr : (Builtin.append_ #[t, t] o.type #[v, y]).run P w = .ok v' w') (h : wpList P ops Q rest (a.put o.dst v') w') : wpList P ops Q (o :: rest) a w := by
  refine wpList_plain hgd fun K hK => ?_
  unfold Oper.wp execOp
  simp only [ho, resolve, invoke, builtin, Sem.run_bind, Sem.run_pure, Result.andThen_ok, List.map_toArray, List.map_cons, List.map_nil, hs, hx, hr]
  exact hK _ _ h
/-- The same inside a region that draws its order. -/
theorem step_append_run {ops : Array Oper} {o : Oper} {a : Act} {K : Act → World → Prop} {Q : Exit → Act → World → Prop} {E : Prop} (hgd : o.guard = none) (s x : Operand) (t : TypeId)
    (ho : o.op = .call { callee := .builtin .append, args := #[s, x], argTypes := #[t, t] }) (v y : Value) (hs : a.eval s = v) (hx : a.eval x = y) (v' : Value) (w' : World)
    (hr : (Builtin.append_ #[t, t] o.type #[v, y]).run P w = .ok v' w') (h : K (a.put o.dst v') w') : if Region.wanted o (yielded ops a.tmps) = true then Oper.wp P o a w K Q else E := by
  have hw : Region.wanted o (yielded ops a.tmps) = true := by simp [Region.wanted, hgd]
  rw [if_pos hw]
  unfold Oper.wp execOp
  simp only [ho, resolve, invoke, builtin, Sem.run_bind, Sem.run_pure, Result.andThen_ok, List.map_toArray, List.map_cons, List.map_nil, hs, hx, hr]
  exact h
end

theorem below_grown {w w' : World} {B : Nat} {row : Option Nat} (h : w.grownBy w' row) (hB : B ≤ w.heap.size) (hr : ∀ k, row = some k → B ≤ k) : Below B w w' := (Below.refl _ _).grown h hB hr

/-- A row of one cell an element that the call owns. -/
theorem ownsRow_row {w : World} {base n : Nat} {e : TypeId} {v : Value} {xs : List Value} (h : w.ownsRow base e 1 v n xs) (h0 : 0 < n) : ∃ g cap, v = .slice (some ⟨g, 0, none⟩) n cap ∧ base ≤ g ∧ g < w.heap.size ∧ n ≤ maxLen ∧ OwnRow w g n (fun i => xs[i]?.getD undef) := by
  obtain ⟨hl, h | ⟨g, cap, cur, rfl, hb, hh, hnc, hcm, hcs, htake⟩⟩ := h
  · omega
  · refine ⟨g, cap, rfl, hb, (Array.getElem?_eq_some_iff.1 hh).1, by omega, cur, e, hh, by omega, fun i hi => ?_⟩
    rw [Nat.mul_one] at htake
    have h1 : xs[i]? = cur[i]? := by rw [← htake, List.getElem?_take, if_pos hi, Array.getElem?_toList]
    show cur[i]? = some (xs[i]?.getD undef)
    have h2 : i < cur.size := by omega
    rw [h1, Array.getElem?_eq_getElem h2]; rfl

theorem add_plain' (b off k : Nat) : (⟨b, off, none⟩ : Addr).add k = ⟨b, off + k, none⟩ := by
  by_cases h : k = 0
  · subst h; simp [Addr.add]
  · simp [Addr.add, h]

theorem Tryz.infoInt' : ∃ i, Tryz.prog.info? 2 = some i ∧ i.zero = some (.int .i64 0) ∧ i.size = 1 ∧ i.bytes = 8 := by
  obtain ⟨i, hi, h⟩ := Option.map_eq_some_iff.1 Tryz.infoInt
  simp only [Prod.mk.injEq] at h
  exact ⟨i, hi, h.1, h.2.1, h.2.2⟩

theorem append_empty (w : World) (ty : TypeId) (a : Option Addr) (n cap : Nat) (zs : List Int) (hz : zs.length = n) (hn : n ≤ 1048576) (hc : At1 w a n (fun k => .int .i64 (zs[k]?.getD 0))) :
    ∃ v' X, (Builtin.append_ #[27, 27] ty #[.slice (some ⟨w.heap.size, 0, none⟩) 0 0, .slice a n cap]).run Tryz.prog (w.alloc (.cells #[] 2)) = .ok v' X ∧
      Below w.heap.size w X ∧ IntsO X v' zs (fresh w X) ∧ w.heap.size < X.heap.size ∧ ∃ a' c', v' = .slice a' n c' := by
  obtain ⟨i, hi, h1, h2, h3⟩ := Tryz.infoInt'
  have hown : (w.alloc (.cells #[] 2)).ownsRow w.heap.size 2 1 (.slice (some ⟨w.heap.size, 0, none⟩) 0 0) 0 [] := World.ownsRow_lit w #[] 0 (Nat.le_refl _) (by simp) rfl
  by_cases ha : a = none
  · subst ha
    have h0 : n = 0 := by
      by_cases h : n = 0
      · exact h
      · obtain ⟨_, _, e, _⟩ := hc 0 (by omega); cases e
    subst h0
    have hzs : zs = [] := List.eq_nil_of_length_eq_zero hz
    subst hzs
    refine ⟨.slice (some ⟨w.heap.size, 0, none⟩) 0 0, w.alloc (.cells #[] 2), ?_, later1 _ _, Or.inl ⟨rfl, _, _, rfl⟩, by simp, _, _, rfl⟩
    simp [Builtin.append_, run_underlying Tryz.underlying27, sizeOf, typeInfo, hi, Builtin.lenOf, Builtin.firstCells, storeCells]
  · obtain ⟨ad, rfl⟩ := Option.ne_none_iff_exists'.1 ha
    obtain ⟨v', X, hr, ho, hg, _⟩ := run_append_own (P := Tryz.prog) (w.alloc (.cells #[] 2)) w.heap.size 27 ty 2 i (.int .i64 0) 1 8 Tryz.underlying27 hi h1 h2 h3 rfl (by decide) _ 0 [] hown ad n cap (zs.map fun z => Value.int .i64 z)
      (by simp [hz]) (fun j u hu => by
        rw [List.getElem?_map, Option.map_eq_some_iff] at hu
        obtain ⟨z, hz1, rfl⟩ := hu
        have hj : j < n := by rw [← hz]; exact (List.getElem?_eq_some_iff.1 hz1).1
        obtain ⟨b, off, e, h⟩ := hc j hj
        simp only [Option.some.injEq] at e
        rw [e, add_plain']
        replace h : w.cell? ⟨b, off + j, none⟩ = some (.int .i64 (zs[j]?.getD 0)) := h
        rw [hz1, Option.getD_some] at h
        exact cell_later (later1 _ _) h) (fun u hu => by
        obtain ⟨z, _, rfl⟩ := List.mem_map.1 hu
        rfl) (by unfold maxLen; omega) (by omega) (by simp)
    have hB : Below w.heap.size w X := (later1 _ _).trans (below_grown hg (by simp) (fun k hk => by simp [Value.ownBlock] at hk; omega))
    simp only [Nat.zero_add, List.nil_append] at ho
    refine ⟨v', X, hr, hB, ?_, by have := hg.size; simp at this; omega, ?_⟩
    · by_cases h0 : n = 0
      · subst h0
        have hzs : zs = [] := List.eq_nil_of_length_eq_zero hz
        refine Or.inl ⟨hzs, ?_⟩
        rcases ho.2 with ⟨rfl, _⟩ | ⟨g, c, cur, rfl, _⟩
        · exact ⟨_, _, rfl⟩
        · exact ⟨_, _, rfl⟩
      · obtain ⟨g, c, rfl, hg1, hg2, hm, hrow⟩ := ownsRow_row ho (by omega)
        refine Or.inr ⟨g, c, ⟨hg1, hg2⟩, by rw [hz], by rw [hz]; exact hm, ?_⟩
        rw [hz]
        exact hrow.congr fun i hi => by
          have : i < zs.length := by omega
          simp [this]
    · rcases ho.2 with ⟨rfl, rfl⟩ | ⟨g, c, cur, rfl, _⟩
      · exact ⟨_, _, rfl⟩
      · exact ⟨_, _, rfl⟩

set_option maxHeartbeats 400000 in
theorem l1Ints_more {w : World} {v : Value} {zs : List Int} (h : Ints w v zs) (hn : zs.length ≤ 1048576) :
    Calls Tryz.prog 88 #[v] w fun e w' => ∃ a c, e = .returned (.slice a zs.length c) ∧ Below w.heap.size w w' ∧ IntsO w' (.slice a zs.length c) zs (fresh w w') ∧ w.heap.size < w'.heap.size := by
  obtain ⟨a, cap, rfl, hm, hc⟩ := h.open'
  clear h
  obtain ⟨v', X, hr, hbX, hoX, hsX, a', c', rfl⟩ := append_empty w 27 a zs.length cap zs rfl hn hc
  have HR : Hid (_ = _) := hr
  have HB : Hid (Below w.heap.size w X) := hbX
  have HO : Hid (IntsO X (.slice a' zs.length c') zs (fresh w X)) := hoX
  clear hbX hoX hc hr
  go_enter Tryz.func88, Tryz.ntmps88
  go_wp2_with (at_builtin; refine wpList_append_run rfl _ _ 27 rfl _ _ rfl rfl _ _ HR.out ?_)
  go_ret
  exact ⟨a', c', rfl, HB.out, HO.out, hsX⟩
theorem l1Ints_any {w : World} {v : Value} {zs : List Int} (h : Ints w v zs) (hn : zs.length ≤ 1048576) :
    Calls Tryz.prog 88 #[v] w fun e w' => ∃ a c, e = .returned (.slice a zs.length c) ∧ Below w.heap.size w w' ∧ IntsO w' (.slice a zs.length c) zs (fresh w w') :=
  (l1Ints_more h hn).mono fun _ _ ⟨a, c, h1, h2, h3, _⟩ => ⟨a, c, h1, h2, h3⟩
end Go.Proofs.YtjabimfinanjoaaGreat

namespace Go.Proofs.YtjabimfinanjoaaGreat
open Go.RowKit
set_option maxRecDepth 100000

theorem cut_at47 {l : List UInt8} {n : Nat} (h : ∀ k, k < n → l[k]?.getD 0 ≠ 47) (hn : n ≤ l.length) (he : n = l.length ∨ l[n]?.getD 0 = 47) : takeTo l = l.take n ∧ dropTo l = l.drop n := by
  induction l generalizing n with
  | nil => simp at hn; subst hn; exact ⟨rfl, rfl⟩
  | cons b t ih =>
    unfold takeTo dropTo
    cases n with
    | zero =>
      have hb : b = 47 := by rcases he with h | h <;> simp at h; exact h
      simp [hb]
    | succ n =>
      have hb : ¬ b = 47 := by have := h 0 (by omega); simpa using this
      have := ih (n := n) (fun k hk => by have := h (k + 1) (by omega); simpa using this) (by simpa using hn) (by simpa using he)
      unfold takeTo dropTo at this
      rw [List.takeWhile_cons, List.dropWhile_cons, if_pos (by simpa using hb), if_pos (by simpa using hb), this.1, this.2]
      exact ⟨rfl, rfl⟩
theorem run_mid (l : List UInt8) (f k : Nat) (hf : f ≤ k) (hk : k ≤ l.length) (W : World) : (Instr.slice 9 (.string (mkB l)) (some (.int .i64 (f : Int))) (some (.int .i64 (k : Int))) none).run Tryz.prog W = .ok (.string (mkB ((l.drop f).take (k - f)))) W := by
  have hs := mkB_size l
  have he : (mkB l).extract f k = mkB ((l.drop f).take (k - f)) := by
    have h : ((mkB l).extract f k).data.toList = (l.drop f).take (k - f) := by
      simp only [mkB, ByteArray.data_extract, Array.toList_extract, List.extract_eq_take_drop]
    rw [← mkB_data ((mkB l).extract f k), h]
  simp [Instr.slice, Instr.sliceBounds, Instr.sliceBound, asIntOf, run_underlying Tryz.underlying9, hs, hk, hf]
  exact he
theorem mkB_get (t : List UInt8) (j : Nat) (h : j < (mkB t).size) : (mkB t)[j] = t[j]?.getD 0 := by
  have h' : j < t.length := by rw [← mkB_size]; exact h
  rw [List.getElem?_eq_getElem h', Option.getD_some]
  show (mkB t).data[j] = _
  simp [mkB]
/-- How far the cutting is: 'done' pieces, the next one from f on. -/
def CutSt (t : List UInt8) (j f : Nat) (done : List (List UInt8)) : Prop :=
  (j ≤ t.length ∧ f ≤ j ∧ cutB t = done ++ cutB (t.drop f) ∧ (∀ k, f ≤ k → k < j → t[k]?.getD 0 ≠ 47) ∧ done.length ≤ j) ∨ (j = t.length + 1 ∧ done = cutB t)
theorem cut_here {t : List UInt8} {j f : Nat} {done : List (List UInt8)} (hf : f ≤ j) (hj : j ≤ t.length) (h1 : cutB t = done ++ cutB (t.drop f)) (h2 : ∀ k, f ≤ k → k < j → t[k]?.getD 0 ≠ 47) (he : j = t.length ∨ t[j]?.getD 0 = 47) :
    cutB t = (done ++ [(t.drop f).take (j - f)]) ++ restN (t.drop j) := by
  have := cut_at47 (l := t.drop f) (n := j - f) (fun k hk => by rw [List.getElem?_drop]; exact h2 (f + k) (by omega) (by omega)) (by simp; omega) (by
    rcases he with e | e
    · exact Or.inl (by simp; omega)
    · exact Or.inr (by rw [List.getElem?_drop, show f + (j - f) = j by omega]; exact e))
  rw [h1, cut_step (t.drop f), this.1, this.2, List.drop_drop, show f + (j - f) = j by omega, List.append_assoc]
  rfl

end Go.Proofs.YtjabimfinanjoaaGreat

namespace Go.Proofs.YtjabimfinanjoaaGreat
open Go.RowKit
set_option maxRecDepth 100000

/-- How a list of texts reads. -/
def AtT (w : World) (a : Option Addr) (n : Nat) (xs : List (List UInt8)) : Prop := ∀ k, k < n → ∃ b off, a = some ⟨b, off, none⟩ ∧ w.cell? ⟨b, off + k, none⟩ = some (.string (mkB (xs[k]?.getD [])))
theorem AtT.later {w w' : World} {a : Option Addr} {n : Nat} {xs : List (List UInt8)} (h : AtT w a n xs) (hb : Below w.heap.size w w') : AtT w' a n xs := fun k hk => by
  obtain ⟨b, off, e, c⟩ := h k hk
  exact ⟨b, off, e, cell_later hb c⟩
theorem ownsRow_at {w : World} {B : Nat} {e : TypeId} {a : Option Addr} {n c : Nat} {xs : List (List UInt8)} (h : w.ownsRow B e 1 (.slice a n c) xs.length (xs.map strV)) : n = xs.length ∧ AtT w a n xs := by
  obtain ⟨hl, ⟨h1, h2⟩ | ⟨g, cap, cur, h1, h2, h3, h4, h5, h6, h7⟩⟩ := h
  · simp only [Value.slice.injEq] at h1
    exact ⟨by rw [h1.2.1, h2], fun k hk => by rw [h1.2.1] at hk; omega⟩
  · simp only [Value.slice.injEq] at h1
    refine ⟨h1.2.1, fun k hk => ⟨g, 0, h1.1, ?_⟩⟩
    rw [h1.2.1] at hk
    have h8 : (xs.map strV)[k]? = some (.string (mkB (xs[k]?.getD []))) := by rw [List.getElem?_map, List.getElem?_eq_getElem hk]; rfl
    rw [← h7, List.getElem?_take, if_pos (by omega), Array.getElem?_toList] at h8
    rw [Nat.zero_add]
    simp only [World.cell?, h3]
    exact h8
def namesC (xs : List (List UInt8)) : Int := if 6 < xs.length then 2 else namesF xs
theorem namesF_at {xs : List (List UInt8)} {j : Nat} (h : ∀ i, i < j → nameF (mkB (xs[i]?.getD [])) = 0) (hj : j < xs.length) (hn : ¬ nameF (mkB (xs[j]?.getD [])) = 0) : namesF xs = nameF (mkB (xs[j]?.getD [])) := by
  induction xs generalizing j with
  | nil => simp at hj
  | cons x t ih =>
    cases j with
    | zero => simp at hn ⊢; simp [namesF, hn]
    | succ j =>
      have h0 : nameF (mkB x) = 0 := by simpa using h 0 (by omega)
      simp only [namesF, if_pos h0]
      have := ih (j := j) (fun i hi => by simpa using h (i + 1) (by omega)) (by simpa using hj) (by simpa using hn)
      simpa using this
theorem namesF_zero {xs : List (List UInt8)} (h : ∀ i, i < xs.length → nameF (mkB (xs[i]?.getD [])) = 0) : namesF xs = 0 := by
  induction xs with
  | nil => rfl
  | cons x t ih =>
    have h0 : nameF (mkB x) = 0 := by simpa using h 0 (by simp)
    simp only [namesF, if_pos h0]
    exact ih fun i hi => by simpa using h (i + 1) (by simpa using hi)

end Go.Proofs.YtjabimfinanjoaaGreat

namespace Go.Proofs.YtjabimfinanjoaaGreat
open Go.RowKit
set_option maxRecDepth 100000

def mkT (k : Nat) : Value := .string (mkB (109 :: dg k []))

end Go.Proofs.YtjabimfinanjoaaGreat
