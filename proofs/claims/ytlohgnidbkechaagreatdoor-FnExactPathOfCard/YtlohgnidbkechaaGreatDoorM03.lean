/- The specification's l3Names and l3Split. Lists of texts: marking, holding, comparing. The walks of the comparing functions over slices of integers and of slices. The walks of the comparing functions over puts and disks. The walks of the marking and holding functions over puts and disks. The walks of the comparing, marking and holding functions over an answer of a code and a list. One form for the contracts of the laws' own functions, type by type: what a value reads as, what it owns, how great it is. Lists of entries and inodes: how they read, what they own. Lists of inodes: how they read, what they own. No program is named here. The walks of the laws' functions over lists of entries. -/
import Derived.Test.YtlohgnidbkechaaGreatDoorM02
import Derived.Test.YtlohgnidbkechaaGreatDoorM01
import Derived.Deep.RegionHeld3
import Derived.Test.YtlohgnidbkechaaGreatDoorRows
import Derived.Test.YtlohgnidbkechaaGreatDoorM00
import Derived.Deep.RegionWith
namespace Go.Proofs.YtlohgnidbkechaaGreatDoor
open Go.RowKit
set_option maxRecDepth 100000

/-- How a list of texts reads. -/
def AtT (w : World) (a : Option Addr) (n : Nat) (xs : List (List UInt8)) : Prop := ∀ k, k < n → ∃ b off, a = some ⟨b, off, none⟩ ∧ w.cell? ⟨b, off + k, none⟩ = some (.string (mkB (xs[k]?.getD [])))
theorem AtT.later {w w' : World} {a : Option Addr} {n : Nat} {xs : List (List UInt8)} (h : AtT w a n xs) (hb : Below w.heap.size w w') : AtT w' a n xs := fun k hk => by
  obtain ⟨b, off, e, c⟩ := h k hk
  exact ⟨b, off, e, cell_later hb c⟩
theorem ownsRow_at {w : World} {B : Nat} {e : TypeId} {a : Option Addr} {n c : Nat} {xs : List (List UInt8)} (h : w.ownsRow B e 1 (.slice a n c) xs.length (xs.map strV)) : n = xs.length ∧ AtT w a n xs := by
  obtain ⟨hl, ⟨h1, h2⟩ | ⟨g, cap, cur, h1, h2, h3, h4, h5, h6, h7⟩⟩ := h
  · simp only [Value.slice.injEq] at h1
    exact ⟨by rw [h1.2.1, h2], fun k hk => by rw [h1.2.1] at hk; omega⟩
  · simp only [Value.slice.injEq] at h1
    refine ⟨h1.2.1, fun k hk => ⟨g, 0, h1.1, ?_⟩⟩
    rw [h1.2.1] at hk
    have h8 : (xs.map strV)[k]? = some (.string (mkB (xs[k]?.getD []))) := by rw [List.getElem?_map, List.getElem?_eq_getElem hk]; rfl
    rw [← h7, List.getElem?_take, if_pos (by omega), Array.getElem?_toList] at h8
    rw [Nat.zero_add]
    simp only [World.cell?, h3]
    exact h8
def namesC (xs : List (List UInt8)) : Int := if 6 < xs.length then 2 else namesF xs
theorem namesF_at {xs : List (List UInt8)} {j : Nat} (h : ∀ i, i < j → nameF (mkB (xs[i]?.getD [])) = 0) (hj : j < xs.length) (hn : ¬ nameF (mkB (xs[j]?.getD [])) = 0) : namesF xs = nameF (mkB (xs[j]?.getD [])) := by
  induction xs generalizing j with
  | nil => simp at hj
  | cons x t ih =>
    cases j with
    | zero => simp at hn ⊢; simp [namesF, hn]
    | succ j =>
      have h0 : nameF (mkB x) = 0 := by simpa using h 0 (by omega)
      simp only [namesF, if_pos h0]
      have := ih (j := j) (fun i hi => by simpa using h (i + 1) (by omega)) (by simpa using hj) (by simpa using hn)
      simpa using this
theorem namesF_zero {xs : List (List UInt8)} (h : ∀ i, i < xs.length → nameF (mkB (xs[i]?.getD [])) = 0) : namesF xs = 0 := by
  induction xs with
  | nil => rfl
  | cons x t ih =>
    have h0 : nameF (mkB x) = 0 := by simpa using h 0 (by simp)
    simp only [namesF, if_pos h0]
    exact ih fun i hi => by simpa using h (i + 1) (by simpa using hi)

end Go.Proofs.YtlohgnidbkechaaGreatDoor

namespace Go.Proofs.YtlohgnidbkechaaGreatDoor
open Go.RowKit
set_option maxRecDepth 100000

def mkT (k : Nat) : Value := .string (mkB (109 :: dg k []))

end Go.Proofs.YtlohgnidbkechaaGreatDoor

namespace Go.Proofs.YtlohgnidbkechaaGreatDoor
open Go.RowKit
set_option maxRecDepth 100000

set_option maxHeartbeats 400000 in
theorem eqInts_len (w : World) (a a' : Option Addr) (cap cap' n n' : Nat) (hn : ¬ n = n') :
    Calls Tryz.prog 97 #[.slice a n cap, .slice a' n' cap'] w fun e w' => e = .returned (.bool false) ∧ w' = w := by
  have hb : ((n : Int) != (n' : Int)) = true := by simp; omega
  clear hn
  go_enter Tryz.func97, Tryz.ntmps97
  go_wp2
  go_ret
  exact ⟨rfl, rfl⟩

set_option maxHeartbeats 400000 in
theorem eqInts_nil (w : World) (a a' : Option Addr) (cap cap' : Nat) :
    Calls Tryz.prog 97 #[.slice a 0 cap, .slice a' 0 cap'] w fun e w' => e = .returned (.bool true) ∧ w' = w := by
  go_enter Tryz.func97, Tryz.ntmps97
  go_wp2
  go_loop [5] (fun i => i = .int .i64 0) (fun _ => 0)
  case atStart => rfl
  case round =>
    obtain rfl := hrel
    go_wp2
    go_ret
    exact ⟨rfl, rfl⟩

set_option maxHeartbeats 400000 in
theorem eqInts_walk (w : World) (b off cap b' off' cap' n : Nat) (xs ys : List Int) (hx : xs.length = n) (hy : ys.length = n) (hn : n ≤ maxLen)
    (cx : ∀ k, k < n → w.cell? ⟨b, off + k, none⟩ = some (.int .i64 (xs[k]?.getD 0)))
    (cy : ∀ k, k < n → w.cell? ⟨b', off' + k, none⟩ = some (.int .i64 (ys[k]?.getD 0))) :
    Calls Tryz.prog 97 #[.slice (some ⟨b, off, none⟩) n cap, .slice (some ⟨b', off', none⟩) n cap'] w fun e w' => e = .returned (.bool (xs == ys)) ∧ ∃ m, w' = w.drewN m := by
  unfold maxLen at hn
  have HX : Hid (xs.length = n) := hx
  have HY : Hid (ys.length = n) := hy
  clear hx hy
  go_enter Tryz.func97, Tryz.ntmps97
  go_wp2
  go_loopw [5] (fun i wr => ∃ k m : Nat, k ≤ n ∧ i = .int .i64 k ∧ wr = w.drewN m ∧ xs.take k = ys.take k) (fun i _ => n - (intOf i).toNat)
  case atStart => exact ⟨0, 0, Nat.zero_le _, rfl, rfl, rfl⟩
  case round =>
    obtain ⟨k, m, hk, rfl, rfl, ht⟩ := hrel
    by_cases hlt : k < n
    · have c1 := cx k hlt
      have c2 := cy k hlt
      clear cx cy
      have HT : Hid (xs.take k = ys.take k) := ht
      clear ht
      by_cases he : xs[k]?.getD 0 = ys[k]?.getD 0
      · have hb : (xs[k]?.getD 0 != ys[k]?.getD 0) = false := by simp [he]
        have HE : Hid (xs[k]?.getD 0 = ys[k]?.getD 0) := he
        clear he
        go_wp2_with fail
        go_quiet (fail)
        go_wp2
        go_roundw
        case rel => exact ⟨k + 1, m + nq, by omega, by go_num, rfl, take_more 0 HX.out HY.out hlt HT.out HE.out⟩
        case measure => simp [intOf]; omega
      · have hb : (xs[k]?.getD 0 != ys[k]?.getD 0) = true := by simp [he]
        go_wp2_with fail
        go_quiet (fail)
        go_wp2
        go_ret
        exact ⟨ret_bool (beq_at 0 he), m + nq, by rw [World.drewN_drewN]⟩
    · go_wp2
      go_ret
      exact ⟨ret_bool (beq_takes HX.out HY.out (by omega) ht), m, rfl⟩

theorem eqInts_any {w : World} {va vb : Value} {xs ys : List Int} (ha : Ints w va xs) (hb : Ints w vb ys) :
    Calls Tryz.prog 97 #[va, vb] w fun e w' => e = .returned (.bool (xs == ys)) ∧ ∃ m, w' = w.drewN m := by
  have base : ∀ a cap a' cap' (x y : List Int), x.length ≠ y.length ∨ (x = [] ∧ y = []) → Calls Tryz.prog 97 #[.slice a x.length cap, .slice a' y.length cap'] w fun e w' => e = .returned (.bool (x == y)) ∧ ∃ m, w' = w.drewN m := by
    intro a cap a' cap' x y h
    rcases h with h | ⟨rfl, rfl⟩
    · exact (eqInts_len w a a' cap cap' _ _ h).mono fun e w' ⟨he, hw⟩ => ⟨he.trans (ret_bool (beq_len h)), 0, hw⟩
    · exact (eqInts_nil w a a' cap cap').mono fun e w' ⟨he, hw⟩ => ⟨he, 0, hw⟩
  rcases ha with ⟨rfl, a, cap, rfl⟩ | ⟨b, off, cap, rfl, hl, hc⟩
  · rcases hb with ⟨rfl, a', cap', rfl⟩ | ⟨b', off', cap', rfl, hl', hc'⟩
    · exact base a cap a' cap' [] [] (Or.inr ⟨rfl, rfl⟩)
    · by_cases h : ys = []
      · subst h; exact base a cap _ cap' [] [] (Or.inr ⟨rfl, rfl⟩)
      · exact base a cap _ cap' [] ys (Or.inl (by cases ys <;> simp at h ⊢))
  · rcases hb with ⟨rfl, a', cap', rfl⟩ | ⟨b', off', cap', rfl, hl', hc'⟩
    · by_cases h : xs = []
      · subst h; exact base _ cap a' cap' [] [] (Or.inr ⟨rfl, rfl⟩)
      · exact base _ cap a' cap' xs [] (Or.inl (by cases xs <;> simp at h ⊢))
    · by_cases h : xs.length = ys.length
      · have := eqInts_walk w b off cap b' off' cap' ys.length xs ys h rfl hl' (fun k hk => hc k (by omega)) hc'
        rw [h]; exact this
      · exact base _ cap _ cap' xs ys (Or.inl h)

end Go.Proofs.YtlohgnidbkechaaGreatDoor

namespace Go.Proofs.YtlohgnidbkechaaGreatDoor
open Go.RowKit
set_option maxRecDepth 100000

theorem beq_pair1 {a b : Int} (xs ys : List Int) (h : (a != b) = true) : false = ((a, xs) == (b, ys)) := by
  symm; rw [Bool.eq_false_iff]; intro e; simp at h; have := eq_of_beq e; simp at this; exact h this.1
theorem beq_pair2 {a b : Int} {xs ys : List Int} {r : Bool} (h : (a != b) = false) (hr : (xs == ys) = r) : r = ((a, xs) == (b, ys)) := by
  simp at h; subst h; rw [← hr]
  by_cases e : xs = ys
  · simp [e]
  · have h1 : (xs == ys) = false := by simp [e]
    rw [h1]; symm; rw [Bool.eq_false_iff]; intro h2; have := eq_of_beq h2; simp at this; exact e this

end Go.Proofs.YtlohgnidbkechaaGreatDoor

namespace Go.Proofs.YtlohgnidbkechaaGreatDoor
open Go.RowKit
set_option maxRecDepth 100000

/-- The number that stands ahead of put i. -/
def pnum (k : Int) (ps : List (Int × List Int)) (i : Nat) : Int := k + i + (upto (wlens ps) i : Nat)
def halfA (k : Int) (ps : List (Int × List Int)) (j i : Nat) : Int := if i < j then pnum k ps i else (ps[i]?.getD (0, [])).1
def halfW (k : Int) (ps : List (Int × List Int)) (j i : Nat) : List Int := if i < j then marks (pnum k ps i + 1) (ps[i]?.getD (0, [])).2.length else (ps[i]?.getD (0, [])).2
def halfCell (k : Int) (ps : List (Int × List Int)) (u : Nat → Value) (j c : Nat) : Value := if c % 2 = 0 then .int .i64 (halfA k ps j (c / 2)) else u (c / 2)
theorem halfCell_at (k : Int) (ps : List (Int × List Int)) (u : Nat → Value) (j i : Nat) : halfCell k ps u j (i * 2) = .int .i64 (halfA k ps j i) := by
  unfold halfCell; rw [if_pos (by omega), show i * 2 / 2 = i by omega]
theorem halfCell_words (k : Int) (ps : List (Int × List Int)) (u : Nat → Value) (j i : Nat) : halfCell k ps u j (i * 2 + 1) = u i := by
  unfold halfCell; rw [if_neg (by omega), show (i * 2 + 1) / 2 = i by omega]
theorem halfCell_next (k : Int) (ps : List (Int × List Int)) (u : Nat → Value) (j c : Nat) : (if c = j * 2 then .int .i64 (pnum k ps j) else halfCell k ps u j c) = halfCell k ps u (j + 1) c := by
  by_cases e : c = j * 2
  · subst e; rw [if_pos rfl, halfCell_at]; simp [halfA]
  · rw [if_neg e]
    unfold halfCell halfA
    by_cases e2 : c % 2 = 0
    · rw [if_pos e2, if_pos e2]
      have hne : c / 2 ≠ j := by omega
      by_cases e3 : c / 2 < j
      · rw [if_pos e3, if_pos (by omega)]
      · rw [if_neg e3, if_neg (by omega)]
    · rw [if_neg e2, if_neg e2]

/-- Marked, a disk holds. -/
structure Marked (w : World) (vB vC : Value) (bs : List (List Int)) (ps : List (Int × List Int)) (k : Int) (F : Nat → Prop) : Prop where
  disk : DiskO w vB vC (marksS k (bs.map List.length)) (marksP (k + ((bs.map List.length).sum : Nat)) (wlens ps)) F
theorem Marked.later {w w' : World} {vB vC : Value} {bs : List (List Int)} {ps : List (Int × List Int)} {k : Int} {F : Nat → Prop} (h : Marked w vB vC bs ps k F) (hb : Below w.heap.size w w') : Marked w' vB vC bs ps k F := ⟨h.disk.later hb⟩

end Go.Proofs.YtlohgnidbkechaaGreatDoor

namespace Go.Proofs.YtlohgnidbkechaaGreatDoor
open Go.RowKit
set_option maxRecDepth 100000

theorem Box2.chg {w w' : World} {b : Nat} {x y : Value} {F : Nat → Prop} (h : Box2 w b x y) (hc : Chg F w w') (hf : ¬ F b) : Box2 w' b x y := ⟨(hc.cell h.lt hf).trans h.1, (hc.cell h.lt hf).trans h.2⟩
theorem IntsO.later {w w' : World} {v : Value} {zs : List Int} {F : Nat → Prop} (h : IntsO w v zs F) (hb : Below w.heap.size w w') : IntsO w' v zs F := h.keep fun b _ hlt => hb.block b hlt
theorem IntsO.chg {w w' : World} {v : Value} {zs : List Int} {F G : Nat → Prop} (h : IntsO w v zs F) (hc : Chg G w w') (hd : ∀ b, F b → ¬ G b) : IntsO w' v zs F := h.keep fun b hb hlt => hc.block b hlt (hd b hb)
end Go.Proofs.YtlohgnidbkechaaGreatDoor

namespace Go.Proofs.YtlohgnidbkechaaGreatDoor
open Go.RowKit
set_option maxRecDepth 100000

/-- The cells of block b, from the first on. -/
def Bx (w : World) (b : Nat) (vs : List Value) : Prop := ∀ i v, vs[i]? = some v → w.cell? ⟨b, i, none⟩ = some v
theorem Bx.new (w : World) (vs : List Value) (t : TypeId) : Bx (w.alloc (.cells vs.toArray t)) w.heap.size vs := fun i v h => by rw [new_cell]; simpa using h
theorem Bx.later {w w' : World} {b : Nat} {vs : List Value} (h : Bx w b vs) (hb : Below w.heap.size w w') : Bx w' b vs := fun i v e => cell_later hb (h i v e)
theorem Bx.chg {w w' : World} {b : Nat} {vs : List Value} {F : Nat → Prop} (h : Bx w b vs) (hc : Chg F w w') (hf : ¬ F b) : Bx w' b vs := fun i v e => by
  have := h i v e
  exact (hc.cell (a := ⟨b, i, none⟩) (World.block_lt_of_cell? _ _ this) hf).trans this
theorem Bx.lt {w : World} {b : Nat} {v : Value} {vs : List Value} (h : Bx w b (v :: vs)) : b < w.heap.size := World.block_lt_of_cell? _ _ (h 0 v rfl)

/-- Lists of integers. -/
theorem IntsO.reads {w : World} {v : Value} {zs : List Int} {F : Nat → Prop} (h : IntsO w v zs F) : Ints w v zs := h.ints
theorem toIntsU {w : World} {v : Value} {zs : List Int} (h : Ints w v zs) (hn : zs.length ≤ 1048576) :
    Calls Tryz.prog 88 #[v] w fun e w' => ∃ a n c, e = .returned (.slice a n c) ∧ Below w.heap.size w w' ∧ IntsO w' (.slice a n c) zs (fresh w w') :=
  (toInts_any h hn).mono fun _ _ ⟨h1, h2, h3⟩ => ⟨_, _, _, h1, h2, h3⟩
theorem eqIntsU {w : World} {v v' : Value} {zs : List Int} (h : Ints w v zs) (h' : Ints w v' zs) : Calls Tryz.prog 97 #[v, v'] w fun e w' => e = .returned (.bool true) ∧ Below w.heap.size w w' :=
  (eqInts_any h h').mono fun _ _ ⟨h1, m, h2⟩ => ⟨by rw [h1, beq_self_eq_true], h2 ▸ below_drewN (Below.refl _ _) m⟩
theorem markIntsU {w : World} {v : Value} {zs : List Int} {F : Nat → Prop} (k : Int) (h : IntsO w v zs F) (hk0 : 0 ≤ k) (hk : k + (zs.length : Nat) ≤ 4611686018427387904) :
    Calls Tryz.prog 75 #[v, .int .i64 k] w fun e w' => e = .returned (.int .i64 (k + (zs.length : Nat))) ∧ Chg F w w' :=
  (markInts_any k h hk0 hk).mono fun _ _ ⟨h1, _, h2⟩ => ⟨h1, h2⟩

/-- Disks. -/
abbrev DK := List (List Int) × List (Int × List Int)
def DiskR (w : World) (vB vC : Value) (d : DK) : Prop := IntsS w vB d.1 ∧ Puts w vC d.2
theorem DiskR.later {w w' : World} {vB vC : Value} {d : DK} (h : DiskR w vB vC d) (hb : Below w.heap.size w w') : DiskR w' vB vC d := ⟨h.1.later hb, h.2.later hb⟩
def DiskU (w : World) (vB vC : Value) (d : DK) (F : Nat → Prop) : Prop := DiskO w vB vC d.1 d.2 F
theorem DiskU.reads {w : World} {vB vC : Value} {d : DK} {F : Nat → Prop} (h : DiskU w vB vC d F) : DiskR w vB vC d := ⟨DiskO.ints h, DiskO.puts h⟩
theorem DiskU.later {w w' : World} {vB vC : Value} {d : DK} {F : Nat → Prop} (h : DiskU w vB vC d F) (hb : Below w.heap.size w w') : DiskU w' vB vC d F := DiskO.later h hb
theorem DiskU.mono {w : World} {vB vC : Value} {d : DK} {F G : Nat → Prop} (h : DiskU w vB vC d F) (e : ∀ b, F b → G b) : DiskU w vB vC d G := DiskO.mono h e
theorem DiskU.chg {w w' : World} {vB vC : Value} {d : DK} {F G : Nat → Prop} (h : DiskU w vB vC d F) (hc : Chg G w w') (hd : ∀ b, F b → ¬ G b) : DiskU w' vB vC d F := DiskO.chg h hc hd
def sizeDisk (d : DK) : Nat := dsize d.1 d.2
def spanDisk (d : DK) : Nat := dspan d.1 d.2
theorem spanDisk_le (d : DK) : spanDisk d ≤ sizeDisk d := by unfold spanDisk sizeDisk dspan dsize; omega
/-- Answers that are a code and a disk. -/
def AnsDR (w : World) (r : Int × DK) (e : Ending) (w' : World) : Prop := ∃ aB nB cB aC nC cC, e = .returned (.agg #[.int .i64 r.1, .slice aB nB cB, .slice aC nC cC]) ∧ Below w.heap.size w w' ∧ DiskU w' (.slice aB nB cB) (.slice aC nC cC) r.2 (fresh w w')
theorem AnsDisk.uni {w w' : World} {c : Int} {bs : List (List Int)} {ps : List (Int × List Int)} {e : Ending} (h : AnsDisk w c bs ps e w') : AnsDR w (c, bs, ps) e w' := by
  obtain ⟨aB, nB, cB, aC, nC, cC, h1, h2⟩ := h
  exact ⟨aB, nB, cB, aC, nC, cC, h1, h2.below, h2.disk⟩
def mkDisk (k : Int) (d : DK) : DK := (marksS k (d.1.map List.length), marksP (k + ((d.1.map List.length).sum : Nat)) (wlens d.2))
end Go.Proofs.YtlohgnidbkechaaGreatDoor

namespace Go.Proofs.YtlohgnidbkechaaGreatDoor
open Go.RowKit
set_option maxRecDepth 100000

abbrev EN := ByteArray × Int
def en0 : EN := (⟨#[]⟩, 0)
/-- The cells of a row of entries. -/
def enCell (es : List EN) (j : Nat) : Value := if j % 2 = 0 then .string (es[j / 2]?.getD en0).1 else .int .i64 (es[j / 2]?.getD en0).2
theorem enCell_0 (es : List EN) (k : Nat) : enCell es (k * 2) = .string (es[k]?.getD en0).1 := by
  unfold enCell; rw [if_pos (by omega), show k * 2 / 2 = k by omega]
theorem enCell_1 (es : List EN) (k : Nat) : enCell es (k * 2 + 1) = .int .i64 (es[k]?.getD en0).2 := by
  unfold enCell; rw [if_neg (by omega), show (k * 2 + 1) / 2 = k by omega]

/-- Where the entries of a list lie. -/
def AtN (w : World) (a : Option Addr) (n : Nat) (es : List EN) : Prop :=
  ∀ k, k < n → ∃ b off, a = some ⟨b, off, none⟩ ∧ w.cell? ⟨b, off + k * 2, none⟩ = some (.string (es[k]?.getD en0).1) ∧ w.cell? ⟨b, off + k * 2 + 1, none⟩ = some (.int .i64 (es[k]?.getD en0).2)
theorem AtN.later {w w' : World} {a : Option Addr} {n : Nat} {es : List EN} (h : AtN w a n es) (hb : Below w.heap.size w w') : AtN w' a n es := fun k hk => by
  obtain ⟨b, off, e, c0, c1⟩ := h k hk
  exact ⟨b, off, e, cell_later hb c0, cell_later hb c1⟩
/-- The slice v reads as the entries es. -/
def Ents (w : World) (v : Value) (es : List EN) : Prop := ∃ a cap, v = .slice a es.length cap ∧ (es.length ≤ maxLen ∧ es.length ≤ cap ∧ ∀ k : Nat, (es[k]?.getD en0).1.size ≤ maxLen) ∧ AtN w a es.length es
theorem Ents.later {w w' : World} {v : Value} {es : List EN} (h : Ents w v es) (hb : Below w.heap.size w w') : Ents w' v es := by
  obtain ⟨a, cap, h1, h2, h3⟩ := h
  exact ⟨a, cap, h1, h2, h3.later hb⟩
theorem Ents.nil (w : World) (a : Option Addr) (cap : Nat) : Ents w (.slice a 0 cap) [] := ⟨a, cap, rfl, ⟨by simp, by simp, fun k => by simp [en0, ByteArray.size]⟩, fun k hk => by simp at hk⟩
theorem Ents.open' {w : World} {v : Value} {es : List EN} (h : Ents w v es) : ∃ a cap, v = .slice a es.length cap ∧ es.length ≤ maxLen ∧ (∀ k : Nat, (es[k]?.getD en0).1.size ≤ maxLen) ∧ AtN w a es.length es := by
  obtain ⟨a, cap, h1, h2, h3⟩ := h
  exact ⟨a, cap, h1, h2.1, h2.2.2, h3⟩

/-- The slice v holds the entries es, in one block of F. -/
def EntsO (w : World) (v : Value) (es : List EN) (F : Nat → Prop) : Prop :=
  (es = [] ∧ ∃ a cap, v = .slice a 0 cap) ∨
  (∃ b cap, F b ∧ v = .slice (some ⟨b, 0, none⟩) es.length cap ∧ (es.length ≤ maxLen ∧ es.length ≤ cap ∧ ∀ k : Nat, (es[k]?.getD en0).1.size ≤ maxLen) ∧ OwnRow w b (es.length * 2) (enCell es))
theorem OwnRow.atN {w : World} {b n : Nat} {es : List EN} (h : OwnRow w b (n * 2) (enCell es)) : AtN w (some ⟨b, 0, none⟩) n es := fun k hk =>
  ⟨b, 0, rfl, by rw [Nat.zero_add, h.cell (by omega), enCell_0], by rw [Nat.zero_add, h.cell (by omega), enCell_1]⟩
theorem EntsO.reads {w : World} {v : Value} {es : List EN} {F : Nat → Prop} (h : EntsO w v es F) : Ents w v es := by
  rcases h with ⟨rfl, a, cap, rfl⟩ | ⟨b, cap, _, h1, h2, h3⟩
  · exact Ents.nil w a cap
  · exact ⟨_, cap, h1, h2, h3.atN⟩
theorem EntsO.keep {w w' : World} {v : Value} {es : List EN} {F : Nat → Prop} (h : EntsO w v es F) (e : ∀ b, F b → b < w.heap.size → w'.heap[b]? = w.heap[b]?) : EntsO w' v es F := by
  rcases h with h | ⟨b, cap, hF, h1, h2, h3⟩
  · exact Or.inl h
  · exact Or.inr ⟨b, cap, hF, h1, h2, h3.block (e b hF h3.lt)⟩
theorem EntsO.mono {w : World} {v : Value} {es : List EN} {F G : Nat → Prop} (h : EntsO w v es F) (e : ∀ b, F b → G b) : EntsO w v es G := by
  rcases h with h | ⟨b, cap, hF, h1⟩
  · exact Or.inl h
  · exact Or.inr ⟨b, cap, e b hF, h1⟩
theorem EntsO.bound {w : World} {v : Value} {es : List EN} {F : Nat → Prop} (h : EntsO w v es F) : EntsO w v es (fun b => F b ∧ b < w.heap.size) := by
  rcases h with h | ⟨b, cap, hF, h1, h2, h3⟩
  · exact Or.inl h
  · exact Or.inr ⟨b, cap, ⟨hF, h3.lt⟩, h1, h2, h3⟩
theorem EntsO.later {w w' : World} {v : Value} {es : List EN} {F : Nat → Prop} (h : EntsO w v es F) (hb : Below w.heap.size w w') : EntsO w' v es F := h.keep fun b _ hlt => hb.block b hlt

/-- The marks of n entries, from k on. -/
def marksN (k : Nat) (n : Nat) : List EN := (List.range n).map fun i : Nat => (mkB (109 :: dg (k + 2 * i) []), ((k + 2 * i + 1 : Nat) : Int))
theorem marksN_length (k n : Nat) : (marksN k n).length = n := by simp [marksN]
theorem marksN_get (k : Nat) {n i : Nat} (h : i < n) : (marksN k n)[i]?.getD en0 = (mkB (109 :: dg (k + 2 * i) []), ((k + 2 * i + 1 : Nat) : Int)) := by simp [marksN, h]
def markCell (k c : Nat) : Value := if c % 2 = 0 then mkT (k + c) else .int .i64 ((k + c : Nat) : Int)
theorem enCell_marks (k : Nat) {n c : Nat} (h : c < n * 2) : enCell (marksN k n) c = markCell k c := by
  have h3 : c / 2 < n := by omega
  unfold enCell markCell
  rw [marksN_get k h3]
  by_cases e : c % 2 = 0
  · rw [if_pos e, if_pos e]; unfold mkT; rw [show k + 2 * (c / 2) = k + c by omega]
  · rw [if_neg e, if_neg e]; show Value.int .i64 ((k + 2 * (c / 2) + 1 : Nat) : Int) = _; rw [show k + 2 * (c / 2) + 1 = k + c by omega]
theorem dg_len (k : Nat) : ∀ acc, (dg k acc).length ≤ k + acc.length := by
  induction k using Nat.strongRecOn with
  | ind k ih =>
    intro acc
    unfold dg
    split
    · omega
    · have := ih (k / 10) (by omega) (UInt8.ofNat (48 + k % 10) :: acc)
      simp only [List.length_cons] at this
      omega
theorem marksN_size (k n : Nat) (h : k + 2 * n ≤ 4294967296) (i : Nat) : ((marksN k n)[i]?.getD en0).1.size ≤ maxLen := by
  unfold maxLen
  by_cases e : i < n
  · rw [marksN_get k e]
    show (mkB (109 :: dg (k + 2 * i) [])).size ≤ _
    rw [mkB_size]
    have := dg_len (k + 2 * i) []
    simp only [List.length_cons, List.length_nil] at this ⊢
    omega
  · rw [List.getElem?_eq_none (by rw [marksN_length]; omega)]
    simp [en0, ByteArray.size]

/-- The cells of a row of entries of which the first j stand. -/
def partN (es : List EN) (j c : Nat) : Value := if c < j * 2 then enCell es c else pairCell (.string ⟨#[]⟩) (.int .i64 0) c
theorem partN_next (es : List EN) (j c : Nat) : (if c = j * 2 + 1 then .int .i64 (es[j]?.getD en0).2 else (if c = j * 2 then .string (es[j]?.getD en0).1 else partN es j c)) = partN es (j + 1) c := by
  unfold partN
  by_cases e1 : c = j * 2 + 1
  · subst e1; rw [if_pos rfl, if_pos (by omega), enCell_1]
  · rw [if_neg e1]
    by_cases e0 : c = j * 2
    · subst e0; rw [if_pos rfl, if_pos (by omega), enCell_0]
    · rw [if_neg e0]
      by_cases h : c < j * 2
      · rw [if_pos h, if_pos (by omega)]
      · rw [if_neg h, if_neg (by omega)]
/-- How great a list of entries is. -/
def nlens (es : List EN) : List Nat := es.map fun e => e.1.size
theorem nlens_length (es : List EN) : (nlens es).length = es.length := by simp [nlens]
theorem nlens_get (es : List EN) (i : Nat) : (nlens es)[i]?.getD 0 = (es[i]?.getD en0).1.size := by
  unfold nlens; rw [List.getElem?_map]; cases es[i]? <;> rfl
def sizeN (es : List EN) : Nat := es.length + (nlens es).sum

/-- A slice is no longer than its room. -/
def capOK (v : Value) : Prop := ∃ a n c, v = .slice a n c ∧ n ≤ c
/-- Inodes: kind, links, size, blocks, entries. -/
abbrev ID := Int × Int × Int × List Int × List EN
def InoR (w : World) (v0 v1 v2 vB vE : Value) (d : ID) : Prop := (v0 = .int .i64 d.1 ∧ v1 = .int .i64 d.2.1 ∧ v2 = .int .i64 d.2.2.1 ∧ capOK vB) ∧ Ints w vB d.2.2.2.1 ∧ Ents w vE d.2.2.2.2
theorem InoR.later {w w' : World} {v0 v1 v2 vB vE : Value} {d : ID} (h : InoR w v0 v1 v2 vB vE d) (hb : Below w.heap.size w w') : InoR w' v0 v1 v2 vB vE d := ⟨h.1, h.2.1.later hb, h.2.2.later hb⟩
def InoU (w : World) (v0 v1 v2 vB vE : Value) (d : ID) (F : Nat → Prop) : Prop := (v0 = .int .i64 d.1 ∧ v1 = .int .i64 d.2.1 ∧ v2 = .int .i64 d.2.2.1 ∧ capOK vB) ∧ ∃ F1 G1 : Nat → Prop, IntsO w vB d.2.2.2.1 F1 ∧ EntsO w vE d.2.2.2.2 G1 ∧ (∀ b, F1 b → ¬ G1 b) ∧ ∀ b, F1 b ∨ G1 b → F b
theorem InoU.reads {w : World} {v0 v1 v2 vB vE : Value} {d : ID} {F : Nat → Prop} (h : InoU w v0 v1 v2 vB vE d F) : InoR w v0 v1 v2 vB vE d := by
  obtain ⟨h0, _, _, h1, h2, _⟩ := h
  exact ⟨h0, h1.reads, h2.reads⟩
theorem InoU.keep {w w' : World} {v0 v1 v2 vB vE : Value} {d : ID} {F : Nat → Prop} (h : InoU w v0 v1 v2 vB vE d F) (e : ∀ b, F b → b < w.heap.size → w'.heap[b]? = w.heap[b]?) : InoU w' v0 v1 v2 vB vE d F := by
  obtain ⟨h0, F1, G1, h1, h2, hd, hf⟩ := h
  exact ⟨h0, F1, G1, h1.keep fun b hb => e b (hf b (Or.inl hb)), h2.keep fun b hb => e b (hf b (Or.inr hb)), hd, hf⟩
theorem InoU.later {w w' : World} {v0 v1 v2 vB vE : Value} {d : ID} {F : Nat → Prop} (h : InoU w v0 v1 v2 vB vE d F) (hb : Below w.heap.size w w') : InoU w' v0 v1 v2 vB vE d F := h.keep fun b _ hlt => hb.block b hlt
theorem InoU.mono {w : World} {v0 v1 v2 vB vE : Value} {d : ID} {F G : Nat → Prop} (h : InoU w v0 v1 v2 vB vE d F) (e : ∀ b, F b → G b) : InoU w v0 v1 v2 vB vE d G := by
  obtain ⟨h0, F1, G1, h1, h2, hd, hf⟩ := h
  exact ⟨h0, F1, G1, h1, h2, hd, fun b hb => e b (hf b hb)⟩
theorem InoU.chg {w w' : World} {v0 v1 v2 vB vE : Value} {d : ID} {F G : Nat → Prop} (h : InoU w v0 v1 v2 vB vE d F) (hc : Chg G w w') (hd : ∀ b, F b → ¬ G b) : InoU w' v0 v1 v2 vB vE d F := h.keep fun b hb hlt => hc.block b hlt (hd b hb)
def sizeIno (d : ID) : Nat := d.2.2.2.1.length + sizeN d.2.2.2.2
def spanIno (d : ID) : Nat := d.2.2.2.1.length + 2 * d.2.2.2.2.length
theorem spanIno_le (d : ID) : spanIno d ≤ 2 * sizeIno d := by unfold spanIno sizeIno sizeN; omega
end Go.Proofs.YtlohgnidbkechaaGreatDoor

namespace Go.Proofs.YtlohgnidbkechaaGreatDoor
open Go.RowKit
set_option maxRecDepth 100000

def id0 : ID := (0, 0, 0, [], [])
/-- The cells of a row of inodes. -/
def inCell (ds : List ID) (u : Nat → Value × Value) (j : Nat) : Value :=
  if j % 5 = 0 then .int .i64 (ds[j / 5]?.getD id0).1 else if j % 5 = 1 then .int .i64 (ds[j / 5]?.getD id0).2.1 else if j % 5 = 2 then .int .i64 (ds[j / 5]?.getD id0).2.2.1 else if j % 5 = 3 then (u (j / 5)).1 else (u (j / 5)).2
theorem inCell_0 (ds : List ID) (u : Nat → Value × Value) (k : Nat) : inCell ds u (k * 5) = .int .i64 (ds[k]?.getD id0).1 := by
  unfold inCell; rw [if_pos (by omega), show k * 5 / 5 = k by omega]
theorem inCell_1 (ds : List ID) (u : Nat → Value × Value) (k : Nat) : inCell ds u (k * 5 + 1) = .int .i64 (ds[k]?.getD id0).2.1 := by
  unfold inCell; rw [if_neg (by omega), if_pos (by omega), show (k * 5 + 1) / 5 = k by omega]
theorem inCell_2 (ds : List ID) (u : Nat → Value × Value) (k : Nat) : inCell ds u (k * 5 + 2) = .int .i64 (ds[k]?.getD id0).2.2.1 := by
  unfold inCell; rw [if_neg (by omega), if_neg (by omega), if_pos (by omega), show (k * 5 + 2) / 5 = k by omega]
theorem inCell_3 (ds : List ID) (u : Nat → Value × Value) (k : Nat) : inCell ds u (k * 5 + 3) = (u k).1 := by
  unfold inCell; rw [if_neg (by omega), if_neg (by omega), if_neg (by omega), if_pos (by omega), show (k * 5 + 3) / 5 = k by omega]
theorem inCell_4 (ds : List ID) (u : Nat → Value × Value) (k : Nat) : inCell ds u (k * 5 + 4) = (u k).2 := by
  unfold inCell; rw [if_neg (by omega), if_neg (by omega), if_neg (by omega), if_neg (by omega), show (k * 5 + 4) / 5 = k by omega]

/-- Inode d lies at block b, place o. -/
def InoAt (w : World) (b o : Nat) (d : ID) : Prop :=
  ∃ aB cB aE cE, w.cell? ⟨b, o, none⟩ = some (.int .i64 d.1) ∧ w.cell? ⟨b, o + 1, none⟩ = some (.int .i64 d.2.1) ∧ w.cell? ⟨b, o + 2, none⟩ = some (.int .i64 d.2.2.1) ∧
    w.cell? ⟨b, o + 3, none⟩ = some (.slice aB d.2.2.2.1.length cB) ∧ w.cell? ⟨b, o + 4, none⟩ = some (.slice aE d.2.2.2.2.length cE) ∧
    InoR w (.int .i64 d.1) (.int .i64 d.2.1) (.int .i64 d.2.2.1) (.slice aB d.2.2.2.1.length cB) (.slice aE d.2.2.2.2.length cE) d
theorem InoAt.later {w w' : World} {b o : Nat} {d : ID} (h : InoAt w b o d) (hb : Below w.heap.size w w') : InoAt w' b o d := by
  obtain ⟨aB, cB, aE, cE, h0, h1, h2, h3, h4, h5⟩ := h
  exact ⟨aB, cB, aE, cE, cell_later hb h0, cell_later hb h1, cell_later hb h2, cell_later hb h3, cell_later hb h4, h5.later hb⟩
theorem InoAt.mk' {w : World} {b o : Nat} {d : ID} {vB vE : Value} (h0 : w.cell? ⟨b, o, none⟩ = some (.int .i64 d.1)) (h1 : w.cell? ⟨b, o + 1, none⟩ = some (.int .i64 d.2.1)) (h2 : w.cell? ⟨b, o + 2, none⟩ = some (.int .i64 d.2.2.1)) (h3 : w.cell? ⟨b, o + 3, none⟩ = some vB) (h4 : w.cell? ⟨b, o + 4, none⟩ = some vE)
    (h : InoR w (.int .i64 d.1) (.int .i64 d.2.1) (.int .i64 d.2.2.1) vB vE d) : InoAt w b o d := by
  obtain ⟨aB, cB, eB, _, _⟩ := h.2.1.open'
  obtain ⟨aE, cE, eE, _, _⟩ := h.2.2.open'
  subst eB eE
  exact ⟨aB, cB, aE, cE, h0, h1, h2, h3, h4, h⟩

/-- Where the inodes of a list lie. -/
def AtI (w : World) (a : Option Addr) (n : Nat) (ds : List ID) : Prop :=
  ∀ k, k < n → ∃ b o, a = some ⟨b, o, none⟩ ∧ InoAt w b (o + k * 5) (ds[k]?.getD id0)
theorem AtI.later {w w' : World} {a : Option Addr} {n : Nat} {ds : List ID} (h : AtI w a n ds) (hb : Below w.heap.size w w') : AtI w' a n ds := fun k hk => by
  obtain ⟨b, o, e, h1⟩ := h k hk
  exact ⟨b, o, e, h1.later hb⟩
/-- The slice v reads as the inodes ds. -/
def Inos (w : World) (v : Value) (ds : List ID) : Prop := ∃ a cap, v = .slice a ds.length cap ∧ (ds.length ≤ maxLen ∧ ds.length ≤ cap) ∧ AtI w a ds.length ds
theorem Inos.later {w w' : World} {v : Value} {ds : List ID} (h : Inos w v ds) (hb : Below w.heap.size w w') : Inos w' v ds := by
  obtain ⟨a, cap, h1, h2, h3⟩ := h
  exact ⟨a, cap, h1, h2, h3.later hb⟩
theorem Inos.nil (w : World) (a : Option Addr) (cap : Nat) : Inos w (.slice a 0 cap) [] := ⟨a, cap, rfl, ⟨by simp, by simp⟩, fun k hk => by simp at hk⟩
theorem Inos.open' {w : World} {v : Value} {ds : List ID} (h : Inos w v ds) : ∃ a cap, v = .slice a ds.length cap ∧ (ds.length ≤ maxLen ∧ ds.length ≤ cap) ∧ AtI w a ds.length ds := h

/-- The slice v holds the inodes ds; no two of their lists, nor the outer one, lie in one block. -/
def InosO (w : World) (v : Value) (ds : List ID) (F : Nat → Prop) : Prop :=
  (ds = [] ∧ ∃ a cap, v = .slice a 0 cap) ∨
  (∃ b cap, ∃ u : Nat → Value × Value, ∃ G : Nat → Nat → Prop, F b ∧ (∀ i c, G i c → F c ∧ c ≠ b) ∧ (∀ i j c, i ≠ j → G i c → ¬ G j c) ∧
    v = .slice (some ⟨b, 0, none⟩) ds.length cap ∧ (ds.length ≤ maxLen ∧ ds.length ≤ cap) ∧ OwnRow w b (ds.length * 5) (inCell ds u) ∧
    ∀ i, i < ds.length → InoU w (.int .i64 (ds[i]?.getD id0).1) (.int .i64 (ds[i]?.getD id0).2.1) (.int .i64 (ds[i]?.getD id0).2.2.1) (u i).1 (u i).2 (ds[i]?.getD id0) (G i))
theorem InosO.reads {w : World} {v : Value} {ds : List ID} {F : Nat → Prop} (h : InosO w v ds F) : Inos w v ds := by
  rcases h with ⟨rfl, a, cap, rfl⟩ | ⟨b, cap, u, G, _, _, _, h1, h2, h3, h4⟩
  · exact Inos.nil w a cap
  · refine ⟨_, cap, h1, h2, fun k hk => ⟨b, 0, rfl, ?_⟩⟩
    rw [Nat.zero_add]
    have e0 := h3.cell (i := k * 5) (by omega)
    have e1 := h3.cell (i := k * 5 + 1) (by omega)
    have e2 := h3.cell (i := k * 5 + 2) (by omega)
    have e3 := h3.cell (i := k * 5 + 3) (by omega)
    have e4 := h3.cell (i := k * 5 + 4) (by omega)
    rw [inCell_0] at e0
    rw [inCell_1] at e1
    rw [inCell_2] at e2
    rw [inCell_3] at e3
    rw [inCell_4] at e4
    exact InoAt.mk' e0 e1 e2 e3 e4 (h4 k hk).reads
theorem InosO.keep {w w' : World} {v : Value} {ds : List ID} {F : Nat → Prop} (h : InosO w v ds F) (e : ∀ b, F b → b < w.heap.size → w'.heap[b]? = w.heap[b]?) : InosO w' v ds F := by
  rcases h with h | ⟨b, cap, u, G, hF, hG, hGG, h1, h2, h3, h4⟩
  · exact Or.inl h
  · exact Or.inr ⟨b, cap, u, G, hF, hG, hGG, h1, h2, h3.block (e b hF h3.lt), fun i hi => (h4 i hi).keep fun c hc => e c (hG i c hc).1⟩
theorem InosO.mono {w : World} {v : Value} {ds : List ID} {F F' : Nat → Prop} (h : InosO w v ds F) (e : ∀ b, F b → F' b) : InosO w v ds F' := by
  rcases h with h | ⟨b, cap, u, G, hF, hG, h1⟩
  · exact Or.inl h
  · exact Or.inr ⟨b, cap, u, G, e b hF, fun i c hc => ⟨e c (hG i c hc).1, (hG i c hc).2⟩, h1⟩
theorem InosO.later {w w' : World} {v : Value} {ds : List ID} {F : Nat → Prop} (h : InosO w v ds F) (hb : Below w.heap.size w w') : InosO w' v ds F := h.keep fun b _ hlt => hb.block b hlt
theorem InosO.chg {w w' : World} {v : Value} {ds : List ID} {F G : Nat → Prop} (h : InosO w v ds F) (hc : Chg G w w') (hd : ∀ b, F b → ¬ G b) : InosO w' v ds F := h.keep fun b hb hlt => hc.block b hlt (hd b hb)

/-- How great lists of inodes are, and how far they are marked. -/
def isz (ds : List ID) : List Nat := ds.map sizeIno
theorem isz_length (ds : List ID) : (isz ds).length = ds.length := by simp [isz]
theorem isz_get (ds : List ID) (i : Nat) : (isz ds)[i]?.getD 0 = sizeIno (ds[i]?.getD id0) := by
  unfold isz; rw [List.getElem?_map]; cases ds[i]? <;> rfl
def sizeInos (ds : List ID) : Nat := ds.length + (isz ds).sum
def isp (ds : List ID) : List Nat := ds.map fun d => 3 + spanIno d
theorem isp_length (ds : List ID) : (isp ds).length = ds.length := by simp [isp]
theorem isp_get (ds : List ID) (i : Nat) (h : i < ds.length) : (isp ds)[i]?.getD 0 = 3 + spanIno (ds[i]?.getD id0) := by
  unfold isp; rw [List.getElem?_map, List.getElem?_eq_getElem h]; rfl
def spanInos (ds : List ID) : Nat := (isp ds).sum
theorem spanInos_le (ds : List ID) : spanInos ds ≤ 3 * sizeInos ds := by
  unfold spanInos sizeInos isp isz
  induction ds with
  | nil => simp
  | cons d ds ih =>
    have := spanIno_le d
    simp only [List.map_cons, List.sum_cons, List.length_cons] at ih ⊢
    omega
theorem isz_le (ds : List ID) (k : Nat) : sizeIno (ds[k]?.getD id0) ≤ (isz ds).sum := by
  by_cases h : k < ds.length
  · have h1 := upto_succ (isz ds) k (by rw [isz_length]; exact h)
    rw [isz_get] at h1
    have h2 := upto_le (isz ds) (k + 1)
    omega
  · rw [List.getElem?_eq_none (by omega)]; simp [sizeIno, sizeN, nlens, id0]

/-- The first j inodes stand, inode i in the blocks from s i up to s (i + 1), none below lo. -/
structure BuiltI (w : World) (lo j : Nat) (u : Nat → Value × Value) (f : Nat → ID) (s : Nat → Nat) : Prop where
  lo : lo ≤ s 0
  mono : ∀ i, i < j → s i ≤ s (i + 1)
  hi : s j ≤ w.heap.size
  at' : ∀ i, i < j → InoU w (.int .i64 (f i).1) (.int .i64 (f i).2.1) (.int .i64 (f i).2.2.1) (u i).1 (u i).2 (f i) (fun b => s i ≤ b ∧ b < s (i + 1))
theorem BuiltI.nil {w : World} {lo : Nat} (u : Nat → Value × Value) (f : Nat → ID) (h : lo ≤ w.heap.size) : BuiltI w lo 0 u f (fun _ => w.heap.size) :=
  ⟨h, fun i hi => by omega, Nat.le_refl _, fun i hi => by omega⟩
theorem BuiltI.le {w : World} {lo j : Nat} {u : Nat → Value × Value} {f : Nat → ID} {s : Nat → Nat} (h : BuiltI w lo j u f s) : ∀ i k, i ≤ k → k ≤ j → s i ≤ s k := by
  intro i k hik
  induction k with
  | zero => intro _; have : i = 0 := by omega
            subst this; exact Nat.le_refl _
  | succ k ih =>
    intro hk
    by_cases e : i = k + 1
    · subst e; exact Nat.le_refl _
    · exact Nat.le_trans (ih (by omega) (by omega)) (h.mono k (by omega))
theorem BuiltI.low {w : World} {lo j : Nat} {u : Nat → Value × Value} {f : Nat → ID} {s : Nat → Nat} (h : BuiltI w lo j u f s) (i : Nat) (hi : i ≤ j) : lo ≤ s i := Nat.le_trans h.lo (h.le 0 i (Nat.zero_le _) hi)
theorem BuiltI.keep {w w' : World} {lo j : Nat} {u : Nat → Value × Value} {f : Nat → ID} {s : Nat → Nat} (h : BuiltI w lo j u f s) (hs : w.heap.size ≤ w'.heap.size) (e : ∀ b, lo ≤ b → b < w.heap.size → w'.heap[b]? = w.heap[b]?) : BuiltI w' lo j u f s :=
  ⟨h.lo, h.mono, Nat.le_trans h.hi hs, fun i hi => (h.at' i hi).keep fun b hb hlt => e b (Nat.le_trans (h.low i (by omega)) hb.1) hlt⟩
theorem BuiltI.later {w w' : World} {lo j : Nat} {u : Nat → Value × Value} {f : Nat → ID} {s : Nat → Nat} (h : BuiltI w lo j u f s) (hb : Below w.heap.size w w') : BuiltI w' lo j u f s := h.keep hb.size fun b _ hlt => hb.block b hlt
theorem BuiltI.store {w : World} {lo j : Nat} {u : Nat → Value × Value} {f : Nat → ID} {s : Nat → Nat} (h : BuiltI w lo j u f s) {p : Addr} (hp : p.block < lo) (v : Value) : BuiltI (w.setCell p v) lo j u f s :=
  h.keep (by simp [World.setCell]) fun b hb _ => Below.heap_setCell _ _ _ _ (by omega)
theorem BuiltI.next {w w' : World} {lo j : Nat} {u : Nat → Value × Value} {f : Nat → ID} {s : Nat → Nat} {vB vE : Value} (h : BuiltI w lo j u f s) (hb : Below w.heap.size w w') (hv : InoU w' (.int .i64 (f j).1) (.int .i64 (f j).2.1) (.int .i64 (f j).2.2.1) vB vE (f j) (fresh w w')) :
    BuiltI w' lo (j + 1) (fun i => if i = j then (vB, vE) else u i) f (fun i => if i ≤ j then s i else w'.heap.size) := by
  have h' := h.later hb
  have en : ∀ i : Nat, ¬ i + 1 ≤ i := fun i => by omega
  refine ⟨by simpa using h.lo, fun i hi => ?_, by simp [en], fun i hi => ?_⟩
  · by_cases e : i = j
    · subst e; simp [en]; exact h'.hi
    · simp [show i ≤ j by omega, show i + 1 ≤ j by omega]; exact h.mono i (by omega)
  · by_cases e : i = j
    · subst e
      simp [en]
      exact hv.mono fun b hb => ⟨Nat.le_trans h.hi hb.1, hb.2⟩
    · simp [e, show i ≤ j by omega, show i + 1 ≤ j by omega]
      exact h'.at' i (by omega)
theorem BuiltI.apart {w : World} {lo n : Nat} {u : Nat → Value × Value} {f : Nat → ID} {s : Nat → Nat} (h : BuiltI w lo n u f s) (i j c : Nat) (e : i ≠ j) (h1 : i < n ∧ s i ≤ c ∧ c < s (i + 1)) (h2 : j < n ∧ s j ≤ c ∧ c < s (j + 1)) : False := by
  rcases Nat.lt_or_gt_of_ne e with h3 | h3
  · have := h.le (i + 1) j (by omega) (by omega); omega
  · have := h.le (j + 1) i (by omega) (by omega); omega
theorem BuiltI.inos {w : World} {lo n b cap : Nat} {u : Nat → Value × Value} {s : Nat → Nat} (ds : List ID) (h : BuiltI w lo n u (fun i => ds[i]?.getD id0) s) (hn : ds.length = n) (hm : n ≤ maxLen ∧ n ≤ cap) (hb : b < lo) (hr : OwnRow w b (n * 5) (inCell ds u)) (F : Nat → Prop) (hF : F b) (hF' : ∀ c, lo ≤ c → c < w.heap.size → F c) :
    InosO w (.slice (some ⟨b, 0, none⟩) n cap) ds F := by
  subst hn
  refine Or.inr ⟨b, cap, u, fun i c => i < ds.length ∧ s i ≤ c ∧ c < s (i + 1), hF, fun i c hc => ?_, fun i j c e h1 h2 => h.apart i j c e h1 h2, rfl, hm, hr, fun i hi => ?_⟩
  · have h1 := h.low i (by omega)
    have h2 := h.le (i + 1) ds.length (by omega) (Nat.le_refl _)
    have h3 := h.hi
    exact ⟨hF' c (by omega) (by omega), by omega⟩
  · exact (h.at' i hi).mono fun c hc => ⟨hi, hc⟩

/-- The cells of a row of inodes of which the first j stand. -/
def zeroI (j : Nat) : Value := if j % 5 < 3 then .int .i64 0 else .slice none 0 0
def partI (ds : List ID) (u : Nat → Value × Value) (j c : Nat) : Value := if c < j * 5 then inCell ds u c else zeroI c
theorem partI_next (ds : List ID) (u : Nat → Value × Value) (j c : Nat) (vB vE : Value) :
    (if c = j * 5 + 4 then vE else if c = j * 5 + 3 then vB else if c = j * 5 + 2 then .int .i64 (ds[j]?.getD id0).2.2.1 else if c = j * 5 + 1 then .int .i64 (ds[j]?.getD id0).2.1 else if c = j * 5 then .int .i64 (ds[j]?.getD id0).1 else partI ds u j c) = partI ds (fun i => if i = j then (vB, vE) else u i) (j + 1) c := by
  unfold partI
  by_cases e4 : c = j * 5 + 4
  · subst e4; rw [if_pos rfl, if_pos (by omega), inCell_4]; simp
  · rw [if_neg e4]
    by_cases e3 : c = j * 5 + 3
    · subst e3; rw [if_pos rfl, if_pos (by omega), inCell_3]; simp
    · rw [if_neg e3]
      by_cases e2 : c = j * 5 + 2
      · subst e2; rw [if_pos rfl, if_pos (by omega), inCell_2]
      · rw [if_neg e2]
        by_cases e1 : c = j * 5 + 1
        · subst e1; rw [if_pos rfl, if_pos (by omega), inCell_1]
        · rw [if_neg e1]
          by_cases e0 : c = j * 5
          · subst e0; rw [if_pos rfl, if_pos (by omega), inCell_0]
          · rw [if_neg e0]
            by_cases e : c < j * 5
            · rw [if_pos e, if_pos (by omega)]
              unfold inCell
              dsimp only
              rw [if_neg (show ¬ c / 5 = j by omega)]
            · rw [if_neg e, if_neg (by omega)]

/-- 'make' of n inodes. -/
theorem run_make_five {P : Program} (t e : TypeId) (x0 x1 x2 x3 x4 : Value) (bytes : Nat) (ht : P.underlying t = some (.slice e)) (hinfo : (P.info? e).map (fun i => (i.zero, i.size, i.bytes)) = some (some (.agg #[x0, x1, x2, x3, x4]), 5, bytes)) (hz : (Value.agg #[x0, x1, x2, x3, x4]).cells = #[x0, x1, x2, x3, x4])
    (kl kc : IntKind) (n : Nat) (hbytes : bytes * n ≤ 281474976710656) (h63 : n ≤ 9223372036854775807) (w : World) :
    (Instr.makeSlice t (.int kl (n : Int)) (.int kc (n : Int))).run P w = .ok (.slice (some ⟨w.heap.size, 0, none⟩) n n) (w.alloc (.cells (madeCells #[x0, x1, x2, x3, x4] (n * 5)) e)) := by
  obtain ⟨i, hi, hzz⟩ := Option.map_eq_some_iff.1 hinfo
  simp only [Prod.mk.injEq] at hzz
  obtain ⟨h1, h2, h3⟩ := hzz
  have hb' : (i.bytes : Int) * (n : Int) ≤ 281474976710656 := by
    have h : ((i.bytes * n : Nat) : Int) ≤ 281474976710656 := by rw [h3]; omega
    rwa [Int.natCast_mul] at h
  have hr := run_make (P := P) w t e i _ ht hi h1 kl kc n n (by omega) (Int.le_refl _) hb' (by omega)
  simp only [Int.toNat_natCast, h2, hz] at hr
  exact hr
theorem OwnRow.madeFive (w : World) (n : Nat) (t : TypeId) : OwnRow (w.alloc (.cells (madeCells #[.int .i64 0, .int .i64 0, .int .i64 0, .slice none 0 0, .slice none 0 0] (n * 5)) t)) w.heap.size (n * 5) zeroI := by
  refine ⟨_, t, Go.Deep.blk_alloc_new _ _, by rw [size_madeCells]; exact Nat.le_refl _, fun i hi => ?_⟩
  unfold madeCells zeroI
  rw [Array.getElem?_map]
  have h1 : (Array.range (n * 5))[i]? = some i := by simp [hi]
  rw [h1]
  have : i % 5 = 0 ∨ i % 5 = 1 ∨ i % 5 = 2 ∨ i % 5 = 3 ∨ i % 5 = 4 := by omega
  rcases this with h | h | h | h | h <;> simp [h]
end Go.Proofs.YtlohgnidbkechaaGreatDoor

namespace Go.Proofs.YtlohgnidbkechaaGreatDoor
open Go.RowKit
set_option maxRecDepth 100000

theorem Tryz.infoEnt : (Tryz.prog.info? 97).map (fun i => (i.zero, i.size, i.bytes)) = some (some (.agg #[.string ⟨#[]⟩, .int .i64 0]), 2, 24) := by kernel_rfl

set_option maxHeartbeats 400000 in
theorem szEnt_any (w : World) (s : ByteArray) (z left : Int) (hs : s.size ≤ maxLen) (h0 : 0 ≤ left) (h1 : left ≤ 1048576) :
    Calls Tryz.prog 106 #[.agg #[.string s, .int .i64 z], .int .i64 left] w fun e w' => e = .returned (.int .i64 (szf left s.size)) ∧ Below w.heap.size w w' := by
  unfold maxLen at hs
  by_cases h : left < (s.size : Int)
  · rw [szf_no h]
    have h' : left - (s.size : Int) < 0 := by omega
    go_enter Tryz.func106, Tryz.ntmps106
    go_wp2
    go_ret
    exact ⟨rfl, later1 _ _⟩
  · rw [szf_yes h]
    have h' : ¬ left - (s.size : Int) < 0 := by omega
    go_enter Tryz.func106, Tryz.ntmps106
    go_wp2
    go_ret
    exact ⟨rfl, later1 _ _⟩

set_option maxHeartbeats 800000 in
theorem szEnts_walk (w : World) (a : Option Addr) (n cap : Nat) (es : List EN) (left : Int) (h0 : 0 ≤ left) (h1 : left ≤ 1048576) (hl : es.length = n) (hn : n ≤ maxLen) (hz : ∀ k : Nat, (es[k]?.getD en0).1.size ≤ maxLen) (hc : AtN w a n es) :
    Calls Tryz.prog 82 #[.slice a n cap, .int .i64 left] w fun e w' => e = .returned (.int .i64 (szf left (sizeN es))) ∧ Below w.heap.size w w' := by
  have HC : Hid (AtN w a n es) := hc
  have HZ : Hid (∀ k : Nat, (es[k]?.getD en0).1.size ≤ maxLen) := hz
  have HS : Hid (sizeN es = n + (nlens es).sum) := by unfold Hid sizeN; rw [hl]
  have HL : Hid (es.length = n) := hl
  unfold maxLen at hn
  clear hc hz hl
  by_cases h : left < (n : Int)
  · rw [szf_no (by rw [HS.out]; omega)]
    have h' : left - (n : Int) < 0 := by omega
    go_enter Tryz.func82, Tryz.ntmps82
    go_wp2
    go_ret
    exact ⟨rfl, Below.refl _ _⟩
  · have h' : ¬ left - (n : Int) < 0 := by omega
    go_enter Tryz.func82, Tryz.ntmps82
    go_wp2
    go_loopw [1, 5] (fun q i wr => ∃ j : Nat, j ≤ n ∧ i = .int .i64 j ∧ q = .int .i64 (left - (n : Int) - (upto (nlens es) j : Nat)) ∧ 0 ≤ left - (n : Int) - (upto (nlens es) j : Nat) ∧ Below w.heap.size w wr) (fun _ i _ => n - (intOf i).toNat)
    case atStart => exact ⟨0, Nat.zero_le _, rfl, by rw [upto_zero]; simp, by rw [upto_zero]; simp; omega, Below.refl _ _⟩
    case round =>
      obtain ⟨j, hj, rfl, rfl, hge, hbl⟩ := hrel
      have HBL : Hid (Below w.heap.size w wr) := hbl
      clear hbl
      by_cases hlt : j < n
      · obtain ⟨b, off, rfl, c0, c1⟩ := HC.out j hlt
        replace c0 := cell_later HBL.out c0
        replace c1 := cell_later HBL.out c1
        have HNX : Hid (upto (nlens es) (j + 1) = upto (nlens es) j + (es[j]?.getD en0).1.size) := by unfold Hid; rw [upto_succ _ _ (by rw [nlens_length, HL.out]; exact hlt), nlens_get]
        have HSZ : Hid ((es[j]?.getD en0).1.size ≤ maxLen) := HZ.out j
        have HUP : Hid (upto (nlens es) (j + 1) ≤ (nlens es).sum) := upto_le _ _
        generalize hL : left - (n : Int) - ((upto (nlens es) j : Nat) : Int) = L at *
        have HLL : Hid (left - (n : Int) - ((upto (nlens es) j : Nat) : Int) = L) := hL
        have hL1 : L ≤ 1048576 := by omega
        clear hL
        generalize (es[j]?.getD en0).1 = s at *
        generalize (es[j]?.getD en0).2 = z at *
        by_cases hs : L < (s.size : Int)
        · have HR : Hid (szf L s.size = -1) := szf_no hs
          have HM : Hid (szf left (sizeN es) = -1) := szf_no (by rw [HS.out]; have := HNX.out; have := HUP.out; have := HLL.out; omega)
          clear hs
          go_wp2_with fail
          refine (szEnt_any _ s z L HSZ.out hge hL1).mono ?_
          rw [HR.out]
          rintro e w1 ⟨rfl, hb1⟩
          have HB1 : Hid (Below w.heap.size w w1) := HBL.out.trans (hb1.mono HBL.out.size)
          clear hb1
          go_wp2
          go_ret
          exact ⟨ret_int HM.out.symm, HB1.out⟩
        · have HR : Hid (szf L s.size = L - (s.size : Int)) := szf_yes hs
          have hs' : ¬ L - (s.size : Int) < 0 := by omega
          have HE : Hid (left - (n : Int) - ((upto (nlens es) (j + 1) : Nat) : Int) = L - (s.size : Int)) := by unfold Hid; rw [HNX.out]; have := HLL.out; omega
          clear hs
          go_wp2_with fail
          refine (szEnt_any _ s z L HSZ.out hge hL1).mono ?_
          rw [HR.out]
          rintro e w1 ⟨rfl, hb1⟩
          have HB1 : Hid (Below w.heap.size w w1) := HBL.out.trans (hb1.mono HBL.out.size)
          clear hb1
          go_wp2
          go_roundw
          case rel => exact ⟨j + 1, by omega, by go_num, by rw [HE.out], by rw [HE.out]; omega, HB1.out⟩
          case measure => simp [intOf]; omega
      · have e : j = n := by omega
        have HE : Hid (left - (n : Int) - ((upto (nlens es) j : Nat) : Int) = szf left (sizeN es)) := by
          unfold Hid
          have h2 : upto (nlens es) j = (nlens es).sum := by rw [e, ← HL.out, ← nlens_length]; exact upto_all _
          rw [szf_yes (by rw [HS.out]; omega), HS.out]; omega
        go_wp2
        go_ret
        exact ⟨ret_int HE.out, HBL.out⟩
theorem szEnts_any {w : World} {v : Value} {es : List EN} (h : Ents w v es) (left : Int) (h0 : 0 ≤ left) (h1 : left ≤ 1048576) :
    Calls Tryz.prog 82 #[v, .int .i64 left] w fun e w' => e = .returned (.int .i64 (szf left (sizeN es))) ∧ Below w.heap.size w w' := by
  obtain ⟨a, cap, rfl, hm, hz, hc⟩ := h.open'
  exact szEnts_walk w a _ cap es left h0 h1 rfl hm hz hc

theorem toEnt_any (w : World) (s : ByteArray) (z : Int) :
    Calls Tryz.prog 109 #[.agg #[.string s, .int .i64 z]] w fun e w' => e = .returned (.agg #[.string s, .int .i64 z]) ∧ Below w.heap.size w w' := by
  go_enter Tryz.func109, Tryz.ntmps109
  go_wp2
  exact bodyPost_ret (v := .agg #[.string s, .int .i64 z]) (by simp [results, Tryz.results109, go_sem]) rfl ⟨rfl, later3 _ _ _ _⟩

set_option maxHeartbeats 800000 in
theorem toEnts_walk (w : World) (a : Option Addr) (cap n : Nat) (es : List EN) (hn : n ≤ 1048576) (hc : AtN w a n es) :
    Calls Tryz.prog 89 #[.slice a n cap] w fun e w' => e = .returned (.slice (some ⟨w.heap.size, 0, none⟩) n n) ∧ Below w.heap.size w w' ∧ OwnRow w' w.heap.size (n * 2) (enCell es) := by
  have hmk := fun w => run_make_pair (P := Tryz.prog) 53 97 (.string ⟨#[]⟩) (.int .i64 0) 24 Tryz.underlying53 Tryz.infoEnt rfl .i64 .i64 n (by omega) (by omega) w
  have HC : Hid (AtN w a n es) := hc
  clear hc
  go_enter Tryz.func89, Tryz.ntmps89
  go_wp2
  clear hmk
  go_loopw [4] (fun i wr => ∃ j : Nat, j ≤ n ∧ i = .int .i64 j ∧ Below w.heap.size w wr ∧ OwnRow wr w.heap.size (n * 2) (partN es j)) (fun i _ => n - (intOf i).toNat)
  case atStart => exact ⟨0, Nat.zero_le _, rfl, later1 _ _, (OwnRow.madePair w (.string ⟨#[]⟩) (.int .i64 0) n 97).congr fun i _ => by simp [partN]⟩
  case round =>
    obtain ⟨j, hj, rfl, hbl, hrow⟩ := hrel
    by_cases hlt : j < n
    · obtain ⟨b, off, rfl, c0, c1⟩ := HC.out j hlt
      replace c0 := cell_later hbl c0
      replace c1 := cell_later hbl c1
      have HBL : Hid (Below w.heap.size w wr) := hbl
      have HROW : Hid (OwnRow wr w.heap.size (n * 2) (partN es j)) := hrow
      have NX : ∀ c, (if c = j * 2 + 1 then .int .i64 (es[j]?.getD en0).2 else (if c = j * 2 then .string (es[j]?.getD en0).1 else partN es j c)) = partN es (j + 1) c := partN_next es j
      generalize (es[j]?.getD en0).1 = x at c0 NX
      generalize (es[j]?.getD en0).2 = y at c1 NX
      have HNX : Hid (∀ c, (if c = j * 2 + 1 then .int .i64 y else (if c = j * 2 then .string x else partN es j c)) = partN es (j + 1) c) := NX
      clear hbl hrow NX
      go_wp2_with fail
      refine (toEnt_any _ x y).mono ?_
      rintro e w1 ⟨rfl, hb1⟩
      have HB1 : Hid (Below wr.heap.size wr w1) := hb1
      have HROW1 : Hid (OwnRow w1 w.heap.size (n * 2) (partN es j)) := HROW.out.block (hb1.block _ HROW.out.lt)
      have d0 : w1.cell? ⟨w.heap.size, j * 2, none⟩ = some (.string ⟨#[]⟩) := by rw [HROW1.out.cell (by omega)]; simp [partN, pairCell]
      have d1 : w1.cell? ⟨w.heap.size, j * 2 + 1, none⟩ = some (.int .i64 0) := by rw [HROW1.out.cell (by omega)]; unfold partN pairCell; rw [if_neg (by omega), if_neg (by omega)]
      have f0 := HROW1.out.frozen (j * 2)
      have f1 := HROW1.out.frozen (j * 2 + 1)
      clear hb1
      go_wp2
      go_roundw
      case rel =>
        refine ⟨j + 1, by omega, by go_num, ((HBL.out.trans (HB1.out.mono HBL.out.size)).setCell (Nat.le_refl _) _).setCell (Nat.le_refl _) _, ((HROW1.out.set (j * 2) _).set (j * 2 + 1) _).congr fun c _ => HNX.out c⟩
      case measure => simp [intOf]; omega
    · go_wp2
      go_ret
      have e : j = n := by omega
      subst e
      exact ⟨rfl, hbl, hrow.congr fun i hi => by simp [partN, hi]⟩
theorem toEntsU {w : World} {v : Value} {es : List EN} (h : Ents w v es) (hn : es.length ≤ 1048576) :
    Calls Tryz.prog 89 #[v] w fun e w' => ∃ a n c, e = .returned (.slice a n c) ∧ Below w.heap.size w w' ∧ EntsO w' (.slice a n c) es (fresh w w') := by
  obtain ⟨a, cap, rfl, hm, hz, hc⟩ := h.open'
  exact (toEnts_walk w a cap es.length es hn hc).mono fun e w' ⟨he, hb, hr⟩ => ⟨_, _, _, he, hb, Or.inr ⟨w.heap.size, _, ⟨Nat.le_refl _, hr.lt⟩, rfl, ⟨hm, Nat.le_refl _, hz⟩, hr⟩⟩

theorem eqEnt_true (w : World) (s : ByteArray) (z : Int) :
    Calls Tryz.prog 114 #[.agg #[.string s, .int .i64 z], .agg #[.string s, .int .i64 z]] w fun e w' => e = .returned (.bool true) ∧ Below w.heap.size w w' := by
  have h0 : (s.toList != s.toList) = false := by simp
  have h2 : (z != z) = false := by simp
  go_enter Tryz.func114, Tryz.ntmps114
  go_wp2
  go_ret
  exact ⟨rfl, later2 _ _ _⟩

set_option maxHeartbeats 800000 in
theorem eqEnts_walk (w : World) (a a' : Option Addr) (cap cap' n : Nat) (es : List EN) (hn : n ≤ maxLen) (hc : AtN w a n es) (hc' : AtN w a' n es) :
    Calls Tryz.prog 98 #[.slice a n cap, .slice a' n cap'] w fun e w' => e = .returned (.bool true) ∧ Below w.heap.size w w' := by
  unfold maxLen at hn
  have HC : Hid (AtN w a n es) := hc
  have HC' : Hid (AtN w a' n es) := hc'
  clear hc hc'
  go_enter Tryz.func98, Tryz.ntmps98
  go_wp2
  go_loopw [5] (fun i wr => ∃ k : Nat, k ≤ n ∧ i = .int .i64 k ∧ Below w.heap.size w wr) (fun i _ => n - (intOf i).toNat)
  case atStart => exact ⟨0, Nat.zero_le _, rfl, Below.refl _ _⟩
  case round =>
    obtain ⟨j, hj, rfl, hbl⟩ := hrel
    by_cases hlt : j < n
    · obtain ⟨b, off, rfl, c0, c1⟩ := HC.out j hlt
      obtain ⟨b', off', rfl, d0, d1⟩ := HC'.out j hlt
      replace c0 := cell_later hbl c0
      replace c1 := cell_later hbl c1
      replace d0 := cell_later hbl d0
      replace d1 := cell_later hbl d1
      generalize (es[j]?.getD en0).1 = x at c0 d0
      generalize (es[j]?.getD en0).2 = y at c1 d1
      have HBL : Hid (Below w.heap.size w wr) := hbl
      clear hbl
      go_wp2_with fail
      go_region_with ((go_at_call 114; refine (eqEnt_true _ x y).mono ?_; rintro e w' ⟨rfl, hb2⟩))
      all_goals
        go_wp2
        go_roundw
        case rel => exact ⟨j + 1, by omega, by go_num, (HBL.out.drew).trans (hb2.mono HBL.out.size)⟩
        case measure => simp [intOf]; omega
    · go_wp2
      go_ret
      exact ⟨rfl, hbl⟩
theorem eqEntsU {w : World} {v v' : Value} {es : List EN} (h : Ents w v es) (h' : Ents w v' es) : Calls Tryz.prog 98 #[v, v'] w fun e w' => e = .returned (.bool true) ∧ Below w.heap.size w w' := by
  obtain ⟨a, cap, rfl, hm, _, hc⟩ := h.open'
  obtain ⟨a', cap', rfl, _, hc'⟩ := h'
  exact eqEnts_walk w a a' cap cap' es.length es hm hc hc'
end Go.Proofs.YtlohgnidbkechaaGreatDoor
