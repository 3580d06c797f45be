/- Directories: where a name stands; IsEmptyDir and LookName, of the program and of the specification. Directories: LookName, of the program and of the specification. strings.Builder: a byte and a text written. The library's iterator over a list of texts. slices.Values, and a builder's text. The specification's l3Split. The specification's l3Split, whole. The last name of a path: the specification's side. Joining names to a path: the specification's side. The program's JoinPath. The last name of a path: both sides. Lists of texts as arguments; the specification's JoinPath; the law of JoinPath. Whether a path lies below another one: the specification's side. Splitting a path: the contracts of the law. Lists of texts in own memory; answers that hold one, in the one form. Directories: NamesIn, of the program and of the specification. Directories: what stays right where an entry goes; how great right inodes are. No program is named here. PathsOf: the paths of all that is below a place. No program is named here. The path ahead of the last name, and joining: the specification's side. The last name of a path: the program's side, and the law. ParentOf: the program's side, and the law. Paths and their names: joined again, cut again. No program is named here. Paths that are told are right, and where they lead. Pure. -/
import Derived.Test.YtlohgnidbkechaaGreatDoorM14
import Derived.BigQuiet
import Derived.Test.YtlohgnidbkechaaGreatDoorM02
import Derived.Lib.Builder
import Derived.Lib.AppendStr
import Derived.Laws.Externs
import Derived.Test.YtlohgnidbkechaaGreatDoorM03
import Derived.Lib.UnsafeStr
import Derived.Shelf.RegionOpenPlain
import Derived.Test.YtlohgnidbkechaaGreatDoorM01
import Derived.Test.YtlohgnidbkechaaGreatDoorM00
import Derived.Deep.RegionLaw
import Derived.Test.YtlohgnidbkechaaGreatDoorM11
namespace Go.Proofs.YtlohgnidbkechaaGreatDoor
open Go.RowKit
set_option maxRecDepth 100000

/-- Where a name stands among entries, or -1. -/
def at8 (es : List EN) (s : ByteArray) : Int := if idxE es s < es.length then ((idxE es s : Nat) : Int) else -1
set_option maxHeartbeats 1600000 in
theorem l8At_any (w : World) (a : Option Addr) (n c : Nat) (es : List EN) (s : ByteArray) (hn : es.length = n) (hm : n ≤ 4294967296) (hat : AtN w a n es) :
    Calls Tryz.prog 65 #[.slice a n c, .string s] w fun e w' => e = .returned (.int .i64 (at8 es s)) ∧ w' = w := by
  have HAT : Hid (AtN w a n es) := hat
  have HN : Hid (es.length = n) := hn
  clear hat hn
  go_enter Tryz.func65, Tryz.ntmps65
  go_wp2
  go_loop [5] (fun i => ∃ k : Nat, k ≤ n ∧ i = .int .i64 k ∧ ∀ j, j < k → eqE s (es[j]?.getD en0) = false) (fun i => n - (intOf i).toNat)
  case atStart => exact ⟨0, Nat.zero_le _, rfl, fun j hj => by omega⟩
  case round =>
    obtain ⟨k, hk, rfl, hz⟩ := hrel
    have HZ : Hid (∀ j, j < k → eqE s (es[j]?.getD en0) = false) := hz
    clear hz
    by_cases hlt : k < n
    · obtain ⟨b, off, rfl, c0, c1⟩ := HAT.out k hlt
      cases hge : eqE s (es[k]?.getD en0) with
      | false =>
        have HNX : Hid (∀ j, j < k + 1 → eqE s (es[j]?.getD en0) = false) := fun j hj => by
          by_cases e : j = k
          · rw [e]; exact hge
          · exact HZ.out j (by omega)
        have hlt2 : ((es[k]?.getD en0).1.toList == s.toList) = false := hge
        clear hge HZ c1
        generalize (es[k]?.getD en0).1 = x at *
        go_wp2
        go_round
        case rel => exact ⟨k + 1, by omega, by go_num, HNX.out⟩
        case measure => simp [intOf]; omega
      | true =>
        have HP : Hid (at8 es s = (k : Int)) := by
          have h1 : idxE es s = k := findIdx_is (by rw [HN.out]; exact hlt) hge HZ.out
          unfold Hid at8
          rw [h1, if_pos (by rw [HN.out]; exact hlt)]
        have hlt2 : ((es[k]?.getD en0).1.toList == s.toList) = true := hge
        clear hge HZ c1
        generalize (es[k]?.getD en0).1 = x at *
        go_wp2
        go_ret
        exact ⟨ret_int HP.out.symm, rfl⟩
    · have HP : Hid (at8 es s = -1) := by
        have h1 : idxE es s = es.length := findIdx_no (p := eqE s) (es := es) fun j hj => HZ.out j (by rw [HN.out] at hj; omega)
        unfold Hid at8
        rw [h1, if_neg (by omega)]
      clear HZ
      go_wp2
      go_ret
      exact ⟨ret_int HP.out.symm, rfl⟩

/-- What lies at the place of a directory: its entries. -/
theorem FsR.dir {w : World} {a1 : Option Addr} {n1 c1 : Nat} {v2 : Value} {d : FD} (h : FsR w (.slice a1 n1 c1) v2 d) {j : Nat} (hj : j < d.1.length) : ∃ b0 o0 aE cE, a1 = some ⟨b0, o0, none⟩ ∧ n1 = d.1.length ∧ w.cell? ⟨b0, o0 + j * 5 + 4, none⟩ = some (.slice aE (entA d j).length cE) ∧ Ents w (.slice aE (entA d j).length cE) (entA d j) := by
  obtain ⟨_, _, e1, _, hAt⟩ := h.1.open'
  simp only [Value.slice.injEq] at e1
  obtain ⟨rfl, rfl, rfl⟩ := e1
  obtain ⟨b0, o0, rfl, hI⟩ := hAt j hj
  obtain ⟨aB, cB, aE, cE, _, _, _, _, k4, hR⟩ := hI
  exact ⟨b0, o0, aE, cE, rfl, rfl, k4, hR.2.2⟩

end Go.Proofs.YtlohgnidbkechaaGreatDoor

namespace Go.Proofs.YtlohgnidbkechaaGreatDoor
open Go.RowKit
set_option maxRecDepth 100000

theorem dirN_in {d : FD} {x : Int} {s : ByteArray} (h : dirN d x s = 0) : dirQ d x = 0 := by
  unfold dirN at h
  by_cases e : dirQ d x = 0
  · exact e
  · rw [if_neg e] at h; exact absurd h e
theorem dirN_name {d : FD} {x : Int} {s : ByteArray} (h : dirN d x s = 0) : nameF s = 0 := by
  have h' := dirN_in h
  unfold dirN at h
  rw [if_pos h'] at h
  exact h
end Go.Proofs.YtlohgnidbkechaaGreatDoor

namespace Go.Proofs.YtlohgnidbkechaaGreatDoor
open Go.RowKit
set_option maxRecDepth 100000

theorem Tryz.infoByte : (Tryz.prog.info? 5).map (fun i => (i.zero, i.size, i.bytes)) = some (some (.int .u8 0), 1, 1) := by kernel_rfl
end Go.Proofs.YtlohgnidbkechaaGreatDoor

namespace Go.Proofs.YtlohgnidbkechaaGreatDoor
open Go.RowKit
set_option maxRecDepth 100000

theorem Tryz.cellsByte : Tryz.prog.cellsOf 5 = 1 := by kernel_rfl
end Go.Proofs.YtlohgnidbkechaaGreatDoor

namespace Go.Proofs.YtlohgnidbkechaaGreatDoor
open Go.RowKit
set_option maxRecDepth 100000

theorem sufB_at {l : List UInt8} {m : Nat} (h : l.length = m + 1) : sufB l = (l[m]?.getD 0 == 47) := by
  unfold sufB
  rw [List.getLast?_eq_getElem?, h, Nat.add_sub_cancel, List.getElem?_eq_getElem (by omega)]
  rfl
theorem preB_at {l : List UInt8} (h : 0 < l.length) : preB l = (l[0]?.getD 0 == 47) := by
  cases l with
  | nil => simp at h
  | cons b t => rfl
theorem byte_eq (b : UInt8) : ((b.toNat : Int) == 47) = (b == 47) := by
  by_cases h : b = 47
  · subst h; rfl
  · have hne : b.toNat ≠ 47 := fun e => h (UInt8.toNat_inj.1 (by rw [e]; rfl))
    have h1 : (b == 47) = false := by simpa using h
    rw [h1]
    simp; omega
theorem namesL_cut {p : List UInt8} (h0 : topB p = false) (hp : 0 < p.length) : namesL p = cutB (p.drop 1) := by
  unfold namesL
  rw [if_neg (by simpa [topB] using h0)]
  cases p with
  | nil => simp at hp
  | cons b t => rfl
/-- Where the specification's split sees a fault of the path's form. -/
def formBad (p : List UInt8) : Prop := p.length = 0 ∨ ¬ p[0]?.getD 0 = 47 ∨ p[p.length - 1]?.getD 0 = 47
theorem pathF_form {p : List UInt8} (h30 : ¬ 30 < p.length) (ht : topB p = false) (hb : formBad p) : pathF p = 5 := by
  unfold pathF
  rw [if_neg h30]
  rcases Nat.eq_zero_or_pos p.length with h0 | h0
  · have : p = [] := List.length_eq_zero_iff.1 h0
    subst this; rfl
  · rcases hb with hb | hb | hb
    · omega
    · rw [preB_at h0, if_neg (by simpa using hb)]
    · have hs : sufB p = true := by rw [sufB_at (m := p.length - 1) (by omega), hb]; rfl
      split
      · rw [if_pos ⟨hs, ht⟩]
      · rfl
theorem pathF_good {p : List UInt8} (h30 : ¬ 30 < p.length) (ht : topB p = false) (hb : ¬ formBad p) : pathF p = namesC (cutB (p.drop 1)) := by
  unfold formBad at hb
  have h0 : 0 < p.length := by omega
  have h1 : p[0]?.getD 0 = 47 := by
    by_cases e : p[0]?.getD 0 = 47
    · exact e
    · exact absurd (Or.inr (Or.inl e)) hb
  have h2 : ¬ p[p.length - 1]?.getD 0 = 47 := fun e => hb (Or.inr (Or.inr e))
  unfold pathF namesC
  have hs : sufB p = false := by rw [sufB_at (m := p.length - 1) (by omega)]; simpa using h2
  have hq : preB p = true := by rw [preB_at h0, h1]; rfl
  rw [if_neg h30, if_pos hq, if_neg (by rw [hs]; simp), namesL_cut ht h0]

end Go.Proofs.YtlohgnidbkechaaGreatDoor

namespace Go.Proofs.YtlohgnidbkechaaGreatDoor
open Go.RowKit
set_option maxRecDepth 100000

theorem cutB_mem (t : List UInt8) (k : Nat) : ((cutB t)[k]?.getD []).length ≤ t.length := by
  induction t generalizing k with
  | nil => cases k <;> simp [cutB]
  | cons b l ih =>
    simp only [cutB]
    split
    · cases k with
      | zero => simp
      | succ k => have := ih k; simp at this ⊢; omega
    · cases h : cutB l with
      | nil => cases k <;> simp [cutHead]
      | cons x y =>
        have h1 := ih k
        rw [h] at h1
        cases k with
        | zero => simp [cutHead] at h1 ⊢; omega
        | succ k => simp [cutHead] at h1 ⊢; omega

end Go.Proofs.YtlohgnidbkechaaGreatDoor

namespace Go.Proofs.YtlohgnidbkechaaGreatDoor
open Go.RowKit
set_option maxRecDepth 100000

def lastC (p : List UInt8) : Int := if pathF p = 0 then (if (namesL p).length = 0 then 4 else 0) else pathF p
def lastT (p : List UInt8) : List UInt8 := if pathF p = 0 then (namesL p)[(namesL p).length - 1]?.getD [] else []

theorem ownsRow_cap {w : World} {B : Nat} {e : TypeId} {a : Option Addr} {n m c : Nat} {xs : List Value} (h : w.ownsRow B e 1 (.slice a n c) m xs) : n ≤ c := by
  rcases h.2 with ⟨h1, _⟩ | ⟨g, cap, cur, h1, _, _, h2, _⟩ <;> simp only [Value.slice.injEq] at h1 <;> omega
theorem slice_takeT (a : Option Addr) (n c j : Nat) (hj : j ≤ c) :
    ∃ A C, (∀ W : World, (Instr.slice 62 (.slice a n c) none (some (.int .i64 (j : Int))) none).run Tryz.prog W = .ok (.slice A j C) W) ∧ ∀ (W : World) (xs : List (List UInt8)), j ≤ n → AtT W a n xs → AtT W A j xs := by
  obtain ⟨i, hi, _⟩ := info_parts Tryz.infoStr
  refine ⟨if c = 0 then a else a.map (·.add (0 * 1)), c - 0, fun W => ?_, fun W xs hjn h => ?_⟩
  · simp [Instr.slice, Instr.sliceBounds, Instr.sliceBound, asIntOf, run_underlying Tryz.underlying62, sizeOf, typeInfo, hi, hj]
  · by_cases hc : c = 0
    · intro k hk; omega
    · rw [if_neg hc]
      intro k hk
      obtain ⟨b, off, e, r⟩ := h k (by omega)
      subst e
      exact ⟨b, off, by simp [Addr.add], r⟩

end Go.Proofs.YtlohgnidbkechaaGreatDoor

namespace Go.Proofs.YtlohgnidbkechaaGreatDoor
open Go.RowKit
set_option maxRecDepth 100000

def joinL (xs : List (List UInt8)) : List UInt8 := xs.flatMap (47 :: ·)
def joinT (xs : List (List UInt8)) : List UInt8 := if joinL xs = [] then [47] else joinL xs
theorem joinL_step {xs : List (List UInt8)} {j : Nat} (h : j < xs.length) : joinL (xs.take (j + 1)) = joinL (xs.take j) ++ (47 :: xs[j]?.getD []) := by
  unfold joinL
  rw [List.take_add_one, List.flatMap_append, List.getElem?_eq_getElem h]
  simp
theorem joinL_len {xs : List (List UInt8)} {j B : Nat} (h : ∀ k : Nat, (xs[k]?.getD []).length ≤ B) (hj : j ≤ xs.length) : (joinL (xs.take j)).length ≤ j * (B + 1) := by
  induction j with
  | zero => simp [joinL]
  | succ j ih =>
    rw [joinL_step (by omega), List.length_append, List.length_cons, Nat.succ_mul]
    have := ih (by omega)
    have := h j
    omega

end Go.Proofs.YtlohgnidbkechaaGreatDoor

namespace Go.Proofs.YtlohgnidbkechaaGreatDoor
open Go.RowKit
set_option maxRecDepth 100000

theorem str_bytes (x : List UInt8) : Lib.strCells (mkB x) = Lib.byteCells x := by unfold Lib.strCells Lib.byteCells; rw [mkB_list]
theorem join_cells {xs : List (List UInt8)} {j : Nat} (h : j < xs.length) : Lib.byteCells (joinL (xs.take j)) ++ [.int .u8 47] ++ Lib.strCells (mkB (xs[j]?.getD [])) = Lib.byteCells (joinL (xs.take (j + 1))) := by
  rw [joinL_step h, str_bytes, Lib.byteCells_append]
  simp [Lib.byteCells]

end Go.Proofs.YtlohgnidbkechaaGreatDoor

namespace Go.Proofs.YtlohgnidbkechaaGreatDoor
open Go.RowKit
set_option maxRecDepth 100000

theorem lastT_bad {p : List UInt8} (h : ¬ lastC p = 0) : lastT p = [] := by
  unfold lastC at h
  unfold lastT
  by_cases h0 : pathF p = 0
  · rw [if_pos h0] at h ⊢
    have h1 : (namesL p).length = 0 := by
      by_cases e : (namesL p).length = 0
      · exact e
      · rw [if_neg e] at h; omega
    have : namesL p = [] := List.length_eq_zero_iff.1 h1
    rw [this]; rfl
  · rw [if_neg h0]

theorem eqTextResultU (w : World) (c : Int) (s : ByteArray) :
    Calls Tryz.prog 11 #[.agg #[.int .i64 c, .string s], .agg #[.int .i64 c, .string s]] w fun e w' => e = .returned (.bool true) ∧ Below w.heap.size w w' := by
  have h0 : (c != c) = false := by simp
  go_enter Tryz.func11, Tryz.ntmps11
  go_wp2
  go_ret
  exact ⟨rfl, later2 _ _ _⟩

end Go.Proofs.YtlohgnidbkechaaGreatDoor

namespace Go.Proofs.YtlohgnidbkechaaGreatDoor
open Go.RowKit
set_option maxRecDepth 100000

/-- The slice v reads as the texts xs. -/
def Strs (w : World) (v : Value) (xs : List (List UInt8)) : Prop := ∃ a c, v = .slice a xs.length c ∧ xs.length ≤ maxLen ∧ (∀ k : Nat, (xs[k]?.getD []).length ≤ maxLen) ∧ AtT w a xs.length xs
def slens (xs : List (List UInt8)) : List Nat := xs.map List.length
theorem slens_length (xs : List (List UInt8)) : (slens xs).length = xs.length := by simp [slens]
theorem slens_get (xs : List (List UInt8)) (i : Nat) : (slens xs)[i]?.getD 0 = (xs[i]?.getD []).length := by
  unfold slens; rw [List.getElem?_map]; cases xs[i]? <;> rfl
def sizeT (xs : List (List UInt8)) : Nat := xs.length + (slens xs).sum
theorem slens_le (xs : List (List UInt8)) (k : Nat) : (xs[k]?.getD []).length ≤ (slens xs).sum := by
  by_cases h : k < xs.length
  · have h1 := upto_succ (slens xs) k (by rw [slens_length]; exact h)
    have h2 := upto_le (slens xs) (k + 1)
    rw [slens_get] at h1
    omega
  · rw [List.getElem?_eq_none (by omega)]; simp

/-- The text that JoinPath answers. -/
def joinX (xs : List (List UInt8)) : List UInt8 := if namesC xs = 0 then joinT xs else []
end Go.Proofs.YtlohgnidbkechaaGreatDoor

namespace Go.Proofs.YtlohgnidbkechaaGreatDoor
open Go.RowKit
set_option maxRecDepth 100000

/-- What splitting answers of a path: its code and its names. -/
def Spl (w w' : World) (p : List UInt8) (a : Option Addr) (c : Nat) : Prop := Below w.heap.size w w' ∧ AtT w' a (splitL p).length (splitL p) ∧ (splitL p).length ≤ c
theorem splitL_len (p : List UInt8) (hp : p.length ≤ 1048576) : (splitL p).length ≤ 1048577 := by
  unfold splitL
  split
  · have := namesL_len p; omega
  · simp
theorem implSplit_any (w : World) (p : List UInt8) (hp : p.length ≤ 1048576) :
    Calls Tryz.prog 68 #[.string (mkB p)] w fun e w' => ∃ a c, e = .returned (.agg #[.int .i64 (pathF p), .slice a (splitL p).length c]) ∧ Spl w w' p a c := by
  by_cases h : pathF p = 0
  · refine (implSplit_ok w p hp h).mono ?_
    rintro e w' ⟨a, c, rfl, hb, hr⟩
    have hs : splitL p = namesL p := if_pos h
    unfold Spl
    rw [hs, h]
    exact ⟨a, c, rfl, hb, (ownsRow_at hr).2, ownsRow_cap hr⟩
  · refine (implSplit_bad w p hp h).mono ?_
    rintro e w' ⟨rfl, hb⟩
    have hs : splitL p = [] := if_neg h
    unfold Spl
    rw [hs]
    exact ⟨none, 0, rfl, hb, fun k hk => by simp at hk, Nat.le_refl _⟩
def belowB (p t : List UInt8) : Bool := decide (pathF p = 0) && (decide (pathF t = 0) && (decide ((splitL t).length < (splitL p).length) && decide ((splitL p).take (splitL t).length = splitL t)))
theorem take_no {xs ys : List (List UInt8)} {j : Nat} (hj : j < ys.length) (h : ¬ xs[j]?.getD [] = ys[j]?.getD []) : ¬ xs.take ys.length = ys := fun e => h (by
  have := congrArg (fun l => l[j]?.getD []) e
  simpa [List.getElem?_take, hj] using this)
theorem take_yes {xs ys : List (List UInt8)} (hl : ys.length < xs.length) (h : ∀ j, j < ys.length → xs[j]?.getD [] = ys[j]?.getD []) : xs.take ys.length = ys := by
  refine List.ext_getElem (by simp; omega) fun i h1 h2 => ?_
  have := h i h2
  rw [List.getElem?_eq_getElem (by omega), List.getElem?_eq_getElem h2] at this
  simpa using this

end Go.Proofs.YtlohgnidbkechaaGreatDoor

namespace Go.Proofs.YtlohgnidbkechaaGreatDoor
open Go.RowKit
set_option maxRecDepth 100000

/-- A list of texts that owns its block, or is empty. -/
def OwnT (w : World) (a : Option Addr) (n : Nat) (f : Nat → Value) (lo hi : Nat) : Prop := n = 0 ∨ ∃ g, a = some ⟨g, 0, none⟩ ∧ lo ≤ g ∧ g < hi ∧ OwnRow w g n f
def blkOf (a : Option Addr) (lo hi b : Nat) : Prop := a = some ⟨b, 0, none⟩ ∧ lo ≤ b ∧ b < hi
theorem OwnT.later {w w' : World} {a : Option Addr} {n : Nat} {f : Nat → Value} {lo hi : Nat} (h : OwnT w a n f lo hi) (hb : Below w.heap.size w w') : OwnT w' a n f lo hi := by
  rcases h with h | ⟨g, e, h1, h2, h3⟩
  · exact Or.inl h
  · exact Or.inr ⟨g, e, h1, h2, h3.block (hb.block g h3.lt)⟩
theorem ownT_row {w : World} {B : Nat} {e : TypeId} {a : Option Addr} {n c : Nat} {xs : List (List UInt8)} (h : w.ownsRow B e 1 (.slice a n c) xs.length (xs.map strV)) : OwnT w a n (fun i => strV (xs[i]?.getD [])) B w.heap.size := by
  obtain ⟨hl, ⟨h1, h2⟩ | ⟨g, cap, cur, h1, h2, h3, h4, h5, h6, h7⟩⟩ := h
  · simp only [Value.slice.injEq] at h1
    exact Or.inl h1.2.1
  · simp only [Value.slice.injEq] at h1
    refine Or.inr ⟨g, h1.1, h2, (Array.getElem?_eq_some_iff.1 h3).1, cur, e, h3, by rw [h1.2.1]; omega, fun i hi => ?_⟩
    rw [h1.2.1] at hi
    have h8 : (xs.map strV)[i]? = some (strV (xs[i]?.getD [])) := by rw [List.getElem?_map, List.getElem?_eq_getElem hi]; rfl
    rw [← h7, List.getElem?_take, if_pos (by omega), Array.getElem?_toList] at h8
    exact h8
theorem implSplit_own (w : World) (p : List UInt8) (hp : p.length ≤ 1048576) :
    Calls Tryz.prog 68 #[.string (mkB p)] w fun e w' => ∃ a c, e = .returned (.agg #[.int .i64 (pathF p), .slice a (splitL p).length c]) ∧ Below w.heap.size w w' ∧ AtT w' a (splitL p).length (splitL p) ∧ OwnT w' a (splitL p).length (fun i => strV ((splitL p)[i]?.getD [])) w.heap.size w'.heap.size := by
  by_cases h : pathF p = 0
  · refine (implSplit_ok w p hp h).mono ?_
    rintro e w' ⟨a, c, rfl, hb, hr⟩
    have hs : splitL p = namesL p := if_pos h
    rw [hs, h]
    exact ⟨a, c, rfl, hb, (ownsRow_at hr).2, ownT_row hr⟩
  · refine (implSplit_bad w p hp h).mono ?_
    rintro e w' ⟨rfl, hb⟩
    have hs : splitL p = [] := if_neg h
    rw [hs]
    exact ⟨none, 0, rfl, hb, fun k hk => by simp at hk, Or.inl rfl⟩
theorem AtT.store {w : World} {a : Option Addr} {n : Nat} {xs : List (List UInt8)} {f : Nat → Value} {lo hi : Nat} (h : AtT w a n xs) (ho : OwnT w a n f lo hi) {p : Addr} (hp : p.block < lo) (v : Value) : AtT (w.setCell p v) a n xs := fun k hk => by
  rcases ho with h0 | ⟨g, e, h1, _, _⟩
  · omega
  · obtain ⟨b, off, e2, c0⟩ := h k hk
    refine ⟨b, off, e2, ?_⟩
    rw [e] at e2
    cases e2
    rw [← c0]
    exact World.cell?_of_block (Below.heap_setCell _ _ _ _ (fun e => by simp at e; omega))
theorem OwnT.store {w : World} {a : Option Addr} {n : Nat} {f : Nat → Value} {lo hi : Nat} (ho : OwnT w a n f lo hi) {p : Addr} (hp : p.block < lo) (v : Value) : OwnT (w.setCell p v) a n f lo hi := by
  rcases ho with h0 | ⟨g, e, h1, h2, h3⟩
  · exact Or.inl h0
  · exact Or.inr ⟨g, e, h1, h2, h3.store (by omega) v⟩
end Go.Proofs.YtlohgnidbkechaaGreatDoor

namespace Go.Proofs.YtlohgnidbkechaaGreatDoor
open Go.RowKit
set_option maxRecDepth 100000

def StrR (w : World) (v : Value) (xs : List (List UInt8)) : Prop := ∃ a c, v = .slice a xs.length c ∧ xs.length ≤ 1048577 ∧ AtT w a xs.length xs
theorem StrR.later {w w' : World} {v : Value} {xs : List (List UInt8)} (h : StrR w v xs) (hb : Below w.heap.size w w') : StrR w' v xs := by
  obtain ⟨a, c, h1, h2, h3⟩ := h
  exact ⟨a, c, h1, h2, h3.later hb⟩
/-- The slice v holds the texts xs, in one block of F. -/
def StrsO (w : World) (v : Value) (xs : List (List UInt8)) (F : Nat → Prop) : Prop :=
  (xs = [] ∧ ∃ a cap, v = .slice a 0 cap) ∨ (∃ b cap, F b ∧ v = .slice (some ⟨b, 0, none⟩) xs.length cap ∧ xs.length ≤ 1048577 ∧ OwnRow w b xs.length (fun i => strV (xs[i]?.getD [])))
theorem StrsO.reads {w : World} {v : Value} {xs : List (List UInt8)} {F : Nat → Prop} (h : StrsO w v xs F) : StrR w v xs := by
  rcases h with ⟨rfl, a, cap, rfl⟩ | ⟨b, cap, _, h1, h2, h3⟩
  · exact ⟨a, cap, rfl, by simp, fun k hk => by simp at hk⟩
  · exact ⟨_, cap, h1, h2, fun k hk => ⟨b, 0, rfl, by rw [Nat.zero_add]; exact h3.cell hk⟩⟩
theorem StrsO.keep {w w' : World} {v : Value} {xs : List (List UInt8)} {F : Nat → Prop} (h : StrsO w v xs F) (e : ∀ b, F b → b < w.heap.size → w'.heap[b]? = w.heap[b]?) : StrsO w' v xs F := by
  rcases h with h | ⟨b, cap, hF, h1, h2, h3⟩
  · exact Or.inl h
  · exact Or.inr ⟨b, cap, hF, h1, h2, h3.block (e b hF h3.lt)⟩
theorem StrsO.mono {w : World} {v : Value} {xs : List (List UInt8)} {F G : Nat → Prop} (h : StrsO w v xs F) (e : ∀ b, F b → G b) : StrsO w v xs G := by
  rcases h with h | ⟨b, cap, hF, h1⟩
  · exact Or.inl h
  · exact Or.inr ⟨b, cap, e b hF, h1⟩
theorem StrsO.later {w w' : World} {v : Value} {xs : List (List UInt8)} {F : Nat → Prop} (h : StrsO w v xs F) (hb : Below w.heap.size w w') : StrsO w' v xs F := h.keep fun b _ hlt => hb.block b hlt
theorem StrsO.chg {w w' : World} {v : Value} {xs : List (List UInt8)} {F G : Nat → Prop} (h : StrsO w v xs F) (hc : Chg G w w') (hd : ∀ b, F b → ¬ G b) : StrsO w' v xs F := h.keep fun b hb hlt => hc.block b hlt (hd b hb)
def AnsNR (w : World) (r : Int × List (List UInt8)) (e : Ending) (w' : World) : Prop := ∃ a n c, e = .returned (.agg #[.int .i64 r.1, .slice a n c]) ∧ Below w.heap.size w w' ∧ StrsO w' (.slice a n c) r.2 (fresh w w')
theorem AnsNR.later {w w2 w3 : World} {r : Int × List (List UInt8)} {e : Ending} (h : AnsNR w r e w2) (hb : Below w2.heap.size w2 w3) : AnsNR w r e w3 := by
  obtain ⟨a, n, c, h1, h2, h3⟩ := h
  exact ⟨a, n, c, h1, h2.trans (hb.mono h2.size), (h3.later hb).mono fun b hh => ⟨hh.1, Nat.lt_of_lt_of_le hh.2 hb.size⟩⟩
theorem AnsNR.boxed {w W : World} {rb : Nat} {r : Int} {xs : List (List UInt8)} {a : Option Addr} {n c : Nat} (hB : Below w.heap.size w W) (hrb : w.heap.size ≤ rb) (hY : StrsO W (.slice a n c) xs (fun b => w.heap.size ≤ b ∧ b < W.heap.size ∧ b ≠ rb)) (x y : Value) : AnsNR w (r, xs) (.returned (.agg #[.int .i64 r, .slice a n c])) ((W.setCell ⟨rb, 0, none⟩ x).setCell ⟨rb, 1, none⟩ y) := by
  refine ⟨a, n, c, rfl, (hB.setCell hrb _).setCell hrb _, (hY.keep fun b hb _ => ?_).mono fun b hb => ?_⟩
  · rw [Below.heap_setCell _ _ _ _ hb.2.2, Below.heap_setCell _ _ _ _ hb.2.2]
  · unfold fresh
    simp only [World.setCell, Array.size_modify]
    exact ⟨hb.1, hb.2.1⟩
theorem AnsNR.none' {w W : World} {rb : Nat} (r : Int) (hB : Below w.heap.size w W) (hrb : w.heap.size ≤ rb) (x y : Value) : AnsNR w (r, []) (.returned (.agg #[.int .i64 r, .slice none 0 0])) ((W.setCell ⟨rb, 0, none⟩ x).setCell ⟨rb, 1, none⟩ y) := AnsNR.boxed hB hrb (Or.inl ⟨rfl, _, _, rfl⟩) x y

def mkStrs (k : Int) (xs : List (List UInt8)) : List (List UInt8) := (List.range xs.length).map fun i => 109 :: dg (k.toNat + i) []
theorem mkStrs_length (k : Int) (xs : List (List UInt8)) : (mkStrs k xs).length = xs.length := by simp [mkStrs]
theorem mkStrs_get (k : Int) (xs : List (List UInt8)) {i : Nat} (h : i < xs.length) : strV ((mkStrs k xs)[i]?.getD []) = mkT (k.toNat + i) := by
  simp [mkStrs, h, strV, mkT]
end Go.Proofs.YtlohgnidbkechaaGreatDoor

namespace Go.Proofs.YtlohgnidbkechaaGreatDoor
open Go.RowKit
set_option maxRecDepth 100000

theorem mkB_of (x : ByteArray) : mkB x.toList = x := by rw [ByteArray.toList_eq]; exact mkB_data x
theorem nameF_four {s : ByteArray} (h : nameF s = 0) : s.size ≤ 4 := by
  by_cases h4 : 4 < s.size
  · exfalso
    unfold nameF at h
    rw [if_neg (by omega)] at h
    by_cases ha : s.data.toList.all byB = true
    · rw [if_pos ha, if_pos h4] at h; omega
    · rw [if_neg ha] at h; omega
  · omega
/-- Texts in memory that the call made since n₀. -/
def WdT (w : World) (n₀ : Nat) (v : Value) (xs : List (List UInt8)) : Prop := w.ownsRow n₀ 9 1 v xs.length (xs.map strV)
theorem WdT.later {w w' : World} {n₀ : Nat} {v : Value} {xs : List (List UInt8)} (h : WdT w n₀ v xs) (hb : Below w.heap.size w w') : WdT w' n₀ v xs := ownsRow_later h hb
theorem WdT.shape {w : World} {n₀ : Nat} {v : Value} {xs : List (List UInt8)} (h : WdT w n₀ v xs) : ∃ a c, v = .slice a xs.length c := ownsRow_shape h
theorem WdT.nil (w : World) (n₀ : Nat) : WdT w n₀ (.slice none 0 0) [] := ⟨by simp, Or.inl ⟨rfl, rfl⟩⟩
theorem WdT.own {w : World} {n₀ : Nat} {v : Value} {xs : List (List UInt8)} (h : WdT w n₀ v xs) (hl : xs.length ≤ 1048577) : StrsO w v xs (fun b => n₀ ≤ b ∧ b < w.heap.size) := by
  obtain ⟨a, c, rfl⟩ := h.shape
  rcases ownT_row h with h0 | ⟨g, rfl, h1, h2, h3⟩
  · have : xs = [] := List.length_eq_zero_iff.1 h0
    subst this
    exact Or.inl ⟨rfl, a, c, rfl⟩
  · exact Or.inr ⟨g, c, ⟨h1, h2⟩, rfl, hl, h3⟩
theorem WdT.push (w : World) (n₀ : Nat) (v : Value) (xs : List (List UInt8)) (y : List UInt8) (h : WdT w n₀ v xs) (hn₀ : n₀ ≤ w.heap.size) (hn : xs.length ≤ 1048577) :
    ∃ v' X, (Builtin.append_ #[62, 62] 62 #[v, .slice (some ⟨w.heap.size, 0, none⟩) 1 1]).run Tryz.prog (w.alloc (.cells #[.string (mkB y)] 9)) = .ok v' X ∧ WdT X n₀ v' (xs ++ [y]) ∧ Below n₀ w X := by
  obtain ⟨v', X, h1, h2, h3⟩ := append_strN w n₀ v xs.length (xs.map strV) y (by simp) h hn₀ hn
  refine ⟨v', X, h1, ?_, h3⟩
  unfold WdT
  rw [List.length_append, List.map_append]
  exact h2
def nmsK (es : List EN) (k : Nat) : List (List UInt8) := (es.take k).map fun e => e.1.toList
theorem nmsK_len (es : List EN) {k : Nat} (h : k ≤ es.length) : (nmsK es k).length = k := by simp [nmsK]; omega
theorem nmsK_succ (es : List EN) {k : Nat} (h : k < es.length) : nmsK es k ++ [(es[k]?.getD en0).1.toList] = nmsK es (k + 1) := by
  unfold nmsK
  rw [List.take_add_one, List.getElem?_eq_getElem h, List.map_append]
  rfl
theorem nmsK_all (es : List EN) : nmsK es es.length = es.map fun e => e.1.toList := by unfold nmsK; rw [List.take_length]
theorem namesD_len (d : FD) (x : Int) : (namesD d x).2.length ≤ 6 := by
  unfold namesD
  by_cases h : dirQ d x = 0
  · rw [if_pos h]
    have := (dirS h).six
    simpa using this
  · rw [if_neg h]; simp

end Go.Proofs.YtlohgnidbkechaaGreatDoor

namespace Go.Proofs.YtlohgnidbkechaaGreatDoor
open Go.RowKit
set_option maxRecDepth 100000

/-- The entries without the one at a place. -/
def delE (es : List EN) (k : Nat) : List EN := es.take k ++ es.drop (k + 1)
theorem delE_len {es : List EN} {k : Nat} (h : k < es.length) : (delE es k).length = es.length - 1 := by
  unfold delE
  rw [List.length_append, List.length_take, List.length_drop]; omega
theorem delE_last {es : List EN} {k : Nat} (h : k + 1 = es.length) : delE es k = es.take k := by
  unfold delE
  rw [List.drop_of_length_le (by omega), List.append_nil]
theorem delE_get {es : List EN} {k : Nat} (h : k < es.length) (i : Nat) : (delE es k)[i]?.getD en0 = es[if i < k then i else i + 1]?.getD en0 := by
  unfold delE
  by_cases hi : i < k
  · rw [if_pos hi, List.getElem?_append_left (by rw [List.length_take]; omega), List.getElem?_take, if_pos hi]
  · rw [if_neg hi, List.getElem?_append_right (by rw [List.length_take]; omega), List.length_take, List.getElem?_drop, show k + 1 + (i - min k es.length) = i + 1 by omega]
theorem delE_size {es : List EN} {k : Nat} (h : k < es.length) (hz : ∀ k : Nat, (es[k]?.getD en0).1.size ≤ maxLen) (i : Nat) : ((delE es k)[i]?.getD en0).1.size ≤ maxLen := by
  rw [delE_get h]; exact hz _
/-- Entries of a directory that are right. -/
structure DirE (es : List EN) : Prop where
  six : es.length ≤ 6
  names : ∀ i, i < es.length → nameF (es[i]?.getD en0).1 = 0
  nums : ∀ i, i < es.length → 0 ≤ (es[i]?.getD en0).2 ∧ (es[i]?.getD en0).2 ≤ 9
  rises : Rises es
theorem dirF_E {es : List EN} (h : dirF es = 0) : DirE es := by
  obtain ⟨h1, h2, h3⟩ := dir_rises h
  refine ⟨h3, h2, fun i hi => ?_, h1⟩
  unfold dirF at h
  rw [if_neg (by omega)] at h
  have := fstNZ_inv h i hi
  unfold entF at this
  rw [if_pos (h2 i hi)] at this
  by_cases e : 0 ≤ (es[i]?.getD en0).2 ∧ (es[i]?.getD en0).2 ≤ 9
  · exact e
  · rw [if_neg e] at this; omega
theorem DirE.fault {es : List EN} (h : DirE es) : dirF es = 0 := by
  unfold dirF
  rw [if_neg (by have := h.six; omega)]
  refine fstNZ_zero fun i hi => ?_
  unfold entF
  rw [if_pos (h.names i hi), if_pos (h.nums i hi), if_neg]
  rintro ⟨h0, hs⟩
  have hr := h.rises (i - 1) (by omega)
  rw [show i - 1 + 1 = i by omega] at hr
  unfold strLe at hs
  rw [Bool.or_eq_true] at hs
  rcases hs with hs | hs
  · have := bl_trans hr hs
    rw [bl_irr] at this; exact absurd this (by decide)
  · have e : (es[i]?.getD en0).1.toList = (es[i - 1]?.getD en0).1.toList := by simpa using hs
    rw [e, bl_irr] at hr; exact absurd hr (by decide)
theorem DirE.del {es : List EN} (h : DirE es) {k : Nat} (hk : k < es.length) : DirE (delE es k) := by
  have hl := delE_len hk
  refine ⟨by have := h.six; omega, fun i hi => ?_, fun i hi => ?_, fun i hi => ?_⟩
  · rw [delE_get hk]; exact h.names _ (by split <;> omega)
  · rw [delE_get hk]; exact h.nums _ (by split <;> omega)
  · rw [delE_get hk, delE_get hk]
    by_cases h1 : i + 1 < k
    · rw [if_pos h1, if_pos (by omega)]; exact h.rises i (by omega)
    · rw [if_neg h1]
      by_cases h2 : i < k
      · rw [if_pos h2]; exact h.rises.lt (by omega) (by omega)
      · rw [if_neg h2]; exact h.rises (i + 1) (by omega)
/-- The list stays right where one inode turns to a right one. -/
theorem insF_set {ds : List ID} (h : insF ds = 0) (j : Nat) (x : ID) (hx : inoF x = 0) : insF (ds.set j x) = 0 := by
  have ht := insF_ten h
  unfold insF
  rw [List.length_set, if_neg (by omega)]
  refine fstNZ_zero fun i hi => ?_
  rw [List.getElem?_set]
  by_cases e : j = i
  · rw [if_pos e]
    by_cases hl : j < ds.length
    · rw [if_pos (by omega)]; exact hx
    · omega
  · rw [if_neg e]; exact ins_ino h i hi
theorem inoF_dir {x : ID} (hk : x.1 = 2) (h : inoF x = 0) {es : List EN} (he : DirE es) : inoF (x.1, x.2.1, x.2.2.1, [], es) = 0 := by
  unfold inoF at h ⊢
  rw [if_neg (by omega), if_neg (by omega), if_pos hk] at h
  dsimp only
  rw [if_neg (by omega), if_neg (by omega), if_pos hk]
  by_cases hf : fpB x = true
  · rw [if_pos hf] at h; omega
  · have hf2 : fpB (x.1, x.2.1, x.2.2.1, [], es) = false := by
      unfold fpB at hf ⊢
      simp at hf ⊢
      exact hf.1
    rw [hf2]
    exact he.fault
theorem nameF_size {s : ByteArray} (h : nameF s = 0) : s.size ≤ 4 ∧ 1 ≤ s.size := by
  unfold nameF at h
  by_cases h0 : s.size = 0
  · rw [if_pos h0] at h; omega
  · rw [if_neg h0] at h
    by_cases h1 : s.data.toList.all byB = true
    · rw [if_pos h1] at h
      by_cases h2 : 4 < s.size
      · rw [if_pos h2] at h; omega
      · omega
    · rw [if_neg h1] at h; omega
theorem nlens_four {es : List EN} (h : ∀ i, i < es.length → (es[i]?.getD en0).1.size ≤ 4) : (nlens es).sum ≤ 4 * es.length := by
  unfold nlens
  induction es with
  | nil => simp
  | cons x es ih =>
    have h0 := h 0 (by simp)
    have := ih fun i hi => by have := h (i + 1) (by simpa using hi); simpa using this
    simp at h0
    simp only [List.map_cons, List.sum_cons, List.length_cons, Nat.mul_add, Nat.mul_one]
    omega
theorem ino_small {x : ID} (h : inoF x = 0) : sizeIno x ≤ 40 := by
  have h1 := ino_size h
  have h6 := ino_six h
  have h4 : (nlens x.2.2.2.2).sum ≤ 4 * x.2.2.2.2.length := by
    by_cases hk : x.1 = 2
    · exact nlens_four fun i hi => (nameF_size ((dirF_E (ino_dir h hk)).names i hi)).1
    · have he : x.2.2.2.2.length = 0 := by
        unfold inoF at h
        have dp : dpB x = false → x.2.2.2.2.length = 0 := fun hd => by unfold dpB at hd; simp at hd; rw [hd]; rfl
        by_cases h0 : x.1 = 0
        · rw [if_pos h0] at h
          by_cases hd : dpB x = true
          · rw [hd, Bool.or_true, if_pos rfl] at h; omega
          · exact dp (by simpa using hd)
        · rw [if_neg h0] at h
          by_cases h1 : x.1 = 1
          · rw [if_pos h1] at h
            by_cases hd : dpB x = true
            · rw [if_pos hd] at h; omega
            · exact dp (by simpa using hd)
          · rw [if_neg h1, if_neg hk] at h; omega
      rw [List.eq_nil_of_length_eq_zero he]; simp [nlens]
  unfold sizeIno sizeN
  omega
theorem isz_each {ds : List ID} {m : Nat} (h : ∀ i : Nat, i < ds.length → sizeIno (ds[i]?.getD id0) ≤ m) : (isz ds).sum ≤ m * ds.length := by
  unfold isz
  induction ds with
  | nil => simp
  | cons x ds ih =>
    have h0 := h 0 (by simp)
    have := ih fun i hi => by have := h (i + 1) (by simpa using hi); simpa using this
    simp at h0
    simp only [List.map_cons, List.sum_cons, List.length_cons, Nat.mul_add, Nat.mul_one]
    omega
/-- Right inodes are small. -/
theorem ins_small {ds : List ID} (h : insF ds = 0) : sizeInos ds ≤ 410 := by
  have h1 := isz_each fun i hi => ino_small (ins_ino h i hi)
  have h2 := insF_ten h
  unfold sizeInos
  omega
theorem fs_small {d : FD} (h : insF d.1 = 0) (h20 : d.2.length = 20) (h8 : ∀ i : Nat, (d.2[i]?.getD []).length ≤ 8) : sizeFs d ≤ 1000 := by
  have h1 := ins_small h
  have h2 := ylens_eight h8
  unfold sizeFs sizeByts
  omega
end Go.Proofs.YtlohgnidbkechaaGreatDoor

namespace Go.Proofs.YtlohgnidbkechaaGreatDoor
open Go.RowKit
set_option maxRecDepth 100000

/-- All that is below a place, so deep at most. -/
def belL (ds : List ID) : Nat → List UInt8 → Nat → List (List UInt8)
  | 0, _, _ => []
  | k + 1, ah, t => (ds[t]?.getD id0).2.2.2.2.flatMap fun e => (ah ++ 47 :: e.1.toList) :: belL ds k (ah ++ 47 :: e.1.toList) e.2.toNat
/-- What the first q entries of a place tell. -/
def belK (ds : List ID) (k : Nat) (ah : List UInt8) (t q : Nat) : List (List UInt8) := ((ds[t]?.getD id0).2.2.2.2.take q).flatMap fun e => (ah ++ 47 :: e.1.toList) :: belL ds k (ah ++ 47 :: e.1.toList) e.2.toNat
theorem belK_zero (ds : List ID) (k : Nat) (ah : List UInt8) (t : Nat) : belK ds k ah t 0 = [] := by simp [belK]
theorem belK_succ {ds : List ID} {k : Nat} {ah : List UInt8} {t q : Nat} (h : q < (ds[t]?.getD id0).2.2.2.2.length) :
    belK ds k ah t (q + 1) = belK ds k ah t q ++ ((ah ++ 47 :: ((ds[t]?.getD id0).2.2.2.2[q]?.getD en0).1.toList) :: belL ds k (ah ++ 47 :: ((ds[t]?.getD id0).2.2.2.2[q]?.getD en0).1.toList) ((ds[t]?.getD id0).2.2.2.2[q]?.getD en0).2.toNat) := by
  unfold belK
  rw [List.take_add_one, List.getElem?_eq_getElem h, List.flatMap_append]
  simp
theorem belK_all (ds : List ID) (k : Nat) (ah : List UInt8) (t : Nat) : belK ds k ah t (ds[t]?.getD id0).2.2.2.2.length = belL ds (k + 1) ah t := by
  unfold belK
  rw [List.take_length]
  rfl
theorem belK_pre {ds : List ID} {k : Nat} {ah : List UInt8} {t q : Nat} : belK ds k ah t q <+: belL ds (k + 1) ah t := by
  rw [← belK_all]
  unfold belK
  rw [List.take_length]
  obtain ⟨r, hr⟩ := List.take_prefix q (ds[t]?.getD id0).2.2.2.2
  refine ⟨r.flatMap fun e => (ah ++ 47 :: e.1.toList) :: belL ds k (ah ++ 47 :: e.1.toList) e.2.toNat, ?_⟩
  rw [← List.flatMap_append, hr]
theorem belL_none {ds : List ID} {k : Nat} {ah : List UInt8} {t : Nat} (h : (ds[t]?.getD id0).2.2.2.2 = []) : belL ds k ah t = [] := by
  cases k with
  | zero => rfl
  | succ k => rw [belL, h]; rfl
/-- How many there are at most. -/
def belN : Nat → Nat
  | 0 => 0
  | k + 1 => 6 * (1 + belN k)
theorem flatM_len {α β : Type} {f : α → List β} {m : Nat} : ∀ (l : List α), (∀ x ∈ l, (f x).length ≤ m) → (l.flatMap f).length ≤ l.length * m
  | [], _ => by simp
  | x :: l, h => by
    rw [List.flatMap_cons, List.length_append, List.length_cons, Nat.add_mul, Nat.one_mul]
    have h1 := h x (by simp)
    have h2 := flatM_len l (fun y hy => h y (by simp [hy]))
    omega
theorem belL_len {ds : List ID} (h6 : ∀ i : Nat, (ds[i]?.getD id0).2.2.2.2.length ≤ 6) : ∀ (k : Nat) (ah : List UInt8) (t : Nat), (belL ds k ah t).length ≤ belN k
  | 0, _, _ => Nat.le_refl _
  | k + 1, ah, t => by
    have h1 := flatM_len (m := 1 + belN k) (f := fun e : EN => (ah ++ 47 :: e.1.toList) :: belL ds k (ah ++ 47 :: e.1.toList) e.2.toNat) (ds[t]?.getD id0).2.2.2.2 (fun e _ => by
      have := belL_len h6 k (ah ++ 47 :: e.1.toList) e.2.toNat
      simp only [List.length_cons]
      omega)
    have h2 := Nat.mul_le_mul_right (1 + belN k) (h6 t)
    exact Nat.le_trans h1 h2
theorem belK_len {ds : List ID} (h6 : ∀ i : Nat, (ds[i]?.getD id0).2.2.2.2.length ≤ 6) (k : Nat) (ah : List UInt8) (t q : Nat) : (belK ds k ah t q).length ≤ belN (k + 1) := Nat.le_trans belK_pre.length_le (belL_len h6 (k + 1) ah t)
theorem belN_le : ∀ {k : Nat}, k ≤ 6 → belN k ≤ 55986 := by
  intro k hk
  have : k = 0 ∨ k = 1 ∨ k = 2 ∨ k = 3 ∨ k = 4 ∨ k = 5 ∨ k = 6 := by omega
  rcases this with rfl | rfl | rfl | rfl | rfl | rfl | rfl <;> decide
/-- What is no directory has no entries, and names are short. -/
theorem ents_none {ds : List ID} (h : insF ds = 0) {t : Nat} (ht : t < ds.length) (hk : ¬ kindAt ds t = 2) : (ds[t]?.getD id0).2.2.2.2 = [] := by
  have hi := insF_each h t ht
  have hk' : ¬ (ds[t]?.getD id0).1 = 2 := hk
  generalize ds[t]?.getD id0 = x at *
  have hd : dpB x = true → inoF x = 1 := fun hd => by
    unfold inoF
    by_cases h0 : x.1 = 0
    · rw [if_pos h0, hd, Bool.or_true, if_pos rfl]
    · rw [if_neg h0]
      by_cases h1 : x.1 = 1
      · rw [if_pos h1, hd, if_pos rfl]
      · rw [if_neg h1, if_neg hk']
  cases hb : dpB x with
  | true => rw [hd hb] at hi; cases hi
  | false =>
    have : ¬ 0 < x.2.2.2.2.length := by simpa [dpB] using hb
    exact List.length_eq_zero_iff.1 (by omega)
theorem ents_four {ds : List ID} (h : insF ds = 0) {t q : Nat} (ht : t < ds.length) (hq : q < (ds[t]?.getD id0).2.2.2.2.length) : ((ds[t]?.getD id0).2.2.2.2[q]?.getD en0).1.toList.length ≤ 4 := by
  have hi := insF_each h t ht
  have hk : (ds[t]?.getD id0).1 = 2 := by
    by_cases hk : kindAt ds t = 2
    · exact hk
    · rw [ents_none h ht hk] at hq; simp at hq
  generalize ds[t]?.getD id0 = x at *
  have hd : dirF x.2.2.2.2 = 0 := by
    unfold inoF at hi
    rw [if_neg (by omega), if_neg (by omega), if_pos hk] at hi
    cases hf : fpB x with
    | true => rw [hf] at hi; simp at hi
    | false => rw [hf] at hi; simpa using hi
  have := nameF_four ((dir_rises hd).2.1 q hq)
  rw [ByteArray.toList_eq]
  simpa using this
/-- What PathsOf answers. -/
def pathsR (d : FD) : Int × List (List UInt8) := if fsF d = 0 then (0, (belL d.1 6 [] 0).take 60) else (fsF d, [])
theorem pathsR_len (d : FD) : (pathsR d).2.length ≤ 60 := by
  unfold pathsR
  split
  · simp only [List.length_take]; omega
  · simp
end Go.Proofs.YtlohgnidbkechaaGreatDoor

namespace Go.Proofs.YtlohgnidbkechaaGreatDoor
open Go.RowKit
set_option maxRecDepth 100000

theorem namesL_mem (p : List UInt8) (hp : p.length ≤ 1048576) (k : Nat) : ((namesL p)[k]?.getD []).length ≤ 1048576 := by
  unfold namesL
  split
  · simp
  · cases p with
    | nil => simp [restN]
    | cons b t => have := cutB_mem t k; simp at hp; show ((cutB t)[k]?.getD []).length ≤ _; omega
def parT (p : List UInt8) : List UInt8 := if lastC p = 0 then joinT ((namesL p).take ((namesL p).length - 1)) else []

end Go.Proofs.YtlohgnidbkechaaGreatDoor

namespace Go.Proofs.YtlohgnidbkechaaGreatDoor
open Go.RowKit
set_option maxRecDepth 100000

theorem path_ok {p : List UInt8} (h : pathF p = 0) : (namesL p).length ≤ 6 ∧ namesF (namesL p) = 0 := by
  unfold pathF at h
  split at h
  · simp at h
  · split at h
    · split at h
      · simp at h
      · split at h
        · simp at h
        · exact ⟨by omega, h⟩
    · simp at h
theorem names_take {xs : List (List UInt8)} (h : namesF xs = 0) (m : Nat) : namesF (xs.take m) = 0 := by
  by_cases hn : namesF (xs.take m) = 0
  · exact hn
  · rw [namesF_prefix (List.take_prefix m xs) hn] at h; exact h
theorem take_get (xs : List (List UInt8)) (m k : Nat) (h : k < m) : (xs.take m)[k]?.getD [] = xs[k]?.getD [] := by rw [List.getElem?_take, if_pos h]
theorem take_len (xs : List (List UInt8)) (m k B : Nat) (h : ∀ k : Nat, (xs[k]?.getD []).length ≤ B) : ((xs.take m)[k]?.getD []).length ≤ B := by
  rw [List.getElem?_take]
  split
  · exact h k
  · simp

end Go.Proofs.YtlohgnidbkechaaGreatDoor

namespace Go.Proofs.YtlohgnidbkechaaGreatDoor
open Go.RowKit
set_option maxRecDepth 100000

theorem take_drop47 (t : List UInt8) : takeTo t ++ dropTo t = t := List.takeWhile_append_dropWhile
theorem drop47 (t : List UInt8) : dropTo t = [] ∨ ∃ r, dropTo t = 47 :: r := by
  unfold dropTo
  induction t with
  | nil => exact Or.inl rfl
  | cons b l ih =>
    by_cases h : b = 47
    · rw [List.dropWhile_cons, if_neg (by simp [h])]; exact Or.inr ⟨l, by rw [h]⟩
    · rw [List.dropWhile_cons, if_pos (by simpa using h)]; exact ih
/-- What is cut is joined again. -/
theorem join_rest (n : Nat) : ∀ l : List UInt8, l.length ≤ n → (l = [] ∨ ∃ r, l = 47 :: r) → joinL (restN l) = l := by
  induction n with
  | zero => intro l h _; have : l = [] := List.eq_nil_of_length_eq_zero (by omega); subst this; rfl
  | succ n ih =>
    intro l hl h
    rcases h with rfl | ⟨t, rfl⟩
    · rfl
    · rw [restN_cons]
      have h1 := ih (dropTo t) (by have := dropTo_le t; simp at hl; omega) (drop47 t)
      show (47 :: takeTo t) ++ joinL (restN (dropTo t)) = 47 :: t
      rw [h1, List.cons_append, take_drop47]
/-- Names that have no slash. -/
def noSlash (y : List UInt8) : Prop := ∀ b ∈ y, b ≠ 47
theorem takeTo_app {y l : List UInt8} (hy : noSlash y) (hl : l = [] ∨ ∃ r, l = 47 :: r) : takeTo (y ++ l) = y ∧ dropTo (y ++ l) = l := by
  unfold takeTo dropTo
  induction y with
  | nil =>
    rcases hl with rfl | ⟨r, rfl⟩
    · exact ⟨rfl, rfl⟩
    · simp
  | cons b t ih =>
    have hb : b ≠ 47 := hy b (by simp)
    have := ih fun c hc => hy c (by simp [hc])
    rw [List.cons_append, List.takeWhile_cons, List.dropWhile_cons, if_pos (by simpa using hb), if_pos (by simpa using hb), this.1, this.2]
    exact ⟨rfl, rfl⟩
theorem joinL_head (ys : List (List UInt8)) : joinL ys = [] ∨ ∃ r, joinL ys = 47 :: r := by
  cases ys with
  | nil => exact Or.inl rfl
  | cons y r => exact Or.inr ⟨_, rfl⟩
theorem joinL_cons (y : List UInt8) (ys : List (List UInt8)) : joinL (y :: ys) = 47 :: (y ++ joinL ys) := rfl
/-- What is joined is cut again. -/
theorem rest_join (ys : List (List UInt8)) (h : ∀ y ∈ ys, noSlash y) : restN (joinL ys) = ys := by
  induction ys with
  | nil => rfl
  | cons y r ih =>
    have h1 := takeTo_app (h y (by simp)) (joinL_head r)
    rw [joinL_cons, restN_cons, h1.1, h1.2, ih fun z hz => h z (by simp [hz])]
theorem joinT_ne {ys : List (List UInt8)} (h : ys ≠ []) : joinT ys = joinL ys := by
  cases ys with
  | nil => exact absurd rfl h
  | cons y r => unfold joinT; rw [if_neg (by rw [joinL_cons]; simp)]
theorem names_join (ys : List (List UInt8)) (h : ∀ y ∈ ys, noSlash y ∧ y ≠ []) : namesL (joinT ys) = ys := by
  cases ys with
  | nil => rfl
  | cons y r =>
    rw [joinT_ne (by simp)]
    unfold namesL
    have hy := (h y (by simp)).2
    rw [if_neg (by rw [joinL_cons]; intro e; simp at e; exact hy e.1), rest_join _ fun z hz => (h z hz).1]
theorem names_of (p : List UInt8) (t : List UInt8) (h : p = 47 :: t) : joinT (namesL p) = p ∧ ((namesL p).length = 0 ↔ p = [47]) := by
  unfold namesL
  by_cases hp : p = [47]
  · rw [if_pos hp, hp]; exact ⟨rfl, by simp⟩
  · rw [if_neg hp]
    have h1 := join_rest p.length p (Nat.le_refl _) (Or.inr ⟨t, h⟩)
    have h2 : restN p ≠ [] := by rw [h]; exact cutB_ne t
    refine ⟨by rw [joinT_ne h2, h1], ?_⟩
    constructor
    · intro h3; exact absurd (List.eq_nil_of_length_eq_zero h3) h2
    · intro h3; exact absurd h3 hp

theorem name_ok {y : List UInt8} (h : nameF (mkB y) = 0) : noSlash y ∧ y ≠ [] := by
  unfold nameF at h
  rw [mkB_size, mkB_list] at h
  by_cases h0 : y.length = 0
  · rw [if_pos h0] at h; simp at h
  · rw [if_neg h0] at h
    by_cases ha : y.all byB = true
    · refine ⟨fun b hb e => ?_, fun e => h0 (by rw [e]; rfl)⟩
      have h1 := List.all_eq_true.1 ha b hb
      rw [e] at h1
      exact absurd h1 (by decide)
    · rw [if_neg ha] at h; simp at h
theorem names_all {xs : List (List UInt8)} (h : namesF xs = 0) : ∀ y ∈ xs, nameF (mkB y) = 0 := by
  induction xs with
  | nil => intro y hy; simp at hy
  | cons x t ih =>
    intro y hy
    unfold namesF at h
    by_cases h0 : nameF (mkB x) = 0
    · rw [if_pos h0] at h
      rcases List.mem_cons.1 hy with rfl | hy
      · exact h0
      · exact ih h y hy
    · rw [if_neg h0] at h; exact absurd h h0
theorem path_head {p : List UInt8} (h : pathF p = 0) : (∃ t, p = 47 :: t) ∧ p.length ≤ 30 := by
  unfold pathF at h
  split at h
  · simp at h
  · rename_i h30
    split at h
    · rename_i hp
      cases p with
      | nil => simp [preB] at hp
      | cons b t =>
        have hb : b = 47 := by simpa [preB] using hp
        exact ⟨⟨t, by rw [hb]⟩, by omega⟩
    · simp at h
theorem join_last : ∀ ys : List (List UInt8), ys ≠ [] → (∀ y ∈ ys, noSlash y ∧ y ≠ []) → ∃ b, (joinL ys).getLast? = some b ∧ b ≠ 47
  | [], h, _ => absurd rfl h
  | [y], _, hy => by
    obtain ⟨h1, h2⟩ := hy y (by simp)
    have h3 : joinL [y] = 47 :: y := by rw [joinL_cons]; simp [joinL]
    rw [h3]
    refine ⟨y.getLast h2, ?_, h1 _ (List.getLast_mem h2)⟩
    cases y with
    | nil => exact absurd rfl h2
    | cons b t => simp [List.getLast?_eq_some_getLast]
  | y :: z :: r, _, hy => by
    obtain ⟨b, hb, hn⟩ := join_last (z :: r) (by simp) fun q hq => hy q (by simp at hq ⊢; exact Or.inr hq)
    refine ⟨b, ?_, hn⟩
    have h3 : joinL (y :: z :: r) = (47 :: y) ++ joinL (z :: r) := rfl
    rw [h3, List.getLast?_append, hb]
    rfl
theorem joinL_take (xs : List (List UInt8)) (m : Nat) : (joinL (xs.take m)).length ≤ (joinL xs).length := by
  have h : joinL xs = joinL (xs.take m) ++ joinL (xs.drop m) := by
    conv => lhs; rw [← List.take_append_drop m xs]
    unfold joinL
    rw [List.flatMap_append]
  rw [h, List.length_append]
  omega
/-- The parent's text is a path, and its names are those ahead of the last. -/
theorem par_ok {p : List UInt8} (h : pathF p = 0) (m : Nat) : pathF (joinT ((namesL p).take m)) = 0 ∧ namesL (joinT ((namesL p).take m)) = (namesL p).take m := by
  obtain ⟨⟨t, ht⟩, h30⟩ := path_head h
  obtain ⟨h6, hnf⟩ := path_ok h
  have hj := (names_of p t ht).1
  have hall : ∀ y ∈ (namesL p).take m, noSlash y ∧ y ≠ [] := fun y hy => name_ok (names_all hnf y (List.mem_of_mem_take hy))
  have hN := names_join _ hall
  refine ⟨?_, hN⟩
  have hnt := names_take hnf m
  have hlt : ((namesL p).take m).length ≤ 6 := by rw [List.length_take]; omega
  have h1 : (joinT ((namesL p).take m)).length ≤ 30 ∧ preB (joinT ((namesL p).take m)) = true ∧ ¬ (sufB (joinT ((namesL p).take m)) = true ∧ topB (joinT ((namesL p).take m)) = false) := by
    by_cases he : (namesL p).take m = []
    · rw [he]; exact ⟨by decide, by decide, by decide⟩
    · have hpn : namesL p ≠ [] := fun e => he (by rw [e]; simp)
      rw [joinT_ne he]
      rw [joinT_ne hpn] at hj
      refine ⟨?_, ?_, ?_⟩
      · have := joinL_take (namesL p) m; rw [hj] at this; omega
      · rcases joinL_head ((namesL p).take m) with e | ⟨r, e⟩
        · cases hq : (namesL p).take m with
          | nil => exact absurd hq he
          | cons y ys => rw [hq, joinL_cons] at e; simp at e
        · rw [e]; simp [preB]
      · rintro ⟨hs, _⟩
        obtain ⟨b, hb, hne⟩ := join_last _ he hall
        unfold sufB at hs
        rw [hb] at hs
        exact hne (by simpa using hs)
  unfold pathF
  rw [if_neg (by omega), if_pos h1.2.1, if_neg h1.2.2, hN, if_neg (by omega)]
  exact hnt
end Go.Proofs.YtlohgnidbkechaaGreatDoor

namespace Go.Proofs.YtlohgnidbkechaaGreatDoor
open Go.RowKit
set_option maxRecDepth 100000

theorem namesF_all {xs : List (List UInt8)} (h : ∀ y ∈ xs, nameF (mkB y) = 0) : namesF xs = 0 := by
  induction xs with
  | nil => rfl
  | cons x t ih =>
    unfold namesF
    rw [if_pos (h x (List.mem_cons_self))]
    exact ih fun y hy => h y (List.mem_cons_of_mem _ hy)
theorem joinL_most {ys : List (List UInt8)} (h : ∀ y ∈ ys, y.length ≤ 4) : (joinL ys).length ≤ 5 * ys.length := by
  induction ys with
  | nil => simp [joinL]
  | cons y t ih =>
    have h1 := ih fun x hx => h x (List.mem_cons_of_mem _ hx)
    have h2 := h y (List.mem_cons_self)
    rw [joinL_cons, List.length_cons, List.length_append, List.length_cons]
    omega
/-- Names that are right, joined, are a path that is right. -/
theorem joined_ok {ys : List (List UInt8)} (hne : ys ≠ []) (h6 : ys.length ≤ 6) (hall : ∀ y ∈ ys, nameF (mkB y) = 0) : pathF (joinL ys) = 0 ∧ splitL (joinL ys) = ys ∧ cutB ((joinL ys).drop 1) = ys := by
  have hns : ∀ y ∈ ys, noSlash y ∧ y ≠ [] := fun y hy => name_ok (hall y hy)
  have hN : namesL (joinL ys) = ys := by have := names_join ys hns; rw [joinT_ne hne] at this; exact this
  have h4 : ∀ y ∈ ys, y.length ≤ 4 := fun y hy => by have := nameF_four (hall y hy); rw [mkB_size] at this; exact this
  have hl := joinL_most h4
  have hp : ∃ r, joinL ys = 47 :: r := by
    rcases joinL_head ys with e | e
    · cases ys with
      | nil => exact absurd rfl hne
      | cons y t => rw [joinL_cons] at e; simp at e
    · exact e
  obtain ⟨r, hr⟩ := hp
  have hpre : preB (joinL ys) = true := by rw [hr]; simp [preB]
  obtain ⟨b, hb, hbn⟩ := join_last ys hne hns
  have hsuf : sufB (joinL ys) = false := by
    unfold sufB
    rw [hb]
    simpa using hbn
  have htop : topB (joinL ys) = false := by
    cases ht : topB (joinL ys) with
    | false => rfl
    | true =>
      unfold topB at ht
      have he : joinL ys = [47] := by simpa using ht
      rw [he] at hb
      simp at hb
      exact absurd hb.symm hbn
  have hP : pathF (joinL ys) = 0 := by
    unfold pathF
    rw [if_neg (by omega), if_pos hpre, if_neg (by rw [hsuf]; simp), hN, if_neg (by omega)]
    exact namesF_all hall
  refine ⟨hP, by unfold splitL; rw [if_pos hP, hN], ?_⟩
  rw [← namesL_cut htop (by rw [hr]; simp), hN]
theorem ents_name {ds : List ID} (h : insF ds = 0) {t : Nat} (ht : t < ds.length) {e : EN} (he : e ∈ (ds[t]?.getD id0).2.2.2.2) : nameF e.1 = 0 := by
  have hi := insF_each h t ht
  have hk : (ds[t]?.getD id0).1 = 2 := by
    by_cases hk : kindAt ds t = 2
    · exact hk
    · rw [ents_none h ht hk] at he; simp at he
  generalize ds[t]?.getD id0 = x at *
  have hd : dirF x.2.2.2.2 = 0 := by
    unfold inoF at hi
    rw [if_neg (by omega), if_neg (by omega), if_pos hk] at hi
    cases hf : fpB x with
    | true => rw [hf] at hi; simp at hi
    | false => rw [hf] at hi; simpa using hi
  obtain ⟨q, hq, rfl⟩ := List.getElem_of_mem he
  have := (dir_rises hd).2.1 q hq
  rw [List.getElem?_eq_getElem hq] at this
  exact this
theorem joinL_snoc (xs : List (List UInt8)) (y : List UInt8) (ys : List (List UInt8)) : joinL xs ++ 47 :: y ++ joinL ys = joinL (xs ++ y :: ys) := by
  unfold joinL
  rw [List.flatMap_append, List.flatMap_cons]
  simp
/-- What is told below a place is what stands ahead, joined with names that are right. -/
theorem bel_joined {ds : List ID} (h : insF ds = 0) : ∀ (k : Nat) (ah : List UInt8) (t : Nat) (p : List UInt8), p ∈ belL ds k ah t → ∃ ys, p = ah ++ joinL ys ∧ ys ≠ [] ∧ ys.length ≤ k ∧ ∀ y ∈ ys, nameF (mkB y) = 0
  | 0, _, _, _, hp => by simp [belL] at hp
  | k + 1, ah, t, p, hp => by
    unfold belL at hp
    rw [List.mem_flatMap] at hp
    obtain ⟨e, he, hp⟩ := hp
    have ht : t < ds.length := by
      by_cases ht : t < ds.length
      · exact ht
      · rw [List.getElem?_eq_none (by omega)] at he; simp [id0] at he
    have hn : nameF (mkB e.1.toList) = 0 := by
      rw [ByteArray.toList_eq, mkB_data]
      exact ents_name h ht he
    rw [List.mem_cons] at hp
    rcases hp with rfl | hp
    · exact ⟨[e.1.toList], by simp [joinL], by simp, by simp, by simpa using hn⟩
    · obtain ⟨ys, rfl, h1, h2, h3⟩ := bel_joined h k _ _ p hp
      refine ⟨e.1.toList :: ys, by rw [joinL_cons]; simp, by simp, by simp; omega, fun y hy => ?_⟩
      rw [List.mem_cons] at hy
      rcases hy with rfl | hy
      · exact hn
      · exact h3 y hy
/-- The paths of a file system. -/
def toldL (d : FD) : List (List UInt8) := (belL d.1 6 [] 0).take 60
theorem told_ok {d : FD} (h : insF d.1 = 0) {p : List UInt8} (hp : p ∈ toldL d) : pathF p = 0 ∧ splitL p = cutB (p.drop 1) ∧ p.length ≤ 30 := by
  obtain ⟨ys, rfl, h1, h2, h3⟩ := bel_joined h 6 [] 0 p (List.mem_of_mem_take hp)
  rw [List.nil_append]
  obtain ⟨a, b, c⟩ := joined_ok h1 h2 h3
  exact ⟨a, b.trans c.symm, (path_head a).2⟩
/-- Where a path leads. -/
def leadW (d : FD) (p : List UInt8) : Int × Int := wkR d.1 0 (cutB (p.drop 1))
theorem wkR_no (ds : List ID) : ∀ (xs : List (List UInt8)) (t : Nat), ¬ (wkR ds t xs).1 = 0 → (wkR ds t xs).2 = 0
  | [], t, h => absurd rfl h
  | s :: ns, t, h => by
    unfold wkR at h ⊢
    by_cases h1 : kindAt ds t = 2
    · rw [if_pos h1] at h ⊢
      by_cases h2 : idxE (ds[t]?.getD id0).2.2.2.2 (mkB s) < (ds[t]?.getD id0).2.2.2.2.length
      · rw [if_pos h2] at h ⊢
        exact wkR_no ds ns _ h
      · rw [if_neg h2]
    · rw [if_neg h1]
def leadB (d : FD) (x : Int) (p : List UInt8) : Bool := decide ((leadW d p).1 = 0) && decide ((leadW d p).2 = x)
theorem leadB_two (d : FD) (x : Int) (p : List UInt8) (hx : ¬ x = 0) : leadB d x p = decide ((leadW d p).2 = x) := by
  unfold leadB
  by_cases h : (leadW d p).1 = 0
  · simp [h]
  · have h2 : (leadW d p).2 = 0 := wkR_no _ _ _ h
    have h3 : ¬ (0 : Int) = x := fun e => hx e.symm
    simp [h, h2, h3]
/-- The first one that m holds of. -/
def findP (m : List UInt8 → Bool) : List (List UInt8) → Int × List UInt8
  | [] => (4, [])
  | p :: ps => if m p = true then (0, p) else findP m ps
theorem findP_hit {m : List UInt8 → Bool} : ∀ (ps : List (List UInt8)) (j : Nat), j < ps.length → (∀ i, i < j → m (ps[i]?.getD []) = false) → m (ps[j]?.getD []) = true → findP m ps = (0, ps[j]?.getD [])
  | [], j, h, _, _ => by simp at h
  | p :: ps, 0, _, _, h2 => by
    unfold findP
    have : m p = true := h2
    rw [if_pos this]; rfl
  | p :: ps, j + 1, h, h1, h2 => by
    unfold findP
    have h0 : m p = false := h1 0 (by omega)
    rw [if_neg (by rw [h0]; simp)]
    simpa using findP_hit ps j (by simpa using h) (fun i hi => by simpa using h1 (i + 1) (by omega)) (by simpa using h2)
theorem findP_miss {m : List UInt8 → Bool} : ∀ (ps : List (List UInt8)), (∀ i, i < ps.length → m (ps[i]?.getD []) = false) → findP m ps = (4, [])
  | [], _ => rfl
  | p :: ps, h => by
    unfold findP
    have h0 : m p = false := h 0 (by simp)
    rw [if_neg (by rw [h0]; simp)]
    exact findP_miss ps fun i hi => by simpa using h (i + 1) (by simpa using hi)
/-- PathOf. -/
def pathQ (d : FD) (x : Int) : Int × List UInt8 := if 0 ≤ x ∧ x < (d.1.length : Int) then (if x = 0 then (0, [47]) else findP (leadB d x) (toldL d)) else (3, [])
def pathR (d : FD) (x : Int) : Int × List UInt8 := if fsF d = 0 then pathQ d x else (fsF d, [])
end Go.Proofs.YtlohgnidbkechaaGreatDoor
