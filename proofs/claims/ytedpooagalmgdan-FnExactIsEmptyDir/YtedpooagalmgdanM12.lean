/- Directories: where a name stands; IsEmptyDir and LookName, of the program and of the specification. Directories: LookName, of the program and of the specification. strings.Builder: a byte and a text written. The library's iterator over a list of texts. slices.Values, and a builder's text. The specification's l3Split. The specification's l3Split, whole. The last name of a path: the specification's side. Joining names to a path: the specification's side. The program's JoinPath. The last name of a path: both sides. Lists of texts as arguments; the specification's JoinPath; the law of JoinPath. Whether a path lies below another one: the specification's side. Splitting a path: the contracts of the law. Lists of texts in own memory; answers that hold one, in the one form. Directories: NamesIn, of the program and of the specification. From the reading of an argument to the lists that it holds. No program is named here. What the rows of this seat share: how a disk that came in is opened. -/
import Derived.Test.YtedpooagalmgdanM11
import Derived.BigQuiet
import Derived.Test.YtedpooagalmgdanM01
import Derived.Test.YtedpooagalmgdanM02
import Derived.Lib.Builder
import Derived.Lib.AppendStr
import Derived.Laws.Externs
import Derived.Lib.UnsafeStr
import Derived.Shelf.RegionOpenPlain
import Derived.Test.YtedpooagalmgdanM00
import Derived.Deep.RegionLaw
import Derived.ProofKit
import Derived.Deep.Slices
import Derived.Deep.SlicePairs
import Derived.Lib.SmallJoins
import Derived.Test.YtedpooagalmgdanRows
namespace Go.Proofs.Ytedpooagalmgdan
open Go.RowKit
set_option maxRecDepth 100000

/-- Where a name stands among entries, or -1. -/
def at8 (es : List EN) (s : ByteArray) : Int := if idxE es s < es.length then ((idxE es s : Nat) : Int) else -1
/-- What lies at the place of a directory: its entries. -/
theorem FsR.dir {w : World} {a1 : Option Addr} {n1 c1 : Nat} {v2 : Value} {d : FD} (h : FsR w (.slice a1 n1 c1) v2 d) {j : Nat} (hj : j < d.1.length) : ∃ b0 o0 aE cE, a1 = some ⟨b0, o0, none⟩ ∧ n1 = d.1.length ∧ w.cell? ⟨b0, o0 + j * 5 + 4, none⟩ = some (.slice aE (entA d j).length cE) ∧ Ents w (.slice aE (entA d j).length cE) (entA d j) := by
  obtain ⟨_, _, e1, _, hAt⟩ := h.1.open'
  simp only [Value.slice.injEq] at e1
  obtain ⟨rfl, rfl, rfl⟩ := e1
  obtain ⟨b0, o0, rfl, hI⟩ := hAt j hj
  obtain ⟨aB, cB, aE, cE, _, _, _, _, k4, hR⟩ := hI
  exact ⟨b0, o0, aE, cE, rfl, rfl, k4, hR.2.2⟩

set_option maxHeartbeats 1600000 in
theorem implEmptyU (w : World) (a1 : Option Addr) (n1 c1 : Nat) (a2 : Option Addr) (n2 c2 : Nat) (d : FD) (x : Int) (h : FsR w (.slice a1 n1 c1) (.slice a2 n2 c2) d) (hs : sizeFs d ≤ 1048576) :
    Calls Try.prog 15 #[.agg #[.slice a1 n1 c1, .slice a2 n2 c2], .int .i64 x] w fun e w' => e = .returned (.bool (emptyB d x)) ∧ Below w.heap.size w w' := by
  have HF : Hid (∀ W, Below w.heap.size w W → Calls Try.prog 21 #[.agg #[.slice a1 n1 c1, .slice a2 n2 c2], .int .i64 x] W fun e w' => e = .returned (.int .i64 (dirQ d x)) ∧ Below W.heap.size W w') := fun W hW => dirPlaceFault_any W _ _ _ _ _ _ d x (h.later hW) (by unfold sizeFs at hs; omega)
  have HX : Hid (Bx (w.alloc (.cells #[.slice a1 n1 c1, .slice a2 n2 c2] 33)) w.heap.size [.slice a1 n1 c1, .slice a2 n2 c2]) := Bx.new w [.slice a1 n1 c1, .slice a2 n2 c2] _
  by_cases hq : dirQ d x = 0
  · have HR : Hid (emptyB d x = decide ((entA d x.toNat).length = 0)) := by unfold Hid emptyB; rw [decide_eq_true hq, Bool.true_and]
    rw [HR.out]
    have hds := dirS hq
    obtain ⟨_, hp, _⟩ := dirQ_in hq
    obtain ⟨j, rfl⟩ : ∃ j : Nat, x = (j : Int) := ⟨x.toNat, by omega⟩
    rw [Int.toNat_natCast] at hds ⊢
    obtain ⟨b0, o0, aE, cE, rfl, rfl, k4, hE⟩ := h.dir hds.lt
    have HK4 : Hid (_ = _) := k4
    have hjn : (j : Int) < ((d.1.length : Nat) : Int) := by omega
    have hlt := hds.lt
    have h6 := hds.six
    have HE : Hid (((((entA d j).length : Nat) : Int) == 0) = decide ((entA d j).length = 0)) := by
      unfold Hid
      by_cases e : (entA d j).length = 0
      · rw [decide_eq_true e, e]; rfl
      · rw [decide_eq_false e]; exact beq_eq_false_iff_ne.2 (by omega)
    rw [← HE.out]
    rw [hq] at HF
    clear hq HR hds hp hE k4 HE h
    generalize (entA d j).length = m at *
    generalize d.1.length = n at *
    go_enter Try.func15, Try.ntmps15
    go_wp2_with fail
    refine (HF.out _ (later1 _ _)).mono ?_
    rintro e w1 ⟨rfl, hb1⟩
    have HB1 : Hid (Below w.heap.size w w1) := (later1 _ _).trans (hb1.mono (by simp))
    have y0 := (HX.out.later hb1) 0 _ rfl
    have y1 := (HX.out.later hb1) 1 _ rfl
    have k1 := cell_later HB1.out HK4.out
    clear hb1
    go_wp2
    go_ret
    exact ⟨rfl, HB1.out⟩
  · have HR : Hid (emptyB d x = false) := by unfold Hid emptyB; rw [decide_eq_false hq]; rfl
    rw [HR.out]
    have hb : (dirQ d x == 0) = false := by simpa using hq
    clear hq HR h hs
    generalize dirQ d x = r at *
    go_enter Try.func15, Try.ntmps15
    go_wp2_with fail
    refine (HF.out _ (later1 _ _)).mono ?_
    rintro e w1 ⟨rfl, hb1⟩
    have HB1 : Hid (Below w.heap.size w w1) := (later1 _ _).trans (hb1.mono (by simp))
    clear hb1
    go_wp2
    go_ret
    exact ⟨rfl, HB1.out⟩

set_option maxHeartbeats 1600000 in
theorem specEmptyU (w : World) (a1 : Option Addr) (n1 c1 : Nat) (a2 : Option Addr) (n2 c2 : Nat) (d : FD) (x : Int) (h : FsR w (.slice a1 n1 c1) (.slice a2 n2 c2) d) (hs : sizeFs d ≤ 1048576) :
    Calls Try.prog 14 #[.agg #[.slice a1 n1 c1, .slice a2 n2 c2], .int .i64 x] w fun e w' => e = .returned (.bool (emptyB d x)) ∧ Below w.heap.size w w' := by
  obtain ⟨hx0, -, -⟩ := FsX.box h 33
  have HF : Hid (Calls Try.prog 18 #[.pointer (some ⟨w.heap.size, 0, none⟩), .int .i64 x] (w.alloc (.cells #[.slice a1 n1 c1, .slice a2 n2 c2] 33)) fun e w' => e = .returned (.int .i64 (dirQ d x)) ∧ Below (w.alloc (.cells #[.slice a1 n1 c1, .slice a2 n2 c2] 33)).heap.size (w.alloc (.cells #[.slice a1 n1 c1, .slice a2 n2 c2] 33)) w') := l8Asked_any _ _ _ d _ _ _ _ x hx0 (by unfold sizeFs at hs; omega)
  have HX : Hid (Bx (w.alloc (.cells #[.slice a1 n1 c1, .slice a2 n2 c2] 33)) w.heap.size [.slice a1 n1 c1, .slice a2 n2 c2]) := Bx.new w [.slice a1 n1 c1, .slice a2 n2 c2] _
  clear hx0
  by_cases hq : dirQ d x = 0
  · have HR : Hid (emptyB d x = decide ((entA d x.toNat).length = 0)) := by unfold Hid emptyB; rw [decide_eq_true hq, Bool.true_and]
    rw [HR.out]
    have hds := dirS hq
    obtain ⟨_, hp, _⟩ := dirQ_in hq
    obtain ⟨j, rfl⟩ : ∃ j : Nat, x = (j : Int) := ⟨x.toNat, by omega⟩
    rw [Int.toNat_natCast] at hds ⊢
    obtain ⟨b0, o0, aE, cE, rfl, rfl, k4, hE⟩ := h.dir hds.lt
    have HK4 : Hid (_ = _) := k4
    have hjn : (j : Int) < ((d.1.length : Nat) : Int) := by omega
    have hlt := hds.lt
    have h6 := hds.six
    have HE : Hid (((((entA d j).length : Nat) : Int) == 0) = decide ((entA d j).length = 0)) := by
      unfold Hid
      by_cases e : (entA d j).length = 0
      · rw [decide_eq_true e, e]; rfl
      · rw [decide_eq_false e]; exact beq_eq_false_iff_ne.2 (by omega)
    rw [← HE.out]
    rw [hq] at HF
    clear hq HR hds hp hE k4 HE h
    generalize (entA d j).length = m at *
    generalize d.1.length = n at *
    go_enter Try.func14, Try.ntmps14
    go_wp2_with fail
    refine HF.out.mono ?_
    rintro e w1 ⟨rfl, hb1⟩
    have HB1 : Hid (Below w.heap.size w w1) := (later1 _ _).trans (hb1.mono (by simp))
    have y0 := (HX.out.later hb1) 0 _ rfl
    have y1 := (HX.out.later hb1) 1 _ rfl
    have k1 := cell_later HB1.out HK4.out
    clear hb1
    go_wp2
    go_ret
    exact ⟨rfl, HB1.out⟩
  · have HR : Hid (emptyB d x = false) := by unfold Hid emptyB; rw [decide_eq_false hq]; rfl
    rw [HR.out]
    have hb : (dirQ d x == 0) = false := by simpa using hq
    clear hq HR h hs
    generalize dirQ d x = r at *
    go_enter Try.func14, Try.ntmps14
    go_wp2_with fail
    refine HF.out.mono ?_
    rintro e w1 ⟨rfl, hb1⟩
    have HB1 : Hid (Below w.heap.size w w1) := (later1 _ _).trans (hb1.mono (by simp))
    clear hb1
    go_wp2
    go_ret
    exact ⟨rfl, HB1.out⟩
end Go.Proofs.Ytedpooagalmgdan

namespace Go.Proofs.Ytedpooagalmgdan
open Go.RowKit
set_option maxRecDepth 100000

theorem dirN_in {d : FD} {x : Int} {s : ByteArray} (h : dirN d x s = 0) : dirQ d x = 0 := by
  unfold dirN at h
  by_cases e : dirQ d x = 0
  · exact e
  · rw [if_neg e] at h; exact absurd h e
theorem dirN_name {d : FD} {x : Int} {s : ByteArray} (h : dirN d x s = 0) : nameF s = 0 := by
  have h' := dirN_in h
  unfold dirN at h
  rw [if_pos h'] at h
  exact h
end Go.Proofs.Ytedpooagalmgdan

namespace Go.Proofs.Ytedpooagalmgdan
open Go.RowKit
set_option maxRecDepth 100000

theorem Try.infoByte : (Try.prog.info? 5).map (fun i => (i.zero, i.size, i.bytes)) = some (some (.int .u8 0), 1, 1) := by kernel_rfl
end Go.Proofs.Ytedpooagalmgdan

namespace Go.Proofs.Ytedpooagalmgdan
open Go.RowKit
set_option maxRecDepth 100000

theorem Try.cellsByte : Try.prog.cellsOf 5 = 1 := by kernel_rfl
end Go.Proofs.Ytedpooagalmgdan

namespace Go.Proofs.Ytedpooagalmgdan
open Go.RowKit
set_option maxRecDepth 100000

theorem sufB_at {l : List UInt8} {m : Nat} (h : l.length = m + 1) : sufB l = (l[m]?.getD 0 == 47) := by
  unfold sufB
  rw [List.getLast?_eq_getElem?, h, Nat.add_sub_cancel, List.getElem?_eq_getElem (by omega)]
  rfl
theorem preB_at {l : List UInt8} (h : 0 < l.length) : preB l = (l[0]?.getD 0 == 47) := by
  cases l with
  | nil => simp at h
  | cons b t => rfl
theorem byte_eq (b : UInt8) : ((b.toNat : Int) == 47) = (b == 47) := by
  by_cases h : b = 47
  · subst h; rfl
  · have hne : b.toNat ≠ 47 := fun e => h (UInt8.toNat_inj.1 (by rw [e]; rfl))
    have h1 : (b == 47) = false := by simpa using h
    rw [h1]
    simp; omega
theorem namesL_cut {p : List UInt8} (h0 : topB p = false) (hp : 0 < p.length) : namesL p = cutB (p.drop 1) := by
  unfold namesL
  rw [if_neg (by simpa [topB] using h0)]
  cases p with
  | nil => simp at hp
  | cons b t => rfl
/-- Where the specification's split sees a fault of the path's form. -/
def formBad (p : List UInt8) : Prop := p.length = 0 ∨ ¬ p[0]?.getD 0 = 47 ∨ p[p.length - 1]?.getD 0 = 47
theorem pathF_form {p : List UInt8} (h30 : ¬ 30 < p.length) (ht : topB p = false) (hb : formBad p) : pathF p = 5 := by
  unfold pathF
  rw [if_neg h30]
  rcases Nat.eq_zero_or_pos p.length with h0 | h0
  · have : p = [] := List.length_eq_zero_iff.1 h0
    subst this; rfl
  · rcases hb with hb | hb | hb
    · omega
    · rw [preB_at h0, if_neg (by simpa using hb)]
    · have hs : sufB p = true := by rw [sufB_at (m := p.length - 1) (by omega), hb]; rfl
      split
      · rw [if_pos ⟨hs, ht⟩]
      · rfl
theorem pathF_good {p : List UInt8} (h30 : ¬ 30 < p.length) (ht : topB p = false) (hb : ¬ formBad p) : pathF p = namesC (cutB (p.drop 1)) := by
  unfold formBad at hb
  have h0 : 0 < p.length := by omega
  have h1 : p[0]?.getD 0 = 47 := by
    by_cases e : p[0]?.getD 0 = 47
    · exact e
    · exact absurd (Or.inr (Or.inl e)) hb
  have h2 : ¬ p[p.length - 1]?.getD 0 = 47 := fun e => hb (Or.inr (Or.inr e))
  unfold pathF namesC
  have hs : sufB p = false := by rw [sufB_at (m := p.length - 1) (by omega)]; simpa using h2
  have hq : preB p = true := by rw [preB_at h0, h1]; rfl
  rw [if_neg h30, if_pos hq, if_neg (by rw [hs]; simp), namesL_cut ht h0]

end Go.Proofs.Ytedpooagalmgdan

namespace Go.Proofs.Ytedpooagalmgdan
open Go.RowKit
set_option maxRecDepth 100000

theorem cutB_mem (t : List UInt8) (k : Nat) : ((cutB t)[k]?.getD []).length ≤ t.length := by
  induction t generalizing k with
  | nil => cases k <;> simp [cutB]
  | cons b l ih =>
    simp only [cutB]
    split
    · cases k with
      | zero => simp
      | succ k => have := ih k; simp at this ⊢; omega
    · cases h : cutB l with
      | nil => cases k <;> simp [cutHead]
      | cons x y =>
        have h1 := ih k
        rw [h] at h1
        cases k with
        | zero => simp [cutHead] at h1 ⊢; omega
        | succ k => simp [cutHead] at h1 ⊢; omega

end Go.Proofs.Ytedpooagalmgdan

namespace Go.Proofs.Ytedpooagalmgdan
open Go.RowKit
set_option maxRecDepth 100000

def lastC (p : List UInt8) : Int := if pathF p = 0 then (if (namesL p).length = 0 then 4 else 0) else pathF p
def lastT (p : List UInt8) : List UInt8 := if pathF p = 0 then (namesL p)[(namesL p).length - 1]?.getD [] else []

theorem ownsRow_cap {w : World} {B : Nat} {e : TypeId} {a : Option Addr} {n m c : Nat} {xs : List Value} (h : w.ownsRow B e 1 (.slice a n c) m xs) : n ≤ c := by
  rcases h.2 with ⟨h1, _⟩ | ⟨g, cap, cur, h1, _, _, h2, _⟩ <;> simp only [Value.slice.injEq] at h1 <;> omega
theorem slice_takeT (a : Option Addr) (n c j : Nat) (hj : j ≤ c) :
    ∃ A C, (∀ W : World, (Instr.slice 27 (.slice a n c) none (some (.int .i64 (j : Int))) none).run Try.prog W = .ok (.slice A j C) W) ∧ ∀ (W : World) (xs : List (List UInt8)), j ≤ n → AtT W a n xs → AtT W A j xs := by
  obtain ⟨i, hi, _⟩ := info_parts Try.infoStr
  refine ⟨if c = 0 then a else a.map (·.add (0 * 1)), c - 0, fun W => ?_, fun W xs hjn h => ?_⟩
  · simp [Instr.slice, Instr.sliceBounds, Instr.sliceBound, asIntOf, run_underlying Try.underlying27, sizeOf, typeInfo, hi, hj]
  · by_cases hc : c = 0
    · intro k hk; omega
    · rw [if_neg hc]
      intro k hk
      obtain ⟨b, off, e, r⟩ := h k (by omega)
      subst e
      exact ⟨b, off, by simp [Addr.add], r⟩

end Go.Proofs.Ytedpooagalmgdan

namespace Go.Proofs.Ytedpooagalmgdan
open Go.RowKit
set_option maxRecDepth 100000

def joinL (xs : List (List UInt8)) : List UInt8 := xs.flatMap (47 :: ·)
def joinT (xs : List (List UInt8)) : List UInt8 := if joinL xs = [] then [47] else joinL xs
theorem joinL_step {xs : List (List UInt8)} {j : Nat} (h : j < xs.length) : joinL (xs.take (j + 1)) = joinL (xs.take j) ++ (47 :: xs[j]?.getD []) := by
  unfold joinL
  rw [List.take_add_one, List.flatMap_append, List.getElem?_eq_getElem h]
  simp
theorem joinL_len {xs : List (List UInt8)} {j B : Nat} (h : ∀ k : Nat, (xs[k]?.getD []).length ≤ B) (hj : j ≤ xs.length) : (joinL (xs.take j)).length ≤ j * (B + 1) := by
  induction j with
  | zero => simp [joinL]
  | succ j ih =>
    rw [joinL_step (by omega), List.length_append, List.length_cons, Nat.succ_mul]
    have := ih (by omega)
    have := h j
    omega

end Go.Proofs.Ytedpooagalmgdan

namespace Go.Proofs.Ytedpooagalmgdan
open Go.RowKit
set_option maxRecDepth 100000

theorem str_bytes (x : List UInt8) : Lib.strCells (mkB x) = Lib.byteCells x := by unfold Lib.strCells Lib.byteCells; rw [mkB_list]
theorem join_cells {xs : List (List UInt8)} {j : Nat} (h : j < xs.length) : Lib.byteCells (joinL (xs.take j)) ++ [.int .u8 47] ++ Lib.strCells (mkB (xs[j]?.getD [])) = Lib.byteCells (joinL (xs.take (j + 1))) := by
  rw [joinL_step h, str_bytes, Lib.byteCells_append]
  simp [Lib.byteCells]

end Go.Proofs.Ytedpooagalmgdan

namespace Go.Proofs.Ytedpooagalmgdan
open Go.RowKit
set_option maxRecDepth 100000

theorem lastT_bad {p : List UInt8} (h : ¬ lastC p = 0) : lastT p = [] := by
  unfold lastC at h
  unfold lastT
  by_cases h0 : pathF p = 0
  · rw [if_pos h0] at h ⊢
    have h1 : (namesL p).length = 0 := by
      by_cases e : (namesL p).length = 0
      · exact e
      · rw [if_neg e] at h; omega
    have : namesL p = [] := List.length_eq_zero_iff.1 h1
    rw [this]; rfl
  · rw [if_neg h0]

end Go.Proofs.Ytedpooagalmgdan

namespace Go.Proofs.Ytedpooagalmgdan
open Go.RowKit
set_option maxRecDepth 100000

/-- The slice v reads as the texts xs. -/
def Strs (w : World) (v : Value) (xs : List (List UInt8)) : Prop := ∃ a c, v = .slice a xs.length c ∧ xs.length ≤ maxLen ∧ (∀ k : Nat, (xs[k]?.getD []).length ≤ maxLen) ∧ AtT w a xs.length xs
def slens (xs : List (List UInt8)) : List Nat := xs.map List.length
theorem slens_length (xs : List (List UInt8)) : (slens xs).length = xs.length := by simp [slens]
theorem slens_get (xs : List (List UInt8)) (i : Nat) : (slens xs)[i]?.getD 0 = (xs[i]?.getD []).length := by
  unfold slens; rw [List.getElem?_map]; cases xs[i]? <;> rfl
def sizeT (xs : List (List UInt8)) : Nat := xs.length + (slens xs).sum
theorem slens_le (xs : List (List UInt8)) (k : Nat) : (xs[k]?.getD []).length ≤ (slens xs).sum := by
  by_cases h : k < xs.length
  · have h1 := upto_succ (slens xs) k (by rw [slens_length]; exact h)
    have h2 := upto_le (slens xs) (k + 1)
    rw [slens_get] at h1
    omega
  · rw [List.getElem?_eq_none (by omega)]; simp

/-- The text that JoinPath answers. -/
def joinX (xs : List (List UInt8)) : List UInt8 := if namesC xs = 0 then joinT xs else []
end Go.Proofs.Ytedpooagalmgdan

namespace Go.Proofs.Ytedpooagalmgdan
open Go.RowKit
set_option maxRecDepth 100000

/-- What splitting answers of a path: its code and its names. -/
def Spl (w w' : World) (p : List UInt8) (a : Option Addr) (c : Nat) : Prop := Below w.heap.size w w' ∧ AtT w' a (splitL p).length (splitL p) ∧ (splitL p).length ≤ c
theorem splitL_len (p : List UInt8) (hp : p.length ≤ 1048576) : (splitL p).length ≤ 1048577 := by
  unfold splitL
  split
  · have := namesL_len p; omega
  · simp
def belowB (p t : List UInt8) : Bool := decide (pathF p = 0) && (decide (pathF t = 0) && (decide ((splitL t).length < (splitL p).length) && decide ((splitL p).take (splitL t).length = splitL t)))
theorem take_no {xs ys : List (List UInt8)} {j : Nat} (hj : j < ys.length) (h : ¬ xs[j]?.getD [] = ys[j]?.getD []) : ¬ xs.take ys.length = ys := fun e => h (by
  have := congrArg (fun l => l[j]?.getD []) e
  simpa [List.getElem?_take, hj] using this)
theorem take_yes {xs ys : List (List UInt8)} (hl : ys.length < xs.length) (h : ∀ j, j < ys.length → xs[j]?.getD [] = ys[j]?.getD []) : xs.take ys.length = ys := by
  refine List.ext_getElem (by simp; omega) fun i h1 h2 => ?_
  have := h i h2
  rw [List.getElem?_eq_getElem (by omega), List.getElem?_eq_getElem h2] at this
  simpa using this

end Go.Proofs.Ytedpooagalmgdan

namespace Go.Proofs.Ytedpooagalmgdan
open Go.RowKit
set_option maxRecDepth 100000

/-- A list of texts that owns its block, or is empty. -/
def OwnT (w : World) (a : Option Addr) (n : Nat) (f : Nat → Value) (lo hi : Nat) : Prop := n = 0 ∨ ∃ g, a = some ⟨g, 0, none⟩ ∧ lo ≤ g ∧ g < hi ∧ OwnRow w g n f
def blkOf (a : Option Addr) (lo hi b : Nat) : Prop := a = some ⟨b, 0, none⟩ ∧ lo ≤ b ∧ b < hi
theorem OwnT.later {w w' : World} {a : Option Addr} {n : Nat} {f : Nat → Value} {lo hi : Nat} (h : OwnT w a n f lo hi) (hb : Below w.heap.size w w') : OwnT w' a n f lo hi := by
  rcases h with h | ⟨g, e, h1, h2, h3⟩
  · exact Or.inl h
  · exact Or.inr ⟨g, e, h1, h2, h3.block (hb.block g h3.lt)⟩
theorem ownT_row {w : World} {B : Nat} {e : TypeId} {a : Option Addr} {n c : Nat} {xs : List (List UInt8)} (h : w.ownsRow B e 1 (.slice a n c) xs.length (xs.map strV)) : OwnT w a n (fun i => strV (xs[i]?.getD [])) B w.heap.size := by
  obtain ⟨hl, ⟨h1, h2⟩ | ⟨g, cap, cur, h1, h2, h3, h4, h5, h6, h7⟩⟩ := h
  · simp only [Value.slice.injEq] at h1
    exact Or.inl h1.2.1
  · simp only [Value.slice.injEq] at h1
    refine Or.inr ⟨g, h1.1, h2, (Array.getElem?_eq_some_iff.1 h3).1, cur, e, h3, by rw [h1.2.1]; omega, fun i hi => ?_⟩
    rw [h1.2.1] at hi
    have h8 : (xs.map strV)[i]? = some (strV (xs[i]?.getD [])) := by rw [List.getElem?_map, List.getElem?_eq_getElem hi]; rfl
    rw [← h7, List.getElem?_take, if_pos (by omega), Array.getElem?_toList] at h8
    exact h8
theorem AtT.store {w : World} {a : Option Addr} {n : Nat} {xs : List (List UInt8)} {f : Nat → Value} {lo hi : Nat} (h : AtT w a n xs) (ho : OwnT w a n f lo hi) {p : Addr} (hp : p.block < lo) (v : Value) : AtT (w.setCell p v) a n xs := fun k hk => by
  rcases ho with h0 | ⟨g, e, h1, _, _⟩
  · omega
  · obtain ⟨b, off, e2, c0⟩ := h k hk
    refine ⟨b, off, e2, ?_⟩
    rw [e] at e2
    cases e2
    rw [← c0]
    exact World.cell?_of_block (Below.heap_setCell _ _ _ _ (fun e => by simp at e; omega))
theorem OwnT.store {w : World} {a : Option Addr} {n : Nat} {f : Nat → Value} {lo hi : Nat} (ho : OwnT w a n f lo hi) {p : Addr} (hp : p.block < lo) (v : Value) : OwnT (w.setCell p v) a n f lo hi := by
  rcases ho with h0 | ⟨g, e, h1, h2, h3⟩
  · exact Or.inl h0
  · exact Or.inr ⟨g, e, h1, h2, h3.store (by omega) v⟩
set_option maxHeartbeats 1600000 in
theorem eqNamesU (w : World) (z : Int) (a b : Option Addr) (n c d : Nat) (xs : List (List UInt8)) (hn : n ≤ 1048577) (h1 : AtT w a n xs) (h2 : AtT w b n xs) :
    Calls Try.prog 9 #[.agg #[.int .i64 z, .slice a n c], .agg #[.int .i64 z, .slice b n d]] w fun e w' => e = .returned (.bool true) ∧ Below w.heap.size w w' := by
  have H1 : Hid (AtT w a n xs) := h1
  have H2 : Hid (AtT w b n xs) := h2
  have hz : (z != z) = false := by simp
  clear h1 h2
  go_enter Try.func9, Try.ntmps9
  go_wp2_with fail
  refine (eqS_walk _ a b n c d xs hn (H1.out.later (later2 _ _ _)) (H2.out.later (later2 _ _ _))).mono ?_
  rintro e w1 ⟨rfl, m, rfl⟩
  go_wp2
  go_ret
  exact ⟨rfl, below_drewN (later2 _ _ _) m⟩
set_option maxHeartbeats 1600000 in
theorem markNamesU (w : World) (z : Int) (a : Option Addr) (n c k : Nat) (f : Nat → Value) (lo hi : Nat) (hk0 : 1 ≤ k) (hk : k + n ≤ 4294967296) (h : OwnT w a n f lo hi) :
    Calls Try.prog 12 #[.agg #[.int .i64 z, .slice a n c], .int .i64 (k : Int)] w fun e w' => e = .returned (.int .i64 ((k + n : Nat) : Int)) ∧ OwnT w' a n (fun i => mkT (k + i)) lo hi ∧ Chg (blkOf a lo hi) w w' := by
  have HM : Hid (∀ W, Below w.heap.size w W → Calls Try.prog 28 #[.slice a n c, .int .i64 (k : Int)] W fun e w' => e = .returned (.int .i64 ((k + n : Nat) : Int)) ∧ OwnT w' a n (fun i => mkT (k + i)) lo hi ∧ Chg (blkOf a lo hi) W w') := fun W hb => by
    rcases h with rfl | ⟨g, rfl, h1, h2, h3⟩
    · exact (markS_nil W a c k).mono fun e w' ⟨he, hw⟩ => ⟨he, Or.inl rfl, hw ▸ Chg.refl _ _⟩
    · exact (markS_walk W g c n k f hk0 hk (h3.block (hb.block g h3.lt))).mono fun e w' ⟨he, hr, hc⟩ => ⟨he, Or.inr ⟨g, rfl, h1, h2, hr⟩, hc.mono fun b e => by subst e; exact ⟨rfl, h1, h2⟩⟩
  clear h hk0 hk
  generalize k + n = s at *
  go_enter Try.func12, Try.ntmps12
  go_wp2_with fail
  refine (HM.out _ (later1 _ _)).mono ?_
  rintro e w1 ⟨rfl, ho, hc⟩
  have HO : Hid (OwnT w1 a n (fun i => mkT (k + i)) lo hi) := ho
  have HC : Hid (Chg (blkOf a lo hi) w w1) := (Chg.of_below (later1 _ _)).trans hc
  clear ho hc HM
  go_wp2
  go_ret
  exact ⟨rfl, HO.out, HC.out⟩
set_option maxHeartbeats 1600000 in
theorem heldNamesU (w : World) (z : Int) (a : Option Addr) (n c k : Nat) (lo hi : Nat) (hk0 : 1 ≤ k) (hk : k + n ≤ 4294967296) (h : OwnT w a n (fun i => mkT (k + i)) lo hi) :
    Calls Try.prog 13 #[.agg #[.int .i64 z, .slice a n c], .int .i64 (k : Int)] w fun e w' => e = .returned (.int .i64 ((k + n : Nat) : Int)) ∧ Below w.heap.size w w' := by
  have HM : Hid (∀ W, Below w.heap.size w W → Calls Try.prog 29 #[.slice a n c, .int .i64 (k : Int)] W fun e w' => e = .returned (.int .i64 ((k + n : Nat) : Int)) ∧ Below W.heap.size W w') := fun W hb => by
    rcases h with rfl | ⟨g, rfl, h1, h2, h3⟩
    · exact (heldS_nil W a c k).mono fun e w' ⟨he, hw⟩ => ⟨he, hw ▸ Below.refl _ _⟩
    · exact heldS_walk W g c n k hk0 hk (h3.block (hb.block g h3.lt))
  clear h hk0 hk
  generalize k + n = s at *
  have hs : decide ((s : Int) < 0) = false := by simp
  go_enter Try.func13, Try.ntmps13
  go_wp2_with fail
  refine (HM.out _ (later1 _ _)).mono ?_
  rintro e w1 ⟨rfl, hb⟩
  have HB : Hid (Below w.heap.size w w1) := (later1 _ _).trans (hb.mono (by simp))
  clear hb HM
  go_wp2
  go_ret
  exact ⟨rfl, HB.out⟩
end Go.Proofs.Ytedpooagalmgdan

namespace Go.Proofs.Ytedpooagalmgdan
open Go.RowKit
set_option maxRecDepth 100000

def StrR (w : World) (v : Value) (xs : List (List UInt8)) : Prop := ∃ a c, v = .slice a xs.length c ∧ xs.length ≤ 1048577 ∧ AtT w a xs.length xs
theorem StrR.later {w w' : World} {v : Value} {xs : List (List UInt8)} (h : StrR w v xs) (hb : Below w.heap.size w w') : StrR w' v xs := by
  obtain ⟨a, c, h1, h2, h3⟩ := h
  exact ⟨a, c, h1, h2, h3.later hb⟩
/-- The slice v holds the texts xs, in one block of F. -/
def StrsO (w : World) (v : Value) (xs : List (List UInt8)) (F : Nat → Prop) : Prop :=
  (xs = [] ∧ ∃ a cap, v = .slice a 0 cap) ∨ (∃ b cap, F b ∧ v = .slice (some ⟨b, 0, none⟩) xs.length cap ∧ xs.length ≤ 1048577 ∧ OwnRow w b xs.length (fun i => strV (xs[i]?.getD [])))
theorem StrsO.reads {w : World} {v : Value} {xs : List (List UInt8)} {F : Nat → Prop} (h : StrsO w v xs F) : StrR w v xs := by
  rcases h with ⟨rfl, a, cap, rfl⟩ | ⟨b, cap, _, h1, h2, h3⟩
  · exact ⟨a, cap, rfl, by simp, fun k hk => by simp at hk⟩
  · exact ⟨_, cap, h1, h2, fun k hk => ⟨b, 0, rfl, by rw [Nat.zero_add]; exact h3.cell hk⟩⟩
theorem StrsO.keep {w w' : World} {v : Value} {xs : List (List UInt8)} {F : Nat → Prop} (h : StrsO w v xs F) (e : ∀ b, F b → b < w.heap.size → w'.heap[b]? = w.heap[b]?) : StrsO w' v xs F := by
  rcases h with h | ⟨b, cap, hF, h1, h2, h3⟩
  · exact Or.inl h
  · exact Or.inr ⟨b, cap, hF, h1, h2, h3.block (e b hF h3.lt)⟩
theorem StrsO.mono {w : World} {v : Value} {xs : List (List UInt8)} {F G : Nat → Prop} (h : StrsO w v xs F) (e : ∀ b, F b → G b) : StrsO w v xs G := by
  rcases h with h | ⟨b, cap, hF, h1⟩
  · exact Or.inl h
  · exact Or.inr ⟨b, cap, e b hF, h1⟩
theorem StrsO.later {w w' : World} {v : Value} {xs : List (List UInt8)} {F : Nat → Prop} (h : StrsO w v xs F) (hb : Below w.heap.size w w') : StrsO w' v xs F := h.keep fun b _ hlt => hb.block b hlt
theorem StrsO.chg {w w' : World} {v : Value} {xs : List (List UInt8)} {F G : Nat → Prop} (h : StrsO w v xs F) (hc : Chg G w w') (hd : ∀ b, F b → ¬ G b) : StrsO w' v xs F := h.keep fun b hb hlt => hc.block b hlt (hd b hb)
def AnsNR (w : World) (r : Int × List (List UInt8)) (e : Ending) (w' : World) : Prop := ∃ a n c, e = .returned (.agg #[.int .i64 r.1, .slice a n c]) ∧ Below w.heap.size w w' ∧ StrsO w' (.slice a n c) r.2 (fresh w w')
theorem AnsNR.later {w w2 w3 : World} {r : Int × List (List UInt8)} {e : Ending} (h : AnsNR w r e w2) (hb : Below w2.heap.size w2 w3) : AnsNR w r e w3 := by
  obtain ⟨a, n, c, h1, h2, h3⟩ := h
  exact ⟨a, n, c, h1, h2.trans (hb.mono h2.size), (h3.later hb).mono fun b hh => ⟨hh.1, Nat.lt_of_lt_of_le hh.2 hb.size⟩⟩
theorem AnsNR.boxed {w W : World} {rb : Nat} {r : Int} {xs : List (List UInt8)} {a : Option Addr} {n c : Nat} (hB : Below w.heap.size w W) (hrb : w.heap.size ≤ rb) (hY : StrsO W (.slice a n c) xs (fun b => w.heap.size ≤ b ∧ b < W.heap.size ∧ b ≠ rb)) (x y : Value) : AnsNR w (r, xs) (.returned (.agg #[.int .i64 r, .slice a n c])) ((W.setCell ⟨rb, 0, none⟩ x).setCell ⟨rb, 1, none⟩ y) := by
  refine ⟨a, n, c, rfl, (hB.setCell hrb _).setCell hrb _, (hY.keep fun b hb _ => ?_).mono fun b hb => ?_⟩
  · rw [Below.heap_setCell _ _ _ _ hb.2.2, Below.heap_setCell _ _ _ _ hb.2.2]
  · unfold fresh
    simp only [World.setCell, Array.size_modify]
    exact ⟨hb.1, hb.2.1⟩
theorem AnsNR.none' {w W : World} {rb : Nat} (r : Int) (hB : Below w.heap.size w W) (hrb : w.heap.size ≤ rb) (x y : Value) : AnsNR w (r, []) (.returned (.agg #[.int .i64 r, .slice none 0 0])) ((W.setCell ⟨rb, 0, none⟩ x).setCell ⟨rb, 1, none⟩ y) := AnsNR.boxed hB hrb (Or.inl ⟨rfl, _, _, rfl⟩) x y

theorem eqNamesResultU (w : World) (c : Int) (va vb : Value) (xs : List (List UInt8)) (h1 : StrR w va xs) (h2 : StrR w vb xs) :
    Calls Try.prog 9 #[.agg #[.int .i64 c, va], .agg #[.int .i64 c, vb]] w fun e w' => e = .returned (.bool true) ∧ Below w.heap.size w w' := by
  obtain ⟨a, ca, rfl, hn, ha⟩ := h1
  obtain ⟨b, cb, rfl, _, hb⟩ := h2
  exact eqNamesU w c a b _ ca cb xs hn ha hb
def mkStrs (k : Int) (xs : List (List UInt8)) : List (List UInt8) := (List.range xs.length).map fun i => 109 :: dg (k.toNat + i) []
theorem mkStrs_length (k : Int) (xs : List (List UInt8)) : (mkStrs k xs).length = xs.length := by simp [mkStrs]
theorem mkStrs_get (k : Int) (xs : List (List UInt8)) {i : Nat} (h : i < xs.length) : strV ((mkStrs k xs)[i]?.getD []) = mkT (k.toNat + i) := by
  simp [mkStrs, h, strV, mkT]
theorem markNamesResultU (w : World) (c : Int) (v : Value) (xs : List (List UInt8)) (F : Nat → Prop) (k : Int) (h : StrsO w v xs F) (hk0 : 1 ≤ k) (hk : k + (List.length xs : Nat) ≤ 4294967296) :
    Calls Try.prog 12 #[.agg #[.int .i64 c, v], .int .i64 k] w fun e w' => e = .returned (.int .i64 (k + (List.length xs : Nat))) ∧ StrsO w' v (mkStrs k xs) F ∧ Chg F w w' := by
  obtain ⟨q, rfl⟩ : ∃ q : Nat, k = (q : Int) := ⟨k.toNat, by omega⟩
  rcases h with ⟨rfl, a, cap, rfl⟩ | ⟨b, cap, hF, rfl, h2, h3⟩
  · refine (markNamesU w c a 0 cap q (fun _ => .int .i64 0) 0 0 (by omega) (by simp at hk; omega) (Or.inl rfl)).mono ?_
    rintro e w' ⟨rfl, _, hc⟩
    exact ⟨by simp, Or.inl ⟨rfl, a, cap, rfl⟩, hc.mono fun b hb => by have := hb.2; omega⟩
  · by_cases hne : xs.length = 0
    · have hx : xs = [] := List.length_eq_zero_iff.1 hne
      subst hx
      refine (markNamesU w c (some ⟨b, 0, none⟩) 0 cap q (fun _ => .int .i64 0) 0 0 (by omega) (by simp at hk; omega) (Or.inl rfl)).mono ?_
      rintro e w' ⟨rfl, _, hc⟩
      exact ⟨by simp, Or.inl ⟨rfl, _, cap, rfl⟩, hc.mono fun b hb => by have := hb.2; omega⟩
    refine (markNamesU w c (some ⟨b, 0, none⟩) xs.length cap q _ b (b + 1) (by omega) (by omega) (Or.inr ⟨b, rfl, Nat.le_refl _, by omega, h3⟩)).mono ?_
    rintro e w' ⟨rfl, ho, hc⟩
    refine ⟨by simp, Or.inr ⟨b, cap, hF, by rw [mkStrs_length], by rw [mkStrs_length]; exact h2, ?_⟩, hc.mono fun b' hb => ?_⟩
    · rw [mkStrs_length]
      rcases ho with h0 | ⟨g, e1, _, _, hr⟩
      · exact absurd h0 hne
      · simp only [Option.some.injEq, Addr.mk.injEq, and_true] at e1
        subst e1
        exact hr.congr fun i hi => (mkStrs_get (q : Int) xs hi).symm
    · obtain ⟨e1, _⟩ := hb
      simp only [Option.some.injEq, Addr.mk.injEq, and_true] at e1
      subst e1
      exact hF
theorem heldNamesResultU (w : World) (c : Int) (v : Value) (xs : List (List UInt8)) (F : Nat → Prop) (k : Int) (h : StrsO w v (mkStrs k xs) F) (hk0 : 1 ≤ k) (hk : k + (List.length xs : Nat) ≤ 4294967296) :
    Calls Try.prog 13 #[.agg #[.int .i64 c, v], .int .i64 k] w fun e w' => e = .returned (.int .i64 (k + (List.length xs : Nat))) ∧ Below w.heap.size w w' := by
  obtain ⟨q, rfl⟩ : ∃ q : Nat, k = (q : Int) := ⟨k.toNat, by omega⟩
  rcases h with ⟨h0, a, cap, rfl⟩ | ⟨b, cap, hF, rfl, h2, h3⟩
  · have hx : xs.length = 0 := by have := mkStrs_length (q : Int) xs; rw [h0] at this; simpa using this.symm
    rw [hx] at hk ⊢
    refine (heldNamesU w c a 0 cap q 0 0 (by omega) (by omega) (Or.inl rfl)).mono ?_
    rintro e w' ⟨rfl, hb⟩
    exact ⟨by simp, hb⟩
  · rw [mkStrs_length] at h3 ⊢
    refine (heldNamesU w c (some ⟨b, 0, none⟩) xs.length cap q b (b + 1) (by omega) (by omega) (Or.inr ⟨b, rfl, Nat.le_refl _, by omega, h3.congr fun i hi => mkStrs_get (q : Int) xs hi⟩)).mono ?_
    rintro e w' ⟨rfl, hb⟩
    exact ⟨by simp, hb⟩
end Go.Proofs.Ytedpooagalmgdan

namespace Go.Proofs.Ytedpooagalmgdan
open Go.RowKit
set_option maxRecDepth 100000

theorem mkB_of (x : ByteArray) : mkB x.toList = x := by rw [ByteArray.toList_eq]; exact mkB_data x
theorem nameF_four {s : ByteArray} (h : nameF s = 0) : s.size ≤ 4 := by
  by_cases h4 : 4 < s.size
  · exfalso
    unfold nameF at h
    rw [if_neg (by omega)] at h
    by_cases ha : s.data.toList.all byB = true
    · rw [if_pos ha, if_pos h4] at h; omega
    · rw [if_neg ha] at h; omega
  · omega
/-- Texts in memory that the call made since n₀. -/
def WdT (w : World) (n₀ : Nat) (v : Value) (xs : List (List UInt8)) : Prop := w.ownsRow n₀ 9 1 v xs.length (xs.map strV)
theorem WdT.later {w w' : World} {n₀ : Nat} {v : Value} {xs : List (List UInt8)} (h : WdT w n₀ v xs) (hb : Below w.heap.size w w') : WdT w' n₀ v xs := ownsRow_later h hb
theorem WdT.shape {w : World} {n₀ : Nat} {v : Value} {xs : List (List UInt8)} (h : WdT w n₀ v xs) : ∃ a c, v = .slice a xs.length c := ownsRow_shape h
theorem WdT.nil (w : World) (n₀ : Nat) : WdT w n₀ (.slice none 0 0) [] := ⟨by simp, Or.inl ⟨rfl, rfl⟩⟩
theorem WdT.own {w : World} {n₀ : Nat} {v : Value} {xs : List (List UInt8)} (h : WdT w n₀ v xs) (hl : xs.length ≤ 1048577) : StrsO w v xs (fun b => n₀ ≤ b ∧ b < w.heap.size) := by
  obtain ⟨a, c, rfl⟩ := h.shape
  rcases ownT_row h with h0 | ⟨g, rfl, h1, h2, h3⟩
  · have : xs = [] := List.length_eq_zero_iff.1 h0
    subst this
    exact Or.inl ⟨rfl, a, c, rfl⟩
  · exact Or.inr ⟨g, c, ⟨h1, h2⟩, rfl, hl, h3⟩
theorem WdT.push (w : World) (n₀ : Nat) (v : Value) (xs : List (List UInt8)) (y : List UInt8) (h : WdT w n₀ v xs) (hn₀ : n₀ ≤ w.heap.size) (hn : xs.length ≤ 1048577) :
    ∃ v' X, (Builtin.append_ #[27, 27] 27 #[v, .slice (some ⟨w.heap.size, 0, none⟩) 1 1]).run Try.prog (w.alloc (.cells #[.string (mkB y)] 9)) = .ok v' X ∧ WdT X n₀ v' (xs ++ [y]) ∧ Below n₀ w X := by
  obtain ⟨v', X, h1, h2, h3⟩ := append_strN w n₀ v xs.length (xs.map strV) y (by simp) h hn₀ hn
  refine ⟨v', X, h1, ?_, h3⟩
  unfold WdT
  rw [List.length_append, List.map_append]
  exact h2
def nmsK (es : List EN) (k : Nat) : List (List UInt8) := (es.take k).map fun e => e.1.toList
theorem nmsK_len (es : List EN) {k : Nat} (h : k ≤ es.length) : (nmsK es k).length = k := by simp [nmsK]; omega
theorem nmsK_succ (es : List EN) {k : Nat} (h : k < es.length) : nmsK es k ++ [(es[k]?.getD en0).1.toList] = nmsK es (k + 1) := by
  unfold nmsK
  rw [List.take_add_one, List.getElem?_eq_getElem h, List.map_append]
  rfl
theorem nmsK_all (es : List EN) : nmsK es es.length = es.map fun e => e.1.toList := by unfold nmsK; rw [List.take_length]
theorem namesD_len (d : FD) (x : Int) : (namesD d x).2.length ≤ 6 := by
  unfold namesD
  by_cases h : dirQ d x = 0
  · rw [if_pos h]
    have := (dirS h).six
    simpa using this
  · rw [if_neg h]; simp

set_option maxHeartbeats 3200000 in
theorem implNamesU (w : World) (a1 : Option Addr) (n1 c1 : Nat) (a2 : Option Addr) (n2 c2 : Nat) (d : FD) (x : Int) (h : FsR w (.slice a1 n1 c1) (.slice a2 n2 c2) d) (hs : sizeFs d ≤ 1048576) :
    Calls Try.prog 8 #[.agg #[.slice a1 n1 c1, .slice a2 n2 c2], .int .i64 x] w (AnsNR w (namesD d x)) := by
  have HB0 : Hid (Below w.heap.size w ((w.alloc (.cells #[.slice a1 n1 c1, .slice a2 n2 c2] 33)).alloc (.cells #[.int .i64 0, .slice none 0 0] 29))) := later2 _ _ _
  have HX : Hid (Bx ((w.alloc (.cells #[.slice a1 n1 c1, .slice a2 n2 c2] 33)).alloc (.cells #[.int .i64 0, .slice none 0 0] 29)) w.heap.size [.slice a1 n1 c1, .slice a2 n2 c2]) := (Bx.new w [.slice a1 n1 c1, .slice a2 n2 c2] _).later (later1 _ _)
  have HRB : Hid (OwnRow ((w.alloc (.cells #[.slice a1 n1 c1, .slice a2 n2 c2] 33)).alloc (.cells #[.int .i64 0, .slice none 0 0] 29)) (w.heap.size + 1) 2 (fun i => if i = 0 then .int .i64 0 else .slice none 0 0)) := by
    have := OwnRow.newS (w.alloc (.cells #[.slice a1 n1 c1, .slice a2 n2 c2] 33)) (.int .i64 0) (.slice none 0 0) 29
    rw [World.size_alloc] at this
    exact this
  have HF : Hid (∀ W, Below w.heap.size w W → Calls Try.prog 21 #[.agg #[.slice a1 n1 c1, .slice a2 n2 c2], .int .i64 x] W fun e w' => e = .returned (.int .i64 (dirQ d x)) ∧ Below W.heap.size W w') := fun W hW => dirPlaceFault_any W _ _ _ _ _ _ d x (h.later hW) (by unfold sizeFs at hs; omega)
  have HRR : Hid (namesD d x = if dirQ d x = 0 then (0, (entA d x.toNat).map fun e => e.1.toList) else (dirQ d x, [])) := rfl
  rw [HRR.out]
  clear HRR
  by_cases hq : dirQ d x = 0
  rotate_left
  · rw [if_neg hq]
    have hb : (dirQ d x != 0) = true := by simpa using hq
    clear hq h hs
    generalize dirQ d x = r at *
    go_enter Try.func8, Try.ntmps8
    go_wp2_with fail
    generalize ((w.alloc (.cells #[.slice a1 n1 c1, .slice a2 n2 c2] 33)).alloc (.cells #[.int .i64 0, .slice none 0 0] 29)) = W0 at *
    refine (HF.out _ HB0.out).mono ?_
    rintro e w1 ⟨rfl, hb1⟩
    have HB1 : Hid (Below w.heap.size w w1) := HB0.out.trans (hb1.mono HB0.out.size)
    have hrow := HRB.out.later hb1
    have t0 := hrow.cell (i := 0) (by omega)
    have t1 := hrow.cell (i := 1) (by omega)
    have s0 := hrow.frozen 0
    have s1 := hrow.frozen 1
    simp at t0 t1
    clear hb1 hrow
    go_wp2
    exact bodyPost_ret (v := .agg #[.int .i64 r, .slice none 0 0]) (by simp [results, Try.results8, go_sem, t0, t1]) rfl (AnsNR.none' r HB1.out (by omega) _ _)
  · rw [if_pos hq]
    have hds := dirS hq
    obtain ⟨_, hp, _⟩ := dirQ_in hq
    obtain ⟨j, rfl⟩ : ∃ j : Nat, x = (j : Int) := ⟨x.toNat, by omega⟩
    rw [Int.toNat_natCast] at hds ⊢
    obtain ⟨b0, o0, aE, cE, rfl, rfl, k4, hE⟩ := h.dir hds.lt
    have HK4 : Hid (_ = _) := k4
    have hjn : (j : Int) < ((d.1.length : Nat) : Int) := by omega
    have hlt := hds.lt
    have h6 := hds.six
    have HNM : Hid (∀ k : Nat, k < (entA d j).length → ((entA d j)[k]?.getD en0).1.size ≤ 4) := fun k hk => nameF_four (hds.names k hk)
    obtain ⟨_, _, eE, _, _, hAt⟩ := hE.open'
    simp only [Value.slice.injEq] at eE
    obtain ⟨rfl, -, rfl⟩ := eE
    rw [hq] at HF
    have HAT : Hid (AtN w aE (entA d j).length (entA d j)) := hAt
    rw [← nmsK_all]
    clear hq hds hp hE k4 h hAt
    generalize entA d j = es at *
    obtain ⟨m, hm⟩ : ∃ m, es.length = m := ⟨_, rfl⟩
    have HM : Hid (es.length = m) := hm
    rw [hm] at HK4 HNM HAT h6 ⊢
    clear hm
    generalize d.1.length = n at *
    go_enter Try.func8, Try.ntmps8
    go_wp2_with fail
    generalize ((w.alloc (.cells #[.slice (some ⟨b0, o0, none⟩) n c1, .slice a2 n2 c2] 33)).alloc (.cells #[.int .i64 0, .slice none 0 0] 29)) = W0 at *
    refine (HF.out _ HB0.out).mono ?_
    rintro e w1 ⟨rfl, hb1⟩
    have HB1 : Hid (Below w.heap.size w w1) := HB0.out.trans (hb1.mono HB0.out.size)
    have HR1 : Hid (OwnRow w1 (w.heap.size + 1) 2 (fun i => if i = 0 then .int .i64 0 else .slice none 0 0)) := HRB.out.later hb1
    have y0 := (HX.out.later hb1) 0 _ rfl
    have y1 := (HX.out.later hb1) 1 _ rfl
    have k1 := cell_later HB1.out HK4.out
    have hlw : w.heap.size + 1 < w1.heap.size := HR1.out.lt
    have HN0 : Hid ([] = nmsK es 0) := rfl
    clear hb1
    go_wp2_with fail
    clear y0 y1 k1
    go_loopw [6, 23] (fun vv i wr => ∃ k : Nat, k ≤ m ∧ i = .int .i64 k ∧ Below w1.heap.size w1 wr ∧ WdT wr w1.heap.size vv (nmsK es k)) (fun _ i _ => m - (intOf i).toNat)
    case atStart => exact ⟨0, Nat.zero_le _, rfl, Below.refl _ _, HN0.out ▸ WdT.nil _ _⟩
    case round =>
      obtain ⟨k, hk, rfl, hbl, hwd⟩ := hrel
      obtain ⟨av, cv, rfl⟩ := hwd.shape
      have HBL : Hid (Below w1.heap.size w1 wr) := hbl
      have HWD : Hid (WdT wr w1.heap.size (.slice av (nmsK es k).length cv) (nmsK es k)) := hwd
      have HBW : Hid (Below w.heap.size w wr) := HB1.out.trans (hbl.mono HB1.out.size)
      have HLK : Hid ((nmsK es k).length = k) := nmsK_len es (by rw [HM.out]; exact hk)
      clear hbl hwd
      by_cases hlk : k < m
      · obtain ⟨b, off, rfl, e0, e1⟩ := HAT.out k hlk
        replace e0 := cell_later HBW.out e0
        replace e1 := cell_later HBW.out e1
        have hsz := HNM.out k hlk
        have HNX : Hid (nmsK es k ++ [(es[k]?.getD en0).1.toList] = nmsK es (k + 1)) := nmsK_succ es (by rw [HM.out]; exact hlk)
        have HCL : Hid (∀ W, Calls Try.prog 22 #[.string (es[k]?.getD en0).1] W fun e w' => e = .returned (.string (es[k]?.getD en0).1) ∧ Below W.heap.size W w') := fun W => by
          have := clone_any W (es[k]?.getD en0).1.toList (by
            have h1 : (es[k]?.getD en0).1.toList.length = (es[k]?.getD en0).1.size := by rw [ByteArray.toList_eq]; exact Array.length_toList
            omega)
          rw [mkB_of] at this
          exact this
        have HMB : Hid (mkB (es[k]?.getD en0).1.toList = (es[k]?.getD en0).1) := mkB_of _
        generalize (es[k]?.getD en0).1 = nm at *
        generalize (es[k]?.getD en0).2 = ni at *
        go_wp2_with fail
        refine (HCL.out _).mono ?_
        rintro e w3 ⟨rfl, hb3⟩
        have hb3' : Below wr.heap.size wr w3 := (later1 _ _).trans (hb3.mono (by simp))
        obtain ⟨v', X, hr, hwx, hbx⟩ := WdT.push w3 w1.heap.size _ _ nm.toList (HWD.out.later hb3') (by have := HBL.out.size; have := hb3'.size; omega) (by rw [HLK.out]; omega)
        rw [HNX.out] at hwx
        rw [HMB.out] at hr
        have HRN : Hid (_ = _) := hr
        have HWX : Hid (WdT X w1.heap.size v' (nmsK es (k + 1))) := hwx
        have HBX2 : Hid (Below w1.heap.size w1 X) := (HBL.out.trans (hb3'.mono HBL.out.size)).trans hbx
        clear hr hwx hbx hb3 hb3' HWD HNX HCL HMB
        go_wp2_with (first | refine wpList_append_run rfl _ _ 27 rfl _ _ rfl rfl _ _ HRN.out ?_ | fail)
        go_roundw
        case rel => exact ⟨k + 1, by omega, by go_num, HBX2.out, HWX.out⟩
        case measure => simp [intOf]; omega
      · have e : m = k := by omega
        subst e
        have HST : Hid (StrsO wr (.slice av (nmsK es m).length cv) (nmsK es m) (fun b => w.heap.size ≤ b ∧ b < wr.heap.size ∧ b ≠ w.heap.size + 1)) := (HWD.out.own (by rw [HLK.out]; omega)).mono fun b hb => ⟨by omega, hb.2, by omega⟩
        have hrow := HR1.out.later HBL.out
        have t0 := hrow.cell (i := 0) (by omega)
        have t1 := hrow.cell (i := 1) (by omega)
        have s0 := hrow.frozen 0
        have s1 := hrow.frozen 1
        simp at t0 t1
        clear hrow HWD HLK
        generalize (nmsK es m).length = ln at *
        go_wp2
        exact bodyPost_ret (v := .agg #[.int .i64 0, .slice av ln cv]) (by simp [results, Try.results8, go_sem, t0, t1]) rfl (AnsNR.boxed HBW.out (by omega) HST.out _ _)

set_option maxHeartbeats 6400000 in
theorem specNamesU (w : World) (a1 : Option Addr) (n1 c1 : Nat) (a2 : Option Addr) (n2 c2 : Nat) (d : FD) (x : Int) (h : FsR w (.slice a1 n1 c1) (.slice a2 n2 c2) d) (hs : sizeFs d ≤ 1048576) :
    Calls Try.prog 6 #[.agg #[.slice a1 n1 c1, .slice a2 n2 c2], .int .i64 x] w (AnsNR w (namesD d x)) := by
  obtain ⟨hx0, -, -⟩ := FsX.box h 33
  have HB0 : Hid (Below w.heap.size w ((w.alloc (.cells #[.slice a1 n1 c1, .slice a2 n2 c2] 33)).alloc (.cells #[.int .i64 0, .slice none 0 0] 29))) := later2 _ _ _
  have HX : Hid (Bx ((w.alloc (.cells #[.slice a1 n1 c1, .slice a2 n2 c2] 33)).alloc (.cells #[.int .i64 0, .slice none 0 0] 29)) w.heap.size [.slice a1 n1 c1, .slice a2 n2 c2]) := (Bx.new w [.slice a1 n1 c1, .slice a2 n2 c2] _).later (later1 _ _)
  have HRB : Hid (OwnRow ((w.alloc (.cells #[.slice a1 n1 c1, .slice a2 n2 c2] 33)).alloc (.cells #[.int .i64 0, .slice none 0 0] 29)) (w.heap.size + 1) 2 (fun i => if i = 0 then .int .i64 0 else .slice none 0 0)) := by
    have := OwnRow.newS (w.alloc (.cells #[.slice a1 n1 c1, .slice a2 n2 c2] 33)) (.int .i64 0) (.slice none 0 0) 29
    rw [World.size_alloc] at this
    exact this
  have HF : Hid (∀ W, Below ((w.alloc (.cells #[.slice a1 n1 c1, .slice a2 n2 c2] 33)).alloc (.cells #[.int .i64 0, .slice none 0 0] 29)).heap.size ((w.alloc (.cells #[.slice a1 n1 c1, .slice a2 n2 c2] 33)).alloc (.cells #[.int .i64 0, .slice none 0 0] 29)) W → Calls Try.prog 18 #[.pointer (some ⟨w.heap.size, 0, none⟩), .int .i64 x] W fun e w' => e = .returned (.int .i64 (dirQ d x)) ∧ Below W.heap.size W w') := fun W hW => l8Asked_any W _ _ d _ _ _ _ x ((hx0.later (later1 _ _)).later hW) (by unfold sizeFs at hs; omega)
  have HRR : Hid (namesD d x = if dirQ d x = 0 then (0, (entA d x.toNat).map fun e => e.1.toList) else (dirQ d x, [])) := rfl
  rw [HRR.out]
  clear HRR hx0
  by_cases hq : dirQ d x = 0
  rotate_left
  · rw [if_neg hq]
    have hb : (dirQ d x != 0) = true := by simpa using hq
    clear hq h hs
    generalize dirQ d x = r at *
    go_enter Try.func6, Try.ntmps6
    go_wp2_with fail
    generalize ((w.alloc (.cells #[.slice a1 n1 c1, .slice a2 n2 c2] 33)).alloc (.cells #[.int .i64 0, .slice none 0 0] 29)) = W0 at *
    refine (HF.out _ (Below.refl _ _)).mono ?_
    rintro e w1 ⟨rfl, hb1⟩
    have HB1 : Hid (Below w.heap.size w w1) := HB0.out.trans (hb1.mono HB0.out.size)
    have hrow := HRB.out.later hb1
    have t0 := hrow.cell (i := 0) (by omega)
    have t1 := hrow.cell (i := 1) (by omega)
    have s0 := hrow.frozen 0
    have s1 := hrow.frozen 1
    simp at t0 t1
    clear hb1 hrow
    go_wp2
    exact bodyPost_ret (v := .agg #[.int .i64 r, .slice none 0 0]) (by simp [results, Try.results6, go_sem, t0, t1]) rfl (AnsNR.none' r HB1.out (by omega) _ _)
  · rw [if_pos hq]
    have hds := dirS hq
    obtain ⟨_, hp, _⟩ := dirQ_in hq
    obtain ⟨j, rfl⟩ : ∃ j : Nat, x = (j : Int) := ⟨x.toNat, by omega⟩
    rw [Int.toNat_natCast] at hds ⊢
    obtain ⟨b0, o0, aE, cE, rfl, rfl, k4, hE⟩ := h.dir hds.lt
    have HK4 : Hid (_ = _) := k4
    have hjn : (j : Int) < ((d.1.length : Nat) : Int) := by omega
    have hlt := hds.lt
    have h6 := hds.six
    obtain ⟨_, _, eE, _, _, hAt⟩ := hE.open'
    simp only [Value.slice.injEq] at eE
    obtain ⟨rfl, -, rfl⟩ := eE
    rw [hq] at HF
    have HAT : Hid (AtN w aE (entA d j).length (entA d j)) := hAt
    rw [← nmsK_all]
    clear hq hds hp hE k4 h hAt
    generalize entA d j = es at *
    obtain ⟨m, hm⟩ : ∃ m, es.length = m := ⟨_, rfl⟩
    have HM : Hid (es.length = m) := hm
    rw [hm] at HK4 HAT h6 ⊢
    clear hm
    generalize d.1.length = n at *
    go_enter Try.func6, Try.ntmps6
    go_wp2_with fail
    generalize ((w.alloc (.cells #[.slice (some ⟨b0, o0, none⟩) n c1, .slice a2 n2 c2] 33)).alloc (.cells #[.int .i64 0, .slice none 0 0] 29)) = W0 at *
    refine (HF.out _ (Below.refl _ _)).mono ?_
    rintro e w1 ⟨rfl, hb1⟩
    have HB1 : Hid (Below w.heap.size w w1) := HB0.out.trans (hb1.mono HB0.out.size)
    have HR1 : Hid (OwnRow w1 (w.heap.size + 1) 2 (fun i => if i = 0 then .int .i64 0 else .slice none 0 0)) := HRB.out.later hb1
    have HX1 : Hid (Bx w1 w.heap.size [.slice (some ⟨b0, o0, none⟩) n c1, .slice a2 n2 c2]) := HX.out.later hb1
    have hlw : w.heap.size + 1 < w1.heap.size := HR1.out.lt
    have HN0 : Hid ([] = nmsK es 0) := rfl
    have HG0 : Hid (OwnRow (w1.alloc (.cells #[.int .i64 0, .slice none 0 0] 29)) w1.heap.size 2 (fun i => if i = 0 then .int .i64 0 else .slice none 0 0)) := OwnRow.newS w1 (.int .i64 0) (.slice none 0 0) _
    clear hb1
    go_wp2_with fail
    go_loopw [7] (fun i wr => ∃ k : Nat, ∃ vv : Value, k ≤ m ∧ i = .int .i64 k ∧ Below w1.heap.size w1 wr ∧ OwnRow wr w1.heap.size 2 (fun i => if i = 0 then .int .i64 0 else vv) ∧ w1.heap.size + 1 ≤ wr.heap.size ∧ WdT wr (w1.heap.size + 1) vv (nmsK es k)) (fun i _ => m - (intOf i).toNat)
    case atStart => exact ⟨0, _, Nat.zero_le _, rfl, later1 _ _, HG0.out, by simp, HN0.out ▸ WdT.nil _ _⟩
    case round =>
      obtain ⟨k, vv, hk, rfl, hbl, hgo, hsz, hwd⟩ := hrel
      obtain ⟨av, cv, rfl⟩ := hwd.shape
      have HBL : Hid (Below w1.heap.size w1 wr) := hbl
      have HGO : Hid (OwnRow wr w1.heap.size 2 (fun i => if i = 0 then .int .i64 0 else .slice av (nmsK es k).length cv)) := hgo
      have HWD : Hid (WdT wr (w1.heap.size + 1) (.slice av (nmsK es k).length cv) (nmsK es k)) := hwd
      have HBW : Hid (Below w.heap.size w wr) := HB1.out.trans (hbl.mono HB1.out.size)
      have HLK : Hid ((nmsK es k).length = k) := nmsK_len es (by rw [HM.out]; exact hk)
      have HSZ : Hid (w1.heap.size + 1 ≤ wr.heap.size) := hsz
      have x0 := (HX1.out.later hbl) 0 _ rfl
      have x1 := (HX1.out.later hbl) 1 _ rfl
      have k1 := cell_later HBW.out HK4.out
      have g0 : wr.cell? ⟨w1.heap.size, 0, none⟩ = some (.int .i64 0) := hgo.cell (i := 0) (by omega)
      have g1 : wr.cell? ⟨w1.heap.size, 1, none⟩ = some (.slice av (nmsK es k).length cv) := hgo.cell (i := 1) (by omega)
      have gf := hgo.frozen 1
      clear hbl hwd hgo hsz
      by_cases hlk : k < m
      · obtain ⟨b, off, rfl, e0, _⟩ := HAT.out k hlk
        replace e0 := cell_later HBW.out e0
        have HNX : Hid (nmsK es k ++ [(es[k]?.getD en0).1.toList] = nmsK es (k + 1)) := nmsK_succ es (by rw [HM.out]; exact hlk)
        have HMB : Hid (mkB (es[k]?.getD en0).1.toList = (es[k]?.getD en0).1) := mkB_of _
        generalize (es[k]?.getD en0).1 = nm at *
        obtain ⟨v', X, hr, hwx, hbx⟩ := WdT.push wr.drew (w1.heap.size + 1) _ _ nm.toList (HWD.out.later (Below.refl _ _).drew) (by have := HSZ.out; simpa using this) (by rw [HLK.out]; omega)
        rw [HNX.out] at hwx
        rw [HMB.out] at hr
        obtain ⟨aw, cw, rfl⟩ := hwx.shape
        have HLK2 : Hid ((nmsK es (k + 1)).length = k + 1) := nmsK_len es (by rw [HM.out]; omega)
        have HRN : Hid (_ = _) := hr
        have hbX : Below (w1.heap.size + 1) wr X := (Below.refl _ _).drew.trans hbx
        have ce0 : X.cell? ⟨w1.heap.size, 0, none⟩ = some (.int .i64 0) := (World.cell?_of_block (w := wr) (hbX.block w1.heap.size (by omega))).trans g0
        have ce1 : X.cell? ⟨w1.heap.size, 1, none⟩ = some (.slice av (nmsK es k).length cv) := (World.cell?_of_block (w := wr) (hbX.block w1.heap.size (by omega))).trans g1
        have hgX : OwnRow X w1.heap.size 2 (fun i => if i = 0 then .int .i64 0 else .slice av (nmsK es k).length cv) := HGO.out.block (hbX.block w1.heap.size (by omega))
        have cf := hgX.frozen 1
        have HGX : Hid (OwnRow (X.setCell ⟨w1.heap.size, 1, none⟩ (.slice aw (nmsK es (k + 1)).length cw)) w1.heap.size 2 (fun i => if i = 0 then .int .i64 0 else .slice aw (nmsK es (k + 1)).length cw)) := (hgX.set 1 _).congr fun i hi => by
          rcases (show i = 0 ∨ i = 1 by omega) with rfl | rfl
          · simp
          · simp
        have HWX : Hid (WdT (X.setCell ⟨w1.heap.size, 1, none⟩ (.slice aw (nmsK es (k + 1)).length cw)) (w1.heap.size + 1) (.slice aw (nmsK es (k + 1)).length cw) (nmsK es (k + 1))) := ownsRow_store hwx (by simp) _
        have HBX2 : Hid (Below w1.heap.size w1 (X.setCell ⟨w1.heap.size, 1, none⟩ (.slice aw (nmsK es (k + 1)).length cw))) := (HBL.out.trans (hbX.mono (by omega))).setCell (Nat.le_refl _) _
        have HSX : Hid (w1.heap.size + 1 ≤ (X.setCell ⟨w1.heap.size, 1, none⟩ (.slice aw (nmsK es (k + 1)).length cw)).heap.size) := by
          unfold Hid
          have := hbX.size
          have := HSZ.out
          simp only [World.setCell, Array.size_modify]
          omega
        rw [HLK2.out] at HRN HGX HWX HBX2 HSX
        rw [HLK.out] at HRN g1 ce1
        have hgl : w1.heap.size < wr.heap.size := by have := HSZ.out; omega
        clear hr hwx hbx hbX HWD HNX HMB hgX HGO
        go_wp2_with fail
        go_region_law (first
          | (refine step_append_run rfl _ _ 27 rfl _ _ rfl rfl _ _ HRN.out ?_)
          | fail)
        all_goals
          go_wp2
          go_roundw
          case rel => exact ⟨k + 1, _, by omega, by go_num, HBX2.out, HGX.out, HSX.out, HWX.out⟩
          case measure => simp [intOf]; omega
      · have e : m = k := by omega
        subst e
        have HST : Hid (StrsO wr (.slice av (nmsK es m).length cv) (nmsK es m) (fun b => w.heap.size ≤ b ∧ b < wr.heap.size ∧ b ≠ w.heap.size + 1)) := (HWD.out.own (by rw [HLK.out]; omega)).mono fun b hb => ⟨by omega, hb.2, by omega⟩
        have hrow := HR1.out.later HBL.out
        have t0 := hrow.cell (i := 0) (by omega)
        have t1 := hrow.cell (i := 1) (by omega)
        have s0 := hrow.frozen 0
        have s1 := hrow.frozen 1
        simp at t0 t1
        clear hrow HWD HLK HGO
        generalize (nmsK es m).length = ln at *
        go_wp2
        exact bodyPost_ret (v := .agg #[.int .i64 0, .slice av ln cv]) (by simp [results, Try.results6, go_sem, t0, t1]) rfl (AnsNR.boxed HBW.out (by omega) HST.out _ _)
end Go.Proofs.Ytedpooagalmgdan

namespace Go.Proofs.Ytedpooagalmgdan
open Go.ChangeShapes Go.WideShapes Go.ChangeAt Go.RowKit Go.Deep
set_option maxRecDepth 100000

section
variable {H : Type} {enc : TypeId × Value → H} {P : Program} {w : World} {base : Nat} {held : Bool}

theorem addr_of {a : Addr} {v : Value} (h : w.cell? (a.add 0) = some v) : a = ⟨a.block, a.off, none⟩ := by
  obtain ⟨b, o, s⟩ := a
  have : s = none := by simpa [Addr.add] using World.cell?_spot h
  subst this; rfl
theorem add_plain (b off k : Nat) : (⟨b, off, none⟩ : Addr).add k = ⟨b, off + k, none⟩ := by
  by_cases h : k = 0
  · subst h; simp [Addr.add]
  · simp [Addr.add, h]

theorem open_Ints {t e : TypeId} {fuel : Nat} {v : Value} {x : DataW H × List MemPlace} (ht : P.underlying t = some (.slice e)) (he : P.underlying e = some (.int .i64)) (ce : P.cellsOf e = 1) (h : DataW.trod enc P w base (fun _ => true) held fuel t [v] = some x) :
    ∃ zs, Ints w v zs := by
  rcases open_ints ht he ce h with ⟨hcs, _⟩ | ⟨a, len, cap, zs, hcs, _, hl, hm, hz, _, hcell, _⟩
  · simp only [List.cons.injEq, and_true] at hcs
    exact ⟨[], Or.inl ⟨rfl, none, 0, hcs⟩⟩
  · simp only [List.cons.injEq, and_true] at hcs
    simp only [if_true] at hz
    by_cases h0 : len = 0
    · subst h0; exact ⟨[], Or.inl ⟨rfl, some a, cap, hcs⟩⟩
    · have ha := addr_of (hcell 0 (by omega))
      refine ⟨zs.take len, Or.inr ⟨a.block, a.off, cap, ?_, ?_, fun k hk => ?_⟩⟩
      · rw [hcs, List.length_take, Nat.min_eq_left (by omega), ← ha]
      · rw [List.length_take]; omega
      · rw [List.length_take] at hk
        have h1 := hcell k (by omega)
        rw [ha, add_plain] at h1
        rw [h1, List.getElem?_take, if_pos (by omega)]
        rfl

theorem open_IntsS {t e q : TypeId} {fuel : Nat} {v : Value} {x : DataW H × List MemPlace} (ht : P.underlying t = some (.slice e)) (he : P.underlying e = some (.slice q)) (hq : P.underlying q = some (.int .i64)) (ce : P.cellsOf e = 1) (cq : P.cellsOf q = 1)
    (h : DataW.trod enc P w base (fun _ => true) held fuel t [v] = some x) : ∃ zss, IntsS w v zss := by
  rcases open_slice1 ht ce h with ⟨hcs, _⟩ | ⟨a, len, cap, m, n, V, D, Pl, hcs, _, hl, hm, hmm, _, hx⟩
  · simp only [List.cons.injEq, and_true] at hcs
    exact ⟨[], Or.inl ⟨rfl, none, 0, hcs⟩⟩
  · simp only [List.cons.injEq, and_true] at hcs
    simp only [if_true] at hmm
    by_cases h0 : len = 0
    · subst h0; exact ⟨[], Or.inl ⟨rfl, some a, cap, hcs⟩⟩
    · have ha := addr_of (hx 0 (by omega)).1
      obtain ⟨Z, hZ⟩ := choose_lt (α := List Int) (n := m) (p := fun i zs => Ints w (V i) zs) fun i hi => open_Ints he hq cq (hx i hi).2
      refine ⟨(List.range len).map Z, Or.inr ⟨a.block, a.off, cap, V, ?_, ?_, fun k hk => ?_⟩⟩
      · simp only [List.length_map, List.length_range]; rw [hcs, ← ha]
      · simp only [List.length_map, List.length_range]; omega
      · simp only [List.length_map, List.length_range] at hk
        have h1 := (hx k (by omega)).1
        rw [ha, add_plain] at h1
        refine ⟨h1, ?_⟩
        have := hZ k (by omega)
        simpa [hk] using this

theorem open_Puts {t e q : TypeId} {f0 f1 : Field} {fuel : Nat} {v : Value} {x : DataW H × List MemPlace} (ht : P.underlying t = some (.slice e)) (he : P.underlying e = some (.struct #[f0, f1]))
    (ce : P.cellsOf e = 2) (o0 : f0.offset = 0) (o1 : f1.offset = 1) (c0 : P.cellsOf f0.type = 1) (c1 : P.cellsOf f1.type = 1) (h0 : P.underlying f0.type = some (.int .i64)) (h1 : P.underlying f1.type = some (.slice q)) (hq : P.underlying q = some (.int .i64)) (cq : P.cellsOf q = 1)
    (h : DataW.trod enc P w base (fun _ => true) held fuel t [v] = some x) : ∃ ps, Puts w v ps := by
  rcases open_slice_pairs ht he ce o0 o1 c0 c1 h with ⟨hcs, _⟩ | ⟨a, len, cap, m, n, V0, V1, D0, D1, P0, P1, hcs, _, hl, hm, hmm, _, hx⟩
  · simp only [List.cons.injEq, and_true] at hcs
    exact ⟨[], Or.inl ⟨rfl, none, 0, hcs⟩⟩
  · simp only [List.cons.injEq, and_true] at hcs
    simp only [if_true] at hmm
    by_cases hl0 : len = 0
    · subst hl0; exact ⟨[], Or.inl ⟨rfl, some a, cap, hcs⟩⟩
    · have ha := addr_of (by simpa using (hx 0 (by omega)).1)
      obtain ⟨Z, hZ⟩ := choose_lt (α := Int × List Int) (n := m) (p := fun i z => V0 i = .int .i64 z.1 ∧ Ints w (V1 i) z.2) fun i hi => by
        obtain ⟨_, _, g0, g1⟩ := hx i hi
        obtain ⟨zs, hzs⟩ := open_Ints h1 hq cq g1
        obtain ⟨y, hy, _⟩ := DataW.trod_int h0 g0
        simp only [List.cons.injEq, and_true] at hy
        exact ⟨(y, zs), hy, hzs⟩
      refine ⟨(List.range len).map Z, Or.inr ⟨a.block, a.off, cap, V1, ?_, ?_, fun k hk => ?_⟩⟩
      · simp only [List.length_map, List.length_range]; rw [hcs, ← ha]
      · simp only [List.length_map, List.length_range]; omega
      · simp only [List.length_map, List.length_range] at hk
        obtain ⟨e0, e1, _, _⟩ := hx k (by omega)
        rw [ha, add_plain] at e0 e1
        obtain ⟨g0, g1⟩ := hZ k (by omega)
        rw [g0] at e0
        have hg : ((List.range len).map Z)[k]?.getD (0, []) = Z k := by simp [hk]
        rw [hg]
        exact ⟨e0, e1, g1⟩
end

end Go.Proofs.Ytedpooagalmgdan

namespace Go.Proofs.Ytedpooagalmgdan
open Go.ChangeShapes Go.WideShapes Go.ChangeAt Go.RowKit Go.Joins
set_option maxRecDepth 100000

theorem Try.own : ownKnob Try.prog.godebug = none := by kernel_rfl
theorem Try.laidOut : laidOutB Try.prog = true := by kernel_rfl
theorem Try.cellsInt : Try.prog.cellsOf 2 = 1 := by kernel_rfl
theorem Try.cellsInts : Try.prog.cellsOf 45 = 1 := by kernel_rfl

end Go.Proofs.Ytedpooagalmgdan
