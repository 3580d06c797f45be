/- Files that are read, written, cut and dropped: what they come to. No program is named here. Directories: which name stands where, and what functions of directories come to. No program is named here. The specification's PickBlocks. The program's UsedBlocks, FreeBlocks and PickBlocks. The program: what is wrong of inodes, data and entries of a file system. Lists of extents: how they read, what they own. No program is named here. The walks of the laws' functions over lists of extents. What 'append' and 'copy' of extents come to. The program's copying of a list of extents. Pieces of a list of extents: what slicing it comes to. -/
import Derived.Test.YtjabimfinanjoabM07
import Derived.Test.YtjabimfinanjoabM06
import Derived.Test.YtjabimfinanjoabM05
import Derived.Test.YtjabimfinanjoabM00
import Derived.Test.YtjabimfinanjoabRows
import Derived.Deep.RegionWith
import Derived.Deep.RegionHeld3
import Derived.Test.YtjabimfinanjoabM01
import Derived.Deep.AppendLies
import Derived.Laws.CopyOwn
namespace Go.Proofs.Ytjabimfinanjoab
open Go.RowKit
set_option maxRecDepth 100000

/-- The first k of these blocks hold nothing. -/
def clrK (zss : List (List UInt8)) (bs : List Int) : Nat → List (List UInt8)
  | 0 => zss
  | k + 1 => (clrK zss bs k).set (bs[k]?.getD 0).toNat []
/-- The first k of these blocks hold what is theirs of data. -/
def putK (zss : List (List UInt8)) (bs : List Int) (data : List UInt8) : Nat → List (List UInt8)
  | 0 => zss
  | k + 1 => (putK zss bs data k).set (bs[k]?.getD 0).toNat ((data.drop (k * 8)).take 8)
theorem clrK_length (zss : List (List UInt8)) (bs : List Int) : ∀ k, (clrK zss bs k).length = zss.length
  | 0 => rfl
  | k + 1 => by show ((clrK zss bs k).set _ _).length = _; rw [List.length_set, clrK_length zss bs k]
theorem putK_length (zss : List (List UInt8)) (bs : List Int) (data : List UInt8) : ∀ k, (putK zss bs data k).length = zss.length
  | 0 => rfl
  | k + 1 => by show ((putK zss bs data k).set _ _).length = _; rw [List.length_set, putK_length zss bs data k]
theorem set_len_le {zss : List (List UInt8)} {m : Nat} (h : ∀ i : Nat, (zss[i]?.getD []).length ≤ m) (y : Nat) (zs : List UInt8) (hz : zs.length ≤ m) (i : Nat) : ((zss.set y zs)[i]?.getD []).length ≤ m := by
  rw [List.getElem?_set]
  by_cases e : y = i
  · rw [if_pos e]
    by_cases hl : y < zss.length
    · rw [if_pos hl]; exact hz
    · rw [if_neg hl]; simp
  · rw [if_neg e]; exact h i
theorem clrK_le {zss : List (List UInt8)} {m : Nat} (h : ∀ i : Nat, (zss[i]?.getD []).length ≤ m) (bs : List Int) : ∀ (k i : Nat), ((clrK zss bs k)[i]?.getD []).length ≤ m
  | 0, i => h i
  | k + 1, i => set_len_le (clrK_le h bs k) _ _ (by simp) i
theorem putK_le {zss : List (List UInt8)} (h : ∀ i : Nat, (zss[i]?.getD []).length ≤ 8) (bs : List Int) (data : List UInt8) : ∀ (k i : Nat), ((putK zss bs data k)[i]?.getD []).length ≤ 8
  | 0, i => h i
  | k + 1, i => set_len_le (putK_le h bs data k) _ _ (by rw [List.length_take]; omega) i
theorem ylens_eight {zss : List (List UInt8)} (h : ∀ i : Nat, (zss[i]?.getD []).length ≤ 8) : (ylens zss).sum ≤ 8 * zss.length := by
  unfold ylens
  induction zss with
  | nil => simp
  | cons z zss ih =>
    have h0 := h 0
    have := ih fun i => by have := h (i + 1); simpa using this
    simp at h0
    simp only [List.map_cons, List.sum_cons, List.length_cons]
    omega

/-- The blocks of the inode at a place. -/
def blkA (d : FD) (j : Nat) : List Int := (d.1[j]?.getD id0).2.2.2.1
/-- The file at place j with other blocks and bytes; the file at place j gone. -/
def setI (d : FD) (j : Nat) (bs : List Int) (n : Nat) : ID := ((d.1[j]?.getD id0).1, (d.1[j]?.getD id0).2.1, (n : Int), bs, (d.1[j]?.getD id0).2.2.2.2)
def setD (d : FD) (j : Nat) (bs : List Int) (data : List UInt8) : FD := (d.1.set j (setI d j bs data.length), putK (clrK d.2 (blkA d j) (blkA d j).length) bs data bs.length)
def dropD (d : FD) (j : Nat) : FD := (d.1.set j id0, clrK d.2 (blkA d j) (blkA d j).length)
def noFs (c : Int) : Int × FD := (c, [], [])
/-- SetBytes behind its first codes. -/
def setQ (d : FD) (j : Nat) (data : List UInt8) (busy : List Int) : Int × FD :=
  if data.length ≤ 32 then (if (pickR d.1 busy (((data.length + 7) / 8 : Nat) : Int)).1 = 0 then (0, setD d j (pickR d.1 busy (((data.length + 7) / 8 : Nat) : Int)).2 data) else noFs (pickR d.1 busy (((data.length + 7) / 8 : Nat) : Int)).1) else noFs 2
/-- The codes that SetBytes, WriteFile and CutFile ask alike. -/
def askR (d : FD) (x : Int) (busy : List Int) : Int := if (bytR d x).1 = 0 then busF busy else (bytR d x).1
def setR (d : FD) (x : Int) (data : List UInt8) (busy : List Int) : Int × FD := if askR d x busy = 0 then setQ d x.toNat data busy else noFs (askR d x busy)
def fromB (p : Int) : Bool := decide (0 ≤ p) && decide (p ≤ 1000)
/-- Bytes of a given number: the first of these, and 0 behind them. -/
def strY (zs : List UInt8) (n : Nat) : List UInt8 := (zs ++ List.replicate (n - zs.length) 0).take n
/-- Data in place of what is there from p on. -/
def mixY (zs : List UInt8) (p : Nat) (data : List UInt8) : List UInt8 := zs.take p ++ data ++ zs.drop (p + data.length)
def writeFR (d : FD) (x p : Int) (data : List UInt8) (busy : List Int) : Int × FD :=
  if askR d x busy = 0 then (if fromB p = true then (if p + (data.length : Int) ≤ 32 then (if data.length = 0 then (0, d) else setQ d x.toNat (mixY (strY (bytL d x.toNat) (max (p.toNat + data.length) (bytL d x.toNat).length)) p.toNat data) busy) else noFs 2) else noFs 3) else noFs (askR d x busy)
def cutR (d : FD) (x n : Int) (busy : List Int) : Int × FD :=
  if askR d x busy = 0 then (if 0 ≤ n ∧ n ≤ 32 then setQ d x.toNat (strY (bytL d x.toNat) n.toNat) busy else noFs 3) else noFs (askR d x busy)
def dropR (d : FD) (x : Int) : Int × FD := if (bytR d x).1 = 0 then (0, dropD d x.toNat) else noFs (bytR d x).1
/-- ReadFile. -/
def cutY (zs : List UInt8) (p n : Nat) : List UInt8 := (zs.drop p).take n
def readFR (d : FD) (x p n : Int) : Int × List UInt8 :=
  if (bytR d x).1 = 0 then (if fromB p && (decide (0 ≤ n) && decide (n ≤ 100)) then (0, cutY (bytL d x.toNat) p.toNat n.toNat) else (3, [])) else ((bytR d x).1, [])

/-- What stands where BytesIn tells no code. -/
structure Sound (d : FD) (j : Nat) : Prop where
  fs : fsF d = 0
  lt : j < d.1.length
  ten : d.1.length ≤ 10
  dat : d.2.length = 20
  eight : ∀ i : Nat, (d.2[i]?.getD []).length ≤ 8
  kind : (d.1[j]?.getD id0).1 = 1
  ent : (d.1[j]?.getD id0).2.2.2.2 = []
  four : (blkA d j).length ≤ 4
  blk : ∀ k : Nat, k < (blkA d j).length → 0 ≤ (blkA d j)[k]?.getD 0 ∧ (blkA d j)[k]?.getD 0 < 20
  bl : (bytL d j).length ≤ 32
theorem bytR_code {d : FD} {x : Int} (h : (bytR d x).1 = 0) : bytR d x = (0, bytL d x.toNat) ∧ fsF d = 0 ∧ (0 ≤ x ∧ x < (d.1.length : Int)) ∧ ¬ kindAt d.1 x.toNat = 2 ∧ ¬ kindAt d.1 x.toNat = 0 := by
  unfold bytR at h ⊢
  by_cases hf : fsF d = 0
  · rw [if_pos hf] at h ⊢
    by_cases hp : 0 ≤ x ∧ x < (d.1.length : Int)
    · rw [if_pos hp] at h ⊢
      by_cases h2 : kindAt d.1 x.toNat = 2
      · rw [if_pos h2] at h; simp at h
      · rw [if_neg h2] at h ⊢
        by_cases h0 : kindAt d.1 x.toNat = 0
        · rw [if_pos h0] at h; simp at h
        · rw [if_neg h0]
          exact ⟨rfl, hf, hp, h2, h0⟩
    · rw [if_neg hp] at h; simp at h
  · rw [if_neg hf] at h; exact absurd h hf
theorem bytR_bad {d : FD} {x : Int} (h : ¬ (bytR d x).1 = 0) : (bytR d x).2 = [] := by
  unfold bytR at h ⊢
  by_cases hf : fsF d = 0
  · rw [if_pos hf] at h ⊢
    by_cases hp : 0 ≤ x ∧ x < (d.1.length : Int)
    · rw [if_pos hp] at h ⊢
      by_cases h2 : kindAt d.1 x.toNat = 2
      · rw [if_pos h2]
      · rw [if_neg h2] at h ⊢
        by_cases h0 : kindAt d.1 x.toNat = 0
        · rw [if_pos h0]
        · rw [if_neg h0] at h; exact absurd rfl h
    · rw [if_neg hp]
  · rw [if_neg hf]
theorem ino_kinds {d : ID} (h : inoF d = 0) (h2 : ¬ d.1 = 2) (h0 : ¬ d.1 = 0) : d.1 = 1 ∧ d.2.2.2.2 = [] := by
  unfold inoF at h
  rw [if_neg h0] at h
  by_cases h1 : d.1 = 1
  · rw [if_pos h1] at h
    refine ⟨h1, ?_⟩
    by_cases hd : dpB d = true
    · rw [if_pos hd] at h; omega
    · unfold dpB at hd
      simp at hd
      exact hd
  · rw [if_neg h1, if_neg h2] at h; omega
theorem sound {d : FD} {x : Int} (h : (bytR d x).1 = 0) : Sound d x.toNat := by
  obtain ⟨_, hf, hp, h2, h0⟩ := bytR_code h
  obtain ⟨h1, g2, h3, _, _⟩ := fsE_zero (fsF_zero hf)
  obtain ⟨g1, _, g3⟩ := formB_no g2
  have hj : x.toNat < d.1.length := by omega
  have hk := ino_kinds (ins_ino h1 x.toNat hj) h2 h0
  have hsz := ino_size (ins_ino h1 x.toNat hj)
  have hb := bytK_len d (d.1[x.toNat]?.getD id0).2.2.2.1 (many_eight h3) _ (Nat.le_refl _)
  refine ⟨hf, hj, insF_ten h1, g3, many_eight h3, hk.1, hk.2, ?_, fun k hk => ins_blk h1 _ k hj hk, ?_⟩
  · show (d.1[x.toNat]?.getD id0).2.2.2.1.length ≤ 4
    omega
  · show (bytK d _ _).length ≤ 32
    omega
end Go.Proofs.Ytjabimfinanjoab

namespace Go.Proofs.Ytjabimfinanjoab
open Go.RowKit
set_option maxRecDepth 100000

theorem bl_irr : ∀ x : List UInt8, Op.bytesLess x x = false
  | [] => by simp [Op.bytesLess]
  | a :: x => by
    have h : ¬ a < a := by rw [UInt8.lt_iff_toNat_lt]; omega
    simp [Op.bytesLess, bl_irr x, h]
theorem bl_trans : ∀ {x y z : List UInt8}, Op.bytesLess x y = true → Op.bytesLess y z = true → Op.bytesLess x z = true
  | [], [], _, h1, _ => by simp [Op.bytesLess] at h1
  | [], _ :: _, [], _, h2 => by simp [Op.bytesLess] at h2
  | [], _ :: _, _ :: _, _, _ => by simp [Op.bytesLess]
  | _ :: _, [], _, h1, _ => by simp [Op.bytesLess] at h1
  | _ :: _, _ :: _, [], _, h2 => by simp [Op.bytesLess] at h2
  | a :: x, b :: y, c :: z, h1, h2 => by
    simp only [Op.bytesLess, Bool.or_eq_true, Bool.and_eq_true, decide_eq_true_eq, beq_iff_eq] at h1 h2 ⊢
    rcases h1 with h1 | ⟨rfl, h1⟩
    · rcases h2 with h2 | ⟨rfl, h2⟩
      · left; rw [UInt8.lt_iff_toNat_lt] at h1 h2 ⊢; omega
      · exact Or.inl h1
    · rcases h2 with h2 | ⟨rfl, h2⟩
      · exact Or.inl h2
      · exact Or.inr ⟨rfl, bl_trans h1 h2⟩
theorem bl_total : ∀ {x y : List UInt8}, Op.bytesLess x y = false → (x == y) = false → Op.bytesLess y x = true
  | [], [], _, h2 => by simp at h2
  | [], _ :: _, h1, _ => by simp [Op.bytesLess] at h1
  | _ :: _, [], _, _ => by simp [Op.bytesLess]
  | a :: x, b :: y, h1, h2 => by
    simp only [Op.bytesLess, Bool.or_eq_false_iff, Bool.and_eq_false_iff, decide_eq_false_iff_not] at h1
    simp only [Op.bytesLess, Bool.or_eq_true, Bool.and_eq_true, decide_eq_true_eq, beq_iff_eq]
    obtain ⟨h1, h3⟩ := h1
    by_cases e : a = b
    · subst e
      right
      refine ⟨rfl, bl_total ?_ ?_⟩
      · rcases h3 with h3 | h3
        · simp at h3
        · exact h3
      · simpa using h2
    · left
      rw [UInt8.lt_iff_toNat_lt] at h1 ⊢
      have : a.toNat ≠ b.toNat := fun h => e (UInt8.toNat_inj.1 h)
      omega
/-- The name of an entry is s; it is not below s. -/
def eqE (s : ByteArray) (e : EN) : Bool := e.1.toList == s.toList
def geE (s : ByteArray) (e : EN) : Bool := !(Op.bytesLess e.1.toList s.toList)
def idxE (es : List EN) (s : ByteArray) : Nat := es.findIdx (eqE s)
def plcE (es : List EN) (s : ByteArray) : Nat := es.findIdx (geE s)
def fndB (es : List EN) (s : ByteArray) : Bool := decide (plcE es s < es.length) && eqE s (es[plcE es s]?.getD en0)
theorem getD_el {es : List EN} {k : Nat} (h : k < es.length) : es[k]?.getD en0 = es[k] := by rw [List.getElem?_eq_getElem h]; rfl
theorem findIdx_is {p : EN → Bool} {es : List EN} {k : Nat} (hk : k < es.length) (h : p (es[k]?.getD en0) = true) (ha : ∀ j, j < k → p (es[j]?.getD en0) = false) : es.findIdx p = k := by
  rw [List.findIdx_eq hk]
  exact ⟨by rw [← getD_el hk]; exact h, fun j hj => by have := ha j hj; rw [getD_el (by omega)] at this; exact this⟩
theorem findIdx_no {p : EN → Bool} {es : List EN} (ha : ∀ j, j < es.length → p (es[j]?.getD en0) = false) : es.findIdx p = es.length := by
  rw [List.findIdx_eq_length]
  intro e he
  obtain ⟨j, hj, rfl⟩ := List.mem_iff_getElem.1 he
  have := ha j hj
  rw [getD_el hj] at this
  exact this
theorem findIdx_le {p : EN → Bool} (es : List EN) : es.findIdx p ≤ es.length := List.findIdx_le_length
theorem findIdx_at {p : EN → Bool} {es : List EN} (h : es.findIdx p < es.length) : p (es[es.findIdx p]?.getD en0) = true := by
  rw [getD_el h]; exact List.findIdx_getElem
theorem findIdx_lt {p : EN → Bool} {es : List EN} {j : Nat} (h : j < es.findIdx p) : p (es[j]?.getD en0) = false := by
  have := findIdx_le (p := p) es
  rw [getD_el (by omega)]
  have := List.not_of_lt_findIdx h
  simpa using this
/-- The names rise. -/
def Rises (es : List EN) : Prop := ∀ i, i + 1 < es.length → Op.bytesLess (es[i]?.getD en0).1.toList (es[i + 1]?.getD en0).1.toList = true
theorem Rises.lt {es : List EN} (h : Rises es) : ∀ {i k : Nat}, i < k → k < es.length → Op.bytesLess (es[i]?.getD en0).1.toList (es[k]?.getD en0).1.toList = true := by
  intro i k
  induction k with
  | zero => intro h0; omega
  | succ k ih =>
    intro h1 h2
    have h3 := h k h2
    by_cases e : i = k
    · subst e; exact h3
    · exact bl_trans (ih (by omega) (by omega)) h3
theorem eqE_self {s : ByteArray} {e : EN} (h : eqE s e = true) : e.1.toList = s.toList := by simpa [eqE] using h
theorem idx_plc {es : List EN} (h : Rises es) {s : ByteArray} (hi : idxE es s < es.length) : plcE es s = idxE es s := by
  have he := eqE_self (findIdx_at hi)
  refine findIdx_is hi ?_ fun j hj => ?_
  · unfold geE
    have h1 : (es[idxE es s]?.getD en0).1.toList = s.toList := he
    rw [h1, bl_irr]; rfl
  · unfold geE
    have h1 : (es[idxE es s]?.getD en0).1.toList = s.toList := he
    rw [← h1, h.lt hj hi]; rfl
theorem fnd_iff {es : List EN} (h : Rises es) (s : ByteArray) : fndB es s = decide (idxE es s < es.length) := by
  by_cases hi : idxE es s < es.length
  · rw [decide_eq_true hi]
    unfold fndB
    rw [idx_plc h hi, decide_eq_true hi]
    exact findIdx_at hi
  · rw [decide_eq_false hi]
    unfold fndB
    by_cases hp : plcE es s < es.length
    · rw [decide_eq_true hp, Bool.true_and]
      by_cases he : eqE s (es[plcE es s]?.getD en0) = true
      · exfalso
        apply hi
        have h1 : es.findIdx (eqE s) ≤ plcE es s := by
          by_cases h2 : plcE es s < es.findIdx (eqE s)
          · have := findIdx_lt h2; rw [he] at this; exact absurd this (by decide)
          · omega
        have h2 : idxE es s = es.findIdx (eqE s) := rfl
        omega
      · simpa using he
    · rw [decide_eq_false hp]; rfl

/-- The entries of the inode at a place. -/
def entA (d : FD) (j : Nat) : List EN := (d.1[j]?.getD id0).2.2.2.2
/-- What functions of directories ask alike. -/
def dirQ (d : FD) (x : Int) : Int := if fsE d = 0 then (if 0 ≤ x ∧ x < (d.1.length : Int) then (if kindAt d.1 x.toNat = 2 then 0 else 9) else 3) else fsE d
def dirN (d : FD) (x : Int) (s : ByteArray) : Int := if dirQ d x = 0 then nameF s else dirQ d x
/-- IsEmptyDir, LookName, NamesIn. -/
def emptyB (d : FD) (x : Int) : Bool := decide (dirQ d x = 0) && decide ((entA d x.toNat).length = 0)
def lookR (d : FD) (x : Int) (s : ByteArray) : Int × Int := if dirN d x s = 0 then (if idxE (entA d x.toNat) s < (entA d x.toNat).length then (0, ((entA d x.toNat)[idxE (entA d x.toNat) s]?.getD en0).2) else (4, 0)) else (dirN d x s, 0)
def namesD (d : FD) (x : Int) : Int × List (List UInt8) := if dirQ d x = 0 then (0, (entA d x.toNat).map fun e => e.1.toList) else (dirQ d x, [])
/-- What stands where a directory is told. -/
structure DirS (d : FD) (j : Nat) : Prop where
  fs : fsE d = 0
  lt : j < d.1.length
  ten : d.1.length ≤ 10
  dat : d.2.length = 20
  eight : ∀ i : Nat, (d.2[i]?.getD []).length ≤ 8
  kind : (d.1[j]?.getD id0).1 = 2
  six : (entA d j).length ≤ 6
  rises : Rises (entA d j)
  names : ∀ k : Nat, k < (entA d j).length → nameF ((entA d j)[k]?.getD en0).1 = 0
  ins : insF d.1 = 0
  leads : ∀ j, j < d.1.length → ∀ k, k < (d.1[j]?.getD id0).2.2.2.2.length → 0 ≤ ((d.1[j]?.getD id0).2.2.2.2[k]?.getD en0).2 ∧ ((d.1[j]?.getD id0).2.2.2.2[k]?.getD en0).2 < (d.1.length : Int)
theorem dirQ_in {d : FD} {x : Int} (h : dirQ d x = 0) : fsE d = 0 ∧ (0 ≤ x ∧ x < (d.1.length : Int)) ∧ kindAt d.1 x.toNat = 2 := by
  unfold dirQ at h
  by_cases hf : fsE d = 0
  · rw [if_pos hf] at h
    by_cases hp : 0 ≤ x ∧ x < (d.1.length : Int)
    · rw [if_pos hp] at h
      by_cases hk : kindAt d.1 x.toNat = 2
      · exact ⟨hf, hp, hk⟩
      · rw [if_neg hk] at h; omega
    · rw [if_neg hp] at h; omega
  · rw [if_neg hf] at h; exact absurd h hf
theorem ino_dir {x : ID} (h : inoF x = 0) (hk : x.1 = 2) : dirF x.2.2.2.2 = 0 := by
  unfold inoF at h
  rw [if_neg (by omega), if_neg (by omega), if_pos hk] at h
  by_cases hd : fpB x = true
  · rw [if_pos hd] at h; omega
  · rw [if_neg hd] at h; exact h
theorem dir_rises {es : List EN} (h : dirF es = 0) : Rises es ∧ (∀ k : Nat, k < es.length → nameF (es[k]?.getD en0).1 = 0) ∧ es.length ≤ 6 := by
  unfold dirF at h
  by_cases h6 : 6 < es.length
  · rw [if_pos h6] at h; omega
  · rw [if_neg h6] at h
    have hz := fstNZ_inv h
    have hn : ∀ k : Nat, k < es.length → nameF (es[k]?.getD en0).1 = 0 := fun k hk => by
      have := hz k hk
      unfold entF at this
      by_cases e : nameF (es[k]?.getD en0).1 = 0
      · exact e
      · rw [if_neg e] at this; exact absurd this e
    refine ⟨fun i hi => ?_, hn, by omega⟩
    have := hz (i + 1) hi
    unfold entF at this
    rw [if_pos (hn _ hi)] at this
    by_cases e : 0 ≤ (es[i + 1]?.getD en0).2 ∧ (es[i + 1]?.getD en0).2 ≤ 9
    · rw [if_pos e] at this
      by_cases e2 : 0 < i + 1 ∧ strLe (es[i + 1]?.getD en0).1 (es[i + 1 - 1]?.getD en0).1 = true
      · rw [if_pos e2] at this; omega
      · have e3 : strLe (es[i + 1]?.getD en0).1 (es[i]?.getD en0).1 = false := by
          rw [show i + 1 - 1 = i by omega] at e2
          simpa using e2
        unfold strLe at e3
        rw [Bool.or_eq_false_iff] at e3
        obtain ⟨e4, e5⟩ := e3
        exact bl_total e4 e5
    · rw [if_neg e] at this; omega
theorem dirS {d : FD} {x : Int} (h : dirQ d x = 0) : DirS d x.toNat := by
  obtain ⟨hf, hp, hk⟩ := dirQ_in h
  obtain ⟨h1, g2, h3, _, h5⟩ := fsE_zero hf
  obtain ⟨_, _, g3⟩ := formB_no g2
  have hj : x.toNat < d.1.length := by omega
  have hd := dir_rises (ino_dir (ins_ino h1 x.toNat hj) hk)
  exact ⟨hf, hj, insF_ten h1, g3, many_eight h3, hk, hd.2.2, hd.1, hd.2.1, h1, lost_in h1 h5⟩
end Go.Proofs.Ytjabimfinanjoab

namespace Go.Proofs.Ytjabimfinanjoab
open Go.RowKit
set_option maxRecDepth 100000

/-- The same, and the list is no longer than its room. -/
def AnsIC (w : World) (r : Int × List Int) (e : Ending) (w' : World) : Prop := AnsIR w r e w' ∧ ∀ x a n c, e = .returned (.agg #[x, .slice a n c]) → n ≤ c
theorem AnsIC.mk {w w' : World} {r : Int × List Int} {x : Value} {a : Option Addr} {n c : Nat} (h : AnsIR w r (.returned (.agg #[x, .slice a n c])) w') (hc : n ≤ c) : AnsIC w r (.returned (.agg #[x, .slice a n c])) w' :=
  ⟨h, fun x' a' n' c' e => by
    simp only [Ending.returned.injEq, Value.agg.injEq, Array.mk.injEq, List.cons.injEq, Value.slice.injEq, and_true] at e
    omega⟩
theorem slice_takeI (a : Option Addr) (n c j : Nat) (hj : j ≤ c) :
    ∃ A C, j ≤ C ∧ (∀ W : World, (Instr.slice 42 (.slice a n c) none (some (.int .i64 (j : Int))) none).run Try.prog W = .ok (.slice A j C) W) ∧ ∀ (W : World) (zs : List Int) (F : Nat → Prop), j ≤ zs.length → IntsO W (.slice a n c) zs F → IntsO W (.slice A j C) (zs.take j) F := by
  obtain ⟨i, hi, _⟩ := Try.infoInt'
  refine ⟨if c = 0 then a else a.map (·.add (0 * 1)), c - 0, by omega, fun W => ?_, fun W zs F hjn h => ?_⟩
  · simp [Instr.slice, Instr.sliceBounds, Instr.sliceBound, asIntOf, run_underlying Try.underlying42, sizeOf, typeInfo, hi, hj]
  · by_cases hj0 : j = 0
    · subst hj0
      exact Or.inl ⟨by simp, _, _, rfl⟩
    · rw [if_neg (by omega)]
      rcases h with ⟨h, _⟩ | ⟨b, cap, hF, h1, h2, h3⟩
      · subst h; simp at hjn; omega
      · simp only [Value.slice.injEq] at h1
        obtain ⟨rfl, rfl, rfl⟩ := h1
        have hl : (zs.take j).length = j := by rw [List.length_take]; omega
        refine Or.inr ⟨b, c - 0, hF, by rw [hl]; simp [Addr.add], by rw [hl]; omega, ?_⟩
        obtain ⟨cs, t, hb, hn, hc⟩ := h3
        refine ⟨cs, t, hb, by rw [hl]; omega, fun k hk => ?_⟩
        rw [hl] at hk
        rw [hc k (by omega)]
        dsimp only
        rw [List.getElem?_take, if_pos hk]
theorem Wds.cap {w : World} {n₀ : Nat} {a : Option Addr} {n c : Nat} {zs : List Int} (h : Wds w n₀ (.slice a n c) zs) : n ≤ c := by
  rcases h.2 with ⟨e, h0⟩ | ⟨g, cap, cur, e, _, _, hnc, _⟩
  · simp only [Value.slice.injEq] at e; omega
  · simp only [Value.slice.injEq] at e; omega

end Go.Proofs.Ytjabimfinanjoab

namespace Go.Proofs.Ytjabimfinanjoab
open Go.RowKit
set_option maxRecDepth 100000

theorem Arr.putNew (w : World) (g : Nat → Nat) : ∃ X, (Instr.storeAt 91 (.pointer (some ⟨w.heap.size, 0, none⟩)) (.agg (arrC g))).run Try.prog (w.alloc (.cells (arrC fun _ => 0) 91)) = .ok () X ∧ Arr X w.heap.size g ∧ Below w.heap.size w X := by
  obtain ⟨X, h1, h2, h3, h4, h5, h6, h7⟩ := (Arr.new w fun _ => 0).put g
  exact ⟨X, h1, h2, (later1 w (.cells (arrC fun _ => 0) 91)).trans ⟨h5, h6, h7, by omega, fun c hc => h4 c (by omega)⟩⟩

theorem busF_each {zs : List Int} (h : busF zs = 0) (k : Nat) (hk : k < zs.length) : 0 ≤ zs[k]?.getD 0 ∧ zs[k]?.getD 0 < 20 := by
  unfold busF at h
  split at h
  · omega
  · have := fstNZ_inv h k hk
    unfold rngF at this
    split at this <;> omega
theorem busF_len {zs : List Int} (h : busF zs = 0) : zs.length ≤ 20 := by
  unfold busF at h
  split at h <;> omega
theorem cntB_le (ds : List ID) (hs : sizeInos ds ≤ 1048576) (v : Int) : cntB ds v ≤ 1048576 := by
  have h2 := allB_len ds
  have h3 := List.count_le_length (a := v) (l := allB ds)
  unfold sizeInos at hs
  unfold cntB
  omega
theorem manyB_once (ds : List ID) : manyB (fun i => cntB ds (i : Int)) = !onceB ds 20 := by
  unfold manyB onceB
  rw [List.not_all_eq_any_not]
  congr 1
  funext k
  simp only [← decide_not]
  rw [decide_eq_decide]
  omega
theorem freeP_eq (ds : List ID) (bs : List Int) : (fun k : Nat => decide (cntB ds (k : Int) + bs.count (k : Int) = 0)) = freeP ds bs := by
  funext k
  unfold freeP
  cases hb : bs.contains (k : Int) with
  | true =>
    have h1 : (k : Int) ∈ bs := by simpa using hb
    have h2 := List.count_pos_iff.2 h1
    simp; omega
  | false =>
    have h1 : ¬ (k : Int) ∈ bs := by simpa using hb
    have h2 := List.count_eq_zero.2 h1
    rw [h2]; simp

end Go.Proofs.Ytjabimfinanjoab

namespace Go.Proofs.Ytjabimfinanjoab
open Go.RowKit
set_option maxRecDepth 100000

set_option maxHeartbeats 800000 in
theorem isInode_any (w : World) (a1 : Option Addr) (n1 c1 : Nat) (a2 : Option Addr) (n2 c2 : Nat) (x : Int) :
    Calls Try.prog 37 #[.agg #[.slice a1 n1 c1, .slice a2 n2 c2], .int .i64 x] w fun e w' => e = .returned (.bool (decide (0 ≤ x ∧ x < (n1 : Int)))) ∧ Below w.heap.size w w' := by
  by_cases h0 : 0 ≤ x
  · have HR : Hid (decide (0 ≤ x ∧ x < (n1 : Int)) = decide (x < (n1 : Int))) := by unfold Hid; simp [h0]
    have hd : decide (0 ≤ x) = true := by simpa using h0
    clear h0
    go_enter Try.func37, Try.ntmps37
    go_wp2
    go_ret
    exact ⟨ret_bool HR.out.symm, later1 _ _⟩
  · have HR : Hid (decide (0 ≤ x ∧ x < (n1 : Int)) = false) := by unfold Hid; simp; omega
    have hd : decide (0 ≤ x) = false := by simpa using h0
    clear h0
    go_enter Try.func37, Try.ntmps37
    go_wp2
    go_ret
    exact ⟨ret_bool HR.out.symm, later1 _ _⟩

/-- A place of what is not free. -/
def thB (d : FD) (x : Int) : Bool := decide (0 ≤ x ∧ x < (d.1.length : Int)) && !decide (kindAt d.1 x.toNat = 0)
set_option maxHeartbeats 1600000 in
theorem isThere_any (w : World) (a1 : Option Addr) (n1 c1 : Nat) (a2 : Option Addr) (n2 c2 : Nat) (d : FD) (x : Int) (h : FsR w (.slice a1 n1 c1) (.slice a2 n2 c2) d) :
    Calls Try.prog 55 #[.agg #[.slice a1 n1 c1, .slice a2 n2 c2], .int .i64 x] w fun e w' => e = .returned (.bool (thB d x)) ∧ Below w.heap.size w w' := by
  have HX : Hid (Bx (w.alloc (.cells #[.slice a1 n1 c1, .slice a2 n2 c2] 32)) w.heap.size [.slice a1 n1 c1, .slice a2 n2 c2]) := Bx.new w [.slice a1 n1 c1, .slice a2 n2 c2] _
  have HIN : Hid (∀ W, Calls Try.prog 37 #[.agg #[.slice a1 n1 c1, .slice a2 n2 c2], .int .i64 x] W fun e w' => e = .returned (.bool (decide (0 ≤ x ∧ x < (n1 : Int)))) ∧ Below W.heap.size W w') := fun W => isInode_any W a1 n1 c1 a2 n2 c2 x
  obtain ⟨_, _, e2, hm2, hc⟩ := h.1.open'
  simp only [Value.slice.injEq] at e2
  obtain ⟨rfl, rfl, rfl⟩ := e2
  have HB0 : Hid (Below w.heap.size w (w.alloc (.cells #[.slice a1 d.1.length c1, .slice a2 n2 c2] 32))) := later1 _ _
  have hz0 : (w.alloc (.cells #[.slice a1 d.1.length c1, .slice a2 n2 c2] 32)).heap.size = w.heap.size + 1 := by simp
  by_cases hin : 0 ≤ x ∧ x < (d.1.length : Int)
  · obtain ⟨y, rfl⟩ : ∃ y : Nat, x = (y : Int) := ⟨x.toNat, by omega⟩
    have hy : y < d.1.length := by omega
    obtain ⟨b, o, rfl, hK⟩ := hc y hy
    obtain ⟨_, _, _, _, kc, _⟩ := hK
    have HKC : Hid (w.cell? ⟨b, o + y * 5, none⟩ = some (.int .i64 (d.1[y]?.getD id0).1)) := kc
    have HR : Hid (thB d (y : Int) = ((d.1[y]?.getD id0).1 != 0)) := by
      unfold Hid thB kindAt
      rw [decide_eq_true hin, Bool.true_and, Int.toNat_natCast]
      by_cases e : (d.1[y]?.getD id0).1 = 0
      · rw [e]; rfl
      · rw [decide_eq_false e]; symm; simpa using e
    have hyI : (y : Int) < ((d.1.length : Nat) : Int) := hin.2
    rw [decide_eq_true hin] at HIN
    rw [HR.out]
    clear kc hc h hin HR hm2
    generalize (d.1[y]?.getD id0).1 = ky at *
    generalize d.1.length = n at *
    go_enter Try.func55, Try.ntmps55
    go_wp2_with fail
    generalize (w.alloc (.cells #[.slice (some ⟨b, o, none⟩) n c1, .slice a2 n2 c2] 32)) = W0 at *
    refine (HIN.out _).mono ?_
    rintro e w1 ⟨rfl, hb1⟩
    have HB1 : Hid (Below w.heap.size w w1) := HB0.out.trans (hb1.mono HB0.out.size)
    have x0 := (HX.out.later hb1) 0 _ rfl
    have x1 := (HX.out.later hb1) 1 _ rfl
    have k1 := cell_later HB1.out HKC.out
    clear hb1
    go_wp2
    go_ret
    exact ⟨rfl, HB1.out⟩
  · have HR : Hid (thB d x = false) := by unfold Hid thB; rw [decide_eq_false hin]; rfl
    rw [decide_eq_false hin] at HIN
    rw [HR.out]
    clear hc h hin HR hm2
    generalize d.1.length = n at *
    go_enter Try.func55, Try.ntmps55
    go_wp2_with fail
    generalize (w.alloc (.cells #[.slice a1 n c1, .slice a2 n2 c2] 32)) = W0 at *
    refine (HIN.out _).mono ?_
    rintro e w1 ⟨rfl, hb1⟩
    have HB1 : Hid (Below w.heap.size w w1) := HB0.out.trans (hb1.mono HB0.out.size)
    clear hb1
    go_wp2
    go_ret
    exact ⟨rfl, HB1.out⟩
theorem th_lost {d : FD} {x : Int} (h : 0 ≤ x) : thB d x = !lostB d.1 x := by
  unfold thB lostB
  by_cases e : x < (d.1.length : Int)
  · rw [decide_eq_true (show 0 ≤ x ∧ x < (d.1.length : Int) from ⟨h, e⟩), decide_eq_false (show ¬ (d.1.length : Int) ≤ x by omega)]
    simp
  · rw [decide_eq_false (show ¬ (0 ≤ x ∧ x < (d.1.length : Int)) from fun hh => e hh.2), decide_eq_true (show (d.1.length : Int) ≤ x by omega)]
    simp

/-- What is wrong of data and blocks. -/
def dataF (d : FD) : Int := if d.2.length = 20 then (if fstNZ (manyF d.2) d.2.length = 0 then (if onceB d.1 20 then 0 else 7) else fstNZ (manyF d.2) d.2.length) else 1

set_option maxHeartbeats 3200000 in
theorem dataFault_any (w : World) (aI : Option Addr) (nI cI : Nat) (aD : Option Addr) (nD cD : Nat) (d : FD) (h : FsR w (.slice aI nI cI) (.slice aD nD cD) d) (hs : sizeInos d.1 ≤ 1048576) (hi : insF d.1 = 0) :
    Calls Try.prog 47 #[.agg #[.slice aI nI cI, .slice aD nD cD]] w fun e w' => e = .returned (.int .i64 (dataF d)) ∧ Below w.heap.size w w' := by
  have HNE : Hid (∀ W, Below w.heap.size w W → Calls Try.prog 53 #[.slice aI nI cI] W fun e w' => e = .returned (.agg (arrC fun i => cntB d.1 (i : Int))) ∧ Below W.heap.size W w') := fun W hW => needsOf_any (h.1.later hW) hs hi
  have HM : Hid (∀ W, Calls Try.prog 54 #[.agg (arrC fun i => cntB d.1 (i : Int))] W fun e w' => e = .returned (.bool (!onceB d.1 20)) ∧ Below W.heap.size W w') := fun W => by
    rw [← manyB_once]
    exact anyOfTwo_any W _ (fun i => by have := cntB_le d.1 hs (i : Int); omega)
  have HX : Hid (Bx (w.alloc (.cells #[.slice aI nI cI, .slice aD nD cD] 32)) w.heap.size [.slice aI nI cI, .slice aD nD cD]) := Bx.new w [.slice aI nI cI, .slice aD nD cD] _
  have HDF : Hid (dataF d = if d.2.length = 20 then (if fstNZ (manyF d.2) d.2.length = 0 then (if onceB d.1 20 then 0 else 7) else fstNZ (manyF d.2) d.2.length) else 1) := rfl
  obtain ⟨_, _, e2, hm2, hc⟩ := h.2.open'
  simp only [Value.slice.injEq] at e2
  obtain ⟨rfl, rfl, rfl⟩ := e2
  by_cases h20 : d.2.length = 20
  rotate_left
  · have hb : ((d.2.length : Int) != 20) = true := by simp; omega
    have HR : Hid (dataF d = 1) := by unfold Hid; rw [HDF.out, if_neg h20]
    clear hc h HDF hm2 h20
    generalize d.2.length = n at *
    go_enter Try.func47, Try.ntmps47
    go_wp2
    go_ret
    exact ⟨ret_int HR.out.symm, later1 _ _⟩
  · have HC : Hid (AtYs w aD 20 d.2) := by unfold Hid; rw [← h20]; exact hc
    have HL2 : Hid (d.2.length = 20) := h20
    have hb : (((20 : Nat) : Int) != 20) = false := by simp
    clear hc h hm2
    rw [h20] at HX ⊢
    clear h20
    generalize (fun i : Nat => cntB d.1 (i : Int)) = g at *
    go_enter Try.func47, Try.ntmps47
    go_wp2
    go_loopw [12] (fun i wr => ∃ j : Nat, j ≤ 20 ∧ i = .int .i64 j ∧ wr = w.alloc (.cells #[.slice aI nI cI, .slice aD 20 cD] 32) ∧ ∀ i : Nat, i < j → manyF d.2 i = 0) (fun i _ => 20 - (intOf i).toNat)
    case atStart => exact ⟨0, by omega, rfl, rfl, fun i hi => by omega⟩
    case round =>
      obtain ⟨j, hj, rfl, rfl, hz⟩ := hrel
      have HZ : Hid (∀ i : Nat, i < j → manyF d.2 i = 0) := hz
      clear hz
      by_cases hlt : j < 20
      · obtain ⟨bD, oD, ua, uc, rfl, d0, _⟩ := HC.out j hlt
        replace d0 := cell_later (later1 w (.cells #[.slice aI nI cI, .slice (some ⟨bD, oD, none⟩) 20 cD] 32)) d0
        by_cases h8 : 8 < (d.2[j]?.getD []).length
        · have hb8 : decide ((8 : Int) < (((d.2[j]?.getD []).length : Nat) : Int)) = true := by simp; omega
          have HR : Hid (dataF d = 2) := by
            have e1 : manyF d.2 j = 2 := by unfold manyF; rw [if_pos h8]
            have e2 := fstNZ_at (f := manyF d.2) HZ.out (by rw [e1]; omega) (n := d.2.length) (by rw [HL2.out]; exact hlt)
            unfold Hid; rw [HDF.out, if_pos HL2.out, e2, e1]; simp
          clear h8
          generalize (d.2[j]?.getD []).length = ln at *
          go_wp2
          go_ret
          exact ⟨ret_int HR.out.symm, later1 _ _⟩
        · have hb8 : decide ((8 : Int) < (((d.2[j]?.getD []).length : Nat) : Int)) = false := by simp; omega
          have HR : Hid (∀ i : Nat, i < j + 1 → manyF d.2 i = 0) := fun i hi => by
            by_cases e : i = j
            · subst e; unfold manyF; rw [if_neg h8]
            · exact HZ.out i (by omega)
          clear h8
          generalize (d.2[j]?.getD []).length = ln at *
          go_wp2
          go_roundw
          case rel => exact ⟨j + 1, by omega, by go_num, by first | rfl | trivial, HR.out⟩
          case measure => simp [intOf]; omega
      · have HR : Hid (dataF d = if onceB d.1 20 then 0 else 7) := by
          have e2 := fstNZ_zero (f := manyF d.2) (n := d.2.length) (fun i hi => HZ.out i (by rw [HL2.out] at hi; omega))
          unfold Hid; rw [HDF.out, if_pos HL2.out, e2]; simp
        clear HZ HC HL2 HDF
        generalize onceB d.1 20 = bo at *
        cases bo
        all_goals
          go_wp2_with fail
          refine (HNE.out _ (later1 _ _)).mono ?_
          rintro e w1 ⟨rfl, hb1⟩
          have HB1 : Hid (Below w.heap.size w w1) := (later1 _ _).trans (hb1.mono (by simp))
          clear hb1
          go_wp2_with fail
          refine (HM.out _).mono ?_
          rintro e w2 ⟨rfl, hb2⟩
          have HB2 : Hid (Below w.heap.size w w2) := HB1.out.trans (hb2.mono HB1.out.size)
          clear hb2
          go_wp2
          go_ret
          exact ⟨ret_int HR.out.symm, HB2.out⟩

set_option maxHeartbeats 6400000 in
theorem entriesFault_any (w : World) (aI : Option Addr) (nI cI : Nat) (aD : Option Addr) (nD cD : Nat) (d : FD) (h : FsR w (.slice aI nI cI) (.slice aD nD cD) d) (hs : sizeInos d.1 ≤ 1048576) (hi : insF d.1 = 0) :
    Calls Try.prog 48 #[.agg #[.slice aI nI cI, .slice aD nD cD]] w fun e w' => e = .returned (.int .i64 (lostF d.1)) ∧ Below w.heap.size w w' := by
  have HX : Hid (Bx (w.alloc (.cells #[.slice aI nI cI, .slice aD nD cD] 32)) w.heap.size [.slice aI nI cI, .slice aD nD cD]) := Bx.new w [.slice aI nI cI, .slice aD nD cD] _
  obtain ⟨_, _, e2, hm2, hc⟩ := h.1.open'
  simp only [Value.slice.injEq] at e2
  obtain ⟨rfl, rfl, rfl⟩ := e2
  have HC : Hid (AtI w aI d.1.length d.1) := hc
  have HPOS : Hid (∀ j, j < d.1.length → ∀ k, k < (d.1[j]?.getD id0).2.2.2.2.length → 0 ≤ ((d.1[j]?.getD id0).2.2.2.2[k]?.getD en0).2) := fun j hj => ino_ent (ins_ino hi j hj)
  have HZ : Hid (∀ j, (d.1[j]?.getD id0).2.2.2.2.length ≤ 1048576) := fun j => by
    have := isz_le d.1 j
    have hd : sizeIno (d.1[j]?.getD id0) = (d.1[j]?.getD id0).2.2.2.1.length + ((d.1[j]?.getD id0).2.2.2.2.length + (nlens (d.1[j]?.getD id0).2.2.2.2).sum) := rfl
    unfold sizeInos at hs
    omega
  have HIN : Hid (∀ W x, 0 ≤ x → Below w.heap.size w W → Calls Try.prog 55 #[.agg #[.slice aI d.1.length cI, .slice aD nD cD], .int .i64 x] W fun e w' => e = .returned (.bool (!lostB d.1 x)) ∧ Below W.heap.size W w') := fun W x hx hW => by
    have := isThere_any W aI _ cI aD nD cD d x (h.later hW)
    rw [th_lost hx] at this
    exact this
  have hn : d.1.length ≤ 1048576 := by unfold sizeInos at hs; omega
  clear hc h hs hi hm2
  obtain ⟨n, hnn⟩ : ∃ n, d.1.length = n := ⟨_, rfl⟩
  have HN : Hid (d.1.length = n) := hnn
  rw [hnn] at HC HPOS HX HIN hn ⊢
  clear hnn
  go_enter Try.func48, Try.ntmps48
  go_wp2
  go_loopw [10] (fun i wr => ∃ j : Nat, j ≤ n ∧ i = .int .i64 j ∧ Below (w.heap.size + 1) (w.alloc (.cells #[.slice aI n cI, .slice aD nD cD] 32)) wr ∧ ∀ j', j' < j → ∀ k, k < (d.1[j']?.getD id0).2.2.2.2.length → lostB d.1 ((d.1[j']?.getD id0).2.2.2.2[k]?.getD en0).2 = false) (fun i _ => n - (intOf i).toNat)
  case atStart => exact ⟨0, Nat.zero_le _, rfl, Below.refl _ _, fun j hj => by omega⟩
  case round =>
    obtain ⟨j, hj, rfl, hbl, hz⟩ := hrel
    have HZJ0 : Hid (∀ j', j' < j → ∀ k, k < (d.1[j']?.getD id0).2.2.2.2.length → lostB d.1 ((d.1[j']?.getD id0).2.2.2.2[k]?.getD en0).2 = false) := hz
    have HBL : Hid (Below (w.heap.size + 1) (w.alloc (.cells #[.slice aI n cI, .slice aD nD cD] 32)) wr) := hbl
    have HBW : Hid (Below w.heap.size w wr) := (later1 _ _).trans (hbl.mono (by omega))
    have hwz : w.heap.size + 1 ≤ wr.heap.size := by have := hbl.size; simpa using this
    clear hbl hz
    by_cases hlt : j < n
    · obtain ⟨b, o, rfl, hI⟩ := HC.out j hlt
      obtain ⟨aB, cB, aE, cE, c0, c1, c2, c3, c4, h5⟩ := hI.later HBW.out
      obtain ⟨_, _, e1, hm1, _, hc1⟩ := h5.2.2.open'
      simp only [Value.slice.injEq] at e1
      obtain ⟨rfl, _, rfl⟩ := e1
      have hZ1 := HZ.out j
      have HCB : Hid (AtN wr aE (d.1[j]?.getD id0).2.2.2.2.length (d.1[j]?.getD id0).2.2.2.2) := hc1
      have HP1 : Hid (∀ k, k < (d.1[j]?.getD id0).2.2.2.2.length → 0 ≤ ((d.1[j]?.getD id0).2.2.2.2[k]?.getD en0).2) := HPOS.out j hlt
      have HY : Hid (∀ k, k < (d.1[j]?.getD id0).2.2.2.2.length → lostB d.1 ((d.1[j]?.getD id0).2.2.2.2[k]?.getD en0).2 = true → lostF d.1 = 4) := fun k hk hl => lost_yes (by rw [HN.out]; exact hlt) hk hl
      have HNX : Hid ((∀ k, k < (d.1[j]?.getD id0).2.2.2.2.length → lostB d.1 ((d.1[j]?.getD id0).2.2.2.2[k]?.getD en0).2 = false) → ∀ j', j' < j + 1 → ∀ k, k < (d.1[j']?.getD id0).2.2.2.2.length → lostB d.1 ((d.1[j']?.getD id0).2.2.2.2[k]?.getD en0).2 = false) := fun hh j' hj' k hk => by
        by_cases e : j' = j
        · subst e; exact hh k hk
        · exact HZJ0.out j' (by omega) k hk
      clear h5 hI hc1 hm1
      generalize (d.1[j]?.getD id0) = dj at *
      obtain ⟨dk, dl, dz, db, es⟩ := dj
      dsimp only at *
      generalize db.length = nD2 at *
      obtain ⟨nE, hnE⟩ : ∃ nE, nE = es.length := ⟨_, rfl⟩
      have HNE : Hid (nE = es.length) := hnE
      rw [← hnE] at c4 hZ1 HCB HP1 HY HNX
      clear hnE
      go_wp2
      clear c0 c1 c2 c3 c4
      obtain ⟨wo, rfl⟩ : ∃ wo, wo = wr := ⟨_, rfl⟩
      go_loopw [17] (fun i wr2 => ∃ k : Nat, k ≤ nE ∧ i = .int .i64 k ∧ Below wo.heap.size wo wr2 ∧ ∀ k', k' < k → lostB d.1 (es[k']?.getD en0).2 = false) (fun i _ => nE - (intOf i).toNat)
      case atStart => exact ⟨0, Nat.zero_le _, rfl, later1 _ _, fun k hk => by omega⟩
      case round =>
        obtain ⟨k, hk, rfl, hbl2, hz2⟩ := hrel
        have HB2 : Hid (Below wo.heap.size wo wr) := hbl2
        have HZ2 : Hid (∀ k', k' < k → lostB d.1 (es[k']?.getD en0).2 = false) := hz2
        have HBW2 : Hid (Below w.heap.size w wr) := HBW.out.trans (hbl2.mono HBW.out.size)
        have HBX2 : Hid (Bx wr w.heap.size [.slice (some ⟨b, o, none⟩) n cI, .slice aD nD cD]) := fun i v hv => by
          have h1 := HX.out i v hv
          have h2 := (HBL.out.trans (hbl2.mono (by simpa using hwz))).block w.heap.size (by omega)
          simp only [World.cell?] at h1 ⊢
          rw [h2]; exact h1
        clear hbl2 hz2
        by_cases hlk : k < nE
        · obtain ⟨b1, o1, rfl, d0, d1⟩ := HCB.out k hlk
          replace d0 := cell_later HB2.out d0
          replace d1 := cell_later HB2.out d1
          have hx0 := HP1.out k hlk
          have HYK : Hid (lostB d.1 (es[k]?.getD en0).2 = true → lostF d.1 = 4) := HY.out k hlk
          have HNK : Hid (lostB d.1 (es[k]?.getD en0).2 = false → ∀ k', k' < k + 1 → lostB d.1 (es[k']?.getD en0).2 = false) := fun hh k' hk' => by
            by_cases e : k' = k
            · subst e; exact hh
            · exact HZ2.out k' (by omega)
          generalize (es[k]?.getD en0).1 = nm at *
          generalize (es[k]?.getD en0).2 = x at *
          have q0 := HBX2.out 0 _ rfl
          have q1 := HBX2.out 1 _ rfl
          have qlt := HBX2.out.lt
          have hQA : ∀ W, Below wr.heap.size wr W → Bx W w.heap.size [.slice (some ⟨b, o, none⟩) n cI, .slice aD nD cD] := fun W hW => HBX2.out.later hW
          have HQA : Hid (∀ W, Below wr.heap.size wr W → Bx W w.heap.size [.slice (some ⟨b, o, none⟩) n cI, .slice aD nD cD]) := hQA
          clear hQA
          have HTH : Hid (Calls Try.prog 55 #[.agg #[.slice (some ⟨b, o, none⟩) n cI, .slice aD nD cD], .int .i64 x] (wr.alloc (.cells #[.string nm, .int .i64 x] 47)) fun e w' => e = .returned (.bool (!lostB d.1 x)) ∧ Below (wr.alloc (.cells #[.string nm, .int .i64 x] 47)).heap.size (wr.alloc (.cells #[.string nm, .int .i64 x] 47)) w') := HIN.out _ x hx0 (HBW2.out.trans ((later1 _ _).mono HBW2.out.size))
          clear hx0 HIN HQA
          cases hl : lostB d.1 x with
          | true =>
            rw [hl] at HTH HYK
            have HR : Hid (lostF d.1 = 4) := HYK.out rfl
            clear hl HYK HNK
            go_wp2_with fail
            refine HTH.out.mono ?_
            rintro e w1 ⟨rfl, hb1⟩
            have HBWW : Hid (Below w.heap.size w w1) := HBW2.out.trans (((later1 _ _).trans (hb1.mono (by simp))).mono HBW2.out.size)
            clear hb1 q0 q1 d0 d1 HTH
            go_wp2
            go_ret
            exact ⟨ret_int HR.out.symm, HBWW.out⟩
          | false =>
            rw [hl] at HTH HNK
            have HR : Hid (∀ k', k' < k + 1 → lostB d.1 (es[k']?.getD en0).2 = false) := HNK.out rfl
            clear hl HYK HNK
            go_wp2_with fail
            refine HTH.out.mono ?_
            rintro e w1 ⟨rfl, hb1⟩
            have HBW1 : Hid (Below wr.heap.size wr w1) := (later1 _ _).trans (hb1.mono (by simp))
            clear hb1 q0 q1 d0 d1 HTH
            go_wp2
            go_roundw
            case rel => exact ⟨k + 1, by omega, by go_num, HB2.out.trans (HBW1.out.mono HB2.out.size), HR.out⟩
            case measure => simp [intOf]; omega
        · have HR : Hid (∀ j', j' < j + 1 → ∀ k, k < (d.1[j']?.getD id0).2.2.2.2.length → lostB d.1 ((d.1[j']?.getD id0).2.2.2.2[k]?.getD en0).2 = false) := HNX.out fun k' hk' => HZ2.out k' (by omega)
          go_wp2
          go_roundw
          case rel => exact ⟨j + 1, by omega, by go_num, HBL.out.trans (HB2.out.mono (by simpa using hwz)), HR.out⟩
          case measure => simp [intOf]; omega
    · have HR : Hid (lostF d.1 = 0) := lost_no fun j' hj' => HZJ0.out j' (by rw [HN.out] at hj'; omega)
      go_wp2
      go_ret
      exact ⟨ret_int HR.out.symm, HBW.out⟩
end Go.Proofs.Ytjabimfinanjoab

namespace Go.Proofs.Ytjabimfinanjoab
open Go.RowKit
set_option maxRecDepth 100000

abbrev E3 := Int × Int × Int
/-- The cells of a row of extents. -/
def exCell (es : List E3) (j : Nat) : Value := .int .i64 (if j % 3 = 0 then (es[j / 3]?.getD (0, 0, 0)).1 else if j % 3 = 1 then (es[j / 3]?.getD (0, 0, 0)).2.1 else (es[j / 3]?.getD (0, 0, 0)).2.2)
theorem exCell_0 (es : List E3) (k : Nat) : exCell es (k * 3) = .int .i64 (es[k]?.getD (0, 0, 0)).1 := by
  unfold exCell; rw [if_pos (by omega), show k * 3 / 3 = k by omega]
theorem exCell_1 (es : List E3) (k : Nat) : exCell es (k * 3 + 1) = .int .i64 (es[k]?.getD (0, 0, 0)).2.1 := by
  unfold exCell; rw [if_neg (by omega), if_pos (by omega), show (k * 3 + 1) / 3 = k by omega]
theorem exCell_2 (es : List E3) (k : Nat) : exCell es (k * 3 + 2) = .int .i64 (es[k]?.getD (0, 0, 0)).2.2 := by
  unfold exCell; rw [if_neg (by omega), if_neg (by omega), show (k * 3 + 2) / 3 = k by omega]

/-- Where the extents of a list lie. -/
def AtE (w : World) (a : Option Addr) (n : Nat) (es : List E3) : Prop :=
  ∀ k, k < n → ∃ b off, a = some ⟨b, off, none⟩ ∧ w.cell? ⟨b, off + k * 3, none⟩ = some (.int .i64 (es[k]?.getD (0, 0, 0)).1) ∧ w.cell? ⟨b, off + k * 3 + 1, none⟩ = some (.int .i64 (es[k]?.getD (0, 0, 0)).2.1) ∧ w.cell? ⟨b, off + k * 3 + 2, none⟩ = some (.int .i64 (es[k]?.getD (0, 0, 0)).2.2)
theorem AtE.later {w w' : World} {a : Option Addr} {n : Nat} {es : List E3} (h : AtE w a n es) (hb : Below w.heap.size w w') : AtE w' a n es := fun k hk => by
  obtain ⟨b, off, e, c0, c1, c2⟩ := h k hk
  exact ⟨b, off, e, cell_later hb c0, cell_later hb c1, cell_later hb c2⟩
/-- The slice v reads as the extents es. -/
def Exts (w : World) (v : Value) (es : List E3) : Prop := ∃ a cap, v = .slice a es.length cap ∧ (es.length ≤ maxLen ∧ es.length ≤ cap) ∧ AtE w a es.length es
theorem Exts.later {w w' : World} {v : Value} {es : List E3} (h : Exts w v es) (hb : Below w.heap.size w w') : Exts w' v es := by
  obtain ⟨a, cap, h1, h2, h3⟩ := h
  exact ⟨a, cap, h1, h2, h3.later hb⟩
theorem Exts.open' {w : World} {v : Value} {es : List E3} (h : Exts w v es) : ∃ a cap, v = .slice a es.length cap ∧ es.length ≤ maxLen ∧ AtE w a es.length es := by
  obtain ⟨a, cap, h1, h2, h3⟩ := h
  exact ⟨a, cap, h1, h2.1, h3⟩
theorem Exts.cap {w : World} {a : Option Addr} {n c : Nat} {es : List E3} (h : Exts w (.slice a n c) es) : es.length ≤ c := by
  obtain ⟨a', c', h1, h2, _⟩ := h
  simp only [Value.slice.injEq] at h1
  rw [h1.2.2]
  exact h2.2
theorem Exts.nil (w : World) (a : Option Addr) (cap : Nat) : Exts w (.slice a 0 cap) [] := ⟨a, cap, rfl, by simp, fun k hk => by simp at hk⟩

/-- The slice v holds the extents es, in one block of F. -/
def ExtsO (w : World) (v : Value) (es : List E3) (F : Nat → Prop) : Prop :=
  (es = [] ∧ ∃ a cap, v = .slice a 0 cap) ∨
  (∃ b cap, F b ∧ v = .slice (some ⟨b, 0, none⟩) es.length cap ∧ (es.length ≤ maxLen ∧ es.length ≤ cap) ∧ OwnRow w b (es.length * 3) (exCell es))
theorem OwnRow.atE {w : World} {b n : Nat} {es : List E3} (h : OwnRow w b (n * 3) (exCell es)) : AtE w (some ⟨b, 0, none⟩) n es := fun k hk =>
  ⟨b, 0, rfl, by rw [Nat.zero_add, h.cell (by omega), exCell_0], by rw [Nat.zero_add, h.cell (by omega), exCell_1], by rw [Nat.zero_add, h.cell (by omega), exCell_2]⟩
theorem ExtsO.reads {w : World} {v : Value} {es : List E3} {F : Nat → Prop} (h : ExtsO w v es F) : Exts w v es := by
  rcases h with ⟨rfl, a, cap, rfl⟩ | ⟨b, cap, _, h1, h2, h3⟩
  · exact Exts.nil w a cap
  · exact ⟨_, cap, h1, h2, h3.atE⟩
theorem ExtsO.keep {w w' : World} {v : Value} {es : List E3} {F : Nat → Prop} (h : ExtsO w v es F) (e : ∀ b, F b → b < w.heap.size → w'.heap[b]? = w.heap[b]?) : ExtsO w' v es F := by
  rcases h with h | ⟨b, cap, hF, h1, h2, h3⟩
  · exact Or.inl h
  · exact Or.inr ⟨b, cap, hF, h1, h2, h3.block (e b hF h3.lt)⟩
theorem ExtsO.mono {w : World} {v : Value} {es : List E3} {F G : Nat → Prop} (h : ExtsO w v es F) (e : ∀ b, F b → G b) : ExtsO w v es G := by
  rcases h with h | ⟨b, cap, hF, h1⟩
  · exact Or.inl h
  · exact Or.inr ⟨b, cap, e b hF, h1⟩
theorem ExtsO.bound {w : World} {v : Value} {es : List E3} {F : Nat → Prop} (h : ExtsO w v es F) : ExtsO w v es (fun b => F b ∧ b < w.heap.size) := by
  rcases h with h | ⟨b, cap, hF, h1, h2, h3⟩
  · exact Or.inl h
  · exact Or.inr ⟨b, cap, ⟨hF, h3.lt⟩, h1, h2, h3⟩
theorem ExtsO.later {w w' : World} {v : Value} {es : List E3} {F : Nat → Prop} (h : ExtsO w v es F) (hb : Below w.heap.size w w') : ExtsO w' v es F := h.keep fun b _ hlt => hb.block b hlt
theorem ExtsO.store {w : World} {v : Value} {es : List E3} {F : Nat → Prop} (h : ExtsO w v es F) {p : Addr} (hp : ∀ b, F b → b ≠ p.block) (x : Value) : ExtsO (w.setCell p x) v es F := h.keep fun b hb _ => Below.heap_setCell _ _ _ _ (hp b hb)

/-- The marks of n extents, from k on. -/
def marksE (k : Int) (n : Nat) : List E3 := (List.range n).map fun i : Nat => (k + 3 * (i : Int), k + 3 * (i : Int) + 1, k + 3 * (i : Int) + 2)
theorem marksE_length (k : Int) (n : Nat) : (marksE k n).length = n := by simp [marksE]
theorem marksE_get (k : Int) {n i : Nat} (h : i < n) : (marksE k n)[i]?.getD (0, 0, 0) = (k + 3 * (i : Int), k + 3 * (i : Int) + 1, k + 3 * (i : Int) + 2) := by simp [marksE, h]
theorem exCell_marks (k : Int) {n c : Nat} (h : c < n * 3) : exCell (marksE k n) c = .int .i64 (k + (c : Int)) := by
  have h3 : c / 3 < n := by omega
  unfold exCell
  rw [marksE_get k h3]
  congr 1
  have : c % 3 = 0 ∨ c % 3 = 1 ∨ c % 3 = 2 := by omega
  rcases this with e | e | e
  · rw [if_pos e]; omega
  · rw [if_neg (by omega), if_pos e]; show k + 3 * ((c / 3 : Nat) : Int) + 1 = k + (c : Int); omega
  · rw [if_neg (by omega), if_neg (by omega)]; show k + 3 * ((c / 3 : Nat) : Int) + 2 = k + (c : Int); omega

/-- 'make' of n triples. -/
theorem run_make_trip {P : Program} (t e : TypeId) (x y z : Value) (bytes : Nat) (ht : P.underlying t = some (.slice e)) (hinfo : (P.info? e).map (fun i => (i.zero, i.size, i.bytes)) = some (some (.agg #[x, y, z]), 3, bytes)) (hz : (Value.agg #[x, y, z]).cells = #[x, y, z])
    (kl kc : IntKind) (n : Nat) (hbytes : bytes * n ≤ 281474976710656) (h63 : n ≤ 9223372036854775807) (w : World) :
    (Instr.makeSlice t (.int kl (n : Int)) (.int kc (n : Int))).run P w = .ok (.slice (some ⟨w.heap.size, 0, none⟩) n n) (w.alloc (.cells (madeCells #[x, y, z] (n * 3)) e)) := by
  obtain ⟨i, hi, hzz⟩ := Option.map_eq_some_iff.1 hinfo
  simp only [Prod.mk.injEq] at hzz
  obtain ⟨h1, h2, h3⟩ := hzz
  have hb' : (i.bytes : Int) * (n : Int) ≤ 281474976710656 := by
    have h : ((i.bytes * n : Nat) : Int) ≤ 281474976710656 := by rw [h3]; omega
    rwa [Int.natCast_mul] at h
  have hr := run_make (P := P) w t e i _ ht hi h1 kl kc n n (by omega) (Int.le_refl _) hb' (by omega)
  simp only [Int.toNat_natCast, h2, hz] at hr
  exact hr
theorem OwnRow.madeTrip (w : World) (n : Nat) (t : TypeId) : OwnRow (w.alloc (.cells (madeCells #[.int .i64 0, .int .i64 0, .int .i64 0] (n * 3)) t)) w.heap.size (n * 3) (fun _ => .int .i64 0) := by
  refine ⟨_, t, Go.Deep.blk_alloc_new _ _, by rw [size_madeCells]; exact Nat.le_refl _, fun i hi => ?_⟩
  unfold madeCells
  rw [Array.getElem?_map]
  have h1 : (Array.range (n * 3))[i]? = some i := by simp [hi]
  rw [h1]
  have : i % 3 = 0 ∨ i % 3 = 1 ∨ i % 3 = 2 := by omega
  rcases this with e | e | e <;> simp [e]
/-- The cells of a row of extents of which the first j stand. -/
def partE (es : List E3) (j c : Nat) : Value := if c < j * 3 then exCell es c else .int .i64 0
theorem partE_next (es : List E3) (j c : Nat) : (if c = j * 3 + 2 then .int .i64 (es[j]?.getD (0, 0, 0)).2.2 else (if c = j * 3 + 1 then .int .i64 (es[j]?.getD (0, 0, 0)).2.1 else (if c = j * 3 then .int .i64 (es[j]?.getD (0, 0, 0)).1 else partE es j c))) = partE es (j + 1) c := by
  unfold partE
  by_cases e2 : c = j * 3 + 2
  · subst e2; rw [if_pos rfl, if_pos (by omega), exCell_2]
  · rw [if_neg e2]
    by_cases e1 : c = j * 3 + 1
    · subst e1; rw [if_pos rfl, if_pos (by omega), exCell_1]
    · rw [if_neg e1]
      by_cases e0 : c = j * 3
      · subst e0; rw [if_pos rfl, if_pos (by omega), exCell_0]
      · rw [if_neg e0]
        by_cases h : c < j * 3
        · rw [if_pos h, if_pos (by omega)]
        · rw [if_neg h, if_neg (by omega)]
end Go.Proofs.Ytjabimfinanjoab

namespace Go.Proofs.Ytjabimfinanjoab
open Go.RowKit
set_option maxRecDepth 100000

/-- The cells of extents, one behind the other. -/
def exCells (es : List E3) : List Value := es.flatMap fun e => [.int .i64 e.1, .int .i64 e.2.1, .int .i64 e.2.2]
theorem exCells_length (es : List E3) : (exCells es).length = es.length * 3 := by
  induction es with
  | nil => rfl
  | cons a t ih =>
    have : exCells (a :: t) = [.int .i64 a.1, .int .i64 a.2.1, .int .i64 a.2.2] ++ exCells t := by simp [exCells]
    rw [this, List.length_append, ih]
    simp [Nat.add_mul]
    omega
theorem exCells_append (es fs : List E3) : exCells (es ++ fs) = exCells es ++ exCells fs := by simp [exCells]
theorem exCells_get (es : List E3) (j : Nat) (h : j < es.length * 3) : (exCells es)[j]? = some (exCell es j) := by
  induction es generalizing j with
  | nil => simp at h
  | cons a t ih =>
    have e : exCells (a :: t) = .int .i64 a.1 :: .int .i64 a.2.1 :: .int .i64 a.2.2 :: exCells t := by simp [exCells]
    rw [e]
    match j with
    | 0 => simp [exCell]
    | 1 => simp [exCell]
    | 2 => simp [exCell]
    | j + 3 =>
      simp only [List.getElem?_cons_succ]
      rw [ih j (by simp at h; omega)]
      unfold exCell
      have h1 : (j + 3) % 3 = j % 3 := by omega
      have h2 : (j + 3) / 3 = j / 3 + 1 := by omega
      rw [h1, h2]
      simp
theorem exCells_one (es : List E3) : ∀ u ∈ exCells es, u.oneCell' = true := by
  intro u hu
  simp only [exCells, List.mem_flatMap] at hu
  obtain ⟨e, _, hu⟩ := hu
  simp at hu
  rcases hu with rfl | rfl | rfl <;> rfl
theorem AtE.cells {w : World} {b off n : Nat} {es : List E3} (h : AtE w (some ⟨b, off, none⟩) n es) (hn : es.length = n) (j : Nat) (u : Value) (hu : (exCells es)[j]? = some u) : w.cell? ((⟨b, off, none⟩ : Addr).add j) = some u := by
  have hj : j < es.length * 3 := by rw [← exCells_length]; exact (List.getElem?_eq_some_iff.1 hu).1
  rw [exCells_get es j hj] at hu
  simp only [Option.some.injEq] at hu
  subst hu
  obtain ⟨b', off', e, c0, c1, c2⟩ := h (j / 3) (by omega)
  simp only [Option.some.injEq, Addr.mk.injEq, and_true] at e
  obtain ⟨rfl, rfl⟩ := e
  rw [add_plain']
  have : j % 3 = 0 ∨ j % 3 = 1 ∨ j % 3 = 2 := by omega
  unfold exCell
  rcases this with e | e | e
  · rw [if_pos e, ← c0, show off + j = off + j / 3 * 3 by omega]
  · rw [if_neg (by omega), if_pos e, ← c1, show off + j = off + j / 3 * 3 + 1 by omega]
  · rw [if_neg (by omega), if_neg (by omega), ← c2, show off + j = off + j / 3 * 3 + 2 by omega]

end Go.Proofs.Ytjabimfinanjoab

namespace Go.Proofs.Ytjabimfinanjoab
open Go.RowKit
set_option maxRecDepth 100000

/-- 'copy' between two rows of n elements of 'size' cells each. -/
theorem run_copy_wide {P : Program} (w : World) (dT sT ty elem : TypeId) (g n dCap : Nat) (a : Addr) (sCap size : Nat) (cur : Array Value) (t : TypeId) (cs : List Value)
    (hu : P.underlying dT = some (.slice elem)) (hs : (P.info? elem).map (·.size) = some size)
    (hg : w.heap[g]? = some (.cells cur t (0, 0))) (hn : cs.length = n * size)
    (hsrc : ∀ j v, cs[j]? = some v → w.cell? (a.add j) = some v) (hfit : cs.length ≤ cur.size) (h1 : ∀ v ∈ cs, v.oneCell' = true) :
    (Builtin.copy_ #[dT, sT] ty #[.slice (some ⟨g, 0, none⟩) n dCap, .slice (some a) n sCap]).run P w = .ok (goInt n) (w.setRow g (cs ++ cur.toList.drop cs.length).toArray) := by
  have hl := run_loadCells_list (P := P) w a cs hsrc
  have hst := run_storeCells_at P g 0 t cs 0 cur w hg (by simpa using hfit) h1
  simp only [Nat.zero_add, List.take_zero, List.nil_append] at hst
  cases hq : P.info? elem with
  | none => simp [hq] at hs
  | some i =>
    have hi : i.size = size := by simpa [hq] using hs
    have hm : Nat.min n n = n := Nat.min_self n
    simp [Builtin.copy_, run_underlying hu, Builtin.lenOf, Builtin.firstCells, sizeOf, typeInfo, hq, hi, hm, ← hn, hl, hst]
theorem run_copy_zero {P : Program} (w : World) (dT sT ty elem : TypeId) (d a : Option Addr) (dCap sCap size : Nat) (hu : P.underlying dT = some (.slice elem)) (hs : (P.info? elem).map (·.size) = some size) :
    (Builtin.copy_ #[dT, sT] ty #[.slice d 0 dCap, .slice a 0 sCap]).run P w = .ok (goInt 0) w := by
  cases hq : P.info? elem with
  | none => simp [hq] at hs
  | some i => cases a <;> cases d <;> simp [Builtin.copy_, run_underlying hu, Builtin.lenOf, Builtin.firstCells, sizeOf, typeInfo, hq, storeCells, loadCells, loadCellsFrom]

end Go.Proofs.Ytjabimfinanjoab

namespace Go.Proofs.Ytjabimfinanjoab
open Go.RowKit
set_option maxRecDepth 100000

theorem AtE.take {w : World} {a : Option Addr} {n : Nat} {es : List E3} (h : AtE w a n es) {j : Nat} (hj : j ≤ n) : AtE w a j (es.take j) := fun k hk => by
  obtain ⟨b, off, e, c0, c1, c2⟩ := h k (by omega)
  refine ⟨b, off, e, ?_, ?_, ?_⟩ <;> rw [List.getElem?_take, if_pos hk] <;> assumption
end Go.Proofs.Ytjabimfinanjoab
