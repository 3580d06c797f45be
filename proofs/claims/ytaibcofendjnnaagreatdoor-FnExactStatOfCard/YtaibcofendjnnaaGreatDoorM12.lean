/- Files that are read, written, cut and dropped: what they come to. No program is named here. Directories: which name stands where, and what functions of directories come to. No program is named here. What can be reached: rounds over all inodes, and the way from one to the next, come to the same. What is within what: by steps so many at most, and by any way. The specification's PickBlocks. The program's UsedBlocks, FreeBlocks and PickBlocks. The program: what is wrong of inodes, data and entries of a file system. -/
import Derived.Test.YtaibcofendjnnaaGreatDoorM10
import Derived.Test.YtaibcofendjnnaaGreatDoorM11
import Derived.Test.YtaibcofendjnnaaGreatDoorM08
import Derived.Test.YtaibcofendjnnaaGreatDoorM09
import Derived.Test.YtaibcofendjnnaaGreatDoorM07
namespace Go.Proofs.YtaibcofendjnnaaGreatDoor
open Go.RowKit
set_option maxRecDepth 100000

/-- The first k of these blocks hold nothing. -/
def clrK (zss : List (List UInt8)) (bs : List Int) : Nat → List (List UInt8)
  | 0 => zss
  | k + 1 => (clrK zss bs k).set (bs[k]?.getD 0).toNat []
/-- The first k of these blocks hold what is theirs of data. -/
def putK (zss : List (List UInt8)) (bs : List Int) (data : List UInt8) : Nat → List (List UInt8)
  | 0 => zss
  | k + 1 => (putK zss bs data k).set (bs[k]?.getD 0).toNat ((data.drop (k * 8)).take 8)
theorem clrK_length (zss : List (List UInt8)) (bs : List Int) : ∀ k, (clrK zss bs k).length = zss.length
  | 0 => rfl
  | k + 1 => by show ((clrK zss bs k).set _ _).length = _; rw [List.length_set, clrK_length zss bs k]
theorem putK_length (zss : List (List UInt8)) (bs : List Int) (data : List UInt8) : ∀ k, (putK zss bs data k).length = zss.length
  | 0 => rfl
  | k + 1 => by show ((putK zss bs data k).set _ _).length = _; rw [List.length_set, putK_length zss bs data k]
theorem set_len_le {zss : List (List UInt8)} {m : Nat} (h : ∀ i : Nat, (zss[i]?.getD []).length ≤ m) (y : Nat) (zs : List UInt8) (hz : zs.length ≤ m) (i : Nat) : ((zss.set y zs)[i]?.getD []).length ≤ m := by
  rw [List.getElem?_set]
  by_cases e : y = i
  · rw [if_pos e]
    by_cases hl : y < zss.length
    · rw [if_pos hl]; exact hz
    · rw [if_neg hl]; simp
  · rw [if_neg e]; exact h i
theorem clrK_le {zss : List (List UInt8)} {m : Nat} (h : ∀ i : Nat, (zss[i]?.getD []).length ≤ m) (bs : List Int) : ∀ (k i : Nat), ((clrK zss bs k)[i]?.getD []).length ≤ m
  | 0, i => h i
  | k + 1, i => set_len_le (clrK_le h bs k) _ _ (by simp) i
theorem putK_le {zss : List (List UInt8)} (h : ∀ i : Nat, (zss[i]?.getD []).length ≤ 8) (bs : List Int) (data : List UInt8) : ∀ (k i : Nat), ((putK zss bs data k)[i]?.getD []).length ≤ 8
  | 0, i => h i
  | k + 1, i => set_len_le (putK_le h bs data k) _ _ (by rw [List.length_take]; omega) i
theorem ylens_eight {zss : List (List UInt8)} (h : ∀ i : Nat, (zss[i]?.getD []).length ≤ 8) : (ylens zss).sum ≤ 8 * zss.length := by
  unfold ylens
  induction zss with
  | nil => simp
  | cons z zss ih =>
    have h0 := h 0
    have := ih fun i => by have := h (i + 1); simpa using this
    simp at h0
    simp only [List.map_cons, List.sum_cons, List.length_cons]
    omega

/-- The blocks of the inode at a place. -/
def blkA (d : FD) (j : Nat) : List Int := (d.1[j]?.getD id0).2.2.2.1
/-- The file at place j with other blocks and bytes; the file at place j gone. -/
def setI (d : FD) (j : Nat) (bs : List Int) (n : Nat) : ID := ((d.1[j]?.getD id0).1, (d.1[j]?.getD id0).2.1, (n : Int), bs, (d.1[j]?.getD id0).2.2.2.2)
def setD (d : FD) (j : Nat) (bs : List Int) (data : List UInt8) : FD := (d.1.set j (setI d j bs data.length), putK (clrK d.2 (blkA d j) (blkA d j).length) bs data bs.length)
def dropD (d : FD) (j : Nat) : FD := (d.1.set j id0, clrK d.2 (blkA d j) (blkA d j).length)
def noFs (c : Int) : Int × FD := (c, [], [])
/-- SetBytes behind its first codes. -/
def setQ (d : FD) (j : Nat) (data : List UInt8) (busy : List Int) : Int × FD :=
  if data.length ≤ 32 then (if (pickR d.1 busy (((data.length + 7) / 8 : Nat) : Int)).1 = 0 then (0, setD d j (pickR d.1 busy (((data.length + 7) / 8 : Nat) : Int)).2 data) else noFs (pickR d.1 busy (((data.length + 7) / 8 : Nat) : Int)).1) else noFs 2
/-- The codes that SetBytes, WriteFile and CutFile ask alike. -/
def askR (d : FD) (x : Int) (busy : List Int) : Int := if (bytR d x).1 = 0 then busF busy else (bytR d x).1
def setR (d : FD) (x : Int) (data : List UInt8) (busy : List Int) : Int × FD := if askR d x busy = 0 then setQ d x.toNat data busy else noFs (askR d x busy)
def fromB (p : Int) : Bool := decide (0 ≤ p) && decide (p ≤ 1000)
/-- Bytes of a given number: the first of these, and 0 behind them. -/
def strY (zs : List UInt8) (n : Nat) : List UInt8 := (zs ++ List.replicate (n - zs.length) 0).take n
/-- Data in place of what is there from p on. -/
def mixY (zs : List UInt8) (p : Nat) (data : List UInt8) : List UInt8 := zs.take p ++ data ++ zs.drop (p + data.length)
def writeFR (d : FD) (x p : Int) (data : List UInt8) (busy : List Int) : Int × FD :=
  if askR d x busy = 0 then (if fromB p = true then (if p + (data.length : Int) ≤ 32 then (if data.length = 0 then (0, d) else setQ d x.toNat (mixY (strY (bytL d x.toNat) (max (p.toNat + data.length) (bytL d x.toNat).length)) p.toNat data) busy) else noFs 2) else noFs 3) else noFs (askR d x busy)
def cutR (d : FD) (x n : Int) (busy : List Int) : Int × FD :=
  if askR d x busy = 0 then (if 0 ≤ n ∧ n ≤ 32 then setQ d x.toNat (strY (bytL d x.toNat) n.toNat) busy else noFs 3) else noFs (askR d x busy)
def dropR (d : FD) (x : Int) : Int × FD := if (bytR d x).1 = 0 then (0, dropD d x.toNat) else noFs (bytR d x).1
/-- ReadFile. -/
def cutY (zs : List UInt8) (p n : Nat) : List UInt8 := (zs.drop p).take n
def readFR (d : FD) (x p n : Int) : Int × List UInt8 :=
  if (bytR d x).1 = 0 then (if fromB p && (decide (0 ≤ n) && decide (n ≤ 100)) then (0, cutY (bytL d x.toNat) p.toNat n.toNat) else (3, [])) else ((bytR d x).1, [])

/-- What stands where BytesIn tells no code. -/
structure Sound (d : FD) (j : Nat) : Prop where
  fs : fsF d = 0
  lt : j < d.1.length
  ten : d.1.length ≤ 10
  dat : d.2.length = 20
  eight : ∀ i : Nat, (d.2[i]?.getD []).length ≤ 8
  kind : (d.1[j]?.getD id0).1 = 1
  ent : (d.1[j]?.getD id0).2.2.2.2 = []
  four : (blkA d j).length ≤ 4
  blk : ∀ k : Nat, k < (blkA d j).length → 0 ≤ (blkA d j)[k]?.getD 0 ∧ (blkA d j)[k]?.getD 0 < 20
  bl : (bytL d j).length ≤ 32
theorem bytR_code {d : FD} {x : Int} (h : (bytR d x).1 = 0) : bytR d x = (0, bytL d x.toNat) ∧ fsF d = 0 ∧ (0 ≤ x ∧ x < (d.1.length : Int)) ∧ ¬ kindAt d.1 x.toNat = 2 ∧ ¬ kindAt d.1 x.toNat = 0 := by
  unfold bytR at h ⊢
  by_cases hf : fsF d = 0
  · rw [if_pos hf] at h ⊢
    by_cases hp : 0 ≤ x ∧ x < (d.1.length : Int)
    · rw [if_pos hp] at h ⊢
      by_cases h2 : kindAt d.1 x.toNat = 2
      · rw [if_pos h2] at h; simp at h
      · rw [if_neg h2] at h ⊢
        by_cases h0 : kindAt d.1 x.toNat = 0
        · rw [if_pos h0] at h; simp at h
        · rw [if_neg h0]
          exact ⟨rfl, hf, hp, h2, h0⟩
    · rw [if_neg hp] at h; simp at h
  · rw [if_neg hf] at h; exact absurd h hf
theorem bytR_bad {d : FD} {x : Int} (h : ¬ (bytR d x).1 = 0) : (bytR d x).2 = [] := by
  unfold bytR at h ⊢
  by_cases hf : fsF d = 0
  · rw [if_pos hf] at h ⊢
    by_cases hp : 0 ≤ x ∧ x < (d.1.length : Int)
    · rw [if_pos hp] at h ⊢
      by_cases h2 : kindAt d.1 x.toNat = 2
      · rw [if_pos h2]
      · rw [if_neg h2] at h ⊢
        by_cases h0 : kindAt d.1 x.toNat = 0
        · rw [if_pos h0]
        · rw [if_neg h0] at h; exact absurd rfl h
    · rw [if_neg hp]
  · rw [if_neg hf]
theorem ino_kinds {d : ID} (h : inoF d = 0) (h2 : ¬ d.1 = 2) (h0 : ¬ d.1 = 0) : d.1 = 1 ∧ d.2.2.2.2 = [] := by
  unfold inoF at h
  rw [if_neg h0] at h
  by_cases h1 : d.1 = 1
  · rw [if_pos h1] at h
    refine ⟨h1, ?_⟩
    by_cases hd : dpB d = true
    · rw [if_pos hd] at h; omega
    · unfold dpB at hd
      simp at hd
      exact hd
  · rw [if_neg h1, if_neg h2] at h; omega
theorem sound {d : FD} {x : Int} (h : (bytR d x).1 = 0) : Sound d x.toNat := by
  obtain ⟨_, hf, hp, h2, h0⟩ := bytR_code h
  obtain ⟨h1, g2, h3, _, _⟩ := fsE_zero (fsF_zero hf)
  obtain ⟨g1, _, g3⟩ := formB_no g2
  have hj : x.toNat < d.1.length := by omega
  have hk := ino_kinds (ins_ino h1 x.toNat hj) h2 h0
  have hsz := ino_size (ins_ino h1 x.toNat hj)
  have hb := bytK_len d (d.1[x.toNat]?.getD id0).2.2.2.1 (many_eight h3) _ (Nat.le_refl _)
  refine ⟨hf, hj, insF_ten h1, g3, many_eight h3, hk.1, hk.2, ?_, fun k hk => ins_blk h1 _ k hj hk, ?_⟩
  · show (d.1[x.toNat]?.getD id0).2.2.2.1.length ≤ 4
    omega
  · show (bytK d _ _).length ≤ 32
    omega
end Go.Proofs.YtaibcofendjnnaaGreatDoor

namespace Go.Proofs.YtaibcofendjnnaaGreatDoor
open Go.RowKit
set_option maxRecDepth 100000

theorem bl_irr : ∀ x : List UInt8, Op.bytesLess x x = false
  | [] => by simp [Op.bytesLess]
  | a :: x => by
    have h : ¬ a < a := by rw [UInt8.lt_iff_toNat_lt]; omega
    simp [Op.bytesLess, bl_irr x, h]
theorem bl_trans : ∀ {x y z : List UInt8}, Op.bytesLess x y = true → Op.bytesLess y z = true → Op.bytesLess x z = true
  | [], [], _, h1, _ => by simp [Op.bytesLess] at h1
  | [], _ :: _, [], _, h2 => by simp [Op.bytesLess] at h2
  | [], _ :: _, _ :: _, _, _ => by simp [Op.bytesLess]
  | _ :: _, [], _, h1, _ => by simp [Op.bytesLess] at h1
  | _ :: _, _ :: _, [], _, h2 => by simp [Op.bytesLess] at h2
  | a :: x, b :: y, c :: z, h1, h2 => by
    simp only [Op.bytesLess, Bool.or_eq_true, Bool.and_eq_true, decide_eq_true_eq, beq_iff_eq] at h1 h2 ⊢
    rcases h1 with h1 | ⟨rfl, h1⟩
    · rcases h2 with h2 | ⟨rfl, h2⟩
      · left; rw [UInt8.lt_iff_toNat_lt] at h1 h2 ⊢; omega
      · exact Or.inl h1
    · rcases h2 with h2 | ⟨rfl, h2⟩
      · exact Or.inl h2
      · exact Or.inr ⟨rfl, bl_trans h1 h2⟩
theorem bl_total : ∀ {x y : List UInt8}, Op.bytesLess x y = false → (x == y) = false → Op.bytesLess y x = true
  | [], [], _, h2 => by simp at h2
  | [], _ :: _, h1, _ => by simp [Op.bytesLess] at h1
  | _ :: _, [], _, _ => by simp [Op.bytesLess]
  | a :: x, b :: y, h1, h2 => by
    simp only [Op.bytesLess, Bool.or_eq_false_iff, Bool.and_eq_false_iff, decide_eq_false_iff_not] at h1
    simp only [Op.bytesLess, Bool.or_eq_true, Bool.and_eq_true, decide_eq_true_eq, beq_iff_eq]
    obtain ⟨h1, h3⟩ := h1
    by_cases e : a = b
    · subst e
      right
      refine ⟨rfl, bl_total ?_ ?_⟩
      · rcases h3 with h3 | h3
        · simp at h3
        · exact h3
      · simpa using h2
    · left
      rw [UInt8.lt_iff_toNat_lt] at h1 ⊢
      have : a.toNat ≠ b.toNat := fun h => e (UInt8.toNat_inj.1 h)
      omega
/-- The name of an entry is s; it is not below s. -/
def eqE (s : ByteArray) (e : EN) : Bool := e.1.toList == s.toList
def geE (s : ByteArray) (e : EN) : Bool := !(Op.bytesLess e.1.toList s.toList)
def idxE (es : List EN) (s : ByteArray) : Nat := es.findIdx (eqE s)
def plcE (es : List EN) (s : ByteArray) : Nat := es.findIdx (geE s)
def fndB (es : List EN) (s : ByteArray) : Bool := decide (plcE es s < es.length) && eqE s (es[plcE es s]?.getD en0)
theorem getD_el {es : List EN} {k : Nat} (h : k < es.length) : es[k]?.getD en0 = es[k] := by rw [List.getElem?_eq_getElem h]; rfl
theorem findIdx_is {p : EN → Bool} {es : List EN} {k : Nat} (hk : k < es.length) (h : p (es[k]?.getD en0) = true) (ha : ∀ j, j < k → p (es[j]?.getD en0) = false) : es.findIdx p = k := by
  rw [List.findIdx_eq hk]
  exact ⟨by rw [← getD_el hk]; exact h, fun j hj => by have := ha j hj; rw [getD_el (by omega)] at this; exact this⟩
theorem findIdx_no {p : EN → Bool} {es : List EN} (ha : ∀ j, j < es.length → p (es[j]?.getD en0) = false) : es.findIdx p = es.length := by
  rw [List.findIdx_eq_length]
  intro e he
  obtain ⟨j, hj, rfl⟩ := List.mem_iff_getElem.1 he
  have := ha j hj
  rw [getD_el hj] at this
  exact this
theorem findIdx_le {p : EN → Bool} (es : List EN) : es.findIdx p ≤ es.length := List.findIdx_le_length
theorem findIdx_at {p : EN → Bool} {es : List EN} (h : es.findIdx p < es.length) : p (es[es.findIdx p]?.getD en0) = true := by
  rw [getD_el h]; exact List.findIdx_getElem
theorem findIdx_lt {p : EN → Bool} {es : List EN} {j : Nat} (h : j < es.findIdx p) : p (es[j]?.getD en0) = false := by
  have := findIdx_le (p := p) es
  rw [getD_el (by omega)]
  have := List.not_of_lt_findIdx h
  simpa using this
/-- The names rise. -/
def Rises (es : List EN) : Prop := ∀ i, i + 1 < es.length → Op.bytesLess (es[i]?.getD en0).1.toList (es[i + 1]?.getD en0).1.toList = true
theorem Rises.lt {es : List EN} (h : Rises es) : ∀ {i k : Nat}, i < k → k < es.length → Op.bytesLess (es[i]?.getD en0).1.toList (es[k]?.getD en0).1.toList = true := by
  intro i k
  induction k with
  | zero => intro h0; omega
  | succ k ih =>
    intro h1 h2
    have h3 := h k h2
    by_cases e : i = k
    · subst e; exact h3
    · exact bl_trans (ih (by omega) (by omega)) h3
theorem eqE_self {s : ByteArray} {e : EN} (h : eqE s e = true) : e.1.toList = s.toList := by simpa [eqE] using h
theorem idx_plc {es : List EN} (h : Rises es) {s : ByteArray} (hi : idxE es s < es.length) : plcE es s = idxE es s := by
  have he := eqE_self (findIdx_at hi)
  refine findIdx_is hi ?_ fun j hj => ?_
  · unfold geE
    have h1 : (es[idxE es s]?.getD en0).1.toList = s.toList := he
    rw [h1, bl_irr]; rfl
  · unfold geE
    have h1 : (es[idxE es s]?.getD en0).1.toList = s.toList := he
    rw [← h1, h.lt hj hi]; rfl
theorem fnd_iff {es : List EN} (h : Rises es) (s : ByteArray) : fndB es s = decide (idxE es s < es.length) := by
  by_cases hi : idxE es s < es.length
  · rw [decide_eq_true hi]
    unfold fndB
    rw [idx_plc h hi, decide_eq_true hi]
    exact findIdx_at hi
  · rw [decide_eq_false hi]
    unfold fndB
    by_cases hp : plcE es s < es.length
    · rw [decide_eq_true hp, Bool.true_and]
      by_cases he : eqE s (es[plcE es s]?.getD en0) = true
      · exfalso
        apply hi
        have h1 : es.findIdx (eqE s) ≤ plcE es s := by
          by_cases h2 : plcE es s < es.findIdx (eqE s)
          · have := findIdx_lt h2; rw [he] at this; exact absurd this (by decide)
          · omega
        have h2 : idxE es s = es.findIdx (eqE s) := rfl
        omega
      · simpa using he
    · rw [decide_eq_false hp]; rfl

/-- The entries of the inode at a place. -/
def entA (d : FD) (j : Nat) : List EN := (d.1[j]?.getD id0).2.2.2.2
/-- What functions of directories ask alike. -/
def dirQ (d : FD) (x : Int) : Int := if fsE d = 0 then (if 0 ≤ x ∧ x < (d.1.length : Int) then (if kindAt d.1 x.toNat = 2 then 0 else 9) else 3) else fsE d
def dirN (d : FD) (x : Int) (s : ByteArray) : Int := if dirQ d x = 0 then nameF s else dirQ d x
/-- IsEmptyDir, LookName, NamesIn. -/
def emptyB (d : FD) (x : Int) : Bool := decide (dirQ d x = 0) && decide ((entA d x.toNat).length = 0)
def lookR (d : FD) (x : Int) (s : ByteArray) : Int × Int := if dirN d x s = 0 then (if idxE (entA d x.toNat) s < (entA d x.toNat).length then (0, ((entA d x.toNat)[idxE (entA d x.toNat) s]?.getD en0).2) else (4, 0)) else (dirN d x s, 0)
def namesD (d : FD) (x : Int) : Int × List (List UInt8) := if dirQ d x = 0 then (0, (entA d x.toNat).map fun e => e.1.toList) else (dirQ d x, [])
/-- What stands where a directory is told. -/
structure DirS (d : FD) (j : Nat) : Prop where
  fs : fsE d = 0
  lt : j < d.1.length
  ten : d.1.length ≤ 10
  dat : d.2.length = 20
  eight : ∀ i : Nat, (d.2[i]?.getD []).length ≤ 8
  kind : (d.1[j]?.getD id0).1 = 2
  six : (entA d j).length ≤ 6
  rises : Rises (entA d j)
  names : ∀ k : Nat, k < (entA d j).length → nameF ((entA d j)[k]?.getD en0).1 = 0
  ins : insF d.1 = 0
  leads : ∀ j, j < d.1.length → ∀ k, k < (d.1[j]?.getD id0).2.2.2.2.length → 0 ≤ ((d.1[j]?.getD id0).2.2.2.2[k]?.getD en0).2 ∧ ((d.1[j]?.getD id0).2.2.2.2[k]?.getD en0).2 < (d.1.length : Int)
theorem dirQ_in {d : FD} {x : Int} (h : dirQ d x = 0) : fsE d = 0 ∧ (0 ≤ x ∧ x < (d.1.length : Int)) ∧ kindAt d.1 x.toNat = 2 := by
  unfold dirQ at h
  by_cases hf : fsE d = 0
  · rw [if_pos hf] at h
    by_cases hp : 0 ≤ x ∧ x < (d.1.length : Int)
    · rw [if_pos hp] at h
      by_cases hk : kindAt d.1 x.toNat = 2
      · exact ⟨hf, hp, hk⟩
      · rw [if_neg hk] at h; omega
    · rw [if_neg hp] at h; omega
  · rw [if_neg hf] at h; exact absurd h hf
theorem ino_dir {x : ID} (h : inoF x = 0) (hk : x.1 = 2) : dirF x.2.2.2.2 = 0 := by
  unfold inoF at h
  rw [if_neg (by omega), if_neg (by omega), if_pos hk] at h
  by_cases hd : fpB x = true
  · rw [if_pos hd] at h; omega
  · rw [if_neg hd] at h; exact h
theorem dir_rises {es : List EN} (h : dirF es = 0) : Rises es ∧ (∀ k : Nat, k < es.length → nameF (es[k]?.getD en0).1 = 0) ∧ es.length ≤ 6 := by
  unfold dirF at h
  by_cases h6 : 6 < es.length
  · rw [if_pos h6] at h; omega
  · rw [if_neg h6] at h
    have hz := fstNZ_inv h
    have hn : ∀ k : Nat, k < es.length → nameF (es[k]?.getD en0).1 = 0 := fun k hk => by
      have := hz k hk
      unfold entF at this
      by_cases e : nameF (es[k]?.getD en0).1 = 0
      · exact e
      · rw [if_neg e] at this; exact absurd this e
    refine ⟨fun i hi => ?_, hn, by omega⟩
    have := hz (i + 1) hi
    unfold entF at this
    rw [if_pos (hn _ hi)] at this
    by_cases e : 0 ≤ (es[i + 1]?.getD en0).2 ∧ (es[i + 1]?.getD en0).2 ≤ 9
    · rw [if_pos e] at this
      by_cases e2 : 0 < i + 1 ∧ strLe (es[i + 1]?.getD en0).1 (es[i + 1 - 1]?.getD en0).1 = true
      · rw [if_pos e2] at this; omega
      · have e3 : strLe (es[i + 1]?.getD en0).1 (es[i]?.getD en0).1 = false := by
          rw [show i + 1 - 1 = i by omega] at e2
          simpa using e2
        unfold strLe at e3
        rw [Bool.or_eq_false_iff] at e3
        obtain ⟨e4, e5⟩ := e3
        exact bl_total e4 e5
    · rw [if_neg e] at this; omega
theorem dirS {d : FD} {x : Int} (h : dirQ d x = 0) : DirS d x.toNat := by
  obtain ⟨hf, hp, hk⟩ := dirQ_in h
  obtain ⟨h1, g2, h3, _, h5⟩ := fsE_zero hf
  obtain ⟨_, _, g3⟩ := formB_no g2
  have hj : x.toNat < d.1.length := by omega
  have hd := dir_rises (ino_dir (ins_ino h1 x.toNat hj) hk)
  exact ⟨hf, hj, insF_ten h1, g3, many_eight h3, hk, hd.2.2, hd.1, hd.2.1, h1, lost_in h1 h5⟩
end Go.Proofs.YtaibcofendjnnaaGreatDoor

namespace Go.Proofs.YtaibcofendjnnaaGreatDoor
open Go.RowKit
set_option maxRecDepth 100000

/-- What can be reached from a place; from the top. -/
inductive RT (E : Nat → List Int) (t : Nat) : Nat → Prop
  | zero : RT E t t
  | step {i : Nat} {x : Int} : RT E t i → x ∈ E i → RT E t x.toNat
abbrev RP (E : Nat → List Int) : Nat → Prop := RT E 0
def entsOf (ds : List ID) (i : Nat) : List Int := entI (ds[i]?.getD id0).2.2.2.2

theorem foldB_sound {Q : Nat → Prop} : ∀ (xs : List Int) {g : Nat → Bool}, (∀ i, g i = true → Q i) → (∀ x ∈ xs, Q x.toNat) → ∀ i, (xs.foldl setB g) i = true → Q i
  | [], _, hg, _, i, h => hg i h
  | x :: xs, g, hg, hx, i, h => foldB_sound xs (g := setB g x) (fun j hj => by
      unfold setB at hj
      by_cases e : j = x.toNat
      · rw [e]; exact hx x (by simp)
      · rw [if_neg e] at hj; exact hg j hj) (fun y hy => hx y (by simp [hy])) i h
theorem foldB_has : ∀ (xs : List Int) {g : Nat → Bool} {x : Int}, x ∈ xs → (xs.foldl setB g) x.toNat = true
  | y :: xs, g, x, h => by
    rcases List.mem_cons.1 h with rfl | h
    · exact foldB_mono xs (by simp [setB])
    · exact foldB_has xs h
theorem inoB_mono {ds : List ID} {g : Nat → Bool} {i j : Nat} (h : g i = true) : inoB ds g j i = true := by
  unfold inoB
  split
  · exact foldB_mono _ h
  · exact h
theorem sweepB_mono {ds : List ID} {g : Nat → Bool} {i : Nat} (h : g i = true) : ∀ j, sweepB ds g j i = true
  | 0 => h
  | j + 1 => inoB_mono (sweepB_mono h j)
theorem sweepB_later {ds : List ID} {g : Nat → Bool} {i j : Nat} (h : sweepB ds g j i = true) : ∀ k, sweepB ds g (j + k) i = true
  | 0 => h
  | k + 1 => inoB_mono (sweepB_later h k)
theorem sweepB_sound {ds : List ID} {g : Nat → Bool} (hg : ∀ i, g i = true → RP (entsOf ds) i) : ∀ j i, sweepB ds g j i = true → RP (entsOf ds) i
  | 0, i, h => hg i h
  | j + 1, i, h => by
    have h' : inoB ds (sweepB ds g j) j i = true := h
    unfold inoB at h'
    by_cases e : sweepB ds g j j = true
    · rw [if_pos e] at h'
      exact foldB_sound _ (sweepB_sound hg j) (fun x hx => .step (sweepB_sound hg j j e) hx) i h'
    · rw [if_neg e] at h'
      exact sweepB_sound hg j i h'
theorem sweepB_step {ds : List ID} {g : Nat → Bool} {i n : Nat} {x : Int} (hi : i < n) (hg : g i = true) (hx : x ∈ entsOf ds i) : sweepB ds g n x.toNat = true := by
  have h1 : sweepB ds g (i + 1) x.toNat = true := by
    show inoB ds (sweepB ds g i) i x.toNat = true
    unfold inoB
    rw [if_pos (sweepB_mono hg i)]
    exact foldB_has _ hx
  have h2 := sweepB_later h1 (n - (i + 1))
  rwa [show i + 1 + (n - (i + 1)) = n by omega] at h2
theorem reachG_sound {ds : List ID} : ∀ r i, reachG ds r i = true → RP (entsOf ds) i
  | 0, i, h => by
    have : i = 0 := by simpa [reachG] using h
    rw [this]; exact .zero
  | r + 1, i, h => sweepB_sound (reachG_sound r) _ i h
theorem reachG_mono {ds : List ID} {i r : Nat} (h : reachG ds r i = true) : ∀ k, reachG ds (r + k) i = true
  | 0 => h
  | k + 1 => sweepB_mono (reachG_mono h k) _
def cntG (g : Nat → Bool) : Nat → Nat
  | 0 => 0
  | n + 1 => cntG g n + if g n = true then 1 else 0
theorem cntG_le (g : Nat → Bool) : ∀ n, cntG g n ≤ n
  | 0 => Nat.le_refl _
  | n + 1 => by have := cntG_le g n; unfold cntG; split <;> omega
theorem cntG_mono {g g' : Nat → Bool} (h : ∀ i, g i = true → g' i = true) : ∀ n, cntG g n ≤ cntG g' n
  | 0 => Nat.le_refl _
  | n + 1 => by
    have := cntG_mono h n
    unfold cntG
    by_cases e : g n = true
    · rw [if_pos e, if_pos (h n e)]; omega
    · rw [if_neg e]; split <;> omega
theorem cntG_lt {g g' : Nat → Bool} (h : ∀ i, g i = true → g' i = true) {j : Nat} (h1 : g' j = true) (h0 : ¬ g j = true) : ∀ n, j < n → cntG g n < cntG g' n
  | n + 1, hj => by
    unfold cntG
    by_cases e : j = n
    · subst e
      have := cntG_mono h j
      rw [if_neg h0, if_pos h1]; omega
    · have := cntG_lt h h1 h0 n (by omega)
      by_cases e2 : g n = true
      · rw [if_pos e2, if_pos (h n e2)]; omega
      · rw [if_neg e2]; split <;> omega
def closedB (ds : List ID) (g : Nat → Bool) : Prop := ∀ i, i < ds.length → g i = true → ∀ x ∈ entsOf ds i, x.toNat < ds.length → g x.toNat = true
theorem reachG_closes (ds : List ID) (h0 : 0 < ds.length) : ∀ r, (∃ q, q ≤ r ∧ closedB ds (reachG ds q)) ∨ r + 1 ≤ cntG (reachG ds r) ds.length
  | 0 => by
    right
    have := cntG_lt (g := fun _ => false) (g' := reachG ds 0) (by simp) (j := 0) (by simp [reachG]) (by simp) ds.length h0
    omega
  | r + 1 => by
    rcases reachG_closes ds h0 r with ⟨q, hq, hc⟩ | h
    · exact Or.inl ⟨q, by omega, hc⟩
    · by_cases hc : closedB ds (reachG ds r)
      · exact Or.inl ⟨r, by omega, hc⟩
      · right
        have hm : ∀ i, reachG ds r i = true → reachG ds (r + 1) i = true := fun i hi => reachG_mono hi 1
        have : ∃ j, j < ds.length ∧ reachG ds (r + 1) j = true ∧ ¬ reachG ds r j = true := by
          apply Classical.byContradiction
          intro hno
          apply hc
          intro i hi hg x hx hxl
          apply Classical.byContradiction
          intro hn
          exact hno ⟨x.toNat, hxl, sweepB_step hi hg hx, hn⟩
        obtain ⟨j, hj, h1, h2⟩ := this
        have := cntG_lt hm h1 h2 ds.length hj
        omega
def inRange (ds : List ID) : Prop := ∀ i, i < ds.length → ∀ x ∈ entsOf ds i, 0 ≤ x ∧ x < (ds.length : Int)
theorem RT.lt {ds : List ID} {t : Nat} (hr : inRange ds) (h0 : t < ds.length) {i : Nat} (h : RT (entsOf ds) t i) : i < ds.length := by
  induction h with
  | zero => exact h0
  | step _ hx ih => have := hr _ ih _ hx; omega
/-- After as many rounds as there are inodes just what can be reached is marked. -/
theorem reachG_iff {ds : List ID} (hr : inRange ds) (h0 : 0 < ds.length) (i : Nat) : reachG ds ds.length i = true ↔ RP (entsOf ds) i := by
  refine ⟨reachG_sound _ i, fun h => ?_⟩
  rcases reachG_closes ds h0 ds.length with ⟨q, hq, hc⟩ | hbig
  · have key : reachG ds q i = true := by
      induction h with
      | zero => have := reachG_mono (ds := ds) (i := 0) (r := 0) (by simp [reachG]) q; rwa [Nat.zero_add] at this
      | step hp hx ih => exact hc _ (hp.lt hr h0) ih _ hx (by have := hr _ (hp.lt hr h0) _ hx; omega)
    have := reachG_mono key (ds.length - q)
    rwa [show q + (ds.length - q) = ds.length by omega] at this
  · have := cntG_le (reachG ds ds.length) ds.length
    omega

theorem nodup_len : ∀ (n : Nat) (h : List Nat), h.Nodup → (∀ i ∈ h, i < n) → h.length ≤ n
  | 0, h, _, hl => by
    match h, hl with
    | [], _ => simp
    | a :: _, hl => exact absurd (hl a (by simp)) (by omega)
  | n + 1, h, hd, hl => by
    have h1 := nodup_len n (h.erase n) (hd.erase n) (fun i hi => by
      have hne := (hd.mem_erase_iff.1 hi).1
      have := hl i (List.mem_of_mem_erase hi)
      omega)
    rw [List.length_erase] at h1
    split at h1 <;> omega

/-- The program's way: h is what was met, in that order; p of it are done, and k entries of the next one; m is how often each was met. -/
structure Bfs (E : Nat → List Int) (n : Nat) (h : List Nat) (p k : Nat) (m : Int → Int) (t : Nat) : Prop where
  nd : h.Nodup
  lt : ∀ i ∈ h, i < n
  rp : ∀ i ∈ h, RT E t i
  top : t ∈ h
  le : p ≤ h.length
  pos : ∀ i : Nat, 0 < m (i : Int) ↔ i ∈ h
  nn : ∀ x, 0 ≤ m x
  clo : ∀ q, q < p → ∀ x ∈ E (h[q]?.getD 0), x.toNat ∈ h
  cur : ∀ x ∈ (E (h[p]?.getD 0)).take k, x.toNat ∈ h
  bd : ∀ x, m x ≤ 1 + 6 * p + k
def putM (m : Int → Int) (x v : Int) : Int → Int := fun y => if y = x then v else m y
theorem Bfs.init (E : Nat → List Int) (n t : Nat) (hn : t < n) : Bfs E n [t] 0 0 (putM (fun _ => 0) (t : Int) 1) t where
  nd := by simp
  lt := by simpa using hn
  rp := by intro i hi; rw [List.mem_singleton.1 hi]; exact .zero
  top := by simp
  le := by simp
  pos := fun i => by
    unfold putM
    by_cases e : (i : Int) = (t : Int)
    · rw [if_pos e]
      have : i = t := by omega
      simp [this]
    · rw [if_neg e]
      simp; omega
  nn := fun x => by unfold putM; by_cases e : x = (t : Int) <;> simp [e]
  clo := fun q hq => by omega
  cur := by simp
  bd := fun x => by unfold putM; by_cases e : x = (t : Int) <;> simp [e]
theorem Bfs.len {E : Nat → List Int} {n : Nat} {h : List Nat} {p k : Nat} {m : Int → Int} {t : Nat} (b : Bfs E n h p k m t) : h.length ≤ n := nodup_len n h b.nd b.lt
theorem Bfs.bnd {E : Nat → List Int} {n : Nat} {h : List Nat} {p k : Nat} {m : Int → Int} {t : Nat} (b : Bfs E n h p k m t) (hn : n ≤ 10) (hk : k ≤ 6) (x : Int) : 0 ≤ m x ∧ m x ≤ 67 := by
  have h1 := b.bd x
  have h2 := b.len
  have h3 := b.le
  exact ⟨b.nn x, by omega⟩
theorem take_mem_succ {α : Type} {l : List α} {k : Nat} {a x : α} (hk : l[k]? = some a) (hx : x ∈ l.take (k + 1)) : x ∈ l.take k ∨ x = a := by
  have hlt := (List.getElem?_eq_some_iff.1 hk).1
  rw [List.take_succ_eq_append_getElem hlt] at hx
  rcases List.mem_append.1 hx with h | h
  · exact Or.inl h
  · right
    rw [List.mem_singleton.1 h]
    exact (List.getElem?_eq_some_iff.1 hk).2
theorem Bfs.old {E : Nat → List Int} {n : Nat} {h : List Nat} {p k : Nat} {m : Int → Int} {t : Nat} (b : Bfs E n h p k m t) {x : Int} (hx : (E (h[p]?.getD 0))[k]? = some x) (hx0 : 0 ≤ x) (hm : ¬ m x + 1 = 1) : Bfs E n h p (k + 1) (putM m x (m x + 1)) t := by
  have hmx := b.nn x
  have hxn : ((x.toNat : Nat) : Int) = x := by omega
  have hin : x.toNat ∈ h := (b.pos x.toNat).1 (by rw [hxn]; omega)
  refine ⟨b.nd, b.lt, b.rp, b.top, b.le, fun i => ?_, fun y => ?_, b.clo, fun y hy => ?_, fun y => ?_⟩
  · unfold putM
    by_cases e : (i : Int) = x
    · rw [if_pos e]
      have : i = x.toNat := by omega
      subst this
      exact ⟨fun _ => hin, fun _ => by omega⟩
    · rw [if_neg e]; exact b.pos i
  · unfold putM; split
    · omega
    · exact b.nn y
  · rcases take_mem_succ hx hy with hy | rfl
    · exact b.cur y hy
    · exact hin
  · have h1 := b.bd y
    have h2 := b.bd x
    unfold putM; split <;> omega
theorem Bfs.new {E : Nat → List Int} {n : Nat} {h : List Nat} {p k : Nat} {m : Int → Int} {t : Nat} (b : Bfs E n h p k m t) (hp : p < h.length) {x : Int} (hx : (E (h[p]?.getD 0))[k]? = some x) (hx0 : 0 ≤ x) (hxn : x < (n : Int)) (hm : m x + 1 = 1) : Bfs E n (h ++ [x.toNat]) p (k + 1) (putM m x (m x + 1)) t := by
  have hxe : ((x.toNat : Nat) : Int) = x := by omega
  have hni : ¬ x.toNat ∈ h := fun hin => by have := (b.pos x.toNat).2 hin; rw [hxe] at this; omega
  have hget : ∀ q, q < h.length → (h ++ [x.toNat])[q]?.getD 0 = h[q]?.getD 0 := fun q hq => by rw [List.getElem?_append_left hq]
  have hpin : h[p]?.getD 0 ∈ h := by rw [List.getElem?_eq_getElem hp]; exact List.getElem_mem hp
  have hle := b.le
  refine ⟨?_, fun i hi => ?_, fun i hi => ?_, by simp [b.top], by simp; omega, fun i => ?_, fun y => ?_, fun q hq y hy => ?_, fun y hy => ?_, fun y => ?_⟩
  · rw [List.nodup_append]
    exact ⟨b.nd, by simp, fun a ha c hc => by rw [List.mem_singleton.1 hc]; intro e; exact hni (e ▸ ha)⟩
  · rcases List.mem_append.1 hi with hi | hi
    · exact b.lt i hi
    · rw [List.mem_singleton.1 hi]; omega
  · rcases List.mem_append.1 hi with hi | hi
    · exact b.rp i hi
    · rw [List.mem_singleton.1 hi]
      exact .step (b.rp _ hpin) (List.mem_of_getElem? hx)
  · unfold putM
    by_cases e : (i : Int) = x
    · rw [if_pos e]
      have : i = x.toNat := by omega
      subst this
      simp; omega
    · rw [if_neg e, b.pos i]
      simp; intro e2; exact absurd (by omega) e
  · unfold putM; split
    · omega
    · exact b.nn y
  · rw [hget q (by omega)] at hy
    exact List.mem_append_left _ (b.clo q hq y hy)
  · rw [hget p hp] at hy
    rcases take_mem_succ hx hy with hy | rfl
    · exact List.mem_append_left _ (b.cur y hy)
    · simp
  · have h1 := b.bd y
    have h2 := b.bd x
    unfold putM; split <;> omega
theorem Bfs.next {E : Nat → List Int} {n : Nat} {h : List Nat} {p k : Nat} {m : Int → Int} {t : Nat} (b : Bfs E n h p k m t) (hp : p < h.length) (hk : (E (h[p]?.getD 0)).length = k) (hk6 : k ≤ 6) : Bfs E n h (p + 1) 0 m t := by
  refine ⟨b.nd, b.lt, b.rp, b.top, hp, b.pos, b.nn, fun q hq x hx => ?_, by simp, fun x => by have := b.bd x; omega⟩
  by_cases e : q = p
  · subst e
    exact b.cur x (by rw [List.take_of_length_le (by omega)]; exact hx)
  · exact b.clo q (by omega) x hx
theorem Bfs.done {E : Nat → List Int} {n : Nat} {h : List Nat} {p k : Nat} {m : Int → Int} {t : Nat} (b : Bfs E n h p k m t) (hp : p = h.length) (i : Nat) : 0 < m (i : Int) ↔ RT E t i := by
  rw [b.pos i]
  refine ⟨b.rp i, fun hr => ?_⟩
  induction hr with
  | zero => exact b.top
  | @step j x _ hx ih =>
    obtain ⟨q, hq, he⟩ := List.getElem_of_mem ih
    refine b.clo q (by omega) x ?_
    rw [List.getElem?_eq_getElem hq, Option.getD_some, he]
    exact hx
end Go.Proofs.YtaibcofendjnnaaGreatDoor

namespace Go.Proofs.YtaibcofendjnnaaGreatDoor
open Go.RowKit
set_option maxRecDepth 100000

/-- Can a be reached from t by k steps at most? -/
def witB (E : Nat → List Int) (a : Int) : Nat → Int → Bool
  | 0, t => decide (a = t)
  | k + 1, t => decide (a = t) || (E t.toNat).any fun x => witB E a k x
theorem RT.head {E : Nat → List Int} {t i : Nat} {x : Int} (hx : x ∈ E t) (h : RT E x.toNat i) : RT E t i := by
  induction h with
  | zero => exact .step .zero hx
  | step _ hy ih => exact .step ih hy
theorem witB_sound {E : Nat → List Int} {a : Int} : ∀ (k : Nat) (t : Int), witB E a k t = true → RT E t.toNat a.toNat
  | 0, t, h => by
    have : a = t := by simpa [witB] using h
    rw [this]; exact .zero
  | k + 1, t, h => by
    unfold witB at h
    rw [Bool.or_eq_true] at h
    rcases h with h | h
    · have : a = t := by simpa using h
      rw [this]; exact .zero
    · obtain ⟨x, hx, hw⟩ := List.any_eq_true.1 h
      exact RT.head hx (witB_sound k x hw)
theorem witB_self (E : Nat → List Int) (a : Int) : ∀ k, witB E a k a = true
  | 0 => by simp [witB]
  | k + 1 => by simp [witB]
theorem witB_up {E : Nat → List Int} {a : Int} : ∀ (k : Nat) (t : Int), witB E a k t = true → witB E a (k + 1) t = true
  | 0, t, h => by
    have : a = t := by simpa [witB] using h
    rw [this]; exact witB_self _ _ _
  | k + 1, t, h => by
    unfold witB at h ⊢
    rw [Bool.or_eq_true] at h ⊢
    rcases h with h | h
    · exact Or.inl h
    · obtain ⟨x, hx, hw⟩ := List.any_eq_true.1 h
      exact Or.inr (List.any_eq_true.2 ⟨x, hx, witB_up k x hw⟩)
/-- One step more behind a way. -/
theorem witB_tail {E : Nat → List Int} {a x : Int} (hx : x ∈ E a.toNat) : ∀ (k : Nat) (t : Int), witB E a k t = true → witB E x (k + 1) t = true
  | 0, t, h => by
    have : a = t := by simpa [witB] using h
    subst this
    unfold witB
    rw [Bool.or_eq_true]
    exact Or.inr (List.any_eq_true.2 ⟨x, hx, witB_self _ _ _⟩)
  | k + 1, t, h => by
    unfold witB at h
    rw [Bool.or_eq_true] at h
    rcases h with h | h
    · have : a = t := by simpa using h
      subst this
      unfold witB
      rw [Bool.or_eq_true]
      exact Or.inr (List.any_eq_true.2 ⟨x, hx, witB_self _ _ _⟩)
    · obtain ⟨y, hy, hw⟩ := List.any_eq_true.1 h
      unfold witB
      rw [Bool.or_eq_true]
      exact Or.inr (List.any_eq_true.2 ⟨y, hy, witB_tail hx k y hw⟩)
/-- No more is reached by one step more. -/
def shutB (E : Nat → List Int) (n : Nat) (t : Int) (k : Nat) : Prop := ∀ i : Nat, i < n → witB E (i : Int) (k + 1) t = true → witB E (i : Int) k t = true
theorem shut_or (E : Nat → List Int) (n : Nat) (t : Nat) (ht : t < n) : ∀ k, (∃ q, q ≤ k ∧ shutB E n (t : Int) q) ∨ k + 1 ≤ cntG (fun i => witB E (i : Int) k (t : Int)) n
  | 0 => by
    right
    have := cntG_lt (g := fun _ => false) (g' := fun i => witB E (i : Int) 0 (t : Int)) (by simp) (j := t) (by simp [witB]) (by simp) n ht
    omega
  | k + 1 => by
    rcases shut_or E n t ht k with ⟨q, hq, hc⟩ | h
    · exact Or.inl ⟨q, by omega, hc⟩
    · by_cases hc : shutB E n (t : Int) k
      · exact Or.inl ⟨k, by omega, hc⟩
      · right
        have : ∃ j, j < n ∧ witB E (j : Int) (k + 1) (t : Int) = true ∧ ¬ witB E (j : Int) k (t : Int) = true := by
          apply Classical.byContradiction
          intro hno
          apply hc
          intro i hi hw
          apply Classical.byContradiction
          intro hn
          exact hno ⟨i, hi, hw, hn⟩
        obtain ⟨j, hj, h1, h2⟩ := this
        have := cntG_lt (g := fun i => witB E (i : Int) k (t : Int)) (g' := fun i => witB E (i : Int) (k + 1) (t : Int)) (fun i hi => witB_up k _ hi) h1 h2 n hj
        omega
theorem witB_mono {E : Nat → List Int} {a t : Int} {k : Nat} (h : witB E a k t = true) : ∀ q, witB E a (k + q) t = true
  | 0 => h
  | q + 1 => witB_up _ _ (witB_mono h q)
theorem wit_iff {ds : List ID} (hr : inRange ds) {n a t : Nat} (hn : ds.length = n) (h10 : n ≤ 10) (ht : t < n) : witB (entsOf ds) (a : Int) 10 (t : Int) = true ↔ RT (entsOf ds) t a := by
  subst hn
  refine ⟨fun h => by have := witB_sound _ _ h; simpa using this, fun h => ?_⟩
  rcases shut_or (entsOf ds) ds.length t ht ds.length with ⟨q, hq, hc⟩ | hbig
  · have key : a < ds.length ∧ witB (entsOf ds) (a : Int) q (t : Int) = true := by
      induction h with
      | zero => exact ⟨ht, witB_self _ _ _⟩
      | @step j x _ hx ih =>
        have hxr := hr j ih.1 x hx
        have he : ((x.toNat : Nat) : Int) = x := by omega
        refine ⟨by omega, hc _ (by omega) ?_⟩
        rw [he]
        exact witB_tail (a := (j : Int)) (by simpa using hx) q _ ih.2
    have := witB_mono key.2 (10 - q)
    rwa [show q + (10 - q) = 10 by omega] at this
  · have := cntG_le (fun i => witB (entsOf ds) (i : Int) ds.length (t : Int)) ds.length
    omega
/-- IsWithin. -/
def withinB (d : FD) (x y : Int) : Bool := decide (0 ≤ x ∧ x < (d.1.length : Int)) && !decide (kindAt d.1 x.toNat = 0) && (decide (0 ≤ y ∧ y < (d.1.length : Int)) && !decide (kindAt d.1 y.toNat = 0)) && witB (entsOf d.1) x 10 y
end Go.Proofs.YtaibcofendjnnaaGreatDoor

namespace Go.Proofs.YtaibcofendjnnaaGreatDoor
open Go.RowKit
set_option maxRecDepth 100000

/-- The same, and the list is no longer than its room. -/
def AnsIC (w : World) (r : Int × List Int) (e : Ending) (w' : World) : Prop := AnsIR w r e w' ∧ ∀ x a n c, e = .returned (.agg #[x, .slice a n c]) → n ≤ c
theorem AnsIC.mk {w w' : World} {r : Int × List Int} {x : Value} {a : Option Addr} {n c : Nat} (h : AnsIR w r (.returned (.agg #[x, .slice a n c])) w') (hc : n ≤ c) : AnsIC w r (.returned (.agg #[x, .slice a n c])) w' :=
  ⟨h, fun x' a' n' c' e => by
    simp only [Ending.returned.injEq, Value.agg.injEq, Array.mk.injEq, List.cons.injEq, Value.slice.injEq, and_true] at e
    omega⟩
theorem slice_takeI (a : Option Addr) (n c j : Nat) (hj : j ≤ c) :
    ∃ A C, j ≤ C ∧ (∀ W : World, (Instr.slice 67 (.slice a n c) none (some (.int .i64 (j : Int))) none).run Tryz.prog W = .ok (.slice A j C) W) ∧ ∀ (W : World) (zs : List Int) (F : Nat → Prop), j ≤ zs.length → IntsO W (.slice a n c) zs F → IntsO W (.slice A j C) (zs.take j) F := by
  obtain ⟨i, hi, _⟩ := Tryz.infoInt'
  refine ⟨if c = 0 then a else a.map (·.add (0 * 1)), c - 0, by omega, fun W => ?_, fun W zs F hjn h => ?_⟩
  · simp [Instr.slice, Instr.sliceBounds, Instr.sliceBound, asIntOf, run_underlying Tryz.underlying67, sizeOf, typeInfo, hi, hj]
  · by_cases hj0 : j = 0
    · subst hj0
      exact Or.inl ⟨by simp, _, _, rfl⟩
    · rw [if_neg (by omega)]
      rcases h with ⟨h, _⟩ | ⟨b, cap, hF, h1, h2, h3⟩
      · subst h; simp at hjn; omega
      · simp only [Value.slice.injEq] at h1
        obtain ⟨rfl, rfl, rfl⟩ := h1
        have hl : (zs.take j).length = j := by rw [List.length_take]; omega
        refine Or.inr ⟨b, c - 0, hF, by rw [hl]; simp [Addr.add], by rw [hl]; omega, ?_⟩
        obtain ⟨cs, t, hb, hn, hc⟩ := h3
        refine ⟨cs, t, hb, by rw [hl]; omega, fun k hk => ?_⟩
        rw [hl] at hk
        rw [hc k (by omega)]
        dsimp only
        rw [List.getElem?_take, if_pos hk]
theorem Wds.cap {w : World} {n₀ : Nat} {a : Option Addr} {n c : Nat} {zs : List Int} (h : Wds w n₀ (.slice a n c) zs) : n ≤ c := by
  rcases h.2 with ⟨e, h0⟩ | ⟨g, cap, cur, e, _, _, hnc, _⟩
  · simp only [Value.slice.injEq] at e; omega
  · simp only [Value.slice.injEq] at e; omega

end Go.Proofs.YtaibcofendjnnaaGreatDoor

namespace Go.Proofs.YtaibcofendjnnaaGreatDoor
open Go.RowKit
set_option maxRecDepth 100000

theorem Arr.putNew (w : World) (g : Nat → Nat) : ∃ X, (Instr.storeAt 198 (.pointer (some ⟨w.heap.size, 0, none⟩)) (.agg (arrC g))).run Tryz.prog (w.alloc (.cells (arrC fun _ => 0) 198)) = .ok () X ∧ Arr X w.heap.size g ∧ Below w.heap.size w X := by
  obtain ⟨X, h1, h2, h3, h4, h5, h6, h7⟩ := (Arr.new w fun _ => 0).put g
  exact ⟨X, h1, h2, (later1 w (.cells (arrC fun _ => 0) 198)).trans ⟨h5, h6, h7, by omega, fun c hc => h4 c (by omega)⟩⟩

theorem busF_each {zs : List Int} (h : busF zs = 0) (k : Nat) (hk : k < zs.length) : 0 ≤ zs[k]?.getD 0 ∧ zs[k]?.getD 0 < 20 := by
  unfold busF at h
  split at h
  · omega
  · have := fstNZ_inv h k hk
    unfold rngF at this
    split at this <;> omega
theorem busF_len {zs : List Int} (h : busF zs = 0) : zs.length ≤ 20 := by
  unfold busF at h
  split at h <;> omega
theorem cntB_le (ds : List ID) (hs : sizeInos ds ≤ 1048576) (v : Int) : cntB ds v ≤ 1048576 := by
  have h2 := allB_len ds
  have h3 := List.count_le_length (a := v) (l := allB ds)
  unfold sizeInos at hs
  unfold cntB
  omega
theorem manyB_once (ds : List ID) : manyB (fun i => cntB ds (i : Int)) = !onceB ds 20 := by
  unfold manyB onceB
  rw [List.not_all_eq_any_not]
  congr 1
  funext k
  simp only [← decide_not]
  rw [decide_eq_decide]
  omega
theorem freeP_eq (ds : List ID) (bs : List Int) : (fun k : Nat => decide (cntB ds (k : Int) + bs.count (k : Int) = 0)) = freeP ds bs := by
  funext k
  unfold freeP
  cases hb : bs.contains (k : Int) with
  | true =>
    have h1 : (k : Int) ∈ bs := by simpa using hb
    have h2 := List.count_pos_iff.2 h1
    simp; omega
  | false =>
    have h1 : ¬ (k : Int) ∈ bs := by simpa using hb
    have h2 := List.count_eq_zero.2 h1
    rw [h2]; simp

end Go.Proofs.YtaibcofendjnnaaGreatDoor

namespace Go.Proofs.YtaibcofendjnnaaGreatDoor
open Go.RowKit
set_option maxRecDepth 100000

set_option maxHeartbeats 800000 in
theorem isInode_any (w : World) (a1 : Option Addr) (n1 c1 : Nat) (a2 : Option Addr) (n2 c2 : Nat) (x : Int) :
    Calls Tryz.prog 124 #[.agg #[.slice a1 n1 c1, .slice a2 n2 c2], .int .i64 x] w fun e w' => e = .returned (.bool (decide (0 ≤ x ∧ x < (n1 : Int)))) ∧ Below w.heap.size w w' := by
  by_cases h0 : 0 ≤ x
  · have HR : Hid (decide (0 ≤ x ∧ x < (n1 : Int)) = decide (x < (n1 : Int))) := by unfold Hid; simp [h0]
    have hd : decide (0 ≤ x) = true := by simpa using h0
    clear h0
    go_enter Tryz.func124, Tryz.ntmps124
    go_wp2
    go_ret
    exact ⟨ret_bool HR.out.symm, later1 _ _⟩
  · have HR : Hid (decide (0 ≤ x ∧ x < (n1 : Int)) = false) := by unfold Hid; simp; omega
    have hd : decide (0 ≤ x) = false := by simpa using h0
    clear h0
    go_enter Tryz.func124, Tryz.ntmps124
    go_wp2
    go_ret
    exact ⟨ret_bool HR.out.symm, later1 _ _⟩

/-- A place of what is not free. -/
def thB (d : FD) (x : Int) : Bool := decide (0 ≤ x ∧ x < (d.1.length : Int)) && !decide (kindAt d.1 x.toNat = 0)
set_option maxHeartbeats 1600000 in
theorem isThere_any (w : World) (a1 : Option Addr) (n1 c1 : Nat) (a2 : Option Addr) (n2 c2 : Nat) (d : FD) (x : Int) (h : FsR w (.slice a1 n1 c1) (.slice a2 n2 c2) d) :
    Calls Tryz.prog 76 #[.agg #[.slice a1 n1 c1, .slice a2 n2 c2], .int .i64 x] w fun e w' => e = .returned (.bool (thB d x)) ∧ Below w.heap.size w w' := by
  have HX : Hid (Bx (w.alloc (.cells #[.slice a1 n1 c1, .slice a2 n2 c2] 32)) w.heap.size [.slice a1 n1 c1, .slice a2 n2 c2]) := Bx.new w [.slice a1 n1 c1, .slice a2 n2 c2] _
  have HIN : Hid (∀ W, Calls Tryz.prog 124 #[.agg #[.slice a1 n1 c1, .slice a2 n2 c2], .int .i64 x] W fun e w' => e = .returned (.bool (decide (0 ≤ x ∧ x < (n1 : Int)))) ∧ Below W.heap.size W w') := fun W => isInode_any W a1 n1 c1 a2 n2 c2 x
  obtain ⟨_, _, e2, hm2, hc⟩ := h.1.open'
  simp only [Value.slice.injEq] at e2
  obtain ⟨rfl, rfl, rfl⟩ := e2
  have HB0 : Hid (Below w.heap.size w (w.alloc (.cells #[.slice a1 d.1.length c1, .slice a2 n2 c2] 32))) := later1 _ _
  have hz0 : (w.alloc (.cells #[.slice a1 d.1.length c1, .slice a2 n2 c2] 32)).heap.size = w.heap.size + 1 := by simp
  by_cases hin : 0 ≤ x ∧ x < (d.1.length : Int)
  · obtain ⟨y, rfl⟩ : ∃ y : Nat, x = (y : Int) := ⟨x.toNat, by omega⟩
    have hy : y < d.1.length := by omega
    obtain ⟨b, o, rfl, hK⟩ := hc y hy
    obtain ⟨_, _, _, _, kc, _⟩ := hK
    have HKC : Hid (w.cell? ⟨b, o + y * 5, none⟩ = some (.int .i64 (d.1[y]?.getD id0).1)) := kc
    have HR : Hid (thB d (y : Int) = ((d.1[y]?.getD id0).1 != 0)) := by
      unfold Hid thB kindAt
      rw [decide_eq_true hin, Bool.true_and, Int.toNat_natCast]
      by_cases e : (d.1[y]?.getD id0).1 = 0
      · rw [e]; rfl
      · rw [decide_eq_false e]; symm; simpa using e
    have hyI : (y : Int) < ((d.1.length : Nat) : Int) := hin.2
    rw [decide_eq_true hin] at HIN
    rw [HR.out]
    clear kc hc h hin HR hm2
    generalize (d.1[y]?.getD id0).1 = ky at *
    generalize d.1.length = n at *
    go_enter Tryz.func76, Tryz.ntmps76
    go_wp2_with fail
    generalize (w.alloc (.cells #[.slice (some ⟨b, o, none⟩) n c1, .slice a2 n2 c2] 32)) = W0 at *
    refine (HIN.out _).mono ?_
    rintro e w1 ⟨rfl, hb1⟩
    have HB1 : Hid (Below w.heap.size w w1) := HB0.out.trans (hb1.mono HB0.out.size)
    have x0 := (HX.out.later hb1) 0 _ rfl
    have x1 := (HX.out.later hb1) 1 _ rfl
    have k1 := cell_later HB1.out HKC.out
    clear hb1
    go_wp2
    go_ret
    exact ⟨rfl, HB1.out⟩
  · have HR : Hid (thB d x = false) := by unfold Hid thB; rw [decide_eq_false hin]; rfl
    rw [decide_eq_false hin] at HIN
    rw [HR.out]
    clear hc h hin HR hm2
    generalize d.1.length = n at *
    go_enter Tryz.func76, Tryz.ntmps76
    go_wp2_with fail
    generalize (w.alloc (.cells #[.slice a1 n c1, .slice a2 n2 c2] 32)) = W0 at *
    refine (HIN.out _).mono ?_
    rintro e w1 ⟨rfl, hb1⟩
    have HB1 : Hid (Below w.heap.size w w1) := HB0.out.trans (hb1.mono HB0.out.size)
    clear hb1
    go_wp2
    go_ret
    exact ⟨rfl, HB1.out⟩
theorem th_lost {d : FD} {x : Int} (h : 0 ≤ x) : thB d x = !lostB d.1 x := by
  unfold thB lostB
  by_cases e : x < (d.1.length : Int)
  · rw [decide_eq_true (show 0 ≤ x ∧ x < (d.1.length : Int) from ⟨h, e⟩), decide_eq_false (show ¬ (d.1.length : Int) ≤ x by omega)]
    simp
  · rw [decide_eq_false (show ¬ (0 ≤ x ∧ x < (d.1.length : Int)) from fun hh => e hh.2), decide_eq_true (show (d.1.length : Int) ≤ x by omega)]
    simp

/-- What is wrong of data and blocks. -/
def dataF (d : FD) : Int := if d.2.length = 20 then (if fstNZ (manyF d.2) d.2.length = 0 then (if onceB d.1 20 then 0 else 7) else fstNZ (manyF d.2) d.2.length) else 1

set_option maxHeartbeats 3200000 in
theorem dataFault_any (w : World) (aI : Option Addr) (nI cI : Nat) (aD : Option Addr) (nD cD : Nat) (d : FD) (h : FsR w (.slice aI nI cI) (.slice aD nD cD) d) (hs : sizeInos d.1 ≤ 1048576) (hi : insF d.1 = 0) :
    Calls Tryz.prog 113 #[.agg #[.slice aI nI cI, .slice aD nD cD]] w fun e w' => e = .returned (.int .i64 (dataF d)) ∧ Below w.heap.size w w' := by
  have HNE : Hid (∀ W, Below w.heap.size w W → Calls Tryz.prog 147 #[.slice aI nI cI] W fun e w' => e = .returned (.agg (arrC fun i => cntB d.1 (i : Int))) ∧ Below W.heap.size W w') := fun W hW => needsOf_any (h.1.later hW) hs hi
  have HM : Hid (∀ W, Calls Tryz.prog 148 #[.agg (arrC fun i => cntB d.1 (i : Int))] W fun e w' => e = .returned (.bool (!onceB d.1 20)) ∧ Below W.heap.size W w') := fun W => by
    rw [← manyB_once]
    exact anyOfTwo_any W _ (fun i => by have := cntB_le d.1 hs (i : Int); omega)
  have HX : Hid (Bx (w.alloc (.cells #[.slice aI nI cI, .slice aD nD cD] 32)) w.heap.size [.slice aI nI cI, .slice aD nD cD]) := Bx.new w [.slice aI nI cI, .slice aD nD cD] _
  have HDF : Hid (dataF d = if d.2.length = 20 then (if fstNZ (manyF d.2) d.2.length = 0 then (if onceB d.1 20 then 0 else 7) else fstNZ (manyF d.2) d.2.length) else 1) := rfl
  obtain ⟨_, _, e2, hm2, hc⟩ := h.2.open'
  simp only [Value.slice.injEq] at e2
  obtain ⟨rfl, rfl, rfl⟩ := e2
  by_cases h20 : d.2.length = 20
  rotate_left
  · have hb : ((d.2.length : Int) != 20) = true := by simp; omega
    have HR : Hid (dataF d = 1) := by unfold Hid; rw [HDF.out, if_neg h20]
    clear hc h HDF hm2 h20
    generalize d.2.length = n at *
    go_enter Tryz.func113, Tryz.ntmps113
    go_wp2
    go_ret
    exact ⟨ret_int HR.out.symm, later1 _ _⟩
  · have HC : Hid (AtYs w aD 20 d.2) := by unfold Hid; rw [← h20]; exact hc
    have HL2 : Hid (d.2.length = 20) := h20
    have hb : (((20 : Nat) : Int) != 20) = false := by simp
    clear hc h hm2
    rw [h20] at HX ⊢
    clear h20
    generalize (fun i : Nat => cntB d.1 (i : Int)) = g at *
    go_enter Tryz.func113, Tryz.ntmps113
    go_wp2
    go_loopw [12] (fun i wr => ∃ j : Nat, j ≤ 20 ∧ i = .int .i64 j ∧ wr = w.alloc (.cells #[.slice aI nI cI, .slice aD 20 cD] 32) ∧ ∀ i : Nat, i < j → manyF d.2 i = 0) (fun i _ => 20 - (intOf i).toNat)
    case atStart => exact ⟨0, by omega, rfl, rfl, fun i hi => by omega⟩
    case round =>
      obtain ⟨j, hj, rfl, rfl, hz⟩ := hrel
      have HZ : Hid (∀ i : Nat, i < j → manyF d.2 i = 0) := hz
      clear hz
      by_cases hlt : j < 20
      · obtain ⟨bD, oD, ua, uc, rfl, d0, _⟩ := HC.out j hlt
        replace d0 := cell_later (later1 w (.cells #[.slice aI nI cI, .slice (some ⟨bD, oD, none⟩) 20 cD] 32)) d0
        by_cases h8 : 8 < (d.2[j]?.getD []).length
        · have hb8 : decide ((8 : Int) < (((d.2[j]?.getD []).length : Nat) : Int)) = true := by simp; omega
          have HR : Hid (dataF d = 2) := by
            have e1 : manyF d.2 j = 2 := by unfold manyF; rw [if_pos h8]
            have e2 := fstNZ_at (f := manyF d.2) HZ.out (by rw [e1]; omega) (n := d.2.length) (by rw [HL2.out]; exact hlt)
            unfold Hid; rw [HDF.out, if_pos HL2.out, e2, e1]; simp
          clear h8
          generalize (d.2[j]?.getD []).length = ln at *
          go_wp2
          go_ret
          exact ⟨ret_int HR.out.symm, later1 _ _⟩
        · have hb8 : decide ((8 : Int) < (((d.2[j]?.getD []).length : Nat) : Int)) = false := by simp; omega
          have HR : Hid (∀ i : Nat, i < j + 1 → manyF d.2 i = 0) := fun i hi => by
            by_cases e : i = j
            · subst e; unfold manyF; rw [if_neg h8]
            · exact HZ.out i (by omega)
          clear h8
          generalize (d.2[j]?.getD []).length = ln at *
          go_wp2
          go_roundw
          case rel => exact ⟨j + 1, by omega, by go_num, by first | rfl | trivial, HR.out⟩
          case measure => simp [intOf]; omega
      · have HR : Hid (dataF d = if onceB d.1 20 then 0 else 7) := by
          have e2 := fstNZ_zero (f := manyF d.2) (n := d.2.length) (fun i hi => HZ.out i (by rw [HL2.out] at hi; omega))
          unfold Hid; rw [HDF.out, if_pos HL2.out, e2]; simp
        clear HZ HC HL2 HDF
        generalize onceB d.1 20 = bo at *
        cases bo
        all_goals
          go_wp2_with fail
          refine (HNE.out _ (later1 _ _)).mono ?_
          rintro e w1 ⟨rfl, hb1⟩
          have HB1 : Hid (Below w.heap.size w w1) := (later1 _ _).trans (hb1.mono (by simp))
          clear hb1
          go_wp2_with fail
          refine (HM.out _).mono ?_
          rintro e w2 ⟨rfl, hb2⟩
          have HB2 : Hid (Below w.heap.size w w2) := HB1.out.trans (hb2.mono HB1.out.size)
          clear hb2
          go_wp2
          go_ret
          exact ⟨ret_int HR.out.symm, HB2.out⟩

set_option maxHeartbeats 6400000 in
theorem entriesFault_any (w : World) (aI : Option Addr) (nI cI : Nat) (aD : Option Addr) (nD cD : Nat) (d : FD) (h : FsR w (.slice aI nI cI) (.slice aD nD cD) d) (hs : sizeInos d.1 ≤ 1048576) (hi : insF d.1 = 0) :
    Calls Tryz.prog 114 #[.agg #[.slice aI nI cI, .slice aD nD cD]] w fun e w' => e = .returned (.int .i64 (lostF d.1)) ∧ Below w.heap.size w w' := by
  have HX : Hid (Bx (w.alloc (.cells #[.slice aI nI cI, .slice aD nD cD] 32)) w.heap.size [.slice aI nI cI, .slice aD nD cD]) := Bx.new w [.slice aI nI cI, .slice aD nD cD] _
  obtain ⟨_, _, e2, hm2, hc⟩ := h.1.open'
  simp only [Value.slice.injEq] at e2
  obtain ⟨rfl, rfl, rfl⟩ := e2
  have HC : Hid (AtI w aI d.1.length d.1) := hc
  have HPOS : Hid (∀ j, j < d.1.length → ∀ k, k < (d.1[j]?.getD id0).2.2.2.2.length → 0 ≤ ((d.1[j]?.getD id0).2.2.2.2[k]?.getD en0).2) := fun j hj => ino_ent (ins_ino hi j hj)
  have HZ : Hid (∀ j, (d.1[j]?.getD id0).2.2.2.2.length ≤ 1048576) := fun j => by
    have := isz_le d.1 j
    have hd : sizeIno (d.1[j]?.getD id0) = (d.1[j]?.getD id0).2.2.2.1.length + ((d.1[j]?.getD id0).2.2.2.2.length + (nlens (d.1[j]?.getD id0).2.2.2.2).sum) := rfl
    unfold sizeInos at hs
    omega
  have HIN : Hid (∀ W x, 0 ≤ x → Below w.heap.size w W → Calls Tryz.prog 76 #[.agg #[.slice aI d.1.length cI, .slice aD nD cD], .int .i64 x] W fun e w' => e = .returned (.bool (!lostB d.1 x)) ∧ Below W.heap.size W w') := fun W x hx hW => by
    have := isThere_any W aI _ cI aD nD cD d x (h.later hW)
    rw [th_lost hx] at this
    exact this
  have hn : d.1.length ≤ 1048576 := by unfold sizeInos at hs; omega
  clear hc h hs hi hm2
  obtain ⟨n, hnn⟩ : ∃ n, d.1.length = n := ⟨_, rfl⟩
  have HN : Hid (d.1.length = n) := hnn
  rw [hnn] at HC HPOS HX HIN hn ⊢
  clear hnn
  go_enter Tryz.func114, Tryz.ntmps114
  go_wp2
  go_loopw [10] (fun i wr => ∃ j : Nat, j ≤ n ∧ i = .int .i64 j ∧ Below (w.heap.size + 1) (w.alloc (.cells #[.slice aI n cI, .slice aD nD cD] 32)) wr ∧ ∀ j', j' < j → ∀ k, k < (d.1[j']?.getD id0).2.2.2.2.length → lostB d.1 ((d.1[j']?.getD id0).2.2.2.2[k]?.getD en0).2 = false) (fun i _ => n - (intOf i).toNat)
  case atStart => exact ⟨0, Nat.zero_le _, rfl, Below.refl _ _, fun j hj => by omega⟩
  case round =>
    obtain ⟨j, hj, rfl, hbl, hz⟩ := hrel
    have HZJ0 : Hid (∀ j', j' < j → ∀ k, k < (d.1[j']?.getD id0).2.2.2.2.length → lostB d.1 ((d.1[j']?.getD id0).2.2.2.2[k]?.getD en0).2 = false) := hz
    have HBL : Hid (Below (w.heap.size + 1) (w.alloc (.cells #[.slice aI n cI, .slice aD nD cD] 32)) wr) := hbl
    have HBW : Hid (Below w.heap.size w wr) := (later1 _ _).trans (hbl.mono (by omega))
    have hwz : w.heap.size + 1 ≤ wr.heap.size := by have := hbl.size; simpa using this
    clear hbl hz
    by_cases hlt : j < n
    · obtain ⟨b, o, rfl, hI⟩ := HC.out j hlt
      obtain ⟨aB, cB, aE, cE, c0, c1, c2, c3, c4, h5⟩ := hI.later HBW.out
      obtain ⟨_, _, e1, hm1, _, hc1⟩ := h5.2.2.open'
      simp only [Value.slice.injEq] at e1
      obtain ⟨rfl, _, rfl⟩ := e1
      have hZ1 := HZ.out j
      have HCB : Hid (AtN wr aE (d.1[j]?.getD id0).2.2.2.2.length (d.1[j]?.getD id0).2.2.2.2) := hc1
      have HP1 : Hid (∀ k, k < (d.1[j]?.getD id0).2.2.2.2.length → 0 ≤ ((d.1[j]?.getD id0).2.2.2.2[k]?.getD en0).2) := HPOS.out j hlt
      have HY : Hid (∀ k, k < (d.1[j]?.getD id0).2.2.2.2.length → lostB d.1 ((d.1[j]?.getD id0).2.2.2.2[k]?.getD en0).2 = true → lostF d.1 = 4) := fun k hk hl => lost_yes (by rw [HN.out]; exact hlt) hk hl
      have HNX : Hid ((∀ k, k < (d.1[j]?.getD id0).2.2.2.2.length → lostB d.1 ((d.1[j]?.getD id0).2.2.2.2[k]?.getD en0).2 = false) → ∀ j', j' < j + 1 → ∀ k, k < (d.1[j']?.getD id0).2.2.2.2.length → lostB d.1 ((d.1[j']?.getD id0).2.2.2.2[k]?.getD en0).2 = false) := fun hh j' hj' k hk => by
        by_cases e : j' = j
        · subst e; exact hh k hk
        · exact HZJ0.out j' (by omega) k hk
      clear h5 hI hc1 hm1
      generalize (d.1[j]?.getD id0) = dj at *
      obtain ⟨dk, dl, dz, db, es⟩ := dj
      dsimp only at *
      generalize db.length = nD2 at *
      obtain ⟨nE, hnE⟩ : ∃ nE, nE = es.length := ⟨_, rfl⟩
      have HNE : Hid (nE = es.length) := hnE
      rw [← hnE] at c4 hZ1 HCB HP1 HY HNX
      clear hnE
      go_wp2
      clear c0 c1 c2 c3 c4
      obtain ⟨wo, rfl⟩ : ∃ wo, wo = wr := ⟨_, rfl⟩
      go_loopw [17] (fun i wr2 => ∃ k : Nat, k ≤ nE ∧ i = .int .i64 k ∧ Below wo.heap.size wo wr2 ∧ ∀ k', k' < k → lostB d.1 (es[k']?.getD en0).2 = false) (fun i _ => nE - (intOf i).toNat)
      case atStart => exact ⟨0, Nat.zero_le _, rfl, later1 _ _, fun k hk => by omega⟩
      case round =>
        obtain ⟨k, hk, rfl, hbl2, hz2⟩ := hrel
        have HB2 : Hid (Below wo.heap.size wo wr) := hbl2
        have HZ2 : Hid (∀ k', k' < k → lostB d.1 (es[k']?.getD en0).2 = false) := hz2
        have HBW2 : Hid (Below w.heap.size w wr) := HBW.out.trans (hbl2.mono HBW.out.size)
        have HBX2 : Hid (Bx wr w.heap.size [.slice (some ⟨b, o, none⟩) n cI, .slice aD nD cD]) := fun i v hv => by
          have h1 := HX.out i v hv
          have h2 := (HBL.out.trans (hbl2.mono (by simpa using hwz))).block w.heap.size (by omega)
          simp only [World.cell?] at h1 ⊢
          rw [h2]; exact h1
        clear hbl2 hz2
        by_cases hlk : k < nE
        · obtain ⟨b1, o1, rfl, d0, d1⟩ := HCB.out k hlk
          replace d0 := cell_later HB2.out d0
          replace d1 := cell_later HB2.out d1
          have hx0 := HP1.out k hlk
          have HYK : Hid (lostB d.1 (es[k]?.getD en0).2 = true → lostF d.1 = 4) := HY.out k hlk
          have HNK : Hid (lostB d.1 (es[k]?.getD en0).2 = false → ∀ k', k' < k + 1 → lostB d.1 (es[k']?.getD en0).2 = false) := fun hh k' hk' => by
            by_cases e : k' = k
            · subst e; exact hh
            · exact HZ2.out k' (by omega)
          generalize (es[k]?.getD en0).1 = nm at *
          generalize (es[k]?.getD en0).2 = x at *
          have q0 := HBX2.out 0 _ rfl
          have q1 := HBX2.out 1 _ rfl
          have qlt := HBX2.out.lt
          have hQA : ∀ W, Below wr.heap.size wr W → Bx W w.heap.size [.slice (some ⟨b, o, none⟩) n cI, .slice aD nD cD] := fun W hW => HBX2.out.later hW
          have HQA : Hid (∀ W, Below wr.heap.size wr W → Bx W w.heap.size [.slice (some ⟨b, o, none⟩) n cI, .slice aD nD cD]) := hQA
          clear hQA
          have HTH : Hid (Calls Tryz.prog 76 #[.agg #[.slice (some ⟨b, o, none⟩) n cI, .slice aD nD cD], .int .i64 x] (wr.alloc (.cells #[.string nm, .int .i64 x] 128)) fun e w' => e = .returned (.bool (!lostB d.1 x)) ∧ Below (wr.alloc (.cells #[.string nm, .int .i64 x] 128)).heap.size (wr.alloc (.cells #[.string nm, .int .i64 x] 128)) w') := HIN.out _ x hx0 (HBW2.out.trans ((later1 _ _).mono HBW2.out.size))
          clear hx0 HIN HQA
          cases hl : lostB d.1 x with
          | true =>
            rw [hl] at HTH HYK
            have HR : Hid (lostF d.1 = 4) := HYK.out rfl
            clear hl HYK HNK
            go_wp2_with fail
            refine HTH.out.mono ?_
            rintro e w1 ⟨rfl, hb1⟩
            have HBWW : Hid (Below w.heap.size w w1) := HBW2.out.trans (((later1 _ _).trans (hb1.mono (by simp))).mono HBW2.out.size)
            clear hb1 q0 q1 d0 d1 HTH
            go_wp2
            go_ret
            exact ⟨ret_int HR.out.symm, HBWW.out⟩
          | false =>
            rw [hl] at HTH HNK
            have HR : Hid (∀ k', k' < k + 1 → lostB d.1 (es[k']?.getD en0).2 = false) := HNK.out rfl
            clear hl HYK HNK
            go_wp2_with fail
            refine HTH.out.mono ?_
            rintro e w1 ⟨rfl, hb1⟩
            have HBW1 : Hid (Below wr.heap.size wr w1) := (later1 _ _).trans (hb1.mono (by simp))
            clear hb1 q0 q1 d0 d1 HTH
            go_wp2
            go_roundw
            case rel => exact ⟨k + 1, by omega, by go_num, HB2.out.trans (HBW1.out.mono HB2.out.size), HR.out⟩
            case measure => simp [intOf]; omega
        · have HR : Hid (∀ j', j' < j + 1 → ∀ k, k < (d.1[j']?.getD id0).2.2.2.2.length → lostB d.1 ((d.1[j']?.getD id0).2.2.2.2[k]?.getD en0).2 = false) := HNX.out fun k' hk' => HZ2.out k' (by omega)
          go_wp2
          go_roundw
          case rel => exact ⟨j + 1, by omega, by go_num, HBL.out.trans (HB2.out.mono (by simpa using hwz)), HR.out⟩
          case measure => simp [intOf]; omega
    · have HR : Hid (lostF d.1 = 0) := lost_no fun j' hj' => HZJ0.out j' (by rw [HN.out] at hj'; omega)
      go_wp2
      go_ret
      exact ⟨ret_int HR.out.symm, HBW.out⟩
end Go.Proofs.YtaibcofendjnnaaGreatDoor
