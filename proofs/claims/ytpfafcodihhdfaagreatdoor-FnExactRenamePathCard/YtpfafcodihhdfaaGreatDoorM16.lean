/- Directories: which name stands where, and what functions of directories come to. No program is named here. What can be reached: rounds over all inodes, and the way from one to the next, come to the same. What is within what: by steps so many at most, and by any way. The program's UsedBlocks, FreeBlocks and PickBlocks. -/
import Derived.Test.YtpfafcodihhdfaaGreatDoorM15
import Derived.Test.YtpfafcodihhdfaaGreatDoorM12
import Derived.Test.YtpfafcodihhdfaaGreatDoorM14
import Derived.Test.YtpfafcodihhdfaaGreatDoorM10
namespace Go.Proofs.YtpfafcodihhdfaaGreatDoor
open Go.RowKit
set_option maxRecDepth 100000

theorem bl_irr : ∀ x : List UInt8, Op.bytesLess x x = false
  | [] => by simp [Op.bytesLess]
  | a :: x => by
    have h : ¬ a < a := by rw [UInt8.lt_iff_toNat_lt]; omega
    simp [Op.bytesLess, bl_irr x, h]
theorem bl_trans : ∀ {x y z : List UInt8}, Op.bytesLess x y = true → Op.bytesLess y z = true → Op.bytesLess x z = true
  | [], [], _, h1, _ => by simp [Op.bytesLess] at h1
  | [], _ :: _, [], _, h2 => by simp [Op.bytesLess] at h2
  | [], _ :: _, _ :: _, _, _ => by simp [Op.bytesLess]
  | _ :: _, [], _, h1, _ => by simp [Op.bytesLess] at h1
  | _ :: _, _ :: _, [], _, h2 => by simp [Op.bytesLess] at h2
  | a :: x, b :: y, c :: z, h1, h2 => by
    simp only [Op.bytesLess, Bool.or_eq_true, Bool.and_eq_true, decide_eq_true_eq, beq_iff_eq] at h1 h2 ⊢
    rcases h1 with h1 | ⟨rfl, h1⟩
    · rcases h2 with h2 | ⟨rfl, h2⟩
      · left; rw [UInt8.lt_iff_toNat_lt] at h1 h2 ⊢; omega
      · exact Or.inl h1
    · rcases h2 with h2 | ⟨rfl, h2⟩
      · exact Or.inl h2
      · exact Or.inr ⟨rfl, bl_trans h1 h2⟩
theorem bl_total : ∀ {x y : List UInt8}, Op.bytesLess x y = false → (x == y) = false → Op.bytesLess y x = true
  | [], [], _, h2 => by simp at h2
  | [], _ :: _, h1, _ => by simp [Op.bytesLess] at h1
  | _ :: _, [], _, _ => by simp [Op.bytesLess]
  | a :: x, b :: y, h1, h2 => by
    simp only [Op.bytesLess, Bool.or_eq_false_iff, Bool.and_eq_false_iff, decide_eq_false_iff_not] at h1
    simp only [Op.bytesLess, Bool.or_eq_true, Bool.and_eq_true, decide_eq_true_eq, beq_iff_eq]
    obtain ⟨h1, h3⟩ := h1
    by_cases e : a = b
    · subst e
      right
      refine ⟨rfl, bl_total ?_ ?_⟩
      · rcases h3 with h3 | h3
        · simp at h3
        · exact h3
      · simpa using h2
    · left
      rw [UInt8.lt_iff_toNat_lt] at h1 ⊢
      have : a.toNat ≠ b.toNat := fun h => e (UInt8.toNat_inj.1 h)
      omega
/-- The name of an entry is s; it is not below s. -/
def eqE (s : ByteArray) (e : EN) : Bool := e.1.toList == s.toList
def geE (s : ByteArray) (e : EN) : Bool := !(Op.bytesLess e.1.toList s.toList)
def idxE (es : List EN) (s : ByteArray) : Nat := es.findIdx (eqE s)
def plcE (es : List EN) (s : ByteArray) : Nat := es.findIdx (geE s)
def fndB (es : List EN) (s : ByteArray) : Bool := decide (plcE es s < es.length) && eqE s (es[plcE es s]?.getD en0)
theorem getD_el {es : List EN} {k : Nat} (h : k < es.length) : es[k]?.getD en0 = es[k] := by rw [List.getElem?_eq_getElem h]; rfl
theorem findIdx_is {p : EN → Bool} {es : List EN} {k : Nat} (hk : k < es.length) (h : p (es[k]?.getD en0) = true) (ha : ∀ j, j < k → p (es[j]?.getD en0) = false) : es.findIdx p = k := by
  rw [List.findIdx_eq hk]
  exact ⟨by rw [← getD_el hk]; exact h, fun j hj => by have := ha j hj; rw [getD_el (by omega)] at this; exact this⟩
theorem findIdx_no {p : EN → Bool} {es : List EN} (ha : ∀ j, j < es.length → p (es[j]?.getD en0) = false) : es.findIdx p = es.length := by
  rw [List.findIdx_eq_length]
  intro e he
  obtain ⟨j, hj, rfl⟩ := List.mem_iff_getElem.1 he
  have := ha j hj
  rw [getD_el hj] at this
  exact this
theorem findIdx_le {p : EN → Bool} (es : List EN) : es.findIdx p ≤ es.length := List.findIdx_le_length
theorem findIdx_at {p : EN → Bool} {es : List EN} (h : es.findIdx p < es.length) : p (es[es.findIdx p]?.getD en0) = true := by
  rw [getD_el h]; exact List.findIdx_getElem
theorem findIdx_lt {p : EN → Bool} {es : List EN} {j : Nat} (h : j < es.findIdx p) : p (es[j]?.getD en0) = false := by
  have := findIdx_le (p := p) es
  rw [getD_el (by omega)]
  have := List.not_of_lt_findIdx h
  simpa using this
/-- The names rise. -/
def Rises (es : List EN) : Prop := ∀ i, i + 1 < es.length → Op.bytesLess (es[i]?.getD en0).1.toList (es[i + 1]?.getD en0).1.toList = true
theorem Rises.lt {es : List EN} (h : Rises es) : ∀ {i k : Nat}, i < k → k < es.length → Op.bytesLess (es[i]?.getD en0).1.toList (es[k]?.getD en0).1.toList = true := by
  intro i k
  induction k with
  | zero => intro h0; omega
  | succ k ih =>
    intro h1 h2
    have h3 := h k h2
    by_cases e : i = k
    · subst e; exact h3
    · exact bl_trans (ih (by omega) (by omega)) h3
theorem eqE_self {s : ByteArray} {e : EN} (h : eqE s e = true) : e.1.toList = s.toList := by simpa [eqE] using h
theorem idx_plc {es : List EN} (h : Rises es) {s : ByteArray} (hi : idxE es s < es.length) : plcE es s = idxE es s := by
  have he := eqE_self (findIdx_at hi)
  refine findIdx_is hi ?_ fun j hj => ?_
  · unfold geE
    have h1 : (es[idxE es s]?.getD en0).1.toList = s.toList := he
    rw [h1, bl_irr]; rfl
  · unfold geE
    have h1 : (es[idxE es s]?.getD en0).1.toList = s.toList := he
    rw [← h1, h.lt hj hi]; rfl
theorem fnd_iff {es : List EN} (h : Rises es) (s : ByteArray) : fndB es s = decide (idxE es s < es.length) := by
  by_cases hi : idxE es s < es.length
  · rw [decide_eq_true hi]
    unfold fndB
    rw [idx_plc h hi, decide_eq_true hi]
    exact findIdx_at hi
  · rw [decide_eq_false hi]
    unfold fndB
    by_cases hp : plcE es s < es.length
    · rw [decide_eq_true hp, Bool.true_and]
      by_cases he : eqE s (es[plcE es s]?.getD en0) = true
      · exfalso
        apply hi
        have h1 : es.findIdx (eqE s) ≤ plcE es s := by
          by_cases h2 : plcE es s < es.findIdx (eqE s)
          · have := findIdx_lt h2; rw [he] at this; exact absurd this (by decide)
          · omega
        have h2 : idxE es s = es.findIdx (eqE s) := rfl
        omega
      · simpa using he
    · rw [decide_eq_false hp]; rfl

/-- The entries of the inode at a place. -/
def entA (d : FD) (j : Nat) : List EN := (d.1[j]?.getD id0).2.2.2.2
/-- What functions of directories ask alike. -/
def dirQ (d : FD) (x : Int) : Int := if fsE d = 0 then (if 0 ≤ x ∧ x < (d.1.length : Int) then (if kindAt d.1 x.toNat = 2 then 0 else 9) else 3) else fsE d
def dirN (d : FD) (x : Int) (s : ByteArray) : Int := if dirQ d x = 0 then nameF s else dirQ d x
/-- IsEmptyDir, LookName, NamesIn. -/
def emptyB (d : FD) (x : Int) : Bool := decide (dirQ d x = 0) && decide ((entA d x.toNat).length = 0)
def lookR (d : FD) (x : Int) (s : ByteArray) : Int × Int := if dirN d x s = 0 then (if idxE (entA d x.toNat) s < (entA d x.toNat).length then (0, ((entA d x.toNat)[idxE (entA d x.toNat) s]?.getD en0).2) else (4, 0)) else (dirN d x s, 0)
def namesD (d : FD) (x : Int) : Int × List (List UInt8) := if dirQ d x = 0 then (0, (entA d x.toNat).map fun e => e.1.toList) else (dirQ d x, [])
/-- What stands where a directory is told. -/
structure DirS (d : FD) (j : Nat) : Prop where
  fs : fsE d = 0
  lt : j < d.1.length
  ten : d.1.length ≤ 10
  dat : d.2.length = 20
  eight : ∀ i : Nat, (d.2[i]?.getD []).length ≤ 8
  kind : (d.1[j]?.getD id0).1 = 2
  six : (entA d j).length ≤ 6
  rises : Rises (entA d j)
  names : ∀ k : Nat, k < (entA d j).length → nameF ((entA d j)[k]?.getD en0).1 = 0
  ins : insF d.1 = 0
  leads : ∀ j, j < d.1.length → ∀ k, k < (d.1[j]?.getD id0).2.2.2.2.length → 0 ≤ ((d.1[j]?.getD id0).2.2.2.2[k]?.getD en0).2 ∧ ((d.1[j]?.getD id0).2.2.2.2[k]?.getD en0).2 < (d.1.length : Int)
theorem dirQ_in {d : FD} {x : Int} (h : dirQ d x = 0) : fsE d = 0 ∧ (0 ≤ x ∧ x < (d.1.length : Int)) ∧ kindAt d.1 x.toNat = 2 := by
  unfold dirQ at h
  by_cases hf : fsE d = 0
  · rw [if_pos hf] at h
    by_cases hp : 0 ≤ x ∧ x < (d.1.length : Int)
    · rw [if_pos hp] at h
      by_cases hk : kindAt d.1 x.toNat = 2
      · exact ⟨hf, hp, hk⟩
      · rw [if_neg hk] at h; omega
    · rw [if_neg hp] at h; omega
  · rw [if_neg hf] at h; exact absurd h hf
theorem ino_dir {x : ID} (h : inoF x = 0) (hk : x.1 = 2) : dirF x.2.2.2.2 = 0 := by
  unfold inoF at h
  rw [if_neg (by omega), if_neg (by omega), if_pos hk] at h
  by_cases hd : fpB x = true
  · rw [if_pos hd] at h; omega
  · rw [if_neg hd] at h; exact h
theorem dir_rises {es : List EN} (h : dirF es = 0) : Rises es ∧ (∀ k : Nat, k < es.length → nameF (es[k]?.getD en0).1 = 0) ∧ es.length ≤ 6 := by
  unfold dirF at h
  by_cases h6 : 6 < es.length
  · rw [if_pos h6] at h; omega
  · rw [if_neg h6] at h
    have hz := fstNZ_inv h
    have hn : ∀ k : Nat, k < es.length → nameF (es[k]?.getD en0).1 = 0 := fun k hk => by
      have := hz k hk
      unfold entF at this
      by_cases e : nameF (es[k]?.getD en0).1 = 0
      · exact e
      · rw [if_neg e] at this; exact absurd this e
    refine ⟨fun i hi => ?_, hn, by omega⟩
    have := hz (i + 1) hi
    unfold entF at this
    rw [if_pos (hn _ hi)] at this
    by_cases e : 0 ≤ (es[i + 1]?.getD en0).2 ∧ (es[i + 1]?.getD en0).2 ≤ 9
    · rw [if_pos e] at this
      by_cases e2 : 0 < i + 1 ∧ strLe (es[i + 1]?.getD en0).1 (es[i + 1 - 1]?.getD en0).1 = true
      · rw [if_pos e2] at this; omega
      · have e3 : strLe (es[i + 1]?.getD en0).1 (es[i]?.getD en0).1 = false := by
          rw [show i + 1 - 1 = i by omega] at e2
          simpa using e2
        unfold strLe at e3
        rw [Bool.or_eq_false_iff] at e3
        obtain ⟨e4, e5⟩ := e3
        exact bl_total e4 e5
    · rw [if_neg e] at this; omega
theorem dirS {d : FD} {x : Int} (h : dirQ d x = 0) : DirS d x.toNat := by
  obtain ⟨hf, hp, hk⟩ := dirQ_in h
  obtain ⟨h1, g2, h3, _, h5⟩ := fsE_zero hf
  obtain ⟨_, _, g3⟩ := formB_no g2
  have hj : x.toNat < d.1.length := by omega
  have hd := dir_rises (ino_dir (ins_ino h1 x.toNat hj) hk)
  exact ⟨hf, hj, insF_ten h1, g3, many_eight h3, hk, hd.2.2, hd.1, hd.2.1, h1, lost_in h1 h5⟩
end Go.Proofs.YtpfafcodihhdfaaGreatDoor

namespace Go.Proofs.YtpfafcodihhdfaaGreatDoor
open Go.RowKit
set_option maxRecDepth 100000

/-- What can be reached from a place; from the top. -/
inductive RT (E : Nat → List Int) (t : Nat) : Nat → Prop
  | zero : RT E t t
  | step {i : Nat} {x : Int} : RT E t i → x ∈ E i → RT E t x.toNat
abbrev RP (E : Nat → List Int) : Nat → Prop := RT E 0
def entsOf (ds : List ID) (i : Nat) : List Int := entI (ds[i]?.getD id0).2.2.2.2

theorem foldB_sound {Q : Nat → Prop} : ∀ (xs : List Int) {g : Nat → Bool}, (∀ i, g i = true → Q i) → (∀ x ∈ xs, Q x.toNat) → ∀ i, (xs.foldl setB g) i = true → Q i
  | [], _, hg, _, i, h => hg i h
  | x :: xs, g, hg, hx, i, h => foldB_sound xs (g := setB g x) (fun j hj => by
      unfold setB at hj
      by_cases e : j = x.toNat
      · rw [e]; exact hx x (by simp)
      · rw [if_neg e] at hj; exact hg j hj) (fun y hy => hx y (by simp [hy])) i h
theorem foldB_has : ∀ (xs : List Int) {g : Nat → Bool} {x : Int}, x ∈ xs → (xs.foldl setB g) x.toNat = true
  | y :: xs, g, x, h => by
    rcases List.mem_cons.1 h with rfl | h
    · exact foldB_mono xs (by simp [setB])
    · exact foldB_has xs h
theorem inoB_mono {ds : List ID} {g : Nat → Bool} {i j : Nat} (h : g i = true) : inoB ds g j i = true := by
  unfold inoB
  split
  · exact foldB_mono _ h
  · exact h
theorem sweepB_mono {ds : List ID} {g : Nat → Bool} {i : Nat} (h : g i = true) : ∀ j, sweepB ds g j i = true
  | 0 => h
  | j + 1 => inoB_mono (sweepB_mono h j)
theorem sweepB_later {ds : List ID} {g : Nat → Bool} {i j : Nat} (h : sweepB ds g j i = true) : ∀ k, sweepB ds g (j + k) i = true
  | 0 => h
  | k + 1 => inoB_mono (sweepB_later h k)
theorem sweepB_sound {ds : List ID} {g : Nat → Bool} (hg : ∀ i, g i = true → RP (entsOf ds) i) : ∀ j i, sweepB ds g j i = true → RP (entsOf ds) i
  | 0, i, h => hg i h
  | j + 1, i, h => by
    have h' : inoB ds (sweepB ds g j) j i = true := h
    unfold inoB at h'
    by_cases e : sweepB ds g j j = true
    · rw [if_pos e] at h'
      exact foldB_sound _ (sweepB_sound hg j) (fun x hx => .step (sweepB_sound hg j j e) hx) i h'
    · rw [if_neg e] at h'
      exact sweepB_sound hg j i h'
theorem sweepB_step {ds : List ID} {g : Nat → Bool} {i n : Nat} {x : Int} (hi : i < n) (hg : g i = true) (hx : x ∈ entsOf ds i) : sweepB ds g n x.toNat = true := by
  have h1 : sweepB ds g (i + 1) x.toNat = true := by
    show inoB ds (sweepB ds g i) i x.toNat = true
    unfold inoB
    rw [if_pos (sweepB_mono hg i)]
    exact foldB_has _ hx
  have h2 := sweepB_later h1 (n - (i + 1))
  rwa [show i + 1 + (n - (i + 1)) = n by omega] at h2
theorem reachG_sound {ds : List ID} : ∀ r i, reachG ds r i = true → RP (entsOf ds) i
  | 0, i, h => by
    have : i = 0 := by simpa [reachG] using h
    rw [this]; exact .zero
  | r + 1, i, h => sweepB_sound (reachG_sound r) _ i h
theorem reachG_mono {ds : List ID} {i r : Nat} (h : reachG ds r i = true) : ∀ k, reachG ds (r + k) i = true
  | 0 => h
  | k + 1 => sweepB_mono (reachG_mono h k) _
def cntG (g : Nat → Bool) : Nat → Nat
  | 0 => 0
  | n + 1 => cntG g n + if g n = true then 1 else 0
theorem cntG_le (g : Nat → Bool) : ∀ n, cntG g n ≤ n
  | 0 => Nat.le_refl _
  | n + 1 => by have := cntG_le g n; unfold cntG; split <;> omega
theorem cntG_mono {g g' : Nat → Bool} (h : ∀ i, g i = true → g' i = true) : ∀ n, cntG g n ≤ cntG g' n
  | 0 => Nat.le_refl _
  | n + 1 => by
    have := cntG_mono h n
    unfold cntG
    by_cases e : g n = true
    · rw [if_pos e, if_pos (h n e)]; omega
    · rw [if_neg e]; split <;> omega
theorem cntG_lt {g g' : Nat → Bool} (h : ∀ i, g i = true → g' i = true) {j : Nat} (h1 : g' j = true) (h0 : ¬ g j = true) : ∀ n, j < n → cntG g n < cntG g' n
  | n + 1, hj => by
    unfold cntG
    by_cases e : j = n
    · subst e
      have := cntG_mono h j
      rw [if_neg h0, if_pos h1]; omega
    · have := cntG_lt h h1 h0 n (by omega)
      by_cases e2 : g n = true
      · rw [if_pos e2, if_pos (h n e2)]; omega
      · rw [if_neg e2]; split <;> omega
def closedB (ds : List ID) (g : Nat → Bool) : Prop := ∀ i, i < ds.length → g i = true → ∀ x ∈ entsOf ds i, x.toNat < ds.length → g x.toNat = true
theorem reachG_closes (ds : List ID) (h0 : 0 < ds.length) : ∀ r, (∃ q, q ≤ r ∧ closedB ds (reachG ds q)) ∨ r + 1 ≤ cntG (reachG ds r) ds.length
  | 0 => by
    right
    have := cntG_lt (g := fun _ => false) (g' := reachG ds 0) (by simp) (j := 0) (by simp [reachG]) (by simp) ds.length h0
    omega
  | r + 1 => by
    rcases reachG_closes ds h0 r with ⟨q, hq, hc⟩ | h
    · exact Or.inl ⟨q, by omega, hc⟩
    · by_cases hc : closedB ds (reachG ds r)
      · exact Or.inl ⟨r, by omega, hc⟩
      · right
        have hm : ∀ i, reachG ds r i = true → reachG ds (r + 1) i = true := fun i hi => reachG_mono hi 1
        have : ∃ j, j < ds.length ∧ reachG ds (r + 1) j = true ∧ ¬ reachG ds r j = true := by
          apply Classical.byContradiction
          intro hno
          apply hc
          intro i hi hg x hx hxl
          apply Classical.byContradiction
          intro hn
          exact hno ⟨x.toNat, hxl, sweepB_step hi hg hx, hn⟩
        obtain ⟨j, hj, h1, h2⟩ := this
        have := cntG_lt hm h1 h2 ds.length hj
        omega
def inRange (ds : List ID) : Prop := ∀ i, i < ds.length → ∀ x ∈ entsOf ds i, 0 ≤ x ∧ x < (ds.length : Int)
theorem RT.lt {ds : List ID} {t : Nat} (hr : inRange ds) (h0 : t < ds.length) {i : Nat} (h : RT (entsOf ds) t i) : i < ds.length := by
  induction h with
  | zero => exact h0
  | step _ hx ih => have := hr _ ih _ hx; omega
/-- After as many rounds as there are inodes just what can be reached is marked. -/
theorem reachG_iff {ds : List ID} (hr : inRange ds) (h0 : 0 < ds.length) (i : Nat) : reachG ds ds.length i = true ↔ RP (entsOf ds) i := by
  refine ⟨reachG_sound _ i, fun h => ?_⟩
  rcases reachG_closes ds h0 ds.length with ⟨q, hq, hc⟩ | hbig
  · have key : reachG ds q i = true := by
      induction h with
      | zero => have := reachG_mono (ds := ds) (i := 0) (r := 0) (by simp [reachG]) q; rwa [Nat.zero_add] at this
      | step hp hx ih => exact hc _ (hp.lt hr h0) ih _ hx (by have := hr _ (hp.lt hr h0) _ hx; omega)
    have := reachG_mono key (ds.length - q)
    rwa [show q + (ds.length - q) = ds.length by omega] at this
  · have := cntG_le (reachG ds ds.length) ds.length
    omega

theorem nodup_len : ∀ (n : Nat) (h : List Nat), h.Nodup → (∀ i ∈ h, i < n) → h.length ≤ n
  | 0, h, _, hl => by
    match h, hl with
    | [], _ => simp
    | a :: _, hl => exact absurd (hl a (by simp)) (by omega)
  | n + 1, h, hd, hl => by
    have h1 := nodup_len n (h.erase n) (hd.erase n) (fun i hi => by
      have hne := (hd.mem_erase_iff.1 hi).1
      have := hl i (List.mem_of_mem_erase hi)
      omega)
    rw [List.length_erase] at h1
    split at h1 <;> omega

/-- The program's way: h is what was met, in that order; p of it are done, and k entries of the next one; m is how often each was met. -/
structure Bfs (E : Nat → List Int) (n : Nat) (h : List Nat) (p k : Nat) (m : Int → Int) (t : Nat) : Prop where
  nd : h.Nodup
  lt : ∀ i ∈ h, i < n
  rp : ∀ i ∈ h, RT E t i
  top : t ∈ h
  le : p ≤ h.length
  pos : ∀ i : Nat, 0 < m (i : Int) ↔ i ∈ h
  nn : ∀ x, 0 ≤ m x
  clo : ∀ q, q < p → ∀ x ∈ E (h[q]?.getD 0), x.toNat ∈ h
  cur : ∀ x ∈ (E (h[p]?.getD 0)).take k, x.toNat ∈ h
  bd : ∀ x, m x ≤ 1 + 6 * p + k
def putM (m : Int → Int) (x v : Int) : Int → Int := fun y => if y = x then v else m y
theorem Bfs.init (E : Nat → List Int) (n t : Nat) (hn : t < n) : Bfs E n [t] 0 0 (putM (fun _ => 0) (t : Int) 1) t where
  nd := by simp
  lt := by simpa using hn
  rp := by intro i hi; rw [List.mem_singleton.1 hi]; exact .zero
  top := by simp
  le := by simp
  pos := fun i => by
    unfold putM
    by_cases e : (i : Int) = (t : Int)
    · rw [if_pos e]
      have : i = t := by omega
      simp [this]
    · rw [if_neg e]
      simp; omega
  nn := fun x => by unfold putM; by_cases e : x = (t : Int) <;> simp [e]
  clo := fun q hq => by omega
  cur := by simp
  bd := fun x => by unfold putM; by_cases e : x = (t : Int) <;> simp [e]
theorem Bfs.len {E : Nat → List Int} {n : Nat} {h : List Nat} {p k : Nat} {m : Int → Int} {t : Nat} (b : Bfs E n h p k m t) : h.length ≤ n := nodup_len n h b.nd b.lt
theorem Bfs.bnd {E : Nat → List Int} {n : Nat} {h : List Nat} {p k : Nat} {m : Int → Int} {t : Nat} (b : Bfs E n h p k m t) (hn : n ≤ 10) (hk : k ≤ 6) (x : Int) : 0 ≤ m x ∧ m x ≤ 67 := by
  have h1 := b.bd x
  have h2 := b.len
  have h3 := b.le
  exact ⟨b.nn x, by omega⟩
theorem take_mem_succ {α : Type} {l : List α} {k : Nat} {a x : α} (hk : l[k]? = some a) (hx : x ∈ l.take (k + 1)) : x ∈ l.take k ∨ x = a := by
  have hlt := (List.getElem?_eq_some_iff.1 hk).1
  rw [List.take_succ_eq_append_getElem hlt] at hx
  rcases List.mem_append.1 hx with h | h
  · exact Or.inl h
  · right
    rw [List.mem_singleton.1 h]
    exact (List.getElem?_eq_some_iff.1 hk).2
theorem Bfs.old {E : Nat → List Int} {n : Nat} {h : List Nat} {p k : Nat} {m : Int → Int} {t : Nat} (b : Bfs E n h p k m t) {x : Int} (hx : (E (h[p]?.getD 0))[k]? = some x) (hx0 : 0 ≤ x) (hm : ¬ m x + 1 = 1) : Bfs E n h p (k + 1) (putM m x (m x + 1)) t := by
  have hmx := b.nn x
  have hxn : ((x.toNat : Nat) : Int) = x := by omega
  have hin : x.toNat ∈ h := (b.pos x.toNat).1 (by rw [hxn]; omega)
  refine ⟨b.nd, b.lt, b.rp, b.top, b.le, fun i => ?_, fun y => ?_, b.clo, fun y hy => ?_, fun y => ?_⟩
  · unfold putM
    by_cases e : (i : Int) = x
    · rw [if_pos e]
      have : i = x.toNat := by omega
      subst this
      exact ⟨fun _ => hin, fun _ => by omega⟩
    · rw [if_neg e]; exact b.pos i
  · unfold putM; split
    · omega
    · exact b.nn y
  · rcases take_mem_succ hx hy with hy | rfl
    · exact b.cur y hy
    · exact hin
  · have h1 := b.bd y
    have h2 := b.bd x
    unfold putM; split <;> omega
theorem Bfs.new {E : Nat → List Int} {n : Nat} {h : List Nat} {p k : Nat} {m : Int → Int} {t : Nat} (b : Bfs E n h p k m t) (hp : p < h.length) {x : Int} (hx : (E (h[p]?.getD 0))[k]? = some x) (hx0 : 0 ≤ x) (hxn : x < (n : Int)) (hm : m x + 1 = 1) : Bfs E n (h ++ [x.toNat]) p (k + 1) (putM m x (m x + 1)) t := by
  have hxe : ((x.toNat : Nat) : Int) = x := by omega
  have hni : ¬ x.toNat ∈ h := fun hin => by have := (b.pos x.toNat).2 hin; rw [hxe] at this; omega
  have hget : ∀ q, q < h.length → (h ++ [x.toNat])[q]?.getD 0 = h[q]?.getD 0 := fun q hq => by rw [List.getElem?_append_left hq]
  have hpin : h[p]?.getD 0 ∈ h := by rw [List.getElem?_eq_getElem hp]; exact List.getElem_mem hp
  have hle := b.le
  refine ⟨?_, fun i hi => ?_, fun i hi => ?_, by simp [b.top], by simp; omega, fun i => ?_, fun y => ?_, fun q hq y hy => ?_, fun y hy => ?_, fun y => ?_⟩
  · rw [List.nodup_append]
    exact ⟨b.nd, by simp, fun a ha c hc => by rw [List.mem_singleton.1 hc]; intro e; exact hni (e ▸ ha)⟩
  · rcases List.mem_append.1 hi with hi | hi
    · exact b.lt i hi
    · rw [List.mem_singleton.1 hi]; omega
  · rcases List.mem_append.1 hi with hi | hi
    · exact b.rp i hi
    · rw [List.mem_singleton.1 hi]
      exact .step (b.rp _ hpin) (List.mem_of_getElem? hx)
  · unfold putM
    by_cases e : (i : Int) = x
    · rw [if_pos e]
      have : i = x.toNat := by omega
      subst this
      simp; omega
    · rw [if_neg e, b.pos i]
      simp; intro e2; exact absurd (by omega) e
  · unfold putM; split
    · omega
    · exact b.nn y
  · rw [hget q (by omega)] at hy
    exact List.mem_append_left _ (b.clo q hq y hy)
  · rw [hget p hp] at hy
    rcases take_mem_succ hx hy with hy | rfl
    · exact List.mem_append_left _ (b.cur y hy)
    · simp
  · have h1 := b.bd y
    have h2 := b.bd x
    unfold putM; split <;> omega
theorem Bfs.next {E : Nat → List Int} {n : Nat} {h : List Nat} {p k : Nat} {m : Int → Int} {t : Nat} (b : Bfs E n h p k m t) (hp : p < h.length) (hk : (E (h[p]?.getD 0)).length = k) (hk6 : k ≤ 6) : Bfs E n h (p + 1) 0 m t := by
  refine ⟨b.nd, b.lt, b.rp, b.top, hp, b.pos, b.nn, fun q hq x hx => ?_, by simp, fun x => by have := b.bd x; omega⟩
  by_cases e : q = p
  · subst e
    exact b.cur x (by rw [List.take_of_length_le (by omega)]; exact hx)
  · exact b.clo q (by omega) x hx
theorem Bfs.done {E : Nat → List Int} {n : Nat} {h : List Nat} {p k : Nat} {m : Int → Int} {t : Nat} (b : Bfs E n h p k m t) (hp : p = h.length) (i : Nat) : 0 < m (i : Int) ↔ RT E t i := by
  rw [b.pos i]
  refine ⟨b.rp i, fun hr => ?_⟩
  induction hr with
  | zero => exact b.top
  | @step j x _ hx ih =>
    obtain ⟨q, hq, he⟩ := List.getElem_of_mem ih
    refine b.clo q (by omega) x ?_
    rw [List.getElem?_eq_getElem hq, Option.getD_some, he]
    exact hx
end Go.Proofs.YtpfafcodihhdfaaGreatDoor

namespace Go.Proofs.YtpfafcodihhdfaaGreatDoor
open Go.RowKit
set_option maxRecDepth 100000

/-- Can a be reached from t by k steps at most? -/
def witB (E : Nat → List Int) (a : Int) : Nat → Int → Bool
  | 0, t => decide (a = t)
  | k + 1, t => decide (a = t) || (E t.toNat).any fun x => witB E a k x
theorem RT.head {E : Nat → List Int} {t i : Nat} {x : Int} (hx : x ∈ E t) (h : RT E x.toNat i) : RT E t i := by
  induction h with
  | zero => exact .step .zero hx
  | step _ hy ih => exact .step ih hy
theorem witB_sound {E : Nat → List Int} {a : Int} : ∀ (k : Nat) (t : Int), witB E a k t = true → RT E t.toNat a.toNat
  | 0, t, h => by
    have : a = t := by simpa [witB] using h
    rw [this]; exact .zero
  | k + 1, t, h => by
    unfold witB at h
    rw [Bool.or_eq_true] at h
    rcases h with h | h
    · have : a = t := by simpa using h
      rw [this]; exact .zero
    · obtain ⟨x, hx, hw⟩ := List.any_eq_true.1 h
      exact RT.head hx (witB_sound k x hw)
theorem witB_self (E : Nat → List Int) (a : Int) : ∀ k, witB E a k a = true
  | 0 => by simp [witB]
  | k + 1 => by simp [witB]
theorem witB_up {E : Nat → List Int} {a : Int} : ∀ (k : Nat) (t : Int), witB E a k t = true → witB E a (k + 1) t = true
  | 0, t, h => by
    have : a = t := by simpa [witB] using h
    rw [this]; exact witB_self _ _ _
  | k + 1, t, h => by
    unfold witB at h ⊢
    rw [Bool.or_eq_true] at h ⊢
    rcases h with h | h
    · exact Or.inl h
    · obtain ⟨x, hx, hw⟩ := List.any_eq_true.1 h
      exact Or.inr (List.any_eq_true.2 ⟨x, hx, witB_up k x hw⟩)
/-- One step more behind a way. -/
theorem witB_tail {E : Nat → List Int} {a x : Int} (hx : x ∈ E a.toNat) : ∀ (k : Nat) (t : Int), witB E a k t = true → witB E x (k + 1) t = true
  | 0, t, h => by
    have : a = t := by simpa [witB] using h
    subst this
    unfold witB
    rw [Bool.or_eq_true]
    exact Or.inr (List.any_eq_true.2 ⟨x, hx, witB_self _ _ _⟩)
  | k + 1, t, h => by
    unfold witB at h
    rw [Bool.or_eq_true] at h
    rcases h with h | h
    · have : a = t := by simpa using h
      subst this
      unfold witB
      rw [Bool.or_eq_true]
      exact Or.inr (List.any_eq_true.2 ⟨x, hx, witB_self _ _ _⟩)
    · obtain ⟨y, hy, hw⟩ := List.any_eq_true.1 h
      unfold witB
      rw [Bool.or_eq_true]
      exact Or.inr (List.any_eq_true.2 ⟨y, hy, witB_tail hx k y hw⟩)
/-- No more is reached by one step more. -/
def shutB (E : Nat → List Int) (n : Nat) (t : Int) (k : Nat) : Prop := ∀ i : Nat, i < n → witB E (i : Int) (k + 1) t = true → witB E (i : Int) k t = true
theorem shut_or (E : Nat → List Int) (n : Nat) (t : Nat) (ht : t < n) : ∀ k, (∃ q, q ≤ k ∧ shutB E n (t : Int) q) ∨ k + 1 ≤ cntG (fun i => witB E (i : Int) k (t : Int)) n
  | 0 => by
    right
    have := cntG_lt (g := fun _ => false) (g' := fun i => witB E (i : Int) 0 (t : Int)) (by simp) (j := t) (by simp [witB]) (by simp) n ht
    omega
  | k + 1 => by
    rcases shut_or E n t ht k with ⟨q, hq, hc⟩ | h
    · exact Or.inl ⟨q, by omega, hc⟩
    · by_cases hc : shutB E n (t : Int) k
      · exact Or.inl ⟨k, by omega, hc⟩
      · right
        have : ∃ j, j < n ∧ witB E (j : Int) (k + 1) (t : Int) = true ∧ ¬ witB E (j : Int) k (t : Int) = true := by
          apply Classical.byContradiction
          intro hno
          apply hc
          intro i hi hw
          apply Classical.byContradiction
          intro hn
          exact hno ⟨i, hi, hw, hn⟩
        obtain ⟨j, hj, h1, h2⟩ := this
        have := cntG_lt (g := fun i => witB E (i : Int) k (t : Int)) (g' := fun i => witB E (i : Int) (k + 1) (t : Int)) (fun i hi => witB_up k _ hi) h1 h2 n hj
        omega
theorem witB_mono {E : Nat → List Int} {a t : Int} {k : Nat} (h : witB E a k t = true) : ∀ q, witB E a (k + q) t = true
  | 0 => h
  | q + 1 => witB_up _ _ (witB_mono h q)
theorem wit_iff {ds : List ID} (hr : inRange ds) {n a t : Nat} (hn : ds.length = n) (h10 : n ≤ 10) (ht : t < n) : witB (entsOf ds) (a : Int) 10 (t : Int) = true ↔ RT (entsOf ds) t a := by
  subst hn
  refine ⟨fun h => by have := witB_sound _ _ h; simpa using this, fun h => ?_⟩
  rcases shut_or (entsOf ds) ds.length t ht ds.length with ⟨q, hq, hc⟩ | hbig
  · have key : a < ds.length ∧ witB (entsOf ds) (a : Int) q (t : Int) = true := by
      induction h with
      | zero => exact ⟨ht, witB_self _ _ _⟩
      | @step j x _ hx ih =>
        have hxr := hr j ih.1 x hx
        have he : ((x.toNat : Nat) : Int) = x := by omega
        refine ⟨by omega, hc _ (by omega) ?_⟩
        rw [he]
        exact witB_tail (a := (j : Int)) (by simpa using hx) q _ ih.2
    have := witB_mono key.2 (10 - q)
    rwa [show q + (10 - q) = 10 by omega] at this
  · have := cntG_le (fun i => witB (entsOf ds) (i : Int) ds.length (t : Int)) ds.length
    omega
/-- IsWithin. -/
def withinB (d : FD) (x y : Int) : Bool := decide (0 ≤ x ∧ x < (d.1.length : Int)) && !decide (kindAt d.1 x.toNat = 0) && (decide (0 ≤ y ∧ y < (d.1.length : Int)) && !decide (kindAt d.1 y.toNat = 0)) && witB (entsOf d.1) x 10 y
end Go.Proofs.YtpfafcodihhdfaaGreatDoor

namespace Go.Proofs.YtpfafcodihhdfaaGreatDoor
open Go.RowKit
set_option maxRecDepth 100000

theorem Arr.putNew (w : World) (g : Nat → Nat) : ∃ X, (Instr.storeAt 231 (.pointer (some ⟨w.heap.size, 0, none⟩)) (.agg (arrC g))).run Tryz.prog (w.alloc (.cells (arrC fun _ => 0) 231)) = .ok () X ∧ Arr X w.heap.size g ∧ Below w.heap.size w X := by
  obtain ⟨X, h1, h2, h3, h4, h5, h6, h7⟩ := (Arr.new w fun _ => 0).put g
  exact ⟨X, h1, h2, (later1 w (.cells (arrC fun _ => 0) 231)).trans ⟨h5, h6, h7, by omega, fun c hc => h4 c (by omega)⟩⟩

set_option maxHeartbeats 800000 in
theorem busyFault_many (w : World) (a : Option Addr) (n c : Nat) (hn : 20 < n) :
    Calls Tryz.prog 46 #[.slice a n c] w fun e w' => e = .returned (.int .i64 2) ∧ Below w.heap.size w w' := by
  have h6 : decide ((20 : Int) < (n : Int)) = true := by simp; omega
  go_enter Tryz.func46, Tryz.ntmps46
  go_wp2
  go_ret
  exact ⟨rfl, Below.refl _ _⟩
set_option maxHeartbeats 1600000 in
theorem busyFault_walk (w : World) (a : Option Addr) (n c : Nat) (zs : List Int) (hn : n ≤ 20) (hzn : zs.length = n) (hc : At1 w a n (fun k => .int .i64 (zs[k]?.getD 0))) :
    Calls Tryz.prog 46 #[.slice a n c] w fun e w' => e = .returned (.int .i64 (fstNZ (rngF zs) zs.length)) ∧ Below w.heap.size w w' := by
  have HC : Hid (At1 w a n (fun k => .int .i64 (zs[k]?.getD 0))) := hc
  have HN : Hid (zs.length = n) := hzn
  have h6 : decide ((20 : Int) < (n : Int)) = false := by simp; omega
  clear hc hzn
  go_enter Tryz.func46, Tryz.ntmps46
  go_wp2
  go_loopw [10] (fun i wr => ∃ j : Nat, j ≤ n ∧ i = .int .i64 j ∧ Below w.heap.size w wr ∧ ∀ i : Nat, i < j → rngF zs i = 0) (fun i _ => n - (intOf i).toNat)
  case atStart => exact ⟨0, Nat.zero_le _, rfl, Below.refl _ _, fun i hi => by omega⟩
  case round =>
    obtain ⟨j, hj, rfl, hbl, hz⟩ := hrel
    have HZ : Hid (∀ i : Nat, i < j → rngF zs i = 0) := hz
    have HBL : Hid (Below w.heap.size w wr) := hbl
    clear hz hbl
    by_cases hlt : j < n
    · obtain ⟨b, o, rfl, d1⟩ := HC.out j hlt
      replace d1 : w.cell? ⟨b, o + j, none⟩ = some (.int .i64 (zs[j]?.getD 0)) := d1
      replace d1 := cell_later HBL.out d1
      have HT : Hid (¬ rngF zs j = 0 → rngF zs j = fstNZ (rngF zs) zs.length) := fun h => (fstNZ_at (f := rngF zs) HZ.out h (by rw [HN.out]; exact hlt)).symm
      by_cases hxv : 0 ≤ zs[j]?.getD 0 ∧ zs[j]?.getD 0 ≤ 19
      · have HR : Hid (∀ i : Nat, i < j + 1 → rngF zs i = 0) := fun i hi => by
          by_cases e : i = j
          · subst e; unfold rngF; rw [if_pos hxv]
          · exact HZ.out i (by omega)
        have hx0 : decide (zs[j]?.getD 0 < 0) = false := by simp; omega
        have hx1 : decide (20 ≤ zs[j]?.getD 0) = false := by simp; omega
        clear hxv HC HT
        generalize zs[j]?.getD 0 = x at *
        go_wp2
        go_roundw
        case rel => exact ⟨j + 1, by omega, by go_num, HBL.out, HR.out⟩
        case measure => simp [intOf]; omega
      · have HR : Hid (3 = fstNZ (rngF zs) zs.length) := by
          have h3 : rngF zs j = 3 := by unfold rngF; rw [if_neg hxv]
          have := HT.out (by rw [h3]; omega)
          rwa [h3] at this
        have hxx : zs[j]?.getD 0 < 0 ∨ 20 ≤ zs[j]?.getD 0 := by omega
        clear hxv HC HT
        generalize zs[j]?.getD 0 = x at *
        by_cases h0 : x < 0
        · have hx0 : decide (x < 0) = true := by simpa using h0
          clear hxx
          go_wp2
          go_ret
          exact ⟨ret_int HR.out, HBL.out⟩
        · have hx0 : decide (x < 0) = false := by simpa using h0
          have hx1 : decide (20 ≤ x) = true := by simp; omega
          clear hxx
          go_wp2
          go_ret
          exact ⟨ret_int HR.out, HBL.out⟩
    · go_wp2
      go_ret
      exact ⟨ret_int (fstNZ_zero (fun i hi => HZ.out i (by rw [HN.out] at hi; omega))).symm, HBL.out⟩
theorem busyFault_any {w : World} {vv : Value} {zs : List Int} (h : Ints w vv zs) :
    Calls Tryz.prog 46 #[vv] w fun e w' => e = .returned (.int .i64 (busF zs)) ∧ Below w.heap.size w w' := by
  obtain ⟨a, cap, rfl, hm, hc⟩ := h.open'
  unfold busF
  by_cases h : 20 < zs.length
  · rw [if_pos h]
    exact busyFault_many w _ _ _ h
  · rw [if_neg h]
    exact busyFault_walk w a _ cap zs (by omega) rfl hc
theorem busF_each {zs : List Int} (h : busF zs = 0) (k : Nat) (hk : k < zs.length) : 0 ≤ zs[k]?.getD 0 ∧ zs[k]?.getD 0 < 20 := by
  unfold busF at h
  split at h
  · omega
  · have := fstNZ_inv h k hk
    unfold rngF at this
    split at this <;> omega
theorem busF_len {zs : List Int} (h : busF zs = 0) : zs.length ≤ 20 := by
  unfold busF at h
  split at h <;> omega
theorem cntB_le (ds : List ID) (hs : sizeInos ds ≤ 1048576) (v : Int) : cntB ds v ≤ 1048576 := by
  have h2 := allB_len ds
  have h3 := List.count_le_length (a := v) (l := allB ds)
  unfold sizeInos at hs
  unfold cntB
  omega
theorem manyB_once (ds : List ID) : manyB (fun i => cntB ds (i : Int)) = !onceB ds 20 := by
  unfold manyB onceB
  rw [List.not_all_eq_any_not]
  congr 1
  funext k
  simp only [← decide_not]
  rw [decide_eq_decide]
  omega
theorem freeP_eq (ds : List ID) (bs : List Int) : (fun k : Nat => decide (cntB ds (k : Int) + bs.count (k : Int) = 0)) = freeP ds bs := by
  funext k
  unfold freeP
  cases hb : bs.contains (k : Int) with
  | true =>
    have h1 : (k : Int) ∈ bs := by simpa using hb
    have h2 := List.count_pos_iff.2 h1
    simp; omega
  | false =>
    have h1 : ¬ (k : Int) ∈ bs := by simpa using hb
    have h2 := List.count_eq_zero.2 h1
    rw [h2]; simp

set_option maxHeartbeats 6400000 in
theorem implFreeC (w : World) (a : Option Addr) (n c : Nat) (ds : List ID) (a' : Option Addr) (n' c' : Nat) (bs : List Int) (h : Inos w (.slice a n c) ds) (h' : Ints w (.slice a' n' c') bs) (hs : sizeInos ds ≤ 1048576) (_ : bs.length ≤ 1048576) :
    Calls Tryz.prog 250 #[.slice a n c, .slice a' n' c'] w (AnsIC w (freeR ds bs)) := by
  have HF : Hid (∀ W, Below w.heap.size w W → Calls Tryz.prog 139 #[.slice a n c] W fun e w' => e = .returned (.int .i64 (insF ds)) ∧ Below W.heap.size W w') := fun W hW => inodesFault_any (h.later hW) hs
  have HBF : Hid (∀ W, Below w.heap.size w W → Calls Tryz.prog 46 #[.slice a' n' c'] W fun e w' => e = .returned (.int .i64 (busF bs)) ∧ Below W.heap.size W w') := fun W hW => busyFault_any (h'.later hW)
  have HNE : Hid (insF ds = 0 → ∀ W, Below w.heap.size w W → Calls Tryz.prog 192 #[.slice a n c] W fun e w' => e = .returned (.agg (arrC fun i => cntB ds (i : Int))) ∧ Below W.heap.size W w') := fun hz W hW => needsOf_any (h.later hW) hs hz
  have HWI : Hid (busF bs = 0 → ∀ W, Below w.heap.size w W → Calls Tryz.prog 226 #[.agg (arrC fun i => cntB ds (i : Int)), .slice a' n' c'] W fun e w' => e = .returned (.agg (arrC fun i => cntB ds (i : Int) + bs.count (i : Int))) ∧ Below W.heap.size W w') := fun hz W hW => needsWith_any (h'.later hW) _ (by have := busF_len hz; omega) (fun i => by have := cntB_le ds hs (i : Int); omega) (fun k hk => busF_each hz k hk)
  have HU : Hid (busF bs = 0 → ∀ W, Calls Tryz.prog 254 #[.agg (arrC fun i => cntB ds (i : Int) + bs.count (i : Int))] W fun e w' => ∃ a c, e = .returned (.slice a (selL (freeP ds bs) 20).length c) ∧ Below W.heap.size W w' ∧ Wds w' W.heap.size (.slice a (selL (freeP ds bs) 20).length c) (selL (freeP ds bs) 20)) := fun hz W => by
    rw [← freeP_eq]
    exact needsFree_any W _ (fun i => by
      have h1 := cntB_le ds hs (i : Int)
      have h2 := List.count_le_length (a := (i : Int)) (l := bs)
      have h3 := busF_len hz
      omega)
  have HR : Hid (freeR ds bs = if (if insF ds = 0 then busF bs else insF ds) = 0 then (0, selL (freeP ds bs) 20) else ((if insF ds = 0 then busF bs else insF ds), [])) := rfl
  rw [HR.out]
  clear HR h hs h'
  generalize insF ds = r at *
  generalize busF bs = q at *
  generalize selL (freeP ds bs) 20 = zs at *
  generalize (fun i : Nat => cntB ds (i : Int) + bs.count (i : Int)) = g2 at *
  generalize (fun i : Nat => cntB ds (i : Int)) = g at *
  have HRB : Hid (OwnRow (w.alloc (.cells #[.int .i64 0, .slice none 0 0] 261)) w.heap.size 2 (fun i => if i = 0 then .int .i64 0 else .slice none 0 0)) := box2 w _
  have HB0 : Hid (Below w.heap.size w (w.alloc (.cells #[.int .i64 0, .slice none 0 0] 261))) := later1 _ _
  have hwz : (w.alloc (.cells #[.int .i64 0, .slice none 0 0] 261)).heap.size = w.heap.size + 1 := by simp
  by_cases hf : r = 0
  · rw [if_pos hf]
    have HNE' : Hid (∀ W, Below w.heap.size w W → Calls Tryz.prog 192 #[.slice a n c] W fun e w' => e = .returned (.agg (arrC g)) ∧ Below W.heap.size W w') := HNE.out hf
    subst hf
    clear HNE
    by_cases hq : q = 0
    · rw [if_pos hq]
      have HWI' := HWI.out hq
      have HU' := HU.out hq
      have HWI2 : Hid (∀ W, Below w.heap.size w W → Calls Tryz.prog 226 #[.agg (arrC g), .slice a' n' c'] W fun e w' => e = .returned (.agg (arrC g2)) ∧ Below W.heap.size W w') := HWI'
      have HU2 : Hid (∀ W, Calls Tryz.prog 254 #[.agg (arrC g2)] W fun e w' => ∃ a c, e = .returned (.slice a zs.length c) ∧ Below W.heap.size W w' ∧ Wds w' W.heap.size (.slice a zs.length c) zs) := HU'
      clear HWI HU HWI' HU'
      subst hq
      go_enter Tryz.func250, Tryz.ntmps250
      go_wp2_with fail
      generalize hW : w.alloc (Obj.cells #[.int .i64 0, .slice none 0 0] 261) = W at *
      clear hW
      refine (HF.out _ HB0.out).mono ?_
      rintro e w1 ⟨rfl, hb1⟩
      have HB1 : Hid (Below w.heap.size w w1) := HB0.out.trans (hb1.mono HB0.out.size)
      have HL1 : Hid (Below W.heap.size W w1) := hb1
      clear hb1
      go_wp2_with fail
      refine (HBF.out _ HB1.out).mono ?_
      rintro e w2 ⟨rfl, hb2⟩
      have HB2 : Hid (Below w.heap.size w w2) := HB1.out.trans (hb2.mono HB1.out.size)
      have HL2 : Hid (Below W.heap.size W w2) := HL1.out.trans (hb2.mono HL1.out.size)
      clear hb2
      go_wp2_with fail
      refine (HNE'.out _ HB2.out).mono ?_
      rintro e w3 ⟨rfl, hb3⟩
      have HB3 : Hid (Below w.heap.size w w3) := HB2.out.trans (hb3.mono HB2.out.size)
      have HL3 : Hid (Below W.heap.size W w3) := HL2.out.trans (hb3.mono HL2.out.size)
      clear hb3
      go_wp2_with fail
      refine (HWI2.out _ HB3.out).mono ?_
      rintro e w4 ⟨rfl, hb4⟩
      have HB4 : Hid (Below w.heap.size w w4) := HB3.out.trans (hb4.mono HB3.out.size)
      have HL4 : Hid (Below W.heap.size W w4) := HL3.out.trans (hb4.mono HL3.out.size)
      clear hb4
      go_wp2_with fail
      refine (HU2.out w4).mono ?_
      rintro e w5 ⟨aV, cV, rfl, hb5, hw5⟩
      have HB5 : Hid (Below w.heap.size w w5) := HB4.out.trans (hb5.mono HB4.out.size)
      have hrow : OwnRow w5 w.heap.size 2 (fun i => if i = 0 then .int .i64 0 else .slice none 0 0) := HRB.out.later (HL4.out.trans (hb5.mono HL4.out.size))
      have hz4 : w.heap.size + 1 ≤ w4.heap.size := by have := HL4.out.size; omega
      have HI : Hid (IntsO w5 (.slice aV zs.length cV) zs (fun b => w.heap.size + 1 ≤ b ∧ b < w5.heap.size)) := (hw5.own' (w0 := w4) (Nat.le_refl _)).mono fun b hb => ⟨by have := hb.1; omega, hb.2⟩
      have HCAP : Hid (zs.length ≤ cV) := hw5.cap
      have t0 := hrow.cell (i := 0) (by omega)
      have t1 := hrow.cell (i := 1) (by omega)
      have s0 := hrow.frozen 0
      have s1 := hrow.frozen 1
      simp at t0 t1
      have hz2 := hrow.lt
      clear hb5 hw5 hrow
      go_wp2
      exact bodyPost_ret (v := .agg #[.int .i64 0, .slice aV zs.length cV]) (by simp [results, Tryz.results250, go_sem, t0, t1]) rfl (AnsIC.mk (AnsIR.box HB5.out HI.out _ _) HCAP.out)
    · rw [if_neg hq]
      have hr : (q != 0) = true := by simpa using hq
      clear HWI HU
      go_enter Tryz.func250, Tryz.ntmps250
      go_wp2_with fail
      generalize hW : w.alloc (Obj.cells #[.int .i64 0, .slice none 0 0] 261) = W at *
      clear hW
      refine (HF.out _ HB0.out).mono ?_
      rintro e w1 ⟨rfl, hb1⟩
      have HB1 : Hid (Below w.heap.size w w1) := HB0.out.trans (hb1.mono HB0.out.size)
      have HL1 : Hid (Below W.heap.size W w1) := hb1
      clear hb1
      go_wp2_with fail
      refine (HBF.out _ HB1.out).mono ?_
      rintro e w2 ⟨rfl, hb2⟩
      have HB2 : Hid (Below w.heap.size w w2) := HB1.out.trans (hb2.mono HB1.out.size)
      have hrow : OwnRow w2 w.heap.size 2 (fun i => if i = 0 then .int .i64 0 else .slice none 0 0) := HRB.out.later (HL1.out.trans (hb2.mono HL1.out.size))
      have t0 := hrow.cell (i := 0) (by omega)
      have t1 := hrow.cell (i := 1) (by omega)
      have s0 := hrow.frozen 0
      have s1 := hrow.frozen 1
      simp at t0 t1
      have hz2 := hrow.lt
      clear hb2 hrow
      go_wp2
      exact bodyPost_ret (v := .agg #[.int .i64 q, .slice none 0 0]) (by simp [results, Tryz.results250, go_sem, t0, t1]) rfl (AnsIC.mk (AnsIR.bad q HB2.out _ _) (Nat.le_refl _))
  · rw [if_neg hf, if_neg hf]
    have hr : (r != 0) = true := by simpa using hf
    clear HNE HWI HU
    go_enter Tryz.func250, Tryz.ntmps250
    go_wp2_with fail
    generalize hW : w.alloc (Obj.cells #[.int .i64 0, .slice none 0 0] 261) = W at *
    clear hW
    refine (HF.out _ HB0.out).mono ?_
    rintro e w1 ⟨rfl, hb1⟩
    have HB1 : Hid (Below w.heap.size w w1) := HB0.out.trans (hb1.mono HB0.out.size)
    have hrow : OwnRow w1 w.heap.size 2 (fun i => if i = 0 then .int .i64 0 else .slice none 0 0) := HRB.out.later hb1
    have t0 := hrow.cell (i := 0) (by omega)
    have t1 := hrow.cell (i := 1) (by omega)
    have s0 := hrow.frozen 0
    have s1 := hrow.frozen 1
    simp at t0 t1
    have hz2 := hrow.lt
    clear hb1 hrow
    go_wp2
    exact bodyPost_ret (v := .agg #[.int .i64 r, .slice none 0 0]) (by simp [results, Tryz.results250, go_sem, t0, t1]) rfl (AnsIC.mk (AnsIR.bad r HB1.out _ _) (Nat.le_refl _))
theorem implFreeU (w : World) (a : Option Addr) (n c : Nat) (ds : List ID) (a' : Option Addr) (n' c' : Nat) (bs : List Int) (h : Inos w (.slice a n c) ds) (h' : Ints w (.slice a' n' c') bs) (hs : sizeInos ds ≤ 1048576) (hb : bs.length ≤ 1048576) :
    Calls Tryz.prog 250 #[.slice a n c, .slice a' n' c'] w (AnsIR w (freeR ds bs)) := (implFreeC w a n c ds a' n' c' bs h h' hs hb).mono fun _ _ h => h.1
end Go.Proofs.YtpfafcodihhdfaaGreatDoor
