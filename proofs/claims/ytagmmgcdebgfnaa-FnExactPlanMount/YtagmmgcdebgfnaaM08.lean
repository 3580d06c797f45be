/- PackInode, both sides. The specification's UsedBlocks, FreeBlocks, PickBlocks and FreeInode. The specification's LinksOf. The specification: are links and places right? The specification: has each block just the bytes that it should have? Lists of steps marked with what they hold, and held. Rows that grow by append of many elements at once; rows of steps. The number of a disk: what SeqOf tells. Pure. What a journal has: no program is named here. The heads and ends of a journal: the program's words. -/
import Derived.Test.YtagmmgcdebgfnaaM07
import Derived.Test.YtagmmgcdebgfnaaM06
import Derived.Deep.RegionHeld3
import Derived.Test.YtagmmgcdebgfnaaM05
import Derived.Test.YtagmmgcdebgfnaaM02
import Derived.Test.YtagmmgcdebgfnaaM03
namespace Go.Proofs.Ytagmmgcdebgfnaa
open Go.RowKit
set_option maxRecDepth 100000

/-- Answers that are a code and words. -/
def AnsIR (w : World) (r : Int × List Int) (e : Ending) (w' : World) : Prop := ∃ a n c, e = .returned (.agg #[.int .i64 r.1, .slice a n c]) ∧ Below w.heap.size w w' ∧ IntsO w' (.slice a n c) r.2 (fresh w w')

end Go.Proofs.Ytagmmgcdebgfnaa

namespace Go.Proofs.Ytagmmgcdebgfnaa
open Go.RowKit
set_option maxRecDepth 100000

theorem AnsIR.box {w w2 : World} {a : Option Addr} {n c : Nat} {zs : List Int} (hb : Below w.heap.size w w2) (ho : IntsO w2 (.slice a n c) zs (fun b => w.heap.size + 1 ≤ b ∧ b < w2.heap.size)) (x y : Value) :
    AnsIR w (0, zs) (.returned (.agg #[.int .i64 0, .slice a n c])) ((w2.setCell ⟨w.heap.size, 0, none⟩ x).setCell ⟨w.heap.size, 1, none⟩ y) := by
  refine ⟨_, _, _, rfl, (hb.setCell (by simp) _).setCell (by simp) _, (ho.keep fun b hb hlt => ?_).mono fun b hb => ⟨by omega, by simp only [World.setCell, Array.size_modify]; exact hb.2⟩⟩
  rw [Below.heap_setCell _ _ _ _ (by simp; omega), Below.heap_setCell _ _ _ _ (by simp; omega)]
theorem AnsIR.bad {w w2 : World} (r : Int) (hb : Below w.heap.size w w2) (x y : Value) :
    AnsIR w (r, []) (.returned (.agg #[.int .i64 r, .slice none 0 0])) ((w2.setCell ⟨w.heap.size, 0, none⟩ x).setCell ⟨w.heap.size, 1, none⟩ y) :=
  ⟨_, _, _, rfl, (hb.setCell (by simp) _).setCell (by simp) _, Or.inl ⟨rfl, _, _, rfl⟩⟩
/-- The result's box, made first. -/
theorem box2 (w : World) (t : TypeId) : OwnRow (w.alloc (.cells #[.int .i64 0, .slice none 0 0] t)) w.heap.size 2 (fun i => if i = 0 then .int .i64 0 else .slice none 0 0) := OwnRow.newS w (.int .i64 0) (.slice none 0 0) t
theorem Wds.box {w W w2 : World} {a : Option Addr} {n c : Nat} {zs : List Int} (hW : W.heap.size = w.heap.size + 1) (h : Wds w2 W.heap.size (.slice a n c) zs) : IntsO w2 (.slice a n c) zs (fun b => w.heap.size + 1 ≤ b ∧ b < w2.heap.size) :=
  (h.own' (w0 := W) (Nat.le_refl _)).mono fun b hb => ⟨by have := hb.1; omega, hb.2⟩

end Go.Proofs.Ytagmmgcdebgfnaa

namespace Go.Proofs.Ytagmmgcdebgfnaa
open Go.RowKit
set_option maxRecDepth 100000

theorem entI_get (es : List EN) (k : Nat) : (entI es)[k]?.getD 0 = (es[k]?.getD en0).2 := by
  unfold entI; rw [List.getElem?_map]; cases es[k]? <;> rfl
theorem entI_len (es : List EN) : (entI es).length = es.length := by simp [entI]
theorem allE_bound (ds : List ID) (hs : sizeInos ds ≤ 1048576) (v : Int) : (allE ds).count v ≤ 1048576 := by
  have h2 := allE_len ds
  have h3 := List.count_le_length (a := v) (l := allE ds)
  unfold sizeInos at hs
  omega

end Go.Proofs.Ytagmmgcdebgfnaa

namespace Go.Proofs.Ytagmmgcdebgfnaa
open Go.RowKit
set_option maxRecDepth 100000

/-- How many entries have to name an inode. -/
def wantL (ds : List ID) (i : Nat) : Int := if kindAt ds i = 1 then (ds[i]?.getD id0).2.1 else if i = 0 then 0 else 1
def lnkOK (ds : List ID) (i : Nat) : Bool := decide (kindAt ds i = 0) || (decide ((((allE ds).count (i : Int) : Nat) : Int) = wantL ds i) && reachG ds ds.length i)
def linksB (ds : List ID) : Bool := (List.range ds.length).all (lnkOK ds)
theorem linksB_no {ds : List ID} {i : Nat} (hi : i < ds.length) (h : lnkOK ds i = false) : linksB ds = false := by
  unfold linksB
  rw [List.all_eq_false]
  exact ⟨i, by simpa using hi, by simp [h]⟩
theorem linksB_yes {ds : List ID} (h : ∀ i, i < ds.length → lnkOK ds i = true) : linksB ds = true := by
  unfold linksB
  rw [List.all_eq_true]
  intro i hi
  exact h i (by simpa using hi)
theorem selL_contains (p : Nat → Bool) {n i : Nat} (hi : i < n) : (selL p n).contains (i : Int) = p i := by
  cases hp : p i with
  | true =>
    rw [List.contains_iff_mem]
    unfold selL
    rw [List.mem_map]
    exact ⟨i, List.mem_filter.2 ⟨by simpa using hi, hp⟩, rfl⟩
  | false =>
    rw [Bool.eq_false_iff]
    intro hc
    rw [List.contains_iff_mem] at hc
    unfold selL at hc
    rw [List.mem_map] at hc
    obtain ⟨k, hk, e⟩ := hc
    have : k = i := by omega
    subst this
    rw [(List.mem_filter.1 hk).2] at hp
    cases hp

end Go.Proofs.Ytagmmgcdebgfnaa

namespace Go.Proofs.Ytagmmgcdebgfnaa
open Go.RowKit
set_option maxRecDepth 100000

theorem ino_size {d : ID} (h : inoF d = 0) : 0 ≤ d.2.2.1 ∧ d.2.2.1 ≤ 32 ∧ ((d.2.2.2.1.length : Nat) : Int) = (d.2.2.1 + 7) / 8 := by
  unfold inoF at h
  have fp : fpB d = false → d.2.2.1 = 0 ∧ d.2.2.2.1.length = 0 := fun hf => by
    unfold fpB at hf
    simp at hf
    exact ⟨hf.1.2, by rw [hf.2]; rfl⟩
  by_cases h0 : d.1 = 0
  · rw [if_pos h0] at h
    have hf : fpB d = false := by
      cases e : fpB d with
      | false => rfl
      | true => rw [e] at h; simp at h
    obtain ⟨h1, h2⟩ := fp hf
    omega
  · rw [if_neg h0] at h
    by_cases h1 : d.1 = 1
    · rw [if_pos h1] at h
      have hd : dpB d = false := by
        cases e : dpB d with
        | false => rfl
        | true => rw [e] at h; simp at h
      rw [hd] at h
      simp only [Bool.false_eq_true, if_false] at h
      unfold fileF at h
      by_cases hl : linkB d.2.1 = true ∧ sizeB d.2.2.1 = true
      · rw [if_pos hl] at h
        have hz := hl.2
        unfold sizeB at hz
        simp at hz
        by_cases hb : ((d.2.2.2.1.length : Nat) : Int) = (d.2.2.1 + 7) / 8
        · exact ⟨hz.1, hz.2, hb⟩
        · rw [if_neg hb] at h; omega
      · rw [if_neg hl] at h; omega
    · rw [if_neg h1] at h
      by_cases h2 : d.1 = 2
      · rw [if_pos h2] at h
        have hf : fpB d = false := by
          cases e : fpB d with
          | false => rfl
          | true => rw [e] at h; simp at h
        obtain ⟨h3, h4⟩ := fp hf
        omega
      · rw [if_neg h2] at h; omega
theorem ino_six {d : ID} (h : inoF d = 0) : d.2.2.2.2.length ≤ 6 := by
  unfold inoF at h
  have dp : dpB d = false → d.2.2.2.2.length = 0 := fun hd => by unfold dpB at hd; simp at hd; rw [hd]; rfl
  by_cases h0 : d.1 = 0
  · rw [if_pos h0] at h
    have hd : dpB d = false := by
      cases e : dpB d with
      | false => rfl
      | true => rw [e] at h; simp at h
    have := dp hd
    omega
  · rw [if_neg h0] at h
    by_cases h1 : d.1 = 1
    · rw [if_pos h1] at h
      have hd : dpB d = false := by
        cases e : dpB d with
        | false => rfl
        | true => rw [e] at h; simp at h
      have := dp hd
      omega
    · rw [if_neg h1] at h
      by_cases h2 : d.1 = 2
      · rw [if_pos h2] at h
        by_cases hf : fpB d = true
        · rw [if_pos hf] at h; omega
        · rw [if_neg hf] at h
          unfold dirF at h
          by_cases h6 : 6 < d.2.2.2.2.length
          · rw [if_pos h6] at h; omega
          · omega
      · rw [if_neg h2] at h; omega

theorem lt_of_cell {w : World} {b o : Nat} {v : Value} (h : w.cell? ⟨b, o, none⟩ = some v) : b < w.heap.size := by
  by_cases hb : b < w.heap.size
  · exact hb
  · simp [World.cell?, Array.getElem?_eq_none (Nat.le_of_not_lt hb)] at h
theorem wrap_in (x : Int) (h0 : -9223372036854775808 ≤ x) (h1 : x ≤ 9223372036854775807) : IntKind.i64.wrap x = x := by
  unfold IntKind.wrap
  simp only [IntKind.signed, IntKind.bits]
  simp
  split <;> omega
def m8 (x : Int) : Int := if 8 < x then 8 else x
def putD (f : Nat → Int) (b v : Int) : Nat → Int := fun i => if i = b.toNat then v else f i
/-- How many bytes each block has to hold, behind k blocks of one inode, behind j inodes. -/
def dueK (s : Int) (bs : List Int) (f : Nat → Int) : Nat → Nat → Int
  | 0 => f
  | k + 1 => putD (dueK s bs f k) (bs[k]?.getD 0) (m8 (s - 8 * (k : Int)))
def dueI (ds : List ID) : Nat → Nat → Int
  | 0 => fun _ => 0
  | j + 1 => dueK (ds[j]?.getD id0).2.2.1 (ds[j]?.getD id0).2.2.2.1 (dueI ds j) (ds[j]?.getD id0).2.2.2.1.length
def sizOK (d : FD) (i : Nat) : Bool := decide ((((d.2[i]?.getD []).length : Nat) : Int) = dueI d.1 d.1.length i)
def sizesB (d : FD) : Bool := (List.range 20).all (sizOK d)
theorem sizesB_no {d : FD} {i : Nat} (hi : i < 20) (h : sizOK d i = false) : sizesB d = false := by
  unfold sizesB
  rw [List.all_eq_false]
  exact ⟨i, by simpa using hi, by simp [h]⟩
theorem sizesB_yes {d : FD} (h : ∀ i, i < 20 → sizOK d i = true) : sizesB d = true := by
  unfold sizesB
  rw [List.all_eq_true]
  intro i hi
  exact h i (by simpa using hi)
def intF (f : Nat → Int) (i : Nat) : Value := .int .i64 (f i)

end Go.Proofs.Ytagmmgcdebgfnaa

namespace Go.Proofs.Ytagmmgcdebgfnaa
open Go.RowKit
set_option maxRecDepth 100000

/-- What marking lays into a step of n words, from number k on. -/
def mkS (k : Int) (n : Nat) : SD := (k % 3 == 0, k + 1, marks (k + 1 + 1) n)
def snum (k : Int) (ds : List SD) (i : Nat) : Int := k + (upto (stp ds) i : Nat)
def halfS (k : Int) (ds : List SD) (j : Nat) : List SD := (List.range ds.length).map fun i => if i < j then mkS (snum k ds i) (ds[i]?.getD sd0).2.2.length else ds[i]?.getD sd0
def mkStps (k : Int) (ds : List SD) : List SD := (List.range ds.length).map fun i => mkS (snum k ds i) (ds[i]?.getD sd0).2.2.length
theorem mkStps_length (k : Int) (ds : List SD) : (mkStps k ds).length = ds.length := by simp [mkStps]
theorem mkStps_get (k : Int) (ds : List SD) {i : Nat} (hi : i < ds.length) : (mkStps k ds)[i]?.getD sd0 = mkS (snum k ds i) (ds[i]?.getD sd0).2.2.length := by
  unfold mkStps; rw [List.getElem?_map, List.getElem?_range hi]; rfl
theorem halfS_length (k : Int) (ds : List SD) (j : Nat) : (halfS k ds j).length = ds.length := by simp [halfS]
theorem halfS_get (k : Int) (ds : List SD) (j : Nat) {i : Nat} (hi : i < ds.length) : (halfS k ds j)[i]?.getD sd0 = if i < j then mkS (snum k ds i) (ds[i]?.getD sd0).2.2.length else ds[i]?.getD sd0 := by
  unfold halfS; rw [List.getElem?_map, List.getElem?_range hi]; rfl
theorem halfS_zero (k : Int) (ds : List SD) : halfS k ds 0 = ds := by
  refine List.ext_getElem (halfS_length k ds 0) fun i h1 h2 => ?_
  have := halfS_get k ds 0 h2
  rw [if_neg (by omega), List.getElem?_eq_getElem h1, List.getElem?_eq_getElem h2] at this
  exact this
theorem halfS_all (k : Int) (ds : List SD) : halfS k ds ds.length = mkStps k ds := by
  refine List.ext_getElem (by rw [halfS_length, mkStps_length]) fun i h1 h2 => ?_
  have hi : i < ds.length := by rw [halfS_length] at h1; exact h1
  have e1 := halfS_get k ds ds.length hi
  have e2 := mkStps_get k ds hi
  rw [if_pos hi, List.getElem?_eq_getElem h1] at e1
  rw [List.getElem?_eq_getElem h2] at e2
  exact e1.trans e2.symm
theorem stCell_next (k : Int) (ds : List SD) (u : Nat → Value) (j c : Nat) (hj : j < ds.length) (hc : c < ds.length * 3) :
    (if c = j * 3 + 1 then .int .i64 (snum k ds j + 1) else if c = j * 3 then .bool (snum k ds j % 3 == 0) else stCell (halfS k ds j) u c) = stCell (halfS k ds (j + 1)) u c := by
  have hi : c / 3 < ds.length := by omega
  by_cases e1 : c = j * 3 + 1
  · subst e1
    rw [if_pos rfl, stCell_1, halfS_get _ _ _ hj, if_pos (by omega)]; rfl
  · rw [if_neg e1]
    by_cases e0 : c = j * 3
    · subst e0
      rw [if_pos rfl, stCell_0, halfS_get _ _ _ hj, if_pos (by omega)]; rfl
    · rw [if_neg e0]
      unfold stCell
      rw [halfS_get _ _ _ hi, halfS_get _ _ _ hi]
      by_cases e2 : c % 3 = 2
      · rw [if_neg (by omega), if_neg (by omega), if_neg (by omega), if_neg (by omega)]
      · have hne : c / 3 ≠ j := by omega
        have : (c / 3 < j) = (c / 3 < j + 1) := by apply propext; omega
        simp only [this]
theorem snum_next (k : Int) (ds : List SD) (j : Nat) (hj : j < ds.length) : snum k ds (j + 1) = snum k ds j + 1 + 1 + ((ds[j]?.getD sd0).2.2.length : Int) ∧ snum k ds (j + 1) ≤ k + (spanStps ds : Nat) := by
  have hs := upto_succ (stp ds) j (by rw [stp_length]; exact hj)
  rw [stp_get ds j hj] at hs
  have hle := upto_le (stp ds) (j + 1)
  unfold spanSte at hs
  unfold snum spanStps
  constructor <;> omega

set_option maxHeartbeats 400000 in
theorem markStps_nil (w : World) (a : Option Addr) (cap : Nat) (k : Int) :
    Calls Try.prog 78 #[.slice a 0 cap, .int .i64 k] w fun e w' => e = .returned (.int .i64 k) ∧ w' = w := by
  go_enter Try.func78, Try.ntmps78
  go_wp2
  go_loop [1, 5] (fun q i => i = .int .i64 0 ∧ q = .int .i64 k) (fun _ _ => 0)
  case atStart => exact ⟨rfl, rfl⟩
  case round =>
    obtain ⟨rfl, rfl⟩ := hrel
    go_wp2
    go_ret
    exact ⟨rfl, rfl⟩
set_option maxHeartbeats 1600000 in
theorem markStps_walk (w : World) (b cap n : Nat) (k : Int) (F : Nat → Prop) (ds : List SD) (u : Nat → Value) (G : Nat → Nat → Prop) (hF : F b) (hG : ∀ i c, G i c → F c ∧ c ≠ b) (hGG : ∀ i j c, i ≠ j → G i c → ¬ G j c)
    (hn : ds.length = n) (hk0 : 0 ≤ k) (hk : k + (spanStps ds : Nat) ≤ 4611686018427387904) (hn2 : n ≤ 9223372036854775807) (hr : OwnRow w b (n * 3) (stCell ds u)) (hu : ∀ i, i < n → IntsO w (u i) (ds[i]?.getD sd0).2.2 (G i)) :
    Calls Try.prog 78 #[.slice (some ⟨b, 0, none⟩) n cap, .int .i64 k] w fun e w' => e = .returned (.int .i64 (k + (spanStps ds : Nat))) ∧ OwnRow w' b (n * 3) (stCell (mkStps k ds) u) ∧ (∀ i, i < n → IntsO w' (u i) ((mkStps k ds)[i]?.getD sd0).2.2 (G i)) ∧ Chg F w w' := by
  have HR : Hid (OwnRow w b (n * 3) (stCell ds u)) := hr
  have HU : Hid (∀ i, i < n → IntsO w (u i) (ds[i]?.getD sd0).2.2 (G i)) := hu
  have HF : Hid (F b) := hF
  have HG : Hid (∀ i c, G i c → F c ∧ c ≠ b) := hG
  have HGG : Hid (∀ i j c, i ≠ j → G i c → ¬ G j c) := hGG
  have HN : Hid (ds.length = n) := hn
  clear hr hu hG hGG hn hF
  go_enter Try.func78, Try.ntmps78
  go_wp2
  go_loopw [1, 5] (fun q i wr => ∃ j : Nat, j ≤ n ∧ i = .int .i64 j ∧ q = .int .i64 (snum k ds j) ∧ OwnRow wr b (n * 3) (stCell (halfS k ds j) u) ∧ (∀ i, i < n → IntsO wr (u i) ((halfS k ds j)[i]?.getD sd0).2.2 (G i)) ∧ Chg F w wr) (fun _ i _ => n - (intOf i).toNat)
  case atStart => exact ⟨0, Nat.zero_le _, rfl, by simp [snum, upto_zero], by rw [halfS_zero]; exact HR.out, by rw [halfS_zero]; exact HU.out, Chg.refl _ _⟩
  case round =>
    obtain ⟨j, hj, rfl, rfl, hrow, hin, hch⟩ := hrel
    by_cases hlt : j < n
    · have c0 := hrow.cell (i := j * 3) (by omega)
      have c1 := hrow.cell (i := j * 3 + 1) (by omega)
      have c2 := hrow.cell (i := j * 3 + 2) (by omega)
      have f0 := hrow.frozen (j * 3)
      have f1 := hrow.frozen (j * 3 + 1)
      rw [stCell_0] at c0
      rw [stCell_1] at c1
      rw [stCell_2] at c2
      have hbw := hrow.lt
      have HROW : Hid (OwnRow wr b (n * 3) (stCell (halfS k ds j) u)) := hrow
      have HIN : Hid (∀ i, i < n → IntsO wr (u i) ((halfS k ds j)[i]?.getD sd0).2.2 (G i)) := hin
      have HCH : Hid (Chg F w wr) := hch
      clear hrow hin hch
      obtain ⟨hs, hle⟩ := snum_next k ds j (by rw [HN.out]; exact hlt)
      have hp0 : 0 ≤ snum k ds j := by unfold snum; omega
      have hp1 : snum k ds j + 1 + 1 + ((ds[j]?.getD sd0).2.2.length : Int) ≤ 4611686018427387904 := by omega
      have HS : Hid (snum k ds (j + 1) = snum k ds j + 1 + 1 + ((ds[j]?.getD sd0).2.2.length : Int)) := hs
      have HIJ : Hid (IntsO wr (u j) (ds[j]?.getD sd0).2.2 (G j)) := by
        have h1 := HIN.out j hlt
        rw [halfS_get _ _ _ (by rw [HN.out]; exact hlt), if_neg (by omega)] at h1
        exact h1
      clear hs hle
      generalize ((halfS k ds j)[j]?.getD sd0).1 = z0 at *
      generalize ((halfS k ds j)[j]?.getD sd0).2.1 = z1 at *
      go_wp2_with fail
      refine (markInts_any (snum k ds j + 1 + 1) ((HIJ.out.keep (w' := wr.setCell ⟨b, j * 3, none⟩ (.bool (snum k ds j % 3 == 0))) fun c hc _ => Below.heap_setCell _ _ _ _ (HG.out j c hc).2).keep (w' := (wr.setCell ⟨b, j * 3, none⟩ (.bool (snum k ds j % 3 == 0))).setCell ⟨b, j * 3 + 1, none⟩ (.int .i64 (snum k ds j + 1))) fun c hc _ => Below.heap_setCell _ _ _ _ (HG.out j c hc).2) (by omega) (by omega)).mono ?_
      rintro e w' ⟨rfl, hm, hc⟩
      have HM : Hid (IntsO w' (u j) (marks (snum k ds j + 1 + 1) (ds[j]?.getD sd0).2.2.length) (G j)) := hm
      have HC : Hid (Chg (G j) ((wr.setCell ⟨b, j * 3, none⟩ (.bool (snum k ds j % 3 == 0))).setCell ⟨b, j * 3 + 1, none⟩ (.int .i64 (snum k ds j + 1))) w') := hc
      clear hm hc
      go_wp2
      go_roundw
      case rel =>
        refine ⟨j + 1, by omega, by go_num, by rw [HS.out], ?_, fun i hi => ?_, ((HCH.out.set HF.out _ _).set HF.out _ _).trans (HC.out.mono fun c hc => (HG.out j c hc).1)⟩
        · have h1 := ((HROW.out.set (j * 3) (.bool (snum k ds j % 3 == 0))).set (j * 3 + 1) (.int .i64 (snum k ds j + 1))).congr (g := stCell (halfS k ds (j + 1)) u) fun c hc => stCell_next k ds u j c (by rw [HN.out]; exact hlt) (by rw [HN.out]; exact hc)
          exact h1.block (HC.out.block b h1.lt (fun h => (HG.out j b h).2 rfl))
        · rw [halfS_get _ _ _ (by rw [HN.out]; exact hi)]
          by_cases e : i = j
          · subst e
            rw [if_pos (by omega)]
            exact HM.out
          · have h0 := HIN.out i hi
            rw [halfS_get _ _ _ (by rw [HN.out]; exact hi)] at h0
            have h1 := h0.keep (w' := w') fun c hc hlt => (HC.out.block c (by simpa [World.setCell] using hlt) (HGG.out i j c e hc)).trans ((Below.heap_setCell _ _ _ _ (HG.out i c hc).2).trans (Below.heap_setCell _ _ _ _ (HG.out i c hc).2))
            have : (i < j) = (i < j + 1) := by apply propext; omega
            simp only [this] at h1
            exact h1
      case measure => simp [intOf]; omega
    · go_wp2
      go_ret
      have e : j = n := by omega
      subst e
      have e1 : snum k ds j = k + (spanStps ds : Nat) := by unfold snum spanStps; have := upto_all (stp ds); rw [stp_length, HN.out] at this; rw [this]
      have e2 : halfS k ds j = mkStps k ds := by rw [← HN.out]; exact halfS_all k ds
      rw [e2] at hrow hin
      exact ⟨ret_int e1, hrow, hin, hch⟩
theorem markStpsU {w : World} {v : Value} {ds : List SD} {F : Nat → Prop} (k : Int) (h : StpsO w v ds F) (hk0 : 0 ≤ k) (hk : k + (spanStps ds : Nat) ≤ 4611686018427387904) :
    Calls Try.prog 78 #[v, .int .i64 k] w fun e w' => e = .returned (.int .i64 (k + (spanStps ds : Nat))) ∧ StpsO w' v (mkStps k ds) F ∧ Chg F w w' := by
  rcases h with ⟨rfl, a, cap, rfl⟩ | ⟨b, cap, u, G, hF, hG, hGG, rfl, hl, hr, hu⟩
  · exact (markStps_nil w a cap k).mono fun e w' ⟨he, hw⟩ => ⟨by rw [he]; simp [spanStps, stp], Or.inl ⟨rfl, a, cap, rfl⟩, hw ▸ Chg.refl _ _⟩
  · refine (markStps_walk w b cap ds.length k F ds u G hF hG hGG rfl hk0 hk (by have := hl.1; unfold maxLen at this; omega) hr fun i hi => (hu i hi).2).mono fun e w' ⟨he, hrow, hin, hch⟩ => ⟨he, Or.inr ⟨b, cap, u, G, hF, hG, hGG, ?_, ?_, ?_, ?_⟩, hch⟩
    · rw [mkStps_length]
    · rw [mkStps_length]; exact hl
    · rw [mkStps_length]; exact hrow
    · intro i hi
      rw [mkStps_length] at hi
      exact ⟨⟨rfl, rfl⟩, hin i hi⟩

set_option maxHeartbeats 400000 in
theorem heldStps_nil (w : World) (a : Option Addr) (cap : Nat) (k : Int) :
    Calls Try.prog 79 #[.slice a 0 cap, .int .i64 k] w fun e w' => e = .returned (.int .i64 k) ∧ w' = w := by
  go_enter Try.func79, Try.ntmps79
  go_wp2
  go_loop [1, 5] (fun q i => i = .int .i64 0 ∧ q = .int .i64 k) (fun _ _ => 0)
  case atStart => exact ⟨rfl, rfl⟩
  case round =>
    obtain ⟨rfl, rfl⟩ := hrel
    go_wp2
    go_ret
    exact ⟨rfl, rfl⟩
set_option maxHeartbeats 1600000 in
theorem heldStps_walk (w : World) (a : Option Addr) (cap n : Nat) (k : Int) (ds : List SD) (hn : ds.length = n) (hk0 : 0 ≤ k) (hk : k + (spanStps ds : Nat) ≤ 4611686018427387904) (hn2 : n ≤ 9223372036854775807) (hA : AtStp w a n (mkStps k ds)) :
    Calls Try.prog 79 #[.slice a n cap, .int .i64 k] w fun e w' => e = .returned (.int .i64 (k + (spanStps ds : Nat))) ∧ w' = w := by
  have HN : Hid (ds.length = n) := hn
  have HA : Hid (AtStp w a n (mkStps k ds)) := hA
  clear hn hA
  go_enter Try.func79, Try.ntmps79
  go_wp2
  go_loop [1, 5] (fun q i => ∃ j : Nat, j ≤ n ∧ i = .int .i64 j ∧ q = .int .i64 (snum k ds j)) (fun _ i => n - (intOf i).toNat)
  case atStart => exact ⟨0, Nat.zero_le _, rfl, by simp [snum, upto_zero]⟩
  case round =>
    obtain ⟨j, hj, rfl, rfl⟩ := hrel
    by_cases hlt : j < n
    · obtain ⟨b, o, rfl, aW, cW, c0, c1, c2, _, i1⟩ := HA.out j hlt
      obtain ⟨hs, hle⟩ := snum_next k ds j (by rw [HN.out]; exact hlt)
      rw [mkStps_get _ _ (by rw [HN.out]; exact hlt)] at c0 c1 c2 i1
      have hp0 : 0 ≤ snum k ds j := by unfold snum; omega
      have HS : Hid (snum k ds (j + 1) = snum k ds j + 1 + 1 + ((ds[j]?.getD sd0).2.2.length : Int)) := hs
      have hp1 : snum k ds j + 1 + 1 + ((ds[j]?.getD sd0).2.2.length : Int) ≤ 4611686018427387904 := by omega
      clear hs hle
      generalize snum k ds j = U at *
      generalize (ds[j]?.getD sd0).2.2.length = m at *
      have e2 : (mkS U m).2.2.length = m := marks_length _ _
      rw [e2] at c2 i1
      have HI : Hid (Ints w (.slice aW m cW) (marks (U + 1 + 1) m)) := i1
      replace c0 : w.cell? ⟨b, o + j * 3, none⟩ = some (.bool (U % 3 == 0)) := c0
      replace c1 : w.cell? ⟨b, o + j * 3 + 1, none⟩ = some (.int .i64 (U + 1)) := c1
      clear i1 e2
      have hne : (U + 1 != U + 1) = false := by simp
      have hnb : ((U % 3 == 0) != (U % 3 == 0)) = false := by simp
      have hlo : ¬ (U + 1 + 1 + ((m : Nat) : Int)) < 0 := by omega
      go_wp2_with fail
      refine (heldInts_any (U + 1 + 1) m HI.out (by omega) (by omega)).mono ?_
      rintro e w' ⟨rfl, rfl⟩
      go_wp2
      go_round
      case rel => exact ⟨j + 1, by omega, by go_num, by rw [HS.out]⟩
      case measure => simp [intOf]; omega
    · go_wp2
      go_ret
      have e : j = n := by omega
      subst e
      exact ⟨ret_int (by unfold snum spanStps; have := upto_all (stp ds); rw [stp_length, HN.out] at this; rw [this]), rfl⟩
theorem heldStpsU {w : World} {v : Value} (k : Int) (ds : List SD) {F : Nat → Prop} (h : StpsO w v (mkStps k ds) F) (hk0 : 0 ≤ k) (hk : k + (spanStps ds : Nat) ≤ 4611686018427387904) :
    Calls Try.prog 79 #[v, .int .i64 k] w fun e w' => e = .returned (.int .i64 (k + (spanStps ds : Nat))) ∧ w' = w := by
  obtain ⟨a, cap, rfl, hm, hA⟩ := h.reads.open'
  rw [mkStps_length] at hm hA ⊢
  exact heldStps_walk w a cap ds.length k ds rfl hk0 hk (by have := hm.1; unfold maxLen at this; omega) hA
end Go.Proofs.Ytagmmgcdebgfnaa

namespace Go.Proofs.Ytagmmgcdebgfnaa
open Go.RowKit
set_option maxRecDepth 100000

section
variable {α : Type} {P : World → List Value → α → (Nat → Prop) → Prop}
theorem GRow.congr {w : World} {base : Nat} {e : TypeId} {size : Nat} {v : Value} {n : Nat} {x x' : Nat → α} {u : Nat → List Value} {G : Nat → Nat → Prop} (h : GRow P w base e size v n x u G) (hx : ∀ i, i < n → x i = x' i) : GRow P w base e size v n x' u G :=
  ⟨h.own, h.len, h.lo, h.ne, h.inj, fun i hi => by rw [← hx i hi]; exact h.at' i hi⟩
theorem GRow.low {w : World} {base base' : Nat} {e : TypeId} {size : Nat} {v : Value} {n : Nat} {x : Nat → α} {u : Nat → List Value} {G : Nat → Nat → Prop} (h : GRow P w base e size v n x u G) (hb : base' ≤ base) : GRow P w base' e size v n x u G :=
  ⟨ownsRow_le h.own hb, h.len, fun i c hi hc => ⟨Nat.le_trans hb (h.lo i c hi hc).1, (h.lo i c hi hc).2⟩, h.ne, h.inj, h.at'⟩
theorem flat_at {size n : Nat} (hsz : 0 < size) (u : Nat → List Value) (hu : ∀ i, i < n → (u i).length = size) (i q : Nat) (hi : i < n) (hq : q < size) : ((List.range n).flatMap u)[i * size + q]? = (u i)[q]? := by
  have e0 : (List.range n).flatMap u = (List.range n).flatMap (fun i => if i < n then u i else List.replicate size undef) := by
    have : (List.range n).map u = (List.range n).map (fun i => if i < n then u i else List.replicate size undef) := List.map_congr_left fun i hi => by rw [if_pos (List.mem_range.1 hi)]
    rw [List.flatMap_def, List.flatMap_def, this]
  have hg := flat_get (C := fun i _ => if i < n then u i else List.replicate size undef) hsz (fun _ => undef) (fun i => by
    by_cases hi : i < n
    · simp only [if_pos hi]; exact hu i hi
    · simp only [if_neg hi]; simp) n i q hi hq
  rw [e0, hg, if_pos hi]
theorem flat_size {size : Nat} (u : Nat → List Value) (n : Nat) (hu : ∀ i, i < n → (u i).length = size) : ((List.range n).flatMap u).length = n * size := by
  induction n with
  | zero => simp
  | succ n ih =>
    rw [List.range_succ, List.flatMap_append, List.length_append, ih fun i hi => hu i (by omega)]
    simp only [List.flatMap_cons, List.flatMap_nil, List.append_nil]
    rw [hu n (by omega), Nat.succ_mul]
theorem flat_two (u u2 : Nat → List Value) (n m : Nat) : (List.range (n + m)).flatMap (fun i => if i < n then u i else u2 (i - n)) = (List.range n).flatMap u ++ (List.range m).flatMap u2 := by
  induction m with
  | zero =>
    simp only [Nat.add_zero, List.range_zero, List.flatMap_nil, List.append_nil]
    have : (List.range n).map (fun i => if i < n then u i else u2 (i - n)) = (List.range n).map u := List.map_congr_left fun i hi => by rw [if_pos (List.mem_range.1 hi)]
    rw [List.flatMap_def, List.flatMap_def, this]
  | succ m ih =>
    rw [← Nat.add_assoc, List.range_succ, List.flatMap_append, ih, List.range_succ, List.flatMap_append, List.append_assoc]
    simp only [List.flatMap_cons, List.flatMap_nil, List.append_nil]
    rw [if_neg (by omega), Nat.add_sub_cancel_left]
/-- What 'append' of many elements comes to. -/
theorem GRow.many (hP : StP P) (w : World) (t ty e : TypeId) (i : TypeInfo) (z : Value) (size bytes : Nat) (ht : Try.prog.underlying t = some (.slice e)) (hi : Try.prog.info? e = some i) (hz : i.zero = some z) (hsize : i.size = size) (hby : i.bytes = bytes) (hzs : z.cells.size = size) (hsz : 0 < size) (hbb : bytes ≤ 1000)
    (base n : Nat) (v : Value) (x : Nat → α) (u : Nat → List Value) (G : Nat → Nat → Prop) (h : GRow P w base e size v n x u G) (hb : base ≤ w.heap.size)
    (b2 m c : Nat) (hm : 0 < m) (hnm : n + m ≤ 1048600) (x2 : Nat → α) (u2 : Nat → List Value) (G2 : Nat → Nat → Prop) (hl2 : ∀ j, j < m → (u2 j).length = size) (hc2 : ∀ j q y, j < m → q < size → (u2 j)[q]? = some y → w.cell? ⟨b2, j * size + q, none⟩ = some y) (hone : ∀ j y, j < m → y ∈ u2 j → y.oneCell' = true)
    (hlo2 : ∀ j c, j < m → G2 j c → base ≤ c ∧ c < w.heap.size) (hne2 : ∀ j c, j < m → G2 j c → v.ownBlock ≠ some c) (hinj2 : ∀ i j c, i < m → j < m → i ≠ j → G2 i c → ¬ G2 j c) (hd : ∀ i j c, i < n → j < m → G i c → ¬ G2 j c) (hat2 : ∀ j, j < m → P w (u2 j) (x2 j) (G2 j)) :
    ∃ g cap X u' G', (Builtin.append_ #[t, t] ty #[v, .slice (some ⟨b2, 0, none⟩) m c]).run Try.prog w = .ok (.slice (some ⟨g, 0, none⟩) (n + m) cap) X ∧
      (∀ B, B ≤ w.heap.size → (∀ g, v.ownBlock = some g → B ≤ g) → Below B w X) ∧ GRow P X base e size (.slice (some ⟨g, 0, none⟩) (n + m) cap) (n + m) (fun i => if i < n then x i else x2 (i - n)) u' G' ∧ (∀ b, b < w.heap.size → v.ownBlock ≠ some b → X.heap[b]? = w.heap[b]? ∧ g ≠ b) ∧
      (∀ i, i < n + m → u' i = if i < n then u i else u2 (i - n)) ∧ (∀ i c, i < n + m → (G' i c ↔ if i < n then G i c else G2 (i - n) c)) := by
  have hfl := flat_size u2 m hl2
  obtain ⟨g, cap, X, hr, ho, hg, hat, hgX⟩ := run_append_lies (P := Try.prog) w t ty base e i z size bytes ht hi hz hsize hby hzs hsz v n _ h.own ⟨b2, 0, none⟩ m c ((List.range m).flatMap u2) hfl
    (fun j y hy => by
      have hj : j < m * size := by rw [← hfl]; exact (List.getElem?_eq_some_iff.1 hy).1
      have hd : j / size < m := by rw [Nat.div_lt_iff_lt_mul hsz]; exact hj
      have hq : j % size < size := Nat.mod_lt _ hsz
      have e1 := flat_at hsz u2 hl2 (j / size) (j % size) hd hq
      rw [Nat.div_add_mod'] at e1
      rw [e1] at hy
      have := hc2 _ _ _ hd hq hy
      rw [Nat.div_add_mod'] at this
      rw [add_plain', Nat.zero_add]
      exact this)
    (fun y hy => by
      rw [List.mem_flatMap] at hy
      obtain ⟨j, hj, hy⟩ := hy
      exact hone j y (List.mem_range.1 hj) hy) hm (by unfold maxLen; omega) (by have : (n + m) * bytes ≤ 1048600 * 1000 := Nat.mul_le_mul (by omega) hbb; omega) hb w.heap.size rfl
  have hrowb : ∀ g, v.ownBlock = some g → base ≤ g ∧ g < w.heap.size := fun g hg => h.own.lt g hg
  have hXb : ∀ b, b < w.heap.size → v.ownBlock ≠ some b → X.heap[b]? = w.heap[b]? := fun b hb' hne => hg.block b hb' (fun e => hne e.symm)
  have hne : ∀ b, b < w.heap.size → v.ownBlock ≠ some b → g ≠ b := by
    intro b hb' hb2 e
    subst e
    rcases hat with h | h
    · exact hb2 h
    · omega
  have hXs : w.heap.size ≤ X.heap.size := hg.size
  refine ⟨g, cap, X, _, _, hr, fun B h1 h2 => below_grown hg h1 h2, ⟨(flat_two u u2 n m).symm ▸ ho, fun j hj => ?_, fun j c hj hc => ?_, fun j c hj hc => ?_, fun j j' c hj hj' e hc hc' => ?_, fun j hj => ?_⟩, fun b hb hn => ⟨hXb b hb hn, hne b hb hn⟩, fun i _ => rfl, fun i c _ => (Iff.rfl : (if i < n then G i c else G2 (i - n) c) ↔ _)⟩
  · by_cases e : j < n
    · simp only [if_pos e]; exact h.len j e
    · simp only [if_neg e]; exact hl2 _ (by omega)
  · by_cases e : j < n
    · simp only [if_pos e] at hc
      have := h.lo j c e hc
      omega
    · simp only [if_neg e] at hc
      have := hlo2 _ c (by omega) hc
      omega
  · by_cases e : j < n
    · simp only [if_pos e] at hc
      exact fun e' => hne c (h.lo j c e hc).2 (h.ne j c e hc) (by simpa [Value.ownBlock] using e')
    · simp only [if_neg e] at hc
      exact fun e' => hne c (hlo2 _ c (by omega) hc).2 (hne2 _ c (by omega) hc) (by simpa [Value.ownBlock] using e')
  · by_cases e1 : j < n
    · by_cases e2 : j' < n
      · simp only [if_pos e1] at hc
        simp only [if_pos e2] at hc'
        exact h.inj j j' c e1 e2 e hc hc'
      · simp only [if_pos e1] at hc
        simp only [if_neg e2] at hc'
        exact hd j _ c e1 (by omega) hc hc'
    · by_cases e2 : j' < n
      · simp only [if_neg e1] at hc
        simp only [if_pos e2] at hc'
        exact hd j' _ c e2 (by omega) hc' hc
      · simp only [if_neg e1] at hc
        simp only [if_neg e2] at hc'
        exact hinj2 _ _ c (by omega) (by omega) (by omega) hc hc'
  · by_cases e : j < n
    · simp only [if_pos e]
      exact hP _ _ _ _ _ (h.at' j e) fun c hc hlt => hXb c hlt (h.ne j c e hc)
    · simp only [if_neg e]
      exact hP _ _ _ _ _ (hat2 _ (by omega)) fun c hc hlt => hXb c hlt (hne2 _ c (by omega) hc)
/-- The cells of such a row, one by one. -/
theorem GRow.cellAt {w : World} {base : Nat} {e : TypeId} {size : Nat} {b n cap : Nat} {x : Nat → α} {u : Nat → List Value} {G : Nat → Nat → Prop} (h : GRow P w base e size (.slice (some ⟨b, 0, none⟩) n cap) n x u G) (hsz : 0 < size) (j q : Nat) (y : Value) (hj : j < n) (hq : q < size) (hy : (u j)[q]? = some y) : w.cell? ⟨b, j * size + q, none⟩ = some y := by
  have hlt : j * size + q < n * size := by
    have : (j + 1) * size ≤ n * size := Nat.mul_le_mul_right _ (by omega)
    rw [Nat.succ_mul] at this
    omega
  rw [h.own.cellAt _ hlt, flat_at hsz u h.len j q hj hq, hy]
end

/-- A step, in three cells. -/
def StpP (w : World) (u : List Value) (p : SD) (F : Nat → Prop) : Prop := ∃ a c, u = [.bool p.1, .int .i64 p.2.1, .slice a p.2.2.length c] ∧ IntsO w (.slice a p.2.2.length c) p.2.2 F
theorem StpP.steady : StP StpP := fun w w' u x F h k => by
  obtain ⟨a, c, h1, h2⟩ := h
  exact ⟨a, c, h1, h2.keep k⟩
theorem Try.infoStp' : ∃ i, Try.prog.info? 27 = some i ∧ i.zero = some (.agg #[.bool false, .int .i64 0, .slice none 0 0]) ∧ i.size = 3 ∧ i.bytes = 40 := by
  obtain ⟨i, hi, h⟩ := Option.map_eq_some_iff.1 Try.infoSte
  simp only [Prod.mk.injEq] at h
  exact ⟨i, hi, h.1, h.2.1, h.2.2⟩
theorem StpP.one {w : World} {u : List Value} {p : SD} {F : Nat → Prop} (h : StpP w u p F) : ∀ y ∈ u, y.oneCell' = true := fun y hy => by
  obtain ⟨a, c, rfl, _⟩ := h
  simp only [List.mem_cons, List.not_mem_nil, or_false] at hy
  rcases hy with rfl | rfl | rfl <;> rfl
theorem GRow.stps {w : World} {base : Nat} {e : TypeId} {v : Value} {n : Nat} {u : Nat → List Value} {G : Nat → Nat → Prop} {ds : List SD} (h : GRow StpP w base e 3 v n (fun i => ds[i]?.getD sd0) u G) (hn : ds.length = n) (F : Nat → Prop) (hF : ∀ c, base ≤ c → c < w.heap.size → F c) : StpsO w v ds F := by
  subst hn
  by_cases h0 : ds.length = 0
  · obtain ⟨a, c, e⟩ := h.shape
    exact Or.inl ⟨List.eq_nil_of_length_eq_zero h0, a, c, by rw [e, h0]⟩
  · obtain ⟨g, cap, rfl, hb, hg, hl, hc, hr⟩ := h.cells (by decide) (by omega)
    refine Or.inr ⟨g, cap, fun i => (u i)[2]?.getD undef, fun i c => i < ds.length ∧ G i c, hF g hb hg, fun i c hc => ⟨hF c (h.lo i c hc.1 hc.2).1 (h.lo i c hc.1 hc.2).2, fun e => h.ne i c hc.1 hc.2 (by simp [Value.ownBlock, e])⟩, fun i j c e h1 h2 => h.inj i j c h1.1 h2.1 e h1.2 h2.2, rfl, ⟨hl, hc⟩, hr.congr fun c hc => ?_, fun i hi => ⟨⟨rfl, rfl⟩, ?_⟩⟩
    · obtain ⟨a, c', e1, _⟩ := h.at' (c / 3) (by omega)
      unfold rowCell stCell
      rw [e1]
      have : c % 3 = 0 ∨ c % 3 = 1 ∨ c % 3 = 2 := by omega
      rcases this with e | e | e <;> simp [e, e1]
    · obtain ⟨a, c', e1, e2⟩ := h.at' i hi
      show IntsO w ((u i)[2]?.getD undef) _ _
      rw [e1]
      exact e2.mono fun c hc => ⟨hi, hc⟩
/-- A step whose words lie in blocks of T. -/
def StpT (T : Nat → Prop) (w : World) (u : List Value) (p : SD) (F : Nat → Prop) : Prop := StpP w u p F ∧ ∀ c, F c → T c
theorem StpT.steady (T : Nat → Prop) : StP (StpT T) := fun _ _ _ _ _ h k => ⟨StpP.steady _ _ _ _ _ h.1 k, h.2⟩
theorem GRow.imp {α : Type} {P P' : World → List Value → α → (Nat → Prop) → Prop} {w : World} {base : Nat} {e : TypeId} {size : Nat} {v : Value} {n : Nat} {x : Nat → α} {u : Nat → List Value} {G : Nat → Nat → Prop} (h : GRow P w base e size v n x u G) (hp : ∀ i, i < n → P w (u i) (x i) (G i) → P' w (u i) (x i) (G i)) : GRow P' w base e size v n x u G :=
  ⟨h.own, h.len, h.lo, h.ne, h.inj, fun i hi => hp i hi (h.at' i hi)⟩
/-- What 'append' of one step comes to. -/
theorem append_stpT (T : Nat → Prop) (w w1 : World) (base n : Nat) (v : Value) (x : Nat → SD) (u : Nat → List Value) (G : Nat → Nat → Prop) (h : GRow (StpT T) w base 27 3 v n x u G) (hb : base ≤ w.heap.size) (hn : n ≤ 1048600) (hb1 : Below w.heap.size w w1)
    (fl : Bool) (at_ : Int) (a : Option Addr) (m c : Nat) (ws : List Int) (hx : x n = (fl, at_, ws)) (F : Nat → Prop) (hF : ∀ c, F c → w.heap.size ≤ c ∧ c < w1.heap.size) (hT : ∀ c, F c → T c) (hm : m = ws.length) (hf : IntsO w1 (.slice a m c) ws F) (B : Nat) (hB : w1.heap.size = B) :
    ∃ g cap X u' G', (Builtin.append_ #[36, 36] 36 #[v, .slice (some ⟨B, 0, none⟩) 1 1]).run Try.prog (w1.alloc (.cells #[.bool fl, .int .i64 at_, .slice a m c] 27)) = .ok (.slice (some ⟨g, 0, none⟩) (n + 1) cap) X ∧
      Below base w X ∧ w1.heap.size < X.heap.size ∧ GRow (StpT T) X base 27 3 (.slice (some ⟨g, 0, none⟩) (n + 1) cap) (n + 1) x u' G' ∧ (∀ b, b < w1.heap.size → v.ownBlock ≠ some b → X.heap[b]? = w1.heap[b]? ∧ g ≠ b) := by
  subst hm
  subst hB
  obtain ⟨i, hi, i1, i2, i3⟩ := Try.infoStp'
  exact GRow.append (StpT.steady T) w w1 36 36 27 i _ 3 40 Try.underlying36 hi i1 i2 i3 rfl (by decide) (by decide) base n v x u G h hb hn hb1 [.bool fl, .int .i64 at_, .slice a ws.length c] rfl (fun y hy => by
    simp only [List.mem_cons, List.not_mem_nil, or_false] at hy
    rcases hy with rfl | rfl | rfl <;> rfl) F hF ⟨⟨a, c, by rw [hx], by rw [hx]; exact hf⟩, hT⟩
/-- What 'append' of one step comes to. -/
theorem append_stpG (w w1 : World) (base n : Nat) (v : Value) (x : Nat → SD) (u : Nat → List Value) (G : Nat → Nat → Prop) (h : GRow StpP w base 27 3 v n x u G) (hb : base ≤ w.heap.size) (hn : n ≤ 1048600) (hb1 : Below w.heap.size w w1)
    (fl : Bool) (at_ : Int) (a : Option Addr) (m c : Nat) (ws : List Int) (hx : x n = (fl, at_, ws)) (F : Nat → Prop) (hF : ∀ c, F c → w.heap.size ≤ c ∧ c < w1.heap.size) (hm : m = ws.length) (hf : IntsO w1 (.slice a m c) ws F) (B : Nat) (hB : w1.heap.size = B) :
    ∃ g cap X u' G', (Builtin.append_ #[36, 36] 36 #[v, .slice (some ⟨B, 0, none⟩) 1 1]).run Try.prog (w1.alloc (.cells #[.bool fl, .int .i64 at_, .slice a m c] 27)) = .ok (.slice (some ⟨g, 0, none⟩) (n + 1) cap) X ∧
      Below base w X ∧ w1.heap.size < X.heap.size ∧ GRow StpP X base 27 3 (.slice (some ⟨g, 0, none⟩) (n + 1) cap) (n + 1) x u' G' ∧ (∀ b, b < w1.heap.size → v.ownBlock ≠ some b → X.heap[b]? = w1.heap[b]? ∧ g ≠ b) := by
  subst hm
  subst hB
  obtain ⟨i, hi, i1, i2, i3⟩ := Try.infoStp'
  exact GRow.append StpP.steady w w1 36 36 27 i _ 3 40 Try.underlying36 hi i1 i2 i3 rfl (by decide) (by decide) base n v x u G h hb hn hb1 [.bool fl, .int .i64 at_, .slice a ws.length c] rfl (fun y hy => by
    simp only [List.mem_cons, List.not_mem_nil, or_false] at hy
    rcases hy with rfl | rfl | rfl <;> rfl) F hF ⟨a, c, by rw [hx], by rw [hx]; exact hf⟩
/-- A row of steps behind a row of steps: what 'append(a, b...)' comes to. -/
theorem append_stpsG (w : World) (base n m : Nat) (v v2 : Value) (x x2 : Nat → SD) (u u2 : Nat → List Value) (G G2 : Nat → Nat → Prop) (h : GRow StpP w base 27 3 v n x u G) (h2 : GRow StpP w base 27 3 v2 m x2 u2 G2) (hb : base ≤ w.heap.size) (hm : 0 < m) (hnm : n + m ≤ 1048600) (hne : ∀ j c, j < m → G2 j c → v.ownBlock ≠ some c) (hd : ∀ i j c, i < n → j < m → G i c → ¬ G2 j c) :
    ∃ g cap X u' G', (Builtin.append_ #[36, 36] 36 #[v, v2]).run Try.prog w = .ok (.slice (some ⟨g, 0, none⟩) (n + m) cap) X ∧
      (∀ B, B ≤ w.heap.size → (∀ g, v.ownBlock = some g → B ≤ g) → Below B w X) ∧ GRow StpP X base 27 3 (.slice (some ⟨g, 0, none⟩) (n + m) cap) (n + m) (fun i => if i < n then x i else x2 (i - n)) u' G' ∧ (∀ b, b < w.heap.size → v.ownBlock ≠ some b → X.heap[b]? = w.heap[b]? ∧ g ≠ b) ∧ (∀ i c, i < n + m → (G' i c ↔ if i < n then G i c else G2 (i - n) c)) := by
  obtain ⟨i, hi, i1, i2, i3⟩ := Try.infoStp'
  obtain ⟨b2, cap2, rfl, _, _⟩ := h2.cells (by decide) hm
  obtain ⟨g, cap, X, u', G', r1, r2, r3, r4, _, r6⟩ := GRow.many StpP.steady w 36 36 27 i _ 3 40 Try.underlying36 hi i1 i2 i3 rfl (by decide) (by decide) base n v x u G h hb b2 m cap2 hm hnm x2 u2 G2 h2.len (fun j q y hj hq hy => h2.cellAt (by decide) j q y hj hq hy) (fun j y hj hy => (h2.at' j hj).one y hy) h2.lo hne h2.inj hd h2.at'
  exact ⟨g, cap, X, u', G', r1, r2, r3, r4, r6⟩
/-- What 'append' of one step whose words stand already comes to. -/
theorem append_stpO (T : Nat → Prop) (w : World) (base n : Nat) (v : Value) (x : Nat → SD) (u : Nat → List Value) (G : Nat → Nat → Prop) (h : GRow (StpT T) w base 27 3 v n x u G) (hb : base ≤ w.heap.size) (hn : n + 1 ≤ 1048600)
    (fl : Bool) (at_ : Int) (a : Option Addr) (m c : Nat) (ws : List Int) (hx : x n = (fl, at_, ws)) (F : Nat → Prop) (hF : ∀ c, F c → base ≤ c ∧ c < w.heap.size) (hT : ∀ c, F c → T c) (hne : ∀ c, F c → v.ownBlock ≠ some c) (hd : ∀ i c, i < n → G i c → ¬ F c) (hm : m = ws.length) (hf : IntsO w (.slice a m c) ws F) (B : Nat) (hB : w.heap.size = B) :
    ∃ g cap X u' G', (Builtin.append_ #[36, 36] 36 #[v, .slice (some ⟨B, 0, none⟩) 1 1]).run Try.prog (w.alloc (.cells #[.bool fl, .int .i64 at_, .slice a m c] 27)) = .ok (.slice (some ⟨g, 0, none⟩) (n + 1) cap) X ∧
      (∀ B, B ≤ w.heap.size → (∀ g, v.ownBlock = some g → B ≤ g) → Below B w X) ∧ GRow (StpT T) X base 27 3 (.slice (some ⟨g, 0, none⟩) (n + 1) cap) (n + 1) x u' G' ∧ (∀ b, b < w.heap.size → v.ownBlock ≠ some b → X.heap[b]? = w.heap[b]? ∧ g ≠ b) ∧ (∀ i c, i < n + 1 → (G' i c ↔ if i < n then G i c else F c)) := by
  subst hm
  subst hB
  obtain ⟨i, hi, i1, i2, i3⟩ := Try.infoStp'
  have hla := later1 w (.cells #[.bool fl, .int .i64 at_, .slice a ws.length c] 27)
  obtain ⟨g, cap, X, u', G', r1, r2, r3, r4, _, r6⟩ := GRow.many (StpT.steady T) (w.alloc (.cells #[.bool fl, .int .i64 at_, .slice a ws.length c] 27)) 36 36 27 i _ 3 40 Try.underlying36 hi i1 i2 i3 rfl (by decide) (by decide) base n v x u G (h.later (StpT.steady T) hla) (by simp; omega) w.heap.size 1 1 (by decide) hn (fun _ => (fl, at_, ws)) (fun _ => [.bool fl, .int .i64 at_, .slice a ws.length c]) (fun _ => F) (fun _ _ => rfl) (fun j q y hj _ hy => by
      obtain rfl : j = 0 := by omega
      rw [Nat.zero_mul, Nat.zero_add, new_cell]
      simpa using hy) (fun _ y _ hy => by
      simp only [List.mem_cons, List.not_mem_nil, or_false] at hy
      rcases hy with rfl | rfl | rfl <;> rfl) (fun _ c _ hc => ⟨(hF c hc).1, by simp; have := (hF c hc).2; omega⟩) (fun _ c _ hc => hne c hc) (fun i j c hi hj e => by omega) (fun i _ c hi _ h1 h2 => hd i c hi h1 h2) (fun _ _ => ⟨⟨a, c, rfl, hf.keep fun b _ hlt => hla.block b hlt⟩, hT⟩)
  refine ⟨g, cap, X, u', G', r1, fun B h1 h2 => (hla.mono h1).trans (r2 B (by simp; omega) h2), r3.congr fun i hi => ?_, fun b hb hn => ?_, r6⟩
  · by_cases e : i < n
    · rw [if_pos e]
    · rw [if_neg e, show i = n by omega, hx]
  · obtain ⟨k1, k2⟩ := r4 b (by simp; omega) hn
    exact ⟨k1.trans (hla.block b hb), k2⟩
end Go.Proofs.Ytagmmgcdebgfnaa

namespace Go.Proofs.Ytagmmgcdebgfnaa
open Go.RowKit
set_option maxRecDepth 100000

/-- What is wrong of a disk that is to have a file system. -/
def sizF (d : DK) : Int := if faultF d.1 d.2 = 0 then (if d.1.length = 47 then 0 else 1) else faultF d.1 d.2
def superB (zs : List Int) : Bool := decide (zs.length = 2) && decide (zs[0]?.getD 0 = 7) && decide ((1 : Int) ≤ zs[1]?.getD 0 ∧ zs[1]?.getD 0 ≤ (60000 : Int))
def seqR (d : DK) : Int × Int := if sizF d = 0 then (if superB (atF d.1 d.2 0) = true then (0, (atF d.1 d.2 0)[1]?.getD 0) else (5, 0)) else (sizF d, 0)
theorem sizF_zero {d : DK} (h : sizF d = 0) : faultF d.1 d.2 = 0 ∧ d.1.length = 47 := by
  unfold sizF at h
  by_cases h1 : faultF d.1 d.2 = 0
  · rw [if_pos h1] at h
    by_cases h2 : d.1.length = 47
    · exact ⟨h1, h2⟩
    · rw [if_neg h2] at h; omega
  · rw [if_neg h1] at h; exact absurd h h1
theorem seqR_zero {d : DK} (h : (seqR d).1 = 0) : sizF d = 0 ∧ superB (atF d.1 d.2 0) = true ∧ (seqR d).2 = (atF d.1 d.2 0)[1]?.getD 0 := by
  unfold seqR at h ⊢
  by_cases h1 : sizF d = 0
  · rw [if_pos h1] at h ⊢
    by_cases h2 : superB (atF d.1 d.2 0) = true
    · rw [if_pos h2]; exact ⟨h1, h2, rfl⟩
    · rw [if_neg h2] at h; simp at h
  · rw [if_neg h1] at h; exact absurd h h1
theorem superB_in {zs : List Int} (h : superB zs = true) : zs.length = 2 ∧ zs[0]?.getD 0 = (7 : Int) ∧ (1 : Int) ≤ zs[1]?.getD 0 ∧ zs[1]?.getD 0 ≤ (60000 : Int) := by
  unfold superB at h
  simp only [Bool.and_eq_true, decide_eq_true_eq] at h
  exact ⟨h.1.1, h.1.2, h.2⟩

/-- A drive that is open: block bd leads to the disk d. -/
structure DrvK (w : World) (bd : Nat) (d : DK) : Prop where
  at' : ∃ aB cB aP cP, w.cell? ⟨bd, 0, none⟩ = some (.slice aB d.1.length cB) ∧ w.cell? ⟨bd, 1, none⟩ = some (.slice aP d.2.length cP) ∧ AtS w aB d.1.length d.1 ∧ AtC w aP d.2.length d.2
  g1 : d.1.length ≤ 60
  g2 : d.2.length ≤ 200
  hz : ∀ k : Nat, (d.1[k]?.getD []).length ≤ 1048576
  hzp : ∀ k : Nat, (d.2[k]?.getD (0, [])).2.length ≤ 1048576
theorem AtC.later {w w' : World} {a : Option Addr} {n : Nat} {ps : List (Int × List Int)} (h : AtC w a n ps) (hb : Below w.heap.size w w') : AtC w' a n ps := fun i hi => by
  obtain ⟨g, pb, ua, uc, e, c0, c1, c2, r⟩ := h i hi
  exact ⟨g, pb, ua, uc, e, cell_later hb c0, cell_later hb c1, cell_later hb c2, r.later hb⟩
theorem DrvK.later {w w' : World} {bd : Nat} {d : DK} (h : DrvK w bd d) (hb : Below w.heap.size w w') : DrvK w' bd d := by
  obtain ⟨aB, cB, aP, cP, c0, c1, h1, h2⟩ := h.at'
  exact ⟨⟨aB, cB, aP, cP, cell_later hb c0, cell_later hb c1, h1.later hb, h2.later hb⟩, h.g1, h.g2, h.hz, h.hzp⟩
/-- What a drive reads. -/
theorem read_drv {w : World} {bd : Nat} {d : DK} (h : DrvK w bd d) (x : Nat) (hx : x < d.1.length) :
    Calls Try.prog 64 #[.pointer (some ⟨bd, 0, none⟩), .int .i64 (x : Int)] w fun e w' => ∃ a n c, e = .returned (.slice a n c) ∧ Below w.heap.size w w' ∧ IntsO w' (.slice a n c) (atF d.1 d.2 x) (fresh w w') := by
  obtain ⟨aB, cB, aP, cP, c0, c1, h1, h2⟩ := h.at'
  exact read_any w bd aB aP d.1.length cB d.2.length cP d.1 d.2 x hx h.g1 rfl h.g2 c0 c1 h1 h2 h.hz h.hzp
theorem le_sumN (l : List Nat) (k : Nat) : l[k]?.getD 0 ≤ l.sum := by
  induction l generalizing k with
  | nil => simp
  | cons a l ih =>
    rw [List.sum_cons]
    cases k with
    | zero => simp
    | succ k => have := ih k; simp only [List.getElem?_cons_succ]; omega
theorem dsize_blk {d : DK} (hs : sizeDisk d ≤ 1048576) (k : Nat) : (d.1[k]?.getD []).length ≤ 1048576 := by
  have h1 := le_sumN (d.1.map List.length) k
  have h2 : (d.1.map List.length)[k]?.getD 0 = (d.1[k]?.getD []).length := by rw [List.getElem?_map]; cases d.1[k]? <;> rfl
  unfold sizeDisk dsize at hs
  omega
theorem dsize_put {d : DK} (hs : sizeDisk d ≤ 1048576) (k : Nat) : (d.2[k]?.getD (0, [])).2.length ≤ 1048576 := by
  have h1 := le_sumN (wlens d.2) k
  have h2 : (wlens d.2)[k]?.getD 0 = (d.2[k]?.getD (0, [])).2.length := by unfold wlens; rw [List.getElem?_map]; cases d.2[k]? <;> rfl
  unfold sizeDisk dsize at hs
  omega
/-- A disk is opened. -/
theorem open_drv {w : World} {aB aC : Option Addr} {nB cB nC cC : Nat} {d : DK} (h : DiskR w (.slice aB nB cB) (.slice aC nC cC) d) (hf : faultF d.1 d.2 = 0) (hs : sizeDisk d ≤ 1048576) :
    Calls Try.prog 63 #[.agg #[.slice aB nB cB, .slice aC nC cC]] w fun e w' => ∃ bd, e = .returned (.pointer (some ⟨bd, 0, none⟩)) ∧ Below w.heap.size w w' ∧ DrvK w' bd d := by
  obtain ⟨g1, g2⟩ := faultF_lens hf
  obtain ⟨_, _, e1, _, sB⟩ := h.1.open'
  simp only [Value.slice.injEq] at e1
  obtain ⟨rfl, rfl, rfl⟩ := e1
  obtain ⟨_, _, e2, _, sP⟩ := h.2.open'
  simp only [Value.slice.injEq] at e2
  obtain ⟨rfl, rfl, rfl⟩ := e2
  have hz : ∀ k : Nat, (d.1[k]?.getD []).length ≤ 1048576 := dsize_blk hs
  have hzp : ∀ k : Nat, (d.2[k]?.getD (0, [])).2.length ≤ 1048576 := dsize_put hs
  refine (openDisk_walk w _ _ _ cB _ cC d.1 d.2 rfl rfl g1 g2 (fun k _ => hz k) (fun k _ => hzp k) sB sP).mono ?_
  rintro e w2 ⟨bd, g, aP, cP, pb, k, u, rfl, hdr⟩
  have c0 := hdr.row.cell (i := 0) (by omega)
  have c1 := hdr.row.cell (i := 1) (by omega)
  simp at c0 c1
  obtain ⟨_, _, hvB, _, hSB⟩ := hdr.blocks.ints.open'
  simp only [Value.slice.injEq] at hvB
  obtain ⟨rfl, -, rfl⟩ := hvB
  exact ⟨bd, rfl, hdr.below, ⟨⟨_, _, _, _, c0, c1, hSB, hdr.cache.at⟩, g1, g2, hz, hzp⟩⟩
end Go.Proofs.Ytagmmgcdebgfnaa

namespace Go.Proofs.Ytagmmgcdebgfnaa
open Go.RowKit
set_option maxRecDepth 100000

/-- The words of a head. -/
def headZ (q : Int) (ps : List Int) : List Int := [1, q, (ps.length : Int)] ++ ps
/-- Is it a head of number q? -/
def headB (q : Int) (zs : List Int) : Bool := decide (3 ≤ zs.length ∧ zs[0]?.getD 0 = (1 : Int) ∧ zs[1]?.getD 0 = q ∧ ((0 : Int) ≤ zs[2]?.getD 0 ∧ zs[2]?.getD 0 ≤ (10 : Int)) ∧ (zs.length : Int) = 3 + zs[2]?.getD 0)
theorem headB_len {q : Int} {zs : List Int} (h : headB q zs = true) : 3 ≤ zs.length ∧ ((zs.drop 3).length : Int) = zs[2]?.getD 0 ∧ (zs.drop 3).length ≤ 10 := by
  unfold headB at h
  obtain ⟨h1, _, _, h4, h5⟩ := of_decide_eq_true h
  rw [List.length_drop]
  exact ⟨h1, by omega, by omega⟩
/-- The program's way of asking. -/
theorem head_yes {q : Int} {zs : List Int} (h3 : 3 ≤ zs.length) (h10 : (zs.drop 3).length ≤ 10) (he : zs = headZ q (zs.drop 3)) : headB q zs = true := by
  match zs, h3 with
  | a :: b :: c :: ps, _ =>
    unfold headZ at he
    simp only [List.drop_succ_cons, List.drop_zero, List.cons_append, List.nil_append, List.cons.injEq, and_true] at he h10
    obtain ⟨rfl, rfl, rfl⟩ := he
    unfold headB
    refine decide_eq_true ⟨by simp, rfl, rfl, ⟨?_, ?_⟩, ?_⟩
    · show (0 : Int) ≤ (ps.length : Int); omega
    · show (ps.length : Int) ≤ 10; omega
    · show ((ps.length + 1 + 1 + 1 : Nat) : Int) = 3 + (ps.length : Int); omega
theorem head_eq {q : Int} {zs : List Int} (h : headB q zs = true) : zs = headZ q (zs.drop 3) := by
  obtain ⟨h3, hn, _⟩ := headB_len h
  unfold headB at h
  obtain ⟨_, h0, h1, _, _⟩ := of_decide_eq_true h
  match zs, h3 with
  | a :: b :: c :: ps, _ =>
    have e0 : a = 1 := h0
    have e1 : b = q := h1
    have e2 : (ps.length : Int) = c := hn
    unfold headZ
    simp only [List.drop_succ_cons, List.drop_zero, List.cons_append, List.nil_append]
    rw [e0, e1, ← e2]
theorem head_no {q : Int} {zs : List Int} (h : ¬ (3 ≤ zs.length ∧ (zs.drop 3).length ≤ 10 ∧ zs = headZ q (zs.drop 3))) : headB q zs = false := by
  cases hb : headB q zs with
  | false => rfl
  | true => exact absurd ⟨(headB_len hb).1, (headB_len hb).2.2, head_eq hb⟩ h
/-- A list of fewer than three words is no head. -/
theorem head_few {q : Int} {zs : List Int} (h : ¬ 3 ≤ zs.length) : headB q zs = false := head_no fun e => h e.1
theorem headZ_len (q : Int) (ps : List Int) : (headZ q ps).length = ps.length + 3 := by unfold headZ; simp
def plcB (x : Int) : Bool := decide (17 ≤ x ∧ x ≤ 26)
/-- Are all of them places of inodes? -/
def plcsB (ps : List Int) : Bool := ps.all plcB
theorem plcsB_no {ps : List Int} {k : Nat} (hk : k < ps.length) (h : plcB (ps[k]?.getD 0) = false) : plcsB ps = false := by
  unfold plcsB
  rw [List.all_eq_false]
  exact ⟨ps[k]?.getD 0, by rw [List.getElem?_eq_getElem hk]; exact List.getElem_mem hk, by rw [h]; simp⟩
theorem plcsB_yes {ps : List Int} (h : ∀ k, k < ps.length → plcB (ps[k]?.getD 0) = true) : plcsB ps = true := by
  unfold plcsB
  rw [List.all_eq_true]
  intro x hx
  obtain ⟨k, hk, rfl⟩ := List.getElem_of_mem hx
  have := h k hk
  rwa [List.getElem?_eq_getElem hk] at this
/-- What the journal of a drive has: f tells what it reads. -/
def foundB (f : Nat → List Int) (q : Int) : Bool :=
  headB q (f 1) && (decide (f (2 + ((f 1).drop 3).length) = [2, q, (((f 1).drop 3).length : Int)]) && plcsB ((f 1).drop 3))
def putsJ (f : Nat → List Int) : List (Int × List Int) := (List.range ((f 1).drop 3).length).map fun i => (((f 1).drop 3)[i]?.getD 0, f (2 + i))
theorem putsJ_len (f : Nat → List Int) : (putsJ f).length = ((f 1).drop 3).length := by unfold putsJ; simp
theorem putsJ_get (f : Nat → List Int) (i : Nat) (h : i < ((f 1).drop 3).length) : (putsJ f)[i]?.getD (0, []) = (((f 1).drop 3)[i]?.getD 0, f (2 + i)) := by
  unfold putsJ
  rw [List.getElem?_map, List.getElem?_range h]
  rfl
/-- ScanJournal: its code, whether a journal was found, what it has. -/
def scanR (d : DK) : Int × Bool × List (Int × List Int) :=
  if (seqR d).1 = 0 then (if foundB (fun k => atF d.1 d.2 k) (seqR d).2 = true then (0, true, putsJ fun k => atF d.1 d.2 k) else (0, false, [])) else ((seqR d).1, false, [])
theorem scanR_bad {d : DK} (h : ¬ (seqR d).1 = 0) : scanR d = ((seqR d).1, false, []) := by unfold scanR; rw [if_neg h]
theorem scanR_no {d : DK} (h : (seqR d).1 = 0) (hf : foundB (fun k => atF d.1 d.2 k) (seqR d).2 = false) : scanR d = (0, false, []) := by unfold scanR; rw [if_pos h, hf, if_neg (by simp)]
theorem scanR_yes {d : DK} (h : (seqR d).1 = 0) (hf : foundB (fun k => atF d.1 d.2 k) (seqR d).2 = true) : scanR d = (0, true, putsJ fun k => atF d.1 d.2 k) := by unfold scanR; rw [if_pos h, if_pos hf]
end Go.Proofs.Ytagmmgcdebgfnaa

namespace Go.Proofs.Ytagmmgcdebgfnaa
open Go.RowKit
set_option maxRecDepth 100000

theorem journalRow_any (w : World) (k : Nat) (hk : k ≤ 1048576) : Calls Try.prog 72 #[.int .i64 (k : Int)] w fun e w' => e = .returned (.int .i64 ((1 + k : Nat) : Int)) ∧ w' = w := by
  go_enter Try.func72, Try.ntmps72
  go_wp2
  go_ret
  exact ⟨ret_int (by go_num), rfl⟩
theorem commitRow_any (w : World) (k : Nat) (hk : k ≤ 1048575) : Calls Try.prog 70 #[.int .i64 (k : Int)] w fun e w' => e = .returned (.int .i64 ((2 + k : Nat) : Int)) ∧ w' = w := by
  have HJ : Hid (∀ W, Calls Try.prog 72 #[.int .i64 ((k : Int) + 1)] W fun e w' => e = .returned (.int .i64 ((2 + k : Nat) : Int)) ∧ w' = W) := fun W => by
    have h := journalRow_any W (k + 1) (by omega)
    rw [show 1 + (k + 1) = 2 + k by omega, Int.natCast_add k 1] at h
    exact h
  go_enter Try.func70, Try.ntmps70
  go_wp2_with fail
  refine (HJ.out _).mono ?_
  rintro e w1 ⟨rfl, rfl⟩
  go_wp2
  go_ret
  exact ⟨rfl, rfl⟩
theorem commitWords_any (w : World) (q : Int) (k : Nat) : Calls Try.prog 71 #[.int .i64 q, .int .i64 (k : Int)] w fun e w' => e = .returned (.slice (some ⟨w.heap.size, 0, none⟩) 3 3) ∧ w' = w.alloc (.cells #[.int .i64 2, .int .i64 q, .int .i64 (k : Int)] 2) := by
  go_enter Try.func71, Try.ntmps71
  go_wp2
  go_ret
  exact ⟨rfl, rfl⟩
set_option maxHeartbeats 1600000 in
theorem headWords_any (w : World) (q : Int) (a : Option Addr) (n c : Nat) (ps : List Int) (hl : ps.length = n) (hn : n ≤ 1048576) (hA : At1 w a n (fun k => .int .i64 (ps[k]?.getD 0))) :
    Calls Try.prog 96 #[.int .i64 q, .slice a n c] w fun e w' => ∃ a' c', e = .returned (.slice a' (headZ q ps).length c') ∧ Below w.heap.size w w' ∧ IntsO w' (.slice a' (headZ q ps).length c') (headZ q ps) (fresh w w') := by
  obtain ⟨v', X, hr, hw, hb, hk⟩ := append_first w w (Below.refl _ _) 1 q (n : Int) a n c ps hn hl hA
  have HR : Hid ((Builtin.append_ #[22, 22] 22 #[.slice (some ⟨w.heap.size, 0, none⟩) 3 3, .slice a n c]).run Try.prog (w.alloc (.cells #[.int .i64 1, .int .i64 q, .int .i64 (n : Int)] 2)) = .ok v' X) := hr
  have he : [1, q, (n : Int)] ++ ps = headZ q ps := by unfold headZ; rw [hl]
  rw [he] at hw
  have HW : Hid (Wds X w.heap.size v' (headZ q ps)) := hw
  have HB : Hid (Below w.heap.size w X) := hb
  have HL : Hid (0 < (headZ q ps).length) := by unfold Hid headZ; simp
  clear hr hw hb hk he hA
  go_enter Try.func96, Try.ntmps96
  go_wp2_with (at_builtin; refine wpList_append_run rfl _ _ 22 rfl _ _ rfl rfl _ _ HR.out ?_)
  go_ret
  obtain ⟨a', c', ev⟩ := HW.out.shape
  subst ev
  exact ⟨a', c', rfl, HB.out, HW.out.own HL.out (Nat.le_refl _)⟩
/-- What a drive reads has room for itself. -/
theorem read_drvC {w : World} {bd : Nat} {d : DK} (h : DrvK w bd d) (x : Nat) (hx : x < d.1.length) :
    Calls Try.prog 64 #[.pointer (some ⟨bd, 0, none⟩), .int .i64 (x : Int)] w fun e w' => ∃ a c, e = .returned (.slice a (atF d.1 d.2 x).length c) ∧ Below w.heap.size w w' ∧ IntsO w' (.slice a (atF d.1 d.2 x).length c) (atF d.1 d.2 x) (fresh w w') ∧ (atF d.1 d.2 x).length ≤ c := by
  obtain ⟨aB, cB, aP, cP, c0, c1, h1, h2⟩ := h.at'
  refine (read_cap w bd aB aP d.1.length cB d.2.length cP d.1 d.2 x hx h.g1 rfl h.g2 c0 c1 h1 h2 h.hz h.hzp).mono ?_
  rintro e w' ⟨a, n, c, rfl, hb, ho, hc⟩
  obtain ⟨_, _, ev, _⟩ := ho.reads.shape
  simp only [Value.slice.injEq] at ev
  obtain ⟨rfl, rfl, rfl⟩ := ev
  exact ⟨a, c, rfl, hb, ho, hc⟩
/-- Words from place m on. -/
theorem slice_dropZ (b o n c m : Nat) (hm : m ≤ n) (hc : n ≤ c) :
    ∃ o', (∀ W : World, (Instr.slice 22 (.slice (some ⟨b, o, none⟩) n c) (some (.int .i64 (m : Int))) none none).run Try.prog W = .ok (.slice (some ⟨b, o', none⟩) (n - m) (c - m)) W) ∧ (m < n → o' = o + m) := by
  obtain ⟨i, hi, _, h2, _⟩ := Try.infoInt'
  refine ⟨if c = m then o else o + m, fun W => ?_, fun h => by rw [if_neg (by omega)]⟩
  simp [Instr.slice, Instr.sliceBounds, Instr.sliceBound, asIntOf, run_underlying Try.underlying22, sizeOf, typeInfo, hi, h2]
  rw [if_pos hm]
  split <;> simp [Addr.add]
theorem At1.dropZ {w : World} {b o o' n m : Nat} {zs : List Int} (h : At1 w (some ⟨b, o, none⟩) n (fun k => .int .i64 (zs[k]?.getD 0))) (ho : m < n → o' = o + m) : At1 w (some ⟨b, o', none⟩) (n - m) (fun k => .int .i64 ((zs.drop m)[k]?.getD 0)) := fun k hk => by
  have e := ho (by omega)
  subst e
  obtain ⟨b', o', e, h1⟩ := h (m + k) (by omega)
  simp only [Option.some.injEq, Addr.mk.injEq, and_true] at e
  obtain ⟨rfl, rfl⟩ := e
  refine ⟨b, o + m, rfl, ?_⟩
  dsimp only at h1 ⊢
  rw [List.getElem?_drop, Nat.add_assoc]
  exact h1
end Go.Proofs.Ytagmmgcdebgfnaa
