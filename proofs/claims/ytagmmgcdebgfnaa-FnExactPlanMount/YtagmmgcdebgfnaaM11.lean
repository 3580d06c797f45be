/- The program's LinksOf. The program: links and places. The specification: what is wrong of a file system. The program: how many bytes each block has to hold; what is wrong of a file system. Bytes and lists of bytes are marked, and the marks are held. A file system is copied. File systems are marked; answers that hold bytes. The bytes of a file: the specification. The puts of a file system's inodes: the specification. ScanJournal: the program. What 'append' and 'copy' of entries come to. Rows of inodes that grow by append, each with lists of its own; rows of inodes copied. Lists of inodes are marked, and the marks are held. Lists of lists of bytes, and file systems: the marks are held. Answers that hold a file system: compared, marked, held. The specification's copying of an inode and of a file system. -/
import Derived.Test.YtagmmgcdebgfnaaM10
import Derived.Test.YtagmmgcdebgfnaaM08
import Derived.Deep.RegionHeld3
import Derived.Test.YtagmmgcdebgfnaaM09
import Derived.Test.YtagmmgcdebgfnaaM06
import Derived.Test.YtagmmgcdebgfnaaM02
import Derived.Test.YtagmmgcdebgfnaaM03
import Derived.Test.YtagmmgcdebgfnaaM07
import Derived.Deep.Cut
import Derived.Deep.CutRange
import Derived.Test.YtagmmgcdebgfnaaM04
import Derived.Test.YtagmmgcdebgfnaaM05
import Derived.Test.YtagmmgcdebgfnaaM01
namespace Go.Proofs.Ytagmmgcdebgfnaa
open Go.RowKit Go.Maps
set_option maxRecDepth 100000

theorem field_intR (z v : Int) (w : World) : (Instr.field 34 (.agg #[.int .i64 z, .int .i64 v]) 1).run Try.prog w = .ok (.int .i64 v) w := by rfl
def treeF (ds : List ID) : Int := if linksB ds then 0 else 1

theorem map_zero {ds : List ID} {m : Int → Int} (hr : inRange ds) (h0 : 0 < ds.length) (hp : ∀ i : Nat, 0 < m (i : Int) ↔ RP (entsOf ds) i) (hnn : ∀ x, 0 ≤ m x) (j : Nat) : (m (j : Int) == 0) = !reachG ds ds.length j := by
  cases hg : reachG ds ds.length j with
  | true =>
    have := (hp j).2 ((reachG_iff hr h0 j).1 hg)
    simp; omega
  | false =>
    have h1 : ¬ 0 < m (j : Int) := fun h => by
      have := (reachG_iff hr h0 j).2 ((hp j).1 h)
      rw [hg] at this; cases this
    have := hnn (j : Int)
    simp; omega
end Go.Proofs.Ytagmmgcdebgfnaa

namespace Go.Proofs.Ytagmmgcdebgfnaa
open Go.RowKit
set_option maxRecDepth 100000

def fsF (d : FD) : Int := if fsE d = 0 then (if linksB d.1 && sizesB d then 0 else 1) else fsE d
theorem fsE_zero {d : FD} (h : fsE d = 0) : insF d.1 = 0 ∧ formB d = false ∧ fstNZ (manyF d.2) d.2.length = 0 ∧ onceB d.1 20 = true ∧ lostF d.1 = 0 := by
  unfold fsE at h
  by_cases h1 : insF d.1 = 0
  · rw [if_pos h1] at h
    by_cases h2 : formB d = true
    · rw [if_pos h2] at h; omega
    · rw [if_neg h2] at h
      by_cases h3 : fstNZ (manyF d.2) d.2.length = 0
      · rw [if_pos h3] at h
        by_cases h4 : onceB d.1 20 = true
        · rw [if_pos h4] at h
          exact ⟨h1, by simpa using h2, h3, h4, h⟩
        · rw [if_neg h4] at h; omega
      · rw [if_neg h3] at h; exact absurd h h3
  · rw [if_neg h1] at h; exact absurd h h1
theorem formB_no {d : FD} (h : formB d = false) : ¬ d.1.length = 0 ∧ kindAt d.1 0 = 2 ∧ d.2.length = 20 := by
  unfold formB at h
  simp at h
  obtain ⟨⟨h1, h2⟩, h3⟩ := h
  exact ⟨fun e => h1 (List.eq_nil_of_length_eq_zero e), h2, h3⟩
theorem insF_ten {ds : List ID} (h : insF ds = 0) : ds.length ≤ 10 := by
  unfold insF at h
  by_cases h1 : 10 < ds.length
  · rw [if_pos h1] at h; omega
  · omega
theorem lost_in {ds : List ID} (hi : insF ds = 0) (h : lostF ds = 0) : ∀ j, j < ds.length → ∀ k, k < (ds[j]?.getD id0).2.2.2.2.length → 0 ≤ ((ds[j]?.getD id0).2.2.2.2[k]?.getD en0).2 ∧ ((ds[j]?.getD id0).2.2.2.2[k]?.getD en0).2 < (ds.length : Int) := fun j hj k hk => by
  refine ⟨ino_ent (ins_ino hi j hj) k hk, ?_⟩
  cases hl : lostB ds ((ds[j]?.getD id0).2.2.2.2[k]?.getD en0).2 with
  | true => rw [lost_yes hj hk hl] at h; omega
  | false =>
    unfold lostB at hl
    simp at hl
    omega
theorem ins_blk {ds : List ID} (h : insF ds = 0) (j k : Nat) (hj : j < ds.length) (hk : k < (ds[j]?.getD id0).2.2.2.1.length) : 0 ≤ (ds[j]?.getD id0).2.2.2.1[k]?.getD 0 ∧ (ds[j]?.getD id0).2.2.2.1[k]?.getD 0 < 20 := by
  have := insF_blocks h j k hj hk
  omega

theorem FsX.box {w : World} {a1 : Option Addr} {n1 c1 : Nat} {a2 : Option Addr} {n2 c2 : Nat} {d : FD} (h : FsR w (.slice a1 n1 c1) (.slice a2 n2 c2) d) (t : TypeId) : FsX (w.alloc (.cells #[.slice a1 n1 c1, .slice a2 n2 c2] t)) w.heap.size 0 d a1 c1 a2 c2 ∧ n1 = d.1.length ∧ n2 = d.2.length := by
  obtain ⟨_, _, e1, _, _⟩ := h.1.open'
  obtain ⟨_, _, e2, _, _⟩ := h.2.open'
  simp only [Value.slice.injEq] at e1 e2
  obtain ⟨rfl, rfl, rfl⟩ := e1
  obtain ⟨rfl, rfl, rfl⟩ := e2
  have hx := Bx.new w [.slice a1 d.1.length c1, .slice a2 d.2.length c2] t
  exact ⟨⟨hx 0 _ rfl, hx 1 _ rfl, h.1.later (later1 _ _), h.2.later (later1 _ _)⟩, rfl, rfl⟩
end Go.Proofs.Ytagmmgcdebgfnaa

namespace Go.Proofs.Ytagmmgcdebgfnaa
open Go.RowKit
set_option maxRecDepth 100000

/-- An array that holds a number for each block. -/
def arrI (f : Nat → Int) : Array Value := ((List.range 20).map fun i => intV (f i)).toArray
theorem arrI_size (f : Nat → Int) : (arrI f).size = 20 := by simp [arrI]
theorem arrI_get (f : Nat → Int) {i : Nat} (h : i < 20) : (arrI f)[i]? = some (.int .i64 (f i)) := by
  simp [arrI, h, intV]
theorem arrI_set (f : Nat → Int) (q : Nat) (x : Int) : (arrI f).setIfInBounds q (.int .i64 x) = arrI (fun i => if i = q then x else f i) := by
  apply Array.ext_getElem?
  intro i
  rw [Array.getElem?_setIfInBounds]
  by_cases hi : i < 20
  · rw [arrI_get _ hi, arrI_get _ hi, arrI_size]
    by_cases e : q = i
    · subst e; simp [hi]
    · rw [if_neg e, if_neg (fun h => e h.symm)]
  · have h1 : (arrI f)[i]? = none := by rw [Array.getElem?_eq_none_iff, arrI_size]; omega
    have h2 : (arrI (fun i => if i = q then x else f i))[i]? = none := by rw [Array.getElem?_eq_none_iff, arrI_size]; omega
    rw [h1, h2, arrI_size]
    by_cases e : q = i
    · subst e; simp [hi]
    · rw [if_neg e]
theorem arrI_one (f : Nat → Int) : (arrI f).all (·.oneCell') = true := by
  unfold arrI
  rw [Array.all_eq_true_iff_forall_mem]
  intro v hv
  simp only [List.mem_toArray, List.mem_map] at hv
  obtain ⟨i, _, rfl⟩ := hv
  rfl
theorem m8_left {s : Int} {nB k : Nat} (hn : ((nB : Nat) : Int) = (s + 7) / 8) (hk : k + 1 < nB) : s - 8 * (k : Int) - m8 (s - 8 * (k : Int)) = s - 8 * ((k + 1 : Nat) : Int) := by
  unfold m8
  rw [if_pos (by omega)]
  omega
def bytF (d : FD) : Int := if sizesB d then 0 else 1
/-- The program's codes up to entries are the specification's. -/
theorem fsE_eq (d : FD) : fsE d = if insF d.1 = 0 then (if d.1.length = 0 ∨ ¬ kindAt d.1 0 = 2 then 1 else if dataF d = 0 then lostF d.1 else dataF d) else insF d.1 := by
  unfold fsE dataF formB
  by_cases h1 : insF d.1 = 0
  · rw [if_pos h1, if_pos h1]
    by_cases h2 : d.1.length = 0 ∨ ¬ kindAt d.1 0 = 2
    · rw [if_pos h2, if_pos (by rcases h2 with h | h <;> simp [h])]
    · rw [if_neg h2]
      have h2a : ¬ d.1.length = 0 := fun e => h2 (Or.inl e)
      have h2b : kindAt d.1 0 = 2 := Classical.byContradiction fun e => h2 (Or.inr e)
      by_cases h3 : d.2.length = 20
      · rw [if_neg (by simp [h2b, h3]; intro e; exact h2a (by rw [e]; rfl)), if_pos h3]
        by_cases h4 : fstNZ (manyF d.2) d.2.length = 0
        · rw [if_pos h4]
          by_cases h5 : onceB d.1 20 = true
          · rw [if_pos h5]; simp [h4, h5]
          · rw [if_neg h5]; simp [h4, h5]
        · rw [if_neg h4, if_neg h4, if_neg h4]
      · rw [if_pos (by simp [h3]), if_neg h3]; simp
  · rw [if_neg h1, if_neg h1]
/-- What is wrong of inodes and of their top. -/
def topF (ds : List ID) : Int := if insF ds = 0 then (if ds.length = 0 ∨ ¬ kindAt ds 0 = 2 then 1 else 0) else insF ds
theorem fsE_top (d : FD) : fsE d = if topF d.1 = 0 then (if dataF d = 0 then lostF d.1 else dataF d) else topF d.1 := by
  rw [fsE_eq]; unfold topF
  by_cases h1 : insF d.1 = 0
  · rw [if_pos h1, if_pos h1]
    by_cases h2 : d.1.length = 0 ∨ ¬ kindAt d.1 0 = 2
    · rw [if_pos h2, if_pos h2, if_neg (by decide)]
    · rw [if_neg h2, if_neg h2, if_pos rfl]
  · rw [if_neg h1, if_neg h1, if_neg h1]
theorem top_ins {ds : List ID} (h : topF ds = 0) : insF ds = 0 := by
  unfold topF at h
  by_cases h1 : insF ds = 0
  · exact h1
  · simp [h1] at h
theorem range_of {ds : List ID} (hi : insF ds = 0) (h : lostF ds = 0) : inRange ds := fun i hil x hx => by
  unfold entsOf entI at hx
  obtain ⟨e, he, rfl⟩ := List.mem_map.1 hx
  obtain ⟨k, hk, hke⟩ := List.getElem_of_mem he
  have := lost_in hi h i hil k hk
  rw [List.getElem?_eq_getElem hk, Option.getD_some, hke] at this
  exact this
theorem six_of {ds : List ID} (hi : insF ds = 0) (i : Nat) : (entsOf ds i).length ≤ 6 := by
  rw [entsOf_len]
  by_cases h : i < ds.length
  · exact ino_six (ins_ino hi i h)
  · rw [List.getElem?_eq_none (by omega)]; simp [id0]
end Go.Proofs.Ytagmmgcdebgfnaa

namespace Go.Proofs.Ytagmmgcdebgfnaa
open Go.RowKit
set_option maxRecDepth 100000

/-- The marks of n bytes from k on. -/
def marksY (k n : Nat) : List UInt8 := (List.range n).map fun i => UInt8.ofNat (k + i)
theorem marksY_length (k n : Nat) : (marksY k n).length = n := by simp [marksY]
theorem marksY_get (k : Nat) {n i : Nat} (h : i < n) : (marksY k n)[i]?.getD 0 = UInt8.ofNat (k + i) := by
  unfold marksY; rw [List.getElem?_map, List.getElem?_range h]; rfl
theorem u8_ofNat (k : Nat) : (((UInt8.ofNat k).toNat : Nat) : Int) = (k : Int) % 256 := by
  rw [UInt8.toNat_ofNat']; omega

def mkByt (k : Int) (zs : List UInt8) : List UInt8 := marksY k.toNat zs.length
theorem mkByt_length (k : Int) (zs : List UInt8) : (mkByt k zs).length = zs.length := marksY_length _ _
end Go.Proofs.Ytagmmgcdebgfnaa

namespace Go.Proofs.Ytagmmgcdebgfnaa
open Go.RowKit
set_option maxRecDepth 100000

theorem InoU.bound {w : World} {v0 v1 v2 vB vE : Value} {d : ID} {F : Nat → Prop} (h : InoU w v0 v1 v2 vB vE d F) : InoU w v0 v1 v2 vB vE d (fun b => F b ∧ b < w.heap.size) := by
  obtain ⟨h0, F1, G1, h1, h2, hd, hf⟩ := h
  exact ⟨h0, _, _, h1.bound, h2.bound, fun b hb hb' => hd b hb.1 hb'.1, fun b hb => by
    rcases hb with hb | hb
    · exact ⟨hf b (Or.inl hb.1), hb.2⟩
    · exact ⟨hf b (Or.inr hb.1), hb.2⟩⟩
theorem InosO.bound {w : World} {v : Value} {ds : List ID} {F : Nat → Prop} (h : InosO w v ds F) : InosO w v ds (fun b => F b ∧ b < w.heap.size) := by
  rcases h with h | ⟨b, cap, u, G, hF, hG, hGG, h1, h2, h3, h4⟩
  · exact Or.inl h
  · exact Or.inr ⟨b, cap, u, fun i c => G i c ∧ c < w.heap.size, ⟨hF, h3.lt⟩, fun i c hc => ⟨⟨(hG i c hc.1).1, hc.2⟩, (hG i c hc.1).2⟩, fun i j c e hc hc' => hGG i j c e hc.1 hc'.1, h1, h2, h3, fun i hi => (h4 i hi).bound⟩
/-- Answers that are a code and bytes. -/
def AnsYR (w : World) (r : Int × List UInt8) (e : Ending) (w' : World) : Prop := ∃ a n c, e = .returned (.agg #[.int .i64 r.1, .slice a n c]) ∧ Below w.heap.size w w' ∧ BytO w' (.slice a n c) r.2 (fresh w w')
/-- Bytes in memory that the call made since n₀. -/
def WdY (w : World) (n₀ : Nat) (v : Value) (zs : List UInt8) : Prop := w.ownsRow n₀ 5 1 v zs.length (zs.map byteV)
theorem WdY.later {w w' : World} {n₀ : Nat} {v : Value} {zs : List UInt8} (h : WdY w n₀ v zs) (hb : Below w.heap.size w w') : WdY w' n₀ v zs := ownsRow_later h hb
theorem WdY.shape {w : World} {n₀ : Nat} {v : Value} {zs : List UInt8} (h : WdY w n₀ v zs) : ∃ a c, v = .slice a zs.length c := ownsRow_shape h
theorem WdY.nil (w : World) (n₀ : Nat) : WdY w n₀ (.slice none 0 0) [] := ⟨by simp, Or.inl ⟨rfl, rfl⟩⟩
theorem WdY.lit0 (w : World) (n₀ : Nat) (h : n₀ ≤ w.heap.size) : WdY (w.alloc (.cells #[] 5)) n₀ (.slice (some ⟨w.heap.size, 0, none⟩) 0 0) [] := by
  have := World.ownsRow_lit (e := 5) (size := 1) w (#[] : Array Value) 0 h (by unfold maxLen; omega) (by simp)
  simpa [WdY] using this
theorem WdY.own {w w0 : World} {n₀ : Nat} {v : Value} {zs : List UInt8} (h : WdY w n₀ v zs) (hn : w0.heap.size ≤ n₀) : BytO w v zs (fresh w0 w) := by
  obtain ⟨hl, h | ⟨g, cap, cur, rfl, hb, hh, hnc, hcm, hcs, htake⟩⟩ := h
  · exact Or.inl ⟨List.eq_nil_of_length_eq_zero h.2, _, _, by rw [h.1]⟩
  · refine Or.inr ⟨g, cap, ⟨by omega, (Array.getElem?_eq_some_iff.1 hh).1⟩, rfl, ⟨by omega, hnc⟩, cur, 5, hh, by omega, fun i hi => ?_⟩
    rw [Nat.mul_one] at htake
    have h1 : (zs.map byteV)[i]? = cur[i]? := by rw [← htake, List.getElem?_take, if_pos hi, Array.getElem?_toList]
    rw [← h1, List.getElem?_map, List.getElem?_eq_getElem hi]
    simp [List.getElem?_eq_getElem hi, byteV]
theorem Try.infoByte' : ∃ i, Try.prog.info? 5 = some i ∧ i.zero = some (.int .u8 0) ∧ i.size = 1 ∧ i.bytes = 1 := by
  have h : (Try.prog.info? 5).map (fun i => (i.zero, i.size, i.bytes)) = some (some (.int .u8 0), 1, 1) := by kernel_rfl
  obtain ⟨i, hi, h⟩ := Option.map_eq_some_iff.1 h
  simp only [Prod.mk.injEq] at h
  exact ⟨i, hi, h.1, h.2.1, h.2.2⟩
end Go.Proofs.Ytagmmgcdebgfnaa

namespace Go.Proofs.Ytagmmgcdebgfnaa
open Go.RowKit
set_option maxRecDepth 100000

/-- The bytes of the first k blocks of an inode. -/
def bytK (d : FD) (bs : List Int) (k : Nat) : List UInt8 := (bs.take k).flatMap fun b => d.2[b.toNat]?.getD []
def bytL (d : FD) (j : Nat) : List UInt8 := bytK d (d.1[j]?.getD id0).2.2.2.1 (d.1[j]?.getD id0).2.2.2.1.length
def bytR (d : FD) (x : Int) : Int × List UInt8 :=
  if fsF d = 0 then (if 0 ≤ x ∧ x < (d.1.length : Int) then (if kindAt d.1 x.toNat = 2 then (9, []) else if kindAt d.1 x.toNat = 0 then (4, []) else (0, bytL d x.toNat)) else (3, [])) else (fsF d, [])
theorem bytK_next (d : FD) (bs : List Int) (k : Nat) (hk : k < bs.length) : bytK d bs (k + 1) = bytK d bs k ++ (d.2[(bs[k]?.getD 0).toNat]?.getD []) := by
  unfold bytK
  rw [List.take_succ_eq_append_getElem hk, List.flatMap_append]
  simp [List.getElem?_eq_getElem hk]
theorem bytK_len (d : FD) (bs : List Int) (h8 : ∀ i : Nat, (d.2[i]?.getD []).length ≤ 8) : ∀ k, k ≤ bs.length → (bytK d bs k).length ≤ 8 * k
  | 0, _ => by simp [bytK]
  | k + 1, hk => by
    rw [bytK_next d bs k hk, List.length_append]
    have h1 := bytK_len d bs h8 k (by omega)
    have h2 := h8 (bs[k]?.getD 0).toNat
    omega
theorem many_eight {zss : List (List UInt8)} (h : fstNZ (manyF zss) zss.length = 0) (i : Nat) : (zss[i]?.getD []).length ≤ 8 := by
  by_cases hi : i < zss.length
  · have := fstNZ_inv h i hi
    unfold manyF at this
    by_cases h8 : 8 < (zss[i]?.getD []).length
    · rw [if_pos h8] at this; omega
    · omega
  · rw [List.getElem?_eq_none (by omega)]; simp

theorem AnsYR.put {w W : World} {rb : Nat} {r : Int} {zs : List UInt8} {a : Option Addr} {n c : Nat} (hB : Below w.heap.size w W) (hrb : w.heap.size ≤ rb) (hY : BytO W (.slice a n c) zs (fun b => rb < b ∧ b < W.heap.size)) (x y : Value) : AnsYR w (r, zs) (.returned (.agg #[.int .i64 r, .slice a n c])) ((W.setCell ⟨rb, 0, none⟩ x).setCell ⟨rb, 1, none⟩ y) := by
  refine ⟨a, n, c, rfl, (hB.setCell (by simpa using hrb) _).setCell (by simpa using hrb) _, (hY.keep fun b hb _ => ?_).mono fun b hb => ?_⟩
  · rw [Below.heap_setCell _ _ _ _ (by simp; omega), Below.heap_setCell _ _ _ _ (by simp; omega)]
  · unfold fresh
    simp only [World.setCell, Array.size_modify]
    exact ⟨by omega, hb.2⟩
theorem AnsYR.bad {w W : World} {rb : Nat} (r : Int) (hB : Below w.heap.size w W) (hrb : w.heap.size ≤ rb) (x y : Value) : AnsYR w (r, []) (.returned (.agg #[.int .i64 r, .slice none 0 0])) ((W.setCell ⟨rb, 0, none⟩ x).setCell ⟨rb, 1, none⟩ y) := AnsYR.put hB hrb (Or.inl ⟨rfl, _, _, rfl⟩) x y
theorem fsF_zero {d : FD} (h : fsF d = 0) : fsE d = 0 := by
  unfold fsF at h
  by_cases he : fsE d = 0
  · exact he
  · rw [if_neg he] at h; exact absurd h he

end Go.Proofs.Ytagmmgcdebgfnaa

namespace Go.Proofs.Ytagmmgcdebgfnaa
open Go.RowKit
set_option maxRecDepth 100000

def inoW (ds : List ID) (i : Nat) : List Int := if i < ds.length then packL (ds[i]?.getD id0) else []
def inoPuts (ds : List ID) : List (Int × List Int) := (List.range 10).map fun i : Nat => (17 + (i : Int), inoW ds i)
theorem inoPuts_get (ds : List ID) {i : Nat} (hi : i < 10) : (inoPuts ds)[i]?.getD (0, []) = (17 + (i : Int), inoW ds i) := by
  unfold inoPuts
  rw [List.getElem?_map, List.getElem?_range hi]
  rfl
theorem inoPuts_len (ds : List ID) : (inoPuts ds).length = 10 := by simp [inoPuts]
/-- What 'append' of one put comes to. -/
theorem append_putG (w w1 : World) (base n : Nat) (v : Value) (x : Nat → Int × List Int) (u : Nat → List Value) (G : Nat → Nat → Prop) (h : GRow PutP w base 100 2 v n x u G) (hb : base ≤ w.heap.size) (hn : n ≤ 1048600) (hb1 : Below w.heap.size w w1)
    (at_ : Int) (a : Option Addr) (m c : Nat) (ws : List Int) (hx : x n = (at_, ws)) (F : Nat → Prop) (hF : ∀ c, F c → w.heap.size ≤ c ∧ c < w1.heap.size) (hm : m = ws.length) (hf : IntsO w1 (.slice a m c) ws F) (B : Nat) (hB : w1.heap.size = B) :
    ∃ g cap X u' G', (Builtin.append_ #[47, 47] 47 #[v, .slice (some ⟨B, 0, none⟩) 1 1]).run Try.prog (w1.alloc (.cells #[.int .i64 at_, .slice a m c] 100)) = .ok (.slice (some ⟨g, 0, none⟩) (n + 1) cap) X ∧
      Below base w X ∧ w1.heap.size < X.heap.size ∧ GRow PutP X base 100 2 (.slice (some ⟨g, 0, none⟩) (n + 1) cap) (n + 1) x u' G' ∧ (∀ b, b < w1.heap.size → v.ownBlock ≠ some b → X.heap[b]? = w1.heap[b]? ∧ g ≠ b) := by
  subst hm
  subst hB
  obtain ⟨i, hi, i1, i2, i3⟩ := Try.infoPut'
  exact GRow.append PutP.steady w w1 47 47 100 i _ 2 32 Try.underlying47 hi i1 i2 i3 rfl (by decide) (by decide) base n v x u G h hb hn hb1 [.int .i64 at_, .slice a ws.length c] rfl (fun y hy => by
    simp only [List.mem_cons, List.not_mem_nil, or_false] at hy
    rcases hy with rfl | rfl <;> rfl) F hF ⟨a, c, by rw [hx], by rw [hx]; exact hf⟩

end Go.Proofs.Ytagmmgcdebgfnaa

namespace Go.Proofs.Ytagmmgcdebgfnaa
open Go.RowKit
set_option maxRecDepth 100000

theorem jrn_len {q : Int} {zs : List Int} (h : jrnB q zs = true) : 3 ≤ zs.length ∧ zs.length ≤ 13 := by
  unfold jrnB at h
  rw [Bool.and_eq_true] at h
  obtain ⟨h1, h2, h3⟩ := headB_len h.1
  rw [List.length_drop] at h3
  exact ⟨h1, by omega⟩
theorem lit3_ints (w : World) (x y z : Int) : Ints (w.alloc (.cells #[.int .i64 x, .int .i64 y, .int .i64 z] 2)) (.slice (some ⟨w.heap.size, 0, none⟩) 3 3) [x, y, z] := (Wds.own (Wds.lit w w.heap.size (Nat.le_refl _) [x, y, z] #[.int .i64 x, .int .i64 y, .int .i64 z] rfl 3 rfl (by omega)) (by simp) (Nat.le_refl _)).reads
theorem found_no {f : Nat → List Int} {q : Int} (h : jrnB q (f 1) = false) : foundB f q = false := by
  unfold jrnB at h
  unfold foundB
  cases h1 : headB q (f 1) with
  | false => rfl
  | true =>
    rw [h1, Bool.true_and] at h
    rw [h, Bool.and_false]; rfl
theorem found_eq {f : Nat → List Int} {q : Int} (h : jrnB q (f 1) = true) : foundB f q = decide (f (2 + ((f 1).length - 3)) = [2, q, (((f 1).length - 3 : Nat) : Int)]) := by
  unfold jrnB at h
  rw [Bool.and_eq_true] at h
  unfold foundB
  rw [h.1, h.2, Bool.true_and, Bool.and_true, List.length_drop]

set_option maxHeartbeats 3200000 in
theorem implScanU (w : World) (a1 : Option Addr) (n1 c1 : Nat) (a2 : Option Addr) (n2 c2 : Nat) (d : DK) (h : DiskR w (.slice a1 n1 c1) (.slice a2 n2 c2) d) (hs : sizeDisk d ≤ 1048576) :
    Calls Try.prog 26 #[.agg #[.slice a1 n1 c1, .slice a2 n2 c2]] w fun e w' => ∃ a n c, e = .returned (.agg #[.int .i64 (scanR d).1, .bool (scanR d).2.1, .slice a n c]) ∧ Below w.heap.size w w' ∧ PutsO w' (.slice a n c) (scanR d).2.2 (fresh w w') := by
  have HF : Hid (∀ W, Below w.heap.size w W → Calls Try.prog 23 #[.agg #[.slice a1 n1 c1, .slice a2 n2 c2]] W fun e w' => e = .returned (.agg #[.int .i64 (seqR d).1, .int .i64 (seqR d).2]) ∧ Below W.heap.size W w') := fun W hW => implSeqU W _ _ _ _ _ _ d (h.later hW) hs
  have HO : Hid ((seqR d).1 = 0 → ∀ W, Below w.heap.size w W → Calls Try.prog 63 #[.agg #[.slice a1 n1 c1, .slice a2 n2 c2]] W fun e w' => ∃ bd, e = .returned (.pointer (some ⟨bd, 0, none⟩)) ∧ Below W.heap.size W w' ∧ DrvK w' bd d) := fun hf W hW => open_drv (h.later hW) (sizF_zero (seqR_zero hf).1).1 hs
  have HBAD : Hid (¬ (seqR d).1 = 0 → scanR d = ((seqR d).1, false, [])) := scanR_bad
  have HBN : Hid ((seqR d).1 = 0 → d.1.length = 47) := fun h0 => (sizF_zero (seqR_zero h0).1).2
  have HNO : Hid ((seqR d).1 = 0 → foundB (fun k => atF d.1 d.2 k) (seqR d).2 = false → scanR d = (0, false, [])) := scanR_no
  have HYES : Hid ((seqR d).1 = 0 → foundB (fun k => atF d.1 d.2 k) (seqR d).2 = true → scanR d = (0, true, putsJ fun k => atF d.1 d.2 k)) := scanR_yes
  clear h
  generalize (seqR d).1 = r at *
  generalize (seqR d).2 = q at *
  generalize scanR d = RES at *
  have HB0 : Hid (Below w.heap.size w ((w.alloc (.cells #[.slice a1 n1 c1, .slice a2 n2 c2] 49)).alloc (.cells #[.int .i64 0, .bool false, .slice none 0 0] 54))) := later2 _ _ _
  have HX0 : Hid (Bx ((w.alloc (.cells #[.slice a1 n1 c1, .slice a2 n2 c2] 49)).alloc (.cells #[.int .i64 0, .bool false, .slice none 0 0] 54)) (w.heap.size) [.slice a1 n1 c1, .slice a2 n2 c2]) := (Bx.new w [.slice a1 n1 c1, .slice a2 n2 c2] _).later (later1 _ _)
  have HR0 : Hid (OwnRow ((w.alloc (.cells #[.slice a1 n1 c1, .slice a2 n2 c2] 49)).alloc (.cells #[.int .i64 0, .bool false, .slice none 0 0] 54)) (w.heap.size + 1) 3 (cel [.int .i64 0, .bool false, .slice none 0 0])) := (show OwnRow ((w.alloc (.cells #[.slice a1 n1 c1, .slice a2 n2 c2] 49)).alloc (.cells #[.int .i64 0, .bool false, .slice none 0 0] 54)) (w.heap.size + 1) 3 (cel [.int .i64 0, .bool false, .slice none 0 0]) from by have := newCel (w.alloc (.cells #[.slice a1 n1 c1, .slice a2 n2 c2] 49)) [.int .i64 0, .bool false, .slice none 0 0] 54; rw [World.size_alloc] at this; exact this)
  go_enter Try.func26, Try.ntmps26
  have xHX0 := HX0.out 0 _ rfl
  have xHX1 := HX0.out 1 _ rfl
  go_wp2_with fail
  clear xHX0 xHX1
  refine (HF.out _ HB0.out).mono ?_
  rintro e w1 ⟨rfl, hb⟩
  have hb' : Below ((w.alloc (.cells #[.slice a1 n1 c1, .slice a2 n2 c2] 49)).alloc (.cells #[.int .i64 0, .bool false, .slice none 0 0] 54)).heap.size ((w.alloc (.cells #[.slice a1 n1 c1, .slice a2 n2 c2] 49)).alloc (.cells #[.int .i64 0, .bool false, .slice none 0 0] 54)) (w1.alloc (.cells #[.int .i64 r, .int .i64 q] 34)) := hb.trans ((later1 _ _).mono hb.size)
  have HB1 : Hid (Below w.heap.size w (w1.alloc (.cells #[.int .i64 r, .int .i64 q] 34))) := HB0.out.trans (hb'.mono HB0.out.size)
  have HX1 : Hid (Bx (w1.alloc (.cells #[.int .i64 r, .int .i64 q] 34)) (w.heap.size) [.slice a1 n1 c1, .slice a2 n2 c2]) := HX0.out.later hb'
  have HR1 : Hid (OwnRow (w1.alloc (.cells #[.int .i64 r, .int .i64 q] 34)) (w.heap.size + 1) 3 (cel [.int .i64 0, .bool false, .slice none 0 0])) := HR0.out.later hb'
  clear hb hb'
  have HQ1 : Hid (Bx (w1.alloc (.cells #[.int .i64 r, .int .i64 q] 34)) w1.heap.size [.int .i64 r, .int .i64 q]) := Bx.new w1 [.int .i64 r, .int .i64 q] _
  by_cases hf : r = 0
  · skip
    replace HO : Hid _ := HO.out hf
    replace HBN : Hid _ := HBN.out hf
    replace HNO : Hid _ := HNO.out hf
    replace HYES : Hid _ := HYES.out hf
    clear HBAD HF
    subst hf
    have xHX0 := HX1.out 0 _ rfl
    have xHX1 := HX1.out 1 _ rfl
    have xHQ0 := HQ1.out 0 _ rfl
    have xHQ1 := HQ1.out 1 _ rfl
    go_wp2_with fail
    clear xHX0 xHX1 xHQ0 xHQ1
    refine (HO.out _ HB1.out).mono ?_
    rintro e w2 ⟨bd, rfl, hb, hdk⟩
    have HDK : Hid (DrvK w2 bd d) := hdk
    clear hdk
    have HB2 : Hid (Below w.heap.size w w2) := HB1.out.trans (hb.mono HB1.out.size)
    have HX2 : Hid (Bx w2 (w.heap.size) [.slice a1 n1 c1, .slice a2 n2 c2]) := HX1.out.later hb
    have HR2 : Hid (OwnRow w2 (w.heap.size + 1) 3 (cel [.int .i64 0, .bool false, .slice none 0 0])) := HR1.out.later hb
    have HQ2 : Hid (Bx w2 w1.heap.size [.int .i64 0, .int .i64 q]) := HQ1.out.later hb
    clear hb
    have HRD : Hid (∀ W, Below w2.heap.size w2 W → Calls Try.prog 64 #[.pointer (some ⟨bd, 0, none⟩), .int .i64 1] W fun e w' => ∃ a c, e = .returned (.slice a (atF d.1 d.2 1).length c) ∧ Below W.heap.size W w' ∧ IntsO w' (.slice a (atF d.1 d.2 1).length c) (atF d.1 d.2 1) (fresh W w') ∧ (atF d.1 d.2 1).length ≤ c) := fun W hW => read_drvC (HDK.out.later hW) 1 (by have := HBN.out; omega)
    have HPL : Hid (∀ W a c, (atF d.1 d.2 1).length ≤ c → Ints W (.slice a (atF d.1 d.2 1).length c) (atF d.1 d.2 1) → Calls Try.prog 68 #[.slice a (atF d.1 d.2 1).length c, .int .i64 q] W fun e w' => Below W.heap.size W w' ∧ ((jrnB q (atF d.1 d.2 1) = false ∧ e = .returned (.tuple #[.slice none 0 0, .bool false])) ∨ (jrnB q (atF d.1 d.2 1) = true ∧ ∃ b o' c', e = .returned (.tuple #[.slice (some ⟨b, o', none⟩) ((atF d.1 d.2 1).length - 3) c', .bool true]) ∧ At1 W (some ⟨b, o', none⟩) ((atF d.1 d.2 1).length - 3) (fun k => .int .i64 (((atF d.1 d.2 1).drop 3)[k]?.getD 0))))) := fun W a c hc hv => placesIn_any W a c q _ (atF_len HDK.out.hz HDK.out.hzp) hc hv
    cases hj : jrnB q (atF d.1 d.2 1) with
    | false =>
      replace HPL : Hid (∀ W a c, (atF d.1 d.2 1).length ≤ c → Ints W (.slice a (atF d.1 d.2 1).length c) (atF d.1 d.2 1) → Calls Try.prog 68 #[.slice a (atF d.1 d.2 1).length c, .int .i64 q] W fun e w' => e = .returned (.tuple #[.slice none 0 0, .bool false]) ∧ Below W.heap.size W w') := fun W a c h1 h2 => (HPL.out W a c h1 h2).mono fun e w' ⟨h3, h4⟩ => by
        rcases h4 with ⟨_, h5⟩ | ⟨h5, _⟩
        · exact ⟨h5, h3⟩
        · rw [hj] at h5; exact absurd h5 (by decide)
      have xHQ0 := HQ2.out 0 _ rfl
      have xHQ1 := HQ2.out 1 _ rfl
      go_wp2_with fail
      have HE : Hid (RES = (0, false, [])) := HNO.out (found_no hj)
      clear HNO HYES HO HDK HBN
      go_region_with (first | (go_at_call 64; refine (HRD.out _ (Below.refl _ _).drew).mono ?_; rintro e w3 ⟨az, cz, rfl, hb3, ho3, hc3⟩; have d1 := cell_later hb3 xHQ1) | (go_at_call 68; refine (HPL.out _ _ _ hc3 ho3.reads).mono ?_; rintro e w4 ⟨rfl, hb4⟩))
      all_goals
        have hb3' : Below w2.heap.size w2 w3 := (Below.refl _ _).drew.trans hb3
        have hb : Below w2.heap.size w2 w4 := hb3'.trans (hb4.mono hb3'.size)
        clear HRD HPL hb3 hb4 ho3 hc3 hb3' d1 xHQ0 xHQ1
        have HB3 : Hid (Below w.heap.size w w4) := HB2.out.trans (hb.mono HB2.out.size)
        have HX3 : Hid (Bx w4 (w.heap.size) [.slice a1 n1 c1, .slice a2 n2 c2]) := HX2.out.later hb
        have HR3 : Hid (OwnRow w4 (w.heap.size + 1) 3 (cel [.int .i64 0, .bool false, .slice none 0 0])) := HR2.out.later hb
        have HQ3 : Hid (Bx w4 w1.heap.size [.int .i64 0, .int .i64 q]) := HQ2.out.later hb
        clear hb
        go_wp2_with fail
        go_quiet (fail)
        have hb : Below w4.heap.size w4 (w4.drewN nq) := below_drewN (Below.refl _ _) nq
        have HB4 : Hid (Below w.heap.size w (w4.drewN nq)) := HB3.out.trans (hb.mono HB3.out.size)
        have HX4 : Hid (Bx (w4.drewN nq) (w.heap.size) [.slice a1 n1 c1, .slice a2 n2 c2]) := HX3.out.later hb
        have HR4 : Hid (OwnRow (w4.drewN nq) (w.heap.size + 1) 3 (cel [.int .i64 0, .bool false, .slice none 0 0])) := HR3.out.later hb
        have HQ4 : Hid (Bx (w4.drewN nq) w1.heap.size [.int .i64 0, .int .i64 q]) := HQ3.out.later hb
        clear hb
        have hrr := HR4.out
        have t0 : (w4.drewN nq).cell? ⟨w.heap.size + 1, 0, none⟩ = some (.int .i64 0) := hrr.cell (i := 0) (by omega)
        have t1 : (w4.drewN nq).cell? ⟨w.heap.size + 1, 1, none⟩ = some (.bool false) := hrr.cell (i := 1) (by omega)
        have t2 : (w4.drewN nq).cell? ⟨w.heap.size + 1, 2, none⟩ = some (.slice none 0 0) := hrr.cell (i := 2) (by omega)
        have f0 := hrr.frozen 0
        have f1 := hrr.frozen 1
        have f2 := hrr.frozen 2
        have hlr := hrr.lt
        clear hrr
        go_wp2
        exact bodyPost_ret (v := .agg #[.int .i64 0, .bool false, .slice none 0 0]) (by simp [results, Try.results26, go_sem, t0, t1, t2]) rfl (⟨none, 0, 0, by rw [HE.out], (((HB4.out).setCell (by first | omega | (simp <;> omega)) _).setCell (by first | omega | (simp <;> omega)) _).setCell (by first | omega | (simp <;> omega)) _, by rw [HE.out]; exact Or.inl ⟨rfl, none, 0, rfl⟩⟩)
    | true =>
      have hjl := jrn_len hj
      replace HPL : Hid (∀ W a c, (atF d.1 d.2 1).length ≤ c → Ints W (.slice a (atF d.1 d.2 1).length c) (atF d.1 d.2 1) → Calls Try.prog 68 #[.slice a (atF d.1 d.2 1).length c, .int .i64 q] W fun e w' => ∃ b o' c', e = .returned (.tuple #[.slice (some ⟨b, o', none⟩) ((atF d.1 d.2 1).length - 3) c', .bool true]) ∧ Below W.heap.size W w' ∧ At1 W (some ⟨b, o', none⟩) ((atF d.1 d.2 1).length - 3) (fun k => .int .i64 (((atF d.1 d.2 1).drop 3)[k]?.getD 0))) := fun W a c h1 h2 => (HPL.out W a c h1 h2).mono fun e w' ⟨h3, h4⟩ => by
        rcases h4 with ⟨h5, _⟩ | ⟨_, b, o', c', h6, h7⟩
        · rw [hj] at h5; exact absurd h5 (by decide)
        · exact ⟨b, o', c', h6, h3, h7⟩
      have HPL' : Hid (((atF d.1 d.2 1).drop 3).length = (atF d.1 d.2 1).length - 3) := by unfold Hid; simp
      have HRW : Hid (∀ W (k : Nat), k ≤ 12 → Below w2.heap.size w2 W → Calls Try.prog 64 #[.pointer (some ⟨bd, 0, none⟩), .int .i64 (k : Int)] W fun e w' => ∃ a c, e = .returned (.slice a (atF d.1 d.2 k).length c) ∧ Below W.heap.size W w' ∧ IntsO w' (.slice a (atF d.1 d.2 k).length c) (atF d.1 d.2 k) (fresh W w') ∧ (atF d.1 d.2 k).length ≤ c) := fun W k hk hW => read_drvC (HDK.out.later hW) k (by have := HBN.out; omega)
      have hm10 : (atF d.1 d.2 1).length - 3 ≤ 10 := by omega
      have HFY : Hid (foundB (fun k => atF d.1 d.2 k) q = decide (atF d.1 d.2 ((2 + ((atF d.1 d.2 1).length - 3) : Nat) : Int) = [2, q, (((atF d.1 d.2 1).length - 3 : Nat) : Int)])) := found_eq hj
      have HPJ : Hid (∀ i, i < (atF d.1 d.2 1).length - 3 → (putsJ fun k => atF d.1 d.2 k)[i]?.getD (0, []) = (((atF d.1 d.2 1).drop 3)[i]?.getD 0, atF d.1 d.2 ((2 + i : Nat) : Int))) := fun i hi => putsJ_get _ i (by rw [show ((atF d.1 d.2 ((1 : Nat) : Int)).drop 3).length = (atF d.1 d.2 1).length - 3 from HPL'.out]; exact hi)
      have HPN : Hid ((putsJ fun k => atF d.1 d.2 k).length = (atF d.1 d.2 1).length - 3) := by unfold Hid; rw [putsJ_len]; exact HPL'.out
      have hl1 : (atF d.1 d.2 1).length = (atF d.1 d.2 1).length - 3 + 3 := by omega
      clear HPL' hjl hj HDK HBN
      generalize (putsJ fun k => atF d.1 d.2 k) = PJ at *
      generalize foundB (fun k => atF d.1 d.2 k) q = FB at *
      generalize hmm : (atF d.1 d.2 1).length - 3 = m at *
      rw [hl1] at HRD HPL
      clear hmm hl1
      generalize (atF d.1 d.2 1).drop 3 = zs at *
      generalize atF d.1 d.2 1 = hz at *
      have xHQ0 := HQ2.out 0 _ rfl
      have xHQ1 := HQ2.out 1 _ rfl
      go_wp2_with fail
      go_cut [5, 6] from 22 (fun s5 s6 wx => ∃ bp op cp, s5 = .slice (some ⟨bp, op, none⟩) m cp ∧ s6 = .bool true ∧ Below w2.heap.size w2 wx ∧ At1 wx (some ⟨bp, op, none⟩) m (fun k => .int .i64 (zs[k]?.getD 0)))
      case first =>
        go_wp2_with fail
        go_region_with (first | (go_at_call 64; refine (HRD.out _ (Below.refl _ _).drew).mono ?_; rintro e w3 ⟨az, cz, rfl, hb3, ho3, hc3⟩; have d1 := cell_later hb3 xHQ1) | (go_at_call 68; refine (HPL.out _ _ _ hc3 ho3.reads).mono ?_; rintro e w4 ⟨bp, op, cp, rfl, hb4, hp4⟩))
        all_goals
          have hb3' : Below w2.heap.size w2 w3 := (Below.refl _ _).drew.trans hb3
          have HB4' : Hid (Below w2.heap.size w2 w4) := hb3'.trans (hb4.mono hb3'.size)
          have HPS' : Hid (At1 w4 (some ⟨bp, op, none⟩) m (fun k => .int .i64 (zs[k]?.getD 0))) := fun k hk => by
            obtain ⟨b1, o1, e1, h1⟩ := hp4 k hk
            exact ⟨b1, o1, e1, cell_later hb4 h1⟩
          clear HRD HPL hb3 hb4 ho3 hc3 hb3' d1 xHQ0 xHQ1 hp4
          go_wp2
          go_meet
          case rel => exact ⟨_, _, _, rfl, rfl, HB4'.out, HPS'.out⟩
      case rest =>
        obtain ⟨bp, op, cp, rfl, rfl, hb, hps⟩ := hcut
        have HPS : Hid (At1 wc (some ⟨bp, op, none⟩) m (fun k => .int .i64 (zs[k]?.getD 0))) := hps
        have HBC : Hid (Below w2.heap.size w2 wc) := hb
        clear HRD HPL hps xHQ0 xHQ1
        obtain ⟨w5, rfl⟩ : ∃ w5, w5 = wc := ⟨_, rfl⟩
        have HB3 : Hid (Below w.heap.size w w5) := HB2.out.trans (hb.mono HB2.out.size)
        have HX3 : Hid (Bx w5 (w.heap.size) [.slice a1 n1 c1, .slice a2 n2 c2]) := HX2.out.later hb
        have HR3 : Hid (OwnRow w5 (w.heap.size + 1) 3 (cel [.int .i64 0, .bool false, .slice none 0 0])) := HR2.out.later hb
        have HQ3 : Hid (Bx w5 w1.heap.size [.int .i64 0, .int .i64 q]) := HQ2.out.later hb
        clear hb
        have HEQ : Hid (∀ W v w1, Ints W v (atF d.1 d.2 ((2 + m : Nat) : Int)) → Ints W w1 [2, q, (m : Int)] → Calls Try.prog 69 #[v, w1] W fun e w' => e = .returned (.bool FB) ∧ ∃ m, w' = W.drewN m) := fun W v w1 h1 h2 => by rw [HFY.out]; exact equalI_any h1 h2
        replace HRW : Hid (∀ W (k : Nat), k ≤ 12 → Below w5.heap.size w5 W → Calls Try.prog 64 #[.pointer (some ⟨bd, 0, none⟩), .int .i64 (k : Int)] W fun e w' => ∃ a c, e = .returned (.slice a (atF d.1 d.2 k).length c) ∧ Below W.heap.size W w' ∧ IntsO w' (.slice a (atF d.1 d.2 k).length c) (atF d.1 d.2 k) (fresh W w') ∧ (atF d.1 d.2 k).length ≤ c) := fun W k hk hW => HRW.out W k hk (HBC.out.trans (hW.mono HBC.out.size))
        clear HFY
        have xHQ0 := HQ3.out 0 _ rfl
        have xHQ1 := HQ3.out 1 _ rfl
        go_wp2_with fail
        go_cut [45] from 32 (fun s45 wx => s45 = .bool (!FB) ∧ Below w5.heap.size w5 wx)
        case first =>
          go_wp2_with fail
          go_region_with (first | (go_at_call 70; refine (commitRow_any _ m (by omega)).mono ?_; rintro e w9 ⟨rfl, rfl⟩) | (go_at_call 64; refine (HRW.out _ (2 + m) (by omega) (Below.refl _ _).drew).mono ?_; rintro e w6 ⟨a6, c6, rfl, hb6, ho6, hc6⟩; have d1 := cell_later hb6 xHQ1) | (go_at_call 71; refine (commitWords_any _ q m).mono ?_; rintro e w7 ⟨rfl, rfl⟩) | (go_at_call 69; refine (HEQ.out _ _ _ (ho6.reads.later (later1 _ _)) (lit3_ints _ _ _ _)).mono ?_; rintro e w8 ⟨rfl, m8, rfl⟩))
          all_goals
            have HB7 : Hid (Below w5.heap.size w5 w6) := (Below.refl _ _).drew.trans hb6
            have HB8 : Hid (Below w5.heap.size w5 ((w6.alloc (.cells #[.int .i64 2, .int .i64 q, .int .i64 (m : Int)] 2)).drewN m8)) := below_drewN (HB7.out.trans ((later1 _ _).mono HB7.out.size)) m8
            clear HRW HEQ hb6 ho6 hc6 d1 xHQ0 xHQ1 HB7
            go_wp2
            go_meet
            case rel => exact ⟨rfl, HB8.out⟩
        case rest =>
          obtain ⟨rfl, hb⟩ := hcut
          have HBW : Hid (Below w5.heap.size w5 wc) := hb
          replace HPS : Hid (At1 wc (some ⟨bp, op, none⟩) m (fun k => .int .i64 (zs[k]?.getD 0))) := fun k hk => by
            obtain ⟨b1, o1, e1, h1⟩ := HPS.out k hk
            exact ⟨b1, o1, e1, cell_later hb h1⟩
          clear xHQ0 xHQ1 HEQ
          have HB4 : Hid (Below w.heap.size w wc) := HB3.out.trans (hb.mono HB3.out.size)
          have HX4 : Hid (Bx wc (w.heap.size) [.slice a1 n1 c1, .slice a2 n2 c2]) := HX3.out.later hb
          have HR4 : Hid (OwnRow wc (w.heap.size + 1) 3 (cel [.int .i64 0, .bool false, .slice none 0 0])) := HR3.out.later hb
          have HQ4 : Hid (Bx wc w1.heap.size [.int .i64 0, .int .i64 q]) := HQ3.out.later hb
          clear hb
          cases hk : FB with
          | false =>
            have HE : Hid (RES = (0, false, [])) := HNO.out hk
            subst hk
            clear HNO HYES HRW HPJ HPN HPS
            have hrr := HR4.out
            have t0 : wc.cell? ⟨w.heap.size + 1, 0, none⟩ = some (.int .i64 0) := hrr.cell (i := 0) (by omega)
            have t1 : wc.cell? ⟨w.heap.size + 1, 1, none⟩ = some (.bool false) := hrr.cell (i := 1) (by omega)
            have t2 : wc.cell? ⟨w.heap.size + 1, 2, none⟩ = some (.slice none 0 0) := hrr.cell (i := 2) (by omega)
            have f0 := hrr.frozen 0
            have f1 := hrr.frozen 1
            have f2 := hrr.frozen 2
            have hlr := hrr.lt
            clear hrr
            go_wp2
            exact bodyPost_ret (v := .agg #[.int .i64 0, .bool false, .slice none 0 0]) (by simp [results, Try.results26, go_sem, t0, t1, t2]) rfl (⟨none, 0, 0, by rw [HE.out], (((HB4.out).setCell (by first | omega | (simp <;> omega)) _).setCell (by first | omega | (simp <;> omega)) _).setCell (by first | omega | (simp <;> omega)) _, by rw [HE.out]; exact Or.inl ⟨rfl, none, 0, rfl⟩⟩)
          | true =>
            have HE : Hid (RES = (0, true, PJ)) := HYES.out hk
            subst hk
            replace HRW : Hid (∀ W (k : Nat), k ≤ 12 → Below wc.heap.size wc W → Calls Try.prog 64 #[.pointer (some ⟨bd, 0, none⟩), .int .i64 (k : Int)] W fun e w' => ∃ a n c, e = .returned (.slice a n c) ∧ Below W.heap.size W w' ∧ IntsO w' (.slice a n c) (atF d.1 d.2 k) (fresh W w')) := fun W k hk hW => (HRW.out W k hk (HBW.out.trans (hW.mono HBW.out.size))).mono fun e w' ⟨a, c, h1, h2, h3, _⟩ => ⟨a, _, c, h1, h2, h3⟩
            have HJR : Hid (∀ W (j : Nat), j ≤ 12 → Calls Try.prog 72 #[.int .i64 ((j : Int) + 1)] W fun e w' => e = .returned (.int .i64 ((2 + j : Nat) : Int)) ∧ w' = W) := fun W j hj => by
              have h := journalRow_any W (j + 1) (by omega)
              rw [show 1 + (j + 1) = 2 + j by omega, Int.natCast_add j 1] at h
              exact h
            clear HNO HYES HBW
            go_wp2
            go_loopw [8, 49] (fun s i wr => ∃ (j : Nat) (u : Nat → List Value) (G : Nat → Nat → Prop), j ≤ m ∧ i = .int .i64 j ∧ Below wc.heap.size wc wr ∧ GRow PutP wr wc.heap.size 100 2 s j (fun k => PJ[k]?.getD (0, [])) u G) (fun _ i _ => m - (intOf i).toNat)
            case atStart => exact ⟨0, _, _, Nat.zero_le _, rfl, Below.refl _ _, GRow.nil wc _ _ _ _⟩
            case round =>
              obtain ⟨j, u, G, hj, rfl, hbl, hrow⟩ := hrel
              obtain ⟨aQ, cQ, rfl⟩ := hrow.shape
              have HBL : Hid (Below wc.heap.size wc wr) := hbl
              have HRX : Hid (GRow PutP wr wc.heap.size 100 2 (.slice aQ j cQ) j (fun k => PJ[k]?.getD (0, [])) u G) := hrow
              clear hrow
              by_cases hlt : j < m
              · have HGJ : Hid (PJ[j]?.getD (0, []) = (zs[j]?.getD 0, atF d.1 d.2 ((2 + j : Nat) : Int))) := HPJ.out j hlt
                have HTJ : Hid (Calls Try.prog 64 #[.pointer (some ⟨bd, 0, none⟩), .int .i64 ((2 + j : Nat) : Int)] wr _) := HRW.out wr (2 + j) (by omega) hbl
                obtain ⟨b, off, eb, k0⟩ := HPS.out j hlt
                simp only [Option.some.injEq, Addr.mk.injEq, and_true] at eb
                obtain ⟨rfl, rfl⟩ := eb
                replace k0 := cell_later hbl k0
                dsimp only at k0
                clear hbl HRW
                generalize zs[j]?.getD 0 = z at *
                generalize atF d.1 d.2 ((2 + j : Nat) : Int) = ws at *
                go_wp2_with fail
                refine (HJR.out _ j (by omega)).mono ?_
                rintro e wj ⟨rfl, rfl⟩
                go_wp2_with fail
                refine HTJ.out.mono ?_
                rintro e wk ⟨av, n, cv, rfl, hb1, ho⟩
                obtain ⟨_, _, ev, _⟩ := ho.reads.shape
                simp only [Value.slice.injEq] at ev
                obtain ⟨-, hm, -⟩ := ev
                obtain ⟨g, cap, X, u', G', hr, hbx, _, hgx, -⟩ := append_putG _ wk wc.heap.size j _ _ u G HRX.out HBL.out.size (by omega) hb1 z av n cv ws HGJ.out _ (fun c hc => hc) hm ho wk.heap.size rfl
                have HR : Hid (_ = _) := hr
                have HBX : Hid (Below wc.heap.size wc X) := (HBL.out.trans hbx)
                have HGX : Hid (GRow PutP X wc.heap.size 100 2 _ (j + 1) (fun k => PJ[k]?.getD (0, [])) u' G') := hgx
                clear hr hbx hgx hb1 ho HRX HGJ HTJ hm k0
                go_wp2_with (at_builtin; refine wpList_append_run rfl _ _ 47 rfl _ _ rfl rfl _ _ HR.out ?_)
                go_roundw
                case rel =>
                  exact ⟨_, _, _, _, _, _, _, _, _, _, _, _, _, _, _, _, _, _, _, ⟨j + 1, _, _, by omega, by go_num, HBX.out, HGX.out⟩, rfl⟩
                case measure => simp [intOf]; omega
              · have e : j = m := by omega
                subst e
                have HF : Hid (PutsO wr (.slice aQ j cQ) PJ (fun b => w.heap.size + 1 < b ∧ b < wr.heap.size)) := HRX.out.puts HPN.out _ fun c h1 h2 => ⟨by have := HR4.out.lt; omega, h2⟩
                have hb := HBL.out
                clear HRX HPS HPJ HRW HJR hbl
                have HB5 : Hid (Below w.heap.size w wr) := HB4.out.trans (hb.mono HB4.out.size)
                have HX5 : Hid (Bx wr (w.heap.size) [.slice a1 n1 c1, .slice a2 n2 c2]) := HX4.out.later hb
                have HR5 : Hid (OwnRow wr (w.heap.size + 1) 3 (cel [.int .i64 0, .bool false, .slice none 0 0])) := HR4.out.later hb
                have HQ5 : Hid (Bx wr w1.heap.size [.int .i64 0, .int .i64 q]) := HQ4.out.later hb
                clear hb
                have hrr := HR5.out
                have t0 : wr.cell? ⟨w.heap.size + 1, 0, none⟩ = some (.int .i64 0) := hrr.cell (i := 0) (by omega)
                have t1 : wr.cell? ⟨w.heap.size + 1, 1, none⟩ = some (.bool false) := hrr.cell (i := 1) (by omega)
                have t2 : wr.cell? ⟨w.heap.size + 1, 2, none⟩ = some (.slice none 0 0) := hrr.cell (i := 2) (by omega)
                have f0 := hrr.frozen 0
                have f1 := hrr.frozen 1
                have f2 := hrr.frozen 2
                have hlr := hrr.lt
                clear hrr
                go_wp2
                exact bodyPost_ret (v := .agg #[.int .i64 0, .bool true, .slice aQ j cQ]) (by simp [results, Try.results26, go_sem, t0, t1, t2]) rfl (⟨aQ, j, cQ, by rw [HE.out], (((HB5.out).setCell (by first | omega | (simp <;> omega)) _).setCell (by first | omega | (simp <;> omega)) _).setCell (by first | omega | (simp <;> omega)) _, by rw [HE.out]; exact (((HF.out.store (fun b hb => by have := hb.1; show b ≠ w.heap.size + 1; omega) _).store (fun b hb => by have := hb.1; show b ≠ w.heap.size + 1; omega) _).store (fun b hb => by have := hb.1; show b ≠ w.heap.size + 1; omega) _).mono fun b hb => ⟨by omega, by simpa [World.setCell] using hb.2⟩⟩)
  · skip
    have hfb : (r != 0) = true := by simpa using hf
    have HE : Hid (RES = (r, false, [])) := HBAD.out hf
    clear HBAD HNO HYES HO HBN HF hf
    have xHQ0 := HQ1.out 0 _ rfl
    have xHQ1 := HQ1.out 1 _ rfl
    have hrr := HR1.out
    have t0 : (w1.alloc (.cells #[.int .i64 r, .int .i64 q] 34)).cell? ⟨w.heap.size + 1, 0, none⟩ = some (.int .i64 0) := hrr.cell (i := 0) (by omega)
    have t1 : (w1.alloc (.cells #[.int .i64 r, .int .i64 q] 34)).cell? ⟨w.heap.size + 1, 1, none⟩ = some (.bool false) := hrr.cell (i := 1) (by omega)
    have t2 : (w1.alloc (.cells #[.int .i64 r, .int .i64 q] 34)).cell? ⟨w.heap.size + 1, 2, none⟩ = some (.slice none 0 0) := hrr.cell (i := 2) (by omega)
    have f0 := hrr.frozen 0
    have f1 := hrr.frozen 1
    have f2 := hrr.frozen 2
    have hlr := hrr.lt
    clear hrr
    go_wp2
    exact bodyPost_ret (v := .agg #[.int .i64 r, .bool false, .slice none 0 0]) (by simp [results, Try.results26, go_sem, t0, t1, t2]) rfl (⟨none, 0, 0, by rw [HE.out], (((HB1.out).setCell (by first | omega | (simp <;> omega)) _).setCell (by first | omega | (simp <;> omega)) _).setCell (by first | omega | (simp <;> omega)) _, by rw [HE.out]; exact Or.inl ⟨rfl, none, 0, rfl⟩⟩)

end Go.Proofs.Ytagmmgcdebgfnaa

namespace Go.Proofs.Ytagmmgcdebgfnaa
open Go.RowKit
set_option maxRecDepth 100000

/-- The cells of entries, one behind the other. -/
def enCells (es : List EN) : List Value := es.flatMap fun e => [.string e.1, .int .i64 e.2]
theorem enCells_length (es : List EN) : (enCells es).length = es.length * 2 := by
  induction es with
  | nil => rfl
  | cons a t ih =>
    have : enCells (a :: t) = [.string a.1, .int .i64 a.2] ++ enCells t := by simp [enCells]
    rw [this, List.length_append, ih]
    simp [Nat.add_mul]
    omega
theorem enCells_append (es fs : List EN) : enCells (es ++ fs) = enCells es ++ enCells fs := by simp [enCells]
theorem enCells_get (es : List EN) (j : Nat) (h : j < es.length * 2) : (enCells es)[j]? = some (enCell es j) := by
  induction es generalizing j with
  | nil => simp at h
  | cons a t ih =>
    have e : enCells (a :: t) = .string a.1 :: .int .i64 a.2 :: enCells t := by simp [enCells]
    rw [e]
    match j with
    | 0 => simp [enCell]
    | 1 => simp [enCell]
    | j + 2 =>
      simp only [List.getElem?_cons_succ]
      rw [ih j (by simp at h; omega)]
      unfold enCell
      have h1 : (j + 2) % 2 = j % 2 := by omega
      have h2 : (j + 2) / 2 = j / 2 + 1 := by omega
      rw [h1, h2]
      simp
theorem enCells_one (es : List EN) : ∀ u ∈ enCells es, u.oneCell' = true := by
  intro u hu
  simp only [enCells, List.mem_flatMap] at hu
  obtain ⟨e, _, hu⟩ := hu
  simp at hu
  rcases hu with rfl | rfl <;> rfl
theorem AtN.cells {w : World} {b off n : Nat} {es : List EN} (h : AtN w (some ⟨b, off, none⟩) n es) (hn : es.length = n) (j : Nat) (u : Value) (hu : (enCells es)[j]? = some u) : w.cell? ((⟨b, off, none⟩ : Addr).add j) = some u := by
  have hj : j < es.length * 2 := by rw [← enCells_length]; exact (List.getElem?_eq_some_iff.1 hu).1
  rw [enCells_get es j hj] at hu
  simp only [Option.some.injEq] at hu
  subst hu
  obtain ⟨b', off', e, c0, c1⟩ := h (j / 2) (by omega)
  simp only [Option.some.injEq, Addr.mk.injEq, and_true] at e
  obtain ⟨rfl, rfl⟩ := e
  rw [add_plain']
  have : j % 2 = 0 ∨ j % 2 = 1 := by omega
  unfold enCell
  rcases this with e | e
  · rw [if_pos e, ← c0, show off + j = off + j / 2 * 2 by omega]
  · rw [if_neg (by omega), ← c1, show off + j = off + j / 2 * 2 + 1 by omega]
end Go.Proofs.Ytagmmgcdebgfnaa

namespace Go.Proofs.Ytagmmgcdebgfnaa
open Go.RowKit
set_option maxRecDepth 100000

/-- The cells of one inode. -/
def C5 (d : ID) (u : Value × Value) : List Value := [.int .i64 d.1, .int .i64 d.2.1, .int .i64 d.2.2.1, u.1, u.2]
def inCells (ds : Nat → ID) (u : Nat → Value × Value) (n : Nat) : List Value := (List.range n).flatMap fun i => C5 (ds i) (u i)
theorem inCells_length (ds : Nat → ID) (u : Nat → Value × Value) (n : Nat) : (inCells ds u n).length = n * 5 := by
  unfold inCells
  induction n with
  | zero => simp
  | succ n ih => rw [List.range_succ, List.flatMap_append, List.length_append, ih]; simp [C5, Nat.add_mul]
theorem inCells_succ (ds : Nat → ID) (u : Nat → Value × Value) (n : Nat) : inCells ds u (n + 1) = inCells ds u n ++ C5 (ds n) (u n) := by
  unfold inCells
  rw [List.range_succ, List.flatMap_append]
  simp
theorem inCells_congr {ds : Nat → ID} {u u' : Nat → Value × Value} {n : Nat} (h : ∀ i, i < n → u i = u' i) : inCells ds u n = inCells ds u' n := by
  unfold inCells
  have e0 : (List.range n).map (fun i => C5 (ds i) (u i)) = (List.range n).map (fun i => C5 (ds i) (u' i)) := List.map_congr_left fun i hi => by rw [h i (List.mem_range.1 hi)]
  rw [List.flatMap_def, List.flatMap_def, e0]
theorem inCells_get (l : List ID) (u : Nat → Value × Value) (n : Nat) : ∀ c, c < n * 5 → (inCells (fun i => l[i]?.getD id0) u n)[c]? = some (inCell l u c) := by
  induction n with
  | zero => intro c hc; omega
  | succ n ih =>
    intro c hc
    rw [inCells_succ]
    by_cases h : c < n * 5
    · rw [List.getElem?_append_left (by rw [inCells_length]; exact h)]
      exact ih c h
    · rw [List.getElem?_append_right (by rw [inCells_length]; omega), inCells_length]
      have : c = n * 5 ∨ c = n * 5 + 1 ∨ c = n * 5 + 2 ∨ c = n * 5 + 3 ∨ c = n * 5 + 4 := by omega
      rcases this with e | e | e | e | e
      · subst e; rw [Nat.sub_self, inCell_0]; rfl
      · subst e; rw [show n * 5 + 1 - n * 5 = 1 by omega, inCell_1]; rfl
      · subst e; rw [show n * 5 + 2 - n * 5 = 2 by omega, inCell_2]; rfl
      · subst e; rw [show n * 5 + 3 - n * 5 = 3 by omega, inCell_3]; rfl
      · subst e; rw [show n * 5 + 4 - n * 5 = 4 by omega, inCell_4]; rfl
end Go.Proofs.Ytagmmgcdebgfnaa

namespace Go.Proofs.Ytagmmgcdebgfnaa
open Go.RowKit
set_option maxRecDepth 100000

/-- An inode marked from N on. -/
def mkI (N : Nat) (d : ID) : ID := (((N : Nat) : Int), ((N : Nat) : Int) + 1, ((N : Nat) : Int) + 1 + 1, marks (((N : Nat) : Int) + 1 + 1 + 1) d.2.2.2.1.length, marksN (N + 3 + d.2.2.2.1.length) d.2.2.2.2.length)
def mkIns (k : Nat) (ds : List ID) : List ID := (List.range ds.length).map fun i => mkI (inum k ds i) (ds[i]?.getD id0)
theorem mkIns_length (k : Nat) (ds : List ID) : (mkIns k ds).length = ds.length := by simp [mkIns]
theorem mkIns_get (k : Nat) (ds : List ID) {i : Nat} (hi : i < ds.length) : (mkIns k ds)[i]?.getD id0 = mkI (inum k ds i) (ds[i]?.getD id0) := by
  unfold mkIns; rw [List.getElem?_map, List.getElem?_range hi]; rfl
theorem inum_next (k : Nat) (ds : List ID) (hk : k + spanInos ds ≤ 4294967296) (j : Nat) (hj : j < ds.length) : inum k ds j + 3 + (ds[j]?.getD id0).2.2.2.1.length + 2 * (ds[j]?.getD id0).2.2.2.2.length = inum k ds (j + 1) ∧ inum k ds (j + 1) ≤ 4294967296 := by
  have h1 := upto_succ (isp ds) j (by rw [isp_length]; omega)
  rw [isp_get ds j hj] at h1
  have h2 := upto_le (isp ds) (j + 1)
  have h3 : spanIno (ds[j]?.getD id0) = (ds[j]?.getD id0).2.2.2.1.length + 2 * (ds[j]?.getD id0).2.2.2.2.length := rfl
  have h4 : spanInos ds = (isp ds).sum := rfl
  unfold inum
  omega
theorem inum_all (k : Nat) (ds : List ID) : inum k ds ds.length = k + spanInos ds := by
  have := upto_all (isp ds)
  rw [isp_length] at this
  unfold inum spanInos
  rw [this]

/-- The list of which the first j are marked. -/
def halfI (k : Nat) (ds : List ID) (j : Nat) : List ID := (List.range ds.length).map fun i => if i < j then mkI (inum k ds i) (ds[i]?.getD id0) else ds[i]?.getD id0
theorem halfI_length (k : Nat) (ds : List ID) (j : Nat) : (halfI k ds j).length = ds.length := by simp [halfI]
theorem halfI_get (k : Nat) (ds : List ID) (j : Nat) {i : Nat} (hi : i < ds.length) : (halfI k ds j)[i]?.getD id0 = if i < j then mkI (inum k ds i) (ds[i]?.getD id0) else ds[i]?.getD id0 := by
  unfold halfI; rw [List.getElem?_map, List.getElem?_range hi]; rfl
theorem halfI_zero (k : Nat) (ds : List ID) : halfI k ds 0 = ds := by
  apply List.ext_getElem?
  intro i
  unfold halfI
  rw [List.getElem?_map]
  by_cases hi : i < ds.length
  · rw [List.getElem?_range hi]; simp [List.getElem?_eq_getElem hi]
  · rw [List.getElem?_eq_none (by simpa using Nat.le_of_not_lt hi), List.getElem?_eq_none (by omega)]; rfl
theorem halfI_all (k : Nat) (ds : List ID) : halfI k ds ds.length = mkIns k ds := by
  unfold halfI mkIns
  apply List.map_congr_left
  intro i hi
  rw [if_pos (List.mem_range.1 hi)]
structure HalfM (w : World) (b n : Nat) (cs : List ID) (u : Nat → Value × Value) (F1 G1 : Nat → Nat → Prop) : Prop where
  row : OwnRow w b (n * 5) (inCell cs u)
  ints : ∀ i, i < n → IntsO w (u i).1 (cs[i]?.getD id0).2.2.2.1 (F1 i)
  ents : ∀ i, i < n → EntsO w (u i).2 (cs[i]?.getD id0).2.2.2.2 (G1 i)
/-- Three cells of one inode turned. -/
theorem inCell_three (cs cs' : List ID) (u : Nat → Value × Value) (j : Nat) (x0 x1 x2 : Int) (h0 : ∀ i, i ≠ j → (cs'[i]?.getD id0) = (cs[i]?.getD id0)) (e0 : (cs'[j]?.getD id0).1 = x0) (e1 : (cs'[j]?.getD id0).2.1 = x1) (e2 : (cs'[j]?.getD id0).2.2.1 = x2) (c : Nat) :
    (if c = j * 5 + 2 then .int .i64 x2 else if c = j * 5 + 1 then .int .i64 x1 else if c = j * 5 then .int .i64 x0 else inCell cs u c) = inCell cs' u c := by
  by_cases hj : c / 5 = j
  · unfold inCell
    rw [hj, e0, e1, e2]
    by_cases h0 : c % 5 = 0
    · rw [if_neg (by omega), if_neg (by omega), if_pos (by omega), if_pos h0]
    · by_cases h1 : c % 5 = 1
      · rw [if_neg (by omega), if_pos (by omega), if_neg h0, if_pos h1]
      · by_cases h2 : c % 5 = 2
        · rw [if_pos (by omega), if_neg h0, if_neg h1, if_pos h2]
        · rw [if_neg (by omega), if_neg (by omega), if_neg (by omega), if_neg h0, if_neg h1, if_neg h2, if_neg h0, if_neg h1, if_neg h2]
  · rw [if_neg (by omega), if_neg (by omega), if_neg (by omega)]
    unfold inCell
    rw [h0 _ hj]

end Go.Proofs.Ytagmmgcdebgfnaa

namespace Go.Proofs.Ytagmmgcdebgfnaa
open Go.RowKit
set_option maxRecDepth 100000

def ynum (k : Nat) (zss : List (List UInt8)) (j : Nat) : Nat := k + upto (ylens zss) j
def mkYs (k : Nat) (zss : List (List UInt8)) : List (List UInt8) := (List.range zss.length).map fun i => mkByt ((ynum k zss i : Nat) : Int) (zss[i]?.getD [])
theorem mkYs_length (k : Nat) (zss : List (List UInt8)) : (mkYs k zss).length = zss.length := by simp [mkYs]
theorem mkYs_get (k : Nat) (zss : List (List UInt8)) {i : Nat} (hi : i < zss.length) : (mkYs k zss)[i]?.getD [] = mkByt ((ynum k zss i : Nat) : Int) (zss[i]?.getD []) := by
  unfold mkYs; rw [List.getElem?_map, List.getElem?_range hi]; rfl
theorem ynum_next (k : Nat) (zss : List (List UInt8)) (j : Nat) (hj : j < zss.length) : ynum k zss (j + 1) = ynum k zss j + (zss[j]?.getD []).length ∧ ynum k zss (j + 1) ≤ k + (ylens zss).sum := by
  have h1 := upto_succ (ylens zss) j (by rw [ylens_length]; exact hj)
  rw [ylens_get] at h1
  have h2 := upto_le (ylens zss) (j + 1)
  unfold ynum
  omega
theorem ynum_all (k : Nat) (zss : List (List UInt8)) : ynum k zss zss.length = k + (ylens zss).sum := by
  have := upto_all (ylens zss)
  rw [ylens_length] at this
  unfold ynum
  rw [this]
def halfY (k : Nat) (zss : List (List UInt8)) (j i : Nat) : List UInt8 := if i < j then mkByt ((ynum k zss i : Nat) : Int) (zss[i]?.getD []) else zss[i]?.getD []
end Go.Proofs.Ytagmmgcdebgfnaa

namespace Go.Proofs.Ytagmmgcdebgfnaa
open Go.RowKit
set_option maxRecDepth 100000

open Classical in
theorem pickQ {α : Type} [Inhabited α] {n : Nat} {P : Nat → α → Prop} (h : ∀ i, i < n → ∃ q, P i q) : ∃ f : Nat → α, ∀ i, i < n → P i (f i) :=
  ⟨fun i => if hi : i < n then Classical.choose (h i hi) else default, fun i hi => by dsimp only; rw [dif_pos hi]; exact Classical.choose_spec (h i hi)⟩
def mkFs (k : Int) (d : FD) : FD := (mkIns k.toNat d.1, mkYs (k.toNat + spanInos d.1) d.2)
/-- Answers that are a code and a file system. -/
def AnsFR (w : World) (r : Int × FD) (e : Ending) (w' : World) : Prop := ∃ a1 n1 c1 a2 n2 c2, e = .returned (.agg #[.int .i64 r.1, .slice a1 n1 c1, .slice a2 n2 c2]) ∧ Below w.heap.size w w' ∧ FsU w' (.slice a1 n1 c1) (.slice a2 n2 c2) r.2 (fresh w w')
end Go.Proofs.Ytagmmgcdebgfnaa

namespace Go.Proofs.Ytagmmgcdebgfnaa
open Go.RowKit
set_option maxRecDepth 100000

set_option maxHeartbeats 400000 in
theorem l1IntsC {w : World} {v : Value} {zs : List Int} (h : Ints w v zs) (hn : zs.length ≤ 1048576) :
    Calls Try.prog 95 #[v] w fun e w' => ∃ a c, e = .returned (.slice a zs.length c) ∧ Below w.heap.size w w' ∧ IntsO w' (.slice a zs.length c) zs (fresh w w') ∧ w.heap.size < w'.heap.size ∧ zs.length ≤ c := by
  obtain ⟨a, cap, rfl, hm, hc⟩ := h.open'
  clear h
  obtain ⟨v', X, hr, hw, hb, _⟩ := append_any (w.alloc (.cells #[] 2)) w.heap.size (.slice (some ⟨w.heap.size, 0, none⟩) 0 0) [] zs a zs.length cap (Wds.lit w w.heap.size (Nat.le_refl _) [] #[] rfl 0 rfl (by omega)) (by simp) rfl (by simp) hn (fun k hk => by
    obtain ⟨b, off, e, c⟩ := hc k hk
    exact ⟨b, off, e, cell_later (later1 _ _) c⟩) ⟨w.heap.size, 0, rfl, Nat.le_refl _⟩
  rw [List.nil_append] at hw
  obtain ⟨a', c', rfl⟩ := hw.shape
  have HR : Hid (_ = _) := hr
  have HB : Hid (Below w.heap.size w X) := (later1 _ _).trans hb
  have HO : Hid (IntsO X (.slice a' zs.length c') zs (fresh w X)) := hw.own' (Nat.le_refl _)
  have HS : Hid (w.heap.size < X.heap.size) := by have := hb.size; simp at this; unfold Hid; omega
  have HC : Hid (zs.length ≤ c') := hw.cap
  clear hb hc hr hw
  go_enter Try.func95, Try.ntmps95
  go_wp2_with (at_builtin; refine wpList_append_run rfl _ _ 22 rfl _ _ rfl rfl _ _ HR.out ?_)
  go_ret
  exact ⟨a', c', rfl, HB.out, HO.out, HS.out, HC.out⟩

/-- An answer that is an inode in memory of its own. -/
def AnsIno (w : World) (d : ID) (e : Ending) (w' : World) : Prop := ∃ a1 n1 c1 a2 n2 c2, e = .returned (.agg #[.int .i64 d.1, .int .i64 d.2.1, .int .i64 d.2.2.1, .slice a1 n1 c1, .slice a2 n2 c2]) ∧ Below w.heap.size w w' ∧ InoU w' (.int .i64 d.1) (.int .i64 d.2.1) (.int .i64 d.2.2.1) (.slice a1 n1 c1) (.slice a2 n2 c2) d (fresh w w')
/-- An answer that is a file system in memory of its own. -/
def AnsFs (w : World) (d : FD) (e : Ending) (w' : World) : Prop := ∃ a1 n1 c1 a2 n2 c2, e = .returned (.agg #[.slice a1 n1 c1, .slice a2 n2 c2]) ∧ Below w.heap.size w w' ∧ FsU w' (.slice a1 n1 c1) (.slice a2 n2 c2) d (fresh w w')
def zero5F : List Value := [.int .i64 0, .int .i64 0, .int .i64 0, .slice none 0 0, .slice none 0 0]
end Go.Proofs.Ytagmmgcdebgfnaa
