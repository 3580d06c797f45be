/- The walks of the laws' functions over bytes and lists of bytes. File systems: a list of inodes and a list of lists of bytes; the walks of the laws' functions over them. Which blocks are used and which are free. No program is named here. BlocksFor. The specification's InodeFault. The specification's l4File. The specification's l4Dir and l4Fault. The specification's InodeFault. The specification's functions over lists of inodes. The specification's counts. The specification's other counts and places. The specification's lists of blocks. The specification: what is wrong of inodes, data and entries of a file system. The specification: what is wrong of inodes, data and entries of a file system, the rest. The program's InodeFault. The program's InodeFault: its kinds. The program's InodeFault. The program's faults of lists of inodes and of busy blocks. The program's counts of who needs a block: an array. The program's counts, filled and read. PackInode, both sides. The specification's UsedBlocks, FreeBlocks, PickBlocks and FreeInode. The specification's PickBlocks. The program's UsedBlocks, FreeBlocks and PickBlocks. The program: what is wrong of inodes, data and entries of a file system. Lists of extents: how they read, what they own. No program is named here. The walks of the laws' functions over lists of extents. What 'append' and 'copy' of extents come to. The program's copying of a list of extents. Pieces of a list of extents: what slicing it comes to. A queue: words that grow by append and are gone through from the front. -/
import Derived.Test.YtagmmgcdebgfnaaM06
import Derived.Test.YtagmmgcdebgfnaaM01
import Derived.Test.YtagmmgcdebgfnaaM02
import Derived.Test.YtagmmgcdebgfnaaM04
import Derived.Laws.Cover1
import Derived.Deep.WholeRow
import Derived.Test.YtagmmgcdebgfnaaM05
import Derived.Test.YtagmmgcdebgfnaaRows
import Derived.Deep.RegionWith
import Derived.Deep.RegionHeld3
import Derived.Test.YtagmmgcdebgfnaaM03
import Derived.Deep.AppendLies
import Derived.Laws.CopyOwn
namespace Go.Proofs.Ytagmmgcdebgfnaa
open Go.RowKit
set_option maxRecDepth 100000

theorem Try.infoU8 : (Try.prog.info? 5).map (fun i => (i.zero, i.size, i.bytes)) = some (some (.int .u8 0), 1, 1) := by kernel_rfl
end Go.Proofs.Ytagmmgcdebgfnaa

namespace Go.Proofs.Ytagmmgcdebgfnaa
open Go.RowKit
set_option maxRecDepth 100000

/-- File systems. -/
abbrev FD := List ID × List (List UInt8)
def FsR (w : World) (v1 v2 : Value) (d : FD) : Prop := Inos w v1 d.1 ∧ Byts w v2 d.2
theorem FsR.later {w w' : World} {v1 v2 : Value} {d : FD} (h : FsR w v1 v2 d) (hb : Below w.heap.size w w') : FsR w' v1 v2 d := ⟨h.1.later hb, h.2.later hb⟩
def FsU (w : World) (v1 v2 : Value) (d : FD) (F : Nat → Prop) : Prop := ∃ F1 G1 : Nat → Prop, InosO w v1 d.1 F1 ∧ BytsO w v2 d.2 G1 ∧ (∀ b, F1 b → ¬ G1 b) ∧ ∀ b, F1 b ∨ G1 b → F b
theorem FsU.reads {w : World} {v1 v2 : Value} {d : FD} {F : Nat → Prop} (h : FsU w v1 v2 d F) : FsR w v1 v2 d := by
  obtain ⟨_, _, h1, h2, _⟩ := h
  exact ⟨h1.reads, h2.reads⟩
theorem FsU.keep {w w' : World} {v1 v2 : Value} {d : FD} {F : Nat → Prop} (h : FsU w v1 v2 d F) (e : ∀ b, F b → b < w.heap.size → w'.heap[b]? = w.heap[b]?) : FsU w' v1 v2 d F := by
  obtain ⟨F1, G1, h1, h2, hd, hf⟩ := h
  exact ⟨F1, G1, h1.keep fun b hb => e b (hf b (Or.inl hb)), h2.keep fun b hb => e b (hf b (Or.inr hb)), hd, hf⟩
theorem FsU.later {w w' : World} {v1 v2 : Value} {d : FD} {F : Nat → Prop} (h : FsU w v1 v2 d F) (hb : Below w.heap.size w w') : FsU w' v1 v2 d F := h.keep fun b _ hlt => hb.block b hlt
theorem FsU.mono {w : World} {v1 v2 : Value} {d : FD} {F G : Nat → Prop} (h : FsU w v1 v2 d F) (e : ∀ b, F b → G b) : FsU w v1 v2 d G := by
  obtain ⟨F1, G1, h1, h2, hd, hf⟩ := h
  exact ⟨F1, G1, h1, h2, hd, fun b hb => e b (hf b hb)⟩
theorem FsU.chg {w w' : World} {v1 v2 : Value} {d : FD} {F G : Nat → Prop} (h : FsU w v1 v2 d F) (hc : Chg G w w') (hd : ∀ b, F b → ¬ G b) : FsU w' v1 v2 d F := h.keep fun b hb hlt => hc.block b hlt (hd b hb)
def sizeFs (d : FD) : Nat := sizeInos d.1 + sizeByts d.2
def spanFs (d : FD) : Nat := spanInos d.1 + (ylens d.2).sum
theorem spanFs_le (d : FD) : spanFs d ≤ 3 * sizeFs d := by
  have := spanInos_le d.1
  unfold spanFs sizeFs sizeByts
  omega

end Go.Proofs.Ytagmmgcdebgfnaa

namespace Go.Proofs.Ytagmmgcdebgfnaa
open Go.RowKit
set_option maxRecDepth 100000

/-- The fault of a list of inodes, and of busy blocks. -/
def insF (ds : List ID) : Int := if 10 < ds.length then 2 else fstNZ (fun i => inoF (ds[i]?.getD id0)) ds.length
def busF (bs : List Int) : Int := if 20 < bs.length then 2 else fstNZ (rngF bs) bs.length
/-- All blocks of all inodes, and all entries' inodes. -/
def allB (ds : List ID) : List Int := ds.flatMap fun d => d.2.2.2.1
def cntB (ds : List ID) (v : Int) : Nat := (allB ds).count v
def entI (es : List EN) : List Int := es.map fun e => e.2
def allE (ds : List ID) : List Int := ds.flatMap fun d => entI d.2.2.2.2
theorem flat_next {α β : Type} (f : α → List β) (l : List α) (z : α) (j : Nat) (h : j < l.length) : (l.take (j + 1)).flatMap f = (l.take j).flatMap f ++ f (l[j]?.getD z) := by
  rw [List.take_succ_eq_append_getElem h, List.flatMap_append, List.getElem?_eq_getElem h]
  simp
theorem count_next (l : List Int) (v : Int) (k : Nat) (h : k < l.length) : (l.take (k + 1)).count v = (l.take k).count v + (if l[k]?.getD 0 = v then 1 else 0) := by
  rw [List.take_succ_eq_append_getElem h, List.count_append, List.getElem?_eq_getElem h, List.count_singleton]
  simp only [Option.getD_some]
  by_cases e : l[k] = v
  · rw [if_pos e, e, beq_self_eq_true]; rfl
  · rw [if_neg e, show (l[k] == v) = false by simpa using e]; rfl
theorem allB_len (ds : List ID) : (allB ds).length ≤ (isz ds).sum := by
  unfold allB isz
  induction ds with
  | nil => simp
  | cons d ds ih =>
    simp only [List.flatMap_cons, List.length_append, List.map_cons, List.sum_cons]
    have hd : sizeIno d = d.2.2.2.1.length + sizeN d.2.2.2.2 := rfl
    omega
theorem allE_len (ds : List ID) : (allE ds).length ≤ (isz ds).sum := by
  unfold allE isz
  induction ds with
  | nil => simp
  | cons d ds ih =>
    simp only [List.flatMap_cons, List.length_append, List.map_cons, List.sum_cons]
    have : (entI d.2.2.2.2).length = d.2.2.2.2.length := by simp [entI]
    have hd : sizeIno d = d.2.2.2.1.length + (d.2.2.2.2.length + (nlens d.2.2.2.2).sum) := rfl
    omega
theorem flat_take {α β : Type} (f : α → List β) (l : List α) (j : Nat) : ((l.take j).flatMap f).length ≤ (l.flatMap f).length := by
  conv => rhs; rw [← List.take_append_drop j l]
  rw [List.flatMap_append, List.length_append]
  omega

/-- The numbers below j that p picks. -/
def selL (p : Nat → Bool) (j : Nat) : List Int := ((List.range j).filter p).map fun k : Nat => (k : Int)
theorem selL_yes {p : Nat → Bool} {j : Nat} (h : p j = true) : selL p (j + 1) = selL p j ++ [(j : Int)] := by simp [selL, List.range_succ, h]
theorem selL_no {p : Nat → Bool} {j : Nat} (h : p j = false) : selL p (j + 1) = selL p j := by simp [selL, List.range_succ, h]
theorem selL_len (p : Nat → Bool) (j : Nat) : (selL p j).length ≤ j := by
  unfold selL
  rw [List.length_map]
  have := List.length_filter_le p (List.range j)
  simpa using this

def usedP (ds : List ID) (k : Nat) : Bool := decide (0 < cntB ds (k : Int))
def onceB (ds : List ID) (j : Nat) : Bool := (List.range j).all fun k => decide (cntB ds (k : Int) ≤ 1)
theorem onceB_next (ds : List ID) (j : Nat) : onceB ds (j + 1) = (onceB ds j && decide (cntB ds (j : Int) ≤ 1)) := by
  unfold onceB
  rw [List.range_succ, List.all_append]
  simp
/-- UsedBlocks. -/
def usedR (ds : List ID) : Int × List Int := if insF ds = 0 then (if onceB ds 20 = true then (0, selL (usedP ds) 20) else (7, [])) else (insF ds, [])
def freeP (ds : List ID) (bs : List Int) (k : Nat) : Bool := decide (cntB ds (k : Int) = 0) && !(bs.contains (k : Int))
def askF (ds : List ID) (bs : List Int) : Int := if insF ds = 0 then busF bs else insF ds
/-- FreeBlocks. -/
def freeR (ds : List ID) (bs : List Int) : Int × List Int := if askF ds bs = 0 then (0, selL (freeP ds bs) 20) else (askF ds bs, [])
/-- PickBlocks. -/
def pickR (ds : List ID) (bs : List Int) (n : Int) : Int × List Int :=
  if askF ds bs = 0 then (if 0 ≤ n ∧ n ≤ 4 then (if ((selL (freeP ds bs) 20).length : Int) < n then (8, []) else (0, (selL (freeP ds bs) 20).take n.toNat)) else (3, [])) else (askF ds bs, [])
/-- The first inode that is free, or the place behind the last, or none. -/
def kindAt (ds : List ID) (k : Nat) : Int := (ds[k]?.getD id0).1
def plcI (ds : List ID) : Nat → Int
  | 0 => if ds.length < 10 then (ds.length : Int) else -1
  | m + 1 => if kindAt ds (ds.length - (m + 1)) = 0 then ((ds.length - (m + 1) : Nat) : Int) else plcI ds m
theorem plcI_yes (ds : List ID) {j : Nat} (hj : j < ds.length) (h : kindAt ds j = 0) : plcI ds (ds.length - j) = (j : Int) := by
  obtain ⟨m, hm⟩ : ∃ m, ds.length - j = m + 1 := ⟨ds.length - j - 1, by omega⟩
  rw [hm]
  show (if kindAt ds (ds.length - (m + 1)) = 0 then ((ds.length - (m + 1) : Nat) : Int) else plcI ds m) = _
  rw [show ds.length - (m + 1) = j by omega, if_pos h]
theorem plcI_no (ds : List ID) {j : Nat} (hj : j < ds.length) (h : ¬ kindAt ds j = 0) : plcI ds (ds.length - (j + 1)) = plcI ds (ds.length - j) := by
  obtain ⟨m, hm⟩ : ∃ m, ds.length - j = m + 1 := ⟨ds.length - j - 1, by omega⟩
  rw [hm, show ds.length - (j + 1) = m by omega]
  show _ = (if kindAt ds (ds.length - (m + 1)) = 0 then ((ds.length - (m + 1) : Nat) : Int) else plcI ds m)
  rw [show ds.length - (m + 1) = j by omega, if_neg h]
/-- FreeInode. -/
def finR (ds : List ID) : Int × Int := if insF ds = 0 then (if plcI ds ds.length < 0 then (8, 0) else (0, plcI ds ds.length)) else (insF ds, 0)
/-- LinksOf. -/
def lnkR (ds : List ID) (at_ : Int) : Int × Int := if insF ds = 0 then (if 0 ≤ at_ ∧ at_ ≤ (ds.length : Int) - 1 then (0, ((allE ds).count at_ : Nat)) else (3, 0)) else (insF ds, 0)

/-- An append of one word. -/
theorem append_w1 (w : World) (n₀ : Nat) (v : Value) (zs : List Int) (y : Int) (hrow : Wds w n₀ v zs) (hn₀ : n₀ ≤ w.heap.size) (hz : zs.length ≤ 16777216) :
    ∃ a c X, (Builtin.append_ #[22, 22] 22 #[v, .slice (some ⟨w.heap.size, 0, none⟩) 1 1]).run Try.prog (w.alloc (.cells #[.int .i64 y] 2)) = .ok (.slice a (zs ++ [y]).length c) X ∧ Wds X n₀ (.slice a (zs ++ [y]).length c) (zs ++ [y]) ∧ Below n₀ w X ∧ KeepT w X := by
  obtain ⟨i, hi, h1, h2, h3⟩ := Try.infoInt'
  have hrow2 : Wds (w.alloc (.cells #[.int .i64 y] 2)) n₀ v zs := hrow.later (later1 _ _)
  obtain ⟨v', X, hr, ho, hg, _⟩ := run_append_own (P := Try.prog) (w.alloc (.cells #[.int .i64 y] 2)) n₀ 22 22 2 i (.int .i64 0) 1 8 Try.underlying22 hi h1 h2 h3 rfl (by decide) v zs.length _ hrow2 ⟨w.heap.size, 0, none⟩ 1 1 [intV y]
    (by simp) (fun j u hu => by
      have hj : j = 0 := by
        have := (List.getElem?_eq_some_iff.1 hu).1
        simp at this; omega
      subst hj
      simp only [List.getElem?_cons_zero, Option.some.injEq] at hu
      subst hu
      rw [add_plain', Nat.add_zero, new_cell]
      rfl) (fun u hu => by
      simp only [List.mem_singleton] at hu
      subst hu
      rfl) (by unfold maxLen; omega) (by omega) (by simp; omega)
  have how : Wds X n₀ v' (zs ++ [y]) := by
    unfold Wds
    rw [List.length_append, List.map_append]
    exact ho
  obtain ⟨a, c, rfl⟩ := how.shape
  refine ⟨a, c, X, hr, how, ((later1 w _).mono hn₀).trans (below_grown hg (by simp; omega) (fun k hk => ?_)), (KeepT.later (later1 _ _)).trans (KeepT.grown hrow2 hg)⟩
  rcases hrow.2 with ⟨e, _⟩ | ⟨g, cap, cur, e, hb, _⟩
  · rw [e] at hk; simp [Value.ownBlock] at hk
  · rw [e] at hk
    simp only [Value.ownBlock, Option.some.injEq] at hk
    omega
theorem Wds.nil (w : World) (n₀ : Nat) : Wds w n₀ (.slice none 0 0) [] := ⟨by simp, Or.inl ⟨rfl, rfl⟩⟩
theorem Wds.own' {w w0 : World} {n₀ : Nat} {v : Value} {zs : List Int} (h : Wds w n₀ v zs) (hn : w0.heap.size ≤ n₀) : IntsO w v zs (fresh w0 w) := by
  by_cases h0 : 0 < zs.length
  · exact h.own h0 hn
  · obtain ⟨a, c, rfl⟩ := h.shape
    have : zs = [] := List.eq_nil_of_length_eq_zero (by omega)
    subst this
    exact Or.inl ⟨rfl, a, c, rfl⟩
end Go.Proofs.Ytagmmgcdebgfnaa

namespace Go.Proofs.Ytagmmgcdebgfnaa
open Go.RowKit
set_option maxRecDepth 100000

/-- The cells of block b, from place o on. -/
def BxO (w : World) (b o : Nat) (vs : List Value) : Prop := ∀ i v, vs[i]? = some v → w.cell? ⟨b, o + i, none⟩ = some v
theorem Bx.zero {w : World} {b : Nat} {vs : List Value} (h : Bx w b vs) : BxO w b 0 vs := fun i v e => by rw [Nat.zero_add]; exact h i v e
end Go.Proofs.Ytagmmgcdebgfnaa

namespace Go.Proofs.Ytagmmgcdebgfnaa
open Go.RowKit
set_option maxRecDepth 100000

theorem entF_name {es : List EN} {i : Nat} (h : ¬ nameF (es[i]?.getD en0).1 = 0) : entF es i = nameF (es[i]?.getD en0).1 := by unfold entF; rw [if_neg h]
theorem entF_rng {es : List EN} {i : Nat} (h : nameF (es[i]?.getD en0).1 = 0) (h2 : ¬ (0 ≤ (es[i]?.getD en0).2 ∧ (es[i]?.getD en0).2 ≤ 9)) : entF es i = 3 := by unfold entF; rw [if_pos h, if_neg h2]
theorem entF_form {es : List EN} {i : Nat} (h : nameF (es[i]?.getD en0).1 = 0) (h2 : 0 ≤ (es[i]?.getD en0).2 ∧ (es[i]?.getD en0).2 ≤ 9) (h3 : 0 < i) (h4 : strLe (es[i]?.getD en0).1 (es[i - 1]?.getD en0).1 = true) : entF es i = 1 := by unfold entF; rw [if_pos h, if_pos h2, if_pos ⟨h3, h4⟩]
theorem entF_ok {es : List EN} {i : Nat} (h : nameF (es[i]?.getD en0).1 = 0) (h2 : 0 ≤ (es[i]?.getD en0).2 ∧ (es[i]?.getD en0).2 ≤ 9) (h3 : ¬ (0 < i ∧ strLe (es[i]?.getD en0).1 (es[i - 1]?.getD en0).1 = true)) : entF es i = 0 := by unfold entF; rw [if_pos h, if_pos h2, if_neg h3]

end Go.Proofs.Ytagmmgcdebgfnaa

namespace Go.Proofs.Ytagmmgcdebgfnaa
open Go.RowKit
set_option maxRecDepth 100000

theorem InoAt.bx {w : World} {b o : Nat} {d : ID} (h : InoAt w b o d) : ∃ aB cB aE cE, BxO w b o [.int .i64 d.1, .int .i64 d.2.1, .int .i64 d.2.2.1, .slice aB d.2.2.2.1.length cB, .slice aE d.2.2.2.2.length cE] ∧ Ints w (.slice aB d.2.2.2.1.length cB) d.2.2.2.1 ∧ Ents w (.slice aE d.2.2.2.2.length cE) d.2.2.2.2 := by
  obtain ⟨aB, cB, aE, cE, h0, h1, h2, h3, h4, h5⟩ := h
  refine ⟨aB, cB, aE, cE, fun i v hi => ?_, h5.2.1, h5.2.2⟩
  match i, hi with
  | 0, hi => simp at hi; subst hi; exact h0
  | 1, hi => simp at hi; subst hi; exact h1
  | 2, hi => simp at hi; subst hi; exact h2
  | 3, hi => simp at hi; subst hi; exact h3
  | 4, hi => simp at hi; subst hi; exact h4
  | n + 5, hi => simp at hi

end Go.Proofs.Ytagmmgcdebgfnaa

namespace Go.Proofs.Ytagmmgcdebgfnaa
open Go.RowKit
set_option maxRecDepth 100000

theorem Wds.lit0 (w : World) : Wds (w.alloc (.cells #[] 2)) w.heap.size (.slice (Option.some ⟨w.heap.size, 0, none⟩) 0 0) [] := Wds.lit w w.heap.size (Nat.le_refl _) [] #[] rfl 0 rfl (by omega)

end Go.Proofs.Ytagmmgcdebgfnaa

namespace Go.Proofs.Ytagmmgcdebgfnaa
open Go.RowKit
set_option maxRecDepth 100000

/-- A file system lies at b, o. -/
structure FsX (w : World) (b o : Nat) (d : FD) (aI : Option Addr) (cI : Nat) (aD : Option Addr) (cD : Nat) : Prop where
  c0 : w.cell? ⟨b, o, none⟩ = some (.slice aI d.1.length cI)
  c1 : w.cell? ⟨b, o + 1, none⟩ = some (.slice aD d.2.length cD)
  ins : Inos w (.slice aI d.1.length cI) d.1
  byt : Byts w (.slice aD d.2.length cD) d.2
theorem FsX.later {w w' : World} {b o : Nat} {d : FD} {aI : Option Addr} {cI : Nat} {aD : Option Addr} {cD : Nat} (h : FsX w b o d aI cI aD cD) (hb : Below w.heap.size w w') : FsX w' b o d aI cI aD cD :=
  ⟨cell_later hb h.c0, cell_later hb h.c1, h.ins.later hb, h.byt.later hb⟩
theorem FsX.drew {w : World} {b o : Nat} {d : FD} {aI : Option Addr} {cI : Nat} {aD : Option Addr} {cD : Nat} (h : FsX w b o d aI cI aD cD) (m : Nat) : FsX (w.drewN m) b o d aI cI aD cD := h.later (below_drewN (Below.refl _ _) m)

/-- An entry that leads nowhere. -/
def lostB (ds : List ID) (x : Int) : Bool := decide ((ds.length : Int) ≤ x) || decide (kindAt ds x.toNat = 0)
def formB (d : FD) : Bool := decide (d.1.length = 0) || decide (kindAt d.1 0 ≠ 2) || decide (d.2.length ≠ 20)
def manyF (zss : List (List UInt8)) (i : Nat) : Int := if 8 < (zss[i]?.getD []).length then 2 else 0
def lostF (ds : List ID) : Int := if (allE ds).any (lostB ds) then 4 else 0
/-- What is wrong of inodes, data and entries. -/
def fsE (d : FD) : Int := if insF d.1 = 0 then (if formB d then 1 else if fstNZ (manyF d.2) d.2.length = 0 then (if onceB d.1 20 then lostF d.1 else 7) else fstNZ (manyF d.2) d.2.length) else insF d.1

end Go.Proofs.Ytagmmgcdebgfnaa

namespace Go.Proofs.Ytagmmgcdebgfnaa
open Go.RowKit
set_option maxRecDepth 100000

theorem ins_ino {ds : List ID} (h : insF ds = 0) : ∀ j, j < ds.length → inoF (ds[j]?.getD id0) = 0 := by
  unfold insF at h
  by_cases h1 : 10 < ds.length
  · rw [if_pos h1] at h; omega
  · rw [if_neg h1] at h; exact fstNZ_inv h
theorem ino_ent {d : ID} (h : inoF d = 0) : ∀ k, k < d.2.2.2.2.length → 0 ≤ (d.2.2.2.2[k]?.getD en0).2 := by
  intro k hk
  have hd : dpB d = true := by unfold dpB; simpa using by omega
  unfold inoF at h
  by_cases h0 : d.1 = 0
  · rw [if_pos h0, hd, Bool.or_true, if_pos rfl] at h; omega
  · rw [if_neg h0] at h
    by_cases h1 : d.1 = 1
    · rw [if_pos h1, hd, if_pos rfl] at h; omega
    · rw [if_neg h1] at h
      by_cases h2 : d.1 = 2
      · rw [if_pos h2] at h
        by_cases h3 : fpB d = true
        · rw [if_pos h3] at h; omega
        · rw [if_neg h3] at h
          unfold dirF at h
          by_cases h4 : 6 < d.2.2.2.2.length
          · rw [if_pos h4] at h; omega
          · rw [if_neg h4] at h
            have h5 := fstNZ_inv h k hk
            unfold entF at h5
            by_cases h6 : nameF (d.2.2.2.2[k]?.getD en0).1 = 0
            · rw [if_pos h6] at h5
              by_cases h7 : 0 ≤ (d.2.2.2.2[k]?.getD en0).2 ∧ (d.2.2.2.2[k]?.getD en0).2 ≤ 9
              · exact h7.1
              · rw [if_neg h7] at h5; omega
            · rw [if_neg h6] at h5; exact absurd h5 h6
      · rw [if_neg h2] at h; omega
theorem mem_allE {ds : List ID} {x : Int} : x ∈ allE ds ↔ ∃ j, j < ds.length ∧ ∃ k, k < (ds[j]?.getD id0).2.2.2.2.length ∧ ((ds[j]?.getD id0).2.2.2.2[k]?.getD en0).2 = x := by
  unfold allE entI
  simp only [List.mem_flatMap, List.mem_map]
  constructor
  · rintro ⟨d, hd, e, he, rfl⟩
    obtain ⟨j, hj, rfl⟩ := List.getElem_of_mem hd
    obtain ⟨k, hk, rfl⟩ := List.getElem_of_mem he
    have e1 : ds[j]?.getD id0 = ds[j] := by simp [hj]
    exact ⟨j, hj, k, by rw [e1]; exact hk, by rw [e1]; simp [hk]⟩
  · rintro ⟨j, hj, k, hk, rfl⟩
    have e1 : ds[j]?.getD id0 = ds[j] := by simp [hj]
    rw [e1] at hk ⊢
    exact ⟨ds[j], List.getElem_mem hj, ds[j].2.2.2.2[k], List.getElem_mem hk, by simp [hk]⟩
theorem lost_yes {ds : List ID} {j k : Nat} (hj : j < ds.length) (hk : k < (ds[j]?.getD id0).2.2.2.2.length) (h : lostB ds ((ds[j]?.getD id0).2.2.2.2[k]?.getD en0).2 = true) : lostF ds = 4 := by
  unfold lostF; rw [if_pos (List.any_eq_true.2 ⟨_, mem_allE.2 ⟨j, hj, k, hk, rfl⟩, h⟩)]
theorem lost_no {ds : List ID} (h : ∀ j, j < ds.length → ∀ k, k < (ds[j]?.getD id0).2.2.2.2.length → lostB ds ((ds[j]?.getD id0).2.2.2.2[k]?.getD en0).2 = false) : lostF ds = 0 := by
  unfold lostF; rw [if_neg]
  intro h1
  obtain ⟨x, hx, h2⟩ := List.any_eq_true.1 h1
  obtain ⟨j, hj, k, hk, rfl⟩ := mem_allE.1 hx
  rw [h j hj k hk] at h2
  exact Bool.noConfusion h2

end Go.Proofs.Ytagmmgcdebgfnaa

namespace Go.Proofs.Ytagmmgcdebgfnaa
open Go.RowKit
set_option maxRecDepth 100000

/-- Whether one of the first n is x. -/
def hasI (bs : List Int) (n : Nat) (x : Int) : Bool := (List.range n).any fun k => bs[k]?.getD 0 == x
theorem hasI_yes {bs : List Int} {n k : Nat} {x : Int} (hk : k < n) (e : bs[k]?.getD 0 = x) : hasI bs n x = true := by
  unfold hasI; rw [List.any_eq_true]; exact ⟨k, by simpa using hk, by simp [e]⟩
theorem hasI_no {bs : List Int} {n : Nat} {x : Int} (h : ∀ k, k < n → ¬ bs[k]?.getD 0 = x) : hasI bs n x = false := by
  unfold hasI; rw [List.any_eq_false]; intro k hk; simp at hk; simp [h k hk]

end Go.Proofs.Ytagmmgcdebgfnaa

namespace Go.Proofs.Ytagmmgcdebgfnaa
open Go.RowKit
set_option maxRecDepth 100000

/-- An array that holds how many need each block. -/
def arrC (f : Nat → Nat) : Array Value := ((List.range 20).map fun i => intV ((f i : Nat) : Int)).toArray
theorem arrC_size (f : Nat → Nat) : (arrC f).size = 20 := by simp [arrC]
theorem arrC_get (f : Nat → Nat) {i : Nat} (h : i < 20) : (arrC f)[i]? = some (.int .i64 ((f i : Nat) : Int)) := by
  simp [arrC, h, intV]
theorem arrC_set (f : Nat → Nat) (q x : Nat) : (arrC f).setIfInBounds q (.int .i64 ((x : Nat) : Int)) = arrC (fun i => if i = q then x else f i) := by
  apply Array.ext_getElem?
  intro i
  rw [Array.getElem?_setIfInBounds]
  by_cases hi : i < 20
  · rw [arrC_get _ hi, arrC_get _ hi, arrC_size]
    by_cases e : q = i
    · subst e; simp [hi]
    · rw [if_neg e, if_neg (fun h => e h.symm)]
  · have h1 : (arrC f)[i]? = none := by rw [Array.getElem?_eq_none_iff, arrC_size]; omega
    have h2 : (arrC (fun i => if i = q then x else f i))[i]? = none := by rw [Array.getElem?_eq_none_iff, arrC_size]; omega
    rw [h1, h2, arrC_size]
    by_cases e : q = i
    · subst e; simp [hi]
    · rw [if_neg e]
theorem arrC_one (f : Nat → Nat) : (arrC f).all (·.oneCell') = true := by
  unfold arrC
  rw [Array.all_eq_true_iff_forall_mem]
  intro v hv
  simp only [List.mem_toArray, List.mem_map] at hv
  obtain ⟨i, _, rfl⟩ := hv
  rfl
section
variable {P : Program} {w : World}
/-- A load, a store whose run is known, at its place in a walk. -/
theorem wpList_load_run {ops : Array Oper} {rest : List Oper} {o : Oper} {a : Act} {Q : Exit → Act → World → Prop} (hgd : o.guard = none) (s : Operand) (t : TypeId) (ho : o.op = .load t s) (v : Value) (hs : a.eval s = v) (v' : Value) (w' : World)
    (hr : (Instr.loadAt t v).run P w = .ok v' w') (h : wpList P ops Q rest (a.put o.dst v') w') : wpList P ops Q (o :: rest) a w := by
  refine wpList_plain hgd fun K hK => ?_
  unfold Oper.wp execOp
  simp only [ho, Sem.run_bind, Sem.run_pure, hs, hr, Result.andThen_ok]
  exact hK _ _ h
theorem wpList_store_run {ops : Array Oper} {rest : List Oper} {o : Oper} {a : Act} {Q : Exit → Act → World → Prop} (hgd : o.guard = none) (s x : Operand) (t : TypeId) (ho : o.op = .store t s x) (v y : Value) (hs : a.eval s = v) (hx : a.eval x = y) (w' : World)
    (hr : (Instr.storeAt t v y).run P w = .ok () w') (h : wpList P ops Q rest (a.put o.dst undef) w') : wpList P ops Q (o :: rest) a w := by
  refine wpList_plain hgd fun K hK => ?_
  unfold Oper.wp execOp
  simp only [ho, Sem.run_bind, Sem.run_pure, hs, hx, hr, Result.andThen_ok]
  exact hK _ _ h
end

end Go.Proofs.Ytagmmgcdebgfnaa

namespace Go.Proofs.Ytagmmgcdebgfnaa
open Go.RowKit
set_option maxRecDepth 100000

/-- Blocks of inodes without a fault stand within the bounds. -/
theorem inoF_blocks {d : ID} (h : inoF d = 0) (k : Nat) (hk : k < d.2.2.2.1.length) : 0 ≤ d.2.2.2.1[k]?.getD 0 ∧ d.2.2.2.1[k]?.getD 0 < 20 := by
  have hp : ∀ x : Bool, (decide (d.2.1 ≠ 0) || decide (d.2.2.1 ≠ 0) || decide (0 < d.2.2.2.1.length)) = x → x = true := fun x hx => by
    rw [← hx, decide_eq_true (show 0 < d.2.2.2.1.length by omega)]; simp
  have hfp : fpB d = true := hp _ rfl
  unfold inoF at h
  rw [hfp] at h
  split at h
  · simp at h
  · split at h
    · split at h
      · omega
      · unfold fileF at h
        split at h
        · split at h
          · unfold blkF at h
            split at h
            · rename_i hz
              have := fstNZ_inv hz k hk
              unfold rngF at this
              split at this
              · omega
              · omega
            · rename_i hz; exact absurd h hz
          · omega
        · omega
    · split at h
      · simp at h
      · omega
theorem insF_len {ds : List ID} (h : insF ds = 0) : ds.length ≤ 10 := by
  unfold insF at h
  split at h
  · omega
  · omega
theorem insF_each {ds : List ID} (h : insF ds = 0) (j : Nat) (hj : j < ds.length) : inoF (ds[j]?.getD id0) = 0 := by
  unfold insF at h
  split at h
  · omega
  · exact fstNZ_inv (f := fun i => inoF (ds[i]?.getD id0)) h j hj
theorem insF_blocks {ds : List ID} (h : insF ds = 0) (j k : Nat) (hj : j < ds.length) (hk : k < (ds[j]?.getD id0).2.2.2.1.length) : 0 ≤ (ds[j]?.getD id0).2.2.2.1[k]?.getD 0 ∧ (ds[j]?.getD id0).2.2.2.1[k]?.getD 0 < 20 := inoF_blocks (insF_each h j hj) k hk

def manyB (f : Nat → Nat) : Bool := (List.range 20).any fun k => decide (1 < f k)
end Go.Proofs.Ytagmmgcdebgfnaa

namespace Go.Proofs.Ytagmmgcdebgfnaa
open Go.RowKit
set_option maxRecDepth 100000

/-- Answers that are a code and words. -/
def AnsIR (w : World) (r : Int × List Int) (e : Ending) (w' : World) : Prop := ∃ a n c, e = .returned (.agg #[.int .i64 r.1, .slice a n c]) ∧ Below w.heap.size w w' ∧ IntsO w' (.slice a n c) r.2 (fresh w w')

end Go.Proofs.Ytagmmgcdebgfnaa

namespace Go.Proofs.Ytagmmgcdebgfnaa
open Go.RowKit
set_option maxRecDepth 100000

theorem AnsIR.box {w w2 : World} {a : Option Addr} {n c : Nat} {zs : List Int} (hb : Below w.heap.size w w2) (ho : IntsO w2 (.slice a n c) zs (fun b => w.heap.size + 1 ≤ b ∧ b < w2.heap.size)) (x y : Value) :
    AnsIR w (0, zs) (.returned (.agg #[.int .i64 0, .slice a n c])) ((w2.setCell ⟨w.heap.size, 0, none⟩ x).setCell ⟨w.heap.size, 1, none⟩ y) := by
  refine ⟨_, _, _, rfl, (hb.setCell (by simp) _).setCell (by simp) _, (ho.keep fun b hb hlt => ?_).mono fun b hb => ⟨by omega, by simp only [World.setCell, Array.size_modify]; exact hb.2⟩⟩
  rw [Below.heap_setCell _ _ _ _ (by simp; omega), Below.heap_setCell _ _ _ _ (by simp; omega)]
theorem AnsIR.bad {w w2 : World} (r : Int) (hb : Below w.heap.size w w2) (x y : Value) :
    AnsIR w (r, []) (.returned (.agg #[.int .i64 r, .slice none 0 0])) ((w2.setCell ⟨w.heap.size, 0, none⟩ x).setCell ⟨w.heap.size, 1, none⟩ y) :=
  ⟨_, _, _, rfl, (hb.setCell (by simp) _).setCell (by simp) _, Or.inl ⟨rfl, _, _, rfl⟩⟩
/-- The result's box, made first. -/
theorem box2 (w : World) (t : TypeId) : OwnRow (w.alloc (.cells #[.int .i64 0, .slice none 0 0] t)) w.heap.size 2 (fun i => if i = 0 then .int .i64 0 else .slice none 0 0) := OwnRow.newS w (.int .i64 0) (.slice none 0 0) t
theorem Wds.box {w W w2 : World} {a : Option Addr} {n c : Nat} {zs : List Int} (hW : W.heap.size = w.heap.size + 1) (h : Wds w2 W.heap.size (.slice a n c) zs) : IntsO w2 (.slice a n c) zs (fun b => w.heap.size + 1 ≤ b ∧ b < w2.heap.size) :=
  (h.own' (w0 := W) (Nat.le_refl _)).mono fun b hb => ⟨by have := hb.1; omega, hb.2⟩

end Go.Proofs.Ytagmmgcdebgfnaa

namespace Go.Proofs.Ytagmmgcdebgfnaa
open Go.RowKit
set_option maxRecDepth 100000

/-- The same, and the list is no longer than its room. -/
def AnsIC (w : World) (r : Int × List Int) (e : Ending) (w' : World) : Prop := AnsIR w r e w' ∧ ∀ x a n c, e = .returned (.agg #[x, .slice a n c]) → n ≤ c
theorem AnsIC.mk {w w' : World} {r : Int × List Int} {x : Value} {a : Option Addr} {n c : Nat} (h : AnsIR w r (.returned (.agg #[x, .slice a n c])) w') (hc : n ≤ c) : AnsIC w r (.returned (.agg #[x, .slice a n c])) w' :=
  ⟨h, fun x' a' n' c' e => by
    simp only [Ending.returned.injEq, Value.agg.injEq, Array.mk.injEq, List.cons.injEq, Value.slice.injEq, and_true] at e
    omega⟩
theorem slice_takeI (a : Option Addr) (n c j : Nat) (hj : j ≤ c) :
    ∃ A C, j ≤ C ∧ (∀ W : World, (Instr.slice 22 (.slice a n c) none (some (.int .i64 (j : Int))) none).run Try.prog W = .ok (.slice A j C) W) ∧ ∀ (W : World) (zs : List Int) (F : Nat → Prop), j ≤ zs.length → IntsO W (.slice a n c) zs F → IntsO W (.slice A j C) (zs.take j) F := by
  obtain ⟨i, hi, _⟩ := Try.infoInt'
  refine ⟨if c = 0 then a else a.map (·.add (0 * 1)), c - 0, by omega, fun W => ?_, fun W zs F hjn h => ?_⟩
  · simp [Instr.slice, Instr.sliceBounds, Instr.sliceBound, asIntOf, run_underlying Try.underlying22, sizeOf, typeInfo, hi, hj]
  · by_cases hj0 : j = 0
    · subst hj0
      exact Or.inl ⟨by simp, _, _, rfl⟩
    · rw [if_neg (by omega)]
      rcases h with ⟨h, _⟩ | ⟨b, cap, hF, h1, h2, h3⟩
      · subst h; simp at hjn; omega
      · simp only [Value.slice.injEq] at h1
        obtain ⟨rfl, rfl, rfl⟩ := h1
        have hl : (zs.take j).length = j := by rw [List.length_take]; omega
        refine Or.inr ⟨b, c - 0, hF, by rw [hl]; simp [Addr.add], by rw [hl]; omega, ?_⟩
        obtain ⟨cs, t, hb, hn, hc⟩ := h3
        refine ⟨cs, t, hb, by rw [hl]; omega, fun k hk => ?_⟩
        rw [hl] at hk
        rw [hc k (by omega)]
        dsimp only
        rw [List.getElem?_take, if_pos hk]
theorem Wds.cap {w : World} {n₀ : Nat} {a : Option Addr} {n c : Nat} {zs : List Int} (h : Wds w n₀ (.slice a n c) zs) : n ≤ c := by
  rcases h.2 with ⟨e, h0⟩ | ⟨g, cap, cur, e, _, _, hnc, _⟩
  · simp only [Value.slice.injEq] at e; omega
  · simp only [Value.slice.injEq] at e; omega

end Go.Proofs.Ytagmmgcdebgfnaa

namespace Go.Proofs.Ytagmmgcdebgfnaa
open Go.RowKit
set_option maxRecDepth 100000

theorem busF_each {zs : List Int} (h : busF zs = 0) (k : Nat) (hk : k < zs.length) : 0 ≤ zs[k]?.getD 0 ∧ zs[k]?.getD 0 < 20 := by
  unfold busF at h
  split at h
  · omega
  · have := fstNZ_inv h k hk
    unfold rngF at this
    split at this <;> omega
theorem busF_len {zs : List Int} (h : busF zs = 0) : zs.length ≤ 20 := by
  unfold busF at h
  split at h <;> omega
theorem cntB_le (ds : List ID) (hs : sizeInos ds ≤ 1048576) (v : Int) : cntB ds v ≤ 1048576 := by
  have h2 := allB_len ds
  have h3 := List.count_le_length (a := v) (l := allB ds)
  unfold sizeInos at hs
  unfold cntB
  omega
theorem manyB_once (ds : List ID) : manyB (fun i => cntB ds (i : Int)) = !onceB ds 20 := by
  unfold manyB onceB
  rw [List.not_all_eq_any_not]
  congr 1
  funext k
  simp only [← decide_not]
  rw [decide_eq_decide]
  omega
theorem freeP_eq (ds : List ID) (bs : List Int) : (fun k : Nat => decide (cntB ds (k : Int) + bs.count (k : Int) = 0)) = freeP ds bs := by
  funext k
  unfold freeP
  cases hb : bs.contains (k : Int) with
  | true =>
    have h1 : (k : Int) ∈ bs := by simpa using hb
    have h2 := List.count_pos_iff.2 h1
    simp; omega
  | false =>
    have h1 : ¬ (k : Int) ∈ bs := by simpa using hb
    have h2 := List.count_eq_zero.2 h1
    rw [h2]; simp

end Go.Proofs.Ytagmmgcdebgfnaa

namespace Go.Proofs.Ytagmmgcdebgfnaa
open Go.RowKit
set_option maxRecDepth 100000

/-- A place of what is not free. -/
def thB (d : FD) (x : Int) : Bool := decide (0 ≤ x ∧ x < (d.1.length : Int)) && !decide (kindAt d.1 x.toNat = 0)
theorem th_lost {d : FD} {x : Int} (h : 0 ≤ x) : thB d x = !lostB d.1 x := by
  unfold thB lostB
  by_cases e : x < (d.1.length : Int)
  · rw [decide_eq_true (show 0 ≤ x ∧ x < (d.1.length : Int) from ⟨h, e⟩), decide_eq_false (show ¬ (d.1.length : Int) ≤ x by omega)]
    simp
  · rw [decide_eq_false (show ¬ (0 ≤ x ∧ x < (d.1.length : Int)) from fun hh => e hh.2), decide_eq_true (show (d.1.length : Int) ≤ x by omega)]
    simp

/-- What is wrong of data and blocks. -/
def dataF (d : FD) : Int := if d.2.length = 20 then (if fstNZ (manyF d.2) d.2.length = 0 then (if onceB d.1 20 then 0 else 7) else fstNZ (manyF d.2) d.2.length) else 1

end Go.Proofs.Ytagmmgcdebgfnaa

namespace Go.Proofs.Ytagmmgcdebgfnaa
open Go.RowKit
set_option maxRecDepth 100000

abbrev E3 := Int × Int × Int
/-- The cells of a row of extents. -/
def exCell (es : List E3) (j : Nat) : Value := .int .i64 (if j % 3 = 0 then (es[j / 3]?.getD (0, 0, 0)).1 else if j % 3 = 1 then (es[j / 3]?.getD (0, 0, 0)).2.1 else (es[j / 3]?.getD (0, 0, 0)).2.2)
theorem exCell_0 (es : List E3) (k : Nat) : exCell es (k * 3) = .int .i64 (es[k]?.getD (0, 0, 0)).1 := by
  unfold exCell; rw [if_pos (by omega), show k * 3 / 3 = k by omega]
theorem exCell_1 (es : List E3) (k : Nat) : exCell es (k * 3 + 1) = .int .i64 (es[k]?.getD (0, 0, 0)).2.1 := by
  unfold exCell; rw [if_neg (by omega), if_pos (by omega), show (k * 3 + 1) / 3 = k by omega]
theorem exCell_2 (es : List E3) (k : Nat) : exCell es (k * 3 + 2) = .int .i64 (es[k]?.getD (0, 0, 0)).2.2 := by
  unfold exCell; rw [if_neg (by omega), if_neg (by omega), show (k * 3 + 2) / 3 = k by omega]

/-- Where the extents of a list lie. -/
def AtE (w : World) (a : Option Addr) (n : Nat) (es : List E3) : Prop :=
  ∀ k, k < n → ∃ b off, a = some ⟨b, off, none⟩ ∧ w.cell? ⟨b, off + k * 3, none⟩ = some (.int .i64 (es[k]?.getD (0, 0, 0)).1) ∧ w.cell? ⟨b, off + k * 3 + 1, none⟩ = some (.int .i64 (es[k]?.getD (0, 0, 0)).2.1) ∧ w.cell? ⟨b, off + k * 3 + 2, none⟩ = some (.int .i64 (es[k]?.getD (0, 0, 0)).2.2)
theorem AtE.later {w w' : World} {a : Option Addr} {n : Nat} {es : List E3} (h : AtE w a n es) (hb : Below w.heap.size w w') : AtE w' a n es := fun k hk => by
  obtain ⟨b, off, e, c0, c1, c2⟩ := h k hk
  exact ⟨b, off, e, cell_later hb c0, cell_later hb c1, cell_later hb c2⟩
/-- The slice v reads as the extents es. -/
def Exts (w : World) (v : Value) (es : List E3) : Prop := ∃ a cap, v = .slice a es.length cap ∧ (es.length ≤ maxLen ∧ es.length ≤ cap) ∧ AtE w a es.length es
theorem Exts.later {w w' : World} {v : Value} {es : List E3} (h : Exts w v es) (hb : Below w.heap.size w w') : Exts w' v es := by
  obtain ⟨a, cap, h1, h2, h3⟩ := h
  exact ⟨a, cap, h1, h2, h3.later hb⟩
theorem Exts.open' {w : World} {v : Value} {es : List E3} (h : Exts w v es) : ∃ a cap, v = .slice a es.length cap ∧ es.length ≤ maxLen ∧ AtE w a es.length es := by
  obtain ⟨a, cap, h1, h2, h3⟩ := h
  exact ⟨a, cap, h1, h2.1, h3⟩
theorem Exts.cap {w : World} {a : Option Addr} {n c : Nat} {es : List E3} (h : Exts w (.slice a n c) es) : es.length ≤ c := by
  obtain ⟨a', c', h1, h2, _⟩ := h
  simp only [Value.slice.injEq] at h1
  rw [h1.2.2]
  exact h2.2
theorem Exts.nil (w : World) (a : Option Addr) (cap : Nat) : Exts w (.slice a 0 cap) [] := ⟨a, cap, rfl, by simp, fun k hk => by simp at hk⟩

/-- The slice v holds the extents es, in one block of F. -/
def ExtsO (w : World) (v : Value) (es : List E3) (F : Nat → Prop) : Prop :=
  (es = [] ∧ ∃ a cap, v = .slice a 0 cap) ∨
  (∃ b cap, F b ∧ v = .slice (some ⟨b, 0, none⟩) es.length cap ∧ (es.length ≤ maxLen ∧ es.length ≤ cap) ∧ OwnRow w b (es.length * 3) (exCell es))
theorem OwnRow.atE {w : World} {b n : Nat} {es : List E3} (h : OwnRow w b (n * 3) (exCell es)) : AtE w (some ⟨b, 0, none⟩) n es := fun k hk =>
  ⟨b, 0, rfl, by rw [Nat.zero_add, h.cell (by omega), exCell_0], by rw [Nat.zero_add, h.cell (by omega), exCell_1], by rw [Nat.zero_add, h.cell (by omega), exCell_2]⟩
theorem ExtsO.reads {w : World} {v : Value} {es : List E3} {F : Nat → Prop} (h : ExtsO w v es F) : Exts w v es := by
  rcases h with ⟨rfl, a, cap, rfl⟩ | ⟨b, cap, _, h1, h2, h3⟩
  · exact Exts.nil w a cap
  · exact ⟨_, cap, h1, h2, h3.atE⟩
theorem ExtsO.keep {w w' : World} {v : Value} {es : List E3} {F : Nat → Prop} (h : ExtsO w v es F) (e : ∀ b, F b → b < w.heap.size → w'.heap[b]? = w.heap[b]?) : ExtsO w' v es F := by
  rcases h with h | ⟨b, cap, hF, h1, h2, h3⟩
  · exact Or.inl h
  · exact Or.inr ⟨b, cap, hF, h1, h2, h3.block (e b hF h3.lt)⟩
theorem ExtsO.mono {w : World} {v : Value} {es : List E3} {F G : Nat → Prop} (h : ExtsO w v es F) (e : ∀ b, F b → G b) : ExtsO w v es G := by
  rcases h with h | ⟨b, cap, hF, h1⟩
  · exact Or.inl h
  · exact Or.inr ⟨b, cap, e b hF, h1⟩
theorem ExtsO.bound {w : World} {v : Value} {es : List E3} {F : Nat → Prop} (h : ExtsO w v es F) : ExtsO w v es (fun b => F b ∧ b < w.heap.size) := by
  rcases h with h | ⟨b, cap, hF, h1, h2, h3⟩
  · exact Or.inl h
  · exact Or.inr ⟨b, cap, ⟨hF, h3.lt⟩, h1, h2, h3⟩
theorem ExtsO.later {w w' : World} {v : Value} {es : List E3} {F : Nat → Prop} (h : ExtsO w v es F) (hb : Below w.heap.size w w') : ExtsO w' v es F := h.keep fun b _ hlt => hb.block b hlt
theorem ExtsO.store {w : World} {v : Value} {es : List E3} {F : Nat → Prop} (h : ExtsO w v es F) {p : Addr} (hp : ∀ b, F b → b ≠ p.block) (x : Value) : ExtsO (w.setCell p x) v es F := h.keep fun b hb _ => Below.heap_setCell _ _ _ _ (hp b hb)

/-- The marks of n extents, from k on. -/
def marksE (k : Int) (n : Nat) : List E3 := (List.range n).map fun i : Nat => (k + 3 * (i : Int), k + 3 * (i : Int) + 1, k + 3 * (i : Int) + 2)
theorem marksE_length (k : Int) (n : Nat) : (marksE k n).length = n := by simp [marksE]
theorem marksE_get (k : Int) {n i : Nat} (h : i < n) : (marksE k n)[i]?.getD (0, 0, 0) = (k + 3 * (i : Int), k + 3 * (i : Int) + 1, k + 3 * (i : Int) + 2) := by simp [marksE, h]
theorem exCell_marks (k : Int) {n c : Nat} (h : c < n * 3) : exCell (marksE k n) c = .int .i64 (k + (c : Int)) := by
  have h3 : c / 3 < n := by omega
  unfold exCell
  rw [marksE_get k h3]
  congr 1
  have : c % 3 = 0 ∨ c % 3 = 1 ∨ c % 3 = 2 := by omega
  rcases this with e | e | e
  · rw [if_pos e]; omega
  · rw [if_neg (by omega), if_pos e]; show k + 3 * ((c / 3 : Nat) : Int) + 1 = k + (c : Int); omega
  · rw [if_neg (by omega), if_neg (by omega)]; show k + 3 * ((c / 3 : Nat) : Int) + 2 = k + (c : Int); omega

/-- 'make' of n triples. -/
theorem run_make_trip {P : Program} (t e : TypeId) (x y z : Value) (bytes : Nat) (ht : P.underlying t = some (.slice e)) (hinfo : (P.info? e).map (fun i => (i.zero, i.size, i.bytes)) = some (some (.agg #[x, y, z]), 3, bytes)) (hz : (Value.agg #[x, y, z]).cells = #[x, y, z])
    (kl kc : IntKind) (n : Nat) (hbytes : bytes * n ≤ 281474976710656) (h63 : n ≤ 9223372036854775807) (w : World) :
    (Instr.makeSlice t (.int kl (n : Int)) (.int kc (n : Int))).run P w = .ok (.slice (some ⟨w.heap.size, 0, none⟩) n n) (w.alloc (.cells (madeCells #[x, y, z] (n * 3)) e)) := by
  obtain ⟨i, hi, hzz⟩ := Option.map_eq_some_iff.1 hinfo
  simp only [Prod.mk.injEq] at hzz
  obtain ⟨h1, h2, h3⟩ := hzz
  have hb' : (i.bytes : Int) * (n : Int) ≤ 281474976710656 := by
    have h : ((i.bytes * n : Nat) : Int) ≤ 281474976710656 := by rw [h3]; omega
    rwa [Int.natCast_mul] at h
  have hr := run_make (P := P) w t e i _ ht hi h1 kl kc n n (by omega) (Int.le_refl _) hb' (by omega)
  simp only [Int.toNat_natCast, h2, hz] at hr
  exact hr
theorem OwnRow.madeTrip (w : World) (n : Nat) (t : TypeId) : OwnRow (w.alloc (.cells (madeCells #[.int .i64 0, .int .i64 0, .int .i64 0] (n * 3)) t)) w.heap.size (n * 3) (fun _ => .int .i64 0) := by
  refine ⟨_, t, Go.Deep.blk_alloc_new _ _, by rw [size_madeCells]; exact Nat.le_refl _, fun i hi => ?_⟩
  unfold madeCells
  rw [Array.getElem?_map]
  have h1 : (Array.range (n * 3))[i]? = some i := by simp [hi]
  rw [h1]
  have : i % 3 = 0 ∨ i % 3 = 1 ∨ i % 3 = 2 := by omega
  rcases this with e | e | e <;> simp [e]
/-- The cells of a row of extents of which the first j stand. -/
def partE (es : List E3) (j c : Nat) : Value := if c < j * 3 then exCell es c else .int .i64 0
theorem partE_next (es : List E3) (j c : Nat) : (if c = j * 3 + 2 then .int .i64 (es[j]?.getD (0, 0, 0)).2.2 else (if c = j * 3 + 1 then .int .i64 (es[j]?.getD (0, 0, 0)).2.1 else (if c = j * 3 then .int .i64 (es[j]?.getD (0, 0, 0)).1 else partE es j c))) = partE es (j + 1) c := by
  unfold partE
  by_cases e2 : c = j * 3 + 2
  · subst e2; rw [if_pos rfl, if_pos (by omega), exCell_2]
  · rw [if_neg e2]
    by_cases e1 : c = j * 3 + 1
    · subst e1; rw [if_pos rfl, if_pos (by omega), exCell_1]
    · rw [if_neg e1]
      by_cases e0 : c = j * 3
      · subst e0; rw [if_pos rfl, if_pos (by omega), exCell_0]
      · rw [if_neg e0]
        by_cases h : c < j * 3
        · rw [if_pos h, if_pos (by omega)]
        · rw [if_neg h, if_neg (by omega)]
end Go.Proofs.Ytagmmgcdebgfnaa

namespace Go.Proofs.Ytagmmgcdebgfnaa
open Go.RowKit
set_option maxRecDepth 100000

/-- The cells of extents, one behind the other. -/
def exCells (es : List E3) : List Value := es.flatMap fun e => [.int .i64 e.1, .int .i64 e.2.1, .int .i64 e.2.2]
theorem exCells_length (es : List E3) : (exCells es).length = es.length * 3 := by
  induction es with
  | nil => rfl
  | cons a t ih =>
    have : exCells (a :: t) = [.int .i64 a.1, .int .i64 a.2.1, .int .i64 a.2.2] ++ exCells t := by simp [exCells]
    rw [this, List.length_append, ih]
    simp [Nat.add_mul]
    omega
theorem exCells_append (es fs : List E3) : exCells (es ++ fs) = exCells es ++ exCells fs := by simp [exCells]
theorem exCells_get (es : List E3) (j : Nat) (h : j < es.length * 3) : (exCells es)[j]? = some (exCell es j) := by
  induction es generalizing j with
  | nil => simp at h
  | cons a t ih =>
    have e : exCells (a :: t) = .int .i64 a.1 :: .int .i64 a.2.1 :: .int .i64 a.2.2 :: exCells t := by simp [exCells]
    rw [e]
    match j with
    | 0 => simp [exCell]
    | 1 => simp [exCell]
    | 2 => simp [exCell]
    | j + 3 =>
      simp only [List.getElem?_cons_succ]
      rw [ih j (by simp at h; omega)]
      unfold exCell
      have h1 : (j + 3) % 3 = j % 3 := by omega
      have h2 : (j + 3) / 3 = j / 3 + 1 := by omega
      rw [h1, h2]
      simp
theorem exCells_one (es : List E3) : ∀ u ∈ exCells es, u.oneCell' = true := by
  intro u hu
  simp only [exCells, List.mem_flatMap] at hu
  obtain ⟨e, _, hu⟩ := hu
  simp at hu
  rcases hu with rfl | rfl | rfl <;> rfl
theorem AtE.cells {w : World} {b off n : Nat} {es : List E3} (h : AtE w (some ⟨b, off, none⟩) n es) (hn : es.length = n) (j : Nat) (u : Value) (hu : (exCells es)[j]? = some u) : w.cell? ((⟨b, off, none⟩ : Addr).add j) = some u := by
  have hj : j < es.length * 3 := by rw [← exCells_length]; exact (List.getElem?_eq_some_iff.1 hu).1
  rw [exCells_get es j hj] at hu
  simp only [Option.some.injEq] at hu
  subst hu
  obtain ⟨b', off', e, c0, c1, c2⟩ := h (j / 3) (by omega)
  simp only [Option.some.injEq, Addr.mk.injEq, and_true] at e
  obtain ⟨rfl, rfl⟩ := e
  rw [add_plain']
  have : j % 3 = 0 ∨ j % 3 = 1 ∨ j % 3 = 2 := by omega
  unfold exCell
  rcases this with e | e | e
  · rw [if_pos e, ← c0, show off + j = off + j / 3 * 3 by omega]
  · rw [if_neg (by omega), if_pos e, ← c1, show off + j = off + j / 3 * 3 + 1 by omega]
  · rw [if_neg (by omega), if_neg (by omega), ← c2, show off + j = off + j / 3 * 3 + 2 by omega]

end Go.Proofs.Ytagmmgcdebgfnaa

namespace Go.Proofs.Ytagmmgcdebgfnaa
open Go.RowKit
set_option maxRecDepth 100000

/-- 'copy' between two rows of n elements of 'size' cells each. -/
theorem run_copy_wide {P : Program} (w : World) (dT sT ty elem : TypeId) (g n dCap : Nat) (a : Addr) (sCap size : Nat) (cur : Array Value) (t : TypeId) (cs : List Value)
    (hu : P.underlying dT = some (.slice elem)) (hs : (P.info? elem).map (·.size) = some size)
    (hg : w.heap[g]? = some (.cells cur t (0, 0))) (hn : cs.length = n * size)
    (hsrc : ∀ j v, cs[j]? = some v → w.cell? (a.add j) = some v) (hfit : cs.length ≤ cur.size) (h1 : ∀ v ∈ cs, v.oneCell' = true) :
    (Builtin.copy_ #[dT, sT] ty #[.slice (some ⟨g, 0, none⟩) n dCap, .slice (some a) n sCap]).run P w = .ok (goInt n) (w.setRow g (cs ++ cur.toList.drop cs.length).toArray) := by
  have hl := run_loadCells_list (P := P) w a cs hsrc
  have hst := run_storeCells_at P g 0 t cs 0 cur w hg (by simpa using hfit) h1
  simp only [Nat.zero_add, List.take_zero, List.nil_append] at hst
  cases hq : P.info? elem with
  | none => simp [hq] at hs
  | some i =>
    have hi : i.size = size := by simpa [hq] using hs
    have hm : Nat.min n n = n := Nat.min_self n
    simp [Builtin.copy_, run_underlying hu, Builtin.lenOf, Builtin.firstCells, sizeOf, typeInfo, hq, hi, hm, ← hn, hl, hst]
theorem run_copy_zero {P : Program} (w : World) (dT sT ty elem : TypeId) (d a : Option Addr) (dCap sCap size : Nat) (hu : P.underlying dT = some (.slice elem)) (hs : (P.info? elem).map (·.size) = some size) :
    (Builtin.copy_ #[dT, sT] ty #[.slice d 0 dCap, .slice a 0 sCap]).run P w = .ok (goInt 0) w := by
  cases hq : P.info? elem with
  | none => simp [hq] at hs
  | some i => cases a <;> cases d <;> simp [Builtin.copy_, run_underlying hu, Builtin.lenOf, Builtin.firstCells, sizeOf, typeInfo, hq, storeCells, loadCells, loadCellsFrom]

end Go.Proofs.Ytagmmgcdebgfnaa

namespace Go.Proofs.Ytagmmgcdebgfnaa
open Go.RowKit
set_option maxRecDepth 100000

theorem AtE.take {w : World} {a : Option Addr} {n : Nat} {es : List E3} (h : AtE w a n es) {j : Nat} (hj : j ≤ n) : AtE w a j (es.take j) := fun k hk => by
  obtain ⟨b, off, e, c0, c1, c2⟩ := h k (by omega)
  refine ⟨b, off, e, ?_, ?_, ?_⟩ <;> rw [List.getElem?_take, if_pos hk] <;> assumption
end Go.Proofs.Ytagmmgcdebgfnaa

namespace Go.Proofs.Ytagmmgcdebgfnaa
open Go.RowKit
set_option maxRecDepth 100000

def Qu (w : World) (n₀ : Nat) (v : Value) (zs : List Int) : Prop :=
  ∃ g off cap cur, v = .slice (some ⟨g, off, none⟩) zs.length cap ∧ n₀ ≤ g ∧ w.heap[g]? = some (.cells cur 2 (0, 0)) ∧ zs.length ≤ cap ∧ cap ≤ maxLen ∧ off + cap ≤ cur.size ∧ ∀ k, k < zs.length → cur[off + k]? = some (.int .i64 (zs[k]?.getD 0))
theorem Qu.keep {w w' : World} {n₀ : Nat} {v : Value} {zs : List Int} (h : Qu w n₀ v zs) (e : ∀ b c f, n₀ ≤ b → w.heap[b]? = some (.cells c 2 f) → w'.heap[b]? = w.heap[b]?) : Qu w' n₀ v zs := by
  obtain ⟨g, off, cap, cur, h1, h2, h3, h4⟩ := h
  exact ⟨g, off, cap, cur, h1, h2, (e g _ _ h2 h3).trans h3, h4⟩
theorem Qu.later {w w' : World} {n₀ : Nat} {v : Value} {zs : List Int} (h : Qu w n₀ v zs) (hb : Below w.heap.size w w') : Qu w' n₀ v zs := h.keep fun b _ _ _ hc => hb.block b (Array.getElem?_eq_some_iff.1 hc).1
theorem Qu.shape {w : World} {n₀ : Nat} {v : Value} {zs : List Int} (h : Qu w n₀ v zs) : ∃ a c, v = .slice a zs.length c ∧ zs.length ≤ c := by
  obtain ⟨g, off, cap, cur, rfl, _, _, h4, _⟩ := h
  exact ⟨_, _, rfl, h4⟩
theorem Qu.one (w : World) (n₀ : Nat) (hn : n₀ ≤ w.heap.size) (x : Int) : Qu (w.alloc (.cells #[.int .i64 x] 2)) n₀ (.slice (some ⟨w.heap.size, 0, none⟩) 1 1) [x] :=
  ⟨w.heap.size, 0, 1, #[.int .i64 x], rfl, hn, Go.Deep.blk_alloc_new _ _, by simp, by unfold maxLen; omega, by simp, fun k hk => by
    have : k = 0 := by simp at hk; exact hk
    subst this; rfl⟩
theorem Qu.cell {w : World} {n₀ : Nat} {a : Option Addr} {n c : Nat} {zs : List Int} (h : Qu w n₀ (.slice a n c) zs) {k : Nat} (hk : k < zs.length) : ∃ g off, a = some ⟨g, off, none⟩ ∧ w.cell? ⟨g, off + k, none⟩ = some (.int .i64 (zs[k]?.getD 0)) := by
  obtain ⟨g, off, cap, cur, e, _, h3, _, _, _, h6⟩ := h
  simp only [Value.slice.injEq] at e
  refine ⟨g, off, e.1, ?_⟩
  have := h6 k hk
  simp [World.cell?, h3, this]
theorem slice_tailQ (a : Option Addr) (n c : Nat) (hl : 1 ≤ n) (hc : n ≤ c) :
    ∃ A C, (∀ W : World, (Instr.slice 22 (.slice a n c) (some (.int .i64 1)) none none).run Try.prog W = .ok (.slice A (n - 1) C) W) ∧ ∀ (W : World) (n₀ : Nat) (z : Int) (zs : List Int), Qu W n₀ (.slice a n c) (z :: zs) → Qu W n₀ (.slice A (n - 1) C) zs := by
  obtain ⟨i, hi, _, h2, _⟩ := Try.infoInt'
  refine ⟨if c = 1 then a else a.map (·.add 1), c - 1, fun W => ?_, fun W n₀ z zs h => ?_⟩
  · simp [Instr.slice, Instr.sliceBounds, Instr.sliceBound, asIntOf, run_underlying Try.underlying22, sizeOf, typeInfo, hi, h2]
    intro hlt
    omega
  · obtain ⟨g, off, cap, cur, e, h1, h3, h4, h5, h6, h7⟩ := h
    simp only [Value.slice.injEq, List.length_cons] at e
    obtain ⟨rfl, rfl, rfl⟩ := e
    simp only [List.length_cons] at h4 h7
    by_cases hcl : c = 1
    · have hz : zs = [] := List.eq_nil_of_length_eq_zero (by omega)
      subst hz
      rw [if_pos hcl]
      exact ⟨g, off, c - 1, cur, by simp, h1, h3, by simp, by omega, by omega, fun k hk => by simp at hk⟩
    · rw [if_neg hcl]
      refine ⟨g, off + 1, c - 1, cur, by simp [add_plain'], h1, h3, by omega, by omega, by omega, fun k hk => ?_⟩
      have := h7 (k + 1) (by omega)
      rw [show off + 1 + k = off + (k + 1) by omega, this]
      simp
/-- Blocks that hold no words stand as they did. -/
def KeepQ (w w' : World) : Prop := ∀ (b : Nat) (o : Obj), w.heap[b]? = some o → (∀ c f, o ≠ .cells c 2 f) → w'.heap[b]? = some o
theorem append_q (w : World) (n₀ : Nat) (v : Value) (zs : List Int) (x : Int) (hq : Qu w n₀ v zs) (hn₀ : n₀ ≤ w.heap.size) (hz : zs.length ≤ 1000) :
    ∃ v' X, (Builtin.append_ #[22, 22] 22 #[v, .slice (some ⟨w.heap.size, 0, none⟩) 1 1]).run Try.prog (w.alloc (.cells #[.int .i64 x] 2)) = .ok v' X ∧ Qu X n₀ v' (zs ++ [x]) ∧ Below n₀ w X ∧ KeepQ w X := by
  obtain ⟨i, hi, h1, h2, h3⟩ := Try.infoInt'
  have hq' := hq.later (later1 w (.cells #[.int .i64 x] 2))
  have hBW : Below n₀ w (w.alloc (.cells #[.int .i64 x] 2)) := (later1 w _).mono hn₀
  have hKW : KeepQ w (w.alloc (.cells #[.int .i64 x] 2)) := fun b o hb _ => ((later1 w _).block b (Array.getElem?_eq_some_iff.1 hb).1).trans hb
  have hcell : (w.alloc (.cells #[.int .i64 x] 2)).cell? ⟨w.heap.size, 0, none⟩ = some (.int .i64 x) := by rw [new_cell]; rfl
  have hsz : n₀ ≤ (w.alloc (.cells #[.int .i64 x] 2)).heap.size := by simp; omega
  generalize hW : w.alloc (.cells #[.int .i64 x] 2) = W at *
  clear hW
  obtain ⟨g, off, cap, cur, rfl, hg0, hg, hnc, hcm, hoc, hrd⟩ := hq'
  have hglt : g < W.heap.size := (Array.getElem?_eq_some_iff.1 hg).1
  have hnews : ∀ j u, ([.int .i64 x] : List Value)[j]? = some u → W.cell? ((⟨w.heap.size, 0, none⟩ : Addr).add j) = some u := fun j u hu => by
    match j, hu with
    | 0, hu => simp at hu; subst hu; rw [add_plain']; exact hcell
    | j + 1, hu => simp at hu
  by_cases hroom : zs.length + 1 ≤ cap
  · have hf := run_firstCells_some (P := Try.prog) W i.size 1 ⟨w.heap.size, 0, none⟩ 1 1 [.int .i64 x] (by simp [h2]) hnews
    rw [h2] at hf
    have hst := run_storeCells_at Try.prog g (off + zs.length) 2 [.int .i64 x] 0 cur W hg (by simp; omega) (by simp [Value.oneCell'])
    simp only [Nat.add_zero, List.length_cons, List.length_nil, Nat.zero_add] at hst
    refine ⟨.slice (some ⟨g, off, none⟩) (zs.length + 1) cap, W.setRow g (cur.toList.take (off + zs.length) ++ [Value.int .i64 x] ++ cur.toList.drop (off + zs.length + 1)).toArray, ?_, ?_, hBW.trans ?_, ?_⟩
    · simp [Builtin.append_, run_underlying Try.underlying22, sizeOf, typeInfo, hi, h2, Builtin.lenOf, hroom, hf, add_plain', hst]
    · refine ⟨g, off, cap, _, by simp, hg0, setRow_heap W g cur _ 2 _ hg, by simp; omega, hcm, ?_, fun k hk => ?_⟩
      · simp only [List.size_toArray, List.length_append, List.length_take, List.length_drop, Array.length_toList, List.length_cons, List.length_nil]
        omega
      · simp only [List.length_append, List.length_cons, List.length_nil] at hk
        have hlt : (cur.toList.take (off + zs.length)).length = off + zs.length := by rw [List.length_take]; simp; omega
        rw [List.getElem?_toArray, List.append_assoc]
        by_cases hkz : k < zs.length
        · rw [List.getElem?_append_left (by rw [hlt]; omega), List.getElem?_take, if_pos (by omega), List.getElem?_append_left hkz, Array.getElem?_toList]
          exact hrd k hkz
        · have : k = zs.length := by omega
          subst this
          rw [List.getElem?_append_right (by rw [hlt]; omega), hlt, Nat.sub_self]
          simp
    · refine ⟨rfl, rfl, rfl, by simp, fun b hb => setRow_other W g b _ (by omega)⟩
    · intro b o hb ho
      have hb' := hKW b o hb ho
      by_cases e : b = g
      · subst e
        rw [hg] at hb'
        simp only [Option.some.injEq] at hb'
        exact absurd hb'.symm (ho _ _)
      · rw [← hb']; exact setRow_other W g b _ e
  · have hr := run_append_grow (P := Try.prog) W 22 22 2 i (.int .i64 0) Try.underlying22 hi h1 ⟨g, off, none⟩ zs.length cap (zs.map intV) (by simp [h2]) (fun j u hu => by
      rw [List.getElem?_map, Option.map_eq_some_iff] at hu
      obtain ⟨z, hz1, rfl⟩ := hu
      have hj : j < zs.length := (List.getElem?_eq_some_iff.1 hz1).1
      have := hrd j hj
      rw [hz1, Option.getD_some] at this
      rw [add_plain']
      simp [World.cell?, hg, this, intV]) ⟨w.heap.size, 0, none⟩ 1 1 [.int .i64 x] (by simp [h2]) hnews (by omega) (by omega) (growslice_fits (by omega) (by rw [h3]; omega))
    have hge := grownCap_ge W (zs.length + 1) cap 2
    have hcm' := grownCap_le_maxLen W (zs.length + 1) cap 2 (by unfold maxLen; omega)
    have hBX : ∀ o, Below W.heap.size W (W.drew.alloc o) := fun o => ⟨rfl, rfl, rfl, by simp, fun b hb => (later1 W.drew o).block b hb⟩
    refine ⟨_, _, hr, ?_, hBW.trans ((hBX _).mono hsz), fun b o hb ho => ?_⟩
    · refine ⟨W.heap.size, 0, _, _, by simp, hsz, Go.Deep.blk_alloc_new _ _, by simp; omega, hcm', ?_, fun k hk => ?_⟩
      · simp only [Array.size_append, List.size_toArray, size_zeroCells, List.length_map, List.length_cons, List.length_nil, Value.cells]
        simp
        omega
      · simp only [List.length_append, List.length_cons, List.length_nil] at hk
        rw [Nat.zero_add, Array.getElem?_append_left (by simp; omega)]
        by_cases hkz : k < zs.length
        · rw [Array.getElem?_append_left (by simpa using hkz), List.getElem?_append_left hkz]
          simp [List.getElem?_eq_getElem hkz, intV]
        · have : k = zs.length := by omega
          subst this
          rw [Array.getElem?_append_right (by simp)]
          simp
    · rw [(hBX _).block b (Array.getElem?_eq_some_iff.1 (hKW b o hb ho)).1]
      exact hKW b o hb ho
end Go.Proofs.Ytagmmgcdebgfnaa
