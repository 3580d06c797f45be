/- The program's file at work: opened; DropFile. ReadFile, the specification's and the program's. The program's file at work: settled, and which bytes stand in a block. The program's file at work: written. ReadFile: the walks. The program's: what SetBytes, WriteFile and CutFile ask alike. The program's DropFile. The program's SetBytes. -/
import Derived.Test.YtjabimfinanjoaaGreatM14
import Derived.Test.YtjabimfinanjoaaGreatM17
import Derived.Test.YtjabimfinanjoaaGreatM09
import Derived.Deep.RegionLaw
import Derived.Test.YtjabimfinanjoaaGreatM16
import Derived.Test.YtjabimfinanjoaaGreatM06
namespace Go.Proofs.YtjabimfinanjoaaGreat
open Go.RowKit
set_option maxRecDepth 100000

theorem AnsFR.put {w W : World} {rb : Nat} {c : Int} {d : FD} {a1 a2 : Option Addr} {n1 c1 n2 c2 : Nat} (hB : Below w.heap.size w W) (hrb : w.heap.size ≤ rb) (h : FsU W (.slice a1 n1 c1) (.slice a2 n2 c2) d (fun b => w.heap.size ≤ b ∧ b < W.heap.size ∧ b ≠ rb)) (x y z : Value) : AnsFR w (c, d) (.returned (.agg #[.int .i64 c, .slice a1 n1 c1, .slice a2 n2 c2])) (((W.setCell ⟨rb, 0, none⟩ x).setCell ⟨rb, 1, none⟩ y).setCell ⟨rb, 2, none⟩ z) := by
  refine ⟨_, _, _, _, _, _, rfl, ((hB.setCell hrb _).setCell hrb _).setCell hrb _, (h.keep fun b hb _ => ?_).mono fun b hb => ?_⟩
  · rw [Below.heap_setCell _ _ _ _ hb.2.2, Below.heap_setCell _ _ _ _ hb.2.2, Below.heap_setCell _ _ _ _ hb.2.2]
  · unfold fresh
    simp only [World.setCell, Array.size_modify]
    exact ⟨hb.1, hb.2.1⟩
theorem AnsFR.none' {w W : World} {rb : Nat} (c : Int) (hB : Below w.heap.size w W) (hrb : w.heap.size ≤ rb) (x y z : Value) : AnsFR w (noFs c) (.returned (.agg #[.int .i64 c, .slice none 0 0, .slice none 0 0])) (((W.setCell ⟨rb, 0, none⟩ x).setCell ⟨rb, 1, none⟩ y).setCell ⟨rb, 2, none⟩ z) :=
  AnsFR.put hB hrb ⟨fun _ => False, fun _ => False, Or.inl ⟨rfl, none, 0, rfl⟩, Or.inl ⟨rfl, none, 0, rfl⟩, fun _ h => h.elim, fun _ h => h.elim False.elim False.elim⟩ x y z
theorem AnsFR.later {w w2 w3 : World} {r : Int × FD} {e : Ending} (h : AnsFR w r e w2) (hb : Below w2.heap.size w2 w3) : AnsFR w r e w3 := by
  obtain ⟨a1, n1, c1, a2, n2, c2, h1, h2, h3⟩ := h
  exact ⟨a1, n1, c1, a2, n2, c2, h1, h2.trans (hb.mono h2.size), (h3.keep fun b _ hlt => hb.block b hlt).mono fun b hh => ⟨hh.1, Nat.lt_of_lt_of_le hh.2 hb.size⟩⟩
theorem FsS.fsB {w : World} {bI n cI bD m cD : Nat} {d : FD} {F : Nat → Prop} (h : FsS w bI n cI bD m cD d F) : FsU w (.slice (some ⟨bI, 0, none⟩) n cI) (.slice (some ⟨bD, 0, none⟩) m cD) d (fun b => F b ∧ b < w.heap.size) := by
  obtain ⟨F1, G1, h1, h2, h3, h4⟩ := h
  exact ⟨F1, G1, h1.inos, h2.byts, h3, fun b hb => h4 b hb⟩
/-- A file at work: where it lies, and its file system around it. -/
structure FileS (w0 w : World) (bf bI n cI bD cD : Nat) (d : FD) (j : Nat) (x : ID) (aB : Option Addr) (cB : Nat) (aE : Option Addr) (cE : Nat) : Prop where
  below : Below w0.heap.size w0 w
  new : w0.heap.size ≤ bf
  box : OwnRow w bf 8 (cel [.int .i64 x.1, .int .i64 x.2.1, .int .i64 x.2.2.1, .slice aB x.2.2.2.1.length cB, .slice aE x.2.2.2.2.length cE, .int .i64 (j : Int), .slice (some ⟨bI, 0, none⟩) n cI, .slice (some ⟨bD, 0, none⟩) 20 cD])
  fs : FsS w bI n cI bD 20 cD d (fun c => w0.heap.size ≤ c ∧ c ≠ bf)
  blk : BlkR w bD aB x.2.2.2.1

set_option maxHeartbeats 3200000 in
theorem openFile_row (w : World) (a1 : Option Addr) (n1 c1 : Nat) (a2 : Option Addr) (n2 c2 : Nat) (d : FD) (j : Nat) (h : FsR w (.slice a1 n1 c1) (.slice a2 n2 c2) d) (hs : sizeFs d ≤ 1048576) (h20 : d.2.length = 20) (hj : j < d.1.length) (h10 : d.1.length ≤ 10) :
    Calls Tryz.prog 28 #[.agg #[.slice a1 n1 c1, .slice a2 n2 c2], .int .i64 (j : Int)] w fun e w' => ∃ bf bI cI bD cD aB cB aE cE, e = .returned (.pointer (some ⟨bf, 0, none⟩)) ∧ (FileS w w' bf bI d.1.length cI bD cD d j (d.1[j]?.getD id0) aB cB aE cE ∧ w'.cell? ⟨bI, j * 5 + 3, none⟩ = some (.slice aB (d.1[j]?.getD id0).2.2.2.1.length cB) ∧ w'.cell? ⟨bI, j * 5 + 4, none⟩ = some (.slice aE (d.1[j]?.getD id0).2.2.2.2.length cE)) := by
  have HCP : Hid (Calls Tryz.prog 49 #[.agg #[.slice a1 n1 c1, .slice a2 n2 c2]] (w.alloc (.cells #[.slice a1 n1 c1, .slice a2 n2 c2] 31)) (AnsFs (w.alloc (.cells #[.slice a1 n1 c1, .slice a2 n2 c2] 31)) d)) := copyOfFs_any _ a1 n1 c1 a2 n2 c2 d (h.later (later1 _ _)) hs (by omega)
  clear h hs
  go_enter Tryz.func28, Tryz.ntmps28
  go_wp2_with fail
  refine HCP.out.mono ?_
  rintro e w1 ⟨b1, m1, cI, b2, m2, cD, rfl, hb1, hf1⟩
  obtain ⟨bI, e1, bD, e2, eI, eD, hfs⟩ := FsS.of hf1 (by omega) (by omega)
  simp only [Value.slice.injEq] at eI eD
  obtain ⟨rfl, rfl, rfl⟩ := eI
  obtain ⟨rfl, rfl, rfl⟩ := eD
  have HB1 : Hid (Below w.heap.size w w1) := (later1 _ _).trans (hb1.mono (by simp))
  have HFS : Hid (FsS w1 bI d.1.length cI bD 20 cD d (fun c => w.heap.size + 1 ≤ c ∧ c < w1.heap.size)) := by
    rw [h20] at hfs
    exact hfs.mono fun c hc => ⟨by have := hc.1; simp at this; omega, hc.2⟩
  obtain ⟨aB, cB, aE, cE, i0, i1, i2, i3, i4, _, _, i7⟩ := HFS.out.ino j hj
  have hne := HFS.out.ne
  have hlI : bI < w1.heap.size := hne.2.1.2
  have hw1 : w.heap.size + 1 ≤ w1.heap.size := by have := hb1.size; simpa using this
  have HFIN : Hid (FileS w ((w1.alloc (.cells #[.slice (some ⟨bI, 0, none⟩) d.1.length cI, .slice (some ⟨bD, 0, none⟩) 20 cD] 31)).alloc (.cells #[.int .i64 (d.1[j]?.getD id0).1, .int .i64 (d.1[j]?.getD id0).2.1, .int .i64 (d.1[j]?.getD id0).2.2.1, .slice aB (d.1[j]?.getD id0).2.2.2.1.length cB, .slice aE (d.1[j]?.getD id0).2.2.2.2.length cE, .int .i64 (j : Int), .slice (some ⟨bI, 0, none⟩) d.1.length cI, .slice (some ⟨bD, 0, none⟩) 20 cD] 87)).drew (w1.heap.size + 1) bI d.1.length cI bD cD d j (d.1[j]?.getD id0) aB cB aE cE ∧ ((w1.alloc (.cells #[.slice (some ⟨bI, 0, none⟩) d.1.length cI, .slice (some ⟨bD, 0, none⟩) 20 cD] 31)).alloc (.cells #[.int .i64 (d.1[j]?.getD id0).1, .int .i64 (d.1[j]?.getD id0).2.1, .int .i64 (d.1[j]?.getD id0).2.2.1, .slice aB (d.1[j]?.getD id0).2.2.2.1.length cB, .slice aE (d.1[j]?.getD id0).2.2.2.2.length cE, .int .i64 (j : Int), .slice (some ⟨bI, 0, none⟩) d.1.length cI, .slice (some ⟨bD, 0, none⟩) 20 cD] 87)).drew.cell? ⟨bI, j * 5 + 3, none⟩ = some (.slice aB (d.1[j]?.getD id0).2.2.2.1.length cB) ∧ ((w1.alloc (.cells #[.slice (some ⟨bI, 0, none⟩) d.1.length cI, .slice (some ⟨bD, 0, none⟩) 20 cD] 31)).alloc (.cells #[.int .i64 (d.1[j]?.getD id0).1, .int .i64 (d.1[j]?.getD id0).2.1, .int .i64 (d.1[j]?.getD id0).2.2.1, .slice aB (d.1[j]?.getD id0).2.2.2.1.length cB, .slice aE (d.1[j]?.getD id0).2.2.2.2.length cE, .int .i64 (j : Int), .slice (some ⟨bI, 0, none⟩) d.1.length cI, .slice (some ⟨bD, 0, none⟩) 20 cD] 87)).drew.cell? ⟨bI, j * 5 + 4, none⟩ = some (.slice aE (d.1[j]?.getD id0).2.2.2.2.length cE)) := by
    have hl2 : ∀ o o' : Obj, Below w1.heap.size w1 ((w1.alloc o).alloc o').drew := fun o o' => (later2 w1 o o').drew
    refine ⟨⟨HB1.out.trans ((hl2 _ _).mono HB1.out.size), by omega, ?_, (HFS.out.later (hl2 _ _)).mono fun c hc => ⟨by omega, by omega⟩, fun k hk => ?_⟩, cell_later (hl2 _ _) i3, cell_later (hl2 _ _) i4⟩
    · have := newCel (w1.alloc (.cells #[.slice (some ⟨bI, 0, none⟩) d.1.length cI, .slice (some ⟨bD, 0, none⟩) 20 cD] 31)) [.int .i64 (d.1[j]?.getD id0).1, .int .i64 (d.1[j]?.getD id0).2.1, .int .i64 (d.1[j]?.getD id0).2.2.1, .slice aB (d.1[j]?.getD id0).2.2.2.1.length cB, .slice aE (d.1[j]?.getD id0).2.2.2.2.length cE, .int .i64 (j : Int), .slice (some ⟨bI, 0, none⟩) d.1.length cI, .slice (some ⟨bD, 0, none⟩) 20 cD] 87
      rw [World.size_alloc] at this
      exact this.later (Below.refl _ _).drew
    · obtain ⟨b, f1, _, _, f4, f5, f6⟩ := i7 k hk
      exact ⟨b, f1, f4, Nat.lt_of_lt_of_le f5 (hl2 (.cells #[.slice (some ⟨bI, 0, none⟩) d.1.length cI, .slice (some ⟨bD, 0, none⟩) 20 cD] 31) (.cells #[.int .i64 (d.1[j]?.getD id0).1, .int .i64 (d.1[j]?.getD id0).2.1, .int .i64 (d.1[j]?.getD id0).2.2.1, .slice aB (d.1[j]?.getD id0).2.2.2.1.length cB, .slice aE (d.1[j]?.getD id0).2.2.2.2.length cE, .int .i64 (j : Int), .slice (some ⟨bI, 0, none⟩) d.1.length cI, .slice (some ⟨bD, 0, none⟩) 20 cD] 87)).size, cell_later (hl2 _ _) f6⟩
  have hjI : (j : Int) < ((d.1.length : Nat) : Int) := by omega
  rw [h20]
  clear HFS i7 hfs hf1 hb1 hne HCP
  generalize hl1 : (d.1[j]?.getD id0).2.2.2.1.length = l1 at *
  generalize hl2 : (d.1[j]?.getD id0).2.2.2.2.length = l2 at *
  have HL1 : Hid ((d.1[j]?.getD id0).2.2.2.1.length = l1) := hl1
  have HL2 : Hid ((d.1[j]?.getD id0).2.2.2.2.length = l2) := hl2
  clear hl1 hl2
  generalize (d.1[j]?.getD id0).1 = y0 at *
  generalize (d.1[j]?.getD id0).2.1 = y1 at *
  generalize (d.1[j]?.getD id0).2.2.1 = y2 at *
  obtain ⟨n, hn⟩ : ∃ n, d.1.length = n := ⟨_, rfl⟩
  have HN : Hid (d.1.length = n) := hn
  rw [hn] at hj h10 hjI HFIN ⊢
  clear hn
  have hnw1 : w1.heap.size ≠ bI := by omega
  have hnw2 : bI ≠ w1.heap.size := by omega
  go_wp2_with fail
  go_region_held3 (fun W => W.cell? ⟨w1.heap.size, 0, none⟩ = some (.slice (some ⟨bI, 0, none⟩) n cI) ∧ W.cell? ⟨w1.heap.size, 1, none⟩ = some (.slice (some ⟨bD, 0, none⟩) 20 cD) ∧ W.cell? ⟨bI, j * 5, none⟩ = some (.int .i64 y0) ∧ W.cell? ⟨bI, j * 5 + 1, none⟩ = some (.int .i64 y1) ∧ W.cell? ⟨bI, j * 5 + 2, none⟩ = some (.int .i64 y2) ∧ W.cell? ⟨bI, j * 5 + 3, none⟩ = some (.slice aB l1 cB) ∧ W.cell? ⟨bI, j * 5 + 4, none⟩ = some (.slice aE l2 cE)) (go_keep) (fail)
  all_goals
    go_wp2
    go_ret
    first
      | exact ⟨w1.heap.size + 1, bI, cI, bD, cD, aB, cB, aE, cE, rfl, by rw [HL1.out, HL2.out]; exact HFIN.out⟩
      | exact ⟨w1.heap.size + 1, bI, cI, bD, cD, aB, cB, aE, cE, rfl, by rw [HN.out, HL1.out, HL2.out]; exact HFIN.out⟩
theorem openFile_any (w : World) (a1 : Option Addr) (n1 c1 : Nat) (a2 : Option Addr) (n2 c2 : Nat) (d : FD) (j : Nat) (h : FsR w (.slice a1 n1 c1) (.slice a2 n2 c2) d) (hs : sizeFs d ≤ 1048576) (h20 : d.2.length = 20) (hj : j < d.1.length) (h10 : d.1.length ≤ 10) :
    Calls Tryz.prog 28 #[.agg #[.slice a1 n1 c1, .slice a2 n2 c2], .int .i64 (j : Int)] w fun e w' => ∃ bf bI cI bD cD aB cB aE cE, e = .returned (.pointer (some ⟨bf, 0, none⟩)) ∧ FileS w w' bf bI d.1.length cI bD cD d j (d.1[j]?.getD id0) aB cB aE cE := by
  refine (openFile_row w a1 n1 c1 a2 n2 c2 d j h hs h20 hj h10).mono ?_
  rintro e w' ⟨bf, bI, cI, bD, cD, aB, cB, aE, cE, he, hf, _⟩
  exact ⟨bf, bI, cI, bD, cD, aB, cB, aE, cE, he, hf⟩
end Go.Proofs.YtjabimfinanjoaaGreat

namespace Go.Proofs.YtjabimfinanjoaaGreat
open Go.RowKit
set_option maxRecDepth 100000

theorem slice_Y (a : Option Addr) (n c lo hi : Nat) (h1 : lo ≤ hi) (h2 : hi ≤ n) (h3 : n ≤ c) :
    ∃ A C, (∀ W : World, (Instr.sliceAt 26 (.slice a n c) (some (.int .i64 (lo : Int))) (some (.int .i64 (hi : Int))) none).run Tryz.prog W = .ok (.slice A (hi - lo) C) W) ∧ ∀ (W : World) (zs : List UInt8), zs.length = n → Byt W (.slice a n c) zs → Byt W (.slice A (hi - lo) C) ((zs.drop lo).take (hi - lo)) := by
  obtain ⟨i, hi0, _, hi2, _⟩ := Tryz.infoByte'
  refine ⟨if c - lo = 0 then a else a.map (·.add (lo * 1)), c - lo, fun W => ?_, fun W zs hz h => ?_⟩
  · have e2 : hi ≤ c := by omega
    simp [Instr.sliceAt, Instr.slice, Instr.sliceBounds, Instr.sliceBound, asIntOf, run_underlying Tryz.underlying26, sizeOf, typeInfo, hi0, hi2, e2, h1]
    by_cases hcl : c = lo
    · rw [if_pos hcl, if_pos (by omega)]
    · rw [if_neg hcl, if_neg (by omega)]
  · have hl : ((zs.drop lo).take (hi - lo)).length = hi - lo := by rw [List.length_take, List.length_drop]; omega
    obtain ⟨a', cap, e, hm, hat⟩ := h
    simp only [Value.slice.injEq] at e
    obtain ⟨rfl, _, rfl⟩ := e
    refine ⟨_, _, by rw [hl], ⟨by rw [hl]; have := hm.1; omega, by rw [hl]; omega⟩, fun k hk => ?_⟩
    rw [hl] at hk
    obtain ⟨b, off, rfl, hc⟩ := hat (lo + k) (by omega)
    rw [if_neg (by omega)]
    refine ⟨b, off + lo, by simp [Addr.add], ?_⟩
    rw [List.getElem?_take, if_pos hk, List.getElem?_drop]
    rw [Nat.add_assoc]
    exact hc
/-- The part of a list as the walk has it. -/
def cutA (a : Option Addr) (c lo : Nat) : Option Addr := if c = lo then a else Option.map (fun x => x.add lo) a
theorem cut_Y {W : World} {a : Option Addr} {n c lo hi : Nat} (h2 : hi ≤ n) (h3 : n ≤ c) {zs : List UInt8} (hz : zs.length = n) (h : Byt W (.slice a n c) zs) : Byt W (.slice (cutA a c lo) (hi - lo) (c - lo)) ((zs.drop lo).take (hi - lo)) := by
  have hl : ((zs.drop lo).take (hi - lo)).length = hi - lo := by rw [List.length_take, List.length_drop]; omega
  obtain ⟨a', cap, e, hm, hat⟩ := h
  simp only [Value.slice.injEq] at e
  obtain ⟨rfl, _, rfl⟩ := e
  refine ⟨_, _, by rw [hl], ⟨by rw [hl]; have := hm.1; omega, by rw [hl]; omega⟩, fun k hk => ?_⟩
  rw [hl] at hk
  obtain ⟨b, off, rfl, hc⟩ := hat (lo + k) (by omega)
  unfold cutA
  rw [if_neg (by omega)]
  refine ⟨b, off + lo, by simp [Addr.add], ?_⟩
  rw [List.getElem?_take, if_pos hk, List.getElem?_drop, Nat.add_assoc]
  exact hc
section
variable {P : Program} {w : World}
theorem wpList_slice_run {ops : Array Oper} {rest : List Oper} {o : Oper} {a : Act} {Q : Exit → Act → World → Prop} (hgd : o.guard = none) (t : TypeId) (x lo hi : Operand) (ho : o.op = .slice t x (some lo) (some hi) none) (v vl vh : Value) (hx : a.eval x = v) (hl : a.eval lo = vl) (hh : a.eval hi = vh) (v' : Value)
    (hr : (Instr.sliceAt t v (some vl) (some vh) none).run P w = .ok v' w) (h : wpList P ops Q rest (a.put o.dst v') w) : wpList P ops Q (o :: rest) a w := by
  refine wpList_plain hgd fun K hK => ?_
  unfold Oper.wp execOp
  simp only [ho, Sem.run_bind, Sem.run_pure, Result.andThen_ok, Option.map_some, Option.map_none, hx, hl, hh, hr]
  exact hK _ _ h
theorem step_slice_run {ops : Array Oper} {o : Oper} {a : Act} {K : Act → World → Prop} {Q : Exit → Act → World → Prop} {E : Prop} (hgd : o.guard = none) (t : TypeId) (x lo hi : Operand) (ho : o.op = .slice t x (some lo) (some hi) none) (v vl vh : Value) (hx : a.eval x = v) (hl : a.eval lo = vl) (hh : a.eval hi = vh) (v' : Value)
    (hr : (Instr.sliceAt t v (some vl) (some vh) none).run P w = .ok v' w) (h : K (a.put o.dst v') w) : if Region.wanted o (yielded ops a.tmps) = true then Oper.wp P o a w K Q else E := by
  have hw : Region.wanted o (yielded ops a.tmps) = true := by simp [Region.wanted, hgd]
  rw [if_pos hw]
  unfold Oper.wp execOp
  simp only [ho, Sem.run_bind, Sem.run_pure, Result.andThen_ok, Option.map_some, Option.map_none, hx, hl, hh, hr]
  exact h
end
theorem cutY_eq (zs : List UInt8) (p n : Nat) : (zs.drop (min p zs.length)).take (min zs.length (min p zs.length + n) - min p zs.length) = cutY zs p n := by
  unfold cutY
  apply List.ext_getElem?
  intro i
  rw [List.getElem?_take, List.getElem?_take, List.getElem?_drop, List.getElem?_drop]
  by_cases h : p ≤ zs.length
  · rw [Nat.min_eq_left h]
    by_cases hi : i < n
    · rw [if_pos hi]
      by_cases h2 : p + i < zs.length
      · rw [if_pos (by omega)]
      · rw [List.getElem?_eq_none (by omega)]; split <;> rfl
    · rw [if_neg hi, if_neg (by omega)]
  · rw [List.getElem?_eq_none (show zs.length ≤ p + i by omega), List.getElem?_eq_none (show zs.length ≤ min p zs.length + i by omega)]
    split <;> split <;> rfl
theorem cutY_eq' (zs : List UInt8) (p n : Nat) : (zs.drop (min p zs.length)).take (min (p + n) zs.length - min p zs.length) = cutY zs p n := by
  rw [← cutY_eq]
  by_cases h : p ≤ zs.length
  · rw [Nat.min_eq_left h, Nat.min_comm (p + n)]
  · have e1 : min p zs.length = zs.length := by omega
    rw [e1, List.drop_eq_nil_of_le (Nat.le_refl _)]
    simp
theorem l1Min_nat (w : World) (x y : Int) (r : Nat) (h : min x y = (r : Int)) : Calls Tryz.prog 44 #[.int .i64 x, .int .i64 y] w fun e w' => e = .returned (.int .i64 (r : Int)) ∧ w' = w := by
  by_cases hl : x < y
  · have E : Hid (x = (r : Int)) := by unfold Hid; omega
    clear h
    go_enter Tryz.func44, Tryz.ntmps44
    go_wp2
    go_ret
    exact ⟨ret_int E.out, rfl⟩
  · have E : Hid (y = (r : Int)) := by unfold Hid; omega
    clear h
    go_enter Tryz.func44, Tryz.ntmps44
    go_wp2
    go_ret
    exact ⟨ret_int E.out, rfl⟩
end Go.Proofs.YtjabimfinanjoaaGreat

namespace Go.Proofs.YtjabimfinanjoaaGreat
open Go.RowKit
set_option maxRecDepth 100000

set_option maxHeartbeats 800000 in
theorem settleF_any (w : World) (bf : Nat) (vs : List Value) (hbox : OwnRow w bf 8 (cel vs)) (aP : Option Addr) (nP cP : Nat) (s : Int) :
    Calls Tryz.prog 51 #[.pointer (some ⟨bf, 0, none⟩), .slice aP nP cP, .int .i64 s] w fun e w' => e = .returned (.tuple #[]) ∧ w' = (w.setCell ⟨bf, 3, none⟩ (.slice aP nP cP)).setCell ⟨bf, 2, none⟩ (.int .i64 s) := by
  have c2 := hbox.cell (i := 2) (by omega)
  have c3 := hbox.cell (i := 3) (by omega)
  have f2 := hbox.frozen 2
  have f3 := hbox.frozen 3
  clear hbox
  go_enter Tryz.func51, Tryz.ntmps51
  go_wp2
  go_end0
  exact ⟨rfl, rfl⟩
set_option maxHeartbeats 1600000 in
theorem span_any (w : World) (x0 x1 : Int) (L k lo hi : Nat) (v3 v4 : Value) (_hL : L ≤ 32) (hk : k ≤ 4) (hlo : k * 8 = lo) (hhi : min (k * 8 + 8) L = hi) :
    Calls Tryz.prog 52 #[.agg #[.int .i64 x0, .int .i64 x1, .int .i64 (L : Int), v3, v4], .int .i64 (k : Int)] w fun e w' => e = .returned (.tuple #[.int .i64 (lo : Int), .int .i64 (hi : Int)]) ∧ Below w.heap.size w w' := by
  have HE1 : Hid ((k : Int) * 8 = (lo : Int)) := by unfold Hid; omega
  have HE2 : Hid (min (IntKind.i64.wrap ((k : Int) * 8 + 8)) (L : Int) = (hi : Int)) := by
    unfold Hid
    rw [show IntKind.i64.wrap ((k : Int) * 8 + 8) = (k : Int) * 8 + 8 by rw [IntKind.wrap_i64]; omega]
    omega
  have x2 : (w.alloc (.cells #[.int .i64 x0, .int .i64 x1, .int .i64 (L : Int), v3, v4] 81)).cell? ⟨w.heap.size, 2, none⟩ = some (.int .i64 (L : Int)) := by rw [new_cell]; rfl
  clear hhi hlo
  go_enter Tryz.func52, Tryz.ntmps52
  go_wp2_with fail
  go_region_law (fail)
  all_goals
    go_wp2
    go_ret2
    exact ⟨by rw [HE2.out, HE1.out]; rfl, by first | exact (later1 _ _).drew | exact later1 _ _⟩
/-- What stands where a file's bytes, or its inode, turn. -/
theorem FileS.put {w0 w W : World} {bf bI n cI bD cD : Nat} {d : FD} {zss : List (List UInt8)} {j : Nat} {x : ID} {aB : Option Addr} {cB : Nat} {aE : Option Addr} {cE : Nat} (h : FileS w0 w bf bI n cI bD cD d j x aB cB aE cE) (hc : Chg (fun c => c = bD) w W) (hf : FsS W bI n cI bD 20 cD (d.1, zss) (fun c => w0.heap.size ≤ c ∧ c ≠ bf)) : FileS w0 W bf bI n cI bD cD (d.1, zss) j x aB cB aE cE := by
  have hne := h.fs.ne
  refine ⟨h.below.trans (hc.below h.below.size fun b hb => hb ▸ hne.2.2.1.1), h.new, h.box.block (hc.block bf h.box.lt fun e => hne.2.2.1.2 e.symm), hf, fun k hk => ?_⟩
  obtain ⟨b1, e1, e2, e3, e4⟩ := h.blk k hk
  exact ⟨b1, e1, e2, Nat.lt_of_lt_of_le e3 hc.size, hc.cellOf e4 e2⟩
theorem FileS.settle {w0 w : World} {bf bI n cI bD cD : Nat} {d : FD} {j : Nat} {x : ID} {aB : Option Addr} {cB : Nat} {aE : Option Addr} {cE : Nat} (h : FileS w0 w bf bI n cI bD cD d j x aB cB aE cE) (aP : Option Addr) (cP : Nat) (bs : List Int) (s : Int) (F : Nat → Prop) (hp : IntsO w0 (.slice aP bs.length cP) bs F) :
    FileS w0 ((w.setCell ⟨bf, 3, none⟩ (.slice aP bs.length cP)).setCell ⟨bf, 2, none⟩ (.int .i64 s)) bf bI n cI bD cD d j (x.1, x.2.1, s, bs, x.2.2.2.2) aP cP aE cE := by
  have hne := h.fs.ne
  have h0 : Chg (fun c => c = bf) w w := Chg.refl _ _
  have h1 := Chg.set (F := fun c => c = bf) h0 rfl 3 (.slice aP bs.length cP)
  have h2 := Chg.set (F := fun c => c = bf) h1 rfl 2 (.int .i64 s)
  have hb : Below w0.heap.size w0 ((w.setCell ⟨bf, 3, none⟩ (.slice aP bs.length cP)).setCell ⟨bf, 2, none⟩ (.int .i64 s)) := h.below.trans (h2.below h.below.size fun b hb => hb ▸ h.new)
  refine ⟨hb, h.new, ((h.box.set 3 _).set 2 _).congr fun i hi => ?_, h.fs.chg h2 fun b hb e => hb.2 e, fun k hk => ?_⟩
  · match i, hi with
    | 0, _ => rfl
    | 1, _ => rfl
    | 2, _ => rfl
    | 3, _ => rfl
    | 4, _ => rfl
    | 5, _ => rfl
    | 6, _ => rfl
    | 7, _ => rfl
  · rcases hp with ⟨e, _⟩ | ⟨b, cap, _, e, hl, hrow⟩
    · subst e; simp at hk
    · simp only [Value.slice.injEq] at e
      obtain ⟨rfl, _, rfl⟩ := e
      have hlt := hrow.lt
      have hD := hne.2.2.1.1
      exact ⟨b, rfl, by omega, Nat.lt_of_lt_of_le hlt hb.size, cell_later hb (hrow.cell hk)⟩
end Go.Proofs.YtjabimfinanjoaaGreat

namespace Go.Proofs.YtjabimfinanjoaaGreat
open Go.RowKit
set_option maxRecDepth 100000

theorem take8 (data : List UInt8) (k hi : Nat) (h : min (k * 8 + 8) data.length = hi) : (data.drop (k * 8)).take (hi - k * 8) = (data.drop (k * 8)).take 8 := by
  apply List.ext_getElem?
  intro i
  rw [List.getElem?_take, List.getElem?_take, List.getElem?_drop]
  by_cases h1 : i < hi - k * 8
  · rw [if_pos h1, if_pos (by omega)]
  · rw [if_neg h1]
    by_cases h2 : i < 8
    · rw [if_pos h2, List.getElem?_eq_none (by omega)]
    · rw [if_neg h2]
theorem FsS.wrt {w W : World} {bI n cI bD cD : Nat} {d : FD} {Z : List (List UInt8)} {F : Nat → Prop} {bs : List Int} {data : List UInt8} {k y : Nat} (h : FsS w bI n cI bD 20 cD (d.1, putK Z bs data k) F) (hy : y < 20) (e : bs[k]?.getD 0 = (y : Int)) (hb : Below w.heap.size w W) (v : Value) (hv : BytO W v ((data.drop (k * 8)).take 8) (fresh w W)) (hF : ∀ c, w.heap.size ≤ c → F c) : FsS (W.setCell ⟨bD, y, none⟩ v) bI n cI bD 20 cD (d.1, putK Z bs data (k + 1)) F := by
  have := h.put y hy hb v _ hv (fun c hc => ⟨hF c hc.1, hc.1, hc.2⟩)
  have e2 : putK Z bs data (k + 1) = (putK Z bs data k).set y ((data.drop (k * 8)).take 8) := by
    show (putK Z bs data k).set (bs[k]?.getD 0).toNat _ = _
    rw [e]; rfl
  rw [e2]
  exact this
/-- Whatever came since. -/
theorem FileS.later {w0 w W : World} {bf bI n cI bD cD : Nat} {d : FD} {j : Nat} {x : ID} {aB : Option Addr} {cB : Nat} {aE : Option Addr} {cE : Nat} (h : FileS w0 w bf bI n cI bD cD d j x aB cB aE cE) (hb : Below w.heap.size w W) : FileS w0 W bf bI n cI bD cD d j x aB cB aE cE :=
  ⟨h.below.trans (hb.mono h.below.size), h.new, h.box.later hb, h.fs.later hb, fun k hk => by
    obtain ⟨b1, e1, e2, e3, e4⟩ := h.blk k hk
    exact ⟨b1, e1, e2, Nat.lt_of_lt_of_le e3 hb.size, cell_later hb e4⟩⟩

set_option maxHeartbeats 6400000 in
theorem write_any (w0 w : World) (bf bI n cI bD cD : Nat) (d : FD) (j : Nat) (x : ID) (aB : Option Addr) (cB : Nat) (aE : Option Addr) (cE : Nat) (h : FileS w0 w bf bI n cI bD cD d j x aB cB aE cE) (hr : ∀ k : Nat, k < x.2.2.2.1.length → 0 ≤ x.2.2.2.1[k]?.getD 0 ∧ x.2.2.2.1[k]?.getD 0 < 20) (h4 : x.2.2.2.1.length ≤ 4)
    (aP : Option Addr) (cP : Nat) (bs : List Int) (F : Nat → Prop) (hp : IntsO w0 (.slice aP bs.length cP) bs F) (hbs : ∀ k : Nat, k < bs.length → 0 ≤ bs[k]?.getD 0 ∧ bs[k]?.getD 0 < 20)
    (aT : Option Addr) (L cT : Nat) (data : List UInt8) (ht : Byt w0 (.slice aT L cT) data) (hL : L ≤ 32) (hn : bs.length = (L + 7) / 8) :
    Calls Tryz.prog 29 #[.pointer (some ⟨bf, 0, none⟩), .slice aP bs.length cP, .slice aT L cT] w fun e w' => e = .returned (.tuple #[]) ∧ FileS w0 w' bf bI n cI bD cD (d.1, putK (clrK d.2 x.2.2.2.1 x.2.2.2.1.length) bs data bs.length) j (x.1, x.2.1, (L : Int), bs, x.2.2.2.2) aP cP aE cE := by
  have ht0 := ht
  obtain ⟨_, _, esh, hmT, _⟩ := ht0
  simp only [Value.slice.injEq] at esh
  obtain ⟨rfl, rfl, rfl⟩ := esh
  have hcT : data.length ≤ cT := hmT.2
  have HF : Hid (FileS w0 w bf bI n cI bD cD d j x aB cB aE cE) := h
  have HP : Hid (IntsO w0 (.slice aP bs.length cP) bs F) := hp
  have HBS : Hid (∀ k : Nat, k < bs.length → 0 ≤ bs[k]?.getD 0 ∧ bs[k]?.getD 0 < 20) := hbs
  have HDB := dropBytes_any w bf bI n cI bD cD d _ _ aB cB x.2.2.2.1 rfl h.box rfl rfl h.fs (fun e => h.fs.ne.2.2.1.2 e.symm) h.blk hr h4
  have HDD : Hid (Calls Tryz.prog 50 #[.pointer (some ⟨bf, 0, none⟩)] w _) := HDB
  have HCY : Hid (∀ (k hi : Nat), k < bs.length → min (k * 8 + 8) data.length = hi → ∀ W, Below w0.heap.size w0 W → Calls Tryz.prog 53 #[.slice (if cT = k * 8 then aT else Option.map (fun x => x.add (k * 8)) aT) (hi - k * 8) (cT - k * 8)] W fun e w' => ∃ g m, e = .returned (.slice (some ⟨g, 0, none⟩) m m) ∧ Below W.heap.size W w' ∧ BytO w' (.slice (some ⟨g, 0, none⟩) m m) ((data.drop (k * 8)).take 8) (fresh W w')) := fun k hi hk hhi W hW => by
    have hb : Byt W (.slice (cutA aT cT (k * 8)) (hi - k * 8) (cT - k * 8)) ((data.drop (k * 8)).take (hi - k * 8)) := cut_Y (by omega) hcT rfl (ht.later hW)
    rw [take8 data k hi hhi] at hb
    exact (copyOfY_any hb (by rw [List.length_take]; omega)).mono fun _ _ ⟨h1, h2, h3⟩ => ⟨_, _, h1, h2, h3⟩
  obtain ⟨x0, x1, x2, xb, xe⟩ := x
  dsimp only at HF HDD ⊢
  obtain ⟨nP, hnP⟩ : ∃ nP, bs.length = nP := ⟨_, rfl⟩
  have HNP : Hid (bs.length = nP) := hnP
  have hn4 : nP ≤ 4 := by omega
  have hnL : nP = (data.length + 7) / 8 := by omega
  have HTT : Hid (∀ i : Nat, True) := fun _ => trivial
  clear h hp hbs hr h4 ht hmT HDB
  rw [hnP] at HBS HCY hn ⊢
  generalize clrK d.2 xb xb.length = Z at *
  obtain ⟨Lt, hLt⟩ : ∃ Lt, data.length = Lt := ⟨_, rfl⟩
  have HLT : Hid (data.length = Lt) := hLt
  rw [hLt] at HCY hcT hL hn hnL ⊢
  have HNL : Hid (nP = (Lt + 7) / 8) := hnL
  clear hLt hnP hn hnL
  go_enter Tryz.func29, Tryz.ntmps29
  go_wp2_with fail
  refine HDD.out.mono ?_
  rintro e w3 ⟨rfl, hc3, hf3⟩
  have HF3 : Hid (FileS w0 w3 bf bI n cI bD cD (d.1, Z) j (x0, x1, x2, xb, xe) aB cB aE cE) := HF.out.put hc3 hf3
  clear hc3 hf3 HDD
  go_wp2_with fail
  refine (settleF_any w3 bf _ HF3.out.box aP nP cP (Lt : Int)).mono ?_
  rintro e w4 ⟨rfl, hw4⟩
  have HF4 : Hid (FileS w0 w4 bf bI n cI bD cD (d.1, Z) j (x0, x1, (Lt : Int), bs, xe) aP cP aE cE) := by
    unfold Hid
    rw [hw4]
    have := HF3.out.settle aP cP bs (Lt : Int) F HP.out
    rw [HNP.out] at this
    exact this
  have q3 : w4.cell? ⟨bf, 3, none⟩ = some (.slice aP nP cP) := by
    have := HF4.out.box.cell (i := 3) (by omega)
    rw [← HNP.out]
    exact this
  clear hw4 HF3
  go_wp2_with fail
  clear q3
  go_loopw [25] (fun i wr => ∃ k : Nat, k ≤ nP ∧ i = .int .i64 k ∧ FileS w0 wr bf bI n cI bD cD (d.1, putK Z bs data k) j (x0, x1, (Lt : Int), bs, xe) aP cP aE cE) (fun i _ => nP - (intOf i).toNat)
  case atStart => exact ⟨0, Nat.zero_le _, rfl, HF4.out⟩
  case round =>
    clear HF4
    obtain ⟨k, hk, rfl, hf⟩ := hrel
    have HFK : Hid (FileS w0 wr bf bI n cI bD cD (d.1, putK Z bs data k) j (x0, x1, (Lt : Int), bs, xe) aP cP aE cE) := hf
    by_cases hlt : k < nP
    · obtain ⟨b1, rfl, hb1, _, c1⟩ := hf.blk k (by rw [HNP.out]; exact hlt)
      have hrg := HBS.out k hlt
      obtain ⟨hi, hhi⟩ : ∃ hi, min (k * 8 + 8) Lt = hi := ⟨_, rfl⟩
      obtain ⟨lo, hlo⟩ : ∃ lo, k * 8 = lo := ⟨_, rfl⟩
      have hcne : ¬ cT = lo := by have := HNL.out; omega
      have HCK : Hid (∀ W, Below w0.heap.size w0 W → Calls Tryz.prog 53 #[.slice (Option.map (fun x => x.add lo) aT) (hi - lo) (cT - lo)] W fun e w' => ∃ g m, e = .returned (.slice (some ⟨g, 0, none⟩) m m) ∧ Below W.heap.size W w' ∧ BytO w' (.slice (some ⟨g, 0, none⟩) m m) ((data.drop (k * 8)).take 8) (fresh W w')) := fun W hW => by
        have := HCY.out k hi hlt hhi W hW
        rw [hlo, if_neg hcne] at this
        rw [hlo]
        exact this
      have HSP : Hid (Calls Tryz.prog 52 #[.agg #[.int .i64 x0, .int .i64 x1, .int .i64 (Lt : Int), .slice (some ⟨b1, 0, none⟩) nP cP, .slice aE xe.length cE], .int .i64 (k : Int)] wr fun e w' => e = .returned (.tuple #[.int .i64 (lo : Int), .int .i64 (hi : Int)]) ∧ Below wr.heap.size wr w') := span_any wr x0 x1 Lt k lo hi _ _ hL (by omega) hlo hhi
      have HWR : Hid (∀ (y : Nat) (W : World) (v : Value), y < 20 → bs[k]?.getD 0 = (y : Int) → Below wr.heap.size wr W → BytO W v ((data.drop (k * 8)).take 8) (fresh wr W) → FileS w0 (W.setCell ⟨bD, y, none⟩ v) bf bI n cI bD cD (d.1, putK Z bs data (k + 1)) j (x0, x1, (Lt : Int), bs, xe) (some ⟨b1, 0, none⟩) cP aE cE) := fun y W v hy e hW hv => by
        have hfl := HFK.out
        have hbl := hfl.box.lt
        refine ((hfl.later hW).put (zss := putK Z bs data (k + 1)) (Chg.set (F := fun c => c = bD) (Chg.refl _ W) rfl y v) ?_)
        exact hfl.fs.wrt hy e hW v hv (fun c hc => ⟨by have := hfl.below.size; omega, by omega⟩)
      have c0 : wr.cell? ⟨bf, 0, none⟩ = some (.int .i64 x0) := hf.box.cell (i := 0) (by omega)
      have c01 : wr.cell? ⟨bf, 1, none⟩ = some (.int .i64 x1) := hf.box.cell (i := 1) (by omega)
      have c2 : wr.cell? ⟨bf, 2, none⟩ = some (.int .i64 (Lt : Int)) := hf.box.cell (i := 2) (by omega)
      have c3 : wr.cell? ⟨bf, 3, none⟩ = some (.slice (some ⟨b1, 0, none⟩) nP cP) := by rw [← HNP.out]; exact hf.box.cell (i := 3) (by omega)
      have c4 : wr.cell? ⟨bf, 4, none⟩ = some (.slice aE xe.length cE) := hf.box.cell (i := 4) (by omega)
      have c7 : wr.cell? ⟨bf, 7, none⟩ = some (.slice (some ⟨bD, 0, none⟩) 20 cD) := hf.box.cell (i := 7) (by omega)
      have hfD : bf ≠ bD := fun e => hf.fs.ne.2.2.1.2 e.symm
      have hDf : bD ≠ bf := fun e => hfD e.symm
      have hlD : bD < wr.heap.size := hf.fs.ne.2.2.2
      have HDA : Hid (∀ y, y < 20 → ∃ ua un uc, wr.cell? ⟨bD, y, none⟩ = some (.slice ua un uc) ∧ wr.frozen? ⟨bD, y, none⟩ = false) := fun y hy => by
        obtain ⟨ua, uc, e1, e2, _⟩ := HFK.out.fs.data y hy
        exact ⟨_, _, _, e1, e2⟩
      have HB0 : Hid (Below w0.heap.size w0 wr) := hf.below
      clear hf HFK HCY HBS
      generalize bs[k]?.getD 0 = z at *
      obtain ⟨y, rfl⟩ : ∃ y : Nat, z = (y : Int) := ⟨z.toNat, by omega⟩
      have hy : y < 20 := by omega
      have hyI : (y : Int) < 20 := by omega
      obtain ⟨ua, un, uc, d0, d1⟩ := HDA.out y hy
      have HW2 : Hid (∀ (W : World) (v : Value), Below wr.heap.size wr W → BytO W v ((data.drop (k * 8)).take 8) (fresh wr W) → FileS w0 (W.setCell ⟨bD, y, none⟩ v) bf bI n cI bD cD (d.1, putK Z bs data (k + 1)) j (x0, x1, (Lt : Int), bs, xe) (some ⟨b1, 0, none⟩) cP aE cE) := fun W v => HWR.out y W v hy rfl
      have hlohi : lo ≤ hi := by have := HNL.out; omega
      have hhc : hi ≤ cT := by omega
      have hi32 : hi ≤ 32 := by omega
      clear HWR HDA hrg hhi hlo
      generalize ((data.drop (k * 8)).take 8) = ys at *
      generalize xe.length = lE at *
      go_wp2_with fail
      refine HSP.out.mono ?_
      rintro e w5 ⟨rfl, hb5⟩
      have HB5 : Hid (Below wr.heap.size wr w5) := hb5
      have e7 := cell_later hb5 c7
      have g0 := cell_later hb5 d0
      have g1 := (hb5.frozen (p := ⟨bD, y, none⟩) hlD).trans d1
      clear hb5 HSP c0 c01 c2 c3 c4 c1 d0 d1
      go_wp2_with fail
      go_region_law (first
        | (try go_simp; go_at_call 53; refine (HCK.out _ ((HB0.out.trans (HB5.out.mono HB0.out.size)).drew)).mono ?_; rintro e w6 ⟨g, m, rfl, hb6, ho6⟩
           have HB6 : Hid (Below wr.heap.size wr w6) := (HB5.out.drew).trans (hb6.mono (by have := HB5.out.size; simpa using this))
           have k7 := cell_later HB6.out c7
           have HN : Hid (FileS w0 (w6.setCell ⟨bD, y, none⟩ (.slice (some ⟨g, 0, none⟩) m m)) bf bI n cI bD cD (d.1, putK Z bs data (k + 1)) j (x0, x1, (Lt : Int), bs, xe) (some ⟨b1, 0, none⟩) cP aE cE) := HW2.out w6 _ HB6.out (ho6.mono fun c hc => ⟨by have h1 := hc.1; simp at h1; have h2 := HB5.out.size; omega, hc.2⟩)
           have m0 := cell_later ((Below.refl _ _).drew.trans hb6) g0
           have m1 := (((Below.refl _ _).drew.trans hb6).frozen (p := ⟨bD, y, none⟩) (Nat.lt_of_lt_of_le hlD HB5.out.size)).trans g1
           clear hb6 ho6)
        | fail)
      all_goals
        clear HCK HW2
        go_wp2
        go_roundw
        case rel => exact ⟨k + 1, by omega, by go_num, HN.out⟩
        case measure => simp [intOf]; omega
    · have e : k = nP := by omega
      subst e
      clear hf
      go_wp2
      go_end0
      exact ⟨rfl, HFK.out⟩
end Go.Proofs.YtjabimfinanjoaaGreat

namespace Go.Proofs.YtjabimfinanjoaaGreat
open Go.RowKit
set_option maxRecDepth 100000

theorem fromB_nat {p : Int} (h : fromB p = true) : ∃ q : Nat, p = (q : Int) ∧ q ≤ 1000 := by
  unfold fromB at h
  simp at h
  exact ⟨p.toNat, by omega, by omega⟩
theorem readFR_len (d : FD) (x p n : Int) : (readFR d x p n).2.length ≤ 32 := by
  unfold readFR
  by_cases hc : (bytR d x).1 = 0
  · rw [if_pos hc]
    split
    · have := (sound hc).bl
      show (cutY _ _ _).length ≤ 32
      unfold cutY
      rw [List.length_take, List.length_drop]
      omega
    · simp
  · rw [if_neg hc]; simp
/-- What both walks begin with. -/
theorem AnsYR.boxed {w W : World} {rb : Nat} {r : Int} {zs : List UInt8} {a : Option Addr} {n c : Nat} (hB : Below w.heap.size w W) (hrb : w.heap.size ≤ rb) (hY : BytO W (.slice a n c) zs (fun b => w.heap.size ≤ b ∧ b < W.heap.size ∧ b ≠ rb)) (x y : Value) : AnsYR w (r, zs) (.returned (.agg #[.int .i64 r, .slice a n c])) ((W.setCell ⟨rb, 0, none⟩ x).setCell ⟨rb, 1, none⟩ y) := by
  refine ⟨a, n, c, rfl, (hB.setCell hrb _).setCell hrb _, (hY.keep fun b hb _ => ?_).mono fun b hb => ?_⟩
  · rw [Below.heap_setCell _ _ _ _ hb.2.2, Below.heap_setCell _ _ _ _ hb.2.2]
  · unfold fresh
    simp only [World.setCell, Array.size_modify]
    exact ⟨hb.1, hb.2.1⟩
theorem AnsYR.later {w w2 w3 : World} {r : Int × List UInt8} {e : Ending} (h : AnsYR w r e w2) (hb : Below w2.heap.size w2 w3) : AnsYR w r e w3 := by
  obtain ⟨a1, n1, c1, h1, h2, h3⟩ := h
  exact ⟨a1, n1, c1, h1, h2.trans (hb.mono h2.size), (h3.keep fun b _ hlt => hb.block b hlt).mono fun b hh => ⟨hh.1, Nat.lt_of_lt_of_le hh.2 hb.size⟩⟩

end Go.Proofs.YtjabimfinanjoaaGreat

namespace Go.Proofs.YtjabimfinanjoaaGreat
open Go.RowKit
set_option maxRecDepth 100000

def askY (d : FD) (x : Int) (busy : List Int) : Int × List UInt8 := if (bytR d x).1 = 0 then (if busF busy = 0 then (0, bytL d x.toNat) else (busF busy, [])) else ((bytR d x).1, [])
set_option maxHeartbeats 6400000 in
theorem bytesToWrite_any (w : World) (a1 : Option Addr) (n1 c1 : Nat) (a2 : Option Addr) (n2 c2 : Nat) (d : FD) (xx : Int) (vb : Value) (busy : List Int) (h : FsR w (.slice a1 n1 c1) (.slice a2 n2 c2) d) (hs : sizeFs d ≤ 1048576) (hb : Ints w vb busy) :
    Calls Tryz.prog 25 #[.agg #[.slice a1 n1 c1, .slice a2 n2 c2], .int .i64 xx, vb] w (AnsYR w (askY d xx busy)) := by
  have HRR : Hid (askY d xx busy = if (bytR d xx).1 = 0 then (if busF busy = 0 then (0, bytL d xx.toNat) else (busF busy, [])) else ((bytR d xx).1, [])) := rfl
  rw [HRR.out]
  clear HRR
  have HB0 : Hid (Below w.heap.size w ((w.alloc (.cells #[.slice a1 n1 c1, .slice a2 n2 c2] 31)).alloc (.cells #[.int .i64 0, .slice none 0 0] 54))) := later2 _ _ _
  have HRS : Hid (OwnRow ((w.alloc (.cells #[.slice a1 n1 c1, .slice a2 n2 c2] 31)).alloc (.cells #[.int .i64 0, .slice none 0 0] 54)) (w.heap.size + 1) 2 (fun i => if i = 0 then .int .i64 0 else .slice none 0 0)) := by
    have := box2 (w.alloc (.cells #[.slice a1 n1 c1, .slice a2 n2 c2] 31)) 54
    rw [World.size_alloc] at this
    exact this
  have HBY : Hid (Calls Tryz.prog 46 #[.agg #[.slice a1 n1 c1, .slice a2 n2 c2], .int .i64 xx] ((w.alloc (.cells #[.slice a1 n1 c1, .slice a2 n2 c2] 31)).alloc (.cells #[.int .i64 0, .slice none 0 0] 54)) (AnsYR ((w.alloc (.cells #[.slice a1 n1 c1, .slice a2 n2 c2] 31)).alloc (.cells #[.int .i64 0, .slice none 0 0] 54)) (bytR d xx))) := implBytU _ a1 n1 c1 a2 n2 c2 d xx (h.later (later2 _ _ _)) hs
  have hz0 : ((w.alloc (.cells #[.slice a1 n1 c1, .slice a2 n2 c2] 31)).alloc (.cells #[.int .i64 0, .slice none 0 0] 54)).heap.size = w.heap.size + 2 := by simp
  have HBF : Hid (∀ W, Below w.heap.size w W → Calls Tryz.prog 47 #[vb] W fun e w' => e = .returned (.int .i64 (busF busy)) ∧ Below W.heap.size W w') := fun W hW => busyFault_any (hb.later hW)
  clear h hs hb
  by_cases hc : (bytR d xx).1 = 0
  rotate_left
  · rw [if_neg hc]
    have hcb : ((bytR d xx).1 != 0) = true := by simpa using hc
    have he : (bytR d xx).2 = [] := bytR_bad hc
    clear hc
    go_enter Tryz.func25, Tryz.ntmps25
    go_wp2_with fail
    generalize ((w.alloc (.cells #[.slice a1 n1 c1, .slice a2 n2 c2] 31)).alloc (.cells #[.int .i64 0, .slice none 0 0] 54)) = W0 at *
    refine HBY.out.mono ?_
    rintro e w1 ⟨ay, ny, cy, rfl, hb1, ho1⟩
    rw [he] at ho1
    have HB1 : Hid (Below w.heap.size w w1) := HB0.out.trans (hb1.mono HB0.out.size)
    have HO1 : Hid (BytO w1 (.slice ay ny cy) [] (fun b => w.heap.size ≤ b ∧ b < w1.heap.size ∧ b ≠ w.heap.size + 1)) := ho1.mono fun b hb => ⟨by have := hb.1; omega, hb.2, by have := hb.1; omega⟩
    have hrr := HRS.out.later hb1
    have t0 := hrr.cell (i := 0) (by omega)
    have t1 := hrr.cell (i := 1) (by omega)
    have s0 := hrr.frozen 0
    have s1 := hrr.frozen 1
    simp at t0 t1
    have hlw : w.heap.size + 1 < w1.heap.size := hrr.lt
    clear hb1 hrr ho1 he
    generalize (bytR d xx).1 = r at *
    go_wp2
    exact bodyPost_ret (v := .agg #[.int .i64 r, .slice ay ny cy]) (by simp [results, Tryz.results25, go_sem, t0, t1, hlw]) rfl ((AnsYR.boxed HB1.out (by omega) HO1.out _ _).later (later1 _ _))
  · rw [if_pos hc]
    have hcb : ((bytR d xx).1 != 0) = false := by simpa using hc
    obtain ⟨he, _⟩ := bytR_code hc
    have he2 : (bytR d xx).2 = bytL d xx.toNat := by rw [he]
    have hr0 : Hid ((bytR d xx).1 = 0) := hc
    clear hc he
    generalize bytL d xx.toNat = zs at *
    have step : ∀ P : Prop, (busF busy = 0 → P) → (¬ busF busy = 0 → P) → P := fun P f1 f2 => by
      by_cases h : busF busy = 0
      · exact f1 h
      · exact f2 h
    apply step
    · intro hbz
      rw [if_pos hbz]
      rw [hbz] at HBF
      clear step hbz
      go_enter Tryz.func25, Tryz.ntmps25
      go_wp2_with fail
      generalize ((w.alloc (.cells #[.slice a1 n1 c1, .slice a2 n2 c2] 31)).alloc (.cells #[.int .i64 0, .slice none 0 0] 54)) = W0 at *
      refine HBY.out.mono ?_
      rintro e w1 ⟨ay, ny, cy, rfl, hb1, ho1⟩
      rw [he2] at ho1
      have HB1 : Hid (Below w.heap.size w w1) := HB0.out.trans (hb1.mono HB0.out.size)
      have HO1 : Hid (BytO w1 (.slice ay ny cy) zs (fun b => w.heap.size ≤ b ∧ b < w1.heap.size ∧ b ≠ w.heap.size + 1)) := ho1.mono fun b hb => ⟨by have := hb.1; omega, hb.2, by have := hb.1; omega⟩
      have HR1 : Hid (OwnRow w1 (w.heap.size + 1) 2 (fun i => if i = 0 then .int .i64 0 else .slice none 0 0)) := HRS.out.later hb1
      have HX1 : Hid (Bx (w1.alloc (.cells #[.int .i64 (bytR d xx).1, .slice ay ny cy] 54)) w1.heap.size [.int .i64 (bytR d xx).1, .slice ay ny cy]) := Bx.new _ _ _
      have hlw : w.heap.size + 1 < w1.heap.size := HR1.out.lt
      clear hb1 ho1 he2
      rw [hr0.out] at HX1 hcb ⊢
      go_wp2_with fail
      refine (HBF.out _ (HB1.out.trans ((later1 _ _).mono HB1.out.size))).mono ?_
      rintro e w2 ⟨rfl, hb2⟩
      have hb2' : Below w1.heap.size w1 w2 := (later1 _ _).trans (hb2.mono (by simp))
      have HB2 : Hid (Below w.heap.size w w2) := HB1.out.trans (hb2'.mono HB1.out.size)
      have HO2 : Hid (BytO w2 (.slice ay ny cy) zs (fun b => w.heap.size ≤ b ∧ b < w2.heap.size ∧ b ≠ w.heap.size + 1)) := (HO1.out.later hb2').mono fun b hb => ⟨hb.1, by have := hb2'.size; omega, hb.2.2⟩
      have y0 := (HX1.out.later hb2) 0 _ rfl
      have y1 := (HX1.out.later hb2) 1 _ rfl
      have hrr := HR1.out.later hb2'
      have t0 := hrr.cell (i := 0) (by omega)
      have t1 := hrr.cell (i := 1) (by omega)
      have s0 := hrr.frozen 0
      have s1 := hrr.frozen 1
      simp at t0 t1
      clear hb2 hb2' hrr
      go_wp2
      exact bodyPost_ret (v := .agg #[.int .i64 0, .slice ay ny cy]) (by simp [results, Tryz.results25, go_sem, t0, t1]) rfl (AnsYR.boxed HB2.out (by omega) HO2.out _ _)
    · intro hbz
      rw [if_neg hbz]
      have hbb : (busF busy != 0) = true := by simpa using hbz
      clear step hbz
      go_enter Tryz.func25, Tryz.ntmps25
      go_wp2_with fail
      generalize ((w.alloc (.cells #[.slice a1 n1 c1, .slice a2 n2 c2] 31)).alloc (.cells #[.int .i64 0, .slice none 0 0] 54)) = W0 at *
      refine HBY.out.mono ?_
      rintro e w1 ⟨ay, ny, cy, rfl, hb1, ho1⟩
      have HB1 : Hid (Below w.heap.size w w1) := HB0.out.trans (hb1.mono HB0.out.size)
      have HR1 : Hid (OwnRow w1 (w.heap.size + 1) 2 (fun i => if i = 0 then .int .i64 0 else .slice none 0 0)) := HRS.out.later hb1
      have hlw : w.heap.size + 1 < w1.heap.size := HR1.out.lt
      clear hb1 ho1 he2 hr0
      generalize (bytR d xx).1 = r at *
      go_wp2_with fail
      refine (HBF.out _ (HB1.out.trans ((later1 _ _).mono HB1.out.size))).mono ?_
      rintro e w2 ⟨rfl, hb2⟩
      have hb2' : Below w1.heap.size w1 w2 := (later1 _ _).trans (hb2.mono (by simp))
      have HB2 : Hid (Below w.heap.size w w2) := HB1.out.trans (hb2'.mono HB1.out.size)
      have hrr := HR1.out.later hb2'
      have t0 := hrr.cell (i := 0) (by omega)
      have t1 := hrr.cell (i := 1) (by omega)
      have s0 := hrr.frozen 0
      have s1 := hrr.frozen 1
      simp at t0 t1
      clear hb2 hb2' hrr
      generalize busF busy = q at *
      go_wp2
      exact bodyPost_ret (v := .agg #[.int .i64 q, .slice none 0 0]) (by simp [results, Tryz.results25, go_sem, t0, t1]) rfl (AnsYR.boxed HB2.out (by omega) (Or.inl ⟨rfl, none, 0, rfl⟩) _ _)
end Go.Proofs.YtjabimfinanjoaaGreat

namespace Go.Proofs.YtjabimfinanjoaaGreat
open Go.RowKit
set_option maxRecDepth 100000

def zero3 : List Value := [.int .i64 0, .slice none 0 0, .slice none 0 0]
theorem row3 (w : World) (t : TypeId) : OwnRow (w.alloc (.cells #[.int .i64 0, .slice none 0 0, .slice none 0 0] t)) w.heap.size 3 (cel zero3) := newCel w zero3 t
theorem setZ_ino (w : World) (F : Nat → Prop) : InoU w (.int .i64 id0.1) (.int .i64 id0.2.1) (.int .i64 id0.2.2.1) (.slice none 0 0) (.slice none 0 0) id0 F := ⟨⟨rfl, rfl, rfl, none, 0, 0, rfl, Nat.le_refl _⟩, fun _ => False, fun _ => False, Or.inl ⟨rfl, none, 0, rfl⟩, Or.inl ⟨rfl, none, 0, rfl⟩, fun _ h => h.elim, fun _ h => h.elim False.elim False.elim⟩
end Go.Proofs.YtjabimfinanjoaaGreat

namespace Go.Proofs.YtjabimfinanjoaaGreat
open Go.RowKit
set_option maxRecDepth 100000

theorem selL_rng (p : Nat → Bool) (n k : Nat) (hk : k < (selL p n).length) : 0 ≤ (selL p n)[k]?.getD 0 ∧ (selL p n)[k]?.getD 0 < (n : Int) := by
  have hm : (selL p n)[k] ∈ selL p n := List.getElem_mem hk
  rw [List.getElem?_eq_getElem hk]
  show 0 ≤ (selL p n)[k] ∧ (selL p n)[k] < (n : Int)
  unfold selL at hm
  rw [List.mem_map] at hm
  obtain ⟨q, hq, e⟩ := hm
  have := List.mem_range.1 (List.mem_filter.1 hq).1
  unfold selL
  rw [← e]
  omega
theorem pick_ok {ds : List ID} {busy : List Int} {n : Nat} (h : (pickR ds busy (n : Int)).1 = 0) : (pickR ds busy (n : Int)).2.length = n ∧ ∀ k : Nat, k < (pickR ds busy (n : Int)).2.length → 0 ≤ (pickR ds busy (n : Int)).2[k]?.getD 0 ∧ (pickR ds busy (n : Int)).2[k]?.getD 0 < 20 := by
  unfold pickR at h ⊢
  by_cases ha : askF ds busy = 0
  · rw [if_pos ha] at h ⊢
    by_cases hn : 0 ≤ (n : Int) ∧ (n : Int) ≤ 4
    · rw [if_pos hn] at h ⊢
      by_cases hl : ((selL (freeP ds busy) 20).length : Int) < (n : Int)
      · rw [if_pos hl] at h; simp at h
      · rw [if_neg hl]
        have hlen : ((selL (freeP ds busy) 20).take n).length = n := by rw [List.length_take]; omega
        refine ⟨by simpa using hlen, fun k hk => ?_⟩
        have hk' : k < n := by
          have h2 : ((selL (freeP ds busy) 20).take ((n : Int)).toNat).length = n := by simpa using hlen
          have h3 : k < ((selL (freeP ds busy) 20).take ((n : Int)).toNat).length := hk
          omega
        have := selL_rng (freeP ds busy) 20 k (by omega)
        show 0 ≤ ((selL (freeP ds busy) 20).take ((n : Int)).toNat)[k]?.getD 0 ∧ ((selL (freeP ds busy) 20).take ((n : Int)).toNat)[k]?.getD 0 < 20
        rw [List.getElem?_take, if_pos (by simpa using hk')]
        exact this
    · rw [if_neg hn] at h; simp at h
  · rw [if_neg ha] at h; exact absurd h ha
theorem askY_code (d : FD) (x : Int) (busy : List Int) : (askY d x busy).1 = askR d x busy := by
  unfold askY askR
  by_cases h : (bytR d x).1 = 0
  · rw [if_pos h, if_pos h]
    by_cases h2 : busF busy = 0
    · rw [if_pos h2, h2]
    · rw [if_neg h2]
  · rw [if_neg h, if_neg h]
theorem askR_code {d : FD} {x : Int} {busy : List Int} (h : askR d x busy = 0) : (bytR d x).1 = 0 ∧ busF busy = 0 := by
  unfold askR at h
  by_cases h1 : (bytR d x).1 = 0
  · rw [if_pos h1] at h; exact ⟨h1, h⟩
  · rw [if_neg h1] at h; exact absurd h h1

set_option maxHeartbeats 6400000 in
theorem implSet_bad (w : World) (a1 : Option Addr) (n1 c1 : Nat) (a2 : Option Addr) (n2 c2 : Nat) (d : FD) (xx : Int) (aT : Option Addr) (L cT : Nat) (aB : Option Addr) (nB cB : Nat) (busy : List Int) (h : FsR w (.slice a1 n1 c1) (.slice a2 n2 c2) d) (hb : Ints w (.slice aB nB cB) busy) (hs : sizeFs d ≤ 1048576) (hc : ¬ askR d xx busy = 0) :
    Calls Tryz.prog 9 #[.agg #[.slice a1 n1 c1, .slice a2 n2 c2], .int .i64 xx, .slice aT L cT, .slice aB nB cB] w (AnsFR w (noFs (askR d xx busy))) := by
  have HB0 : Hid (Below w.heap.size w ((w.alloc (.cells #[.slice a1 n1 c1, .slice a2 n2 c2] 31)).alloc (.cells #[.int .i64 0, .slice none 0 0, .slice none 0 0] 33))) := later2 _ _ _
  have HRS : Hid (OwnRow ((w.alloc (.cells #[.slice a1 n1 c1, .slice a2 n2 c2] 31)).alloc (.cells #[.int .i64 0, .slice none 0 0, .slice none 0 0] 33)) (w.heap.size + 1) 3 (cel zero3)) := by
    have p2 := row3 (w.alloc (.cells #[.slice a1 n1 c1, .slice a2 n2 c2] 31)) 33
    rw [World.size_alloc] at p2
    exact p2
  have HBY : Hid (∀ W, Below w.heap.size w W → Calls Tryz.prog 25 #[.agg #[.slice a1 n1 c1, .slice a2 n2 c2], .int .i64 xx, .slice aB nB cB] W (AnsYR W (askY d xx busy))) := fun W hW => bytesToWrite_any W a1 n1 c1 a2 n2 c2 d xx _ busy (h.later hW) hs (hb.later hW)
  rw [← askY_code] at hc ⊢
  have hcb : ((askY d xx busy).1 != 0) = true := by simpa using hc
  clear h hs hc hb
  go_enter Tryz.func9, Tryz.ntmps9
  go_wp2_with fail
  generalize ((w.alloc (.cells #[.slice a1 n1 c1, .slice a2 n2 c2] 31)).alloc (.cells #[.int .i64 0, .slice none 0 0, .slice none 0 0] 33)) = W0 at *
  refine (HBY.out _ HB0.out).mono ?_
  rintro e w1 ⟨ay, ny, cy, rfl, hb1, _⟩
  have HB1 : Hid (Below w.heap.size w w1) := HB0.out.trans (hb1.mono HB0.out.size)
  have hrr := HRS.out.later hb1
  have t0 : w1.cell? ⟨w.heap.size + 1, 0, none⟩ = some (.int .i64 0) := hrr.cell (i := 0) (by omega)
  have t1 : w1.cell? ⟨w.heap.size + 1, 1, none⟩ = some (.slice none 0 0) := hrr.cell (i := 1) (by omega)
  have t2 : w1.cell? ⟨w.heap.size + 1, 2, none⟩ = some (.slice none 0 0) := hrr.cell (i := 2) (by omega)
  have s0 := hrr.frozen 0
  have s1 := hrr.frozen 1
  have s2 := hrr.frozen 2
  have hlw : w.heap.size + 1 < w1.heap.size := hrr.lt
  clear hb1 hrr
  generalize (askY d xx busy).1 = r at *
  go_wp2
  exact bodyPost_ret (v := .agg #[.int .i64 r, .slice none 0 0, .slice none 0 0]) (by simp [results, Tryz.results9, go_sem, t0, t1, t2, hlw]) rfl ((AnsFR.none' r HB1.out (by omega) _ _ _).later (later1 _ _))

set_option maxHeartbeats 6400000 in
theorem implSet_long (w : World) (a1 : Option Addr) (n1 c1 : Nat) (a2 : Option Addr) (n2 c2 : Nat) (d : FD) (xx : Int) (aT : Option Addr) (L cT : Nat) (aB : Option Addr) (nB cB : Nat) (busy : List Int) (h : FsR w (.slice a1 n1 c1) (.slice a2 n2 c2) d) (hb : Ints w (.slice aB nB cB) busy) (hs : sizeFs d ≤ 1048576) (hc : askR d xx busy = 0) (hL : ¬ L ≤ 32) :
    Calls Tryz.prog 9 #[.agg #[.slice a1 n1 c1, .slice a2 n2 c2], .int .i64 xx, .slice aT L cT, .slice aB nB cB] w (AnsFR w (noFs 2)) := by
  have HB0 : Hid (Below w.heap.size w ((w.alloc (.cells #[.slice a1 n1 c1, .slice a2 n2 c2] 31)).alloc (.cells #[.int .i64 0, .slice none 0 0, .slice none 0 0] 33))) := later2 _ _ _
  have HRS : Hid (OwnRow ((w.alloc (.cells #[.slice a1 n1 c1, .slice a2 n2 c2] 31)).alloc (.cells #[.int .i64 0, .slice none 0 0, .slice none 0 0] 33)) (w.heap.size + 1) 3 (cel zero3)) := by
    have p2 := row3 (w.alloc (.cells #[.slice a1 n1 c1, .slice a2 n2 c2] 31)) 33
    rw [World.size_alloc] at p2
    exact p2
  have HBY : Hid (∀ W, Below w.heap.size w W → Calls Tryz.prog 25 #[.agg #[.slice a1 n1 c1, .slice a2 n2 c2], .int .i64 xx, .slice aB nB cB] W (AnsYR W (askY d xx busy))) := fun W hW => bytesToWrite_any W a1 n1 c1 a2 n2 c2 d xx _ busy (h.later hW) hs (hb.later hW)
  have HBF : Hid (∀ W, Calls Tryz.prog 26 #[.int .i64 (L : Int)] W fun e w' => e = .returned (.agg #[.int .i64 3, .int .i64 0]) ∧ Below W.heap.size W w') := fun W => by
    have := implBFor_any W (L : Int)
    have e : bforR (L : Int) = (3, 0) := by unfold bforR sizeB; rw [if_neg (by simp; omega)]
    rw [e] at this
    exact this
  have h0 : (askY d xx busy).1 = 0 := by rw [askY_code]; exact hc
  have HA0 : Hid ((askY d xx busy).1 = 0) := h0
  clear h hs hc hb h0 hL
  go_enter Tryz.func9, Tryz.ntmps9
  go_wp2_with fail
  generalize ((w.alloc (.cells #[.slice a1 n1 c1, .slice a2 n2 c2] 31)).alloc (.cells #[.int .i64 0, .slice none 0 0, .slice none 0 0] 33)) = W0 at *
  refine (HBY.out _ HB0.out).mono ?_
  rintro e w1 ⟨ay, ny, cy, rfl, hb1, _⟩
  have HB1 : Hid (Below w.heap.size w w1) := HB0.out.trans (hb1.mono HB0.out.size)
  have HR1 : Hid (OwnRow w1 (w.heap.size + 1) 3 (cel zero3)) := HRS.out.later hb1
  have hlw1 : w.heap.size + 1 < w1.heap.size := HR1.out.lt
  clear hb1
  rw [HA0.out]
  go_wp2_with fail
  refine (HBF.out _).mono ?_
  rintro e w2 ⟨rfl, hb2⟩
  have hb2' : Below w1.heap.size w1 w2 := (later1 _ _).trans (hb2.mono (by simp))
  have HB2 : Hid (Below w.heap.size w w2) := HB1.out.trans (hb2'.mono HB1.out.size)
  have hrr := HR1.out.later hb2'
  have t0 : w2.cell? ⟨w.heap.size + 1, 0, none⟩ = some (.int .i64 0) := hrr.cell (i := 0) (by omega)
  have t1 : w2.cell? ⟨w.heap.size + 1, 1, none⟩ = some (.slice none 0 0) := hrr.cell (i := 1) (by omega)
  have t2 : w2.cell? ⟨w.heap.size + 1, 2, none⟩ = some (.slice none 0 0) := hrr.cell (i := 2) (by omega)
  have s0 := hrr.frozen 0
  have s1 := hrr.frozen 1
  have s2 := hrr.frozen 2
  have hlw : w.heap.size + 1 < w2.heap.size := hrr.lt
  clear hb2 hb2' hrr HBY HBF
  go_wp2
  exact bodyPost_ret (v := .agg #[.int .i64 2, .slice none 0 0, .slice none 0 0]) (by simp [results, Tryz.results9, go_sem, t0, t1, t2, hlw]) rfl ((AnsFR.none' 2 HB2.out (by omega) _ _ _).later (later1 _ _))

set_option maxHeartbeats 6400000 in
theorem implSet_full (w : World) (a1 : Option Addr) (n1 c1 : Nat) (a2 : Option Addr) (n2 c2 : Nat) (d : FD) (xx : Int) (aT : Option Addr) (L cT : Nat) (aB : Option Addr) (nB cB : Nat) (busy : List Int) (h : FsR w (.slice a1 n1 c1) (.slice a2 n2 c2) d) (hb : Ints w (.slice aB nB cB) busy) (hs : sizeFs d ≤ 1048576) (hbl : busy.length ≤ 1048576) (hc : askR d xx busy = 0) (hL : L ≤ 32) (k : Nat) (hk : (L + 7) / 8 = k) (hp : ¬ (pickR d.1 busy (k : Int)).1 = 0) :
    Calls Tryz.prog 9 #[.agg #[.slice a1 n1 c1, .slice a2 n2 c2], .int .i64 xx, .slice aT L cT, .slice aB nB cB] w (AnsFR w (noFs (pickR d.1 busy (k : Int)).1)) := by
  have HB0 : Hid (Below w.heap.size w ((w.alloc (.cells #[.slice a1 n1 c1, .slice a2 n2 c2] 31)).alloc (.cells #[.int .i64 0, .slice none 0 0, .slice none 0 0] 33))) := later2 _ _ _
  have HBX : Hid (Bx ((w.alloc (.cells #[.slice a1 n1 c1, .slice a2 n2 c2] 31)).alloc (.cells #[.int .i64 0, .slice none 0 0, .slice none 0 0] 33)) w.heap.size [.slice a1 n1 c1, .slice a2 n2 c2]) := (Bx.new w [.slice a1 n1 c1, .slice a2 n2 c2] _).later (later1 _ _)
  have HRS : Hid (OwnRow ((w.alloc (.cells #[.slice a1 n1 c1, .slice a2 n2 c2] 31)).alloc (.cells #[.int .i64 0, .slice none 0 0, .slice none 0 0] 33)) (w.heap.size + 1) 3 (cel zero3)) := by
    have p2 := row3 (w.alloc (.cells #[.slice a1 n1 c1, .slice a2 n2 c2] 31)) 33
    rw [World.size_alloc] at p2
    exact p2
  have HBY : Hid (∀ W, Below w.heap.size w W → Calls Tryz.prog 25 #[.agg #[.slice a1 n1 c1, .slice a2 n2 c2], .int .i64 xx, .slice aB nB cB] W (AnsYR W (askY d xx busy))) := fun W hW => bytesToWrite_any W a1 n1 c1 a2 n2 c2 d xx _ busy (h.later hW) hs (hb.later hW)
  have HBF : Hid (∀ W, Calls Tryz.prog 26 #[.int .i64 (L : Int)] W fun e w' => e = .returned (.agg #[.int .i64 0, .int .i64 (k : Int)]) ∧ Below W.heap.size W w') := fun W => by
    have := implBFor_any W (L : Int)
    have e : bforR (L : Int) = (0, (k : Int)) := by unfold bforR sizeB; rw [if_pos (by simp; omega)]; simp only [Prod.mk.injEq, true_and]; omega
    rw [e] at this
    exact this
  have HPK : Hid (∀ W, Below w.heap.size w W → Calls Tryz.prog 27 #[.slice a1 n1 c1, .slice aB nB cB, .int .i64 (k : Int)] W (AnsIC W (pickR d.1 busy (k : Int)))) := fun W hW => implPickC W a1 n1 c1 d.1 aB nB cB busy (k : Int) (h.1.later hW) (hb.later hW) (by unfold sizeFs at hs; omega) hbl
  have h0 : (askY d xx busy).1 = 0 := by rw [askY_code]; exact hc
  have HA0 : Hid ((askY d xx busy).1 = 0) := h0
  have hpb : ((pickR d.1 busy (k : Int)).1 != 0) = true := by simpa using hp
  clear h hs hc hb h0 hL hp hbl hk
  generalize (pickR d.1 busy (k : Int)) = pr at *
  obtain ⟨pc, pl⟩ := pr
  dsimp only at hpb ⊢
  go_enter Tryz.func9, Tryz.ntmps9
  go_wp2_with fail
  generalize ((w.alloc (.cells #[.slice a1 n1 c1, .slice a2 n2 c2] 31)).alloc (.cells #[.int .i64 0, .slice none 0 0, .slice none 0 0] 33)) = W0 at *
  refine (HBY.out _ HB0.out).mono ?_
  rintro e w1 ⟨ay, ny, cy, rfl, hb1, _⟩
  have HB1 : Hid (Below w.heap.size w w1) := HB0.out.trans (hb1.mono HB0.out.size)
  have HR1 : Hid (OwnRow w1 (w.heap.size + 1) 3 (cel zero3)) := HRS.out.later hb1
  have HX1 : Hid (Bx w1 w.heap.size _) := HBX.out.later hb1
  have hlw1 : w.heap.size + 1 < w1.heap.size := HR1.out.lt
  clear hb1
  rw [HA0.out]
  go_wp2_with fail
  refine (HBF.out _).mono ?_
  rintro e w2 ⟨rfl, hb2⟩
  have hb2' : Below w1.heap.size w1 w2 := (later1 _ _).trans (hb2.mono (by simp))
  have HB2 : Hid (Below w.heap.size w w2) := HB1.out.trans (hb2'.mono HB1.out.size)
  have HR2 : Hid (OwnRow w2 (w.heap.size + 1) 3 (cel zero3)) := HR1.out.later hb2'
  have x0 := (HX1.out.later hb2') 0 _ rfl
  have x1 := (HX1.out.later hb2') 1 _ rfl
  have hlw2 : w.heap.size + 1 < w2.heap.size := HR2.out.lt
  have hlw0 : w.heap.size < w2.heap.size := by omega
  clear hb2 hb2' HBY HBF
  go_wp2_with fail
  refine (HPK.out _ (HB2.out.trans ((later1 _ _).mono HB2.out.size))).mono ?_
  rintro e w3 ⟨⟨ap, np, cp, rfl, hb3, _⟩, _⟩
  have hb3' : Below w2.heap.size w2 w3 := (later1 _ _).trans (hb3.mono (by simp))
  have HB3 : Hid (Below w.heap.size w w3) := HB2.out.trans (hb3'.mono HB2.out.size)
  have hrr := HR2.out.later hb3'
  have t0 : w3.cell? ⟨w.heap.size + 1, 0, none⟩ = some (.int .i64 0) := hrr.cell (i := 0) (by omega)
  have t1 : w3.cell? ⟨w.heap.size + 1, 1, none⟩ = some (.slice none 0 0) := hrr.cell (i := 1) (by omega)
  have t2 : w3.cell? ⟨w.heap.size + 1, 2, none⟩ = some (.slice none 0 0) := hrr.cell (i := 2) (by omega)
  have s0 := hrr.frozen 0
  have s1 := hrr.frozen 1
  have s2 := hrr.frozen 2
  have hlw : w.heap.size + 1 < w3.heap.size := hrr.lt
  clear hb3 hb3' hrr HPK x0 x1
  dsimp only
  go_wp2
  exact bodyPost_ret (v := .agg #[.int .i64 pc, .slice none 0 0, .slice none 0 0]) (by simp [results, Tryz.results9, go_sem, t0, t1, t2, hlw]) rfl ((AnsFR.none' pc HB3.out (by omega) _ _ _).later (later1 _ _))
end Go.Proofs.YtjabimfinanjoaaGreat
