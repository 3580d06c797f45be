/- The program: how many bytes each block has to hold; what is wrong of a file system. The bytes of a file: the program. The program's file at work: opened; DropFile. The program's DropFile. Directories: which name stands where, and what functions of directories come to. No program is named here. Directories: what their functions ask alike, of the program and of the specification. Directories: where a name stands; IsEmptyDir and LookName, of the program and of the specification. -/
import Derived.Test.YtmlfpikhencgcanGreatM12
import Derived.Test.YtmlfpikhencgcanGreatM13
import Derived.Test.YtmlfpikhencgcanGreatM11
import Derived.BigQuiet
namespace Go.Proofs.YtmlfpikhencgcanGreat
open Go.RowKit
set_option maxRecDepth 100000

/-- An array that holds a number for each block. -/
def arrI (f : Nat → Int) : Array Value := ((List.range 20).map fun i => intV (f i)).toArray
theorem arrI_size (f : Nat → Int) : (arrI f).size = 20 := by simp [arrI]
theorem arrI_get (f : Nat → Int) {i : Nat} (h : i < 20) : (arrI f)[i]? = some (.int .i64 (f i)) := by
  simp [arrI, h, intV]
theorem arrI_set (f : Nat → Int) (q : Nat) (x : Int) : (arrI f).setIfInBounds q (.int .i64 x) = arrI (fun i => if i = q then x else f i) := by
  apply Array.ext_getElem?
  intro i
  rw [Array.getElem?_setIfInBounds]
  by_cases hi : i < 20
  · rw [arrI_get _ hi, arrI_get _ hi, arrI_size]
    by_cases e : q = i
    · subst e; simp [hi]
    · rw [if_neg e, if_neg (fun h => e h.symm)]
  · have h1 : (arrI f)[i]? = none := by rw [Array.getElem?_eq_none_iff, arrI_size]; omega
    have h2 : (arrI (fun i => if i = q then x else f i))[i]? = none := by rw [Array.getElem?_eq_none_iff, arrI_size]; omega
    rw [h1, h2, arrI_size]
    by_cases e : q = i
    · subst e; simp [hi]
    · rw [if_neg e]
/-- Block b holds the numbers f. -/
def ArI (w : World) (b : Nat) (f : Nat → Int) : Prop := w.heap[b]? = some (.cells (arrI f) 121)
theorem ArI.cell {w : World} {b : Nat} {f : Nat → Int} (h : ArI w b f) {i : Nat} (hi : i < 20) : w.cell? ⟨b, i, none⟩ = some (.int .i64 (f i)) := by
  simp [World.cell?, show w.heap[b]? = some (.cells (arrI f) 121) from h, arrI_get f hi]
theorem ArI.frozen {w : World} {b : Nat} {f : Nat → Int} (h : ArI w b f) (i : Nat) : w.frozen? ⟨b, i, none⟩ = false := by
  simp [World.frozen?, show w.heap[b]? = some (.cells (arrI f) 121) from h]
theorem ArI.lt {w : World} {b : Nat} {f : Nat → Int} (h : ArI w b f) : b < w.heap.size := (Array.getElem?_eq_some_iff.1 h).1
theorem ArI.later {w w' : World} {b : Nat} {f : Nat → Int} (h : ArI w b f) (hb : Below w.heap.size w w') : ArI w' b f := (hb.block b h.lt).trans h
theorem ArI.set {w : World} {b : Nat} {f : Nat → Int} (h : ArI w b f) (q : Nat) (x : Int) : ArI (w.setCell ⟨b, q, none⟩ (.int .i64 x)) b (fun i => if i = q then x else f i) := by
  have h' : w.heap[b]? = some (.cells (arrI f) 121) := h
  unfold ArI
  rw [← arrI_set f q x]
  simp [World.setCell, Array.getElem?_modify, h']
theorem ArI.store {w : World} {b : Nat} {f : Nat → Int} (h : ArI w b f) {p : Addr} (hp : b ≠ p.block) (v : Value) : ArI (w.setCell p v) b f := (Below.heap_setCell _ _ _ _ hp).trans h
theorem ArI.new (w : World) (f : Nat → Int) : ArI (w.alloc (.cells (arrI f) 121)) w.heap.size f := Go.Deep.blk_alloc_new _ _

theorem arrI_one (f : Nat → Int) : (arrI f).all (·.oneCell') = true := by
  unfold arrI
  rw [Array.all_eq_true_iff_forall_mem]
  intro v hv
  simp only [List.mem_toArray, List.mem_map] at hv
  obtain ⟨i, _, rfl⟩ := hv
  rfl
theorem Tryz.infoA20 : (Tryz.prog.info? 121).map (·.size) = some 20 := by kernel_rfl
theorem ArI.load {w : World} {b : Nat} {f : Nat → Int} (h : ArI w b f) : (Instr.loadAt 121 (.pointer (some ⟨b, 0, none⟩))).run Tryz.prog w = .ok (.agg (arrI f)) w := by
  simp only [Instr.loadAt, Instr.sureAddr, Sem.run_bind, Sem.run_pure, Result.andThen]
  exact run_loadVar_row w b _ _ (arrI f) (0, 0) _ h Tryz.underlying121 rfl (by rw [arrI_size]; exact Tryz.infoA20)
theorem ArI.loadV {w : World} {b : Nat} {f : Nat → Int} (h : ArI w b f) : (loadVar 121 ⟨b, 0, none⟩).run Tryz.prog w = .ok (.agg (arrI f)) w :=
  run_loadVar_row w b _ _ (arrI f) (0, 0) _ h Tryz.underlying121 rfl (by rw [arrI_size]; exact Tryz.infoA20)
theorem ArI.put {w : World} {b : Nat} {f : Nat → Int} (h : ArI w b f) (g : Nat → Int) : ∃ X, (Instr.storeAt 121 (.pointer (some ⟨b, 0, none⟩)) (.agg (arrI g))).run Tryz.prog w = .ok () X ∧ ArI X b g ∧ X.heap.size = w.heap.size ∧ (∀ c, c ≠ b → X.heap[c]? = w.heap[c]?) ∧ X.os = w.os ∧ X.tape = w.tape ∧ X.output = w.output := by
  refine ⟨w.setRow b (arrI g), ?_, ?_, ?_, fun c hc => ?_, rfl, rfl, rfl⟩
  · simp only [Instr.storeAt, Instr.sureAddr, Sem.run_bind, Sem.run_pure, Result.andThen]
    rw [run_storeVar_row w b _ _ (arrI f) (arrI g) h (by rw [arrI_size]; exact Tryz.infoA20) (by rw [arrI_size, arrI_size]) (arrI_one g)]
  · have h' : w.heap[b]? = some (.cells (arrI f) 121) := h
    unfold ArI
    simp [World.setRow, Array.getElem?_modify, h']
  · simp [World.setRow]
  · simp only [World.setRow]
    rw [Array.getElem?_modify, if_neg (fun e => hc e.symm)]

theorem m8_left {s : Int} {nB k : Nat} (hn : ((nB : Nat) : Int) = (s + 7) / 8) (hk : k + 1 < nB) : s - 8 * (k : Int) - m8 (s - 8 * (k : Int)) = s - 8 * ((k + 1 : Nat) : Int) := by
  unfold m8
  rw [if_pos (by omega)]
  omega
def bytF (d : FD) : Int := if sizesB d then 0 else 1
/-- The program's codes up to entries are the specification's. -/
theorem fsE_eq (d : FD) : fsE d = if insF d.1 = 0 then (if d.1.length = 0 ∨ ¬ kindAt d.1 0 = 2 then 1 else if dataF d = 0 then lostF d.1 else dataF d) else insF d.1 := by
  unfold fsE dataF formB
  by_cases h1 : insF d.1 = 0
  · rw [if_pos h1, if_pos h1]
    by_cases h2 : d.1.length = 0 ∨ ¬ kindAt d.1 0 = 2
    · rw [if_pos h2, if_pos (by rcases h2 with h | h <;> simp [h])]
    · rw [if_neg h2]
      have h2a : ¬ d.1.length = 0 := fun e => h2 (Or.inl e)
      have h2b : kindAt d.1 0 = 2 := Classical.byContradiction fun e => h2 (Or.inr e)
      by_cases h3 : d.2.length = 20
      · rw [if_neg (by simp [h2b, h3]; intro e; exact h2a (by rw [e]; rfl)), if_pos h3]
        by_cases h4 : fstNZ (manyF d.2) d.2.length = 0
        · rw [if_pos h4]
          by_cases h5 : onceB d.1 20 = true
          · rw [if_pos h5]; simp [h4, h5]
          · rw [if_neg h5]; simp [h4, h5]
        · rw [if_neg h4, if_neg h4, if_neg h4]
      · rw [if_pos (by simp [h3]), if_neg h3]; simp
  · rw [if_neg h1, if_neg h1]
set_option maxHeartbeats 3200000 in
theorem reachFault_any (w : World) (aI : Option Addr) (nI cI : Nat) (aD : Option Addr) (nD cD : Nat) (d : FD) (h : FsR w (.slice aI nI cI) (.slice aD nD cD) d) (hs : sizeInos d.1 ≤ 1048576) :
    Calls Tryz.prog 85 #[.agg #[.slice aI nI cI, .slice aD nD cD]] w fun e w' => e = .returned (.int .i64 (fsE d)) ∧ Below w.heap.size w w' := by
  have HF : Hid (∀ W, Below w.heap.size w W → Calls Tryz.prog 71 #[.slice aI nI cI] W fun e w' => e = .returned (.int .i64 (insF d.1)) ∧ Below W.heap.size W w') := fun W hW => inodesFault_any (h.1.later hW) hs
  have HE : Hid (fsE d = if insF d.1 = 0 then (if d.1.length = 0 ∨ ¬ kindAt d.1 0 = 2 then 1 else if dataF d = 0 then lostF d.1 else dataF d) else insF d.1) := fsE_eq d
  have HX : Hid (Bx (w.alloc (.cells #[.slice aI nI cI, .slice aD nD cD] 29)) w.heap.size [.slice aI nI cI, .slice aD nD cD]) := Bx.new w [.slice aI nI cI, .slice aD nD cD] _
  by_cases h1 : insF d.1 = 0
  rotate_left
  · have HR : Hid (fsE d = insF d.1) := by unfold Hid; rw [HE.out, if_neg h1]
    have hb : (insF d.1 != 0) = true := by simpa using h1
    clear HE h1 h
    generalize insF d.1 = r at *
    go_enter Tryz.func85, Tryz.ntmps85
    go_wp2_with fail
    refine (HF.out _ (later1 _ _)).mono ?_
    rintro e w1 ⟨rfl, hb1⟩
    have HB1 : Hid (Below w.heap.size w w1) := (later1 _ _).trans (hb1.mono (by simp))
    clear hb1
    go_wp2
    go_ret
    exact ⟨ret_int HR.out.symm, HB1.out⟩
  · have HD : Hid (∀ W, Below w.heap.size w W → Calls Tryz.prog 94 #[.agg #[.slice aI nI cI, .slice aD nD cD]] W fun e w' => e = .returned (.int .i64 (dataF d)) ∧ Below W.heap.size W w') := fun W hW => dataFault_any W aI nI cI aD nD cD d (h.later hW) hs h1
    have HN : Hid (∀ W, Below w.heap.size w W → Calls Tryz.prog 95 #[.agg #[.slice aI nI cI, .slice aD nD cD]] W fun e w' => e = .returned (.int .i64 (lostF d.1)) ∧ Below W.heap.size W w') := fun W hW => entriesFault_any W aI nI cI aD nD cD d (h.later hW) hs h1
    obtain ⟨_, _, e2, hm2, hc⟩ := h.1.open'
    simp only [Value.slice.injEq] at e2
    obtain ⟨rfl, rfl, rfl⟩ := e2
    rw [h1, if_pos rfl] at HE
    rw [h1] at HF
    have HC : Hid (AtI w aI d.1.length d.1) := hc
    clear h h1 hc hs hm2
    by_cases h0 : d.1.length = 0
    · have hb0 : (((d.1.length : Nat) : Int) == 0) = true := by simp [h0]
      have HR : Hid (fsE d = 1) := by unfold Hid; rw [HE.out, if_pos (Or.inl h0)]
      clear HE h0
      generalize d.1.length = n at *
      go_enter Tryz.func85, Tryz.ntmps85
      go_wp2_with fail
      refine (HF.out _ (later1 _ _)).mono ?_
      rintro e w1 ⟨rfl, hb1⟩
      have HB1 : Hid (Below w.heap.size w w1) := (later1 _ _).trans (hb1.mono (by simp))
      have x0 := (HX.out.later hb1) 0 _ rfl
      clear hb1
      go_wp2
      go_ret
      exact ⟨ret_int HR.out.symm, HB1.out⟩
    · have hb0 : (((d.1.length : Nat) : Int) == 0) = false := by simp; intro e; exact h0 (by rw [e]; rfl)
      obtain ⟨b0, o0, rfl, hI⟩ := HC.out 0 (by omega)
      obtain ⟨_, _, _, _, kc, _⟩ := hI
      replace kc : w.cell? ⟨b0, o0, none⟩ = some (.int .i64 (kindAt d.1 0)) := by simpa [kindAt] using kc
      have h00 : 0 < d.1.length := by omega
      have HE2 : Hid (fsE d = if ¬ kindAt d.1 0 = 2 then 1 else if dataF d = 0 then lostF d.1 else dataF d) := by
        unfold Hid; rw [HE.out]; simp only [h0, false_or]
      clear HE h0 HC
      generalize d.1.length = n at *
      generalize kindAt d.1 0 = kd at *
      generalize dataF d = df at *
      generalize lostF d.1 = lf at *
      by_cases hk : kd = 2
      rotate_left
      · have hb2 : (kd != 2) = true := by simpa using hk
        have HR : Hid (fsE d = 1) := by unfold Hid; rw [HE2.out, if_pos hk]
        clear HE2 hk
        go_enter Tryz.func85, Tryz.ntmps85
        go_wp2_with fail
        refine (HF.out _ (later1 _ _)).mono ?_
        rintro e w1 ⟨rfl, hb1⟩
        have HB1 : Hid (Below w.heap.size w w1) := (later1 _ _).trans (hb1.mono (by simp))
        have x0 := (HX.out.later hb1) 0 _ rfl
        replace kc := cell_later HB1.out kc
        clear hb1
        go_wp2
        go_ret
        exact ⟨ret_int HR.out.symm, HB1.out⟩
      · have hb2 : (kd != 2) = false := by simpa using hk
        have HE3 : Hid (fsE d = if df = 0 then lf else df) := by unfold Hid; rw [HE2.out, if_neg (by simp [hk])]
        clear HE2 hk
        by_cases hd : df = 0
        · have hb3 : (df != 0) = false := by simpa using hd
          have HR : Hid (fsE d = lf) := by unfold Hid; rw [HE3.out, if_pos hd]
          clear HE3 hd
          go_enter Tryz.func85, Tryz.ntmps85
          go_wp2_with fail
          refine (HF.out _ (later1 _ _)).mono ?_
          rintro e w1 ⟨rfl, hb1⟩
          have HB1 : Hid (Below w.heap.size w w1) := (later1 _ _).trans (hb1.mono (by simp))
          have HX1 : Hid (Bx w1 w.heap.size _) := HX.out.later hb1
          have x0 := HX1.out 0 _ rfl
          have x1 := HX1.out 1 _ rfl
          replace kc := cell_later HB1.out kc
          clear hb1
          go_wp2_with fail
          refine (HD.out _ HB1.out).mono ?_
          rintro e w2 ⟨rfl, hb2'⟩
          have HB2 : Hid (Below w.heap.size w w2) := HB1.out.trans (hb2'.mono HB1.out.size)
          have y0 := (HX1.out.later hb2') 0 _ rfl
          have y1 := (HX1.out.later hb2') 1 _ rfl
          clear hb2' x0 x1 kc
          go_wp2_with fail
          refine (HN.out _ HB2.out).mono ?_
          rintro e w3 ⟨rfl, hb3'⟩
          have HB3 : Hid (Below w.heap.size w w3) := HB2.out.trans (hb3'.mono HB2.out.size)
          clear hb3'
          go_wp2
          go_ret
          exact ⟨ret_int HR.out.symm, HB3.out⟩
        · have hb3 : (df != 0) = true := by simpa using hd
          have HR : Hid (fsE d = df) := by unfold Hid; rw [HE3.out, if_neg hd]
          clear HE3 hd
          go_enter Tryz.func85, Tryz.ntmps85
          go_wp2_with fail
          refine (HF.out _ (later1 _ _)).mono ?_
          rintro e w1 ⟨rfl, hb1⟩
          have HB1 : Hid (Below w.heap.size w w1) := (later1 _ _).trans (hb1.mono (by simp))
          have HX1 : Hid (Bx w1 w.heap.size _) := HX.out.later hb1
          have x0 := HX1.out 0 _ rfl
          have x1 := HX1.out 1 _ rfl
          replace kc := cell_later HB1.out kc
          clear hb1
          go_wp2_with fail
          refine (HD.out _ HB1.out).mono ?_
          rintro e w2 ⟨rfl, hb2'⟩
          have HB2 : Hid (Below w.heap.size w w2) := HB1.out.trans (hb2'.mono HB1.out.size)
          clear hb2' x0 x1 kc
          go_wp2
          go_ret
          exact ⟨ret_int HR.out.symm, HB2.out⟩

theorem range_of {ds : List ID} (hi : insF ds = 0) (h : lostF ds = 0) : inRange ds := fun i hil x hx => by
  unfold entsOf entI at hx
  obtain ⟨e, he, rfl⟩ := List.mem_map.1 hx
  obtain ⟨k, hk, hke⟩ := List.getElem_of_mem he
  have := lost_in hi h i hil k hk
  rw [List.getElem?_eq_getElem hk, Option.getD_some, hke] at this
  exact this
theorem six_of {ds : List ID} (hi : insF ds = 0) (i : Nat) : (entsOf ds i).length ≤ 6 := by
  rw [entsOf_len]
  by_cases h : i < ds.length
  · exact ino_six (ins_ino hi i h)
  · rw [List.getElem?_eq_none (by omega)]; simp [id0]
end Go.Proofs.YtmlfpikhencgcanGreat

namespace Go.Proofs.YtmlfpikhencgcanGreat
open Go.RowKit
set_option maxRecDepth 100000

theorem bytR_len (d : FD) (x : Int) : (bytR d x).2.length ≤ 32 := by
  unfold bytR
  by_cases hf : fsF d = 0
  · rw [if_pos hf]
    by_cases hp : 0 ≤ x ∧ x < (d.1.length : Int)
    · rw [if_pos hp]
      by_cases h2 : kindAt d.1 x.toNat = 2
      · rw [if_pos h2]; simp
      · rw [if_neg h2]
        by_cases h0 : kindAt d.1 x.toNat = 0
        · rw [if_pos h0]; simp
        · rw [if_neg h0]
          obtain ⟨h1, _, h3, _, _⟩ := fsE_zero (fsF_zero hf)
          have hsz := ino_size (ins_ino h1 x.toNat (by omega))
          have := bytK_len d (d.1[x.toNat]?.getD id0).2.2.2.1 (many_eight h3) _ (Nat.le_refl _)
          show (bytL d x.toNat).length ≤ 32
          unfold bytL
          omega
    · rw [if_neg hp]; simp
  · rw [if_neg hf]; simp
end Go.Proofs.YtmlfpikhencgcanGreat

namespace Go.Proofs.YtmlfpikhencgcanGreat
open Go.RowKit
set_option maxRecDepth 100000

theorem AnsFR.put {w W : World} {rb : Nat} {c : Int} {d : FD} {a1 a2 : Option Addr} {n1 c1 n2 c2 : Nat} (hB : Below w.heap.size w W) (hrb : w.heap.size ≤ rb) (h : FsU W (.slice a1 n1 c1) (.slice a2 n2 c2) d (fun b => w.heap.size ≤ b ∧ b < W.heap.size ∧ b ≠ rb)) (x y z : Value) : AnsFR w (c, d) (.returned (.agg #[.int .i64 c, .slice a1 n1 c1, .slice a2 n2 c2])) (((W.setCell ⟨rb, 0, none⟩ x).setCell ⟨rb, 1, none⟩ y).setCell ⟨rb, 2, none⟩ z) := by
  refine ⟨_, _, _, _, _, _, rfl, ((hB.setCell hrb _).setCell hrb _).setCell hrb _, (h.keep fun b hb _ => ?_).mono fun b hb => ?_⟩
  · rw [Below.heap_setCell _ _ _ _ hb.2.2, Below.heap_setCell _ _ _ _ hb.2.2, Below.heap_setCell _ _ _ _ hb.2.2]
  · unfold fresh
    simp only [World.setCell, Array.size_modify]
    exact ⟨hb.1, hb.2.1⟩
theorem AnsFR.none' {w W : World} {rb : Nat} (c : Int) (hB : Below w.heap.size w W) (hrb : w.heap.size ≤ rb) (x y z : Value) : AnsFR w (noFs c) (.returned (.agg #[.int .i64 c, .slice none 0 0, .slice none 0 0])) (((W.setCell ⟨rb, 0, none⟩ x).setCell ⟨rb, 1, none⟩ y).setCell ⟨rb, 2, none⟩ z) :=
  AnsFR.put hB hrb ⟨fun _ => False, fun _ => False, Or.inl ⟨rfl, none, 0, rfl⟩, Or.inl ⟨rfl, none, 0, rfl⟩, fun _ h => h.elim, fun _ h => h.elim False.elim False.elim⟩ x y z
theorem AnsFR.later {w w2 w3 : World} {r : Int × FD} {e : Ending} (h : AnsFR w r e w2) (hb : Below w2.heap.size w2 w3) : AnsFR w r e w3 := by
  obtain ⟨a1, n1, c1, a2, n2, c2, h1, h2, h3⟩ := h
  exact ⟨a1, n1, c1, a2, n2, c2, h1, h2.trans (hb.mono h2.size), (h3.keep fun b _ hlt => hb.block b hlt).mono fun b hh => ⟨hh.1, Nat.lt_of_lt_of_le hh.2 hb.size⟩⟩
theorem FsS.fsB {w : World} {bI n cI bD m cD : Nat} {d : FD} {F : Nat → Prop} (h : FsS w bI n cI bD m cD d F) : FsU w (.slice (some ⟨bI, 0, none⟩) n cI) (.slice (some ⟨bD, 0, none⟩) m cD) d (fun b => F b ∧ b < w.heap.size) := by
  obtain ⟨F1, G1, h1, h2, h3, h4⟩ := h
  exact ⟨F1, G1, h1.inos, h2.byts, h3, fun b hb => h4 b hb⟩
/-- A file at work: where it lies, and its file system around it. -/
structure FileS (w0 w : World) (bf bI n cI bD cD : Nat) (d : FD) (j : Nat) (x : ID) (aB : Option Addr) (cB : Nat) (aE : Option Addr) (cE : Nat) : Prop where
  below : Below w0.heap.size w0 w
  new : w0.heap.size ≤ bf
  box : OwnRow w bf 8 (cel [.int .i64 x.1, .int .i64 x.2.1, .int .i64 x.2.2.1, .slice aB x.2.2.2.1.length cB, .slice aE x.2.2.2.2.length cE, .int .i64 (j : Int), .slice (some ⟨bI, 0, none⟩) n cI, .slice (some ⟨bD, 0, none⟩) 20 cD])
  fs : FsS w bI n cI bD 20 cD d (fun c => w0.heap.size ≤ c ∧ c ≠ bf)
  blk : BlkR w bD aB x.2.2.2.1

set_option maxHeartbeats 3200000 in
theorem openFile_row (w : World) (a1 : Option Addr) (n1 c1 : Nat) (a2 : Option Addr) (n2 c2 : Nat) (d : FD) (j : Nat) (h : FsR w (.slice a1 n1 c1) (.slice a2 n2 c2) d) (hs : sizeFs d ≤ 1048576) (h20 : d.2.length = 20) (hj : j < d.1.length) (h10 : d.1.length ≤ 10) :
    Calls Tryz.prog 46 #[.agg #[.slice a1 n1 c1, .slice a2 n2 c2], .int .i64 (j : Int)] w fun e w' => ∃ bf bI cI bD cD aB cB aE cE, e = .returned (.pointer (some ⟨bf, 0, none⟩)) ∧ (FileS w w' bf bI d.1.length cI bD cD d j (d.1[j]?.getD id0) aB cB aE cE ∧ w'.cell? ⟨bI, j * 5 + 3, none⟩ = some (.slice aB (d.1[j]?.getD id0).2.2.2.1.length cB) ∧ w'.cell? ⟨bI, j * 5 + 4, none⟩ = some (.slice aE (d.1[j]?.getD id0).2.2.2.2.length cE)) := by
  have HCP : Hid (Calls Tryz.prog 23 #[.agg #[.slice a1 n1 c1, .slice a2 n2 c2]] (w.alloc (.cells #[.slice a1 n1 c1, .slice a2 n2 c2] 29)) (AnsFs (w.alloc (.cells #[.slice a1 n1 c1, .slice a2 n2 c2] 29)) d)) := copyOfFs_any _ a1 n1 c1 a2 n2 c2 d (h.later (later1 _ _)) hs (by omega)
  clear h hs
  go_enter Tryz.func46, Tryz.ntmps46
  go_wp2_with fail
  refine HCP.out.mono ?_
  rintro e w1 ⟨b1, m1, cI, b2, m2, cD, rfl, hb1, hf1⟩
  obtain ⟨bI, e1, bD, e2, eI, eD, hfs⟩ := FsS.of hf1 (by omega) (by omega)
  simp only [Value.slice.injEq] at eI eD
  obtain ⟨rfl, rfl, rfl⟩ := eI
  obtain ⟨rfl, rfl, rfl⟩ := eD
  have HB1 : Hid (Below w.heap.size w w1) := (later1 _ _).trans (hb1.mono (by simp))
  have HFS : Hid (FsS w1 bI d.1.length cI bD 20 cD d (fun c => w.heap.size + 1 ≤ c ∧ c < w1.heap.size)) := by
    rw [h20] at hfs
    exact hfs.mono fun c hc => ⟨by have := hc.1; simp at this; omega, hc.2⟩
  obtain ⟨aB, cB, aE, cE, i0, i1, i2, i3, i4, _, _, i7⟩ := HFS.out.ino j hj
  have hne := HFS.out.ne
  have hlI : bI < w1.heap.size := hne.2.1.2
  have hw1 : w.heap.size + 1 ≤ w1.heap.size := by have := hb1.size; simpa using this
  have HFIN : Hid (FileS w ((w1.alloc (.cells #[.slice (some ⟨bI, 0, none⟩) d.1.length cI, .slice (some ⟨bD, 0, none⟩) 20 cD] 29)).alloc (.cells #[.int .i64 (d.1[j]?.getD id0).1, .int .i64 (d.1[j]?.getD id0).2.1, .int .i64 (d.1[j]?.getD id0).2.2.1, .slice aB (d.1[j]?.getD id0).2.2.2.1.length cB, .slice aE (d.1[j]?.getD id0).2.2.2.2.length cE, .int .i64 (j : Int), .slice (some ⟨bI, 0, none⟩) d.1.length cI, .slice (some ⟨bD, 0, none⟩) 20 cD] 86)).drew (w1.heap.size + 1) bI d.1.length cI bD cD d j (d.1[j]?.getD id0) aB cB aE cE ∧ ((w1.alloc (.cells #[.slice (some ⟨bI, 0, none⟩) d.1.length cI, .slice (some ⟨bD, 0, none⟩) 20 cD] 29)).alloc (.cells #[.int .i64 (d.1[j]?.getD id0).1, .int .i64 (d.1[j]?.getD id0).2.1, .int .i64 (d.1[j]?.getD id0).2.2.1, .slice aB (d.1[j]?.getD id0).2.2.2.1.length cB, .slice aE (d.1[j]?.getD id0).2.2.2.2.length cE, .int .i64 (j : Int), .slice (some ⟨bI, 0, none⟩) d.1.length cI, .slice (some ⟨bD, 0, none⟩) 20 cD] 86)).drew.cell? ⟨bI, j * 5 + 3, none⟩ = some (.slice aB (d.1[j]?.getD id0).2.2.2.1.length cB) ∧ ((w1.alloc (.cells #[.slice (some ⟨bI, 0, none⟩) d.1.length cI, .slice (some ⟨bD, 0, none⟩) 20 cD] 29)).alloc (.cells #[.int .i64 (d.1[j]?.getD id0).1, .int .i64 (d.1[j]?.getD id0).2.1, .int .i64 (d.1[j]?.getD id0).2.2.1, .slice aB (d.1[j]?.getD id0).2.2.2.1.length cB, .slice aE (d.1[j]?.getD id0).2.2.2.2.length cE, .int .i64 (j : Int), .slice (some ⟨bI, 0, none⟩) d.1.length cI, .slice (some ⟨bD, 0, none⟩) 20 cD] 86)).drew.cell? ⟨bI, j * 5 + 4, none⟩ = some (.slice aE (d.1[j]?.getD id0).2.2.2.2.length cE)) := by
    have hl2 : ∀ o o' : Obj, Below w1.heap.size w1 ((w1.alloc o).alloc o').drew := fun o o' => (later2 w1 o o').drew
    refine ⟨⟨HB1.out.trans ((hl2 _ _).mono HB1.out.size), by omega, ?_, (HFS.out.later (hl2 _ _)).mono fun c hc => ⟨by omega, by omega⟩, fun k hk => ?_⟩, cell_later (hl2 _ _) i3, cell_later (hl2 _ _) i4⟩
    · have := newCel (w1.alloc (.cells #[.slice (some ⟨bI, 0, none⟩) d.1.length cI, .slice (some ⟨bD, 0, none⟩) 20 cD] 29)) [.int .i64 (d.1[j]?.getD id0).1, .int .i64 (d.1[j]?.getD id0).2.1, .int .i64 (d.1[j]?.getD id0).2.2.1, .slice aB (d.1[j]?.getD id0).2.2.2.1.length cB, .slice aE (d.1[j]?.getD id0).2.2.2.2.length cE, .int .i64 (j : Int), .slice (some ⟨bI, 0, none⟩) d.1.length cI, .slice (some ⟨bD, 0, none⟩) 20 cD] 86
      rw [World.size_alloc] at this
      exact this.later (Below.refl _ _).drew
    · obtain ⟨b, f1, _, _, f4, f5, f6⟩ := i7 k hk
      exact ⟨b, f1, f4, Nat.lt_of_lt_of_le f5 (hl2 (.cells #[.slice (some ⟨bI, 0, none⟩) d.1.length cI, .slice (some ⟨bD, 0, none⟩) 20 cD] 29) (.cells #[.int .i64 (d.1[j]?.getD id0).1, .int .i64 (d.1[j]?.getD id0).2.1, .int .i64 (d.1[j]?.getD id0).2.2.1, .slice aB (d.1[j]?.getD id0).2.2.2.1.length cB, .slice aE (d.1[j]?.getD id0).2.2.2.2.length cE, .int .i64 (j : Int), .slice (some ⟨bI, 0, none⟩) d.1.length cI, .slice (some ⟨bD, 0, none⟩) 20 cD] 86)).size, cell_later (hl2 _ _) f6⟩
  have hjI : (j : Int) < ((d.1.length : Nat) : Int) := by omega
  rw [h20]
  clear HFS i7 hfs hf1 hb1 hne HCP
  generalize hl1 : (d.1[j]?.getD id0).2.2.2.1.length = l1 at *
  generalize hl2 : (d.1[j]?.getD id0).2.2.2.2.length = l2 at *
  have HL1 : Hid ((d.1[j]?.getD id0).2.2.2.1.length = l1) := hl1
  have HL2 : Hid ((d.1[j]?.getD id0).2.2.2.2.length = l2) := hl2
  clear hl1 hl2
  generalize (d.1[j]?.getD id0).1 = y0 at *
  generalize (d.1[j]?.getD id0).2.1 = y1 at *
  generalize (d.1[j]?.getD id0).2.2.1 = y2 at *
  obtain ⟨n, hn⟩ : ∃ n, d.1.length = n := ⟨_, rfl⟩
  have HN : Hid (d.1.length = n) := hn
  rw [hn] at hj h10 hjI HFIN ⊢
  clear hn
  have hnw1 : w1.heap.size ≠ bI := by omega
  have hnw2 : bI ≠ w1.heap.size := by omega
  go_wp2_with fail
  go_region_held3 (fun W => W.cell? ⟨w1.heap.size, 0, none⟩ = some (.slice (some ⟨bI, 0, none⟩) n cI) ∧ W.cell? ⟨w1.heap.size, 1, none⟩ = some (.slice (some ⟨bD, 0, none⟩) 20 cD) ∧ W.cell? ⟨bI, j * 5, none⟩ = some (.int .i64 y0) ∧ W.cell? ⟨bI, j * 5 + 1, none⟩ = some (.int .i64 y1) ∧ W.cell? ⟨bI, j * 5 + 2, none⟩ = some (.int .i64 y2) ∧ W.cell? ⟨bI, j * 5 + 3, none⟩ = some (.slice aB l1 cB) ∧ W.cell? ⟨bI, j * 5 + 4, none⟩ = some (.slice aE l2 cE)) (go_keep) (fail)
  all_goals
    go_wp2
    go_ret
    first
      | exact ⟨w1.heap.size + 1, bI, cI, bD, cD, aB, cB, aE, cE, rfl, by rw [HL1.out, HL2.out]; exact HFIN.out⟩
      | exact ⟨w1.heap.size + 1, bI, cI, bD, cD, aB, cB, aE, cE, rfl, by rw [HN.out, HL1.out, HL2.out]; exact HFIN.out⟩
theorem openFile_any (w : World) (a1 : Option Addr) (n1 c1 : Nat) (a2 : Option Addr) (n2 c2 : Nat) (d : FD) (j : Nat) (h : FsR w (.slice a1 n1 c1) (.slice a2 n2 c2) d) (hs : sizeFs d ≤ 1048576) (h20 : d.2.length = 20) (hj : j < d.1.length) (h10 : d.1.length ≤ 10) :
    Calls Tryz.prog 46 #[.agg #[.slice a1 n1 c1, .slice a2 n2 c2], .int .i64 (j : Int)] w fun e w' => ∃ bf bI cI bD cD aB cB aE cE, e = .returned (.pointer (some ⟨bf, 0, none⟩)) ∧ FileS w w' bf bI d.1.length cI bD cD d j (d.1[j]?.getD id0) aB cB aE cE := by
  refine (openFile_row w a1 n1 c1 a2 n2 c2 d j h hs h20 hj h10).mono ?_
  rintro e w' ⟨bf, bI, cI, bD, cD, aB, cB, aE, cE, he, hf, _⟩
  exact ⟨bf, bI, cI, bD, cD, aB, cB, aE, cE, he, hf⟩
end Go.Proofs.YtmlfpikhencgcanGreat

namespace Go.Proofs.YtmlfpikhencgcanGreat
open Go.RowKit
set_option maxRecDepth 100000

def zero3 : List Value := [.int .i64 0, .slice none 0 0, .slice none 0 0]
theorem row3 (w : World) (t : TypeId) : OwnRow (w.alloc (.cells #[.int .i64 0, .slice none 0 0, .slice none 0 0] t)) w.heap.size 3 (cel zero3) := newCel w zero3 t
theorem setZ_ino (w : World) (F : Nat → Prop) : InoU w (.int .i64 id0.1) (.int .i64 id0.2.1) (.int .i64 id0.2.2.1) (.slice none 0 0) (.slice none 0 0) id0 F := ⟨⟨rfl, rfl, rfl, none, 0, 0, rfl, Nat.le_refl _⟩, fun _ => False, fun _ => False, Or.inl ⟨rfl, none, 0, rfl⟩, Or.inl ⟨rfl, none, 0, rfl⟩, fun _ h => h.elim, fun _ h => h.elim False.elim False.elim⟩
set_option maxHeartbeats 1600000 in
theorem dropF_any (w0 w : World) (bf bI n cI bD cD : Nat) (d : FD) (j : Nat) (x : ID) (aB : Option Addr) (cB : Nat) (aE : Option Addr) (cE : Nat) (h : FileS w0 w bf bI n cI bD cD d j x aB cB aE cE) (hr : ∀ k : Nat, k < x.2.2.2.1.length → 0 ≤ x.2.2.2.1[k]?.getD 0 ∧ x.2.2.2.1[k]?.getD 0 < 20) (h4 : x.2.2.2.1.length ≤ 4) :
    Calls Tryz.prog 48 #[.pointer (some ⟨bf, 0, none⟩)] w fun e w' => e = .returned (.tuple #[]) ∧ FileS w0 w' bf bI n cI bD cD (d.1, clrK d.2 x.2.2.2.1 x.2.2.2.1.length) j id0 none 0 none 0 := by
  have HFL : Hid (FileS w0 w bf bI n cI bD cD d j x aB cB aE cE) := h
  have hne := h.fs.ne
  have hnf : w0.heap.size ≤ bf := h.new
  have HDB : Hid (Calls Tryz.prog 72 #[.pointer (some ⟨bf, 0, none⟩)] w fun e w' => e = .returned (.tuple #[]) ∧ Chg (fun c => c = bD) w w' ∧ FsS w' bI n cI bD 20 cD (d.1, clrK d.2 x.2.2.2.1 x.2.2.2.1.length) (fun c => w0.heap.size ≤ c ∧ c ≠ bf)) := dropBytes_any w bf bI n cI bD cD d _ _ aB cB x.2.2.2.1 rfl h.box rfl rfl h.fs (fun e => hne.2.2.1.2 e.symm) h.blk hr h4
  clear h hr h4
  go_enter Tryz.func48, Tryz.ntmps48
  go_wp2_with fail
  refine HDB.out.mono ?_
  rintro e w3 ⟨rfl, hc3, hf3⟩
  have HBX3 : Hid (OwnRow w3 bf 8 _) := HFL.out.box.block (hc3.block bf HFL.out.box.lt (fun e => hne.2.2.1.2 e.symm))
  have HB3 : Hid (Below w0.heap.size w0 w3) := HFL.out.below.trans (hc3.below HFL.out.below.size fun b hb => hb ▸ hne.2.2.1.1)
  have HF3 : Hid (FsS w3 bI n cI bD 20 cD (d.1, clrK d.2 x.2.2.2.1 x.2.2.2.1.length) (fun c => w0.heap.size ≤ c ∧ c ≠ bf)) := hf3
  clear hc3 hf3 HDB
  go_wp2_with fail
  refine (release_any w3 bf _ HBX3.out).mono ?_
  rintro e w4 ⟨rfl, hw4⟩
  have HC4 : Hid (Chg (fun c => c = bf) w3 w4) := by
    unfold Hid
    rw [hw4]
    have h0 : Chg (fun c => c = bf) w3 w3 := Chg.refl _ _
    have h1 := Chg.set (F := fun c => c = bf) h0 rfl 0 (.int .i64 0)
    have h2 := Chg.set (F := fun c => c = bf) h1 rfl (0 + 1) (.int .i64 0)
    have h3 := Chg.set (F := fun c => c = bf) h2 rfl (0 + 2) (.int .i64 0)
    have h4 := Chg.set (F := fun c => c = bf) h3 rfl (0 + 3) (.slice none 0 0)
    exact Chg.set (F := fun c => c = bf) h4 rfl (0 + 4) (.slice none 0 0)
  have HBX4 : Hid (OwnRow w4 bf 8 (cel [.int .i64 id0.1, .int .i64 id0.2.1, .int .i64 id0.2.2.1, .slice none 0 0, .slice none 0 0, .int .i64 (j : Int), .slice (some ⟨bI, 0, none⟩) n cI, .slice (some ⟨bD, 0, none⟩) 20 cD])) := by
    unfold Hid
    rw [hw4]
    refine (HBX3.out.five 0 _ _ _ _ _).congr fun i hi => ?_
    match i, hi with
    | 0, _ => rfl
    | 1, _ => rfl
    | 2, _ => rfl
    | 3, _ => rfl
    | 4, _ => rfl
    | 5, _ => rfl
    | 6, _ => rfl
    | 7, _ => rfl
  have HFIN : Hid (FileS w0 w4 bf bI n cI bD cD (d.1, clrK d.2 x.2.2.2.1 x.2.2.2.1.length) j id0 none 0 none 0) := ⟨HB3.out.trans (HC4.out.below HB3.out.size fun b hb => hb ▸ hnf), hnf, HBX4.out, HF3.out.chg HC4.out fun b hb e => hb.2 e, fun k hk => by simp [id0] at hk⟩
  clear hw4 HC4 HBX3 HF3 HB3
  go_wp2
  go_end0
  exact ⟨rfl, HFIN.out⟩
end Go.Proofs.YtmlfpikhencgcanGreat

namespace Go.Proofs.YtmlfpikhencgcanGreat
open Go.RowKit
set_option maxRecDepth 100000

theorem bl_irr : ∀ x : List UInt8, Op.bytesLess x x = false
  | [] => by simp [Op.bytesLess]
  | a :: x => by
    have h : ¬ a < a := by rw [UInt8.lt_iff_toNat_lt]; omega
    simp [Op.bytesLess, bl_irr x, h]
theorem bl_trans : ∀ {x y z : List UInt8}, Op.bytesLess x y = true → Op.bytesLess y z = true → Op.bytesLess x z = true
  | [], [], _, h1, _ => by simp [Op.bytesLess] at h1
  | [], _ :: _, [], _, h2 => by simp [Op.bytesLess] at h2
  | [], _ :: _, _ :: _, _, _ => by simp [Op.bytesLess]
  | _ :: _, [], _, h1, _ => by simp [Op.bytesLess] at h1
  | _ :: _, _ :: _, [], _, h2 => by simp [Op.bytesLess] at h2
  | a :: x, b :: y, c :: z, h1, h2 => by
    simp only [Op.bytesLess, Bool.or_eq_true, Bool.and_eq_true, decide_eq_true_eq, beq_iff_eq] at h1 h2 ⊢
    rcases h1 with h1 | ⟨rfl, h1⟩
    · rcases h2 with h2 | ⟨rfl, h2⟩
      · left; rw [UInt8.lt_iff_toNat_lt] at h1 h2 ⊢; omega
      · exact Or.inl h1
    · rcases h2 with h2 | ⟨rfl, h2⟩
      · exact Or.inl h2
      · exact Or.inr ⟨rfl, bl_trans h1 h2⟩
theorem bl_total : ∀ {x y : List UInt8}, Op.bytesLess x y = false → (x == y) = false → Op.bytesLess y x = true
  | [], [], _, h2 => by simp at h2
  | [], _ :: _, h1, _ => by simp [Op.bytesLess] at h1
  | _ :: _, [], _, _ => by simp [Op.bytesLess]
  | a :: x, b :: y, h1, h2 => by
    simp only [Op.bytesLess, Bool.or_eq_false_iff, Bool.and_eq_false_iff, decide_eq_false_iff_not] at h1
    simp only [Op.bytesLess, Bool.or_eq_true, Bool.and_eq_true, decide_eq_true_eq, beq_iff_eq]
    obtain ⟨h1, h3⟩ := h1
    by_cases e : a = b
    · subst e
      right
      refine ⟨rfl, bl_total ?_ ?_⟩
      · rcases h3 with h3 | h3
        · simp at h3
        · exact h3
      · simpa using h2
    · left
      rw [UInt8.lt_iff_toNat_lt] at h1 ⊢
      have : a.toNat ≠ b.toNat := fun h => e (UInt8.toNat_inj.1 h)
      omega
/-- The name of an entry is s; it is not below s. -/
def eqE (s : ByteArray) (e : EN) : Bool := e.1.toList == s.toList
def geE (s : ByteArray) (e : EN) : Bool := !(Op.bytesLess e.1.toList s.toList)
def idxE (es : List EN) (s : ByteArray) : Nat := es.findIdx (eqE s)
def plcE (es : List EN) (s : ByteArray) : Nat := es.findIdx (geE s)
def fndB (es : List EN) (s : ByteArray) : Bool := decide (plcE es s < es.length) && eqE s (es[plcE es s]?.getD en0)
theorem getD_el {es : List EN} {k : Nat} (h : k < es.length) : es[k]?.getD en0 = es[k] := by rw [List.getElem?_eq_getElem h]; rfl
theorem findIdx_is {p : EN → Bool} {es : List EN} {k : Nat} (hk : k < es.length) (h : p (es[k]?.getD en0) = true) (ha : ∀ j, j < k → p (es[j]?.getD en0) = false) : es.findIdx p = k := by
  rw [List.findIdx_eq hk]
  exact ⟨by rw [← getD_el hk]; exact h, fun j hj => by have := ha j hj; rw [getD_el (by omega)] at this; exact this⟩
theorem findIdx_no {p : EN → Bool} {es : List EN} (ha : ∀ j, j < es.length → p (es[j]?.getD en0) = false) : es.findIdx p = es.length := by
  rw [List.findIdx_eq_length]
  intro e he
  obtain ⟨j, hj, rfl⟩ := List.mem_iff_getElem.1 he
  have := ha j hj
  rw [getD_el hj] at this
  exact this
theorem findIdx_le {p : EN → Bool} (es : List EN) : es.findIdx p ≤ es.length := List.findIdx_le_length
theorem findIdx_at {p : EN → Bool} {es : List EN} (h : es.findIdx p < es.length) : p (es[es.findIdx p]?.getD en0) = true := by
  rw [getD_el h]; exact List.findIdx_getElem
theorem findIdx_lt {p : EN → Bool} {es : List EN} {j : Nat} (h : j < es.findIdx p) : p (es[j]?.getD en0) = false := by
  have := findIdx_le (p := p) es
  rw [getD_el (by omega)]
  have := List.not_of_lt_findIdx h
  simpa using this
/-- The names rise. -/
def Rises (es : List EN) : Prop := ∀ i, i + 1 < es.length → Op.bytesLess (es[i]?.getD en0).1.toList (es[i + 1]?.getD en0).1.toList = true
theorem Rises.lt {es : List EN} (h : Rises es) : ∀ {i k : Nat}, i < k → k < es.length → Op.bytesLess (es[i]?.getD en0).1.toList (es[k]?.getD en0).1.toList = true := by
  intro i k
  induction k with
  | zero => intro h0; omega
  | succ k ih =>
    intro h1 h2
    have h3 := h k h2
    by_cases e : i = k
    · subst e; exact h3
    · exact bl_trans (ih (by omega) (by omega)) h3
theorem eqE_self {s : ByteArray} {e : EN} (h : eqE s e = true) : e.1.toList = s.toList := by simpa [eqE] using h
theorem idx_plc {es : List EN} (h : Rises es) {s : ByteArray} (hi : idxE es s < es.length) : plcE es s = idxE es s := by
  have he := eqE_self (findIdx_at hi)
  refine findIdx_is hi ?_ fun j hj => ?_
  · unfold geE
    have h1 : (es[idxE es s]?.getD en0).1.toList = s.toList := he
    rw [h1, bl_irr]; rfl
  · unfold geE
    have h1 : (es[idxE es s]?.getD en0).1.toList = s.toList := he
    rw [← h1, h.lt hj hi]; rfl
theorem fnd_iff {es : List EN} (h : Rises es) (s : ByteArray) : fndB es s = decide (idxE es s < es.length) := by
  by_cases hi : idxE es s < es.length
  · rw [decide_eq_true hi]
    unfold fndB
    rw [idx_plc h hi, decide_eq_true hi]
    exact findIdx_at hi
  · rw [decide_eq_false hi]
    unfold fndB
    by_cases hp : plcE es s < es.length
    · rw [decide_eq_true hp, Bool.true_and]
      by_cases he : eqE s (es[plcE es s]?.getD en0) = true
      · exfalso
        apply hi
        have h1 : es.findIdx (eqE s) ≤ plcE es s := by
          by_cases h2 : plcE es s < es.findIdx (eqE s)
          · have := findIdx_lt h2; rw [he] at this; exact absurd this (by decide)
          · omega
        have h2 : idxE es s = es.findIdx (eqE s) := rfl
        omega
      · simpa using he
    · rw [decide_eq_false hp]; rfl

/-- The entries of the inode at a place. -/
def entA (d : FD) (j : Nat) : List EN := (d.1[j]?.getD id0).2.2.2.2
/-- What functions of directories ask alike. -/
def dirQ (d : FD) (x : Int) : Int := if fsE d = 0 then (if 0 ≤ x ∧ x < (d.1.length : Int) then (if kindAt d.1 x.toNat = 2 then 0 else 9) else 3) else fsE d
def dirN (d : FD) (x : Int) (s : ByteArray) : Int := if dirQ d x = 0 then nameF s else dirQ d x
/-- IsEmptyDir, LookName, NamesIn. -/
def emptyB (d : FD) (x : Int) : Bool := decide (dirQ d x = 0) && decide ((entA d x.toNat).length = 0)
def lookR (d : FD) (x : Int) (s : ByteArray) : Int × Int := if dirN d x s = 0 then (if idxE (entA d x.toNat) s < (entA d x.toNat).length then (0, ((entA d x.toNat)[idxE (entA d x.toNat) s]?.getD en0).2) else (4, 0)) else (dirN d x s, 0)
def namesD (d : FD) (x : Int) : Int × List (List UInt8) := if dirQ d x = 0 then (0, (entA d x.toNat).map fun e => e.1.toList) else (dirQ d x, [])
/-- What stands where a directory is told. -/
structure DirS (d : FD) (j : Nat) : Prop where
  fs : fsE d = 0
  lt : j < d.1.length
  ten : d.1.length ≤ 10
  dat : d.2.length = 20
  eight : ∀ i : Nat, (d.2[i]?.getD []).length ≤ 8
  kind : (d.1[j]?.getD id0).1 = 2
  six : (entA d j).length ≤ 6
  rises : Rises (entA d j)
  names : ∀ k : Nat, k < (entA d j).length → nameF ((entA d j)[k]?.getD en0).1 = 0
  ins : insF d.1 = 0
  leads : ∀ j, j < d.1.length → ∀ k, k < (d.1[j]?.getD id0).2.2.2.2.length → 0 ≤ ((d.1[j]?.getD id0).2.2.2.2[k]?.getD en0).2 ∧ ((d.1[j]?.getD id0).2.2.2.2[k]?.getD en0).2 < (d.1.length : Int)
theorem dirQ_in {d : FD} {x : Int} (h : dirQ d x = 0) : fsE d = 0 ∧ (0 ≤ x ∧ x < (d.1.length : Int)) ∧ kindAt d.1 x.toNat = 2 := by
  unfold dirQ at h
  by_cases hf : fsE d = 0
  · rw [if_pos hf] at h
    by_cases hp : 0 ≤ x ∧ x < (d.1.length : Int)
    · rw [if_pos hp] at h
      by_cases hk : kindAt d.1 x.toNat = 2
      · exact ⟨hf, hp, hk⟩
      · rw [if_neg hk] at h; omega
    · rw [if_neg hp] at h; omega
  · rw [if_neg hf] at h; exact absurd h hf
theorem ino_dir {x : ID} (h : inoF x = 0) (hk : x.1 = 2) : dirF x.2.2.2.2 = 0 := by
  unfold inoF at h
  rw [if_neg (by omega), if_neg (by omega), if_pos hk] at h
  by_cases hd : fpB x = true
  · rw [if_pos hd] at h; omega
  · rw [if_neg hd] at h; exact h
theorem dir_rises {es : List EN} (h : dirF es = 0) : Rises es ∧ (∀ k : Nat, k < es.length → nameF (es[k]?.getD en0).1 = 0) ∧ es.length ≤ 6 := by
  unfold dirF at h
  by_cases h6 : 6 < es.length
  · rw [if_pos h6] at h; omega
  · rw [if_neg h6] at h
    have hz := fstNZ_inv h
    have hn : ∀ k : Nat, k < es.length → nameF (es[k]?.getD en0).1 = 0 := fun k hk => by
      have := hz k hk
      unfold entF at this
      by_cases e : nameF (es[k]?.getD en0).1 = 0
      · exact e
      · rw [if_neg e] at this; exact absurd this e
    refine ⟨fun i hi => ?_, hn, by omega⟩
    have := hz (i + 1) hi
    unfold entF at this
    rw [if_pos (hn _ hi)] at this
    by_cases e : 0 ≤ (es[i + 1]?.getD en0).2 ∧ (es[i + 1]?.getD en0).2 ≤ 9
    · rw [if_pos e] at this
      by_cases e2 : 0 < i + 1 ∧ strLe (es[i + 1]?.getD en0).1 (es[i + 1 - 1]?.getD en0).1 = true
      · rw [if_pos e2] at this; omega
      · have e3 : strLe (es[i + 1]?.getD en0).1 (es[i]?.getD en0).1 = false := by
          rw [show i + 1 - 1 = i by omega] at e2
          simpa using e2
        unfold strLe at e3
        rw [Bool.or_eq_false_iff] at e3
        obtain ⟨e4, e5⟩ := e3
        exact bl_total e4 e5
    · rw [if_neg e] at this; omega
theorem dirS {d : FD} {x : Int} (h : dirQ d x = 0) : DirS d x.toNat := by
  obtain ⟨hf, hp, hk⟩ := dirQ_in h
  obtain ⟨h1, g2, h3, _, h5⟩ := fsE_zero hf
  obtain ⟨_, _, g3⟩ := formB_no g2
  have hj : x.toNat < d.1.length := by omega
  have hd := dir_rises (ino_dir (ins_ino h1 x.toNat hj) hk)
  exact ⟨hf, hj, insF_ten h1, g3, many_eight h3, hk, hd.2.2, hd.1, hd.2.1, h1, lost_in h1 h5⟩
end Go.Proofs.YtmlfpikhencgcanGreat

namespace Go.Proofs.YtmlfpikhencgcanGreat
open Go.RowKit
set_option maxRecDepth 100000

set_option maxHeartbeats 3200000 in
theorem dirPlaceFault_any (w : World) (a1 : Option Addr) (n1 c1 : Nat) (a2 : Option Addr) (n2 c2 : Nat) (d : FD) (x : Int) (h : FsR w (.slice a1 n1 c1) (.slice a2 n2 c2) d) (hsi : sizeInos d.1 ≤ 1048576) :
    Calls Tryz.prog 64 #[.agg #[.slice a1 n1 c1, .slice a2 n2 c2], .int .i64 x] w fun e w' => e = .returned (.int .i64 (dirQ d x)) ∧ Below w.heap.size w w' := by
  have HF : Hid (∀ W, Below w.heap.size w W → Calls Tryz.prog 85 #[.agg #[.slice a1 n1 c1, .slice a2 n2 c2]] W fun e w' => e = .returned (.int .i64 (fsE d)) ∧ Below W.heap.size W w') := fun W hW => reachFault_any W _ _ _ _ _ _ d (h.later hW) hsi
  have HX : Hid (Bx (w.alloc (.cells #[.slice a1 n1 c1, .slice a2 n2 c2] 29)) w.heap.size [.slice a1 n1 c1, .slice a2 n2 c2]) := Bx.new w [.slice a1 n1 c1, .slice a2 n2 c2] _
  have HR : Hid (dirQ d x = if fsE d = 0 then (if 0 ≤ x ∧ x < (d.1.length : Int) then (if kindAt d.1 x.toNat = 2 then 0 else 9) else 3) else fsE d) := rfl
  obtain ⟨_, _, e1, hm1, hAt⟩ := h.1.open'
  obtain ⟨_, _, e2, hm2, hBt⟩ := h.2.open'
  simp only [Value.slice.injEq] at e1 e2
  obtain ⟨rfl, rfl, rfl⟩ := e1
  obtain ⟨rfl, rfl, rfl⟩ := e2
  have HIN : Hid (∀ W, Calls Tryz.prog 86 #[.agg #[.slice a1 d.1.length c1, .slice a2 d.2.length c2], .int .i64 x] W fun e w' => e = .returned (.bool (decide (0 ≤ x ∧ x < (d.1.length : Int)))) ∧ Below W.heap.size W w') := fun W => isInode_any W _ _ _ _ _ _ x
  clear h hm1 hm2 hBt
  by_cases hf : fsE d = 0
  rotate_left
  · have HQ : Hid (dirQ d x = fsE d) := by unfold Hid; rw [HR.out, if_neg hf]
    rw [HQ.out]
    have hb : (fsE d != 0) = true := by simpa using hf
    clear hf hAt HR HQ HIN
    generalize fsE d = r at *
    generalize d.1.length = n at *
    generalize d.2.length = m at *
    go_enter Tryz.func64, Tryz.ntmps64
    go_wp2_with fail
    refine (HF.out _ (later1 _ _)).mono ?_
    rintro e w1 ⟨rfl, hb1⟩
    have HB1 : Hid (Below w.heap.size w w1) := (later1 _ _).trans (hb1.mono (by simp))
    clear hb1
    go_wp2
    go_ret
    exact ⟨rfl, HB1.out⟩
  · rw [hf] at HF
    by_cases hpl : 0 ≤ x ∧ x < (d.1.length : Int)
    rotate_left
    · have HQ : Hid (dirQ d x = 3) := by unfold Hid; rw [HR.out, if_pos hf, if_neg hpl]
      rw [HQ.out]
      rw [decide_eq_false hpl] at HIN
      clear hf hAt HR HQ hpl
      generalize d.1.length = n at *
      generalize d.2.length = m at *
      go_enter Tryz.func64, Tryz.ntmps64
      go_wp2_with fail
      refine (HF.out _ (later1 _ _)).mono ?_
      rintro e w1 ⟨rfl, hb1⟩
      have HB1 : Hid (Below w.heap.size w w1) := (later1 _ _).trans (hb1.mono (by simp))
      have y0 := (HX.out.later hb1) 0 _ rfl
      have y1 := (HX.out.later hb1) 1 _ rfl
      clear hb1
      go_wp2_with fail
      refine (HIN.out _).mono ?_
      rintro e w2 ⟨rfl, hb2⟩
      have HB2 : Hid (Below w.heap.size w w2) := HB1.out.trans (hb2.mono HB1.out.size)
      clear hb2 y0 y1
      go_wp2
      go_ret
      exact ⟨rfl, HB2.out⟩
    · rw [decide_eq_true hpl] at HIN
      obtain ⟨j, rfl⟩ : ∃ j : Nat, x = (j : Int) := ⟨x.toNat, by omega⟩
      have hj : j < d.1.length := by omega
      have HQ : Hid (dirQ d (j : Int) = if (d.1[j]?.getD id0).1 = 2 then 0 else 9) := by unfold Hid; rw [HR.out, if_pos hf, if_pos hpl]; rfl
      rw [HQ.out]
      have hjn : (j : Int) < ((d.1.length : Nat) : Int) := by omega
      obtain ⟨b0, o0, rfl, hI⟩ := hAt j hj
      obtain ⟨aB, cB, _, _, kc, _⟩ := hI
      have HKC : Hid (_ = some (Value.int .i64 (d.1[j]?.getD id0).1)) := kc
      clear kc hAt HR HQ hpl hf
      generalize (d.1[j]?.getD id0).1 = kd at *
      generalize d.1.length = n at *
      generalize d.2.length = m at *
      by_cases hk : kd = 2
      · rw [if_pos hk]
        have hb2 : (kd != 2) = false := by simpa using hk
        clear hk
        go_enter Tryz.func64, Tryz.ntmps64
        go_wp2_with fail
        refine (HF.out _ (later1 _ _)).mono ?_
        rintro e w1 ⟨rfl, hb1⟩
        have HB1 : Hid (Below w.heap.size w w1) := (later1 _ _).trans (hb1.mono (by simp))
        have HX1 : Hid (Bx w1 w.heap.size _) := HX.out.later hb1
        have y0 := HX1.out 0 _ rfl
        have y1 := HX1.out 1 _ rfl
        clear hb1
        go_wp2_with fail
        refine (HIN.out _).mono ?_
        rintro e w2 ⟨rfl, hb2⟩
        have HB2 : Hid (Below w.heap.size w w2) := HB1.out.trans (hb2.mono HB1.out.size)
        have z0 := (HX1.out.later hb2) 0 _ rfl
        have z1 := (HX1.out.later hb2) 1 _ rfl
        have kc2 := cell_later HB2.out HKC.out
        clear hb2 y0 y1
        go_wp2
        go_ret
        exact ⟨rfl, HB2.out⟩
      · rw [if_neg hk]
        have hb2 : (kd != 2) = true := by simpa using hk
        clear hk
        go_enter Tryz.func64, Tryz.ntmps64
        go_wp2_with fail
        refine (HF.out _ (later1 _ _)).mono ?_
        rintro e w1 ⟨rfl, hb1⟩
        have HB1 : Hid (Below w.heap.size w w1) := (later1 _ _).trans (hb1.mono (by simp))
        have HX1 : Hid (Bx w1 w.heap.size _) := HX.out.later hb1
        have y0 := HX1.out 0 _ rfl
        have y1 := HX1.out 1 _ rfl
        clear hb1
        go_wp2_with fail
        refine (HIN.out _).mono ?_
        rintro e w2 ⟨rfl, hb2⟩
        have HB2 : Hid (Below w.heap.size w w2) := HB1.out.trans (hb2.mono HB1.out.size)
        have z0 := (HX1.out.later hb2) 0 _ rfl
        have z1 := (HX1.out.later hb2) 1 _ rfl
        have kc2 := cell_later HB2.out HKC.out
        clear hb2 y0 y1
        go_wp2
        go_ret
        exact ⟨rfl, HB2.out⟩

set_option maxHeartbeats 1600000 in
theorem dirNameFault_any (w : World) (a1 : Option Addr) (n1 c1 : Nat) (a2 : Option Addr) (n2 c2 : Nat) (d : FD) (x : Int) (s : ByteArray) (h : FsR w (.slice a1 n1 c1) (.slice a2 n2 c2) d) (hsi : sizeInos d.1 ≤ 1048576) (hs : s.size ≤ maxLen) :
    Calls Tryz.prog 41 #[.agg #[.slice a1 n1 c1, .slice a2 n2 c2], .int .i64 x, .string s] w fun e w' => e = .returned (.int .i64 (dirN d x s)) ∧ Below w.heap.size w w' := by
  have HF : Hid (∀ W, Below w.heap.size w W → Calls Tryz.prog 64 #[.agg #[.slice a1 n1 c1, .slice a2 n2 c2], .int .i64 x] W fun e w' => e = .returned (.int .i64 (dirQ d x)) ∧ Below W.heap.size W w') := fun W hW => dirPlaceFault_any W _ _ _ _ _ _ d x (h.later hW) hsi
  have HN : Hid (∀ W, Calls Tryz.prog 65 #[.string s] W fun e w' => e = .returned (.int .i64 (nameF s)) ∧ w' = W) := fun W => implName_any W s hs
  have HR : Hid (dirN d x s = if dirQ d x = 0 then nameF s else dirQ d x) := rfl
  rw [HR.out]
  clear h hsi hs HR
  generalize dirQ d x = r at *
  generalize nameF s = q at *
  by_cases hr : r = 0
  · rw [if_pos hr]
    subst hr
    go_enter Tryz.func41, Tryz.ntmps41
    go_wp2_with fail
    first
      | refine (HF.out _ (later1 _ _)).mono ?_
      | refine (HF.out _ (Below.refl _ _)).mono ?_
    rintro e w1 ⟨rfl, hb1⟩
    have HB1 : Hid (Below w.heap.size w w1) := by first | exact (later1 _ _).trans (hb1.mono (by simp)) | exact hb1
    clear hb1
    go_wp2_with fail
    refine (HN.out _).mono ?_
    rintro e w2 ⟨rfl, rfl⟩
    go_wp2
    go_ret
    exact ⟨rfl, HB1.out⟩
  · rw [if_neg hr]
    have hb : (r != 0) = true := by simpa using hr
    clear hr
    go_enter Tryz.func41, Tryz.ntmps41
    go_wp2_with fail
    first
      | refine (HF.out _ (later1 _ _)).mono ?_
      | refine (HF.out _ (Below.refl _ _)).mono ?_
    rintro e w1 ⟨rfl, hb1⟩
    have HB1 : Hid (Below w.heap.size w w1) := by first | exact (later1 _ _).trans (hb1.mono (by simp)) | exact hb1
    clear hb1
    go_wp2
    go_ret
    exact ⟨rfl, HB1.out⟩

set_option maxHeartbeats 3200000 in
theorem l8Asked_any (w : World) (b o : Nat) (d : FD) (aI : Option Addr) (cI : Nat) (aD : Option Addr) (cD : Nat) (x : Int) (h : FsX w b o d aI cI aD cD) (hs : sizeInos d.1 ≤ 1048576) :
    Calls Tryz.prog 34 #[.pointer (some ⟨b, o, none⟩), .int .i64 x] w fun e w' => e = .returned (.int .i64 (dirQ d x)) ∧ Below w.heap.size w w' := by
  have HF : Hid (Calls Tryz.prog 59 #[.pointer (some ⟨b, o, none⟩)] w fun e w' => e = .returned (.int .i64 (fsE d)) ∧ Below w.heap.size w w') := l6Entries_any w b o d _ _ _ _ h hs
  have HP : Hid (∀ W, Below w.heap.size w W → Calls Tryz.prog 60 #[.pointer (some ⟨b, o, none⟩), .int .i64 x] W fun e w' => e = .returned (.bool (decide (0 ≤ x ∧ x < (d.1.length : Int)))) ∧ w' = W) := fun W hW => l6Place_any W b o d _ _ _ _ x (h.later hW)
  have HR : Hid (dirQ d x = if fsE d = 0 then (if 0 ≤ x ∧ x < (d.1.length : Int) then (if kindAt d.1 x.toNat = 2 then 0 else 9) else 3) else fsE d) := rfl
  by_cases hf : fsE d = 0
  rotate_left
  · have HQ : Hid (dirQ d x = fsE d) := by unfold Hid; rw [HR.out, if_neg hf]
    rw [HQ.out]
    have hb : (fsE d != 0) = true := by simpa using hf
    clear hf h HR HQ HP
    generalize fsE d = r at *
    go_enter Tryz.func34, Tryz.ntmps34
    go_wp2_with fail
    refine HF.out.mono ?_
    rintro e w1 ⟨rfl, hb1⟩
    have HB1 : Hid (Below w.heap.size w w1) := hb1
    clear hb1
    go_wp2
    go_ret
    exact ⟨rfl, HB1.out⟩
  · rw [hf] at HF
    by_cases hpl : 0 ≤ x ∧ x < (d.1.length : Int)
    rotate_left
    · have HQ : Hid (dirQ d x = 3) := by unfold Hid; rw [HR.out, if_pos hf, if_neg hpl]
      rw [HQ.out]
      rw [decide_eq_false hpl] at HP
      clear hf h HR HQ hpl
      go_enter Tryz.func34, Tryz.ntmps34
      go_wp2_with fail
      refine HF.out.mono ?_
      rintro e w1 ⟨rfl, hb1⟩
      have HB1 : Hid (Below w.heap.size w w1) := hb1
      clear hb1
      go_wp2_with fail
      refine (HP.out _ HB1.out).mono ?_
      rintro e w2 ⟨rfl, rfl⟩
      go_wp2
      go_ret
      exact ⟨rfl, HB1.out⟩
    · rw [decide_eq_true hpl] at HP
      obtain ⟨j, rfl⟩ : ∃ j : Nat, x = (j : Int) := ⟨x.toNat, by omega⟩
      have hj : j < d.1.length := by omega
      have HQ : Hid (dirQ d (j : Int) = if (d.1[j]?.getD id0).1 = 2 then 0 else 9) := by unfold Hid; rw [HR.out, if_pos hf, if_pos hpl]; rfl
      rw [HQ.out]
      have hjn : (j : Int) < ((d.1.length : Nat) : Int) := by omega
      obtain ⟨_, _, q1, _, hAt⟩ := h.ins.open'
      simp only [Value.slice.injEq] at q1
      obtain ⟨rfl, -, rfl⟩ := q1
      obtain ⟨b0, o0, rfl, hI⟩ := hAt j hj
      obtain ⟨aB, cB, _, _, kc, _⟩ := hI
      have HKC : Hid (_ = some (Value.int .i64 (d.1[j]?.getD id0).1)) := kc
      have HC0 : Hid (_ = _) := h.c0
      clear kc hAt HR HQ hpl hf h
      generalize (d.1[j]?.getD id0).1 = kd at *
      generalize d.1.length = n at *
      by_cases hk : kd = 2
      · rw [if_pos hk]
        have hb2 : (kd != 2) = false := by simpa using hk
        clear hk
        go_enter Tryz.func34, Tryz.ntmps34
        go_wp2_with fail
        refine HF.out.mono ?_
        rintro e w1 ⟨rfl, hb1⟩
        have HB1 : Hid (Below w.heap.size w w1) := hb1
        have kc1 := cell_later hb1 HKC.out
        have c01 := cell_later hb1 HC0.out
        clear hb1
        go_wp2_with fail
        refine (HP.out _ HB1.out).mono ?_
        rintro e w2 ⟨rfl, rfl⟩
        go_wp2
        go_ret
        exact ⟨rfl, HB1.out⟩
      · rw [if_neg hk]
        have hb2 : (kd != 2) = true := by simpa using hk
        clear hk
        go_enter Tryz.func34, Tryz.ntmps34
        go_wp2_with fail
        refine HF.out.mono ?_
        rintro e w1 ⟨rfl, hb1⟩
        have HB1 : Hid (Below w.heap.size w w1) := hb1
        have kc1 := cell_later hb1 HKC.out
        have c01 := cell_later hb1 HC0.out
        clear hb1
        go_wp2_with fail
        refine (HP.out _ HB1.out).mono ?_
        rintro e w2 ⟨rfl, rfl⟩
        go_wp2
        go_ret
        exact ⟨rfl, HB1.out⟩

set_option maxHeartbeats 1600000 in
theorem l8Name_any (w : World) (b o : Nat) (d : FD) (aI : Option Addr) (cI : Nat) (aD : Option Addr) (cD : Nat) (x : Int) (s : ByteArray) (h : FsX w b o d aI cI aD cD) (hsi : sizeInos d.1 ≤ 1048576) (hs : s.size ≤ maxLen) :
    Calls Tryz.prog 15 #[.pointer (some ⟨b, o, none⟩), .int .i64 x, .string s] w fun e w' => e = .returned (.int .i64 (dirN d x s)) ∧ Below w.heap.size w w' := by
  have HF : Hid (Calls Tryz.prog 34 #[.pointer (some ⟨b, o, none⟩), .int .i64 x] w fun e w' => e = .returned (.int .i64 (dirQ d x)) ∧ Below w.heap.size w w') := l8Asked_any w b o d _ _ _ _ x h hsi
  have HN : Hid (∀ W, Calls Tryz.prog 35 #[.string s] W fun e w' => e = .returned (.int .i64 (nameF s)) ∧ w' = W) := fun W => specName_any W s hs
  have HR : Hid (dirN d x s = if dirQ d x = 0 then nameF s else dirQ d x) := rfl
  rw [HR.out]
  clear h hsi hs HR
  generalize dirQ d x = r at *
  generalize nameF s = q at *
  by_cases hr : r = 0
  · rw [if_pos hr]
    subst hr
    go_enter Tryz.func15, Tryz.ntmps15
    go_wp2_with fail
    refine HF.out.mono ?_
    rintro e w1 ⟨rfl, hb1⟩
    have HB1 : Hid (Below w.heap.size w w1) := hb1
    clear hb1
    go_wp2_with fail
    refine (HN.out _).mono ?_
    rintro e w2 ⟨rfl, rfl⟩
    go_wp2
    go_ret
    exact ⟨rfl, HB1.out⟩
  · rw [if_neg hr]
    have hb : (r != 0) = true := by simpa using hr
    clear hr
    go_enter Tryz.func15, Tryz.ntmps15
    go_wp2_with fail
    refine HF.out.mono ?_
    rintro e w1 ⟨rfl, hb1⟩
    have HB1 : Hid (Below w.heap.size w w1) := hb1
    clear hb1
    go_wp2
    go_ret
    exact ⟨rfl, HB1.out⟩
end Go.Proofs.YtmlfpikhencgcanGreat

namespace Go.Proofs.YtmlfpikhencgcanGreat
open Go.RowKit
set_option maxRecDepth 100000

set_option maxHeartbeats 1600000 in
theorem placeOf_any (w : World) (a : Option Addr) (n c : Nat) (es : List EN) (s : ByteArray) (hn : es.length = n) (hm : n ≤ 4294967296) (hat : AtN w a n es) :
    Calls Tryz.prog 24 #[.slice a n c, .string s] w fun e w' => e = .returned (.tuple #[.int .i64 ((plcE es s : Nat) : Int), .bool (fndB es s)]) ∧ Below w.heap.size w w' := by
  have HAT : Hid (AtN w a n es) := hat
  have HN : Hid (es.length = n) := hn
  clear hat hn
  go_enter Tryz.func24, Tryz.ntmps24
  go_wp2
  go_loopw [10] (fun i wr => ∃ k : Nat, k ≤ n ∧ i = .int .i64 k ∧ Below w.heap.size w wr ∧ ∀ j, j < k → geE s (es[j]?.getD en0) = false) (fun i _ => n - (intOf i).toNat)
  case atStart => exact ⟨0, Nat.zero_le _, rfl, Below.refl _ _, fun j hj => by omega⟩
  case round =>
    obtain ⟨k, hk, rfl, hbl, hz⟩ := hrel
    have HBL : Hid (Below w.heap.size w wr) := hbl
    have HZ : Hid (∀ j, j < k → geE s (es[j]?.getD en0) = false) := hz
    clear hbl hz
    by_cases hlt : k < n
    · obtain ⟨b, off, rfl, c0, c1⟩ := HAT.out k hlt
      replace c0 := cell_later HBL.out c0
      replace c1 := cell_later HBL.out c1
      have HBX : Hid (∀ o : Obj, Below w.heap.size w (wr.alloc o)) := fun o => HBL.out.trans ((later1 _ _).mono HBL.out.size)
      cases hge : geE s (es[k]?.getD en0) with
      | false =>
        have HNX : Hid (∀ j, j < k + 1 → geE s (es[j]?.getD en0) = false) := fun j hj => by
          by_cases e : j = k
          · rw [e]; exact hge
          · exact HZ.out j (by omega)
        have hlt2 : Op.bytesLess (es[k]?.getD en0).1.toList s.toList = true := by unfold geE at hge; simpa using hge
        clear hge HZ
        generalize (es[k]?.getD en0).1 = x at *
        generalize (es[k]?.getD en0).2 = y at *
        go_wp2
        go_roundw
        case rel => exact ⟨k + 1, by omega, by go_num, HBX.out _, HNX.out⟩
        case measure => simp [intOf]; omega
      | true =>
        have HP : Hid (plcE es s = k) := findIdx_is (by rw [HN.out]; exact hlt) hge HZ.out
        have HF : Hid (fndB es s = ((es[k]?.getD en0).1.toList == s.toList)) := by
          unfold Hid fndB
          rw [HP.out, decide_eq_true (by rw [HN.out]; exact hlt), Bool.true_and]
          rfl
        have hlt2 : Op.bytesLess (es[k]?.getD en0).1.toList s.toList = false := by unfold geE at hge; simpa using hge
        clear hge HZ
        generalize (es[k]?.getD en0).1 = x at *
        generalize (es[k]?.getD en0).2 = y at *
        go_wp2_with fail
        go_quiet (fail)
        go_wp2
        go_ret2
        exact ⟨by rw [HP.out, HF.out]; rfl, below_drewN (HBX.out _) _⟩
    · have e : k = n := by omega
      have HP : Hid (plcE es s = n) := by
        have := findIdx_no (p := geE s) (es := es) fun j hj => HZ.out j (by rw [HN.out] at hj; omega)
        rw [HN.out] at this
        exact this
      have HF : Hid (fndB es s = false) := by unfold Hid fndB; rw [HP.out, decide_eq_false (by rw [HN.out]; omega)]; rfl
      subst e
      clear HZ
      go_wp2
      go_ret2
      exact ⟨by rw [HP.out, HF.out]; rfl, HBL.out⟩

/-- Where a name stands among entries, or -1. -/
def at8 (es : List EN) (s : ByteArray) : Int := if idxE es s < es.length then ((idxE es s : Nat) : Int) else -1
set_option maxHeartbeats 1600000 in
theorem l8At_any (w : World) (a : Option Addr) (n c : Nat) (es : List EN) (s : ByteArray) (hn : es.length = n) (hm : n ≤ 4294967296) (hat : AtN w a n es) :
    Calls Tryz.prog 16 #[.slice a n c, .string s] w fun e w' => e = .returned (.int .i64 (at8 es s)) ∧ w' = w := by
  have HAT : Hid (AtN w a n es) := hat
  have HN : Hid (es.length = n) := hn
  clear hat hn
  go_enter Tryz.func16, Tryz.ntmps16
  go_wp2
  go_loop [5] (fun i => ∃ k : Nat, k ≤ n ∧ i = .int .i64 k ∧ ∀ j, j < k → eqE s (es[j]?.getD en0) = false) (fun i => n - (intOf i).toNat)
  case atStart => exact ⟨0, Nat.zero_le _, rfl, fun j hj => by omega⟩
  case round =>
    obtain ⟨k, hk, rfl, hz⟩ := hrel
    have HZ : Hid (∀ j, j < k → eqE s (es[j]?.getD en0) = false) := hz
    clear hz
    by_cases hlt : k < n
    · obtain ⟨b, off, rfl, c0, c1⟩ := HAT.out k hlt
      cases hge : eqE s (es[k]?.getD en0) with
      | false =>
        have HNX : Hid (∀ j, j < k + 1 → eqE s (es[j]?.getD en0) = false) := fun j hj => by
          by_cases e : j = k
          · rw [e]; exact hge
          · exact HZ.out j (by omega)
        have hlt2 : ((es[k]?.getD en0).1.toList == s.toList) = false := hge
        clear hge HZ c1
        generalize (es[k]?.getD en0).1 = x at *
        go_wp2
        go_round
        case rel => exact ⟨k + 1, by omega, by go_num, HNX.out⟩
        case measure => simp [intOf]; omega
      | true =>
        have HP : Hid (at8 es s = (k : Int)) := by
          have h1 : idxE es s = k := findIdx_is (by rw [HN.out]; exact hlt) hge HZ.out
          unfold Hid at8
          rw [h1, if_pos (by rw [HN.out]; exact hlt)]
        have hlt2 : ((es[k]?.getD en0).1.toList == s.toList) = true := hge
        clear hge HZ c1
        generalize (es[k]?.getD en0).1 = x at *
        go_wp2
        go_ret
        exact ⟨ret_int HP.out.symm, rfl⟩
    · have HP : Hid (at8 es s = -1) := by
        have h1 : idxE es s = es.length := findIdx_no (p := eqE s) (es := es) fun j hj => HZ.out j (by rw [HN.out] at hj; omega)
        unfold Hid at8
        rw [h1, if_neg (by omega)]
      clear HZ
      go_wp2
      go_ret
      exact ⟨ret_int HP.out.symm, rfl⟩

/-- What lies at the place of a directory: its entries. -/
theorem FsR.dir {w : World} {a1 : Option Addr} {n1 c1 : Nat} {v2 : Value} {d : FD} (h : FsR w (.slice a1 n1 c1) v2 d) {j : Nat} (hj : j < d.1.length) : ∃ b0 o0 aE cE, a1 = some ⟨b0, o0, none⟩ ∧ n1 = d.1.length ∧ w.cell? ⟨b0, o0 + j * 5 + 4, none⟩ = some (.slice aE (entA d j).length cE) ∧ Ents w (.slice aE (entA d j).length cE) (entA d j) := by
  obtain ⟨_, _, e1, _, hAt⟩ := h.1.open'
  simp only [Value.slice.injEq] at e1
  obtain ⟨rfl, rfl, rfl⟩ := e1
  obtain ⟨b0, o0, rfl, hI⟩ := hAt j hj
  obtain ⟨aB, cB, aE, cE, _, _, _, _, k4, hR⟩ := hI
  exact ⟨b0, o0, aE, cE, rfl, rfl, k4, hR.2.2⟩

end Go.Proofs.YtmlfpikhencgcanGreat
