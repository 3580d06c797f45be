
/- The law's copy of an inode. -/
import Derived.Test.YtcmkfapgpolglakInoA
namespace Go.Proofs.Ytcmkfapgpolglak
open Go.RowKit

def z5 : List Value := [.int .i64 0, .int .i64 0, .int .i64 0, .slice none 0 0, .slice none 0 0]
theorem box5 (w : World) (o1 o2 : Obj) (t : TypeId) (z0 z1 z2 : Value) :
    OwnRow (((w.alloc o1).alloc o2).alloc (.cells #[z0, z1, z2, .slice none 0 0, .slice none 0 0] t)) (w.heap.size + 1 + 1) 5 (fun i => if i = 0 then z0 else if i = 1 then z1 else if i = 2 then z2 else .slice none 0 0) := by
  have h := OwnRow.newV ((w.alloc o1).alloc o2) [z0, z1, z2, .slice none 0 0, .slice none 0 0] t
  simp only [World.size_alloc] at h
  refine OwnRow.congr (n := 5) h fun i hi => ?_
  have : i = 0 ∨ i = 1 ∨ i = 2 ∨ i = 3 ∨ i = 4 := by omega
  rcases this with rfl | rfl | rfl | rfl | rfl <;> simp
theorem box5' (w : World) (o1 o3 : Obj) (t : TypeId) :
    OwnRow (((w.alloc o1).alloc (.cells #[.int .i64 0, .int .i64 0, .int .i64 0, .slice none 0 0, .slice none 0 0] t)).alloc o3) (w.heap.size + 1) 5 (fun i => if i < 3 then .int .i64 0 else .slice none 0 0) := by
  have h := (OwnRow.newV (w.alloc o1) z5 t).later (later1 _ o3)
  simp only [World.size_alloc] at h
  refine OwnRow.congr (n := 5) h fun i hi => ?_
  have : i = 0 ∨ i = 1 ∨ i = 2 ∨ i = 3 ∨ i = 4 := by omega
  rcases this with rfl | rfl | rfl | rfl | rfl <;> simp [z5]
theorem box5p (w : World) (x0 x1 x2 x3 x4 : Value) (o2 o3 : Obj) (t : TypeId) :
    OwnRow (((w.alloc (.cells #[x0, x1, x2, x3, x4] t)).alloc o2).alloc o3) w.heap.size 5 (fun i => [x0, x1, x2, x3, x4][i]?.getD (.int .i64 0)) :=
  ((OwnRow.newV w [x0, x1, x2, x3, x4] t).later (later1 _ o2)).later (later1 _ o3)

theorem toIntsC {w : World} {v : Value} {zs : List Int} (h : Ints w v zs) (hn : zs.length ≤ 1048576) :
    Calls Try.prog 12 #[v] w fun e w' => ∃ a n c, e = .returned (.slice a n c) ∧ Below w.heap.size w w' ∧ IntsO w' (.slice a n c) zs (fresh w w') ∧ n ≤ c :=
  (toInts_any h hn).mono fun _ _ ⟨h1, h2, h3⟩ => ⟨_, _, _, h1, h2, h3, Nat.le_refl _⟩

set_option maxHeartbeats 3200000 in
theorem toInodeU (w : World) (z0 z1 z2 : Int) (aB : Option Addr) (nB cB : Nat) (aE : Option Addr) (nE cE : Nat) (d : ID) (h : InoR w (.int .i64 z0) (.int .i64 z1) (.int .i64 z2) (.slice aB nB cB) (.slice aE nE cE) d) (hs : sizeIno d ≤ 1048576) :
    Calls Try.prog 6 #[.agg #[.int .i64 z0, .int .i64 z1, .int .i64 z2, .slice aB nB cB, .slice aE nE cE]] w fun e w' => ∃ y0 y1 y2 dB eB fB dE eE fE, e = .returned (.agg #[.int .i64 y0, .int .i64 y1, .int .i64 y2, .slice dB eB fB, .slice dE eE fE]) ∧ Below w.heap.size w w' ∧ InoU w' (.int .i64 y0) (.int .i64 y1) (.int .i64 y2) (.slice dB eB fB) (.slice dE eE fE) d (fresh w w') := by
  have H0 : Hid (Value.int .i64 z0 = .int .i64 d.1 ∧ Value.int .i64 z1 = .int .i64 d.2.1 ∧ Value.int .i64 z2 = .int .i64 d.2.2.1 ∧ capOK (.slice aB nB cB)) := h.1
  have H1 : Hid (Ints w (.slice aB nB cB) d.2.2.2.1) := h.2.1
  have H2 : Hid (Ents w (.slice aE nE cE) d.2.2.2.2) := h.2.2
  have L1 : Hid (d.2.2.2.1.length ≤ 1048576) := by unfold sizeIno at hs; unfold Hid; omega
  have L2 : Hid (d.2.2.2.2.length ≤ 1048576) := by unfold sizeIno sizeN at hs; unfold Hid; omega
  clear h hs
  go_enter Try.func6, Try.ntmps6
  go_wp2_with fail
  have O2 := box5 w (Obj.cells #[.int .i64 z0, .int .i64 z1, .int .i64 z2, .slice aB nB cB, .slice aE nE cE] 25) (Obj.cells #[.int .i64 0, .int .i64 0, .int .i64 0, .slice none 0 0, .slice none 0 0] 30) 30 (.int .i64 z0) (.int .i64 z1) (.int .i64 z2)
  have O1 := box5' w (Obj.cells #[.int .i64 z0, .int .i64 z1, .int .i64 z2, .slice aB nB cB, .slice aE nE cE] 25) (Obj.cells #[.int .i64 z0, .int .i64 z1, .int .i64 z2, .slice none 0 0, .slice none 0 0] 30) 30
  have O0 := box5p w (.int .i64 z0) (.int .i64 z1) (.int .i64 z2) (.slice aB nB cB) (.slice aE nE cE) (Obj.cells #[.int .i64 0, .int .i64 0, .int .i64 0, .slice none 0 0, .slice none 0 0] 30) (Obj.cells #[.int .i64 z0, .int .i64 z1, .int .i64 z2, .slice none 0 0, .slice none 0 0] 30) 25
  have HBA : Hid (Below w.heap.size w (((w.alloc (Obj.cells #[.int .i64 z0, .int .i64 z1, .int .i64 z2, .slice aB nB cB, .slice aE nE cE] 25)).alloc (Obj.cells #[.int .i64 0, .int .i64 0, .int .i64 0, .slice none 0 0, .slice none 0 0] 30)).alloc (Obj.cells #[.int .i64 z0, .int .i64 z1, .int .i64 z2, .slice none 0 0, .slice none 0 0] 30))) := later3 _ _ _ _
  have hWs : (((w.alloc (Obj.cells #[.int .i64 z0, .int .i64 z1, .int .i64 z2, .slice aB nB cB, .slice aE nE cE] 25)).alloc (Obj.cells #[.int .i64 0, .int .i64 0, .int .i64 0, .slice none 0 0, .slice none 0 0] 30)).alloc (Obj.cells #[.int .i64 z0, .int .i64 z1, .int .i64 z2, .slice none 0 0, .slice none 0 0] 30)).heap.size = w.heap.size + 3 := by simp
  generalize hW : (((w.alloc (Obj.cells #[.int .i64 z0, .int .i64 z1, .int .i64 z2, .slice aB nB cB, .slice aE nE cE] 25)).alloc (Obj.cells #[.int .i64 0, .int .i64 0, .int .i64 0, .slice none 0 0, .slice none 0 0] 30)).alloc (Obj.cells #[.int .i64 z0, .int .i64 z1, .int .i64 z2, .slice none 0 0, .slice none 0 0] 30)) = W at *
  clear hW
  have hz0 := O2.lt
  refine (toIntsC (H1.out.later HBA.out) L1.out).mono ?_
  rintro e w1 ⟨dB, eB, fB, rfl, hb1, ho1, hcap⟩
  have HCAP : Hid (capOK (.slice dB eB fB)) := ⟨_, _, _, rfl, hcap⟩
  clear hcap
  have HB1 : Hid (Below w.heap.size w w1) := HBA.out.trans (hb1.mono HBA.out.size)
  replace O2 := O2.later hb1
  replace O1 := O1.later hb1
  replace O0 := O0.later hb1
  have HO1 : Hid (IntsO w1 (.slice dB eB fB) d.2.2.2.1 (fun b => w.heap.size + 3 ≤ b ∧ b < w1.heap.size)) := ho1.mono fun b hb => ⟨by have := hb.1; omega, hb.2⟩
  clear hb1 ho1
  have P0 := O0.cell (i := 4) (by omega)
  have d0 := O2.cell (i := 3) (by omega)
  have f0 := O2.frozen 3
  simp at P0 d0
  have HO2 : Hid (OwnRow w1 (w.heap.size + 1 + 1) 5 (fun i => if i = 0 then .int .i64 z0 else if i = 1 then .int .i64 z1 else if i = 2 then .int .i64 z2 else .slice none 0 0)) := O2
  have HR1 : Hid (OwnRow w1 (w.heap.size + 1) 5 (fun i => if i < 3 then .int .i64 0 else .slice none 0 0)) := O1
  have hz1 : w.heap.size + 1 + 1 < w1.heap.size := O2.lt
  clear O0 O1 O2
  go_wp2_with fail
  clear d0 f0 P0
  have HBX : Hid (Below w.heap.size w (w1.setCell ⟨w.heap.size + 1 + 1, 3, none⟩ (.slice dB eB fB))) := HB1.out.setCell (by simp; omega) _
  refine (toEntsU (H2.out.later HBX.out) L2.out).mono ?_
  rintro e w2 ⟨dE, eE, fE, rfl, hb2, ho2⟩
  have HOX := (HO2.out.set 3 (.slice dB eB fB)).later hb2
  have HRX := (HR1.out.store (p := ⟨w.heap.size + 1 + 1, 3, none⟩) (by simp) (.slice dB eB fB)).later hb2
  have e1 : (w1.setCell ⟨w.heap.size + 1 + 1, 3, none⟩ (.slice dB eB fB)).heap.size = w1.heap.size := by simp [World.setCell]
  have HIX : Hid (IntsO w2 (.slice dB eB fB) d.2.2.2.1 (fun b => w.heap.size + 3 ≤ b ∧ b < w1.heap.size)) := HO1.out.keep fun b hb hlt => by
    rw [hb2.block b (by rw [e1]; exact hlt), Below.heap_setCell _ _ _ _ (by simp; omega)]
  have HPX : Hid (EntsO w2 (.slice dE eE fE) d.2.2.2.2 (fun b => w1.heap.size ≤ b ∧ b < w2.heap.size)) := by
    unfold fresh at ho2
    rw [e1] at ho2
    exact ho2
  have HB2 : Hid (Below w.heap.size w w2) := HBX.out.trans (hb2.mono HBX.out.size)
  have e2 : w1.heap.size ≤ w2.heap.size := by have := hb2.size; rwa [e1] at this
  have q0 := HOX.cell (i := 0) (by omega)
  have q1 := HOX.cell (i := 1) (by omega)
  have q2 := HOX.cell (i := 2) (by omega)
  have q3 := HOX.cell (i := 3) (by omega)
  have q4 := HOX.cell (i := 4) (by omega)
  have qf := HOX.frozen 4
  have t0 := HRX.cell (i := 0) (by omega)
  have t1 := HRX.cell (i := 1) (by omega)
  have t2 := HRX.cell (i := 2) (by omega)
  have t3 := HRX.cell (i := 3) (by omega)
  have t4 := HRX.cell (i := 4) (by omega)
  have s0 := HRX.frozen 0
  have s1 := HRX.frozen 1
  have s2 := HRX.frozen 2
  have s3 := HRX.frozen 3
  have s4 := HRX.frozen 4
  simp at q0 q1 q2 q3 q4 t0 t1 t2 t3 t4
  clear HOX HRX hb2 ho2
  go_wp2
  refine bodyPost_ret (v := .agg #[.int .i64 z0, .int .i64 z1, .int .i64 z2, .slice dB eB fB, .slice dE eE fE]) (by simp [results, Try.results6, go_sem, t0, t1, t2, t3, t4]) rfl ⟨_, _, _, _, _, _, _, _, _, rfl, ?_, ?_⟩
  · exact (((((HB2.out.setCell (by simp; omega) _).setCell (by simp) _).setCell (by simp) _).setCell (by simp) _).setCell (by simp) _).setCell (by simp) _
  · refine ⟨⟨H0.out.1, H0.out.2.1, H0.out.2.2.1, HCAP.out⟩, fun b => w.heap.size + 3 ≤ b ∧ b < w1.heap.size, fun b => w1.heap.size ≤ b ∧ b < w2.heap.size, HIX.out.keep fun b hb hlt => ?_, HPX.out.keep fun b hb hlt => ?_, fun b hb hb' => by omega, fun b hb => ?_⟩
    · rw [Below.heap_setCell _ _ _ _ (by simp; omega), Below.heap_setCell _ _ _ _ (by simp; omega), Below.heap_setCell _ _ _ _ (by simp; omega), Below.heap_setCell _ _ _ _ (by simp; omega), Below.heap_setCell _ _ _ _ (by simp; omega), Below.heap_setCell _ _ _ _ (by simp; omega)]
    · rw [Below.heap_setCell _ _ _ _ (by simp; omega), Below.heap_setCell _ _ _ _ (by simp; omega), Below.heap_setCell _ _ _ _ (by simp; omega), Below.heap_setCell _ _ _ _ (by simp; omega), Below.heap_setCell _ _ _ _ (by simp; omega), Below.heap_setCell _ _ _ _ (by simp; omega)]
    · unfold fresh
      simp only [World.setCell, Array.size_modify]
      rcases hb with hb | hb <;> omega
end Go.Proofs.Ytcmkfapgpolglak
