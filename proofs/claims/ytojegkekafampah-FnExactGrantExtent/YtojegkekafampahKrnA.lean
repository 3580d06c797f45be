
/- Kerns: how they read, what they own, and the walks of the laws' functions over them. -/
import Derived.Test.YtojegkekafampahExtB
import Derived.Test.YtojegkekafampahUni
namespace Go.Proofs.Ytojegkekafampah
open Go.RowKit
set_option maxRecDepth 100000

abbrev KD := DK × List E3
def KernR (w : World) (vB vC vE : Value) (d : KD) : Prop := DiskR w vB vC d.1 ∧ Exts w vE d.2
theorem KernR.later {w w' : World} {vB vC vE : Value} {d : KD} (h : KernR w vB vC vE d) (hb : Below w.heap.size w w') : KernR w' vB vC vE d := ⟨h.1.later hb, h.2.later hb⟩
def KernU (w : World) (vB vC vE : Value) (d : KD) (F : Nat → Prop) : Prop := ∃ F1 G1 : Nat → Prop, DiskU w vB vC d.1 F1 ∧ ExtsO w vE d.2 G1 ∧ (∀ b, F1 b → ¬ G1 b) ∧ ∀ b, F1 b ∨ G1 b → F b
theorem DiskU.keep {w w' : World} {vB vC : Value} {d : DK} {F : Nat → Prop} (h : DiskU w vB vC d F) (e : ∀ b, F b → b < w.heap.size → w'.heap[b]? = w.heap[b]?) : DiskU w' vB vC d F := DiskO.keep h e
theorem KernU.reads {w : World} {vB vC vE : Value} {d : KD} {F : Nat → Prop} (h : KernU w vB vC vE d F) : KernR w vB vC vE d := by
  obtain ⟨_, _, h1, h2, _⟩ := h
  exact ⟨h1.reads, h2.reads⟩
theorem KernU.keep {w w' : World} {vB vC vE : Value} {d : KD} {F : Nat → Prop} (h : KernU w vB vC vE d F) (e : ∀ b, F b → b < w.heap.size → w'.heap[b]? = w.heap[b]?) : KernU w' vB vC vE d F := by
  obtain ⟨F1, G1, h1, h2, hd, hf⟩ := h
  exact ⟨F1, G1, h1.keep fun b hb => e b (hf b (Or.inl hb)), h2.keep fun b hb => e b (hf b (Or.inr hb)), hd, hf⟩
theorem KernU.later {w w' : World} {vB vC vE : Value} {d : KD} {F : Nat → Prop} (h : KernU w vB vC vE d F) (hb : Below w.heap.size w w') : KernU w' vB vC vE d F := h.keep fun b _ hlt => hb.block b hlt
theorem KernU.mono {w : World} {vB vC vE : Value} {d : KD} {F G : Nat → Prop} (h : KernU w vB vC vE d F) (e : ∀ b, F b → G b) : KernU w vB vC vE d G := by
  obtain ⟨F1, G1, h1, h2, hd, hf⟩ := h
  exact ⟨F1, G1, h1, h2, hd, fun b hb => e b (hf b hb)⟩
theorem KernU.chg {w w' : World} {vB vC vE : Value} {d : KD} {F G : Nat → Prop} (h : KernU w vB vC vE d F) (hc : Chg G w w') (hd : ∀ b, F b → ¬ G b) : KernU w' vB vC vE d F := h.keep fun b hb hlt => hc.block b hlt (hd b hb)
theorem DiskU.bound {w : World} {vB vC : Value} {d : DK} {F : Nat → Prop} (h : DiskU w vB vC d F) : DiskU w vB vC d (fun b => F b ∧ b < w.heap.size) := DiskO.bound h
theorem KernU.bound {w : World} {vB vC vE : Value} {d : KD} {F : Nat → Prop} (h : KernU w vB vC vE d F) : KernU w vB vC vE d (fun b => F b ∧ b < w.heap.size) := by
  obtain ⟨F1, G1, h1, h2, hd, hf⟩ := h
  exact ⟨_, _, h1.bound, h2.bound, fun b hb hb' => hd b hb.1 hb'.1, fun b hb => hb.elim (fun h => ⟨hf b (Or.inl h.1), h.2⟩) (fun h => ⟨hf b (Or.inr h.1), h.2⟩)⟩
def sizeKern (d : KD) : Nat := sizeDisk d.1 + d.2.length

set_option maxHeartbeats 800000 in
theorem szKernU (w : World) (aB : Option Addr) (nB cB : Nat) (aC : Option Addr) (nC cC : Nat) (aE : Option Addr) (nE cE : Nat) (d : KD) (h : KernR w (.slice aB nB cB) (.slice aC nC cC) (.slice aE nE cE) d) (left : Int) (l0 : 0 ≤ left) (l1 : left ≤ 1048576) :
    Calls Try.prog 9 #[.agg #[.slice aB nB cB, .slice aC nC cC, .slice aE nE cE], .int .i64 left] w fun e w' => e = .returned (.int .i64 (szf left (sizeKern d))) ∧ Below w.heap.size w w' := by
  have H1 : Hid (DiskR w (.slice aB nB cB) (.slice aC nC cC) d.1) := h.1
  have H2 : Hid (Exts w (.slice aE nE cE) d.2) := h.2
  clear h
  by_cases hm : left < ((sizeDisk d.1 : Nat) : Int)
  · have HR : Hid (szf left (sizeDisk d.1) = -1) := szf_no hm
    have HM : Hid (szf left (sizeKern d) = -1) := szf_no (by unfold sizeKern; omega)
    rw [HM.out]
    go_enter Try.func9, Try.ntmps9
    go_wp2_with fail
    refine (szDiskU _ _ _ _ _ _ _ d.1 (H1.out.later (later1 _ _)) _ l0 l1).mono ?_
    rw [HR.out]
    rintro e w1 ⟨rfl, hb1⟩
    have HB1 : Hid (Below w.heap.size w w1) := (later1 _ _).trans (hb1.mono (by simp))
    clear hb1
    go_wp2
    go_ret
    exact ⟨rfl, HB1.out⟩
  · have HR : Hid (szf left (sizeDisk d.1) = left - (sizeDisk d.1 : Nat)) := szf_yes hm
    have hpos : ¬ left - ((sizeDisk d.1 : Nat) : Int) < 0 := by omega
    have HD : Hid (szf (left - ((sizeDisk d.1 : Nat) : Int)) d.2.length = szf left (sizeKern d)) := by
      unfold Hid szf sizeKern
      split <;> split <;> omega
    have hx0 : (0 : Int) ≤ ((sizeDisk d.1 : Nat) : Int) := by omega
    generalize ((sizeDisk d.1 : Nat) : Int) = X at *
    have hrr : szf left (sizeKern d) = -1 ∨ 0 ≤ szf left (sizeKern d) := by unfold szf; split <;> omega
    generalize hr : szf left (sizeKern d) = r at *
    have HRR : Hid (szf left (sizeKern d) = r) := hr
    clear hr
    have step : ∀ (P : Prop), (r = -1 → P) → (0 ≤ r → P) → P := fun P h1 h2 => hrr.elim h1 h2
    apply step
    · intro hneg
      subst hneg
      clear step hrr
      go_enter Try.func9, Try.ntmps9
      go_wp2_with fail
      refine (szDiskU _ _ _ _ _ _ _ d.1 (H1.out.later (later1 _ _)) _ l0 l1).mono ?_
      rw [HR.out]
      rintro e w1 ⟨rfl, hb1⟩
      have HB1 : Hid (Below w.heap.size w w1) := (later1 _ _).trans (hb1.mono (by simp))
      have x2 : w1.cell? ⟨w.heap.size, 2, none⟩ = some (.slice aE nE cE) := by rw [hb1.cell (by simp), new_cell]; rfl
      clear hb1
      go_wp2_with fail
      refine (szExts_any (H2.out.later HB1.out) _ (by omega) (by omega)).mono ?_
      rw [HD.out]
      rintro e w2 ⟨rfl, rfl⟩
      go_wp2
      go_ret
      exact ⟨rfl, HB1.out⟩
    · intro hge
      have hnn : ¬ r < 0 := by omega
      clear step hrr
      go_enter Try.func9, Try.ntmps9
      go_wp2_with fail
      refine (szDiskU _ _ _ _ _ _ _ d.1 (H1.out.later (later1 _ _)) _ l0 l1).mono ?_
      rw [HR.out]
      rintro e w1 ⟨rfl, hb1⟩
      have HB1 : Hid (Below w.heap.size w w1) := (later1 _ _).trans (hb1.mono (by simp))
      have x2 : w1.cell? ⟨w.heap.size, 2, none⟩ = some (.slice aE nE cE) := by rw [hb1.cell (by simp), new_cell]; rfl
      clear hb1
      go_wp2_with fail
      refine (szExts_any (H2.out.later HB1.out) _ (by omega) (by omega)).mono ?_
      rw [HD.out]
      rintro e w2 ⟨rfl, rfl⟩
      go_wp2
      go_ret
      exact ⟨rfl, HB1.out⟩

theorem OwnRow.new3 (w : World) (x y z : Value) (t : TypeId) : OwnRow (w.alloc (.cells #[x, y, z] t)) w.heap.size 3 (fun i => if i = 0 then x else if i = 1 then y else z) := by
  refine ⟨_, t, Go.Deep.blk_alloc_new _ _, by simp, fun i hi => ?_⟩
  have : i = 0 ∨ i = 1 ∨ i = 2 := by omega
  rcases this with rfl | rfl | rfl <;> simp

set_option maxHeartbeats 1600000 in
theorem toKernU (w : World) (aB : Option Addr) (nB cB : Nat) (aC : Option Addr) (nC cC : Nat) (aE : Option Addr) (nE cE : Nat) (d : KD) (h : KernR w (.slice aB nB cB) (.slice aC nC cC) (.slice aE nE cE) d) (hs : sizeKern d ≤ 1048576) :
    Calls Try.prog 11 #[.agg #[.slice aB nB cB, .slice aC nC cC, .slice aE nE cE]] w fun e w' => ∃ dB eB fB dC eC fC dE eE fE, e = .returned (.agg #[.slice dB eB fB, .slice dC eC fC, .slice dE eE fE]) ∧ Below w.heap.size w w' ∧ KernU w' (.slice dB eB fB) (.slice dC eC fC) (.slice dE eE fE) d (fresh w w') := by
  have H1 : Hid (DiskR w (.slice aB nB cB) (.slice aC nC cC) d.1) := h.1
  have H2 : Hid (Exts w (.slice aE nE cE) d.2) := h.2
  have L1 : Hid (sizeDisk d.1 ≤ 1048576) := by unfold sizeKern at hs; unfold Hid; omega
  have L2 : Hid (d.2.length ≤ 1048576) := by unfold sizeKern at hs; unfold Hid; omega
  clear h hs
  go_enter Try.func11, Try.ntmps11
  go_wp2_with fail
  refine (toDiskU _ _ _ _ _ _ _ d.1 (H1.out.later (later3 _ _ _ _)) L1.out).mono ?_
  rintro e w1 ⟨dB, eB, fB, dC, eC, fC, rfl, hb1, ho1⟩
  have HB1 : Hid (Below w.heap.size w w1) := (later3 _ _ _ _).trans (hb1.mono (by simp; omega))
  have O2 : OwnRow w1 (w.heap.size + 1 + 1) 3 (fun i => if i = 0 then .slice none 0 0 else if i = 1 then .slice none 0 0 else .slice none 0 0) := by
    have := (OwnRow.new3 ((w.alloc (Obj.cells #[Value.slice aB nB cB, Value.slice aC nC cC, Value.slice aE nE cE] 28)).alloc (Obj.cells #[Value.slice none 0 0, Value.slice none 0 0, Value.slice none 0 0] 36)) (.slice none 0 0) (.slice none 0 0) (.slice none 0 0) 36).later hb1
    simpa using this
  have O1 : OwnRow w1 (w.heap.size + 1) 3 (fun i => if i = 0 then .slice none 0 0 else if i = 1 then .slice none 0 0 else .slice none 0 0) := by
    have := ((OwnRow.new3 (w.alloc (Obj.cells #[Value.slice aB nB cB, Value.slice aC nC cC, Value.slice aE nE cE] 28)) (.slice none 0 0) (.slice none 0 0) (.slice none 0 0) 36).later (later1 _ (Obj.cells #[Value.slice none 0 0, Value.slice none 0 0, Value.slice none 0 0] 36))).later hb1
    simpa using this
  have P0 : w1.cell? ⟨w.heap.size, 2, none⟩ = some (.slice aE nE cE) := by
    rw [hb1.cell (by simp; omega)]
    have h := (OwnRow.new3 w (.slice aB nB cB) (.slice aC nC cC) (.slice aE nE cE) 28)
    exact ((h.later (later1 _ _)).later (later1 _ _)).cell (i := 2) (by omega)
  have HO1 : Hid (DiskU w1 (.slice dB eB fB) (.slice dC eC fC) d.1 (fun b => w.heap.size + 3 ≤ b ∧ b < w1.heap.size)) := ho1.mono fun b hb => ⟨by have := hb.1; simp at this; omega, hb.2⟩
  clear hb1 ho1
  have d0 := O2.cell (i := 0) (by omega)
  have d1 := O2.cell (i := 1) (by omega)
  have f0 := O2.frozen 0
  have f1 := O2.frozen 1
  simp at d0 d1
  have HO2 : Hid (OwnRow w1 (w.heap.size + 1 + 1) 3 (fun i => if i = 0 then .slice none 0 0 else if i = 1 then .slice none 0 0 else .slice none 0 0)) := O2
  have HR1 : Hid (OwnRow w1 (w.heap.size + 1) 3 (fun i => if i = 0 then .slice none 0 0 else if i = 1 then .slice none 0 0 else .slice none 0 0)) := O1
  have hz1 : w.heap.size + 1 + 1 < w1.heap.size := O2.lt
  clear O1 O2
  go_wp2_with fail
  clear d0 d1 f0 f1 P0
  have HBX : Hid (Below w.heap.size w ((w1.setCell ⟨w.heap.size + 1 + 1, 0, none⟩ (.slice dB eB fB)).setCell ⟨w.heap.size + 1 + 1, 1, none⟩ (.slice dC eC fC))) := (HB1.out.setCell (by simp; omega) _).setCell (by simp; omega) _
  refine (toExtsU (H2.out.later HBX.out) L2.out).mono ?_
  rintro e w2 ⟨dE, eE, fE, rfl, hb2, ho2⟩
  have HOX := ((HO2.out.set 0 (.slice dB eB fB)).set 1 (.slice dC eC fC)).later hb2
  have HRX := ((HR1.out.store (p := ⟨w.heap.size + 1 + 1, 0, none⟩) (by simp) (.slice dB eB fB)).store (p := ⟨w.heap.size + 1 + 1, 1, none⟩) (by simp) (.slice dC eC fC)).later hb2
  have e1 : ((w1.setCell ⟨w.heap.size + 1 + 1, 0, none⟩ (.slice dB eB fB)).setCell ⟨w.heap.size + 1 + 1, 1, none⟩ (.slice dC eC fC)).heap.size = w1.heap.size := by simp [World.setCell]
  have HIX : Hid (DiskU w2 (.slice dB eB fB) (.slice dC eC fC) d.1 (fun b => w.heap.size + 3 ≤ b ∧ b < w1.heap.size)) := HO1.out.keep fun b hb hlt => by
    rw [hb2.block b (by rw [e1]; exact hlt), Below.heap_setCell _ _ _ _ (by simp; omega), Below.heap_setCell _ _ _ _ (by simp; omega)]
  have HPX : Hid (ExtsO w2 (.slice dE eE fE) d.2 (fun b => w1.heap.size ≤ b ∧ b < w2.heap.size)) := by
    unfold fresh at ho2
    rw [e1] at ho2
    exact ho2
  have HB2 : Hid (Below w.heap.size w w2) := HBX.out.trans (hb2.mono HBX.out.size)
  have e2 : w1.heap.size ≤ w2.heap.size := by have := hb2.size; rwa [e1] at this
  have q0 := HOX.cell (i := 0) (by omega)
  have q1 := HOX.cell (i := 1) (by omega)
  have q2 := HOX.cell (i := 2) (by omega)
  have q3 := HOX.frozen 2
  have t0 := HRX.cell (i := 0) (by omega)
  have t1 := HRX.cell (i := 1) (by omega)
  have t2 := HRX.cell (i := 2) (by omega)
  have s0 := HRX.frozen 0
  have s1 := HRX.frozen 1
  have s2 := HRX.frozen 2
  simp at q0 q1 q2 t0 t1 t2
  clear HOX HRX hb2 ho2
  go_wp2
  refine bodyPost_ret (v := .agg #[.slice dB eB fB, .slice dC eC fC, .slice dE eE fE]) (by simp [results, Try.results11, go_sem, t0, t1, t2]) rfl ⟨_, _, _, _, _, _, _, _, _, rfl, ?_, ?_⟩
  · exact (((HB2.out.setCell (by simp; omega) _).setCell (by simp) _).setCell (by simp) _).setCell (by simp) _
  · refine ⟨fun b => w.heap.size + 3 ≤ b ∧ b < w1.heap.size, fun b => w1.heap.size ≤ b ∧ b < w2.heap.size, HIX.out.keep fun b hb hlt => ?_, HPX.out.keep fun b hb hlt => ?_, fun b hb hb' => by omega, fun b hb => ?_⟩
    · rw [Below.heap_setCell _ _ _ _ (by simp; omega), Below.heap_setCell _ _ _ _ (by simp; omega), Below.heap_setCell _ _ _ _ (by simp; omega), Below.heap_setCell _ _ _ _ (by simp; omega)]
    · rw [Below.heap_setCell _ _ _ _ (by simp; omega), Below.heap_setCell _ _ _ _ (by simp; omega), Below.heap_setCell _ _ _ _ (by simp; omega), Below.heap_setCell _ _ _ _ (by simp; omega)]
    · unfold fresh
      simp only [World.setCell, Array.size_modify]
      rcases hb with hb | hb <;> omega

theorem eqKernU (w : World) (vB vC vE vB' vC' vE' : Value) (d : KD) (h : KernR w vB vC vE d) (h' : KernR w vB' vC' vE' d) :
    Calls Try.prog 13 #[.agg #[vB, vC, vE], .agg #[vB', vC', vE']] w fun e w' => e = .returned (.bool true) ∧ Below w.heap.size w w' := by
  obtain ⟨a1, c1, rfl, _⟩ := h.1.1.open'
  obtain ⟨a2, c2, rfl, _⟩ := h.1.2.open'
  obtain ⟨a3, c3, rfl, _⟩ := h.2.open'
  obtain ⟨b1, k1, rfl, _⟩ := h'.1.1.open'
  obtain ⟨b2, k2, rfl, _⟩ := h'.1.2.open'
  obtain ⟨b3, k3, rfl, _⟩ := h'.2.open'
  have H : Hid (KernR w _ _ _ d) := h
  have H' : Hid (KernR w _ _ _ d) := h'
  clear h h'
  generalize d.1.1.length = m1 at *
  generalize d.1.2.length = m2 at *
  generalize d.2.length = m3 at *
  go_enter Try.func13, Try.ntmps13
  go_wp2_with fail
  refine (eqDiskU _ _ _ _ _ d.1 (H.out.1.later (later2 _ _ _)) (H'.out.1.later (later2 _ _ _))).mono ?_
  rintro e w1 ⟨rfl, hb1⟩
  have HB1 : Hid (Below w.heap.size w w1) := (later2 _ _ _).trans (hb1.mono (by simp; omega))
  have x2 : w1.cell? ⟨w.heap.size, 2, none⟩ = some (.slice a3 m3 c3) := by rw [hb1.cell (by simp; omega)]; exact ((OwnRow.new3 w _ _ _ 36).later (later1 _ _)).cell (i := 2) (by omega)
  have y2 : w1.cell? ⟨w.heap.size + 1, 2, none⟩ = some (.slice b3 m3 k3) := by
    rw [hb1.cell (by simp)]
    have := (OwnRow.new3 (w.alloc (.cells #[.slice a1 m1 c1, .slice a2 m2 c2, .slice a3 m3 c3] 36)) (.slice b1 m1 k1) (.slice b2 m2 k2) (.slice b3 m3 k3) 36).cell (i := 2) (by omega)
    rw [World.size_alloc] at this
    exact this
  clear hb1
  go_wp2_with fail
  refine (eqExtsU (H.out.2.later HB1.out) (H'.out.2.later HB1.out)).mono ?_
  rintro e w2 ⟨rfl, hb2⟩
  have HB2 : Hid (Below w.heap.size w w2) := HB1.out.trans (hb2.mono HB1.out.size)
  clear hb2
  go_wp2
  go_ret
  exact ⟨rfl, HB2.out⟩

def spanKern (d : KD) : Nat := spanDisk d.1 + 3 * d.2.length
theorem spanKern_le (d : KD) : spanKern d ≤ 3 * sizeKern d := by have := spanDisk_le d.1; unfold spanKern sizeKern; omega
def mkKern (k : Int) (d : KD) : KD := (mkDisk k d.1, marksE (k + (spanDisk d.1 : Nat)) d.2.length)
theorem markDskU (w : World) (vB vC : Value) (d : DK) (F : Nat → Prop) (k : Int) (h : DiskU w vB vC d F) (hk0 : 0 ≤ k) (hk : k + (spanDisk d : Nat) ≤ 4611686018427387904) :
    Calls Try.prog 52 #[.agg #[vB, vC], .int .i64 k] w fun e w' => e = .returned (.int .i64 (k + (spanDisk d : Nat))) ∧ DiskU w' vB vC (mkDisk k d) F ∧ Chg F w w' := by
  obtain ⟨F1, G1, h1, h2, hd, hf⟩ := h
  exact (markDisk_any w vB vC d.1 d.2 F1 G1 k h1 h2 hd hk0 hk).mono fun e w' ⟨he, i1, i2, hc⟩ => ⟨he, ⟨F1, G1, i1, i2, hd, hf⟩, hc.mono hf⟩

set_option maxHeartbeats 800000 in
theorem markKernM (w : World) (vB vC vE : Value) (d : KD) (F : Nat → Prop) (k : Int) (h : KernU w vB vC vE d F) (hk0 : 0 ≤ k) (hk : k + (spanKern d : Nat) ≤ 4611686018427387904) :
    Calls Try.prog 21 #[.agg #[vB, vC, vE], .int .i64 k] w fun e w' => e = .returned (.int .i64 (k + (spanKern d : Nat))) ∧ KernU w' vB vC vE (mkKern k d) F ∧ Chg F w w' := by
  obtain ⟨a1, c1, rfl, _⟩ := h.reads.1.1.open'
  obtain ⟨a2, c2, rfl, _⟩ := h.reads.1.2.open'
  obtain ⟨a3, c3, rfl, _⟩ := h.reads.2.open'
  obtain ⟨F1, G1, h1, h2, hd, hf⟩ := h
  have H1 : Hid (DiskU w (.slice a1 d.1.1.length c1) (.slice a2 d.1.2.length c2) d.1 F1) := h1
  have H2 : Hid (ExtsO w (.slice a3 d.2.length c3) d.2 G1) := h2
  have HD : Hid (∀ b, F1 b → ¬ G1 b) := hd
  have HF : Hid (∀ b, F1 b ∨ G1 b → F b) := hf
  have HKD : Hid (mkKern k d = (mkDisk k d.1, marksE (k + (spanDisk d.1 : Nat)) d.2.length)) := rfl
  clear h1 h2 hd hf
  have hq : k + (spanDisk d.1 : Nat) + 3 * (d.2.length : Int) ≤ 4611686018427387904 := by unfold spanKern at hk; omega
  have HE : Hid (k + ((spanKern d : Nat) : Int) = k + (spanDisk d.1 : Nat) + 3 * (d.2.length : Int)) := by unfold Hid spanKern; omega
  rw [HE.out, HKD.out]
  clear hk
  have hU0 : (0 : Int) ≤ ((spanDisk d.1 : Nat) : Int) := by omega
  go_enter Try.func21, Try.ntmps21
  go_wp2_with fail
  refine (markDskU _ _ _ d.1 (fun b => F1 b ∧ b < w.heap.size) k (H1.out.bound.keep fun b hb hlt => (later1 _ _).block b hlt) hk0 (by omega)).mono ?_
  rintro e w1 ⟨rfl, hm, hc⟩
  have x2 : w1.cell? ⟨w.heap.size, 2, none⟩ = some (.slice a3 d.2.length c3) := by
    rw [World.cell?_of_block (w := w.alloc (.cells #[.slice a1 d.1.1.length c1, .slice a2 d.1.2.length c2, .slice a3 d.2.length c3] 36)) (box_later hc fun b hb => hb.2), new_cell]; rfl
  have HM : Hid (DiskU w1 _ _ (mkDisk k d.1) (fun b => F1 b ∧ b < w.heap.size)) := hm
  have HC : Hid (Chg (fun b => F1 b ∧ b < w.heap.size) (w.alloc (.cells #[.slice a1 d.1.1.length c1, .slice a2 d.1.2.length c2, .slice a3 d.2.length c3] 36)) w1) := hc
  have H2' : Hid (ExtsO w1 (.slice a3 d.2.length c3) d.2 (fun b => G1 b ∧ b < w.heap.size)) := H2.out.bound.keep fun b hb hlt => (HC.out.block b (by simp; omega) (fun h => HD.out b h.1 hb.1)).trans ((later1 _ _).block b hlt)
  clear hm hc
  go_wp2_with fail
  refine (markExtsU _ H2'.out (by omega) hq).mono ?_
  rintro e w2 ⟨rfl, hm2, hc2⟩
  have HM2 : Hid (ExtsO w2 (.slice a3 d.2.length c3) (marksE (k + (spanDisk d.1 : Nat)) d.2.length) (fun b => G1 b ∧ b < w.heap.size)) := hm2
  have HC2 : Hid (Chg (fun b => G1 b ∧ b < w.heap.size) w1 w2) := hc2
  clear hm2 hc2
  go_wp2
  go_ret
  refine ⟨rfl, ⟨fun b => F1 b ∧ b < w.heap.size, fun b => G1 b ∧ b < w.heap.size, HM.out.keep fun b hb hlt => HC2.out.block b hlt (fun h => HD.out b hb.1 h.1), HM2.out, fun b h h' => HD.out b h.1 h'.1, fun b hb => HF.out b (hb.elim (fun h => Or.inl h.1) (fun h => Or.inr h.1))⟩, ?_⟩
  exact (Chg.of_below (later1 _ _)).trans ((HC.out.mono fun b hb => HF.out b (Or.inl hb.1)).trans (HC2.out.mono fun b hb => HF.out b (Or.inr hb.1)))
theorem markKernU (w : World) (vB vC vE : Value) (d : KD) (F : Nat → Prop) (k : Int) (h : KernU w vB vC vE d F) (hk0 : 0 ≤ k) (hk : k + (spanKern d : Nat) ≤ 4611686018427387904) :
    Calls Try.prog 21 #[.agg #[vB, vC, vE], .int .i64 k] w fun e w' => e = .returned (.int .i64 (k + (spanKern d : Nat))) ∧ Chg F w w' := (markKernM w vB vC vE d F k h hk0 hk).mono fun _ _ ⟨h1, _, h2⟩ => ⟨h1, h2⟩

theorem heldDskU (w : World) (vB vC : Value) (d : DK) (k : Int) (h : DiskR w vB vC (mkDisk k d)) (hk0 : 0 ≤ k) (hk : k + (spanDisk d : Nat) ≤ 4611686018427387904) :
    Calls Try.prog 83 #[.agg #[vB, vC], .int .i64 k] w fun e w' => e = .returned (.int .i64 (k + (spanDisk d : Nat))) ∧ Below w.heap.size w w' := by
  unfold spanDisk dspan at hk ⊢
  refine (heldDisk_any w vB vC _ (wlens d.2) k h.1 h.2 hk0 (by rw [wlens_length]; omega)).mono fun e w' ⟨he, hb⟩ => ⟨he.trans (ret_int ?_), hb⟩
  rw [wlens_length]
  omega

theorem mkDisk_len1 (k : Int) (d : DK) : (mkDisk k d).1.length = d.1.length := by simp [mkDisk, marksS_length]
theorem mkDisk_len2 (k : Int) (d : DK) : (mkDisk k d).2.length = d.2.length := by simp [mkDisk, marksP_length, wlens]

set_option maxHeartbeats 800000 in
theorem heldKernM (w : World) (vB vC vE : Value) (d : KD) (k : Int) (h : KernR w vB vC vE (mkKern k d)) (hk0 : 0 ≤ k) (hk : k + (spanKern d : Nat) ≤ 4611686018427387904) :
    Calls Try.prog 46 #[.agg #[vB, vC, vE], .int .i64 k] w fun e w' => e = .returned (.int .i64 (k + (spanKern d : Nat))) ∧ Below w.heap.size w w' := by
  obtain ⟨a1, c1, rfl, _⟩ := h.1.1.open'
  obtain ⟨a2, c2, rfl, _⟩ := h.1.2.open'
  obtain ⟨a3, c3, rfl, _⟩ := h.2.open'
  have H1 : Hid (DiskR w _ _ (mkDisk k d.1)) := h.1
  have H2 : Hid (Exts w _ (marksE (k + (spanDisk d.1 : Nat)) d.2.length)) := h.2
  clear h
  have hq : k + (spanDisk d.1 : Nat) + 3 * (d.2.length : Int) ≤ 4611686018427387904 := by unfold spanKern at hk; omega
  have HE : Hid (k + ((spanKern d : Nat) : Int) = k + (spanDisk d.1 : Nat) + 3 * (d.2.length : Int)) := by unfold Hid spanKern; omega
  rw [HE.out]
  clear hk
  generalize (mkKern k d).1.1.length = m1 at *
  generalize (mkKern k d).1.2.length = m2 at *
  generalize (mkKern k d).2.length = m3 at *
  have l1 : ¬ (k + ((spanDisk d.1 : Nat) : Int) < 0) := by omega
  have l2 : ¬ (k + ((spanDisk d.1 : Nat) : Int) + 3 * (d.2.length : Int) < 0) := by omega
  go_enter Try.func46, Try.ntmps46
  go_wp2_with fail
  refine (heldDskU _ _ _ d.1 k (H1.out.later (later1 _ _)) hk0 (by omega)).mono ?_
  rintro e w1 ⟨rfl, hb1⟩
  have HB1 : Hid (Below w.heap.size w w1) := (later1 _ _).trans (hb1.mono (by simp))
  have x2 : w1.cell? ⟨w.heap.size, 2, none⟩ = some (.slice a3 m3 c3) := by rw [hb1.cell (by simp), new_cell]; rfl
  clear hb1
  go_wp2_with fail
  refine (heldExtsU _ d.2.length (H2.out.later HB1.out) (by omega) hq).mono ?_
  rintro e w2 ⟨rfl, rfl⟩
  go_wp2
  go_ret
  exact ⟨rfl, HB1.out⟩
end Go.Proofs.Ytojegkekafampah
