/- Worlds as answers, in the one form. Rows that grow by append, each element with bytes of its own. NewFs, the program's: a list of lists copied as it stands, and made longer by empty lists. The program's UsedBlocks, FreeBlocks and PickBlocks. -/
import Derived.Test.YtlacppjlclfpmaaGreatM11
import Derived.Test.YtlacppjlclfpmaaGreatM05
import Derived.Test.YtlacppjlclfpmaaGreatM00
import Derived.Test.YtlacppjlclfpmaaGreatM08
import Derived.Test.YtlacppjlclfpmaaGreatM04
import Derived.Laws.AppendOwn
import Derived.Test.YtlacppjlclfpmaaGreatM07
namespace Go.Proofs.YtlacppjlclfpmaaGreat
open Go.RowKit
set_option maxRecDepth 100000

theorem DiskU.boundU {w : World} {v1 v2 : Value} {d : DK} {F : Nat → Prop} (h : DiskU w v1 v2 d F) : DiskU w v1 v2 d (fun b => F b ∧ b < w.heap.size) := by
  obtain ⟨F1, G1, h1, h2, h3, h4⟩ := h
  refine ⟨_, _, h1.bound, h2.bound, fun b hb hb' => h3 b hb.1 hb'.1, fun b hb => ?_⟩
  rcases hb with hb | hb
  · exact ⟨h4 b (Or.inl hb.1), hb.2⟩
  · exact ⟨h4 b (Or.inr hb.1), hb.2⟩
theorem CResU.boundU {w : World} {v1 v2 v3 v4 v5 v6 : Value} {d : CRD} {F : Nat → Prop} (h : CResU w v1 v2 v3 v4 v5 v6 d F) : CResU w v1 v2 v3 v4 v5 v6 d (fun b => F b ∧ b < w.heap.size) := by
  obtain ⟨h0, F1, G1, K1, h1, h2, h3, h4, h5, h6⟩ := h
  refine ⟨h0, _, _, _, h1.bound, h2.bound, h3.boundU, fun b hb => ⟨fun h => (h4 b hb.1).1 h.1, fun h => (h4 b hb.1).2 h.1⟩, fun b hb h => h5 b hb.1 h.1, fun b hb => ?_⟩
  rcases hb with hb | hb | hb
  · exact ⟨h6 b (Or.inl hb.1), hb.2⟩
  · exact ⟨h6 b (Or.inr (Or.inl hb.1)), hb.2⟩
  · exact ⟨h6 b (Or.inr (Or.inr hb.1)), hb.2⟩
theorem markDiskM (w : World) (vB vC : Value) (d : DK) (F : Nat → Prop) (k : Int) (h : DiskU w vB vC d F) (hk0 : 1 ≤ k) (hk : k + (spanDisk d : Nat) ≤ 4294967296) :
    Calls Tryz.prog 39 #[.agg #[vB, vC], .int .i64 k] w fun e w' => e = .returned (.int .i64 (k + (spanDisk d : Nat))) ∧ DiskU w' vB vC (mkDisk k d) F ∧ Chg F w w' := by
  obtain ⟨F1, G1, h1, h2, h3, h4⟩ := h
  exact (markDisk_any w vB vC d.1 d.2 F1 G1 k h1 h2 h3 (by omega) (by unfold spanDisk at hk; omega)).mono fun e w' ⟨he, a, b, hc⟩ => ⟨he, ⟨F1, G1, a, b, h3, h4⟩, hc.mono h4⟩
theorem heldDiskM (w : World) (vB vC : Value) (d : DK) (F : Nat → Prop) (k : Int) (h : DiskU w vB vC (mkDisk k d) F) (hk0 : 1 ≤ k) (hk : k + (spanDisk d : Nat) ≤ 4294967296) :
    Calls Tryz.prog 43 #[.agg #[vB, vC], .int .i64 k] w fun e w' => e = .returned (.int .i64 (k + (spanDisk d : Nat))) ∧ Below w.heap.size w w' := by
  have hr := h.reads
  have hs : (spanDisk d : Nat) = (d.1.map List.length).sum + (wlens d.2).length + (wlens d.2).sum := by unfold spanDisk dspan; rw [wlens_length]
  rw [hs] at hk ⊢
  refine (heldDisk_any w vB vC (d.1.map List.length) (wlens d.2) k hr.1 hr.2 (by omega) (by omega)).mono fun e w' ⟨he, hb⟩ => ⟨he.trans (ret_int ?_), hb⟩
  omega

abbrev WldD := DK × FD × FD
def WldR (w : World) (v1 v2 v3 v4 v5 v6 : Value) (d : WldD) : Prop := DiskR w v1 v2 d.1 ∧ FsR w v3 v4 d.2.1 ∧ FsR w v5 v6 d.2.2
theorem WldR.later {w w' : World} {v1 v2 v3 v4 v5 v6 : Value} {d : WldD} (h : WldR w v1 v2 v3 v4 v5 v6 d) (hb : Below w.heap.size w w') : WldR w' v1 v2 v3 v4 v5 v6 d := ⟨h.1.later hb, h.2.1.later hb, h.2.2.later hb⟩
def WldU (w : World) (v1 v2 v3 v4 v5 v6 : Value) (d : WldD) (F : Nat → Prop) : Prop := ∃ F1 F2 F3 : Nat → Prop, DiskU w v1 v2 d.1 F1 ∧ FsU w v3 v4 d.2.1 F2 ∧ FsU w v5 v6 d.2.2 F3 ∧ (∀ b, F1 b → ¬ F2 b) ∧ (∀ b, F1 b → ¬ F3 b) ∧ (∀ b, F2 b → ¬ F3 b) ∧ ∀ b, F1 b ∨ F2 b ∨ F3 b → F b
theorem WldU.reads {w : World} {v1 v2 v3 v4 v5 v6 : Value} {d : WldD} {F : Nat → Prop} (h : WldU w v1 v2 v3 v4 v5 v6 d F) : WldR w v1 v2 v3 v4 v5 v6 d := by
  obtain ⟨F1, F2, F3, h1, h2, h3, d12, d13, d23, hf⟩ := h
  exact ⟨h1.reads, h2.reads, h3.reads⟩
theorem WldU.keep {w w' : World} {v1 v2 v3 v4 v5 v6 : Value} {d : WldD} {F : Nat → Prop} (h : WldU w v1 v2 v3 v4 v5 v6 d F) (e : ∀ b, F b → b < w.heap.size → w'.heap[b]? = w.heap[b]?) : WldU w' v1 v2 v3 v4 v5 v6 d F := by
  obtain ⟨F1, F2, F3, h1, h2, h3, d12, d13, d23, hf⟩ := h
  exact ⟨F1, F2, F3, h1.keep fun b hb => e b (hf b (Or.inl hb)), h2.keep fun b hb => e b (hf b (Or.inr (Or.inl hb))), h3.keep fun b hb => e b (hf b (Or.inr (Or.inr (hb)))), d12, d13, d23, hf⟩
theorem WldU.later {w w' : World} {v1 v2 v3 v4 v5 v6 : Value} {d : WldD} {F : Nat → Prop} (h : WldU w v1 v2 v3 v4 v5 v6 d F) (hb : Below w.heap.size w w') : WldU w' v1 v2 v3 v4 v5 v6 d F := h.keep fun b _ hlt => hb.block b hlt
theorem WldU.mono {w : World} {v1 v2 v3 v4 v5 v6 : Value} {d : WldD} {F G : Nat → Prop} (h : WldU w v1 v2 v3 v4 v5 v6 d F) (e : ∀ b, F b → G b) : WldU w v1 v2 v3 v4 v5 v6 d G := by
  obtain ⟨F1, F2, F3, h1, h2, h3, d12, d13, d23, hf⟩ := h
  exact ⟨F1, F2, F3, h1, h2, h3, d12, d13, d23, fun b hb => e b (hf b hb)⟩
theorem WldU.chg {w w' : World} {v1 v2 v3 v4 v5 v6 : Value} {d : WldD} {F G : Nat → Prop} (h : WldU w v1 v2 v3 v4 v5 v6 d F) (hc : Chg G w w') (hd : ∀ b, F b → ¬ G b) : WldU w' v1 v2 v3 v4 v5 v6 d F := h.keep fun b hb hlt => hc.block b hlt (hd b hb)
theorem WldU.boundU {w : World} {v1 v2 v3 v4 v5 v6 : Value} {d : WldD} {F : Nat → Prop} (h : WldU w v1 v2 v3 v4 v5 v6 d F) : WldU w v1 v2 v3 v4 v5 v6 d (fun b => F b ∧ b < w.heap.size) := by
  obtain ⟨F1, F2, F3, h1, h2, h3, d12, d13, d23, hf⟩ := h
  refine ⟨_, _, _, h1.boundU, h2.boundU, h3.boundU, fun b hb h => d12 b hb.1 h.1, fun b hb h => d13 b hb.1 h.1, fun b hb h => d23 b hb.1 h.1, fun b hb => ?_⟩
  rcases hb with hb | hb | hb
  · exact ⟨hf b (Or.inl hb.1), hb.2⟩
  · exact ⟨hf b (Or.inr (Or.inl hb.1)), hb.2⟩
  · exact ⟨hf b (Or.inr (Or.inr (hb.1))), hb.2⟩
def spanWld (d : WldD) : Nat := spanDisk d.1 + spanFs d.2.1 + spanFs d.2.2
def mkWld (k : Int) (d : WldD) : WldD := (mkDisk (k) d.1, (mkFs (k + (spanDisk d.1 : Nat)) d.2.1, mkFs (k + (spanDisk d.1 : Nat) + (spanFs d.2.1 : Nat)) d.2.2))
set_option maxHeartbeats 3200000 in
theorem eqWorldU (w : World) (v1 v2 v3 v4 v5 v6 v1' v2' v3' v4' v5' v6' : Value) (d : WldD) (h : WldR w v1 v2 v3 v4 v5 v6 d) (h' : WldR w v1' v2' v3' v4' v5' v6' d) :
    Calls Tryz.prog 15 #[.agg #[v1, v2, v3, v4, v5, v6], .agg #[v1', v2', v3', v4', v5', v6']] w fun e w' => e = .returned (.bool true) ∧ Below w.heap.size w w' := by
  have H1 : Hid (DiskR w v1 v2 d.1) := h.1
  have H1' : Hid (DiskR w v1' v2' d.1) := h'.1
  have H2 : Hid (FsR w v3 v4 d.2.1) := h.2.1
  have H2' : Hid (FsR w v3' v4' d.2.1) := h'.2.1
  have H3 : Hid (FsR w v5 v6 d.2.2) := h.2.2
  have H3' : Hid (FsR w v5' v6' d.2.2) := h'.2.2
  clear h h'
  have HX : Hid (Bx ((w.alloc (.cells #[v1, v2, v3, v4, v5, v6] 35)).alloc (.cells #[v1', v2', v3', v4', v5', v6'] 35)) w.heap.size [v1, v2, v3, v4, v5, v6]) := (Bx.new w [v1, v2, v3, v4, v5, v6] _).later (later1 _ _)
  have HY : Hid (Bx ((w.alloc (.cells #[v1, v2, v3, v4, v5, v6] 35)).alloc (.cells #[v1', v2', v3', v4', v5', v6'] 35)) (w.heap.size + 1) [v1', v2', v3', v4', v5', v6']) := by
    have := Bx.new (w.alloc (.cells #[v1, v2, v3, v4, v5, v6] 35)) [v1', v2', v3', v4', v5', v6'] 35
    rw [World.size_alloc] at this
    exact this
  have HB0 : Hid (Below w.heap.size w ((w.alloc (.cells #[v1, v2, v3, v4, v5, v6] 35)).alloc (.cells #[v1', v2', v3', v4', v5', v6'] 35))) := later2 _ _ _
  go_enter Tryz.func15, Tryz.ntmps15
  go_wp2_with fail
  generalize ((w.alloc (.cells #[v1, v2, v3, v4, v5, v6] 35)).alloc (.cells #[v1', v2', v3', v4', v5', v6'] 35)) = W0 at *
  refine (eqDiskU _ _ _ _ _ (d.1) (H1.out.later HB0.out) (H1'.out.later HB0.out)).mono ?_
  rintro e w1 ⟨rfl, hb1⟩
  have HB1 : Hid (Below w.heap.size w w1) := HB0.out.trans (hb1.mono HB0.out.size)
  have HX1 : Hid (Bx w1 w.heap.size [v1, v2, v3, v4, v5, v6]) := HX.out.later hb1
  have HY1 : Hid (Bx w1 (w.heap.size + 1) [v1', v2', v3', v4', v5', v6']) := HY.out.later hb1
  clear hb1
  have x2 := HX1.out 2 _ rfl
  have y2 := HY1.out 2 _ rfl
  have x3 := HX1.out 3 _ rfl
  have y3 := HY1.out 3 _ rfl
  go_wp2_with fail
  clear x2 y2 x3 y3
  refine (eqFsU _ _ _ _ _ (d.2.1) (H2.out.later HB1.out) (H2'.out.later HB1.out)).mono ?_
  rintro e w2 ⟨rfl, hb2⟩
  have HB2 : Hid (Below w.heap.size w w2) := HB1.out.trans (hb2.mono HB1.out.size)
  have HX2 : Hid (Bx w2 w.heap.size [v1, v2, v3, v4, v5, v6]) := HX1.out.later hb2
  have HY2 : Hid (Bx w2 (w.heap.size + 1) [v1', v2', v3', v4', v5', v6']) := HY1.out.later hb2
  clear hb2
  have x4 := HX2.out 4 _ rfl
  have y4 := HY2.out 4 _ rfl
  have x5 := HX2.out 5 _ rfl
  have y5 := HY2.out 5 _ rfl
  go_wp2_with fail
  clear x4 y4 x5 y5
  refine (eqFsU _ _ _ _ _ (d.2.2) (H3.out.later HB2.out) (H3'.out.later HB2.out)).mono ?_
  rintro e w3 ⟨rfl, hb3⟩
  have HB3 : Hid (Below w.heap.size w w3) := HB2.out.trans (hb3.mono HB2.out.size)
  clear hb3
  go_wp2
  go_ret
  exact ⟨rfl, HB3.out⟩
set_option maxHeartbeats 3200000 in
theorem markWorldU (w : World) (v1 v2 v3 v4 v5 v6 : Value) (d : WldD) (F : Nat → Prop) (k : Int) (h : WldU w v1 v2 v3 v4 v5 v6 d F) (hk0 : 1 ≤ k) (hk : k + (spanWld d : Nat) ≤ 4294967296) :
    Calls Tryz.prog 17 #[.agg #[v1, v2, v3, v4, v5, v6], .int .i64 k] w fun e w' => e = .returned (.int .i64 (k + (spanWld d : Nat))) ∧ WldU w' v1 v2 v3 v4 v5 v6 (mkWld k d) F ∧ Chg F w w' := by
  obtain ⟨F1, F2, F3, h1, h2, h3, d12, d13, d23, hf⟩ := h
  have HF : Hid (∀ b, F1 b ∨ F2 b ∨ F3 b → F b) := hf
  have HMK : Hid (mkWld k d = (mkDisk (k) d.1, (mkFs (k + (spanDisk d.1 : Nat)) d.2.1, mkFs (k + (spanDisk d.1 : Nat) + (spanFs d.2.1 : Nat)) d.2.2))) := rfl
  have H1 : Hid (DiskU w v1 v2 d.1 F1) := h1
  have H2 : Hid (FsU w v3 v4 d.2.1 F2) := h2
  have H3 : Hid (FsU w v5 v6 d.2.2 F3) := h3
  have HD12 : Hid (∀ b, F1 b → ¬ F2 b) := d12
  have HD13 : Hid (∀ b, F1 b → ¬ F3 b) := d13
  have HD23 : Hid (∀ b, F2 b → ¬ F3 b) := d23
  have HE : Hid (k + (spanWld d : Nat) = k + (spanDisk d.1 : Nat) + (spanFs d.2.1 : Nat) + (spanFs d.2.2 : Nat)) := by unfold Hid spanWld; omega
  have hk2 : k + (spanDisk d.1 : Nat) + (spanFs d.2.1 : Nat) + (spanFs d.2.2 : Nat) ≤ 4294967296 := by rw [← HE.out]; exact hk
  rw [HE.out, HMK.out]
  clear h1 h2 h3 d12 d13 d23 hf hk HE HMK
  obtain ⟨k1, hk1'⟩ : ∃ k1, k + (spanDisk d.1 : Nat) = k1 := ⟨_, rfl⟩
  obtain ⟨k2, hk2'⟩ : ∃ k2, k1 + (spanFs d.2.1 : Nat) = k2 := ⟨_, rfl⟩
  obtain ⟨k3, hk3'⟩ : ∃ k3, k2 + (spanFs d.2.2 : Nat) = k3 := ⟨_, rfl⟩
  have HQ1 : Hid (k + ((spanDisk d.1 : Nat) : Int) = k1) := hk1'
  have HQ2 : Hid (k1 + ((spanFs d.2.1 : Nat) : Int) = k2) := hk2'
  have HQ3 : Hid (k2 + ((spanFs d.2.2 : Nat) : Int) = k3) := hk3'
  have L1 : Hid (1 ≤ k ∧ k + (spanDisk d.1 : Nat) ≤ 4294967296) := by unfold Hid; omega
  have L2 : Hid (1 ≤ k1 ∧ k1 + (spanFs d.2.1 : Nat) ≤ 4294967296) := by unfold Hid; omega
  have L3 : Hid (1 ≤ k2 ∧ k2 + (spanFs d.2.2 : Nat) ≤ 4294967296) := by unfold Hid; omega
  rw [hk1']
  rw [hk2']
  rw [hk3']
  clear hk0 hk2 hk1' hk2' hk3'
  have HX0 : Hid (OwnRow (w.alloc (.cells #[v1, v2, v3, v4, v5, v6] 35)) w.heap.size 6 (cel [v1, v2, v3, v4, v5, v6])) := newCel w [v1, v2, v3, v4, v5, v6] _
  have HB0 : Hid (Below w.heap.size w (w.alloc (.cells #[v1, v2, v3, v4, v5, v6] 35))) := later1 _ _
  have H10 : Hid (DiskU (w.alloc (.cells #[v1, v2, v3, v4, v5, v6] 35)) v1 v2 d.1 (fun b => F1 b ∧ b < w.heap.size)) := H1.out.boundU.later HB0.out
  have H20 : Hid (FsU (w.alloc (.cells #[v1, v2, v3, v4, v5, v6] 35)) v3 v4 d.2.1 (fun b => F2 b ∧ b < w.heap.size)) := H2.out.boundU.later HB0.out
  have H30 : Hid (FsU (w.alloc (.cells #[v1, v2, v3, v4, v5, v6] 35)) v5 v6 d.2.2 (fun b => F3 b ∧ b < w.heap.size)) := H3.out.boundU.later HB0.out
  go_enter Tryz.func17, Tryz.ntmps17
  go_wp2_with fail
  generalize (w.alloc (.cells #[v1, v2, v3, v4, v5, v6] 35)) = W0 at *
  refine (markDiskM _ _ _ (d.1) _ k H10.out L1.out.1 L1.out.2).mono ?_
  rw [HQ1.out]
  rintro e w1 ⟨rfl, hm, hc⟩
  have HC1 : Hid (Chg (fun b => F1 b ∧ b < w.heap.size) W0 w1) := hc
  have M11 : Hid (DiskU w1 v1 v2 (mkDisk k d.1) (fun b => F1 b ∧ b < w.heap.size)) := hm
  have H21 : Hid (FsU w1 v3 v4 d.2.1 (fun b => F2 b ∧ b < w.heap.size)) := H20.out.chg hc fun b hb h => HD12.out b h.1 hb.1
  have H31 : Hid (FsU w1 v5 v6 d.2.2 (fun b => F3 b ∧ b < w.heap.size)) := H30.out.chg hc fun b hb h => HD13.out b h.1 hb.1
  have HX1 : Hid (OwnRow w1 w.heap.size 6 (cel [v1, v2, v3, v4, v5, v6])) := HX0.out.block (hc.block _ HX0.out.lt (fun h => by omega))
  clear hm hc
  have x2 : w1.cell? ⟨w.heap.size, 2, none⟩ = some v3 := HX1.out.cell (i := 2) (by omega)
  have x3 : w1.cell? ⟨w.heap.size, 3, none⟩ = some v4 := HX1.out.cell (i := 3) (by omega)
  go_wp2_with fail
  clear x2 x3
  refine (markFsM _ _ _ (d.2.1) _ k1 H21.out L2.out.1 L2.out.2).mono ?_
  rw [HQ2.out]
  rintro e w2 ⟨rfl, hm, hc⟩
  have HC2 : Hid (Chg (fun b => F2 b ∧ b < w.heap.size) w1 w2) := hc
  have M22 : Hid (FsU w2 v3 v4 (mkFs k1 d.2.1) (fun b => F2 b ∧ b < w.heap.size)) := hm
  have M12 : Hid (DiskU w2 v1 v2 (mkDisk k d.1) (fun b => F1 b ∧ b < w.heap.size)) := M11.out.chg hc fun b hb h => HD12.out b hb.1 h.1
  have H32 : Hid (FsU w2 v5 v6 d.2.2 (fun b => F3 b ∧ b < w.heap.size)) := H31.out.chg hc fun b hb h => HD23.out b h.1 hb.1
  have HX2 : Hid (OwnRow w2 w.heap.size 6 (cel [v1, v2, v3, v4, v5, v6])) := HX1.out.block (hc.block _ HX1.out.lt (fun h => by omega))
  clear hm hc
  have x4 : w2.cell? ⟨w.heap.size, 4, none⟩ = some v5 := HX2.out.cell (i := 4) (by omega)
  have x5 : w2.cell? ⟨w.heap.size, 5, none⟩ = some v6 := HX2.out.cell (i := 5) (by omega)
  go_wp2_with fail
  clear x4 x5
  refine (markFsM _ _ _ (d.2.2) _ k2 H32.out L3.out.1 L3.out.2).mono ?_
  rw [HQ3.out]
  rintro e w3 ⟨rfl, hm, hc⟩
  have HC3 : Hid (Chg (fun b => F3 b ∧ b < w.heap.size) w2 w3) := hc
  have M33 : Hid (FsU w3 v5 v6 (mkFs k2 d.2.2) (fun b => F3 b ∧ b < w.heap.size)) := hm
  have M13 : Hid (DiskU w3 v1 v2 (mkDisk k d.1) (fun b => F1 b ∧ b < w.heap.size)) := M12.out.chg hc fun b hb h => HD13.out b hb.1 h.1
  have M23 : Hid (FsU w3 v3 v4 (mkFs k1 d.2.1) (fun b => F2 b ∧ b < w.heap.size)) := M22.out.chg hc fun b hb h => HD23.out b hb.1 h.1
  clear hm hc
  go_wp2
  go_ret
  refine ⟨rfl, ⟨_, _, _, M13.out, M23.out, M33.out, fun b hb h => HD12.out b hb.1 h.1, fun b hb h => HD13.out b hb.1 h.1, fun b hb h => HD23.out b hb.1 h.1, fun b hb => ?_⟩, (Chg.of_below HB0.out).trans ((HC1.out.mono fun b hb => HF.out b (Or.inl hb.1)).trans ((HC2.out.mono fun b hb => HF.out b (Or.inr (Or.inl hb.1))).trans (HC3.out.mono fun b hb => HF.out b (Or.inr (Or.inr (hb.1))))))⟩
  rcases hb with hb | hb | hb
  · exact HF.out b (Or.inl hb.1)
  · exact HF.out b (Or.inr (Or.inl hb.1))
  · exact HF.out b (Or.inr (Or.inr (hb.1)))
set_option maxHeartbeats 3200000 in
theorem heldWorldU (w : World) (v1 v2 v3 v4 v5 v6 : Value) (d : WldD) (F : Nat → Prop) (k : Int) (h : WldU w v1 v2 v3 v4 v5 v6 (mkWld k d) F) (hk0 : 1 ≤ k) (hk : k + (spanWld d : Nat) ≤ 4294967296) :
    Calls Tryz.prog 19 #[.agg #[v1, v2, v3, v4, v5, v6], .int .i64 k] w fun e w' => e = .returned (.int .i64 (k + (spanWld d : Nat))) ∧ Below w.heap.size w w' := by
  have HMK : Hid (mkWld k d = (mkDisk (k) d.1, (mkFs (k + (spanDisk d.1 : Nat)) d.2.1, mkFs (k + (spanDisk d.1 : Nat) + (spanFs d.2.1 : Nat)) d.2.2))) := rfl
  rw [HMK.out] at h
  obtain ⟨F1, F2, F3, h1, h2, h3, d12, d13, d23, hf⟩ := h
  dsimp only at h1 h2 h3
  have H1 : Hid (DiskU w v1 v2 (mkDisk (k) d.1) F1) := h1
  have H2 : Hid (FsU w v3 v4 (mkFs (k + (spanDisk d.1 : Nat)) d.2.1) F2) := h2
  have H3 : Hid (FsU w v5 v6 (mkFs (k + (spanDisk d.1 : Nat) + (spanFs d.2.1 : Nat)) d.2.2) F3) := h3
  have HE : Hid (k + (spanWld d : Nat) = k + (spanDisk d.1 : Nat) + (spanFs d.2.1 : Nat) + (spanFs d.2.2 : Nat)) := by unfold Hid spanWld; omega
  have hk2 : k + (spanDisk d.1 : Nat) + (spanFs d.2.1 : Nat) + (spanFs d.2.2 : Nat) ≤ 4294967296 := by rw [← HE.out]; exact hk
  rw [HE.out]
  clear h1 h2 h3 d12 d13 d23 hf hk HE HMK
  obtain ⟨k1, hk1'⟩ : ∃ k1, k + (spanDisk d.1 : Nat) = k1 := ⟨_, rfl⟩
  obtain ⟨k2, hk2'⟩ : ∃ k2, k1 + (spanFs d.2.1 : Nat) = k2 := ⟨_, rfl⟩
  obtain ⟨k3, hk3'⟩ : ∃ k3, k2 + (spanFs d.2.2 : Nat) = k3 := ⟨_, rfl⟩
  have HQ1 : Hid (k + ((spanDisk d.1 : Nat) : Int) = k1) := hk1'
  have HQ2 : Hid (k1 + ((spanFs d.2.1 : Nat) : Int) = k2) := hk2'
  have HQ3 : Hid (k2 + ((spanFs d.2.2 : Nat) : Int) = k3) := hk3'
  have L1 : Hid (1 ≤ k ∧ k + (spanDisk d.1 : Nat) ≤ 4294967296) := by unfold Hid; omega
  have L2 : Hid (1 ≤ k1 ∧ k1 + (spanFs d.2.1 : Nat) ≤ 4294967296) := by unfold Hid; omega
  have L3 : Hid (1 ≤ k2 ∧ k2 + (spanFs d.2.2 : Nat) ≤ 4294967296) := by unfold Hid; omega
  have n1 : ¬ k1 < 0 := by omega
  have n2 : ¬ k2 < 0 := by omega
  have n3 : ¬ k3 < 0 := by omega
  rw [hk1']
  rw [hk1'] at H2
  rw [hk1'] at H3
  rw [hk2']
  rw [hk2'] at H3
  rw [hk3']
  clear hk0 hk2 hk1' hk2' hk3'
  have HX : Hid (Bx (w.alloc (.cells #[v1, v2, v3, v4, v5, v6] 35)) w.heap.size [v1, v2, v3, v4, v5, v6]) := Bx.new w [v1, v2, v3, v4, v5, v6] _
  have HB0 : Hid (Below w.heap.size w (w.alloc (.cells #[v1, v2, v3, v4, v5, v6] 35))) := later1 _ _
  go_enter Tryz.func19, Tryz.ntmps19
  go_wp2_with fail
  generalize (w.alloc (.cells #[v1, v2, v3, v4, v5, v6] 35)) = W0 at *
  refine (heldDiskM _ _ _ (d.1) _ k (H1.out.later HB0.out) L1.out.1 L1.out.2).mono ?_
  rw [HQ1.out]
  rintro e w1 ⟨rfl, hb1⟩
  have HB1 : Hid (Below w.heap.size w w1) := HB0.out.trans (hb1.mono HB0.out.size)
  have HX1 : Hid (Bx w1 w.heap.size [v1, v2, v3, v4, v5, v6]) := HX.out.later hb1
  clear hb1
  have x2 := HX1.out 2 _ rfl
  have x3 := HX1.out 3 _ rfl
  go_wp2_with fail
  clear x2 x3
  refine (heldFsM _ _ _ (d.2.1) k1 (FsU.reads (H2.out.later HB1.out)) L2.out.1 L2.out.2).mono ?_
  rw [HQ2.out]
  rintro e w2 ⟨rfl, hb2⟩
  have HB2 : Hid (Below w.heap.size w w2) := HB1.out.trans (hb2.mono HB1.out.size)
  have HX2 : Hid (Bx w2 w.heap.size [v1, v2, v3, v4, v5, v6]) := HX1.out.later hb2
  clear hb2
  have x4 := HX2.out 4 _ rfl
  have x5 := HX2.out 5 _ rfl
  go_wp2_with fail
  clear x4 x5
  refine (heldFsM _ _ _ (d.2.2) k2 (FsU.reads (H3.out.later HB2.out)) L3.out.1 L3.out.2).mono ?_
  rw [HQ3.out]
  rintro e w3 ⟨rfl, hb3⟩
  have HB3 : Hid (Below w.heap.size w w3) := HB2.out.trans (hb3.mono HB2.out.size)
  clear hb3
  go_wp2
  go_ret
  exact ⟨rfl, HB3.out⟩

/-- A call's answer, its code too. -/
abbrev CCD := Int × CRD
def CCR (w : World) (v0 v1 v2 v3 v4 v5 v6 : Value) (d : CCD) : Prop := v0 = .int .i64 d.1 ∧ CResR w v1 v2 v3 v4 v5 v6 d.2
theorem CCR.later {w w' : World} {v0 v1 v2 v3 v4 v5 v6 : Value} {d : CCD} (h : CCR w v0 v1 v2 v3 v4 v5 v6 d) (hb : Below w.heap.size w w') : CCR w' v0 v1 v2 v3 v4 v5 v6 d := ⟨h.1, h.2.later hb⟩
def CCU (w : World) (v0 v1 v2 v3 v4 v5 v6 : Value) (d : CCD) (F : Nat → Prop) : Prop := v0 = .int .i64 d.1 ∧ CResU w v1 v2 v3 v4 v5 v6 d.2 F
theorem CCU.reads {w : World} {v0 v1 v2 v3 v4 v5 v6 : Value} {d : CCD} {F : Nat → Prop} (h : CCU w v0 v1 v2 v3 v4 v5 v6 d F) : CCR w v0 v1 v2 v3 v4 v5 v6 d := ⟨h.1, h.2.reads⟩
theorem CCU.keep {w w' : World} {v0 v1 v2 v3 v4 v5 v6 : Value} {d : CCD} {F : Nat → Prop} (h : CCU w v0 v1 v2 v3 v4 v5 v6 d F) (e : ∀ b, F b → b < w.heap.size → w'.heap[b]? = w.heap[b]?) : CCU w' v0 v1 v2 v3 v4 v5 v6 d F := ⟨h.1, h.2.keep e⟩
theorem CCU.later {w w' : World} {v0 v1 v2 v3 v4 v5 v6 : Value} {d : CCD} {F : Nat → Prop} (h : CCU w v0 v1 v2 v3 v4 v5 v6 d F) (hb : Below w.heap.size w w') : CCU w' v0 v1 v2 v3 v4 v5 v6 d F := h.keep fun b _ hlt => hb.block b hlt
theorem CCU.chg {w w' : World} {v0 v1 v2 v3 v4 v5 v6 : Value} {d : CCD} {F G : Nat → Prop} (h : CCU w v0 v1 v2 v3 v4 v5 v6 d F) (hc : Chg G w w') (hd : ∀ b, F b → ¬ G b) : CCU w' v0 v1 v2 v3 v4 v5 v6 d F := h.keep fun b hb hlt => hc.block b hlt (hd b hb)
theorem CCU.boundU {w : World} {v0 v1 v2 v3 v4 v5 v6 : Value} {d : CCD} {F : Nat → Prop} (h : CCU w v0 v1 v2 v3 v4 v5 v6 d F) : CCU w v0 v1 v2 v3 v4 v5 v6 d (fun b => F b ∧ b < w.heap.size) := ⟨h.1, h.2.boundU⟩
def spanCC (d : CCD) : Nat := spanCR d.2
def mkCC (k : Int) (d : CCD) : CCD := (d.1, mkCR k d.2)
theorem eqCCU (w : World) (v0 v1 v2 v3 v4 v5 v6 v0' v1' v2' v3' v4' v5' v6' : Value) (d : CCD) (h : CCR w v0 v1 v2 v3 v4 v5 v6 d) (h' : CCR w v0' v1' v2' v3' v4' v5' v6' d) :
    Calls Tryz.prog 14 #[.agg #[v0, v1, v2, v3, v4, v5, v6], .agg #[v0', v1', v2', v3', v4', v5', v6']] w fun e w' => e = .returned (.bool true) ∧ Below w.heap.size w w' := by
  obtain ⟨rfl, h⟩ := h
  obtain ⟨rfl, h'⟩ := h'
  exact eqCallResultU w d.1 v1 v2 v3 v4 v5 v6 v1' v2' v3' v4' v5' v6' d.2 h h'
theorem markCCU (w : World) (v0 v1 v2 v3 v4 v5 v6 : Value) (d : CCD) (F : Nat → Prop) (k : Int) (h : CCU w v0 v1 v2 v3 v4 v5 v6 d F) (hk0 : 1 ≤ k) (hk : k + (spanCC d : Nat) ≤ 4294967296) :
    Calls Tryz.prog 16 #[.agg #[v0, v1, v2, v3, v4, v5, v6], .int .i64 k] w fun e w' => e = .returned (.int .i64 (k + (spanCC d : Nat))) ∧ CCU w' v0 v1 v2 v3 v4 v5 v6 (mkCC k d) F ∧ Chg F w w' := by
  obtain ⟨rfl, h⟩ := h
  exact (markCallResultU w d.1 v1 v2 v3 v4 v5 v6 d.2 F k h hk0 hk).mono fun e w' ⟨a, b, c⟩ => ⟨a, ⟨rfl, b⟩, c⟩
theorem heldCCU (w : World) (v0 v1 v2 v3 v4 v5 v6 : Value) (d : CCD) (F : Nat → Prop) (k : Int) (h : CCU w v0 v1 v2 v3 v4 v5 v6 (mkCC k d) F) (hk0 : 1 ≤ k) (hk : k + (spanCC d : Nat) ≤ 4294967296) :
    Calls Tryz.prog 18 #[.agg #[v0, v1, v2, v3, v4, v5, v6], .int .i64 k] w fun e w' => e = .returned (.int .i64 (k + (spanCC d : Nat))) ∧ Below w.heap.size w w' := by
  obtain ⟨rfl, h⟩ := h
  exact heldCallResultU w d.1 v1 v2 v3 v4 v5 v6 d.2 F k h hk0 hk
/-- An answer that is a world: what the call told, and the world. -/
abbrev WRD := CCD × WldD

def WrsR (w : World) (v1 v2 v3 v4 v5 v6 v7 v8 v9 v10 v11 v12 v13 : Value) (d : WRD) : Prop := CCR w v1 v2 v3 v4 v5 v6 v7 d.1 ∧ WldR w v8 v9 v10 v11 v12 v13 d.2
theorem WrsR.later {w w' : World} {v1 v2 v3 v4 v5 v6 v7 v8 v9 v10 v11 v12 v13 : Value} {d : WRD} (h : WrsR w v1 v2 v3 v4 v5 v6 v7 v8 v9 v10 v11 v12 v13 d) (hb : Below w.heap.size w w') : WrsR w' v1 v2 v3 v4 v5 v6 v7 v8 v9 v10 v11 v12 v13 d := ⟨h.1.later hb, h.2.later hb⟩
def WrsU (w : World) (v1 v2 v3 v4 v5 v6 v7 v8 v9 v10 v11 v12 v13 : Value) (d : WRD) (F : Nat → Prop) : Prop := ∃ F1 F2 : Nat → Prop, CCU w v1 v2 v3 v4 v5 v6 v7 d.1 F1 ∧ WldU w v8 v9 v10 v11 v12 v13 d.2 F2 ∧ (∀ b, F1 b → ¬ F2 b) ∧ ∀ b, F1 b ∨ F2 b → F b
theorem WrsU.reads {w : World} {v1 v2 v3 v4 v5 v6 v7 v8 v9 v10 v11 v12 v13 : Value} {d : WRD} {F : Nat → Prop} (h : WrsU w v1 v2 v3 v4 v5 v6 v7 v8 v9 v10 v11 v12 v13 d F) : WrsR w v1 v2 v3 v4 v5 v6 v7 v8 v9 v10 v11 v12 v13 d := by
  obtain ⟨F1, F2, h1, h2, d12, hf⟩ := h
  exact ⟨h1.reads, h2.reads⟩
theorem WrsU.keep {w w' : World} {v1 v2 v3 v4 v5 v6 v7 v8 v9 v10 v11 v12 v13 : Value} {d : WRD} {F : Nat → Prop} (h : WrsU w v1 v2 v3 v4 v5 v6 v7 v8 v9 v10 v11 v12 v13 d F) (e : ∀ b, F b → b < w.heap.size → w'.heap[b]? = w.heap[b]?) : WrsU w' v1 v2 v3 v4 v5 v6 v7 v8 v9 v10 v11 v12 v13 d F := by
  obtain ⟨F1, F2, h1, h2, d12, hf⟩ := h
  exact ⟨F1, F2, h1.keep fun b hb => e b (hf b (Or.inl hb)), h2.keep fun b hb => e b (hf b (Or.inr (hb))), d12, hf⟩
theorem WrsU.later {w w' : World} {v1 v2 v3 v4 v5 v6 v7 v8 v9 v10 v11 v12 v13 : Value} {d : WRD} {F : Nat → Prop} (h : WrsU w v1 v2 v3 v4 v5 v6 v7 v8 v9 v10 v11 v12 v13 d F) (hb : Below w.heap.size w w') : WrsU w' v1 v2 v3 v4 v5 v6 v7 v8 v9 v10 v11 v12 v13 d F := h.keep fun b _ hlt => hb.block b hlt
theorem WrsU.mono {w : World} {v1 v2 v3 v4 v5 v6 v7 v8 v9 v10 v11 v12 v13 : Value} {d : WRD} {F G : Nat → Prop} (h : WrsU w v1 v2 v3 v4 v5 v6 v7 v8 v9 v10 v11 v12 v13 d F) (e : ∀ b, F b → G b) : WrsU w v1 v2 v3 v4 v5 v6 v7 v8 v9 v10 v11 v12 v13 d G := by
  obtain ⟨F1, F2, h1, h2, d12, hf⟩ := h
  exact ⟨F1, F2, h1, h2, d12, fun b hb => e b (hf b hb)⟩
theorem WrsU.chg {w w' : World} {v1 v2 v3 v4 v5 v6 v7 v8 v9 v10 v11 v12 v13 : Value} {d : WRD} {F G : Nat → Prop} (h : WrsU w v1 v2 v3 v4 v5 v6 v7 v8 v9 v10 v11 v12 v13 d F) (hc : Chg G w w') (hd : ∀ b, F b → ¬ G b) : WrsU w' v1 v2 v3 v4 v5 v6 v7 v8 v9 v10 v11 v12 v13 d F := h.keep fun b hb hlt => hc.block b hlt (hd b hb)
theorem WrsU.boundU {w : World} {v1 v2 v3 v4 v5 v6 v7 v8 v9 v10 v11 v12 v13 : Value} {d : WRD} {F : Nat → Prop} (h : WrsU w v1 v2 v3 v4 v5 v6 v7 v8 v9 v10 v11 v12 v13 d F) : WrsU w v1 v2 v3 v4 v5 v6 v7 v8 v9 v10 v11 v12 v13 d (fun b => F b ∧ b < w.heap.size) := by
  obtain ⟨F1, F2, h1, h2, d12, hf⟩ := h
  refine ⟨_, _, h1.boundU, h2.boundU, fun b hb h => d12 b hb.1 h.1, fun b hb => ?_⟩
  rcases hb with hb | hb
  · exact ⟨hf b (Or.inl hb.1), hb.2⟩
  · exact ⟨hf b (Or.inr (hb.1)), hb.2⟩
def spanWrs (d : WRD) : Nat := spanCC d.1 + spanWld d.2
def mkWrs (k : Int) (d : WRD) : WRD := (mkCC (k) d.1, mkWld (k + (spanCC d.1 : Nat)) d.2)
set_option maxHeartbeats 3200000 in
theorem eqWorldResultU (w : World) (c : Int) (v1 v2 v3 v4 v5 v6 v7 v8 v9 v10 v11 v12 v13 v1' v2' v3' v4' v5' v6' v7' v8' v9' v10' v11' v12' v13' : Value) (d : WRD) (h : WrsR w v1 v2 v3 v4 v5 v6 v7 v8 v9 v10 v11 v12 v13 d) (h' : WrsR w v1' v2' v3' v4' v5' v6' v7' v8' v9' v10' v11' v12' v13' d) :
    Calls Tryz.prog 6 #[.agg #[.int .i64 c, v1, v2, v3, v4, v5, v6, v7, v8, v9, v10, v11, v12, v13], .agg #[.int .i64 c, v1', v2', v3', v4', v5', v6', v7', v8', v9', v10', v11', v12', v13']] w fun e w' => e = .returned (.bool true) ∧ Below w.heap.size w w' := by
  have H1 : Hid (CCR w v1 v2 v3 v4 v5 v6 v7 d.1) := h.1
  have H1' : Hid (CCR w v1' v2' v3' v4' v5' v6' v7' d.1) := h'.1
  have H2 : Hid (WldR w v8 v9 v10 v11 v12 v13 d.2) := h.2
  have H2' : Hid (WldR w v8' v9' v10' v11' v12' v13' d.2) := h'.2
  clear h h'
  have e0 : (c != c) = false := by simp
  have HX : Hid (Bx ((w.alloc (.cells #[.int .i64 c, v1, v2, v3, v4, v5, v6, v7, v8, v9, v10, v11, v12, v13] 37)).alloc (.cells #[.int .i64 c, v1', v2', v3', v4', v5', v6', v7', v8', v9', v10', v11', v12', v13'] 37)) w.heap.size [.int .i64 c, v1, v2, v3, v4, v5, v6, v7, v8, v9, v10, v11, v12, v13]) := (Bx.new w [.int .i64 c, v1, v2, v3, v4, v5, v6, v7, v8, v9, v10, v11, v12, v13] _).later (later1 _ _)
  have HY : Hid (Bx ((w.alloc (.cells #[.int .i64 c, v1, v2, v3, v4, v5, v6, v7, v8, v9, v10, v11, v12, v13] 37)).alloc (.cells #[.int .i64 c, v1', v2', v3', v4', v5', v6', v7', v8', v9', v10', v11', v12', v13'] 37)) (w.heap.size + 1) [.int .i64 c, v1', v2', v3', v4', v5', v6', v7', v8', v9', v10', v11', v12', v13']) := by
    have := Bx.new (w.alloc (.cells #[.int .i64 c, v1, v2, v3, v4, v5, v6, v7, v8, v9, v10, v11, v12, v13] 37)) [.int .i64 c, v1', v2', v3', v4', v5', v6', v7', v8', v9', v10', v11', v12', v13'] 37
    rw [World.size_alloc] at this
    exact this
  have HB0 : Hid (Below w.heap.size w ((w.alloc (.cells #[.int .i64 c, v1, v2, v3, v4, v5, v6, v7, v8, v9, v10, v11, v12, v13] 37)).alloc (.cells #[.int .i64 c, v1', v2', v3', v4', v5', v6', v7', v8', v9', v10', v11', v12', v13'] 37))) := later2 _ _ _
  go_enter Tryz.func6, Tryz.ntmps6
  go_wp2_with fail
  generalize ((w.alloc (.cells #[.int .i64 c, v1, v2, v3, v4, v5, v6, v7, v8, v9, v10, v11, v12, v13] 37)).alloc (.cells #[.int .i64 c, v1', v2', v3', v4', v5', v6', v7', v8', v9', v10', v11', v12', v13'] 37)) = W0 at *
  refine (eqCCU _ _ _ _ _ _ _ _ _ _ _ _ _ _ _ (d.1) (H1.out.later HB0.out) (H1'.out.later HB0.out)).mono ?_
  rintro e w1 ⟨rfl, hb1⟩
  have HB1 : Hid (Below w.heap.size w w1) := HB0.out.trans (hb1.mono HB0.out.size)
  have HX1 : Hid (Bx w1 w.heap.size [.int .i64 c, v1, v2, v3, v4, v5, v6, v7, v8, v9, v10, v11, v12, v13]) := HX.out.later hb1
  have HY1 : Hid (Bx w1 (w.heap.size + 1) [.int .i64 c, v1', v2', v3', v4', v5', v6', v7', v8', v9', v10', v11', v12', v13']) := HY.out.later hb1
  clear hb1
  have x8 := HX1.out 8 _ rfl
  have y8 := HY1.out 8 _ rfl
  have x9 := HX1.out 9 _ rfl
  have y9 := HY1.out 9 _ rfl
  have x10 := HX1.out 10 _ rfl
  have y10 := HY1.out 10 _ rfl
  have x11 := HX1.out 11 _ rfl
  have y11 := HY1.out 11 _ rfl
  have x12 := HX1.out 12 _ rfl
  have y12 := HY1.out 12 _ rfl
  have x13 := HX1.out 13 _ rfl
  have y13 := HY1.out 13 _ rfl
  go_wp2_with fail
  clear x8 y8 x9 y9 x10 y10 x11 y11 x12 y12 x13 y13
  refine (eqWorldU _ _ _ _ _ _ _ _ _ _ _ _ _ (d.2) (H2.out.later HB1.out) (H2'.out.later HB1.out)).mono ?_
  rintro e w2 ⟨rfl, hb2⟩
  have HB2 : Hid (Below w.heap.size w w2) := HB1.out.trans (hb2.mono HB1.out.size)
  clear hb2
  go_wp2
  go_ret
  exact ⟨rfl, HB2.out⟩
set_option maxHeartbeats 3200000 in
theorem markWorldResultU (w : World) (c : Int) (v1 v2 v3 v4 v5 v6 v7 v8 v9 v10 v11 v12 v13 : Value) (d : WRD) (F : Nat → Prop) (k : Int) (h : WrsU w v1 v2 v3 v4 v5 v6 v7 v8 v9 v10 v11 v12 v13 d F) (hk0 : 1 ≤ k) (hk : k + (spanWrs d : Nat) ≤ 4294967296) :
    Calls Tryz.prog 7 #[.agg #[.int .i64 c, v1, v2, v3, v4, v5, v6, v7, v8, v9, v10, v11, v12, v13], .int .i64 k] w fun e w' => e = .returned (.int .i64 (k + (spanWrs d : Nat))) ∧ WrsU w' v1 v2 v3 v4 v5 v6 v7 v8 v9 v10 v11 v12 v13 (mkWrs k d) F ∧ Chg F w w' := by
  obtain ⟨F1, F2, h1, h2, d12, hf⟩ := h
  have HF : Hid (∀ b, F1 b ∨ F2 b → F b) := hf
  have HMK : Hid (mkWrs k d = (mkCC (k) d.1, mkWld (k + (spanCC d.1 : Nat)) d.2)) := rfl
  have H1 : Hid (CCU w v1 v2 v3 v4 v5 v6 v7 d.1 F1) := h1
  have H2 : Hid (WldU w v8 v9 v10 v11 v12 v13 d.2 F2) := h2
  have HD12 : Hid (∀ b, F1 b → ¬ F2 b) := d12
  have HE : Hid (k + (spanWrs d : Nat) = k + (spanCC d.1 : Nat) + (spanWld d.2 : Nat)) := by unfold Hid spanWrs; omega
  have hk2 : k + (spanCC d.1 : Nat) + (spanWld d.2 : Nat) ≤ 4294967296 := by rw [← HE.out]; exact hk
  rw [HE.out, HMK.out]
  clear h1 h2 d12 hf hk HE HMK
  obtain ⟨k1, hk1'⟩ : ∃ k1, k + (spanCC d.1 : Nat) = k1 := ⟨_, rfl⟩
  obtain ⟨k2, hk2'⟩ : ∃ k2, k1 + (spanWld d.2 : Nat) = k2 := ⟨_, rfl⟩
  have HQ1 : Hid (k + ((spanCC d.1 : Nat) : Int) = k1) := hk1'
  have HQ2 : Hid (k1 + ((spanWld d.2 : Nat) : Int) = k2) := hk2'
  have L1 : Hid (1 ≤ k ∧ k + (spanCC d.1 : Nat) ≤ 4294967296) := by unfold Hid; omega
  have L2 : Hid (1 ≤ k1 ∧ k1 + (spanWld d.2 : Nat) ≤ 4294967296) := by unfold Hid; omega
  rw [hk1']
  rw [hk2']
  clear hk0 hk2 hk1' hk2'
  have HX0 : Hid (OwnRow (w.alloc (.cells #[.int .i64 c, v1, v2, v3, v4, v5, v6, v7, v8, v9, v10, v11, v12, v13] 37)) w.heap.size 14 (cel [.int .i64 c, v1, v2, v3, v4, v5, v6, v7, v8, v9, v10, v11, v12, v13])) := newCel w [.int .i64 c, v1, v2, v3, v4, v5, v6, v7, v8, v9, v10, v11, v12, v13] _
  have HB0 : Hid (Below w.heap.size w (w.alloc (.cells #[.int .i64 c, v1, v2, v3, v4, v5, v6, v7, v8, v9, v10, v11, v12, v13] 37))) := later1 _ _
  have H10 : Hid (CCU (w.alloc (.cells #[.int .i64 c, v1, v2, v3, v4, v5, v6, v7, v8, v9, v10, v11, v12, v13] 37)) v1 v2 v3 v4 v5 v6 v7 d.1 (fun b => F1 b ∧ b < w.heap.size)) := H1.out.boundU.later HB0.out
  have H20 : Hid (WldU (w.alloc (.cells #[.int .i64 c, v1, v2, v3, v4, v5, v6, v7, v8, v9, v10, v11, v12, v13] 37)) v8 v9 v10 v11 v12 v13 d.2 (fun b => F2 b ∧ b < w.heap.size)) := H2.out.boundU.later HB0.out
  go_enter Tryz.func7, Tryz.ntmps7
  go_wp2_with fail
  generalize (w.alloc (.cells #[.int .i64 c, v1, v2, v3, v4, v5, v6, v7, v8, v9, v10, v11, v12, v13] 37)) = W0 at *
  refine (markCCU _ _ _ _ _ _ _ _ (d.1) _ k H10.out L1.out.1 L1.out.2).mono ?_
  rw [HQ1.out]
  rintro e w1 ⟨rfl, hm, hc⟩
  have HC1 : Hid (Chg (fun b => F1 b ∧ b < w.heap.size) W0 w1) := hc
  have M11 : Hid (CCU w1 v1 v2 v3 v4 v5 v6 v7 (mkCC k d.1) (fun b => F1 b ∧ b < w.heap.size)) := hm
  have H21 : Hid (WldU w1 v8 v9 v10 v11 v12 v13 d.2 (fun b => F2 b ∧ b < w.heap.size)) := H20.out.chg hc fun b hb h => HD12.out b h.1 hb.1
  have HX1 : Hid (OwnRow w1 w.heap.size 14 (cel [.int .i64 c, v1, v2, v3, v4, v5, v6, v7, v8, v9, v10, v11, v12, v13])) := HX0.out.block (hc.block _ HX0.out.lt (fun h => by omega))
  clear hm hc
  have x8 : w1.cell? ⟨w.heap.size, 8, none⟩ = some v8 := HX1.out.cell (i := 8) (by omega)
  have x9 : w1.cell? ⟨w.heap.size, 9, none⟩ = some v9 := HX1.out.cell (i := 9) (by omega)
  have x10 : w1.cell? ⟨w.heap.size, 10, none⟩ = some v10 := HX1.out.cell (i := 10) (by omega)
  have x11 : w1.cell? ⟨w.heap.size, 11, none⟩ = some v11 := HX1.out.cell (i := 11) (by omega)
  have x12 : w1.cell? ⟨w.heap.size, 12, none⟩ = some v12 := HX1.out.cell (i := 12) (by omega)
  have x13 : w1.cell? ⟨w.heap.size, 13, none⟩ = some v13 := HX1.out.cell (i := 13) (by omega)
  go_wp2_with fail
  clear x8 x9 x10 x11 x12 x13
  refine (markWorldU _ _ _ _ _ _ _ (d.2) _ k1 H21.out L2.out.1 L2.out.2).mono ?_
  rw [HQ2.out]
  rintro e w2 ⟨rfl, hm, hc⟩
  have HC2 : Hid (Chg (fun b => F2 b ∧ b < w.heap.size) w1 w2) := hc
  have M22 : Hid (WldU w2 v8 v9 v10 v11 v12 v13 (mkWld k1 d.2) (fun b => F2 b ∧ b < w.heap.size)) := hm
  have M12 : Hid (CCU w2 v1 v2 v3 v4 v5 v6 v7 (mkCC k d.1) (fun b => F1 b ∧ b < w.heap.size)) := M11.out.chg hc fun b hb h => HD12.out b hb.1 h.1
  clear hm hc
  go_wp2
  go_ret
  refine ⟨rfl, ⟨_, _, M12.out, M22.out, fun b hb h => HD12.out b hb.1 h.1, fun b hb => ?_⟩, (Chg.of_below HB0.out).trans ((HC1.out.mono fun b hb => HF.out b (Or.inl hb.1)).trans (HC2.out.mono fun b hb => HF.out b (Or.inr (hb.1))))⟩
  rcases hb with hb | hb
  · exact HF.out b (Or.inl hb.1)
  · exact HF.out b (Or.inr (hb.1))
set_option maxHeartbeats 3200000 in
theorem heldWorldResultU (w : World) (c : Int) (v1 v2 v3 v4 v5 v6 v7 v8 v9 v10 v11 v12 v13 : Value) (d : WRD) (F : Nat → Prop) (k : Int) (h : WrsU w v1 v2 v3 v4 v5 v6 v7 v8 v9 v10 v11 v12 v13 (mkWrs k d) F) (hk0 : 1 ≤ k) (hk : k + (spanWrs d : Nat) ≤ 4294967296) :
    Calls Tryz.prog 8 #[.agg #[.int .i64 c, v1, v2, v3, v4, v5, v6, v7, v8, v9, v10, v11, v12, v13], .int .i64 k] w fun e w' => e = .returned (.int .i64 (k + (spanWrs d : Nat))) ∧ Below w.heap.size w w' := by
  have HMK : Hid (mkWrs k d = (mkCC (k) d.1, mkWld (k + (spanCC d.1 : Nat)) d.2)) := rfl
  rw [HMK.out] at h
  obtain ⟨F1, F2, h1, h2, d12, hf⟩ := h
  dsimp only at h1 h2
  have H1 : Hid (CCU w v1 v2 v3 v4 v5 v6 v7 (mkCC (k) d.1) F1) := h1
  have H2 : Hid (WldU w v8 v9 v10 v11 v12 v13 (mkWld (k + (spanCC d.1 : Nat)) d.2) F2) := h2
  have HE : Hid (k + (spanWrs d : Nat) = k + (spanCC d.1 : Nat) + (spanWld d.2 : Nat)) := by unfold Hid spanWrs; omega
  have hk2 : k + (spanCC d.1 : Nat) + (spanWld d.2 : Nat) ≤ 4294967296 := by rw [← HE.out]; exact hk
  rw [HE.out]
  clear h1 h2 d12 hf hk HE HMK
  obtain ⟨k1, hk1'⟩ : ∃ k1, k + (spanCC d.1 : Nat) = k1 := ⟨_, rfl⟩
  obtain ⟨k2, hk2'⟩ : ∃ k2, k1 + (spanWld d.2 : Nat) = k2 := ⟨_, rfl⟩
  have HQ1 : Hid (k + ((spanCC d.1 : Nat) : Int) = k1) := hk1'
  have HQ2 : Hid (k1 + ((spanWld d.2 : Nat) : Int) = k2) := hk2'
  have L1 : Hid (1 ≤ k ∧ k + (spanCC d.1 : Nat) ≤ 4294967296) := by unfold Hid; omega
  have L2 : Hid (1 ≤ k1 ∧ k1 + (spanWld d.2 : Nat) ≤ 4294967296) := by unfold Hid; omega
  have n1 : ¬ k1 < 0 := by omega
  have n2 : ¬ k2 < 0 := by omega
  rw [hk1']
  rw [hk1'] at H2
  rw [hk2']
  clear hk0 hk2 hk1' hk2'
  have HX : Hid (Bx (w.alloc (.cells #[.int .i64 c, v1, v2, v3, v4, v5, v6, v7, v8, v9, v10, v11, v12, v13] 37)) w.heap.size [.int .i64 c, v1, v2, v3, v4, v5, v6, v7, v8, v9, v10, v11, v12, v13]) := Bx.new w [.int .i64 c, v1, v2, v3, v4, v5, v6, v7, v8, v9, v10, v11, v12, v13] _
  have HB0 : Hid (Below w.heap.size w (w.alloc (.cells #[.int .i64 c, v1, v2, v3, v4, v5, v6, v7, v8, v9, v10, v11, v12, v13] 37))) := later1 _ _
  go_enter Tryz.func8, Tryz.ntmps8
  go_wp2_with fail
  generalize (w.alloc (.cells #[.int .i64 c, v1, v2, v3, v4, v5, v6, v7, v8, v9, v10, v11, v12, v13] 37)) = W0 at *
  refine (heldCCU _ _ _ _ _ _ _ _ (d.1) _ k (H1.out.later HB0.out) L1.out.1 L1.out.2).mono ?_
  rw [HQ1.out]
  rintro e w1 ⟨rfl, hb1⟩
  have HB1 : Hid (Below w.heap.size w w1) := HB0.out.trans (hb1.mono HB0.out.size)
  have HX1 : Hid (Bx w1 w.heap.size [.int .i64 c, v1, v2, v3, v4, v5, v6, v7, v8, v9, v10, v11, v12, v13]) := HX.out.later hb1
  clear hb1
  have x8 := HX1.out 8 _ rfl
  have x9 := HX1.out 9 _ rfl
  have x10 := HX1.out 10 _ rfl
  have x11 := HX1.out 11 _ rfl
  have x12 := HX1.out 12 _ rfl
  have x13 := HX1.out 13 _ rfl
  go_wp2_with fail
  clear x8 x9 x10 x11 x12 x13
  refine (heldWorldU _ _ _ _ _ _ _ (d.2) _ k1 (H2.out.later HB1.out) L2.out.1 L2.out.2).mono ?_
  rw [HQ2.out]
  rintro e w2 ⟨rfl, hb2⟩
  have HB2 : Hid (Below w.heap.size w w2) := HB1.out.trans (hb2.mono HB1.out.size)
  clear hb2
  go_wp2
  go_ret
  exact ⟨rfl, HB2.out⟩

end Go.Proofs.YtlacppjlclfpmaaGreat

namespace Go.Proofs.YtlacppjlclfpmaaGreat
open Go.RowKit
set_option maxRecDepth 100000

/-- A row of n elements that the call owns; element i is told by C i (u i), where u i is a list of its own in block k i. -/
structure YRow (C : Nat → Value → List Value) (w : World) (base lo : Nat) (e : TypeId) (size : Nat) (v : Value) (n : Nat) (f : Nat → List UInt8) (k : Nat → Nat) (u : Nat → Value) : Prop where
  own : w.ownsRow base e size v n ((List.range n).flatMap fun i => C i (u i))
  lo : ∀ i, i < n → lo ≤ k i ∧ k i < w.heap.size
  ne : ∀ i, i < n → v.ownBlock ≠ some (k i)
  inj : ∀ i j, i < n → j < n → i ≠ j → k i ≠ k j
  sh : ∀ i, i < n → ∃ a c, u i = .slice a (f i).length c
  at' : ∀ i, i < n → BytO w (u i) (f i) (fun c => c = k i)

theorem YRow.nil {C : Nat → Value → List Value} (w : World) (base lo : Nat) (e : TypeId) (size : Nat) (f : Nat → List UInt8) : YRow C w base lo e size (.slice none 0 0) 0 f (fun _ => 0) (fun _ => .slice none 0 0) :=
  ⟨World.ownsRow_nil _ _ _ _, fun i hi => by omega, fun i hi => by omega, fun i j hi => by omega, fun i hi => by omega, fun i hi => by omega⟩
theorem YRow.keep {C : Nat → Value → List Value} {w w' : World} {base lo : Nat} {e : TypeId} {size : Nat} {v : Value} {n : Nat} {f : Nat → List UInt8} {k : Nat → Nat} {u : Nat → Value} (h : YRow C w base lo e size v n f k u) (hs : w.heap.size ≤ w'.heap.size)
    (hrow : ∀ g, v.ownBlock = some g → w'.heap[g]? = w.heap[g]?) (hk : ∀ i, i < n → w'.heap[k i]? = w.heap[k i]?) : YRow C w' base lo e size v n f k u := by
  refine ⟨?_, fun i hi => ⟨(h.lo i hi).1, Nat.lt_of_lt_of_le (h.lo i hi).2 hs⟩, h.ne, h.inj, h.sh, fun i hi => (h.at' i hi).keep fun b hb _ => by rw [hb]; exact hk i hi⟩
  obtain ⟨h1, h2⟩ := h.own
  refine ⟨h1, ?_⟩
  rcases h2 with h2 | ⟨g, cap, cur, hv, hg, hh, r⟩
  · exact Or.inl h2
  · exact Or.inr ⟨g, cap, cur, hv, hg, by rw [hrow g (by rw [hv]; rfl)]; exact hh, r⟩
theorem YRow.later {C : Nat → Value → List Value} {w w' : World} {base lo : Nat} {e : TypeId} {size : Nat} {v : Value} {n : Nat} {f : Nat → List UInt8} {k : Nat → Nat} {u : Nat → Value} (h : YRow C w base lo e size v n f k u) (hb : Below w.heap.size w w') : YRow C w' base lo e size v n f k u :=
  h.keep hb.size (fun g hg => hb.block g (h.own.lt g hg).2) (fun i hi => hb.block _ (h.lo i hi).2)
theorem YRow.store {C : Nat → Value → List Value} {w : World} {base lo : Nat} {e : TypeId} {size : Nat} {v : Value} {n : Nat} {f : Nat → List UInt8} {k : Nat → Nat} {u : Nat → Value} (h : YRow C w base lo e size v n f k u) {p : Addr} (h1 : p.block < base) (h2 : p.block < lo) (x : Value) : YRow C (w.setCell p x) base lo e size v n f k u :=
  h.keep (by simp [World.setCell]) (fun g hg => Below.heap_setCell _ _ _ _ (by have := (h.own.lt g hg).1; omega)) (fun i hi => Below.heap_setCell _ _ _ _ (by have := (h.lo i hi).1; omega))
theorem YRow.shape {C : Nat → Value → List Value} {w : World} {base lo : Nat} {e : TypeId} {size : Nat} {v : Value} {n : Nat} {f : Nat → List UInt8} {k : Nat → Nat} {u : Nat → Value} (h : YRow C w base lo e size v n f k u) : ∃ a c, v = .slice a n c := by
  rcases h.own.2 with ⟨rfl, rfl⟩ | ⟨g, c, cur, rfl, _⟩
  · exact ⟨_, _, rfl⟩
  · exact ⟨_, _, rfl⟩

/-- What 'append' of one element comes to. -/
theorem YRow.append {C : Nat → Value → List Value} (w w1 : World) (t ty e : TypeId) (i : TypeInfo) (z : Value) (size bytes : Nat) (ht : Tryz.prog.underlying t = some (.slice e)) (hi : Tryz.prog.info? e = some i) (hz : i.zero = some z) (hsize : i.size = size) (hby : i.bytes = bytes) (hzs : z.cells.size = size) (hsz : 0 < size) (hbb : bytes ≤ 1000)
    (base lo n : Nat) (v : Value) (f : Nat → List UInt8) (k : Nat → Nat) (u : Nat → Value) (h : YRow C w base lo e size v n f k u) (hb : base ≤ w.heap.size) (hn : n ≤ 1048600) (hb1 : Below w.heap.size w w1)
    (a : Option Addr) (c : Nat) (hlen : (C n (.slice a (f n).length c)).length = size) (hone : ∀ x ∈ C n (.slice a (f n).length c), x.oneCell' = true) (kb : Nat) (hk1 : lo ≤ kb) (hk2 : kb ≤ w1.heap.size) (hk3 : v.ownBlock ≠ some kb) (hk4 : ∀ i, i < n → k i ≠ kb) (hf : BytO w1 (.slice a (f n).length c) (f n) (fun x => x = kb)) :
    ∃ g cap X, (Builtin.append_ #[t, t] ty #[v, .slice (some ⟨w1.heap.size, 0, none⟩) 1 1]).run Tryz.prog (w1.alloc (.cells (C n (.slice a (f n).length c)).toArray e)) = .ok (.slice (some ⟨g, 0, none⟩) (n + 1) cap) X ∧
      (∀ b, b < w1.heap.size → v.ownBlock ≠ some b → X.heap[b]? = w1.heap[b]?) ∧ Below base w X ∧ w1.heap.size < X.heap.size ∧
      YRow C X base lo e size (.slice (some ⟨g, 0, none⟩) (n + 1) cap) (n + 1) f (fun j => if j = n then kb else k j) (fun j => if j = n then .slice a (f n).length c else u j) := by
  have hsz1 := hb1.size
  have hbW : Below w.heap.size w (w1.alloc (.cells (C n (.slice a (f n).length c)).toArray e)) := hb1.trans ((later1 _ _).mono hb1.size)
  have hW := h.later hbW
  obtain ⟨g, cap, X, hr, ho, hg, hat, hgX⟩ := run_append_lies (P := Tryz.prog) (w1.alloc (.cells (C n (.slice a (f n).length c)).toArray e)) t ty base e i z size bytes ht hi hz hsize hby hzs hsz v n _ hW.own ⟨w1.heap.size, 0, none⟩ 1 1 (C n (.slice a (f n).length c)) (by rw [hlen, Nat.one_mul])
    (fun j x hx => by
      rw [add_plain', Nat.zero_add, new_cell]
      simpa using hx) hone (by decide) (by unfold maxLen; omega) (by have : (n + 1) * bytes ≤ 1048601 * 1000 := Nat.mul_le_mul (by omega) hbb; omega) (by simp; omega) (w1.heap.size + 1) (by simp)
  have hrow : ∀ g, v.ownBlock = some g → g < w.heap.size := fun g hg => (h.own.lt g hg).2
  have hrowb : ∀ g, v.ownBlock = some g → base ≤ g := fun g hg => (h.own.lt g hg).1
  have hXb : ∀ b, b < w1.heap.size → v.ownBlock ≠ some b → X.heap[b]? = w1.heap[b]? := fun b hb' hne => (hg.block b (by simp; omega) (fun e => hne e.symm)).trans ((later1 _ _).block b hb')
  have hne : ∀ b, b ≤ w1.heap.size → v.ownBlock ≠ some b → g ≠ b := by
    intro b hb' hb2 e
    subst e
    rcases hat with h | h
    · exact hb2 h
    · omega
  have old : ∀ b, b < w.heap.size → v.ownBlock ≠ some b → X.heap[b]? = w.heap[b]? := fun b hb' hne => (hXb b (by omega) hne).trans (hb1.block b hb')
  have hXs : w1.heap.size < X.heap.size := by have := hg.size; simp at this; omega
  refine ⟨g, cap, X, hr, hXb, (hbW.mono hb).trans (below_grown hg (by simp; omega) (fun g hg' => hrowb g hg')), hXs, ⟨?_, fun j hj => ?_, fun j hj => ?_, fun j j' hj hj' e => ?_, fun j hj => ?_, fun j hj => ?_⟩⟩
  · rw [List.range_succ, List.flatMap_append]
    have e1 : (List.range n).flatMap (fun i => C i (if i = n then .slice a (f n).length c else u i)) = (List.range n).flatMap (fun i => C i (u i)) := by
      have e0 : (List.range n).map (fun i => C i (if i = n then .slice a (f n).length c else u i)) = (List.range n).map (fun i => C i (u i)) := List.map_congr_left fun i hi => by rw [if_neg (by have := List.mem_range.1 hi; omega)]
      rw [List.flatMap_def, List.flatMap_def, e0]
    have e2 : [n].flatMap (fun i => C i (if i = n then .slice a (f n).length c else u i)) = C n (.slice a (f n).length c) := by simp only [List.flatMap_cons, List.flatMap_nil, List.append_nil, if_true]
    rw [e1, e2]
    exact ho
  · by_cases e : j = n
    · subst e; simp; omega
    · have := h.lo j (by omega); simp [e]; omega
  · by_cases e : j = n
    · subst e
      simp only [if_true]
      exact fun e => hne kb hk2 hk3 (by simpa [Value.ownBlock] using e)
    · have hj' : j < n := by omega
      have hl := h.lo j hj'
      simp only [e, if_false]
      exact fun e => hne (k j) (by omega) (h.ne j hj') (by simpa [Value.ownBlock] using e)
  · by_cases e1 : j = n
    · by_cases e2 : j' = n
      · omega
      · simp [e1, e2]; exact fun e => hk4 j' (by omega) e.symm
    · by_cases e2 : j' = n
      · simp [e1, e2]; exact hk4 j (by omega)
      · simp [e1, e2]; exact h.inj j j' (by omega) (by omega) e
  · by_cases e : j = n
    · subst e; exact ⟨a, c, by simp⟩
    · simp only [e, if_false]; exact h.sh j (by omega)
  · by_cases e : j = n
    · subst e
      simp only [if_true]
      exact hf.keep fun b hb' hlt' => by subst hb'; exact hXb _ hlt' hk3
    · have hj' : j < n := by omega
      simp only [e, if_false]
      exact (h.at' j hj').keep fun b hb' hlt' => by rw [hb']; exact old _ (h.lo j hj').2 (h.ne j hj')

/-- The one block of a list that is fresh. -/
theorem BytO.one {w w1 : World} {v : Value} {zs : List UInt8} (h : BytO w1 v zs (fresh w w1)) (hlt : w.heap.size < w1.heap.size) : ∃ kb, w.heap.size ≤ kb ∧ kb < w1.heap.size ∧ BytO w1 v zs (fun c => c = kb) := by
  rcases h with h | ⟨b, cap, hF, r⟩
  · exact ⟨w.heap.size, Nat.le_refl _, hlt, Or.inl h⟩
  · exact ⟨b, hF.1, hF.2, Or.inr ⟨b, cap, rfl, r⟩⟩

/-- The cells of such a row. -/
theorem YRow.cells {C : Nat → Value → List Value} {w : World} {base lo : Nat} {e : TypeId} {size : Nat} {v : Value} {n : Nat} {f : Nat → List UInt8} {k : Nat → Nat} {u : Nat → Value} (h : YRow C w base lo e size v n f k u) (hsz : 0 < size) (hC : ∀ i, (C i (u i)).length = size) (hn : 0 < n) :
    ∃ g cap, v = .slice (some ⟨g, 0, none⟩) n cap ∧ base ≤ g ∧ g < w.heap.size ∧ n ≤ maxLen ∧ n ≤ cap ∧ OwnRow w g (n * size) (fun c => (C (c / size) (u (c / size)))[c % size]?.getD undef) := by
  obtain ⟨hl, h2 | ⟨g, cap, cur, rfl, hb, hh, hnc, hcm, hcs, htake⟩⟩ := h.own
  · omega
  · have hle : n * size ≤ cap * size := Nat.mul_le_mul_right _ hnc
    refine ⟨g, cap, rfl, hb, (Array.getElem?_eq_some_iff.1 hh).1, by omega, hnc, cur, e, hh, by omega, fun c hc => ?_⟩
    have hd : c / size < n := by rw [Nat.div_lt_iff_lt_mul hsz]; exact hc
    have hm : c % size < size := Nat.mod_lt _ hsz
    have hg := flat_get hsz u hC n (c / size) (c % size) hd hm
    rw [Nat.div_add_mod'] at hg
    have h1 : ((List.range n).flatMap fun i => C i (u i))[c]? = cur[c]? := by rw [← htake, List.getElem?_take, if_pos hc, Array.getElem?_toList]
    rw [h1] at hg
    have hlt : c < cur.size := by omega
    show cur[c]? = some ((C (c / size) (u (c / size)))[c % size]?.getD undef)
    rw [← hg, Array.getElem?_eq_getElem hlt]; rfl

theorem YRow.byts {w : World} {base lo : Nat} {e : TypeId} {v : Value} {n : Nat} {k : Nat → Nat} {u : Nat → Value} {zss : List (List UInt8)} (h : YRow C1 w base lo e 1 v n (fun i => zss[i]?.getD []) k u) (hn : zss.length = n) (F : Nat → Prop) (hF : ∀ c, base ≤ c → c < w.heap.size → F c) (hF' : ∀ c, lo ≤ c → c < w.heap.size → F c) : BytsO w v zss F := by
  subst hn
  by_cases h0 : zss.length = 0
  · obtain ⟨a, c, rfl⟩ := h.shape
    exact Or.inl ⟨List.eq_nil_of_length_eq_zero h0, a, c, by rw [h0]⟩
  · obtain ⟨g, cap, rfl, hb, hg, hm, hnc, hrow⟩ := h.cells (by decide) (fun _ => rfl) (by omega)
    refine Or.inr ⟨g, cap, u, fun i c => i < zss.length ∧ c = k i, hF g hb hg, fun i c hc => ?_, fun i j c e h1 h2 => h.inj i j h1.1 h2.1 e (h1.2.symm.trans h2.2), rfl, ⟨hm, hnc⟩, ?_, fun i hi => (h.at' i hi).mono fun c hc => ⟨hi, hc⟩⟩
    · have hl := h.lo i hc.1
      have hne := h.ne i hc.1
      rw [hc.2]
      exact ⟨hF' _ hl.1 hl.2, fun e => hne (by simp [Value.ownBlock, e])⟩
    · rw [Nat.mul_one] at hrow
      exact hrow.congr fun i hi => by simp [C1, Nat.mod_one]
end Go.Proofs.YtlacppjlclfpmaaGreat

namespace Go.Proofs.YtlacppjlclfpmaaGreat
open Go.RowKit
set_option maxRecDepth 100000

theorem Tryz.sizeU8s : (Tryz.prog.info? 22).map (·.size) = some 1 := by kernel_rfl
theorem Tryz.infoU8s' : ∃ i, Tryz.prog.info? 22 = some i ∧ i.zero = some (.slice none 0 0) ∧ i.size = 1 ∧ i.bytes = 24 := by
  have h : (Tryz.prog.info? 22).map (fun i => (i.zero, i.size, i.bytes)) = some (some (.slice none 0 0), 1, 24) := Tryz.infoU8s
  rw [Option.map_eq_some_iff] at h
  obtain ⟨i, hi, e⟩ := h
  simp only [Prod.mk.injEq] at e
  exact ⟨i, hi, e.1, e.2.1, e.2.2⟩

/-- What 'copy' of slices into a list that was just made comes to. -/
theorem copyYs_made (w : World) (a : Option Addr) (n cap : Nat) (u : Nat → Value) (h1 : ∀ k, k < n → (u k).oneCell' = true) (hc : ∀ k, k < n → ∃ b off, a = some ⟨b, off, none⟩ ∧ w.cell? ⟨b, off + k, none⟩ = some (u k)) :
    ∃ X, (Builtin.copy_ #[25, 25] 3 #[.slice (some ⟨w.heap.size, 0, none⟩) n n, .slice a n cap]).run Tryz.prog (w.alloc (.cells (madeCells #[.slice none 0 0] n) 22)) = .ok (goInt n) X ∧
      Below w.heap.size w X ∧ OwnRow X w.heap.size n u := by
  by_cases h0 : n = 0
  · subst h0
    have hr := run_copy_none (P := Tryz.prog) (w.alloc (.cells (madeCells #[.slice none 0 0] 0) 22)) 25 25 3 22 (some ⟨w.heap.size, 0, none⟩) a 0 0 0 cap Tryz.underlying25 Tryz.sizeU8s (by simp)
    exact ⟨_, hr, later1 _ _, (OwnRow.made w (.slice none 0 0) 0 22).congr fun i hi => by omega⟩
  · obtain ⟨b, off, rfl, _⟩ := hc 0 (by omega)
    have hc' : ∀ k, k < n → w.cell? ⟨b, off + k, none⟩ = some (u k) := by
      intro k hk
      obtain ⟨b', off', e, h⟩ := hc k hk
      simp only [Option.some.injEq, Addr.mk.injEq, and_true] at e
      rw [e.1, e.2]; exact h
    have hcp := run_copy_row (P := Tryz.prog) (w.alloc (.cells (madeCells #[.slice none 0 0] n) 22)) 25 25 3 22 w.heap.size 0 n n ⟨b, off, none⟩ n cap (madeCells #[.slice none 0 0] n) 22 ((List.range n).map u) Tryz.underlying25 Tryz.sizeU8s
      (Go.Deep.blk_alloc_new _ _) (by simp) (fun j v hv => by
        rw [List.getElem?_map, Option.map_eq_some_iff] at hv
        obtain ⟨z, hz1, rfl⟩ := hv
        obtain ⟨hj, e⟩ := List.getElem?_eq_some_iff.1 hz1
        rw [List.length_range] at hj
        rw [List.getElem_range] at e
        subst e
        have ha : (⟨b, off, none⟩ : Addr).add j = ⟨b, off + j, none⟩ := by
          by_cases hj0 : j = 0
          · subst hj0; simp [Addr.add]
          · simp [Addr.add, hj0]
        rw [ha]
        exact cell_later (later1 _ _) (hc' j hj)) (by simp [size_madeCells]) (fun v hv => by
        obtain ⟨z, hz, rfl⟩ := List.mem_map.1 hv
        exact h1 z (List.mem_range.1 hz))
    refine ⟨_, by rw [hcp, List.length_map, List.length_range], below_setRow (later1 _ _) (Nat.le_refl _) _, ?_⟩
    refine ⟨_, 22, setRow_heap _ _ _ _ _ _ (Go.Deep.blk_alloc_new _ _), ?_, fun i hi => ?_⟩
    · simp
    · simp [List.getElem?_append_left, hi]
set_option maxHeartbeats 400000 in
theorem copyOfYs_any (w : World) (a : Option Addr) (n cap : Nat) (u : Nat → Value) (hn : n ≤ 1048576) (h1 : ∀ k, k < n → (u k).oneCell' = true) (hc : ∀ k, k < n → ∃ b off, a = some ⟨b, off, none⟩ ∧ w.cell? ⟨b, off + k, none⟩ = some (u k)) :
    Calls Tryz.prog 28 #[.slice a n cap] w fun e w' => e = .returned (.slice (some ⟨w.heap.size, 0, none⟩) n n) ∧ Below w.heap.size w w' ∧ OwnRow w' w.heap.size n u := by
  obtain ⟨X, hcp, hbX, hrX⟩ := copyYs_made w a n cap u h1 hc
  have hmk := fun w => run_make_row' (P := Tryz.prog) 25 22 (.slice none 0 0) 24 Tryz.underlying25 Tryz.infoU8s rfl .i64 .i64 n (by omega) (by omega) w
  have HB : Hid (Below w.heap.size w X) := hbX
  have HR : Hid (OwnRow X w.heap.size n u) := hrX
  clear hbX hrX hc h1
  go_enter Tryz.func28, Tryz.ntmps28
  go_wp2
  go_ret
  exact ⟨rfl, HB.out, HR.out⟩

/-- A full list made longer by m empty ones. -/
theorem append_zeros (w : World) (g n m : Nat) (u : Nat → Value) (hm : 0 < m) (hs : n + m ≤ 20) (hr : OwnRow w g n u) :
    ∃ cap X, (Builtin.append_ #[25, 3] 25 #[.slice (some ⟨g, 0, none⟩) n n, .int .i64 (m : Int)]).run Tryz.prog w = .ok (.slice (some ⟨w.heap.size, 0, none⟩) (n + m) cap) X ∧
      Below w.heap.size w X ∧ (n + m ≤ maxLen ∧ n + m ≤ cap) ∧ OwnRow X w.heap.size (n + m) (fun i => if i < n then u i else .slice none 0 0) := by
  obtain ⟨i, hi, hz, hsz, hby⟩ := Tryz.infoU8s'
  have hcap := grownCap_ge w (n + m) n 22
  have hfo := run_firstCells_some (P := Tryz.prog) w.drew i.size n ⟨g, 0, none⟩ n n ((List.range n).map u) (by simp [hsz]) (fun j v hv => by
    rw [List.getElem?_map, Option.map_eq_some_iff] at hv
    obtain ⟨z, hz1, rfl⟩ := hv
    obtain ⟨hj, e⟩ := List.getElem?_eq_some_iff.1 hz1
    rw [List.length_range] at hj
    rw [List.getElem_range] at e
    subst e
    have ha : (⟨g, 0, none⟩ : Addr).add j = ⟨g, j, none⟩ := by
      by_cases hj0 : j = 0
      · subst hj0; simp [Addr.add]
      · simp [Addr.add, hj0]
    rw [ha]
    simpa using hr.cell hj)
  have hn : ¬ (n + m ≤ n) := by omega
  have h63 : ¬ (9223372036854775807 < ((n : Int) + (m : Int))) := by omega
  have h48 : ¬ (281474976710656 < Builtin.nextslicecap (n + m) n * i.bytes) := by
    have := growslice_fits (need := n + m) (old := n) (bytes := i.bytes) (by omega) (by rw [hby]; omega)
    omega
  rw [hsz] at hfo
  rw [hby] at h48
  have hpos : ¬ m = 0 := by omega
  have hw : IntKind.i64.wrap (m : Int) = m := by rw [IntKind.wrap_i64]; omega
  have hneg : ¬ ((m : Int) < 0) := by omega
  have hmb : ¬ (281474976710656 < (m : Int) * 24) := by omega
  refine ⟨grownCap w (n + m) n 22, w.drew.alloc (.cells (((List.range n).map u).toArray ++ Builtin.zeroCells #[.slice none 0 0] m ++ Builtin.zeroCells #[.slice none 0 0] (grownCap w (n + m) n 22 - (n + m))) 22), ?_, ?_, ⟨by unfold maxLen; omega, hcap⟩, ?_⟩
  · simp [Builtin.append_, run_underlying Tryz.underlying25, run_underlying Tryz.underlying3, sizeOf, typeInfo, zeroValue, hi, hz, hsz, hby, asInt, asIntOf, hw, hneg, hmb, hn, hpos, h63, h48, Question.forced, hfo, newRow, grownCap]
    rfl
  · exact (Below.refl _ _).drew.trans (by simpa using later1 w.drew _)
  · refine ⟨_, _, by simpa using Go.Deep.blk_alloc_new w.drew _, ?_, fun k hk => ?_⟩
    · simp [size_zeroCells]
    · by_cases hkn : k < n
      · simp [hkn, Array.getElem?_append]
      · simp [hkn, Array.getElem?_append, Builtin.zeroCells]
        rw [if_pos (by omega), Array.getElem?_eq_getElem (by simp; omega)]
        simp [Nat.mod_one]
end Go.Proofs.YtlacppjlclfpmaaGreat

namespace Go.Proofs.YtlacppjlclfpmaaGreat
open Go.RowKit
set_option maxRecDepth 100000

theorem Arr.putNew (w : World) (g : Nat → Nat) : ∃ X, (Instr.storeAt 133 (.pointer (some ⟨w.heap.size, 0, none⟩)) (.agg (arrC g))).run Tryz.prog (w.alloc (.cells (arrC fun _ => 0) 133)) = .ok () X ∧ Arr X w.heap.size g ∧ Below w.heap.size w X := by
  obtain ⟨X, h1, h2, h3, h4, h5, h6, h7⟩ := (Arr.new w fun _ => 0).put g
  exact ⟨X, h1, h2, (later1 w (.cells (arrC fun _ => 0) 133)).trans ⟨h5, h6, h7, by omega, fun c hc => h4 c (by omega)⟩⟩

theorem busF_each {zs : List Int} (h : busF zs = 0) (k : Nat) (hk : k < zs.length) : 0 ≤ zs[k]?.getD 0 ∧ zs[k]?.getD 0 < 20 := by
  unfold busF at h
  split at h
  · omega
  · have := fstNZ_inv h k hk
    unfold rngF at this
    split at this <;> omega
theorem busF_len {zs : List Int} (h : busF zs = 0) : zs.length ≤ 20 := by
  unfold busF at h
  split at h <;> omega
theorem cntB_le (ds : List ID) (hs : sizeInos ds ≤ 1048576) (v : Int) : cntB ds v ≤ 1048576 := by
  have h2 := allB_len ds
  have h3 := List.count_le_length (a := v) (l := allB ds)
  unfold sizeInos at hs
  unfold cntB
  omega
theorem manyB_once (ds : List ID) : manyB (fun i => cntB ds (i : Int)) = !onceB ds 20 := by
  unfold manyB onceB
  rw [List.not_all_eq_any_not]
  congr 1
  funext k
  simp only [← decide_not]
  rw [decide_eq_decide]
  omega
theorem freeP_eq (ds : List ID) (bs : List Int) : (fun k : Nat => decide (cntB ds (k : Int) + bs.count (k : Int) = 0)) = freeP ds bs := by
  funext k
  unfold freeP
  cases hb : bs.contains (k : Int) with
  | true =>
    have h1 : (k : Int) ∈ bs := by simpa using hb
    have h2 := List.count_pos_iff.2 h1
    simp; omega
  | false =>
    have h1 : ¬ (k : Int) ∈ bs := by simpa using hb
    have h2 := List.count_eq_zero.2 h1
    rw [h2]; simp

end Go.Proofs.YtlacppjlclfpmaaGreat
