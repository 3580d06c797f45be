
/- Answers with a kern: how they read, what they own, and the walks of the laws' functions over them. -/
import Derived.Test.YtojegkekafampahKrnA
namespace Go.Proofs.Ytojegkekafampah
open Go.RowKit
set_option maxRecDepth 100000

abbrev KResD := List Int × KD
def KResR (w : World) (vW vB vC vE : Value) (d : KResD) : Prop := Ints w vW d.1 ∧ KernR w vB vC vE d.2
theorem KResR.later {w w' : World} {vW vB vC vE : Value} {d : KResD} (h : KResR w vW vB vC vE d) (hb : Below w.heap.size w w') : KResR w' vW vB vC vE d := ⟨h.1.later hb, h.2.later hb⟩
def KResU (w : World) (vW vB vC vE : Value) (d : KResD) (F : Nat → Prop) : Prop := ∃ F1 G1 : Nat → Prop, IntsO w vW d.1 F1 ∧ KernU w vB vC vE d.2 G1 ∧ (∀ b, F1 b → ¬ G1 b) ∧ ∀ b, F1 b ∨ G1 b → F b
theorem KResU.reads {w : World} {vW vB vC vE : Value} {d : KResD} {F : Nat → Prop} (h : KResU w vW vB vC vE d F) : KResR w vW vB vC vE d := by
  obtain ⟨_, _, h1, h2, _⟩ := h
  exact ⟨h1.reads, h2.reads⟩
theorem KResU.keep {w w' : World} {vW vB vC vE : Value} {d : KResD} {F : Nat → Prop} (h : KResU w vW vB vC vE d F) (e : ∀ b, F b → b < w.heap.size → w'.heap[b]? = w.heap[b]?) : KResU w' vW vB vC vE d F := by
  obtain ⟨F1, G1, h1, h2, hd, hf⟩ := h
  exact ⟨F1, G1, h1.keep fun b hb => e b (hf b (Or.inl hb)), h2.keep fun b hb => e b (hf b (Or.inr hb)), hd, hf⟩
theorem KResU.later {w w' : World} {vW vB vC vE : Value} {d : KResD} {F : Nat → Prop} (h : KResU w vW vB vC vE d F) (hb : Below w.heap.size w w') : KResU w' vW vB vC vE d F := h.keep fun b _ hlt => hb.block b hlt
theorem KResU.mono {w : World} {vW vB vC vE : Value} {d : KResD} {F G : Nat → Prop} (h : KResU w vW vB vC vE d F) (e : ∀ b, F b → G b) : KResU w vW vB vC vE d G := by
  obtain ⟨F1, G1, h1, h2, hd, hf⟩ := h
  exact ⟨F1, G1, h1, h2, hd, fun b hb => e b (hf b hb)⟩
theorem KResU.chg {w w' : World} {vW vB vC vE : Value} {d : KResD} {F G : Nat → Prop} (h : KResU w vW vB vC vE d F) (hc : Chg G w w') (hd : ∀ b, F b → ¬ G b) : KResU w' vW vB vC vE d F := h.keep fun b hb hlt => hc.block b hlt (hd b hb)

/-- An answer: a code, words and a kern, in new memory of its own. -/
def AnsKR (w : World) (r : Int × KResD) (e : Ending) (w' : World) : Prop := ∃ aW nW cW aB nB cB aC nC cC aE nE cE, e = .returned (.agg #[.int .i64 r.1, .slice aW nW cW, .slice aB nB cB, .slice aC nC cC, .slice aE nE cE]) ∧ Below w.heap.size w w' ∧ KResU w' (.slice aW nW cW) (.slice aB nB cB) (.slice aC nC cC) (.slice aE nE cE) r.2 (fresh w w')
theorem ansK_bad {w w' : World} (hb : Below w.heap.size w w') (c : Int) : AnsKR w (c, [], ([], []), []) (.returned (.agg #[.int .i64 c, .slice none 0 0, .slice none 0 0, .slice none 0 0, .slice none 0 0])) w' :=
  ⟨none, 0, 0, none, 0, 0, none, 0, 0, none, 0, 0, rfl, hb, fun _ => False, fun _ => False, Or.inl ⟨rfl, none, 0, rfl⟩, ⟨fun _ => False, fun _ => False, ⟨fun _ => False, fun _ => False, Or.inl ⟨rfl, none, 0, rfl⟩, Or.inl ⟨rfl, none, 0, rfl⟩, fun _ h => h.elim, fun _ h => h.elim id id⟩, Or.inl ⟨rfl, none, 0, rfl⟩, fun _ h => h.elim, fun _ h => h.elim id id⟩, fun _ h => h.elim, fun _ h => h.elim False.elim False.elim⟩

theorem Bx.new5 (w : World) (a b c d e : Value) (t : TypeId) (i : Nat) (v : Value) (h : [a, b, c, d, e][i]? = some v) : (w.alloc (.cells #[a, b, c, d, e] t)).cell? ⟨w.heap.size, i, none⟩ = some v := Bx.new w [a, b, c, d, e] t i v h

set_option maxHeartbeats 800000 in
theorem eqKernResultU (w : World) (c : Int) (vW vB vC vE vW' vB' vC' vE' : Value) (d : KResD) (h : KResR w vW vB vC vE d) (h' : KResR w vW' vB' vC' vE' d) :
    Calls Try.prog 16 #[.agg #[.int .i64 c, vW, vB, vC, vE], .agg #[.int .i64 c, vW', vB', vC', vE']] w fun e w' => e = .returned (.bool true) ∧ Below w.heap.size w w' := by
  obtain ⟨a0, c0, rfl, _⟩ := h.1.open'
  obtain ⟨a1, c1, rfl, _⟩ := h.2.1.1.open'
  obtain ⟨a2, c2, rfl, _⟩ := h.2.1.2.open'
  obtain ⟨a3, c3, rfl, _⟩ := h.2.2.open'
  obtain ⟨b0, k0, rfl, _⟩ := h'.1.open'
  obtain ⟨b1, k1, rfl, _⟩ := h'.2.1.1.open'
  obtain ⟨b2, k2, rfl, _⟩ := h'.2.1.2.open'
  obtain ⟨b3, k3, rfl, _⟩ := h'.2.2.open'
  have H : Hid (KResR w _ _ _ _ d) := h
  have H' : Hid (KResR w _ _ _ _ d) := h'
  clear h h'
  generalize d.1.length = m0 at *
  generalize d.2.1.1.length = m1 at *
  generalize d.2.1.2.length = m2 at *
  generalize d.2.2.length = m3 at *
  have hcc : (c != c) = false := by simp
  go_enter Try.func16, Try.ntmps16
  go_wp2_with fail
  refine (eqIntsU (H.out.1.later (later2 _ _ _)) (H'.out.1.later (later2 _ _ _))).mono ?_
  rintro e w1 ⟨rfl, hb1⟩
  have HB1 : Hid (Below w.heap.size w w1) := (later2 _ _ _).trans (hb1.mono (by simp; omega))
  have X : Bx w1 w.heap.size [.int .i64 c, .slice a0 m0 c0, .slice a1 m1 c1, .slice a2 m2 c2, .slice a3 m3 c3] := ((Bx.new w [.int .i64 c, .slice a0 m0 c0, .slice a1 m1 c1, .slice a2 m2 c2, .slice a3 m3 c3] 42).later (later1 _ _)).later hb1
  have Y : Bx w1 (w.heap.size + 1) [.int .i64 c, .slice b0 m0 k0, .slice b1 m1 k1, .slice b2 m2 k2, .slice b3 m3 k3] := by
    have h := (Bx.new (w.alloc (.cells #[.int .i64 c, .slice a0 m0 c0, .slice a1 m1 c1, .slice a2 m2 c2, .slice a3 m3 c3] 42)) [.int .i64 c, .slice b0 m0 k0, .slice b1 m1 k1, .slice b2 m2 k2, .slice b3 m3 k3] 42).later hb1
    rw [World.size_alloc] at h
    exact h
  have x2 := X 2 _ rfl
  have x3 := X 3 _ rfl
  have x4 := X 4 _ rfl
  have y2 := Y 2 _ rfl
  have y3 := Y 3 _ rfl
  have y4 := Y 4 _ rfl
  clear hb1 X Y
  go_wp2_with fail
  refine (eqKernU _ _ _ _ _ _ _ d.2 (H.out.2.later HB1.out) (H'.out.2.later HB1.out)).mono ?_
  rintro e w2 ⟨rfl, hb2⟩
  have HB2 : Hid (Below w.heap.size w w2) := HB1.out.trans (hb2.mono HB1.out.size)
  clear hb2
  go_wp2
  go_ret
  exact ⟨rfl, HB2.out⟩

def spanKRes (d : KResD) : Nat := d.1.length + spanKern d.2
def mkKRes (k : Int) (d : KResD) : KResD := (marks k d.1.length, mkKern (k + (d.1.length : Nat)) d.2)
theorem IntsO.bound' {w : World} {v : Value} {zs : List Int} {F : Nat → Prop} (h : IntsO w v zs F) : IntsO w v zs (fun b => F b ∧ b < w.heap.size) := by
  rcases h with h | ⟨b, cap, hF, h1, h2, h3⟩
  · exact Or.inl h
  · exact Or.inr ⟨b, cap, ⟨hF, h3.lt⟩, h1, h2, h3⟩

set_option maxHeartbeats 800000 in
theorem markKernResultU (w : World) (c : Int) (vW vB vC vE : Value) (d : KResD) (F : Nat → Prop) (k : Int) (h : KResU w vW vB vC vE d F) (hk0 : 0 ≤ k) (hk : k + (spanKRes d : Nat) ≤ 4611686018427387904) :
    Calls Try.prog 17 #[.agg #[.int .i64 c, vW, vB, vC, vE], .int .i64 k] w fun e w' => e = .returned (.int .i64 (k + (spanKRes d : Nat))) ∧ KResU w' vW vB vC vE (mkKRes k d) F ∧ Chg F w w' := by
  obtain ⟨a0, c0, rfl, _⟩ := h.reads.1.open'
  obtain ⟨a1, c1, rfl, _⟩ := h.reads.2.1.1.open'
  obtain ⟨a2, c2, rfl, _⟩ := h.reads.2.1.2.open'
  obtain ⟨a3, c3, rfl, _⟩ := h.reads.2.2.open'
  obtain ⟨F1, G1, h1, h2, hd, hf⟩ := h
  generalize hl0 : d.1.length = m0 at h1
  generalize d.2.1.1.length = m1 at h2
  generalize d.2.1.2.length = m2 at h2
  generalize d.2.2.length = m3 at h2
  have H1 : Hid (IntsO w (.slice a0 m0 c0) d.1 F1) := h1
  have H2 : Hid (KernU w (.slice a1 m1 c1) (.slice a2 m2 c2) (.slice a3 m3 c3) d.2 G1) := h2
  have HD : Hid (∀ b, F1 b → ¬ G1 b) := hd
  have HF : Hid (∀ b, F1 b ∨ G1 b → F b) := hf
  have HKD : Hid (mkKRes k d = (marks k d.1.length, mkKern (k + (d.1.length : Nat)) d.2)) := rfl
  clear h1 h2 hd hf hl0
  have hq : k + (d.1.length : Nat) + (spanKern d.2 : Nat) ≤ 4611686018427387904 := by unfold spanKRes at hk; omega
  have HE : Hid (k + ((spanKRes d : Nat) : Int) = k + (d.1.length : Nat) + (spanKern d.2 : Nat)) := by unfold Hid spanKRes; omega
  rw [HE.out, HKD.out]
  clear hk
  have hU0 : (0 : Int) ≤ ((d.1.length : Nat) : Int) := by omega
  go_enter Try.func17, Try.ntmps17
  go_wp2_with fail
  refine (markInts_any k ((H1.out.bound').keep fun b hb hlt => (later1 _ _).block b hlt) hk0 (by omega)).mono ?_
  rintro e w1 ⟨rfl, hm, hc⟩
  have X : Bx w1 w.heap.size [.int .i64 c, .slice a0 m0 c0, .slice a1 m1 c1, .slice a2 m2 c2, .slice a3 m3 c3] := (Bx.new w [.int .i64 c, .slice a0 m0 c0, .slice a1 m1 c1, .slice a2 m2 c2, .slice a3 m3 c3] 42).chg hc (fun h => by have := h.2; omega)
  have x2 := X 2 _ rfl
  have x3 := X 3 _ rfl
  have x4 := X 4 _ rfl
  have HM : Hid (IntsO w1 _ (marks k d.1.length) (fun b => F1 b ∧ b < w.heap.size)) := hm
  have HC : Hid (Chg (fun b => F1 b ∧ b < w.heap.size) (w.alloc (.cells #[.int .i64 c, .slice a0 m0 c0, .slice a1 m1 c1, .slice a2 m2 c2, .slice a3 m3 c3] 42)) w1) := hc
  have H2' : Hid (KernU w1 (.slice a1 m1 c1) (.slice a2 m2 c2) (.slice a3 m3 c3) d.2 (fun b => G1 b ∧ b < w.heap.size)) := H2.out.bound.keep fun b hb hlt => (HC.out.block b (by simp; omega) (fun h => HD.out b h.1 hb.1)).trans ((later1 _ _).block b hlt)
  clear hm hc X
  go_wp2_with fail
  refine (markKernM _ _ _ _ d.2 _ _ H2'.out (by omega) hq).mono ?_
  rintro e w2 ⟨rfl, hm2, hc2⟩
  have HM2 : Hid (KernU w2 (.slice a1 m1 c1) (.slice a2 m2 c2) (.slice a3 m3 c3) (mkKern (k + (d.1.length : Nat)) d.2) (fun b => G1 b ∧ b < w.heap.size)) := hm2
  have HC2 : Hid (Chg (fun b => G1 b ∧ b < w.heap.size) w1 w2) := hc2
  clear hm2 hc2
  go_wp2
  go_ret
  refine ⟨rfl, ⟨fun b => F1 b ∧ b < w.heap.size, fun b => G1 b ∧ b < w.heap.size, HM.out.keep fun b hb hlt => HC2.out.block b hlt (fun h => HD.out b hb.1 h.1), HM2.out, fun b h h' => HD.out b h.1 h'.1, fun b hb => HF.out b (hb.elim (fun h => Or.inl h.1) (fun h => Or.inr h.1))⟩, ?_⟩
  exact (Chg.of_below (later1 _ _)).trans ((HC.out.mono fun b hb => HF.out b (Or.inl hb.1)).trans (HC2.out.mono fun b hb => HF.out b (Or.inr hb.1)))

set_option maxHeartbeats 800000 in
theorem heldKernResultU (w : World) (c : Int) (vW vB vC vE : Value) (d : KResD) (F : Nat → Prop) (k : Int) (h : KResU w vW vB vC vE (mkKRes k d) F) (hk0 : 0 ≤ k) (hk : k + (spanKRes d : Nat) ≤ 4611686018427387904) :
    Calls Try.prog 18 #[.agg #[.int .i64 c, vW, vB, vC, vE], .int .i64 k] w fun e w' => e = .returned (.int .i64 (k + (spanKRes d : Nat))) ∧ Below w.heap.size w w' := by
  obtain ⟨a0, c0, rfl, _⟩ := h.reads.1.open'
  obtain ⟨a1, c1, rfl, _⟩ := h.reads.2.1.1.open'
  obtain ⟨a2, c2, rfl, _⟩ := h.reads.2.1.2.open'
  obtain ⟨a3, c3, rfl, _⟩ := h.reads.2.2.open'
  have H1 : Hid (Ints w _ (marks k d.1.length)) := h.reads.1
  have H2 : Hid (KernR w _ _ _ (mkKern (k + (d.1.length : Nat)) d.2)) := h.reads.2
  clear h
  have hq : k + (d.1.length : Nat) + (spanKern d.2 : Nat) ≤ 4611686018427387904 := by unfold spanKRes at hk; omega
  have HE : Hid (k + ((spanKRes d : Nat) : Int) = k + (d.1.length : Nat) + (spanKern d.2 : Nat)) := by unfold Hid spanKRes; omega
  rw [HE.out]
  clear hk
  generalize (mkKRes k d).1.length = m0 at *
  generalize (mkKRes k d).2.1.1.length = m1 at *
  generalize (mkKRes k d).2.1.2.length = m2 at *
  generalize (mkKRes k d).2.2.length = m3 at *
  have l1 : ¬ (k + ((d.1.length : Nat) : Int) < 0) := by omega
  have l2 : ¬ (k + ((d.1.length : Nat) : Int) + (spanKern d.2 : Nat) < 0) := by omega
  go_enter Try.func18, Try.ntmps18
  go_wp2_with fail
  refine (heldInts_any k d.1.length (H1.out.later (later1 _ _)) hk0 (by omega)).mono ?_
  rintro e w1 ⟨rfl, rfl⟩
  go_wp2_with fail
  refine (heldKernM _ _ _ _ d.2 _ (H2.out.later (later1 _ _)) (by omega) hq).mono ?_
  rintro e w2 ⟨rfl, hb2⟩
  have HB2 : Hid (Below w.heap.size w w2) := (later1 _ _).trans (hb2.mono (by simp))
  clear hb2
  go_wp2
  go_ret
  exact ⟨rfl, HB2.out⟩

theorem eqIntResultU (w : World) (c v : Int) :
    Calls Try.prog 26 #[.agg #[.int .i64 c, .int .i64 v], .agg #[.int .i64 c, .int .i64 v]] w fun e w' => e = .returned (.bool true) ∧ Below w.heap.size w w' := by
  have h0 : (c != c) = false := by simp
  have h1 : (v != v) = false := by simp
  go_enter Try.func26, Try.ntmps26
  go_wp2
  go_ret
  exact ⟨rfl, later2 _ _ _⟩
end Go.Proofs.Ytojegkekafampah
