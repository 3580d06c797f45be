/- Answers with a kern: how they read, what they own, and the walks of the laws' functions over them. Whose a block is: the model, and the walks of the specification's OwnerOf. The walks of the program's KernFault. -/
import Derived.Test.YtmjdechoookpmaaM12
import Derived.Deep.RegionHeld3
import Derived.Test.YtmjdechoookpmaaM11
import Derived.Test.YtmjdechoookpmaaM08
namespace Go.Proofs.Ytmjdechoookpmaa
open Go.RowKit
set_option maxRecDepth 100000

abbrev KResD := List Int × KD
def KResR (w : World) (vW vB vC vE : Value) (d : KResD) : Prop := Ints w vW d.1 ∧ KernR w vB vC vE d.2
theorem KResR.later {w w' : World} {vW vB vC vE : Value} {d : KResD} (h : KResR w vW vB vC vE d) (hb : Below w.heap.size w w') : KResR w' vW vB vC vE d := ⟨h.1.later hb, h.2.later hb⟩
def KResU (w : World) (vW vB vC vE : Value) (d : KResD) (F : Nat → Prop) : Prop := ∃ F1 G1 : Nat → Prop, IntsO w vW d.1 F1 ∧ KernU w vB vC vE d.2 G1 ∧ (∀ b, F1 b → ¬ G1 b) ∧ ∀ b, F1 b ∨ G1 b → F b
theorem KResU.reads {w : World} {vW vB vC vE : Value} {d : KResD} {F : Nat → Prop} (h : KResU w vW vB vC vE d F) : KResR w vW vB vC vE d := by
  obtain ⟨_, _, h1, h2, _⟩ := h
  exact ⟨h1.reads, h2.reads⟩
theorem KResU.keep {w w' : World} {vW vB vC vE : Value} {d : KResD} {F : Nat → Prop} (h : KResU w vW vB vC vE d F) (e : ∀ b, F b → b < w.heap.size → w'.heap[b]? = w.heap[b]?) : KResU w' vW vB vC vE d F := by
  obtain ⟨F1, G1, h1, h2, hd, hf⟩ := h
  exact ⟨F1, G1, h1.keep fun b hb => e b (hf b (Or.inl hb)), h2.keep fun b hb => e b (hf b (Or.inr hb)), hd, hf⟩
theorem KResU.later {w w' : World} {vW vB vC vE : Value} {d : KResD} {F : Nat → Prop} (h : KResU w vW vB vC vE d F) (hb : Below w.heap.size w w') : KResU w' vW vB vC vE d F := h.keep fun b _ hlt => hb.block b hlt
theorem KResU.mono {w : World} {vW vB vC vE : Value} {d : KResD} {F G : Nat → Prop} (h : KResU w vW vB vC vE d F) (e : ∀ b, F b → G b) : KResU w vW vB vC vE d G := by
  obtain ⟨F1, G1, h1, h2, hd, hf⟩ := h
  exact ⟨F1, G1, h1, h2, hd, fun b hb => e b (hf b hb)⟩
theorem KResU.chg {w w' : World} {vW vB vC vE : Value} {d : KResD} {F G : Nat → Prop} (h : KResU w vW vB vC vE d F) (hc : Chg G w w') (hd : ∀ b, F b → ¬ G b) : KResU w' vW vB vC vE d F := h.keep fun b hb hlt => hc.block b hlt (hd b hb)

/-- An answer: a code, words and a kern, in new memory of its own. -/
def AnsKR (w : World) (r : Int × KResD) (e : Ending) (w' : World) : Prop := ∃ aW nW cW aB nB cB aC nC cC aE nE cE, e = .returned (.agg #[.int .i64 r.1, .slice aW nW cW, .slice aB nB cB, .slice aC nC cC, .slice aE nE cE]) ∧ Below w.heap.size w w' ∧ KResU w' (.slice aW nW cW) (.slice aB nB cB) (.slice aC nC cC) (.slice aE nE cE) r.2 (fresh w w')
theorem ansK_bad {w w' : World} (hb : Below w.heap.size w w') (c : Int) : AnsKR w (c, [], ([], []), []) (.returned (.agg #[.int .i64 c, .slice none 0 0, .slice none 0 0, .slice none 0 0, .slice none 0 0])) w' :=
  ⟨none, 0, 0, none, 0, 0, none, 0, 0, none, 0, 0, rfl, hb, fun _ => False, fun _ => False, Or.inl ⟨rfl, none, 0, rfl⟩, ⟨fun _ => False, fun _ => False, ⟨fun _ => False, fun _ => False, Or.inl ⟨rfl, none, 0, rfl⟩, Or.inl ⟨rfl, none, 0, rfl⟩, fun _ h => h.elim, fun _ h => h.elim id id⟩, Or.inl ⟨rfl, none, 0, rfl⟩, fun _ h => h.elim, fun _ h => h.elim id id⟩, fun _ h => h.elim, fun _ h => h.elim False.elim False.elim⟩

theorem Bx.new5 (w : World) (a b c d e : Value) (t : TypeId) (i : Nat) (v : Value) (h : [a, b, c, d, e][i]? = some v) : (w.alloc (.cells #[a, b, c, d, e] t)).cell? ⟨w.heap.size, i, none⟩ = some v := Bx.new w [a, b, c, d, e] t i v h

set_option maxHeartbeats 800000 in
theorem eqKernResultU (w : World) (c : Int) (vW vB vC vE vW' vB' vC' vE' : Value) (d : KResD) (h : KResR w vW vB vC vE d) (h' : KResR w vW' vB' vC' vE' d) :
    Calls Try.prog 21 #[.agg #[.int .i64 c, vW, vB, vC, vE], .agg #[.int .i64 c, vW', vB', vC', vE']] w fun e w' => e = .returned (.bool true) ∧ Below w.heap.size w w' := by
  obtain ⟨a0, c0, rfl, _⟩ := h.1.open'
  obtain ⟨a1, c1, rfl, _⟩ := h.2.1.1.open'
  obtain ⟨a2, c2, rfl, _⟩ := h.2.1.2.open'
  obtain ⟨a3, c3, rfl, _⟩ := h.2.2.open'
  obtain ⟨b0, k0, rfl, _⟩ := h'.1.open'
  obtain ⟨b1, k1, rfl, _⟩ := h'.2.1.1.open'
  obtain ⟨b2, k2, rfl, _⟩ := h'.2.1.2.open'
  obtain ⟨b3, k3, rfl, _⟩ := h'.2.2.open'
  have H : Hid (KResR w _ _ _ _ d) := h
  have H' : Hid (KResR w _ _ _ _ d) := h'
  clear h h'
  generalize d.1.length = m0 at *
  generalize d.2.1.1.length = m1 at *
  generalize d.2.1.2.length = m2 at *
  generalize d.2.2.length = m3 at *
  have hcc : (c != c) = false := by simp
  go_enter Try.func21, Try.ntmps21
  go_wp2_with fail
  refine (eqIntsU (H.out.1.later (later2 _ _ _)) (H'.out.1.later (later2 _ _ _))).mono ?_
  rintro e w1 ⟨rfl, hb1⟩
  have HB1 : Hid (Below w.heap.size w w1) := (later2 _ _ _).trans (hb1.mono (by simp; omega))
  have X : Bx w1 w.heap.size [.int .i64 c, .slice a0 m0 c0, .slice a1 m1 c1, .slice a2 m2 c2, .slice a3 m3 c3] := ((Bx.new w [.int .i64 c, .slice a0 m0 c0, .slice a1 m1 c1, .slice a2 m2 c2, .slice a3 m3 c3] 56).later (later1 _ _)).later hb1
  have Y : Bx w1 (w.heap.size + 1) [.int .i64 c, .slice b0 m0 k0, .slice b1 m1 k1, .slice b2 m2 k2, .slice b3 m3 k3] := by
    have h := (Bx.new (w.alloc (.cells #[.int .i64 c, .slice a0 m0 c0, .slice a1 m1 c1, .slice a2 m2 c2, .slice a3 m3 c3] 56)) [.int .i64 c, .slice b0 m0 k0, .slice b1 m1 k1, .slice b2 m2 k2, .slice b3 m3 k3] 56).later hb1
    rw [World.size_alloc] at h
    exact h
  have x2 := X 2 _ rfl
  have x3 := X 3 _ rfl
  have x4 := X 4 _ rfl
  have y2 := Y 2 _ rfl
  have y3 := Y 3 _ rfl
  have y4 := Y 4 _ rfl
  clear hb1 X Y
  go_wp2_with fail
  refine (eqKernU _ _ _ _ _ _ _ d.2 (H.out.2.later HB1.out) (H'.out.2.later HB1.out)).mono ?_
  rintro e w2 ⟨rfl, hb2⟩
  have HB2 : Hid (Below w.heap.size w w2) := HB1.out.trans (hb2.mono HB1.out.size)
  clear hb2
  go_wp2
  go_ret
  exact ⟨rfl, HB2.out⟩

def spanKRes (d : KResD) : Nat := d.1.length + spanKern d.2
def mkKRes (k : Int) (d : KResD) : KResD := (marks k d.1.length, mkKern (k + (d.1.length : Nat)) d.2)
theorem IntsO.bound' {w : World} {v : Value} {zs : List Int} {F : Nat → Prop} (h : IntsO w v zs F) : IntsO w v zs (fun b => F b ∧ b < w.heap.size) := by
  rcases h with h | ⟨b, cap, hF, h1, h2, h3⟩
  · exact Or.inl h
  · exact Or.inr ⟨b, cap, ⟨hF, h3.lt⟩, h1, h2, h3⟩

set_option maxHeartbeats 800000 in
theorem markKernResultU (w : World) (c : Int) (vW vB vC vE : Value) (d : KResD) (F : Nat → Prop) (k : Int) (h : KResU w vW vB vC vE d F) (hk0 : 0 ≤ k) (hk : k + (spanKRes d : Nat) ≤ 4611686018427387904) :
    Calls Try.prog 26 #[.agg #[.int .i64 c, vW, vB, vC, vE], .int .i64 k] w fun e w' => e = .returned (.int .i64 (k + (spanKRes d : Nat))) ∧ KResU w' vW vB vC vE (mkKRes k d) F ∧ Chg F w w' := by
  obtain ⟨a0, c0, rfl, _⟩ := h.reads.1.open'
  obtain ⟨a1, c1, rfl, _⟩ := h.reads.2.1.1.open'
  obtain ⟨a2, c2, rfl, _⟩ := h.reads.2.1.2.open'
  obtain ⟨a3, c3, rfl, _⟩ := h.reads.2.2.open'
  obtain ⟨F1, G1, h1, h2, hd, hf⟩ := h
  generalize hl0 : d.1.length = m0 at h1
  generalize d.2.1.1.length = m1 at h2
  generalize d.2.1.2.length = m2 at h2
  generalize d.2.2.length = m3 at h2
  have H1 : Hid (IntsO w (.slice a0 m0 c0) d.1 F1) := h1
  have H2 : Hid (KernU w (.slice a1 m1 c1) (.slice a2 m2 c2) (.slice a3 m3 c3) d.2 G1) := h2
  have HD : Hid (∀ b, F1 b → ¬ G1 b) := hd
  have HF : Hid (∀ b, F1 b ∨ G1 b → F b) := hf
  have HKD : Hid (mkKRes k d = (marks k d.1.length, mkKern (k + (d.1.length : Nat)) d.2)) := rfl
  clear h1 h2 hd hf hl0
  have hq : k + (d.1.length : Nat) + (spanKern d.2 : Nat) ≤ 4611686018427387904 := by unfold spanKRes at hk; omega
  have HE : Hid (k + ((spanKRes d : Nat) : Int) = k + (d.1.length : Nat) + (spanKern d.2 : Nat)) := by unfold Hid spanKRes; omega
  rw [HE.out, HKD.out]
  clear hk
  have hU0 : (0 : Int) ≤ ((d.1.length : Nat) : Int) := by omega
  go_enter Try.func26, Try.ntmps26
  go_wp2_with fail
  refine (markInts_any k ((H1.out.bound').keep fun b hb hlt => (later1 _ _).block b hlt) hk0 (by omega)).mono ?_
  rintro e w1 ⟨rfl, hm, hc⟩
  have X : Bx w1 w.heap.size [.int .i64 c, .slice a0 m0 c0, .slice a1 m1 c1, .slice a2 m2 c2, .slice a3 m3 c3] := (Bx.new w [.int .i64 c, .slice a0 m0 c0, .slice a1 m1 c1, .slice a2 m2 c2, .slice a3 m3 c3] 56).chg hc (fun h => by have := h.2; omega)
  have x2 := X 2 _ rfl
  have x3 := X 3 _ rfl
  have x4 := X 4 _ rfl
  have HM : Hid (IntsO w1 _ (marks k d.1.length) (fun b => F1 b ∧ b < w.heap.size)) := hm
  have HC : Hid (Chg (fun b => F1 b ∧ b < w.heap.size) (w.alloc (.cells #[.int .i64 c, .slice a0 m0 c0, .slice a1 m1 c1, .slice a2 m2 c2, .slice a3 m3 c3] 56)) w1) := hc
  have H2' : Hid (KernU w1 (.slice a1 m1 c1) (.slice a2 m2 c2) (.slice a3 m3 c3) d.2 (fun b => G1 b ∧ b < w.heap.size)) := H2.out.bound.keep fun b hb hlt => (HC.out.block b (by simp; omega) (fun h => HD.out b h.1 hb.1)).trans ((later1 _ _).block b hlt)
  clear hm hc X
  go_wp2_with fail
  refine (markKernM _ _ _ _ d.2 _ _ H2'.out (by omega) hq).mono ?_
  rintro e w2 ⟨rfl, hm2, hc2⟩
  have HM2 : Hid (KernU w2 (.slice a1 m1 c1) (.slice a2 m2 c2) (.slice a3 m3 c3) (mkKern (k + (d.1.length : Nat)) d.2) (fun b => G1 b ∧ b < w.heap.size)) := hm2
  have HC2 : Hid (Chg (fun b => G1 b ∧ b < w.heap.size) w1 w2) := hc2
  clear hm2 hc2
  go_wp2
  go_ret
  refine ⟨rfl, ⟨fun b => F1 b ∧ b < w.heap.size, fun b => G1 b ∧ b < w.heap.size, HM.out.keep fun b hb hlt => HC2.out.block b hlt (fun h => HD.out b hb.1 h.1), HM2.out, fun b h h' => HD.out b h.1 h'.1, fun b hb => HF.out b (hb.elim (fun h => Or.inl h.1) (fun h => Or.inr h.1))⟩, ?_⟩
  exact (Chg.of_below (later1 _ _)).trans ((HC.out.mono fun b hb => HF.out b (Or.inl hb.1)).trans (HC2.out.mono fun b hb => HF.out b (Or.inr hb.1)))

set_option maxHeartbeats 800000 in
theorem heldKernResultU (w : World) (c : Int) (vW vB vC vE : Value) (d : KResD) (F : Nat → Prop) (k : Int) (h : KResU w vW vB vC vE (mkKRes k d) F) (hk0 : 0 ≤ k) (hk : k + (spanKRes d : Nat) ≤ 4611686018427387904) :
    Calls Try.prog 27 #[.agg #[.int .i64 c, vW, vB, vC, vE], .int .i64 k] w fun e w' => e = .returned (.int .i64 (k + (spanKRes d : Nat))) ∧ Below w.heap.size w w' := by
  obtain ⟨a0, c0, rfl, _⟩ := h.reads.1.open'
  obtain ⟨a1, c1, rfl, _⟩ := h.reads.2.1.1.open'
  obtain ⟨a2, c2, rfl, _⟩ := h.reads.2.1.2.open'
  obtain ⟨a3, c3, rfl, _⟩ := h.reads.2.2.open'
  have H1 : Hid (Ints w _ (marks k d.1.length)) := h.reads.1
  have H2 : Hid (KernR w _ _ _ (mkKern (k + (d.1.length : Nat)) d.2)) := h.reads.2
  clear h
  have hq : k + (d.1.length : Nat) + (spanKern d.2 : Nat) ≤ 4611686018427387904 := by unfold spanKRes at hk; omega
  have HE : Hid (k + ((spanKRes d : Nat) : Int) = k + (d.1.length : Nat) + (spanKern d.2 : Nat)) := by unfold Hid spanKRes; omega
  rw [HE.out]
  clear hk
  generalize (mkKRes k d).1.length = m0 at *
  generalize (mkKRes k d).2.1.1.length = m1 at *
  generalize (mkKRes k d).2.1.2.length = m2 at *
  generalize (mkKRes k d).2.2.length = m3 at *
  have l1 : ¬ (k + ((d.1.length : Nat) : Int) < 0) := by omega
  have l2 : ¬ (k + ((d.1.length : Nat) : Int) + (spanKern d.2 : Nat) < 0) := by omega
  go_enter Try.func27, Try.ntmps27
  go_wp2_with fail
  refine (heldInts_any k d.1.length (H1.out.later (later1 _ _)) hk0 (by omega)).mono ?_
  rintro e w1 ⟨rfl, rfl⟩
  go_wp2_with fail
  refine (heldKernM _ _ _ _ d.2 _ (H2.out.later (later1 _ _)) (by omega) hq).mono ?_
  rintro e w2 ⟨rfl, hb2⟩
  have HB2 : Hid (Below w.heap.size w w2) := (later1 _ _).trans (hb2.mono (by simp))
  clear hb2
  go_wp2
  go_ret
  exact ⟨rfl, HB2.out⟩

end Go.Proofs.Ytmjdechoookpmaa

namespace Go.Proofs.Ytmjdechoookpmaa
open Go.RowKit
set_option maxRecDepth 100000

theorem OwnRow.newL (w : World) (vs : List Value) (t : TypeId) : OwnRow (w.alloc (.cells vs.toArray t)) w.heap.size vs.length (fun i => vs[i]?.getD (.bool false)) := by
  refine ⟨_, t, Go.Deep.blk_alloc_new _ _, by simp, fun i hi => ?_⟩
  simp [hi]
theorem resRowL {w w1 : World} (x : Obj) (vs : List Value) (t : TypeId) (h : Below ((w.alloc x).alloc (.cells vs.toArray t)).heap.size ((w.alloc x).alloc (.cells vs.toArray t)) w1) : OwnRow w1 (w.heap.size + 1) vs.length (fun i => vs[i]?.getD (.bool false)) := by
  have h2 := (OwnRow.newL (w.alloc x) vs t).later h
  rwa [World.size_alloc] at h2

def hasB (e : E3) (x : Int) : Bool := decide (e.1 ≤ x ∧ x < e.1 + e.2.1)
/-- The extent that has block x, or a zero one. -/
def ownE (es : List E3) (x : Int) : E3 := (es.find? fun e => hasB e x).getD (0, 0, 0)
theorem ownE_at {es : List E3} {x : Int} {j : Nat} (h : ∀ i, i < j → hasB (extAt es i) x = false) (hj : j < es.length) (hh : hasB (extAt es j) x = true) : ownE es x = extAt es j := by
  unfold ownE
  induction es generalizing j with
  | nil => simp at hj
  | cons a t ih =>
    cases j with
    | zero =>
      have : hasB a x = true := by simpa [extAt] using hh
      simp [this, extAt]
    | succ j =>
      have h0 : hasB a x = false := by simpa [extAt] using h 0 (by omega)
      simp only [List.find?_cons, h0]
      have := ih (j := j) (fun i hi => by simpa [extAt] using h (i + 1) (by omega)) (by simpa using hj) (by simpa [extAt] using hh)
      rw [this]; simp [extAt]
theorem ownE_none {es : List E3} {x : Int} (h : ∀ i, i < es.length → hasB (extAt es i) x = false) : ownE es x = (0, 0, 0) := by
  unfold ownE
  induction es with
  | nil => rfl
  | cons a t ih =>
    have h0 : hasB a x = false := by simpa [extAt] using h 0 (by simp)
    simp only [List.find?_cons, h0]
    exact ih fun i hi => by simpa [extAt] using h (i + 1) (by simpa using hi)
/-- Found, it is one of the list; else it is zero. -/
theorem ownE_cases (es : List E3) (x : Int) : (∃ j, j < es.length ∧ ownE es x = extAt es j) ∨ ownE es x = (0, 0, 0) := by
  unfold ownE
  cases h : es.find? fun e => hasB e x with
  | none => exact Or.inr rfl
  | some e =>
    have hm := List.mem_of_find?_eq_some h
    obtain ⟨j, hj, rfl⟩ := List.mem_iff_getElem.1 hm
    exact Or.inl ⟨j, hj, by simp [extAt, hj]⟩

set_option maxHeartbeats 1600000 in
theorem l2Owner_walk (w : World) (bk : Nat) (aE : Option Addr) (nE cE nB : Nat) (es : List E3) (x : Int) (hnE : es.length = nE) (h2 : w.cell? ⟨bk, 2, none⟩ = some (.slice aE nE cE)) (hE : AtE w aE nE es) (h8 : nE ≤ 8) (h60 : nB ≤ 60) (hr : ∀ i, i < nE → rightB (extAt es i) nB = true) :
    Calls Try.prog 102 #[.pointer (some ⟨bk, 0, none⟩), .int .i64 x] w fun e w' => e = .returned (.int .i64 (ownE es x).2.2) ∧ ∃ m, w' = w.drewN m := by
  have HN : Hid (es.length = nE) := hnE
  have HE : Hid (AtE w aE nE es) := hE
  have HR : Hid (∀ i, i < nE → rightB (extAt es i) nB = true) := hr
  clear hnE hE hr
  go_enter Try.func102, Try.ntmps102
  go_wp2
  go_loopw [5] (fun i wr => ∃ j m : Nat, j ≤ nE ∧ i = .int .i64 j ∧ wr = w.drewN m ∧ ∀ i : Nat, i < j → hasB (extAt es i) x = false) (fun i _ => nE - (intOf i).toNat)
  case atStart => exact ⟨0, 0, Nat.zero_le _, rfl, rfl, fun i hi => by omega⟩
  case round =>
    obtain ⟨j, m, hj, rfl, rfl, hall⟩ := hrel
    have HA : Hid (∀ i : Nat, i < j → hasB (extAt es i) x = false) := hall
    clear hall
    by_cases hlt : j < nE
    · obtain ⟨b, off, rfl, c0, c1, c2⟩ := HE.out j hlt
      have hq := rightB_iff.1 (HR.out j hlt)
      have HX : Hid (extAt es j = ((es[j]?.getD (0, 0, 0)).1, (es[j]?.getD (0, 0, 0)).2.1, (es[j]?.getD (0, 0, 0)).2.2)) := rfl
      rw [HX.out] at hq
      dsimp only at hq
      generalize (es[j]?.getD (0, 0, 0)).1 = p at *
      generalize (es[j]?.getD (0, 0, 0)).2.1 = y at *
      generalize (es[j]?.getD (0, 0, 0)).2.2 = z at *
      have hp0 : 0 ≤ p := by omega
      have hp1 : p ≤ 60 := by omega
      have hy0 : 1 ≤ y := by omega
      have hy1 : y ≤ 60 := by omega
      clear hq
      cases hh : hasB (p, y, z) x
      · have HQ : Hid (decide (p ≤ x ∧ x ≤ p + y - 1) = false) := by
          unfold Hid
          simp [hasB] at hh ⊢
          intro h; have := hh h; omega
        have HH : Hid (hasB (extAt es j) x = false) := by unfold Hid; rw [HX.out]; exact hh
        clear hh
        go_wp2_with fail
        go_quiet ((go_at_call 74; refine quiet_same2 (l1In_is (r := false) ?_); exact HQ.out))
        go_wp2
        go_roundw
        case rel =>
          refine ⟨j + 1, m + nq, by omega, by go_num, by first | rfl | rw [World.drewN_drewN], fun i hi => ?_⟩
          by_cases e : i = j
          · subst e; exact HH.out
          · exact HA.out i (by omega)
        case measure => simp [intOf]; omega
      · have HQ : Hid (decide (p ≤ x ∧ x ≤ p + y - 1) = true) := by
          unfold Hid
          simp [hasB] at hh ⊢
          omega
        have HH : Hid (hasB (extAt es j) x = true) := by unfold Hid; rw [HX.out]; exact hh
        have HZ : Hid ((ownE es x).2.2 = z) := by unfold Hid; rw [ownE_at HA.out (by rw [HN.out]; exact hlt) HH.out, HX.out]
        clear hh
        go_wp2_with fail
        go_quiet ((go_at_call 74; refine quiet_same2 (l1In_is (r := true) ?_); exact HQ.out))
        go_wp2
        go_ret
        exact ⟨ret_int HZ.out.symm, m + nq, by first | rfl | rw [World.drewN_drewN]⟩
    · have e : j = nE := by omega
      subst e
      have HZ : Hid ((ownE es x).2.2 = 0) := by unfold Hid; rw [ownE_none (fun i hi => HA.out i (by rw [HN.out] at hi; exact hi))]
      go_wp2
      go_ret
      exact ⟨ret_int HZ.out.symm, m, rfl⟩

/-- What OwnerOf answers. -/
def ownR (d : KD) (x : Int) : Int × Int := if kernF d = 0 then (if placeB d.1.1.length x = true then (if (ownE d.2 x).2.2 = 0 then (4, 0) else (0, (ownE d.2 x).2.2)) else (3, 0)) else (kernF d, 0)

set_option maxHeartbeats 3200000 in
theorem specOwner_any (w : World) (vB vC vE : Value) (d : KD) (x : Int) (h : KernR w vB vC vE d) :
    Calls Try.prog 80 #[.agg #[vB, vC, vE], .int .i64 x] w fun e w' => e = .returned (.agg #[.int .i64 (ownR d x).1, .int .i64 (ownR d x).2]) ∧ Below w.heap.size w w' := by
  obtain ⟨a1, c1, rfl, hm1, _⟩ := h.1.1.open'
  obtain ⟨a2, c2, rfl, _⟩ := h.1.2.open'
  obtain ⟨a3, c3, rfl, _, hE⟩ := h.2.open'
  have H : Hid (KernR w (.slice a1 d.1.1.length c1) (.slice a2 d.1.2.length c2) (.slice a3 d.2.length c3) d) := h
  have HE : Hid (AtE w a3 d.2.length d.2) := hE
  clear h hE
  have HR : Hid (ownR d x = if kernF d = 0 then (if placeB d.1.1.length x = true then (if (ownE d.2 x).2.2 = 0 then (4, 0) else (0, (ownE d.2 x).2.2)) else (3, 0)) else (kernF d, 0)) := rfl
  have FACTS : Hid (kernF d = 0 → d.1.1.length ≤ 60 ∧ d.2.length ≤ 8 ∧ ∀ i, i < d.2.length → rightB (extAt d.2 i) d.1.1.length = true) := fun h => by
    obtain ⟨k1, k2, k3⟩ := kernF_ok h
    exact ⟨(faultF_lens k1).1, k2, fun i hi => (k3 i hi).1⟩
  generalize hlB : d.1.1.length = nB at *
  generalize hlC : d.1.2.length = nC at *
  generalize hlE : d.2.length = nE at *
  have HLE : Hid (d.2.length = nE) := hlE
  clear hlB hlC hlE
  by_cases hf : kernF d = 0
  · have HF : Hid (kernF d = 0) := hf
    rw [if_pos hf] at HR
    obtain ⟨h60, h8, hr⟩ := FACTS.out hf
    have HRT : Hid (∀ i, i < nE → rightB (extAt d.2 i) nB = true) := hr
    clear hr hf FACTS
    cases hp : placeB nB x
    · have HP : Hid (placeB nB x = false) := hp
      have HR1 : Hid (ownR d x = (3, 0)) := by unfold Hid; rw [HR.out, hp]; rfl
      rw [HR1.out]
      clear hp HR
      go_enter Try.func80, Try.ntmps80
      go_wp2_with fail
      refine (l2Fault_any (d := d) (((Bx.new w [.slice a1 nB c1, .slice a2 nC c2, .slice a3 nE c3] _).later (later1 _ _)) 0 _ rfl) (((Bx.new w [.slice a1 nB c1, .slice a2 nC c2, .slice a3 nE c3] _).later (later1 _ _)) 1 _ rfl) (((Bx.new w [.slice a1 nB c1, .slice a2 nC c2, .slice a3 nE c3] _).later (later1 _ _)) 2 _ rfl) (H.out.later (later2 _ _ _))).mono ?_
      rw [HF.out]
      rintro e w1 ⟨rfl, hb1⟩
      have HW1 : Hid (Below w.heap.size w w1) := (later2 _ _ _).trans (hb1.mono (by simp; omega))
      have HX1 : Hid (Bx w1 w.heap.size [.slice a1 nB c1, .slice a2 nC c2, .slice a3 nE c3]) := ((Bx.new w [.slice a1 nB c1, .slice a2 nC c2, .slice a3 nE c3] _).later (later1 _ _)).later hb1
      have HR1 := resRowL _ [.int .i64 0, .int .i64 0] _ hb1
      have t0 := HR1.cell (i := 0) (by simp)
      have t1 := HR1.cell (i := 1) (by simp)
      have s0 := HR1.frozen 0
      have s1 := HR1.frozen 1
      simp at t0 t1
      clear hb1 HR1
      go_wp2_with fail
      refine (l1Place_any _ _ a1 nB c1 x hm1 (HX1.out 0 _ rfl)).mono ?_
      rw [HP.out]
      rintro e w2 ⟨rfl, rfl⟩
      go_wp2
      exact bodyPost_ret (v := .agg #[.int .i64 3, .int .i64 0]) (by simp [results, Try.results80, go_sem, t0, t1]) rfl ⟨rfl, (HW1.out.setCell (by simp) _).setCell (by simp) _⟩
    · have HP : Hid (placeB nB x = true) := hp
      have HR2 : Hid (ownR d x = if (ownE d.2 x).2.2 = 0 then (4, 0) else (0, (ownE d.2 x).2.2)) := by unfold Hid; rw [HR.out, hp]; rfl
      rw [HR2.out]
      generalize hk : (ownE d.2 x).2.2 = key
      have HK : Hid ((ownE d.2 x).2.2 = key) := hk
      clear hp HR HR2 hk
      by_cases hz : key = 0
      · subst hz
        rw [if_pos rfl]
        go_enter Try.func80, Try.ntmps80
        go_wp2_with fail
        refine (l2Fault_any (d := d) (((Bx.new w [.slice a1 nB c1, .slice a2 nC c2, .slice a3 nE c3] _).later (later1 _ _)) 0 _ rfl) (((Bx.new w [.slice a1 nB c1, .slice a2 nC c2, .slice a3 nE c3] _).later (later1 _ _)) 1 _ rfl) (((Bx.new w [.slice a1 nB c1, .slice a2 nC c2, .slice a3 nE c3] _).later (later1 _ _)) 2 _ rfl) (H.out.later (later2 _ _ _))).mono ?_
        rw [HF.out]
        rintro e w1 ⟨rfl, hb1⟩
        have HW1 : Hid (Below w.heap.size w w1) := (later2 _ _ _).trans (hb1.mono (by simp; omega))
        have HX1 : Hid (Bx w1 w.heap.size [.slice a1 nB c1, .slice a2 nC c2, .slice a3 nE c3]) := ((Bx.new w [.slice a1 nB c1, .slice a2 nC c2, .slice a3 nE c3] _).later (later1 _ _)).later hb1
        have HR1 := resRowL _ [.int .i64 0, .int .i64 0] _ hb1
        have t0 := HR1.cell (i := 0) (by simp)
        have t1 := HR1.cell (i := 1) (by simp)
        have s0 := HR1.frozen 0
        have s1 := HR1.frozen 1
        simp at t0 t1
        clear hb1 HR1
        go_wp2_with fail
        refine (l1Place_any _ _ a1 nB c1 x hm1 (HX1.out 0 _ rfl)).mono ?_
        rw [HP.out]
        rintro e w2 ⟨rfl, rfl⟩
        go_wp2_with fail
        refine (l2Owner_walk _ _ a3 nE c3 nB d.2 x HLE.out (HX1.out 2 _ rfl) (HE.out.later HW1.out) h8 h60 HRT.out).mono ?_
        rw [HK.out]
        rintro e w2 ⟨rfl, m, rfl⟩
        go_wp2
        exact bodyPost_ret (v := .agg #[.int .i64 4, .int .i64 0]) (by simp [results, Try.results80, go_sem, t0, t1]) rfl ⟨rfl, ((below_drewN HW1.out m).setCell (by simp) _).setCell (by simp) _⟩
      · rw [if_neg hz]
        have hzz : (key == 0) = false := by simpa using hz
        clear hz
        go_enter Try.func80, Try.ntmps80
        go_wp2_with fail
        refine (l2Fault_any (d := d) (((Bx.new w [.slice a1 nB c1, .slice a2 nC c2, .slice a3 nE c3] _).later (later1 _ _)) 0 _ rfl) (((Bx.new w [.slice a1 nB c1, .slice a2 nC c2, .slice a3 nE c3] _).later (later1 _ _)) 1 _ rfl) (((Bx.new w [.slice a1 nB c1, .slice a2 nC c2, .slice a3 nE c3] _).later (later1 _ _)) 2 _ rfl) (H.out.later (later2 _ _ _))).mono ?_
        rw [HF.out]
        rintro e w1 ⟨rfl, hb1⟩
        have HW1 : Hid (Below w.heap.size w w1) := (later2 _ _ _).trans (hb1.mono (by simp; omega))
        have HX1 : Hid (Bx w1 w.heap.size [.slice a1 nB c1, .slice a2 nC c2, .slice a3 nE c3]) := ((Bx.new w [.slice a1 nB c1, .slice a2 nC c2, .slice a3 nE c3] _).later (later1 _ _)).later hb1
        have HR1 := resRowL _ [.int .i64 0, .int .i64 0] _ hb1
        have t0 := HR1.cell (i := 0) (by simp)
        have t1 := HR1.cell (i := 1) (by simp)
        have s0 := HR1.frozen 0
        have s1 := HR1.frozen 1
        simp at t0 t1
        clear hb1 HR1
        go_wp2_with fail
        refine (l1Place_any _ _ a1 nB c1 x hm1 (HX1.out 0 _ rfl)).mono ?_
        rw [HP.out]
        rintro e w2 ⟨rfl, rfl⟩
        go_wp2_with fail
        refine (l2Owner_walk _ _ a3 nE c3 nB d.2 x HLE.out (HX1.out 2 _ rfl) (HE.out.later HW1.out) h8 h60 HRT.out).mono ?_
        rw [HK.out]
        rintro e w2 ⟨rfl, m, rfl⟩
        go_wp2
        exact bodyPost_ret (v := .agg #[.int .i64 0, .int .i64 key]) (by simp [results, Try.results80, go_sem, t0, t1]) rfl ⟨rfl, ((below_drewN HW1.out m).setCell (by simp) _).setCell (by simp) _⟩
  · have HR1 : Hid (ownR d x = (kernF d, 0)) := by unfold Hid; rw [HR.out, if_neg hf]
    rw [HR1.out]
    clear HR HR1 FACTS
    generalize hc : kernF d = c at *
    have HC : Hid (kernF d = c) := hc
    have hne : (c != 0) = true := by simpa using hf
    clear hc hf
    go_enter Try.func80, Try.ntmps80
    go_wp2_with fail
    refine (l2Fault_any (d := d) (((Bx.new w [.slice a1 nB c1, .slice a2 nC c2, .slice a3 nE c3] _).later (later1 _ _)) 0 _ rfl) (((Bx.new w [.slice a1 nB c1, .slice a2 nC c2, .slice a3 nE c3] _).later (later1 _ _)) 1 _ rfl) (((Bx.new w [.slice a1 nB c1, .slice a2 nC c2, .slice a3 nE c3] _).later (later1 _ _)) 2 _ rfl) (H.out.later (later2 _ _ _))).mono ?_
    rw [HC.out]
    rintro e w1 ⟨rfl, hb1⟩
    have HW1 : Hid (Below w.heap.size w w1) := (later2 _ _ _).trans (hb1.mono (by simp; omega))
    have HR1 := resRowL _ [.int .i64 0, .int .i64 0] _ hb1
    have t0 := HR1.cell (i := 0) (by simp)
    have t1 := HR1.cell (i := 1) (by simp)
    have s0 := HR1.frozen 0
    have s1 := HR1.frozen 1
    simp at t0 t1
    clear hb1 HR1
    go_wp2
    exact bodyPost_ret (v := .agg #[.int .i64 c, .int .i64 0]) (by simp [results, Try.results80, go_sem, t0, t1]) rfl ⟨rfl, (HW1.out.setCell (by simp) _).setCell (by simp) _⟩
end Go.Proofs.Ytmjdechoookpmaa

namespace Go.Proofs.Ytmjdechoookpmaa
open Go.RowKit
set_option maxRecDepth 100000

/-- A key as a lock. -/
def lockF (z : Int) : Int := if 1 ≤ z ∧ z ≤ 9999 then z else 0
theorem lockOf_any (w : World) (z : Int) : Calls Try.prog 106 #[.int .i64 z] w fun e w' => e = .returned (.int .u16 (lockF z)) ∧ w' = w := by
  by_cases h1 : z < 1
  · have hl : lockF z = 0 := by unfold lockF; rw [if_neg (by omega)]
    rw [hl]
    go_enter Try.func106, Try.ntmps106
    go_wp2
    go_ret
    exact ⟨rfl, rfl⟩
  · have hd : decide (z < 1) = false := by simpa using h1
    by_cases h2 : 9999 < z
    · have hl : lockF z = 0 := by unfold lockF; rw [if_neg (by omega)]
      rw [hl]
      clear h1
      go_enter Try.func106, Try.ntmps106
      go_wp2
      go_ret
      exact ⟨rfl, rfl⟩
    · have hl : lockF z = z := by unfold lockF; rw [if_pos (by omega)]
      have hd2 : decide (9999 < z) = false := by simpa using h2
      have z0 : 0 ≤ z := by omega
      have z1 : z ≤ 65535 := by omega
      have hm : z % 65536 = z := by omega
      rw [hl]
      clear h1 h2
      go_enter Try.func106, Try.ntmps106
      go_wp2
      go_ret
      exact ⟨rfl, rfl⟩

theorem end_any (w : World) (x y z : Int) (hx0 : 0 ≤ x) (hx1 : x ≤ 60) (hy0 : 0 ≤ y) (hy1 : y ≤ 60) :
    Calls Try.prog 99 #[.agg #[.int .i64 x, .int .i64 y, .int .i64 z]] w fun e w' => e = .returned (.int .i64 (x + y)) ∧ Below w.heap.size w w' := by
  go_enter Try.func99, Try.ntmps99
  go_wp2
  go_ret
  exact ⟨rfl, later1 _ _⟩

set_option maxHeartbeats 800000 in
theorem extFault_any (w : World) (aB aC : Option Addr) (nB cB nC cC : Nat) (x y z : Int) (h60 : nB ≤ 60) :
    Calls Try.prog 98 #[.agg #[.slice aB nB cB, .slice aC nC cC], .agg #[.int .i64 x, .int .i64 y, .int .i64 z]] w fun e w' => e = .returned (.int .i64 (if rightB (x, y, z) nB = true then 0 else 3)) ∧ Below w.heap.size w w' := by
  by_cases hz : 1 ≤ z ∧ z ≤ 9999
  · have HL : Hid (lockF z = z) := by unfold Hid lockF; rw [if_pos hz]
    have hz0 : (z == 0) = false := by simp; omega
    by_cases hx0 : x < 0
    · have HR : Hid ((if rightB (x, y, z) nB = true then (0 : Int) else 3) = 3) := by unfold Hid; rw [if_neg (fun h => by have := (rightB_iff.1 h).2.1.1; simp at this; omega)]
      rw [HR.out]
      clear hz
      go_enter Try.func98, Try.ntmps98
      go_wp2_with fail
      refine (lockOf_any _ _).mono ?_
      rw [HL.out]
      rintro e w1 ⟨rfl, rfl⟩
      go_wp2
      go_ret
      exact ⟨rfl, later2 _ _ _⟩
    · have d1 : decide (x < 0) = false := by simpa using hx0
      by_cases hx1 : (nB : Int) < x
      · have HR : Hid ((if rightB (x, y, z) nB = true then (0 : Int) else 3) = 3) := by unfold Hid; rw [if_neg (fun h => by have := (rightB_iff.1 h).2.1.2; simp at this; omega)]
        rw [HR.out]
        clear hz hx0
        go_enter Try.func98, Try.ntmps98
        go_wp2_with fail
        refine (lockOf_any _ _).mono ?_
        rw [HL.out]
        rintro e w1 ⟨rfl, rfl⟩
        go_wp2
        go_ret
        exact ⟨rfl, later2 _ _ _⟩
      · have d2 : decide ((nB : Int) < x) = false := by simpa using hx1
        by_cases hy0 : y < 1
        · have HR : Hid ((if rightB (x, y, z) nB = true then (0 : Int) else 3) = 3) := by unfold Hid; rw [if_neg (fun h => by have := (rightB_iff.1 h).2.2.1.1; simp at this; omega)]
          rw [HR.out]
          clear hz hx0 hx1
          go_enter Try.func98, Try.ntmps98
          go_wp2_with fail
          refine (lockOf_any _ _).mono ?_
          rw [HL.out]
          rintro e w1 ⟨rfl, rfl⟩
          go_wp2
          go_ret
          exact ⟨rfl, later2 _ _ _⟩
        · have d3 : decide (y < 1) = false := by simpa using hy0
          by_cases hy1 : (nB : Int) < y
          · have HR : Hid ((if rightB (x, y, z) nB = true then (0 : Int) else 3) = 3) := by unfold Hid; rw [if_neg (fun h => by have := (rightB_iff.1 h).2.2.1.2; simp at this; omega)]
            rw [HR.out]
            clear hz hx0 hx1 hy0
            go_enter Try.func98, Try.ntmps98
            go_wp2_with fail
            refine (lockOf_any _ _).mono ?_
            rw [HL.out]
            rintro e w1 ⟨rfl, rfl⟩
            go_wp2
            go_ret
            exact ⟨rfl, later2 _ _ _⟩
          · have d4 : decide ((nB : Int) < y) = false := by simpa using hy1
            have hx0' : 0 ≤ x := by omega
            have hx1' : x ≤ 60 := by omega
            have hy0' : 0 ≤ y := by omega
            have hy1' : y ≤ 60 := by omega
            by_cases hs : (nB : Int) < x + y
            · have HR : Hid ((if rightB (x, y, z) nB = true then (0 : Int) else 3) = 3) := by unfold Hid; rw [if_neg (fun h => by have := (rightB_iff.1 h).2.2.2; simp at this; omega)]
              rw [HR.out]
              clear hz hx0 hx1 hy0 hy1
              go_enter Try.func98, Try.ntmps98
              go_wp2_with fail
              refine (lockOf_any _ _).mono ?_
              rw [HL.out]
              rintro e w1 ⟨rfl, rfl⟩
              go_wp2_with fail
              refine (end_any _ x y z hx0' hx1' hy0' hy1').mono ?_
              rintro e w2 ⟨rfl, hb2⟩
              have HB2 : Hid (Below w.heap.size w w2) := (later2 _ _ _).trans (hb2.mono (by simp; omega))
              clear hb2
              go_wp2
              go_ret
              exact ⟨rfl, HB2.out⟩
            · have d5 : decide ((nB : Int) < x + y) = false := by simpa using hs
              have HR : Hid ((if rightB (x, y, z) nB = true then (0 : Int) else 3) = 0) := by unfold Hid; rw [if_pos (rightB_iff.2 ⟨hz, ⟨by simp; omega, by simp; omega⟩, ⟨by simp; omega, by simp; omega⟩, by simp; omega⟩)]
              rw [HR.out]
              clear hz hx0 hx1 hy0 hy1 hs
              go_enter Try.func98, Try.ntmps98
              go_wp2_with fail
              refine (lockOf_any _ _).mono ?_
              rw [HL.out]
              rintro e w1 ⟨rfl, rfl⟩
              go_wp2_with fail
              refine (end_any _ x y z hx0' hx1' hy0' hy1').mono ?_
              rintro e w2 ⟨rfl, hb2⟩
              have HB2 : Hid (Below w.heap.size w w2) := (later2 _ _ _).trans (hb2.mono (by simp; omega))
              clear hb2
              go_wp2
              go_ret
              exact ⟨rfl, HB2.out⟩
  · have HL : Hid (lockF z = 0) := by unfold Hid lockF; rw [if_neg hz]
    have HR : Hid ((if rightB (x, y, z) nB = true then (0 : Int) else 3) = 3) := by unfold Hid; rw [if_neg (fun h => hz (rightB_iff.1 h).1)]
    rw [HR.out]
    clear hz
    go_enter Try.func98, Try.ntmps98
    go_wp2_with fail
    refine (lockOf_any _ _).mono ?_
    rw [HL.out]
    rintro e w1 ⟨rfl, rfl⟩
    go_wp2
    go_ret
    exact ⟨rfl, later2 _ _ _⟩

set_option maxHeartbeats 800000 in
theorem implKF_disk (w : World) (aB aC aE : Option Addr) (nB cB nC cC nE cE : Nat) (d : KD) (hD : DiskR w (.slice aB nB cB) (.slice aC nC cC) d.1) (hf : ¬ faultF d.1.1 d.1.2 = 0) :
    Calls Try.prog 64 #[.agg #[.slice aB nB cB, .slice aC nC cC, .slice aE nE cE]] w fun e w' => e = .returned (.int .i64 (faultF d.1.1 d.1.2)) ∧ Below w.heap.size w w' := by
  have HD : Hid (DiskR w (.slice aB nB cB) (.slice aC nC cC) d.1) := hD
  generalize hc : faultF d.1.1 d.1.2 = c at *
  have HC : Hid (faultF d.1.1 d.1.2 = c) := hc
  have hne : (c != 0) = true := by simpa using hf
  clear hD hf hc
  go_enter Try.func64, Try.ntmps64
  go_wp2_with fail
  refine (fault_any _ _ _ d.1.1 d.1.2 (HD.out.1.later (later1 _ _)) (HD.out.2.later (later1 _ _))).mono ?_
  rw [HC.out]
  rintro e w1 ⟨rfl, hb1⟩
  have HB1 : Hid (Below w.heap.size w w1) := (later1 _ _).trans (hb1.mono (by simp))
  clear hb1
  go_wp2
  go_ret
  exact ⟨rfl, HB1.out⟩

set_option maxHeartbeats 800000 in
theorem implKF_many (w : World) (aB aC aE : Option Addr) (nB cB nC cC nE cE : Nat) (d : KD) (hD : DiskR w (.slice aB nB cB) (.slice aC nC cC) d.1) (hf : faultF d.1.1 d.1.2 = 0) (h8 : 8 < nE) :
    Calls Try.prog 64 #[.agg #[.slice aB nB cB, .slice aC nC cC, .slice aE nE cE]] w fun e w' => e = .returned (.int .i64 2) ∧ Below w.heap.size w w' := by
  have HD : Hid (DiskR w (.slice aB nB cB) (.slice aC nC cC) d.1) := hD
  have HC : Hid (faultF d.1.1 d.1.2 = 0) := hf
  have h8' : (8 : Int) < (nE : Int) := by omega
  clear hD hf
  go_enter Try.func64, Try.ntmps64
  go_wp2_with fail
  refine (fault_any _ _ _ d.1.1 d.1.2 (HD.out.1.later (later1 _ _)) (HD.out.2.later (later1 _ _))).mono ?_
  rw [HC.out]
  rintro e w1 ⟨rfl, hb1⟩
  have HB1 : Hid (Below w.heap.size w w1) := (later1 _ _).trans (hb1.mono (by simp))
  have x2 : w1.cell? ⟨w.heap.size, 2, none⟩ = some (.slice aE nE cE) := by rw [hb1.cell (by simp), new_cell]; rfl
  clear hb1
  go_wp2
  go_ret
  exact ⟨rfl, HB1.out⟩

set_option maxHeartbeats 3200000 in
theorem implKF_walk (w : World) (aB aC aE : Option Addr) (nB cB nC cC nE cE : Nat) (d : KD) (hD : DiskR w (.slice aB nB cB) (.slice aC nC cC) d.1) (hE : AtE w aE nE d.2) (hf : faultF d.1.1 d.1.2 = 0) (h8 : nE ≤ 8) (h60 : nB ≤ 60) :
    Calls Try.prog 64 #[.agg #[.slice aB nB cB, .slice aC nC cC, .slice aE nE cE]] w fun e w' => e = .returned (.int .i64 (firstNZ (extOne d.2 nB) nE)) ∧ Below w.heap.size w w' := by
  have HD : Hid (DiskR w (.slice aB nB cB) (.slice aC nC cC) d.1) := hD
  have HC : Hid (faultF d.1.1 d.1.2 = 0) := hf
  have HE : Hid (AtE w aE nE d.2) := hE
  have h8' : decide ((8 : Int) < (nE : Int)) = false := by simp; omega
  clear hD hf hE
  go_enter Try.func64, Try.ntmps64
  go_wp2_with fail
  refine (fault_any _ _ _ d.1.1 d.1.2 (HD.out.1.later (later1 _ _)) (HD.out.2.later (later1 _ _))).mono ?_
  rw [HC.out]
  rintro e w1 ⟨rfl, hb1⟩
  have HB1 : Hid (Below w.heap.size w w1) := (later1 _ _).trans (hb1.mono (by simp))
  have HX1 : Hid (Bx w1 w.heap.size [.slice aB nB cB, .slice aC nC cC, .slice aE nE cE]) := (Bx.new w [.slice aB nB cB, .slice aC nC cC, .slice aE nE cE] _).later hb1
  have x2 := HX1.out 2 _ rfl
  clear hb1
  go_wp2
  clear x2
  go_loopw [20] (fun i wr => ∃ j : Nat, j ≤ nE ∧ i = .int .i64 j ∧ Below w.heap.size w wr ∧ Bx wr w.heap.size [.slice aB nB cB, .slice aC nC cC, .slice aE nE cE] ∧ ∀ i : Nat, i < j → extOne d.2 nB i = 0) (fun i _ => nE - (intOf i).toNat)
  case atStart => exact ⟨0, Nat.zero_le _, rfl, HB1.out, HX1.out, fun i hi => by omega⟩
  case round =>
    obtain ⟨j, hj, rfl, hbl, hbx, hall⟩ := hrel
    have HA : Hid (∀ i : Nat, i < j → extOne d.2 nB i = 0) := hall
    have HBL : Hid (Below w.heap.size w wr) := hbl
    have HBX : Hid (Bx wr w.heap.size [.slice aB nB cB, .slice aC nC cC, .slice aE nE cE]) := hbx
    have x0 := hbx 0 _ rfl
    have x1 := hbx 1 _ rfl
    have x2 := hbx 2 _ rfl
    have hzw : w.heap.size < wr.heap.size := hbx.lt
    clear hall hbl hbx
    by_cases hlt : j < nE
    · obtain ⟨b, off, rfl, c0, c1, c2⟩ := HE.out j hlt
      replace c0 := cell_later HBL.out c0
      replace c1 := cell_later HBL.out c1
      replace c2 := cell_later HBL.out c2
      have HX : Hid (extAt d.2 j = ((d.2[j]?.getD (0, 0, 0)).1, (d.2[j]?.getD (0, 0, 0)).2.1, (d.2[j]?.getD (0, 0, 0)).2.2)) := rfl
      generalize (d.2[j]?.getD (0, 0, 0)).1 = x at *
      generalize (d.2[j]?.getD (0, 0, 0)).2.1 = y at *
      generalize (d.2[j]?.getD (0, 0, 0)).2.2 = z at *
      cases hr : rightB (x, y, z) nB
      · have HR : Hid (rightB (x, y, z) nB = false) := hr
        have HO : Hid (extOne d.2 nB j = 3) := by unfold Hid extOne; rw [HX.out, hr]; rfl
        clear hr
        go_wp2_with fail
        refine (extFault_any _ aB aC nB cB nC cC x y z h60).mono ?_
        rw [HR.out]
        rintro e w2 ⟨rfl, hb2⟩
        have HB2 : Hid (Below wr.heap.size wr w2) := (later1 _ _).trans (hb2.mono (by simp))
        clear hb2
        go_wp2
        go_ret
        exact ⟨ret_int (by rw [firstNZ_at HA.out hlt (by rw [HO.out]; decide), HO.out]), HBL.out.trans (HB2.out.mono HBL.out.size)⟩
      · have HR : Hid (rightB (x, y, z) nB = true) := hr
        clear hr
        by_cases hj0 : j = 0
        · have HO : Hid (extOne d.2 nB j = 0) := by unfold Hid extOne; rw [HX.out, HR.out]; simp [hj0]
          have HJ0 : Hid (j = 0) := hj0
          have hpj : decide ((0 : Int) < (j : Int)) = false := by simp; omega
          have hpj2 : decide (0 < j) = false := by simp; omega
          have hpj3 : ¬ 0 < j := by omega
          clear hj0
          go_wp2_with fail
          refine (extFault_any _ aB aC nB cB nC cC x y z h60).mono ?_
          rw [HR.out]
          rintro e w2 ⟨rfl, hb2⟩
          have HB2 : Hid (Below wr.heap.size wr w2) := (later1 _ _).trans (hb2.mono (by simp))
          have k2 := cell_later HB2.out x2
          clear hb2
          go_wp2_with fail
          go_quiet (fail)
          go_wp2
          go_roundw
          case rel =>
            refine ⟨j + 1, by omega, by go_num, below_drewN (HBL.out.trans (HB2.out.mono HBL.out.size)) _, HBX.out.later (below_drewN HB2.out _), fun i hi => ?_⟩
            have : i = j := by have := HJ0.out; omega
            subst this; exact HO.out
          case measure => simp [intOf]; omega
        · obtain ⟨p, hjp⟩ : ∃ p, j = p + 1 := ⟨j - 1, by omega⟩
          have HJP : Hid (j = p + 1) := hjp
          have hjm : (j : Int) - 1 = (p : Int) := by omega
          have hj1 : 0 < j := by omega
          have hp8 : p ≤ 8 := by omega
          have hwr : IntKind.i64.wrap (p : Int) = (p : Int) := by rw [IntKind.wrap_i64]; omega
          clear hj0
          obtain ⟨b', off', e', p0, p1, p2⟩ := HE.out p (by omega)
          simp only [Option.some.injEq, Addr.mk.injEq, and_true] at e'
          obtain ⟨rfl, rfl⟩ := e'
          have hp := HA.out p (by omega)
          have hpr : rightB (extAt d.2 p) nB = true := by
            unfold extOne at hp
            by_cases h : rightB (extAt d.2 p) nB = true
            · exact h
            · rw [if_neg h] at hp; omega
          have hq := rightB_iff.1 hpr
          have HY : Hid (extAt d.2 p = ((d.2[p]?.getD (0, 0, 0)).1, (d.2[p]?.getD (0, 0, 0)).2.1, (d.2[p]?.getD (0, 0, 0)).2.2)) := rfl
          rw [HY.out] at hq
          dsimp only at hq
          generalize (d.2[p]?.getD (0, 0, 0)).1 = x' at *
          generalize (d.2[p]?.getD (0, 0, 0)).2.1 = y' at *
          generalize (d.2[p]?.getD (0, 0, 0)).2.2 = z' at *
          have hx'0 : 0 ≤ x' := by omega
          have hx'1 : x' ≤ 60 := by omega
          have hy'0 : 0 ≤ y' := by omega
          have hy'1 : y' ≤ 60 := by omega
          have hpn : p < nE := by omega
          clear hp hpr hq hjp
          have HO : Hid (extOne d.2 nB j = if x < x' + y' then 1 else 0) := by
            unfold Hid extOne
            rw [HX.out, HR.out, if_pos rfl, show j - 1 = p by have := HJP.out; omega, HY.out]
            by_cases h : x < x' + y' <;> simp [h, hj1]
          have HP0 : Hid (w.cell? _ = some (.int .i64 x')) := p0
          have HP1 : Hid (w.cell? _ = some (.int .i64 y')) := p1
          have HP2 : Hid (w.cell? _ = some (.int .i64 z')) := p2
          clear p0 p1 p2
          by_cases hlq : x < x' + y'
          · have hld : decide (x < x' + y') = true := by simpa using hlq
            have HO1 : Hid (extOne d.2 nB j = 1) := by unfold Hid; rw [HO.out, if_pos hlq]
            go_wp2_with fail
            refine (extFault_any _ aB aC nB cB nC cC x y z h60).mono ?_
            rw [HR.out]
            rintro e w2 ⟨rfl, hb2⟩
            have HB2 : Hid (Below wr.heap.size wr w2) := (later1 _ _).trans (hb2.mono (by simp))
            have HW2 : Hid (Below w.heap.size w w2) := HBL.out.trans (HB2.out.mono HBL.out.size)
            have e0 := ((Bx.new wr [.int .i64 x, .int .i64 y, .int .i64 z] 102).later hb2) 0 _ rfl
            have k2 := cell_later HB2.out x2
            have p0 := cell_later HW2.out HP0.out
            have p1 := cell_later HW2.out HP1.out
            have p2 := cell_later HW2.out HP2.out
            clear hb2
            go_wp2_with fail
            go_region_with ((go_at_call 99; refine (end_any _ x' y' z' hx'0 hx'1 hy'0 hy'1).mono ?_; rintro e w3 ⟨rfl, hb3⟩; have HB3 : Hid (Below w2.heap.size w2 w3) := (Below.refl _ _).drew.trans hb3; have e3 := cell_later hb3 e0; clear hb3))
            all_goals
              go_wp2
              go_ret
              exact ⟨ret_int (by rw [firstNZ_at HA.out hlt (by rw [HO1.out]; decide), HO1.out]), HW2.out.trans (HB3.out.mono HW2.out.size)⟩
          · have hld : decide (x < x' + y') = false := by simpa using hlq
            have HO1 : Hid (extOne d.2 nB j = 0) := by unfold Hid; rw [HO.out, if_neg hlq]
            go_wp2_with fail
            refine (extFault_any _ aB aC nB cB nC cC x y z h60).mono ?_
            rw [HR.out]
            rintro e w2 ⟨rfl, hb2⟩
            have HB2 : Hid (Below wr.heap.size wr w2) := (later1 _ _).trans (hb2.mono (by simp))
            have HW2 : Hid (Below w.heap.size w w2) := HBL.out.trans (HB2.out.mono HBL.out.size)
            have e0 := ((Bx.new wr [.int .i64 x, .int .i64 y, .int .i64 z] 102).later hb2) 0 _ rfl
            have k2 := cell_later HB2.out x2
            have p0 := cell_later HW2.out HP0.out
            have p1 := cell_later HW2.out HP1.out
            have p2 := cell_later HW2.out HP2.out
            clear hb2
            go_wp2_with fail
            go_region_with ((go_at_call 99; refine (end_any _ x' y' z' hx'0 hx'1 hy'0 hy'1).mono ?_; rintro e w3 ⟨rfl, hb3⟩; have HB3 : Hid (Below w2.heap.size w2 w3) := (Below.refl _ _).drew.trans hb3; have e3 := cell_later hb3 e0; clear hb3))
            all_goals
              go_wp2
              go_roundw
              case rel =>
                refine ⟨j + 1, by omega, by go_num, HW2.out.trans (HB3.out.mono HW2.out.size), (HBX.out.later HB2.out).later HB3.out, fun i hi => ?_⟩
                by_cases e : i = j
                · subst e; exact HO1.out
                · exact HA.out i (by omega)
              case measure => simp [intOf]; omega
    · have e : j = nE := by omega
      subst e
      go_wp2
      go_ret
      exact ⟨ret_int (firstNZ_zero HA.out).symm, HBL.out⟩

theorem implKernFault_any (w : World) (vB vC vE : Value) (d : KD) (h : KernR w vB vC vE d) :
    Calls Try.prog 64 #[.agg #[vB, vC, vE]] w fun e w' => e = .returned (.int .i64 (kernF d)) ∧ Below w.heap.size w w' := by
  obtain ⟨a1, c1, rfl, _⟩ := h.1.1.open'
  obtain ⟨a2, c2, rfl, _⟩ := h.1.2.open'
  obtain ⟨a3, c3, rfl, _, hE⟩ := h.2.open'
  by_cases hf : faultF d.1.1 d.1.2 = 0
  · by_cases h8 : 8 < d.2.length
    · rw [kernF_many hf h8]
      exact implKF_many w _ _ _ _ _ _ _ _ _ d h.1 hf h8
    · rw [kernF_few hf h8]
      exact implKF_walk w _ _ _ _ _ _ _ _ _ d h.1 hE hf (by omega) (faultF_lens hf).1
  · rw [kernF_disk hf]
    exact implKF_disk w _ _ _ _ _ _ _ _ _ d h.1 hf
end Go.Proofs.Ytmjdechoookpmaa
