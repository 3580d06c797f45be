/- A mount cut off: what it comes to. No program is named here but by its lists. A plan done in part, and then a crash: impl. What is wrong of a list of steps, and where its commit is: the specification. What appending extents to an empty list that was just built comes to. When a kern has a fault: the model as a function of lists. No program is named here. The walks of the specification's KernFault. Whose a block is: the model, and the walks of the specification's OwnerOf. How an answer with a kern is put together; the walks of NewKern, both. The specification's copying of a kern. -/
import Derived.Test.YtpmndmkmfcoieaaM15
import Derived.Test.YtpmndmkmfcoieaaM08
import Derived.Test.YtpmndmkmfcoieaaM11
import Derived.Deep.RegionLaw
import Derived.Test.YtpmndmkmfcoieaaM02
import Derived.Test.YtpmndmkmfcoieaaM12
import Derived.Test.YtpmndmkmfcoieaaM03
import Derived.Deep.RegionHeld3
import Derived.Test.YtpmndmkmfcoieaaM04
namespace Go.Proofs.Ytpmndmkmfcoieaa
open Go.RowKit
set_option maxRecDepth 100000

theorem atF_good {d : DK} (h : GoodD d) (x : Int) : wordsF (atF d.1 d.2 x) = 0 := by
  have key : ∀ k, k ≤ d.2.length → wordsF (atK d.1 d.2 x k) = 0 := by
    intro k
    induction k with
    | zero => intro _; exact h.blocks _
    | succ k ih =>
      intro hk
      show wordsF (if (d.2[k]?.getD (0, [])).1 = x then (d.2[k]?.getD (0, [])).2 else atK d.1 d.2 x k) = 0
      by_cases e : (d.2[k]?.getD (0, [])).1 = x
      · rw [if_pos e]; exact (h.puts k (by omega)).2
      · rw [if_neg e]; exact ih (by omega)
  exact key _ (Nat.le_refl _)
theorem plcB_of {ps : List Int} (h : plcsB ps = true) {k : Nat} (hk : k < ps.length) : 17 ≤ ps[k]?.getD 0 ∧ ps[k]?.getD 0 ≤ 26 := by
  unfold plcsB at h
  rw [List.all_eq_true] at h
  have := h (ps[k]) (List.getElem_mem hk)
  rw [List.getElem?_eq_getElem hk]
  exact of_decide_eq_true this
theorem super_ok (q : Int) (h0 : 1 ≤ q) (h1 : q ≤ 60000) (i : Nat) (hi : i < 3) : stepF ((superS q)[i]?.getD sd0) = 0 := by
  rcases (show i = 0 ∨ i = 1 ∨ i = 2 by omega) with rfl | rfl | rfl
  · rfl
  · show stepF (false, 0, [7, q + 1]) = 0
    unfold stepF
    rw [if_neg (by simp), if_neg (by simp)]
    exact wordsF_ok (by simp) fun i hi => by
      rcases (show i = 0 ∨ i = 1 by have : i < 2 := hi; omega) with rfl | rfl
      · rfl
      · exact decide_eq_true (p := 0 ≤ q + 1 ∧ q + 1 ≤ 65535) ⟨by omega, by omega⟩
  · rfl
theorem plan_ok {d : DK} (i : Nat) (hi : i < (planR d).2.length) : stepF ((planR d).2[i]?.getD sd0) = 0 := by
  by_cases h0 : (seqR d).1 = 0
  · cases hf : foundB (fun k => atF d.1 d.2 k) (seqR d).2 with
    | false => rw [planR_no h0 hf] at hi; exact absurd hi (by simp)
    | true =>
      by_cases hq : (seqR d).2 = 60000
      · rw [planR_last h0 hf hq] at hi; exact absurd hi (by simp)
      · rw [planR_yes h0 hf hq] at hi ⊢
        have hg := GoodD.of (seqR_zero h0).1
        obtain ⟨hs0, hs1⟩ := seq_in h0
        unfold homeS at hi ⊢
        rw [List.length_append, putsS_len] at hi
        show stepF ((putsS (putsJ fun k : Nat => atF d.1 d.2 k) ++ superS (seqR d).2)[i]?.getD sd0) = 0
        rw [two_getD, putsS_len]
        by_cases e : i < (putsJ fun k : Nat => atF d.1 d.2 k).length
        · rw [if_pos e, putsS_get _ e]
          have e' : i < ((atF d.1 d.2 ((1 : Nat) : Int)).drop 3).length := by rw [putsJ_len] at e; exact e
          rw [putsJ_get _ i e']
          have hpl : plcsB ((atF d.1 d.2 ((1 : Nat) : Int)).drop 3) = true := by
            unfold foundB at hf
            rw [Bool.and_eq_true, Bool.and_eq_true] at hf
            exact hf.2.2
          obtain ⟨p1, p2⟩ := plcB_of hpl e'
          unfold stepF
          rw [if_neg (by simp), if_neg (by show ¬ (_ < (0 : Int) ∨ (47 : Int) ≤ _); dsimp only; omega)]
          exact atF_good hg _
        · rw [if_neg e]
          exact super_ok _ hs0 hs1 _ (by have : (superS (seqR d).2).length = 3 := rfl; omega)
  · rw [planR_bad h0] at hi; exact absurd hi (by simp)
theorem plan_few (d : DK) : (planR d).2.length ≤ 120 := by
  have h10 := scanR_ten d
  unfold planR
  by_cases h0 : (scanR d).1 = 0
  · rw [if_pos h0]
    by_cases hf : (scanR d).2.1 = true ∧ ¬ (seqR d).2 = 60000
    · rw [if_pos hf]
      show (homeS (seqR d).2 (scanR d).2.2).length ≤ 120
      unfold homeS; rw [List.length_append, putsS_len]
      show _ + 3 ≤ 120; omega
    · rw [if_neg hf]; simp
  · rw [if_neg h0]; simp
theorem take_get (l : List SD) {k i : Nat} (hi : i < k) : (l.take k)[i]?.getD sd0 = l[i]?.getD sd0 := by rw [List.getElem?_take, if_pos hi]
theorem AtStp.take {w : World} {a : Option Addr} {n : Nat} {l : List SD} (h : AtStp w a n l) {k : Nat} (hk : k ≤ n) : AtStp w a k (l.take k) := fun i hi => by
  rw [take_get l hi]; exact h i (by omega)
/-- A plan done in part, and then a crash. -/
def cutR (d : DK) (p : Int × List SD) (k : Int) (bb : List Bool) : Int × DK :=
  if p.1 = 0 then (if 0 ≤ k ∧ k ≤ (p.2.length : Int) then (if (runsR (p.2.take k.toNat) d).1 = 0 then crashR (runsR (p.2.take k.toNat) d).2 bb else runsR (p.2.take k.toNat) d) else (3, [], [])) else (p.1, [], [])
def crashMR (d : DK) (k : Int) (bb : List Bool) : Int × DK := cutR d (planR d) k bb
theorem runs_size {l : List SD} {d : DK} (hst : ∀ i, i < l.length → stepF (l[i]?.getD sd0) = 0) (h : (runsR l d).1 = 0) : sizeDisk (runsR l d).2 ≤ 1048576 := by
  unfold runsR at h ⊢
  by_cases h0 : sizF d = 0
  · rw [if_pos h0] at h ⊢
    exact (good_run (GoodD.of h0) hst l.length (Nat.le_refl _) h).size
  · rw [if_neg h0] at h; exact absurd h h0
theorem runs_code {l : List SD} {d : DK} (h : ¬ (runsR l d).1 = 0) : runsR l d = ((runsR l d).1, [], []) := by
  unfold runsR at h ⊢
  by_cases h0 : sizF d = 0
  · rw [if_pos h0] at h ⊢
    have := runJ_code l.length h
    unfold runD
    rw [this]
  · rw [if_neg h0]
theorem cut_steps {d : DK} {k : Nat} (i : Nat) (hi : i < ((planR d).2.take k).length) : stepF (((planR d).2.take k)[i]?.getD sd0) = 0 := by
  rw [List.length_take] at hi
  rw [take_get _ (by omega)]
  exact plan_ok i (by omega)
theorem crashMR_span (d : DK) (k : Int) (bb : List Bool) : spanDisk (crashMR d k bb).2 ≤ 70000000 := by
  have hz : spanDisk (([], []) : DK) ≤ 70000000 := by simp [spanDisk, dspan, wlens]
  unfold crashMR cutR
  split
  · split
    · split
      · rename_i h
        exact keepSpan _ _ (runs_size (fun i hi => cut_steps i hi) h)
      · rename_i h
        rw [runs_code h]; exact hz
    · exact hz
  · exact hz
theorem slice_takeS (a : Option Addr) (n c k : Nat) (hk : k ≤ n) (hc : n ≤ c) (W : World) : (Instr.slice 46 (.slice a n c) none (some (.int .i64 (k : Int))) none).run Try.prog W = .ok (.slice a k c) W := by
  obtain ⟨i, hi, i1, h2, _⟩ := Try.infoStp'
  have h3 : ¬ c < k := by omega
  cases a with
  | none => simp [Instr.slice, Instr.sliceBounds, Instr.sliceBound, asIntOf, run_underlying Try.underlying46, sizeOf, typeInfo, hi, h3]
  | some ad =>
    simp [Instr.slice, Instr.sliceBounds, Instr.sliceBound, asIntOf, run_underlying Try.underlying46, sizeOf, typeInfo, hi]
    rw [if_pos (by omega)]
    split
    · rfl
    · simp [Addr.add]
end Go.Proofs.Ytpmndmkmfcoieaa

namespace Go.Proofs.Ytpmndmkmfcoieaa
open Go.RowKit
set_option maxRecDepth 100000

/-- An answer's disk in a box that was made ahead of the call or behind it. -/
def Dned (W0 wx : World) (r : Int × DK) (g : Nat) (aB : Option Addr) (nB cB : Nat) (aC : Option Addr) (nC cC : Nat) : Prop :=
  Below W0.heap.size W0 wx ∧ W0.heap.size ≤ g ∧ Bx wx g [.int .i64 r.1, .slice aB nB cB, .slice aC nC cC] ∧ DiskU wx (.slice aB nB cB) (.slice aC nC cC) r.2 (fun b => W0.heap.size ≤ b ∧ b < wx.heap.size ∧ b ≠ g)
theorem Dned.after {W0 W1 w1 : World} {r : Int × DK} {aB aC : Option Addr} {nB cB nC cC : Nat} (h0 : Below W0.heap.size W0 W1) (hb : Below W1.heap.size W1 w1) (ho : DiskU w1 (.slice aB nB cB) (.slice aC nC cC) r.2 (fresh W1 w1)) (t : TypeId) : Dned W0 (w1.alloc (.cells #[.int .i64 r.1, .slice aB nB cB, .slice aC nC cC] t)) r w1.heap.size aB nB cB aC nC cC := by
  have hw := h0.trans (hb.mono h0.size)
  refine ⟨hw.trans ((later1 _ _).mono hw.size), hw.size, Bx.new w1 [.int .i64 r.1, .slice aB nB cB, .slice aC nC cC] t, (ho.later (later1 _ _)).mono fun c hh => ?_⟩
  have := hh.1
  have := hh.2
  have := h0.size
  exact ⟨by omega, by simp; omega, by omega⟩
theorem Dned.ahead {W0 W1 w1 : World} {r : Int × DK} {g : Nat} {aB aC : Option Addr} {nB cB nC cC : Nat} (h0 : Below W0.heap.size W0 W1) (hg : W0.heap.size ≤ g) (hg1 : g < W1.heap.size) (f : Nat → Value) (hr : OwnRow W1 g 3 f) (hb : Below W1.heap.size W1 w1) (ho : DiskU w1 (.slice aB nB cB) (.slice aC nC cC) r.2 (fresh W1 w1)) : Dned W0 (((w1.setCell ⟨g, 0, none⟩ (.int .i64 r.1)).setCell ⟨g, 1, none⟩ (.slice aB nB cB)).setCell ⟨g, 2, none⟩ (.slice aC nC cC)) r g aB nB cB aC nC cC := by
  have hw := h0.trans (hb.mono h0.size)
  have hr1 := (((hr.later hb).set 0 (.int .i64 r.1)).set 1 (.slice aB nB cB)).set 2 (.slice aC nC cC)
  refine ⟨((hw.setCell hg _).setCell hg _).setCell hg _, hg, fun i v e => ?_, (ho.keep fun c hh _ => ?_).mono fun c hh => ?_⟩
  · match i, e with
    | 0, e => have := hr1.cell (i := 0) (by omega); simp at this; rw [this]; simpa using e
    | 1, e => have := hr1.cell (i := 1) (by omega); simp at this; rw [this]; simpa using e
    | 2, e => have := hr1.cell (i := 2) (by omega); simp at this; rw [this]; simpa using e
    | i + 3, e => simp at e
  · have := hh.1
    rw [Below.heap_setCell _ _ _ _ (show c ≠ g by omega), Below.heap_setCell _ _ _ _ (show c ≠ g by omega), Below.heap_setCell _ _ _ _ (show c ≠ g by omega)]
  · have e1 := hh.1
    have e2 := hh.2
    have e3 := h0.size
    exact ⟨by omega, by simpa [World.setCell] using e2, by omega⟩

set_option maxHeartbeats 6400000 in
theorem implCutU (w : World) (a1 : Option Addr) (n1 c1 : Nat) (a2 : Option Addr) (n2 c2 : Nat) (d : DK) (p0 : Int) (aS : Option Addr) (nS cS : Nat) (l : List SD) (x : Int) (aP : Option Addr) (nP cP : Nat) (bb : List Bool) (h : DiskR w (.slice a1 n1 c1) (.slice a2 n2 c2) d) (hs : sizeDisk d ≤ 1048576) (hl : AtStp w aS nS l) (hn : l.length = nS) (hc : nS ≤ cS) (hm : nS ≤ 120) (hst : ∀ i, i < nS → stepF (l[i]?.getD sd0) = 0) (hb : Bools w (.slice aP nP cP) bb) (hbl : bb.length ≤ 1048576) :
    Calls Try.prog 22 #[.agg #[.slice a1 n1 c1, .slice a2 n2 c2], .agg #[.int .i64 p0, .slice aS nS cS], .int .i64 x, .slice aP nP cP] w (AnsDR w (cutR d (p0, l) x bb)) := by
  have HBAD : Hid (¬ p0 = 0 → cutR d (p0, l) x bb = (p0, [], [])) := fun h0 => by unfold cutR; rw [if_neg h0]
  have HRNG : Hid (p0 = 0 → ¬ (0 ≤ x ∧ x ≤ (nS : Int)) → cutR d (p0, l) x bb = (3, [], [])) := fun h0 h1 => by unfold cutR; rw [if_pos h0, if_neg (by rw [show ((p0, l) : Int × List SD).2.length = nS from hn]; exact h1)]
  have HOK : Hid (p0 = 0 → ∀ k : Nat, x = (k : Int) → k ≤ nS → cutR d (p0, l) x bb = if (runsR (l.take k) d).1 = 0 then crashR (runsR (l.take k) d).2 bb else runsR (l.take k) d) := fun h0 k e hk => by
    unfold cutR
    rw [if_pos h0, if_pos (by rw [show ((p0, l) : Int × List SD).2.length = nS from hn]; omega), e, Int.toNat_natCast]
  have HTK : Hid (∀ k, k ≤ nS → ∀ i, i < (l.take k).length → stepF ((l.take k)[i]?.getD sd0) = 0) := fun k hk i hi => by
    rw [List.length_take] at hi
    rw [take_get _ (by omega)]
    exact hst i (by omega)
  have HSM : Hid (∀ k, k ≤ nS → (runsR (l.take k) d).1 = 0 → sizeDisk (runsR (l.take k) d).2 ≤ 1048576) := fun k hk h0 => runs_size (HTK.out k hk) h0
  have HRN : Hid (∀ k, k ≤ nS → ∀ W, Below w.heap.size w W → Calls Try.prog 40 #[.agg #[.slice a1 n1 c1, .slice a2 n2 c2], .slice aS k cS] W (AnsDR W ((runsR (l.take k) d).1, (runsR (l.take k) d).2))) := fun k hk W hW => implRunU W _ _ _ _ _ _ d aS k cS (l.take k) (h.later hW) ((hl.later hW).take hk) (by rw [List.length_take]; omega) (by omega) (fun i hi => HTK.out k hk i (by rw [List.length_take]; omega)) hs
  have HCR : Hid (∀ W aB nB cB aC nC cC RD, Below w.heap.size w W → DiskR W (.slice aB nB cB) (.slice aC nC cC) RD → sizeDisk RD ≤ 1048576 → Calls Try.prog 41 #[.agg #[.slice aB nB cB, .slice aC nC cC], .slice aP nP cP] W (AnsDR W ((crashR RD bb).1, (crashR RD bb).2))) := fun W aB nB cB aC nC cC RD hW hr hz => implCrashU W _ _ _ _ _ _ RD aP nP cP bb hr (hb.later hW) hz hbl
  have HCC : Hid (nS ≤ cS) := hc
  clear h hl hs hst hb hbl hn hc
  generalize cutR d (p0, l) x bb = RES at *
  have HB0 : Hid (Below w.heap.size w (((w.alloc (.cells #[.slice a1 n1 c1, .slice a2 n2 c2] 30)).alloc (.cells #[.int .i64 p0, .slice aS nS cS] 48)).alloc (.cells #[.int .i64 0, .slice none 0 0, .slice none 0 0] 32))) := later3 _ _ _ _
  have HD0 : Hid (Bx (((w.alloc (.cells #[.slice a1 n1 c1, .slice a2 n2 c2] 30)).alloc (.cells #[.int .i64 p0, .slice aS nS cS] 48)).alloc (.cells #[.int .i64 0, .slice none 0 0, .slice none 0 0] 32)) (w.heap.size) [.slice a1 n1 c1, .slice a2 n2 c2]) := (Bx.new w [.slice a1 n1 c1, .slice a2 n2 c2] _).later (later2 _ _ _)
  have HX0 : Hid (Bx (((w.alloc (.cells #[.slice a1 n1 c1, .slice a2 n2 c2] 30)).alloc (.cells #[.int .i64 p0, .slice aS nS cS] 48)).alloc (.cells #[.int .i64 0, .slice none 0 0, .slice none 0 0] 32)) (w.heap.size + 1) [.int .i64 p0, .slice aS nS cS]) := ((show Bx ((w.alloc (.cells #[.slice a1 n1 c1, .slice a2 n2 c2] 30)).alloc (.cells #[.int .i64 p0, .slice aS nS cS] 48)) (w.heap.size + 1) [.int .i64 p0, .slice aS nS cS] from by have := Bx.new (w.alloc (.cells #[.slice a1 n1 c1, .slice a2 n2 c2] 30)) [.int .i64 p0, .slice aS nS cS] 48; rw [World.size_alloc] at this; exact this)).later (later1 _ _)
  have HR0 : Hid (OwnRow (((w.alloc (.cells #[.slice a1 n1 c1, .slice a2 n2 c2] 30)).alloc (.cells #[.int .i64 p0, .slice aS nS cS] 48)).alloc (.cells #[.int .i64 0, .slice none 0 0, .slice none 0 0] 32)) (w.heap.size + 2) 3 (cel [.int .i64 0, .slice none 0 0, .slice none 0 0])) := (show OwnRow (((w.alloc (.cells #[.slice a1 n1 c1, .slice a2 n2 c2] 30)).alloc (.cells #[.int .i64 p0, .slice aS nS cS] 48)).alloc (.cells #[.int .i64 0, .slice none 0 0, .slice none 0 0] 32)) (w.heap.size + 2) 3 (cel [.int .i64 0, .slice none 0 0, .slice none 0 0]) from by have := newCel ((w.alloc (.cells #[.slice a1 n1 c1, .slice a2 n2 c2] 30)).alloc (.cells #[.int .i64 p0, .slice aS nS cS] 48)) [.int .i64 0, .slice none 0 0, .slice none 0 0] 32; simp only [World.size_alloc, Nat.add_assoc] at this; exact this)
  go_enter Try.func22, Try.ntmps22
  by_cases hf : p0 = 0
  · skip
    have hfb : (p0 != 0) = false := by simpa using hf
    by_cases hx : 0 ≤ x ∧ x ≤ (nS : Int)
    · skip
      obtain ⟨k, rfl⟩ : ∃ k : Nat, x = (k : Int) := ⟨x.toNat, by omega⟩
      have hk : k ≤ nS := by omega
      have hx1 : (decide ((k : Int) < 0) || decide ((nS : Int) < (k : Int))) = false := by simp; omega
      have hslc := slice_takeS aS nS cS k hk HCC.out
      replace HOK : Hid _ := HOK.out hf k rfl hk
      replace HSM : Hid _ := HSM.out k hk
      replace HRN : Hid _ := HRN.out k hk
      clear HBAD HRNG HTK HCC hf hx
      generalize runsR (l.take k) d = RR at *
      obtain ⟨rc, RD⟩ := RR
      have xHX0 := HX0.out 0 _ rfl
      have xHX1 := HX0.out 1 _ rfl
      have xHD0 := HD0.out 0 _ rfl
      have xHD1 := HD0.out 1 _ rfl
      go_wp2_with fail
      clear xHX0 xHX1 xHD0 xHD1
      generalize (((w.alloc (.cells #[.slice a1 n1 c1, .slice a2 n2 c2] 30)).alloc (.cells #[.int .i64 p0, .slice aS nS cS] 48)).alloc (.cells #[.int .i64 0, .slice none 0 0, .slice none 0 0] 32)) = W0 at *
      have HA1 : Hid (Below W0.heap.size W0 W0.drew) := (Below.refl _ _).drew
      have HA2 : Hid (Below W0.heap.size W0 (W0.drew.alloc (.cells #[.int .i64 0, .slice none 0 0, .slice none 0 0] 32))) := (Below.refl _ _).drew.trans (later1 W0.drew _)
      have HZ2 : Hid (OwnRow (W0.drew.alloc (.cells #[.int .i64 0, .slice none 0 0, .slice none 0 0] 32)) W0.heap.size 3 (cel [.int .i64 0, .slice none 0 0, .slice none 0 0])) := newCel W0.drew [.int .i64 0, .slice none 0 0, .slice none 0 0] _
      have HR1 : Hid (∀ W, Below W0.heap.size W0 W → Calls Try.prog 40 #[.agg #[.slice a1 n1 c1, .slice a2 n2 c2], .slice aS k cS] W (AnsDR W (rc, RD))) := fun W hW => HRN.out W (HB0.out.trans (hW.mono HB0.out.size))
      clear HRN
      go_cut [9] from 26 (fun s9 wx => ∃ g aB nB cB aC nC cC, s9 = .pointer (some ⟨g, 0, none⟩) ∧ Dned W0 wx (rc, RD) g aB nB cB aC nC cC)
      case first =>
        have hl2 : w.heap.size + 2 < W0.heap.size := HR0.out.lt
        have hl1 : w.heap.size + 1 < W0.heap.size := by omega
        have hl0 : w.heap.size < W0.heap.size := by omega
        have x0 := HX0.out 0 _ rfl
        have x1 := HX0.out 1 _ rfl
        have x2 := HD0.out 0 _ rfl
        have x3 := HD0.out 1 _ rfl
        go_wp2_with fail
        go_region_law (try go_simp; first
          | (go_at_call 40; refine (HR1.out W0.drew HA1.out).mono ?_; rintro e w2 ⟨aB, nB, cB, aC, nC, cC, rfl, hb2, ho2⟩
             have HPA : Hid (∀ t, Dned W0 (w2.alloc (.cells #[.int .i64 rc, .slice aB nB cB, .slice aC nC cC] t)) (rc, RD) w2.heap.size aB nB cB aC nC cC) := fun t => Dned.after HA1.out hb2 ho2 t
             clear hb2 ho2)
          | (go_at_call 40; refine (HR1.out (W0.drew.alloc (.cells #[.int .i64 0, .slice none 0 0, .slice none 0 0] 32)) HA2.out).mono ?_; rintro e w2 ⟨aB, nB, cB, aC, nC, cC, rfl, hb2, ho2⟩
             have HRW : Hid (OwnRow w2 W0.heap.size 3 (cel [.int .i64 0, .slice none 0 0, .slice none 0 0])) := HZ2.out.later hb2
             have t0 : w2.cell? ⟨W0.heap.size, 0, none⟩ = some (.int .i64 0) := HRW.out.cell (i := 0) (by decide)
             have t1 : w2.cell? ⟨W0.heap.size, 1, none⟩ = some (.slice none 0 0) := HRW.out.cell (i := 1) (by decide)
             have t2 : w2.cell? ⟨W0.heap.size, 2, none⟩ = some (.slice none 0 0) := HRW.out.cell (i := 2) (by decide)
             have s0 : w2.frozen? ⟨W0.heap.size, 0, none⟩ = false := HRW.out.frozen 0
             have s1 : w2.frozen? ⟨W0.heap.size, 1, none⟩ = false := HRW.out.frozen 1
             have s2 : w2.frozen? ⟨W0.heap.size, 2, none⟩ = false := HRW.out.frozen 2
             have hlg : W0.heap.size < w2.heap.size := HRW.out.lt
             have HPA : Hid (Dned W0 (((w2.setCell ⟨W0.heap.size, 0, none⟩ (.int .i64 rc)).setCell ⟨W0.heap.size, 1, none⟩ (.slice aB nB cB)).setCell ⟨W0.heap.size, 2, none⟩ (.slice aC nC cC)) (rc, RD) W0.heap.size aB nB cB aC nC cC) := Dned.ahead (r := (rc, RD)) HA2.out (Nat.le_refl _) HZ2.out.lt _ HZ2.out hb2 ho2
             clear hb2 ho2)
          )
        all_goals
          go_wp2
          go_meet
          case rel => first | exact ⟨_, aB, nB, cB, aC, nC, cC, rfl, HPA.out _⟩ | exact ⟨_, aB, nB, cB, aC, nC, cC, rfl, HPA.out⟩
      case rest =>
        obtain ⟨g, aB, nB, cB, aC, nC, cC, rfl, hpk⟩ := hcut
        obtain ⟨hb, hgW, hbx, hio⟩ := hpk
        clear hslc HA1 HA2 HZ2 HR1
        have HRL : Hid (w.heap.size + 2 < W0.heap.size) := HR0.out.lt
        have HGW : Hid (W0.heap.size ≤ g) := hgW
        have HSW : Hid (W0.heap.size ≤ wc.heap.size) := hb.size
        clear hgW
        have HB1 : Hid (Below w.heap.size w wc) := HB0.out.trans (hb.mono HB0.out.size)
        have HD1 : Hid (Bx wc (w.heap.size) [.slice a1 n1 c1, .slice a2 n2 c2]) := HD0.out.later hb
        have HX1 : Hid (Bx wc (w.heap.size + 1) [.int .i64 p0, .slice aS nS cS]) := HX0.out.later hb
        have HR1 : Hid (OwnRow wc (w.heap.size + 2) 3 (cel [.int .i64 0, .slice none 0 0, .slice none 0 0])) := HR0.out.later hb
        clear hb
        have hgl : g < wc.heap.size := hbx.lt
        have HG1 : Hid (Bx wc g [.int .i64 rc, .slice aB nB cB, .slice aC nC cC]) := hbx
        have HO1 : Hid (DiskU wc (.slice aB nB cB) (.slice aC nC cC) RD (fun b => W0.heap.size ≤ b ∧ b < wc.heap.size ∧ b ≠ g)) := hio
        clear hbx hio
        by_cases hr : rc = 0
        · skip
          have hrb : (rc != 0) = false := by simpa using hr
          have HE : Hid (RES = crashR RD bb) := by have := HOK.out; unfold Hid; rw [this]; exact if_pos hr
          replace HSM : Hid (sizeDisk RD ≤ 1048576) := HSM.out hr
          clear HOK
          have HCN : Hid (Calls Try.prog 41 #[.agg #[.slice aB nB cB, .slice aC nC cC], .slice aP nP cP] wc (AnsDR wc ((crashR RD bb).1, (crashR RD bb).2))) := HCR.out wc _ _ _ _ _ _ RD HB1.out HO1.out.reads HSM.out
          clear HCR HSM hr
          have HE2 : Hid (RES = ((crashR RD bb).1, (crashR RD bb).2)) := HE.out
          clear HE
          generalize (crashR RD bb).1 = qc at *
          generalize (crashR RD bb).2 = qd at *
          have xHG0 := HG1.out 0 _ rfl
          have xHG1 := HG1.out 1 _ rfl
          have xHG2 := HG1.out 2 _ rfl
          go_wp2_with fail
          clear xHG0 xHG1 xHG2
          refine HCN.out.mono ?_
          rintro e w3 ⟨aE, nE, cE, aF, nF, cF, rfl, hb, hdu⟩
          have HRL2 : Hid (w.heap.size + 2 < wc.heap.size) := by have := HRL.out; have := HSW.out; unfold Hid; omega
          have HDK : Hid (DiskU w3 (.slice aE nE cE) (.slice aF nF cF) qd (fun b => w.heap.size + 2 < b ∧ b < w3.heap.size)) := hdu.mono fun b hb' => ⟨by have := hb'.1; have := HRL2.out; omega, hb'.2⟩
          clear hdu HCN
          have HB2 : Hid (Below w.heap.size w w3) := HB1.out.trans (hb.mono HB1.out.size)
          have HD2 : Hid (Bx w3 (w.heap.size) [.slice a1 n1 c1, .slice a2 n2 c2]) := HD1.out.later hb
          have HX2 : Hid (Bx w3 (w.heap.size + 1) [.int .i64 p0, .slice aS nS cS]) := HX1.out.later hb
          have HR2 : Hid (OwnRow w3 (w.heap.size + 2) 3 (cel [.int .i64 0, .slice none 0 0, .slice none 0 0])) := HR1.out.later hb
          have HG2 : Hid (Bx w3 g [.int .i64 rc, .slice aB nB cB, .slice aC nC cC]) := HG1.out.later hb
          have HO2 : Hid (DiskU w3 (.slice aB nB cB) (.slice aC nC cC) RD (fun b => W0.heap.size ≤ b ∧ b < wc.heap.size ∧ b ≠ g)) := HO1.out.later hb
          clear hb
          have hrr := HR2.out
          have t0 : w3.cell? ⟨w.heap.size + 2, 0, none⟩ = some (.int .i64 0) := hrr.cell (i := 0) (by omega)
          have t1 : w3.cell? ⟨w.heap.size + 2, 1, none⟩ = some (.slice none 0 0) := hrr.cell (i := 1) (by omega)
          have t2 : w3.cell? ⟨w.heap.size + 2, 2, none⟩ = some (.slice none 0 0) := hrr.cell (i := 2) (by omega)
          have f0 := hrr.frozen 0
          have f1 := hrr.frozen 1
          have f2 := hrr.frozen 2
          have hlr := hrr.lt
          clear hrr
          go_wp2
          exact bodyPost_ret (v := .agg #[.int .i64 qc, .slice aE nE cE, .slice aF nF cF]) (by simp [results, Try.results22, go_sem, t0, t1, t2]) rfl (by rw [HE2.out]; exact AnsDR.put3 HB2.out (by omega) HDK.out _ _ _)
        · skip
          have hrb : (rc != 0) = true := by simpa using hr
          have HE : Hid (RES = (rc, RD)) := by have := HOK.out; unfold Hid; rw [this]; exact if_neg hr
          clear HOK HSM HCR hr
          have xHG0 := HG1.out 0 _ rfl
          have xHG1 := HG1.out 1 _ rfl
          have xHG2 := HG1.out 2 _ rfl
          have hrr := HR1.out
          have t0 : wc.cell? ⟨w.heap.size + 2, 0, none⟩ = some (.int .i64 0) := hrr.cell (i := 0) (by omega)
          have t1 : wc.cell? ⟨w.heap.size + 2, 1, none⟩ = some (.slice none 0 0) := hrr.cell (i := 1) (by omega)
          have t2 : wc.cell? ⟨w.heap.size + 2, 2, none⟩ = some (.slice none 0 0) := hrr.cell (i := 2) (by omega)
          have f0 := hrr.frozen 0
          have f1 := hrr.frozen 1
          have f2 := hrr.frozen 2
          have hlr := hrr.lt
          clear hrr
          go_wp2
          exact bodyPost_ret (v := .agg #[.int .i64 rc, .slice aB nB cB, .slice aC nC cC]) (by simp [results, Try.results22, go_sem, t0, t1, t2]) rfl (by rw [HE.out]; exact AnsDR.put3 HB1.out (by omega) (HO1.out.mono fun b hb' => ⟨by have := HRL.out; have := hb'.1; omega, hb'.2.1⟩) _ _ _)
    · skip
      have HE : Hid (RES = (3, [], [])) := HRNG.out hf hx
      have hxb : (decide (x < 0) || decide ((nS : Int) < x)) = true := by simp; omega
      clear HBAD HRNG HOK HTK HSM HRN HCR HCC hf hx
      have xHX0 := HX0.out 0 _ rfl
      have xHX1 := HX0.out 1 _ rfl
      have hrr := HR0.out
      have t0 : (((w.alloc (.cells #[.slice a1 n1 c1, .slice a2 n2 c2] 30)).alloc (.cells #[.int .i64 p0, .slice aS nS cS] 48)).alloc (.cells #[.int .i64 0, .slice none 0 0, .slice none 0 0] 32)).cell? ⟨w.heap.size + 2, 0, none⟩ = some (.int .i64 0) := hrr.cell (i := 0) (by omega)
      have t1 : (((w.alloc (.cells #[.slice a1 n1 c1, .slice a2 n2 c2] 30)).alloc (.cells #[.int .i64 p0, .slice aS nS cS] 48)).alloc (.cells #[.int .i64 0, .slice none 0 0, .slice none 0 0] 32)).cell? ⟨w.heap.size + 2, 1, none⟩ = some (.slice none 0 0) := hrr.cell (i := 1) (by omega)
      have t2 : (((w.alloc (.cells #[.slice a1 n1 c1, .slice a2 n2 c2] 30)).alloc (.cells #[.int .i64 p0, .slice aS nS cS] 48)).alloc (.cells #[.int .i64 0, .slice none 0 0, .slice none 0 0] 32)).cell? ⟨w.heap.size + 2, 2, none⟩ = some (.slice none 0 0) := hrr.cell (i := 2) (by omega)
      have f0 := hrr.frozen 0
      have f1 := hrr.frozen 1
      have f2 := hrr.frozen 2
      have hlr := hrr.lt
      clear hrr
      go_wp2
      all_goals exact bodyPost_ret (v := .agg #[.int .i64 3, .slice none 0 0, .slice none 0 0]) (by simp [results, Try.results22, go_sem]) rfl (by rw [HE.out]; exact ⟨none, 0, 0, none, 0, 0, rfl, later3 _ _ _ _, DiskU.none' _ _⟩)
  · skip
    have hfb : (p0 != 0) = true := by simpa using hf
    have HE : Hid (RES = (p0, [], [])) := HBAD.out hf
    clear HBAD HRNG HOK HTK HSM HRN HCR HCC hf
    have xHX0 := HX0.out 0 _ rfl
    have xHX1 := HX0.out 1 _ rfl
    have hrr := HR0.out
    have t0 : (((w.alloc (.cells #[.slice a1 n1 c1, .slice a2 n2 c2] 30)).alloc (.cells #[.int .i64 p0, .slice aS nS cS] 48)).alloc (.cells #[.int .i64 0, .slice none 0 0, .slice none 0 0] 32)).cell? ⟨w.heap.size + 2, 0, none⟩ = some (.int .i64 0) := hrr.cell (i := 0) (by omega)
    have t1 : (((w.alloc (.cells #[.slice a1 n1 c1, .slice a2 n2 c2] 30)).alloc (.cells #[.int .i64 p0, .slice aS nS cS] 48)).alloc (.cells #[.int .i64 0, .slice none 0 0, .slice none 0 0] 32)).cell? ⟨w.heap.size + 2, 1, none⟩ = some (.slice none 0 0) := hrr.cell (i := 1) (by omega)
    have t2 : (((w.alloc (.cells #[.slice a1 n1 c1, .slice a2 n2 c2] 30)).alloc (.cells #[.int .i64 p0, .slice aS nS cS] 48)).alloc (.cells #[.int .i64 0, .slice none 0 0, .slice none 0 0] 32)).cell? ⟨w.heap.size + 2, 2, none⟩ = some (.slice none 0 0) := hrr.cell (i := 2) (by omega)
    have f0 := hrr.frozen 0
    have f1 := hrr.frozen 1
    have f2 := hrr.frozen 2
    have hlr := hrr.lt
    clear hrr
    go_wp2
    all_goals exact bodyPost_ret (v := .agg #[.int .i64 p0, .slice none 0 0, .slice none 0 0]) (by simp [results, Try.results22, go_sem]) rfl (by rw [HE.out]; exact ⟨none, 0, 0, none, 0, 0, rfl, later3 _ _ _ _, DiskU.none' _ _⟩)

end Go.Proofs.Ytpmndmkmfcoieaa

namespace Go.Proofs.Ytpmndmkmfcoieaa
open Go.RowKit
set_option maxRecDepth 100000

set_option maxHeartbeats 1600000 in
theorem l13Steps_any (w : World) (a : Option Addr) (n c : Nat) (l : List SD) (hl : l.length = n) (hm : n ≤ maxLen) (hA : AtStp w a n l) (hz : ∀ k : Nat, sizeSte (l[k]?.getD sd0) ≤ 1048576) :
    Calls Try.prog 51 #[.slice a n c] w fun e w' => e = .returned (.int .i64 (stsF l)) ∧ Below w.heap.size w w' := by
  unfold maxLen at hm
  by_cases hb : 120 < n
  · have HE : Hid (stsF l = 2) := stsF_many (by omega)
    clear hA hz hl
    go_enter Try.func51, Try.ntmps51
    go_wp2
    go_ret
    exact ⟨ret_int HE.out.symm, Below.refl _ _⟩
  · have HN : Hid (l.length = n) := hl
    have HC : Hid (AtStp w a n l) := hA
    have HZ : Hid (∀ k : Nat, sizeSte (l[k]?.getD sd0) ≤ 1048576) := hz
    clear hl hA hz
    go_enter Try.func51, Try.ntmps51
    go_wp2
    go_loopw [3] (fun i wr => ∃ k : Nat, k ≤ n ∧ i = .int .i64 k ∧ Below w.heap.size w wr ∧ ∀ i, i < k → stepF (l[i]?.getD sd0) = 0) (fun i _ => n - (intOf i).toNat)
    case atStart => exact ⟨0, Nat.zero_le _, rfl, Below.refl _ _, fun i hi => by omega⟩
    case round =>
      obtain ⟨k, hk, rfl, hbl, ht⟩ := hrel
      have HT : Hid (∀ i, i < k → stepF (l[i]?.getD sd0) = 0) := ht
      have HBL : Hid (Below w.heap.size w wr) := hbl
      clear ht hbl
      by_cases hlt : k < n
      · obtain ⟨b, o, rfl, hI⟩ := HC.out k hlt
        obtain ⟨aW, cW, c0, c1, c2, hR⟩ := hI.later HBL.out
        have HS : Hid (∀ W, Below wr.heap.size wr W → Calls Try.prog 79 #[.agg #[.bool (l[k]?.getD sd0).1, .int .i64 (l[k]?.getD sd0).2.1, .slice aW (l[k]?.getD sd0).2.2.length cW]] W fun e w' => e = .returned (.int .i64 (stepF (l[k]?.getD sd0))) ∧ Below W.heap.size W w') := fun W hW => specStepFU W _ _ _ _ _ _ (hR.later hW) (HZ.out k)
        have HAT : Hid (¬ stepF (l[k]?.getD sd0) = 0 → stsF l = stepF (l[k]?.getD sd0)) := fun h => stsF_at (by rw [HN.out]; exact hb) HT.out (by rw [HN.out]; exact hlt) h
        have HMO : Hid (stepF (l[k]?.getD sd0) = 0 → ∀ i, i < k + 1 → stepF (l[i]?.getD sd0) = 0) := fun h i hi => by
          by_cases e : i = k
          · rw [e]; exact h
          · exact HT.out i (by omega)
        clear hI hR HC HZ HN HT
        generalize stepF (l[k]?.getD sd0) = r at *
        generalize (l[k]?.getD sd0).2.2.length = m1 at *
        generalize (l[k]?.getD sd0).1 = z0 at *
        generalize (l[k]?.getD sd0).2.1 = z1 at *
        go_wp2_with fail
        refine (HS.out _ (Below.refl _ _)).mono ?_
        rintro e w1 ⟨rfl, hb1⟩
        have HB1 : Hid (Below w.heap.size w w1) := HBL.out.trans (hb1.mono HBL.out.size)
        clear hb1
        by_cases hr : r = 0
        · have hr' : (r != 0) = false := by simpa using hr
          have HM : Hid (∀ i, i < k + 1 → stepF (l[i]?.getD sd0) = 0) := HMO.out hr
          clear hr HMO HAT
          go_wp2
          go_roundw
          case rel => exact ⟨k + 1, by omega, by go_num, HB1.out, HM.out⟩
          case measure => simp [intOf]; omega
        · have hr' : (r != 0) = true := by simpa using hr
          have HE : Hid (stsF l = r) := HAT.out hr
          clear hr HMO HAT
          go_wp2
          go_ret
          exact ⟨ret_int HE.out.symm, HB1.out⟩
      · go_wp2
        go_ret
        have e : k = n := by omega
        subst e
        exact ⟨ret_int (stsF_no (by rw [HN.out]; exact hb) fun i hi => HT.out i (by rw [HN.out] at hi; exact hi)).symm, HBL.out⟩

/-- Where a list has its commit's end; -1: nowhere. -/
def cmtZ (l : List SD) : Int := if fnd comB l < l.length then ((fnd comB l + fnd (·.1) (l.drop (fnd comB l)) : Nat) : Int) else -1
theorem cmtZ_no {l : List SD} (h : fnd comB l = l.length) : cmtZ l = -1 := by unfold cmtZ; rw [h, if_neg (Nat.lt_irrefl _)]
theorem cmtZ_at {l : List SD} {A k : Nat} (h : fnd comB l = A) (hA : A < l.length) (hk : A ≤ k) (hlt : k < l.length) (hz : ∀ i, A ≤ i → i < k → (l[i]?.getD sd0).1 = false) (hp : (l[k]?.getD sd0).1 = true) : cmtZ l = (k : Int) := by
  unfold cmtZ
  rw [h, if_pos hA, fnd_at (p := (·.1)) (l := l.drop A) (k := k - A) (by simp; omega) (fun i hi => by rw [drop_getD]; exact hz _ (by omega) (by omega)) (by rw [drop_getD, show A + (k - A) = k by omega]; exact hp)]
  rw [show A + (k - A) = k by omega]
theorem cmtZ_end {l : List SD} {A : Nat} (h : fnd comB l = A) (hA : A < l.length) (hz : ∀ i, A ≤ i → i < l.length → (l[i]?.getD sd0).1 = false) : cmtZ l = (l.length : Int) := by
  unfold cmtZ
  rw [h, if_pos hA, fnd_no (p := (·.1)) (l := l.drop A) fun i hi => by rw [drop_getD]; exact hz _ (by omega) (by rw [List.length_drop] at hi; omega)]
  rw [List.length_drop, show A + (l.length - A) = l.length by omega]
end Go.Proofs.Ytpmndmkmfcoieaa

namespace Go.Proofs.Ytpmndmkmfcoieaa
open Go.RowKit
set_option maxRecDepth 100000

/-- The first code that is not 0 of f 0, .., f (m - 1). -/
def firstNZ (f : Nat → Int) : Nat → Int
  | 0 => 0
  | m + 1 => if firstNZ f m = 0 then f m else firstNZ f m
theorem firstNZ_zero {f : Nat → Int} {m : Nat} (h : ∀ i, i < m → f i = 0) : firstNZ f m = 0 := by
  induction m with
  | zero => rfl
  | succ m ih => unfold firstNZ; rw [if_pos (ih fun i hi => h i (by omega))]; exact h m (by omega)
theorem firstNZ_at {f : Nat → Int} {m j : Nat} (h : ∀ i, i < j → f i = 0) (hj : j < m) (hf : ¬ f j = 0) : firstNZ f m = f j := by
  induction m with
  | zero => omega
  | succ m ih =>
    unfold firstNZ
    by_cases e : j = m
    · subst e; rw [if_pos (firstNZ_zero h)]
    · rw [ih (by omega), if_neg hf]
theorem firstNZ_all {f : Nat → Int} {m : Nat} (h : firstNZ f m = 0) : ∀ i, i < m → f i = 0 := by
  induction m with
  | zero => intro i hi; omega
  | succ m ih =>
    unfold firstNZ at h
    by_cases e : firstNZ f m = 0
    · rw [if_pos e] at h
      intro i hi
      by_cases e2 : i = m
      · subst e2; exact h
      · exact ih e i (by omega)
    · rw [if_neg e] at h; exact absurd h e

/-- An extent of a disk of n blocks is right. -/
def rightB (e : E3) (n : Nat) : Bool := decide (1 ≤ e.2.2 ∧ e.2.2 ≤ 9999) && (decide (0 ≤ e.1 ∧ e.1 ≤ (n : Int)) && (decide (1 ≤ e.2.1 ∧ e.2.1 ≤ (n : Int)) && decide (e.1 + e.2.1 ≤ (n : Int))))
theorem rightB_iff {e : E3} {n : Nat} : rightB e n = true ↔ (1 ≤ e.2.2 ∧ e.2.2 ≤ 9999) ∧ (0 ≤ e.1 ∧ e.1 ≤ (n : Int)) ∧ (1 ≤ e.2.1 ∧ e.2.1 ≤ (n : Int)) ∧ e.1 + e.2.1 ≤ (n : Int) := by simp [rightB]
def extAt (es : List E3) (i : Nat) : E3 := es[i]?.getD (0, 0, 0)
/-- The code of the extent at place i. -/
def extOne (es : List E3) (n i : Nat) : Int := if rightB (extAt es i) n = true then (if 0 < i ∧ (extAt es i).1 < (extAt es (i - 1)).1 + (extAt es (i - 1)).2.1 then 1 else 0) else 3
def kernF (d : (List (List Int) × List (Int × List Int)) × List E3) : Int := if faultF d.1.1 d.1.2 = 0 then (if 8 < d.2.length then 2 else firstNZ (extOne d.2 d.1.1.length) d.2.length) else faultF d.1.1 d.1.2
theorem kernF_disk {d : (List (List Int) × List (Int × List Int)) × List E3} (h : ¬ faultF d.1.1 d.1.2 = 0) : kernF d = faultF d.1.1 d.1.2 := by unfold kernF; rw [if_neg h]
theorem kernF_many {d : (List (List Int) × List (Int × List Int)) × List E3} (h : faultF d.1.1 d.1.2 = 0) (h8 : 8 < d.2.length) : kernF d = 2 := by unfold kernF; rw [if_pos h, if_pos h8]
theorem kernF_few {d : (List (List Int) × List (Int × List Int)) × List E3} (h : faultF d.1.1 d.1.2 = 0) (h8 : ¬ 8 < d.2.length) : kernF d = firstNZ (extOne d.2 d.1.1.length) d.2.length := by unfold kernF; rw [if_pos h, if_neg h8]
/-- Of a kern without a fault. -/
theorem kernF_ok {d : (List (List Int) × List (Int × List Int)) × List E3} (h : kernF d = 0) : faultF d.1.1 d.1.2 = 0 ∧ d.2.length ≤ 8 ∧ ∀ i, i < d.2.length → rightB (extAt d.2 i) d.1.1.length = true ∧ (0 < i → (extAt d.2 (i - 1)).1 + (extAt d.2 (i - 1)).2.1 ≤ (extAt d.2 i).1) := by
  by_cases h1 : faultF d.1.1 d.1.2 = 0
  · by_cases h2 : 8 < d.2.length
    · rw [kernF_many h1 h2] at h; omega
    · rw [kernF_few h1 h2] at h
      refine ⟨h1, by omega, fun i hi => ?_⟩
      have h3 := firstNZ_all h i hi
      unfold extOne at h3
      by_cases h4 : rightB (extAt d.2 i) d.1.1.length = true
      · rw [if_pos h4] at h3
        refine ⟨h4, fun h0 => ?_⟩
        by_cases h5 : 0 < i ∧ (extAt d.2 i).1 < (extAt d.2 (i - 1)).1 + (extAt d.2 (i - 1)).2.1
        · rw [if_pos h5] at h3; omega
        · omega
      · rw [if_neg h4] at h3; omega
  · rw [kernF_disk h1] at h; exact absurd h h1
end Go.Proofs.Ytpmndmkmfcoieaa

namespace Go.Proofs.Ytpmndmkmfcoieaa
open Go.RowKit
set_option maxRecDepth 100000

theorem OwnRow.newL (w : World) (vs : List Value) (t : TypeId) : OwnRow (w.alloc (.cells vs.toArray t)) w.heap.size vs.length (fun i => vs[i]?.getD (.bool false)) := by
  refine ⟨_, t, Go.Deep.blk_alloc_new _ _, by simp, fun i hi => ?_⟩
  simp [hi]
theorem resRowL {w w1 : World} (x : Obj) (vs : List Value) (t : TypeId) (h : Below ((w.alloc x).alloc (.cells vs.toArray t)).heap.size ((w.alloc x).alloc (.cells vs.toArray t)) w1) : OwnRow w1 (w.heap.size + 1) vs.length (fun i => vs[i]?.getD (.bool false)) := by
  have h2 := (OwnRow.newL (w.alloc x) vs t).later h
  rwa [World.size_alloc] at h2

def hasB (e : E3) (x : Int) : Bool := decide (e.1 ≤ x ∧ x < e.1 + e.2.1)
/-- The extent that has block x, or a zero one. -/
def ownE (es : List E3) (x : Int) : E3 := (es.find? fun e => hasB e x).getD (0, 0, 0)
theorem ownE_at {es : List E3} {x : Int} {j : Nat} (h : ∀ i, i < j → hasB (extAt es i) x = false) (hj : j < es.length) (hh : hasB (extAt es j) x = true) : ownE es x = extAt es j := by
  unfold ownE
  induction es generalizing j with
  | nil => simp at hj
  | cons a t ih =>
    cases j with
    | zero =>
      have : hasB a x = true := by simpa [extAt] using hh
      simp [this, extAt]
    | succ j =>
      have h0 : hasB a x = false := by simpa [extAt] using h 0 (by omega)
      simp only [List.find?_cons, h0]
      have := ih (j := j) (fun i hi => by simpa [extAt] using h (i + 1) (by omega)) (by simpa using hj) (by simpa [extAt] using hh)
      rw [this]; simp [extAt]
theorem ownE_none {es : List E3} {x : Int} (h : ∀ i, i < es.length → hasB (extAt es i) x = false) : ownE es x = (0, 0, 0) := by
  unfold ownE
  induction es with
  | nil => rfl
  | cons a t ih =>
    have h0 : hasB a x = false := by simpa [extAt] using h 0 (by simp)
    simp only [List.find?_cons, h0]
    exact ih fun i hi => by simpa [extAt] using h (i + 1) (by simpa using hi)
/-- Found, it is one of the list; else it is zero. -/
theorem ownE_cases (es : List E3) (x : Int) : (∃ j, j < es.length ∧ ownE es x = extAt es j) ∨ ownE es x = (0, 0, 0) := by
  unfold ownE
  cases h : es.find? fun e => hasB e x with
  | none => exact Or.inr rfl
  | some e =>
    have hm := List.mem_of_find?_eq_some h
    obtain ⟨j, hj, rfl⟩ := List.mem_iff_getElem.1 hm
    exact Or.inl ⟨j, hj, by simp [extAt, hj]⟩

/-- What OwnerOf answers. -/
def ownR (d : KD) (x : Int) : Int × Int := if kernF d = 0 then (if placeB d.1.1.length x = true then (if (ownE d.2 x).2.2 = 0 then (4, 0) else (0, (ownE d.2 x).2.2)) else (3, 0)) else (kernF d, 0)

end Go.Proofs.Ytpmndmkmfcoieaa

namespace Go.Proofs.Ytpmndmkmfcoieaa
open Go.RowKit
set_option maxRecDepth 100000

theorem KResU.of {w : World} {vW vB vC vE : Value} {ws : List Int} {d : DK} {es : List E3} {F1 F2 F3 F : Nat → Prop} (h1 : IntsO w vW ws F1) (h2 : DiskU w vB vC d F2) (h3 : ExtsO w vE es F3) (d12 : ∀ b, F1 b → ¬ F2 b) (d13 : ∀ b, F1 b → ¬ F3 b) (d23 : ∀ b, F2 b → ¬ F3 b) (hf : ∀ b, F1 b ∨ F2 b ∨ F3 b → F b) : KResU w vW vB vC vE (ws, d, es) F :=
  ⟨F1, fun b => F2 b ∨ F3 b, h1, ⟨F2, F3, h2, h3, d23, fun _ h => h⟩, fun b h h' => h'.elim (d12 b h) (d13 b h), hf⟩
theorem set5 {w : World} {β b : Nat} (v0 v1 v2 v3 v4 : Value) (hb : b ≠ β) : (((((w.setCell ⟨β, 0, none⟩ v0).setCell ⟨β, 1, none⟩ v1).setCell ⟨β, 2, none⟩ v2).setCell ⟨β, 3, none⟩ v3).setCell ⟨β, 4, none⟩ v4).heap[b]? = w.heap[b]? := by
  rw [Below.heap_setCell _ _ _ _ hb, Below.heap_setCell _ _ _ _ hb, Below.heap_setCell _ _ _ _ hb, Below.heap_setCell _ _ _ _ hb, Below.heap_setCell _ _ _ _ hb]
theorem ansK_ret {w W : World} {β : Nat} {code : Int} {aW : Option Addr} {nW cW : Nat} {aB : Option Addr} {nB cB : Nat} {aC : Option Addr} {nC cC : Nat} {aE : Option Addr} {nE cE : Nat} {d : KResD} {F : Nat → Prop} (hb : Below w.heap.size w W) (hβ : w.heap.size ≤ β) (h : KResU W (.slice aW nW cW) (.slice aB nB cB) (.slice aC nC cC) (.slice aE nE cE) d F) (hF : ∀ b, F b → w.heap.size ≤ b ∧ b < W.heap.size ∧ b ≠ β) :
    AnsKR w (code, d) (.returned (.agg #[.int .i64 code, .slice aW nW cW, .slice aB nB cB, .slice aC nC cC, .slice aE nE cE])) (((((W.setCell ⟨β, 0, none⟩ (.int .i64 code)).setCell ⟨β, 1, none⟩ (.slice aW nW cW)).setCell ⟨β, 2, none⟩ (.slice aB nB cB)).setCell ⟨β, 3, none⟩ (.slice aC nC cC)).setCell ⟨β, 4, none⟩ (.slice aE nE cE)) :=
  ⟨_, _, _, _, _, _, _, _, _, _, _, _, rfl, ((((hb.setCell hβ _).setCell hβ _).setCell hβ _).setCell hβ _).setCell hβ _, (h.keep fun b hf _ => set5 _ _ _ _ _ (hF b hf).2.2).mono fun b hf => ⟨(hF b hf).1, by simpa [World.setCell] using (hF b hf).2.1⟩⟩
theorem ansK_no {w W : World} {β : Nat} (hb : Below w.heap.size w W) (hβ : w.heap.size ≤ β) (code : Int) :
    AnsKR w (code, [], ([], []), []) (.returned (.agg #[.int .i64 code, .slice none 0 0, .slice none 0 0, .slice none 0 0, .slice none 0 0])) (((((W.setCell ⟨β, 0, none⟩ (.int .i64 code)).setCell ⟨β, 1, none⟩ (.slice none 0 0)).setCell ⟨β, 2, none⟩ (.slice none 0 0)).setCell ⟨β, 3, none⟩ (.slice none 0 0)).setCell ⟨β, 4, none⟩ (.slice none 0 0)) :=
  ansK_bad (((((hb.setCell hβ _).setCell hβ _).setCell hβ _).setCell hβ _).setCell hβ _) code

theorem AnsKR.later {w W W' : World} {r : Int × KResD} {e : Ending} (h : AnsKR w r e W) (hb : Below W.heap.size W W') : AnsKR w r e W' := by
  obtain ⟨aW, nW, cW, aB, nB, cB, aC, nC, cC, aE, nE, cE, h1, h2, h3⟩ := h
  exact ⟨aW, nW, cW, aB, nB, cB, aC, nC, cC, aE, nE, cE, h1, h2.trans (hb.mono h2.size), (h3.later hb).mono fun b hf => ⟨hf.1, Nat.lt_of_lt_of_le hf.2 hb.size⟩⟩

def newK (size : Int) : Int × KResD := (newCode size, [], (newBlocks size, []), [])
/-- The cells of an empty answer. -/
def zero5 : List Value := [.int .i64 0, .slice none 0 0, .slice none 0 0, .slice none 0 0, .slice none 0 0]

theorem newSpan (size : Int) : spanKRes (newK size).2 = 0 := by
  simp only [newK, spanKRes, spanKern, spanDisk, dspan, newBlocks]
  split <;> simp [wlens]
end Go.Proofs.Ytpmndmkmfcoieaa

namespace Go.Proofs.Ytpmndmkmfcoieaa
open Go.RowKit
set_option maxRecDepth 100000

/-- An answer that is a kern of its own memory. -/
def AnsKern (w : World) (d : KD) (e : Ending) (w' : World) : Prop := ∃ a1 n1 c1 a2 n2 c2 a3 n3 c3, e = .returned (.agg #[.slice a1 n1 c1, .slice a2 n2 c2, .slice a3 n3 c3]) ∧ Below w.heap.size w w' ∧ KernU w' (.slice a1 n1 c1) (.slice a2 n2 c2) (.slice a3 n3 c3) d (fresh w w')

theorem l1CopyU (hcp : L1CopySaid) (w : World) (aB aC : Option Addr) (cB cC : Nat) (bs : List (List Int)) (ps : List (Int × List Int)) (g1 : bs.length ≤ 60) (g2 : ps.length ≤ 200) (hz : ∀ k : Nat, (bs[k]?.getD []).length ≤ 1048576) (hzp : ∀ k : Nat, (ps[k]?.getD (0, [])).2.length ≤ 1048576) (hB : AtS w aB bs.length bs) (hP : AtP w aC ps.length ps) :
    Calls Try.prog 80 #[.agg #[.slice aB bs.length cB, .slice aC ps.length cC]] w fun e w' => ∃ aX nX cX aY nY cY, e = .returned (.agg #[.slice aX nX cX, .slice aY nY cY]) ∧ Below w.heap.size w w' ∧ DiskU w' (.slice aX nX cX) (.slice aY nY cY) (bs, ps) (fresh w w') := by
  refine (hcp w aB aC bs.length cB ps.length cC bs ps rfl rfl g1 g2 hz hzp hB hP).mono ?_
  rintro e w1 ⟨S, aX, cX, aY, cY, k, u, rfl, hb1, hS1, hS2, hio, hlr⟩
  refine ⟨_, _, _, _, _, _, rfl, hb1, fun c => w.heap.size ≤ c ∧ c < S, fun c => S ≤ c ∧ c < w1.heap.size, hio, ?_, fun b h1 h2 => by omega, fun b hb => ?_⟩
  · exact LRow.puts2 (ps := ps) hlr rfl _ (fun g hg => hlr.own.lt g hg) (fun i hi => hlr.lo i hi)
  · unfold fresh
    rcases hb with hb | hb <;> omega

end Go.Proofs.Ytpmndmkmfcoieaa
