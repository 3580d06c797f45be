
/- The walks of the program's look at a block. -/
import Derived.Test.YtojegkekafampahDrvB
import Derived.Test.YtojegkekafampahAtA
namespace Go.Proofs.Ytojegkekafampah
open Go.RowKit
set_option maxRecDepth 100000

theorem placeF_fault {bs : List (List Int)} {ps : List (Int × List Int)} {x : Int} (h : ¬ faultF bs ps = 0) : placeF bs ps x = faultF bs ps := by simp [placeF, h]
theorem placeF_no {bs : List (List Int)} {ps : List (Int × List Int)} {x : Int} (h : faultF bs ps = 0) (h2 : placeB bs.length x = false) : placeF bs ps x = 3 := by simp [placeF, h, h2]
theorem placeF_ok {bs : List (List Int)} {ps : List (Int × List Int)} {x : Int} (h : faultF bs ps = 0) (h2 : placeB bs.length x = true) : placeF bs ps x = 0 := by simp [placeF, h, h2]

set_option maxHeartbeats 800000 in
theorem placeFault_any (w : World) (aB : Option Addr) (cB : Nat) (vC : Value) (bs : List (List Int)) (ps : List (Int × List Int)) (x : Int) (hB : IntsS w (.slice aB bs.length cB) bs) (hP : Puts w vC ps) :
    Calls Try.prog 93 #[.agg #[.slice aB bs.length cB, vC], .int .i64 x] w fun e w' => e = .returned (.int .i64 (placeF bs ps x)) ∧ Below w.heap.size w w' := by
  have HB : Hid (IntsS w (.slice aB bs.length cB) bs) := hB
  have HP : Hid (Puts w vC ps) := hP
  clear hB hP
  generalize hF : faultF bs ps = F
  have HF : Hid (faultF bs ps = F) := hF
  clear hF
  by_cases hz : F = 0
  · subst hz
    cases hpl : placeB bs.length x
    · have HPL : Hid (placeB bs.length x = false) := hpl
      rw [placeF_no HF.out hpl]
      clear hpl
      go_enter Try.func93, Try.ntmps93
      go_wp2_with fail
      refine (fault_any _ _ _ bs ps (HB.out.later (later1 _ _)) (HP.out.later (later1 _ _))).mono ?_
      rw [HF.out]
      rintro e w1 ⟨rfl, hb1⟩
      have HX : Hid (Box2 w1 w.heap.size (.slice aB bs.length cB) vC) := (Box2.new _ _ _ _).later hb1
      have HW1 : Hid (Below w.heap.size w w1) := (later1 _ _).trans (hb1.mono (by simp))
      clear hb1
      obtain ⟨x0, x1⟩ := HX.out
      obtain ⟨aC, cC, hvC, _⟩ := HP.out.open'
      rw [hvC] at x1
      go_wp2_with fail
      refine (isPlace_any _ _ _ _ _ _).mono ?_
      rw [HPL.out]
      rintro e w2 ⟨rfl, hb2⟩
      have HW2 : Hid (Below w.heap.size w w2) := HW1.out.trans (hb2.mono HW1.out.size)
      clear hb2
      go_wp2
      go_ret
      exact ⟨rfl, HW2.out⟩
    · have HPL : Hid (placeB bs.length x = true) := hpl
      rw [placeF_ok HF.out hpl]
      clear hpl
      go_enter Try.func93, Try.ntmps93
      go_wp2_with fail
      refine (fault_any _ _ _ bs ps (HB.out.later (later1 _ _)) (HP.out.later (later1 _ _))).mono ?_
      rw [HF.out]
      rintro e w1 ⟨rfl, hb1⟩
      have HX : Hid (Box2 w1 w.heap.size (.slice aB bs.length cB) vC) := (Box2.new _ _ _ _).later hb1
      have HW1 : Hid (Below w.heap.size w w1) := (later1 _ _).trans (hb1.mono (by simp))
      clear hb1
      obtain ⟨x0, x1⟩ := HX.out
      obtain ⟨aC, cC, hvC, _⟩ := HP.out.open'
      rw [hvC] at x1
      go_wp2_with fail
      refine (isPlace_any _ _ _ _ _ _).mono ?_
      rw [HPL.out]
      rintro e w2 ⟨rfl, hb2⟩
      have HW2 : Hid (Below w.heap.size w w2) := HW1.out.trans (hb2.mono HW1.out.size)
      clear hb2
      go_wp2
      go_ret
      exact ⟨rfl, HW2.out⟩
  · have hne : (F != 0) = true := by simpa using hz
    rw [placeF_fault (by rw [HF.out]; exact hz), HF.out]
    go_enter Try.func93, Try.ntmps93
    go_wp2_with fail
    refine (fault_any _ _ _ bs ps (HB.out.later (later1 _ _)) (HP.out.later (later1 _ _))).mono ?_
    rw [HF.out]
    rintro e w1 ⟨rfl, hb1⟩
    have HW1 : Hid (Below w.heap.size w w1) := (later1 _ _).trans (hb1.mono (by simp))
    clear hb1
    go_wp2
    go_ret
    exact ⟨rfl, HW1.out⟩

/-- How the cache of a drive is read. -/
def AtC (w : World) (a : Option Addr) (n : Nat) (ps : List (Int × List Int)) : Prop :=
  ∀ i, i < n → ∃ g pb ua uc, a = some ⟨g, 0, none⟩ ∧ w.cell? ⟨g, i, none⟩ = some (.pointer (some ⟨pb, 0, none⟩)) ∧ w.cell? ⟨pb, 0, none⟩ = some (.int .i64 (ps[i]?.getD (0, [])).1) ∧ w.cell? ⟨pb, 1, none⟩ = some (.slice ua (ps[i]?.getD (0, [])).2.length uc) ∧ Ints w (.slice ua (ps[i]?.getD (0, [])).2.length uc) (ps[i]?.getD (0, [])).2
theorem Cache.at {w : World} {base n c : Nat} {a : Option Addr} {ps : List (Int × List Int)} {pb k : Nat → Nat} {u : Nat → Value} (h : Cache w base (.slice a n c) n (fun i => ps[i]?.getD (0, [])) pb k u) : AtC w a n ps := by
  intro i hi
  obtain ⟨g, cap, e, _, _, _, hrow⟩ := ownsRow_row h.own (by omega)
  simp only [Value.slice.injEq, true_and] at e
  obtain ⟨ua, uc, hu⟩ := h.sh i hi
  have hb := h.box i hi
  have b0 := hb.cell (i := 0) (by omega)
  have b1 := hb.cell (i := 1) (by omega)
  simp at b0 b1
  rw [hu] at b1
  have hio := (h.at' i hi).ints
  rw [hu] at hio
  refine ⟨g, pb i, ua, uc, e.1, ?_, b0, b1, hio⟩
  have := hrow.cell hi
  rw [this]
  simp [hi]

theorem atF_len {bs : List (List Int)} {ps : List (Int × List Int)} {x : Int} {M : Nat} (hz : ∀ k : Nat, (bs[k]?.getD []).length ≤ M) (hzp : ∀ k : Nat, (ps[k]?.getD (0, [])).2.length ≤ M) : (atF bs ps x).length ≤ M := by
  unfold atF
  generalize ps.length = n
  induction n with
  | zero => exact hz _
  | succ n ih =>
    by_cases h : (ps[n]?.getD (0, [])).1 = x
    · rw [atK_hit h]; exact hzp n
    · rw [atK_miss h]; exact ih

end Go.Proofs.Ytojegkekafampah
