
/- The walks of the laws' functions over inodes. -/
import Derived.Test.YtcmkfapgpolglakEntC
namespace Go.Proofs.Ytcmkfapgpolglak
open Go.RowKit

theorem OwnRow.newV (w : World) (vs : List Value) (t : TypeId) : OwnRow (w.alloc (.cells vs.toArray t)) w.heap.size vs.length (fun i => vs[i]?.getD (.int .i64 0)) := by
  refine ⟨_, t, Go.Deep.blk_alloc_new _ _, by simp, fun i hi => ?_⟩
  simp [List.getElem?_eq_getElem hi]

set_option maxHeartbeats 800000 in
theorem szInodeU (w : World) (z0 z1 z2 : Int) (aB : Option Addr) (nB cB : Nat) (aE : Option Addr) (nE cE : Nat) (d : ID) (h : InoR w (.int .i64 z0) (.int .i64 z1) (.int .i64 z2) (.slice aB nB cB) (.slice aE nE cE) d) (left : Int) (l0 : 0 ≤ left) (l1 : left ≤ 1048576) :
    Calls Try.prog 4 #[.agg #[.int .i64 z0, .int .i64 z1, .int .i64 z2, .slice aB nB cB, .slice aE nE cE], .int .i64 left] w fun e w' => e = .returned (.int .i64 (szf left (sizeIno d))) ∧ Below w.heap.size w w' := by
  have H1 : Hid (Ints w (.slice aB nB cB) d.2.2.2.1) := h.2.1
  have H2 : Hid (Ents w (.slice aE nE cE) d.2.2.2.2) := h.2.2
  clear h
  by_cases hm : left < ((d.2.2.2.1.length : Nat) : Int)
  · have HR : Hid (szf left d.2.2.2.1.length = -1) := szf_no hm
    have HM : Hid (szf left (sizeIno d) = -1) := szf_no (by unfold sizeIno; omega)
    rw [HM.out]
    go_enter Try.func4, Try.ntmps4
    go_wp2_with fail
    refine (szInts_any (H1.out.later (later1 _ _)) _ l0 l1).mono ?_
    rw [HR.out]
    rintro e w1 ⟨rfl, rfl⟩
    go_wp2
    go_ret
    exact ⟨rfl, later1 _ _⟩
  · have HR : Hid (szf left d.2.2.2.1.length = left - (d.2.2.2.1.length : Nat)) := szf_yes hm
    have hpos : ¬ left - ((d.2.2.2.1.length : Nat) : Int) < 0 := by omega
    have HD : Hid (szf (left - ((d.2.2.2.1.length : Nat) : Int)) (sizeN d.2.2.2.2) = szf left (sizeIno d)) := by
      unfold Hid szf sizeIno
      split <;> split <;> omega
    have hx0 : (0 : Int) ≤ ((d.2.2.2.1.length : Nat) : Int) := by omega
    generalize ((d.2.2.2.1.length : Nat) : Int) = X at *
    have hrr : szf left (sizeIno d) = -1 ∨ 0 ≤ szf left (sizeIno d) := by unfold szf; split <;> omega
    generalize hr : szf left (sizeIno d) = r at *
    clear hr
    have step : ∀ (P : Prop), (r = -1 → P) → (0 ≤ r → P) → P := fun P h1 h2 => hrr.elim h1 h2
    apply step
    · intro hneg
      subst hneg
      clear step hrr
      go_enter Try.func4, Try.ntmps4
      go_wp2_with fail
      refine (szInts_any (H1.out.later (later1 _ _)) _ l0 l1).mono ?_
      rw [HR.out]
      rintro e w1 ⟨rfl, rfl⟩
      go_wp2_with fail
      refine (szEnts_any (H2.out.later (later1 _ _)) _ (by omega) (by omega)).mono ?_
      rw [HD.out]
      rintro e w2 ⟨rfl, hb2⟩
      have HB2 : Hid (Below w.heap.size w w2) := (later1 _ _).trans (hb2.mono (by simp))
      clear hb2
      go_wp2
      go_ret
      exact ⟨rfl, HB2.out⟩
    · intro hge
      have hnn : ¬ r < 0 := by omega
      clear step hrr
      go_enter Try.func4, Try.ntmps4
      go_wp2_with fail
      refine (szInts_any (H1.out.later (later1 _ _)) _ l0 l1).mono ?_
      rw [HR.out]
      rintro e w1 ⟨rfl, rfl⟩
      go_wp2_with fail
      refine (szEnts_any (H2.out.later (later1 _ _)) _ (by omega) (by omega)).mono ?_
      rw [HD.out]
      rintro e w2 ⟨rfl, hb2⟩
      have HB2 : Hid (Below w.heap.size w w2) := (later1 _ _).trans (hb2.mono (by simp))
      clear hb2
      go_wp2
      go_ret
      exact ⟨rfl, HB2.out⟩

set_option maxHeartbeats 1600000 in
theorem eqInodeU (w : World) (v0 v1 v2 vB vE v0' v1' v2' vB' vE' : Value) (d : ID) (h : InoR w v0 v1 v2 vB vE d) (h' : InoR w v0' v1' v2' vB' vE' d) :
    Calls Try.prog 8 #[.agg #[v0, v1, v2, vB, vE], .agg #[v0', v1', v2', vB', vE']] w fun e w' => e = .returned (.bool true) ∧ Below w.heap.size w w' := by
  obtain ⟨⟨rfl, rfl, rfl, _⟩, h1, h2⟩ := h
  obtain ⟨⟨rfl, rfl, rfl, _⟩, h1', h2'⟩ := h'
  obtain ⟨a1, c1, rfl, _⟩ := h1.open'
  obtain ⟨a2, c2, rfl, _⟩ := h2.open'
  obtain ⟨b1, k1, rfl, _⟩ := h1'.open'
  obtain ⟨b2, k2, rfl, _⟩ := h2'.open'
  have H1 : Hid (Ints w _ d.2.2.2.1) := h1
  have H1' : Hid (Ints w _ d.2.2.2.1) := h1'
  have H2 : Hid (Ents w _ d.2.2.2.2) := h2
  have H2' : Hid (Ents w _ d.2.2.2.2) := h2'
  clear h1 h2 h1' h2'
  generalize d.1 = z0
  generalize d.2.1 = z1
  generalize d.2.2.1 = z2
  generalize d.2.2.2.1.length = m1 at *
  generalize d.2.2.2.2.length = m2 at *
  have e0 : (z0 != z0) = false := by simp
  have e1 : (z1 != z1) = false := by simp
  have e2 : (z2 != z2) = false := by simp
  go_enter Try.func8, Try.ntmps8
  go_wp2_with fail
  refine (eqIntsU (H1.out.later (later2 _ _ _)) (H1'.out.later (later2 _ _ _))).mono ?_
  rintro e w1 ⟨rfl, hb1⟩
  have HB1 : Hid (Below w.heap.size w w1) := (later2 _ _ _).trans (hb1.mono (by simp; omega))
  have x2 : w1.cell? ⟨w.heap.size, 4, none⟩ = some (.slice a2 m2 c2) := by
    rw [hb1.cell (by simp; omega)]
    exact ((OwnRow.newV w [.int .i64 z0, .int .i64 z1, .int .i64 z2, .slice a1 m1 c1, .slice a2 m2 c2] 30).later (later1 _ _)).cell (i := 4) (by simp)
  have y2 : w1.cell? ⟨w.heap.size + 1, 4, none⟩ = some (.slice b2 m2 k2) := by
    rw [hb1.cell (by simp)]
    have := (OwnRow.newV (w.alloc (.cells #[.int .i64 z0, .int .i64 z1, .int .i64 z2, .slice a1 m1 c1, .slice a2 m2 c2] 30)) [.int .i64 z0, .int .i64 z1, .int .i64 z2, .slice b1 m1 k1, .slice b2 m2 k2] 30).cell (i := 4) (by simp)
    rw [World.size_alloc] at this
    exact this
  clear hb1
  go_wp2_with fail
  refine (eqEntsU (H2.out.later HB1.out) (H2'.out.later HB1.out)).mono ?_
  rintro e w2 ⟨rfl, hb2⟩
  have HB2 : Hid (Below w.heap.size w w2) := HB1.out.trans (hb2.mono HB1.out.size)
  clear hb2
  go_wp2
  go_ret
  exact ⟨rfl, HB2.out⟩

/-- An inode whose lists are marked from k on. -/
def mkIno (k : Int) (d : ID) : ID := (d.1, d.2.1, d.2.2.1, marks k d.2.2.2.1.length, marksN (k + (d.2.2.2.1.length : Nat)).toNat d.2.2.2.2.length)

end Go.Proofs.Ytcmkfapgpolglak
