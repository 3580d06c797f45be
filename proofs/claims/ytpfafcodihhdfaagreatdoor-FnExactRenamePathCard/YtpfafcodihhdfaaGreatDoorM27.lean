/- The specification's AddName: an entry put into its place. The specification's AddName: an entry more in a directory. The specification's AddName: the contract. -/
import Derived.Test.YtpfafcodihhdfaaGreatDoorM24
import Derived.Test.YtpfafcodihhdfaaGreatDoorM26
import Derived.BigQuiet
namespace Go.Proofs.YtpfafcodihhdfaaGreatDoor
open Go.RowKit
set_option maxRecDepth 100000

theorem AtN.keepB {w X : World} {b n : Nat} {es : List EN} (h : AtN w (some ⟨b, 0, none⟩) n es) (e : X.heap[b]? = w.heap[b]?) : AtN X (some ⟨b, 0, none⟩) n es := fun k hk => by
  obtain ⟨b', off, e1, c0, c1⟩ := h k hk
  simp only [Option.some.injEq, Addr.mk.injEq, and_true] at e1
  obtain ⟨rfl, rfl⟩ := e1
  exact ⟨b, 0, rfl, (World.cell?_of_block (w := w) e).trans c0, (World.cell?_of_block (w := w) e).trans c1⟩
/-- Entries behind those that are there; all other blocks are as they were. -/
theorem WdE.pushO (w : World) (ty : TypeId) (n₀ : Nat) (v : Value) (es fs : List EN) (h : WdE w n₀ v es) (hn₀ : n₀ ≤ w.heap.size) (a : Option Addr) (m c : Nat) (hm : fs.length = m) (hc : AtN w a m fs) (hl : es.length + m ≤ 1048576) :
    ∃ v' X, (Builtin.append_ #[66, 66] ty #[v, .slice a m c]).run Tryz.prog w = .ok v' X ∧ (WdE X n₀ v' (es ++ fs) ∧ Below n₀ w X ∧ ∀ b, b < w.heap.size → ¬ v.ownBlock = some b → X.heap[b]? = w.heap[b]?) := by
  subst hm
  obtain ⟨i, hi, h1, h2, h3⟩ := Tryz.infoEnt'
  by_cases h0 : fs.length = 0
  · have hfs : fs = [] := List.eq_nil_of_length_eq_zero h0
    subst hfs
    obtain ⟨av, cv, rfl⟩ := h.shape
    refine ⟨_, w, ?_, by rw [List.append_nil]; exact h, Below.refl _ _, fun _ _ _ => rfl⟩
    have hcv : es.length ≤ cv := by
      obtain ⟨_, h | ⟨g, cap, cur, e, hb, hh, hnc, _⟩⟩ := h
      · have := h.2; omega
      · simp only [Value.slice.injEq] at e; omega
    cases a <;> cases av <;> simp [Builtin.append_, run_underlying Tryz.underlying66, sizeOf, typeInfo, hi, Builtin.lenOf, Builtin.firstCells, storeCells, loadCells, loadCellsFrom, hcv]
  · obtain ⟨b, off, rfl, _⟩ := hc 0 (by omega)
    obtain ⟨v', X, hr, ho, hg, _⟩ := run_append_own_wide (P := Tryz.prog) w n₀ 66 ty 134 i _ 2 24 Tryz.underlying66 hi h1 h2 h3 rfl (by decide) v es.length (enCells es) h ⟨b, off, none⟩ fs.length c (enCells fs) (enCells_length fs) (fun j u hu => hc.cells rfl j u hu) (enCells_one fs) (by unfold maxLen; omega) (by omega) hn₀
    refine ⟨v', X, hr, ?_, below_grown hg hn₀ (fun k hk => ?_), fun b hb hne => hg.block b hb (fun e => hne e.symm)⟩
    · unfold WdE
      rw [List.length_append, enCells_append]
      exact ho
    · rcases h.2 with ⟨rfl, _⟩ | ⟨g, cap, cur, rfl, hb, _⟩
      · simp [Value.ownBlock] at hk
      · simp [Value.ownBlock] at hk; omega

set_option maxHeartbeats 6400000 in
theorem l8Put_any (w : World) (aE : Option Addr) (n cE : Nat) (es : List EN) (s : ByteArray) (y : Int) (hn : es.length = n) (hc : n ≤ cE) (h6 : n ≤ 6) (hat : AtN w aE n es) :
    Calls Tryz.prog 102 #[.slice aE n cE, .agg #[.string s, .int .i64 y]] w fun e w' => ∃ v, e = .returned v ∧ WdE w' w.heap.size v (insE es (plcE es s) (s, y)) ∧ Below w.heap.size w w' := by
  have HAT : Hid (AtN w aE n es) := hat
  have HN : Hid (es.length = n) := hn
  have bx0 : (w.alloc (.cells #[.string s, .int .i64 y] 134)).cell? ⟨w.heap.size, 0, none⟩ = some (.string s) := by rw [new_cell]; rfl
  have bx1 : (w.alloc (.cells #[.string s, .int .i64 y] 134)).cell? ⟨w.heap.size, 1, none⟩ = some (.int .i64 y) := by rw [new_cell]; rfl
  clear hat hn
  go_enter Tryz.func102, Tryz.ntmps102
  go_wp2_with fail
  go_loopw [5] (fun i wr => ∃ k q : Nat, k ≤ n ∧ i = .int .i64 k ∧ wr = (w.alloc (.cells #[.string s, .int .i64 y] 134)).drewN q ∧ ∀ j, j < k → geE s (es[j]?.getD en0) = false) (fun i _ => n - (intOf i).toNat)
  case atStart => exact ⟨0, 0, Nat.zero_le _, rfl, rfl, fun j hj => by omega⟩
  case round =>
    obtain ⟨k, q, hk, rfl, rfl, hz⟩ := hrel
    have HZ : Hid (∀ j, j < k → geE s (es[j]?.getD en0) = false) := hz
    clear hz
    by_cases hlt : k < n
    · obtain ⟨b, off, rfl, c0, _⟩ := HAT.out k hlt
      replace c0 := cell_later (later1 w (.cells #[.string s, .int .i64 y] 134)) c0
      have hd : decide ((k : Int) < (n : Int)) = true := by simpa using hlt
      cases hge : geE s (es[k]?.getD en0) with
      | false =>
        have HNX : Hid (∀ j, j < k + 1 → geE s (es[j]?.getD en0) = false) := fun j hj => by
          by_cases e : j = k
          · rw [e]; exact hge
          · exact HZ.out j (by omega)
        have hlt2 : Op.bytesLess (es[k]?.getD en0).1.toList s.toList = true := by unfold geE at hge; simpa using hge
        clear hge HZ
        generalize (es[k]?.getD en0).1 = x at *
        go_wp2_with fail
        go_quiet (fail)
        go_wp2
        go_roundw
        case rel => exact ⟨k + 1, _, by omega, by go_num, by first | rfl | rw [World.drewN_drewN], HNX.out⟩
        case measure => simp [intOf]; omega
      | true =>
        have HP : Hid (plcE es s = k) := findIdx_is (by rw [HN.out]; exact hlt) hge HZ.out
        have hlt2 : Op.bytesLess (es[k]?.getD en0).1.toList s.toList = false := by unfold geE at hge; simpa using hge
        clear hge HZ
        generalize (es[k]?.getD en0).1 = x at *
        go_wp2_with fail
        go_quiet (fail)
        go_wp2_with fail
        have hlt1 : (es.take k).length = k := by rw [List.length_take, HN.out]; omega
        have HL1 : Hid ((es.take k).length = k) := hlt1
        have HL2 : Hid ((es.take k ++ [(s, y)]).length = k + 1) := by unfold Hid; rw [List.length_append, hlt1]; rfl
        have HTK : Hid (∀ W, Below w.heap.size w W → AtN W (some ⟨b, off, none⟩) k (es.take k)) := fun W hW => ((HAT.out.take k hk).later hW)
        have HTL : Hid (∀ W, Below w.heap.size w W → AtN W (some ⟨b, off + k * 2, none⟩) (n - k) (es.drop k)) := fun W hW => (HAT.out.drop k).later hW
        have HDL : Hid ((es.drop k).length = n - k) := by unfold Hid; rw [List.length_drop, HN.out]
        have HWB : Hid (Below w.heap.size w (((w.alloc (.cells #[.string s, .int .i64 y] 134)).drewN q).drewN nq)) := below_drewN (below_drewN (later1 _ _) q) nq
        have HSB : Hid (w.heap.size ≤ ((((w.alloc (.cells #[.string s, .int .i64 y] 134)).drewN q).drewN nq)).heap.size) := HWB.out.size
        have bw0 : ((((w.alloc (.cells #[.string s, .int .i64 y] 134)).drewN q).drewN nq)).cell? ⟨w.heap.size, 0, none⟩ = some (.string s) := bx0
        have bw1 : ((((w.alloc (.cells #[.string s, .int .i64 y] 134)).drewN q).drewN nq)).cell? ⟨w.heap.size, 1, none⟩ = some (.int .i64 y) := bx1
        have hkc : k ≤ cE := by omega
        have hcne : ¬ cE = k := by omega
        have hkI : (k : Int) ≤ (n : Int) := by omega
        have HF1 : Hid True := trivial
        clear hlt1 bx0 bx1
        generalize (((w.alloc (.cells #[.string s, .int .i64 y] 134)).drewN q).drewN nq) = WB at *
        have hlw : w.heap.size < WB.heap.size := World.block_lt_of_cell? _ _ bw0
        have HA1 : Hid (WdE (WB.drew.alloc (.cells #[] 134)) WB.heap.size (.slice (some ⟨WB.heap.size, 0, none⟩) 0 0) []) := WdE.lit0 WB.drew WB.heap.size (Nat.le_refl _)
        have HA2 : Hid (WdE ((WB.drew.alloc (.cells #[.string s, .int .i64 y] 134)).alloc (.cells #[] 134)) WB.heap.size (.slice (some ⟨WB.heap.size + 1, 0, none⟩) 0 0) []) := by
          have := WdE.lit0 (WB.drew.alloc (.cells #[.string s, .int .i64 y] 134)) WB.heap.size (by simp)
          rw [show (WB.drew.alloc (.cells #[.string s, .int .i64 y] 134)).heap.size = WB.heap.size + 1 by simp] at this
          exact this
        have HC1 : Hid (AtN ((WB.drew.alloc (.cells #[] 134)).alloc (.cells #[.string s, .int .i64 y] 134)) (some ⟨WB.heap.size + 1, 0, none⟩) 1 [(s, y)]) := by
          have := lit1_E (WB.drew.alloc (.cells #[] 134)) s y
          rw [show (WB.drew.alloc (.cells #[] 134)).heap.size = WB.heap.size + 1 by simp] at this
          exact this
        have HC2 : Hid (AtN ((WB.drew.alloc (.cells #[.string s, .int .i64 y] 134)).alloc (.cells #[] 134)) (some ⟨WB.heap.size, 0, none⟩) 1 [(s, y)]) := (lit1_E WB.drew s y).later (later1 _ _)
        go_region_law (first
          | (have f1 := HF1.out; clear HF1 f1
             refine step_append_ex rfl _ _ 66 rfl _ _ rfl rfl _ (WdE.pushO _ 66 WB.heap.size _ [] (es.take k) (by first | exact HA1.out | exact HA1.out.later (later1 _ _) | exact HA2.out) (by first | (simp; done) | (simp; omega)) _ _ _ HL1.out (HTK.out _ (by first | exact HWB.out.drew.trans ((later1 _ _).mono HSB.out) | exact HWB.out.drew.trans ((later2 _ _ _).mono HSB.out))) (by simp; omega)) ?_
             rintro v1 X1 ⟨hw1, hb1, ho1⟩
             rw [List.nil_append] at hw1
             obtain ⟨p1, c1, e1⟩ := hw1.shape
             rw [HL1.out] at e1
             subst e1
             have HW1 : Hid (WdE X1 WB.heap.size (.slice p1 k c1) (es.take k)) := hw1
             have HX1 : Hid (Below WB.heap.size WB X1) := by first | exact (Below.refl _ _).drew.trans (((later1 WB.drew _).mono (Nat.le_refl _)).trans hb1) | exact (Below.refl _ _).drew.trans (((later2 WB.drew _ _).mono (Nat.le_refl _)).trans hb1)
             try (have HBB : Hid (AtN X1 (some ⟨WB.heap.size + 1, 0, none⟩) 1 [(s, y)]) := HC1.out.keepB (ho1 (WB.heap.size + 1) (by first | (simp; done) | (simp; omega)) (show ¬ (some WB.heap.size = some (WB.heap.size + 1)) by simp)))
             try (have HBB : Hid (AtN X1 (some ⟨WB.heap.size, 0, none⟩) 1 [(s, y)]) := HC2.out.keepB (ho1 WB.heap.size (by first | (simp; done) | (simp; omega)) (show ¬ (some (WB.heap.size + 1) = some WB.heap.size) by simp)))
             have cb0 := (World.cell?_of_block (w := WB) (HX1.out.block w.heap.size hlw)).trans bw0
             have cb1 := (World.cell?_of_block (w := WB) (HX1.out.block w.heap.size hlw)).trans bw1
             have hlx : w.heap.size < X1.heap.size := Nat.lt_of_lt_of_le hlw HX1.out.size
             clear hw1 hb1 ho1)
          | (have f2 := HW1.out; clear HW1
             refine step_append_ex rfl _ _ 66 rfl _ _ rfl rfl _ (WdE.pushO _ 66 WB.heap.size _ (es.take k) [(s, y)] (by first | exact f2 | exact f2.later (later1 _ _)) (by have := HX1.out.size; first | exact this | (simp; omega)) _ 1 1 rfl (by first | exact HBB.out | exact lit1_E _ s y) (by rw [HL1.out]; omega)) ?_
             rintro v2 X2 ⟨hw2, hb2, _⟩
             obtain ⟨p2, c2, e2⟩ := hw2.shape
             rw [HL2.out] at e2
             subst e2
             have HW2 : Hid (WdE X2 WB.heap.size (.slice p2 (k + 1) c2) (es.take k ++ [(s, y)])) := hw2
             have HX2 : Hid (Below WB.heap.size WB X2) := by first | exact HX1.out.trans hb2 | exact HX1.out.trans (((later1 _ _).mono HX1.out.size).trans hb2)
             clear hw2 hb2 f2)
          | (have f3 := HW2.out; clear HW2
             refine step_append_ex rfl _ _ 66 rfl _ _ rfl rfl _ (WdE.pushO _ 66 WB.heap.size _ (es.take k ++ [(s, y)]) (es.drop k) f3 HX2.out.size _ _ _ HDL.out (HTL.out _ (HWB.out.trans (HX2.out.mono HSB.out))) (by rw [HL2.out]; omega)) ?_
             rintro v3 X3 ⟨hw3, hb3, _⟩
             have HW3 : Hid (WdE X3 w.heap.size v3 (insE es (plcE es s) (s, y))) := by
               unfold Hid insE
               rw [HP.out]
               exact ownsRow_base hw3 HSB.out
             have HX3 : Hid (Below w.heap.size w X3) := HWB.out.trans ((HX2.out.trans hb3).mono HSB.out)
             clear hw3 hb3 f3)
          | fail)
        all_goals
          go_wp2
          all_goals
            go_ret
            exact ⟨_, rfl, HW3.out, HX3.out⟩
    · have e : n = k := by omega
      subst e
      have hd : decide ((n : Int) < (n : Int)) = false := by simp
      have HP : Hid (plcE es s = n) := by
        have := findIdx_no (p := geE s) (es := es) fun j hj => HZ.out j (by rw [HN.out] at hj; omega)
        rw [HN.out] at this
        exact this
      clear HZ hlt
      go_wp2_with fail
      go_quiet (fail)
      go_wp2_with fail
      have hlt1 : (es.take n).length = n := by rw [List.length_take, HN.out]; omega
      have HL1 : Hid ((es.take n).length = n) := hlt1
      have HL2 : Hid ((es.take n ++ [(s, y)]).length = n + 1) := by unfold Hid; rw [List.length_append, hlt1]; rfl
      have HTK : Hid (∀ W, Below w.heap.size w W → AtN W aE n (es.take n)) := fun W hW => ((HAT.out.take n hk).later hW)
      have HTL : Hid (∀ W, Below w.heap.size w W → ∀ A, AtN W A 0 (es.drop n)) := fun W _ A i hi => by omega
      have HDL : Hid ((es.drop n).length = 0) := by unfold Hid; rw [List.length_drop, HN.out]; omega
      have HWB : Hid (Below w.heap.size w (((w.alloc (.cells #[.string s, .int .i64 y] 134)).drewN q).drewN nq)) := below_drewN (below_drewN (later1 _ _) q) nq
      have HSB : Hid (w.heap.size ≤ ((((w.alloc (.cells #[.string s, .int .i64 y] 134)).drewN q).drewN nq)).heap.size) := HWB.out.size
      have bw0 : ((((w.alloc (.cells #[.string s, .int .i64 y] 134)).drewN q).drewN nq)).cell? ⟨w.heap.size, 0, none⟩ = some (.string s) := bx0
      have bw1 : ((((w.alloc (.cells #[.string s, .int .i64 y] 134)).drewN q).drewN nq)).cell? ⟨w.heap.size, 1, none⟩ = some (.int .i64 y) := bx1
      have hkc : n ≤ cE := by omega
      have hkI : (n : Int) ≤ (n : Int) := by omega
      have HF1 : Hid True := trivial
      clear hlt1 bx0 bx1
      generalize (((w.alloc (.cells #[.string s, .int .i64 y] 134)).drewN q).drewN nq) = WB at *
      have hlw : w.heap.size < WB.heap.size := World.block_lt_of_cell? _ _ bw0
      have HA1 : Hid (WdE (WB.drew.alloc (.cells #[] 134)) WB.heap.size (.slice (some ⟨WB.heap.size, 0, none⟩) 0 0) []) := WdE.lit0 WB.drew WB.heap.size (Nat.le_refl _)
      have HA2 : Hid (WdE ((WB.drew.alloc (.cells #[.string s, .int .i64 y] 134)).alloc (.cells #[] 134)) WB.heap.size (.slice (some ⟨WB.heap.size + 1, 0, none⟩) 0 0) []) := by
        have := WdE.lit0 (WB.drew.alloc (.cells #[.string s, .int .i64 y] 134)) WB.heap.size (by simp)
        rw [show (WB.drew.alloc (.cells #[.string s, .int .i64 y] 134)).heap.size = WB.heap.size + 1 by simp] at this
        exact this
      have HC1 : Hid (AtN ((WB.drew.alloc (.cells #[] 134)).alloc (.cells #[.string s, .int .i64 y] 134)) (some ⟨WB.heap.size + 1, 0, none⟩) 1 [(s, y)]) := by
        have := lit1_E (WB.drew.alloc (.cells #[] 134)) s y
        rw [show (WB.drew.alloc (.cells #[] 134)).heap.size = WB.heap.size + 1 by simp] at this
        exact this
      have HC2 : Hid (AtN ((WB.drew.alloc (.cells #[.string s, .int .i64 y] 134)).alloc (.cells #[] 134)) (some ⟨WB.heap.size, 0, none⟩) 1 [(s, y)]) := (lit1_E WB.drew s y).later (later1 _ _)
      go_region_law (first
        | (have f1 := HF1.out; clear HF1 f1
           refine step_append_ex rfl _ _ 66 rfl _ _ rfl rfl _ (WdE.pushO _ 66 WB.heap.size _ [] (es.take n) (by first | exact HA1.out | exact HA1.out.later (later1 _ _) | exact HA2.out) (by first | (simp; done) | (simp; omega)) _ _ _ HL1.out (HTK.out _ (by first | exact HWB.out.drew.trans ((later1 _ _).mono HSB.out) | exact HWB.out.drew.trans ((later2 _ _ _).mono HSB.out))) (by simp; omega)) ?_
           rintro v1 X1 ⟨hw1, hb1, ho1⟩
           rw [List.nil_append] at hw1
           obtain ⟨p1, c1, e1⟩ := hw1.shape
           rw [HL1.out] at e1
           subst e1
           have HW1 : Hid (WdE X1 WB.heap.size (.slice p1 n c1) (es.take n)) := hw1
           have HX1 : Hid (Below WB.heap.size WB X1) := by first | exact (Below.refl _ _).drew.trans (((later1 WB.drew _).mono (Nat.le_refl _)).trans hb1) | exact (Below.refl _ _).drew.trans (((later2 WB.drew _ _).mono (Nat.le_refl _)).trans hb1)
           try (have HBB : Hid (AtN X1 (some ⟨WB.heap.size + 1, 0, none⟩) 1 [(s, y)]) := HC1.out.keepB (ho1 (WB.heap.size + 1) (by first | (simp; done) | (simp; omega)) (show ¬ (some WB.heap.size = some (WB.heap.size + 1)) by simp)))
           try (have HBB : Hid (AtN X1 (some ⟨WB.heap.size, 0, none⟩) 1 [(s, y)]) := HC2.out.keepB (ho1 WB.heap.size (by first | (simp; done) | (simp; omega)) (show ¬ (some (WB.heap.size + 1) = some WB.heap.size) by simp)))
           have cb0 := (World.cell?_of_block (w := WB) (HX1.out.block w.heap.size hlw)).trans bw0
           have cb1 := (World.cell?_of_block (w := WB) (HX1.out.block w.heap.size hlw)).trans bw1
           have hlx : w.heap.size < X1.heap.size := Nat.lt_of_lt_of_le hlw HX1.out.size
           clear hw1 hb1 ho1)
        | (have f2 := HW1.out; clear HW1
           refine step_append_ex rfl _ _ 66 rfl _ _ rfl rfl _ (WdE.pushO _ 66 WB.heap.size _ (es.take n) [(s, y)] (by first | exact f2 | exact f2.later (later1 _ _)) (by have := HX1.out.size; first | exact this | (simp; omega)) _ 1 1 rfl (by first | exact HBB.out | exact lit1_E _ s y) (by rw [HL1.out]; omega)) ?_
           rintro v2 X2 ⟨hw2, hb2, _⟩
           obtain ⟨p2, c2, e2⟩ := hw2.shape
           rw [HL2.out] at e2
           subst e2
           have HW2 : Hid (WdE X2 WB.heap.size (.slice p2 (n + 1) c2) (es.take n ++ [(s, y)])) := hw2
           have HX2 : Hid (Below WB.heap.size WB X2) := by first | exact HX1.out.trans hb2 | exact HX1.out.trans (((later1 _ _).mono HX1.out.size).trans hb2)
           clear hw2 hb2 f2)
        | (have f3 := HW2.out; clear HW2
           refine step_append_ex rfl _ _ 66 rfl _ _ rfl rfl _ (WdE.pushO _ 66 WB.heap.size _ (es.take n ++ [(s, y)]) (es.drop n) f3 HX2.out.size _ _ _ HDL.out (HTL.out _ (HWB.out.trans (HX2.out.mono HSB.out)) _) (by rw [HL2.out]; omega)) ?_
           rintro v3 X3 ⟨hw3, hb3, _⟩
           have HW3 : Hid (WdE X3 w.heap.size v3 (insE es (plcE es s) (s, y))) := by
             unfold Hid insE
             rw [HP.out]
             exact ownsRow_base hw3 HSB.out
           have HX3 : Hid (Below w.heap.size w X3) := HWB.out.trans ((HX2.out.trans hb3).mono HSB.out)
           clear hw3 hb3 f3)
        | fail)
      all_goals
        go_wp2
        all_goals
          go_ret
          exact ⟨_, rfl, HW3.out, HX3.out⟩
end Go.Proofs.YtpfafcodihhdfaaGreatDoor

namespace Go.Proofs.YtpfafcodihhdfaaGreatDoor
open Go.RowKit
set_option maxRecDepth 100000

/-- What l8Add comes to: the code, and the file system behind it. -/
def addZ (d : FD) (j : Nat) (s : ByteArray) (y : Int) : FD := if (addQ d j s y).1 = 0 then (addQ d j s y).2 else d
theorem FsS.fsx {w : World} {bo bI n cI bD cD : Nat} {d : FD} {F : Nat → Prop} (hfs : FsS w bI n cI bD 20 cD d F) (h0 : w.cell? ⟨bo, 0, none⟩ = some (.slice (some ⟨bI, 0, none⟩) n cI)) (h1 : w.cell? ⟨bo, 1, none⟩ = some (.slice (some ⟨bD, 0, none⟩) 20 cD)) : FsX w bo 0 d (some ⟨bI, 0, none⟩) cI (some ⟨bD, 0, none⟩) cD := by
  have hl := hfs.len
  have hr := hfs.fs.reads
  exact ⟨by rw [hl.1]; exact h0, by rw [hl.2]; exact h1, by rw [hl.1]; exact hr.1, by rw [hl.2]; exact hr.2⟩

set_option maxHeartbeats 6400000 in
theorem l8Add_any (w : World) (bo bI n cI bD cD : Nat) (d : FD) (F : Nat → Prop) (j : Nat) (s : ByteArray) (y : Int) (h0 : w.cell? ⟨bo, 0, none⟩ = some (.slice (some ⟨bI, 0, none⟩) n cI)) (h1 : w.cell? ⟨bo, 1, none⟩ = some (.slice (some ⟨bD, 0, none⟩) 20 cD)) (hfs : FsS w bI n cI bD 20 cD d F) (hFo : ¬ F bo) (hn : d.1.length = n) (hds : DirS d j) (hml : s.size ≤ maxLen) :
    Calls Tryz.prog 111 #[.pointer (some ⟨bo, 0, none⟩), .int .i64 (j : Int), .string s, .int .i64 y] w fun e w' => e = .returned (.int .i64 (addQ d j s y).1) ∧ Chg (fun c => c = bI) w w' ∧ FsS w' bI n cI bD 20 cD (addZ d j s y) (fun c => F c ∨ w.heap.size ≤ c) := by
  have hx := hfs.fsx h0 h1
  have hjn : j < n := by have := hds.lt; omega
  have hjI : (j : Int) < (n : Int) := by omega
  have h6 := hds.six
  have hten : n ≤ 10 := by have := hds.ten; omega
  obtain ⟨aB, cB, aE, cE, -, -, -, -, k4, hE⟩ := FsR.five hfs.fs.reads hds.lt
  rw [Nat.zero_add] at k4
  obtain ⟨-, hcE, hAt, -, hZ⟩ := hE.cap
  have HFS : Hid (FsS w bI n cI bD 20 cD d F) := hfs
  have HPL : Hid (Calls Tryz.prog 96 #[.slice aE (entA d j).length cE, .string s] w fun e w' => e = .returned (.int .i64 (at8 (entA d j) s)) ∧ w' = w) := l8At_any w aE _ cE (entA d j) s rfl (by omega) hAt
  have HPC : Hid (Calls Tryz.prog 167 #[.pointer (some ⟨bo, 0, none⟩), .int .i64 y] w fun e w' => e = .returned (.bool (decide (0 ≤ y ∧ y < (d.1.length : Int)))) ∧ w' = w) := l6Place_any w bo 0 d _ _ _ _ y hx
  have HAQ : Hid (addQ d j s y = if idxE (entA d j) s < (entA d j).length then noFs 7 else if 0 ≤ y ∧ y < (d.1.length : Int) ∧ ¬ kindAt d.1 y.toNat = 0 then (if (entA d j).length = 6 ∨ (kindAt d.1 y.toNat = 1 ∧ 60 ≤ (d.1[y.toNat]?.getD id0).2.1) then noFs 2 else (0, addD d j s y.toNat)) else noFs 4) := rfl
  have HSAME : Hid (FsS w bI n cI bD 20 cD d (fun c => F c ∨ w.heap.size ≤ c)) := hfs.mono fun c hc => Or.inl hc
  have bad : ∀ c : Int, ¬ c = 0 → addQ d j s y = noFs c → ∀ (e : Ending) (w' : World), e = .returned (.int .i64 c) → w' = w → (e = .returned (.int .i64 (addQ d j s y).1) ∧ Chg (fun c => c = bI) w w' ∧ FsS w' bI n cI bD 20 cD (addZ d j s y) (fun c => F c ∨ w.heap.size ≤ c)) := fun c hc e1 e w' e2 e3 => by
    subst e3
    have e4 : addZ d j s y = d := by unfold addZ; rw [e1, if_neg (show ¬ (noFs c).1 = 0 from hc)]
    rw [e4, e1]
    exact ⟨e2, Chg.refl _ _, HSAME.out⟩
  have HBAD : Hid (∀ c : Int, ¬ c = 0 → addQ d j s y = noFs c → ∀ (e : Ending) (w' : World), e = .returned (.int .i64 c) → w' = w → (e = .returned (.int .i64 (addQ d j s y).1) ∧ Chg (fun c => c = bI) w w' ∧ FsS w' bI n cI bD 20 cD (addZ d j s y) (fun c => F c ∨ w.heap.size ≤ c))) := bad
  have HATH : Hid (AtN w aE (entA d j).length (entA d j)) := hAt
  have HZZ : Hid (∀ k : Nat, ((entA d j)[k]?.getD en0).1.size ≤ maxLen) := hZ
  clear bad hx hAt hE hZ
  by_cases hi : idxE (entA d j) s < (entA d j).length
  · have HR : Hid (addQ d j s y = noFs 7) := by unfold Hid; rw [HAQ.out, if_pos hi]
    have ha8 : at8 (entA d j) s = ((idxE (entA d j) s : Nat) : Int) := by unfold at8; rw [if_pos hi]
    rw [ha8] at HPL
    clear hi ha8 HAQ hfs hds
    have HB := HBAD.out 7 (by omega) HR.out
    have HBB : Hid (∀ (e : Ending) (w' : World), e = .returned (.int .i64 7) → w' = w → _) := HB
    clear HB HBAD HR
    generalize idxE (entA d j) s = i at *
    generalize (entA d j).length = m at *
    go_enter Tryz.func111, Tryz.ntmps111
    go_wp2_with fail
    refine HPL.out.mono ?_
    rintro e w1 ⟨rfl, rfl⟩
    go_wp2
    go_ret
    exact HBB.out _ _ rfl rfl
  · have ha8 : at8 (entA d j) s = -1 := by unfold at8; rw [if_neg hi]
    rw [ha8] at HPL
    by_cases hy : 0 ≤ y ∧ y < (d.1.length : Int)
    rotate_left
    · have HR : Hid (addQ d j s y = noFs 4) := by unfold Hid; rw [HAQ.out, if_neg hi, if_neg (fun hh => hy ⟨hh.1, hh.2.1⟩)]
      rw [decide_eq_false hy] at HPC
      clear hi ha8 HAQ hfs hds hy
      have HB := HBAD.out 4 (by omega) HR.out
      have HBB : Hid (∀ (e : Ending) (w' : World), e = .returned (.int .i64 4) → w' = w → _) := HB
      clear HB HBAD HR
      generalize (entA d j).length = m at *
      go_enter Tryz.func111, Tryz.ntmps111
      go_wp2_with fail
      refine HPL.out.mono ?_
      rintro e w1 ⟨rfl, rfl⟩
      go_wp2_with fail
      refine HPC.out.mono ?_
      rintro e w1 ⟨rfl, rfl⟩
      go_wp2
      go_ret
      exact HBB.out _ _ rfl rfl
    · rw [decide_eq_true hy] at HPC
      obtain ⟨z, rfl⟩ : ∃ z : Nat, y = (z : Int) := ⟨y.toNat, by omega⟩
      rw [Int.toNat_natCast] at HAQ
      have hzn : z < n := by omega
      have hzI : (z : Int) < (n : Int) := by omega
      obtain ⟨_, _, _, _, g0, g1, -, -, -, -, gf, -⟩ := hfs.ino z hzn
      by_cases hk0 : kindAt d.1 z = 0
      · have HR : Hid (addQ d j s (z : Int) = noFs 4) := by unfold Hid; rw [HAQ.out, if_neg hi, if_neg (fun hh => hh.2.2 hk0)]
        have hkb : ((d.1[z]?.getD id0).1 == 0) = true := beq_iff_eq.2 hk0
        clear hi ha8 HAQ hfs hds hy hk0 gf g1
        have HB := HBAD.out 4 (by omega) HR.out
        have HBB : Hid (∀ (e : Ending) (w' : World), e = .returned (.int .i64 4) → w' = w → _) := HB
        clear HB HBAD HR
        generalize (entA d j).length = m at *
        generalize (d.1[z]?.getD id0).1 = kd at *
        go_enter Tryz.func111, Tryz.ntmps111
        go_wp2_with fail
        refine HPL.out.mono ?_
        rintro e w1 ⟨rfl, rfl⟩
        go_wp2_with fail
        refine HPC.out.mono ?_
        rintro e w1 ⟨rfl, rfl⟩
        go_wp2
        go_ret
        exact HBB.out _ _ rfl rfl
      · have hkb : ((d.1[z]?.getD id0).1 == 0) = false := beq_eq_false_iff_ne.2 hk0
        by_cases hmany : (entA d j).length = 6 ∨ (kindAt d.1 z = 1 ∧ 60 ≤ (d.1[z]?.getD id0).2.1)
        · have HR : Hid (addQ d j s (z : Int) = noFs 2) := by unfold Hid; rw [HAQ.out, if_neg hi, if_pos ⟨by omega, by omega, hk0⟩, if_pos hmany]
          have HB := HBAD.out 2 (by omega) HR.out
          have HBB : Hid (∀ (e : Ending) (w' : World), e = .returned (.int .i64 2) → w' = w → _) := HB
          clear HB HBAD HR
          by_cases hm6 : (entA d j).length = 6
          · rw [hm6] at HPL k4
            clear hi ha8 HAQ hfs hds hy hk0 gf g1 hmany hm6
            generalize (d.1[z]?.getD id0).1 = kd at *
            go_enter Tryz.func111, Tryz.ntmps111
            go_wp2_with fail
            refine HPL.out.mono ?_
            rintro e w1 ⟨rfl, rfl⟩
            go_wp2_with fail
            refine HPC.out.mono ?_
            rintro e w1 ⟨rfl, rfl⟩
            go_wp2
            go_ret
            exact HBB.out _ _ rfl rfl
          · have hkl := hmany.resolve_left hm6
            have hk1 : ((d.1[z]?.getD id0).1 == 1) = true := beq_iff_eq.2 hkl.1
            have hl6 : decide ((60 : Int) ≤ (d.1[z]?.getD id0).2.1) = true := by simpa using hkl.2
            have hmb : decide ((6 : Int) ≤ (((entA d j).length : Nat) : Int)) = false := by simp; omega
            have hmb2 : decide (6 ≤ (entA d j).length) = false := by simp; omega
            clear hi ha8 HAQ hfs hds hy hk0 gf hmany hm6 hkl
            generalize (entA d j).length = m at *
            generalize (d.1[z]?.getD id0).1 = kd at *
            generalize (d.1[z]?.getD id0).2.1 = kl at *
            go_enter Tryz.func111, Tryz.ntmps111
            go_wp2_with fail
            refine HPL.out.mono ?_
            rintro e w1 ⟨rfl, rfl⟩
            go_wp2_with fail
            refine HPC.out.mono ?_
            rintro e w1 ⟨rfl, rfl⟩
            go_wp2
            go_ret
            exact HBB.out _ _ rfl rfl
        · have hm6 : ¬ (entA d j).length = 6 := fun e => hmany (Or.inl e)
          have HR : Hid (addQ d j s (z : Int) = (0, addD d j s z)) := by unfold Hid; rw [HAQ.out, if_neg hi, if_pos ⟨by omega, by omega, hk0⟩, if_neg hmany]
          have HGD : Hid (∀ (e : Ending) (w' : World), e = .returned (.int .i64 0) → Chg (fun c => c = bI) w w' → FsS w' bI n cI bD 20 cD (addD d j s z) (fun c => F c ∨ w.heap.size ≤ c) → (e = .returned (.int .i64 (addQ d j s (z : Int)).1) ∧ Chg (fun c => c = bI) w w' ∧ FsS w' bI n cI bD 20 cD (addZ d j s (z : Int)) (fun c => F c ∨ w.heap.size ≤ c))) := fun e w' e1 e2 e3 => by
            have e4 : addZ d j s (z : Int) = addD d j s z := by unfold addZ; rw [HR.out]; rfl
            rw [e4, HR.out]
            exact ⟨e1, e2, e3⟩
          have hmb : decide ((6 : Int) ≤ (((entA d j).length : Nat) : Int)) = false := by simp; omega
          have hmb2 : decide (6 ≤ (entA d j).length) = false := by simp; omega
          have HPUT : Hid (∀ W, Below w.heap.size w W → Calls Tryz.prog 102 #[.slice aE (entA d j).length cE, .agg #[.string s, .int .i64 (z : Int)]] W fun e w' => ∃ v, e = .returned v ∧ WdE w' W.heap.size v (insE (entA d j) (plcE (entA d j) s) (s, (z : Int))) ∧ Below W.heap.size W w') := fun W hW => l8Put_any W aE _ cE (entA d j) s (z : Int) rfl hcE h6 (HATH.out.later hW)
          have HEZ : Hid (∀ i : Nat, ((insE (entA d j) (plcE (entA d j) s) (s, (z : Int)))[i]?.getD en0).1.size ≤ maxLen) := insE_size HZZ.out hml
          have HBK : Hid ((d.1[j]?.getD id0).2.2.2.1 = []) := dir_blk (ins_ino hds.ins j hds.lt) hds.kind
          have HLN : Hid ((d.1[z]?.getD id0).1 = 1 → 1 ≤ (d.1[z]?.getD id0).2.1 ∧ (d.1[z]?.getD id0).2.1 < 60) := fun e => ⟨(ino_lnk (ins_ino hds.ins z (by omega)) e).1, by
            by_cases hh : 60 ≤ (d.1[z]?.getD id0).2.1
            · exact absurd (Or.inr ⟨e, hh⟩) hmany
            · omega⟩
          have HAD : Hid (addD d j s z = if (d.1[z]?.getD id0).1 = 1 then lnkD (entD d j (insE (entA d j) (plcE (entA d j) s) (s, (z : Int)))) z ((d.1[z]?.getD id0).2.1 + 1) else entD d j (insE (entA d j) (plcE (entA d j) s) (s, (z : Int)))) := rfl
          rw [HAD.out] at HGD
          have HEK := entD_kind d j z (insE (entA d j) (plcE (entA d j) s) (s, (z : Int))) hds.lt
          have HEK1 : Hid (((entD d j (insE (entA d j) (plcE (entA d j) s) (s, (z : Int)))).1[z]?.getD id0).1 = (d.1[z]?.getD id0).1) := HEK.1
          have HEK2 : Hid (((entD d j (insE (entA d j) (plcE (entA d j) s) (s, (z : Int)))).1[z]?.getD id0).2.1 = (d.1[z]?.getD id0).2.1) := HEK.2
          obtain ⟨_, _, _, _, -, -, -, -, -, -, jf, -⟩ := hfs.ino j hjn
          have c4f := jf (j * 5 + 4)
          have hne := hfs.ne
          have hoI : bo ≠ bI := fun e => hFo (e ▸ hne.2.1.1)
          have hlI : bI < w.heap.size := hne.2.1.2
          have hlo : bo < w.heap.size := World.block_lt_of_cell? _ _ h0
          generalize insE (entA d j) (plcE (entA d j) s) (s, (z : Int)) = nes at *
          generalize hent : entD d j nes = dn at *
          have HDN : Hid (entD d j nes = dn) := hent
          clear hi ha8 HAQ hfs hds hy hk0 hmany hm6 HAD HEK hent gf jf HBAD HR HATH HZZ HSAME
          generalize (entA d j).length = m at *
          generalize (d.1[z]?.getD id0).1 = kd at *
          generalize (d.1[z]?.getD id0).2.1 = kl at *
          have step : ∀ P : Prop, (kd = 1 → P) → (¬ kd = 1 → P) → P := fun P f1 f2 => by
            by_cases h : kd = 1
            · exact f1 h
            · exact f2 h
          apply step
          · intro hk1
            rw [if_pos hk1] at HGD
            have hkb1 : (kd == 1) = true := by simpa using hk1
            have hln := HLN.out hk1
            have hl6 : decide ((60 : Int) ≤ kl) = false := by simp; omega
            clear step hk1
            go_enter Tryz.func111, Tryz.ntmps111
            go_wp2_with fail
            refine HPL.out.mono ?_
            rintro e w1 ⟨rfl, rfl⟩
            go_wp2_with fail
            refine HPC.out.mono ?_
            rintro e w1 ⟨rfl, rfl⟩
            go_wp2_with fail
            go_region_law (first
              | (try go_simp; go_at_call 102; refine (HPUT.out w1.drew (Below.refl _ _).drew).mono ?_; rintro e w2 ⟨v, rfl, hw2, hb2⟩
                 obtain ⟨av, cv, rfl⟩ := hw2.shape
                 have HB2 : Hid (Below w1.heap.size w1 w2) := (Below.refl _ _).drew.trans hb2
                 have HW2 : Hid (WdE w2 w1.heap.size (.slice av nes.length cv) nes) := hw2
                 have b02 := cell_later HB2.out h0
                 have c42 := cell_later HB2.out k4
                 have c42f := (HB2.out.frozen (p := ⟨bI, j * 5 + 4, none⟩) hlI).trans c4f
                 clear hw2 hb2)
              | fail)
            all_goals
              have HF9 : Hid (FsS (w2.setCell ⟨bI, j * 5 + 4, none⟩ (.slice av nes.length cv)) bI n cI bD 20 cD dn (fun c => F c ∨ w1.heap.size ≤ c)) := by
                have := ((HFS.out.boundF.later HB2.out).entS j hjn HBK.out nes _ (HW2.out.own HEZ.out) (fun c hc => ⟨fun hh => by have := hh.2; have := hc.1; omega, hc.2⟩)).mono (F' := fun c => F c ∨ w1.heap.size ≤ c) fun c hh => by
                  rcases hh with hh | hh
                  · exact Or.inl hh.1
                  · exact Or.inr hh.1
                rw [← HDN.out]
                exact this
              have HC9 : Hid (Chg (fun c => c = bI) w1 (w2.setCell ⟨bI, j * 5 + 4, none⟩ (.slice av nes.length cv))) := Chg.set (F := fun c => c = bI) (Chg.of_below HB2.out) rfl _ _
              have p0 := HC9.out.cellOf h0 hoI
              obtain ⟨_, _, _, _, z0, z1, -, -, -, -, zf, -⟩ := HF9.out.ino z hzn
              rw [HEK1.out] at z0
              rw [HEK2.out] at z1
              have z1f := zf (z * 5 + 1)
              clear zf
              generalize (w2.setCell ⟨bI, j * 5 + 4, none⟩ (.slice av nes.length cv)) = W9 at *
              have HF10 : Hid (FsS (W9.setCell ⟨bI, z * 5 + 1, none⟩ (.int .i64 (kl + 1))) bI n cI bD 20 cD (lnkD dn z (kl + 1)) (fun c => F c ∨ w1.heap.size ≤ c)) := HF9.out.lnkS z hzn (kl + 1)
              have HC10 : Hid (Chg (fun c => c = bI) w1 (W9.setCell ⟨bI, z * 5 + 1, none⟩ (.int .i64 (kl + 1)))) := Chg.set (F := fun c => c = bI) HC9.out rfl _ _
              go_wp2
              go_ret
              exact HGD.out _ _ rfl HC10.out HF10.out
          · intro hk1
            rw [if_neg hk1] at HGD
            have hkb1 : (kd == 1) = false := by simpa using hk1
            clear step hk1 g1
            go_enter Tryz.func111, Tryz.ntmps111
            go_wp2_with fail
            refine HPL.out.mono ?_
            rintro e w1 ⟨rfl, rfl⟩
            go_wp2_with fail
            refine HPC.out.mono ?_
            rintro e w1 ⟨rfl, rfl⟩
            go_wp2_with fail
            go_region_law (first
              | (try go_simp; go_at_call 102; refine (HPUT.out w1.drew (Below.refl _ _).drew).mono ?_; rintro e w2 ⟨v, rfl, hw2, hb2⟩
                 obtain ⟨av, cv, rfl⟩ := hw2.shape
                 have HB2 : Hid (Below w1.heap.size w1 w2) := (Below.refl _ _).drew.trans hb2
                 have HW2 : Hid (WdE w2 w1.heap.size (.slice av nes.length cv) nes) := hw2
                 have b02 := cell_later HB2.out h0
                 have c42 := cell_later HB2.out k4
                 have c42f := (HB2.out.frozen (p := ⟨bI, j * 5 + 4, none⟩) hlI).trans c4f
                 clear hw2 hb2)
              | fail)
            all_goals
              have HF9 : Hid (FsS (w2.setCell ⟨bI, j * 5 + 4, none⟩ (.slice av nes.length cv)) bI n cI bD 20 cD dn (fun c => F c ∨ w1.heap.size ≤ c)) := by
                have := ((HFS.out.boundF.later HB2.out).entS j hjn HBK.out nes _ (HW2.out.own HEZ.out) (fun c hc => ⟨fun hh => by have := hh.2; have := hc.1; omega, hc.2⟩)).mono (F' := fun c => F c ∨ w1.heap.size ≤ c) fun c hh => by
                  rcases hh with hh | hh
                  · exact Or.inl hh.1
                  · exact Or.inr hh.1
                rw [← HDN.out]
                exact this
              have HC9 : Hid (Chg (fun c => c = bI) w1 (w2.setCell ⟨bI, j * 5 + 4, none⟩ (.slice av nes.length cv))) := Chg.set (F := fun c => c = bI) (Chg.of_below HB2.out) rfl _ _
              go_wp2
              go_ret
              exact HGD.out _ _ rfl HC9.out HF9.out

end Go.Proofs.YtpfafcodihhdfaaGreatDoor
