
/- Whose a block is: the model, and the walks of the specification's OwnerOf. -/
import Derived.Test.YtojegkekafampahKfA
import Derived.Test.YtojegkekafampahKrnB
import Derived.Deep.RegionHeld3
namespace Go.Proofs.Ytojegkekafampah
open Go.RowKit
set_option maxRecDepth 100000

theorem OwnRow.newL (w : World) (vs : List Value) (t : TypeId) : OwnRow (w.alloc (.cells vs.toArray t)) w.heap.size vs.length (fun i => vs[i]?.getD (.bool false)) := by
  refine ⟨_, t, Go.Deep.blk_alloc_new _ _, by simp, fun i hi => ?_⟩
  simp [hi]
theorem resRowL {w w1 : World} (x : Obj) (vs : List Value) (t : TypeId) (h : Below ((w.alloc x).alloc (.cells vs.toArray t)).heap.size ((w.alloc x).alloc (.cells vs.toArray t)) w1) : OwnRow w1 (w.heap.size + 1) vs.length (fun i => vs[i]?.getD (.bool false)) := by
  have h2 := (OwnRow.newL (w.alloc x) vs t).later h
  rwa [World.size_alloc] at h2

def hasB (e : E3) (x : Int) : Bool := decide (e.1 ≤ x ∧ x < e.1 + e.2.1)
/-- The extent that has block x, or a zero one. -/
def ownE (es : List E3) (x : Int) : E3 := (es.find? fun e => hasB e x).getD (0, 0, 0)
theorem ownE_at {es : List E3} {x : Int} {j : Nat} (h : ∀ i, i < j → hasB (extAt es i) x = false) (hj : j < es.length) (hh : hasB (extAt es j) x = true) : ownE es x = extAt es j := by
  unfold ownE
  induction es generalizing j with
  | nil => simp at hj
  | cons a t ih =>
    cases j with
    | zero =>
      have : hasB a x = true := by simpa [extAt] using hh
      simp [this, extAt]
    | succ j =>
      have h0 : hasB a x = false := by simpa [extAt] using h 0 (by omega)
      simp only [List.find?_cons, h0]
      have := ih (j := j) (fun i hi => by simpa [extAt] using h (i + 1) (by omega)) (by simpa using hj) (by simpa [extAt] using hh)
      rw [this]; simp [extAt]
theorem ownE_none {es : List E3} {x : Int} (h : ∀ i, i < es.length → hasB (extAt es i) x = false) : ownE es x = (0, 0, 0) := by
  unfold ownE
  induction es with
  | nil => rfl
  | cons a t ih =>
    have h0 : hasB a x = false := by simpa [extAt] using h 0 (by simp)
    simp only [List.find?_cons, h0]
    exact ih fun i hi => by simpa [extAt] using h (i + 1) (by simpa using hi)
/-- Found, it is one of the list; else it is zero. -/
theorem ownE_cases (es : List E3) (x : Int) : (∃ j, j < es.length ∧ ownE es x = extAt es j) ∨ ownE es x = (0, 0, 0) := by
  unfold ownE
  cases h : es.find? fun e => hasB e x with
  | none => exact Or.inr rfl
  | some e =>
    have hm := List.mem_of_find?_eq_some h
    obtain ⟨j, hj, rfl⟩ := List.mem_iff_getElem.1 hm
    exact Or.inl ⟨j, hj, by simp [extAt, hj]⟩

set_option maxHeartbeats 1600000 in
theorem l2Owner_walk (w : World) (bk : Nat) (aE : Option Addr) (nE cE nB : Nat) (es : List E3) (x : Int) (hnE : es.length = nE) (h2 : w.cell? ⟨bk, 2, none⟩ = some (.slice aE nE cE)) (hE : AtE w aE nE es) (h8 : nE ≤ 8) (h60 : nB ≤ 60) (hr : ∀ i, i < nE → rightB (extAt es i) nB = true) :
    Calls Try.prog 59 #[.pointer (some ⟨bk, 0, none⟩), .int .i64 x] w fun e w' => e = .returned (.int .i64 (ownE es x).2.2) ∧ ∃ m, w' = w.drewN m := by
  have HN : Hid (es.length = nE) := hnE
  have HE : Hid (AtE w aE nE es) := hE
  have HR : Hid (∀ i, i < nE → rightB (extAt es i) nB = true) := hr
  clear hnE hE hr
  go_enter Try.func59, Try.ntmps59
  go_wp2
  go_loopw [5] (fun i wr => ∃ j m : Nat, j ≤ nE ∧ i = .int .i64 j ∧ wr = w.drewN m ∧ ∀ i : Nat, i < j → hasB (extAt es i) x = false) (fun i _ => nE - (intOf i).toNat)
  case atStart => exact ⟨0, 0, Nat.zero_le _, rfl, rfl, fun i hi => by omega⟩
  case round =>
    obtain ⟨j, m, hj, rfl, rfl, hall⟩ := hrel
    have HA : Hid (∀ i : Nat, i < j → hasB (extAt es i) x = false) := hall
    clear hall
    by_cases hlt : j < nE
    · obtain ⟨b, off, rfl, c0, c1, c2⟩ := HE.out j hlt
      have hq := rightB_iff.1 (HR.out j hlt)
      have HX : Hid (extAt es j = ((es[j]?.getD (0, 0, 0)).1, (es[j]?.getD (0, 0, 0)).2.1, (es[j]?.getD (0, 0, 0)).2.2)) := rfl
      rw [HX.out] at hq
      dsimp only at hq
      generalize (es[j]?.getD (0, 0, 0)).1 = p at *
      generalize (es[j]?.getD (0, 0, 0)).2.1 = y at *
      generalize (es[j]?.getD (0, 0, 0)).2.2 = z at *
      have hp0 : 0 ≤ p := by omega
      have hp1 : p ≤ 60 := by omega
      have hy0 : 1 ≤ y := by omega
      have hy1 : y ≤ 60 := by omega
      clear hq
      cases hh : hasB (p, y, z) x
      · have HQ : Hid (decide (p ≤ x ∧ x ≤ p + y - 1) = false) := by
          unfold Hid
          simp [hasB] at hh ⊢
          intro h; have := hh h; omega
        have HH : Hid (hasB (extAt es j) x = false) := by unfold Hid; rw [HX.out]; exact hh
        clear hh
        go_wp2_with fail
        go_quiet ((go_at_call 79; refine quiet_same2 (l1In_is (r := false) ?_); exact HQ.out))
        go_wp2
        go_roundw
        case rel =>
          refine ⟨j + 1, m + nq, by omega, by go_num, by first | rfl | rw [World.drewN_drewN], fun i hi => ?_⟩
          by_cases e : i = j
          · subst e; exact HH.out
          · exact HA.out i (by omega)
        case measure => simp [intOf]; omega
      · have HQ : Hid (decide (p ≤ x ∧ x ≤ p + y - 1) = true) := by
          unfold Hid
          simp [hasB] at hh ⊢
          omega
        have HH : Hid (hasB (extAt es j) x = true) := by unfold Hid; rw [HX.out]; exact hh
        have HZ : Hid ((ownE es x).2.2 = z) := by unfold Hid; rw [ownE_at HA.out (by rw [HN.out]; exact hlt) HH.out, HX.out]
        clear hh
        go_wp2_with fail
        go_quiet ((go_at_call 79; refine quiet_same2 (l1In_is (r := true) ?_); exact HQ.out))
        go_wp2
        go_ret
        exact ⟨ret_int HZ.out.symm, m + nq, by first | rfl | rw [World.drewN_drewN]⟩
    · have e : j = nE := by omega
      subst e
      have HZ : Hid ((ownE es x).2.2 = 0) := by unfold Hid; rw [ownE_none (fun i hi => HA.out i (by rw [HN.out] at hi; exact hi))]
      go_wp2
      go_ret
      exact ⟨ret_int HZ.out.symm, m, rfl⟩

/-- What OwnerOf answers. -/
def ownR (d : KD) (x : Int) : Int × Int := if kernF d = 0 then (if placeB d.1.1.length x = true then (if (ownE d.2 x).2.2 = 0 then (4, 0) else (0, (ownE d.2 x).2.2)) else (3, 0)) else (kernF d, 0)

set_option maxHeartbeats 3200000 in
theorem specOwner_any (w : World) (vB vC vE : Value) (d : KD) (x : Int) (h : KernR w vB vC vE d) :
    Calls Try.prog 24 #[.agg #[vB, vC, vE], .int .i64 x] w fun e w' => e = .returned (.agg #[.int .i64 (ownR d x).1, .int .i64 (ownR d x).2]) ∧ Below w.heap.size w w' := by
  obtain ⟨a1, c1, rfl, hm1, _⟩ := h.1.1.open'
  obtain ⟨a2, c2, rfl, _⟩ := h.1.2.open'
  obtain ⟨a3, c3, rfl, _, hE⟩ := h.2.open'
  have H : Hid (KernR w (.slice a1 d.1.1.length c1) (.slice a2 d.1.2.length c2) (.slice a3 d.2.length c3) d) := h
  have HE : Hid (AtE w a3 d.2.length d.2) := hE
  clear h hE
  have HR : Hid (ownR d x = if kernF d = 0 then (if placeB d.1.1.length x = true then (if (ownE d.2 x).2.2 = 0 then (4, 0) else (0, (ownE d.2 x).2.2)) else (3, 0)) else (kernF d, 0)) := rfl
  have FACTS : Hid (kernF d = 0 → d.1.1.length ≤ 60 ∧ d.2.length ≤ 8 ∧ ∀ i, i < d.2.length → rightB (extAt d.2 i) d.1.1.length = true) := fun h => by
    obtain ⟨k1, k2, k3⟩ := kernF_ok h
    exact ⟨(faultF_lens k1).1, k2, fun i hi => (k3 i hi).1⟩
  generalize hlB : d.1.1.length = nB at *
  generalize hlC : d.1.2.length = nC at *
  generalize hlE : d.2.length = nE at *
  have HLE : Hid (d.2.length = nE) := hlE
  clear hlB hlC hlE
  by_cases hf : kernF d = 0
  · have HF : Hid (kernF d = 0) := hf
    rw [if_pos hf] at HR
    obtain ⟨h60, h8, hr⟩ := FACTS.out hf
    have HRT : Hid (∀ i, i < nE → rightB (extAt d.2 i) nB = true) := hr
    clear hr hf FACTS
    cases hp : placeB nB x
    · have HP : Hid (placeB nB x = false) := hp
      have HR1 : Hid (ownR d x = (3, 0)) := by unfold Hid; rw [HR.out, hp]; rfl
      rw [HR1.out]
      clear hp HR
      go_enter Try.func24, Try.ntmps24
      go_wp2_with fail
      refine (l2Fault_any (d := d) (((Bx.new w [.slice a1 nB c1, .slice a2 nC c2, .slice a3 nE c3] _).later (later1 _ _)) 0 _ rfl) (((Bx.new w [.slice a1 nB c1, .slice a2 nC c2, .slice a3 nE c3] _).later (later1 _ _)) 1 _ rfl) (((Bx.new w [.slice a1 nB c1, .slice a2 nC c2, .slice a3 nE c3] _).later (later1 _ _)) 2 _ rfl) (H.out.later (later2 _ _ _))).mono ?_
      rw [HF.out]
      rintro e w1 ⟨rfl, hb1⟩
      have HW1 : Hid (Below w.heap.size w w1) := (later2 _ _ _).trans (hb1.mono (by simp; omega))
      have HX1 : Hid (Bx w1 w.heap.size [.slice a1 nB c1, .slice a2 nC c2, .slice a3 nE c3]) := ((Bx.new w [.slice a1 nB c1, .slice a2 nC c2, .slice a3 nE c3] _).later (later1 _ _)).later hb1
      have HR1 := resRowL _ [.int .i64 0, .int .i64 0] _ hb1
      have t0 := HR1.cell (i := 0) (by simp)
      have t1 := HR1.cell (i := 1) (by simp)
      have s0 := HR1.frozen 0
      have s1 := HR1.frozen 1
      simp at t0 t1
      clear hb1 HR1
      go_wp2_with fail
      refine (l1Place_any _ _ a1 nB c1 x hm1 (HX1.out 0 _ rfl)).mono ?_
      rw [HP.out]
      rintro e w2 ⟨rfl, rfl⟩
      go_wp2
      exact bodyPost_ret (v := .agg #[.int .i64 3, .int .i64 0]) (by simp [results, Try.results24, go_sem, t0, t1]) rfl ⟨rfl, (HW1.out.setCell (by simp) _).setCell (by simp) _⟩
    · have HP : Hid (placeB nB x = true) := hp
      have HR2 : Hid (ownR d x = if (ownE d.2 x).2.2 = 0 then (4, 0) else (0, (ownE d.2 x).2.2)) := by unfold Hid; rw [HR.out, hp]; rfl
      rw [HR2.out]
      generalize hk : (ownE d.2 x).2.2 = key
      have HK : Hid ((ownE d.2 x).2.2 = key) := hk
      clear hp HR HR2 hk
      by_cases hz : key = 0
      · subst hz
        rw [if_pos rfl]
        go_enter Try.func24, Try.ntmps24
        go_wp2_with fail
        refine (l2Fault_any (d := d) (((Bx.new w [.slice a1 nB c1, .slice a2 nC c2, .slice a3 nE c3] _).later (later1 _ _)) 0 _ rfl) (((Bx.new w [.slice a1 nB c1, .slice a2 nC c2, .slice a3 nE c3] _).later (later1 _ _)) 1 _ rfl) (((Bx.new w [.slice a1 nB c1, .slice a2 nC c2, .slice a3 nE c3] _).later (later1 _ _)) 2 _ rfl) (H.out.later (later2 _ _ _))).mono ?_
        rw [HF.out]
        rintro e w1 ⟨rfl, hb1⟩
        have HW1 : Hid (Below w.heap.size w w1) := (later2 _ _ _).trans (hb1.mono (by simp; omega))
        have HX1 : Hid (Bx w1 w.heap.size [.slice a1 nB c1, .slice a2 nC c2, .slice a3 nE c3]) := ((Bx.new w [.slice a1 nB c1, .slice a2 nC c2, .slice a3 nE c3] _).later (later1 _ _)).later hb1
        have HR1 := resRowL _ [.int .i64 0, .int .i64 0] _ hb1
        have t0 := HR1.cell (i := 0) (by simp)
        have t1 := HR1.cell (i := 1) (by simp)
        have s0 := HR1.frozen 0
        have s1 := HR1.frozen 1
        simp at t0 t1
        clear hb1 HR1
        go_wp2_with fail
        refine (l1Place_any _ _ a1 nB c1 x hm1 (HX1.out 0 _ rfl)).mono ?_
        rw [HP.out]
        rintro e w2 ⟨rfl, rfl⟩
        go_wp2_with fail
        refine (l2Owner_walk _ _ a3 nE c3 nB d.2 x HLE.out (HX1.out 2 _ rfl) (HE.out.later HW1.out) h8 h60 HRT.out).mono ?_
        rw [HK.out]
        rintro e w2 ⟨rfl, m, rfl⟩
        go_wp2
        exact bodyPost_ret (v := .agg #[.int .i64 4, .int .i64 0]) (by simp [results, Try.results24, go_sem, t0, t1]) rfl ⟨rfl, ((below_drewN HW1.out m).setCell (by simp) _).setCell (by simp) _⟩
      · rw [if_neg hz]
        have hzz : (key == 0) = false := by simpa using hz
        clear hz
        go_enter Try.func24, Try.ntmps24
        go_wp2_with fail
        refine (l2Fault_any (d := d) (((Bx.new w [.slice a1 nB c1, .slice a2 nC c2, .slice a3 nE c3] _).later (later1 _ _)) 0 _ rfl) (((Bx.new w [.slice a1 nB c1, .slice a2 nC c2, .slice a3 nE c3] _).later (later1 _ _)) 1 _ rfl) (((Bx.new w [.slice a1 nB c1, .slice a2 nC c2, .slice a3 nE c3] _).later (later1 _ _)) 2 _ rfl) (H.out.later (later2 _ _ _))).mono ?_
        rw [HF.out]
        rintro e w1 ⟨rfl, hb1⟩
        have HW1 : Hid (Below w.heap.size w w1) := (later2 _ _ _).trans (hb1.mono (by simp; omega))
        have HX1 : Hid (Bx w1 w.heap.size [.slice a1 nB c1, .slice a2 nC c2, .slice a3 nE c3]) := ((Bx.new w [.slice a1 nB c1, .slice a2 nC c2, .slice a3 nE c3] _).later (later1 _ _)).later hb1
        have HR1 := resRowL _ [.int .i64 0, .int .i64 0] _ hb1
        have t0 := HR1.cell (i := 0) (by simp)
        have t1 := HR1.cell (i := 1) (by simp)
        have s0 := HR1.frozen 0
        have s1 := HR1.frozen 1
        simp at t0 t1
        clear hb1 HR1
        go_wp2_with fail
        refine (l1Place_any _ _ a1 nB c1 x hm1 (HX1.out 0 _ rfl)).mono ?_
        rw [HP.out]
        rintro e w2 ⟨rfl, rfl⟩
        go_wp2_with fail
        refine (l2Owner_walk _ _ a3 nE c3 nB d.2 x HLE.out (HX1.out 2 _ rfl) (HE.out.later HW1.out) h8 h60 HRT.out).mono ?_
        rw [HK.out]
        rintro e w2 ⟨rfl, m, rfl⟩
        go_wp2
        exact bodyPost_ret (v := .agg #[.int .i64 0, .int .i64 key]) (by simp [results, Try.results24, go_sem, t0, t1]) rfl ⟨rfl, ((below_drewN HW1.out m).setCell (by simp) _).setCell (by simp) _⟩
  · have HR1 : Hid (ownR d x = (kernF d, 0)) := by unfold Hid; rw [HR.out, if_neg hf]
    rw [HR1.out]
    clear HR HR1 FACTS
    generalize hc : kernF d = c at *
    have HC : Hid (kernF d = c) := hc
    have hne : (c != 0) = true := by simpa using hf
    clear hc hf
    go_enter Try.func24, Try.ntmps24
    go_wp2_with fail
    refine (l2Fault_any (d := d) (((Bx.new w [.slice a1 nB c1, .slice a2 nC c2, .slice a3 nE c3] _).later (later1 _ _)) 0 _ rfl) (((Bx.new w [.slice a1 nB c1, .slice a2 nC c2, .slice a3 nE c3] _).later (later1 _ _)) 1 _ rfl) (((Bx.new w [.slice a1 nB c1, .slice a2 nC c2, .slice a3 nE c3] _).later (later1 _ _)) 2 _ rfl) (H.out.later (later2 _ _ _))).mono ?_
    rw [HC.out]
    rintro e w1 ⟨rfl, hb1⟩
    have HW1 : Hid (Below w.heap.size w w1) := (later2 _ _ _).trans (hb1.mono (by simp; omega))
    have HR1 := resRowL _ [.int .i64 0, .int .i64 0] _ hb1
    have t0 := HR1.cell (i := 0) (by simp)
    have t1 := HR1.cell (i := 1) (by simp)
    have s0 := HR1.frozen 0
    have s1 := HR1.frozen 1
    simp at t0 t1
    clear hb1 HR1
    go_wp2
    exact bodyPost_ret (v := .agg #[.int .i64 c, .int .i64 0]) (by simp [results, Try.results24, go_sem, t0, t1]) rfl ⟨rfl, (HW1.out.setCell (by simp) _).setCell (by simp) _⟩
end Go.Proofs.Ytojegkekafampah
