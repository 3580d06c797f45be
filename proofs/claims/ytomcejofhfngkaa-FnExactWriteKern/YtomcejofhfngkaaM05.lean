/- Whose a block is: the model, and the walks of the specification's OwnerOf. The walks of the program's KernFault. Whose a block is: the walks of the program's OwnerOf. What 'append' and 'copy' of extents come to. -/
import Derived.Test.YtomcejofhfngkaaM04
import Derived.Deep.RegionHeld3
import Derived.Test.YtomcejofhfngkaaM01
import Derived.Test.YtomcejofhfngkaaM03
import Derived.Deep.AppendLies
import Derived.Laws.CopyOwn
namespace Go.Proofs.Ytomcejofhfngkaa
open Go.RowKit
set_option maxRecDepth 100000

theorem OwnRow.newL (w : World) (vs : List Value) (t : TypeId) : OwnRow (w.alloc (.cells vs.toArray t)) w.heap.size vs.length (fun i => vs[i]?.getD (.bool false)) := by
  refine ⟨_, t, Go.Deep.blk_alloc_new _ _, by simp, fun i hi => ?_⟩
  simp [hi]
theorem resRowL {w w1 : World} (x : Obj) (vs : List Value) (t : TypeId) (h : Below ((w.alloc x).alloc (.cells vs.toArray t)).heap.size ((w.alloc x).alloc (.cells vs.toArray t)) w1) : OwnRow w1 (w.heap.size + 1) vs.length (fun i => vs[i]?.getD (.bool false)) := by
  have h2 := (OwnRow.newL (w.alloc x) vs t).later h
  rwa [World.size_alloc] at h2

def hasB (e : E3) (x : Int) : Bool := decide (e.1 ≤ x ∧ x < e.1 + e.2.1)
/-- The extent that has block x, or a zero one. -/
def ownE (es : List E3) (x : Int) : E3 := (es.find? fun e => hasB e x).getD (0, 0, 0)
theorem ownE_at {es : List E3} {x : Int} {j : Nat} (h : ∀ i, i < j → hasB (extAt es i) x = false) (hj : j < es.length) (hh : hasB (extAt es j) x = true) : ownE es x = extAt es j := by
  unfold ownE
  induction es generalizing j with
  | nil => simp at hj
  | cons a t ih =>
    cases j with
    | zero =>
      have : hasB a x = true := by simpa [extAt] using hh
      simp [this, extAt]
    | succ j =>
      have h0 : hasB a x = false := by simpa [extAt] using h 0 (by omega)
      simp only [List.find?_cons, h0]
      have := ih (j := j) (fun i hi => by simpa [extAt] using h (i + 1) (by omega)) (by simpa using hj) (by simpa [extAt] using hh)
      rw [this]; simp [extAt]
theorem ownE_none {es : List E3} {x : Int} (h : ∀ i, i < es.length → hasB (extAt es i) x = false) : ownE es x = (0, 0, 0) := by
  unfold ownE
  induction es with
  | nil => rfl
  | cons a t ih =>
    have h0 : hasB a x = false := by simpa [extAt] using h 0 (by simp)
    simp only [List.find?_cons, h0]
    exact ih fun i hi => by simpa [extAt] using h (i + 1) (by simpa using hi)
/-- Found, it is one of the list; else it is zero. -/
theorem ownE_cases (es : List E3) (x : Int) : (∃ j, j < es.length ∧ ownE es x = extAt es j) ∨ ownE es x = (0, 0, 0) := by
  unfold ownE
  cases h : es.find? fun e => hasB e x with
  | none => exact Or.inr rfl
  | some e =>
    have hm := List.mem_of_find?_eq_some h
    obtain ⟨j, hj, rfl⟩ := List.mem_iff_getElem.1 hm
    exact Or.inl ⟨j, hj, by simp [extAt, hj]⟩

set_option maxHeartbeats 1600000 in
theorem l2Owner_walk (w : World) (bk : Nat) (aE : Option Addr) (nE cE nB : Nat) (es : List E3) (x : Int) (hnE : es.length = nE) (h2 : w.cell? ⟨bk, 2, none⟩ = some (.slice aE nE cE)) (hE : AtE w aE nE es) (h8 : nE ≤ 8) (h60 : nB ≤ 60) (hr : ∀ i, i < nE → rightB (extAt es i) nB = true) :
    Calls Try.prog 112 #[.pointer (some ⟨bk, 0, none⟩), .int .i64 x] w fun e w' => e = .returned (.int .i64 (ownE es x).2.2) ∧ ∃ m, w' = w.drewN m := by
  have HN : Hid (es.length = nE) := hnE
  have HE : Hid (AtE w aE nE es) := hE
  have HR : Hid (∀ i, i < nE → rightB (extAt es i) nB = true) := hr
  clear hnE hE hr
  go_enter Try.func112, Try.ntmps112
  go_wp2
  go_loopw [5] (fun i wr => ∃ j m : Nat, j ≤ nE ∧ i = .int .i64 j ∧ wr = w.drewN m ∧ ∀ i : Nat, i < j → hasB (extAt es i) x = false) (fun i _ => nE - (intOf i).toNat)
  case atStart => exact ⟨0, 0, Nat.zero_le _, rfl, rfl, fun i hi => by omega⟩
  case round =>
    obtain ⟨j, m, hj, rfl, rfl, hall⟩ := hrel
    have HA : Hid (∀ i : Nat, i < j → hasB (extAt es i) x = false) := hall
    clear hall
    by_cases hlt : j < nE
    · obtain ⟨b, off, rfl, c0, c1, c2⟩ := HE.out j hlt
      have hq := rightB_iff.1 (HR.out j hlt)
      have HX : Hid (extAt es j = ((es[j]?.getD (0, 0, 0)).1, (es[j]?.getD (0, 0, 0)).2.1, (es[j]?.getD (0, 0, 0)).2.2)) := rfl
      rw [HX.out] at hq
      dsimp only at hq
      generalize (es[j]?.getD (0, 0, 0)).1 = p at *
      generalize (es[j]?.getD (0, 0, 0)).2.1 = y at *
      generalize (es[j]?.getD (0, 0, 0)).2.2 = z at *
      have hp0 : 0 ≤ p := by omega
      have hp1 : p ≤ 60 := by omega
      have hy0 : 1 ≤ y := by omega
      have hy1 : y ≤ 60 := by omega
      clear hq
      cases hh : hasB (p, y, z) x
      · have HQ : Hid (decide (p ≤ x ∧ x ≤ p + y - 1) = false) := by
          unfold Hid
          simp [hasB] at hh ⊢
          intro h; have := hh h; omega
        have HH : Hid (hasB (extAt es j) x = false) := by unfold Hid; rw [HX.out]; exact hh
        clear hh
        go_wp2_with fail
        go_quiet ((go_at_call 87; refine quiet_same2 (l1In_is (r := false) ?_); exact HQ.out))
        go_wp2
        go_roundw
        case rel =>
          refine ⟨j + 1, m + nq, by omega, by go_num, by first | rfl | rw [World.drewN_drewN], fun i hi => ?_⟩
          by_cases e : i = j
          · subst e; exact HH.out
          · exact HA.out i (by omega)
        case measure => simp [intOf]; omega
      · have HQ : Hid (decide (p ≤ x ∧ x ≤ p + y - 1) = true) := by
          unfold Hid
          simp [hasB] at hh ⊢
          omega
        have HH : Hid (hasB (extAt es j) x = true) := by unfold Hid; rw [HX.out]; exact hh
        have HZ : Hid ((ownE es x).2.2 = z) := by unfold Hid; rw [ownE_at HA.out (by rw [HN.out]; exact hlt) HH.out, HX.out]
        clear hh
        go_wp2_with fail
        go_quiet ((go_at_call 87; refine quiet_same2 (l1In_is (r := true) ?_); exact HQ.out))
        go_wp2
        go_ret
        exact ⟨ret_int HZ.out.symm, m + nq, by first | rfl | rw [World.drewN_drewN]⟩
    · have e : j = nE := by omega
      subst e
      have HZ : Hid ((ownE es x).2.2 = 0) := by unfold Hid; rw [ownE_none (fun i hi => HA.out i (by rw [HN.out] at hi; exact hi))]
      go_wp2
      go_ret
      exact ⟨ret_int HZ.out.symm, m, rfl⟩

/-- What OwnerOf answers. -/
def ownR (d : KD) (x : Int) : Int × Int := if kernF d = 0 then (if placeB d.1.1.length x = true then (if (ownE d.2 x).2.2 = 0 then (4, 0) else (0, (ownE d.2 x).2.2)) else (3, 0)) else (kernF d, 0)

set_option maxHeartbeats 3200000 in
theorem specOwner_any (w : World) (vB vC vE : Value) (d : KD) (x : Int) (h : KernR w vB vC vE d) :
    Calls Try.prog 96 #[.agg #[vB, vC, vE], .int .i64 x] w fun e w' => e = .returned (.agg #[.int .i64 (ownR d x).1, .int .i64 (ownR d x).2]) ∧ Below w.heap.size w w' := by
  obtain ⟨a1, c1, rfl, hm1, _⟩ := h.1.1.open'
  obtain ⟨a2, c2, rfl, _⟩ := h.1.2.open'
  obtain ⟨a3, c3, rfl, _, hE⟩ := h.2.open'
  have H : Hid (KernR w (.slice a1 d.1.1.length c1) (.slice a2 d.1.2.length c2) (.slice a3 d.2.length c3) d) := h
  have HE : Hid (AtE w a3 d.2.length d.2) := hE
  clear h hE
  have HR : Hid (ownR d x = if kernF d = 0 then (if placeB d.1.1.length x = true then (if (ownE d.2 x).2.2 = 0 then (4, 0) else (0, (ownE d.2 x).2.2)) else (3, 0)) else (kernF d, 0)) := rfl
  have FACTS : Hid (kernF d = 0 → d.1.1.length ≤ 60 ∧ d.2.length ≤ 8 ∧ ∀ i, i < d.2.length → rightB (extAt d.2 i) d.1.1.length = true) := fun h => by
    obtain ⟨k1, k2, k3⟩ := kernF_ok h
    exact ⟨(faultF_lens k1).1, k2, fun i hi => (k3 i hi).1⟩
  generalize hlB : d.1.1.length = nB at *
  generalize hlC : d.1.2.length = nC at *
  generalize hlE : d.2.length = nE at *
  have HLE : Hid (d.2.length = nE) := hlE
  clear hlB hlC hlE
  by_cases hf : kernF d = 0
  · have HF : Hid (kernF d = 0) := hf
    rw [if_pos hf] at HR
    obtain ⟨h60, h8, hr⟩ := FACTS.out hf
    have HRT : Hid (∀ i, i < nE → rightB (extAt d.2 i) nB = true) := hr
    clear hr hf FACTS
    cases hp : placeB nB x
    · have HP : Hid (placeB nB x = false) := hp
      have HR1 : Hid (ownR d x = (3, 0)) := by unfold Hid; rw [HR.out, hp]; rfl
      rw [HR1.out]
      clear hp HR
      go_enter Try.func96, Try.ntmps96
      go_wp2_with fail
      refine (l2Fault_any (d := d) (((Bx.new w [.slice a1 nB c1, .slice a2 nC c2, .slice a3 nE c3] _).later (later1 _ _)) 0 _ rfl) (((Bx.new w [.slice a1 nB c1, .slice a2 nC c2, .slice a3 nE c3] _).later (later1 _ _)) 1 _ rfl) (((Bx.new w [.slice a1 nB c1, .slice a2 nC c2, .slice a3 nE c3] _).later (later1 _ _)) 2 _ rfl) (H.out.later (later2 _ _ _))).mono ?_
      rw [HF.out]
      rintro e w1 ⟨rfl, hb1⟩
      have HW1 : Hid (Below w.heap.size w w1) := (later2 _ _ _).trans (hb1.mono (by simp; omega))
      have HX1 : Hid (Bx w1 w.heap.size [.slice a1 nB c1, .slice a2 nC c2, .slice a3 nE c3]) := ((Bx.new w [.slice a1 nB c1, .slice a2 nC c2, .slice a3 nE c3] _).later (later1 _ _)).later hb1
      have HR1 := resRowL _ [.int .i64 0, .int .i64 0] _ hb1
      have t0 := HR1.cell (i := 0) (by simp)
      have t1 := HR1.cell (i := 1) (by simp)
      have s0 := HR1.frozen 0
      have s1 := HR1.frozen 1
      simp at t0 t1
      clear hb1 HR1
      go_wp2_with fail
      refine (l1Place_any _ _ a1 nB c1 x hm1 (HX1.out 0 _ rfl)).mono ?_
      rw [HP.out]
      rintro e w2 ⟨rfl, rfl⟩
      go_wp2
      exact bodyPost_ret (v := .agg #[.int .i64 3, .int .i64 0]) (by simp [results, Try.results96, go_sem, t0, t1]) rfl ⟨rfl, (HW1.out.setCell (by simp) _).setCell (by simp) _⟩
    · have HP : Hid (placeB nB x = true) := hp
      have HR2 : Hid (ownR d x = if (ownE d.2 x).2.2 = 0 then (4, 0) else (0, (ownE d.2 x).2.2)) := by unfold Hid; rw [HR.out, hp]; rfl
      rw [HR2.out]
      generalize hk : (ownE d.2 x).2.2 = key
      have HK : Hid ((ownE d.2 x).2.2 = key) := hk
      clear hp HR HR2 hk
      by_cases hz : key = 0
      · subst hz
        rw [if_pos rfl]
        go_enter Try.func96, Try.ntmps96
        go_wp2_with fail
        refine (l2Fault_any (d := d) (((Bx.new w [.slice a1 nB c1, .slice a2 nC c2, .slice a3 nE c3] _).later (later1 _ _)) 0 _ rfl) (((Bx.new w [.slice a1 nB c1, .slice a2 nC c2, .slice a3 nE c3] _).later (later1 _ _)) 1 _ rfl) (((Bx.new w [.slice a1 nB c1, .slice a2 nC c2, .slice a3 nE c3] _).later (later1 _ _)) 2 _ rfl) (H.out.later (later2 _ _ _))).mono ?_
        rw [HF.out]
        rintro e w1 ⟨rfl, hb1⟩
        have HW1 : Hid (Below w.heap.size w w1) := (later2 _ _ _).trans (hb1.mono (by simp; omega))
        have HX1 : Hid (Bx w1 w.heap.size [.slice a1 nB c1, .slice a2 nC c2, .slice a3 nE c3]) := ((Bx.new w [.slice a1 nB c1, .slice a2 nC c2, .slice a3 nE c3] _).later (later1 _ _)).later hb1
        have HR1 := resRowL _ [.int .i64 0, .int .i64 0] _ hb1
        have t0 := HR1.cell (i := 0) (by simp)
        have t1 := HR1.cell (i := 1) (by simp)
        have s0 := HR1.frozen 0
        have s1 := HR1.frozen 1
        simp at t0 t1
        clear hb1 HR1
        go_wp2_with fail
        refine (l1Place_any _ _ a1 nB c1 x hm1 (HX1.out 0 _ rfl)).mono ?_
        rw [HP.out]
        rintro e w2 ⟨rfl, rfl⟩
        go_wp2_with fail
        refine (l2Owner_walk _ _ a3 nE c3 nB d.2 x HLE.out (HX1.out 2 _ rfl) (HE.out.later HW1.out) h8 h60 HRT.out).mono ?_
        rw [HK.out]
        rintro e w2 ⟨rfl, m, rfl⟩
        go_wp2
        exact bodyPost_ret (v := .agg #[.int .i64 4, .int .i64 0]) (by simp [results, Try.results96, go_sem, t0, t1]) rfl ⟨rfl, ((below_drewN HW1.out m).setCell (by simp) _).setCell (by simp) _⟩
      · rw [if_neg hz]
        have hzz : (key == 0) = false := by simpa using hz
        clear hz
        go_enter Try.func96, Try.ntmps96
        go_wp2_with fail
        refine (l2Fault_any (d := d) (((Bx.new w [.slice a1 nB c1, .slice a2 nC c2, .slice a3 nE c3] _).later (later1 _ _)) 0 _ rfl) (((Bx.new w [.slice a1 nB c1, .slice a2 nC c2, .slice a3 nE c3] _).later (later1 _ _)) 1 _ rfl) (((Bx.new w [.slice a1 nB c1, .slice a2 nC c2, .slice a3 nE c3] _).later (later1 _ _)) 2 _ rfl) (H.out.later (later2 _ _ _))).mono ?_
        rw [HF.out]
        rintro e w1 ⟨rfl, hb1⟩
        have HW1 : Hid (Below w.heap.size w w1) := (later2 _ _ _).trans (hb1.mono (by simp; omega))
        have HX1 : Hid (Bx w1 w.heap.size [.slice a1 nB c1, .slice a2 nC c2, .slice a3 nE c3]) := ((Bx.new w [.slice a1 nB c1, .slice a2 nC c2, .slice a3 nE c3] _).later (later1 _ _)).later hb1
        have HR1 := resRowL _ [.int .i64 0, .int .i64 0] _ hb1
        have t0 := HR1.cell (i := 0) (by simp)
        have t1 := HR1.cell (i := 1) (by simp)
        have s0 := HR1.frozen 0
        have s1 := HR1.frozen 1
        simp at t0 t1
        clear hb1 HR1
        go_wp2_with fail
        refine (l1Place_any _ _ a1 nB c1 x hm1 (HX1.out 0 _ rfl)).mono ?_
        rw [HP.out]
        rintro e w2 ⟨rfl, rfl⟩
        go_wp2_with fail
        refine (l2Owner_walk _ _ a3 nE c3 nB d.2 x HLE.out (HX1.out 2 _ rfl) (HE.out.later HW1.out) h8 h60 HRT.out).mono ?_
        rw [HK.out]
        rintro e w2 ⟨rfl, m, rfl⟩
        go_wp2
        exact bodyPost_ret (v := .agg #[.int .i64 0, .int .i64 key]) (by simp [results, Try.results96, go_sem, t0, t1]) rfl ⟨rfl, ((below_drewN HW1.out m).setCell (by simp) _).setCell (by simp) _⟩
  · have HR1 : Hid (ownR d x = (kernF d, 0)) := by unfold Hid; rw [HR.out, if_neg hf]
    rw [HR1.out]
    clear HR HR1 FACTS
    generalize hc : kernF d = c at *
    have HC : Hid (kernF d = c) := hc
    have hne : (c != 0) = true := by simpa using hf
    clear hc hf
    go_enter Try.func96, Try.ntmps96
    go_wp2_with fail
    refine (l2Fault_any (d := d) (((Bx.new w [.slice a1 nB c1, .slice a2 nC c2, .slice a3 nE c3] _).later (later1 _ _)) 0 _ rfl) (((Bx.new w [.slice a1 nB c1, .slice a2 nC c2, .slice a3 nE c3] _).later (later1 _ _)) 1 _ rfl) (((Bx.new w [.slice a1 nB c1, .slice a2 nC c2, .slice a3 nE c3] _).later (later1 _ _)) 2 _ rfl) (H.out.later (later2 _ _ _))).mono ?_
    rw [HC.out]
    rintro e w1 ⟨rfl, hb1⟩
    have HW1 : Hid (Below w.heap.size w w1) := (later2 _ _ _).trans (hb1.mono (by simp; omega))
    have HR1 := resRowL _ [.int .i64 0, .int .i64 0] _ hb1
    have t0 := HR1.cell (i := 0) (by simp)
    have t1 := HR1.cell (i := 1) (by simp)
    have s0 := HR1.frozen 0
    have s1 := HR1.frozen 1
    simp at t0 t1
    clear hb1 HR1
    go_wp2
    exact bodyPost_ret (v := .agg #[.int .i64 c, .int .i64 0]) (by simp [results, Try.results96, go_sem, t0, t1]) rfl ⟨rfl, (HW1.out.setCell (by simp) _).setCell (by simp) _⟩
end Go.Proofs.Ytomcejofhfngkaa

namespace Go.Proofs.Ytomcejofhfngkaa
open Go.RowKit
set_option maxRecDepth 100000

/-- A key as a lock. -/
def lockF (z : Int) : Int := if 1 ≤ z ∧ z ≤ 9999 then z else 0
theorem lockOf_any (w : World) (z : Int) : Calls Try.prog 115 #[.int .i64 z] w fun e w' => e = .returned (.int .u16 (lockF z)) ∧ w' = w := by
  by_cases h1 : z < 1
  · have hl : lockF z = 0 := by unfold lockF; rw [if_neg (by omega)]
    rw [hl]
    go_enter Try.func115, Try.ntmps115
    go_wp2
    go_ret
    exact ⟨rfl, rfl⟩
  · have hd : decide (z < 1) = false := by simpa using h1
    by_cases h2 : 9999 < z
    · have hl : lockF z = 0 := by unfold lockF; rw [if_neg (by omega)]
      rw [hl]
      clear h1
      go_enter Try.func115, Try.ntmps115
      go_wp2
      go_ret
      exact ⟨rfl, rfl⟩
    · have hl : lockF z = z := by unfold lockF; rw [if_pos (by omega)]
      have hd2 : decide (9999 < z) = false := by simpa using h2
      have z0 : 0 ≤ z := by omega
      have z1 : z ≤ 65535 := by omega
      have hm : z % 65536 = z := by omega
      rw [hl]
      clear h1 h2
      go_enter Try.func115, Try.ntmps115
      go_wp2
      go_ret
      exact ⟨rfl, rfl⟩

theorem end_any (w : World) (x y z : Int) (hx0 : 0 ≤ x) (hx1 : x ≤ 60) (hy0 : 0 ≤ y) (hy1 : y ≤ 60) :
    Calls Try.prog 105 #[.agg #[.int .i64 x, .int .i64 y, .int .i64 z]] w fun e w' => e = .returned (.int .i64 (x + y)) ∧ Below w.heap.size w w' := by
  go_enter Try.func105, Try.ntmps105
  go_wp2
  go_ret
  exact ⟨rfl, later1 _ _⟩

set_option maxHeartbeats 800000 in
theorem extFault_any (w : World) (aB aC : Option Addr) (nB cB nC cC : Nat) (x y z : Int) (h60 : nB ≤ 60) :
    Calls Try.prog 104 #[.agg #[.slice aB nB cB, .slice aC nC cC], .agg #[.int .i64 x, .int .i64 y, .int .i64 z]] w fun e w' => e = .returned (.int .i64 (if rightB (x, y, z) nB = true then 0 else 3)) ∧ Below w.heap.size w w' := by
  by_cases hz : 1 ≤ z ∧ z ≤ 9999
  · have HL : Hid (lockF z = z) := by unfold Hid lockF; rw [if_pos hz]
    have hz0 : (z == 0) = false := by simp; omega
    by_cases hx0 : x < 0
    · have HR : Hid ((if rightB (x, y, z) nB = true then (0 : Int) else 3) = 3) := by unfold Hid; rw [if_neg (fun h => by have := (rightB_iff.1 h).2.1.1; simp at this; omega)]
      rw [HR.out]
      clear hz
      go_enter Try.func104, Try.ntmps104
      go_wp2_with fail
      refine (lockOf_any _ _).mono ?_
      rw [HL.out]
      rintro e w1 ⟨rfl, rfl⟩
      go_wp2
      go_ret
      exact ⟨rfl, later2 _ _ _⟩
    · have d1 : decide (x < 0) = false := by simpa using hx0
      by_cases hx1 : (nB : Int) < x
      · have HR : Hid ((if rightB (x, y, z) nB = true then (0 : Int) else 3) = 3) := by unfold Hid; rw [if_neg (fun h => by have := (rightB_iff.1 h).2.1.2; simp at this; omega)]
        rw [HR.out]
        clear hz hx0
        go_enter Try.func104, Try.ntmps104
        go_wp2_with fail
        refine (lockOf_any _ _).mono ?_
        rw [HL.out]
        rintro e w1 ⟨rfl, rfl⟩
        go_wp2
        go_ret
        exact ⟨rfl, later2 _ _ _⟩
      · have d2 : decide ((nB : Int) < x) = false := by simpa using hx1
        by_cases hy0 : y < 1
        · have HR : Hid ((if rightB (x, y, z) nB = true then (0 : Int) else 3) = 3) := by unfold Hid; rw [if_neg (fun h => by have := (rightB_iff.1 h).2.2.1.1; simp at this; omega)]
          rw [HR.out]
          clear hz hx0 hx1
          go_enter Try.func104, Try.ntmps104
          go_wp2_with fail
          refine (lockOf_any _ _).mono ?_
          rw [HL.out]
          rintro e w1 ⟨rfl, rfl⟩
          go_wp2
          go_ret
          exact ⟨rfl, later2 _ _ _⟩
        · have d3 : decide (y < 1) = false := by simpa using hy0
          by_cases hy1 : (nB : Int) < y
          · have HR : Hid ((if rightB (x, y, z) nB = true then (0 : Int) else 3) = 3) := by unfold Hid; rw [if_neg (fun h => by have := (rightB_iff.1 h).2.2.1.2; simp at this; omega)]
            rw [HR.out]
            clear hz hx0 hx1 hy0
            go_enter Try.func104, Try.ntmps104
            go_wp2_with fail
            refine (lockOf_any _ _).mono ?_
            rw [HL.out]
            rintro e w1 ⟨rfl, rfl⟩
            go_wp2
            go_ret
            exact ⟨rfl, later2 _ _ _⟩
          · have d4 : decide ((nB : Int) < y) = false := by simpa using hy1
            have hx0' : 0 ≤ x := by omega
            have hx1' : x ≤ 60 := by omega
            have hy0' : 0 ≤ y := by omega
            have hy1' : y ≤ 60 := by omega
            by_cases hs : (nB : Int) < x + y
            · have HR : Hid ((if rightB (x, y, z) nB = true then (0 : Int) else 3) = 3) := by unfold Hid; rw [if_neg (fun h => by have := (rightB_iff.1 h).2.2.2; simp at this; omega)]
              rw [HR.out]
              clear hz hx0 hx1 hy0 hy1
              go_enter Try.func104, Try.ntmps104
              go_wp2_with fail
              refine (lockOf_any _ _).mono ?_
              rw [HL.out]
              rintro e w1 ⟨rfl, rfl⟩
              go_wp2_with fail
              refine (end_any _ x y z hx0' hx1' hy0' hy1').mono ?_
              rintro e w2 ⟨rfl, hb2⟩
              have HB2 : Hid (Below w.heap.size w w2) := (later2 _ _ _).trans (hb2.mono (by simp; omega))
              clear hb2
              go_wp2
              go_ret
              exact ⟨rfl, HB2.out⟩
            · have d5 : decide ((nB : Int) < x + y) = false := by simpa using hs
              have HR : Hid ((if rightB (x, y, z) nB = true then (0 : Int) else 3) = 0) := by unfold Hid; rw [if_pos (rightB_iff.2 ⟨hz, ⟨by simp; omega, by simp; omega⟩, ⟨by simp; omega, by simp; omega⟩, by simp; omega⟩)]
              rw [HR.out]
              clear hz hx0 hx1 hy0 hy1 hs
              go_enter Try.func104, Try.ntmps104
              go_wp2_with fail
              refine (lockOf_any _ _).mono ?_
              rw [HL.out]
              rintro e w1 ⟨rfl, rfl⟩
              go_wp2_with fail
              refine (end_any _ x y z hx0' hx1' hy0' hy1').mono ?_
              rintro e w2 ⟨rfl, hb2⟩
              have HB2 : Hid (Below w.heap.size w w2) := (later2 _ _ _).trans (hb2.mono (by simp; omega))
              clear hb2
              go_wp2
              go_ret
              exact ⟨rfl, HB2.out⟩
  · have HL : Hid (lockF z = 0) := by unfold Hid lockF; rw [if_neg hz]
    have HR : Hid ((if rightB (x, y, z) nB = true then (0 : Int) else 3) = 3) := by unfold Hid; rw [if_neg (fun h => hz (rightB_iff.1 h).1)]
    rw [HR.out]
    clear hz
    go_enter Try.func104, Try.ntmps104
    go_wp2_with fail
    refine (lockOf_any _ _).mono ?_
    rw [HL.out]
    rintro e w1 ⟨rfl, rfl⟩
    go_wp2
    go_ret
    exact ⟨rfl, later2 _ _ _⟩

set_option maxHeartbeats 800000 in
theorem implKF_disk (w : World) (aB aC aE : Option Addr) (nB cB nC cC nE cE : Nat) (d : KD) (hD : DiskR w (.slice aB nB cB) (.slice aC nC cC) d.1) (hf : ¬ faultF d.1.1 d.1.2 = 0) :
    Calls Try.prog 75 #[.agg #[.slice aB nB cB, .slice aC nC cC, .slice aE nE cE]] w fun e w' => e = .returned (.int .i64 (faultF d.1.1 d.1.2)) ∧ Below w.heap.size w w' := by
  have HD : Hid (DiskR w (.slice aB nB cB) (.slice aC nC cC) d.1) := hD
  generalize hc : faultF d.1.1 d.1.2 = c at *
  have HC : Hid (faultF d.1.1 d.1.2 = c) := hc
  have hne : (c != 0) = true := by simpa using hf
  clear hD hf hc
  go_enter Try.func75, Try.ntmps75
  go_wp2_with fail
  refine (fault_any _ _ _ d.1.1 d.1.2 (HD.out.1.later (later1 _ _)) (HD.out.2.later (later1 _ _))).mono ?_
  rw [HC.out]
  rintro e w1 ⟨rfl, hb1⟩
  have HB1 : Hid (Below w.heap.size w w1) := (later1 _ _).trans (hb1.mono (by simp))
  clear hb1
  go_wp2
  go_ret
  exact ⟨rfl, HB1.out⟩

set_option maxHeartbeats 800000 in
theorem implKF_many (w : World) (aB aC aE : Option Addr) (nB cB nC cC nE cE : Nat) (d : KD) (hD : DiskR w (.slice aB nB cB) (.slice aC nC cC) d.1) (hf : faultF d.1.1 d.1.2 = 0) (h8 : 8 < nE) :
    Calls Try.prog 75 #[.agg #[.slice aB nB cB, .slice aC nC cC, .slice aE nE cE]] w fun e w' => e = .returned (.int .i64 2) ∧ Below w.heap.size w w' := by
  have HD : Hid (DiskR w (.slice aB nB cB) (.slice aC nC cC) d.1) := hD
  have HC : Hid (faultF d.1.1 d.1.2 = 0) := hf
  have h8' : (8 : Int) < (nE : Int) := by omega
  clear hD hf
  go_enter Try.func75, Try.ntmps75
  go_wp2_with fail
  refine (fault_any _ _ _ d.1.1 d.1.2 (HD.out.1.later (later1 _ _)) (HD.out.2.later (later1 _ _))).mono ?_
  rw [HC.out]
  rintro e w1 ⟨rfl, hb1⟩
  have HB1 : Hid (Below w.heap.size w w1) := (later1 _ _).trans (hb1.mono (by simp))
  have x2 : w1.cell? ⟨w.heap.size, 2, none⟩ = some (.slice aE nE cE) := by rw [hb1.cell (by simp), new_cell]; rfl
  clear hb1
  go_wp2
  go_ret
  exact ⟨rfl, HB1.out⟩

set_option maxHeartbeats 3200000 in
theorem implKF_walk (w : World) (aB aC aE : Option Addr) (nB cB nC cC nE cE : Nat) (d : KD) (hD : DiskR w (.slice aB nB cB) (.slice aC nC cC) d.1) (hE : AtE w aE nE d.2) (hf : faultF d.1.1 d.1.2 = 0) (h8 : nE ≤ 8) (h60 : nB ≤ 60) :
    Calls Try.prog 75 #[.agg #[.slice aB nB cB, .slice aC nC cC, .slice aE nE cE]] w fun e w' => e = .returned (.int .i64 (firstNZ (extOne d.2 nB) nE)) ∧ Below w.heap.size w w' := by
  have HD : Hid (DiskR w (.slice aB nB cB) (.slice aC nC cC) d.1) := hD
  have HC : Hid (faultF d.1.1 d.1.2 = 0) := hf
  have HE : Hid (AtE w aE nE d.2) := hE
  have h8' : decide ((8 : Int) < (nE : Int)) = false := by simp; omega
  clear hD hf hE
  go_enter Try.func75, Try.ntmps75
  go_wp2_with fail
  refine (fault_any _ _ _ d.1.1 d.1.2 (HD.out.1.later (later1 _ _)) (HD.out.2.later (later1 _ _))).mono ?_
  rw [HC.out]
  rintro e w1 ⟨rfl, hb1⟩
  have HB1 : Hid (Below w.heap.size w w1) := (later1 _ _).trans (hb1.mono (by simp))
  have HX1 : Hid (Bx w1 w.heap.size [.slice aB nB cB, .slice aC nC cC, .slice aE nE cE]) := (Bx.new w [.slice aB nB cB, .slice aC nC cC, .slice aE nE cE] _).later hb1
  have x2 := HX1.out 2 _ rfl
  clear hb1
  go_wp2
  clear x2
  go_loopw [20] (fun i wr => ∃ j : Nat, j ≤ nE ∧ i = .int .i64 j ∧ Below w.heap.size w wr ∧ Bx wr w.heap.size [.slice aB nB cB, .slice aC nC cC, .slice aE nE cE] ∧ ∀ i : Nat, i < j → extOne d.2 nB i = 0) (fun i _ => nE - (intOf i).toNat)
  case atStart => exact ⟨0, Nat.zero_le _, rfl, HB1.out, HX1.out, fun i hi => by omega⟩
  case round =>
    obtain ⟨j, hj, rfl, hbl, hbx, hall⟩ := hrel
    have HA : Hid (∀ i : Nat, i < j → extOne d.2 nB i = 0) := hall
    have HBL : Hid (Below w.heap.size w wr) := hbl
    have HBX : Hid (Bx wr w.heap.size [.slice aB nB cB, .slice aC nC cC, .slice aE nE cE]) := hbx
    have x0 := hbx 0 _ rfl
    have x1 := hbx 1 _ rfl
    have x2 := hbx 2 _ rfl
    have hzw : w.heap.size < wr.heap.size := hbx.lt
    clear hall hbl hbx
    by_cases hlt : j < nE
    · obtain ⟨b, off, rfl, c0, c1, c2⟩ := HE.out j hlt
      replace c0 := cell_later HBL.out c0
      replace c1 := cell_later HBL.out c1
      replace c2 := cell_later HBL.out c2
      have HX : Hid (extAt d.2 j = ((d.2[j]?.getD (0, 0, 0)).1, (d.2[j]?.getD (0, 0, 0)).2.1, (d.2[j]?.getD (0, 0, 0)).2.2)) := rfl
      generalize (d.2[j]?.getD (0, 0, 0)).1 = x at *
      generalize (d.2[j]?.getD (0, 0, 0)).2.1 = y at *
      generalize (d.2[j]?.getD (0, 0, 0)).2.2 = z at *
      cases hr : rightB (x, y, z) nB
      · have HR : Hid (rightB (x, y, z) nB = false) := hr
        have HO : Hid (extOne d.2 nB j = 3) := by unfold Hid extOne; rw [HX.out, hr]; rfl
        clear hr
        go_wp2_with fail
        refine (extFault_any _ aB aC nB cB nC cC x y z h60).mono ?_
        rw [HR.out]
        rintro e w2 ⟨rfl, hb2⟩
        have HB2 : Hid (Below wr.heap.size wr w2) := (later1 _ _).trans (hb2.mono (by simp))
        clear hb2
        go_wp2
        go_ret
        exact ⟨ret_int (by rw [firstNZ_at HA.out hlt (by rw [HO.out]; decide), HO.out]), HBL.out.trans (HB2.out.mono HBL.out.size)⟩
      · have HR : Hid (rightB (x, y, z) nB = true) := hr
        clear hr
        by_cases hj0 : j = 0
        · have HO : Hid (extOne d.2 nB j = 0) := by unfold Hid extOne; rw [HX.out, HR.out]; simp [hj0]
          have HJ0 : Hid (j = 0) := hj0
          have hpj : decide ((0 : Int) < (j : Int)) = false := by simp; omega
          have hpj2 : decide (0 < j) = false := by simp; omega
          have hpj3 : ¬ 0 < j := by omega
          clear hj0
          go_wp2_with fail
          refine (extFault_any _ aB aC nB cB nC cC x y z h60).mono ?_
          rw [HR.out]
          rintro e w2 ⟨rfl, hb2⟩
          have HB2 : Hid (Below wr.heap.size wr w2) := (later1 _ _).trans (hb2.mono (by simp))
          have k2 := cell_later HB2.out x2
          clear hb2
          go_wp2_with fail
          go_quiet (fail)
          go_wp2
          go_roundw
          case rel =>
            refine ⟨j + 1, by omega, by go_num, below_drewN (HBL.out.trans (HB2.out.mono HBL.out.size)) _, HBX.out.later (below_drewN HB2.out _), fun i hi => ?_⟩
            have : i = j := by have := HJ0.out; omega
            subst this; exact HO.out
          case measure => simp [intOf]; omega
        · obtain ⟨p, hjp⟩ : ∃ p, j = p + 1 := ⟨j - 1, by omega⟩
          have HJP : Hid (j = p + 1) := hjp
          have hjm : (j : Int) - 1 = (p : Int) := by omega
          have hj1 : 0 < j := by omega
          have hp8 : p ≤ 8 := by omega
          have hwr : IntKind.i64.wrap (p : Int) = (p : Int) := by rw [IntKind.wrap_i64]; omega
          clear hj0
          obtain ⟨b', off', e', p0, p1, p2⟩ := HE.out p (by omega)
          simp only [Option.some.injEq, Addr.mk.injEq, and_true] at e'
          obtain ⟨rfl, rfl⟩ := e'
          have hp := HA.out p (by omega)
          have hpr : rightB (extAt d.2 p) nB = true := by
            unfold extOne at hp
            by_cases h : rightB (extAt d.2 p) nB = true
            · exact h
            · rw [if_neg h] at hp; omega
          have hq := rightB_iff.1 hpr
          have HY : Hid (extAt d.2 p = ((d.2[p]?.getD (0, 0, 0)).1, (d.2[p]?.getD (0, 0, 0)).2.1, (d.2[p]?.getD (0, 0, 0)).2.2)) := rfl
          rw [HY.out] at hq
          dsimp only at hq
          generalize (d.2[p]?.getD (0, 0, 0)).1 = x' at *
          generalize (d.2[p]?.getD (0, 0, 0)).2.1 = y' at *
          generalize (d.2[p]?.getD (0, 0, 0)).2.2 = z' at *
          have hx'0 : 0 ≤ x' := by omega
          have hx'1 : x' ≤ 60 := by omega
          have hy'0 : 0 ≤ y' := by omega
          have hy'1 : y' ≤ 60 := by omega
          have hpn : p < nE := by omega
          clear hp hpr hq hjp
          have HO : Hid (extOne d.2 nB j = if x < x' + y' then 1 else 0) := by
            unfold Hid extOne
            rw [HX.out, HR.out, if_pos rfl, show j - 1 = p by have := HJP.out; omega, HY.out]
            by_cases h : x < x' + y' <;> simp [h, hj1]
          have HP0 : Hid (w.cell? _ = some (.int .i64 x')) := p0
          have HP1 : Hid (w.cell? _ = some (.int .i64 y')) := p1
          have HP2 : Hid (w.cell? _ = some (.int .i64 z')) := p2
          clear p0 p1 p2
          by_cases hlq : x < x' + y'
          · have hld : decide (x < x' + y') = true := by simpa using hlq
            have HO1 : Hid (extOne d.2 nB j = 1) := by unfold Hid; rw [HO.out, if_pos hlq]
            go_wp2_with fail
            refine (extFault_any _ aB aC nB cB nC cC x y z h60).mono ?_
            rw [HR.out]
            rintro e w2 ⟨rfl, hb2⟩
            have HB2 : Hid (Below wr.heap.size wr w2) := (later1 _ _).trans (hb2.mono (by simp))
            have HW2 : Hid (Below w.heap.size w w2) := HBL.out.trans (HB2.out.mono HBL.out.size)
            have e0 := ((Bx.new wr [.int .i64 x, .int .i64 y, .int .i64 z] 104).later hb2) 0 _ rfl
            have k2 := cell_later HB2.out x2
            have p0 := cell_later HW2.out HP0.out
            have p1 := cell_later HW2.out HP1.out
            have p2 := cell_later HW2.out HP2.out
            clear hb2
            go_wp2_with fail
            go_region_with ((go_at_call 105; refine (end_any _ x' y' z' hx'0 hx'1 hy'0 hy'1).mono ?_; rintro e w3 ⟨rfl, hb3⟩; have HB3 : Hid (Below w2.heap.size w2 w3) := (Below.refl _ _).drew.trans hb3; have e3 := cell_later hb3 e0; clear hb3))
            all_goals
              go_wp2
              go_ret
              exact ⟨ret_int (by rw [firstNZ_at HA.out hlt (by rw [HO1.out]; decide), HO1.out]), HW2.out.trans (HB3.out.mono HW2.out.size)⟩
          · have hld : decide (x < x' + y') = false := by simpa using hlq
            have HO1 : Hid (extOne d.2 nB j = 0) := by unfold Hid; rw [HO.out, if_neg hlq]
            go_wp2_with fail
            refine (extFault_any _ aB aC nB cB nC cC x y z h60).mono ?_
            rw [HR.out]
            rintro e w2 ⟨rfl, hb2⟩
            have HB2 : Hid (Below wr.heap.size wr w2) := (later1 _ _).trans (hb2.mono (by simp))
            have HW2 : Hid (Below w.heap.size w w2) := HBL.out.trans (HB2.out.mono HBL.out.size)
            have e0 := ((Bx.new wr [.int .i64 x, .int .i64 y, .int .i64 z] 104).later hb2) 0 _ rfl
            have k2 := cell_later HB2.out x2
            have p0 := cell_later HW2.out HP0.out
            have p1 := cell_later HW2.out HP1.out
            have p2 := cell_later HW2.out HP2.out
            clear hb2
            go_wp2_with fail
            go_region_with ((go_at_call 105; refine (end_any _ x' y' z' hx'0 hx'1 hy'0 hy'1).mono ?_; rintro e w3 ⟨rfl, hb3⟩; have HB3 : Hid (Below w2.heap.size w2 w3) := (Below.refl _ _).drew.trans hb3; have e3 := cell_later hb3 e0; clear hb3))
            all_goals
              go_wp2
              go_roundw
              case rel =>
                refine ⟨j + 1, by omega, by go_num, HW2.out.trans (HB3.out.mono HW2.out.size), (HBX.out.later HB2.out).later HB3.out, fun i hi => ?_⟩
                by_cases e : i = j
                · subst e; exact HO1.out
                · exact HA.out i (by omega)
              case measure => simp [intOf]; omega
    · have e : j = nE := by omega
      subst e
      go_wp2
      go_ret
      exact ⟨ret_int (firstNZ_zero HA.out).symm, HBL.out⟩

theorem implKernFault_any (w : World) (vB vC vE : Value) (d : KD) (h : KernR w vB vC vE d) :
    Calls Try.prog 75 #[.agg #[vB, vC, vE]] w fun e w' => e = .returned (.int .i64 (kernF d)) ∧ Below w.heap.size w w' := by
  obtain ⟨a1, c1, rfl, _⟩ := h.1.1.open'
  obtain ⟨a2, c2, rfl, _⟩ := h.1.2.open'
  obtain ⟨a3, c3, rfl, _, hE⟩ := h.2.open'
  by_cases hf : faultF d.1.1 d.1.2 = 0
  · by_cases h8 : 8 < d.2.length
    · rw [kernF_many hf h8]
      exact implKF_many w _ _ _ _ _ _ _ _ _ d h.1 hf h8
    · rw [kernF_few hf h8]
      exact implKF_walk w _ _ _ _ _ _ _ _ _ d h.1 hE hf (by omega) (faultF_lens hf).1
  · rw [kernF_disk hf]
    exact implKF_disk w _ _ _ _ _ _ _ _ _ d h.1 hf
end Go.Proofs.Ytomcejofhfngkaa

namespace Go.Proofs.Ytomcejofhfngkaa
open Go.RowKit
set_option maxRecDepth 100000

set_option maxHeartbeats 800000 in
theorem has_any (w : World) (p y z x : Int) (hp0 : 0 ≤ p) (hp1 : p ≤ 60) (hy0 : 0 ≤ y) (hy1 : y ≤ 60) :
    Calls Try.prog 114 #[.agg #[.int .i64 p, .int .i64 y, .int .i64 z], .int .i64 x] w fun e w' => e = .returned (.bool (hasB (p, y, z) x)) ∧ Below w.heap.size w w' := by
  by_cases h1 : p ≤ x
  · have hd : decide (p ≤ x) = true := by simpa using h1
    by_cases h2 : x < p + y
    · have hd2 : decide (x < p + y) = true := by simpa using h2
      have HR : Hid (hasB (p, y, z) x = true) := by unfold Hid hasB; simp [h1, h2]
      rw [HR.out]
      clear h1 h2
      go_enter Try.func114, Try.ntmps114
      go_wp2_with fail
      refine (end_any _ p y z hp0 hp1 hy0 hy1).mono ?_
      rintro e w2 ⟨rfl, hb2⟩
      have HB2 : Hid (Below w.heap.size w w2) := (later1 _ _).trans (hb2.mono (by simp))
      clear hb2
      go_wp2
      go_ret
      exact ⟨rfl, HB2.out⟩
    · have hd2 : decide (x < p + y) = false := by simpa using h2
      have HR : Hid (hasB (p, y, z) x = false) := by unfold Hid hasB; simp [h2]
      rw [HR.out]
      clear h1 h2
      go_enter Try.func114, Try.ntmps114
      go_wp2_with fail
      refine (end_any _ p y z hp0 hp1 hy0 hy1).mono ?_
      rintro e w2 ⟨rfl, hb2⟩
      have HB2 : Hid (Below w.heap.size w w2) := (later1 _ _).trans (hb2.mono (by simp))
      clear hb2
      go_wp2
      go_ret
      exact ⟨rfl, HB2.out⟩
  · have hd : decide (p ≤ x) = false := by simpa using h1
    have HR : Hid (hasB (p, y, z) x = false) := by unfold Hid hasB; simp [h1]
    rw [HR.out]
    clear h1
    go_enter Try.func114, Try.ntmps114
    go_wp2
    go_ret
    exact ⟨rfl, later1 _ _⟩
theorem nobody_any (w : World) : Calls Try.prog 113 #[] w fun e w' => e = .returned (.agg #[.int .i64 0, .int .i64 0, .int .i64 0]) ∧ Below w.heap.size w w' := by
  go_enter Try.func113, Try.ntmps113
  go_wp2
  exact bodyPost_ret (v := .agg #[.int .i64 0, .int .i64 0, .int .i64 0]) (by simp [results, Try.results113, go_sem]) rfl ⟨rfl, later1 _ _⟩

set_option maxHeartbeats 1600000 in
theorem extWith_walk (w : World) (aE : Option Addr) (nE cE nB : Nat) (es : List E3) (x : Int) (hnE : es.length = nE) (hE : AtE w aE nE es) (h8 : nE ≤ 8) (h60 : nB ≤ 60) (hr : ∀ i, i < nE → rightB (extAt es i) nB = true) :
    Calls Try.prog 99 #[.slice aE nE cE, .int .i64 x] w fun e w' => e = .returned (.agg #[.int .i64 (ownE es x).1, .int .i64 (ownE es x).2.1, .int .i64 (ownE es x).2.2]) ∧ Below w.heap.size w w' := by
  have HN : Hid (es.length = nE) := hnE
  have HE : Hid (AtE w aE nE es) := hE
  have HR : Hid (∀ i, i < nE → rightB (extAt es i) nB = true) := hr
  clear hnE hE hr
  go_enter Try.func99, Try.ntmps99
  go_wp2
  go_loopw [9] (fun i wr => ∃ j : Nat, j ≤ nE ∧ i = .int .i64 j ∧ Below w.heap.size w wr ∧ OwnRow wr w.heap.size 3 (fun i => [Value.int .i64 0, .int .i64 0, .int .i64 0][i]?.getD (.bool false)) ∧ ∀ i : Nat, i < j → hasB (extAt es i) x = false) (fun i _ => nE - (intOf i).toNat)
  case atStart => exact ⟨0, Nat.zero_le _, rfl, later1 _ _, OwnRow.newL w [.int .i64 0, .int .i64 0, .int .i64 0] _, fun i hi => by omega⟩
  case round =>
    obtain ⟨j, hj, rfl, hbl, hrow, hall⟩ := hrel
    have HA : Hid (∀ i : Nat, i < j → hasB (extAt es i) x = false) := hall
    have HBL : Hid (Below w.heap.size w wr) := hbl
    have HROW : Hid (OwnRow wr w.heap.size 3 (fun i => [Value.int .i64 0, .int .i64 0, .int .i64 0][i]?.getD (.bool false))) := hrow
    have hzw : w.heap.size < wr.heap.size := hrow.lt
    clear hall hbl hrow
    by_cases hlt : j < nE
    · obtain ⟨b, off, rfl, c0, c1, c2⟩ := HE.out j hlt
      replace c0 := cell_later HBL.out c0
      replace c1 := cell_later HBL.out c1
      replace c2 := cell_later HBL.out c2
      have hq := rightB_iff.1 (HR.out j hlt)
      have HX : Hid (extAt es j = ((es[j]?.getD (0, 0, 0)).1, (es[j]?.getD (0, 0, 0)).2.1, (es[j]?.getD (0, 0, 0)).2.2)) := rfl
      rw [HX.out] at hq
      dsimp only at hq
      generalize (es[j]?.getD (0, 0, 0)).1 = p at *
      generalize (es[j]?.getD (0, 0, 0)).2.1 = y at *
      generalize (es[j]?.getD (0, 0, 0)).2.2 = z at *
      have hp0 : 0 ≤ p := by omega
      have hp1 : p ≤ 60 := by omega
      have hy0 : 0 ≤ y := by omega
      have hy1 : y ≤ 60 := by omega
      clear hq
      cases hh : hasB (p, y, z) x
      · have HQ : Hid (hasB (p, y, z) x = false) := hh
        have HH : Hid (hasB (extAt es j) x = false) := by unfold Hid; rw [HX.out]; exact hh
        clear hh
        go_wp2_with fail
        refine (has_any _ p y z x hp0 hp1 hy0 hy1).mono ?_
        rw [HQ.out]
        rintro e w2 ⟨rfl, hb2⟩
        have HB2 : Hid (Below wr.heap.size wr w2) := (later1 _ _).trans (hb2.mono (by simp))
        clear hb2
        go_wp2
        go_roundw
        case rel =>
          refine ⟨j + 1, by omega, by go_num, HBL.out.trans (HB2.out.mono HBL.out.size), HROW.out.later HB2.out, fun i hi => ?_⟩
          by_cases e : i = j
          · subst e; exact HH.out
          · exact HA.out i (by omega)
        case measure => simp [intOf]; omega
      · have HQ : Hid (hasB (p, y, z) x = true) := hh
        have HH : Hid (hasB (extAt es j) x = true) := by unfold Hid; rw [HX.out]; exact hh
        have HZ : Hid (ownE es x = (p, y, z)) := by unfold Hid; rw [ownE_at HA.out (by rw [HN.out]; exact hlt) HH.out, HX.out]
        clear hh
        go_wp2_with fail
        refine (has_any _ p y z x hp0 hp1 hy0 hy1).mono ?_
        rw [HQ.out]
        rintro e w2 ⟨rfl, hb2⟩
        have HB2 : Hid (Below wr.heap.size wr w2) := (later1 _ _).trans (hb2.mono (by simp))
        have HE2 := (Bx.new wr [.int .i64 p, .int .i64 y, .int .i64 z] 104).later hb2
        have e0 := HE2 0 _ rfl
        have e1 := HE2 1 _ rfl
        have e2 := HE2 2 _ rfl
        have HR2 := HROW.out.later HB2.out
        have t0 := HR2.cell (i := 0) (by omega)
        have t1 := HR2.cell (i := 1) (by omega)
        have t2 := HR2.cell (i := 2) (by omega)
        have s0 := HR2.frozen 0
        have s1 := HR2.frozen 1
        have s2 := HR2.frozen 2
        simp at t0 t1 t2
        clear hb2 HE2 HR2
        go_wp2
        exact bodyPost_ret (v := .agg #[.int .i64 p, .int .i64 y, .int .i64 z]) (by simp [results, Try.results99, go_sem, t0, t1, t2]) rfl ⟨by rw [HZ.out], (((HBL.out.trans (HB2.out.mono HBL.out.size)).setCell (by simp) _).setCell (by simp) _).setCell (by simp) _⟩
    · have e : j = nE := by omega
      subst e
      have HZ : Hid (ownE es x = (0, 0, 0)) := by unfold Hid; rw [ownE_none (fun i hi => HA.out i (by rw [HN.out] at hi; exact hi))]
      go_wp2_with fail
      refine (nobody_any _).mono ?_
      rintro e w2 ⟨rfl, hb2⟩
      have HB2 : Hid (Below wr.heap.size wr w2) := hb2
      have HR2 := HROW.out.later hb2
      have t0 := HR2.cell (i := 0) (by omega)
      have t1 := HR2.cell (i := 1) (by omega)
      have t2 := HR2.cell (i := 2) (by omega)
      have s0 := HR2.frozen 0
      have s1 := HR2.frozen 1
      have s2 := HR2.frozen 2
      simp at t0 t1 t2
      clear hb2 HR2
      go_wp2
      exact bodyPost_ret (v := .agg #[.int .i64 0, .int .i64 0, .int .i64 0]) (by simp [results, Try.results99, go_sem, t0, t1, t2]) rfl ⟨by rw [HZ.out], (((HBL.out.trans (HB2.out.mono HBL.out.size)).setCell (by simp) _).setCell (by simp) _).setCell (by simp) _⟩

theorem ownE_zero {d : KD} {x : Int} (h : kernF d = 0) : (ownE d.2 x).2.2 = 0 ↔ ownE d.2 x = (0, 0, 0) := by
  constructor
  · intro hz
    rcases ownE_cases d.2 x with ⟨j, hj, e⟩ | e
    · have := (rightB_iff.1 ((kernF_ok h).2.2 j hj).1).1.1
      rw [e] at hz; omega
    · exact e
  · intro e; rw [e]

set_option maxHeartbeats 3200000 in
theorem implOwner_any (w : World) (vB vC vE : Value) (d : KD) (x : Int) (h : KernR w vB vC vE d) :
    Calls Try.prog 98 #[.agg #[vB, vC, vE], .int .i64 x] w fun e w' => e = .returned (.agg #[.int .i64 (ownR d x).1, .int .i64 (ownR d x).2]) ∧ Below w.heap.size w w' := by
  obtain ⟨a1, c1, rfl, hm1, _⟩ := h.1.1.open'
  obtain ⟨a2, c2, rfl, _⟩ := h.1.2.open'
  obtain ⟨a3, c3, rfl, _, hE⟩ := h.2.open'
  have H : Hid (KernR w (.slice a1 d.1.1.length c1) (.slice a2 d.1.2.length c2) (.slice a3 d.2.length c3) d) := h
  have HE : Hid (AtE w a3 d.2.length d.2) := hE
  clear h hE
  have HR : Hid (ownR d x = if kernF d = 0 then (if placeB d.1.1.length x = true then (if (ownE d.2 x).2.2 = 0 then (4, 0) else (0, (ownE d.2 x).2.2)) else (3, 0)) else (kernF d, 0)) := rfl
  have FACTS : Hid (kernF d = 0 → d.1.1.length ≤ 60 ∧ d.2.length ≤ 8 ∧ ∀ i, i < d.2.length → rightB (extAt d.2 i) d.1.1.length = true) := fun h => by
    obtain ⟨k1, k2, k3⟩ := kernF_ok h
    exact ⟨(faultF_lens k1).1, k2, fun i hi => (k3 i hi).1⟩
  generalize hlB : d.1.1.length = nB at *
  generalize hlC : d.1.2.length = nC at *
  generalize hlE : d.2.length = nE at *
  have HLE : Hid (d.2.length = nE) := hlE
  clear hlB hlC hlE hm1
  by_cases hf : kernF d = 0
  · have HF : Hid (kernF d = 0) := hf
    rw [if_pos hf] at HR
    obtain ⟨h60, h8, hr⟩ := FACTS.out hf
    have HRT : Hid (∀ i, i < nE → rightB (extAt d.2 i) nB = true) := hr
    clear hr hf FACTS
    cases hp : placeB nB x
    · have HP : Hid (placeB nB x = false) := hp
      have HR1 : Hid (ownR d x = (3, 0)) := by unfold Hid; rw [HR.out, hp]; rfl
      rw [HR1.out]
      clear hp HR
      go_enter Try.func98, Try.ntmps98
      go_wp2_with fail
      refine (implKernFault_any _ _ _ _ d (H.out.later (later2 _ _ _))).mono ?_
      rw [HF.out]
      rintro e w1 ⟨rfl, hb1⟩
      have HW1 : Hid (Below w.heap.size w w1) := (later2 _ _ _).trans (hb1.mono (by simp; omega))
      have HX1 : Hid (Bx w1 w.heap.size [.slice a1 nB c1, .slice a2 nC c2, .slice a3 nE c3]) := ((Bx.new w [.slice a1 nB c1, .slice a2 nC c2, .slice a3 nE c3] _).later (later1 _ _)).later hb1
      have HR1 : Hid (OwnRow w1 (w.heap.size + 1) 2 _) := resRowL _ [.int .i64 0, .int .i64 0] _ hb1
      have x0 := HX1.out 0 _ rfl
      have x1 := HX1.out 1 _ rfl
      clear hb1
      go_wp2_with fail
      refine (isPlace_any _ a1 nB c1 _ x).mono ?_
      rw [HP.out]
      rintro e w2 ⟨rfl, hb2⟩
      have HW2 : Hid (Below w.heap.size w w2) := HW1.out.trans (hb2.mono HW1.out.size)
      have HR2 := HR1.out.later hb2
      have t0 := HR2.cell (i := 0) (by simp)
      have t1 := HR2.cell (i := 1) (by simp)
      have s0 := HR2.frozen 0
      have s1 := HR2.frozen 1
      simp at t0 t1
      clear hb2 HR2
      go_wp2
      exact bodyPost_ret (v := .agg #[.int .i64 3, .int .i64 0]) (by simp [results, Try.results98, go_sem, t0, t1]) rfl ⟨rfl, (HW2.out.setCell (by simp) _).setCell (by simp) _⟩
    · have HP : Hid (placeB nB x = true) := hp
      have HR2 : Hid (ownR d x = if (ownE d.2 x).2.2 = 0 then (4, 0) else (0, (ownE d.2 x).2.2)) := by unfold Hid; rw [HR.out, hp]; rfl
      have HEQ : Hid ((ownE d.2 x).2.2 = 0 ↔ ownE d.2 x = (0, 0, 0)) := ownE_zero HF.out
      rw [HR2.out]
      obtain ⟨p, y, z, hk⟩ : ∃ p y z, ownE d.2 x = (p, y, z) := ⟨_, _, _, rfl⟩
      have HK : Hid (ownE d.2 x = (p, y, z)) := hk
      have HEQ' : Hid (z = 0 ↔ p = 0 ∧ y = 0 ∧ z = 0) := by
        have := HEQ.out
        rw [hk] at this
        unfold Hid
        simpa using this
      rw [hk]
      clear hp HR HR2 hk HEQ
      by_cases hz : z = 0
      · obtain ⟨rfl, rfl, rfl⟩ := HEQ'.out.1 hz
        rw [if_pos rfl]
        clear hz HEQ'
        go_enter Try.func98, Try.ntmps98
        go_wp2_with fail
        refine (implKernFault_any _ _ _ _ d (H.out.later (later2 _ _ _))).mono ?_
        rw [HF.out]
        rintro e w1 ⟨rfl, hb1⟩
        have HW1 : Hid (Below w.heap.size w w1) := (later2 _ _ _).trans (hb1.mono (by simp; omega))
        have HX1 : Hid (Bx w1 w.heap.size [.slice a1 nB c1, .slice a2 nC c2, .slice a3 nE c3]) := ((Bx.new w [.slice a1 nB c1, .slice a2 nC c2, .slice a3 nE c3] _).later (later1 _ _)).later hb1
        have HR1 : Hid (OwnRow w1 (w.heap.size + 1) 2 _) := resRowL _ [.int .i64 0, .int .i64 0] _ hb1
        have x0 := HX1.out 0 _ rfl
        have x1 := HX1.out 1 _ rfl
        clear hb1
        go_wp2_with fail
        refine (isPlace_any _ a1 nB c1 _ x).mono ?_
        rw [HP.out]
        rintro e w2 ⟨rfl, hb2⟩
        have HW2 : Hid (Below w.heap.size w w2) := HW1.out.trans (hb2.mono HW1.out.size)
        have HR2 : Hid (OwnRow w2 (w.heap.size + 1) 2 _) := HR1.out.later hb2
        have x2 := cell_later hb2 (HX1.out 2 _ rfl)
        clear hb2 x0 x1
        go_wp2_with fail
        refine (extWith_walk _ a3 nE c3 nB d.2 x HLE.out (HE.out.later HW2.out) h8 h60 HRT.out).mono ?_
        rw [HK.out]
        rintro e w3 ⟨rfl, hb3⟩
        have HW3 : Hid (Below w.heap.size w w3) := HW2.out.trans (hb3.mono HW2.out.size)
        have HR3 : Hid (OwnRow w3 (w.heap.size + 1) 2 _) := HR2.out.later hb3
        clear hb3 x2
        have e0 := Bx.new w3 [.int .i64 0, .int .i64 0, .int .i64 0] 104 0 _ rfl
        have e1 := Bx.new w3 [.int .i64 0, .int .i64 0, .int .i64 0] 104 1 _ rfl
        have e2 := Bx.new w3 [.int .i64 0, .int .i64 0, .int .i64 0] 104 2 _ rfl
        go_wp2_with fail
        go_region_held3 (fun W => W.cell? ⟨w3.heap.size, 0, none⟩ = some (.int .i64 0) ∧ W.cell? ⟨w3.heap.size, 1, none⟩ = some (.int .i64 0) ∧ W.cell? ⟨w3.heap.size, 2, none⟩ = some (.int .i64 0)) (go_keep) (first | (go_at_call 113; refine (nobody_any _).mono ?_; rintro e w4 ⟨rfl, hb4⟩; have HB4 : Hid (Below w3.heap.size w3 w4) := (later1 _ _).drew.trans (hb4.mono (by simp)); have k0 := cell_later hb4 e0; have k1 := cell_later hb4 e1; have k2 := cell_later hb4 e2; clear hb4))
        all_goals
          have HR4 := HR3.out.later HB4.out
          have t0 := HR4.cell (i := 0) (by simp)
          have t1 := HR4.cell (i := 1) (by simp)
          have s0 := HR4.frozen 0
          have s1 := HR4.frozen 1
          simp at t0 t1
          clear HR4 e0 e1 e2
          go_wp2
          exact bodyPost_ret (v := .agg #[.int .i64 4, .int .i64 0]) (by simp [results, Try.results98, go_sem, t0, t1]) rfl ⟨rfl, ((HW3.out.trans (HB4.out.mono HW3.out.size)).setCell (by simp) _).setCell (by simp) _⟩
      · rw [if_neg hz]
        have hzz : (z == 0) = false := by simpa using hz
        clear HEQ'
        go_enter Try.func98, Try.ntmps98
        go_wp2_with fail
        refine (implKernFault_any _ _ _ _ d (H.out.later (later2 _ _ _))).mono ?_
        rw [HF.out]
        rintro e w1 ⟨rfl, hb1⟩
        have HW1 : Hid (Below w.heap.size w w1) := (later2 _ _ _).trans (hb1.mono (by simp; omega))
        have HX1 : Hid (Bx w1 w.heap.size [.slice a1 nB c1, .slice a2 nC c2, .slice a3 nE c3]) := ((Bx.new w [.slice a1 nB c1, .slice a2 nC c2, .slice a3 nE c3] _).later (later1 _ _)).later hb1
        have HR1 : Hid (OwnRow w1 (w.heap.size + 1) 2 _) := resRowL _ [.int .i64 0, .int .i64 0] _ hb1
        have x0 := HX1.out 0 _ rfl
        have x1 := HX1.out 1 _ rfl
        clear hb1
        go_wp2_with fail
        refine (isPlace_any _ a1 nB c1 _ x).mono ?_
        rw [HP.out]
        rintro e w2 ⟨rfl, hb2⟩
        have HW2 : Hid (Below w.heap.size w w2) := HW1.out.trans (hb2.mono HW1.out.size)
        have HR2 : Hid (OwnRow w2 (w.heap.size + 1) 2 _) := HR1.out.later hb2
        have x2 := cell_later hb2 (HX1.out 2 _ rfl)
        clear hb2 x0 x1
        go_wp2_with fail
        refine (extWith_walk _ a3 nE c3 nB d.2 x HLE.out (HE.out.later HW2.out) h8 h60 HRT.out).mono ?_
        rw [HK.out]
        rintro e w3 ⟨rfl, hb3⟩
        have HW3 : Hid (Below w.heap.size w w3) := HW2.out.trans (hb3.mono HW2.out.size)
        have HR3 : Hid (OwnRow w3 (w.heap.size + 1) 2 _) := HR2.out.later hb3
        clear hb3 x2
        have e0 := Bx.new w3 [.int .i64 p, .int .i64 y, .int .i64 z] 104 0 _ rfl
        have e1 := Bx.new w3 [.int .i64 p, .int .i64 y, .int .i64 z] 104 1 _ rfl
        have e2 := Bx.new w3 [.int .i64 p, .int .i64 y, .int .i64 z] 104 2 _ rfl
        go_wp2_with fail
        go_region_held3 (fun W => W.cell? ⟨w3.heap.size, 0, none⟩ = some (.int .i64 p) ∧ W.cell? ⟨w3.heap.size, 1, none⟩ = some (.int .i64 y) ∧ W.cell? ⟨w3.heap.size, 2, none⟩ = some (.int .i64 z)) (go_keep) (first | (go_at_call 113; refine (nobody_any _).mono ?_; rintro e w4 ⟨rfl, hb4⟩; have HB4 : Hid (Below w3.heap.size w3 w4) := (later1 _ _).drew.trans (hb4.mono (by simp)); have k0 := cell_later hb4 e0; have k1 := cell_later hb4 e1; have k2 := cell_later hb4 e2; clear hb4))
        all_goals
          have HR4 := HR3.out.later HB4.out
          have t0 := HR4.cell (i := 0) (by simp)
          have t1 := HR4.cell (i := 1) (by simp)
          have s0 := HR4.frozen 0
          have s1 := HR4.frozen 1
          simp at t0 t1
          clear HR4 e0 e1 e2
          go_wp2
          exact bodyPost_ret (v := .agg #[.int .i64 0, .int .i64 z]) (by simp [results, Try.results98, go_sem, t0, t1]) rfl ⟨rfl, ((HW3.out.trans (HB4.out.mono HW3.out.size)).setCell (by simp) _).setCell (by simp) _⟩
  · have HR1 : Hid (ownR d x = (kernF d, 0)) := by unfold Hid; rw [HR.out, if_neg hf]
    rw [HR1.out]
    clear HR HR1 FACTS
    generalize hc : kernF d = c at *
    have HC : Hid (kernF d = c) := hc
    have hne : (c != 0) = true := by simpa using hf
    clear hc hf
    go_enter Try.func98, Try.ntmps98
    go_wp2_with fail
    refine (implKernFault_any _ _ _ _ d (H.out.later (later2 _ _ _))).mono ?_
    rw [HC.out]
    rintro e w1 ⟨rfl, hb1⟩
    have HW1 : Hid (Below w.heap.size w w1) := (later2 _ _ _).trans (hb1.mono (by simp; omega))
    have HR1 := resRowL _ [.int .i64 0, .int .i64 0] _ hb1
    have t0 := HR1.cell (i := 0) (by simp)
    have t1 := HR1.cell (i := 1) (by simp)
    have s0 := HR1.frozen 0
    have s1 := HR1.frozen 1
    simp at t0 t1
    clear hb1 HR1
    go_wp2
    exact bodyPost_ret (v := .agg #[.int .i64 c, .int .i64 0]) (by simp [results, Try.results98, go_sem, t0, t1]) rfl ⟨rfl, (HW1.out.setCell (by simp) _).setCell (by simp) _⟩
end Go.Proofs.Ytomcejofhfngkaa

namespace Go.Proofs.Ytomcejofhfngkaa
open Go.RowKit
set_option maxRecDepth 100000

/-- The cells of extents, one behind the other. -/
def exCells (es : List E3) : List Value := es.flatMap fun e => [.int .i64 e.1, .int .i64 e.2.1, .int .i64 e.2.2]
theorem exCells_length (es : List E3) : (exCells es).length = es.length * 3 := by
  induction es with
  | nil => rfl
  | cons a t ih =>
    have : exCells (a :: t) = [.int .i64 a.1, .int .i64 a.2.1, .int .i64 a.2.2] ++ exCells t := by simp [exCells]
    rw [this, List.length_append, ih]
    simp [Nat.add_mul]
    omega
theorem exCells_append (es fs : List E3) : exCells (es ++ fs) = exCells es ++ exCells fs := by simp [exCells]
theorem exCells_get (es : List E3) (j : Nat) (h : j < es.length * 3) : (exCells es)[j]? = some (exCell es j) := by
  induction es generalizing j with
  | nil => simp at h
  | cons a t ih =>
    have e : exCells (a :: t) = .int .i64 a.1 :: .int .i64 a.2.1 :: .int .i64 a.2.2 :: exCells t := by simp [exCells]
    rw [e]
    match j with
    | 0 => simp [exCell]
    | 1 => simp [exCell]
    | 2 => simp [exCell]
    | j + 3 =>
      simp only [List.getElem?_cons_succ]
      rw [ih j (by simp at h; omega)]
      unfold exCell
      have h1 : (j + 3) % 3 = j % 3 := by omega
      have h2 : (j + 3) / 3 = j / 3 + 1 := by omega
      rw [h1, h2]
      simp
theorem exCells_one (es : List E3) : ∀ u ∈ exCells es, u.oneCell' = true := by
  intro u hu
  simp only [exCells, List.mem_flatMap] at hu
  obtain ⟨e, _, hu⟩ := hu
  simp at hu
  rcases hu with rfl | rfl | rfl <;> rfl
theorem AtE.cells {w : World} {b off n : Nat} {es : List E3} (h : AtE w (some ⟨b, off, none⟩) n es) (hn : es.length = n) (j : Nat) (u : Value) (hu : (exCells es)[j]? = some u) : w.cell? ((⟨b, off, none⟩ : Addr).add j) = some u := by
  have hj : j < es.length * 3 := by rw [← exCells_length]; exact (List.getElem?_eq_some_iff.1 hu).1
  rw [exCells_get es j hj] at hu
  simp only [Option.some.injEq] at hu
  subst hu
  obtain ⟨b', off', e, c0, c1, c2⟩ := h (j / 3) (by omega)
  simp only [Option.some.injEq, Addr.mk.injEq, and_true] at e
  obtain ⟨rfl, rfl⟩ := e
  rw [add_plain']
  have : j % 3 = 0 ∨ j % 3 = 1 ∨ j % 3 = 2 := by omega
  unfold exCell
  rcases this with e | e | e
  · rw [if_pos e, ← c0, show off + j = off + j / 3 * 3 by omega]
  · rw [if_neg (by omega), if_pos e, ← c1, show off + j = off + j / 3 * 3 + 1 by omega]
  · rw [if_neg (by omega), if_neg (by omega), ← c2, show off + j = off + j / 3 * 3 + 2 by omega]

theorem Try.infoExt' : ∃ i, Try.prog.info? 104 = some i ∧ i.zero = some (.agg #[.int .i64 0, .int .i64 0, .int .i64 0]) ∧ i.size = 3 ∧ i.bytes = 24 := by
  obtain ⟨i, hi, h⟩ := Option.map_eq_some_iff.1 Try.infoExt
  simp only [Prod.mk.injEq] at h
  exact ⟨i, hi, h.1, h.2.1, h.2.2⟩

/-- Extents in a row that the call owns, in a block from base on. -/
def ERow (w : World) (base : Nat) (v : Value) (es : List E3) : Prop := w.ownsRow base 104 3 v es.length (exCells es)
theorem ERow.exts {w : World} {base : Nat} {v : Value} {es : List E3} (h : ERow w base v es) : ExtsO w v es (fun b => v.ownBlock = some b ∧ base ≤ b ∧ b < w.heap.size) := by
  obtain ⟨hl, h | ⟨g, cap, cur, rfl, hb, hh, hnc, hcm, hcs, htake⟩⟩ := h
  · obtain ⟨rfl, h0⟩ := h
    exact Or.inl ⟨List.eq_nil_of_length_eq_zero h0, none, 0, rfl⟩
  · refine Or.inr ⟨g, cap, ⟨rfl, hb, (Array.getElem?_eq_some_iff.1 hh).1⟩, rfl, ⟨by omega, hnc⟩, cur, _, hh, by rw [hcs]; exact Nat.mul_le_mul_right 3 hnc, fun i hi => ?_⟩
    have h1 := exCells_get es i hi
    rw [← htake, List.getElem?_take, if_pos hi, Array.getElem?_toList] at h1
    exact h1
theorem ERow.keep {w w' : World} {base : Nat} {v : Value} {es : List E3} (h : ERow w base v es) (e : ∀ b, v.ownBlock = some b → w'.heap[b]? = w.heap[b]?) : ERow w' base v es := by
  obtain ⟨hl, h | ⟨g, cap, cur, rfl, hb, hh, r⟩⟩ := h
  · exact ⟨hl, Or.inl h⟩
  · exact ⟨hl, Or.inr ⟨g, cap, cur, rfl, hb, by rw [e g rfl]; exact hh, r⟩⟩
theorem ERow.lt {w : World} {base : Nat} {v : Value} {es : List E3} (h : ERow w base v es) : ∀ b, v.ownBlock = some b → base ≤ b ∧ b < w.heap.size := fun b hb => World.ownsRow.lt h b hb
theorem ERow.lit (w : World) (base : Nat) (hb : base ≤ w.heap.size) : ERow (w.alloc (.cells #[] 104)) base (.slice (some ⟨w.heap.size, 0, none⟩) 0 0) [] := World.ownsRow_lit w #[] 0 hb (by simp) rfl
theorem ERow.shape {w : World} {base : Nat} {v : Value} {es : List E3} (h : ERow w base v es) : ∃ a c, v = .slice a es.length c := by
  obtain ⟨hl, h | ⟨g, cap, cur, rfl, _⟩⟩ := h
  · exact ⟨none, 0, by rw [h.1, h.2]⟩
  · exact ⟨_, _, rfl⟩

/-- More extents behind a row. -/
theorem append_exts (w : World) (ty : TypeId) (base : Nat) (v : Value) (es fs : List E3) (h : ERow w base v es) (hbase : base ≤ w.heap.size) (a : Option Addr) (cap : Nat) (hn : es.length + fs.length ≤ 1048576) (hc : AtE w a fs.length fs) :
    ∃ v' X, (Builtin.append_ #[49, 49] ty #[v, .slice a fs.length cap]).run Try.prog w = .ok v' X ∧ ERow X base v' (es ++ fs) ∧ Below base w X ∧
      (∀ b, b < w.heap.size → v.ownBlock ≠ some b → X.heap[b]? = w.heap[b]?) ∧ (∀ b, v'.ownBlock = some b → v.ownBlock = some b ∨ w.heap.size ≤ b) ∧ ∃ a' c', v' = .slice a' (es.length + fs.length) c' := by
  obtain ⟨i, hi, h1, h2, h3⟩ := Try.infoExt'
  by_cases h0 : fs.length = 0
  · have hfs : fs = [] := List.eq_nil_of_length_eq_zero h0
    subst hfs
    have hv : ∃ a0 c0, v = .slice a0 es.length c0 ∧ es.length ≤ c0 := by
      obtain ⟨hl, h' | ⟨g, c0, cur, rfl, _, _, hnc, _⟩⟩ := h
      · exact ⟨none, 0, by rw [h'.1, h'.2], by omega⟩
      · exact ⟨_, _, rfl, hnc⟩
    obtain ⟨a0, c0, rfl, hle⟩ := hv
    refine ⟨_, w, ?_, by simpa using h, Below.refl _ _, fun _ _ _ => rfl, fun b hb => Or.inl hb, a0, c0, by simp⟩
    cases a <;> cases a0 <;> simp [Builtin.append_, run_underlying Try.underlying49, sizeOf, typeInfo, hi, Builtin.lenOf, Builtin.firstCells, storeCells, loadCells, loadCellsFrom, hle]
  · obtain ⟨b, off, rfl, _⟩ := hc 0 (by omega)
    obtain ⟨g, c', X, hr, ho, hg, hat, hgX⟩ := run_append_lies (P := Try.prog) w 49 ty base 104 i _ 3 24 Try.underlying49 hi h1 h2 h3 rfl (by decide) v es.length _ h ⟨b, off, none⟩ fs.length cap (exCells fs) (exCells_length fs) (fun j u hu => hc.cells rfl j u hu) (exCells_one fs) (by omega) (by unfold maxLen; omega) (by omega) hbase w.heap.size rfl
    refine ⟨_, X, hr, ?_, below_grown hg hbase (fun k hk => (h.lt k hk).1), fun b hb hne => hg.block b hb (fun e => hne e.symm), fun b hb => ?_, _, _, rfl⟩
    · unfold ERow; rw [List.length_append, exCells_append]; exact ho
    · simp only [Value.ownBlock, Option.some.injEq] at hb
      subst hb
      rcases hat with h | h
      · exact Or.inl h
      · exact Or.inr (by omega)
end Go.Proofs.Ytomcejofhfngkaa
