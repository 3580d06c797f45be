
/- Who may write or read: the walk of the program's keyFault. -/
import Derived.Test.YtojegkekafampahWrkA
namespace Go.Proofs.Ytojegkekafampah
open Go.RowKit
set_option maxRecDepth 100000

theorem lockF_eq {z key : Int} (h1 : 1 ≤ z) (h2 : z ≤ 9999) : (lockF z == lockF key) = (z == key) := by
  unfold lockF
  rw [if_pos ⟨h1, h2⟩]
  split
  · rfl
  · rename_i h
    rw [beq_eq_false_iff_ne.2 (by omega), beq_eq_false_iff_ne.2 (by omega)]

set_option maxHeartbeats 800000 in
theorem opensTo_any (w : World) (p y z key : Int) :
    Calls Try.prog 56 #[.agg #[.int .i64 p, .int .i64 y, .int .i64 z], .int .i64 key] w fun e w' => e = .returned (.bool (lockF z == lockF key)) ∧ Below w.heap.size w w' := by
  go_enter Try.func56, Try.ntmps56
  go_wp2_with fail
  refine (lockOf_any _ _).mono ?_
  rintro e w1 ⟨rfl, rfl⟩
  go_wp2_with fail
  refine (lockOf_any _ _).mono ?_
  rintro e w1 ⟨rfl, rfl⟩
  go_wp2
  go_ret
  exact ⟨rfl, later1 _ _⟩

theorem ownR_ok {d : KD} {x v : Int} (h : ownR d x = (0, v)) : kernF d = 0 ∧ (ownE d.2 x).2.2 = v ∧ 1 ≤ v ∧ v ≤ 9999 := by
  unfold ownR at h
  split at h
  · rename_i hk
    split at h
    · split at h
      · simp at h
      · rename_i hne
        simp only [Prod.mk.injEq, true_and] at h
        refine ⟨hk, h, ?_⟩
        rcases ownE_cases d.2 x with ⟨j, hj, e⟩ | e
        · have := (rightB_iff.1 ((kernF_ok hk).2.2 j hj).1).1
          rw [← e, h] at this
          exact this
        · exact absurd (by rw [e]) hne
    · simp at h
  · rename_i hk
    simp only [Prod.mk.injEq] at h
    exact absurd h.1 hk

set_option maxHeartbeats 3200000 in
theorem keyFault_any (w : World) (vB vC vE : Value) (d : KD) (key x : Int) (h : KernR w vB vC vE d) :
    Calls Try.prog 64 #[.agg #[vB, vC, vE], .int .i64 key, .int .i64 x] w fun e w' => e = .returned (.int .i64 (mayF d key x)) ∧ Below w.heap.size w w' := by
  obtain ⟨a1, c1, rfl, hm1, _⟩ := h.1.1.open'
  obtain ⟨a2, c2, rfl, _⟩ := h.1.2.open'
  obtain ⟨a3, c3, rfl, _, hE⟩ := h.2.open'
  have H : Hid (KernR w (.slice a1 d.1.1.length c1) (.slice a2 d.1.2.length c2) (.slice a3 d.2.length c3) d) := h
  have HE : Hid (AtE w a3 d.2.length d.2) := hE
  clear h hE
  have HM : Hid (mayF d key x = if (ownR d x).1 = 0 then (if (ownR d x).2 = key then 0 else 6) else (ownR d x).1) := rfl
  rw [HM.out]
  obtain ⟨c, v, hr⟩ : ∃ c v, ownR d x = (c, v) := ⟨_, _, rfl⟩
  have HR : Hid (ownR d x = (c, v)) := hr
  have FACTS : Hid (kernF d = 0 → d.1.1.length ≤ 60 ∧ d.2.length ≤ 8 ∧ ∀ i, i < d.2.length → rightB (extAt d.2 i) d.1.1.length = true) := fun h => by
    obtain ⟨k1, k2, k3⟩ := kernF_ok h
    exact ⟨(faultF_lens k1).1, k2, fun i hi => (k3 i hi).1⟩
  rw [hr]
  clear hr HM hm1
  generalize hlB : d.1.1.length = nB at *
  generalize hlC : d.1.2.length = nC at *
  generalize hlE : d.2.length = nE at *
  have HLE : Hid (d.2.length = nE) := hlE
  clear hlB hlC hlE
  by_cases hc : c = 0
  · subst hc
    obtain ⟨hk, hv, hl1, hl2⟩ := ownR_ok HR.out
    obtain ⟨h60, h8, hrt⟩ := FACTS.out hk
    have HRT : Hid (∀ i, i < nE → rightB (extAt d.2 i) nB = true) := hrt
    have HLK := lockF_eq (key := key) hl1 hl2
    obtain ⟨p, y, z, hez⟩ : ∃ p y z, ownE d.2 x = (p, y, z) := ⟨_, _, _, rfl⟩
    have HEZ : Hid (ownE d.2 x = (p, y, z)) := hez
    rw [hez] at hv
    dsimp only at hv
    subst hv
    clear hk hrt FACTS hl1 hl2 hez
    rw [if_pos rfl]
    by_cases hv : z = key
    · have HLK2 : Hid ((lockF z == lockF key) = true) := by unfold Hid; rw [HLK]; simpa using hv
      rw [if_pos hv]
      clear HLK hv
      go_enter Try.func64, Try.ntmps64
      go_wp2_with fail
      refine (implOwner_any _ _ _ _ d x (H.out.later (later1 _ _))).mono ?_
      rw [HR.out]
      rintro e w1 ⟨rfl, hb1⟩
      have HW1 : Hid (Below w.heap.size w w1) := (later1 _ _).trans (hb1.mono (by simp))
      have HX1 : Hid (Bx w1 w.heap.size [.slice a1 nB c1, .slice a2 nC c2, .slice a3 nE c3]) := (Bx.new w [.slice a1 nB c1, .slice a2 nC c2, .slice a3 nE c3] _).later hb1
      have x2 := HX1.out 2 _ rfl
      have hz1 : w.heap.size < w1.heap.size := HX1.out.lt
      clear hb1
      go_wp2_with fail
      refine (extWith_walk _ a3 nE c3 nB d.2 x HLE.out (HE.out.later (HW1.out.trans ((later1 _ _).mono HW1.out.size))) h8 h60 HRT.out).mono ?_
      rw [HEZ.out]
      rintro e w2 ⟨rfl, hb2⟩
      have HW2 : Hid (Below w.heap.size w w2) := (HW1.out.trans ((later1 _ _).mono HW1.out.size)).trans (hb2.mono (by have := HW1.out.size; simp; omega))
      clear hb2 x2
      go_wp2_with fail
      refine (opensTo_any _ p y z key).mono ?_
      rw [HLK2.out]
      rintro e w3 ⟨rfl, hb3⟩
      have HW3 : Hid (Below w.heap.size w w3) := HW2.out.trans (hb3.mono HW2.out.size)
      clear hb3
      go_wp2
      go_ret
      exact ⟨rfl, HW3.out⟩
    · have HLK2 : Hid ((lockF z == lockF key) = false) := by unfold Hid; rw [HLK]; simpa using hv
      rw [if_neg hv]
      clear HLK hv
      go_enter Try.func64, Try.ntmps64
      go_wp2_with fail
      refine (implOwner_any _ _ _ _ d x (H.out.later (later1 _ _))).mono ?_
      rw [HR.out]
      rintro e w1 ⟨rfl, hb1⟩
      have HW1 : Hid (Below w.heap.size w w1) := (later1 _ _).trans (hb1.mono (by simp))
      have HX1 : Hid (Bx w1 w.heap.size [.slice a1 nB c1, .slice a2 nC c2, .slice a3 nE c3]) := (Bx.new w [.slice a1 nB c1, .slice a2 nC c2, .slice a3 nE c3] _).later hb1
      have x2 := HX1.out 2 _ rfl
      have hz1 : w.heap.size < w1.heap.size := HX1.out.lt
      clear hb1
      go_wp2_with fail
      refine (extWith_walk _ a3 nE c3 nB d.2 x HLE.out (HE.out.later (HW1.out.trans ((later1 _ _).mono HW1.out.size))) h8 h60 HRT.out).mono ?_
      rw [HEZ.out]
      rintro e w2 ⟨rfl, hb2⟩
      have HW2 : Hid (Below w.heap.size w w2) := (HW1.out.trans ((later1 _ _).mono HW1.out.size)).trans (hb2.mono (by have := HW1.out.size; simp; omega))
      clear hb2 x2
      go_wp2_with fail
      refine (opensTo_any _ p y z key).mono ?_
      rw [HLK2.out]
      rintro e w3 ⟨rfl, hb3⟩
      have HW3 : Hid (Below w.heap.size w w3) := HW2.out.trans (hb3.mono HW2.out.size)
      clear hb3
      go_wp2
      go_ret
      exact ⟨rfl, HW3.out⟩
  · have hne : (c != 0) = true := by simpa using hc
    rw [if_neg hc]
    clear hc FACTS
    go_enter Try.func64, Try.ntmps64
    go_wp2_with fail
    refine (implOwner_any _ _ _ _ d x (H.out.later (later1 _ _))).mono ?_
    rw [HR.out]
    rintro e w1 ⟨rfl, hb1⟩
    have HW1 : Hid (Below w.heap.size w w1) := (later1 _ _).trans (hb1.mono (by simp))
    clear hb1
    go_wp2
    go_ret
    exact ⟨rfl, HW1.out.trans ((later1 _ _).mono HW1.out.size)⟩
end Go.Proofs.Ytojegkekafampah
