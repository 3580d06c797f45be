
/- ReadKern, the specification's. -/
import Derived.Test.YtojegkekafampaiRdkA
namespace Go.Proofs.Ytojegkekafampai
open Go.RowKit
set_option maxRecDepth 100000

set_option maxHeartbeats 3200000 in
theorem specRead_any (hcp : L1CopySaid) (w : World) (vB vC vE : Value) (d : KD) (key x : Int) (h : KernR w vB vC vE d) (hz : ∀ k : Nat, (d.1.1[k]?.getD []).length ≤ 1048576) (hzp : ∀ k : Nat, (d.1.2[k]?.getD (0, [])).2.length ≤ 1048576) :
    Calls Try.prog 10 #[.agg #[vB, vC, vE], .int .i64 key, .int .i64 x] w (AnsKR w (readR d key x)) := by
  obtain ⟨a1, c1, rfl, _, sB⟩ := h.1.1.open'
  obtain ⟨a2, c2, rfl, _, sP⟩ := h.1.2.open'
  obtain ⟨a3, c3, rfl, _⟩ := h.2.open'
  have H : Hid (KernR w (.slice a1 d.1.1.length c1) (.slice a2 d.1.2.length c2) (.slice a3 d.2.length c3) d) := h
  have HRR : Hid (readR d key x = if mayF d key x = 0 then (0, atF d.1.1 d.1.2 x, d.1, d.2) else (mayF d key x, [], ([], []), [])) := rfl
  have HAT : Hid (mayF d key x = 0 → ∀ W : World, Below w.heap.size w W → W.cell? ⟨w.heap.size, 0, none⟩ = some (.slice a1 d.1.1.length c1) → W.cell? ⟨w.heap.size, 1, none⟩ = some (.slice a2 d.1.2.length c2) → Calls Try.prog 40 #[.pointer (some ⟨w.heap.size, 0, none⟩), .int .i64 x] W fun e W' => ∃ ua un uc, e = .returned (.slice ua un uc) ∧ Ints W (.slice ua un uc) (atF d.1.1 d.1.2 x) ∧ W' = W) := fun h0 W hW q0 q1 => by
    have hk := (kernF_ok (mayF_ok h0)).1
    have hp := mayF_place h0
    simp only [placeB, decide_eq_true_eq] at hp
    obtain ⟨n, rfl⟩ : ∃ n : Nat, x = (n : Int) := ⟨x.toNat, by omega⟩
    exact l1At_walk W w.heap.size a1 a2 d.1.1.length c1 d.1.2.length c2 d.1.1 d.1.2 n (by omega) (faultF_lens hk).1 rfl (faultF_lens hk).2 q0 q1 (sB.later hW) (sP.later hW)
  have HCP : Hid (mayF d key x = 0 → ∀ W : World, Below w.heap.size w W → Calls Try.prog 41 #[.agg #[.slice a1 d.1.1.length c1, .slice a2 d.1.2.length c2, .slice a3 d.2.length c3]] W (AnsKern W d)) := fun h0 W hW => l2Copy_any hcp W _ _ _ d.1.1 d.1.2 d.2 (h.later hW) (kernF_ok (mayF_ok h0)).1 (kernF_ok (mayF_ok h0)).2.1 hz hzp
  have HLN : Hid ((atF d.1.1 d.1.2 x).length ≤ 1048576) := atF_len hz hzp
  rw [HRR.out]
  clear h hz hzp HRR sB sP hcp
  generalize d.1.1.length = nB at *
  generalize d.1.2.length = nC at *
  generalize d.2.length = nE at *
  generalize hm : mayF d key x = m at *
  have HM : Hid (mayF d key x = m) := hm
  clear hm
  by_cases h0 : m = 0
  · subst h0
    rw [if_pos rfl]
    have KAT : Hid _ := HAT.out rfl
    have KCP : Hid _ := HCP.out rfl
    clear HAT HCP
    go_enter Try.func10, Try.ntmps10
    go_wp2_with fail
    refine (l2May_any (d := d) key x ((Bx.new w [.slice a1 nB c1, .slice a2 nC c2, .slice a3 nE c3] _).later (later1 _ _) 0 _ rfl) ((Bx.new w [.slice a1 nB c1, .slice a2 nC c2, .slice a3 nE c3] _).later (later1 _ _) 1 _ rfl) ((Bx.new w [.slice a1 nB c1, .slice a2 nC c2, .slice a3 nE c3] _).later (later1 _ _) 2 _ rfl) (H.out.later (later2 _ _ _))).mono ?_
    rw [HM.out]
    rintro e w1 ⟨rfl, hb1⟩
    have HW1 : Hid (Below w.heap.size w w1) := (later2 _ _ _).trans (hb1.mono (by simp; omega))
    have HX1 : Hid (Bx w1 w.heap.size [.slice a1 nB c1, .slice a2 nC c2, .slice a3 nE c3]) := ((Bx.new w [.slice a1 nB c1, .slice a2 nC c2, .slice a3 nE c3] _).later (later1 _ _)).later hb1
    have HR1 : Hid (OwnRow w1 (w.heap.size + 1) zero5.length _) := resRowL _ zero5 _ hb1
    have hzr : w.heap.size + 1 < w1.heap.size := HR1.out.lt
    have x0 := HX1.out 0 _ rfl
    have x1 := HX1.out 1 _ rfl
    have x2 := HX1.out 2 _ rfl
    clear hb1
    go_wp2_with fail
    go_region_held3 (fun W => W.cell? ⟨w.heap.size, 0, none⟩ = some (.slice a1 nB c1) ∧ W.cell? ⟨w.heap.size, 1, none⟩ = some (.slice a2 nC c2) ∧ W.cell? ⟨w.heap.size, 2, none⟩ = some (.slice a3 nE c3)) (go_keep) (first
      | (go_at_call 40; refine (KAT.out _ HW1.out.drew x0 x1).mono ?_; rintro e w2 ⟨ua, un, uc, rfl, hi, rfl⟩
         have HI : Hid (Ints w1.drew (.slice ua un uc) (atF d.1.1 d.1.2 x)) := hi
         clear hi)
      | (go_at_call 39; refine (l1Ints_more HI.out HLN.out).mono ?_; rintro e w2 ⟨aI, cI, rfl, hb2, ho2, hs2⟩
         have y0 := cell_later hb2 x0
         have y1 := cell_later hb2 x1
         have y2 := cell_later hb2 x2
         have HB2 : Hid (Below w1.heap.size w1 w2) := (Below.refl _ _).drew.trans hb2
         have HI2 : Hid (IntsO w2 (.slice aI (atF d.1.1 d.1.2 x).length cI) (atF d.1.1 d.1.2 x) (fun b => w1.heap.size ≤ b ∧ b < w2.heap.size)) := ho2
         clear hb2 ho2 hs2)
      | (go_at_call 41; refine (KCP.out _ (HW1.out.trans (HB2.out.mono HW1.out.size))).mono ?_; rintro e w3 ⟨aX, nX, cX, aY, nY, cY, aZ, nZ, cZ, rfl, hb3, hk3⟩
         have z0 := cell_later hb3 y0
         have z1 := cell_later hb3 y1
         have z2 := cell_later hb3 y2
         have hb13 : Below w1.heap.size w1 w3 := HB2.out.trans (hb3.mono HB2.out.size)
         have HW3 : Hid (Below w.heap.size w w3) := HW1.out.trans (hb13.mono HW1.out.size)
         have hk3' : KernU w3 (.slice aX nX cX) (.slice aY nY cY) (.slice aZ nZ cZ) d (fun b => w2.heap.size ≤ b ∧ b < w3.heap.size) := hk3
         have HK3 : Hid (KResU w3 (.slice aI (atF d.1.1 d.1.2 x).length cI) (.slice aX nX cX) (.slice aY nY cY) (.slice aZ nZ cZ) (atF d.1.1 d.1.2 x, d.1, d.2) (fun b => w1.heap.size ≤ b ∧ b < w3.heap.size)) := ⟨_, _, HI2.out.later hb3, hk3', fun b h h' => by omega, fun b h => by have := hb3.size; have := HB2.out.size; rcases h with h | h <;> omega⟩
         have HR3 := HR1.out.later hb13
         have t0 := HR3.cell (i := 0) (by simp [zero5])
         have t1 := HR3.cell (i := 1) (by simp [zero5])
         have t2 := HR3.cell (i := 2) (by simp [zero5])
         have t3 := HR3.cell (i := 3) (by simp [zero5])
         have t4 := HR3.cell (i := 4) (by simp [zero5])
         have s0 := HR3.frozen 0
         have s1 := HR3.frozen 1
         have s2 := HR3.frozen 2
         have s3 := HR3.frozen 3
         have s4 := HR3.frozen 4
         simp [zero5] at t0 t1 t2 t3 t4
         clear hb3 hb13 hk3 hk3' HR3))
    all_goals
      go_wp2
      refine bodyPost_ret (v := .agg #[.int .i64 0, .slice aI (atF d.1.1 d.1.2 x).length cI, .slice aX nX cX, .slice aY nY cY, .slice aZ nZ cZ]) (by simp [results, Try.results10, go_sem, t0, t1, t2, t3, t4]) rfl ?_
      exact ansK_ret HW3.out (by omega) HK3.out (fun b hb => ⟨by omega, by omega, by omega⟩)
  · have hne : (m != 0) = true := by simpa using h0
    rw [if_neg h0]
    clear h0 HAT HCP
    go_enter Try.func10, Try.ntmps10
    go_wp2_with fail
    refine (l2May_any (d := d) key x ((Bx.new w [.slice a1 nB c1, .slice a2 nC c2, .slice a3 nE c3] _).later (later1 _ _) 0 _ rfl) ((Bx.new w [.slice a1 nB c1, .slice a2 nC c2, .slice a3 nE c3] _).later (later1 _ _) 1 _ rfl) ((Bx.new w [.slice a1 nB c1, .slice a2 nC c2, .slice a3 nE c3] _).later (later1 _ _) 2 _ rfl) (H.out.later (later2 _ _ _))).mono ?_
    rw [HM.out]
    rintro e w1 ⟨rfl, hb1⟩
    have HW1 : Hid (Below w.heap.size w w1) := (later2 _ _ _).trans (hb1.mono (by simp; omega))
    have HX1 : Hid (Bx w1 w.heap.size [.slice a1 nB c1, .slice a2 nC c2, .slice a3 nE c3]) := ((Bx.new w [.slice a1 nB c1, .slice a2 nC c2, .slice a3 nE c3] _).later (later1 _ _)).later hb1
    have HR1 : Hid (OwnRow w1 (w.heap.size + 1) zero5.length _) := resRowL _ zero5 _ hb1
    have hzr : w.heap.size + 1 < w1.heap.size := HR1.out.lt
    clear hb1
    go_wp2_with fail
    refine (l2Bad_any _ m).mono ?_
    rintro e w3 ⟨rfl, hb3⟩
    have HW3 : Hid (Below w.heap.size w w3) := HW1.out.trans (hb3.mono HW1.out.size)
    have HR3 := HR1.out.later hb3
    have t0 := HR3.cell (i := 0) (by simp [zero5])
    have t1 := HR3.cell (i := 1) (by simp [zero5])
    have t2 := HR3.cell (i := 2) (by simp [zero5])
    have t3 := HR3.cell (i := 3) (by simp [zero5])
    have t4 := HR3.cell (i := 4) (by simp [zero5])
    have s0 := HR3.frozen 0
    have s1 := HR3.frozen 1
    have s2 := HR3.frozen 2
    have s3 := HR3.frozen 3
    have s4 := HR3.frozen 4
    simp [zero5] at t0 t1 t2 t3 t4
    clear hb3 HR3
    go_wp2
    exact bodyPost_ret (v := .agg #[.int .i64 m, .slice none 0 0, .slice none 0 0, .slice none 0 0, .slice none 0 0]) (by simp [results, Try.results10, go_sem, t0, t1, t2, t3, t4]) rfl (ansK_no HW3.out (by omega) m)
end Go.Proofs.Ytojegkekafampai
