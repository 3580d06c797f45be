/- The bytes of a file: the program. Directories: what their functions ask alike, of the program and of the specification. Directories: where a name stands; IsEmptyDir and LookName, of the program and of the specification. The specification's walk: where names lead (l9Walk, l9Path). The specification's WalkPath. -/
import Derived.Test.YtpfafcodihhdfaaGreatDoorM15
import Derived.Test.YtpfafcodihhdfaaGreatDoorM19
import Derived.Test.YtpfafcodihhdfaaGreatDoorM16
import Derived.BigQuiet
import Derived.Test.YtpfafcodihhdfaaGreatDoorM20
import Derived.Test.YtpfafcodihhdfaaGreatDoorM14
namespace Go.Proofs.YtpfafcodihhdfaaGreatDoor
open Go.RowKit
set_option maxRecDepth 100000

set_option maxHeartbeats 6400000 in
theorem implBytU (w : World) (a1 : Option Addr) (n1 c1 : Nat) (a2 : Option Addr) (n2 c2 : Nat) (d : FD) (x : Int) (h : FsR w (.slice a1 n1 c1) (.slice a2 n2 c2) d) (hs : sizeFs d ≤ 1048576) :
    Calls Tryz.prog 232 #[.agg #[.slice a1 n1 c1, .slice a2 n2 c2], .int .i64 x] w (AnsYR w (bytR d x)) := by
  have HF : Hid (∀ W, Below w.heap.size w W → Calls Tryz.prog 44 #[.agg #[.slice a1 n1 c1, .slice a2 n2 c2]] W fun e w' => e = .returned (.int .i64 (fsF d)) ∧ Below W.heap.size W w') := fun W hW => implFsU W _ _ _ _ _ _ d (h.later hW) hs
  have hrow0 : OwnRow ((w.alloc (.cells #[.slice a1 n1 c1, .slice a2 n2 c2] 32)).alloc (.cells #[.int .i64 0, .slice none 0 0] 178)) (w.heap.size + 1) 2 (fun i => if i = 0 then .int .i64 0 else .slice none 0 0) := by
    have := box2 (w.alloc (.cells #[.slice a1 n1 c1, .slice a2 n2 c2] 32)) 178
    rw [World.size_alloc] at this
    exact this
  have HB0 : Hid (Below w.heap.size w ((w.alloc (.cells #[.slice a1 n1 c1, .slice a2 n2 c2] 32)).alloc (.cells #[.int .i64 0, .slice none 0 0] 178))) := later2 _ _ _
  have HX : Hid (Bx ((w.alloc (.cells #[.slice a1 n1 c1, .slice a2 n2 c2] 32)).alloc (.cells #[.int .i64 0, .slice none 0 0] 178)) w.heap.size [.slice a1 n1 c1, .slice a2 n2 c2]) := (Bx.new w [.slice a1 n1 c1, .slice a2 n2 c2] _).later (later1 _ _)
  have HRB : Hid (OwnRow _ (w.heap.size + 1) 2 _) := hrow0
  have HR : Hid (bytR d x = if fsF d = 0 then (if 0 ≤ x ∧ x < (d.1.length : Int) then (if kindAt d.1 x.toNat = 2 then (9, []) else if kindAt d.1 x.toNat = 0 then (4, []) else (0, bytL d x.toNat)) else (3, [])) else (fsF d, [])) := rfl
  rw [HR.out]
  have x0 := HX.out 0 _ rfl
  have x1 := HX.out 1 _ rfl
  obtain ⟨_, _, e1, hm1, hAt⟩ := h.1.open'
  obtain ⟨_, _, e2, hm2, hBt⟩ := h.2.open'
  simp only [Value.slice.injEq] at e1 e2
  obtain ⟨rfl, rfl, rfl⟩ := e1
  obtain ⟨rfl, rfl, rfl⟩ := e2
  have HIN : Hid (∀ W, Calls Tryz.prog 170 #[.agg #[.slice a1 d.1.length c1, .slice a2 d.2.length c2], .int .i64 x] W fun e w' => e = .returned (.bool (decide (0 ≤ x ∧ x < (d.1.length : Int)))) ∧ Below W.heap.size W w') := fun W => isInode_any W _ _ _ _ _ _ x
  clear HR h hrow0 hs hm1 hm2
  have hwz : ((w.alloc (.cells #[.slice a1 d.1.length c1, .slice a2 d.2.length c2] 32)).alloc (.cells #[.int .i64 0, .slice none 0 0] 178)).heap.size = w.heap.size + 2 := by simp
  by_cases hf : fsF d = 0
  rotate_left
  · rw [if_neg hf]
    have hb : (fsF d != 0) = true := by simpa using hf
    clear hf hAt hBt
    generalize fsF d = r at *
    generalize d.1.length = n at *
    generalize d.2.length = m at *
    go_enter Tryz.func232, Tryz.ntmps232
    go_wp2_with fail
    refine (HF.out _ HB0.out).mono ?_
    rintro e w1 ⟨rfl, hb1⟩
    have HB1 : Hid (Below w.heap.size w w1) := HB0.out.trans (hb1.mono HB0.out.size)
    have hrow := HRB.out.later hb1
    have t0 := hrow.cell (i := 0) (by omega)
    have t1 := hrow.cell (i := 1) (by omega)
    have s0 := hrow.frozen 0
    have s1 := hrow.frozen 1
    simp at t0 t1
    clear hb1 hrow
    go_wp2
    exact bodyPost_ret (v := .agg #[.int .i64 r, .slice none 0 0]) (by simp [results, Tryz.results232, go_sem, t0, t1]) rfl (AnsYR.bad r HB1.out (by omega) _ _)
  · rw [if_pos hf]
    obtain ⟨h1, h2, h3, _, _⟩ := fsE_zero (fsF_zero hf)
    obtain ⟨g1, _, g3⟩ := formB_no h2
    have hten := insF_ten h1
    rw [hf] at HF
    by_cases hpl : 0 ≤ x ∧ x < (d.1.length : Int)
    rotate_left
    · rw [if_neg hpl]
      rw [decide_eq_false hpl] at HIN
      clear hpl hf h1 h2 h3 g1 g3 hten hAt hBt
      generalize d.1.length = n at *
      generalize d.2.length = m at *
      go_enter Tryz.func232, Tryz.ntmps232
      go_wp2_with fail
      refine (HF.out _ HB0.out).mono ?_
      rintro e w1 ⟨rfl, hb1⟩
      have HB1 : Hid (Below w.heap.size w w1) := HB0.out.trans (hb1.mono HB0.out.size)
      have HRW : Hid (OwnRow w1 (w.heap.size + 1) 2 _) := HRB.out.later hb1
      have HX1 : Hid (Bx w1 w.heap.size _) := HX.out.later hb1
      have y0 := HX1.out 0 _ rfl
      have y1 := HX1.out 1 _ rfl
      clear hb1 x0 x1
      go_wp2_with fail
      refine (HIN.out _).mono ?_
      rintro e w2 ⟨rfl, hb2'⟩
      have HB2 : Hid (Below w.heap.size w w2) := HB1.out.trans (hb2'.mono HB1.out.size)
      have hrow := HRW.out.later hb2'
      have t0 := hrow.cell (i := 0) (by omega)
      have t1 := hrow.cell (i := 1) (by omega)
      have s0 := hrow.frozen 0
      have s1 := hrow.frozen 1
      simp at t0 t1
      clear hb2' hrow y0 y1
      go_wp2
      exact bodyPost_ret (v := .agg #[.int .i64 3, .slice none 0 0]) (by simp [results, Tryz.results232, go_sem, t0, t1]) rfl (AnsYR.bad 3 HB2.out (by omega) _ _)
    · rw [if_pos hpl]
      rw [decide_eq_true hpl] at HIN
      obtain ⟨j, rfl⟩ : ∃ j : Nat, x = (j : Int) := ⟨x.toNat, by omega⟩
      rw [Int.toNat_natCast]
      have hj : j < d.1.length := by omega
      have hsz := ino_size (ins_ino h1 j hj)
      have hbk := fun k hk => ins_blk h1 j k hj hk
      have h8 := many_eight h3
      obtain ⟨b0, o0, rfl, hI⟩ := hAt j hj
      obtain ⟨aB, cB, _, _, kc, _, _, k3, _, h5⟩ := hI
      have HKC : Hid (_ = some (Value.int .i64 (d.1[j]?.getD id0).1)) := kc
      have HKD : Hid (kindAt d.1 j = (d.1[j]?.getD id0).1) := rfl
      rw [HKD.out]
      have hjn : (j : Int) < ((d.1.length : Nat) : Int) := by omega
      by_cases hk2 : (d.1[j]?.getD id0).1 = 2
      · rw [if_pos hk2]
        have hb2 : ((d.1[j]?.getD id0).1 == 2) = true := by simpa using hk2
        clear hk2 hpl hf h1 h2 h3 g1 g3 hAt hBt kc hsz HKD hbk h8 h5 k3
        generalize (d.1[j]?.getD id0).1 = kd at *
        generalize d.1.length = n at *
        generalize d.2.length = m at *
        go_enter Tryz.func232, Tryz.ntmps232
        go_wp2_with fail
        refine (HF.out _ HB0.out).mono ?_
        rintro e w1 ⟨rfl, hb1⟩
        have HB1 : Hid (Below w.heap.size w w1) := HB0.out.trans (hb1.mono HB0.out.size)
        have HRW : Hid (OwnRow w1 (w.heap.size + 1) 2 _) := HRB.out.later hb1
        have HX1 : Hid (Bx w1 w.heap.size _) := HX.out.later hb1
        have y0 := HX1.out 0 _ rfl
        have y1 := HX1.out 1 _ rfl
        clear hb1 x0 x1
        go_wp2_with fail
        refine (HIN.out _).mono ?_
        rintro e w2 ⟨rfl, hb2'⟩
        have HB2 : Hid (Below w.heap.size w w2) := HB1.out.trans (hb2'.mono HB1.out.size)
        have hrow := HRW.out.later hb2'
        have t0 := hrow.cell (i := 0) (by omega)
        have t1 := hrow.cell (i := 1) (by omega)
        have s0 := hrow.frozen 0
        have s1 := hrow.frozen 1
        simp at t0 t1
        have z0 := (HX1.out.later hb2') 0 _ rfl
        have kc2 := cell_later HB2.out HKC.out
        clear hb2' hrow y0 y1
        go_wp2
        exact bodyPost_ret (v := .agg #[.int .i64 9, .slice none 0 0]) (by simp [results, Tryz.results232, go_sem, t0, t1]) rfl (AnsYR.bad 9 HB2.out (by omega) _ _)
      · rw [if_neg hk2]
        have hb2 : ((d.1[j]?.getD id0).1 == 2) = false := by simpa using hk2
        by_cases hk0 : (d.1[j]?.getD id0).1 = 0
        · rw [if_pos hk0]
          have hb0 : ((d.1[j]?.getD id0).1 == 0) = true := by simpa using hk0
          clear hk2 hk0 hpl hf h1 h2 h3 g1 g3 hAt hBt kc hsz HKD hbk h8 h5 k3
          generalize (d.1[j]?.getD id0).1 = kd at *
          generalize d.1.length = n at *
          generalize d.2.length = m at *
          go_enter Tryz.func232, Tryz.ntmps232
          go_wp2_with fail
          refine (HF.out _ HB0.out).mono ?_
          rintro e w1 ⟨rfl, hb1⟩
          have HB1 : Hid (Below w.heap.size w w1) := HB0.out.trans (hb1.mono HB0.out.size)
          have HRW : Hid (OwnRow w1 (w.heap.size + 1) 2 _) := HRB.out.later hb1
          have HX1 : Hid (Bx w1 w.heap.size _) := HX.out.later hb1
          have y0 := HX1.out 0 _ rfl
          have y1 := HX1.out 1 _ rfl
          clear hb1 x0 x1
          go_wp2_with fail
          refine (HIN.out _).mono ?_
          rintro e w2 ⟨rfl, hb2'⟩
          have HB2 : Hid (Below w.heap.size w w2) := HB1.out.trans (hb2'.mono HB1.out.size)
          have hrow := HRW.out.later hb2'
          have t0 := hrow.cell (i := 0) (by omega)
          have t1 := hrow.cell (i := 1) (by omega)
          have s0 := hrow.frozen 0
          have s1 := hrow.frozen 1
          simp at t0 t1
          have z0 := (HX1.out.later hb2') 0 _ rfl
          have kc2 := cell_later HB2.out HKC.out
          clear hb2' hrow y0 y1
          go_wp2
          exact bodyPost_ret (v := .agg #[.int .i64 4, .slice none 0 0]) (by simp [results, Tryz.results232, go_sem, t0, t1]) rfl (AnsYR.bad 4 HB2.out (by omega) _ _)
        · rw [if_neg hk0]
          have hb0 : ((d.1[j]?.getD id0).1 == 0) = false := by simpa using hk0
          obtain ⟨_, _, e3, hm3, hI1⟩ := h5.2.1.open'
          simp only [Value.slice.injEq] at e3
          obtain ⟨rfl, _, rfl⟩ := e3
          rw [g3] at hBt HF HIN HX HRB HB0 x0 x1 hwz ⊢
          have HBT : Hid (AtYs w a2 20 d.2) := hBt
          have HNX : Hid (∀ k, k < (d.1[j]?.getD id0).2.2.2.1.length → bytK d (d.1[j]?.getD id0).2.2.2.1 (k + 1) = bytK d (d.1[j]?.getD id0).2.2.2.1 k ++ (d.2[((d.1[j]?.getD id0).2.2.2.1[k]?.getD 0).toNat]?.getD [])) := fun k hk => bytK_next d _ k hk
          have HLN : Hid (∀ k, k ≤ (d.1[j]?.getD id0).2.2.2.1.length → (bytK d (d.1[j]?.getD id0).2.2.2.1 k).length ≤ 8 * k) := bytK_len d _ h8
          have H8 : Hid (∀ i : Nat, (d.2[i]?.getD []).length ≤ 8) := h8
          have HBL : Hid (bytL d j = bytK d (d.1[j]?.getD id0).2.2.2.1 (d.1[j]?.getD id0).2.2.2.1.length) := rfl
          have HBK : Hid (∀ k : Nat, k < (d.1[j]?.getD id0).2.2.2.1.length → 0 ≤ (d.1[j]?.getD id0).2.2.2.1[k]?.getD 0 ∧ (d.1[j]?.getD id0).2.2.2.1[k]?.getD 0 < 20) := hbk
          have h4 : (d.1[j]?.getD id0).2.2.2.1.length ≤ 4 := by omega
          rw [HBL.out]
          clear hk2 hk0 hpl hf h1 h2 h3 g1 g3 hAt hBt kc hsz HKD hbk h8 h5 hm3 HBL
          generalize (d.1[j]?.getD id0).1 = kd at *
          generalize (d.1[j]?.getD id0).2.2.2.1 = bs at *
          have HIB : Hid (At1 w aB bs.length (fun k => .int .i64 (bs[k]?.getD 0))) := hI1
          have HK0 : Hid (bytK d bs 0 = []) := by unfold Hid bytK; simp
          clear hI1
          generalize bytK d bs = BK at *
          obtain ⟨nB, hnB⟩ : ∃ nB, bs.length = nB := ⟨_, rfl⟩
          rw [hnB] at k3 HIB HBK HNX HLN h4 ⊢
          clear hnB
          generalize d.1.length = n at *
          go_enter Tryz.func232, Tryz.ntmps232
          go_wp2_with fail
          refine (HF.out _ HB0.out).mono ?_
          rintro e w1 ⟨rfl, hb1⟩
          have HB1 : Hid (Below w.heap.size w w1) := HB0.out.trans (hb1.mono HB0.out.size)
          have HRW : Hid (OwnRow w1 (w.heap.size + 1) 2 _) := HRB.out.later hb1
          have HX1 : Hid (Bx w1 w.heap.size [.slice (some ⟨b0, o0, none⟩) n c1, .slice a2 20 c2]) := HX.out.later hb1
          have y0 := HX1.out 0 _ rfl
          have y1 := HX1.out 1 _ rfl
          have hw1 : w.heap.size + 2 ≤ w1.heap.size := by have := hb1.size; omega
          clear hb1 x0 x1
          go_wp2_with fail
          refine (HIN.out _).mono ?_
          rintro e w2 ⟨rfl, hb2'⟩
          have HB2 : Hid (Below w.heap.size w w2) := HB1.out.trans (hb2'.mono HB1.out.size)
          have HRW2 : Hid (OwnRow w2 (w.heap.size + 1) 2 _) := HRW.out.later hb2'
          have HX2 : Hid (Bx w2 w.heap.size [.slice (some ⟨b0, o0, none⟩) n c1, .slice a2 20 c2]) := HX1.out.later hb2'
          have z0 := HX2.out 0 _ rfl
          have z1 := HX2.out 1 _ rfl
          have hw2 : w.heap.size + 2 ≤ w2.heap.size := by have := hb2'.size; omega
          have kc2 := cell_later HB2.out HKC.out
          have k32 := cell_later HB2.out k3
          clear hb2' y0 y1 HX1 HRW
          go_wp2
          clear kc2 k32 z0
          go_loopw [6, 39] (fun v i wr => ∃ k : Nat, k ≤ nB ∧ i = .int .i64 k ∧ Below w2.heap.size w2 wr ∧ WdY wr w2.heap.size v (BK k)) (fun _ i _ => nB - (intOf i).toNat)
          case atStart => exact ⟨0, Nat.zero_le _, rfl, Below.refl _ _, by rw [HK0.out]; exact WdY.nil _ _⟩
          case round =>
            obtain ⟨k, hk, rfl, hbl, hw⟩ := hrel
            have HBL : Hid (Below w2.heap.size w2 wr) := hbl
            have HBW : Hid (Below w.heap.size w wr) := HB2.out.trans (hbl.mono HB2.out.size)
            have HWD : Hid (WdY wr w2.heap.size _ (BK k)) := hw
            obtain ⟨av, cv, rfl⟩ := hw.shape
            have z1r := cell_later hbl z1
            clear hbl hw
            by_cases hlk : k < nB
            · obtain ⟨b1, o1, rfl, p1⟩ := HIB.out k hlk
              replace p1 : w.cell? ⟨b1, o1 + k, none⟩ = some (.int .i64 (bs[k]?.getD 0)) := p1
              have p1r := cell_later HBW.out p1
              have hbr := HBK.out k hlk
              have HN := HNX.out k hlk
              have hln := HLN.out k (by omega)
              generalize bs[k]?.getD 0 = xx at *
              obtain ⟨y, rfl⟩ : ∃ y : Nat, xx = (y : Int) := ⟨xx.toNat, by omega⟩
              have hy : y < 20 := by omega
              have hy' : (y : Int) < 20 := by omega
              obtain ⟨bD, oD, ua, uc, rfl, d0, iy⟩ := HBT.out y hy
              have d0r := cell_later HBW.out d0
              have h8y := H8.out y
              have HNX' : Hid (BK (k + 1) = BK k ++ d.2[y]?.getD []) := by unfold Hid; simpa using HN
              clear HN hbr
              generalize d.2[y]?.getD [] = ys at *
              obtain ⟨v', X, hr, hwx, hbx⟩ := append_y wr w2.heap.size _ (BK k) ys ua ys.length uc HWD.out HBL.out.size (by omega) (by omega) (iy.later HBW.out)
              have HAP : Hid (_ = _) := hr
              have HWX : Hid (WdY X w2.heap.size v' (BK (k + 1))) := by rw [HNX'.out]; exact hwx
              have HBX : Hid (Below w2.heap.size w2 X) := HBL.out.trans hbx
              clear hr hwx hbx iy HNX' HWD
              generalize (BK k).length = ln at *
              generalize ys.length = ly at *
              go_wp2_with (first | refine wpList_append_run rfl _ _ _ rfl _ _ rfl rfl _ _ HAP.out ?_ | fail)
              go_roundw
              case rel => exact ⟨k + 1, by omega, by go_num, HBX.out, HWX.out⟩
              case measure => simp [intOf]; omega
            · have HE : Hid (BK k = BK nB) := by unfold Hid; rw [show k = nB by omega]
              have HWN : Hid (WdY wr w2.heap.size (.slice av (BK k).length cv) (BK nB)) := by rw [← HE.out]; exact HWD.out
              have HY : Hid (BytO wr (.slice av (BK k).length cv) (BK nB) (fun b => w.heap.size + 1 < b ∧ b < wr.heap.size)) := (HWN.out.own (w0 := w2) (Nat.le_refl _)).mono fun b hb => ⟨by have := hb.1; omega, hb.2⟩
              have hrow := HRW2.out.later HBL.out
              have t0 := hrow.cell (i := 0) (by omega)
              have t1 := hrow.cell (i := 1) (by omega)
              have s0 := hrow.frozen 0
              have s1 := hrow.frozen 1
              simp at t0 t1
              clear hrow HWD HWN HE
              generalize (BK k).length = ln at *
              go_wp2
              exact bodyPost_ret (v := .agg #[.int .i64 0, .slice av ln cv]) (by simp [results, Tryz.results232, go_sem, t0, t1]) rfl (AnsYR.put HBW.out (by omega) HY.out _ _)
theorem bytR_len (d : FD) (x : Int) : (bytR d x).2.length ≤ 32 := by
  unfold bytR
  by_cases hf : fsF d = 0
  · rw [if_pos hf]
    by_cases hp : 0 ≤ x ∧ x < (d.1.length : Int)
    · rw [if_pos hp]
      by_cases h2 : kindAt d.1 x.toNat = 2
      · rw [if_pos h2]; simp
      · rw [if_neg h2]
        by_cases h0 : kindAt d.1 x.toNat = 0
        · rw [if_pos h0]; simp
        · rw [if_neg h0]
          obtain ⟨h1, _, h3, _, _⟩ := fsE_zero (fsF_zero hf)
          have hsz := ino_size (ins_ino h1 x.toNat (by omega))
          have := bytK_len d (d.1[x.toNat]?.getD id0).2.2.2.1 (many_eight h3) _ (Nat.le_refl _)
          show (bytL d x.toNat).length ≤ 32
          unfold bytL
          omega
    · rw [if_neg hp]; simp
  · rw [if_neg hf]; simp
end Go.Proofs.YtpfafcodihhdfaaGreatDoor

namespace Go.Proofs.YtpfafcodihhdfaaGreatDoor
open Go.RowKit
set_option maxRecDepth 100000

set_option maxHeartbeats 3200000 in
theorem dirPlaceFault_any (w : World) (a1 : Option Addr) (n1 c1 : Nat) (a2 : Option Addr) (n2 c2 : Nat) (d : FD) (x : Int) (h : FsR w (.slice a1 n1 c1) (.slice a2 n2 c2) d) (hsi : sizeInos d.1 ≤ 1048576) :
    Calls Tryz.prog 168 #[.agg #[.slice a1 n1 c1, .slice a2 n2 c2], .int .i64 x] w fun e w' => e = .returned (.int .i64 (dirQ d x)) ∧ Below w.heap.size w w' := by
  have HF : Hid (∀ W, Below w.heap.size w W → Calls Tryz.prog 84 #[.agg #[.slice a1 n1 c1, .slice a2 n2 c2]] W fun e w' => e = .returned (.int .i64 (fsE d)) ∧ Below W.heap.size W w') := fun W hW => reachFault_any W _ _ _ _ _ _ d (h.later hW) hsi
  have HX : Hid (Bx (w.alloc (.cells #[.slice a1 n1 c1, .slice a2 n2 c2] 32)) w.heap.size [.slice a1 n1 c1, .slice a2 n2 c2]) := Bx.new w [.slice a1 n1 c1, .slice a2 n2 c2] _
  have HR : Hid (dirQ d x = if fsE d = 0 then (if 0 ≤ x ∧ x < (d.1.length : Int) then (if kindAt d.1 x.toNat = 2 then 0 else 9) else 3) else fsE d) := rfl
  obtain ⟨_, _, e1, hm1, hAt⟩ := h.1.open'
  obtain ⟨_, _, e2, hm2, hBt⟩ := h.2.open'
  simp only [Value.slice.injEq] at e1 e2
  obtain ⟨rfl, rfl, rfl⟩ := e1
  obtain ⟨rfl, rfl, rfl⟩ := e2
  have HIN : Hid (∀ W, Calls Tryz.prog 170 #[.agg #[.slice a1 d.1.length c1, .slice a2 d.2.length c2], .int .i64 x] W fun e w' => e = .returned (.bool (decide (0 ≤ x ∧ x < (d.1.length : Int)))) ∧ Below W.heap.size W w') := fun W => isInode_any W _ _ _ _ _ _ x
  clear h hm1 hm2 hBt
  by_cases hf : fsE d = 0
  rotate_left
  · have HQ : Hid (dirQ d x = fsE d) := by unfold Hid; rw [HR.out, if_neg hf]
    rw [HQ.out]
    have hb : (fsE d != 0) = true := by simpa using hf
    clear hf hAt HR HQ HIN
    generalize fsE d = r at *
    generalize d.1.length = n at *
    generalize d.2.length = m at *
    go_enter Tryz.func168, Tryz.ntmps168
    go_wp2_with fail
    refine (HF.out _ (later1 _ _)).mono ?_
    rintro e w1 ⟨rfl, hb1⟩
    have HB1 : Hid (Below w.heap.size w w1) := (later1 _ _).trans (hb1.mono (by simp))
    clear hb1
    go_wp2
    go_ret
    exact ⟨rfl, HB1.out⟩
  · rw [hf] at HF
    by_cases hpl : 0 ≤ x ∧ x < (d.1.length : Int)
    rotate_left
    · have HQ : Hid (dirQ d x = 3) := by unfold Hid; rw [HR.out, if_pos hf, if_neg hpl]
      rw [HQ.out]
      rw [decide_eq_false hpl] at HIN
      clear hf hAt HR HQ hpl
      generalize d.1.length = n at *
      generalize d.2.length = m at *
      go_enter Tryz.func168, Tryz.ntmps168
      go_wp2_with fail
      refine (HF.out _ (later1 _ _)).mono ?_
      rintro e w1 ⟨rfl, hb1⟩
      have HB1 : Hid (Below w.heap.size w w1) := (later1 _ _).trans (hb1.mono (by simp))
      have y0 := (HX.out.later hb1) 0 _ rfl
      have y1 := (HX.out.later hb1) 1 _ rfl
      clear hb1
      go_wp2_with fail
      refine (HIN.out _).mono ?_
      rintro e w2 ⟨rfl, hb2⟩
      have HB2 : Hid (Below w.heap.size w w2) := HB1.out.trans (hb2.mono HB1.out.size)
      clear hb2 y0 y1
      go_wp2
      go_ret
      exact ⟨rfl, HB2.out⟩
    · rw [decide_eq_true hpl] at HIN
      obtain ⟨j, rfl⟩ : ∃ j : Nat, x = (j : Int) := ⟨x.toNat, by omega⟩
      have hj : j < d.1.length := by omega
      have HQ : Hid (dirQ d (j : Int) = if (d.1[j]?.getD id0).1 = 2 then 0 else 9) := by unfold Hid; rw [HR.out, if_pos hf, if_pos hpl]; rfl
      rw [HQ.out]
      have hjn : (j : Int) < ((d.1.length : Nat) : Int) := by omega
      obtain ⟨b0, o0, rfl, hI⟩ := hAt j hj
      obtain ⟨aB, cB, _, _, kc, _⟩ := hI
      have HKC : Hid (_ = some (Value.int .i64 (d.1[j]?.getD id0).1)) := kc
      clear kc hAt HR HQ hpl hf
      generalize (d.1[j]?.getD id0).1 = kd at *
      generalize d.1.length = n at *
      generalize d.2.length = m at *
      by_cases hk : kd = 2
      · rw [if_pos hk]
        have hb2 : (kd != 2) = false := by simpa using hk
        clear hk
        go_enter Tryz.func168, Tryz.ntmps168
        go_wp2_with fail
        refine (HF.out _ (later1 _ _)).mono ?_
        rintro e w1 ⟨rfl, hb1⟩
        have HB1 : Hid (Below w.heap.size w w1) := (later1 _ _).trans (hb1.mono (by simp))
        have HX1 : Hid (Bx w1 w.heap.size _) := HX.out.later hb1
        have y0 := HX1.out 0 _ rfl
        have y1 := HX1.out 1 _ rfl
        clear hb1
        go_wp2_with fail
        refine (HIN.out _).mono ?_
        rintro e w2 ⟨rfl, hb2⟩
        have HB2 : Hid (Below w.heap.size w w2) := HB1.out.trans (hb2.mono HB1.out.size)
        have z0 := (HX1.out.later hb2) 0 _ rfl
        have z1 := (HX1.out.later hb2) 1 _ rfl
        have kc2 := cell_later HB2.out HKC.out
        clear hb2 y0 y1
        go_wp2
        go_ret
        exact ⟨rfl, HB2.out⟩
      · rw [if_neg hk]
        have hb2 : (kd != 2) = true := by simpa using hk
        clear hk
        go_enter Tryz.func168, Tryz.ntmps168
        go_wp2_with fail
        refine (HF.out _ (later1 _ _)).mono ?_
        rintro e w1 ⟨rfl, hb1⟩
        have HB1 : Hid (Below w.heap.size w w1) := (later1 _ _).trans (hb1.mono (by simp))
        have HX1 : Hid (Bx w1 w.heap.size _) := HX.out.later hb1
        have y0 := HX1.out 0 _ rfl
        have y1 := HX1.out 1 _ rfl
        clear hb1
        go_wp2_with fail
        refine (HIN.out _).mono ?_
        rintro e w2 ⟨rfl, hb2⟩
        have HB2 : Hid (Below w.heap.size w w2) := HB1.out.trans (hb2.mono HB1.out.size)
        have z0 := (HX1.out.later hb2) 0 _ rfl
        have z1 := (HX1.out.later hb2) 1 _ rfl
        have kc2 := cell_later HB2.out HKC.out
        clear hb2 y0 y1
        go_wp2
        go_ret
        exact ⟨rfl, HB2.out⟩

set_option maxHeartbeats 1600000 in
theorem dirNameFault_any (w : World) (a1 : Option Addr) (n1 c1 : Nat) (a2 : Option Addr) (n2 c2 : Nat) (d : FD) (x : Int) (s : ByteArray) (h : FsR w (.slice a1 n1 c1) (.slice a2 n2 c2) d) (hsi : sizeInos d.1 ≤ 1048576) (hs : s.size ≤ maxLen) :
    Calls Tryz.prog 112 #[.agg #[.slice a1 n1 c1, .slice a2 n2 c2], .int .i64 x, .string s] w fun e w' => e = .returned (.int .i64 (dirN d x s)) ∧ Below w.heap.size w w' := by
  have HF : Hid (∀ W, Below w.heap.size w W → Calls Tryz.prog 168 #[.agg #[.slice a1 n1 c1, .slice a2 n2 c2], .int .i64 x] W fun e w' => e = .returned (.int .i64 (dirQ d x)) ∧ Below W.heap.size W w') := fun W hW => dirPlaceFault_any W _ _ _ _ _ _ d x (h.later hW) hsi
  have HN : Hid (∀ W, Calls Tryz.prog 169 #[.string s] W fun e w' => e = .returned (.int .i64 (nameF s)) ∧ w' = W) := fun W => implName_any W s hs
  have HR : Hid (dirN d x s = if dirQ d x = 0 then nameF s else dirQ d x) := rfl
  rw [HR.out]
  clear h hsi hs HR
  generalize dirQ d x = r at *
  generalize nameF s = q at *
  by_cases hr : r = 0
  · rw [if_pos hr]
    subst hr
    go_enter Tryz.func112, Tryz.ntmps112
    go_wp2_with fail
    first
      | refine (HF.out _ (later1 _ _)).mono ?_
      | refine (HF.out _ (Below.refl _ _)).mono ?_
    rintro e w1 ⟨rfl, hb1⟩
    have HB1 : Hid (Below w.heap.size w w1) := by first | exact (later1 _ _).trans (hb1.mono (by simp)) | exact hb1
    clear hb1
    go_wp2_with fail
    refine (HN.out _).mono ?_
    rintro e w2 ⟨rfl, rfl⟩
    go_wp2
    go_ret
    exact ⟨rfl, HB1.out⟩
  · rw [if_neg hr]
    have hb : (r != 0) = true := by simpa using hr
    clear hr
    go_enter Tryz.func112, Tryz.ntmps112
    go_wp2_with fail
    first
      | refine (HF.out _ (later1 _ _)).mono ?_
      | refine (HF.out _ (Below.refl _ _)).mono ?_
    rintro e w1 ⟨rfl, hb1⟩
    have HB1 : Hid (Below w.heap.size w w1) := by first | exact (later1 _ _).trans (hb1.mono (by simp)) | exact hb1
    clear hb1
    go_wp2
    go_ret
    exact ⟨rfl, HB1.out⟩

set_option maxHeartbeats 3200000 in
theorem l8Asked_any (w : World) (b o : Nat) (d : FD) (aI : Option Addr) (cI : Nat) (aD : Option Addr) (cD : Nat) (x : Int) (h : FsX w b o d aI cI aD cD) (hs : sizeInos d.1 ≤ 1048576) :
    Calls Tryz.prog 190 #[.pointer (some ⟨b, o, none⟩), .int .i64 x] w fun e w' => e = .returned (.int .i64 (dirQ d x)) ∧ Below w.heap.size w w' := by
  have HF : Hid (Calls Tryz.prog 69 #[.pointer (some ⟨b, o, none⟩)] w fun e w' => e = .returned (.int .i64 (fsE d)) ∧ Below w.heap.size w w') := l6Entries_any w b o d _ _ _ _ h hs
  have HP : Hid (∀ W, Below w.heap.size w W → Calls Tryz.prog 167 #[.pointer (some ⟨b, o, none⟩), .int .i64 x] W fun e w' => e = .returned (.bool (decide (0 ≤ x ∧ x < (d.1.length : Int)))) ∧ w' = W) := fun W hW => l6Place_any W b o d _ _ _ _ x (h.later hW)
  have HR : Hid (dirQ d x = if fsE d = 0 then (if 0 ≤ x ∧ x < (d.1.length : Int) then (if kindAt d.1 x.toNat = 2 then 0 else 9) else 3) else fsE d) := rfl
  by_cases hf : fsE d = 0
  rotate_left
  · have HQ : Hid (dirQ d x = fsE d) := by unfold Hid; rw [HR.out, if_neg hf]
    rw [HQ.out]
    have hb : (fsE d != 0) = true := by simpa using hf
    clear hf h HR HQ HP
    generalize fsE d = r at *
    go_enter Tryz.func190, Tryz.ntmps190
    go_wp2_with fail
    refine HF.out.mono ?_
    rintro e w1 ⟨rfl, hb1⟩
    have HB1 : Hid (Below w.heap.size w w1) := hb1
    clear hb1
    go_wp2
    go_ret
    exact ⟨rfl, HB1.out⟩
  · rw [hf] at HF
    by_cases hpl : 0 ≤ x ∧ x < (d.1.length : Int)
    rotate_left
    · have HQ : Hid (dirQ d x = 3) := by unfold Hid; rw [HR.out, if_pos hf, if_neg hpl]
      rw [HQ.out]
      rw [decide_eq_false hpl] at HP
      clear hf h HR HQ hpl
      go_enter Tryz.func190, Tryz.ntmps190
      go_wp2_with fail
      refine HF.out.mono ?_
      rintro e w1 ⟨rfl, hb1⟩
      have HB1 : Hid (Below w.heap.size w w1) := hb1
      clear hb1
      go_wp2_with fail
      refine (HP.out _ HB1.out).mono ?_
      rintro e w2 ⟨rfl, rfl⟩
      go_wp2
      go_ret
      exact ⟨rfl, HB1.out⟩
    · rw [decide_eq_true hpl] at HP
      obtain ⟨j, rfl⟩ : ∃ j : Nat, x = (j : Int) := ⟨x.toNat, by omega⟩
      have hj : j < d.1.length := by omega
      have HQ : Hid (dirQ d (j : Int) = if (d.1[j]?.getD id0).1 = 2 then 0 else 9) := by unfold Hid; rw [HR.out, if_pos hf, if_pos hpl]; rfl
      rw [HQ.out]
      have hjn : (j : Int) < ((d.1.length : Nat) : Int) := by omega
      obtain ⟨_, _, q1, _, hAt⟩ := h.ins.open'
      simp only [Value.slice.injEq] at q1
      obtain ⟨rfl, -, rfl⟩ := q1
      obtain ⟨b0, o0, rfl, hI⟩ := hAt j hj
      obtain ⟨aB, cB, _, _, kc, _⟩ := hI
      have HKC : Hid (_ = some (Value.int .i64 (d.1[j]?.getD id0).1)) := kc
      have HC0 : Hid (_ = _) := h.c0
      clear kc hAt HR HQ hpl hf h
      generalize (d.1[j]?.getD id0).1 = kd at *
      generalize d.1.length = n at *
      by_cases hk : kd = 2
      · rw [if_pos hk]
        have hb2 : (kd != 2) = false := by simpa using hk
        clear hk
        go_enter Tryz.func190, Tryz.ntmps190
        go_wp2_with fail
        refine HF.out.mono ?_
        rintro e w1 ⟨rfl, hb1⟩
        have HB1 : Hid (Below w.heap.size w w1) := hb1
        have kc1 := cell_later hb1 HKC.out
        have c01 := cell_later hb1 HC0.out
        clear hb1
        go_wp2_with fail
        refine (HP.out _ HB1.out).mono ?_
        rintro e w2 ⟨rfl, rfl⟩
        go_wp2
        go_ret
        exact ⟨rfl, HB1.out⟩
      · rw [if_neg hk]
        have hb2 : (kd != 2) = true := by simpa using hk
        clear hk
        go_enter Tryz.func190, Tryz.ntmps190
        go_wp2_with fail
        refine HF.out.mono ?_
        rintro e w1 ⟨rfl, hb1⟩
        have HB1 : Hid (Below w.heap.size w w1) := hb1
        have kc1 := cell_later hb1 HKC.out
        have c01 := cell_later hb1 HC0.out
        clear hb1
        go_wp2_with fail
        refine (HP.out _ HB1.out).mono ?_
        rintro e w2 ⟨rfl, rfl⟩
        go_wp2
        go_ret
        exact ⟨rfl, HB1.out⟩

end Go.Proofs.YtpfafcodihhdfaaGreatDoor

namespace Go.Proofs.YtpfafcodihhdfaaGreatDoor
open Go.RowKit
set_option maxRecDepth 100000

set_option maxHeartbeats 1600000 in
theorem placeOf_any (w : World) (a : Option Addr) (n c : Nat) (es : List EN) (s : ByteArray) (hn : es.length = n) (hm : n ≤ 4294967296) (hat : AtN w a n es) :
    Calls Tryz.prog 113 #[.slice a n c, .string s] w fun e w' => e = .returned (.tuple #[.int .i64 ((plcE es s : Nat) : Int), .bool (fndB es s)]) ∧ Below w.heap.size w w' := by
  have HAT : Hid (AtN w a n es) := hat
  have HN : Hid (es.length = n) := hn
  clear hat hn
  go_enter Tryz.func113, Tryz.ntmps113
  go_wp2
  go_loopw [10] (fun i wr => ∃ k : Nat, k ≤ n ∧ i = .int .i64 k ∧ Below w.heap.size w wr ∧ ∀ j, j < k → geE s (es[j]?.getD en0) = false) (fun i _ => n - (intOf i).toNat)
  case atStart => exact ⟨0, Nat.zero_le _, rfl, Below.refl _ _, fun j hj => by omega⟩
  case round =>
    obtain ⟨k, hk, rfl, hbl, hz⟩ := hrel
    have HBL : Hid (Below w.heap.size w wr) := hbl
    have HZ : Hid (∀ j, j < k → geE s (es[j]?.getD en0) = false) := hz
    clear hbl hz
    by_cases hlt : k < n
    · obtain ⟨b, off, rfl, c0, c1⟩ := HAT.out k hlt
      replace c0 := cell_later HBL.out c0
      replace c1 := cell_later HBL.out c1
      have HBX : Hid (∀ o : Obj, Below w.heap.size w (wr.alloc o)) := fun o => HBL.out.trans ((later1 _ _).mono HBL.out.size)
      cases hge : geE s (es[k]?.getD en0) with
      | false =>
        have HNX : Hid (∀ j, j < k + 1 → geE s (es[j]?.getD en0) = false) := fun j hj => by
          by_cases e : j = k
          · rw [e]; exact hge
          · exact HZ.out j (by omega)
        have hlt2 : Op.bytesLess (es[k]?.getD en0).1.toList s.toList = true := by unfold geE at hge; simpa using hge
        clear hge HZ
        generalize (es[k]?.getD en0).1 = x at *
        generalize (es[k]?.getD en0).2 = y at *
        go_wp2
        go_roundw
        case rel => exact ⟨k + 1, by omega, by go_num, HBX.out _, HNX.out⟩
        case measure => simp [intOf]; omega
      | true =>
        have HP : Hid (plcE es s = k) := findIdx_is (by rw [HN.out]; exact hlt) hge HZ.out
        have HF : Hid (fndB es s = ((es[k]?.getD en0).1.toList == s.toList)) := by
          unfold Hid fndB
          rw [HP.out, decide_eq_true (by rw [HN.out]; exact hlt), Bool.true_and]
          rfl
        have hlt2 : Op.bytesLess (es[k]?.getD en0).1.toList s.toList = false := by unfold geE at hge; simpa using hge
        clear hge HZ
        generalize (es[k]?.getD en0).1 = x at *
        generalize (es[k]?.getD en0).2 = y at *
        go_wp2_with fail
        go_quiet (fail)
        go_wp2
        go_ret2
        exact ⟨by rw [HP.out, HF.out]; rfl, below_drewN (HBX.out _) _⟩
    · have e : k = n := by omega
      have HP : Hid (plcE es s = n) := by
        have := findIdx_no (p := geE s) (es := es) fun j hj => HZ.out j (by rw [HN.out] at hj; omega)
        rw [HN.out] at this
        exact this
      have HF : Hid (fndB es s = false) := by unfold Hid fndB; rw [HP.out, decide_eq_false (by rw [HN.out]; omega)]; rfl
      subst e
      clear HZ
      go_wp2
      go_ret2
      exact ⟨by rw [HP.out, HF.out]; rfl, HBL.out⟩

/-- Where a name stands among entries, or -1. -/
def at8 (es : List EN) (s : ByteArray) : Int := if idxE es s < es.length then ((idxE es s : Nat) : Int) else -1
set_option maxHeartbeats 1600000 in
theorem l8At_any (w : World) (a : Option Addr) (n c : Nat) (es : List EN) (s : ByteArray) (hn : es.length = n) (hm : n ≤ 4294967296) (hat : AtN w a n es) :
    Calls Tryz.prog 96 #[.slice a n c, .string s] w fun e w' => e = .returned (.int .i64 (at8 es s)) ∧ w' = w := by
  have HAT : Hid (AtN w a n es) := hat
  have HN : Hid (es.length = n) := hn
  clear hat hn
  go_enter Tryz.func96, Tryz.ntmps96
  go_wp2
  go_loop [5] (fun i => ∃ k : Nat, k ≤ n ∧ i = .int .i64 k ∧ ∀ j, j < k → eqE s (es[j]?.getD en0) = false) (fun i => n - (intOf i).toNat)
  case atStart => exact ⟨0, Nat.zero_le _, rfl, fun j hj => by omega⟩
  case round =>
    obtain ⟨k, hk, rfl, hz⟩ := hrel
    have HZ : Hid (∀ j, j < k → eqE s (es[j]?.getD en0) = false) := hz
    clear hz
    by_cases hlt : k < n
    · obtain ⟨b, off, rfl, c0, c1⟩ := HAT.out k hlt
      cases hge : eqE s (es[k]?.getD en0) with
      | false =>
        have HNX : Hid (∀ j, j < k + 1 → eqE s (es[j]?.getD en0) = false) := fun j hj => by
          by_cases e : j = k
          · rw [e]; exact hge
          · exact HZ.out j (by omega)
        have hlt2 : ((es[k]?.getD en0).1.toList == s.toList) = false := hge
        clear hge HZ c1
        generalize (es[k]?.getD en0).1 = x at *
        go_wp2
        go_round
        case rel => exact ⟨k + 1, by omega, by go_num, HNX.out⟩
        case measure => simp [intOf]; omega
      | true =>
        have HP : Hid (at8 es s = (k : Int)) := by
          have h1 : idxE es s = k := findIdx_is (by rw [HN.out]; exact hlt) hge HZ.out
          unfold Hid at8
          rw [h1, if_pos (by rw [HN.out]; exact hlt)]
        have hlt2 : ((es[k]?.getD en0).1.toList == s.toList) = true := hge
        clear hge HZ c1
        generalize (es[k]?.getD en0).1 = x at *
        go_wp2
        go_ret
        exact ⟨ret_int HP.out.symm, rfl⟩
    · have HP : Hid (at8 es s = -1) := by
        have h1 : idxE es s = es.length := findIdx_no (p := eqE s) (es := es) fun j hj => HZ.out j (by rw [HN.out] at hj; omega)
        unfold Hid at8
        rw [h1, if_neg (by omega)]
      clear HZ
      go_wp2
      go_ret
      exact ⟨ret_int HP.out.symm, rfl⟩

/-- What lies at the place of a directory: its entries. -/
theorem FsR.dir {w : World} {a1 : Option Addr} {n1 c1 : Nat} {v2 : Value} {d : FD} (h : FsR w (.slice a1 n1 c1) v2 d) {j : Nat} (hj : j < d.1.length) : ∃ b0 o0 aE cE, a1 = some ⟨b0, o0, none⟩ ∧ n1 = d.1.length ∧ w.cell? ⟨b0, o0 + j * 5 + 4, none⟩ = some (.slice aE (entA d j).length cE) ∧ Ents w (.slice aE (entA d j).length cE) (entA d j) := by
  obtain ⟨_, _, e1, _, hAt⟩ := h.1.open'
  simp only [Value.slice.injEq] at e1
  obtain ⟨rfl, rfl, rfl⟩ := e1
  obtain ⟨b0, o0, rfl, hI⟩ := hAt j hj
  obtain ⟨aB, cB, aE, cE, _, _, _, _, k4, hR⟩ := hI
  exact ⟨b0, o0, aE, cE, rfl, rfl, k4, hR.2.2⟩

end Go.Proofs.YtpfafcodihhdfaaGreatDoor

namespace Go.Proofs.YtpfafcodihhdfaaGreatDoor
open Go.RowKit
set_option maxRecDepth 100000

set_option maxHeartbeats 3200000 in
theorem l9Walk_any (w : World) (b : Nat) (d : FD) (aI : Option Addr) (cI : Nat) (aD : Option Addr) (cD : Nat) (hx : FsX w b 0 d aI cI aD cD) (hok : FsOk d) (aN : Option Addr) (mN cN : Nat) (xs : List (List UInt8)) (hmN : xs.length = mN) (hmx : mN ≤ 1048577) (hat : AtT w aN mN xs) :
    Calls Tryz.prog 73 #[.pointer (some ⟨b, 0, none⟩), .slice aN mN cN] w fun e w' => e = .returned (.tuple #[.int .i64 (wkR d.1 0 xs).2, .int .i64 (wkR d.1 0 xs).1]) ∧ ∃ q, w' = w.drewN q := by
  obtain ⟨f0, -, hI, -⟩ := hx
  obtain ⟨_, _, e1, -, hAt⟩ := hI.open'
  simp only [Value.slice.injEq] at e1
  obtain ⟨rfl, -, rfl⟩ := e1
  have HAI : Hid (AtI w aI d.1.length d.1) := hAt
  have HAT : Hid (AtT w aN mN xs) := hat
  have HM : Hid (xs.length = mN) := hmN
  have HR : Hid (inRange d.1) := hok.rng
  have H6 : Hid (∀ i : Nat, (d.1[i]?.getD id0).2.2.2.2.length ≤ 6) := ents_six hok
  have hpos := hok.pos
  have hten := hok.ten
  obtain ⟨RES, hRES⟩ : ∃ RES, wkR d.1 0 xs = RES := ⟨_, rfl⟩
  have HRES : Hid (wkR d.1 0 xs = RES) := hRES
  rw [hRES]
  clear hRES hI hAt hat hmN hok
  obtain ⟨n, hn⟩ : ∃ n, d.1.length = n := ⟨_, rfl⟩
  have HN : Hid (d.1.length = n) := hn
  rw [hn] at f0 HAI hpos hten
  clear hn
  go_enter Tryz.func73, Tryz.ntmps73
  go_wp2_with fail
  go_loopw [6, 7] (fun va vi wr => ∃ q t m : Nat, q ≤ mN ∧ t < n ∧ va = .int .i64 (t : Int) ∧ vi = .int .i64 (q : Int) ∧ wr = w.drewN m ∧ wkR d.1 t (xs.drop q) = RES) (fun _ vi _ => mN - (intOf vi).toNat)
  case atStart => exact ⟨0, 0, 0, Nat.zero_le _, hpos, rfl, rfl, rfl, HRES.out⟩
  case round =>
    obtain ⟨q, t, m, hq, ht, rfl, rfl, rfl, hz⟩ := hrel
    have HZ : Hid (wkR d.1 t (xs.drop q) = RES) := hz
    clear hz
    by_cases hlt : q < mN
    · have HDC : Hid (xs.drop q = xs[q]?.getD [] :: xs.drop (q + 1)) := drop_cons (by rw [HM.out]; exact hlt)
      obtain ⟨bn, on, rfl, c0⟩ := HAT.out q hlt
      obtain ⟨bI, oI, rfl, hIt⟩ := HAI.out t ht
      obtain ⟨aB, cB, aE, cE, k0, -, -, -, k4, h5⟩ := hIt
      obtain ⟨_, _, e3, -, -, hEt⟩ := h5.2.2.open'
      simp only [Value.slice.injEq] at e3
      obtain ⟨rfl, -, rfl⟩ := e3
      generalize hs : xs[q]?.getD [] = s at *
      clear hs
      have htI : (t : Int) < (n : Int) := by omega
      have hqI : (q : Int) < (mN : Int) := by omega
      have hE6 := H6.out t
      have HST : Hid (RES = if (d.1[t]?.getD id0).1 = 2 then (if idxE (d.1[t]?.getD id0).2.2.2.2 (mkB s) < (d.1[t]?.getD id0).2.2.2.2.length then wkR d.1 ((d.1[t]?.getD id0).2.2.2.2[idxE (d.1[t]?.getD id0).2.2.2.2 (mkB s)]?.getD en0).2.toNat (xs.drop (q + 1)) else (4, 0)) else (9, 0)) := by
        unfold Hid
        rw [← HZ.out, HDC.out]; rfl
      by_cases hk : (d.1[t]?.getD id0).1 = 2
      rotate_left
      · have hkb : ((d.1[t]?.getD id0).1 != 2) = true := by simpa using hk
        have HRR : Hid (RES = (9, 0)) := by unfold Hid; rw [HST.out, if_neg hk]
        clear HST hk
        generalize (d.1[t]?.getD id0).1 = kd at *
        go_wp2
        go_ret2
        exact ⟨by rw [HRR.out]; rfl, _, rfl⟩
      · have hkb : ((d.1[t]?.getD id0).1 != 2) = false := by simpa using hk
        rw [if_pos hk] at HST
        have HL8 : Hid (∀ m, Calls Tryz.prog 96 #[.slice aE (d.1[t]?.getD id0).2.2.2.2.length cE, .string (mkB s)] (w.drewN m) fun e w' => e = .returned (.int .i64 (at8 (d.1[t]?.getD id0).2.2.2.2 (mkB s))) ∧ w' = w.drewN m) := fun m => l8At_any (w.drewN m) aE _ cE _ (mkB s) rfl (by omega) (hEt.later (below_drewN (Below.refl _ _) m))
        have HEN : Hid (AtN w aE (d.1[t]?.getD id0).2.2.2.2.length (d.1[t]?.getD id0).2.2.2.2) := hEt
        by_cases hi : idxE (d.1[t]?.getD id0).2.2.2.2 (mkB s) < (d.1[t]?.getD id0).2.2.2.2.length
        · have ha8 : at8 (d.1[t]?.getD id0).2.2.2.2 (mkB s) = ((idxE (d.1[t]?.getD id0).2.2.2.2 (mkB s) : Nat) : Int) := by unfold at8; rw [if_pos hi]
          rw [ha8] at HL8
          rw [if_pos hi] at HST
          obtain ⟨y, hy, hyn⟩ := rng_nat HR.out (by rw [HN.out]; exact ht) hi
          obtain ⟨b1, o1, rfl, -, d1⟩ := HEN.out _ hi
          rw [hy] at d1 HST
          rw [Int.toNat_natCast] at HST
          rw [HN.out] at hyn
          clear hk hy ha8 hEt h5 HZ
          generalize idxE (d.1[t]?.getD id0).2.2.2.2 (mkB s) = k at *
          generalize (d.1[t]?.getD id0).2.2.2.2.length = nE at *
          generalize (d.1[t]?.getD id0).1 = kd at *
          go_wp2_with fail
          go_quiet ((go_at_call 96; exact quiet_same2 (HL8.out _)))
          go_wp2
          go_roundw
          case rel => exact ⟨q + 1, y, _, by omega, hyn, rfl, by go_num, by first | rfl | rw [World.drewN_drewN], HST.out.symm⟩
          case measure => simp [intOf]; omega
        · have ha8 : at8 (d.1[t]?.getD id0).2.2.2.2 (mkB s) = -1 := by unfold at8; rw [if_neg hi]
          rw [ha8] at HL8
          have HRR : Hid (RES = (4, 0)) := by unfold Hid; rw [HST.out, if_neg hi]
          clear HST hk ha8 hEt h5 HZ hi
          generalize (d.1[t]?.getD id0).2.2.2.2.length = nE at *
          generalize (d.1[t]?.getD id0).1 = kd at *
          go_wp2_with fail
          go_quiet ((go_at_call 96; exact quiet_same2 (HL8.out _)))
          go_wp2
          go_ret2
          exact ⟨by rw [HRR.out]; rfl, _, by first | rfl | rw [World.drewN_drewN]⟩
    · have HRR : Hid (RES = (0, (t : Int))) := by
        unfold Hid
        rw [← HZ.out, List.drop_of_length_le (by rw [HM.out]; omega)]; rfl
      go_wp2
      go_ret2
      exact ⟨by rw [HRR.out]; rfl, _, rfl⟩
end Go.Proofs.YtpfafcodihhdfaaGreatDoor

namespace Go.Proofs.YtpfafcodihhdfaaGreatDoor
open Go.RowKit
set_option maxRecDepth 100000

/-- Where a path leads: a code, or a place. -/
def pthR (d : FD) (p : List UInt8) : Int × Int := if pathF p = 0 then wkR d.1 0 (splitL p) else (pathF p, 0)
set_option maxHeartbeats 3200000 in
theorem l9Path_any (w : World) (b : Nat) (d : FD) (aI : Option Addr) (cI : Nat) (aD : Option Addr) (cD : Nat) (hx : FsX w b 0 d aI cI aD cD) (hok : FsOk d) (p : List UInt8) (hp : p.length ≤ 1048576) :
    Calls Tryz.prog 33 #[.pointer (some ⟨b, 0, none⟩), .string (mkB p)] w fun e w' => e = .returned (.tuple #[.int .i64 (pthR d p).2, .int .i64 (pthR d p).1]) ∧ Below w.heap.size w w' := by
  have HS : Hid (Calls Tryz.prog 72 #[.string (mkB p)] w fun e w' => ∃ a c, e = .returned (.tuple #[.slice a (splitL p).length c, .int .i64 (pathF p)]) ∧ Spl w w' p a c) := specSplit_any w p
  have HW : Hid (∀ (W : World) (a : Option Addr) (c : Nat), Spl w W p a c → Calls Tryz.prog 73 #[.pointer (some ⟨b, 0, none⟩), .slice a (splitL p).length c] W fun e w' => e = .returned (.tuple #[.int .i64 (wkR d.1 0 (splitL p)).2, .int .i64 (wkR d.1 0 (splitL p)).1]) ∧ Below W.heap.size W w') := fun W a c hsp => by
    have := splitL_len p hp
    refine (l9Walk_any W b d aI cI aD cD (hx.later hsp.1) hok a _ c (splitL p) rfl (by omega) hsp.2.1).mono ?_
    rintro e w' ⟨rfl, q, rfl⟩
    exact ⟨rfl, below_drewN (Below.refl _ _) q⟩
  have HR : Hid (pthR d p = if pathF p = 0 then wkR d.1 0 (splitL p) else (pathF p, 0)) := rfl
  rw [HR.out]
  clear HR hx hok hp
  generalize hsz : (splitL p).length = n at *
  clear hsz
  generalize mkB p = s at *
  generalize wkR d.1 0 (splitL p) = wr at *
  by_cases h0 : pathF p = 0
  · rw [if_pos h0]
    have hb : (pathF p != 0) = false := by simpa using h0
    clear h0
    generalize pathF p = pc at *
    obtain ⟨wc, wv⟩ := wr
    go_enter Tryz.func33, Tryz.ntmps33
    go_wp2_with fail
    refine HS.out.mono ?_
    rintro e w1 ⟨a, c, rfl, hsp⟩
    have HSP : Hid (Spl w w1 p a c) := hsp
    clear hsp
    go_wp2_with fail
    refine (HW.out _ a c HSP.out).mono ?_
    rintro e w2 ⟨rfl, hb2⟩
    have HB2 : Hid (Below w.heap.size w w2) := HSP.out.1.trans (hb2.mono HSP.out.1.size)
    clear hb2
    go_wp2
    go_ret2
    exact ⟨rfl, HB2.out⟩
  · rw [if_neg h0]
    have hb : (pathF p != 0) = true := by simpa using h0
    clear h0 HW
    generalize pathF p = pc at *
    go_enter Tryz.func33, Tryz.ntmps33
    go_wp2_with fail
    refine HS.out.mono ?_
    rintro e w1 ⟨a, c, rfl, hsp⟩
    have HB1 : Hid (Below w.heap.size w w1) := hsp.1
    clear hsp
    go_wp2
    go_ret2
    exact ⟨rfl, HB1.out⟩
theorem wkR_two {ds : List ID} : ∀ (xs : List (List UInt8)) (t : Nat), ¬ (wkR ds t xs).1 = 0 → (wkR ds t xs).2 = 0
  | [], _, h => absurd rfl h
  | s :: ns, t, h => by
    unfold wkR at h ⊢
    split
    · rename_i hk
      rw [if_pos hk] at h
      split
      · rename_i hi
        rw [if_pos hi] at h
        exact wkR_two ns _ h
      · rfl
    · rfl
theorem pth_int (d : FD) (p : List UInt8) : (if (pthR d p).1 = 0 then (0, (pthR d p).2) else ((pthR d p).1, 0)) = pthR d p := by
  unfold pthR
  by_cases h0 : pathF p = 0
  · rw [if_pos h0]
    by_cases h1 : (wkR d.1 0 (splitL p)).1 = 0
    · rw [if_pos h1]; exact Prod.ext h1.symm rfl
    · rw [if_neg h1]; exact Prod.ext rfl (wkR_two _ _ h1).symm
  · rw [if_neg h0, if_neg h0]
theorem walk_pth (d : FD) (s : ByteArray) : walkR d s = if fsF d = 0 then pthR d s.data.toList else (fsF d, 0) := by
  unfold walkR ntwC pthR
  by_cases h0 : fsF d = 0
  · rw [if_pos h0, if_pos h0]
  · rw [if_neg h0, if_neg h0, if_neg h0]
theorem implWalkV (w : World) (a1 : Option Addr) (n1 c1 : Nat) (a2 : Option Addr) (n2 c2 : Nat) (d : FD) (s : ByteArray) (h : FsR w (.slice a1 n1 c1) (.slice a2 n2 c2) d) (hs : sizeFs d ≤ 1048576) (hl : s.size ≤ 1048576) (hgl : Gl w) :
    Calls Tryz.prog 36 #[.agg #[.slice a1 n1 c1, .slice a2 n2 c2], .string s] w fun e w' => e = .returned (.agg #[.int .i64 (walkR d s).1, .int .i64 (walkR d s).2]) ∧ Below w.heap.size w w' := implWalkU w a1 n1 c1 a2 n2 c2 d s h hs hl hgl
end Go.Proofs.YtpfafcodihhdfaaGreatDoor
