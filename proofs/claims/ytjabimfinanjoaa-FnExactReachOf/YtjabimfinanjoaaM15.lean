/- The bytes of a file: the program. The walks of the program's rack of bytes: lists of bytes that are copied and set one by one. ReadFile, the specification's and the program's. ReadFile: the walks. ReadFile: the specification's walk. -/
import Derived.Test.YtjabimfinanjoaaM14
import Derived.Test.YtjabimfinanjoaaM01
import Derived.Test.YtjabimfinanjoaaM06
import Derived.Deep.RegionWith
import Derived.Deep.RegionLaw
import Derived.Test.YtjabimfinanjoaaM11
namespace Go.Proofs.Ytjabimfinanjoaa
open Go.RowKit
set_option maxRecDepth 100000

set_option maxHeartbeats 6400000 in
theorem implBytU (w : World) (a1 : Option Addr) (n1 c1 : Nat) (a2 : Option Addr) (n2 c2 : Nat) (d : FD) (x : Int) (h : FsR w (.slice a1 n1 c1) (.slice a2 n2 c2) d) (hs : sizeFs d ≤ 1048576) :
    Calls Try.prog 23 #[.agg #[.slice a1 n1 c1, .slice a2 n2 c2], .int .i64 x] w (AnsYR w (bytR d x)) := by
  have HFS : Hid (FsR w (.slice a1 n1 c1) (.slice a2 n2 c2) d) := h
  have HF : Hid (∀ W, Below w.heap.size w W → Calls Try.prog 11 #[.agg #[.slice a1 n1 c1, .slice a2 n2 c2]] W fun e w' => e = .returned (.int .i64 (fsF d)) ∧ Below W.heap.size W w') := fun W hW => implFsU W _ _ _ _ _ _ d (h.later hW) hs
  have hrow0 : OwnRow ((w.alloc (.cells #[.slice a1 n1 c1, .slice a2 n2 c2] 30)).alloc (.cells #[.int .i64 0, .slice none 0 0] 45)) (w.heap.size + 1) 2 (fun i => if i = 0 then .int .i64 0 else .slice none 0 0) := by
    have := box2 (w.alloc (.cells #[.slice a1 n1 c1, .slice a2 n2 c2] 30)) 45
    rw [World.size_alloc] at this
    exact this
  have HB0 : Hid (Below w.heap.size w ((w.alloc (.cells #[.slice a1 n1 c1, .slice a2 n2 c2] 30)).alloc (.cells #[.int .i64 0, .slice none 0 0] 45))) := later2 _ _ _
  have HX : Hid (Bx ((w.alloc (.cells #[.slice a1 n1 c1, .slice a2 n2 c2] 30)).alloc (.cells #[.int .i64 0, .slice none 0 0] 45)) w.heap.size [.slice a1 n1 c1, .slice a2 n2 c2]) := (Bx.new w [.slice a1 n1 c1, .slice a2 n2 c2] _).later (later1 _ _)
  have HRB : Hid (OwnRow _ (w.heap.size + 1) 2 _) := hrow0
  have HR : Hid (bytR d x = if fsF d = 0 then (if 0 ≤ x ∧ x < (d.1.length : Int) then (if kindAt d.1 x.toNat = 2 then (9, []) else if kindAt d.1 x.toNat = 0 then (4, []) else (0, bytL d x.toNat)) else (3, [])) else (fsF d, [])) := rfl
  rw [HR.out]
  have x0 := HX.out 0 _ rfl
  have x1 := HX.out 1 _ rfl
  obtain ⟨_, _, e1, hm1, hAt⟩ := h.1.open'
  obtain ⟨_, _, e2, hm2, hBt⟩ := h.2.open'
  simp only [Value.slice.injEq] at e1 e2
  obtain ⟨rfl, rfl, rfl⟩ := e1
  obtain ⟨rfl, rfl, rfl⟩ := e2
  have HIN : Hid (∀ W, Calls Try.prog 51 #[.agg #[.slice a1 d.1.length c1, .slice a2 d.2.length c2], .int .i64 x] W fun e w' => e = .returned (.bool (decide (0 ≤ x ∧ x < (d.1.length : Int)))) ∧ Below W.heap.size W w') := fun W => isInode_any W _ _ _ _ _ _ x
  clear HR h hrow0 hs hm1 hm2
  have hwz : ((w.alloc (.cells #[.slice a1 d.1.length c1, .slice a2 d.2.length c2] 30)).alloc (.cells #[.int .i64 0, .slice none 0 0] 45)).heap.size = w.heap.size + 2 := by simp
  by_cases hf : fsF d = 0
  rotate_left
  · rw [if_neg hf]
    have hb : (fsF d != 0) = true := by simpa using hf
    clear hf hAt hBt
    generalize fsF d = r at *
    generalize d.1.length = n at *
    generalize d.2.length = m at *
    go_enter Try.func23, Try.ntmps23
    go_wp2_with fail
    refine (HF.out _ HB0.out).mono ?_
    rintro e w1 ⟨rfl, hb1⟩
    have HB1 : Hid (Below w.heap.size w w1) := HB0.out.trans (hb1.mono HB0.out.size)
    have hrow := HRB.out.later hb1
    have t0 := hrow.cell (i := 0) (by omega)
    have t1 := hrow.cell (i := 1) (by omega)
    have s0 := hrow.frozen 0
    have s1 := hrow.frozen 1
    simp at t0 t1
    clear hb1 hrow
    go_wp2
    exact bodyPost_ret (v := .agg #[.int .i64 r, .slice none 0 0]) (by simp [results, Try.results23, go_sem, t0, t1]) rfl (AnsYR.bad r HB1.out (by omega) _ _)
  · rw [if_pos hf]
    obtain ⟨h1, h2, h3, _, _⟩ := fsE_zero (fsF_zero hf)
    obtain ⟨g1, _, g3⟩ := formB_no h2
    have hten := insF_ten h1
    rw [hf] at HF
    by_cases hpl : 0 ≤ x ∧ x < (d.1.length : Int)
    rotate_left
    · rw [if_neg hpl]
      rw [decide_eq_false hpl] at HIN
      clear hpl hf h1 h2 h3 g1 g3 hten hAt hBt
      generalize d.1.length = n at *
      generalize d.2.length = m at *
      go_enter Try.func23, Try.ntmps23
      go_wp2_with fail
      refine (HF.out _ HB0.out).mono ?_
      rintro e w1 ⟨rfl, hb1⟩
      have HB1 : Hid (Below w.heap.size w w1) := HB0.out.trans (hb1.mono HB0.out.size)
      have HRW : Hid (OwnRow w1 (w.heap.size + 1) 2 _) := HRB.out.later hb1
      have HX1 : Hid (Bx w1 w.heap.size _) := HX.out.later hb1
      have y0 := HX1.out 0 _ rfl
      have y1 := HX1.out 1 _ rfl
      clear hb1 x0 x1
      go_wp2_with fail
      refine (HIN.out _).mono ?_
      rintro e w2 ⟨rfl, hb2'⟩
      have HB2 : Hid (Below w.heap.size w w2) := HB1.out.trans (hb2'.mono HB1.out.size)
      have hrow := HRW.out.later hb2'
      have t0 := hrow.cell (i := 0) (by omega)
      have t1 := hrow.cell (i := 1) (by omega)
      have s0 := hrow.frozen 0
      have s1 := hrow.frozen 1
      simp at t0 t1
      clear hb2' hrow y0 y1
      go_wp2
      exact bodyPost_ret (v := .agg #[.int .i64 3, .slice none 0 0]) (by simp [results, Try.results23, go_sem, t0, t1]) rfl (AnsYR.bad 3 HB2.out (by omega) _ _)
    · rw [if_pos hpl]
      rw [decide_eq_true hpl] at HIN
      obtain ⟨j, rfl⟩ : ∃ j : Nat, x = (j : Int) := ⟨x.toNat, by omega⟩
      rw [Int.toNat_natCast]
      have hj : j < d.1.length := by omega
      have hsz := ino_size (ins_ino h1 j hj)
      have hbk := fun k hk => ins_blk h1 j k hj hk
      have h8 := many_eight h3
      obtain ⟨b0, o0, rfl, hI⟩ := hAt j hj
      obtain ⟨aB, cB, _, _, kc, _, _, k3, _, h5⟩ := hI
      have HKC : Hid (_ = some (Value.int .i64 (d.1[j]?.getD id0).1)) := kc
      have HKD : Hid (kindAt d.1 j = (d.1[j]?.getD id0).1) := rfl
      rw [HKD.out]
      have hjn : (j : Int) < ((d.1.length : Nat) : Int) := by omega
      by_cases hk2 : (d.1[j]?.getD id0).1 = 2
      · rw [if_pos hk2]
        have hb2 : ((d.1[j]?.getD id0).1 == 2) = true := by simpa using hk2
        clear hk2 hpl hf h1 h2 h3 g1 g3 hAt hBt kc hsz HKD hbk h8 h5 k3
        generalize (d.1[j]?.getD id0).1 = kd at *
        generalize d.1.length = n at *
        generalize d.2.length = m at *
        go_enter Try.func23, Try.ntmps23
        go_wp2_with fail
        refine (HF.out _ HB0.out).mono ?_
        rintro e w1 ⟨rfl, hb1⟩
        have HB1 : Hid (Below w.heap.size w w1) := HB0.out.trans (hb1.mono HB0.out.size)
        have HRW : Hid (OwnRow w1 (w.heap.size + 1) 2 _) := HRB.out.later hb1
        have HX1 : Hid (Bx w1 w.heap.size _) := HX.out.later hb1
        have y0 := HX1.out 0 _ rfl
        have y1 := HX1.out 1 _ rfl
        clear hb1 x0 x1
        go_wp2_with fail
        refine (HIN.out _).mono ?_
        rintro e w2 ⟨rfl, hb2'⟩
        have HB2 : Hid (Below w.heap.size w w2) := HB1.out.trans (hb2'.mono HB1.out.size)
        have hrow := HRW.out.later hb2'
        have t0 := hrow.cell (i := 0) (by omega)
        have t1 := hrow.cell (i := 1) (by omega)
        have s0 := hrow.frozen 0
        have s1 := hrow.frozen 1
        simp at t0 t1
        have z0 := (HX1.out.later hb2') 0 _ rfl
        have kc2 := cell_later HB2.out HKC.out
        clear hb2' hrow y0 y1
        go_wp2
        exact bodyPost_ret (v := .agg #[.int .i64 9, .slice none 0 0]) (by simp [results, Try.results23, go_sem, t0, t1]) rfl (AnsYR.bad 9 HB2.out (by omega) _ _)
      · rw [if_neg hk2]
        have hb2 : ((d.1[j]?.getD id0).1 == 2) = false := by simpa using hk2
        by_cases hk0 : (d.1[j]?.getD id0).1 = 0
        · rw [if_pos hk0]
          have hb0 : ((d.1[j]?.getD id0).1 == 0) = true := by simpa using hk0
          clear hk2 hk0 hpl hf h1 h2 h3 g1 g3 hAt hBt kc hsz HKD hbk h8 h5 k3
          generalize (d.1[j]?.getD id0).1 = kd at *
          generalize d.1.length = n at *
          generalize d.2.length = m at *
          go_enter Try.func23, Try.ntmps23
          go_wp2_with fail
          refine (HF.out _ HB0.out).mono ?_
          rintro e w1 ⟨rfl, hb1⟩
          have HB1 : Hid (Below w.heap.size w w1) := HB0.out.trans (hb1.mono HB0.out.size)
          have HRW : Hid (OwnRow w1 (w.heap.size + 1) 2 _) := HRB.out.later hb1
          have HX1 : Hid (Bx w1 w.heap.size _) := HX.out.later hb1
          have y0 := HX1.out 0 _ rfl
          have y1 := HX1.out 1 _ rfl
          clear hb1 x0 x1
          go_wp2_with fail
          refine (HIN.out _).mono ?_
          rintro e w2 ⟨rfl, hb2'⟩
          have HB2 : Hid (Below w.heap.size w w2) := HB1.out.trans (hb2'.mono HB1.out.size)
          have hrow := HRW.out.later hb2'
          have t0 := hrow.cell (i := 0) (by omega)
          have t1 := hrow.cell (i := 1) (by omega)
          have s0 := hrow.frozen 0
          have s1 := hrow.frozen 1
          simp at t0 t1
          have z0 := (HX1.out.later hb2') 0 _ rfl
          have kc2 := cell_later HB2.out HKC.out
          clear hb2' hrow y0 y1
          go_wp2
          exact bodyPost_ret (v := .agg #[.int .i64 4, .slice none 0 0]) (by simp [results, Try.results23, go_sem, t0, t1]) rfl (AnsYR.bad 4 HB2.out (by omega) _ _)
        · rw [if_neg hk0]
          have hb0 : ((d.1[j]?.getD id0).1 == 0) = false := by simpa using hk0
          have h4 : (d.1[j]?.getD id0).2.2.2.1.length ≤ 4 := by omega
          have HBA : Hid (∀ W, Below w.heap.size w W → Calls Try.prog 52 #[.agg #[.slice (some ⟨b0, o0, none⟩) d.1.length c1, .slice a2 d.2.length c2], .int .i64 (j : Int)] W fun e w' => ∃ v, e = .returned v ∧ Below W.heap.size W w' ∧ WdY w' W.heap.size v (bytL d j)) := fun W hW => bytesAt_any W _ _ _ _ _ _ d j (HFS.out.later hW) hj g3 h4 hbk h8 (by have := insF_ten h1; omega)
          clear hk2 hk0 hpl hf h1 h2 h3 g1 g3 hAt hBt kc hsz HKD hbk h8 h5 k3 h4
          generalize (d.1[j]?.getD id0).1 = kd at *
          generalize bytL d j = BL at *
          generalize d.1.length = n at *
          generalize d.2.length = m at *
          go_enter Try.func23, Try.ntmps23
          go_wp2_with fail
          refine (HF.out _ HB0.out).mono ?_
          rintro e w1 ⟨rfl, hb1⟩
          have HB1 : Hid (Below w.heap.size w w1) := HB0.out.trans (hb1.mono HB0.out.size)
          have HRW : Hid (OwnRow w1 (w.heap.size + 1) 2 _) := HRB.out.later hb1
          have HX1 : Hid (Bx w1 w.heap.size [.slice (some ⟨b0, o0, none⟩) n c1, .slice a2 m c2]) := HX.out.later hb1
          have y0 := HX1.out 0 _ rfl
          have y1 := HX1.out 1 _ rfl
          have hw1 : w.heap.size + 2 ≤ w1.heap.size := by have := hb1.size; omega
          clear hb1 x0 x1
          go_wp2_with fail
          refine (HIN.out _).mono ?_
          rintro e w2 ⟨rfl, hb2'⟩
          have HB2 : Hid (Below w.heap.size w w2) := HB1.out.trans (hb2'.mono HB1.out.size)
          have HRW2 : Hid (OwnRow w2 (w.heap.size + 1) 2 _) := HRW.out.later hb2'
          have HX2 : Hid (Bx w2 w.heap.size [.slice (some ⟨b0, o0, none⟩) n c1, .slice a2 m c2]) := HX1.out.later hb2'
          have z0 := HX2.out 0 _ rfl
          have z1 := HX2.out 1 _ rfl
          have hw2 : w.heap.size + 2 ≤ w2.heap.size := by have := hb2'.size; omega
          have kc2 := cell_later HB2.out HKC.out
          clear hb2' y0 y1 HX1 HRW
          go_wp2_with fail
          refine (HBA.out w2 HB2.out).mono ?_
          rintro e w3 ⟨v, rfl, hb3, hw3⟩
          obtain ⟨av, cv, rfl⟩ := hw3.shape
          have HBW : Hid (Below w.heap.size w w3) := HB2.out.trans (hb3.mono HB2.out.size)
          have HY : Hid (BytO w3 (.slice av BL.length cv) BL (fun b => w.heap.size + 1 < b ∧ b < w3.heap.size)) := (hw3.own (w0 := w2) (Nat.le_refl _)).mono fun b hb => ⟨by have := hb.1; omega, hb.2⟩
          have hrow := HRW2.out.later hb3
          have t0 := hrow.cell (i := 0) (by omega)
          have t1 := hrow.cell (i := 1) (by omega)
          have s0 := hrow.frozen 0
          have s1 := hrow.frozen 1
          simp at t0 t1
          clear hrow hw3 hb3
          generalize BL.length = ln at *
          go_wp2
          exact bodyPost_ret (v := .agg #[.int .i64 0, .slice av ln cv]) (by simp [results, Try.results23, go_sem, t0, t1]) rfl (AnsYR.put HBW.out (by omega) HY.out _ _)
theorem bytR_len (d : FD) (x : Int) : (bytR d x).2.length ≤ 32 := by
  unfold bytR
  by_cases hf : fsF d = 0
  · rw [if_pos hf]
    by_cases hp : 0 ≤ x ∧ x < (d.1.length : Int)
    · rw [if_pos hp]
      by_cases h2 : kindAt d.1 x.toNat = 2
      · rw [if_pos h2]; simp
      · rw [if_neg h2]
        by_cases h0 : kindAt d.1 x.toNat = 0
        · rw [if_pos h0]; simp
        · rw [if_neg h0]
          obtain ⟨h1, _, h3, _, _⟩ := fsE_zero (fsF_zero hf)
          have hsz := ino_size (ins_ino h1 x.toNat (by omega))
          have := bytK_len d (d.1[x.toNat]?.getD id0).2.2.2.1 (many_eight h3) _ (Nat.le_refl _)
          show (bytL d x.toNat).length ≤ 32
          unfold bytL
          omega
    · rw [if_neg hp]; simp
  · rw [if_neg hf]; simp
end Go.Proofs.Ytjabimfinanjoaa

namespace Go.Proofs.Ytjabimfinanjoaa
open Go.RowKit
set_option maxRecDepth 100000

theorem Try.sizeU8 : (Try.prog.info? 5).map (·.size) = some 1 := by kernel_rfl

/-- What 'copy' into a list that was just made comes to. -/
theorem copyY_made (w : World) (a : Option Addr) (n cap : Nat) (zs : List UInt8) (hz : zs.length = n) (hc : AtY w a n zs) :
    ∃ X, (Builtin.copy_ #[43, 43] 3 #[.slice (some ⟨w.heap.size, 0, none⟩) n n, .slice a n cap]).run Try.prog (w.alloc (.cells (madeCells #[.int .u8 0] n) 5)) = .ok (goInt n) X ∧
      Below w.heap.size w X ∧ OwnRow X w.heap.size n (fun i => .int .u8 (((zs[i]?.getD 0).toNat : Nat) : Int)) := by
  by_cases h0 : n = 0
  · subst h0
    have hr := run_copy_none (P := Try.prog) (w.alloc (.cells (madeCells #[.int .u8 0] 0) 5)) 43 43 3 5 (some ⟨w.heap.size, 0, none⟩) a 0 0 0 cap Try.underlying43 Try.sizeU8 (by simp)
    exact ⟨_, hr, later1 _ _, (OwnRow.made w (.int .u8 0) 0 5).congr fun i hi => by omega⟩
  · obtain ⟨b, off, rfl, _⟩ := hc 0 (by omega)
    have hc' : ∀ k, k < n → w.cell? ⟨b, off + k, none⟩ = some (.int .u8 (((zs[k]?.getD 0).toNat : Nat) : Int)) := by
      intro k hk
      obtain ⟨b', off', e, h⟩ := hc k hk
      simp only [Option.some.injEq, Addr.mk.injEq, and_true] at e
      rw [e.1, e.2]; exact h
    have hcp := run_copy_row (P := Try.prog) (w.alloc (.cells (madeCells #[.int .u8 0] n) 5)) 43 43 3 5 w.heap.size 0 n n ⟨b, off, none⟩ n cap (madeCells #[.int .u8 0] n) 5 (zs.map fun z => byteV z) Try.underlying43 Try.sizeU8
      (Go.Deep.blk_alloc_new _ _) (by simp [hz]) (fun j v hv => by
        rw [List.getElem?_map, Option.map_eq_some_iff] at hv
        obtain ⟨z, hz1, rfl⟩ := hv
        have hj : j < n := by rw [← hz]; exact (List.getElem?_eq_some_iff.1 hz1).1
        have h2 := hc' j hj
        rw [hz1, Option.getD_some] at h2
        have ha : (⟨b, off, none⟩ : Addr).add j = ⟨b, off + j, none⟩ := by
          by_cases hj0 : j = 0
          · subst hj0; simp [Addr.add]
          · simp [Addr.add, hj0]
        rw [ha]
        exact cell_later (later1 _ _) h2) (by simp [size_madeCells, hz]) (fun v hv => by
        obtain ⟨z, _, rfl⟩ := List.mem_map.1 hv
        rfl)
    refine ⟨_, by rw [hcp, List.length_map, hz], below_setRow (later1 _ _) (Nat.le_refl _) _, ?_⟩
    refine ⟨_, 5, setRow_heap _ _ _ _ _ _ (Go.Deep.blk_alloc_new _ _), ?_, fun i hi => ?_⟩
    · simp [hz]
    · have hlen : i < zs.length := by omega
      simp [List.getElem?_append_left, hlen, byteV]
set_option maxHeartbeats 400000 in
theorem copyOfY_more {w : World} {v : Value} {zs : List UInt8} (h : Byt w v zs) (hn : zs.length ≤ 1048576) :
    Calls Try.prog 66 #[v] w fun e w' => e = .returned (.slice (some ⟨w.heap.size, 0, none⟩) zs.length zs.length) ∧ Below w.heap.size w w' ∧ BytO w' (.slice (some ⟨w.heap.size, 0, none⟩) zs.length zs.length) zs (fresh w w') ∧ w.heap.size < w'.heap.size := by
  obtain ⟨a, cap, rfl, hm, hc⟩ := h
  obtain ⟨X, hcp, hbX, hrX⟩ := copyY_made w a zs.length cap zs rfl hc
  have hmk := fun w => run_make_row' (P := Try.prog) 43 5 (.int .u8 0) 1 Try.underlying43 Try.infoU8 rfl .i64 .i64 zs.length (by omega) (by omega) w
  have HB : Hid (Below w.heap.size w X) := hbX
  have HR : Hid (OwnRow X w.heap.size zs.length (fun i => .int .u8 (((zs[i]?.getD 0).toNat : Nat) : Int))) := hrX
  clear hbX hrX hc
  go_enter Try.func66, Try.ntmps66
  go_wp2
  go_ret
  exact ⟨rfl, HB.out, Or.inr ⟨w.heap.size, _, ⟨Nat.le_refl _, HR.out.lt⟩, rfl, ⟨hm.1, Nat.le_refl _⟩, HR.out⟩, HR.out.lt⟩
theorem copyOfY_any {w : World} {v : Value} {zs : List UInt8} (h : Byt w v zs) (hn : zs.length ≤ 1048576) :
    Calls Try.prog 66 #[v] w fun e w' => e = .returned (.slice (some ⟨w.heap.size, 0, none⟩) zs.length zs.length) ∧ Below w.heap.size w w' ∧ BytO w' (.slice (some ⟨w.heap.size, 0, none⟩) zs.length zs.length) zs (fresh w w') :=
  (copyOfY_more h hn).mono fun _ _ ⟨h1, h2, h3, _⟩ => ⟨h1, h2, h3⟩

theorem newRackY_any (w : World) (n : Nat) (hn : n ≤ 60) :
    Calls Try.prog 78 #[.int .i64 (n : Int)] w fun e w' => ∃ b, w.heap.size ≤ b ∧ e = .returned (.agg #[.slice (some ⟨b, 0, none⟩) n n]) ∧ Below w.heap.size w w' ∧ OwnRow w' b n (fun _ => .slice none 0 0) := by
  have hmk := fun w => run_make_row' (P := Try.prog) 23 43 (.slice none 0 0) 24 Try.underlying23 Try.infoU8s rfl .i64 .i64 n (by omega) (by omega) w
  go_enter Try.func78, Try.ntmps78
  go_wp2
  refine bodyPost_ret (v := .agg #[.slice (some ⟨w.heap.size + 1, 0, none⟩) n n]) (by simp [results, Try.results78, go_sem]) rfl ⟨w.heap.size + 1, by omega, rfl, later2 _ _ _, ?_⟩
  have := OwnRow.made (w.alloc (Obj.cells #[Value.slice (some ⟨w.heap.size + 1, 0, none⟩) n n] 70)) (.slice none 0 0) n 43
  simpa using this

set_option maxHeartbeats 800000 in
theorem setY_any (w : World) (br o g n cap x : Nat) (u : Nat → Value) (v : Value) (zs : List UInt8) (_hn : n ≤ 60) (hx : x < n) (h0 : w.cell? ⟨br, o, none⟩ = some (.slice (some ⟨g, 0, none⟩) n cap)) (hr : OwnRow w g n u) (hu : ∃ ua un uc, u x = .slice ua un uc) (hi : Byt w v zs) (hl : zs.length ≤ 1048576) :
    Calls Try.prog 79 #[.pointer (some ⟨br, o, none⟩), .int .i64 (x : Int), v] w fun e w' => e = .returned (.tuple #[]) ∧
      ∃ X, w' = X.setCell ⟨g, x, none⟩ (.slice (some ⟨w.heap.size, 0, none⟩) zs.length zs.length) ∧ Below w.heap.size w X ∧ BytO X (.slice (some ⟨w.heap.size, 0, none⟩) zs.length zs.length) zs (fresh w X) := by
  obtain ⟨ua, un, uc, hux⟩ := hu
  have HI : Hid (Byt w v zs) := hi
  have HR : Hid (OwnRow w g n u) := hr
  have c1 := hr.cell hx
  rw [hux] at c1
  have c2 := hr.frozen x
  have HL : Hid (zs.length ≤ 1048576) := hl
  clear hi hr hl hux
  go_enter Try.func79, Try.ntmps79
  go_wp2_with fail
  go_region_with ((go_at_call 66; refine (copyOfY_any ?_ HL.out).mono ?_; exact HI.out; rintro e w1 ⟨rfl, hb1, ho1⟩; have d0 := cell_later hb1 h0; have d1 := cell_later hb1 c1; have d2 := (hb1.frozen (p := ⟨g, x, none⟩) (World.block_lt_of_cell? _ _ c1)).trans c2; have HB1 : Hid (Below w.heap.size w w1) := (Below.refl _ _).drew.trans hb1; have HO1 : Hid (BytO w1 (.slice (some ⟨w.heap.size, 0, none⟩) zs.length zs.length) zs (fresh w w1)) := ho1; clear hb1 ho1))
  all_goals
    go_wp2
    go_end0
    exact ⟨rfl, w1, rfl, HB1.out, HO1.out⟩

set_option maxHeartbeats 1600000 in
theorem rackOfY_walk (w : World) (a : Option Addr) (n cap : Nat) (bs : List (List UInt8)) (hbl : bs.length = n) (hn : n ≤ 60) (hz : ∀ k, k < n → (bs[k]?.getD []).length ≤ 1048576) (hB : AtYs w a n bs) :
    Calls Try.prog 45 #[.slice a n cap] w fun e w' => ∃ g, e = .returned (.agg #[.slice (some ⟨g, 0, none⟩) n n]) ∧ Below w.heap.size w w' ∧ BytsO w' (.slice (some ⟨g, 0, none⟩) n n) bs (fresh w w') := by
  have HBL : Hid (bs.length = n) := hbl
  have HZ : Hid (∀ k, k < n → (bs[k]?.getD []).length ≤ 1048576) := hz
  have HB : Hid (AtYs w a n bs) := hB
  clear hbl hz hB
  go_enter Try.func45, Try.ntmps45
  go_wp2_with fail
  refine (newRackY_any _ n hn).mono ?_
  rintro e w1 ⟨g, hg, rfl, hb1, hr1⟩
  simp at hg
  have HB1 : Hid (Below w.heap.size w w1) := (later1 _ _).trans (hb1.mono (by simp))
  have hgl : g < w1.heap.size := hr1.lt
  have HR1 : Hid (OwnRow w1 g n (fun _ => .slice none 0 0)) := hr1
  have t0 := cell_later hb1 (show (w.alloc (Obj.cells #[Value.slice none 0 0] 70)).cell? ⟨w.heap.size, 0, none⟩ = some (.slice none 0 0) by rw [new_cell]; rfl)
  have t1 : w1.frozen? ⟨w.heap.size, 0, none⟩ = false := by rw [hb1.frozen (by simp)]; simp
  have hz1 : w.heap.size < w1.heap.size := World.block_lt_of_cell? _ _ t0
  clear hb1 hr1
  go_wp2_with fail
  go_loopw [11] (fun i wr => ∃ j : Nat, j ≤ n ∧ i = .int .i64 j ∧ Below w.heap.size w wr ∧ wr.cell? ⟨w.heap.size, 0, none⟩ = some (.slice none 0 0) ∧ wr.frozen? ⟨w.heap.size, 0, none⟩ = false ∧ wr.cell? ⟨w1.heap.size, 0, none⟩ = some (.slice (some ⟨g, 0, none⟩) n n) ∧
    ∃ u s, OwnRow wr g n (fun i => if i < j then u i else .slice none 0 0) ∧ (∀ i, i < j → ∃ ua un uc, u i = .slice ua un uc) ∧ BuiltY wr (w1.heap.size + 1) j u (fun i => bs[i]?.getD []) s) (fun i _ => n - (intOf i).toNat)
  case atStart => exact ⟨0, Nat.zero_le _, rfl, HB1.out.trans ((later1 _ _).mono HB1.out.size), cell_later (later1 _ _) t0, by rw [(later1 w1 _).frozen (p := ⟨w.heap.size, 0, none⟩) hz1]; exact t1, by rw [new_cell]; rfl, fun _ => .slice none 0 0, _, (HR1.out.later (later1 _ _)).congr fun i _ => by simp, fun i hi => by omega, BuiltY.nil _ _ (by simp)⟩
  case round =>
    obtain ⟨j, hj, rfl, hbl, q0, q1, q2, u, s, hrow, hsh, hbt⟩ := hrel
    have HBW : Hid (Below w.heap.size w wr) := hbl
    have HROW : Hid (OwnRow wr g n (fun i => if i < j then u i else .slice none 0 0)) := hrow
    have HBT : Hid (BuiltY wr (w1.heap.size + 1) j u (fun i => bs[i]?.getD []) s) := hbt
    have HSH : Hid (∀ i, i < j → ∃ ua un uc, u i = .slice ua un uc) := hsh
    clear hbl hrow hbt hsh t0 t1
    by_cases hlt : j < n
    · obtain ⟨b, off, ua, ucap, e, c1, i1⟩ := HB.out j hlt
      clear HB
      subst e
      replace c1 := cell_later HBW.out c1
      have HI : Hid (Byt wr (.slice ua (bs[j]?.getD []).length ucap) (bs[j]?.getD [])) := i1.later HBW.out
      clear i1
      go_wp2_with fail
      refine (setY_any wr w1.heap.size 0 g n n j _ _ (bs[j]?.getD []) hn hlt q2 HROW.out ⟨none, 0, 0, by simp⟩ HI.out (HZ.out j hlt)).mono ?_
      rintro e w2 ⟨rfl, X, rfl, hbX, hoX⟩
      have HX : Hid (Below wr.heap.size wr X) := hbX
      have HO : Hid (BytO X (.slice (some ⟨wr.heap.size, 0, none⟩) (bs[j]?.getD []).length (bs[j]?.getD []).length) (bs[j]?.getD []) (fresh wr X)) := hoX
      clear hbX hoX
      go_wp2
      go_roundw
      case rel =>
        refine ⟨j + 1, by omega, by go_num, (HBW.out.trans (HX.out.mono HBW.out.size)).setCell (by simp; omega) _, ?_, ?_, ?_, _, _, ((HROW.out.later HX.out).set j _).congr fun i hi => ?_, fun i hi => ?_, (HBT.out.next HX.out HO.out).store (by simp; omega) _⟩
        · rw [World.cell?_of_block (w := X) (Below.heap_setCell _ _ _ _ (by simp; omega))]; exact cell_later HX.out q0
        · rw [World.frozen?_of_block (w := X) (Below.heap_setCell _ _ _ _ (by simp; omega)), HX.out.frozen (World.block_lt_of_cell? _ _ q0)]; exact q1
        · rw [World.cell?_of_block (w := X) (Below.heap_setCell _ _ _ _ (by simp; omega))]; exact cell_later HX.out q2
        · by_cases e : i = j
          · subst e; simp
          · by_cases e2 : i < j
            · simp [e, e2, show i < j + 1 by omega]
            · simp [e, e2, show ¬ i < j + 1 by omega]
        · by_cases e : i = j
          · subst e; exact ⟨_, _, _, by simp; exact ⟨rfl, rfl, rfl⟩⟩
          · obtain ⟨a1, a2, a3, h⟩ := HSH.out i (by omega)
            exact ⟨a1, a2, a3, by simp [e, h]⟩
      case measure => simp [intOf]; omega
    · go_wp2
      have e : j = n := by omega
      subst e
      refine bodyPost_ret (v := .agg #[.slice (some ⟨g, 0, none⟩) j j]) (by simp [results, Try.results45, go_sem, q0]) rfl ⟨g, rfl, HBW.out.setCell (Nat.le_refl _) _, ?_⟩
      have hB' := HBT.out.store (p := ⟨w.heap.size, 0, none⟩) (by simp; omega) (.slice (some ⟨g, 0, none⟩) j j)
      have hR' := (HROW.out.congr (g := u) fun i hi => by simp [hi]).store (p := ⟨w.heap.size, 0, none⟩) (by simp; omega) (.slice (some ⟨g, 0, none⟩) j j)
      exact hB'.byts bs HBL.out ⟨by unfold maxLen; omega, Nat.le_refl _⟩ (by omega) hR' _ ⟨by omega, hR'.lt⟩ (fun c h1 h2 => ⟨by omega, h2⟩)
end Go.Proofs.Ytjabimfinanjoaa

namespace Go.Proofs.Ytjabimfinanjoaa
open Go.RowKit
set_option maxRecDepth 100000

theorem slice_Y (a : Option Addr) (n c lo hi : Nat) (h1 : lo ≤ hi) (h2 : hi ≤ n) (h3 : n ≤ c) :
    ∃ A C, (∀ W : World, (Instr.sliceAt 43 (.slice a n c) (some (.int .i64 (lo : Int))) (some (.int .i64 (hi : Int))) none).run Try.prog W = .ok (.slice A (hi - lo) C) W) ∧ ∀ (W : World) (zs : List UInt8), zs.length = n → Byt W (.slice a n c) zs → Byt W (.slice A (hi - lo) C) ((zs.drop lo).take (hi - lo)) := by
  obtain ⟨i, hi0, _, hi2, _⟩ := Try.infoByte'
  refine ⟨if c - lo = 0 then a else a.map (·.add (lo * 1)), c - lo, fun W => ?_, fun W zs hz h => ?_⟩
  · have e2 : hi ≤ c := by omega
    simp [Instr.sliceAt, Instr.slice, Instr.sliceBounds, Instr.sliceBound, asIntOf, run_underlying Try.underlying43, sizeOf, typeInfo, hi0, hi2, e2, h1]
    by_cases hcl : c = lo
    · rw [if_pos hcl, if_pos (by omega)]
    · rw [if_neg hcl, if_neg (by omega)]
  · have hl : ((zs.drop lo).take (hi - lo)).length = hi - lo := by rw [List.length_take, List.length_drop]; omega
    obtain ⟨a', cap, e, hm, hat⟩ := h
    simp only [Value.slice.injEq] at e
    obtain ⟨rfl, _, rfl⟩ := e
    refine ⟨_, _, by rw [hl], ⟨by rw [hl]; have := hm.1; omega, by rw [hl]; omega⟩, fun k hk => ?_⟩
    rw [hl] at hk
    obtain ⟨b, off, rfl, hc⟩ := hat (lo + k) (by omega)
    rw [if_neg (by omega)]
    refine ⟨b, off + lo, by simp [Addr.add], ?_⟩
    rw [List.getElem?_take, if_pos hk, List.getElem?_drop]
    rw [Nat.add_assoc]
    exact hc
/-- The part of a list as the walk has it. -/
def cutA (a : Option Addr) (c lo : Nat) : Option Addr := if c = lo then a else Option.map (fun x => x.add lo) a
theorem cut_Y {W : World} {a : Option Addr} {n c lo hi : Nat} (h2 : hi ≤ n) (h3 : n ≤ c) {zs : List UInt8} (hz : zs.length = n) (h : Byt W (.slice a n c) zs) : Byt W (.slice (cutA a c lo) (hi - lo) (c - lo)) ((zs.drop lo).take (hi - lo)) := by
  have hl : ((zs.drop lo).take (hi - lo)).length = hi - lo := by rw [List.length_take, List.length_drop]; omega
  obtain ⟨a', cap, e, hm, hat⟩ := h
  simp only [Value.slice.injEq] at e
  obtain ⟨rfl, _, rfl⟩ := e
  refine ⟨_, _, by rw [hl], ⟨by rw [hl]; have := hm.1; omega, by rw [hl]; omega⟩, fun k hk => ?_⟩
  rw [hl] at hk
  obtain ⟨b, off, rfl, hc⟩ := hat (lo + k) (by omega)
  unfold cutA
  rw [if_neg (by omega)]
  refine ⟨b, off + lo, by simp [Addr.add], ?_⟩
  rw [List.getElem?_take, if_pos hk, List.getElem?_drop, Nat.add_assoc]
  exact hc
section
variable {P : Program} {w : World}
theorem wpList_slice_run {ops : Array Oper} {rest : List Oper} {o : Oper} {a : Act} {Q : Exit → Act → World → Prop} (hgd : o.guard = none) (t : TypeId) (x lo hi : Operand) (ho : o.op = .slice t x (some lo) (some hi) none) (v vl vh : Value) (hx : a.eval x = v) (hl : a.eval lo = vl) (hh : a.eval hi = vh) (v' : Value)
    (hr : (Instr.sliceAt t v (some vl) (some vh) none).run P w = .ok v' w) (h : wpList P ops Q rest (a.put o.dst v') w) : wpList P ops Q (o :: rest) a w := by
  refine wpList_plain hgd fun K hK => ?_
  unfold Oper.wp execOp
  simp only [ho, Sem.run_bind, Sem.run_pure, Result.andThen_ok, Option.map_some, Option.map_none, hx, hl, hh, hr]
  exact hK _ _ h
theorem step_slice_run {ops : Array Oper} {o : Oper} {a : Act} {K : Act → World → Prop} {Q : Exit → Act → World → Prop} {E : Prop} (hgd : o.guard = none) (t : TypeId) (x lo hi : Operand) (ho : o.op = .slice t x (some lo) (some hi) none) (v vl vh : Value) (hx : a.eval x = v) (hl : a.eval lo = vl) (hh : a.eval hi = vh) (v' : Value)
    (hr : (Instr.sliceAt t v (some vl) (some vh) none).run P w = .ok v' w) (h : K (a.put o.dst v') w) : if Region.wanted o (yielded ops a.tmps) = true then Oper.wp P o a w K Q else E := by
  have hw : Region.wanted o (yielded ops a.tmps) = true := by simp [Region.wanted, hgd]
  rw [if_pos hw]
  unfold Oper.wp execOp
  simp only [ho, Sem.run_bind, Sem.run_pure, Result.andThen_ok, Option.map_some, Option.map_none, hx, hl, hh, hr]
  exact h
end
theorem cutY_eq (zs : List UInt8) (p n : Nat) : (zs.drop (min p zs.length)).take (min zs.length (min p zs.length + n) - min p zs.length) = cutY zs p n := by
  unfold cutY
  apply List.ext_getElem?
  intro i
  rw [List.getElem?_take, List.getElem?_take, List.getElem?_drop, List.getElem?_drop]
  by_cases h : p ≤ zs.length
  · rw [Nat.min_eq_left h]
    by_cases hi : i < n
    · rw [if_pos hi]
      by_cases h2 : p + i < zs.length
      · rw [if_pos (by omega)]
      · rw [List.getElem?_eq_none (by omega)]; split <;> rfl
    · rw [if_neg hi, if_neg (by omega)]
  · rw [List.getElem?_eq_none (show zs.length ≤ p + i by omega), List.getElem?_eq_none (show zs.length ≤ min p zs.length + i by omega)]
    split <;> split <;> rfl
theorem cutY_eq' (zs : List UInt8) (p n : Nat) : (zs.drop (min p zs.length)).take (min (p + n) zs.length - min p zs.length) = cutY zs p n := by
  rw [← cutY_eq]
  by_cases h : p ≤ zs.length
  · rw [Nat.min_eq_left h, Nat.min_comm (p + n)]
  · have e1 : min p zs.length = zs.length := by omega
    rw [e1, List.drop_eq_nil_of_le (Nat.le_refl _)]
    simp
theorem l1Min_nat (w : World) (x y : Int) (r : Nat) (h : min x y = (r : Int)) : Calls Try.prog 64 #[.int .i64 x, .int .i64 y] w fun e w' => e = .returned (.int .i64 (r : Int)) ∧ w' = w := by
  by_cases hl : x < y
  · have E : Hid (x = (r : Int)) := by unfold Hid; omega
    clear h
    go_enter Try.func64, Try.ntmps64
    go_wp2
    go_ret
    exact ⟨ret_int E.out, rfl⟩
  · have E : Hid (y = (r : Int)) := by unfold Hid; omega
    clear h
    go_enter Try.func64, Try.ntmps64
    go_wp2
    go_ret
    exact ⟨ret_int E.out, rfl⟩
theorem isFrom_any (w : World) (p : Int) : Calls Try.prog 65 #[.int .i64 p] w fun e w' => e = .returned (.bool (fromB p)) ∧ w' = w := by
  have HE : Hid ((decide (0 ≤ p) && decide (p ≤ 1000)) = fromB p) := rfl
  by_cases h : 0 ≤ p
  · have h' : decide (0 ≤ p) = true := by simpa using h
    have HE2 : Hid (decide (p ≤ 1000) = fromB p) := by unfold Hid; rw [← HE.out, h']; rfl
    clear h'
    go_enter Try.func65, Try.ntmps65
    go_wp2
    go_ret
    exact ⟨ret_bool HE2.out, rfl⟩
  · have HE2 : Hid (false = fromB p) := by unfold Hid; rw [← HE.out]; simp [h]
    go_enter Try.func65, Try.ntmps65
    go_wp2
    go_ret
    exact ⟨ret_bool HE2.out, rfl⟩
end Go.Proofs.Ytjabimfinanjoaa

namespace Go.Proofs.Ytjabimfinanjoaa
open Go.RowKit
set_option maxRecDepth 100000

theorem fromB_nat {p : Int} (h : fromB p = true) : ∃ q : Nat, p = (q : Int) ∧ q ≤ 1000 := by
  unfold fromB at h
  simp at h
  exact ⟨p.toNat, by omega, by omega⟩
theorem readFR_len (d : FD) (x p n : Int) : (readFR d x p n).2.length ≤ 32 := by
  unfold readFR
  by_cases hc : (bytR d x).1 = 0
  · rw [if_pos hc]
    split
    · have := (sound hc).bl
      show (cutY _ _ _).length ≤ 32
      unfold cutY
      rw [List.length_take, List.length_drop]
      omega
    · simp
  · rw [if_neg hc]; simp
/-- What both walks begin with. -/
theorem AnsYR.boxed {w W : World} {rb : Nat} {r : Int} {zs : List UInt8} {a : Option Addr} {n c : Nat} (hB : Below w.heap.size w W) (hrb : w.heap.size ≤ rb) (hY : BytO W (.slice a n c) zs (fun b => w.heap.size ≤ b ∧ b < W.heap.size ∧ b ≠ rb)) (x y : Value) : AnsYR w (r, zs) (.returned (.agg #[.int .i64 r, .slice a n c])) ((W.setCell ⟨rb, 0, none⟩ x).setCell ⟨rb, 1, none⟩ y) := by
  refine ⟨a, n, c, rfl, (hB.setCell hrb _).setCell hrb _, (hY.keep fun b hb _ => ?_).mono fun b hb => ?_⟩
  · rw [Below.heap_setCell _ _ _ _ hb.2.2, Below.heap_setCell _ _ _ _ hb.2.2]
  · unfold fresh
    simp only [World.setCell, Array.size_modify]
    exact ⟨hb.1, hb.2.1⟩
theorem AnsYR.later {w w2 w3 : World} {r : Int × List UInt8} {e : Ending} (h : AnsYR w r e w2) (hb : Below w2.heap.size w2 w3) : AnsYR w r e w3 := by
  obtain ⟨a1, n1, c1, h1, h2, h3⟩ := h
  exact ⟨a1, n1, c1, h1, h2.trans (hb.mono h2.size), (h3.keep fun b _ hlt => hb.block b hlt).mono fun b hh => ⟨hh.1, Nat.lt_of_lt_of_le hh.2 hb.size⟩⟩

set_option maxHeartbeats 6400000 in
theorem implReadFU (w : World) (a1 : Option Addr) (n1 c1 : Nat) (a2 : Option Addr) (n2 c2 : Nat) (d : FD) (xx p q : Int) (h : FsR w (.slice a1 n1 c1) (.slice a2 n2 c2) d) (hs : sizeFs d ≤ 1048576) :
    Calls Try.prog 34 #[.agg #[.slice a1 n1 c1, .slice a2 n2 c2], .int .i64 xx, .int .i64 p, .int .i64 q] w (AnsYR w (readFR d xx p q)) := by
  have HRR : Hid (readFR d xx p q = if (bytR d xx).1 = 0 then (if fromB p && (decide (0 ≤ q) && decide (q ≤ 100)) then (0, cutY (bytL d xx.toNat) p.toNat q.toNat) else (3, [])) else ((bytR d xx).1, [])) := rfl
  rw [HRR.out]
  clear HRR
  have HB0 : Hid (Below w.heap.size w ((w.alloc (.cells #[.slice a1 n1 c1, .slice a2 n2 c2] 30)).alloc (.cells #[.int .i64 0, .slice none 0 0] 45))) := later2 _ _ _
  have HRS : Hid (OwnRow ((w.alloc (.cells #[.slice a1 n1 c1, .slice a2 n2 c2] 30)).alloc (.cells #[.int .i64 0, .slice none 0 0] 45)) (w.heap.size + 1) 2 (fun i => if i = 0 then .int .i64 0 else .slice none 0 0)) := by
    have := box2 (w.alloc (.cells #[.slice a1 n1 c1, .slice a2 n2 c2] 30)) 45
    rw [World.size_alloc] at this
    exact this
  have HBY : Hid (Calls Try.prog 23 #[.agg #[.slice a1 n1 c1, .slice a2 n2 c2], .int .i64 xx] ((w.alloc (.cells #[.slice a1 n1 c1, .slice a2 n2 c2] 30)).alloc (.cells #[.int .i64 0, .slice none 0 0] 45)) (AnsYR ((w.alloc (.cells #[.slice a1 n1 c1, .slice a2 n2 c2] 30)).alloc (.cells #[.int .i64 0, .slice none 0 0] 45)) (bytR d xx))) := implBytU _ a1 n1 c1 a2 n2 c2 d xx (h.later (later2 _ _ _)) hs
  have hz0 : ((w.alloc (.cells #[.slice a1 n1 c1, .slice a2 n2 c2] 30)).alloc (.cells #[.int .i64 0, .slice none 0 0] 45)).heap.size = w.heap.size + 2 := by simp
  have HIF : Hid (∀ W, Calls Try.prog 65 #[.int .i64 p] W fun e w' => e = .returned (.bool (fromB p)) ∧ w' = W) := fun W => isFrom_any W p
  clear h hs
  by_cases hc : (bytR d xx).1 = 0
  rotate_left
  · rw [if_neg hc]
    have hcb : ((bytR d xx).1 != 0) = true := by simpa using hc
    have he : (bytR d xx).2 = [] := bytR_bad hc
    clear hc
    go_enter Try.func34, Try.ntmps34
    go_wp2_with fail
    generalize ((w.alloc (.cells #[.slice a1 n1 c1, .slice a2 n2 c2] 30)).alloc (.cells #[.int .i64 0, .slice none 0 0] 45)) = W0 at *
    refine HBY.out.mono ?_
    rintro e w1 ⟨ay, ny, cy, rfl, hb1, ho1⟩
    rw [he] at ho1
    have HB1 : Hid (Below w.heap.size w w1) := HB0.out.trans (hb1.mono HB0.out.size)
    have HO1 : Hid (BytO w1 (.slice ay ny cy) [] (fun b => w.heap.size ≤ b ∧ b < w1.heap.size ∧ b ≠ w.heap.size + 1)) := ho1.mono fun b hb => ⟨by have := hb.1; omega, hb.2, by have := hb.1; omega⟩
    have hrr := HRS.out.later hb1
    have t0 := hrr.cell (i := 0) (by omega)
    have t1 := hrr.cell (i := 1) (by omega)
    have s0 := hrr.frozen 0
    have s1 := hrr.frozen 1
    simp at t0 t1
    have hlw : w.heap.size + 1 < w1.heap.size := hrr.lt
    clear hb1 hrr ho1 he
    generalize (bytR d xx).1 = r at *
    go_wp2
    exact bodyPost_ret (v := .agg #[.int .i64 r, .slice ay ny cy]) (by simp [results, Try.results34, go_sem, t0, t1, hlw]) rfl ((AnsYR.boxed HB1.out (by omega) HO1.out _ _).later (later1 _ _))
  · rw [if_pos hc]
    have hcb : ((bytR d xx).1 != 0) = false := by simpa using hc
    obtain ⟨he, _⟩ := bytR_code hc
    have he2 : (bytR d xx).2 = bytL d xx.toNat := by rw [he]
    have hbl := (sound hc).bl
    clear hc he
    generalize bytL d xx.toNat = zs at *
    by_cases hq : (fromB p && (decide (0 ≤ q) && decide (q ≤ 100))) = true
    rotate_left
    · rw [if_neg hq]
      have hcase : fromB p = false ∨ (fromB p = true ∧ q < 0) ∨ (fromB p = true ∧ ¬ q < 0 ∧ 100 < q) := by
        cases hf : fromB p with
        | false => exact Or.inl rfl
        | true =>
          rw [hf] at hq
          simp at hq
          by_cases h0 : q < 0
          · exact Or.inr (Or.inl ⟨rfl, h0⟩)
          · exact Or.inr (Or.inr ⟨rfl, h0, hq (by omega)⟩)
      have step : ∀ P : Prop, (fromB p = false → P) → (fromB p = true → q < 0 → P) → (fromB p = true → ¬ q < 0 → 100 < q → P) → P := fun P f1 f2 f3 => by
        rcases hcase with h | ⟨h, h2⟩ | ⟨h, h2, h3⟩
        · exact f1 h
        · exact f2 h h2
        · exact f3 h h2 h3
      clear hcase hq
      apply step
      all_goals
        intro hfp
        intros
        clear step
        rw [hfp] at HIF
        clear hfp
        go_enter Try.func34, Try.ntmps34
        go_wp2_with fail
        generalize ((w.alloc (.cells #[.slice a1 n1 c1, .slice a2 n2 c2] 30)).alloc (.cells #[.int .i64 0, .slice none 0 0] 45)) = W0 at *
        refine HBY.out.mono ?_
        rintro e w1 ⟨ay, ny, cy, rfl, hb1, ho1⟩
        rw [he2] at ho1
        have HB1 : Hid (Below w.heap.size w w1) := HB0.out.trans (hb1.mono HB0.out.size)
        have hrr := HRS.out.later hb1
        have t0 := hrr.cell (i := 0) (by omega)
        have t1 := hrr.cell (i := 1) (by omega)
        have s0 := hrr.frozen 0
        have s1 := hrr.frozen 1
        simp at t0 t1
        have hlw : w.heap.size + 1 < w1.heap.size := hrr.lt
        clear hb1 hrr ho1 he2
        generalize (bytR d xx).1 = r at *
        go_wp2_with fail
        refine (HIF.out _).mono ?_
        rintro e w2 ⟨rfl, rfl⟩
        go_wp2
        exact bodyPost_ret (v := .agg #[.int .i64 3, .slice none 0 0]) (by simp [results, Try.results34, go_sem, t0, t1, hlw]) rfl ((AnsYR.boxed HB1.out (by omega) (Or.inl ⟨rfl, none, 0, rfl⟩) _ _).later (later1 _ _))
    · rw [if_pos hq]
      have hfp : fromB p = true := by cases hf : fromB p with
        | true => rfl
        | false => rw [hf] at hq; simp at hq
      rw [hfp] at HIF hq
      simp at hq
      obtain ⟨pn, rfl, hpn⟩ := fromB_nat hfp
      obtain ⟨qn, rfl⟩ : ∃ qn : Nat, q = (qn : Int) := ⟨q.toNat, by omega⟩
      rw [Int.toNat_natCast, Int.toNat_natCast, ← cutY_eq']
      have hqn : ¬ ((100 : Int) < (qn : Int)) := by omega
      have hqn2 : qn ≤ 100 := by omega
      obtain ⟨L, hL⟩ : ∃ L, zs.length = L := ⟨_, rfl⟩
      have HL : Hid (zs.length = L) := hL
      obtain ⟨lo, hlo⟩ : ∃ lo, min pn L = lo := ⟨_, rfl⟩
      obtain ⟨hi, hhi⟩ : ∃ hi, min (pn + qn) L = hi := ⟨_, rfl⟩
      have hm1 : min (pn : Int) (L : Int) = (lo : Int) := by omega
      have hm2 : min ((pn : Int) + (qn : Int)) (L : Int) = (hi : Int) := by omega
      rw [hL, hlo, hhi]
      have hle : lo ≤ hi := by omega
      have hhL : hi ≤ L := by omega
      have hL32 : L ≤ 32 := by omega
      clear hq hfp hlo hhi hL hbl
      go_enter Try.func34, Try.ntmps34
      go_wp2_with fail
      generalize ((w.alloc (.cells #[.slice a1 n1 c1, .slice a2 n2 c2] 30)).alloc (.cells #[.int .i64 0, .slice none 0 0] 45)) = W0 at *
      refine HBY.out.mono ?_
      rintro e w1 ⟨ay, ny, cy, rfl, hb1, ho1⟩
      rw [he2] at ho1
      have HB1 : Hid (Below w.heap.size w w1) := HB0.out.trans (hb1.mono HB0.out.size)
      have HR1 : Hid (OwnRow w1 (w.heap.size + 1) 2 (fun i => if i = 0 then .int .i64 0 else .slice none 0 0)) := HRS.out.later hb1
      obtain ⟨ay2, cy2, esh, hmc, _⟩ := ho1.reads
      simp only [Value.slice.injEq] at esh
      obtain ⟨-, eny, ecy⟩ := esh
      rw [HL.out] at eny
      have eny2 := eny.symm
      clear eny
      subst eny2
      have hcy : L ≤ cy := by have := hmc.2; have := HL.out; omega
      obtain ⟨A, C, hsl, hbyt⟩ := slice_Y ay L cy lo hi hle hhL (by omega)
      have HBT : Hid (Byt w1 (.slice A (hi - lo) C) ((zs.drop lo).take (hi - lo))) := hbyt w1 zs HL.out ho1.reads
      have HSL : Hid (∀ W : World, (Instr.sliceAt 43 (.slice ay L cy) (some (.int .i64 (lo : Int))) (some (.int .i64 (hi : Int))) none).run Try.prog W = .ok (.slice A (hi - lo) C) W) := hsl
      have hlw : w.heap.size + 1 < w1.heap.size := HR1.out.lt
      have HTL : Hid (((zs.drop lo).take (hi - lo)).length ≤ 1048576) := by unfold Hid; rw [List.length_take]; omega
      clear hb1 ho1 he2 hmc hbyt hsl ecy hcy
      generalize (bytR d xx).1 = r at *
      go_wp2_with fail
      refine (HIF.out _).mono ?_
      rintro e w2 ⟨rfl, rfl⟩
      go_wp2_with (first | refine wpList_slice_run rfl _ _ _ _ rfl _ _ _ rfl rfl rfl _ (HSL.out _) ?_ | fail)
      refine (copyOfY_any (HBT.out.later (later1 _ _)) HTL.out).mono ?_
      rintro e w3 ⟨rfl, hb3, ho3⟩
      have hb3' : Below w1.heap.size w1 w3 := (later1 _ _).trans (hb3.mono (by simp))
      have HB3 : Hid (Below w.heap.size w w3) := HB1.out.trans (hb3'.mono HB1.out.size)
      have HO3 : Hid (BytO w3 _ _ (fun b => w.heap.size ≤ b ∧ b < w3.heap.size ∧ b ≠ w.heap.size + 1)) := ho3.mono fun b hb => ⟨by have := hb.1; simp at this; omega, hb.2, by have := hb.1; simp at this; omega⟩
      have hrr := HR1.out.later hb3'
      have t0 := hrr.cell (i := 0) (by omega)
      have t1 := hrr.cell (i := 1) (by omega)
      have s0 := hrr.frozen 0
      have s1 := hrr.frozen 1
      simp at t0 t1
      clear hb3 hb3' ho3 hrr
      generalize ((zs.drop lo).take (hi - lo)) = ys at *
      generalize (w1.alloc (.cells #[.int .i64 r, .slice ay L cy] 45)).heap.size = gg at *
      go_wp2
      exact bodyPost_ret (v := .agg #[.int .i64 0, .slice (some ⟨gg, 0, none⟩) ys.length ys.length]) (by simp [results, Try.results34, go_sem, t0, t1]) rfl (AnsYR.boxed HB3.out (by omega) HO3.out _ _)
end Go.Proofs.Ytjabimfinanjoaa

namespace Go.Proofs.Ytjabimfinanjoaa
open Go.RowKit
set_option maxRecDepth 100000

set_option maxHeartbeats 6400000 in
theorem specReadFU (w : World) (a1 : Option Addr) (n1 c1 : Nat) (a2 : Option Addr) (n2 c2 : Nat) (d : FD) (xx p q : Int) (h : FsR w (.slice a1 n1 c1) (.slice a2 n2 c2) d) (hs : sizeFs d ≤ 1048576) :
    Calls Try.prog 33 #[.agg #[.slice a1 n1 c1, .slice a2 n2 c2], .int .i64 xx, .int .i64 p, .int .i64 q] w (AnsYR w (readFR d xx p q)) := by
  have HRR : Hid (readFR d xx p q = if (bytR d xx).1 = 0 then (if fromB p && (decide (0 ≤ q) && decide (q ≤ 100)) then (0, cutY (bytL d xx.toNat) p.toNat q.toNat) else (3, [])) else ((bytR d xx).1, [])) := rfl
  rw [HRR.out]
  clear HRR
  have HB0 : Hid (Below w.heap.size w ((w.alloc (.cells #[.slice a1 n1 c1, .slice a2 n2 c2] 30)).alloc (.cells #[.int .i64 0, .slice none 0 0] 45))) := later2 _ _ _
  have HRS : Hid (OwnRow ((w.alloc (.cells #[.slice a1 n1 c1, .slice a2 n2 c2] 30)).alloc (.cells #[.int .i64 0, .slice none 0 0] 45)) (w.heap.size + 1) 2 (fun i => if i = 0 then .int .i64 0 else .slice none 0 0)) := by
    have := box2 (w.alloc (.cells #[.slice a1 n1 c1, .slice a2 n2 c2] 30)) 45
    rw [World.size_alloc] at this
    exact this
  have HBY : Hid (Calls Try.prog 22 #[.agg #[.slice a1 n1 c1, .slice a2 n2 c2], .int .i64 xx] ((w.alloc (.cells #[.slice a1 n1 c1, .slice a2 n2 c2] 30)).alloc (.cells #[.int .i64 0, .slice none 0 0] 45)) (AnsYR ((w.alloc (.cells #[.slice a1 n1 c1, .slice a2 n2 c2] 30)).alloc (.cells #[.int .i64 0, .slice none 0 0] 45)) (bytR d xx))) := specBytU _ a1 n1 c1 a2 n2 c2 d xx (h.later (later2 _ _ _)) hs
  have hz0 : ((w.alloc (.cells #[.slice a1 n1 c1, .slice a2 n2 c2] 30)).alloc (.cells #[.int .i64 0, .slice none 0 0] 45)).heap.size = w.heap.size + 2 := by simp
  have HIF : Hid (∀ W, Calls Try.prog 63 #[.int .i64 p, .int .i64 0, .int .i64 1000] W fun e w' => e = .returned (.bool (fromB p)) ∧ w' = W) := fun W => l1In_is (by unfold fromB; simp)
  have HIQ : Hid (∀ W, Calls Try.prog 63 #[.int .i64 q, .int .i64 0, .int .i64 100] W fun e w' => e = .returned (.bool (decide (0 ≤ q) && decide (q ≤ 100))) ∧ w' = W) := fun W => l1In_is (by simp)
  clear h hs
  by_cases hc : (bytR d xx).1 = 0
  rotate_left
  · rw [if_neg hc]
    have hcb : ((bytR d xx).1 != 0) = true := by simpa using hc
    have he : (bytR d xx).2 = [] := bytR_bad hc
    clear hc
    go_enter Try.func33, Try.ntmps33
    go_wp2_with fail
    generalize ((w.alloc (.cells #[.slice a1 n1 c1, .slice a2 n2 c2] 30)).alloc (.cells #[.int .i64 0, .slice none 0 0] 45)) = W0 at *
    refine HBY.out.mono ?_
    rintro e w1 ⟨ay, ny, cy, rfl, hb1, ho1⟩
    rw [he] at ho1
    have HB1 : Hid (Below w.heap.size w w1) := HB0.out.trans (hb1.mono HB0.out.size)
    have HO1 : Hid (BytO w1 (.slice ay ny cy) [] (fun b => w.heap.size ≤ b ∧ b < w1.heap.size ∧ b ≠ w.heap.size + 1)) := ho1.mono fun b hb => ⟨by have := hb.1; omega, hb.2, by have := hb.1; omega⟩
    have hrr := HRS.out.later hb1
    have t0 := hrr.cell (i := 0) (by omega)
    have t1 := hrr.cell (i := 1) (by omega)
    have s0 := hrr.frozen 0
    have s1 := hrr.frozen 1
    simp at t0 t1
    have hlw : w.heap.size + 1 < w1.heap.size := hrr.lt
    clear hb1 hrr ho1 he
    generalize (bytR d xx).1 = r at *
    go_wp2
    exact bodyPost_ret (v := .agg #[.int .i64 r, .slice ay ny cy]) (by simp [results, Try.results33, go_sem, t0, t1, hlw]) rfl ((AnsYR.boxed HB1.out (by omega) HO1.out _ _).later (later1 _ _))
  · rw [if_pos hc]
    have hcb : ((bytR d xx).1 != 0) = false := by simpa using hc
    obtain ⟨he, _⟩ := bytR_code hc
    have he2 : (bytR d xx).2 = bytL d xx.toNat := by rw [he]
    have hbl := (sound hc).bl
    clear hc he
    generalize bytL d xx.toNat = zs at *
    by_cases hq : (fromB p && (decide (0 ≤ q) && decide (q ≤ 100))) = true
    rotate_left
    · rw [if_neg hq]
      have hcase : fromB p = false ∨ (fromB p = true ∧ (decide (0 ≤ q) && decide (q ≤ 100)) = false) := by
        cases hf : fromB p with
        | false => exact Or.inl rfl
        | true =>
          rw [hf] at hq
          exact Or.inr ⟨rfl, by simpa using hq⟩
      rcases hcase with hfp | ⟨hfp, hqq⟩
      · rw [hfp] at HIF
        clear hfp hq
        go_enter Try.func33, Try.ntmps33
        go_wp2_with fail
        generalize ((w.alloc (.cells #[.slice a1 n1 c1, .slice a2 n2 c2] 30)).alloc (.cells #[.int .i64 0, .slice none 0 0] 45)) = W0 at *
        refine HBY.out.mono ?_
        rintro e w1 ⟨ay, ny, cy, rfl, hb1, ho1⟩
        have HB1 : Hid (Below w.heap.size w w1) := HB0.out.trans (hb1.mono HB0.out.size)
        have hrr := HRS.out.later hb1
        have t0 := hrr.cell (i := 0) (by omega)
        have t1 := hrr.cell (i := 1) (by omega)
        have s0 := hrr.frozen 0
        have s1 := hrr.frozen 1
        simp at t0 t1
        have hlw : w.heap.size + 1 < w1.heap.size := hrr.lt
        clear hb1 hrr ho1 he2
        generalize (bytR d xx).1 = r at *
        go_wp2_with fail
        refine (HIF.out _).mono ?_
        rintro e w2 ⟨rfl, rfl⟩
        go_wp2
        exact bodyPost_ret (v := .agg #[.int .i64 3, .slice none 0 0]) (by simp [results, Try.results33, go_sem, t0, t1, hlw]) rfl ((AnsYR.boxed HB1.out (by omega) (Or.inl ⟨rfl, none, 0, rfl⟩) _ _).later (later1 _ _))
      · rw [hfp] at HIF
        rw [hqq] at HIQ
        clear hfp hq hqq
        go_enter Try.func33, Try.ntmps33
        go_wp2_with fail
        generalize ((w.alloc (.cells #[.slice a1 n1 c1, .slice a2 n2 c2] 30)).alloc (.cells #[.int .i64 0, .slice none 0 0] 45)) = W0 at *
        refine HBY.out.mono ?_
        rintro e w1 ⟨ay, ny, cy, rfl, hb1, ho1⟩
        have HB1 : Hid (Below w.heap.size w w1) := HB0.out.trans (hb1.mono HB0.out.size)
        have hrr := HRS.out.later hb1
        have t0 := hrr.cell (i := 0) (by omega)
        have t1 := hrr.cell (i := 1) (by omega)
        have s0 := hrr.frozen 0
        have s1 := hrr.frozen 1
        simp at t0 t1
        have hlw : w.heap.size + 1 < w1.heap.size := hrr.lt
        clear hb1 hrr ho1 he2
        generalize (bytR d xx).1 = r at *
        go_wp2_with fail
        refine (HIF.out _).mono ?_
        rintro e w2 ⟨rfl, rfl⟩
        go_wp2_with fail
        refine (HIQ.out _).mono ?_
        rintro e w2 ⟨rfl, rfl⟩
        go_wp2
        exact bodyPost_ret (v := .agg #[.int .i64 3, .slice none 0 0]) (by simp [results, Try.results33, go_sem, t0, t1, hlw]) rfl ((AnsYR.boxed HB1.out (by omega) (Or.inl ⟨rfl, none, 0, rfl⟩) _ _).later (later1 _ _))
    · rw [if_pos hq]
      have hfp : fromB p = true := by cases hf : fromB p with
        | true => rfl
        | false => rw [hf] at hq; simp at hq
      have hqq : (decide (0 ≤ q) && decide (q ≤ 100)) = true := by rw [hfp] at hq; simpa using hq
      rw [hfp] at HIF hq
      rw [hqq] at HIQ
      clear hqq
      simp at hq
      obtain ⟨pn, rfl, hpn⟩ := fromB_nat hfp
      obtain ⟨qn, rfl⟩ : ∃ qn : Nat, q = (qn : Int) := ⟨q.toNat, by omega⟩
      rw [Int.toNat_natCast, Int.toNat_natCast, ← cutY_eq]
      have hqn : ¬ ((100 : Int) < (qn : Int)) := by omega
      have hqn2 : qn ≤ 100 := by omega
      obtain ⟨L, hL⟩ : ∃ L, zs.length = L := ⟨_, rfl⟩
      have HL : Hid (zs.length = L) := hL
      obtain ⟨lo, hlo⟩ : ∃ lo, min pn L = lo := ⟨_, rfl⟩
      obtain ⟨hi, hhi⟩ : ∃ hi, min L (lo + qn) = hi := ⟨_, rfl⟩
      have HM1 : Hid (∀ W, Calls Try.prog 64 #[.int .i64 (pn : Int), .int .i64 (L : Int)] W fun e w' => e = .returned (.int .i64 (lo : Int)) ∧ w' = W) := fun W => l1Min_nat W _ _ lo (by omega)
      have HM2 : Hid (∀ W, Calls Try.prog 64 #[.int .i64 (L : Int), .int .i64 (IntKind.i64.wrap ((lo : Int) + (qn : Int)))] W fun e w' => e = .returned (.int .i64 (hi : Int)) ∧ w' = W) := fun W => by
        rw [show IntKind.i64.wrap ((lo : Int) + (qn : Int)) = (lo : Int) + (qn : Int) by rw [IntKind.wrap_i64]; omega]
        exact l1Min_nat W _ _ hi (by omega)
      have hlo1 : lo ≤ 1000 := by omega
      rw [hL, hlo, hhi]
      have hle : lo ≤ hi := by omega
      have hhL : hi ≤ L := by omega
      have hL32 : L ≤ 32 := by omega
      clear hq hfp hlo hhi hL hbl
      go_enter Try.func33, Try.ntmps33
      go_wp2_with fail
      generalize ((w.alloc (.cells #[.slice a1 n1 c1, .slice a2 n2 c2] 30)).alloc (.cells #[.int .i64 0, .slice none 0 0] 45)) = W0 at *
      refine HBY.out.mono ?_
      rintro e w1 ⟨ay, ny, cy, rfl, hb1, ho1⟩
      rw [he2] at ho1
      have HB1 : Hid (Below w.heap.size w w1) := HB0.out.trans (hb1.mono HB0.out.size)
      have HR1 : Hid (OwnRow w1 (w.heap.size + 1) 2 (fun i => if i = 0 then .int .i64 0 else .slice none 0 0)) := HRS.out.later hb1
      obtain ⟨ay2, cy2, esh, hmc, _⟩ := ho1.reads
      simp only [Value.slice.injEq] at esh
      obtain ⟨-, eny, ecy⟩ := esh
      rw [HL.out] at eny
      have eny2 := eny.symm
      clear eny
      subst eny2
      have hcy : L ≤ cy := by have := hmc.2; have := HL.out; omega
      have HBT : Hid (Byt w1 (.slice (cutA ay cy lo) (hi - lo) (cy - lo)) ((zs.drop lo).take (hi - lo))) := cut_Y hhL hcy HL.out ho1.reads
      have hhc : hi ≤ cy := by omega
      have hlw : w.heap.size + 1 < w1.heap.size := HR1.out.lt
      have HTL : Hid (((zs.drop lo).take (hi - lo)).length ≤ 1048576) := by unfold Hid; rw [List.length_take]; omega
      clear hb1 ho1 he2 hmc ecy hcy
      generalize (bytR d xx).1 = r at *
      have x1 : (w1.alloc (.cells #[.int .i64 r, .slice ay L cy] 45)).cell? ⟨w1.heap.size, 1, none⟩ = some (.slice ay L cy) := by rw [new_cell]; rfl
      obtain ⟨v', X, hr, hwx, hbx⟩ := append_y ((w1.alloc (.cells #[.int .i64 r, .slice ay L cy] 45)).drew.alloc (.cells #[] 5)) (w1.heap.size + 1) (.slice (some ⟨w1.heap.size + 1, 0, none⟩) 0 0) [] ((zs.drop lo).take (hi - lo)) (cutA ay cy lo) (hi - lo) (cy - lo) (by
          have := WdY.lit0 (w1.alloc (.cells #[.int .i64 r, .slice ay L cy] 45)).drew (w1.heap.size + 1) (by simp)
          simpa using this) (by simp) (by simp) HTL.out (HBT.out.later ((later1 _ _).drew.trans ((later1 _ _).mono (by simp))))
      rw [List.nil_append] at hwx
      obtain ⟨av, cv, rfl⟩ := hwx.shape
      unfold cutA at hr
      have HR : Hid (_ = _) := hr
      have hbx' : Below (w1.heap.size + 1) (w1.alloc (.cells #[.int .i64 r, .slice ay L cy] 45)) X := by
        have := (later1 (w1.alloc (.cells #[.int .i64 r, .slice ay L cy] 45)).drew (.cells #[] 5))
        exact (Below.refl _ _).drew.trans ((by simpa using this : Below (w1.heap.size + 1) _ _).trans hbx)
      have hb3' : Below w1.heap.size w1 X := (later1 _ _).trans (hbx'.mono (by omega))
      have HB3 : Hid (Below w.heap.size w X) := HB1.out.trans (hb3'.mono HB1.out.size)
      have HO3 : Hid (BytO X (.slice av ((zs.drop lo).take (hi - lo)).length cv) ((zs.drop lo).take (hi - lo)) (fun b => w.heap.size ≤ b ∧ b < X.heap.size ∧ b ≠ w.heap.size + 1)) := (hwx.own (w0 := w1.alloc (.cells #[.int .i64 r, .slice ay L cy] 45)) (by simp)).mono fun b hb => ⟨by have := hb.1; simp at this; omega, hb.2, by have := hb.1; simp at this; omega⟩
      have hrr := HR1.out.later hb3'
      have t0 := hrr.cell (i := 0) (by omega)
      have t1 := hrr.cell (i := 1) (by omega)
      have s0 := hrr.frozen 0
      have s1 := hrr.frozen 1
      simp at t0 t1
      have HTT : Hid (((zs.drop lo).take (hi - lo)).length = hi - lo) := by unfold Hid; rw [List.length_take, List.length_drop, HL.out]; omega
      rw [HTT.out] at HR HO3
      clear hr hwx hbx hbx' hb3' hrr HTL HBT
      generalize ((zs.drop lo).take (hi - lo)) = ys at *
      go_wp2_with fail
      refine (HIF.out _).mono ?_
      rintro e w2 ⟨rfl, rfl⟩
      go_wp2_with fail
      refine (HIQ.out _).mono ?_
      rintro e w2 ⟨rfl, rfl⟩
      go_wp2_with fail
      refine (HM1.out _).mono ?_
      rintro e w2 ⟨rfl, rfl⟩
      go_wp2_with fail
      go_region_law (first
        | (refine step_append_run rfl _ _ 43 rfl _ _ rfl rfl _ _ HR.out ?_)
        | (try go_simp; go_at_call 64; refine (HM2.out _).mono ?_; rintro e w2 ⟨rfl, rfl⟩))
      all_goals
        go_wp2
        all_goals
          exact bodyPost_ret (v := .agg #[.int .i64 0, .slice av (hi - lo) cv]) (by simp [results, Try.results33, go_sem, t0, t1]) rfl (AnsYR.boxed HB3.out (by omega) HO3.out _ _)
end Go.Proofs.Ytjabimfinanjoaa
