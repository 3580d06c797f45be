/- The specification's LinkPath. From the reading of an argument to the lists that it holds. No program is named here. What the rows of this seat share: how a disk that came in is opened. How inodes that came in are opened. How lists of inodes that came in are opened. How file systems that came in are opened. What a row that lists errors.errorType gives a walk; a world that meets it. After the kit's worked toy of errors.As. -/
import Derived.Test.YtpfafcodihhdfaaGreatDoorM26
import Derived.Test.YtpfafcodihhdfaaGreatDoorM27
import Derived.Test.YtpfafcodihhdfaaGreatDoorM00
import Derived.ProofKit
import Derived.Deep.Slices
import Derived.Deep.SlicePairs
import Derived.Lib.SmallJoins
import Derived.Test.YtpfafcodihhdfaaGreatDoorRows
import Derived.Test.YtpfafcodihhdfaaGreatDoorM03
import Derived.Test.YtpfafcodihhdfaaGreatDoorM04
import Derived.Test.YtpfafcodihhdfaaGreatDoorM05
import Derived.Test.YtpfafcodihhdfaaGreatDoorM20
import Derived.ChangeSame
import Derived.ChangeVars
import Derived.JoinedOf
import Derived.LaidLaws
import Derived.LaidHandle
import Derived.Stop.Joined
namespace Go.Proofs.YtpfafcodihhdfaaGreatDoor
open Go.RowKit
set_option maxRecDepth 100000

theorem addQ_bad {d : FD} {j : Nat} {s : ByteArray} {y : Int} (hh : ¬ (addQ d j s y).1 = 0) : addQ d j s y = noFs (addQ d j s y).1 := by
  unfold addQ at hh ⊢
  split
  · rfl
  · split
    · split
      · rfl
      · rename_i h1 h2 h3
        rw [if_neg h1, if_pos h2, if_neg h3] at hh
        exact absurd rfl hh
    · rfl
theorem addQ_ok {d : FD} {j : Nat} {s : ByteArray} {y : Int} (hh : (addQ d j s y).1 = 0) : addQ d j s y = (0, addZ d j s y) := by
  unfold addZ
  rw [if_pos hh]
  exact Prod.ext hh rfl

set_option maxHeartbeats 12800000 in
theorem l10Link_any (w : World) (a1 : Option Addr) (n1 c1 : Nat) (a2 : Option Addr) (n2 c2 : Nat) (d : FD) (s t : ByteArray) (h : FsR w (.slice a1 n1 c1) (.slice a2 n2 c2) d) (hs : sizeFs d ≤ 1048576) (hl : s.size ≤ 1048576) (ht : t.size ≤ 1048576) (hf : fsF d = 0) :
    Calls Tryz.prog 63 #[.agg #[.slice a1 n1 c1, .slice a2 n2 c2], .string s, .string t] w (AnsCR w (linkQ d s t)) := by
  have hok := fsE_ok (fsF_E hf)
  have hsl : s.data.toList.length = s.size := Array.length_toList
  have htl : t.data.toList.length = t.size := Array.length_toList
  obtain ⟨hx0, rfl, rfl⟩ := FsX.box h 32
  have hat := h.1
  obtain ⟨_, _, e1, -, hAt⟩ := hat.open'
  simp only [Value.slice.injEq] at e1
  obtain ⟨rfl, -, rfl⟩ := e1
  have HAT : Hid (AtI w a1 d.1.length d.1) := hAt
  have HPT : Hid (∀ W, FsX W w.heap.size 0 d a1 c1 a2 c2 → Calls Tryz.prog 33 #[.pointer (some ⟨w.heap.size, 0, none⟩), .string s] W fun e w' => e = .returned (.tuple #[.int .i64 (walkR d s).2, .int .i64 (walkR d s).1]) ∧ Below W.heap.size W w') := fun W hW => by
    have := l9Path_any W _ d _ _ _ _ hW hok s.data.toList (by omega)
    rw [mkB_data] at this
    rw [walk_pth, if_pos hf]
    exact this
  have HPR : Hid (∀ W, FsX W w.heap.size 0 d a1 c1 a2 c2 → Calls Tryz.prog 94 #[.pointer (some ⟨w.heap.size, 0, none⟩), .string t] W fun e w' => e = .returned (.tuple #[.int .i64 (wparR d t).2, .string (lnmP d t.data.toList), .int .i64 (wparR d t).1]) ∧ Below W.heap.size W w') := fun W hW => by
    have := l9Parent_any W _ d _ _ _ _ hW hok t.data.toList (by omega)
    rw [mkB_data] at this
    rw [wpar_par, if_pos hf]
    exact this
  have HK : Hid ((walkR d s).1 = 0 → ∃ y : Nat, (walkR d s).2 = (y : Int) ∧ y < d.1.length ∧ d.1.length ≤ 10) := fun h0 => by
    obtain ⟨hok, y, h1, h2⟩ := walk_place h0
    exact ⟨y, h1, h2, hok.ten⟩
  have HPI : Hid ((wparR d t).1 = 0 → ∃ j : Nat, (wparR d t).2 = (j : Int) ∧ DirS d j ∧ (∀ y, addR d (j : Int) (mkB (lastT t.data.toList)) y = addQ d j (mkB (lastT t.data.toList)) y) ∧ (mkB (lastT t.data.toList)).size ≤ maxLen ∧ lnmP d t.data.toList = mkB (lastT t.data.toList)) := fun h0 => by
    rw [wpar_par, if_pos hf] at h0 ⊢
    obtain ⟨j, h1, h2, h3, h4⟩ := par_in hf h0
    have h5 := dirS h2
    rw [Int.toNat_natCast] at h5
    rw [h4] at h3
    refine ⟨j, h1, h5, fun y => ?_, ?_, h4⟩
    · unfold addR dirN
      rw [if_pos h2, if_pos h3, Int.toNat_natCast]
    · have := nameF_size h3; unfold maxLen; omega
  have HCF : Hid (∀ W, Below w.heap.size w W → Calls Tryz.prog 98 #[.agg #[.slice a1 d.1.length c1, .slice a2 d.2.length c2]] W (AnsFs W d)) := fun W hW => l6Copy_any W _ _ _ _ _ _ d (h.later hW) hs
  have HST : Hid (∀ W c, Below w.heap.size w W → Calls Tryz.prog 95 #[.agg #[.slice a1 d.1.length c1, .slice a2 d.2.length c2], .int .i64 c] W (AnsCR W (stayR d c))) := fun W c hW => l10Reply_any W _ _ _ _ _ _ d c (h.later hW) hs
  have HRQ : Hid (linkQ d s t = if (fileR d s).1 = 0 then (if (wparR d t).1 = 0 then (if (addR d (wparR d t).2 (mkB (lastT t.data.toList)) (fileR d s).2).1 = 0 then (0, 0, 0, [], [], (addR d (wparR d t).2 (mkB (lastT t.data.toList)) (fileR d s).2).2) else stayR d (addR d (wparR d t).2 (mkB (lastT t.data.toList)) (fileR d s).2).1) else stayR d (wparR d t).1) else stayR d (fileR d s).1) := rfl
  have HFR : Hid (fileR d s = if (walkR d s).1 = 0 ∧ kindAt d.1 (walkR d s).2.toNat = 2 then (9, 0) else walkR d s) := rfl
  obtain ⟨RES, hRES⟩ : ∃ r, linkQ d s t = r := ⟨_, rfl⟩
  rw [hRES] at HRQ ⊢
  obtain ⟨nn, hnn⟩ : ∃ nn, d.1.length = nn := ⟨_, rfl⟩
  obtain ⟨mm, hmm⟩ : ∃ mm, d.2.length = mm := ⟨_, rfl⟩
  rw [hnn, hmm] at HCF HST hx0 ⊢
  rw [hnn] at HAT HK
  have HB0 : Hid (Below w.heap.size w ((w.alloc (.cells #[.slice a1 nn c1, .slice a2 mm c2] 32)).alloc (.cells #[.int .i64 0, .int .i64 0, .int .i64 0, .slice none 0 0, .slice none 0 0, .slice none 0 0, .slice none 0 0] 44))) := later2 _ _ _
  have HX0 : Hid (Bx ((w.alloc (.cells #[.slice a1 nn c1, .slice a2 mm c2] 32)).alloc (.cells #[.int .i64 0, .int .i64 0, .int .i64 0, .slice none 0 0, .slice none 0 0, .slice none 0 0, .slice none 0 0] 44)) w.heap.size [.slice a1 nn c1, .slice a2 mm c2]) := (Bx.new w [.slice a1 nn c1, .slice a2 mm c2] _).later (later1 _ _)
  have HR0 : Hid (OwnRow ((w.alloc (.cells #[.slice a1 nn c1, .slice a2 mm c2] 32)).alloc (.cells #[.int .i64 0, .int .i64 0, .int .i64 0, .slice none 0 0, .slice none 0 0, .slice none 0 0, .slice none 0 0] 44)) (w.heap.size + 1) 7 (cel zero7)) := by
      have p2 := row7 (w.alloc (.cells #[.slice a1 nn c1, .slice a2 mm c2] 32)) 44
      rw [World.size_alloc] at p2
      exact p2
  have HFX0 : Hid (FsX ((w.alloc (.cells #[.slice a1 nn c1, .slice a2 mm c2] 32)).alloc (.cells #[.int .i64 0, .int .i64 0, .int .i64 0, .slice none 0 0, .slice none 0 0, .slice none 0 0, .slice none 0 0] 44)) w.heap.size 0 d a1 c1 a2 c2) := hx0.later (later1 _ _)
  have HNN : Hid (d.1.length = nn) := hnn
  clear hnn hmm hRES h hs hl ht hf hok hsl htl hx0 hAt hat
  generalize walkR d s = wr at *
  generalize wparR d t = pr at *
  generalize mkB (lastT t.data.toList) = nm at *
  generalize lnmP d t.data.toList = lnm at *
  obtain ⟨fc, fv⟩ := wr
  obtain ⟨pc, pv⟩ := pr
  dsimp only at HPT HPR HK HPI HRQ HFR
  go_enter Tryz.func63, Tryz.ntmps63
  go_wp2_with fail
  generalize ((w.alloc (.cells #[.slice a1 nn c1, .slice a2 mm c2] 32)).alloc (.cells #[.int .i64 0, .int .i64 0, .int .i64 0, .slice none 0 0, .slice none 0 0, .slice none 0 0, .slice none 0 0] 44)) = W0 at *
  refine (HPT.out _ HFX0.out).mono ?_
  rintro e w1 ⟨rfl, hb⟩
  have HB1 : Hid (Below w.heap.size w w1) := HB0.out.trans (hb.mono HB0.out.size)
  have HX1 : Hid (Bx w1 w.heap.size [.slice a1 nn c1, .slice a2 mm c2]) := HX0.out.later hb
  have HR1 : Hid (OwnRow w1 (w.heap.size + 1) 7 (cel zero7)) := HR0.out.later hb
  have HFX1 : Hid (FsX w1 w.heap.size 0 d a1 c1 a2 c2) := HFX0.out.later hb
  clear hb
  by_cases hfc : fc = 0
  rotate_left
  · have hfb : (fc != 0) = true := by simpa using hfc
    have HE : Hid (RES = stayR d fc) := by
      have he : fileR d s = (fc, fv) := by rw [HFR.out, if_neg (fun hh => hfc hh.1)]
      unfold Hid; rw [HRQ.out, he, if_neg hfc]
    clear hfc
    have xHX0 := HX1.out 0 _ rfl
    have xHX1 := HX1.out 1 _ rfl
    go_wp2_with fail
    clear xHX0 xHX1
    refine (HST.out _ fc HB1.out).mono ?_
    rintro e u ⟨y1, y2, b3, m3, k3, b4, m4, k4, b5, m5, k5, b6, m6, k6, rfl, hb, hu⟩
    have hrr := HR1.out.later hb
    have hlr : w.heap.size + 1 < w1.heap.size := HR1.out.lt
    have HBU : Hid (Below w1.heap.size w1 u) := hb
    have HCU : Hid (CResU u (.int .i64 y1) (.int .i64 y2) (.slice b3 m3 k3) (.slice b4 m4 k4) (.slice b5 m5 k5) (.slice b6 m6 k6) (stayR d fc).2 (fresh w1 u)) := hu
    have t0 : u.cell? ⟨w.heap.size + 1, 0, none⟩ = some (.int .i64 0) := hrr.cell (i := 0) (by omega)
    have t1 : u.cell? ⟨w.heap.size + 1, 1, none⟩ = some (.int .i64 0) := hrr.cell (i := 1) (by omega)
    have t2 : u.cell? ⟨w.heap.size + 1, 2, none⟩ = some (.int .i64 0) := hrr.cell (i := 2) (by omega)
    have t3 : u.cell? ⟨w.heap.size + 1, 3, none⟩ = some (.slice none 0 0) := hrr.cell (i := 3) (by omega)
    have t4 : u.cell? ⟨w.heap.size + 1, 4, none⟩ = some (.slice none 0 0) := hrr.cell (i := 4) (by omega)
    have t5 : u.cell? ⟨w.heap.size + 1, 5, none⟩ = some (.slice none 0 0) := hrr.cell (i := 5) (by omega)
    have t6 : u.cell? ⟨w.heap.size + 1, 6, none⟩ = some (.slice none 0 0) := hrr.cell (i := 6) (by omega)
    have s0 := hrr.frozen 0
    have s1 := hrr.frozen 1
    have s2 := hrr.frozen 2
    have s3 := hrr.frozen 3
    have s4 := hrr.frozen 4
    have s5 := hrr.frozen 5
    have s6 := hrr.frozen 6
    clear hb hu hrr
    go_wp2
    exact bodyPost_ret (v := .agg #[.int .i64 (stayR d fc).1, .int .i64 y1, .int .i64 y2, .slice b3 m3 k3, .slice b4 m4 k4, .slice b5 m5 k5, .slice b6 m6 k6]) (by simp [results, Tryz.results63, go_sem, t0, t1, t2, t3, t4, t5, t6]) rfl (by rw [HE.out]; exact AnsCR.pass HB1.out (by omega) hlr HBU.out HCU.out _ _ _ _ _ _ _)
  · subst hfc
    obtain ⟨y, rfl, hyl, h10⟩ := HK.out rfl
    obtain ⟨b0, o0, rfl, hI⟩ := HAT.out y hyl
    obtain ⟨aB, cB, aE, cE, k0, -, -, -, -, -⟩ := hI
    have g0 := cell_later HB1.out k0
    have hyI : (y : Int) < ((nn : Nat) : Int) := by omega
    by_cases h2 : (d.1[y]?.getD id0).1 = 2
    · have h2b : ((d.1[y]?.getD id0).1 == 2) = true := by simpa using h2
      have HE : Hid (RES = stayR d 9) := by
        have he : fileR d s = (9, 0) := by rw [HFR.out, if_pos ⟨rfl, by rw [Int.toNat_natCast]; exact h2⟩]
        unfold Hid; rw [HRQ.out, he, if_neg (by decide)]
      clear h2 k0
      generalize (d.1[y]?.getD id0).1 = kd at *
      have xHX0 := HX1.out 0 _ rfl
      have xHX1 := HX1.out 1 _ rfl
      go_wp2_with fail
      clear xHX0 xHX1
      refine (HST.out _ 9 HB1.out).mono ?_
      rintro e u ⟨y1, y2, b3, m3, k3, b4, m4, k4, b5, m5, k5, b6, m6, k6, rfl, hb, hu⟩
      have hrr := HR1.out.later hb
      have hlr : w.heap.size + 1 < w1.heap.size := HR1.out.lt
      have HBU : Hid (Below w1.heap.size w1 u) := hb
      have HCU : Hid (CResU u (.int .i64 y1) (.int .i64 y2) (.slice b3 m3 k3) (.slice b4 m4 k4) (.slice b5 m5 k5) (.slice b6 m6 k6) (stayR d 9).2 (fresh w1 u)) := hu
      have t0 : u.cell? ⟨w.heap.size + 1, 0, none⟩ = some (.int .i64 0) := hrr.cell (i := 0) (by omega)
      have t1 : u.cell? ⟨w.heap.size + 1, 1, none⟩ = some (.int .i64 0) := hrr.cell (i := 1) (by omega)
      have t2 : u.cell? ⟨w.heap.size + 1, 2, none⟩ = some (.int .i64 0) := hrr.cell (i := 2) (by omega)
      have t3 : u.cell? ⟨w.heap.size + 1, 3, none⟩ = some (.slice none 0 0) := hrr.cell (i := 3) (by omega)
      have t4 : u.cell? ⟨w.heap.size + 1, 4, none⟩ = some (.slice none 0 0) := hrr.cell (i := 4) (by omega)
      have t5 : u.cell? ⟨w.heap.size + 1, 5, none⟩ = some (.slice none 0 0) := hrr.cell (i := 5) (by omega)
      have t6 : u.cell? ⟨w.heap.size + 1, 6, none⟩ = some (.slice none 0 0) := hrr.cell (i := 6) (by omega)
      have s0 := hrr.frozen 0
      have s1 := hrr.frozen 1
      have s2 := hrr.frozen 2
      have s3 := hrr.frozen 3
      have s4 := hrr.frozen 4
      have s5 := hrr.frozen 5
      have s6 := hrr.frozen 6
      clear hb hu hrr
      go_wp2
      exact bodyPost_ret (v := .agg #[.int .i64 (stayR d 9).1, .int .i64 y1, .int .i64 y2, .slice b3 m3 k3, .slice b4 m4 k4, .slice b5 m5 k5, .slice b6 m6 k6]) (by simp [results, Tryz.results63, go_sem, t0, t1, t2, t3, t4, t5, t6]) rfl (by rw [HE.out]; exact AnsCR.pass HB1.out (by omega) hlr HBU.out HCU.out _ _ _ _ _ _ _)
    · have h2b : ((d.1[y]?.getD id0).1 == 2) = false := by simpa using h2
      have HEQ : Hid (RES = if pc = 0 then (if (addR d pv nm (y : Int)).1 = 0 then (0, 0, 0, [], [], (addR d pv nm (y : Int)).2) else stayR d (addR d pv nm (y : Int)).1) else stayR d pc) := by
        have he : fileR d s = (0, (y : Int)) := by rw [HFR.out, if_neg (fun hh => h2 (by have := hh.2; rw [Int.toNat_natCast] at this; exact this))]
        unfold Hid; rw [HRQ.out, he, if_pos rfl]
      clear h2 k0
      generalize (d.1[y]?.getD id0).1 = kd at *
      have xHX0 := HX1.out 0 _ rfl
      have xHX1 := HX1.out 1 _ rfl
      go_wp2_with fail
      clear xHX0 xHX1 g0 h2b
      refine (HPR.out _ HFX1.out).mono ?_
      rintro e w2 ⟨rfl, hb⟩
      have HB2 : Hid (Below w.heap.size w w2) := HB1.out.trans (hb.mono HB1.out.size)
      have HX2 : Hid (Bx w2 w.heap.size [.slice (some ⟨b0, o0, none⟩) nn c1, .slice a2 mm c2]) := HX1.out.later hb
      have HR2 : Hid (OwnRow w2 (w.heap.size + 1) 7 (cel zero7)) := HR1.out.later hb
      have HFX2 : Hid (FsX w2 w.heap.size 0 d (some ⟨b0, o0, none⟩) c1 a2 c2) := HFX1.out.later hb
      clear hb
      by_cases hpc : pc = 0
      rotate_left
      · have hpb : (pc != 0) = true := by simpa using hpc
        have HE : Hid (RES = stayR d pc) := by unfold Hid; rw [HEQ.out, if_neg hpc]
        clear hpc
        have xHX0 := HX2.out 0 _ rfl
        have xHX1 := HX2.out 1 _ rfl
        go_wp2_with fail
        clear xHX0 xHX1
        refine (HST.out _ pc HB2.out).mono ?_
        rintro e u ⟨y1, y2, b3, m3, k3, b4, m4, k4, b5, m5, k5, b6, m6, k6, rfl, hb, hu⟩
        have hrr := HR2.out.later hb
        have hlr : w.heap.size + 1 < w2.heap.size := HR2.out.lt
        have HBU : Hid (Below w2.heap.size w2 u) := hb
        have HCU : Hid (CResU u (.int .i64 y1) (.int .i64 y2) (.slice b3 m3 k3) (.slice b4 m4 k4) (.slice b5 m5 k5) (.slice b6 m6 k6) (stayR d pc).2 (fresh w2 u)) := hu
        have t0 : u.cell? ⟨w.heap.size + 1, 0, none⟩ = some (.int .i64 0) := hrr.cell (i := 0) (by omega)
        have t1 : u.cell? ⟨w.heap.size + 1, 1, none⟩ = some (.int .i64 0) := hrr.cell (i := 1) (by omega)
        have t2 : u.cell? ⟨w.heap.size + 1, 2, none⟩ = some (.int .i64 0) := hrr.cell (i := 2) (by omega)
        have t3 : u.cell? ⟨w.heap.size + 1, 3, none⟩ = some (.slice none 0 0) := hrr.cell (i := 3) (by omega)
        have t4 : u.cell? ⟨w.heap.size + 1, 4, none⟩ = some (.slice none 0 0) := hrr.cell (i := 4) (by omega)
        have t5 : u.cell? ⟨w.heap.size + 1, 5, none⟩ = some (.slice none 0 0) := hrr.cell (i := 5) (by omega)
        have t6 : u.cell? ⟨w.heap.size + 1, 6, none⟩ = some (.slice none 0 0) := hrr.cell (i := 6) (by omega)
        have s0 := hrr.frozen 0
        have s1 := hrr.frozen 1
        have s2 := hrr.frozen 2
        have s3 := hrr.frozen 3
        have s4 := hrr.frozen 4
        have s5 := hrr.frozen 5
        have s6 := hrr.frozen 6
        clear hb hu hrr
        go_wp2
        exact bodyPost_ret (v := .agg #[.int .i64 (stayR d pc).1, .int .i64 y1, .int .i64 y2, .slice b3 m3 k3, .slice b4 m4 k4, .slice b5 m5 k5, .slice b6 m6 k6]) (by simp [results, Tryz.results63, go_sem, t0, t1, t2, t3, t4, t5, t6]) rfl (by rw [HE.out]; exact AnsCR.pass HB2.out (by omega) hlr HBU.out HCU.out _ _ _ _ _ _ _)
      · subst hpc
        obtain ⟨j, rfl, hds, had, hsz, rfl⟩ := HPI.out rfl
        rw [if_pos rfl, had] at HEQ
        have HDS : Hid (DirS d j) := hds
        have HSZ : Hid (lnm.size ≤ maxLen) := hsz
        clear hds had hsz
        have xHX0 := HX2.out 0 _ rfl
        have xHX1 := HX2.out 1 _ rfl
        go_wp2_with fail
        clear xHX0 xHX1
        refine (HCF.out _ HB2.out).mono ?_
        rintro e w5 ⟨q1, m1, cI, q2, m2, cD, rfl, hb5, hf5⟩
        obtain ⟨bI, e1, bD, e2, eI, eD, hfs⟩ := FsS.of hf5 (by have := HDS.out.lt; omega) (by have := HDS.out.dat; omega)
        simp only [Value.slice.injEq] at eI eD
        obtain ⟨rfl, rfl, rfl⟩ := eI
        obtain ⟨rfl, rfl, rfl⟩ := eD
        rw [HDS.out.dat, HNN.out] at hfs
        rw [HDS.out.dat, HNN.out]
        have hb : Below w2.heap.size w2 (w5.alloc (.cells #[.slice (some ⟨bI, 0, none⟩) nn cI, .slice (some ⟨bD, 0, none⟩) 20 cD] 32)) := hb5.trans ((later1 _ _).mono hb5.size)
        have HB3 : Hid (Below w.heap.size w (w5.alloc (.cells #[.slice (some ⟨bI, 0, none⟩) nn cI, .slice (some ⟨bD, 0, none⟩) 20 cD] 32))) := HB2.out.trans (hb.mono HB2.out.size)
        have HX3 : Hid (Bx (w5.alloc (.cells #[.slice (some ⟨bI, 0, none⟩) nn cI, .slice (some ⟨bD, 0, none⟩) 20 cD] 32)) w.heap.size [.slice (some ⟨b0, o0, none⟩) nn c1, .slice a2 mm c2]) := HX2.out.later hb
        have HR3 : Hid (OwnRow (w5.alloc (.cells #[.slice (some ⟨bI, 0, none⟩) nn cI, .slice (some ⟨bD, 0, none⟩) 20 cD] 32)) (w.heap.size + 1) 7 (cel zero7)) := HR2.out.later hb
        have HFX3 : Hid (FsX (w5.alloc (.cells #[.slice (some ⟨bI, 0, none⟩) nn cI, .slice (some ⟨bD, 0, none⟩) 20 cD] 32)) w.heap.size 0 d (some ⟨b0, o0, none⟩) c1 a2 c2) := HFX2.out.later hb
        clear hb
        have HF3 : Hid (FsS (w5.alloc (.cells #[.slice (some ⟨bI, 0, none⟩) nn cI, .slice (some ⟨bD, 0, none⟩) 20 cD] 32)) bI nn cI bD 20 cD d (fun c => w2.heap.size ≤ c ∧ c < w5.heap.size)) := hfs.later (later1 _ _)
        have HO3 : Hid (Bx (w5.alloc (.cells #[.slice (some ⟨bI, 0, none⟩) nn cI, .slice (some ⟨bD, 0, none⟩) 20 cD] 32)) w5.heap.size [.slice (some ⟨bI, 0, none⟩) nn cI, .slice (some ⟨bD, 0, none⟩) 20 cD]) := Bx.new w5 [.slice (some ⟨bI, 0, none⟩) nn cI, .slice (some ⟨bD, 0, none⟩) 20 cD] _
        have HL3 : Hid (Below w2.heap.size w2 (w5.alloc (.cells #[.slice (some ⟨bI, 0, none⟩) nn cI, .slice (some ⟨bD, 0, none⟩) 20 cD] 32))) := hb5.trans ((later1 _ _).mono hb5.size)
        have HS3 : Hid (w2.heap.size ≤ w5.heap.size ∧ (w5.alloc (.cells #[.slice (some ⟨bI, 0, none⟩) nn cI, .slice (some ⟨bD, 0, none⟩) 20 cD] 32)).heap.size = w5.heap.size + 1) := ⟨hb5.size, by simp⟩
        have hlw : w.heap.size + 1 < w2.heap.size := HR2.out.lt
        clear hb5 hf5 hfs
        go_wp2_with fail
        generalize (w5.alloc (.cells #[.slice (some ⟨bI, 0, none⟩) nn cI, .slice (some ⟨bD, 0, none⟩) 20 cD] 32)) = W3 at *
        have hne := HF3.out.ne
        have hoI : w5.heap.size ≠ bI := fun e => by have := hne.2.1.1.2; omega
        refine (l8Add_any W3 w5.heap.size bI nn cI bD cD d _ j lnm (y : Int) (HO3.out 0 _ rfl) (HO3.out 1 _ rfl) HF3.out (fun hh => by have := hh.2; omega) HNN.out HDS.out HSZ.out).mono ?_
        rintro e w7 ⟨rfl, hc7, hf7⟩
        have HF7 : Hid (FsS w7 bI nn cI bD 20 cD (addZ d j lnm (y : Int)) (fun c => w2.heap.size ≤ c)) := hf7.mono fun c hh => by
          have := HS3.out
          rcases hh with hh | hh
          · exact hh.1
          · omega
        have hb : Below w2.heap.size w2 w7 := HL3.out.trans (hc7.below HL3.out.size fun b hb => by have := hne.2.1.1.1; omega)
        have p0 := hc7.cellOf (HO3.out 0 _ rfl) hoI
        have p1 := hc7.cellOf (HO3.out 1 _ rfl) hoI
        clear HB3 HX3 HR3 HFX3
        have HB3 : Hid (Below w.heap.size w w7) := HB2.out.trans (hb.mono HB2.out.size)
        have HX3 : Hid (Bx w7 w.heap.size [.slice (some ⟨b0, o0, none⟩) nn c1, .slice a2 mm c2]) := HX2.out.later hb
        have HR3 : Hid (OwnRow w7 (w.heap.size + 1) 7 (cel zero7)) := HR2.out.later hb
        have HFX3 : Hid (FsX w7 w.heap.size 0 d (some ⟨b0, o0, none⟩) c1 a2 c2) := HFX2.out.later hb
        clear hb
        clear hc7 hf7 HF3 HO3 HL3 HS3
        have HBAD : Hid (¬ (addQ d j lnm (y : Int)).1 = 0 → addQ d j lnm (y : Int) = noFs (addQ d j lnm (y : Int)).1) := addQ_bad
        have HAZ : Hid ((addQ d j lnm (y : Int)).1 = 0 → addQ d j lnm (y : Int) = (0, addZ d j lnm (y : Int))) := addQ_ok
        generalize addQ d j lnm (y : Int) = aq at *
        obtain ⟨qc, qd⟩ := aq
        dsimp only at HBAD HAZ HEQ ⊢
        by_cases hz : qc = 0
        rotate_left
        · have hzb : (qc != 0) = true := by simpa using hz
          have HE : Hid (RES = stayR d qc) := by unfold Hid; rw [HEQ.out, if_neg hz]
          clear hz p0 p1
          have xHX0 := HX3.out 0 _ rfl
          have xHX1 := HX3.out 1 _ rfl
          go_wp2_with fail
          clear xHX0 xHX1
          refine (HST.out _ qc HB3.out).mono ?_
          rintro e u ⟨y1, y2, b3, m3, k3, b4, m4, k4, b5, m5, k5, b6, m6, k6, rfl, hb, hu⟩
          have hrr := HR3.out.later hb
          have hlr : w.heap.size + 1 < w7.heap.size := HR3.out.lt
          have HBU : Hid (Below w7.heap.size w7 u) := hb
          have HCU : Hid (CResU u (.int .i64 y1) (.int .i64 y2) (.slice b3 m3 k3) (.slice b4 m4 k4) (.slice b5 m5 k5) (.slice b6 m6 k6) (stayR d qc).2 (fresh w7 u)) := hu
          have t0 : u.cell? ⟨w.heap.size + 1, 0, none⟩ = some (.int .i64 0) := hrr.cell (i := 0) (by omega)
          have t1 : u.cell? ⟨w.heap.size + 1, 1, none⟩ = some (.int .i64 0) := hrr.cell (i := 1) (by omega)
          have t2 : u.cell? ⟨w.heap.size + 1, 2, none⟩ = some (.int .i64 0) := hrr.cell (i := 2) (by omega)
          have t3 : u.cell? ⟨w.heap.size + 1, 3, none⟩ = some (.slice none 0 0) := hrr.cell (i := 3) (by omega)
          have t4 : u.cell? ⟨w.heap.size + 1, 4, none⟩ = some (.slice none 0 0) := hrr.cell (i := 4) (by omega)
          have t5 : u.cell? ⟨w.heap.size + 1, 5, none⟩ = some (.slice none 0 0) := hrr.cell (i := 5) (by omega)
          have t6 : u.cell? ⟨w.heap.size + 1, 6, none⟩ = some (.slice none 0 0) := hrr.cell (i := 6) (by omega)
          have s0 := hrr.frozen 0
          have s1 := hrr.frozen 1
          have s2 := hrr.frozen 2
          have s3 := hrr.frozen 3
          have s4 := hrr.frozen 4
          have s5 := hrr.frozen 5
          have s6 := hrr.frozen 6
          clear hb hu hrr
          go_wp2
          exact bodyPost_ret (v := .agg #[.int .i64 (stayR d qc).1, .int .i64 y1, .int .i64 y2, .slice b3 m3 k3, .slice b4 m4 k4, .slice b5 m5 k5, .slice b6 m6 k6]) (by simp [results, Tryz.results63, go_sem, t0, t1, t2, t3, t4, t5, t6]) rfl (by rw [HE.out]; exact AnsCR.pass HB3.out (by omega) hlr HBU.out HCU.out _ _ _ _ _ _ _)
        · have hzb : (qc != 0) = false := by simpa using hz
          have HE : Hid (RES = (0, 0, 0, [], [], addZ d j lnm (y : Int))) := by
            have he := HAZ.out hz
            unfold Hid; rw [HEQ.out, if_pos hz]; rw [(Prod.mk.inj he).2]
          clear hz
          have hrr := HR3.out
          have t0 : w7.cell? ⟨w.heap.size + 1, 0, none⟩ = some (.int .i64 0) := hrr.cell (i := 0) (by omega)
          have t1 : w7.cell? ⟨w.heap.size + 1, 1, none⟩ = some (.int .i64 0) := hrr.cell (i := 1) (by omega)
          have t2 : w7.cell? ⟨w.heap.size + 1, 2, none⟩ = some (.int .i64 0) := hrr.cell (i := 2) (by omega)
          have t3 : w7.cell? ⟨w.heap.size + 1, 3, none⟩ = some (.slice none 0 0) := hrr.cell (i := 3) (by omega)
          have t4 : w7.cell? ⟨w.heap.size + 1, 4, none⟩ = some (.slice none 0 0) := hrr.cell (i := 4) (by omega)
          have t5 : w7.cell? ⟨w.heap.size + 1, 5, none⟩ = some (.slice none 0 0) := hrr.cell (i := 5) (by omega)
          have t6 : w7.cell? ⟨w.heap.size + 1, 6, none⟩ = some (.slice none 0 0) := hrr.cell (i := 6) (by omega)
          have s0 := hrr.frozen 0
          have s1 := hrr.frozen 1
          have s2 := hrr.frozen 2
          have s3 := hrr.frozen 3
          have s4 := hrr.frozen 4
          have s5 := hrr.frozen 5
          have s6 := hrr.frozen 6
          clear hrr
          go_wp2
          exact bodyPost_ret (v := .agg #[.int .i64 0, .int .i64 0, .int .i64 0, .slice none 0 0, .slice none 0 0, .slice (some ⟨bI, 0, none⟩) nn cI, .slice (some ⟨bD, 0, none⟩) 20 cD]) (by simp [results, Tryz.results63, go_sem, t0, t1, t2, t3, t4, t5, t6]) rfl (by rw [HE.out]; exact AnsCR.put HB3.out (by omega) (CResU.fs 0 0 (HF7.out.fsB.mono fun b hh => ⟨by omega, hh.2, by omega⟩)) _ _ _ _ _ _ _)

set_option maxHeartbeats 3200000 in
theorem specLinkU (w : World) (a1 : Option Addr) (n1 c1 : Nat) (a2 : Option Addr) (n2 c2 : Nat) (d : FD) (s t : ByteArray) (h : FsR w (.slice a1 n1 c1) (.slice a2 n2 c2) d) (hs : sizeFs d ≤ 1048576) (hl : s.size ≤ 1048576) (ht : t.size ≤ 1048576) :
    Calls Tryz.prog 28 #[.agg #[.slice a1 n1 c1, .slice a2 n2 c2], .string s, .string t] w (AnsCR w (linkR d s t)) := by
  have hrn : linkR d s t = if fsF d = 0 then linkQ d s t else noCR (fsF d) := rfl
  obtain ⟨hx0, -, -⟩ := FsX.box h 32
  have HF : Hid (∀ W, FsX W w.heap.size 0 d a1 c1 a2 c2 → Calls Tryz.prog 32 #[.pointer (some ⟨w.heap.size, 0, none⟩)] W fun e w' => e = .returned (.int .i64 (fsF d)) ∧ Below W.heap.size W w') := fun W hW => (l6Fault_any W _ _ d _ _ _ _ hW (by unfold sizeFs at hs; omega)).mono fun _ _ hh => hh
  have HIN : Hid (fsF d = 0 → ∀ W, Below w.heap.size w W → Calls Tryz.prog 63 #[.agg #[.slice a1 n1 c1, .slice a2 n2 c2], .string s, .string t] W (AnsCR W (linkQ d s t))) := fun hf W hW => l10Link_any W _ _ _ _ _ _ d s t (h.later hW) hs hl ht hf
  obtain ⟨RES, hRES⟩ : ∃ r, linkR d s t = r := ⟨_, rfl⟩
  rw [hRES] at hrn ⊢
  have HRN : Hid (RES = if fsF d = 0 then linkQ d s t else noCR (fsF d)) := hrn
  have HB0 : Hid (Below w.heap.size w ((w.alloc (.cells #[.slice a1 n1 c1, .slice a2 n2 c2] 32)).alloc (.cells #[.int .i64 0, .int .i64 0, .int .i64 0, .slice none 0 0, .slice none 0 0, .slice none 0 0, .slice none 0 0] 44))) := later2 _ _ _
  have HX0 : Hid (Bx ((w.alloc (.cells #[.slice a1 n1 c1, .slice a2 n2 c2] 32)).alloc (.cells #[.int .i64 0, .int .i64 0, .int .i64 0, .slice none 0 0, .slice none 0 0, .slice none 0 0, .slice none 0 0] 44)) w.heap.size [.slice a1 n1 c1, .slice a2 n2 c2]) := (Bx.new w [.slice a1 n1 c1, .slice a2 n2 c2] _).later (later1 _ _)
  have HR0 : Hid (OwnRow ((w.alloc (.cells #[.slice a1 n1 c1, .slice a2 n2 c2] 32)).alloc (.cells #[.int .i64 0, .int .i64 0, .int .i64 0, .slice none 0 0, .slice none 0 0, .slice none 0 0, .slice none 0 0] 44)) (w.heap.size + 1) 7 (cel zero7)) := by
      have p2 := row7 (w.alloc (.cells #[.slice a1 n1 c1, .slice a2 n2 c2] 32)) 44
      rw [World.size_alloc] at p2
      exact p2
  have HFX0 : Hid (FsX ((w.alloc (.cells #[.slice a1 n1 c1, .slice a2 n2 c2] 32)).alloc (.cells #[.int .i64 0, .int .i64 0, .int .i64 0, .slice none 0 0, .slice none 0 0, .slice none 0 0, .slice none 0 0] 44)) w.heap.size 0 d a1 c1 a2 c2) := hx0.later (later1 _ _)
  clear hRES hrn h hs hl ht hx0
  generalize fsF d = fc at *
  go_enter Tryz.func28, Tryz.ntmps28
  go_wp2_with fail
  generalize ((w.alloc (.cells #[.slice a1 n1 c1, .slice a2 n2 c2] 32)).alloc (.cells #[.int .i64 0, .int .i64 0, .int .i64 0, .slice none 0 0, .slice none 0 0, .slice none 0 0, .slice none 0 0] 44)) = W0 at *
  refine (HF.out _ HFX0.out).mono ?_
  rintro e w1 ⟨rfl, hb⟩
  have HB1 : Hid (Below w.heap.size w w1) := HB0.out.trans (hb.mono HB0.out.size)
  have HX1 : Hid (Bx w1 w.heap.size [.slice a1 n1 c1, .slice a2 n2 c2]) := HX0.out.later hb
  have HR1 : Hid (OwnRow w1 (w.heap.size + 1) 7 (cel zero7)) := HR0.out.later hb
  have HFX1 : Hid (FsX w1 w.heap.size 0 d a1 c1 a2 c2) := HFX0.out.later hb
  clear hb
  by_cases hfc : fc = 0
  · have hfb : (fc != 0) = false := by simpa using hfc
    have HE : Hid (RES = linkQ d s t) := by unfold Hid; rw [HRN.out, if_pos hfc]
    have HI : Hid (∀ W, Below w.heap.size w W → Calls Tryz.prog 63 #[.agg #[.slice a1 n1 c1, .slice a2 n2 c2], .string s, .string t] W (AnsCR W (linkQ d s t))) := HIN.out hfc
    clear hfc HIN HRN HF
    have xHX0 := HX1.out 0 _ rfl
    have xHX1 := HX1.out 1 _ rfl
    go_wp2_with fail
    clear xHX0 xHX1
    refine (HI.out _ HB1.out).mono ?_
    rintro e u ⟨y1, y2, b3, m3, k3, b4, m4, k4, b5, m5, k5, b6, m6, k6, rfl, hb, hu⟩
    have hrr := HR1.out.later hb
    have hlr : w.heap.size + 1 < w1.heap.size := HR1.out.lt
    have HBU : Hid (Below w1.heap.size w1 u) := hb
    have HCU : Hid (CResU u (.int .i64 y1) (.int .i64 y2) (.slice b3 m3 k3) (.slice b4 m4 k4) (.slice b5 m5 k5) (.slice b6 m6 k6) (linkQ d s t).2 (fresh w1 u)) := hu
    have t0 : u.cell? ⟨w.heap.size + 1, 0, none⟩ = some (.int .i64 0) := hrr.cell (i := 0) (by omega)
    have t1 : u.cell? ⟨w.heap.size + 1, 1, none⟩ = some (.int .i64 0) := hrr.cell (i := 1) (by omega)
    have t2 : u.cell? ⟨w.heap.size + 1, 2, none⟩ = some (.int .i64 0) := hrr.cell (i := 2) (by omega)
    have t3 : u.cell? ⟨w.heap.size + 1, 3, none⟩ = some (.slice none 0 0) := hrr.cell (i := 3) (by omega)
    have t4 : u.cell? ⟨w.heap.size + 1, 4, none⟩ = some (.slice none 0 0) := hrr.cell (i := 4) (by omega)
    have t5 : u.cell? ⟨w.heap.size + 1, 5, none⟩ = some (.slice none 0 0) := hrr.cell (i := 5) (by omega)
    have t6 : u.cell? ⟨w.heap.size + 1, 6, none⟩ = some (.slice none 0 0) := hrr.cell (i := 6) (by omega)
    have s0 := hrr.frozen 0
    have s1 := hrr.frozen 1
    have s2 := hrr.frozen 2
    have s3 := hrr.frozen 3
    have s4 := hrr.frozen 4
    have s5 := hrr.frozen 5
    have s6 := hrr.frozen 6
    clear hb hu hrr
    go_wp2
    exact bodyPost_ret (v := .agg #[.int .i64 (linkQ d s t).1, .int .i64 y1, .int .i64 y2, .slice b3 m3 k3, .slice b4 m4 k4, .slice b5 m5 k5, .slice b6 m6 k6]) (by simp [results, Tryz.results28, go_sem, t0, t1, t2, t3, t4, t5, t6]) rfl (by rw [HE.out]; exact AnsCR.pass HB1.out (by omega) hlr HBU.out HCU.out _ _ _ _ _ _ _)
  · have hfb : (fc != 0) = true := by simpa using hfc
    have HE : Hid (RES = noCR fc) := by unfold Hid; rw [HRN.out, if_neg hfc]
    have hrr := HR1.out
    have hlw : w.heap.size + 1 < w1.heap.size := hrr.lt
    clear hfc HIN HRN HF
    have t0 : w1.cell? ⟨w.heap.size + 1, 0, none⟩ = some (.int .i64 0) := hrr.cell (i := 0) (by omega)
    have t1 : w1.cell? ⟨w.heap.size + 1, 1, none⟩ = some (.int .i64 0) := hrr.cell (i := 1) (by omega)
    have t2 : w1.cell? ⟨w.heap.size + 1, 2, none⟩ = some (.int .i64 0) := hrr.cell (i := 2) (by omega)
    have t3 : w1.cell? ⟨w.heap.size + 1, 3, none⟩ = some (.slice none 0 0) := hrr.cell (i := 3) (by omega)
    have t4 : w1.cell? ⟨w.heap.size + 1, 4, none⟩ = some (.slice none 0 0) := hrr.cell (i := 4) (by omega)
    have t5 : w1.cell? ⟨w.heap.size + 1, 5, none⟩ = some (.slice none 0 0) := hrr.cell (i := 5) (by omega)
    have t6 : w1.cell? ⟨w.heap.size + 1, 6, none⟩ = some (.slice none 0 0) := hrr.cell (i := 6) (by omega)
    have s0 := hrr.frozen 0
    have s1 := hrr.frozen 1
    have s2 := hrr.frozen 2
    have s3 := hrr.frozen 3
    have s4 := hrr.frozen 4
    have s5 := hrr.frozen 5
    have s6 := hrr.frozen 6
    clear hrr
    go_wp2
    exact bodyPost_ret (v := .agg #[.int .i64 fc, .int .i64 0, .int .i64 0, .slice none 0 0, .slice none 0 0, .slice none 0 0, .slice none 0 0]) (by simp [results, Tryz.results28, go_sem, t0, t1, t2, t3, t4, t5, t6]) rfl (by rw [HE.out]; exact AnsCR.no fc HB1.out (by omega) _ _ _ _ _ _ _)

theorem noCR_span (c : Int) : spanCR (noCR c).2 = 0 := by simp [noCR, spanCR, spanFs, spanInos, isp, ylens]
theorem rootS {d : FD} (hf : fsF d = 0) : DirS d 0 := by
  have hok := fsE_ok (fsF_E hf)
  have h : dirQ d 0 = 0 := by
    unfold dirQ
    rw [if_pos (fsF_E hf), if_pos ⟨by omega, by have := hok.pos; omega⟩, if_pos (by simpa using hok.top)]
  simpa using dirS h
theorem stay_span {d : FD} (hf : fsF d = 0) (c : Int) : spanCR (stayR d c).2 ≤ 1000 := by
  have e3 := spanInos_each (fsF_spans hf)
  have hok := fsE_ok (fsF_E hf)
  have e2 := ylens_eight (rootS hf).eight
  have h1 := hok.ten
  have h2 := hok.dat
  show 0 + 0 + (spanInos d.1 + (ylens d.2).sum) ≤ 1000
  omega
theorem linkR_span (d : FD) (s t : ByteArray) : spanCR (linkR d s t).2 ≤ 1000 := by
  unfold linkR
  split
  · rename_i hf
    unfold linkQ
    split
    · split
      · split
        · have := addR_span d (wparR d t).2 (mkB (lastT t.data.toList)) (fileR d s).2
          exact Nat.le_trans (Nat.le_of_eq (by simp [spanCR])) this
        · exact stay_span hf _
      · exact stay_span hf _
    · exact stay_span hf _
  · rw [noCR_span]; omega
end Go.Proofs.YtpfafcodihhdfaaGreatDoor

namespace Go.Proofs.YtpfafcodihhdfaaGreatDoor
open Go.ChangeShapes Go.WideShapes Go.ChangeAt Go.RowKit Go.Deep
set_option maxRecDepth 100000

section
variable {H : Type} {enc : TypeId × Value → H} {P : Program} {w : World} {base : Nat} {held : Bool}

theorem addr_of {a : Addr} {v : Value} (h : w.cell? (a.add 0) = some v) : a = ⟨a.block, a.off, none⟩ := by
  obtain ⟨b, o, s⟩ := a
  have : s = none := by simpa [Addr.add] using World.cell?_spot h
  subst this; rfl
theorem add_plain (b off k : Nat) : (⟨b, off, none⟩ : Addr).add k = ⟨b, off + k, none⟩ := by
  by_cases h : k = 0
  · subst h; simp [Addr.add]
  · simp [Addr.add, h]

theorem open_Ints {t e : TypeId} {fuel : Nat} {v : Value} {x : DataW H × List MemPlace} (ht : P.underlying t = some (.slice e)) (he : P.underlying e = some (.int .i64)) (ce : P.cellsOf e = 1) (h : DataW.trod enc P w base (fun _ => true) held fuel t [v] = some x) :
    ∃ zs, Ints w v zs := by
  rcases open_ints ht he ce h with ⟨hcs, _⟩ | ⟨a, len, cap, zs, hcs, _, hl, hm, hz, _, hcell, _⟩
  · simp only [List.cons.injEq, and_true] at hcs
    exact ⟨[], Or.inl ⟨rfl, none, 0, hcs⟩⟩
  · simp only [List.cons.injEq, and_true] at hcs
    simp only [if_true] at hz
    by_cases h0 : len = 0
    · subst h0; exact ⟨[], Or.inl ⟨rfl, some a, cap, hcs⟩⟩
    · have ha := addr_of (hcell 0 (by omega))
      refine ⟨zs.take len, Or.inr ⟨a.block, a.off, cap, ?_, ?_, fun k hk => ?_⟩⟩
      · rw [hcs, List.length_take, Nat.min_eq_left (by omega), ← ha]
      · rw [List.length_take]; omega
      · rw [List.length_take] at hk
        have h1 := hcell k (by omega)
        rw [ha, add_plain] at h1
        rw [h1, List.getElem?_take, if_pos (by omega)]
        rfl

theorem open_IntsS {t e q : TypeId} {fuel : Nat} {v : Value} {x : DataW H × List MemPlace} (ht : P.underlying t = some (.slice e)) (he : P.underlying e = some (.slice q)) (hq : P.underlying q = some (.int .i64)) (ce : P.cellsOf e = 1) (cq : P.cellsOf q = 1)
    (h : DataW.trod enc P w base (fun _ => true) held fuel t [v] = some x) : ∃ zss, IntsS w v zss := by
  rcases open_slice1 ht ce h with ⟨hcs, _⟩ | ⟨a, len, cap, m, n, V, D, Pl, hcs, _, hl, hm, hmm, _, hx⟩
  · simp only [List.cons.injEq, and_true] at hcs
    exact ⟨[], Or.inl ⟨rfl, none, 0, hcs⟩⟩
  · simp only [List.cons.injEq, and_true] at hcs
    simp only [if_true] at hmm
    by_cases h0 : len = 0
    · subst h0; exact ⟨[], Or.inl ⟨rfl, some a, cap, hcs⟩⟩
    · have ha := addr_of (hx 0 (by omega)).1
      obtain ⟨Z, hZ⟩ := choose_lt (α := List Int) (n := m) (p := fun i zs => Ints w (V i) zs) fun i hi => open_Ints he hq cq (hx i hi).2
      refine ⟨(List.range len).map Z, Or.inr ⟨a.block, a.off, cap, V, ?_, ?_, fun k hk => ?_⟩⟩
      · simp only [List.length_map, List.length_range]; rw [hcs, ← ha]
      · simp only [List.length_map, List.length_range]; omega
      · simp only [List.length_map, List.length_range] at hk
        have h1 := (hx k (by omega)).1
        rw [ha, add_plain] at h1
        refine ⟨h1, ?_⟩
        have := hZ k (by omega)
        simpa [hk] using this

theorem open_Puts {t e q : TypeId} {f0 f1 : Field} {fuel : Nat} {v : Value} {x : DataW H × List MemPlace} (ht : P.underlying t = some (.slice e)) (he : P.underlying e = some (.struct #[f0, f1]))
    (ce : P.cellsOf e = 2) (o0 : f0.offset = 0) (o1 : f1.offset = 1) (c0 : P.cellsOf f0.type = 1) (c1 : P.cellsOf f1.type = 1) (h0 : P.underlying f0.type = some (.int .i64)) (h1 : P.underlying f1.type = some (.slice q)) (hq : P.underlying q = some (.int .i64)) (cq : P.cellsOf q = 1)
    (h : DataW.trod enc P w base (fun _ => true) held fuel t [v] = some x) : ∃ ps, Puts w v ps := by
  rcases open_slice_pairs ht he ce o0 o1 c0 c1 h with ⟨hcs, _⟩ | ⟨a, len, cap, m, n, V0, V1, D0, D1, P0, P1, hcs, _, hl, hm, hmm, _, hx⟩
  · simp only [List.cons.injEq, and_true] at hcs
    exact ⟨[], Or.inl ⟨rfl, none, 0, hcs⟩⟩
  · simp only [List.cons.injEq, and_true] at hcs
    simp only [if_true] at hmm
    by_cases hl0 : len = 0
    · subst hl0; exact ⟨[], Or.inl ⟨rfl, some a, cap, hcs⟩⟩
    · have ha := addr_of (by simpa using (hx 0 (by omega)).1)
      obtain ⟨Z, hZ⟩ := choose_lt (α := Int × List Int) (n := m) (p := fun i z => V0 i = .int .i64 z.1 ∧ Ints w (V1 i) z.2) fun i hi => by
        obtain ⟨_, _, g0, g1⟩ := hx i hi
        obtain ⟨zs, hzs⟩ := open_Ints h1 hq cq g1
        obtain ⟨y, hy, _⟩ := DataW.trod_int h0 g0
        simp only [List.cons.injEq, and_true] at hy
        exact ⟨(y, zs), hy, hzs⟩
      refine ⟨(List.range len).map Z, Or.inr ⟨a.block, a.off, cap, V1, ?_, ?_, fun k hk => ?_⟩⟩
      · simp only [List.length_map, List.length_range]; rw [hcs, ← ha]
      · simp only [List.length_map, List.length_range]; omega
      · simp only [List.length_map, List.length_range] at hk
        obtain ⟨e0, e1, _, _⟩ := hx k (by omega)
        rw [ha, add_plain] at e0 e1
        obtain ⟨g0, g1⟩ := hZ k (by omega)
        rw [g0] at e0
        have hg : ((List.range len).map Z)[k]?.getD (0, []) = Z k := by simp [hk]
        rw [hg]
        exact ⟨e0, e1, g1⟩
end

end Go.Proofs.YtpfafcodihhdfaaGreatDoor

namespace Go.Proofs.YtpfafcodihhdfaaGreatDoor
open Go.ChangeShapes Go.WideShapes Go.ChangeAt Go.RowKit Go.Joins
set_option maxRecDepth 100000

theorem Tryz.own : ownKnob Tryz.prog.godebug = none := by kernel_rfl
theorem Tryz.laidOut : laidOutB Tryz.prog = true := by kernel_rfl
theorem Tryz.cellsInt : Tryz.prog.cellsOf 2 = 1 := by kernel_rfl
theorem Tryz.cellsInts : Tryz.prog.cellsOf 40 = 1 := by kernel_rfl

end Go.Proofs.YtpfafcodihhdfaaGreatDoor

namespace Go.Proofs.YtpfafcodihhdfaaGreatDoor
open Go.ChangeShapes Go.WideShapes Go.ChangeAt Go.RowKit Go.Joins Go.Deep
set_option maxRecDepth 100000

theorem open_Ents {H : Type} {enc : TypeId × Value → H} {P : Program} {w : World} {base : Nat} {held : Bool} {t e : TypeId} {f0 f1 : Field} {fuel : Nat} {v : Value} {x : DataW H × List MemPlace} (ht : P.underlying t = some (.slice e)) (he : P.underlying e = some (.struct #[f0, f1]))
    (ce : P.cellsOf e = 2) (o0 : f0.offset = 0) (o1 : f1.offset = 1) (c0 : P.cellsOf f0.type = 1) (c1 : P.cellsOf f1.type = 1) (h0 : P.underlying f0.type = some .string) (h1 : P.underlying f1.type = some (.int .i64))
    (h : DataW.trod enc P w base (fun _ => true) held fuel t [v] = some x) : ∃ es, Ents w v es := by
  rcases open_slice ht h with ⟨hcs, _⟩ | ⟨a, len, cap, m, n, D, Pl, hcs, hb, hl, hm, hmm, _, hx⟩
  · simp only [List.cons.injEq, and_true] at hcs
    exact ⟨[], by rw [hcs]; exact Ents.nil w none 0⟩
  · simp only [List.cons.injEq, and_true] at hcs
    simp only [if_true] at hmm
    by_cases hl0 : len = 0
    · subst hl0; exact ⟨[], by rw [hcs]; exact Ents.nil w (some a) cap⟩
    · have each : ∀ i, i < m → ∃ q : EN, w.cell? (a.add (i * 2)) = some (.string q.1) ∧ w.cell? (a.add (i * 2 + 1)) = some (.int .i64 q.2) ∧ q.1.size ≤ maxLen := by
        intro i hi
        obtain ⟨cs', k1, k2⟩ := hx i hi
        rw [ce] at k1
        obtain ⟨_, hlen, hcell⟩ := World.cells?_some k1
        obtain ⟨xs, k, hk, hxy, _, hxl, hf⟩ := DataW.trod_struct he k2
        match xs, hxl, cs', hlen with
        | [y0, y1], _, [v0, v1], _ =>
          have g0 := hf 0 f0 rfl
          have g1 := hf 1 f1 rfl
          simp [o0, o1, c0, c1] at g0 g1
          have e0 := hcell 0 (by omega)
          have e1 := hcell 1 (by omega)
          rw [add_add] at e0 e1
          obtain ⟨z0, hz0, _, hs⟩ := DataW.trod_string h0 g0
          obtain ⟨z1, hz1, _⟩ := DataW.trod_int h1 g1
          simp only [List.cons.injEq, and_true] at hz0 hz1
          subst hz0 hz1
          exact ⟨(z0, z1), by simpa using e0, by simpa using e1, hs⟩
      obtain ⟨q, hq⟩ := choose_lt each
      have ha := addr_of (by simpa using (hq 0 (by omega)).1)
      refine ⟨(List.range len).map q, some a, cap, ?_, ?_, fun k hk => ?_⟩
      · simp only [List.length_map, List.length_range]; exact hcs
      · simp only [List.length_map, List.length_range]
        refine ⟨by omega, by omega, fun k => ?_⟩
        by_cases hk : k < len
        · have hg : ((List.range len).map q)[k]?.getD en0 = q k := by simp [hk]
          rw [hg]
          exact (hq k (by omega)).2.2
        · rw [List.getElem?_eq_none (by simpa using Nat.le_of_not_lt hk)]
          simp [en0, ByteArray.size]
      · simp only [List.length_map, List.length_range] at hk
        obtain ⟨e0, e1, _⟩ := hq k (by omega)
        rw [ha, add_plain] at e0 e1
        have hg : ((List.range len).map q)[k]?.getD en0 = q k := by simp [hk]
        rw [hg]
        exact ⟨a.block, a.off, by rw [← ha], e0, e1⟩

theorem open_cap {H : Type} {enc : TypeId × Value → H} {P : Program} {w : World} {base : Nat} {held : Bool} {t e : TypeId} {fuel : Nat} {v : Value} {x : DataW H × List MemPlace} (ht : P.underlying t = some (.slice e)) (h : DataW.trod enc P w base (fun _ => true) held fuel t [v] = some x) : capOK v := by
  rcases DataW.trod_slice ht h with ⟨hcs, _⟩ | ⟨a, len, cap, _, _, _, _, hcs, _, _, hl, _⟩
  · simp only [List.cons.injEq, and_true] at hcs
    exact ⟨none, 0, 0, hcs, Nat.le_refl _⟩
  · simp only [List.cons.injEq, and_true] at hcs
    exact ⟨some a, len, cap, hcs, hl⟩
theorem Tryz.cellsStr : Tryz.prog.cellsOf 9 = 1 := by kernel_rfl
theorem Tryz.cellsEnt : Tryz.prog.cellsOf 204 = 2 := by kernel_rfl
theorem Tryz.cellsEnts : Tryz.prog.cellsOf 100 = 1 := by kernel_rfl
theorem Tryz.cellsIno : Tryz.prog.cellsOf 102 = 5 := by kernel_rfl
theorem array5 {α : Type} {a : Array α} (h : a.size = 5) : ∃ x0 x1 x2 x3 x4, a = #[x0, x1, x2, x3, x4] := by
  obtain ⟨l⟩ := a
  match l, h with
  | [x0, x1, x2, x3, x4], _ => exact ⟨x0, x1, x2, x3, x4, rfl⟩
theorem open_InoU {H : Type} {enc : TypeId × Value → H} {W : World} {r : Reach} {b0 : Nat} {v : Value} {d : DataW H} {p : List MemPlace} (hv : Value.okWide Tryz.prog W r b0 102 v) (h : DataW.Trod enc Tryz.prog W 0 (fun _ => true) true 102 v d p) :
    ∃ v0 v1 v2 vB vE id, v = .agg #[v0, v1, v2, vB, vE] ∧ InoR W v0 v1 v2 vB vE id := by
  obtain ⟨cs, rfl, hsz⟩ := okWide_struct Tryz.underlying102 hv
  obtain ⟨c0, c1, c2, c3, c4, rfl⟩ := array5 (hsz.trans Tryz.cellsIno)
  obtain ⟨fuel, hf⟩ := h
  obtain ⟨xs, k, hk, hxy, _, hxl, hg⟩ := DataW.trod_struct Tryz.underlying102 hf
  match xs, hxl with
  | [y0, y1, y2, y3, y4], _ =>
    have g0 : DataW.trod enc Tryz.prog W 0 (fun _ => true) true k 2 [c0] = some y0 := by simpa [Value.cells, Tryz.cellsInt] using hg 0 _ rfl
    have g1 : DataW.trod enc Tryz.prog W 0 (fun _ => true) true k 2 [c1] = some y1 := by simpa [Value.cells, Tryz.cellsInt] using hg 1 _ rfl
    have g2 : DataW.trod enc Tryz.prog W 0 (fun _ => true) true k 2 [c2] = some y2 := by simpa [Value.cells, Tryz.cellsInt] using hg 2 _ rfl
    have g3 : DataW.trod enc Tryz.prog W 0 (fun _ => true) true k 40 [c3] = some y3 := by simpa [Value.cells, Tryz.cellsInts] using hg 3 _ rfl
    have g4 : DataW.trod enc Tryz.prog W 0 (fun _ => true) true k 100 [c4] = some y4 := by simpa [Value.cells, Tryz.cellsEnts] using hg 4 _ rfl
    obtain ⟨z0, hz0, _⟩ := DataW.trod_int Tryz.underlying2 g0
    obtain ⟨z1, hz1, _⟩ := DataW.trod_int Tryz.underlying2 g1
    obtain ⟨z2, hz2, _⟩ := DataW.trod_int Tryz.underlying2 g2
    simp only [List.cons.injEq, and_true] at hz0 hz1 hz2
    obtain ⟨bs, hbs⟩ := open_Ints Tryz.underlying40 Tryz.underlying2 Tryz.cellsInt g3
    obtain ⟨es, hes⟩ := open_Ents Tryz.underlying100 Tryz.underlying204 Tryz.cellsEnt rfl rfl Tryz.cellsStr Tryz.cellsInt Tryz.underlying9 Tryz.underlying2 g4
    exact ⟨c0, c1, c2, c3, c4, (z0, z1, z2, bs, es), rfl, ⟨hz0, hz1, hz2, open_cap Tryz.underlying40 g3⟩, hbs, hes⟩
end Go.Proofs.YtpfafcodihhdfaaGreatDoor

namespace Go.Proofs.YtpfafcodihhdfaaGreatDoor
open Go.ChangeShapes Go.WideShapes Go.ChangeAt Go.RowKit Go.Joins Go.Deep
set_option maxRecDepth 100000

theorem open_Inos {H : Type} {enc : TypeId × Value → H} {w : World} {base : Nat} {held : Bool} {fuel : Nat} {v : Value} {x : DataW H × List MemPlace}
    (h : DataW.trod enc Tryz.prog w base (fun _ => true) held fuel 22 [v] = some x) : ∃ ds, Inos w v ds := by
  rcases open_slice Tryz.underlying22 h with ⟨hcs, _⟩ | ⟨a, len, cap, m, n, D, Pl, hcs, hb, hl, hm, hmm, _, hx⟩
  · simp only [List.cons.injEq, and_true] at hcs
    exact ⟨[], by rw [hcs]; exact Inos.nil w none 0⟩
  · simp only [List.cons.injEq, and_true] at hcs
    simp only [if_true] at hmm
    by_cases hl0 : len = 0
    · subst hl0; exact ⟨[], by rw [hcs]; exact Inos.nil w (some a) cap⟩
    · have each : ∀ i, i < m → ∃ q : ID, ∃ vB vE, w.cell? (a.add (i * 5)) = some (.int .i64 q.1) ∧ w.cell? (a.add (i * 5 + 1)) = some (.int .i64 q.2.1) ∧ w.cell? (a.add (i * 5 + 2)) = some (.int .i64 q.2.2.1) ∧ w.cell? (a.add (i * 5 + 3)) = some vB ∧ w.cell? (a.add (i * 5 + 4)) = some vE ∧ InoR w (.int .i64 q.1) (.int .i64 q.2.1) (.int .i64 q.2.2.1) vB vE q := by
        intro i hi
        obtain ⟨cs', k1, k2⟩ := hx i hi
        rw [Tryz.cellsIno] at k1
        obtain ⟨_, hlen, hcell⟩ := World.cells?_some k1
        obtain ⟨xs, k, hk, hxy, _, hxl, hg⟩ := DataW.trod_struct Tryz.underlying102 k2
        match xs, hxl, cs', hlen with
        | [y0, y1, y2, y3, y4], _, [c0, c1, c2, c3, c4], _ =>
          have g0 : DataW.trod enc Tryz.prog w base (fun _ => true) held k 2 [c0] = some y0 := by simpa [Tryz.cellsInt] using hg 0 _ rfl
          have g1 : DataW.trod enc Tryz.prog w base (fun _ => true) held k 2 [c1] = some y1 := by simpa [Tryz.cellsInt] using hg 1 _ rfl
          have g2 : DataW.trod enc Tryz.prog w base (fun _ => true) held k 2 [c2] = some y2 := by simpa [Tryz.cellsInt] using hg 2 _ rfl
          have g3 : DataW.trod enc Tryz.prog w base (fun _ => true) held k 40 [c3] = some y3 := by simpa [Tryz.cellsInts] using hg 3 _ rfl
          have g4 : DataW.trod enc Tryz.prog w base (fun _ => true) held k 100 [c4] = some y4 := by simpa [Tryz.cellsEnts] using hg 4 _ rfl
          have e0 := hcell 0 (by omega)
          have e1 := hcell 1 (by omega)
          have e2 := hcell 2 (by omega)
          have e3 := hcell 3 (by omega)
          have e4 := hcell 4 (by omega)
          rw [add_add] at e0 e1 e2 e3 e4
          obtain ⟨z0, hz0, _⟩ := DataW.trod_int Tryz.underlying2 g0
          obtain ⟨z1, hz1, _⟩ := DataW.trod_int Tryz.underlying2 g1
          obtain ⟨z2, hz2, _⟩ := DataW.trod_int Tryz.underlying2 g2
          simp only [List.cons.injEq, and_true] at hz0 hz1 hz2
          subst hz0 hz1 hz2
          obtain ⟨bs, hbs⟩ := open_Ints Tryz.underlying40 Tryz.underlying2 Tryz.cellsInt g3
          obtain ⟨es, hes⟩ := open_Ents Tryz.underlying100 Tryz.underlying204 Tryz.cellsEnt rfl rfl Tryz.cellsStr Tryz.cellsInt Tryz.underlying9 Tryz.underlying2 g4
          exact ⟨(z0, z1, z2, bs, es), c3, c4, by simpa using e0, by simpa using e1, by simpa using e2, by simpa using e3, by simpa using e4, ⟨rfl, rfl, rfl, open_cap Tryz.underlying40 g3⟩, hbs, hes⟩
      obtain ⟨q, hq⟩ := choose_lt each
      obtain ⟨_, _, hq0, _⟩ := hq 0 (by omega)
      have ha := addr_of (by simpa using hq0)
      refine ⟨(List.range len).map q, some a, cap, ?_, ?_, fun k hk => ?_⟩
      · simp only [List.length_map, List.length_range]; exact hcs
      · simp only [List.length_map, List.length_range]
        exact ⟨by omega, by omega⟩
      · simp only [List.length_map, List.length_range] at hk
        obtain ⟨vB, vE, e0, e1, e2, e3, e4, hR⟩ := hq k (by omega)
        rw [ha, add_plain] at e0 e1 e2 e3 e4
        have hg : ((List.range len).map q)[k]?.getD id0 = q k := by simp [hk]
        rw [hg]
        exact ⟨a.block, a.off, by rw [← ha], InoAt.mk' e0 e1 e2 e3 e4 hR⟩
end Go.Proofs.YtpfafcodihhdfaaGreatDoor

namespace Go.Proofs.YtpfafcodihhdfaaGreatDoor
open Go.ChangeShapes Go.WideShapes Go.ChangeAt Go.RowKit Go.Joins Go.Deep
set_option maxRecDepth 100000

theorem Tryz.cellsByteF : Tryz.prog.cellsOf 5 = 1 := by kernel_rfl
theorem Tryz.cellsBytF : Tryz.prog.cellsOf 37 = 1 := by kernel_rfl
theorem Tryz.cellsBytsF : Tryz.prog.cellsOf 23 = 1 := by kernel_rfl
theorem Tryz.cellsInosF : Tryz.prog.cellsOf 22 = 1 := by kernel_rfl
theorem Tryz.cellsFsF : Tryz.prog.cellsOf 25 = 2 := by kernel_rfl
theorem open_Byt {H : Type} {enc : TypeId × Value → H} {P : Program} {w : World} {base : Nat} {held : Bool} {t e : TypeId} {fuel : Nat} {v : Value} {x : DataW H × List MemPlace} (ht : P.underlying t = some (.slice e)) (he : P.underlying e = some (.int .u8)) (ce : P.cellsOf e = 1) (h : DataW.trod enc P w base (fun _ => true) held fuel t [v] = some x) :
    ∃ zs, Byt w v zs := by
  rcases open_slice1 ht ce h with ⟨hcs, _⟩ | ⟨a, len, cap, m, n, V, D, Pl, hcs, _, hl, hm, hmm, _, hx⟩
  · simp only [List.cons.injEq, and_true] at hcs
    exact ⟨[], by rw [hcs]; exact Byt.nil w none 0⟩
  · simp only [List.cons.injEq, and_true] at hcs
    simp only [if_true] at hmm
    by_cases h0 : len = 0
    · subst h0; exact ⟨[], by rw [hcs]; exact Byt.nil w (some a) cap⟩
    · have ha := addr_of (hx 0 (by omega)).1
      obtain ⟨Z, hZ⟩ := choose_lt (α := UInt8) (n := m) (p := fun i b => V i = .int .u8 ((b.toNat : Nat) : Int)) fun i hi => by
        obtain ⟨z, h1, _, hw⟩ := DataW.trod_int he (hx i hi).2
        have hz0 : IntKind.u8.min ≤ z ∧ z ≤ IntKind.u8.max := by simpa [Lit.wf] using hw
        have hz : 0 ≤ z ∧ z ≤ 255 := hz0
        refine ⟨UInt8.ofNat z.toNat, ?_⟩
        simp only [List.cons.injEq, and_true] at h1
        rw [h1]
        congr 1
        have : (UInt8.ofNat z.toNat).toNat = z.toNat := by simp; omega
        rw [this]; omega
      refine ⟨(List.range len).map Z, some a, cap, ?_, ?_, fun k hk => ?_⟩
      · simp only [List.length_map, List.length_range]; exact hcs
      · simp only [List.length_map, List.length_range]; exact ⟨by omega, by omega⟩
      · simp only [List.length_map, List.length_range] at hk
        have h1 := (hx k (by omega)).1
        rw [ha, add_plain] at h1
        refine ⟨a.block, a.off, by rw [← ha], ?_⟩
        rw [h1, hZ k (by omega)]
        simp [hk]
theorem open_Byts {H : Type} {enc : TypeId × Value → H} {P : Program} {w : World} {base : Nat} {held : Bool} {t e q : TypeId} {fuel : Nat} {v : Value} {x : DataW H × List MemPlace} (ht : P.underlying t = some (.slice e)) (he : P.underlying e = some (.slice q)) (hq : P.underlying q = some (.int .u8)) (ce : P.cellsOf e = 1) (cq : P.cellsOf q = 1)
    (h : DataW.trod enc P w base (fun _ => true) held fuel t [v] = some x) : ∃ zss, Byts w v zss := by
  rcases open_slice1 ht ce h with ⟨hcs, _⟩ | ⟨a, len, cap, m, n, V, D, Pl, hcs, _, hl, hm, hmm, _, hx⟩
  · simp only [List.cons.injEq, and_true] at hcs
    exact ⟨[], by rw [hcs]; exact Byts.nil w none 0⟩
  · simp only [List.cons.injEq, and_true] at hcs
    simp only [if_true] at hmm
    by_cases h0 : len = 0
    · subst h0; exact ⟨[], by rw [hcs]; exact Byts.nil w (some a) cap⟩
    · have ha := addr_of (hx 0 (by omega)).1
      obtain ⟨Z, hZ⟩ := choose_lt (α := List UInt8) (n := m) (p := fun i zs => Byt w (V i) zs) fun i hi => open_Byt he hq cq (hx i hi).2
      refine ⟨(List.range len).map Z, some a, cap, ?_, ?_, fun k hk => ?_⟩
      · simp only [List.length_map, List.length_range]; exact hcs
      · simp only [List.length_map, List.length_range]; exact ⟨by omega, by omega⟩
      · simp only [List.length_map, List.length_range] at hk
        have h1 := (hx k (by omega)).1
        rw [ha, add_plain] at h1
        have hg : ((List.range len).map Z)[k]?.getD [] = Z k := by simp [hk]
        rw [hg]
        obtain ⟨ua, uc, e1, e2, e3⟩ := hZ k (by omega)
        rw [e1] at h1
        exact ⟨a.block, a.off, ua, uc, by rw [← ha], h1, ua, uc, rfl, e2, e3⟩
theorem open_FsU {H : Type} {enc : TypeId × Value → H} {W : World} {r : Reach} {b0 : Nat} {v : Value} {d : DataW H} {p : List MemPlace} (hv : Value.okWide Tryz.prog W r b0 25 v) (h : DataW.Trod enc Tryz.prog W 0 (fun _ => true) true 25 v d p) :
    ∃ v0 v1 fd, v = .agg #[v0, v1] ∧ FsR W v0 v1 fd := by
  obtain ⟨cs, rfl, hsz⟩ := okWide_struct Tryz.underlying25 hv
  obtain ⟨c0, c1, rfl⟩ := array2 (hsz.trans Tryz.cellsFsF)
  obtain ⟨fuel, hf⟩ := h
  obtain ⟨xs, k, hk, hxy, _, hxl, hg⟩ := DataW.trod_struct Tryz.underlying25 hf
  match xs, hxl with
  | [y0, y1], _ =>
    have g0 : DataW.trod enc Tryz.prog W 0 (fun _ => true) true k 22 [c0] = some y0 := by simpa [Value.cells, Tryz.cellsInosF] using hg 0 _ rfl
    have g1 : DataW.trod enc Tryz.prog W 0 (fun _ => true) true k 23 [c1] = some y1 := by simpa [Value.cells, Tryz.cellsBytsF] using hg 1 _ rfl
    obtain ⟨ds, hds⟩ := open_Inos g0
    obtain ⟨zss, hz⟩ := open_Byts Tryz.underlying23 Tryz.underlying37 Tryz.underlying5 Tryz.cellsBytF Tryz.cellsByteF g1
    exact ⟨c0, c1, (ds, zss), rfl, hds, hz⟩
end Go.Proofs.YtpfafcodihhdfaaGreatDoor

namespace Go.Proofs.YtpfafcodihhdfaaGreatDoor
open Go.ChangeShapes Go.WideShapes Go.RowKit
set_option maxRecDepth 100000

set_option maxRecDepth 100000
theorem Tryz.et : Tryz.prog.globalNamed "errors.errorType" = some 0 := by kernel_rfl
theorem Tryz.rt : (Tryz.prog.cutTypes.find? (·.1 == "internal/reflectlite.rtype")).map (·.2) = some 247 := by kernel_rfl
theorem Tryz.oneRow : ((List.range 313).filter fun t => Tryz.prog.rowNamed t [101, 114, 114, 111, 114]) = [166] := by kernel_rfl
theorem Tryz.typesN : Tryz.prog.types.size = 313 := by kernel_rfl
theorem gl_of_laid {W : World} (h : laidMetH Tryz.prog [("errors.errorType", Rows.laid_errors_errorType)] W) : Gl W := by
  have h' : laidMet Tryz.prog [] W ∧ handlesMet Tryz.prog [("errors.errorType", Rows.laid_errors_errorType)] W := h
  obtain ⟨name, u, ty, e1, e2, e3, e4, e5⟩ := h'.2 _ (List.mem_singleton.2 rfl)
  have en : name = [101, 114, 114, 111, 114] := (Option.some.inj e1).symm
  subst en
  obtain rfl := Option.some.inj (Tryz.rt.symm.trans e2)
  have hm : ty ∈ (List.range 313).filter fun t => Tryz.prog.rowNamed t [101, 114, 114, 111, 114] := List.mem_filter.2 ⟨List.mem_range.2 (by rw [← Tryz.typesN]; exact e3), e4⟩
  rw [Tryz.oneRow] at hm
  obtain rfl := List.mem_singleton.1 hm
  have hh : typeHandle Tryz.prog 166 = .pointer (some ⟨2, 166, none⟩) := by kernel_rfl
  rw [hh] at e5
  have := World.var?_cell Tryz.et e5 0
  unfold Gl
  simpa using this
noncomputable def laidWorld (os : Os) : World :=
  let w0 := World.holding Tryz.prog os ⟨#[], #[], []⟩
  { w0 with heap := w0.heap.modify 0 fun
      | .cells _ t frozen => .cells #[.iface 247 (.agg #[.pointer (some ⟨2, 166, none⟩)])] t frozen
      | o => o }
theorem laidWorld_met (os : Os) (args : Array Value) : laidMetH Tryz.prog [("errors.errorType", Rows.laid_errors_errorType)] ((laidWorld os).forCall (fun _ _ => 0) ⟨#[], args, []⟩).memory :=
  laidMetH_of_parts (laidMet_nil _ _) (by kernel_rfl)
end Go.Proofs.YtpfafcodihhdfaaGreatDoor
