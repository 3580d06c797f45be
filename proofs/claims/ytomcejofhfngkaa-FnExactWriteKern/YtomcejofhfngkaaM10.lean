/- The walks of the program's FlushDisk and CrashDisk. Lists of bits: how they read, and the walks of the laws' functions over them. The walk of the specification's copying of a disk: its two loops. FlushDisk and CrashDisk in the one form of the laws. WriteKern in the one form of the laws. From the reading of an argument to the lists that it holds. No program is named here. What the rows of this seat share: how a disk that came in is opened. How kerns that came in are opened. -/
import Derived.Test.YtomcejofhfngkaaM09
import Derived.Test.YtomcejofhfngkaaM03
import Derived.Test.YtomcejofhfngkaaM07
import Derived.Test.YtomcejofhfngkaaM00
import Derived.ProofKit
import Derived.Deep.Slices
import Derived.Deep.SlicePairs
import Derived.Lib.SmallJoins
import Derived.Test.YtomcejofhfngkaaRows
namespace Go.Proofs.Ytomcejofhfngkaa
open Go.RowKit
set_option maxRecDepth 100000

theorem Try.infoBool : (Try.prog.info? 4).map (fun i => (i.zero, i.size, i.bytes)) = some (some (.bool false), 1, 1) := by kernel_rfl

set_option maxHeartbeats 400000 in
theorem allPicked_any (w : World) (n : Nat) (hn : n ≤ 1048576) :
    Calls Try.prog 95 #[.int .i64 (n : Int)] w fun e w' => e = .returned (.slice (some ⟨w.heap.size, 0, none⟩) n n) ∧ Below w.heap.size w w' ∧ OwnRow w' w.heap.size n (fun _ => .bool true) := by
  have hmk := fun w => run_make_row' (P := Try.prog) 65 4 (.bool false) 1 Try.underlying65 Try.infoBool rfl .i64 .i64 n (by omega) (by omega) w
  go_enter Try.func95, Try.ntmps95
  go_wp2
  go_loopw [9] (fun i wr => ∃ j : Nat, j ≤ n ∧ i = .int .i64 j ∧ Below w.heap.size w wr ∧ OwnRow wr w.heap.size n (fun i => if i < j then .bool true else .bool false)) (fun i _ => n - (intOf i).toNat)
  case atStart => exact ⟨0, Nat.zero_le _, rfl, later1 _ _, (OwnRow.made w (.bool false) n 4).congr fun i _ => by simp⟩
  case round =>
    obtain ⟨j, hj, rfl, hbl, hrow⟩ := hrel
    by_cases hlt : j < n
    · have d1 := hrow.cell hlt
      have d2 := hrow.frozen j
      simp only [Nat.lt_irrefl, if_false] at d1
      have HBL : Hid (Below w.heap.size w wr) := hbl
      have HROW : Hid (OwnRow wr w.heap.size n (fun i => if i < j then .bool true else .bool false)) := hrow
      clear hbl hrow
      go_wp2
      go_roundw
      case rel =>
        refine ⟨j + 1, by omega, by go_num, HBL.out.setCell (Nat.le_refl _) _, (HROW.out.set j _).congr fun i hi => ?_⟩
        by_cases e : i = j
        · subst e; simp
        · by_cases e2 : i < j
          · simp [e, e2, show i < j + 1 by omega]
          · simp [e, e2, show ¬ i < j + 1 by omega]
      case measure => simp [intOf]; omega
    · go_wp2
      go_ret
      have e : j = n := by omega
      subst e
      exact ⟨rfl, hbl, hrow.congr fun i hi => by simp [hi]⟩

set_option maxHeartbeats 1600000 in
theorem implFlush_fault (w : World) (vB vC : Value) (bs : List (List Int)) (ps : List (Int × List Int)) (hB : IntsS w vB bs) (hP : Puts w vC ps) (hf : ¬ faultF bs ps = 0) :
    Calls Try.prog 21 #[.agg #[vB, vC]] w fun e w' => e = .returned (.agg #[.int .i64 (faultF bs ps), .slice none 0 0, .slice none 0 0]) ∧ Below w.heap.size w w' := by
  have HB : Hid (IntsS w vB bs) := hB
  have HP : Hid (Puts w vC ps) := hP
  generalize hF : faultF bs ps = F at *
  have HF : Hid (faultF bs ps = F) := hF
  have hne : (F != 0) = true := by simpa using hf
  clear hB hP hF hf
  go_enter Try.func21, Try.ntmps21
  go_wp2_with fail
  refine (fault_any _ _ _ bs ps (HB.out.later (later2 _ _ _)) (HP.out.later (later2 _ _ _))).mono ?_
  rw [HF.out]
  rintro e w1 ⟨rfl, hb1⟩
  have HW1 : Hid (Below w.heap.size w w1) := (later2 _ _ _).trans (hb1.mono (by simp; omega))
  have HR1 := resRow _ _ hb1
  have t0 := HR1.cell (i := 0) (by omega)
  have t1 := HR1.cell (i := 1) (by omega)
  have t2 := HR1.cell (i := 2) (by omega)
  have s0 := HR1.frozen 0
  have s1 := HR1.frozen 1
  have s2 := HR1.frozen 2
  simp at t0 t1 t2
  clear hb1 HR1
  go_wp2
  exact bodyPost_ret (v := .agg #[.int .i64 F, .slice none 0 0, .slice none 0 0]) (by simp [results, Try.results21, go_sem, t0, t1, t2]) rfl ⟨rfl, ((HW1.out.setCell (by simp) _).setCell (by simp) _).setCell (by simp) _⟩

set_option maxHeartbeats 1600000 in
theorem implCrash_fault (w : World) (vB vC v : Value) (bs : List (List Int)) (ps : List (Int × List Int)) (hB : IntsS w vB bs) (hP : Puts w vC ps) (hf : ¬ faultF bs ps = 0) :
    Calls Try.prog 35 #[.agg #[vB, vC], v] w fun e w' => e = .returned (.agg #[.int .i64 (faultF bs ps), .slice none 0 0, .slice none 0 0]) ∧ Below w.heap.size w w' := by
  have HB : Hid (IntsS w vB bs) := hB
  have HP : Hid (Puts w vC ps) := hP
  generalize hF : faultF bs ps = F at *
  have HF : Hid (faultF bs ps = F) := hF
  have hne : (F != 0) = true := by simpa using hf
  clear hB hP hF hf
  go_enter Try.func35, Try.ntmps35
  go_wp2_with fail
  refine (fault_any _ _ _ bs ps (HB.out.later (later2 _ _ _)) (HP.out.later (later2 _ _ _))).mono ?_
  rw [HF.out]
  rintro e w1 ⟨rfl, hb1⟩
  have HW1 : Hid (Below w.heap.size w w1) := (later2 _ _ _).trans (hb1.mono (by simp; omega))
  have HR1 := resRow _ _ hb1
  have t0 := HR1.cell (i := 0) (by omega)
  have t1 := HR1.cell (i := 1) (by omega)
  have t2 := HR1.cell (i := 2) (by omega)
  have s0 := HR1.frozen 0
  have s1 := HR1.frozen 1
  have s2 := HR1.frozen 2
  simp at t0 t1 t2
  clear hb1 HR1
  go_wp2
  exact bodyPost_ret (v := .agg #[.int .i64 F, .slice none 0 0, .slice none 0 0]) (by simp [results, Try.results35, go_sem, t0, t1, t2]) rfl ⟨rfl, ((HW1.out.setCell (by simp) _).setCell (by simp) _).setCell (by simp) _⟩

set_option maxHeartbeats 3200000 in
theorem implCrash_ok (w : World) (aB aC ap : Option Addr) (cB cC cap : Nat) (bs : List (List Int)) (ps : List (Int × List Int)) (bb : List Bool) (hB : IntsS w (.slice aB bs.length cB) bs) (hP : Puts w (.slice aC ps.length cC) ps) (sB : AtS w aB bs.length bs) (sP : AtP w aC ps.length ps) (hA : AtBs w ap bb.length bb) (hab : ∀ b off, ap = some ⟨b, off, none⟩ → 0 < bb.length → b < w.heap.size) (hff : faultF bs ps = 0)
    (hz : ∀ k : Nat, (bs[k]?.getD []).length ≤ 1048576) (hzp : ∀ k : Nat, (ps[k]?.getD (0, [])).2.length ≤ 1048576) :
    Calls Try.prog 35 #[.agg #[.slice aB bs.length cB, .slice aC ps.length cC], .slice ap bb.length cap] w (AnsDisk w 0 (keepTo (fun i => bb[i]?.getD false) bs ps ps.length) []) := by
  have HB : Hid (IntsS w (.slice aB bs.length cB) bs) := hB
  have HP : Hid (Puts w (.slice aC ps.length cC) ps) := hP
  have SB : Hid (AtS w aB bs.length bs) := sB
  have SP : Hid (AtP w aC ps.length ps) := sP
  have HA : Hid (AtBs w ap bb.length bb) := hA
  have HF : Hid (faultF bs ps = 0) := hff
  obtain ⟨g1, g2⟩ := faultF_lens hff
  have G1 : Hid (bs.length ≤ 60) := g1
  have G2 : Hid (ps.length ≤ 200) := g2
  have HZ : Hid (∀ k : Nat, (bs[k]?.getD []).length ≤ 1048576) := hz
  have HZP : Hid (∀ k : Nat, (ps[k]?.getD (0, [])).2.length ≤ 1048576) := hzp
  clear hB hP sB sP hz hzp hff g1 g2 hA
  go_enter Try.func35, Try.ntmps35
  go_wp2_with fail
  refine (fault_any _ _ _ bs ps (HB.out.later (later2 _ _ _)) (HP.out.later (later2 _ _ _))).mono ?_
  rw [HF.out]
  rintro e w1 ⟨rfl, hb1⟩
  have HW1 : Hid (Below w.heap.size w w1) := (later2 _ _ _).trans (hb1.mono (by simp; omega))
  have HX1 : Box2 w1 w.heap.size (.slice aB bs.length cB) (.slice aC ps.length cC) := ((Box2.new w _ _ 30).later (later1 _ _)).later hb1
  have HR1 : Hid (OwnRow w1 (w.heap.size + 1) 3 (fun i => if i = 0 then .int .i64 0 else if i = 1 then .slice none 0 0 else .slice none 0 0)) := resRow _ _ hb1
  have hz1 : w.heap.size + 1 < w1.heap.size := HR1.out.lt
  obtain ⟨x0, x1⟩ := HX1
  clear hb1
  go_wp2_with fail
  clear x0 x1
  refine (openDisk_walk _ aB aC bs.length cB ps.length cC bs ps rfl rfl G1.out G2.out (fun k _ => HZ.out k) (fun k _ => HZP.out k) (SB.out.later HW1.out) (SP.out.later HW1.out)).mono ?_
  rintro e w2 ⟨bd, g, aP, cP, pb, k, u, rfl, hdr⟩
  have HDR : Hid (Drive w1 w2 bd (some ⟨g, 0, none⟩) bs.length bs.length aP ps.length cP bs ps pb k u) := hdr
  have hbd1 : w1.heap.size ≤ bd := hdr.lo
  have hbd2 : bd < w2.heap.size := hdr.row.lt
  have HW2 : Hid (Below w.heap.size w w2) := HW1.out.trans (hdr.below.mono HW1.out.size)
  clear hdr
  have HSET : Hid (Calls _ _ _ _ _) := settle_any w2 w1.heap.size bd g bs.length ps.length aP cP ap bb.length cap bs ps bb pb k u hbd1 rfl G2.out G1.out rfl (faultF_places HF.out) HZP.out (HA.out.later HW2.out) (fun h0 h1 b off e e2 => by
    obtain ⟨_, _, h, _⟩ := HDR.out.blocks.row h0
    have := hab b off e h1
    omega) HDR.out.row HDR.out.cache HDR.out.blocks
  go_wp2_with fail
  refine HSET.out.mono ?_
  rintro e w3 ⟨rfl, hb3, hr3, hi3⟩
  have HR3 : Hid (OwnRow w3 bd 2 (fun c => if c = 0 then .slice (some ⟨g, 0, none⟩) bs.length bs.length else .slice none 0 0)) := hr3
  have HI3 : Hid (IntsSO w3 (.slice (some ⟨g, 0, none⟩) bs.length bs.length) (keepTo (fun i => bb[i]?.getD false) bs ps ps.length) (fun c => w1.heap.size ≤ c ∧ c < w3.heap.size ∧ c ≠ bd)) := hi3
  have HW3 : Hid (Below w.heap.size w w3) := HW2.out.trans (hb3.mono HW1.out.size)
  have HQ3 : Hid (OwnRow w3 (w.heap.size + 1) 3 (fun i => if i = 0 then .int .i64 0 else if i = 1 then .slice none 0 0 else .slice none 0 0)) := (HR1.out.later HDR.out.below).block (hb3.block _ hz1)
  clear hb3 hr3 hi3 HSET
  have d0 := HR3.out.cell (i := 0) (by omega)
  have d1 := HR3.out.cell (i := 1) (by omega)
  simp at d0 d1
  go_wp2_with fail
  refine (disk_nil w3 bd 0 0 none (some ⟨g, 0, none⟩) bs.length bs.length d0 d1).mono ?_
  rintro e w4 ⟨rfl, hb4⟩
  have HW4 : Hid (Below w.heap.size w w4) := HW3.out.trans (hb4.mono HW3.out.size)
  have HI4 : Hid (IntsSO w4 (.slice (some ⟨g, 0, none⟩) bs.length bs.length) (keepTo (fun i => bb[i]?.getD false) bs ps ps.length) (fun c => w1.heap.size ≤ c ∧ c < w3.heap.size ∧ c ≠ bd)) := HI3.out.keep fun b hb hlt => hb4.block b hlt
  have HR4 := HQ3.out.later hb4
  have hz4 : w3.heap.size ≤ w4.heap.size := hb4.size
  have t0 := HR4.cell (i := 0) (by omega)
  have t1 := HR4.cell (i := 1) (by omega)
  have t2 := HR4.cell (i := 2) (by omega)
  have s0 := HR4.frozen 0
  have s1 := HR4.frozen 1
  have s2 := HR4.frozen 2
  simp at t0 t1 t2
  clear hb4 HR4 d0 d1
  go_wp2
  refine bodyPost_ret (v := .agg #[.int .i64 0, .slice (some ⟨g, 0, none⟩) bs.length bs.length, .slice none 0 0]) (by simp [results, Try.results35, go_sem, t0, t1, t2]) rfl ⟨_, _, _, _, _, _, rfl, ?_, ?_⟩
  · exact ((HW4.out.setCell (by simp) _).setCell (by simp) _).setCell (by simp) _
  · refine ⟨fun c => w1.heap.size ≤ c ∧ c < w3.heap.size ∧ c ≠ bd, fun _ => False, ((HI4.out.store (fun b hb => by simp; omega) _).store (fun b hb => by simp; omega) _).store (fun b hb => by simp; omega) _, Or.inl ⟨rfl, none, 0, rfl⟩, fun b _ h => h.elim, fun b hb => ?_⟩
    simp only [World.setCell, Array.size_modify]
    have h0 := HW1.out.size
    rcases hb with hb | hb
    · omega
    · exact hb.elim

set_option maxHeartbeats 1600000 in
theorem flush_any (w : World) (lo bd g nB n : Nat) (aP : Option Addr) (cP : Nat) (bs : List (List Int)) (ps : List (Int × List Int)) (pb k : Nat → Nat) (u : Nat → Value) (hlo : lo ≤ bd) (hbl : bs.length = nB) (hn : n ≤ 200) (hnB : nB ≤ 60) (hpl : ∀ i, i < n → ∃ x : Nat, (ps[i]?.getD (0, [])).1 = x ∧ x < nB) (hzp : ∀ k : Nat, (ps[k]?.getD (0, [])).2.length ≤ 1048576)
    (hd : OwnRow w bd 2 (fun c => if c = 0 then .slice (some ⟨g, 0, none⟩) nB nB else .slice aP n cP)) (hc : Cache w (bd + 1) (.slice aP n cP) n (fun i => ps[i]?.getD (0, [])) pb k u) (hb : IntsSO w (.slice (some ⟨g, 0, none⟩) nB nB) bs (fun c => lo ≤ c ∧ c < bd)) :
    Calls Try.prog 62 #[.pointer (some ⟨bd, 0, none⟩)] w fun e w' => e = .returned (.tuple #[]) ∧ Below lo w w' ∧ OwnRow w' bd 2 (fun c => if c = 0 then .slice (some ⟨g, 0, none⟩) nB nB else .slice none 0 0) ∧ IntsSO w' (.slice (some ⟨g, 0, none⟩) nB nB) (keepTo (fun i => (List.replicate n true)[i]?.getD false) bs ps n) (fun c => lo ≤ c ∧ c < w'.heap.size ∧ c ≠ bd) := by
  have hlt := hd.lt
  have HSET : Hid (∀ w2p, Below w.heap.size w w2p → OwnRow w2p w.heap.size n (fun _ => .bool true) → Calls Try.prog 81 #[.pointer (some ⟨bd, 0, none⟩), .slice (some ⟨w.heap.size, 0, none⟩) n n] w2p fun e w' => e = .returned (.tuple #[]) ∧ Below lo w2p w' ∧ OwnRow w' bd 2 (fun c => if c = 0 then .slice (some ⟨g, 0, none⟩) nB nB else .slice none 0 0) ∧ IntsSO w' (.slice (some ⟨g, 0, none⟩) nB nB) (keepTo (fun i => (List.replicate n true)[i]?.getD false) bs ps n) (fun c => lo ≤ c ∧ c < w'.heap.size ∧ c ≠ bd)) := fun w2p hbp hop =>
    settle_any w2p lo bd g nB n aP cP (some ⟨w.heap.size, 0, none⟩) n n bs ps (List.replicate n true) pb k u hlo hbl hn hnB (by simp) hpl hzp (fun k hk => ⟨w.heap.size, 0, rfl, by rw [Nat.zero_add, hop.cell hk]; simp [hk]⟩) (fun h0 h1 b off e e2 => by
      obtain ⟨_, h, _, _⟩ := hb.row (by omega)
      have h := h.lt
      simp only [Option.some.injEq, Addr.mk.injEq, and_true] at e
      omega) (hd.later hbp) (hc.later hbp) (hb.keep fun b _ hlt => hbp.block b hlt)
  have hlo2 : lo ≤ w.heap.size := by omega
  have e1 := hd.cell (i := 1) (by omega)
  simp at e1
  clear hd hc hb hpl hzp
  go_enter Try.func62, Try.ntmps62
  go_wp2_with fail
  clear e1
  refine (allPicked_any _ n (by omega)).mono ?_
  rintro e w2p ⟨rfl, hbp, hop⟩
  have HP := HSET.out w2p hbp hop
  have HBP : Hid (Below w.heap.size w w2p) := hbp
  clear HSET hbp hop
  go_wp2_with fail
  refine HP.mono ?_
  rintro e w3 ⟨rfl, hb3, hr3, hi3⟩
  have HB3 : Hid (Below lo w w3) := (HBP.out.mono hlo2).trans hb3
  have HR3 : Hid (OwnRow w3 bd 2 (fun c => if c = 0 then .slice (some ⟨g, 0, none⟩) nB nB else .slice none 0 0)) := hr3
  have HI3 : Hid (IntsSO w3 (.slice (some ⟨g, 0, none⟩) nB nB) (keepTo (fun i => (List.replicate n true)[i]?.getD false) bs ps n) (fun c => lo ≤ c ∧ c < w3.heap.size ∧ c ≠ bd)) := hi3
  clear hb3 hr3 hi3
  go_wp2
  go_end0
  exact ⟨rfl, HB3.out, HR3.out, HI3.out⟩

set_option maxHeartbeats 3200000 in
theorem implFlush_ok (w : World) (aB aC : Option Addr) (cB cC : Nat) (bs : List (List Int)) (ps : List (Int × List Int)) (hB : IntsS w (.slice aB bs.length cB) bs) (hP : Puts w (.slice aC ps.length cC) ps) (sB : AtS w aB bs.length bs) (sP : AtP w aC ps.length ps) (hff : faultF bs ps = 0)
    (hz : ∀ k : Nat, (bs[k]?.getD []).length ≤ 1048576) (hzp : ∀ k : Nat, (ps[k]?.getD (0, [])).2.length ≤ 1048576) :
    Calls Try.prog 21 #[.agg #[.slice aB bs.length cB, .slice aC ps.length cC]] w (AnsDisk w 0 (keepTo (fun i => (List.replicate ps.length true)[i]?.getD false) bs ps ps.length) []) := by
  have HB : Hid (IntsS w (.slice aB bs.length cB) bs) := hB
  have HP : Hid (Puts w (.slice aC ps.length cC) ps) := hP
  have SB : Hid (AtS w aB bs.length bs) := sB
  have SP : Hid (AtP w aC ps.length ps) := sP
  have HF : Hid (faultF bs ps = 0) := hff
  obtain ⟨g1, g2⟩ := faultF_lens hff
  have G1 : Hid (bs.length ≤ 60) := g1
  have G2 : Hid (ps.length ≤ 200) := g2
  have HZ : Hid (∀ k : Nat, (bs[k]?.getD []).length ≤ 1048576) := hz
  have HZP : Hid (∀ k : Nat, (ps[k]?.getD (0, [])).2.length ≤ 1048576) := hzp
  clear hB hP sB sP hz hzp hff g1 g2
  go_enter Try.func21, Try.ntmps21
  go_wp2_with fail
  refine (fault_any _ _ _ bs ps (HB.out.later (later2 _ _ _)) (HP.out.later (later2 _ _ _))).mono ?_
  rw [HF.out]
  rintro e w1 ⟨rfl, hb1⟩
  have HW1 : Hid (Below w.heap.size w w1) := (later2 _ _ _).trans (hb1.mono (by simp; omega))
  have HX1 : Box2 w1 w.heap.size (.slice aB bs.length cB) (.slice aC ps.length cC) := ((Box2.new w _ _ 30).later (later1 _ _)).later hb1
  have HR1 : Hid (OwnRow w1 (w.heap.size + 1) 3 (fun i => if i = 0 then .int .i64 0 else if i = 1 then .slice none 0 0 else .slice none 0 0)) := resRow _ _ hb1
  have hz1 : w.heap.size + 1 < w1.heap.size := HR1.out.lt
  obtain ⟨x0, x1⟩ := HX1
  clear hb1
  go_wp2_with fail
  clear x0 x1
  refine (openDisk_walk _ aB aC bs.length cB ps.length cC bs ps rfl rfl G1.out G2.out (fun k _ => HZ.out k) (fun k _ => HZP.out k) (SB.out.later HW1.out) (SP.out.later HW1.out)).mono ?_
  rintro e w2 ⟨bd, g, aP, cP, pb, k, u, rfl, hdr⟩
  have HDR : Hid (Drive w1 w2 bd (some ⟨g, 0, none⟩) bs.length bs.length aP ps.length cP bs ps pb k u) := hdr
  have hbd1 : w1.heap.size ≤ bd := hdr.lo
  have hbd2 : bd < w2.heap.size := hdr.row.lt
  have HW2 : Hid (Below w.heap.size w w2) := HW1.out.trans (hdr.below.mono HW1.out.size)
  clear hdr
  have HSET : Hid (Calls _ _ _ _ _) := flush_any w2 w1.heap.size bd g bs.length ps.length aP cP bs ps pb k u hbd1 rfl G2.out G1.out (faultF_places HF.out) HZP.out HDR.out.row HDR.out.cache HDR.out.blocks
  go_wp2_with fail
  refine HSET.out.mono ?_
  rintro e w3 ⟨rfl, hb3, hr3, hi3⟩
  have HR3 : Hid (OwnRow w3 bd 2 (fun c => if c = 0 then .slice (some ⟨g, 0, none⟩) bs.length bs.length else .slice none 0 0)) := hr3
  have HI3 : Hid (IntsSO w3 (.slice (some ⟨g, 0, none⟩) bs.length bs.length) (keepTo (fun i => (List.replicate ps.length true)[i]?.getD false) bs ps ps.length) (fun c => w1.heap.size ≤ c ∧ c < w3.heap.size ∧ c ≠ bd)) := hi3
  have HW3 : Hid (Below w.heap.size w w3) := HW2.out.trans (hb3.mono HW1.out.size)
  have HQ3 : Hid (OwnRow w3 (w.heap.size + 1) 3 (fun i => if i = 0 then .int .i64 0 else if i = 1 then .slice none 0 0 else .slice none 0 0)) := (HR1.out.later HDR.out.below).block (hb3.block _ hz1)
  clear hb3 hr3 hi3 HSET
  have d0 := HR3.out.cell (i := 0) (by omega)
  have d1 := HR3.out.cell (i := 1) (by omega)
  simp at d0 d1
  go_wp2_with fail
  refine (disk_nil w3 bd 0 0 none (some ⟨g, 0, none⟩) bs.length bs.length d0 d1).mono ?_
  rintro e w4 ⟨rfl, hb4⟩
  have HW4 : Hid (Below w.heap.size w w4) := HW3.out.trans (hb4.mono HW3.out.size)
  have HI4 : Hid (IntsSO w4 (.slice (some ⟨g, 0, none⟩) bs.length bs.length) (keepTo (fun i => (List.replicate ps.length true)[i]?.getD false) bs ps ps.length) (fun c => w1.heap.size ≤ c ∧ c < w3.heap.size ∧ c ≠ bd)) := HI3.out.keep fun b hb hlt => hb4.block b hlt
  have HR4 := HQ3.out.later hb4
  have hz4 : w3.heap.size ≤ w4.heap.size := hb4.size
  have t0 := HR4.cell (i := 0) (by omega)
  have t1 := HR4.cell (i := 1) (by omega)
  have t2 := HR4.cell (i := 2) (by omega)
  have s0 := HR4.frozen 0
  have s1 := HR4.frozen 1
  have s2 := HR4.frozen 2
  simp at t0 t1 t2
  clear hb4 HR4 d0 d1
  go_wp2
  refine bodyPost_ret (v := .agg #[.int .i64 0, .slice (some ⟨g, 0, none⟩) bs.length bs.length, .slice none 0 0]) (by simp [results, Try.results21, go_sem, t0, t1, t2]) rfl ⟨_, _, _, _, _, _, rfl, ?_, ?_⟩
  · exact ((HW4.out.setCell (by simp) _).setCell (by simp) _).setCell (by simp) _
  · refine ⟨fun c => w1.heap.size ≤ c ∧ c < w3.heap.size ∧ c ≠ bd, fun _ => False, ((HI4.out.store (fun b hb => by simp; omega) _).store (fun b hb => by simp; omega) _).store (fun b hb => by simp; omega) _, Or.inl ⟨rfl, none, 0, rfl⟩, fun b _ h => h.elim, fun b hb => ?_⟩
    simp only [World.setCell, Array.size_modify]
    have h0 := HW1.out.size
    rcases hb with hb | hb
    · omega
    · exact hb.elim

theorem keepTo_congr {pk pk' : Nat → Bool} {bs : List (List Int)} {ps : List (Int × List Int)} (n : Nat) (h : ∀ i, i < n → pk i = pk' i) : keepTo pk bs ps n = keepTo pk' bs ps n := by
  induction n with
  | zero => rfl
  | succ n ih =>
    unfold keepTo
    rw [ih fun i hi => h i (by omega), h n (by omega)]

theorem implFlush_any (w : World) (vB vC : Value) (bs : List (List Int)) (ps : List (Int × List Int)) (hB : IntsS w vB bs) (hP : Puts w vC ps) (hz : ∀ k : Nat, (bs[k]?.getD []).length ≤ 1048576) (hzp : ∀ k : Nat, (ps[k]?.getD (0, [])).2.length ≤ 1048576) :
    Calls Try.prog 21 #[.agg #[vB, vC]] w (AnsDisk w (faultF bs ps) (keepBlocks (fun _ => true) bs ps) []) := by
  obtain ⟨aB, cB, rfl, _, sB⟩ := hB.open'
  obtain ⟨aC, cC, rfl, _, sP⟩ := hP.open'
  unfold keepBlocks
  by_cases hf : faultF bs ps = 0
  · rw [if_pos hf, hf]
    have := implFlush_ok w aB aC cB cC bs ps hB hP sB sP hf hz hzp
    rwa [keepTo_congr (pk' := fun _ => true) ps.length fun i hi => by simp [hi]] at this
  · rw [if_neg hf]
    exact (implFlush_fault w _ _ bs ps hB hP hf).mono fun e w' ⟨h1, h2⟩ => by rw [h1]; exact ans_bad h2 _
theorem implCrash_any (w : World) (vB vC : Value) (ap : Option Addr) (cap : Nat) (bs : List (List Int)) (ps : List (Int × List Int)) (pb : List Bool) (hB : IntsS w vB bs) (hP : Puts w vC ps) (hA : AtBs w ap pb.length pb) (hz : ∀ k : Nat, (bs[k]?.getD []).length ≤ 1048576) (hzp : ∀ k : Nat, (ps[k]?.getD (0, [])).2.length ≤ 1048576) :
    Calls Try.prog 35 #[.agg #[vB, vC], .slice ap pb.length cap] w (AnsDisk w (faultF bs ps) (keepBlocks (fun i => pb[i]?.getD false) bs ps) []) := by
  obtain ⟨aB, cB, rfl, _, sB⟩ := hB.open'
  obtain ⟨aC, cC, rfl, _, sP⟩ := hP.open'
  unfold keepBlocks
  by_cases hf : faultF bs ps = 0
  · rw [if_pos hf, hf]
    refine implCrash_ok w aB aC ap cB cC cap bs ps pb hB hP sB sP hA (fun b off e h => ?_) hf hz hzp
    obtain ⟨b', off', e', c⟩ := hA 0 h
    rw [e] at e'
    simp only [Option.some.injEq, Addr.mk.injEq, and_true] at e'
    have := World.block_lt_of_cell? _ _ c
    simp at this
    omega
  · rw [if_neg hf]
    exact (implCrash_fault w _ _ _ bs ps hB hP hf).mono fun e w' ⟨h1, h2⟩ => by rw [h1]; exact ans_bad h2 _
end Go.Proofs.Ytomcejofhfngkaa

namespace Go.Proofs.Ytomcejofhfngkaa
open Go.RowKit
set_option maxRecDepth 100000

def Bools (w : World) (v : Value) (zs : List Bool) : Prop :=
  (zs = [] ∧ ∃ a cap, v = .slice a 0 cap) ∨
  (∃ b off cap, v = .slice (some ⟨b, off, none⟩) zs.length cap ∧ zs.length ≤ maxLen ∧ ∀ k, k < zs.length → w.cell? ⟨b, off + k, none⟩ = some (.bool (zs[k]?.getD false)))
theorem Bools.later {w wx : World} {v : Value} {zs : List Bool} (h : Bools w v zs) (hb : Below w.heap.size w wx) : Bools wx v zs := by
  rcases h with h | ⟨b, off, cap, h1, h2, h3⟩
  · exact Or.inl h
  · exact Or.inr ⟨b, off, cap, h1, h2, fun k hk => cell_later hb (h3 k hk)⟩
theorem Bools.open' {w : World} {v : Value} {zs : List Bool} (h : Bools w v zs) : ∃ a cap, v = .slice a zs.length cap ∧ zs.length ≤ maxLen ∧ AtBs w a zs.length zs := by
  rcases h with ⟨rfl, a, cap, rfl⟩ | ⟨b, off, cap, rfl, hl, hc⟩
  · exact ⟨a, cap, rfl, by simp, fun k hk => by simp at hk⟩
  · exact ⟨_, cap, rfl, hl, fun k hk => ⟨b, off, rfl, hc k hk⟩⟩
/-- .. in one block of F. -/
def BoolsO (w : World) (v : Value) (zs : List Bool) (F : Nat → Prop) : Prop :=
  (zs = [] ∧ ∃ a cap, v = .slice a 0 cap) ∨
  (∃ b cap, F b ∧ v = .slice (some ⟨b, 0, none⟩) zs.length cap ∧ zs.length ≤ maxLen ∧ OwnRow w b zs.length (fun i => .bool (zs[i]?.getD false)))
theorem BoolsO.reads {w : World} {v : Value} {zs : List Bool} {F : Nat → Prop} (h : BoolsO w v zs F) : Bools w v zs := by
  rcases h with h | ⟨b, cap, _, h1, h2, h3⟩
  · exact Or.inl h
  · exact Or.inr ⟨b, 0, cap, h1, h2, fun k hk => by rw [Nat.zero_add]; exact h3.cell hk⟩
theorem BoolsO.keep {w w' : World} {v : Value} {zs : List Bool} {F : Nat → Prop} (h : BoolsO w v zs F) (e : ∀ b, F b → b < w.heap.size → w'.heap[b]? = w.heap[b]?) : BoolsO w' v zs F := by
  rcases h with h | ⟨b, cap, hF, h1, h2, h3⟩
  · exact Or.inl h
  · exact Or.inr ⟨b, cap, hF, h1, h2, h3.block (e b hF h3.lt)⟩
theorem BoolsO.mono {w : World} {v : Value} {zs : List Bool} {F G : Nat → Prop} (h : BoolsO w v zs F) (e : ∀ b, F b → G b) : BoolsO w v zs G := by
  rcases h with h | ⟨b, cap, hF, h1⟩
  · exact Or.inl h
  · exact Or.inr ⟨b, cap, e b hF, h1⟩
theorem BoolsO.later {w w' : World} {v : Value} {zs : List Bool} {F : Nat → Prop} (h : BoolsO w v zs F) (hb : Below w.heap.size w w') : BoolsO w' v zs F := h.keep fun b _ hlt => hb.block b hlt
theorem BoolsO.chg {w w' : World} {v : Value} {zs : List Bool} {F G : Nat → Prop} (h : BoolsO w v zs F) (hc : Chg G w w') (hd : ∀ b, F b → ¬ G b) : BoolsO w' v zs F := h.keep fun b hb hlt => hc.block b hlt (hd b hb)

theorem row_bool {w : World} {b n : Nat} {f : Nat → Bool} (h : OwnRow w b n (fun i => .bool (f i))) (j : Nat) (x : Bool) : ∃ g : Nat → Bool, OwnRow (w.setCell ⟨b, j, none⟩ (.bool x)) b n (fun i => .bool (g i)) :=
  ⟨fun i => if i = j then x else f i, (h.set j _).congr fun i _ => by by_cases e : i = j <;> simp [e]⟩

end Go.Proofs.Ytomcejofhfngkaa

namespace Go.Proofs.Ytomcejofhfngkaa
open Go.RowKit
set_option maxRecDepth 100000

set_option maxHeartbeats 6400000 in
theorem l1Copy_said : L1CopySaid := by
  intro w aB aC nB cB nC cC bs ps hbl hpl g1 g2 hz hzp hB hP
  have HBL : Hid (bs.length = nB) := hbl
  have HPL : Hid (ps.length = nC) := hpl
  have HZ : Hid (∀ k : Nat, (bs[k]?.getD []).length ≤ 1048576) := hz
  have HZP : Hid (∀ k : Nat, (ps[k]?.getD (0, [])).2.length ≤ 1048576) := hzp
  have HB : Hid (AtS w aB nB bs) := hB
  have HP : Hid (AtP w aC nC ps) := hP
  clear hbl hpl hz hzp hB hP
  obtain ⟨tj, hi, h1, h2, h3⟩ := Try.infoInts'
  have HTJ : Hid (Try.prog.info? 26 = some tj ∧ tj.zero = some (.slice none 0 0) ∧ tj.size = 1 ∧ tj.bytes = 24) := ⟨hi, h1, h2, h3⟩
  clear hi h1 h2 h3
  go_enter Try.func46, Try.ntmps46
  go_wp2_with fail
  go_loopw [4] (fun i wr => ∃ j : Nat, j ≤ nB ∧ i = .int .i64 j ∧ Below w.heap.size w wr ∧ w.heap.size + 3 ≤ wr.heap.size ∧ Box2 wr w.heap.size (.slice aB nB cB) (.slice aC nC cC) ∧ OwnRow wr (w.heap.size + 1) 2 (fun c => if c = 0 then .slice none 0 0 else .slice none 0 0) ∧
    ∃ aX cX k u, OwnRow wr (w.heap.size + 2) 2 (fun c => if c = 0 then .slice aX j cX else .slice none 0 0) ∧ LRow C1 wr (w.heap.size + 3) (w.heap.size + 3) 26 1 (.slice aX j cX) j (fun i => bs[i]?.getD []) k u) (fun i _ => nB - (intOf i).toNat)
  case atStart =>
    refine ⟨0, Nat.zero_le _, rfl, later3 _ _ _ _, by simp, ((Box2.new _ _ _ _).later (later1 _ _)).later (later1 _ _), ?_, none, 0, fun _ => 0, fun _ => .slice none 0 0, ?_, LRow.nil _ _ _ _ _ _⟩
    · have := (OwnRow.two (w.alloc (.cells #[.slice aB nB cB, .slice aC nC cC] 30)) (.slice none 0 0) (.slice none 0 0) 30).later (later1 _ (.cells #[.slice none 0 0, .slice none 0 0] 30))
      simpa using this
    · have := OwnRow.two ((w.alloc (.cells #[.slice aB nB cB, .slice aC nC cC] 30)).alloc (.cells #[.slice none 0 0, .slice none 0 0] 30)) (.slice none 0 0) (.slice none 0 0) 30
      simpa using this
  case round =>
    obtain ⟨j, hj, rfl, hbw, hsz, hbx, hres, aX, cX, k, u, hrow, hlr⟩ := hrel
    have HBW : Hid (Below w.heap.size w wr) := hbw
    have HBX : Hid (Box2 wr w.heap.size (.slice aB nB cB) (.slice aC nC cC)) := hbx
    have HRES : Hid (OwnRow wr (w.heap.size + 1) 2 (fun c => if c = 0 then .slice none 0 0 else .slice none 0 0)) := hres
    have HROW : Hid (OwnRow wr (w.heap.size + 2) 2 (fun c => if c = 0 then .slice aX j cX else .slice none 0 0)) := hrow
    have HLR : Hid (LRow C1 wr (w.heap.size + 3) (w.heap.size + 3) 26 1 (.slice aX j cX) j (fun i => bs[i]?.getD []) k u) := hlr
    clear hbw hbx hres hrow hlr
    obtain ⟨b0, b1⟩ := HBX.out
    by_cases hlt : j < nB
    · obtain ⟨b, off, ua, ucap, e, c1, i1⟩ := HB.out j hlt
      subst e
      replace c1 := cell_later HBW.out c1
      have HI : Hid (Ints wr (.slice ua (bs[j]?.getD []).length ucap) (bs[j]?.getD [])) := i1.later HBW.out
      clear i1
      have q0 := HROW.out.cell (i := 0) (by omega)
      have q1 := HROW.out.frozen 0
      simp at q0
      have hbig : w.heap.size + 2 < wr.heap.size := by omega
      go_wp2_with fail
      go_region_law (first
        | (refine step_append_run rfl _ _ 22 rfl _ _ rfl rfl _ _ HR.out ?_)
        | (go_simp; go_at_call 47; refine (l1Ints_more ?_ (HZ.out j)).mono ?_; exact HI.out; rintro e w1 ⟨na, nc, rfl, hb1, ho1, hs1⟩
           obtain ⟨kb, hk1, hk2, hkf⟩ := ho1.one hs1
           obtain ⟨hi, h1, h2, h3⟩ := HTJ.out
           obtain ⟨g2, cap2, X, hr, hXb, hBX, hXs, hLX⟩ := LRow.append wr w1 22 22 26 tj _ 1 24 Try.underlying22 hi h1 h2 h3 rfl (by decide) (by decide) (w.heap.size + 3) (w.heap.size + 3) j _ _ k u HLR.out hsz (by omega) ((Below.refl _ _).drew.trans hb1) na nc rfl (fun x hx => by simp [C1] at hx; subst hx; rfl) kb (Nat.le_trans hsz hk1) hk2 (fun e => by have := (HLR.out.own.lt _ e).2; exact absurd hk1 (by show ¬ wr.heap.size ≤ kb; omega)) (fun i hi e => by have := (HLR.out.lo i hi).2; exact absurd hk1 (by show ¬ wr.heap.size ≤ kb; omega)) hkf
           have HR : Hid (_ = _) := hr
           have z0 := cell_later hb1 q0
           have z3 := cell_later hb1 b0
           have z4 := cell_later hb1 c1
           have HBX2 : Hid (Below (w.heap.size + 3) wr X) := hBX
           have HLX := hLX
           have HLX2 : Hid (LRow C1 X (w.heap.size + 3) (w.heap.size + 3) 26 1 (.slice (some ⟨g2, 0, none⟩) (j + 1) cap2) (j + 1) (fun i => bs[i]?.getD []) _ _) := HLX
           have x0 : X.cell? ⟨w.heap.size + 2, 0, none⟩ = some (.slice aX j cX) := (hBX.cell (p := ⟨w.heap.size + 2, 0, none⟩) (by simp)).trans q0
           have x1 : X.frozen? ⟨w.heap.size + 2, 0, none⟩ = false := (hBX.frozen (p := ⟨w.heap.size + 2, 0, none⟩) (by simp)).trans q1
           have hw1 : w.heap.size + 2 < w1.heap.size := Nat.lt_of_lt_of_le hbig hb1.size
           have hw0 : w.heap.size < w1.heap.size := Nat.lt_of_le_of_lt (Nat.le_add_right _ 2) hw1
           clear hr hXb hBX hLX HLX hb1 ho1 hs1 hkf hk1 hk2 hi h1 h2 h3 hXs))
      all_goals
        go_wp2
        go_roundw
        case rel =>
          refine ⟨j + 1, by omega, by go_num, (HBW.out.trans (HBX2.out.mono (by omega))).setCell (by simp; omega) _, ?_, ?_, (HRES.out.block (HBX2.out.block _ (by omega))).store (by simp) _, some ⟨g2, 0, none⟩, cap2, _, _, ((HROW.out.block (HBX2.out.block _ (by omega))).set 0 _).congr fun c hc => ?_, HLX2.out.store (by simp) (by simp) _⟩
          · have := HBX2.out.size; simp [World.setCell]; omega
          · have hb := World.cell?_of_block (w := X) (a := ⟨w.heap.size, 0, none⟩) (Below.heap_setCell X ⟨w.heap.size + 2, 0, none⟩ (.slice (some ⟨g2, 0, none⟩) (j + 1) cap2) w.heap.size (by simp))
            have hb' := World.cell?_of_block (w := X) (a := ⟨w.heap.size, 1, none⟩) (Below.heap_setCell X ⟨w.heap.size + 2, 0, none⟩ (.slice (some ⟨g2, 0, none⟩) (j + 1) cap2) w.heap.size (by simp))
            exact ⟨hb.trans ((HBX2.out.cell (p := ⟨w.heap.size, 0, none⟩) (by simp)).trans b0), hb'.trans ((HBX2.out.cell (p := ⟨w.heap.size, 1, none⟩) (by simp)).trans b1)⟩
          · have : c = 0 ∨ c = 1 := by omega
            rcases this with rfl | rfl <;> simp
        case measure => simp [intOf]; omega
    · have e : j = nB := by omega
      subst e
      have HC0 : Hid (Copy2 w wr.heap.size aB aC aX j cB nC cC cX bs ps wr 0) := ⟨HBW.out, Nat.le_refl _, HBX.out, HRES.out, HLR.out.intsS HBL.out _ (fun c h1 h2 => ⟨h1, h2⟩) (fun c h1 h2 => ⟨h1, h2⟩), none, 0, fun _ => 0, fun _ => .slice none 0 0, HROW.out, LRow.nil _ _ _ _ _ _⟩
      clear HLR hlt hj HB HBW HBX HRES HROW
      go_wp2_with fail
      clear b0 b1
      generalize hS : wr.heap.size = S at *
      clear hS
      go_loopw [5] (fun i wq => ∃ q : Nat, q ≤ nC ∧ i = .int .i64 q ∧ Copy2 w S aB aC aX j cB nC cC cX bs ps wq q) (fun i _ => nC - (intOf i).toNat)
      case atStart => exact ⟨0, Nat.zero_le _, rfl, HC0.out⟩
      case round =>
        obtain ⟨q, hq, rfl, hcp⟩ := hrel
        have HCP : Hid (Copy2 w S aB aC aX j cB nC cC cX bs ps wr q) := hcp
        obtain ⟨hbw, hsq, ⟨b0, c0⟩, hres, his, aY, cY, k, u, hrow, hlr⟩ := hcp
        by_cases hqn : q < nC
        · obtain ⟨b, off, ua, ucap, e, c1, c2, i1⟩ := HP.out q hqn
          subst e
          have hblt : b < w.heap.size := World.block_lt_of_cell? _ _ c1
          replace c1 := cell_later hbw c1
          replace c2 := cell_later hbw c2
          have HK := l1Ints_put wr S q _ _ (fun i => ps[i]?.getD (0, [])) k u hlr hsq (by omega) (i1.later hbw) (HZP.out q)
          have HK2 : Hid (Calls _ _ _ _ _) := HK
          have p0 := hrow.cell (i := 1) (by omega)
          have p1 := hrow.frozen 1
          simp at p0
          have hbw2 : w.heap.size + 2 < wr.heap.size := hrow.lt
          have hS3 : w.heap.size + 2 < S := hsz
          clear i1 HK hbw hres his hrow hlr HC0 HP HZ HBL HPL HTJ b0
          go_wp2_with fail
          go_region_law
            (first
              | (refine step_append_run rfl _ _ 28 rfl _ _ rfl rfl _ _ HR.out ?_)
              | (go_simp; go_at_call 47; refine HK2.out.mono ?_; rintro e w1 ⟨na, nc, g2, cap2, X, k', u', rfl, HR, hb1, hBX, HL⟩
                 have o0 := cell_later hb1 p0
                 have z0 := cell_later hb1 c0
                 have z1 := cell_later hb1 c1
                 have z2 := cell_later hb1 c2
                 have x3 := (hBX.cell (p := ⟨w.heap.size + 2, 1, none⟩) hS3).trans p0
                 have x4 := (hBX.frozen (p := ⟨w.heap.size + 2, 1, none⟩) hS3).trans p1
                 have hw1 := Nat.lt_of_lt_of_le hbw2 hb1.size
                 have HX : Hid (Below S wr X) := hBX
                 clear hb1 hBX))
          all_goals
            go_wp2
            go_roundw
            case rel => exact ⟨q + 1, by omega, by go_num, HCP.out.next hS3 HX.out HL.out⟩
            case measure => simp [intOf]; omega
        · have e : q = nC := by omega
          subst e
          have q0 := hrow.cell (i := 0) (by omega)
          have q1 := hrow.cell (i := 1) (by omega)
          have r0 := hres.cell (i := 0) (by omega)
          have r1 := hres.cell (i := 1) (by omega)
          have r2 := hres.frozen 0
          have r3 := hres.frozen 1
          simp at q0 q1 r0 r1
          have HB5 : Hid (Below w.heap.size w wr) := hbw
          have HI5 : Hid (IntsSO wr (.slice aX j cX) bs (fun c => w.heap.size + 3 ≤ c ∧ c < S)) := his
          have HL5 : Hid (LRow (C2 fun i => (ps[i]?.getD (0, [])).1) wr S S 71 2 (.slice aY q cY) q (fun i => (ps[i]?.getD (0, [])).2) k u) := hlr
          clear hbw his hlr hrow hres
          go_wp2
          refine bodyPost_ret (v := .agg #[.slice aX j cX, .slice aY q cY]) (by simp [results, Try.results46, go_sem, r0, r1]) rfl ⟨S, aX, cX, aY, cY, k, u, rfl, (HB5.out.setCell (by simp) _).setCell (by simp) _, by omega, by simpa [World.setCell] using hsq, ?_, (HL5.out.store (by simp; omega) (by simp; omega) _).store (by simp; omega) (by simp; omega) _⟩
          exact ((HI5.out.store (fun b hb => by simp; omega) _).store (fun b hb => by simp; omega) _).mono fun b hb => ⟨by omega, hb.2⟩
end Go.Proofs.Ytomcejofhfngkaa

namespace Go.Proofs.Ytomcejofhfngkaa
open Go.RowKit
set_option maxRecDepth 100000

def flushR (d : DK) : Int × DK := (faultF d.1 d.2, keepBlocks (fun _ => true) d.1 d.2, [])
def crashR (d : DK) (bb : List Bool) : Int × DK := (faultF d.1 d.2, keepBlocks (fun i => bb[i]?.getD false) d.1 d.2, [])
theorem small_blocks {d : DK} (h : sizeDisk d ≤ 1048576) (k : Nat) : (d.1[k]?.getD []).length ≤ 1048576 := by
  have := len_le_sum d.1 k
  unfold sizeDisk dsize at h
  omega
theorem small_puts {d : DK} (h : sizeDisk d ≤ 1048576) (k : Nat) : (d.2[k]?.getD (0, [])).2.length ≤ 1048576 := by
  have := wlen_le_sum d.2 k
  unfold sizeDisk dsize at h
  omega
theorem sum_le_mul {zss : List (List Int)} {M : Nat} (h : ∀ i : Nat, (zss[i]?.getD []).length ≤ M) : (zss.map List.length).sum ≤ zss.length * M := by
  induction zss with
  | nil => simp
  | cons a t ih =>
    have h0 := h 0
    have ht := ih fun i => by simpa using h (i + 1)
    simp at h0
    simp only [List.map_cons, List.sum_cons, List.length_cons, Nat.add_mul, Nat.one_mul]
    omega
theorem keepSpan (pk : Nat → Bool) (d : DK) (h : sizeDisk d ≤ 1048576) : spanDisk (keepBlocks pk d.1 d.2, []) ≤ 70000000 := by
  unfold keepBlocks
  split
  · rename_i hf
    have h1 := sum_le_mul (keepTo_len pk d.1 d.2 (small_blocks h) (small_puts h) d.2.length)
    rw [keepTo_length] at h1
    have h2 := (faultF_lens hf).1
    have h3 := Nat.mul_le_mul_right 1048576 h2
    simp only [spanDisk, dspan, wlens, List.map_nil, List.sum_nil, List.length_nil]
    omega
  · simp [spanDisk, dspan, wlens]

theorem specFlushU (w : World) (aB : Option Addr) (nB cB : Nat) (aC : Option Addr) (nC cC : Nat) (d : DK) (h : DiskR w (.slice aB nB cB) (.slice aC nC cC) d) (s : sizeDisk d ≤ 1048576) :
    Calls Try.prog 20 #[.agg #[.slice aB nB cB, .slice aC nC cC]] w (AnsDR w (flushR d)) :=
  (specFlush_any l1Copy_said w _ _ d.1 d.2 h.1 h.2 (small_blocks s) (small_puts s)).mono fun _ _ h => h.uni
theorem implFlushU (w : World) (aB : Option Addr) (nB cB : Nat) (aC : Option Addr) (nC cC : Nat) (d : DK) (h : DiskR w (.slice aB nB cB) (.slice aC nC cC) d) (s : sizeDisk d ≤ 1048576) :
    Calls Try.prog 21 #[.agg #[.slice aB nB cB, .slice aC nC cC]] w (AnsDR w (flushR d)) :=
  (implFlush_any w _ _ d.1 d.2 h.1 h.2 (small_blocks s) (small_puts s)).mono fun _ _ h => h.uni
theorem implCrashU (w : World) (aB : Option Addr) (nB cB : Nat) (aC : Option Addr) (nC cC : Nat) (d : DK) (a : Option Addr) (n c : Nat) (bb : List Bool) (h : DiskR w (.slice aB nB cB) (.slice aC nC cC) d) (hb : Bools w (.slice a n c) bb) (s : sizeDisk d ≤ 1048576) (_s : bb.length ≤ 1048576) :
    Calls Try.prog 35 #[.agg #[.slice aB nB cB, .slice aC nC cC], .slice a n c] w (AnsDR w (crashR d bb)) := by
  obtain ⟨a', c', e, _, hA⟩ := hb.open'
  rw [e]
  exact (implCrash_any w _ _ a' c' d.1 d.2 bb h.1 h.2 hA (small_blocks s) (small_puts s)).mono fun _ _ h => h.uni
end Go.Proofs.Ytomcejofhfngkaa

namespace Go.Proofs.Ytomcejofhfngkaa
open Go.RowKit
set_option maxRecDepth 100000

theorem small_kern {d : KD} (h : sizeKern d ≤ 1048576) : sizeDisk d.1 ≤ 1048576 := by unfold sizeKern at h; omega
theorem bad_span (c : Int) : spanKRes ((c, [], ([], []), []) : Int × KResD).2 = 0 := rfl
theorem writeSpan (d : KD) (key x : Int) (ws : List Int) : spanKRes (writeR d key x ws).2 ≤ 3 * sizeKern d + 1 + ws.length := by
  unfold writeR
  split
  · split
    · simp only [spanKRes, spanKern, spanDisk, dspan, sizeKern, sizeDisk, dsize, wlens, List.map_append, List.sum_append, List.length_append, List.map_cons, List.map_nil, List.sum_cons, List.sum_nil, List.length_cons, List.length_nil]
      omega
    · rw [bad_span]; omega
  · rw [bad_span]; omega
theorem specWriteU (w : World) (aB : Option Addr) (nB cB : Nat) (aC : Option Addr) (nC cC : Nat) (aE : Option Addr) (nE cE : Nat) (d : KD) (key x : Int) (a : Option Addr) (n c : Nat) (ws : List Int) (h : KernR w (.slice aB nB cB) (.slice aC nC cC) (.slice aE nE cE) d) (hv : Ints w (.slice a n c) ws) (s : sizeKern d ≤ 1048576) (s' : ws.length ≤ 1048576) :
    Calls Try.prog 23 #[.agg #[.slice aB nB cB, .slice aC nC cC, .slice aE nE cE], .int .i64 key, .int .i64 x, .slice a n c] w (AnsKR w (writeR d key x ws)) :=
  specWrite_any l1Copy_said w _ _ _ _ d key x ws h hv (small_blocks (small_kern s)) (small_puts (small_kern s)) s'
theorem implWriteU (w : World) (aB : Option Addr) (nB cB : Nat) (aC : Option Addr) (nC cC : Nat) (aE : Option Addr) (nE cE : Nat) (d : KD) (key x : Int) (a : Option Addr) (n c : Nat) (ws : List Int) (h : KernR w (.slice aB nB cB) (.slice aC nC cC) (.slice aE nE cE) d) (hv : Ints w (.slice a n c) ws) (s : sizeKern d ≤ 1048576) (s' : ws.length ≤ 1048576) :
    Calls Try.prog 25 #[.agg #[.slice aB nB cB, .slice aC nC cC, .slice aE nE cE], .int .i64 key, .int .i64 x, .slice a n c] w (AnsKR w (writeR d key x ws)) :=
  implWrite_any w _ _ _ _ d key x ws h hv (small_blocks (small_kern s)) (small_puts (small_kern s)) s'
end Go.Proofs.Ytomcejofhfngkaa

namespace Go.Proofs.Ytomcejofhfngkaa
open Go.ChangeShapes Go.WideShapes Go.ChangeAt Go.RowKit Go.Deep
set_option maxRecDepth 100000

section
variable {H : Type} {enc : TypeId × Value → H} {P : Program} {w : World} {base : Nat} {held : Bool}

theorem addr_of {a : Addr} {v : Value} (h : w.cell? (a.add 0) = some v) : a = ⟨a.block, a.off, none⟩ := by
  obtain ⟨b, o, s⟩ := a
  have : s = none := by simpa [Addr.add] using World.cell?_spot h
  subst this; rfl
theorem add_plain (b off k : Nat) : (⟨b, off, none⟩ : Addr).add k = ⟨b, off + k, none⟩ := by
  by_cases h : k = 0
  · subst h; simp [Addr.add]
  · simp [Addr.add, h]

theorem open_Ints {t e : TypeId} {fuel : Nat} {v : Value} {x : DataW H × List MemPlace} (ht : P.underlying t = some (.slice e)) (he : P.underlying e = some (.int .i64)) (ce : P.cellsOf e = 1) (h : DataW.trod enc P w base (fun _ => true) held fuel t [v] = some x) :
    ∃ zs, Ints w v zs := by
  rcases open_ints ht he ce h with ⟨hcs, _⟩ | ⟨a, len, cap, zs, hcs, _, hl, hm, hz, _, hcell, _⟩
  · simp only [List.cons.injEq, and_true] at hcs
    exact ⟨[], Or.inl ⟨rfl, none, 0, hcs⟩⟩
  · simp only [List.cons.injEq, and_true] at hcs
    simp only [if_true] at hz
    by_cases h0 : len = 0
    · subst h0; exact ⟨[], Or.inl ⟨rfl, some a, cap, hcs⟩⟩
    · have ha := addr_of (hcell 0 (by omega))
      refine ⟨zs.take len, Or.inr ⟨a.block, a.off, cap, ?_, ?_, fun k hk => ?_⟩⟩
      · rw [hcs, List.length_take, Nat.min_eq_left (by omega), ← ha]
      · rw [List.length_take]; omega
      · rw [List.length_take] at hk
        have h1 := hcell k (by omega)
        rw [ha, add_plain] at h1
        rw [h1, List.getElem?_take, if_pos (by omega)]
        rfl

theorem open_IntsS {t e q : TypeId} {fuel : Nat} {v : Value} {x : DataW H × List MemPlace} (ht : P.underlying t = some (.slice e)) (he : P.underlying e = some (.slice q)) (hq : P.underlying q = some (.int .i64)) (ce : P.cellsOf e = 1) (cq : P.cellsOf q = 1)
    (h : DataW.trod enc P w base (fun _ => true) held fuel t [v] = some x) : ∃ zss, IntsS w v zss := by
  rcases open_slice1 ht ce h with ⟨hcs, _⟩ | ⟨a, len, cap, m, n, V, D, Pl, hcs, _, hl, hm, hmm, _, hx⟩
  · simp only [List.cons.injEq, and_true] at hcs
    exact ⟨[], Or.inl ⟨rfl, none, 0, hcs⟩⟩
  · simp only [List.cons.injEq, and_true] at hcs
    simp only [if_true] at hmm
    by_cases h0 : len = 0
    · subst h0; exact ⟨[], Or.inl ⟨rfl, some a, cap, hcs⟩⟩
    · have ha := addr_of (hx 0 (by omega)).1
      obtain ⟨Z, hZ⟩ := choose_lt (α := List Int) (n := m) (p := fun i zs => Ints w (V i) zs) fun i hi => open_Ints he hq cq (hx i hi).2
      refine ⟨(List.range len).map Z, Or.inr ⟨a.block, a.off, cap, V, ?_, ?_, fun k hk => ?_⟩⟩
      · simp only [List.length_map, List.length_range]; rw [hcs, ← ha]
      · simp only [List.length_map, List.length_range]; omega
      · simp only [List.length_map, List.length_range] at hk
        have h1 := (hx k (by omega)).1
        rw [ha, add_plain] at h1
        refine ⟨h1, ?_⟩
        have := hZ k (by omega)
        simpa [hk] using this

theorem open_Puts {t e q : TypeId} {f0 f1 : Field} {fuel : Nat} {v : Value} {x : DataW H × List MemPlace} (ht : P.underlying t = some (.slice e)) (he : P.underlying e = some (.struct #[f0, f1]))
    (ce : P.cellsOf e = 2) (o0 : f0.offset = 0) (o1 : f1.offset = 1) (c0 : P.cellsOf f0.type = 1) (c1 : P.cellsOf f1.type = 1) (h0 : P.underlying f0.type = some (.int .i64)) (h1 : P.underlying f1.type = some (.slice q)) (hq : P.underlying q = some (.int .i64)) (cq : P.cellsOf q = 1)
    (h : DataW.trod enc P w base (fun _ => true) held fuel t [v] = some x) : ∃ ps, Puts w v ps := by
  rcases open_slice_pairs ht he ce o0 o1 c0 c1 h with ⟨hcs, _⟩ | ⟨a, len, cap, m, n, V0, V1, D0, D1, P0, P1, hcs, _, hl, hm, hmm, _, hx⟩
  · simp only [List.cons.injEq, and_true] at hcs
    exact ⟨[], Or.inl ⟨rfl, none, 0, hcs⟩⟩
  · simp only [List.cons.injEq, and_true] at hcs
    simp only [if_true] at hmm
    by_cases hl0 : len = 0
    · subst hl0; exact ⟨[], Or.inl ⟨rfl, some a, cap, hcs⟩⟩
    · have ha := addr_of (by simpa using (hx 0 (by omega)).1)
      obtain ⟨Z, hZ⟩ := choose_lt (α := Int × List Int) (n := m) (p := fun i z => V0 i = .int .i64 z.1 ∧ Ints w (V1 i) z.2) fun i hi => by
        obtain ⟨_, _, g0, g1⟩ := hx i hi
        obtain ⟨zs, hzs⟩ := open_Ints h1 hq cq g1
        obtain ⟨y, hy, _⟩ := DataW.trod_int h0 g0
        simp only [List.cons.injEq, and_true] at hy
        exact ⟨(y, zs), hy, hzs⟩
      refine ⟨(List.range len).map Z, Or.inr ⟨a.block, a.off, cap, V1, ?_, ?_, fun k hk => ?_⟩⟩
      · simp only [List.length_map, List.length_range]; rw [hcs, ← ha]
      · simp only [List.length_map, List.length_range]; omega
      · simp only [List.length_map, List.length_range] at hk
        obtain ⟨e0, e1, _, _⟩ := hx k (by omega)
        rw [ha, add_plain] at e0 e1
        obtain ⟨g0, g1⟩ := hZ k (by omega)
        rw [g0] at e0
        have hg : ((List.range len).map Z)[k]?.getD (0, []) = Z k := by simp [hk]
        rw [hg]
        exact ⟨e0, e1, g1⟩
end

end Go.Proofs.Ytomcejofhfngkaa

namespace Go.Proofs.Ytomcejofhfngkaa
open Go.ChangeShapes Go.WideShapes Go.ChangeAt Go.RowKit Go.Joins
set_option maxRecDepth 100000

theorem Try.own : ownKnob Try.prog.godebug = none := by kernel_rfl
theorem Try.laidOut : laidOutB Try.prog = true := by kernel_rfl
theorem Try.cellsDisk : Try.prog.cellsOf 25 = 2 := by kernel_rfl
theorem Try.cellsPut : Try.prog.cellsOf 125 = 2 := by kernel_rfl
theorem Try.cellsInt : Try.prog.cellsOf 2 = 1 := by kernel_rfl
theorem Try.cellsInts : Try.prog.cellsOf 26 = 1 := by kernel_rfl

set_option maxRecDepth 100000 in
/-- The argument of type Disk, opened. -/
theorem open_Disk {H : Type} {enc : TypeId × Value → H} {W : World} {r : Reach} {b0 : Nat} {v : Value} {d : DataW H} {p : List MemPlace} (hv : Value.okWide Try.prog W r b0 25 v) (h : DataW.Trod enc Try.prog W 0 (fun _ => true) true 25 v d p) :
    ∃ vB vC bs ps, v = .agg #[vB, vC] ∧ IntsS W vB bs ∧ Puts W vC ps := by
  obtain ⟨c0, c1, y0, y1, m, rfl, _, _, hy0, hy1⟩ := open_agg2 Try.underlying25 (by kernel_rfl) Try.cellsDisk hv h
  obtain ⟨bs, hbs⟩ := open_IntsS Try.underlying22 Try.underlying26 Try.underlying2 Try.cellsInts Try.cellsInt hy0
  obtain ⟨ps, hps⟩ := open_Puts Try.underlying23 Try.underlying125 Try.cellsPut rfl rfl Try.cellsInt Try.cellsInts Try.underlying2 Try.underlying26 Try.underlying2 Try.cellsInt hy1
  exact ⟨c0, c1, bs, ps, rfl, hbs, hps⟩

end Go.Proofs.Ytomcejofhfngkaa

namespace Go.Proofs.Ytomcejofhfngkaa
open Go.ChangeShapes Go.WideShapes Go.ChangeAt Go.RowKit Go.Joins Go.Deep
set_option maxRecDepth 100000

theorem open_Exts {H : Type} {enc : TypeId × Value → H} {P : Program} {w : World} {base : Nat} {held : Bool} {t e : TypeId} {f0 f1 f2 : Field} {fuel : Nat} {v : Value} {x : DataW H × List MemPlace} (ht : P.underlying t = some (.slice e)) (he : P.underlying e = some (.struct #[f0, f1, f2]))
    (ce : P.cellsOf e = 3) (o0 : f0.offset = 0) (o1 : f1.offset = 1) (o2 : f2.offset = 2) (c0 : P.cellsOf f0.type = 1) (c1 : P.cellsOf f1.type = 1) (c2 : P.cellsOf f2.type = 1) (h0 : P.underlying f0.type = some (.int .i64)) (h1 : P.underlying f1.type = some (.int .i64)) (h2 : P.underlying f2.type = some (.int .i64))
    (h : DataW.trod enc P w base (fun _ => true) held fuel t [v] = some x) : ∃ es, Exts w v es := by
  rcases open_slice ht h with ⟨hcs, _⟩ | ⟨a, len, cap, m, n, D, Pl, hcs, hb, hl, hm, hmm, _, hx⟩
  · simp only [List.cons.injEq, and_true] at hcs
    exact ⟨[], by rw [hcs]; exact Exts.nil w none 0⟩
  · simp only [List.cons.injEq, and_true] at hcs
    simp only [if_true] at hmm
    by_cases hl0 : len = 0
    · subst hl0; exact ⟨[], by rw [hcs]; exact Exts.nil w (some a) cap⟩
    · have each : ∀ i, i < m → ∃ q : E3, w.cell? (a.add (i * 3)) = some (.int .i64 q.1) ∧ w.cell? (a.add (i * 3 + 1)) = some (.int .i64 q.2.1) ∧ w.cell? (a.add (i * 3 + 2)) = some (.int .i64 q.2.2) := by
        intro i hi
        obtain ⟨cs', k1, k2⟩ := hx i hi
        rw [ce] at k1
        obtain ⟨_, hlen, hcell⟩ := World.cells?_some k1
        obtain ⟨xs, k, hk, hxy, _, hxl, hf⟩ := DataW.trod_struct he k2
        match xs, hxl, cs', hlen with
        | [y0, y1, y2], _, [v0, v1, v2], _ =>
          have g0 := hf 0 f0 rfl
          have g1 := hf 1 f1 rfl
          have g2 := hf 2 f2 rfl
          simp [o0, o1, o2, c0, c1, c2] at g0 g1 g2
          have e0 := hcell 0 (by omega)
          have e1 := hcell 1 (by omega)
          have e2 := hcell 2 (by omega)
          rw [add_add] at e0 e1 e2
          obtain ⟨z0, hz0, _⟩ := DataW.trod_int h0 g0
          obtain ⟨z1, hz1, _⟩ := DataW.trod_int h1 g1
          obtain ⟨z2, hz2, _⟩ := DataW.trod_int h2 g2
          simp only [List.cons.injEq, and_true] at hz0 hz1 hz2
          subst hz0 hz1 hz2
          exact ⟨(z0, z1, z2), by simpa using e0, by simpa using e1, by simpa using e2⟩
      obtain ⟨q, hq⟩ := choose_lt each
      have ha := addr_of (by simpa using (hq 0 (by omega)).1)
      refine ⟨(List.range len).map q, some a, cap, ?_, ?_, fun k hk => ?_⟩
      · simp only [List.length_map, List.length_range]; exact hcs
      · simp only [List.length_map, List.length_range]; exact ⟨by omega, by omega⟩
      · simp only [List.length_map, List.length_range] at hk
        obtain ⟨e0, e1, e2⟩ := hq k (by omega)
        rw [ha, add_plain] at e0 e1 e2
        have hg : ((List.range len).map q)[k]?.getD (0, 0, 0) = q k := by simp [hk]
        rw [hg]
        exact ⟨a.block, a.off, by rw [← ha], e0, e1, e2⟩

theorem Try.cellsExt : Try.prog.cellsOf 137 = 3 := by kernel_rfl
theorem Try.cellsExts : Try.prog.cellsOf 45 = 1 := by kernel_rfl
theorem Try.cellsKern : Try.prog.cellsOf 47 = 3 := by kernel_rfl
theorem Try.cellsBs : Try.prog.cellsOf 22 = 1 := by kernel_rfl
theorem Try.cellsPs : Try.prog.cellsOf 23 = 1 := by kernel_rfl
theorem open_KernU {H : Type} {enc : TypeId × Value → H} {W : World} {r : Reach} {b0 : Nat} {v : Value} {d : DataW H} {p : List MemPlace} (hv : Value.okWide Try.prog W r b0 47 v) (h : DataW.Trod enc Try.prog W 0 (fun _ => true) true 47 v d p) :
    ∃ vB vC vE kd, v = .agg #[vB, vC, vE] ∧ KernR W vB vC vE kd := by
  obtain ⟨cs, rfl, hsz⟩ := okWide_struct Try.underlying47 hv
  obtain ⟨c0, c1, c2, rfl⟩ := array3 (hsz.trans Try.cellsKern)
  obtain ⟨fuel, hf⟩ := h
  obtain ⟨y0, y1, n, _, _, h0, h1⟩ := trod_struct2 Try.underlying47 hf
  have g0 : DataW.trod enc Try.prog W 0 (fun _ => true) true n 25 [c0, c1] = some y0 := by simpa [Value.cells, Try.cellsDisk] using h0
  have g1 : DataW.trod enc Try.prog W 0 (fun _ => true) true n 45 [c2] = some y1 := by simpa [Value.cells, Try.cellsExts] using h1
  obtain ⟨z0, z1, k, _, _, k0, k1⟩ := trod_struct2 Try.underlying25 g0
  have l0 : DataW.trod enc Try.prog W 0 (fun _ => true) true k 22 [c0] = some z0 := by simpa [Try.cellsBs] using k0
  have l1 : DataW.trod enc Try.prog W 0 (fun _ => true) true k 23 [c1] = some z1 := by simpa [Try.cellsPs] using k1
  obtain ⟨bs, hbs⟩ := open_IntsS Try.underlying22 Try.underlying26 Try.underlying2 Try.cellsInts Try.cellsInt l0
  obtain ⟨ps, hps⟩ := open_Puts Try.underlying23 Try.underlying125 Try.cellsPut rfl rfl Try.cellsInt Try.cellsInts Try.underlying2 Try.underlying26 Try.underlying2 Try.cellsInt l1
  obtain ⟨es, hes⟩ := open_Exts Try.underlying45 Try.underlying137 Try.cellsExt rfl rfl rfl Try.cellsInt Try.cellsInt Try.cellsInt Try.underlying2 Try.underlying2 Try.underlying2 g1
  exact ⟨c0, c1, c2, ((bs, ps), es), rfl, ⟨hbs, hps⟩, hes⟩
end Go.Proofs.Ytomcejofhfngkaa
