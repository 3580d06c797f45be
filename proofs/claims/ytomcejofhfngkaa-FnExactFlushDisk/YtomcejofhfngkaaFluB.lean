
/- The walks of the program's FlushDisk and CrashDisk. -/
import Derived.Test.YtomcejofhfngkaaSetL
namespace Go.Proofs.Ytomcejofhfngkaa
open Go.RowKit
set_option maxRecDepth 100000

theorem Try.infoBool : (Try.prog.info? 4).map (fun i => (i.zero, i.size, i.bytes)) = some (some (.bool false), 1, 1) := by kernel_rfl

set_option maxHeartbeats 400000 in
theorem allPicked_any (w : World) (n : Nat) (hn : n ≤ 1048576) :
    Calls Try.prog 95 #[.int .i64 (n : Int)] w fun e w' => e = .returned (.slice (some ⟨w.heap.size, 0, none⟩) n n) ∧ Below w.heap.size w w' ∧ OwnRow w' w.heap.size n (fun _ => .bool true) := by
  have hmk := fun w => run_make_row' (P := Try.prog) 65 4 (.bool false) 1 Try.underlying65 Try.infoBool rfl .i64 .i64 n (by omega) (by omega) w
  go_enter Try.func95, Try.ntmps95
  go_wp2
  go_loopw [9] (fun i wr => ∃ j : Nat, j ≤ n ∧ i = .int .i64 j ∧ Below w.heap.size w wr ∧ OwnRow wr w.heap.size n (fun i => if i < j then .bool true else .bool false)) (fun i _ => n - (intOf i).toNat)
  case atStart => exact ⟨0, Nat.zero_le _, rfl, later1 _ _, (OwnRow.made w (.bool false) n 4).congr fun i _ => by simp⟩
  case round =>
    obtain ⟨j, hj, rfl, hbl, hrow⟩ := hrel
    by_cases hlt : j < n
    · have d1 := hrow.cell hlt
      have d2 := hrow.frozen j
      simp only [Nat.lt_irrefl, if_false] at d1
      have HBL : Hid (Below w.heap.size w wr) := hbl
      have HROW : Hid (OwnRow wr w.heap.size n (fun i => if i < j then .bool true else .bool false)) := hrow
      clear hbl hrow
      go_wp2
      go_roundw
      case rel =>
        refine ⟨j + 1, by omega, by go_num, HBL.out.setCell (Nat.le_refl _) _, (HROW.out.set j _).congr fun i hi => ?_⟩
        by_cases e : i = j
        · subst e; simp
        · by_cases e2 : i < j
          · simp [e, e2, show i < j + 1 by omega]
          · simp [e, e2, show ¬ i < j + 1 by omega]
      case measure => simp [intOf]; omega
    · go_wp2
      go_ret
      have e : j = n := by omega
      subst e
      exact ⟨rfl, hbl, hrow.congr fun i hi => by simp [hi]⟩

set_option maxHeartbeats 1600000 in
theorem implFlush_fault (w : World) (vB vC : Value) (bs : List (List Int)) (ps : List (Int × List Int)) (hB : IntsS w vB bs) (hP : Puts w vC ps) (hf : ¬ faultF bs ps = 0) :
    Calls Try.prog 21 #[.agg #[vB, vC]] w fun e w' => e = .returned (.agg #[.int .i64 (faultF bs ps), .slice none 0 0, .slice none 0 0]) ∧ Below w.heap.size w w' := by
  have HB : Hid (IntsS w vB bs) := hB
  have HP : Hid (Puts w vC ps) := hP
  generalize hF : faultF bs ps = F at *
  have HF : Hid (faultF bs ps = F) := hF
  have hne : (F != 0) = true := by simpa using hf
  clear hB hP hF hf
  go_enter Try.func21, Try.ntmps21
  go_wp2_with fail
  refine (fault_any _ _ _ bs ps (HB.out.later (later2 _ _ _)) (HP.out.later (later2 _ _ _))).mono ?_
  rw [HF.out]
  rintro e w1 ⟨rfl, hb1⟩
  have HW1 : Hid (Below w.heap.size w w1) := (later2 _ _ _).trans (hb1.mono (by simp; omega))
  have HR1 := resRow _ _ hb1
  have t0 := HR1.cell (i := 0) (by omega)
  have t1 := HR1.cell (i := 1) (by omega)
  have t2 := HR1.cell (i := 2) (by omega)
  have s0 := HR1.frozen 0
  have s1 := HR1.frozen 1
  have s2 := HR1.frozen 2
  simp at t0 t1 t2
  clear hb1 HR1
  go_wp2
  exact bodyPost_ret (v := .agg #[.int .i64 F, .slice none 0 0, .slice none 0 0]) (by simp [results, Try.results21, go_sem, t0, t1, t2]) rfl ⟨rfl, ((HW1.out.setCell (by simp) _).setCell (by simp) _).setCell (by simp) _⟩

set_option maxHeartbeats 1600000 in
theorem implCrash_fault (w : World) (vB vC v : Value) (bs : List (List Int)) (ps : List (Int × List Int)) (hB : IntsS w vB bs) (hP : Puts w vC ps) (hf : ¬ faultF bs ps = 0) :
    Calls Try.prog 35 #[.agg #[vB, vC], v] w fun e w' => e = .returned (.agg #[.int .i64 (faultF bs ps), .slice none 0 0, .slice none 0 0]) ∧ Below w.heap.size w w' := by
  have HB : Hid (IntsS w vB bs) := hB
  have HP : Hid (Puts w vC ps) := hP
  generalize hF : faultF bs ps = F at *
  have HF : Hid (faultF bs ps = F) := hF
  have hne : (F != 0) = true := by simpa using hf
  clear hB hP hF hf
  go_enter Try.func35, Try.ntmps35
  go_wp2_with fail
  refine (fault_any _ _ _ bs ps (HB.out.later (later2 _ _ _)) (HP.out.later (later2 _ _ _))).mono ?_
  rw [HF.out]
  rintro e w1 ⟨rfl, hb1⟩
  have HW1 : Hid (Below w.heap.size w w1) := (later2 _ _ _).trans (hb1.mono (by simp; omega))
  have HR1 := resRow _ _ hb1
  have t0 := HR1.cell (i := 0) (by omega)
  have t1 := HR1.cell (i := 1) (by omega)
  have t2 := HR1.cell (i := 2) (by omega)
  have s0 := HR1.frozen 0
  have s1 := HR1.frozen 1
  have s2 := HR1.frozen 2
  simp at t0 t1 t2
  clear hb1 HR1
  go_wp2
  exact bodyPost_ret (v := .agg #[.int .i64 F, .slice none 0 0, .slice none 0 0]) (by simp [results, Try.results35, go_sem, t0, t1, t2]) rfl ⟨rfl, ((HW1.out.setCell (by simp) _).setCell (by simp) _).setCell (by simp) _⟩

set_option maxHeartbeats 3200000 in
theorem implCrash_ok (w : World) (aB aC ap : Option Addr) (cB cC cap : Nat) (bs : List (List Int)) (ps : List (Int × List Int)) (bb : List Bool) (hB : IntsS w (.slice aB bs.length cB) bs) (hP : Puts w (.slice aC ps.length cC) ps) (sB : AtS w aB bs.length bs) (sP : AtP w aC ps.length ps) (hA : AtBs w ap bb.length bb) (hab : ∀ b off, ap = some ⟨b, off, none⟩ → 0 < bb.length → b < w.heap.size) (hff : faultF bs ps = 0)
    (hz : ∀ k : Nat, (bs[k]?.getD []).length ≤ 1048576) (hzp : ∀ k : Nat, (ps[k]?.getD (0, [])).2.length ≤ 1048576) :
    Calls Try.prog 35 #[.agg #[.slice aB bs.length cB, .slice aC ps.length cC], .slice ap bb.length cap] w (AnsDisk w 0 (keepTo (fun i => bb[i]?.getD false) bs ps ps.length) []) := by
  have HB : Hid (IntsS w (.slice aB bs.length cB) bs) := hB
  have HP : Hid (Puts w (.slice aC ps.length cC) ps) := hP
  have SB : Hid (AtS w aB bs.length bs) := sB
  have SP : Hid (AtP w aC ps.length ps) := sP
  have HA : Hid (AtBs w ap bb.length bb) := hA
  have HF : Hid (faultF bs ps = 0) := hff
  obtain ⟨g1, g2⟩ := faultF_lens hff
  have G1 : Hid (bs.length ≤ 60) := g1
  have G2 : Hid (ps.length ≤ 200) := g2
  have HZ : Hid (∀ k : Nat, (bs[k]?.getD []).length ≤ 1048576) := hz
  have HZP : Hid (∀ k : Nat, (ps[k]?.getD (0, [])).2.length ≤ 1048576) := hzp
  clear hB hP sB sP hz hzp hff g1 g2 hA
  go_enter Try.func35, Try.ntmps35
  go_wp2_with fail
  refine (fault_any _ _ _ bs ps (HB.out.later (later2 _ _ _)) (HP.out.later (later2 _ _ _))).mono ?_
  rw [HF.out]
  rintro e w1 ⟨rfl, hb1⟩
  have HW1 : Hid (Below w.heap.size w w1) := (later2 _ _ _).trans (hb1.mono (by simp; omega))
  have HX1 : Box2 w1 w.heap.size (.slice aB bs.length cB) (.slice aC ps.length cC) := ((Box2.new w _ _ 30).later (later1 _ _)).later hb1
  have HR1 : Hid (OwnRow w1 (w.heap.size + 1) 3 (fun i => if i = 0 then .int .i64 0 else if i = 1 then .slice none 0 0 else .slice none 0 0)) := resRow _ _ hb1
  have hz1 : w.heap.size + 1 < w1.heap.size := HR1.out.lt
  obtain ⟨x0, x1⟩ := HX1
  clear hb1
  go_wp2_with fail
  clear x0 x1
  refine (openDisk_walk _ aB aC bs.length cB ps.length cC bs ps rfl rfl G1.out G2.out (fun k _ => HZ.out k) (fun k _ => HZP.out k) (SB.out.later HW1.out) (SP.out.later HW1.out)).mono ?_
  rintro e w2 ⟨bd, g, aP, cP, pb, k, u, rfl, hdr⟩
  have HDR : Hid (Drive w1 w2 bd (some ⟨g, 0, none⟩) bs.length bs.length aP ps.length cP bs ps pb k u) := hdr
  have hbd1 : w1.heap.size ≤ bd := hdr.lo
  have hbd2 : bd < w2.heap.size := hdr.row.lt
  have HW2 : Hid (Below w.heap.size w w2) := HW1.out.trans (hdr.below.mono HW1.out.size)
  clear hdr
  have HSET : Hid (Calls _ _ _ _ _) := settle_any w2 w1.heap.size bd g bs.length ps.length aP cP ap bb.length cap bs ps bb pb k u hbd1 rfl G2.out G1.out rfl (faultF_places HF.out) HZP.out (HA.out.later HW2.out) (fun h0 h1 b off e e2 => by
    obtain ⟨_, _, h, _⟩ := HDR.out.blocks.row h0
    have := hab b off e h1
    omega) HDR.out.row HDR.out.cache HDR.out.blocks
  go_wp2_with fail
  refine HSET.out.mono ?_
  rintro e w3 ⟨rfl, hb3, hr3, hi3⟩
  have HR3 : Hid (OwnRow w3 bd 2 (fun c => if c = 0 then .slice (some ⟨g, 0, none⟩) bs.length bs.length else .slice none 0 0)) := hr3
  have HI3 : Hid (IntsSO w3 (.slice (some ⟨g, 0, none⟩) bs.length bs.length) (keepTo (fun i => bb[i]?.getD false) bs ps ps.length) (fun c => w1.heap.size ≤ c ∧ c < w3.heap.size ∧ c ≠ bd)) := hi3
  have HW3 : Hid (Below w.heap.size w w3) := HW2.out.trans (hb3.mono HW1.out.size)
  have HQ3 : Hid (OwnRow w3 (w.heap.size + 1) 3 (fun i => if i = 0 then .int .i64 0 else if i = 1 then .slice none 0 0 else .slice none 0 0)) := (HR1.out.later HDR.out.below).block (hb3.block _ hz1)
  clear hb3 hr3 hi3 HSET
  have d0 := HR3.out.cell (i := 0) (by omega)
  have d1 := HR3.out.cell (i := 1) (by omega)
  simp at d0 d1
  go_wp2_with fail
  refine (disk_nil w3 bd 0 0 none (some ⟨g, 0, none⟩) bs.length bs.length d0 d1).mono ?_
  rintro e w4 ⟨rfl, hb4⟩
  have HW4 : Hid (Below w.heap.size w w4) := HW3.out.trans (hb4.mono HW3.out.size)
  have HI4 : Hid (IntsSO w4 (.slice (some ⟨g, 0, none⟩) bs.length bs.length) (keepTo (fun i => bb[i]?.getD false) bs ps ps.length) (fun c => w1.heap.size ≤ c ∧ c < w3.heap.size ∧ c ≠ bd)) := HI3.out.keep fun b hb hlt => hb4.block b hlt
  have HR4 := HQ3.out.later hb4
  have hz4 : w3.heap.size ≤ w4.heap.size := hb4.size
  have t0 := HR4.cell (i := 0) (by omega)
  have t1 := HR4.cell (i := 1) (by omega)
  have t2 := HR4.cell (i := 2) (by omega)
  have s0 := HR4.frozen 0
  have s1 := HR4.frozen 1
  have s2 := HR4.frozen 2
  simp at t0 t1 t2
  clear hb4 HR4 d0 d1
  go_wp2
  refine bodyPost_ret (v := .agg #[.int .i64 0, .slice (some ⟨g, 0, none⟩) bs.length bs.length, .slice none 0 0]) (by simp [results, Try.results35, go_sem, t0, t1, t2]) rfl ⟨_, _, _, _, _, _, rfl, ?_, ?_⟩
  · exact ((HW4.out.setCell (by simp) _).setCell (by simp) _).setCell (by simp) _
  · refine ⟨fun c => w1.heap.size ≤ c ∧ c < w3.heap.size ∧ c ≠ bd, fun _ => False, ((HI4.out.store (fun b hb => by simp; omega) _).store (fun b hb => by simp; omega) _).store (fun b hb => by simp; omega) _, Or.inl ⟨rfl, none, 0, rfl⟩, fun b _ h => h.elim, fun b hb => ?_⟩
    simp only [World.setCell, Array.size_modify]
    have h0 := HW1.out.size
    rcases hb with hb | hb
    · omega
    · exact hb.elim

set_option maxHeartbeats 1600000 in
theorem flush_any (w : World) (lo bd g nB n : Nat) (aP : Option Addr) (cP : Nat) (bs : List (List Int)) (ps : List (Int × List Int)) (pb k : Nat → Nat) (u : Nat → Value) (hlo : lo ≤ bd) (hbl : bs.length = nB) (hn : n ≤ 200) (hnB : nB ≤ 60) (hpl : ∀ i, i < n → ∃ x : Nat, (ps[i]?.getD (0, [])).1 = x ∧ x < nB) (hzp : ∀ k : Nat, (ps[k]?.getD (0, [])).2.length ≤ 1048576)
    (hd : OwnRow w bd 2 (fun c => if c = 0 then .slice (some ⟨g, 0, none⟩) nB nB else .slice aP n cP)) (hc : Cache w (bd + 1) (.slice aP n cP) n (fun i => ps[i]?.getD (0, [])) pb k u) (hb : IntsSO w (.slice (some ⟨g, 0, none⟩) nB nB) bs (fun c => lo ≤ c ∧ c < bd)) :
    Calls Try.prog 62 #[.pointer (some ⟨bd, 0, none⟩)] w fun e w' => e = .returned (.tuple #[]) ∧ Below lo w w' ∧ OwnRow w' bd 2 (fun c => if c = 0 then .slice (some ⟨g, 0, none⟩) nB nB else .slice none 0 0) ∧ IntsSO w' (.slice (some ⟨g, 0, none⟩) nB nB) (keepTo (fun i => (List.replicate n true)[i]?.getD false) bs ps n) (fun c => lo ≤ c ∧ c < w'.heap.size ∧ c ≠ bd) := by
  have hlt := hd.lt
  have HSET : Hid (∀ w2p, Below w.heap.size w w2p → OwnRow w2p w.heap.size n (fun _ => .bool true) → Calls Try.prog 81 #[.pointer (some ⟨bd, 0, none⟩), .slice (some ⟨w.heap.size, 0, none⟩) n n] w2p fun e w' => e = .returned (.tuple #[]) ∧ Below lo w2p w' ∧ OwnRow w' bd 2 (fun c => if c = 0 then .slice (some ⟨g, 0, none⟩) nB nB else .slice none 0 0) ∧ IntsSO w' (.slice (some ⟨g, 0, none⟩) nB nB) (keepTo (fun i => (List.replicate n true)[i]?.getD false) bs ps n) (fun c => lo ≤ c ∧ c < w'.heap.size ∧ c ≠ bd)) := fun w2p hbp hop =>
    settle_any w2p lo bd g nB n aP cP (some ⟨w.heap.size, 0, none⟩) n n bs ps (List.replicate n true) pb k u hlo hbl hn hnB (by simp) hpl hzp (fun k hk => ⟨w.heap.size, 0, rfl, by rw [Nat.zero_add, hop.cell hk]; simp [hk]⟩) (fun h0 h1 b off e e2 => by
      obtain ⟨_, h, _, _⟩ := hb.row (by omega)
      have h := h.lt
      simp only [Option.some.injEq, Addr.mk.injEq, and_true] at e
      omega) (hd.later hbp) (hc.later hbp) (hb.keep fun b _ hlt => hbp.block b hlt)
  have hlo2 : lo ≤ w.heap.size := by omega
  have e1 := hd.cell (i := 1) (by omega)
  simp at e1
  clear hd hc hb hpl hzp
  go_enter Try.func62, Try.ntmps62
  go_wp2_with fail
  clear e1
  refine (allPicked_any _ n (by omega)).mono ?_
  rintro e w2p ⟨rfl, hbp, hop⟩
  have HP := HSET.out w2p hbp hop
  have HBP : Hid (Below w.heap.size w w2p) := hbp
  clear HSET hbp hop
  go_wp2_with fail
  refine HP.mono ?_
  rintro e w3 ⟨rfl, hb3, hr3, hi3⟩
  have HB3 : Hid (Below lo w w3) := (HBP.out.mono hlo2).trans hb3
  have HR3 : Hid (OwnRow w3 bd 2 (fun c => if c = 0 then .slice (some ⟨g, 0, none⟩) nB nB else .slice none 0 0)) := hr3
  have HI3 : Hid (IntsSO w3 (.slice (some ⟨g, 0, none⟩) nB nB) (keepTo (fun i => (List.replicate n true)[i]?.getD false) bs ps n) (fun c => lo ≤ c ∧ c < w3.heap.size ∧ c ≠ bd)) := hi3
  clear hb3 hr3 hi3
  go_wp2
  go_end0
  exact ⟨rfl, HB3.out, HR3.out, HI3.out⟩

set_option maxHeartbeats 3200000 in
theorem implFlush_ok (w : World) (aB aC : Option Addr) (cB cC : Nat) (bs : List (List Int)) (ps : List (Int × List Int)) (hB : IntsS w (.slice aB bs.length cB) bs) (hP : Puts w (.slice aC ps.length cC) ps) (sB : AtS w aB bs.length bs) (sP : AtP w aC ps.length ps) (hff : faultF bs ps = 0)
    (hz : ∀ k : Nat, (bs[k]?.getD []).length ≤ 1048576) (hzp : ∀ k : Nat, (ps[k]?.getD (0, [])).2.length ≤ 1048576) :
    Calls Try.prog 21 #[.agg #[.slice aB bs.length cB, .slice aC ps.length cC]] w (AnsDisk w 0 (keepTo (fun i => (List.replicate ps.length true)[i]?.getD false) bs ps ps.length) []) := by
  have HB : Hid (IntsS w (.slice aB bs.length cB) bs) := hB
  have HP : Hid (Puts w (.slice aC ps.length cC) ps) := hP
  have SB : Hid (AtS w aB bs.length bs) := sB
  have SP : Hid (AtP w aC ps.length ps) := sP
  have HF : Hid (faultF bs ps = 0) := hff
  obtain ⟨g1, g2⟩ := faultF_lens hff
  have G1 : Hid (bs.length ≤ 60) := g1
  have G2 : Hid (ps.length ≤ 200) := g2
  have HZ : Hid (∀ k : Nat, (bs[k]?.getD []).length ≤ 1048576) := hz
  have HZP : Hid (∀ k : Nat, (ps[k]?.getD (0, [])).2.length ≤ 1048576) := hzp
  clear hB hP sB sP hz hzp hff g1 g2
  go_enter Try.func21, Try.ntmps21
  go_wp2_with fail
  refine (fault_any _ _ _ bs ps (HB.out.later (later2 _ _ _)) (HP.out.later (later2 _ _ _))).mono ?_
  rw [HF.out]
  rintro e w1 ⟨rfl, hb1⟩
  have HW1 : Hid (Below w.heap.size w w1) := (later2 _ _ _).trans (hb1.mono (by simp; omega))
  have HX1 : Box2 w1 w.heap.size (.slice aB bs.length cB) (.slice aC ps.length cC) := ((Box2.new w _ _ 30).later (later1 _ _)).later hb1
  have HR1 : Hid (OwnRow w1 (w.heap.size + 1) 3 (fun i => if i = 0 then .int .i64 0 else if i = 1 then .slice none 0 0 else .slice none 0 0)) := resRow _ _ hb1
  have hz1 : w.heap.size + 1 < w1.heap.size := HR1.out.lt
  obtain ⟨x0, x1⟩ := HX1
  clear hb1
  go_wp2_with fail
  clear x0 x1
  refine (openDisk_walk _ aB aC bs.length cB ps.length cC bs ps rfl rfl G1.out G2.out (fun k _ => HZ.out k) (fun k _ => HZP.out k) (SB.out.later HW1.out) (SP.out.later HW1.out)).mono ?_
  rintro e w2 ⟨bd, g, aP, cP, pb, k, u, rfl, hdr⟩
  have HDR : Hid (Drive w1 w2 bd (some ⟨g, 0, none⟩) bs.length bs.length aP ps.length cP bs ps pb k u) := hdr
  have hbd1 : w1.heap.size ≤ bd := hdr.lo
  have hbd2 : bd < w2.heap.size := hdr.row.lt
  have HW2 : Hid (Below w.heap.size w w2) := HW1.out.trans (hdr.below.mono HW1.out.size)
  clear hdr
  have HSET : Hid (Calls _ _ _ _ _) := flush_any w2 w1.heap.size bd g bs.length ps.length aP cP bs ps pb k u hbd1 rfl G2.out G1.out (faultF_places HF.out) HZP.out HDR.out.row HDR.out.cache HDR.out.blocks
  go_wp2_with fail
  refine HSET.out.mono ?_
  rintro e w3 ⟨rfl, hb3, hr3, hi3⟩
  have HR3 : Hid (OwnRow w3 bd 2 (fun c => if c = 0 then .slice (some ⟨g, 0, none⟩) bs.length bs.length else .slice none 0 0)) := hr3
  have HI3 : Hid (IntsSO w3 (.slice (some ⟨g, 0, none⟩) bs.length bs.length) (keepTo (fun i => (List.replicate ps.length true)[i]?.getD false) bs ps ps.length) (fun c => w1.heap.size ≤ c ∧ c < w3.heap.size ∧ c ≠ bd)) := hi3
  have HW3 : Hid (Below w.heap.size w w3) := HW2.out.trans (hb3.mono HW1.out.size)
  have HQ3 : Hid (OwnRow w3 (w.heap.size + 1) 3 (fun i => if i = 0 then .int .i64 0 else if i = 1 then .slice none 0 0 else .slice none 0 0)) := (HR1.out.later HDR.out.below).block (hb3.block _ hz1)
  clear hb3 hr3 hi3 HSET
  have d0 := HR3.out.cell (i := 0) (by omega)
  have d1 := HR3.out.cell (i := 1) (by omega)
  simp at d0 d1
  go_wp2_with fail
  refine (disk_nil w3 bd 0 0 none (some ⟨g, 0, none⟩) bs.length bs.length d0 d1).mono ?_
  rintro e w4 ⟨rfl, hb4⟩
  have HW4 : Hid (Below w.heap.size w w4) := HW3.out.trans (hb4.mono HW3.out.size)
  have HI4 : Hid (IntsSO w4 (.slice (some ⟨g, 0, none⟩) bs.length bs.length) (keepTo (fun i => (List.replicate ps.length true)[i]?.getD false) bs ps ps.length) (fun c => w1.heap.size ≤ c ∧ c < w3.heap.size ∧ c ≠ bd)) := HI3.out.keep fun b hb hlt => hb4.block b hlt
  have HR4 := HQ3.out.later hb4
  have hz4 : w3.heap.size ≤ w4.heap.size := hb4.size
  have t0 := HR4.cell (i := 0) (by omega)
  have t1 := HR4.cell (i := 1) (by omega)
  have t2 := HR4.cell (i := 2) (by omega)
  have s0 := HR4.frozen 0
  have s1 := HR4.frozen 1
  have s2 := HR4.frozen 2
  simp at t0 t1 t2
  clear hb4 HR4 d0 d1
  go_wp2
  refine bodyPost_ret (v := .agg #[.int .i64 0, .slice (some ⟨g, 0, none⟩) bs.length bs.length, .slice none 0 0]) (by simp [results, Try.results21, go_sem, t0, t1, t2]) rfl ⟨_, _, _, _, _, _, rfl, ?_, ?_⟩
  · exact ((HW4.out.setCell (by simp) _).setCell (by simp) _).setCell (by simp) _
  · refine ⟨fun c => w1.heap.size ≤ c ∧ c < w3.heap.size ∧ c ≠ bd, fun _ => False, ((HI4.out.store (fun b hb => by simp; omega) _).store (fun b hb => by simp; omega) _).store (fun b hb => by simp; omega) _, Or.inl ⟨rfl, none, 0, rfl⟩, fun b _ h => h.elim, fun b hb => ?_⟩
    simp only [World.setCell, Array.size_modify]
    have h0 := HW1.out.size
    rcases hb with hb | hb
    · omega
    · exact hb.elim

theorem keepTo_congr {pk pk' : Nat → Bool} {bs : List (List Int)} {ps : List (Int × List Int)} (n : Nat) (h : ∀ i, i < n → pk i = pk' i) : keepTo pk bs ps n = keepTo pk' bs ps n := by
  induction n with
  | zero => rfl
  | succ n ih =>
    unfold keepTo
    rw [ih fun i hi => h i (by omega), h n (by omega)]

theorem implFlush_any (w : World) (vB vC : Value) (bs : List (List Int)) (ps : List (Int × List Int)) (hB : IntsS w vB bs) (hP : Puts w vC ps) (hz : ∀ k : Nat, (bs[k]?.getD []).length ≤ 1048576) (hzp : ∀ k : Nat, (ps[k]?.getD (0, [])).2.length ≤ 1048576) :
    Calls Try.prog 21 #[.agg #[vB, vC]] w (AnsDisk w (faultF bs ps) (keepBlocks (fun _ => true) bs ps) []) := by
  obtain ⟨aB, cB, rfl, _, sB⟩ := hB.open'
  obtain ⟨aC, cC, rfl, _, sP⟩ := hP.open'
  unfold keepBlocks
  by_cases hf : faultF bs ps = 0
  · rw [if_pos hf, hf]
    have := implFlush_ok w aB aC cB cC bs ps hB hP sB sP hf hz hzp
    rwa [keepTo_congr (pk' := fun _ => true) ps.length fun i hi => by simp [hi]] at this
  · rw [if_neg hf]
    exact (implFlush_fault w _ _ bs ps hB hP hf).mono fun e w' ⟨h1, h2⟩ => by rw [h1]; exact ans_bad h2 _
theorem implCrash_any (w : World) (vB vC : Value) (ap : Option Addr) (cap : Nat) (bs : List (List Int)) (ps : List (Int × List Int)) (pb : List Bool) (hB : IntsS w vB bs) (hP : Puts w vC ps) (hA : AtBs w ap pb.length pb) (hz : ∀ k : Nat, (bs[k]?.getD []).length ≤ 1048576) (hzp : ∀ k : Nat, (ps[k]?.getD (0, [])).2.length ≤ 1048576) :
    Calls Try.prog 35 #[.agg #[vB, vC], .slice ap pb.length cap] w (AnsDisk w (faultF bs ps) (keepBlocks (fun i => pb[i]?.getD false) bs ps) []) := by
  obtain ⟨aB, cB, rfl, _, sB⟩ := hB.open'
  obtain ⟨aC, cC, rfl, _, sP⟩ := hP.open'
  unfold keepBlocks
  by_cases hf : faultF bs ps = 0
  · rw [if_pos hf, hf]
    refine implCrash_ok w aB aC ap cB cC cap bs ps pb hB hP sB sP hA (fun b off e h => ?_) hf hz hzp
    obtain ⟨b', off', e', c⟩ := hA 0 h
    rw [e] at e'
    simp only [Option.some.injEq, Addr.mk.injEq, and_true] at e'
    have := World.block_lt_of_cell? _ _ c
    simp at this
    omega
  · rw [if_neg hf]
    exact (implCrash_fault w _ _ _ bs ps hB hP hf).mono fun e w' ⟨h1, h2⟩ => by rw [h1]; exact ans_bad h2 _
end Go.Proofs.Ytomcejofhfngkaa
