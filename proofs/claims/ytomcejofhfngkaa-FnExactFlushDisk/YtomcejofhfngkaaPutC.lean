
/- The walk of the program's PutBlock. -/
import Derived.Test.YtomcejofhfngkaaPutB
namespace Go.Proofs.Ytomcejofhfngkaa
open Go.RowKit
set_option maxRecDepth 100000

theorem resRow {w w1 : World} (x y : Value) (h : Below ((w.alloc (.cells #[x, y] 30)).alloc (.cells #[.int .i64 0, .slice none 0 0, .slice none 0 0] 32)).heap.size ((w.alloc (.cells #[x, y] 30)).alloc (.cells #[.int .i64 0, .slice none 0 0, .slice none 0 0] 32)) w1) :
    OwnRow w1 (w.heap.size + 1) 3 (fun i => if i = 0 then .int .i64 0 else if i = 1 then .slice none 0 0 else .slice none 0 0) := by
  have h2 := (three (w.alloc (.cells #[x, y] 30)) (.int .i64 0) (.slice none 0 0) (.slice none 0 0) 32).later h
  simpa using h2

set_option maxHeartbeats 1600000 in
theorem implPut_place (w : World) (aB : Option Addr) (cB : Nat) (aC : Option Addr) (nC cC : Nat) (v : Value) (bs : List (List Int)) (ps : List (Int × List Int)) (x : Int) (hB : IntsS w (.slice aB bs.length cB) bs) (hP : Puts w (.slice aC nC cC) ps) (hf : ¬ placeF bs ps x = 0) :
    Calls Try.prog 12 #[.agg #[.slice aB bs.length cB, .slice aC nC cC], .int .i64 x, v] w fun e w' => e = .returned (.agg #[.int .i64 (placeF bs ps x), .slice none 0 0, .slice none 0 0]) ∧ Below w.heap.size w w' := by
  have HB : Hid (IntsS w (.slice aB bs.length cB) bs) := hB
  have HP : Hid (Puts w (.slice aC nC cC) ps) := hP
  clear hB hP
  generalize hF : placeF bs ps x = F at *
  have HF : Hid (placeF bs ps x = F) := hF
  have hne : (F != 0) = true := by simpa using hf
  clear hF hf
  go_enter Try.func12, Try.ntmps12
  go_wp2_with fail
  refine (placeFault_any _ aB cB _ bs ps x (HB.out.later (later2 _ _ _)) (HP.out.later (later2 _ _ _))).mono ?_
  rw [HF.out]
  rintro e w1 ⟨rfl, hb1⟩
  have HW1 : Hid (Below w.heap.size w w1) := (later2 _ _ _).trans (hb1.mono (by simp; omega))
  have HR1 := resRow _ _ hb1
  have t0 := HR1.cell (i := 0) (by omega)
  have t1 := HR1.cell (i := 1) (by omega)
  have t2 := HR1.cell (i := 2) (by omega)
  have s0 := HR1.frozen 0
  have s1 := HR1.frozen 1
  have s2 := HR1.frozen 2
  simp at t0 t1 t2
  clear hb1 HR1
  go_wp2
  exact bodyPost_ret (v := .agg #[.int .i64 F, .slice none 0 0, .slice none 0 0]) (by simp [results, Try.results12, go_sem, t0, t1, t2]) rfl ⟨rfl, ((HW1.out.setCell (by simp) _).setCell (by simp) _).setCell (by simp) _⟩

set_option maxHeartbeats 1600000 in
theorem implPut_words (w : World) (aB : Option Addr) (cB : Nat) (aC : Option Addr) (nC cC : Nat) (v : Value) (bs : List (List Int)) (ps : List (Int × List Int)) (x : Int) (ws : List Int) (hB : IntsS w (.slice aB bs.length cB) bs) (hP : Puts w (.slice aC nC cC) ps) (hV : Ints w v ws) (hf : placeF bs ps x = 0) (hw : ¬ wordsF ws = 0) :
    Calls Try.prog 12 #[.agg #[.slice aB bs.length cB, .slice aC nC cC], .int .i64 x, v] w fun e w' => e = .returned (.agg #[.int .i64 (wordsF ws), .slice none 0 0, .slice none 0 0]) ∧ Below w.heap.size w w' := by
  have HB : Hid (IntsS w (.slice aB bs.length cB) bs) := hB
  have HP : Hid (Puts w (.slice aC nC cC) ps) := hP
  have HV : Hid (Ints w v ws) := hV
  have HF : Hid (placeF bs ps x = 0) := hf
  generalize hc : wordsF ws = c at *
  have HC : Hid (wordsF ws = c) := hc
  have hne : (c != 0) = true := by simpa using hw
  clear hB hP hV hf hw hc
  go_enter Try.func12, Try.ntmps12
  go_wp2_with fail
  refine (placeFault_any _ aB cB _ bs ps x (HB.out.later (later2 _ _ _)) (HP.out.later (later2 _ _ _))).mono ?_
  rw [HF.out]
  rintro e w1 ⟨rfl, hb1⟩
  have HW1 : Hid (Below w.heap.size w w1) := (later2 _ _ _).trans (hb1.mono (by simp; omega))
  have HR1 := resRow _ _ hb1
  have t0 := HR1.cell (i := 0) (by omega)
  have t1 := HR1.cell (i := 1) (by omega)
  have t2 := HR1.cell (i := 2) (by omega)
  have s0 := HR1.frozen 0
  have s1 := HR1.frozen 1
  have s2 := HR1.frozen 2
  simp at t0 t1 t2
  clear hb1 HR1
  go_wp2_with fail
  refine (words_any (HV.out.later HW1.out)).mono ?_
  rw [HC.out]
  rintro e w2 ⟨rfl, rfl⟩
  go_wp2
  exact bodyPost_ret (v := .agg #[.int .i64 c, .slice none 0 0, .slice none 0 0]) (by simp [results, Try.results12, go_sem, t0, t1, t2]) rfl ⟨rfl, ((HW1.out.setCell (by simp) _).setCell (by simp) _).setCell (by simp) _⟩

set_option maxHeartbeats 400000 in
theorem isFull_any (w : World) (bd : Nat) (aP : Option Addr) (nP cP : Nat) (h1 : w.cell? ⟨bd, 1, none⟩ = some (.slice aP nP cP)) (b : Bool) (hb : decide ((200 : Int) ≤ (nP : Int)) = b) :
    Calls Try.prog 53 #[.pointer (some ⟨bd, 0, none⟩)] w fun e w' => e = .returned (.bool b) ∧ w' = w := by
  go_enter Try.func53, Try.ntmps53
  go_wp2
  go_ret
  exact ⟨rfl, rfl⟩

set_option maxHeartbeats 3200000 in
theorem implPut_full (w : World) (aB aC : Option Addr) (cB cC : Nat) (v : Value) (bs : List (List Int)) (ps : List (Int × List Int)) (x : Int) (ws : List Int) (hB : IntsS w (.slice aB bs.length cB) bs) (hP : Puts w (.slice aC ps.length cC) ps) (sB : AtS w aB bs.length bs) (sP : AtP w aC ps.length ps) (hV : Ints w v ws) (hff : faultF bs ps = 0) (hf : placeF bs ps x = 0) (hw : wordsF ws = 0) (hq : 200 ≤ ps.length)
    (hz : ∀ k : Nat, (bs[k]?.getD []).length ≤ 1048576) (hzp : ∀ k : Nat, (ps[k]?.getD (0, [])).2.length ≤ 1048576) (hzw : ws.length ≤ 1048576) :
    Calls Try.prog 12 #[.agg #[.slice aB bs.length cB, .slice aC ps.length cC], .int .i64 x, v] w fun e w' => e = .returned (.agg #[.int .i64 2, .slice none 0 0, .slice none 0 0]) ∧ Below w.heap.size w w' := by
  have HB : Hid (IntsS w (.slice aB bs.length cB) bs) := hB
  have HP : Hid (Puts w (.slice aC ps.length cC) ps) := hP
  have SB : Hid (AtS w aB bs.length bs) := sB
  have SP : Hid (AtP w aC ps.length ps) := sP
  have HV : Hid (Ints w v ws) := hV
  have HF : Hid (placeF bs ps x = 0) := hf
  obtain ⟨g1, g2⟩ := faultF_lens hff
  have G1 : Hid (bs.length ≤ 60) := g1
  have G2 : Hid (ps.length ≤ 200) := g2
  have HC : Hid (wordsF ws = 0) := hw
  have HZ : Hid (∀ k : Nat, (bs[k]?.getD []).length ≤ 1048576) := hz
  have HZP : Hid (∀ k : Nat, (ps[k]?.getD (0, [])).2.length ≤ 1048576) := hzp
  have HZW : Hid (ws.length ≤ 1048576) := hzw
  have hd : decide ((200 : Int) ≤ (ps.length : Int)) = true := by simp; omega
  clear hB hP hV hf hw sB sP hz hzp hzw hff g1 g2 hq
  go_enter Try.func12, Try.ntmps12
  go_wp2_with fail
  refine (placeFault_any _ aB cB _ bs ps x (HB.out.later (later2 _ _ _)) (HP.out.later (later2 _ _ _))).mono ?_
  rw [HF.out]
  rintro e w1 ⟨rfl, hb1⟩
  have HW1 : Hid (Below w.heap.size w w1) := (later2 _ _ _).trans (hb1.mono (by simp; omega))
  have HX1 : Box2 w1 w.heap.size (.slice aB bs.length cB) (.slice aC ps.length cC) := ((Box2.new w _ _ 30).later (later1 _ _)).later hb1
  have HR1 : Hid (OwnRow w1 (w.heap.size + 1) 3 (fun i => if i = 0 then .int .i64 0 else if i = 1 then .slice none 0 0 else .slice none 0 0)) := resRow _ _ hb1
  have hz1 : w.heap.size + 1 < w1.heap.size := HR1.out.lt
  obtain ⟨x0, x1⟩ := HX1
  clear hb1
  go_wp2_with fail
  refine (words_any (HV.out.later HW1.out)).mono ?_
  rw [HC.out]
  rintro e w2 ⟨rfl, hw2⟩
  obtain rfl := hw2.symm
  go_wp2_with fail
  clear x0 x1
  refine (openDisk_walk _ aB aC bs.length cB ps.length cC bs ps rfl rfl G1.out G2.out (fun k _ => HZ.out k) (fun k _ => HZP.out k) (SB.out.later HW1.out) (SP.out.later HW1.out)).mono ?_
  rintro e w2 ⟨bd, g, aP, cP, pb, k, u, rfl, hdr⟩
  have HDR : Hid (Drive w1 w2 bd (some ⟨g, 0, none⟩) bs.length bs.length aP ps.length cP bs ps pb k u) := hdr
  have hbd1 : w1.heap.size ≤ bd := hdr.lo
  have hbd2 : bd < w2.heap.size := hdr.row.lt
  have HW2 : Hid (Below w.heap.size w w2) := HW1.out.trans (hdr.below.mono HW1.out.size)
  clear hdr
  have HR2 := HR1.out.later HDR.out.below
  have e1 := HDR.out.row.cell (i := 1) (by omega)
  simp at e1
  have t0 := HR2.cell (i := 0) (by omega)
  have t1 := HR2.cell (i := 1) (by omega)
  have t2 := HR2.cell (i := 2) (by omega)
  have s0 := HR2.frozen 0
  have s1 := HR2.frozen 1
  have s2 := HR2.frozen 2
  simp at t0 t1 t2
  clear HR2
  go_wp2_with fail
  refine (isFull_any w2 bd aP ps.length cP e1 true hd).mono ?_
  rintro e w3 ⟨rfl, hw3⟩
  obtain rfl := hw3.symm
  go_wp2
  exact bodyPost_ret (v := .agg #[.int .i64 2, .slice none 0 0, .slice none 0 0]) (by simp [results, Try.results12, go_sem, t0, t1, t2]) rfl ⟨rfl, ((HW2.out.setCell (by simp) _).setCell (by simp) _).setCell (by simp) _⟩

set_option maxHeartbeats 3200000 in
theorem implPut_ok (w : World) (aB aC : Option Addr) (cB cC : Nat) (v : Value) (bs : List (List Int)) (ps : List (Int × List Int)) (x : Int) (ws : List Int) (hB : IntsS w (.slice aB bs.length cB) bs) (hP : Puts w (.slice aC ps.length cC) ps) (sB : AtS w aB bs.length bs) (sP : AtP w aC ps.length ps) (hV : Ints w v ws) (hff : faultF bs ps = 0) (hf : placeF bs ps x = 0) (hw : wordsF ws = 0) (hq : ¬ 200 ≤ ps.length)
    (hz : ∀ k : Nat, (bs[k]?.getD []).length ≤ 1048576) (hzp : ∀ k : Nat, (ps[k]?.getD (0, [])).2.length ≤ 1048576) (hzw : ws.length ≤ 1048576) :
    Calls Try.prog 12 #[.agg #[.slice aB bs.length cB, .slice aC ps.length cC], .int .i64 x, v] w (AnsDisk w 0 bs (ps ++ [(x, ws)])) := by
  have HB : Hid (IntsS w (.slice aB bs.length cB) bs) := hB
  have HP : Hid (Puts w (.slice aC ps.length cC) ps) := hP
  have SB : Hid (AtS w aB bs.length bs) := sB
  have SP : Hid (AtP w aC ps.length ps) := sP
  have HV : Hid (Ints w v ws) := hV
  have HF : Hid (placeF bs ps x = 0) := hf
  obtain ⟨g1, g2⟩ := faultF_lens hff
  have G1 : Hid (bs.length ≤ 60) := g1
  have G2 : Hid (ps.length ≤ 200) := g2
  have HC : Hid (wordsF ws = 0) := hw
  have HZ : Hid (∀ k : Nat, (bs[k]?.getD []).length ≤ 1048576) := hz
  have HZP : Hid (∀ k : Nat, (ps[k]?.getD (0, [])).2.length ≤ 1048576) := hzp
  have HZW : Hid (ws.length ≤ 1048576) := hzw
  have hd : decide ((200 : Int) ≤ (ps.length : Int)) = false := by simp; omega
  clear hB hP hV hf hw sB sP hz hzp hzw hff g1 g2 hq
  go_enter Try.func12, Try.ntmps12
  go_wp2_with fail
  refine (placeFault_any _ aB cB _ bs ps x (HB.out.later (later2 _ _ _)) (HP.out.later (later2 _ _ _))).mono ?_
  rw [HF.out]
  rintro e w1 ⟨rfl, hb1⟩
  have HW1 : Hid (Below w.heap.size w w1) := (later2 _ _ _).trans (hb1.mono (by simp; omega))
  have HX1 : Box2 w1 w.heap.size (.slice aB bs.length cB) (.slice aC ps.length cC) := ((Box2.new w _ _ 30).later (later1 _ _)).later hb1
  have HR1 : Hid (OwnRow w1 (w.heap.size + 1) 3 (fun i => if i = 0 then .int .i64 0 else if i = 1 then .slice none 0 0 else .slice none 0 0)) := resRow _ _ hb1
  have hz1 : w.heap.size + 1 < w1.heap.size := HR1.out.lt
  obtain ⟨x0, x1⟩ := HX1
  clear hb1
  go_wp2_with fail
  refine (words_any (HV.out.later HW1.out)).mono ?_
  rw [HC.out]
  rintro e w2 ⟨rfl, hw2⟩
  obtain rfl := hw2.symm
  go_wp2_with fail
  clear x0 x1
  refine (openDisk_walk _ aB aC bs.length cB ps.length cC bs ps rfl rfl G1.out G2.out (fun k _ => HZ.out k) (fun k _ => HZP.out k) (SB.out.later HW1.out) (SP.out.later HW1.out)).mono ?_
  rintro e w2 ⟨bd, g, aP, cP, pb, k, u, rfl, hdr⟩
  have HDR : Hid (Drive w1 w2 bd (some ⟨g, 0, none⟩) bs.length bs.length aP ps.length cP bs ps pb k u) := hdr
  have hbd1 : w1.heap.size ≤ bd := hdr.lo
  have hbd2 : bd < w2.heap.size := hdr.row.lt
  have HW2 : Hid (Below w.heap.size w w2) := HW1.out.trans (hdr.below.mono HW1.out.size)
  have HCM : Hid (Cache w2 (bd + 1) (.slice aP ps.length cP) ps.length (more ps x ws) pb k u) := by
    have h := hdr.cache
    exact ⟨h.own, h.lo, h.ne, h.inj, fun i hi => by rw [more_old hi]; exact h.box i hi, fun i hi => by rw [more_old hi]; exact h.sh i hi, fun i hi => by rw [more_old hi]; exact h.at' i hi⟩
  clear hdr
  have HV2 : Hid (Ints w2 v (more ps x ws ps.length).2) := by unfold Hid; rw [more_new]; exact HV.out.later HW2.out
  have e1 := HDR.out.row.cell (i := 1) (by omega)
  simp at e1
  go_wp2_with fail
  refine (isFull_any w2 bd aP ps.length cP e1 false hd).mono ?_
  rintro e w3 ⟨rfl, hw3⟩
  obtain rfl := hw3.symm
  clear e1
  have HPUT : Hid (Calls _ _ _ _ _) := put_any w2 bd (bd + 1) ps.length _ aP cP (more ps x ws) pb k u (Nat.lt_succ_self _) (by omega) (by have := G2.out; omega) HDR.out.row HCM.out v HV2.out (by rw [more_new]; exact HZW.out)
  rw [more_new] at HPUT
  go_wp2_with fail
  refine HPUT.out.mono ?_
  rintro e w3 ⟨rfl, X, g', c', pb', k', u', rfl, hbX, hcX⟩
  have HX : Hid (Below (bd + 1) w2 X) := hbX
  have HCX : Hid (Cache (X.setCell ⟨bd, 1, none⟩ (.slice (some ⟨g', 0, none⟩) (ps.length + 1) c')) (bd + 1) (.slice (some ⟨g', 0, none⟩) (ps.length + 1) c') (ps.length + 1) (more ps x ws) pb' k' u') := hcX.store (by simp) _
  have HRX : Hid (OwnRow (X.setCell ⟨bd, 1, none⟩ (.slice (some ⟨g', 0, none⟩) (ps.length + 1) c')) bd 2 (fun c => if c = 0 then .slice (some ⟨g, 0, none⟩) bs.length bs.length else .slice (some ⟨g', 0, none⟩) (ps.length + 1) c')) :=
    ((HDR.out.row.block (hbX.block _ (by omega))).set 1 _).congr fun c hc => by
      have : c = 0 ∨ c = 1 := by omega
      rcases this with rfl | rfl <;> simp
  have HIX : Hid (IntsSO (X.setCell ⟨bd, 1, none⟩ (.slice (some ⟨g', 0, none⟩) (ps.length + 1) c')) (.slice (some ⟨g, 0, none⟩) bs.length bs.length) bs (fun c => w1.heap.size ≤ c ∧ c < bd)) := (HDR.out.blocks.keep fun b hb hlt => hbX.block b (by omega)).store (fun b hb => by simp; omega) _
  have HR3 : Hid (OwnRow (X.setCell ⟨bd, 1, none⟩ (.slice (some ⟨g', 0, none⟩) (ps.length + 1) c')) (w.heap.size + 1) 3 (fun i => if i = 0 then .int .i64 0 else if i = 1 then .slice none 0 0 else .slice none 0 0)) := ((HR1.out.later HDR.out.below).block (hbX.block _ (by omega))).store (by simp; omega) _
  have HW3 : Hid (Below w.heap.size w (X.setCell ⟨bd, 1, none⟩ (.slice (some ⟨g', 0, none⟩) (ps.length + 1) c'))) := (HW2.out.trans (hbX.mono (by have := HW1.out.size; omega))).setCell (by simp; have := HW1.out.size; omega) _
  clear hbX hcX HPUT
  generalize hW : X.setCell ⟨bd, 1, none⟩ (.slice (some ⟨g', 0, none⟩) (ps.length + 1) c') = W at *
  clear hW
  go_wp2_with fail
  refine (disk_any W bd (bd + 1) (ps.length + 1) (some ⟨g, 0, none⟩) bs.length bs.length (some ⟨g', 0, none⟩) c' (more ps x ws) pb' k' u' (by have := G2.out; omega) HRX.out HCX.out).mono ?_
  rintro e w4 ⟨aD, cD, rfl, hb4, hl4⟩
  have HL4 : Hid (LRow (C2 fun i => (more ps x ws i).1) w4 W.heap.size (bd + 1) 71 2 (.slice aD (ps.length + 1) cD) (ps.length + 1) (fun i => (more ps x ws i).2) k' u') := hl4
  have HI4 : Hid (IntsSO w4 (.slice (some ⟨g, 0, none⟩) bs.length bs.length) bs (fun c => w1.heap.size ≤ c ∧ c < bd)) := HIX.out.keep fun b hb hlt => hb4.block b hlt
  have HW4 : Hid (Below w.heap.size w w4) := HW3.out.trans (hb4.mono HW3.out.size)
  have HR4 := HR3.out.later hb4
  have hbdW : bd < W.heap.size := HRX.out.lt
  have hbd4 : bd < w4.heap.size := by have := hb4.size; omega
  have t0 := HR4.cell (i := 0) (by omega)
  have t1 := HR4.cell (i := 1) (by omega)
  have t2 := HR4.cell (i := 2) (by omega)
  have s0 := HR4.frozen 0
  have s1 := HR4.frozen 1
  have s2 := HR4.frozen 2
  simp at t0 t1 t2
  clear hb4 hl4 HR4
  go_wp2
  refine bodyPost_ret (v := .agg #[.int .i64 0, .slice (some ⟨g, 0, none⟩) bs.length bs.length, .slice aD (ps.length + 1) cD]) (by simp [results, Try.results12, go_sem, t0, t1, t2]) rfl ⟨_, _, _, _, _, _, rfl, ?_, ?_⟩
  · exact ((HW4.out.setCell (by simp) _).setCell (by simp) _).setCell (by simp) _
  · refine ⟨fun c => w1.heap.size ≤ c ∧ c < bd, fun c => bd < c ∧ c < w4.heap.size, ((HI4.out.store (fun b hb => by simp; omega) _).store (fun b hb => by simp; omega) _).store (fun b hb => by simp; omega) _, ?_, fun b h1 h2 => by omega, fun b hb => ?_⟩
    · have h1 : PutsO w4 (.slice aD (ps.length + 1) cD) (ps ++ [(x, ws)]) (fun c => bd < c ∧ c < w4.heap.size) :=
        LRow.puts2 (ps := ps ++ [(x, ws)]) HL4.out (by simp) _ (fun g hg => by have := HL4.out.own.lt g hg; omega) (fun i hi => by have := HL4.out.lo i hi; omega)
      exact ((h1.store (fun b hb => by simp; omega) _).store (fun b hb => by simp; omega) _).store (fun b hb => by simp; omega) _
    · simp only [World.setCell, Array.size_modify]
      have h0 := HW1.out.size
      rcases hb with hb | hb <;> omega

theorem implPut_any (w : World) (vB vC v : Value) (bs : List (List Int)) (ps : List (Int × List Int)) (x : Int) (ws : List Int) (hB : IntsS w vB bs) (hP : Puts w vC ps) (hV : Ints w v ws) (hz : ∀ k : Nat, (bs[k]?.getD []).length ≤ 1048576) (hzp : ∀ k : Nat, (ps[k]?.getD (0, [])).2.length ≤ 1048576) (hzw : ws.length ≤ 1048576) :
    Calls Try.prog 12 #[.agg #[vB, vC], .int .i64 x, v] w (AnsDisk w (putCode bs ps x ws) (putBlocks bs ps x ws) (putCache bs ps x ws)) := by
  obtain ⟨aB, cB, rfl, m1, sB⟩ := hB.open'
  obtain ⟨aC, cC, rfl, m2, sP⟩ := hP.open'
  have bad : ∀ c : Int, ¬ c = 0 → putCode bs ps x ws = c → (∀ e w', (e = .returned (.agg #[.int .i64 c, .slice none 0 0, .slice none 0 0]) ∧ Below w.heap.size w w') → AnsDisk w (putCode bs ps x ws) (putBlocks bs ps x ws) (putCache bs ps x ws) e w') := by
    intro c hc he e w' ⟨h1, h2⟩
    have e1 : putBlocks bs ps x ws = [] := by unfold putBlocks; rw [he]; simp [hc]
    have e2 : putCache bs ps x ws = [] := by unfold putCache; rw [he]; simp [hc]
    rw [he, e1, e2, h1]
    exact ans_bad h2 c
  by_cases h0 : placeF bs ps x = 0
  · by_cases hw : wordsF ws = 0
    · have hf : faultF bs ps = 0 := by
        by_cases hf : faultF bs ps = 0
        · exact hf
        · rw [placeF_fault hf] at h0; exact h0
      by_cases hq : 200 ≤ ps.length
      · exact (implPut_full w aB aC cB cC v bs ps x ws hB hP sB sP hV hf h0 hw hq hz hzp hzw).mono fun e w' h => bad 2 (by decide) (by unfold putCode; simp [h0, hw, hq]) e w' h
      · have ec : putCode bs ps x ws = 0 := by unfold putCode; simp [h0, hw, hq]
        have e1 : putBlocks bs ps x ws = bs := by unfold putBlocks; simp [ec]
        have e2 : putCache bs ps x ws = ps ++ [(x, ws)] := by unfold putCache; simp [ec]
        rw [ec, e1, e2]
        exact implPut_ok w aB aC cB cC v bs ps x ws hB hP sB sP hV hf h0 hw hq hz hzp hzw
    · exact (implPut_words w aB cB aC _ cC v bs ps x ws hB hP hV h0 hw).mono fun e w' h => bad _ hw (by unfold putCode; simp [h0, hw]) e w' h
  · exact (implPut_place w aB cB aC _ cC v bs ps x hB hP h0).mono fun e w' h => bad _ h0 (by unfold putCode; simp [h0]) e w' h
end Go.Proofs.Ytomcejofhfngkaa
