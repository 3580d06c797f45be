/- The walk of the program's PutBlock. The walk of the program's settling of what is picked. The walks of the program's FlushDisk and CrashDisk. Lists of bits: how they read, and the walks of the laws' functions over them. -/
import Derived.Test.YtmjdechoookpmaaM08
import Derived.Test.YtmjdechoookpmaaM03
namespace Go.Proofs.Ytmjdechoookpmaa
open Go.RowKit
set_option maxRecDepth 100000

theorem resRow {w w1 : World} (x y : Value) (h : Below ((w.alloc (.cells #[x, y] 27)).alloc (.cells #[.int .i64 0, .slice none 0 0, .slice none 0 0] 32)).heap.size ((w.alloc (.cells #[x, y] 27)).alloc (.cells #[.int .i64 0, .slice none 0 0, .slice none 0 0] 32)) w1) :
    OwnRow w1 (w.heap.size + 1) 3 (fun i => if i = 0 then .int .i64 0 else if i = 1 then .slice none 0 0 else .slice none 0 0) := by
  have h2 := (three (w.alloc (.cells #[x, y] 27)) (.int .i64 0) (.slice none 0 0) (.slice none 0 0) 32).later h
  simpa using h2

set_option maxHeartbeats 1600000 in
theorem implPut_place (w : World) (aB : Option Addr) (cB : Nat) (aC : Option Addr) (nC cC : Nat) (v : Value) (bs : List (List Int)) (ps : List (Int × List Int)) (x : Int) (hB : IntsS w (.slice aB bs.length cB) bs) (hP : Puts w (.slice aC nC cC) ps) (hf : ¬ placeF bs ps x = 0) :
    Calls Try.prog 14 #[.agg #[.slice aB bs.length cB, .slice aC nC cC], .int .i64 x, v] w fun e w' => e = .returned (.agg #[.int .i64 (placeF bs ps x), .slice none 0 0, .slice none 0 0]) ∧ Below w.heap.size w w' := by
  have HB : Hid (IntsS w (.slice aB bs.length cB) bs) := hB
  have HP : Hid (Puts w (.slice aC nC cC) ps) := hP
  clear hB hP
  generalize hF : placeF bs ps x = F at *
  have HF : Hid (placeF bs ps x = F) := hF
  have hne : (F != 0) = true := by simpa using hf
  clear hF hf
  go_enter Try.func14, Try.ntmps14
  go_wp2_with fail
  refine (placeFault_any _ aB cB _ bs ps x (HB.out.later (later2 _ _ _)) (HP.out.later (later2 _ _ _))).mono ?_
  rw [HF.out]
  rintro e w1 ⟨rfl, hb1⟩
  have HW1 : Hid (Below w.heap.size w w1) := (later2 _ _ _).trans (hb1.mono (by simp; omega))
  have HR1 := resRow _ _ hb1
  have t0 := HR1.cell (i := 0) (by omega)
  have t1 := HR1.cell (i := 1) (by omega)
  have t2 := HR1.cell (i := 2) (by omega)
  have s0 := HR1.frozen 0
  have s1 := HR1.frozen 1
  have s2 := HR1.frozen 2
  simp at t0 t1 t2
  clear hb1 HR1
  go_wp2
  exact bodyPost_ret (v := .agg #[.int .i64 F, .slice none 0 0, .slice none 0 0]) (by simp [results, Try.results14, go_sem, t0, t1, t2]) rfl ⟨rfl, ((HW1.out.setCell (by simp) _).setCell (by simp) _).setCell (by simp) _⟩

set_option maxHeartbeats 1600000 in
theorem implPut_words (w : World) (aB : Option Addr) (cB : Nat) (aC : Option Addr) (nC cC : Nat) (v : Value) (bs : List (List Int)) (ps : List (Int × List Int)) (x : Int) (ws : List Int) (hB : IntsS w (.slice aB bs.length cB) bs) (hP : Puts w (.slice aC nC cC) ps) (hV : Ints w v ws) (hf : placeF bs ps x = 0) (hw : ¬ wordsF ws = 0) :
    Calls Try.prog 14 #[.agg #[.slice aB bs.length cB, .slice aC nC cC], .int .i64 x, v] w fun e w' => e = .returned (.agg #[.int .i64 (wordsF ws), .slice none 0 0, .slice none 0 0]) ∧ Below w.heap.size w w' := by
  have HB : Hid (IntsS w (.slice aB bs.length cB) bs) := hB
  have HP : Hid (Puts w (.slice aC nC cC) ps) := hP
  have HV : Hid (Ints w v ws) := hV
  have HF : Hid (placeF bs ps x = 0) := hf
  generalize hc : wordsF ws = c at *
  have HC : Hid (wordsF ws = c) := hc
  have hne : (c != 0) = true := by simpa using hw
  clear hB hP hV hf hw hc
  go_enter Try.func14, Try.ntmps14
  go_wp2_with fail
  refine (placeFault_any _ aB cB _ bs ps x (HB.out.later (later2 _ _ _)) (HP.out.later (later2 _ _ _))).mono ?_
  rw [HF.out]
  rintro e w1 ⟨rfl, hb1⟩
  have HW1 : Hid (Below w.heap.size w w1) := (later2 _ _ _).trans (hb1.mono (by simp; omega))
  have HR1 := resRow _ _ hb1
  have t0 := HR1.cell (i := 0) (by omega)
  have t1 := HR1.cell (i := 1) (by omega)
  have t2 := HR1.cell (i := 2) (by omega)
  have s0 := HR1.frozen 0
  have s1 := HR1.frozen 1
  have s2 := HR1.frozen 2
  simp at t0 t1 t2
  clear hb1 HR1
  go_wp2_with fail
  refine (words_any (HV.out.later HW1.out)).mono ?_
  rw [HC.out]
  rintro e w2 ⟨rfl, rfl⟩
  go_wp2
  exact bodyPost_ret (v := .agg #[.int .i64 c, .slice none 0 0, .slice none 0 0]) (by simp [results, Try.results14, go_sem, t0, t1, t2]) rfl ⟨rfl, ((HW1.out.setCell (by simp) _).setCell (by simp) _).setCell (by simp) _⟩

set_option maxHeartbeats 400000 in
theorem isFull_any (w : World) (bd : Nat) (aP : Option Addr) (nP cP : Nat) (h1 : w.cell? ⟨bd, 1, none⟩ = some (.slice aP nP cP)) (b : Bool) (hb : decide ((200 : Int) ≤ (nP : Int)) = b) :
    Calls Try.prog 43 #[.pointer (some ⟨bd, 0, none⟩)] w fun e w' => e = .returned (.bool b) ∧ w' = w := by
  go_enter Try.func43, Try.ntmps43
  go_wp2
  go_ret
  exact ⟨rfl, rfl⟩

set_option maxHeartbeats 3200000 in
theorem implPut_full (w : World) (aB aC : Option Addr) (cB cC : Nat) (v : Value) (bs : List (List Int)) (ps : List (Int × List Int)) (x : Int) (ws : List Int) (hB : IntsS w (.slice aB bs.length cB) bs) (hP : Puts w (.slice aC ps.length cC) ps) (sB : AtS w aB bs.length bs) (sP : AtP w aC ps.length ps) (hV : Ints w v ws) (hff : faultF bs ps = 0) (hf : placeF bs ps x = 0) (hw : wordsF ws = 0) (hq : 200 ≤ ps.length)
    (hz : ∀ k : Nat, (bs[k]?.getD []).length ≤ 1048576) (hzp : ∀ k : Nat, (ps[k]?.getD (0, [])).2.length ≤ 1048576) (hzw : ws.length ≤ 1048576) :
    Calls Try.prog 14 #[.agg #[.slice aB bs.length cB, .slice aC ps.length cC], .int .i64 x, v] w fun e w' => e = .returned (.agg #[.int .i64 2, .slice none 0 0, .slice none 0 0]) ∧ Below w.heap.size w w' := by
  have HB : Hid (IntsS w (.slice aB bs.length cB) bs) := hB
  have HP : Hid (Puts w (.slice aC ps.length cC) ps) := hP
  have SB : Hid (AtS w aB bs.length bs) := sB
  have SP : Hid (AtP w aC ps.length ps) := sP
  have HV : Hid (Ints w v ws) := hV
  have HF : Hid (placeF bs ps x = 0) := hf
  obtain ⟨g1, g2⟩ := faultF_lens hff
  have G1 : Hid (bs.length ≤ 60) := g1
  have G2 : Hid (ps.length ≤ 200) := g2
  have HC : Hid (wordsF ws = 0) := hw
  have HZ : Hid (∀ k : Nat, (bs[k]?.getD []).length ≤ 1048576) := hz
  have HZP : Hid (∀ k : Nat, (ps[k]?.getD (0, [])).2.length ≤ 1048576) := hzp
  have HZW : Hid (ws.length ≤ 1048576) := hzw
  have hd : decide ((200 : Int) ≤ (ps.length : Int)) = true := by simp; omega
  clear hB hP hV hf hw sB sP hz hzp hzw hff g1 g2 hq
  go_enter Try.func14, Try.ntmps14
  go_wp2_with fail
  refine (placeFault_any _ aB cB _ bs ps x (HB.out.later (later2 _ _ _)) (HP.out.later (later2 _ _ _))).mono ?_
  rw [HF.out]
  rintro e w1 ⟨rfl, hb1⟩
  have HW1 : Hid (Below w.heap.size w w1) := (later2 _ _ _).trans (hb1.mono (by simp; omega))
  have HX1 : Box2 w1 w.heap.size (.slice aB bs.length cB) (.slice aC ps.length cC) := ((Box2.new w _ _ 27).later (later1 _ _)).later hb1
  have HR1 : Hid (OwnRow w1 (w.heap.size + 1) 3 (fun i => if i = 0 then .int .i64 0 else if i = 1 then .slice none 0 0 else .slice none 0 0)) := resRow _ _ hb1
  have hz1 : w.heap.size + 1 < w1.heap.size := HR1.out.lt
  obtain ⟨x0, x1⟩ := HX1
  clear hb1
  go_wp2_with fail
  refine (words_any (HV.out.later HW1.out)).mono ?_
  rw [HC.out]
  rintro e w2 ⟨rfl, hw2⟩
  obtain rfl := hw2.symm
  go_wp2_with fail
  clear x0 x1
  refine (openDisk_walk _ aB aC bs.length cB ps.length cC bs ps rfl rfl G1.out G2.out (fun k _ => HZ.out k) (fun k _ => HZP.out k) (SB.out.later HW1.out) (SP.out.later HW1.out)).mono ?_
  rintro e w2 ⟨bd, g, aP, cP, pb, k, u, rfl, hdr⟩
  have HDR : Hid (Drive w1 w2 bd (some ⟨g, 0, none⟩) bs.length bs.length aP ps.length cP bs ps pb k u) := hdr
  have hbd1 : w1.heap.size ≤ bd := hdr.lo
  have hbd2 : bd < w2.heap.size := hdr.row.lt
  have HW2 : Hid (Below w.heap.size w w2) := HW1.out.trans (hdr.below.mono HW1.out.size)
  clear hdr
  have HR2 := HR1.out.later HDR.out.below
  have e1 := HDR.out.row.cell (i := 1) (by omega)
  simp at e1
  have t0 := HR2.cell (i := 0) (by omega)
  have t1 := HR2.cell (i := 1) (by omega)
  have t2 := HR2.cell (i := 2) (by omega)
  have s0 := HR2.frozen 0
  have s1 := HR2.frozen 1
  have s2 := HR2.frozen 2
  simp at t0 t1 t2
  clear HR2
  go_wp2_with fail
  refine (isFull_any w2 bd aP ps.length cP e1 true hd).mono ?_
  rintro e w3 ⟨rfl, hw3⟩
  obtain rfl := hw3.symm
  go_wp2
  exact bodyPost_ret (v := .agg #[.int .i64 2, .slice none 0 0, .slice none 0 0]) (by simp [results, Try.results14, go_sem, t0, t1, t2]) rfl ⟨rfl, ((HW2.out.setCell (by simp) _).setCell (by simp) _).setCell (by simp) _⟩

set_option maxHeartbeats 3200000 in
theorem implPut_ok (w : World) (aB aC : Option Addr) (cB cC : Nat) (v : Value) (bs : List (List Int)) (ps : List (Int × List Int)) (x : Int) (ws : List Int) (hB : IntsS w (.slice aB bs.length cB) bs) (hP : Puts w (.slice aC ps.length cC) ps) (sB : AtS w aB bs.length bs) (sP : AtP w aC ps.length ps) (hV : Ints w v ws) (hff : faultF bs ps = 0) (hf : placeF bs ps x = 0) (hw : wordsF ws = 0) (hq : ¬ 200 ≤ ps.length)
    (hz : ∀ k : Nat, (bs[k]?.getD []).length ≤ 1048576) (hzp : ∀ k : Nat, (ps[k]?.getD (0, [])).2.length ≤ 1048576) (hzw : ws.length ≤ 1048576) :
    Calls Try.prog 14 #[.agg #[.slice aB bs.length cB, .slice aC ps.length cC], .int .i64 x, v] w (AnsDisk w 0 bs (ps ++ [(x, ws)])) := by
  have HB : Hid (IntsS w (.slice aB bs.length cB) bs) := hB
  have HP : Hid (Puts w (.slice aC ps.length cC) ps) := hP
  have SB : Hid (AtS w aB bs.length bs) := sB
  have SP : Hid (AtP w aC ps.length ps) := sP
  have HV : Hid (Ints w v ws) := hV
  have HF : Hid (placeF bs ps x = 0) := hf
  obtain ⟨g1, g2⟩ := faultF_lens hff
  have G1 : Hid (bs.length ≤ 60) := g1
  have G2 : Hid (ps.length ≤ 200) := g2
  have HC : Hid (wordsF ws = 0) := hw
  have HZ : Hid (∀ k : Nat, (bs[k]?.getD []).length ≤ 1048576) := hz
  have HZP : Hid (∀ k : Nat, (ps[k]?.getD (0, [])).2.length ≤ 1048576) := hzp
  have HZW : Hid (ws.length ≤ 1048576) := hzw
  have hd : decide ((200 : Int) ≤ (ps.length : Int)) = false := by simp; omega
  clear hB hP hV hf hw sB sP hz hzp hzw hff g1 g2 hq
  go_enter Try.func14, Try.ntmps14
  go_wp2_with fail
  refine (placeFault_any _ aB cB _ bs ps x (HB.out.later (later2 _ _ _)) (HP.out.later (later2 _ _ _))).mono ?_
  rw [HF.out]
  rintro e w1 ⟨rfl, hb1⟩
  have HW1 : Hid (Below w.heap.size w w1) := (later2 _ _ _).trans (hb1.mono (by simp; omega))
  have HX1 : Box2 w1 w.heap.size (.slice aB bs.length cB) (.slice aC ps.length cC) := ((Box2.new w _ _ 27).later (later1 _ _)).later hb1
  have HR1 : Hid (OwnRow w1 (w.heap.size + 1) 3 (fun i => if i = 0 then .int .i64 0 else if i = 1 then .slice none 0 0 else .slice none 0 0)) := resRow _ _ hb1
  have hz1 : w.heap.size + 1 < w1.heap.size := HR1.out.lt
  obtain ⟨x0, x1⟩ := HX1
  clear hb1
  go_wp2_with fail
  refine (words_any (HV.out.later HW1.out)).mono ?_
  rw [HC.out]
  rintro e w2 ⟨rfl, hw2⟩
  obtain rfl := hw2.symm
  go_wp2_with fail
  clear x0 x1
  refine (openDisk_walk _ aB aC bs.length cB ps.length cC bs ps rfl rfl G1.out G2.out (fun k _ => HZ.out k) (fun k _ => HZP.out k) (SB.out.later HW1.out) (SP.out.later HW1.out)).mono ?_
  rintro e w2 ⟨bd, g, aP, cP, pb, k, u, rfl, hdr⟩
  have HDR : Hid (Drive w1 w2 bd (some ⟨g, 0, none⟩) bs.length bs.length aP ps.length cP bs ps pb k u) := hdr
  have hbd1 : w1.heap.size ≤ bd := hdr.lo
  have hbd2 : bd < w2.heap.size := hdr.row.lt
  have HW2 : Hid (Below w.heap.size w w2) := HW1.out.trans (hdr.below.mono HW1.out.size)
  have HCM : Hid (Cache w2 (bd + 1) (.slice aP ps.length cP) ps.length (more ps x ws) pb k u) := by
    have h := hdr.cache
    exact ⟨h.own, h.lo, h.ne, h.inj, fun i hi => by rw [more_old hi]; exact h.box i hi, fun i hi => by rw [more_old hi]; exact h.sh i hi, fun i hi => by rw [more_old hi]; exact h.at' i hi⟩
  clear hdr
  have HV2 : Hid (Ints w2 v (more ps x ws ps.length).2) := by unfold Hid; rw [more_new]; exact HV.out.later HW2.out
  have e1 := HDR.out.row.cell (i := 1) (by omega)
  simp at e1
  go_wp2_with fail
  refine (isFull_any w2 bd aP ps.length cP e1 false hd).mono ?_
  rintro e w3 ⟨rfl, hw3⟩
  obtain rfl := hw3.symm
  clear e1
  have HPUT : Hid (Calls _ _ _ _ _) := put_any w2 bd (bd + 1) ps.length _ aP cP (more ps x ws) pb k u (Nat.lt_succ_self _) (by omega) (by have := G2.out; omega) HDR.out.row HCM.out v HV2.out (by rw [more_new]; exact HZW.out)
  rw [more_new] at HPUT
  go_wp2_with fail
  refine HPUT.out.mono ?_
  rintro e w3 ⟨rfl, X, g', c', pb', k', u', rfl, hbX, hcX⟩
  have HX : Hid (Below (bd + 1) w2 X) := hbX
  have HCX : Hid (Cache (X.setCell ⟨bd, 1, none⟩ (.slice (some ⟨g', 0, none⟩) (ps.length + 1) c')) (bd + 1) (.slice (some ⟨g', 0, none⟩) (ps.length + 1) c') (ps.length + 1) (more ps x ws) pb' k' u') := hcX.store (by simp) _
  have HRX : Hid (OwnRow (X.setCell ⟨bd, 1, none⟩ (.slice (some ⟨g', 0, none⟩) (ps.length + 1) c')) bd 2 (fun c => if c = 0 then .slice (some ⟨g, 0, none⟩) bs.length bs.length else .slice (some ⟨g', 0, none⟩) (ps.length + 1) c')) :=
    ((HDR.out.row.block (hbX.block _ (by omega))).set 1 _).congr fun c hc => by
      have : c = 0 ∨ c = 1 := by omega
      rcases this with rfl | rfl <;> simp
  have HIX : Hid (IntsSO (X.setCell ⟨bd, 1, none⟩ (.slice (some ⟨g', 0, none⟩) (ps.length + 1) c')) (.slice (some ⟨g, 0, none⟩) bs.length bs.length) bs (fun c => w1.heap.size ≤ c ∧ c < bd)) := (HDR.out.blocks.keep fun b hb hlt => hbX.block b (by omega)).store (fun b hb => by simp; omega) _
  have HR3 : Hid (OwnRow (X.setCell ⟨bd, 1, none⟩ (.slice (some ⟨g', 0, none⟩) (ps.length + 1) c')) (w.heap.size + 1) 3 (fun i => if i = 0 then .int .i64 0 else if i = 1 then .slice none 0 0 else .slice none 0 0)) := ((HR1.out.later HDR.out.below).block (hbX.block _ (by omega))).store (by simp; omega) _
  have HW3 : Hid (Below w.heap.size w (X.setCell ⟨bd, 1, none⟩ (.slice (some ⟨g', 0, none⟩) (ps.length + 1) c'))) := (HW2.out.trans (hbX.mono (by have := HW1.out.size; omega))).setCell (by simp; have := HW1.out.size; omega) _
  clear hbX hcX HPUT
  generalize hW : X.setCell ⟨bd, 1, none⟩ (.slice (some ⟨g', 0, none⟩) (ps.length + 1) c') = W at *
  clear hW
  go_wp2_with fail
  refine (disk_any W bd (bd + 1) (ps.length + 1) (some ⟨g, 0, none⟩) bs.length bs.length (some ⟨g', 0, none⟩) c' (more ps x ws) pb' k' u' (by have := G2.out; omega) HRX.out HCX.out).mono ?_
  rintro e w4 ⟨aD, cD, rfl, hb4, hl4⟩
  have HL4 : Hid (LRow (C2 fun i => (more ps x ws i).1) w4 W.heap.size (bd + 1) 38 2 (.slice aD (ps.length + 1) cD) (ps.length + 1) (fun i => (more ps x ws i).2) k' u') := hl4
  have HI4 : Hid (IntsSO w4 (.slice (some ⟨g, 0, none⟩) bs.length bs.length) bs (fun c => w1.heap.size ≤ c ∧ c < bd)) := HIX.out.keep fun b hb hlt => hb4.block b hlt
  have HW4 : Hid (Below w.heap.size w w4) := HW3.out.trans (hb4.mono HW3.out.size)
  have HR4 := HR3.out.later hb4
  have hbdW : bd < W.heap.size := HRX.out.lt
  have hbd4 : bd < w4.heap.size := by have := hb4.size; omega
  have t0 := HR4.cell (i := 0) (by omega)
  have t1 := HR4.cell (i := 1) (by omega)
  have t2 := HR4.cell (i := 2) (by omega)
  have s0 := HR4.frozen 0
  have s1 := HR4.frozen 1
  have s2 := HR4.frozen 2
  simp at t0 t1 t2
  clear hb4 hl4 HR4
  go_wp2
  refine bodyPost_ret (v := .agg #[.int .i64 0, .slice (some ⟨g, 0, none⟩) bs.length bs.length, .slice aD (ps.length + 1) cD]) (by simp [results, Try.results14, go_sem, t0, t1, t2]) rfl ⟨_, _, _, _, _, _, rfl, ?_, ?_⟩
  · exact ((HW4.out.setCell (by simp) _).setCell (by simp) _).setCell (by simp) _
  · refine ⟨fun c => w1.heap.size ≤ c ∧ c < bd, fun c => bd < c ∧ c < w4.heap.size, ((HI4.out.store (fun b hb => by simp; omega) _).store (fun b hb => by simp; omega) _).store (fun b hb => by simp; omega) _, ?_, fun b h1 h2 => by omega, fun b hb => ?_⟩
    · have h1 : PutsO w4 (.slice aD (ps.length + 1) cD) (ps ++ [(x, ws)]) (fun c => bd < c ∧ c < w4.heap.size) :=
        LRow.puts2 (ps := ps ++ [(x, ws)]) HL4.out (by simp) _ (fun g hg => by have := HL4.out.own.lt g hg; omega) (fun i hi => by have := HL4.out.lo i hi; omega)
      exact ((h1.store (fun b hb => by simp; omega) _).store (fun b hb => by simp; omega) _).store (fun b hb => by simp; omega) _
    · simp only [World.setCell, Array.size_modify]
      have h0 := HW1.out.size
      rcases hb with hb | hb <;> omega

theorem implPut_any (w : World) (vB vC v : Value) (bs : List (List Int)) (ps : List (Int × List Int)) (x : Int) (ws : List Int) (hB : IntsS w vB bs) (hP : Puts w vC ps) (hV : Ints w v ws) (hz : ∀ k : Nat, (bs[k]?.getD []).length ≤ 1048576) (hzp : ∀ k : Nat, (ps[k]?.getD (0, [])).2.length ≤ 1048576) (hzw : ws.length ≤ 1048576) :
    Calls Try.prog 14 #[.agg #[vB, vC], .int .i64 x, v] w (AnsDisk w (putCode bs ps x ws) (putBlocks bs ps x ws) (putCache bs ps x ws)) := by
  obtain ⟨aB, cB, rfl, m1, sB⟩ := hB.open'
  obtain ⟨aC, cC, rfl, m2, sP⟩ := hP.open'
  have bad : ∀ c : Int, ¬ c = 0 → putCode bs ps x ws = c → (∀ e w', (e = .returned (.agg #[.int .i64 c, .slice none 0 0, .slice none 0 0]) ∧ Below w.heap.size w w') → AnsDisk w (putCode bs ps x ws) (putBlocks bs ps x ws) (putCache bs ps x ws) e w') := by
    intro c hc he e w' ⟨h1, h2⟩
    have e1 : putBlocks bs ps x ws = [] := by unfold putBlocks; rw [he]; simp [hc]
    have e2 : putCache bs ps x ws = [] := by unfold putCache; rw [he]; simp [hc]
    rw [he, e1, e2, h1]
    exact ans_bad h2 c
  by_cases h0 : placeF bs ps x = 0
  · by_cases hw : wordsF ws = 0
    · have hf : faultF bs ps = 0 := by
        by_cases hf : faultF bs ps = 0
        · exact hf
        · rw [placeF_fault hf] at h0; exact h0
      by_cases hq : 200 ≤ ps.length
      · exact (implPut_full w aB aC cB cC v bs ps x ws hB hP sB sP hV hf h0 hw hq hz hzp hzw).mono fun e w' h => bad 2 (by decide) (by unfold putCode; simp [h0, hw, hq]) e w' h
      · have ec : putCode bs ps x ws = 0 := by unfold putCode; simp [h0, hw, hq]
        have e1 : putBlocks bs ps x ws = bs := by unfold putBlocks; simp [ec]
        have e2 : putCache bs ps x ws = ps ++ [(x, ws)] := by unfold putCache; simp [ec]
        rw [ec, e1, e2]
        exact implPut_ok w aB aC cB cC v bs ps x ws hB hP sB sP hV hf h0 hw hq hz hzp hzw
    · exact (implPut_words w aB cB aC _ cC v bs ps x ws hB hP hV h0 hw).mono fun e w' h => bad _ hw (by unfold putCode; simp [h0, hw]) e w' h
  · exact (implPut_place w aB cB aC _ cC v bs ps x hB hP h0).mono fun e w' h => bad _ h0 (by unfold putCode; simp [h0]) e w' h
end Go.Proofs.Ytmjdechoookpmaa

namespace Go.Proofs.Ytmjdechoookpmaa
open Go.RowKit
set_option maxRecDepth 100000

theorem IntsSO.row {w : World} {g n cap : Nat} {zss : List (List Int)} {F : Nat → Prop} (h : IntsSO w (.slice (some ⟨g, 0, none⟩) n cap) zss F) (h0 : 0 < zss.length) : ∃ u, OwnRow w g n u ∧ F g ∧ ∀ i, i < n → ∃ ua un uc, u i = .slice ua un uc := by
  rcases h with ⟨h, _⟩ | ⟨b, cap', u, G, hFb, _, _, h1, _, h3, h4⟩
  · subst h; simp at h0
  · simp only [Value.slice.injEq, Option.some.injEq, Addr.mk.injEq, and_true] at h1
    obtain ⟨rfl, rfl, rfl⟩ := h1
    refine ⟨u, h3, hFb, fun i hi => ?_⟩
    rcases h4 i hi with ⟨_, a, c, e⟩ | ⟨_, _, _, e, _⟩
    · exact ⟨_, _, _, e⟩
    · exact ⟨_, _, _, e⟩
theorem AtBs.set {w X : World} {a : Option Addr} {n g x : Nat} {v : Value} {pb : List Bool} (h : AtBs w a n pb) (hb : Below w.heap.size w X) (hg : ∀ b off, a = some ⟨b, off, none⟩ → b ≠ g) : AtBs (X.setCell ⟨g, x, none⟩ v) a n pb := fun k hk => by
  obtain ⟨b, off, e, c⟩ := h k hk
  exact ⟨b, off, e, (World.cell?_of_block (w := X) (Below.heap_setCell _ _ _ _ (hg b off e))).trans (cell_later hb c)⟩

set_option maxHeartbeats 3200000 in
theorem settle_any (w : World) (lo bd g nB n : Nat) (aP : Option Addr) (cP : Nat) (ap : Option Addr) (np cap : Nat) (bs : List (List Int)) (ps : List (Int × List Int)) (bb : List Bool) (pb k : Nat → Nat) (u : Nat → Value) (hlo : lo ≤ bd) (hbl : bs.length = nB) (hn : n ≤ 200) (hnB : nB ≤ 60) (hnp : bb.length = np) (hpl : ∀ i, i < n → ∃ x : Nat, (ps[i]?.getD (0, [])).1 = x ∧ x < nB) (hzp : ∀ k : Nat, (ps[k]?.getD (0, [])).2.length ≤ 1048576) (hA : AtBs w ap np bb) (hAg : 0 < nB → 0 < np → ∀ b off, ap = some ⟨b, off, none⟩ → b ≠ g)
    (hd : OwnRow w bd 2 (fun c => if c = 0 then .slice (some ⟨g, 0, none⟩) nB nB else .slice aP n cP)) (hc : Cache w (bd + 1) (.slice aP n cP) n (fun i => ps[i]?.getD (0, [])) pb k u) (hb : IntsSO w (.slice (some ⟨g, 0, none⟩) nB nB) bs (fun c => lo ≤ c ∧ c < bd)) :
    Calls Try.prog 35 #[.pointer (some ⟨bd, 0, none⟩), .slice ap np cap] w fun e w' => e = .returned (.tuple #[]) ∧ Below lo w w' ∧ OwnRow w' bd 2 (fun c => if c = 0 then .slice (some ⟨g, 0, none⟩) nB nB else .slice none 0 0) ∧ IntsSO w' (.slice (some ⟨g, 0, none⟩) nB nB) (keepTo (fun i => bb[i]?.getD false) bs ps n) (fun c => lo ≤ c ∧ c < w'.heap.size ∧ c ≠ bd) := by
  have HC : Hid (Cache w (bd + 1) (.slice aP n cP) n (fun i => ps[i]?.getD (0, [])) pb k u) := hc
  have HD : Hid (OwnRow w bd 2 (fun c => if c = 0 then .slice (some ⟨g, 0, none⟩) nB nB else .slice aP n cP)) := hd
  have HB : Hid (IntsSO w (.slice (some ⟨g, 0, none⟩) nB nB) bs (fun c => lo ≤ c ∧ c < bd)) := hb
  have HPL : Hid (∀ i, i < n → ∃ x : Nat, (ps[i]?.getD (0, [])).1 = x ∧ x < nB) := hpl
  have HZP : Hid (∀ k : Nat, (ps[k]?.getD (0, [])).2.length ≤ 1048576) := hzp
  have HA : Hid (AtBs w ap np bb) := hA
  have d0 := hd.cell (i := 0) (by omega)
  have d1 := hd.cell (i := 1) (by omega)
  simp at d0 d1
  have hlt : bd < w.heap.size := hd.lt
  have HAG : Hid (0 < nB → 0 < np → ∀ b off, ap = some ⟨b, off, none⟩ → b ≠ g) := hAg
  clear hc hd hb hpl hzp hA hAg
  go_enter Try.func35, Try.ntmps35
  go_wp2_with fail
  go_loopw [4, 5, 11] (fun _ _ i wr => ∃ j : Nat, j ≤ n ∧ i = .int .i64 j ∧ Below lo w wr ∧ OwnRow wr bd 2 (fun c => if c = 0 then .slice (some ⟨g, 0, none⟩) nB nB else .slice aP n cP) ∧ Cache wr (bd + 1) (.slice aP n cP) n (fun i => ps[i]?.getD (0, [])) pb k u ∧ AtBs wr ap np bb ∧
    IntsSO wr (.slice (some ⟨g, 0, none⟩) nB nB) (keepTo (fun i => bb[i]?.getD false) bs ps j) (fun c => lo ≤ c ∧ c < wr.heap.size ∧ (c < bd ∨ w.heap.size ≤ c))) (fun _ _ i _ => n - (intOf i).toNat)
  case atStart => exact ⟨0, Nat.zero_le _, rfl, Below.refl _ _, HD.out, HC.out, HA.out, HB.out.mono fun b hb => ⟨hb.1, by omega, Or.inl hb.2⟩⟩
  case round =>
    obtain ⟨j, hj, rfl, hbw, hrow, hca, hat, his⟩ := hrel
    have HBW : Hid (Below lo w wr) := hbw
    have HROW : Hid (OwnRow wr bd 2 (fun c => if c = 0 then .slice (some ⟨g, 0, none⟩) nB nB else .slice aP n cP)) := hrow
    have HCA : Hid (Cache wr (bd + 1) (.slice aP n cP) n (fun i => ps[i]?.getD (0, [])) pb k u) := hca
    have HAT : Hid (AtBs wr ap np bb) := hat
    have HIS : Hid (IntsSO wr (.slice (some ⟨g, 0, none⟩) nB nB) (keepTo (fun i => bb[i]?.getD false) bs ps j) (fun c => lo ≤ c ∧ c < wr.heap.size ∧ (c < bd ∨ w.heap.size ≤ c))) := his
    have hws : w.heap.size ≤ wr.heap.size := hbw.size
    clear hbw hrow hca hat his d0 d1
    have d0 := HROW.out.cell (i := 0) (by omega)
    have d1 := HROW.out.cell (i := 1) (by omega)
    have d2 := HROW.out.frozen 1
    simp at d0 d1
    by_cases hlt2 : j < n
    · obtain ⟨g', ua, uc, e, p0, p1, p2, hu⟩ := HCA.out.ptr hlt2
      subst e
      have HI0 := (HCA.out.at' j hlt2).ints
      rw [hu] at HI0
      obtain ⟨x, hx, hxl⟩ := HPL.out j hlt2
      simp only [hx] at p1
      generalize hwd : (ps[j]?.getD (0, [])).2 = wd at p2 HI0
      have HWD : Hid ((ps[j]?.getD (0, [])).2 = wd) := hwd
      have HLW : Hid (wd.length ≤ 1048576) := hwd ▸ HZP.out j
      have HXX : Hid ((ps[j]?.getD (0, [])).1 = (x : Int)) := hx
      have HI : Hid (Ints wr (.slice ua wd.length uc) wd) := HI0
      have HUU : Hid (u j = .slice ua wd.length uc) := by unfold Hid; rw [hu, hwd]
      clear HI0 hwd hx hu
      by_cases hqn : j < np
      · obtain ⟨b', off', e', c3⟩ := HAT.out j hqn
        subst e'
        cases hpk : bb[j]?.getD false
        · rw [hpk] at c3
          go_wp2
          go_roundw
          case rel => exact ⟨j + 1, by omega, by go_num, HBW.out, HROW.out, HCA.out, HAT.out, by rw [keepTo_skip (by simp [hpk])]; exact HIS.out⟩
          case measure => simp [intOf]; omega
        · rw [hpk] at c3
          obtain ⟨ur, hur, _, hsh⟩ := HIS.out.row (by rw [keepTo_length]; omega)
          have HUR : Hid (OwnRow wr g nB ur) := hur
          have HSX : Hid (∃ ua un uc, ur x = .slice ua un uc) := hsh x hxl
          have hgw : g < wr.heap.size := hur.lt
          have hgb : lo ≤ g ∧ g < bd := by
            obtain ⟨_, _, h, _⟩ := HB.out.row (by omega)
            exact h
          clear hur hsh
          go_wp2_with fail
          go_region_with ((go_at_call 71; refine (set_any _ bd 0 g nB nB x ur _ wd hnB hxl ?_ ?_ HSX.out ?_ HLW.out).mono ?_; exact d0; exact HUR.out; exact HI.out; rintro e w2 ⟨rfl, X, rfl, hbX, hoX⟩; have HX : Hid (Below wr.heap.size wr X) := (Below.refl _ _).drew.trans hbX; have HO : Hid (IntsO X (.slice (some ⟨wr.heap.size, 0, none⟩) wd.length wd.length) wd (fresh wr X)) := hoX; clear hbX hoX))
          all_goals
            go_wp2
            go_roundw
            case rel =>
              have hXs := HX.out.size
              refine ⟨j + 1, by omega, by go_num, (HBW.out.trans (HX.out.mono (by omega))).setCell (by simp; omega) _, (HROW.out.later HX.out).store (by simp; omega) _, (HCA.out.later HX.out).keep (by simp [World.setCell]) (fun b h1 _ => Below.heap_setCell _ _ _ _ (by simp; omega)), HAT.out.set HX.out (HAG.out (by omega) (by omega)), ?_⟩
              rw [keepTo_step (by simp [hpk]), HXX.out, HWD.out]
              refine (HIS.out.set (x := x) (by rw [keepTo_length]; omega) HX.out (fun b hb => hb.2.1) HO.out).mono fun c hc => ?_
              simp only [World.setCell, Array.size_modify]
              rcases hc with hc | hc
              · omega
              · have := hc.1; have := hc.2; omega
            case measure => simp [intOf]; omega
      · have hpk : bb[j]?.getD false = false := by rw [List.getElem?_eq_none (by omega)]; rfl
        go_wp2
        go_roundw
        case rel => exact ⟨j + 1, by omega, by go_num, HBW.out, HROW.out, HCA.out, HAT.out, by rw [keepTo_skip (by simp [hpk])]; exact HIS.out⟩
        case measure => simp [intOf]; omega
    · have e : j = n := by omega
      subst e
      go_wp2
      go_end0
      refine ⟨rfl, HBW.out.setCell hlo _, (HROW.out.set 1 _).congr fun c hc => ?_, (HIS.out.store (fun b hb => by simp; omega) _).mono fun b hb => ⟨hb.1, by simp [World.setCell]; omega, by omega⟩⟩
      have : c = 0 ∨ c = 1 := by omega
      rcases this with rfl | rfl <;> simp
end Go.Proofs.Ytmjdechoookpmaa

namespace Go.Proofs.Ytmjdechoookpmaa
open Go.RowKit
set_option maxRecDepth 100000

theorem Try.infoBool : (Try.prog.info? 4).map (fun i => (i.zero, i.size, i.bytes)) = some (some (.bool false), 1, 1) := by kernel_rfl

set_option maxHeartbeats 400000 in
theorem allPicked_any (w : World) (n : Nat) (hn : n ≤ 1048576) :
    Calls Try.prog 72 #[.int .i64 (n : Int)] w fun e w' => e = .returned (.slice (some ⟨w.heap.size, 0, none⟩) n n) ∧ Below w.heap.size w w' ∧ OwnRow w' w.heap.size n (fun _ => .bool true) := by
  have hmk := fun w => run_make_row' (P := Try.prog) 28 4 (.bool false) 1 Try.underlying28 Try.infoBool rfl .i64 .i64 n (by omega) (by omega) w
  go_enter Try.func72, Try.ntmps72
  go_wp2
  go_loopw [9] (fun i wr => ∃ j : Nat, j ≤ n ∧ i = .int .i64 j ∧ Below w.heap.size w wr ∧ OwnRow wr w.heap.size n (fun i => if i < j then .bool true else .bool false)) (fun i _ => n - (intOf i).toNat)
  case atStart => exact ⟨0, Nat.zero_le _, rfl, later1 _ _, (OwnRow.made w (.bool false) n 4).congr fun i _ => by simp⟩
  case round =>
    obtain ⟨j, hj, rfl, hbl, hrow⟩ := hrel
    by_cases hlt : j < n
    · have d1 := hrow.cell hlt
      have d2 := hrow.frozen j
      simp only [Nat.lt_irrefl, if_false] at d1
      have HBL : Hid (Below w.heap.size w wr) := hbl
      have HROW : Hid (OwnRow wr w.heap.size n (fun i => if i < j then .bool true else .bool false)) := hrow
      clear hbl hrow
      go_wp2
      go_roundw
      case rel =>
        refine ⟨j + 1, by omega, by go_num, HBL.out.setCell (Nat.le_refl _) _, (HROW.out.set j _).congr fun i hi => ?_⟩
        by_cases e : i = j
        · subst e; simp
        · by_cases e2 : i < j
          · simp [e, e2, show i < j + 1 by omega]
          · simp [e, e2, show ¬ i < j + 1 by omega]
      case measure => simp [intOf]; omega
    · go_wp2
      go_ret
      have e : j = n := by omega
      subst e
      exact ⟨rfl, hbl, hrow.congr fun i hi => by simp [hi]⟩

set_option maxHeartbeats 1600000 in
theorem implFlush_fault (w : World) (vB vC : Value) (bs : List (List Int)) (ps : List (Int × List Int)) (hB : IntsS w vB bs) (hP : Puts w vC ps) (hf : ¬ faultF bs ps = 0) :
    Calls Try.prog 9 #[.agg #[vB, vC]] w fun e w' => e = .returned (.agg #[.int .i64 (faultF bs ps), .slice none 0 0, .slice none 0 0]) ∧ Below w.heap.size w w' := by
  have HB : Hid (IntsS w vB bs) := hB
  have HP : Hid (Puts w vC ps) := hP
  generalize hF : faultF bs ps = F at *
  have HF : Hid (faultF bs ps = F) := hF
  have hne : (F != 0) = true := by simpa using hf
  clear hB hP hF hf
  go_enter Try.func9, Try.ntmps9
  go_wp2_with fail
  refine (fault_any _ _ _ bs ps (HB.out.later (later2 _ _ _)) (HP.out.later (later2 _ _ _))).mono ?_
  rw [HF.out]
  rintro e w1 ⟨rfl, hb1⟩
  have HW1 : Hid (Below w.heap.size w w1) := (later2 _ _ _).trans (hb1.mono (by simp; omega))
  have HR1 := resRow _ _ hb1
  have t0 := HR1.cell (i := 0) (by omega)
  have t1 := HR1.cell (i := 1) (by omega)
  have t2 := HR1.cell (i := 2) (by omega)
  have s0 := HR1.frozen 0
  have s1 := HR1.frozen 1
  have s2 := HR1.frozen 2
  simp at t0 t1 t2
  clear hb1 HR1
  go_wp2
  exact bodyPost_ret (v := .agg #[.int .i64 F, .slice none 0 0, .slice none 0 0]) (by simp [results, Try.results9, go_sem, t0, t1, t2]) rfl ⟨rfl, ((HW1.out.setCell (by simp) _).setCell (by simp) _).setCell (by simp) _⟩

set_option maxHeartbeats 1600000 in
theorem implCrash_fault (w : World) (vB vC v : Value) (bs : List (List Int)) (ps : List (Int × List Int)) (hB : IntsS w vB bs) (hP : Puts w vC ps) (hf : ¬ faultF bs ps = 0) :
    Calls Try.prog 8 #[.agg #[vB, vC], v] w fun e w' => e = .returned (.agg #[.int .i64 (faultF bs ps), .slice none 0 0, .slice none 0 0]) ∧ Below w.heap.size w w' := by
  have HB : Hid (IntsS w vB bs) := hB
  have HP : Hid (Puts w vC ps) := hP
  generalize hF : faultF bs ps = F at *
  have HF : Hid (faultF bs ps = F) := hF
  have hne : (F != 0) = true := by simpa using hf
  clear hB hP hF hf
  go_enter Try.func8, Try.ntmps8
  go_wp2_with fail
  refine (fault_any _ _ _ bs ps (HB.out.later (later2 _ _ _)) (HP.out.later (later2 _ _ _))).mono ?_
  rw [HF.out]
  rintro e w1 ⟨rfl, hb1⟩
  have HW1 : Hid (Below w.heap.size w w1) := (later2 _ _ _).trans (hb1.mono (by simp; omega))
  have HR1 := resRow _ _ hb1
  have t0 := HR1.cell (i := 0) (by omega)
  have t1 := HR1.cell (i := 1) (by omega)
  have t2 := HR1.cell (i := 2) (by omega)
  have s0 := HR1.frozen 0
  have s1 := HR1.frozen 1
  have s2 := HR1.frozen 2
  simp at t0 t1 t2
  clear hb1 HR1
  go_wp2
  exact bodyPost_ret (v := .agg #[.int .i64 F, .slice none 0 0, .slice none 0 0]) (by simp [results, Try.results8, go_sem, t0, t1, t2]) rfl ⟨rfl, ((HW1.out.setCell (by simp) _).setCell (by simp) _).setCell (by simp) _⟩

set_option maxHeartbeats 3200000 in
theorem implCrash_ok (w : World) (aB aC ap : Option Addr) (cB cC cap : Nat) (bs : List (List Int)) (ps : List (Int × List Int)) (bb : List Bool) (hB : IntsS w (.slice aB bs.length cB) bs) (hP : Puts w (.slice aC ps.length cC) ps) (sB : AtS w aB bs.length bs) (sP : AtP w aC ps.length ps) (hA : AtBs w ap bb.length bb) (hab : ∀ b off, ap = some ⟨b, off, none⟩ → 0 < bb.length → b < w.heap.size) (hff : faultF bs ps = 0)
    (hz : ∀ k : Nat, (bs[k]?.getD []).length ≤ 1048576) (hzp : ∀ k : Nat, (ps[k]?.getD (0, [])).2.length ≤ 1048576) :
    Calls Try.prog 8 #[.agg #[.slice aB bs.length cB, .slice aC ps.length cC], .slice ap bb.length cap] w (AnsDisk w 0 (keepTo (fun i => bb[i]?.getD false) bs ps ps.length) []) := by
  have HB : Hid (IntsS w (.slice aB bs.length cB) bs) := hB
  have HP : Hid (Puts w (.slice aC ps.length cC) ps) := hP
  have SB : Hid (AtS w aB bs.length bs) := sB
  have SP : Hid (AtP w aC ps.length ps) := sP
  have HA : Hid (AtBs w ap bb.length bb) := hA
  have HF : Hid (faultF bs ps = 0) := hff
  obtain ⟨g1, g2⟩ := faultF_lens hff
  have G1 : Hid (bs.length ≤ 60) := g1
  have G2 : Hid (ps.length ≤ 200) := g2
  have HZ : Hid (∀ k : Nat, (bs[k]?.getD []).length ≤ 1048576) := hz
  have HZP : Hid (∀ k : Nat, (ps[k]?.getD (0, [])).2.length ≤ 1048576) := hzp
  clear hB hP sB sP hz hzp hff g1 g2 hA
  go_enter Try.func8, Try.ntmps8
  go_wp2_with fail
  refine (fault_any _ _ _ bs ps (HB.out.later (later2 _ _ _)) (HP.out.later (later2 _ _ _))).mono ?_
  rw [HF.out]
  rintro e w1 ⟨rfl, hb1⟩
  have HW1 : Hid (Below w.heap.size w w1) := (later2 _ _ _).trans (hb1.mono (by simp; omega))
  have HX1 : Box2 w1 w.heap.size (.slice aB bs.length cB) (.slice aC ps.length cC) := ((Box2.new w _ _ 27).later (later1 _ _)).later hb1
  have HR1 : Hid (OwnRow w1 (w.heap.size + 1) 3 (fun i => if i = 0 then .int .i64 0 else if i = 1 then .slice none 0 0 else .slice none 0 0)) := resRow _ _ hb1
  have hz1 : w.heap.size + 1 < w1.heap.size := HR1.out.lt
  obtain ⟨x0, x1⟩ := HX1
  clear hb1
  go_wp2_with fail
  clear x0 x1
  refine (openDisk_walk _ aB aC bs.length cB ps.length cC bs ps rfl rfl G1.out G2.out (fun k _ => HZ.out k) (fun k _ => HZP.out k) (SB.out.later HW1.out) (SP.out.later HW1.out)).mono ?_
  rintro e w2 ⟨bd, g, aP, cP, pb, k, u, rfl, hdr⟩
  have HDR : Hid (Drive w1 w2 bd (some ⟨g, 0, none⟩) bs.length bs.length aP ps.length cP bs ps pb k u) := hdr
  have hbd1 : w1.heap.size ≤ bd := hdr.lo
  have hbd2 : bd < w2.heap.size := hdr.row.lt
  have HW2 : Hid (Below w.heap.size w w2) := HW1.out.trans (hdr.below.mono HW1.out.size)
  clear hdr
  have HSET : Hid (Calls _ _ _ _ _) := settle_any w2 w1.heap.size bd g bs.length ps.length aP cP ap bb.length cap bs ps bb pb k u hbd1 rfl G2.out G1.out rfl (faultF_places HF.out) HZP.out (HA.out.later HW2.out) (fun h0 h1 b off e e2 => by
    obtain ⟨_, _, h, _⟩ := HDR.out.blocks.row h0
    have := hab b off e h1
    omega) HDR.out.row HDR.out.cache HDR.out.blocks
  go_wp2_with fail
  refine HSET.out.mono ?_
  rintro e w3 ⟨rfl, hb3, hr3, hi3⟩
  have HR3 : Hid (OwnRow w3 bd 2 (fun c => if c = 0 then .slice (some ⟨g, 0, none⟩) bs.length bs.length else .slice none 0 0)) := hr3
  have HI3 : Hid (IntsSO w3 (.slice (some ⟨g, 0, none⟩) bs.length bs.length) (keepTo (fun i => bb[i]?.getD false) bs ps ps.length) (fun c => w1.heap.size ≤ c ∧ c < w3.heap.size ∧ c ≠ bd)) := hi3
  have HW3 : Hid (Below w.heap.size w w3) := HW2.out.trans (hb3.mono HW1.out.size)
  have HQ3 : Hid (OwnRow w3 (w.heap.size + 1) 3 (fun i => if i = 0 then .int .i64 0 else if i = 1 then .slice none 0 0 else .slice none 0 0)) := (HR1.out.later HDR.out.below).block (hb3.block _ hz1)
  clear hb3 hr3 hi3 HSET
  have d0 := HR3.out.cell (i := 0) (by omega)
  have d1 := HR3.out.cell (i := 1) (by omega)
  simp at d0 d1
  go_wp2_with fail
  refine (disk_nil w3 bd 0 0 none (some ⟨g, 0, none⟩) bs.length bs.length d0 d1).mono ?_
  rintro e w4 ⟨rfl, hb4⟩
  have HW4 : Hid (Below w.heap.size w w4) := HW3.out.trans (hb4.mono HW3.out.size)
  have HI4 : Hid (IntsSO w4 (.slice (some ⟨g, 0, none⟩) bs.length bs.length) (keepTo (fun i => bb[i]?.getD false) bs ps ps.length) (fun c => w1.heap.size ≤ c ∧ c < w3.heap.size ∧ c ≠ bd)) := HI3.out.keep fun b hb hlt => hb4.block b hlt
  have HR4 := HQ3.out.later hb4
  have hz4 : w3.heap.size ≤ w4.heap.size := hb4.size
  have t0 := HR4.cell (i := 0) (by omega)
  have t1 := HR4.cell (i := 1) (by omega)
  have t2 := HR4.cell (i := 2) (by omega)
  have s0 := HR4.frozen 0
  have s1 := HR4.frozen 1
  have s2 := HR4.frozen 2
  simp at t0 t1 t2
  clear hb4 HR4 d0 d1
  go_wp2
  refine bodyPost_ret (v := .agg #[.int .i64 0, .slice (some ⟨g, 0, none⟩) bs.length bs.length, .slice none 0 0]) (by simp [results, Try.results8, go_sem, t0, t1, t2]) rfl ⟨_, _, _, _, _, _, rfl, ?_, ?_⟩
  · exact ((HW4.out.setCell (by simp) _).setCell (by simp) _).setCell (by simp) _
  · refine ⟨fun c => w1.heap.size ≤ c ∧ c < w3.heap.size ∧ c ≠ bd, fun _ => False, ((HI4.out.store (fun b hb => by simp; omega) _).store (fun b hb => by simp; omega) _).store (fun b hb => by simp; omega) _, Or.inl ⟨rfl, none, 0, rfl⟩, fun b _ h => h.elim, fun b hb => ?_⟩
    simp only [World.setCell, Array.size_modify]
    have h0 := HW1.out.size
    rcases hb with hb | hb
    · omega
    · exact hb.elim

set_option maxHeartbeats 1600000 in
theorem flush_any (w : World) (lo bd g nB n : Nat) (aP : Option Addr) (cP : Nat) (bs : List (List Int)) (ps : List (Int × List Int)) (pb k : Nat → Nat) (u : Nat → Value) (hlo : lo ≤ bd) (hbl : bs.length = nB) (hn : n ≤ 200) (hnB : nB ≤ 60) (hpl : ∀ i, i < n → ∃ x : Nat, (ps[i]?.getD (0, [])).1 = x ∧ x < nB) (hzp : ∀ k : Nat, (ps[k]?.getD (0, [])).2.length ≤ 1048576)
    (hd : OwnRow w bd 2 (fun c => if c = 0 then .slice (some ⟨g, 0, none⟩) nB nB else .slice aP n cP)) (hc : Cache w (bd + 1) (.slice aP n cP) n (fun i => ps[i]?.getD (0, [])) pb k u) (hb : IntsSO w (.slice (some ⟨g, 0, none⟩) nB nB) bs (fun c => lo ≤ c ∧ c < bd)) :
    Calls Try.prog 37 #[.pointer (some ⟨bd, 0, none⟩)] w fun e w' => e = .returned (.tuple #[]) ∧ Below lo w w' ∧ OwnRow w' bd 2 (fun c => if c = 0 then .slice (some ⟨g, 0, none⟩) nB nB else .slice none 0 0) ∧ IntsSO w' (.slice (some ⟨g, 0, none⟩) nB nB) (keepTo (fun i => (List.replicate n true)[i]?.getD false) bs ps n) (fun c => lo ≤ c ∧ c < w'.heap.size ∧ c ≠ bd) := by
  have hlt := hd.lt
  have HSET : Hid (∀ w2p, Below w.heap.size w w2p → OwnRow w2p w.heap.size n (fun _ => .bool true) → Calls Try.prog 35 #[.pointer (some ⟨bd, 0, none⟩), .slice (some ⟨w.heap.size, 0, none⟩) n n] w2p fun e w' => e = .returned (.tuple #[]) ∧ Below lo w2p w' ∧ OwnRow w' bd 2 (fun c => if c = 0 then .slice (some ⟨g, 0, none⟩) nB nB else .slice none 0 0) ∧ IntsSO w' (.slice (some ⟨g, 0, none⟩) nB nB) (keepTo (fun i => (List.replicate n true)[i]?.getD false) bs ps n) (fun c => lo ≤ c ∧ c < w'.heap.size ∧ c ≠ bd)) := fun w2p hbp hop =>
    settle_any w2p lo bd g nB n aP cP (some ⟨w.heap.size, 0, none⟩) n n bs ps (List.replicate n true) pb k u hlo hbl hn hnB (by simp) hpl hzp (fun k hk => ⟨w.heap.size, 0, rfl, by rw [Nat.zero_add, hop.cell hk]; simp [hk]⟩) (fun h0 h1 b off e e2 => by
      obtain ⟨_, h, _, _⟩ := hb.row (by omega)
      have h := h.lt
      simp only [Option.some.injEq, Addr.mk.injEq, and_true] at e
      omega) (hd.later hbp) (hc.later hbp) (hb.keep fun b _ hlt => hbp.block b hlt)
  have hlo2 : lo ≤ w.heap.size := by omega
  have e1 := hd.cell (i := 1) (by omega)
  simp at e1
  clear hd hc hb hpl hzp
  go_enter Try.func37, Try.ntmps37
  go_wp2_with fail
  clear e1
  refine (allPicked_any _ n (by omega)).mono ?_
  rintro e w2p ⟨rfl, hbp, hop⟩
  have HP := HSET.out w2p hbp hop
  have HBP : Hid (Below w.heap.size w w2p) := hbp
  clear HSET hbp hop
  go_wp2_with fail
  refine HP.mono ?_
  rintro e w3 ⟨rfl, hb3, hr3, hi3⟩
  have HB3 : Hid (Below lo w w3) := (HBP.out.mono hlo2).trans hb3
  have HR3 : Hid (OwnRow w3 bd 2 (fun c => if c = 0 then .slice (some ⟨g, 0, none⟩) nB nB else .slice none 0 0)) := hr3
  have HI3 : Hid (IntsSO w3 (.slice (some ⟨g, 0, none⟩) nB nB) (keepTo (fun i => (List.replicate n true)[i]?.getD false) bs ps n) (fun c => lo ≤ c ∧ c < w3.heap.size ∧ c ≠ bd)) := hi3
  clear hb3 hr3 hi3
  go_wp2
  go_end0
  exact ⟨rfl, HB3.out, HR3.out, HI3.out⟩

set_option maxHeartbeats 3200000 in
theorem implFlush_ok (w : World) (aB aC : Option Addr) (cB cC : Nat) (bs : List (List Int)) (ps : List (Int × List Int)) (hB : IntsS w (.slice aB bs.length cB) bs) (hP : Puts w (.slice aC ps.length cC) ps) (sB : AtS w aB bs.length bs) (sP : AtP w aC ps.length ps) (hff : faultF bs ps = 0)
    (hz : ∀ k : Nat, (bs[k]?.getD []).length ≤ 1048576) (hzp : ∀ k : Nat, (ps[k]?.getD (0, [])).2.length ≤ 1048576) :
    Calls Try.prog 9 #[.agg #[.slice aB bs.length cB, .slice aC ps.length cC]] w (AnsDisk w 0 (keepTo (fun i => (List.replicate ps.length true)[i]?.getD false) bs ps ps.length) []) := by
  have HB : Hid (IntsS w (.slice aB bs.length cB) bs) := hB
  have HP : Hid (Puts w (.slice aC ps.length cC) ps) := hP
  have SB : Hid (AtS w aB bs.length bs) := sB
  have SP : Hid (AtP w aC ps.length ps) := sP
  have HF : Hid (faultF bs ps = 0) := hff
  obtain ⟨g1, g2⟩ := faultF_lens hff
  have G1 : Hid (bs.length ≤ 60) := g1
  have G2 : Hid (ps.length ≤ 200) := g2
  have HZ : Hid (∀ k : Nat, (bs[k]?.getD []).length ≤ 1048576) := hz
  have HZP : Hid (∀ k : Nat, (ps[k]?.getD (0, [])).2.length ≤ 1048576) := hzp
  clear hB hP sB sP hz hzp hff g1 g2
  go_enter Try.func9, Try.ntmps9
  go_wp2_with fail
  refine (fault_any _ _ _ bs ps (HB.out.later (later2 _ _ _)) (HP.out.later (later2 _ _ _))).mono ?_
  rw [HF.out]
  rintro e w1 ⟨rfl, hb1⟩
  have HW1 : Hid (Below w.heap.size w w1) := (later2 _ _ _).trans (hb1.mono (by simp; omega))
  have HX1 : Box2 w1 w.heap.size (.slice aB bs.length cB) (.slice aC ps.length cC) := ((Box2.new w _ _ 27).later (later1 _ _)).later hb1
  have HR1 : Hid (OwnRow w1 (w.heap.size + 1) 3 (fun i => if i = 0 then .int .i64 0 else if i = 1 then .slice none 0 0 else .slice none 0 0)) := resRow _ _ hb1
  have hz1 : w.heap.size + 1 < w1.heap.size := HR1.out.lt
  obtain ⟨x0, x1⟩ := HX1
  clear hb1
  go_wp2_with fail
  clear x0 x1
  refine (openDisk_walk _ aB aC bs.length cB ps.length cC bs ps rfl rfl G1.out G2.out (fun k _ => HZ.out k) (fun k _ => HZP.out k) (SB.out.later HW1.out) (SP.out.later HW1.out)).mono ?_
  rintro e w2 ⟨bd, g, aP, cP, pb, k, u, rfl, hdr⟩
  have HDR : Hid (Drive w1 w2 bd (some ⟨g, 0, none⟩) bs.length bs.length aP ps.length cP bs ps pb k u) := hdr
  have hbd1 : w1.heap.size ≤ bd := hdr.lo
  have hbd2 : bd < w2.heap.size := hdr.row.lt
  have HW2 : Hid (Below w.heap.size w w2) := HW1.out.trans (hdr.below.mono HW1.out.size)
  clear hdr
  have HSET : Hid (Calls _ _ _ _ _) := flush_any w2 w1.heap.size bd g bs.length ps.length aP cP bs ps pb k u hbd1 rfl G2.out G1.out (faultF_places HF.out) HZP.out HDR.out.row HDR.out.cache HDR.out.blocks
  go_wp2_with fail
  refine HSET.out.mono ?_
  rintro e w3 ⟨rfl, hb3, hr3, hi3⟩
  have HR3 : Hid (OwnRow w3 bd 2 (fun c => if c = 0 then .slice (some ⟨g, 0, none⟩) bs.length bs.length else .slice none 0 0)) := hr3
  have HI3 : Hid (IntsSO w3 (.slice (some ⟨g, 0, none⟩) bs.length bs.length) (keepTo (fun i => (List.replicate ps.length true)[i]?.getD false) bs ps ps.length) (fun c => w1.heap.size ≤ c ∧ c < w3.heap.size ∧ c ≠ bd)) := hi3
  have HW3 : Hid (Below w.heap.size w w3) := HW2.out.trans (hb3.mono HW1.out.size)
  have HQ3 : Hid (OwnRow w3 (w.heap.size + 1) 3 (fun i => if i = 0 then .int .i64 0 else if i = 1 then .slice none 0 0 else .slice none 0 0)) := (HR1.out.later HDR.out.below).block (hb3.block _ hz1)
  clear hb3 hr3 hi3 HSET
  have d0 := HR3.out.cell (i := 0) (by omega)
  have d1 := HR3.out.cell (i := 1) (by omega)
  simp at d0 d1
  go_wp2_with fail
  refine (disk_nil w3 bd 0 0 none (some ⟨g, 0, none⟩) bs.length bs.length d0 d1).mono ?_
  rintro e w4 ⟨rfl, hb4⟩
  have HW4 : Hid (Below w.heap.size w w4) := HW3.out.trans (hb4.mono HW3.out.size)
  have HI4 : Hid (IntsSO w4 (.slice (some ⟨g, 0, none⟩) bs.length bs.length) (keepTo (fun i => (List.replicate ps.length true)[i]?.getD false) bs ps ps.length) (fun c => w1.heap.size ≤ c ∧ c < w3.heap.size ∧ c ≠ bd)) := HI3.out.keep fun b hb hlt => hb4.block b hlt
  have HR4 := HQ3.out.later hb4
  have hz4 : w3.heap.size ≤ w4.heap.size := hb4.size
  have t0 := HR4.cell (i := 0) (by omega)
  have t1 := HR4.cell (i := 1) (by omega)
  have t2 := HR4.cell (i := 2) (by omega)
  have s0 := HR4.frozen 0
  have s1 := HR4.frozen 1
  have s2 := HR4.frozen 2
  simp at t0 t1 t2
  clear hb4 HR4 d0 d1
  go_wp2
  refine bodyPost_ret (v := .agg #[.int .i64 0, .slice (some ⟨g, 0, none⟩) bs.length bs.length, .slice none 0 0]) (by simp [results, Try.results9, go_sem, t0, t1, t2]) rfl ⟨_, _, _, _, _, _, rfl, ?_, ?_⟩
  · exact ((HW4.out.setCell (by simp) _).setCell (by simp) _).setCell (by simp) _
  · refine ⟨fun c => w1.heap.size ≤ c ∧ c < w3.heap.size ∧ c ≠ bd, fun _ => False, ((HI4.out.store (fun b hb => by simp; omega) _).store (fun b hb => by simp; omega) _).store (fun b hb => by simp; omega) _, Or.inl ⟨rfl, none, 0, rfl⟩, fun b _ h => h.elim, fun b hb => ?_⟩
    simp only [World.setCell, Array.size_modify]
    have h0 := HW1.out.size
    rcases hb with hb | hb
    · omega
    · exact hb.elim

theorem keepTo_congr {pk pk' : Nat → Bool} {bs : List (List Int)} {ps : List (Int × List Int)} (n : Nat) (h : ∀ i, i < n → pk i = pk' i) : keepTo pk bs ps n = keepTo pk' bs ps n := by
  induction n with
  | zero => rfl
  | succ n ih =>
    unfold keepTo
    rw [ih fun i hi => h i (by omega), h n (by omega)]

theorem implFlush_any (w : World) (vB vC : Value) (bs : List (List Int)) (ps : List (Int × List Int)) (hB : IntsS w vB bs) (hP : Puts w vC ps) (hz : ∀ k : Nat, (bs[k]?.getD []).length ≤ 1048576) (hzp : ∀ k : Nat, (ps[k]?.getD (0, [])).2.length ≤ 1048576) :
    Calls Try.prog 9 #[.agg #[vB, vC]] w (AnsDisk w (faultF bs ps) (keepBlocks (fun _ => true) bs ps) []) := by
  obtain ⟨aB, cB, rfl, _, sB⟩ := hB.open'
  obtain ⟨aC, cC, rfl, _, sP⟩ := hP.open'
  unfold keepBlocks
  by_cases hf : faultF bs ps = 0
  · rw [if_pos hf, hf]
    have := implFlush_ok w aB aC cB cC bs ps hB hP sB sP hf hz hzp
    rwa [keepTo_congr (pk' := fun _ => true) ps.length fun i hi => by simp [hi]] at this
  · rw [if_neg hf]
    exact (implFlush_fault w _ _ bs ps hB hP hf).mono fun e w' ⟨h1, h2⟩ => by rw [h1]; exact ans_bad h2 _
theorem implCrash_any (w : World) (vB vC : Value) (ap : Option Addr) (cap : Nat) (bs : List (List Int)) (ps : List (Int × List Int)) (pb : List Bool) (hB : IntsS w vB bs) (hP : Puts w vC ps) (hA : AtBs w ap pb.length pb) (hz : ∀ k : Nat, (bs[k]?.getD []).length ≤ 1048576) (hzp : ∀ k : Nat, (ps[k]?.getD (0, [])).2.length ≤ 1048576) :
    Calls Try.prog 8 #[.agg #[vB, vC], .slice ap pb.length cap] w (AnsDisk w (faultF bs ps) (keepBlocks (fun i => pb[i]?.getD false) bs ps) []) := by
  obtain ⟨aB, cB, rfl, _, sB⟩ := hB.open'
  obtain ⟨aC, cC, rfl, _, sP⟩ := hP.open'
  unfold keepBlocks
  by_cases hf : faultF bs ps = 0
  · rw [if_pos hf, hf]
    refine implCrash_ok w aB aC ap cB cC cap bs ps pb hB hP sB sP hA (fun b off e h => ?_) hf hz hzp
    obtain ⟨b', off', e', c⟩ := hA 0 h
    rw [e] at e'
    simp only [Option.some.injEq, Addr.mk.injEq, and_true] at e'
    have := World.block_lt_of_cell? _ _ c
    simp at this
    omega
  · rw [if_neg hf]
    exact (implCrash_fault w _ _ _ bs ps hB hP hf).mono fun e w' ⟨h1, h2⟩ => by rw [h1]; exact ans_bad h2 _
end Go.Proofs.Ytmjdechoookpmaa

namespace Go.Proofs.Ytmjdechoookpmaa
open Go.RowKit
set_option maxRecDepth 100000

def Bools (w : World) (v : Value) (zs : List Bool) : Prop :=
  (zs = [] ∧ ∃ a cap, v = .slice a 0 cap) ∨
  (∃ b off cap, v = .slice (some ⟨b, off, none⟩) zs.length cap ∧ zs.length ≤ maxLen ∧ ∀ k, k < zs.length → w.cell? ⟨b, off + k, none⟩ = some (.bool (zs[k]?.getD false)))
theorem Bools.later {w wx : World} {v : Value} {zs : List Bool} (h : Bools w v zs) (hb : Below w.heap.size w wx) : Bools wx v zs := by
  rcases h with h | ⟨b, off, cap, h1, h2, h3⟩
  · exact Or.inl h
  · exact Or.inr ⟨b, off, cap, h1, h2, fun k hk => cell_later hb (h3 k hk)⟩
theorem Bools.open' {w : World} {v : Value} {zs : List Bool} (h : Bools w v zs) : ∃ a cap, v = .slice a zs.length cap ∧ zs.length ≤ maxLen ∧ AtBs w a zs.length zs := by
  rcases h with ⟨rfl, a, cap, rfl⟩ | ⟨b, off, cap, rfl, hl, hc⟩
  · exact ⟨a, cap, rfl, by simp, fun k hk => by simp at hk⟩
  · exact ⟨_, cap, rfl, hl, fun k hk => ⟨b, off, rfl, hc k hk⟩⟩
/-- .. in one block of F. -/
def BoolsO (w : World) (v : Value) (zs : List Bool) (F : Nat → Prop) : Prop :=
  (zs = [] ∧ ∃ a cap, v = .slice a 0 cap) ∨
  (∃ b cap, F b ∧ v = .slice (some ⟨b, 0, none⟩) zs.length cap ∧ zs.length ≤ maxLen ∧ OwnRow w b zs.length (fun i => .bool (zs[i]?.getD false)))
theorem BoolsO.reads {w : World} {v : Value} {zs : List Bool} {F : Nat → Prop} (h : BoolsO w v zs F) : Bools w v zs := by
  rcases h with h | ⟨b, cap, _, h1, h2, h3⟩
  · exact Or.inl h
  · exact Or.inr ⟨b, 0, cap, h1, h2, fun k hk => by rw [Nat.zero_add]; exact h3.cell hk⟩
theorem BoolsO.keep {w w' : World} {v : Value} {zs : List Bool} {F : Nat → Prop} (h : BoolsO w v zs F) (e : ∀ b, F b → b < w.heap.size → w'.heap[b]? = w.heap[b]?) : BoolsO w' v zs F := by
  rcases h with h | ⟨b, cap, hF, h1, h2, h3⟩
  · exact Or.inl h
  · exact Or.inr ⟨b, cap, hF, h1, h2, h3.block (e b hF h3.lt)⟩
theorem BoolsO.mono {w : World} {v : Value} {zs : List Bool} {F G : Nat → Prop} (h : BoolsO w v zs F) (e : ∀ b, F b → G b) : BoolsO w v zs G := by
  rcases h with h | ⟨b, cap, hF, h1⟩
  · exact Or.inl h
  · exact Or.inr ⟨b, cap, e b hF, h1⟩
theorem BoolsO.later {w w' : World} {v : Value} {zs : List Bool} {F : Nat → Prop} (h : BoolsO w v zs F) (hb : Below w.heap.size w w') : BoolsO w' v zs F := h.keep fun b _ hlt => hb.block b hlt
theorem BoolsO.chg {w w' : World} {v : Value} {zs : List Bool} {F G : Nat → Prop} (h : BoolsO w v zs F) (hc : Chg G w w') (hd : ∀ b, F b → ¬ G b) : BoolsO w' v zs F := h.keep fun b hb hlt => hc.block b hlt (hd b hb)

theorem row_bool {w : World} {b n : Nat} {f : Nat → Bool} (h : OwnRow w b n (fun i => .bool (f i))) (j : Nat) (x : Bool) : ∃ g : Nat → Bool, OwnRow (w.setCell ⟨b, j, none⟩ (.bool x)) b n (fun i => .bool (g i)) :=
  ⟨fun i => if i = j then x else f i, (h.set j _).congr fun i _ => by by_cases e : i = j <;> simp [e]⟩

end Go.Proofs.Ytmjdechoookpmaa
