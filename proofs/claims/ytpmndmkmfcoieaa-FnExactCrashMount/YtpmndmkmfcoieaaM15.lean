/- Answers that are a code, a truth and puts, in the one form; ScanJournal in it. PlanMount: the program; answers that are steps. Steps done one by one: the program's machine. Where a list of steps has its commit: no program is named here. What is wrong of a list of steps; its first step of a kind: the program. Steps done one by one: the program's machine of gotos. RunSteps of the program, at steps without a fault. -/
import Derived.Test.YtpmndmkmfcoieaaM13
import Derived.Test.YtpmndmkmfcoieaaM14
import Derived.Test.YtpmndmkmfcoieaaM08
import Derived.WalkMore
import Derived.ScopeJumps
import Derived.Test.YtpmndmkmfcoieaaM07
import Derived.Test.YtpmndmkmfcoieaaM09
namespace Go.Proofs.Ytpmndmkmfcoieaa
open Go.RowKit
set_option maxRecDepth 100000

abbrev TxD := Bool × List (Int × List Int)
def TxR (w : World) (v1 v2 : Value) (d : TxD) : Prop := v1 = .bool d.1 ∧ Puts w v2 d.2
def TxU (w : World) (v1 v2 : Value) (d : TxD) (F : Nat → Prop) : Prop := v1 = .bool d.1 ∧ PutsO w v2 d.2 F
theorem TxR.later {w w' : World} {v1 v2 : Value} {d : TxD} (h : TxR w v1 v2 d) (hb : Below w.heap.size w w') : TxR w' v1 v2 d := ⟨h.1, h.2.later hb⟩
theorem TxU.reads {w : World} {v1 v2 : Value} {d : TxD} {F : Nat → Prop} (h : TxU w v1 v2 d F) : TxR w v1 v2 d := ⟨h.1, h.2.puts⟩
theorem TxU.keep {w w' : World} {v1 v2 : Value} {d : TxD} {F : Nat → Prop} (h : TxU w v1 v2 d F) (e : ∀ b, F b → b < w.heap.size → w'.heap[b]? = w.heap[b]?) : TxU w' v1 v2 d F := ⟨h.1, h.2.keep e⟩
theorem TxU.later {w w' : World} {v1 v2 : Value} {d : TxD} {F : Nat → Prop} (h : TxU w v1 v2 d F) (hb : Below w.heap.size w w') : TxU w' v1 v2 d F := h.keep fun b _ hlt => hb.block b hlt
theorem TxU.mono {w : World} {v1 v2 : Value} {d : TxD} {F G : Nat → Prop} (h : TxU w v1 v2 d F) (e : ∀ b, F b → G b) : TxU w v1 v2 d G := ⟨h.1, h.2.mono e⟩
theorem TxU.chg {w w' : World} {v1 v2 : Value} {d : TxD} {F G : Nat → Prop} (h : TxU w v1 v2 d F) (hc : Chg G w w') (hd : ∀ b, F b → ¬ G b) : TxU w' v1 v2 d F := h.keep fun b hb hlt => hc.block b hlt (hd b hb)
def spanTx (d : TxD) : Nat := spanPs d.2
def mkTx (k : Int) (d : TxD) : TxD := (d.1, mkPs k d.2)
def AnsTX (w : World) (r : Int × TxD) (e : Ending) (w' : World) : Prop := ∃ z a n c, e = .returned (.agg #[.int .i64 r.1, .bool z, .slice a n c]) ∧ Below w.heap.size w w' ∧ TxU w' (.bool z) (.slice a n c) r.2 (fresh w w')

theorem sum_most (l : List Nat) (B : Nat) (h : ∀ x ∈ l, x ≤ B) : l.sum ≤ l.length * B := by
  induction l with
  | nil => simp
  | cons a l ih =>
    have h1 := h a (by simp)
    have h2 := ih fun x hx => h x (by simp [hx])
    rw [List.sum_cons, List.length_cons, Nat.succ_mul]
    omega
theorem scanR_span (d : DK) (hs : sizeDisk d ≤ 1048576) : spanTx (scanR d).2 ≤ 20000000 := by
  unfold scanR
  by_cases h0 : (seqR d).1 = 0
  · rw [if_pos h0]
    by_cases hf : foundB (fun k => atF d.1 d.2 k) (seqR d).2 = true
    · rw [if_pos hf]
      have hl := putsJ_len fun k : Nat => atF d.1 d.2 k
      have h10 : ((atF d.1 d.2 1).drop 3).length ≤ 10 := by
        unfold foundB at hf
        rw [Bool.and_eq_true] at hf
        exact (headB_len hf.1).2.2
      have hw : (wlens (putsJ fun k : Nat => atF d.1 d.2 k)).length ≤ 10 := by unfold wlens; rw [List.length_map, hl]; exact h10
      have hm := sum_most (wlens (putsJ fun k : Nat => atF d.1 d.2 k)) 1048576 fun x hx => by
        unfold wlens putsJ at hx
        simp only [List.mem_map, List.mem_range] at hx
        obtain ⟨_, ⟨i, _, rfl⟩, rfl⟩ := hx
        exact atF_len (dsize_blk hs) (dsize_put hs)
      have hm2 := Nat.mul_le_mul_right 1048576 hw
      show (putsJ fun k : Nat => atF d.1 d.2 k).length + (wlens (putsJ fun k : Nat => atF d.1 d.2 k)).sum ≤ 20000000
      rw [hl]
      have h10' : ((atF d.1 d.2 ((1 : Nat) : Int)).drop 3).length ≤ 10 := h10
      omega
    · rw [if_neg hf]; simp [spanTx, spanPs, wlens]
  · rw [if_neg h0]; simp [spanTx, spanPs, wlens]
theorem implScanV (w : World) (a1 : Option Addr) (n1 c1 : Nat) (a2 : Option Addr) (n2 c2 : Nat) (d : DK) (h : DiskR w (.slice a1 n1 c1) (.slice a2 n2 c2) d) (hs : sizeDisk d ≤ 1048576) :
    Calls Try.prog 42 #[.agg #[.slice a1 n1 c1, .slice a2 n2 c2]] w (AnsTX w (scanR d)) :=
  (implScanU w _ _ _ _ _ _ d h hs).mono fun _ _ ⟨a, n, c, h1, h2, h3⟩ => ⟨_, a, n, c, h1, h2, rfl, h3⟩
end Go.Proofs.Ytpmndmkmfcoieaa

namespace Go.Proofs.Ytpmndmkmfcoieaa
open Go.RowKit
set_option maxRecDepth 100000

theorem scanR_ten (d : DK) : (scanR d).2.2.length ≤ 10 := by
  by_cases h0 : (seqR d).1 = 0
  · cases hf : foundB (fun k => atF d.1 d.2 k) (seqR d).2 with
    | true => rw [scanR_yes h0 hf]; exact putsJ_ten hf
    | false => rw [scanR_no h0 hf]; simp
  · rw [scanR_bad h0]; simp
theorem scanR_small {d : DK} (hs : sizeDisk d ≤ 1048576) (i : Nat) : ((scanR d).2.2[i]?.getD (0, [])).2.length ≤ 1048576 := by
  by_cases h0 : (seqR d).1 = 0
  · cases hf : foundB (fun k => atF d.1 d.2 k) (seqR d).2 with
    | true => rw [scanR_yes h0 hf]; exact putsJ_small hs i
    | false => rw [scanR_no h0 hf]; simp
  · rw [scanR_bad h0]; simp
theorem stp_sum_le (ds : List SD) (B : Nat) (h : ∀ i : Nat, (ds[i]?.getD sd0).2.2.length ≤ B) : spanStps ds ≤ ds.length * (2 + B) := by
  have h1 := sum_most (stp ds) (2 + B) fun x hx => by
    obtain ⟨i, hi, rfl⟩ := List.getElem_of_mem hx
    have e := stp_get ds i (by rw [stp_length] at hi; exact hi)
    rw [List.getElem?_eq_getElem hi] at e
    have := h i
    unfold spanSte at e
    simp only [Option.getD_some] at e
    omega
  rw [stp_length] at h1
  exact h1
theorem planR_span (d : DK) (hs : sizeDisk d ≤ 1048576) : spanStps (planR d).2 ≤ 20000000 := by
  have h10 := scanR_ten d
  have hsm := scanR_small hs
  unfold planR
  by_cases h0 : (scanR d).1 = 0
  · rw [if_pos h0]
    by_cases hf : (scanR d).2.1 = true ∧ ¬ (seqR d).2 = 60000
    · rw [if_pos hf]
      have hl : (homeS (seqR d).2 (scanR d).2.2).length ≤ 13 := by unfold homeS; rw [List.length_append, putsS_len]; show _ + 3 ≤ 13; omega
      have hb := stp_sum_le (homeS (seqR d).2 (scanR d).2.2) 1048576 fun i => by
        unfold homeS
        rw [two_getD, putsS_len]
        by_cases hi : i < (scanR d).2.2.length
        · rw [if_pos hi, putsS_get _ hi]; exact hsm i
        · rw [if_neg hi]
          generalize i - (scanR d).2.2.length = k
          unfold superS
          match k with
          | 0 => simp
          | 1 => simp
          | 2 => simp
          | k + 3 => simp [sd0]
      have := Nat.mul_le_mul_right (2 + 1048576) hl
      show spanStps (homeS (seqR d).2 (scanR d).2.2) ≤ 20000000
      omega
    · rw [if_neg hf]; simp [spanStps, stp]
  · rw [if_neg h0]; simp [spanStps, stp]
theorem field_val (z v : Int) (w : World) : (Instr.field 64 (.agg #[.int .i64 z, .int .i64 v]) 1).run Try.prog w = .ok (.int .i64 v) w := by kernel_rfl

set_option maxHeartbeats 3200000 in
theorem implPlanU (w : World) (a1 : Option Addr) (n1 c1 : Nat) (a2 : Option Addr) (n2 c2 : Nat) (d : DK) (h : DiskR w (.slice a1 n1 c1) (.slice a2 n2 c2) d) (hs : sizeDisk d ≤ 1048576) :
    Calls Try.prog 23 #[.agg #[.slice a1 n1 c1, .slice a2 n2 c2]] w (AnsSR w (planR d)) := by
  have HF : Hid (∀ W, Below w.heap.size w W → Calls Try.prog 42 #[.agg #[.slice a1 n1 c1, .slice a2 n2 c2]] W fun e w' => ∃ a n c, e = .returned (.agg #[.int .i64 (scanR d).1, .bool (scanR d).2.1, .slice a n c]) ∧ Below W.heap.size W w' ∧ PutsO w' (.slice a n c) (scanR d).2.2 (fresh W w')) := fun W hW => implScanU W _ _ _ _ _ _ d (h.later hW) hs
  have HSQ : Hid (∀ W, Below w.heap.size w W → Calls Try.prog 43 #[.agg #[.slice a1 n1 c1, .slice a2 n2 c2]] W fun e w' => e = .returned (.agg #[.int .i64 (seqR d).1, .int .i64 (seqR d).2]) ∧ Below W.heap.size W w') := fun W hW => implSeqU W _ _ _ _ _ _ d (h.later hW) hs
  have HBAD : Hid (¬ (scanR d).1 = 0 → planR d = ((scanR d).1, [])) := fun h0 => by unfold planR; rw [if_neg h0]
  have HNO : Hid ((scanR d).1 = 0 → ¬ ((scanR d).2.1 = true ∧ ¬ (seqR d).2 = 60000) → planR d = (0, [])) := fun h0 h1 => by unfold planR; rw [if_pos h0, if_neg h1]
  have HYES : Hid ((scanR d).1 = 0 → (scanR d).2.1 = true ∧ ¬ (seqR d).2 = 60000 → planR d = (0, homeS (seqR d).2 (scanR d).2.2)) := fun h0 h1 => by unfold planR; rw [if_pos h0, if_pos h1]
  have HIN : Hid ((scanR d).1 = 0 → 1 ≤ (seqR d).2 ∧ (seqR d).2 ≤ 60000) := fun h0 => seq_in (by rw [← scan_code]; exact h0)
  have h10 := scanR_ten d
  have HSM : Hid (∀ i : Nat, ((scanR d).2.2[i]?.getD (0, [])).2.length ≤ 1048576) := scanR_small hs
  clear h
  generalize (scanR d).1 = r at *
  generalize (scanR d).2.1 = fb at *
  generalize (scanR d).2.2 = PJ at *
  generalize (seqR d).1 = s at *
  generalize (seqR d).2 = q at *
  generalize planR d = RES at *
  have HB0 : Hid (Below w.heap.size w ((w.alloc (.cells #[.slice a1 n1 c1, .slice a2 n2 c2] 30)).alloc (.cells #[.int .i64 0, .slice none 0 0] 48))) := later2 _ _ _
  have HX0 : Hid (Bx ((w.alloc (.cells #[.slice a1 n1 c1, .slice a2 n2 c2] 30)).alloc (.cells #[.int .i64 0, .slice none 0 0] 48)) (w.heap.size) [.slice a1 n1 c1, .slice a2 n2 c2]) := (Bx.new w [.slice a1 n1 c1, .slice a2 n2 c2] _).later (later1 _ _)
  have HR0 : Hid (OwnRow ((w.alloc (.cells #[.slice a1 n1 c1, .slice a2 n2 c2] 30)).alloc (.cells #[.int .i64 0, .slice none 0 0] 48)) (w.heap.size + 1) 2 (cel [.int .i64 0, .slice none 0 0])) := (show OwnRow ((w.alloc (.cells #[.slice a1 n1 c1, .slice a2 n2 c2] 30)).alloc (.cells #[.int .i64 0, .slice none 0 0] 48)) (w.heap.size + 1) 2 (cel [.int .i64 0, .slice none 0 0]) from by have := newCel (w.alloc (.cells #[.slice a1 n1 c1, .slice a2 n2 c2] 30)) [.int .i64 0, .slice none 0 0] 48; rw [World.size_alloc] at this; exact this)
  go_enter Try.func23, Try.ntmps23
  have xHX0 := HX0.out 0 _ rfl
  have xHX1 := HX0.out 1 _ rfl
  go_wp2_with fail
  clear xHX0 xHX1
  refine (HF.out _ HB0.out).mono ?_
  rintro e w1 ⟨ap, np, cp, rfl, hb, ho⟩
  have HP : Hid (Puts w1 (.slice ap np cp) PJ) := ho.puts
  clear ho
  have hb' : Below ((w.alloc (.cells #[.slice a1 n1 c1, .slice a2 n2 c2] 30)).alloc (.cells #[.int .i64 0, .slice none 0 0] 48)).heap.size ((w.alloc (.cells #[.slice a1 n1 c1, .slice a2 n2 c2] 30)).alloc (.cells #[.int .i64 0, .slice none 0 0] 48)) (w1.alloc (.cells #[.int .i64 r, .bool fb, .slice ap np cp] 75)) := hb.trans ((later1 _ _).mono hb.size)
  have HB1 : Hid (Below w.heap.size w (w1.alloc (.cells #[.int .i64 r, .bool fb, .slice ap np cp] 75))) := HB0.out.trans (hb'.mono HB0.out.size)
  have HX1 : Hid (Bx (w1.alloc (.cells #[.int .i64 r, .bool fb, .slice ap np cp] 75)) (w.heap.size) [.slice a1 n1 c1, .slice a2 n2 c2]) := HX0.out.later hb'
  have HR1 : Hid (OwnRow (w1.alloc (.cells #[.int .i64 r, .bool fb, .slice ap np cp] 75)) (w.heap.size + 1) 2 (cel [.int .i64 0, .slice none 0 0])) := HR0.out.later hb'
  clear hb hb'
  have HQ1 : Hid (Bx (w1.alloc (.cells #[.int .i64 r, .bool fb, .slice ap np cp] 75)) w1.heap.size [.int .i64 r, .bool fb, .slice ap np cp]) := Bx.new w1 [.int .i64 r, .bool fb, .slice ap np cp] _
  replace HP : Hid (Puts (w1.alloc (.cells #[.int .i64 r, .bool fb, .slice ap np cp] 75)) (.slice ap np cp) PJ) := HP.out.later (later1 _ _)
  by_cases hf : r = 0
  · skip
    replace HNO : Hid _ := HNO.out hf
    replace HYES : Hid _ := HYES.out hf
    replace HIN : Hid _ := HIN.out hf
    clear HBAD HF
    subst hf
    obtain ⟨hq0, hq1⟩ := HIN.out
    have xHX0 := HX1.out 0 _ rfl
    have xHX1 := HX1.out 1 _ rfl
    have xHQ0 := HQ1.out 0 _ rfl
    have xHQ1 := HQ1.out 1 _ rfl
    have xHQ2 := HQ1.out 2 _ rfl
    go_wp2_with fail
    clear xHX0 xHX1 xHQ0 xHQ1 xHQ2
    refine (HSQ.out _ HB1.out).mono ?_
    rintro e w2 ⟨rfl, hb⟩
    replace HP : Hid (Puts w2 (.slice ap np cp) PJ) := HP.out.later hb
    have fv := field_val s q w2
    have HB2 : Hid (Below w.heap.size w w2) := HB1.out.trans (hb.mono HB1.out.size)
    have HX2 : Hid (Bx w2 (w.heap.size) [.slice a1 n1 c1, .slice a2 n2 c2]) := HX1.out.later hb
    have HR2 : Hid (OwnRow w2 (w.heap.size + 1) 2 (cel [.int .i64 0, .slice none 0 0])) := HR1.out.later hb
    have HQ2 : Hid (Bx w2 w1.heap.size [.int .i64 0, .bool fb, .slice ap np cp]) := HQ1.out.later hb
    clear hb
    cases fb with
    | false =>
      have HE : Hid (RES = (0, [])) := HNO.out (by simp)
      clear HNO HYES HIN HP HSM
      have xHQ0 := HQ2.out 0 _ rfl
      have xHQ1 := HQ2.out 1 _ rfl
      have xHQ2 := HQ2.out 2 _ rfl
      have hrr := HR2.out
      have t0 : w2.cell? ⟨w.heap.size + 1, 0, none⟩ = some (.int .i64 0) := hrr.cell (i := 0) (by omega)
      have t1 : w2.cell? ⟨w.heap.size + 1, 1, none⟩ = some (.slice none 0 0) := hrr.cell (i := 1) (by omega)
      have f0 := hrr.frozen 0
      have f1 := hrr.frozen 1
      have hlr := hrr.lt
      clear hrr
      go_wp2
      exact bodyPost_ret (v := .agg #[.int .i64 0, .slice none 0 0]) (by simp [results, Try.results23, go_sem, t0, t1]) rfl (by rw [HE.out]; exact AnsSR.badB 0 HB2.out (by omega) _ _)
    | true =>
      by_cases hq : q = 60000
      · skip
        have HE : Hid (RES = (0, [])) := HNO.out (by simp [hq])
        subst hq
        clear HNO HYES HIN HP HSM
        have xHQ0 := HQ2.out 0 _ rfl
        have xHQ1 := HQ2.out 1 _ rfl
        have xHQ2 := HQ2.out 2 _ rfl
        have hrr := HR2.out
        have t0 : w2.cell? ⟨w.heap.size + 1, 0, none⟩ = some (.int .i64 0) := hrr.cell (i := 0) (by omega)
        have t1 : w2.cell? ⟨w.heap.size + 1, 1, none⟩ = some (.slice none 0 0) := hrr.cell (i := 1) (by omega)
        have f0 := hrr.frozen 0
        have f1 := hrr.frozen 1
        have hlr := hrr.lt
        clear hrr
        go_wp2
        exact bodyPost_ret (v := .agg #[.int .i64 0, .slice none 0 0]) (by simp [results, Try.results23, go_sem, t0, t1]) rfl (by rw [HE.out]; exact AnsSR.badB 0 HB2.out (by omega) _ _)
      · skip
        have HE : Hid (RES = (0, homeS q PJ)) := HYES.out ⟨rfl, hq⟩
        have hqb : (q == 60000) = false := by simpa using hq
        clear HNO HYES HIN
        have xHQ0 := HQ2.out 0 _ rfl
        have xHQ1 := HQ2.out 1 _ rfl
        have xHQ2 := HQ2.out 2 _ rfl
        go_wp2_with fail
        clear xHQ0 xHQ1 xHQ2
        refine (homeSteps_any _ q (by omega) hq1 ap np cp PJ HP.out h10 HSM.out).mono ?_
        rintro e w3 ⟨av, nv, cv, rfl, hb, ho⟩
        have HI : Hid (StpsO w3 (.slice av nv cv) (homeS q PJ) (fun b => w.heap.size + 1 < b ∧ b < w3.heap.size)) := ho.mono fun b hb' => ⟨by have := hb'.1; have := HR2.out.lt; omega, hb'.2⟩
        clear ho HP HSM
        have HB3 : Hid (Below w.heap.size w w3) := HB2.out.trans (hb.mono HB2.out.size)
        have HX3 : Hid (Bx w3 (w.heap.size) [.slice a1 n1 c1, .slice a2 n2 c2]) := HX2.out.later hb
        have HR3 : Hid (OwnRow w3 (w.heap.size + 1) 2 (cel [.int .i64 0, .slice none 0 0])) := HR2.out.later hb
        have HQ3 : Hid (Bx w3 w1.heap.size [.int .i64 0, .bool true, .slice ap np cp]) := HQ2.out.later hb
        clear hb
        have hrr := HR3.out
        have t0 : w3.cell? ⟨w.heap.size + 1, 0, none⟩ = some (.int .i64 0) := hrr.cell (i := 0) (by omega)
        have t1 : w3.cell? ⟨w.heap.size + 1, 1, none⟩ = some (.slice none 0 0) := hrr.cell (i := 1) (by omega)
        have f0 := hrr.frozen 0
        have f1 := hrr.frozen 1
        have hlr := hrr.lt
        clear hrr
        go_wp2
        exact bodyPost_ret (v := .agg #[.int .i64 0, .slice av nv cv]) (by simp [results, Try.results23, go_sem, t0, t1]) rfl (by rw [HE.out]; exact AnsSR.putB HB3.out (by omega) HI.out _ _)
  · skip
    have hfb : (r != 0) = true := by simpa using hf
    have HE : Hid (RES = (r, [])) := HBAD.out hf
    clear HBAD HNO HYES HF HIN HSQ HP HSM hf
    have xHQ0 := HQ1.out 0 _ rfl
    have xHQ1 := HQ1.out 1 _ rfl
    have xHQ2 := HQ1.out 2 _ rfl
    have hrr := HR1.out
    have t0 : (w1.alloc (.cells #[.int .i64 r, .bool fb, .slice ap np cp] 75)).cell? ⟨w.heap.size + 1, 0, none⟩ = some (.int .i64 0) := hrr.cell (i := 0) (by omega)
    have t1 : (w1.alloc (.cells #[.int .i64 r, .bool fb, .slice ap np cp] 75)).cell? ⟨w.heap.size + 1, 1, none⟩ = some (.slice none 0 0) := hrr.cell (i := 1) (by omega)
    have f0 := hrr.frozen 0
    have f1 := hrr.frozen 1
    have hlr := hrr.lt
    clear hrr
    go_wp2
    exact bodyPost_ret (v := .agg #[.int .i64 r, .slice none 0 0]) (by simp [results, Try.results23, go_sem, t0, t1]) rfl (by rw [HE.out]; exact AnsSR.badB r HB1.out (by omega) _ _)

end Go.Proofs.Ytpmndmkmfcoieaa

namespace Go.Proofs.Ytpmndmkmfcoieaa
open Go.RowKit
set_option maxRecDepth 100000

def jump2 (l1 l2 : Nat) (J1 J2 : Act → World → Prop) (Q : Exit → Act → World → Prop) : Exit → Act → World → Prop
  | .goto l, a, w => (l = l1 ∧ J1 a w) ∨ (l = l2 ∧ J2 a w)
  | e, a, w => Q e a w
theorem jumpM_two (l1 l2 : Nat) (h12 : l1 ≠ l2) (J1 J2 : Act → World → Prop) (Q : Exit → Act → World → Prop) (K : Nat → Act → World → Prop) (h1 : ∀ a w, J1 a w → K l1 a w) (h2 : ∀ a w, J2 a w → K l2 a w) (e : Exit) (a : Act) (w : World) (h : jump2 l1 l2 J1 J2 Q e a w) : jumpM K Q e a w := by
  cases e with
  | goto l =>
    rcases h with ⟨rfl, h⟩ | ⟨rfl, h⟩
    · exact h1 _ _ h
    · exact h2 _ _ h
  | _ => exact h
theorem wp_scope_two {P : Program} {a : Act} {w : World} {Q : Exit → Act → World → Prop} {c r1 r2 : Code} (l1 l2 : Nat) (J1 J2 : Act → World → Prop) (μ1 μ2 : Act → World → Nat) (h12 : l1 ≠ l2) (hf1 : findLabel c l1 = some r1) (hf2 : findLabel c l2 = some r2)
    (first : c.wp P (jump2 l1 l2 J1 J2 Q) a w)
    (pass1 : ∀ a w, J1 a w → r1.wp P (jump2 l1 l2 (fun a' w' => J1 a' w' ∧ μ1 a' w' < μ1 a w) (fun a' w' => J2 a' w' ∧ μ2 a' w' < μ1 a w) Q) a w)
    (pass2 : ∀ a w, J2 a w → r2.wp P (jump2 l1 l2 (fun a' w' => J1 a' w' ∧ μ1 a' w' < μ2 a w) (fun a' w' => J2 a' w' ∧ μ2 a' w' < μ2 a w) Q) a w) : (Code.scope c).wp P Q a w := by
  have hm : ∀ {c' : Code} {R R' : Exit → Act → World → Prop} {a : Act} {w : World}, (∀ e a w, R e a w → R' e a w) → c'.wp P R a w → c'.wp P R' a w := fun hR h => Code.wp_mono hR h
  refine wp_scope_many (fun l => if l = l1 then r1 else r2) (fun l a w => (l = l1 ∧ J1 a w) ∨ (l = l2 ∧ J2 a w)) (fun l a w => if l = l1 then μ1 a w else μ2 a w) (fun l a w h => ?_) (hm (fun e a w h => jumpM_two l1 l2 h12 J1 J2 Q _ (fun a w h => Or.inl ⟨rfl, h⟩) (fun a w h => Or.inr ⟨rfl, h⟩) e a w h) first) (fun l a w h => ?_)
  · rcases h with ⟨rfl, _⟩ | ⟨rfl, _⟩
    · simp only [if_true]; exact hf1
    · rw [if_neg (Ne.symm h12)]; exact hf2
  · rcases h with ⟨rfl, h⟩ | ⟨rfl, h⟩
    · simp only [if_true]
      exact hm (fun e a' w' h => jumpM_two l l2 h12 _ _ Q _ (fun a' w' h => ⟨Or.inl ⟨rfl, h.1⟩, by simp only [if_true]; exact h.2⟩) (fun a' w' h => ⟨Or.inr ⟨rfl, h.1⟩, by rw [if_neg (Ne.symm h12)]; exact h.2⟩) e a' w' h) (pass1 a w h)
    · simp only [if_neg (Ne.symm h12)]
      exact hm (fun e a' w' h => jumpM_two l1 l h12 _ _ Q _ (fun a' w' h => ⟨Or.inl ⟨rfl, h.1⟩, by simp only [if_true]; exact h.2⟩) (fun a' w' h => ⟨Or.inr ⟨rfl, h.1⟩, by rw [if_neg (Ne.symm h12)]; exact h.2⟩) e a' w' h) (pass2 a w h)
theorem Cache.congrF {w : World} {base n : Nat} {v : Value} {f f' : Nat → Int × List Int} {pb k : Nat → Nat} {u : Nat → Value} (h : Cache w base v n f pb k u) (hf : ∀ i, i < n → f i = f' i) : Cache w base v n f' pb k u :=
  ⟨h.own, h.lo, h.ne, h.inj, fun i hi => by rw [← hf i hi]; exact h.box i hi, fun i hi => by rw [← hf i hi]; exact h.sh i hi, fun i hi => by rw [← hf i hi]; exact h.at' i hi⟩
/-- What leaves the blocks of a cache leaves it. -/
theorem Cache.keepB {w w' : World} {base n : Nat} {v : Value} {f : Nat → Int × List Int} {pb k : Nat → Nat} {u : Nat → Value} (h : Cache w base v n f pb k u) (hs : w.heap.size ≤ w'.heap.size) (e : ∀ b, (v.ownBlock = some b ∨ ∃ i, i < n ∧ (b = pb i ∨ b = k i)) → w'.heap[b]? = w.heap[b]?) : Cache w' base v n f pb k u := by
  refine ⟨?_, fun i hi => ⟨(h.lo i hi).1, (h.lo i hi).2.1, Nat.lt_of_lt_of_le (h.lo i hi).2.2 hs⟩, h.ne, h.inj, fun i hi => (h.box i hi).block (e _ (Or.inr ⟨i, hi, Or.inl rfl⟩)), h.sh, fun i hi => (h.at' i hi).keep fun b hb _ => e b (Or.inr ⟨i, hi, Or.inr hb⟩)⟩
  obtain ⟨h1, h2⟩ := h.own
  refine ⟨h1, ?_⟩
  rcases h2 with h2 | ⟨g, cap, cur, hv, hg, hh, r⟩
  · exact Or.inl h2
  · exact Or.inr ⟨g, cap, cur, hv, hg, by rw [e g (Or.inl (by rw [hv]; rfl))]; exact hh, r⟩
/-- A drive that is open and at work: it leads to the disk d; block bx is none of its own. -/
structure DrvM (w : World) (lo bd bx : Nat) (d : DK) : Prop where
  at' : ∃ cb g aP cP pb k u, OwnRow w bd 2 (fun c => if c = 0 then .slice (some ⟨g, 0, none⟩) d.1.length d.1.length else .slice aP d.2.length cP) ∧
    Cache w cb (.slice aP d.2.length cP) d.2.length (fun i => d.2[i]?.getD (0, [])) pb k u ∧ IntsSO w (.slice (some ⟨g, 0, none⟩) d.1.length d.1.length) d.1 (fun c => lo ≤ c ∧ c < cb ∧ c ≠ bd ∧ c ≠ bx) ∧
    bd < cb ∧ cb ≤ w.heap.size ∧ bx ≠ g ∧ (∀ o, (Value.slice aP d.2.length cP).ownBlock = some o → o ≠ bx) ∧ ∀ i, i < d.2.length → pb i ≠ bx ∧ k i ≠ bx
  lob : lo ≤ bd
  ne : bx ≠ bd
  row : ∃ y0 y1 y2, OwnRow w bx 3 (cel [y0, y1, y2])
theorem DrvM.later {w w' : World} {lo bd bx : Nat} {d : DK} (h : DrvM w lo bd bx d) (hb : Below w.heap.size w w') : DrvM w' lo bd bx d := by
  obtain ⟨cb, g, aP, cP, pb, k, u, h1, h2, h3, h4, h5, h6⟩ := h.at'
  obtain ⟨y0, y1, y2, h7⟩ := h.row
  exact ⟨⟨cb, g, aP, cP, pb, k, u, h1.later hb, h2.later hb, h3.keep fun b _ hlt => hb.block b hlt, h4, Nat.le_trans h5 hb.size, h6⟩, h.lob, h.ne, ⟨y0, y1, y2, h7.later hb⟩⟩
theorem DrvM.store {w : World} {lo bd bx : Nat} {d : DK} (h : DrvM w lo bd bx d) (i : Nat) (x : Value) : DrvM (w.setCell ⟨bx, i, none⟩ x) lo bd bx d := by
  obtain ⟨cb, g, aP, cP, pb, k, u, h1, h2, h3, h4, h5, h6, h7, h8⟩ := h.at'
  obtain ⟨y0, y1, y2, h9⟩ := h.row
  have hk : ∀ b, b ≠ bx → (w.setCell ⟨bx, i, none⟩ x).heap[b]? = w.heap[b]? := fun b hb => Below.heap_setCell _ _ _ _ hb
  refine ⟨⟨cb, g, aP, cP, pb, k, u, h1.block (hk bd (Ne.symm h.ne)), h2.keepB (by simp [World.setCell]) fun b hb => hk b ?_, h3.keep fun b hb _ => hk b hb.2.2.2, h4, by simp [World.setCell]; omega, h6, h7, h8⟩, h.lob, h.ne, ?_⟩
  · rcases hb with hb | ⟨j, hj, hb | hb⟩
    · exact h7 b hb
    · rw [hb]; exact (h8 j hj).1
    · rw [hb]; exact (h8 j hj).2
  · rcases (show i = 0 ∨ i = 1 ∨ i = 2 ∨ 3 ≤ i by omega) with rfl | rfl | rfl | hi
    · exact ⟨x, y1, y2, (h9.set 0 x).congr fun c hc => by rcases (show c = 0 ∨ c = 1 ∨ c = 2 by omega) with rfl | rfl | rfl <;> rfl⟩
    · exact ⟨y0, x, y2, (h9.set 1 x).congr fun c hc => by rcases (show c = 0 ∨ c = 1 ∨ c = 2 by omega) with rfl | rfl | rfl <;> rfl⟩
    · exact ⟨y0, y1, x, (h9.set 2 x).congr fun c hc => by rcases (show c = 0 ∨ c = 1 ∨ c = 2 by omega) with rfl | rfl | rfl <;> rfl⟩
    · exact ⟨y0, y1, y2, (h9.set i x).congr fun c hc => if_neg (by omega)⟩
theorem put_drv {w : World} {lo bd bx : Nat} {d : DK} (h : DrvM w lo bd bx d) (hf : d.2.length ≤ 200) (x : Int) (v : Value) (ws : List Int) (hv : Ints w v ws) (hl : ws.length ≤ 1048576) :
    Calls Try.prog 83 #[.pointer (some ⟨bd, 0, none⟩), .int .i64 x, v] w fun e w' => e = .returned (.tuple #[]) ∧ Below lo w w' ∧ DrvM w' lo bd bx (d.1, d.2 ++ [(x, ws)]) := by
  obtain ⟨cb, g, aP, cP, pb, k, u, h1, h2, h3, h4, h5, h6, h7, h10⟩ := h.at'
  obtain ⟨y0, y1, y2, h8⟩ := h.row
  have hx : (d.2 ++ [(x, ws)])[d.2.length]?.getD (0, []) = (x, ws) := by rw [List.getElem?_append_right (Nat.le_refl _), Nat.sub_self]; rfl
  have hp := putK_any w bd cb d.2.length _ aP cP (fun i => (d.2 ++ [(x, ws)])[i]?.getD (0, [])) pb k u h4 h5 (by omega) h1 (h2.congrF fun i hi => by rw [List.getElem?_append_left hi]) v (by rw [hx]; exact hv) (by rw [hx]; exact hl)
  rw [hx] at hp
  refine hp.mono ?_
  rintro e w' ⟨rfl, X, g', c', pb', k', u', rfl, hb, hc, hk, hk2, hk3, hk4⟩
  have hlo := h.lob
  have hlt := h8.lt
  have hlen : (d.2 ++ [(x, ws)]).length = d.2.length + 1 := by rw [List.length_append]; rfl
  have hbX := hk bx hlt fun e => h7 bx e rfl
  refine ⟨rfl, (hb.mono (by omega)).setCell (by show lo ≤ bd; exact hlo) _, ⟨⟨cb, g, some ⟨g', 0, none⟩, c', pb', k', u', ?_, ?_, ?_, h4, ?_, h6, fun o ho => ?_, fun i hi => ?_⟩, hlo, h.ne, ⟨y0, y1, y2, ?_⟩⟩⟩
  · have h9 : OwnRow X bd 2 _ := h1.block (hb.block bd h4)
    rw [hlen]
    exact (h9.set 1 _).congr fun i hi => by rcases (show i = 0 ∨ i = 1 by omega) with rfl | rfl <;> rfl
  · rw [hlen]; exact hc.store (by show bd < cb; exact h4) _
  · exact (h3.keep fun b hb' hlt' => hb.block b hb'.2.1).store (fun b hb' => hb'.2.2.1) _
  · have := hb.size; simp [World.setCell]; omega
  · have hg := hbX.2
    simp [Value.ownBlock] at ho
    omega
  · rw [hlen] at hi
    by_cases e : i < d.2.length
    · rw [(hk2 i e).1, (hk2 i e).2]; exact h10 i e
    · rw [show i = d.2.length by omega]; omega
  · exact (h8.block hbX.1).block (Below.heap_setCell _ _ _ _ h.ne)
theorem full_drv {w : World} {lo bd bx : Nat} {d : DK} (h : DrvM w lo bd bx d) (b : Bool) (hb : decide ((200 : Int) ≤ (d.2.length : Int)) = b) :
    Calls Try.prog 86 #[.pointer (some ⟨bd, 0, none⟩)] w fun e w' => e = .returned (.bool b) ∧ w' = w := by
  obtain ⟨cb, g, aP, cP, pb, k, u, h1, _⟩ := h.at'
  have c1 := h1.cell (i := 1) (by omega)
  exact isFull_any w bd aP d.2.length cP c1 b hb
theorem keepTo_all (bs : List (List Int)) (ps : List (Int × List Int)) (n : Nat) : keepTo (fun i => (List.replicate n true)[i]?.getD false) bs ps n = keepTo (fun _ => true) bs ps n :=
  keepTo_congr n fun i hi => by rw [List.getElem?_replicate, if_pos hi]; rfl
theorem flush_drv {w : World} {lo bd bx : Nat} {d : DK} (h : DrvM w lo bd bx d) (hg : GoodD d) :
    Calls Try.prog 87 #[.pointer (some ⟨bd, 0, none⟩)] w fun e w' => e = .returned (.tuple #[]) ∧ Below lo w w' ∧ DrvM w' lo bd bx (keepD d) := by
  obtain ⟨cb, g, aP, cP, pb, k, u, h1, h2, h3, h4, h5, h6, _, _⟩ := h.at'
  obtain ⟨y0, y1, y2, h8⟩ := h.row
  have hlt := h8.lt
  refine (flushC_any w lo bd cb g d.1.length d.2.length aP cP d.1 d.2 pb k u h.lob h4 h5 bx hlt rfl hg.few (by have := hg.n47; omega) (faultF_places hg.fault) hg.hzp h1 h2 h3).mono ?_
  rintro e w' ⟨rfl, hb, hr, hi, hk⟩
  rw [keepTo_all] at hi
  have hl : (keepD d).1.length = d.1.length := keepTo_length _ _ _ _
  have hbd : bd < w'.heap.size := hr.lt
  refine ⟨rfl, hb, ⟨⟨w'.heap.size, g, none, 0, fun _ => 0, fun _ => 0, fun _ => .slice none 0 0, ?_, Cache.nil w' _ _, ?_, hbd, Nat.le_refl _, h6, fun o ho => by simp [Value.ownBlock] at ho, fun i hi => absurd hi (by show ¬ i < 0; omega)⟩, h.lob, h.ne, ⟨y0, y1, y2, h8.block (hk bx hlt h6 h.ne)⟩⟩⟩
  · rw [hl]; exact hr
  · rw [hl]; exact hi
end Go.Proofs.Ytpmndmkmfcoieaa

namespace Go.Proofs.Ytpmndmkmfcoieaa
open Go.RowKit
set_option maxRecDepth 100000

/-- What is wrong of a list of steps. -/
def stsF (l : List SD) : Int := if 120 < l.length then 2 else fstNZ (fun i => stepF (l[i]?.getD sd0)) l.length
theorem stsF_many {l : List SD} (h : 120 < l.length) : stsF l = 2 := by unfold stsF; rw [if_pos h]
theorem stsF_no {l : List SD} (h : ¬ 120 < l.length) (hz : ∀ i, i < l.length → stepF (l[i]?.getD sd0) = 0) : stsF l = 0 := by
  unfold stsF; rw [if_neg h]; exact fstNZ_zero hz
theorem stsF_at {l : List SD} {k : Nat} (h : ¬ 120 < l.length) (hz : ∀ i, i < k → stepF (l[i]?.getD sd0) = 0) (hk : k < l.length) (hr : ¬ stepF (l[k]?.getD sd0) = 0) : stsF l = stepF (l[k]?.getD sd0) := by
  unfold stsF; rw [if_neg h]; exact fstNZ_at (f := fun i => stepF (l[i]?.getD sd0)) hz hr hk
theorem stsF_in {l : List SD} (h : stsF l = 0) : l.length ≤ 120 ∧ ∀ i, i < l.length → stepF (l[i]?.getD sd0) = 0 := by
  unfold stsF at h
  by_cases h1 : 120 < l.length
  · rw [if_pos h1] at h; exact absurd h (by decide)
  · rw [if_neg h1] at h; exact ⟨by omega, fstNZ_inv h⟩

/-- The first that p has; as many as there are, if none. -/
def fnd (p : SD → Bool) : List SD → Nat
  | [] => 0
  | d :: l => if p d = true then 0 else fnd p l + 1
theorem fnd_le (p : SD → Bool) (l : List SD) : fnd p l ≤ l.length := by
  induction l with
  | nil => simp [fnd]
  | cons d l ih => unfold fnd; split <;> simp <;> omega
theorem fnd_at {p : SD → Bool} {l : List SD} {k : Nat} (hk : k < l.length) (hz : ∀ i, i < k → p (l[i]?.getD sd0) = false) (hp : p (l[k]?.getD sd0) = true) : fnd p l = k := by
  induction l generalizing k with
  | nil => simp at hk
  | cons d l ih =>
    unfold fnd
    cases k with
    | zero => rw [if_pos (by simpa using hp)]
    | succ k =>
      have h0 := hz 0 (by omega)
      rw [List.getElem?_cons_zero, Option.getD_some] at h0
      rw [h0, if_neg (by simp), ih (k := k) (by simpa using hk) (fun i hi => by have := hz (i + 1) (by omega); rwa [List.getElem?_cons_succ] at this) (by rwa [List.getElem?_cons_succ] at hp)]
theorem fnd_no {p : SD → Bool} {l : List SD} (hz : ∀ i, i < l.length → p (l[i]?.getD sd0) = false) : fnd p l = l.length := by
  induction l with
  | nil => rfl
  | cons d l ih =>
    unfold fnd
    have h0 := hz 0 (by simp)
    rw [List.getElem?_cons_zero, Option.getD_some] at h0
    rw [h0, if_neg (by simp), ih fun i hi => by have := hz (i + 1) (by simp; omega); rwa [List.getElem?_cons_succ] at this]
    rfl
theorem fnd_congr {p q : SD → Bool} {l : List SD} (h : ∀ i, i < l.length → p (l[i]?.getD sd0) = q (l[i]?.getD sd0)) : fnd p l = fnd q l := by
  induction l with
  | nil => rfl
  | cons d l ih =>
    unfold fnd
    have h0 := h 0 (by simp)
    rw [List.getElem?_cons_zero, Option.getD_some] at h0
    rw [h0, ih fun i hi => by have := h (i + 1) (by simp; omega); rwa [List.getElem?_cons_succ] at this]
theorem drop_getD (l : List SD) (A i : Nat) : (l.drop A)[i]?.getD sd0 = l[A + i]?.getD sd0 := by rw [List.getElem?_drop]

/-- Is it a commit? -/
def comB (d : SD) : Bool := !d.1 && (decide (1 ≤ d.2.1 ∧ d.2.1 ≤ 16) && (decide (d.2.2.length = 3) && decide (d.2.2[0]?.getD 0 = 2)))
def comI (d : SD) : Bool := (decide (1 ≤ d.2.1) && decide (d.2.1 < 17)) && (decide (d.2.2.length = 3) && decide (d.2.2[0]?.getD 0 = 2))
theorem comI_eq {d : SD} (h : stepF d = 0) : comI d = comB d := by
  obtain ⟨f, x, ws⟩ := d
  unfold stepF at h
  unfold comI comB
  dsimp only at h ⊢
  cases f with
  | true =>
    rw [if_pos rfl] at h
    by_cases h0 : x = 0
    · subst h0; simp
    · rw [if_pos (Or.inl h0)] at h; exact absurd h (by decide)
  | false =>
    have e : (decide (1 ≤ x) && decide (x < 17)) = decide (1 ≤ x ∧ x ≤ 16) := by
      by_cases h1 : 1 ≤ x
      · by_cases h2 : x < 17
        · rw [decide_eq_true h1, decide_eq_true h2, decide_eq_true (⟨h1, by omega⟩ : 1 ≤ x ∧ x ≤ 16)]; rfl
        · rw [decide_eq_true h1, decide_eq_false h2, decide_eq_false (by omega : ¬ (1 ≤ x ∧ x ≤ 16))]; rfl
      · rw [decide_eq_false h1, decide_eq_false (by omega : ¬ (1 ≤ x ∧ x ≤ 16))]; rfl
    rw [e]; rfl
def comR (l : List SD) : Int × Int :=
  if stsF l = 0 then (if fnd comB l < l.length then (0, ((fnd comB l + fnd (·.1) (l.drop (fnd comB l)) : Nat) : Int)) else (4, 0)) else (stsF l, 0)
theorem comR_bad {l : List SD} (h : ¬ stsF l = 0) : comR l = (stsF l, 0) := by unfold comR; rw [if_neg h]
theorem comR_none {l : List SD} (h : stsF l = 0) (hn : ¬ fnd comB l < l.length) : comR l = (4, 0) := by unfold comR; rw [if_pos h, if_neg hn]
theorem comR_at {l : List SD} {A : Nat} (h : stsF l = 0) (hA : fnd comB l = A) (hn : A < l.length) : comR l = (0, ((A + fnd (·.1) (l.drop A) : Nat) : Int)) := by unfold comR; rw [if_pos h, hA, if_pos hn]
theorem AtStp.drop {w : World} {b o n : Nat} {l : List SD} (h : AtStp w (some ⟨b, o, none⟩) n l) (A : Nat) (hA : A ≤ n) : AtStp w (some ⟨b, o + A * 3, none⟩) (n - A) (l.drop A) := fun k hk => by
  obtain ⟨b', o', e, h1⟩ := h (A + k) (by omega)
  simp only [Option.some.injEq, Addr.mk.injEq, and_true] at e
  obtain ⟨rfl, rfl⟩ := e
  refine ⟨b, o + A * 3, rfl, ?_⟩
  rw [drop_getD, show o + A * 3 + k * 3 = o + (A + k) * 3 by omega]
  exact h1
end Go.Proofs.Ytpmndmkmfcoieaa

namespace Go.Proofs.Ytpmndmkmfcoieaa
open Go.RowKit
set_option maxRecDepth 100000

theorem wp_scope_body {P : Program} {a : Act} {w : World} {Q : Exit → Act → World → Prop} {c r1 r2 : Code} (l1 l2 : Nat) (J1 J2 : Act → World → Prop) (μ1 μ2 : Act → World → Nat) (h12 : l1 ≠ l2) (hf1 : findLabel c l1 = some (Code.skip.seq r1)) (hf2 : findLabel c l2 = some (Code.skip.seq r2))
    (pass1 : ∀ a w, J1 a w → r1.wp P (jump2 l1 l2 (fun a' w' => J1 a' w' ∧ μ1 a' w' < μ1 a w) (fun a' w' => J2 a' w' ∧ μ2 a' w' < μ1 a w) Q) a w)
    (pass2 : ∀ a w, J2 a w → r2.wp P (jump2 l1 l2 (fun a' w' => J1 a' w' ∧ μ1 a' w' < μ2 a w) (fun a' w' => J2 a' w' ∧ μ2 a' w' < μ2 a w) Q) a w)
    (first : (∀ a w, J1 a w → r1.wp P (jump2 l1 l2 J1 J2 Q) a w) → c.wp P (jump2 l1 l2 J1 J2 Q) a w) : (Code.scope c).wp P Q a w :=
  wp_scope_two l1 l2 J1 J2 μ1 μ2 h12 hf1 hf2 (first fun a w h => Code.wp_mono (fun e a' w' h => by
    cases e with
    | goto l =>
      rcases h with ⟨h1, h2⟩ | ⟨h1, h2⟩
      · exact Or.inl ⟨h1, h2.1⟩
      · exact Or.inr ⟨h1, h2.1⟩
    | _ => exact h) (pass1 a w h)) (fun a w h => wp_seq (wp_skip (pass1 a w h))) (fun a w h => wp_seq (wp_skip (pass2 a w h)))
theorem small_stp {s : SD} (h : stepF s = 0) : s.2.2.length ≤ 64 := by
  unfold stepF at h
  by_cases h1 : s.1 = true
  · rw [if_pos h1] at h
    by_cases h2 : ¬ s.2.1 = 0 ∨ 0 < s.2.2.length
    · rw [if_pos h2] at h; omega
    · omega
  · rw [if_neg h1] at h
    by_cases h2 : s.2.1 < 0 ∨ 47 ≤ s.2.1
    · rw [if_pos h2] at h; omega
    · rw [if_neg h2] at h; exact wordsF_small h
theorem run_flush {l : List SD} {d : DK} {j : Nat} (h : (runJ l d j).1 = 0) (hf : (l[j]?.getD sd0).1 = true) : runJ l d (j + 1) = (0, keepD (runJ l d j).2) := by
  rw [runJ_next h]; unfold stepD; rw [if_pos hf]
theorem run_put {l : List SD} {d : DK} {j : Nat} (h : (runJ l d j).1 = 0) (hf : (l[j]?.getD sd0).1 = false) (h2 : ¬ 200 ≤ (runJ l d j).2.2.length) : runJ l d (j + 1) = (0, (runJ l d j).2.1, (runJ l d j).2.2 ++ [((l[j]?.getD sd0).2.1, (l[j]?.getD sd0).2.2)]) := by
  rw [runJ_next h]; unfold stepD; rw [if_neg (by rw [hf]; simp), if_neg h2]
theorem run_full {l : List SD} {d : DK} {j : Nat} (h : (runJ l d j).1 = 0) (hf : (l[j]?.getD sd0).1 = false) (h2 : 200 ≤ (runJ l d j).2.2.length) : runJ l d (j + 1) = (2, [], []) := by
  rw [runJ_next h]; unfold stepD; rw [if_neg (by rw [hf]; simp), if_pos h2]
set_option maxHeartbeats 6400000 in
theorem do_any (w0 w : World) (bd : Nat) (a : Option Addr) (n c : Nat) (l : List SD) (d : DK) (hn : l.length = n) (hw : Below w0.heap.size w0 w) (hl : AtStp w0 a n l) (hm : n ≤ 1000) (hs : ∀ i, i < n → stepF (l[i]?.getD sd0) = 0) (hg : GoodD d) (hd : ∀ y0 y1 y2, ∀ W, Below w.heap.size w W → OwnRow W w.heap.size 3 (cel [y0, y1, y2]) → DrvM W w0.heap.size bd w.heap.size d) :
    Calls Try.prog 60 #[.pointer (some ⟨bd, 0, none⟩), .slice a n c] w fun e w' => e = .returned (.int .i64 (runJ l d n).1) ∧ Below w0.heap.size w0 w' ∧ ((runJ l d n).1 = 0 → DrvM w' w0.heap.size bd w.heap.size (runJ l d n).2) := by
  have HL : Hid (AtStp w0 a n l) := hl
  have HS : Hid (∀ i, i < n → stepF (l[i]?.getD sd0) = 0) := hs
  have HG : Hid (∀ j, j ≤ n → (runJ l d j).1 = 0 → GoodD (runJ l d j).2) := fun j hj h0 => good_run hg (by rw [hn]; exact hs) j (by omega) h0
  have HST : Hid (∀ j, j ≤ n → ¬ (runJ l d j).1 = 0 → runJ l d n = runJ l d j) := fun j hj h => by
    have := runJ_stop h (n - j)
    rw [show j + (n - j) = n by omega] at this
    exact this
  have HD0 : Hid (DrvM (w.alloc (.cells #[.bool false, .int .i64 0, .slice none 0 0] 86)) w0.heap.size bd w.heap.size d) := hd (.bool false) (.int .i64 0) (.slice none 0 0) _ (later1 _ _) (newCel w [.bool false, .int .i64 0, .slice none 0 0] _)
  have HB0 : Hid (Below w0.heap.size w0 (w.alloc (.cells #[.bool false, .int .i64 0, .slice none 0 0] 86))) := hw.trans ((later1 _ _).mono hw.size)
  have HW0 : Hid (w0.heap.size ≤ w.heap.size) := hw.size
  clear hl hs hg hd hw hn
  go_enter Try.func60, Try.ntmps60
  go_wp2
  generalize hbx : w.heap.size = bx at *
  refine wp_scope_body 0 1 (fun a' w' => ∃ (j : Nat) (u7 u8 u9 u10 u11 u12 u13 u14 u15 u16 u17 u18 u19 u20 u21 u22 u23 u24 u25 u26 u27 u28 u29 u30 u31 u32 u33 u34 : Value), a' = { tmps := #[.pointer (some ⟨bd, 0, none⟩), .slice a n c, undef, undef, .int .i64 0, .pointer (some ⟨bx, 0, none⟩), .int .i64 (j : Int), u7, u8, u9, u10, u11, u12, u13, u14, u15, u16, u17, u18, u19, u20, u21, u22, u23, u24, u25, u26, u27, u28, u29, u30, u31, u32, u33, u34], defers := [] } ∧ j ≤ n ∧ (runJ l d j).1 = 0 ∧ Below w0.heap.size w0 w' ∧ DrvM w' w0.heap.size bd bx (runJ l d j).2) (fun a' w' => ∃ (j : Nat) (u7 u8 u9 u10 u11 u12 u13 u14 u15 u16 u17 u18 u19 u20 u21 u22 u23 u24 u25 u26 u27 u28 u29 u30 u31 u32 u33 u34 : Value), a' = { tmps := #[.pointer (some ⟨bd, 0, none⟩), .slice a n c, undef, undef, .int .i64 0, .pointer (some ⟨bx, 0, none⟩), .int .i64 ((j + 1 : Nat) : Int), u7, u8, u9, u10, u11, u12, u13, u14, u15, u16, u17, u18, u19, u20, u21, u22, u23, u24, u25, u26, u27, u28, u29, u30, u31, u32, u33, u34], defers := [] } ∧ j < n ∧ (l[j]?.getD sd0).1 = true ∧ (runJ l d j).1 = 0 ∧ Below w0.heap.size w0 w' ∧ DrvM w' w0.heap.size bd bx (runJ l d j).2) (fun a' _ => 2 * (n - (intOf (a'.tmps.getD 6 undef)).toNat) + 1) (fun a' _ => 2 * (n + 1 - (intOf (a'.tmps.getD 6 undef)).toNat)) (by decide) rfl rfl ?_ ?_ ?_
  · rintro a' wr ⟨j, u7, u8, u9, u10, u11, u12, u13, u14, u15, u16, u17, u18, u19, u20, u21, u22, u23, u24, u25, u26, u27, u28, u29, u30, u31, u32, u33, u34, rfl, hj, hc0, hbl, hdm⟩
    have HBL : Hid (Below w0.heap.size w0 wr) := hbl
    have HDM : Hid (DrvM wr w0.heap.size bd bx (runJ l d j).2) := hdm
    clear hbl hdm HD0 HB0
    by_cases hlt : j < n
    · have hsf := HS.out j hlt
      obtain ⟨b, o, rfl, aW, cW, k0, k1, k2, k3⟩ := HL.out j hlt
      replace k0 := cell_later HBL.out k0
      replace k1 := cell_later HBL.out k1
      replace k2 := cell_later HBL.out k2
      have hbz := lt_of_cell k0
      have hws := small_stp hsf
      obtain ⟨y0, y1, y2, hrow⟩ := HDM.out.row
      have t0 : wr.cell? ⟨bx, 0, none⟩ = some y0 := hrow.cell (i := 0) (by omega)
      have t1 : wr.cell? ⟨bx, 1, none⟩ = some y1 := hrow.cell (i := 1) (by omega)
      have t2 : wr.cell? ⟨bx, 2, none⟩ = some y2 := hrow.cell (i := 2) (by omega)
      have f0 := hrow.frozen 0
      have f1 := hrow.frozen 1
      have f2 := hrow.frozen 2
      have hxl := hrow.lt
      have hne : ((j : Int) == (n : Int)) = false := by simp; omega
      have HK3 : Hid (∀ W, Below w0.heap.size w0 W → SteR W (.bool (l[j]?.getD sd0).1) (.int .i64 (l[j]?.getD sd0).2.1) (.slice aW (l[j]?.getD sd0).2.2.length cW) (l[j]?.getD sd0)) := fun W hW => k3.later hW
      have HDX : Hid (DrvM (((wr.setCell ⟨bx, 0, none⟩ (.bool (l[j]?.getD sd0).1)).setCell ⟨bx, 1, none⟩ (.int .i64 (l[j]?.getD sd0).2.1)).setCell ⟨bx, 2, none⟩ (.slice aW (l[j]?.getD sd0).2.2.length cW)) w0.heap.size bd bx (runJ l d j).2) := ((HDM.out.store 0 _).store 1 _).store 2 _
      have HBX : Hid (Below w0.heap.size w0 (((wr.setCell ⟨bx, 0, none⟩ (.bool (l[j]?.getD sd0).1)).setCell ⟨bx, 1, none⟩ (.int .i64 (l[j]?.getD sd0).2.1)).setCell ⟨bx, 2, none⟩ (.slice aW (l[j]?.getD sd0).2.2.length cW))) := ((HBL.out.setCell HW0.out _).setCell HW0.out _).setCell HW0.out _
      have HRX : Hid (OwnRow (((wr.setCell ⟨bx, 0, none⟩ (.bool (l[j]?.getD sd0).1)).setCell ⟨bx, 1, none⟩ (.int .i64 (l[j]?.getD sd0).2.1)).setCell ⟨bx, 2, none⟩ (.slice aW (l[j]?.getD sd0).2.2.length cW)) bx 3 (cel [.bool (l[j]?.getD sd0).1, .int .i64 (l[j]?.getD sd0).2.1, .slice aW (l[j]?.getD sd0).2.2.length cW])) := (((hrow.set 0 _).set 1 _).set 2 _).congr fun i hi => by rcases (show i = 0 ∨ i = 1 ∨ i = 2 by omega) with rfl | rfl | rfl <;> rfl
      clear hrow k3 HDM HBL
      go_wp2_with fail
      generalize (((wr.setCell ⟨bx, 0, none⟩ (.bool (l[j]?.getD sd0).1)).setCell ⟨bx, 1, none⟩ (.int .i64 (l[j]?.getD sd0).2.1)).setCell ⟨bx, 2, none⟩ (.slice aW (l[j]?.getD sd0).2.2.length cW)) = w1 at *
      clear k0 k1 k2 t0 t1 t2 f0 f1 f2 hxl hbz
      have hsf' := implStepFU w1 _ _ _ _ _ _ (HK3.out w1 HBX.out) (by show (l[j]?.getD sd0).2.2.length ≤ 1048576; omega)
      rw [hsf] at hsf'
      have HSF : Hid (Calls Try.prog 84 #[.agg #[.bool (l[j]?.getD sd0).1, .int .i64 (l[j]?.getD sd0).2.1, .slice aW (l[j]?.getD sd0).2.2.length cW]] w1 fun e w' => e = .returned (.int .i64 0) ∧ Below w1.heap.size w1 w') := hsf'
      clear hsf'
      have HPR : Hid ((l[j]?.getD sd0).1 = false → ¬ 200 ≤ (runJ l d j).2.2.length → runJ l d (j + 1) = (0, (runJ l d j).2.1, (runJ l d j).2.2 ++ [((l[j]?.getD sd0).2.1, (l[j]?.getD sd0).2.2)])) := fun h1 h2 => run_put hc0 h1 h2
      have HPF : Hid ((l[j]?.getD sd0).1 = false → 200 ≤ (runJ l d j).2.2.length → runJ l d (j + 1) = (2, [], [])) := fun h1 h2 => run_full hc0 h1 h2
      have HGJ : Hid (GoodD (runJ l d j).2) := HG.out j hj hc0
      have HWS : Hid ((l[j]?.getD sd0).2.2.length ≤ 1048576) := by unfold Hid; omega
      refine HSF.out.mono ?_
      rintro e w2 ⟨rfl, hb⟩
      replace HDX : Hid (DrvM w2 w0.heap.size bd bx (runJ l d j).2) := HDX.out.later hb
      replace HRX : Hid (OwnRow w2 bx 3 (cel [.bool (l[j]?.getD sd0).1, .int .i64 (l[j]?.getD sd0).2.1, .slice aW (l[j]?.getD sd0).2.2.length cW])) := HRX.out.later hb
      replace HBX : Hid (Below w0.heap.size w0 w2) := HBX.out.trans (hb.mono HBX.out.size)
      clear hb HSF hws hsf
      have t0 : w2.cell? ⟨bx, 0, none⟩ = some (.bool (l[j]?.getD sd0).1) := HRX.out.cell (i := 0) (by omega)
      have t1 : w2.cell? ⟨bx, 1, none⟩ = some (.int .i64 (l[j]?.getD sd0).2.1) := HRX.out.cell (i := 1) (by omega)
      have t2 : w2.cell? ⟨bx, 2, none⟩ = some (.slice aW (l[j]?.getD sd0).2.2.length cW) := HRX.out.cell (i := 2) (by omega)
      go_wp2_with fail
      clear t0 t1 t2
      refine (isFlush_any _ _ _ _).mono ?_
      rintro e w3 ⟨rfl, hb⟩
      replace HDX : Hid (DrvM w3 w0.heap.size bd bx (runJ l d j).2) := HDX.out.later hb
      replace HRX : Hid (OwnRow w3 bx 3 (cel [.bool (l[j]?.getD sd0).1, .int .i64 (l[j]?.getD sd0).2.1, .slice aW (l[j]?.getD sd0).2.2.length cW])) := HRX.out.later hb
      replace HBX : Hid (Below w0.heap.size w0 w3) := HBX.out.trans (hb.mono HBX.out.size)
      clear hb
      have t1 : w3.cell? ⟨bx, 1, none⟩ = some (.int .i64 (l[j]?.getD sd0).2.1) := HRX.out.cell (i := 1) (by omega)
      have t2 : w3.cell? ⟨bx, 2, none⟩ = some (.slice aW (l[j]?.getD sd0).2.2.length cW) := HRX.out.cell (i := 2) (by omega)
      have HIW : Hid (Ints w3 (.slice aW (l[j]?.getD sd0).2.2.length cW) (l[j]?.getD sd0).2.2) := (HK3.out w3 HBX.out).2
      clear HRX HK3
      cases hfl : (l[j]?.getD sd0).1 with
      | true =>
        go_wp2
        go_step3
        exact Or.inr ⟨rfl, ⟨j, _, _, _, _, _, _, _, _, _, _, _, _, _, _, _, _, _, _, _, _, _, _, _, _, _, _, _, _, rfl, hlt, hfl, hc0, HBX.out, HDX.out⟩, by first | (simp [intOf]; done) | (simp [intOf]; omega)⟩
      | false =>
        by_cases hfu : 200 ≤ (runJ l d j).2.2.length
        · have hr := HPF.out hfl hfu
          have hre := HST.out (j + 1) (by omega) (by rw [hr]; decide)
          have HFU : Hid (Calls Try.prog 86 #[.pointer (some ⟨bd, 0, none⟩)] w3 _) := full_drv HDX.out true (by first | (simp; done) | (simp; omega))
          clear HS HL HG HST HPR HPF HIW t1 t2
          go_wp2_with fail
          refine HFU.out.mono ?_
          rintro e w4 ⟨rfl, hw4⟩
          subst w4
          go_wp2
          simp only [jump2]
          first
            | go_ret
            | (rw [Exit.noGoto_ret]; go_ret)
            | (show Exit.noGoto _ _ _ _; rw [Exit.noGoto_ret]; go_ret)
          rw [hre, hr]
          exact ⟨rfl, HBX.out, fun h => absurd h (by decide)⟩
        · have hr := HPR.out hfl hfu
          have HFU : Hid (Calls Try.prog 86 #[.pointer (some ⟨bd, 0, none⟩)] w3 _) := full_drv HDX.out false (by first | (simp; done) | (simp; omega))
          have HPU : Hid (Calls Try.prog 83 #[.pointer (some ⟨bd, 0, none⟩), .int .i64 (l[j]?.getD sd0).2.1, .slice aW (l[j]?.getD sd0).2.2.length cW] w3 _) := put_drv HDX.out HGJ.out.few (l[j]?.getD sd0).2.1 _ (l[j]?.getD sd0).2.2 HIW.out HWS.out
          clear HS HL HG HST HPR HPF HIW HDX HGJ HWS
          go_wp2_with fail
          refine HFU.out.mono ?_
          rintro e w4 ⟨rfl, hw4⟩
          subst w4
          go_wp2_with fail
          clear t1 t2
          refine HPU.out.mono ?_
          rintro e w4 ⟨rfl, hb, hdm⟩
          go_wp2
          go_step3
          exact Or.inl ⟨rfl, ⟨j + 1, _, _, _, _, _, _, _, _, _, _, _, _, _, _, _, _, _, _, _, _, _, _, _, _, _, _, _, _, rfl, by omega, by rw [hr], HBX.out.trans hb, by rw [hr]; exact hdm⟩, by simp [intOf]; omega⟩
    · have e : j = n := by omega
      subst e
      clear HL HS HG HST
      go_wp2
      simp only [jump2]
      first
        | go_ret
        | (rw [Exit.noGoto_ret]; go_ret)
        | (show Exit.noGoto _ _ _ _; rw [Exit.noGoto_ret]; go_ret)
      exact ⟨ret_int hc0.symm, HBL.out, fun _ => by rw [hbx]; exact HDM.out⟩
  · rintro a' wr ⟨j, u7, u8, u9, u10, u11, u12, u13, u14, u15, u16, u17, u18, u19, u20, u21, u22, u23, u24, u25, u26, u27, u28, u29, u30, u31, u32, u33, u34, rfl, hj, hfl, hc0, hbl, hdm⟩
    have HBL : Hid (Below w0.heap.size w0 wr) := hbl
    have HFD : Hid (Calls Try.prog 87 #[.pointer (some ⟨bd, 0, none⟩)] wr _) := flush_drv hdm (HG.out j (by omega) hc0)
    clear hbl hdm HD0 HB0
    go_wp2_with fail
    refine HFD.out.mono ?_
    rintro e w1 ⟨rfl, hb, hdm⟩
    have hrf := run_flush hc0 hfl
    have hm1 : 2 * (n - (j + 1)) + 1 < 2 * (n + 1 - (j + 1)) := by omega
    go_wp2
    go_step3
    exact Or.inl ⟨rfl, ⟨j + 1, _, _, _, _, _, _, _, _, _, _, _, _, _, _, _, _, _, _, _, _, _, _, _, _, _, _, _, _, rfl, by omega, by rw [hrf], HBL.out.trans hb, by rw [hrf]; exact hdm⟩, by simp [intOf]; omega⟩
  · intro hr1
    go_wp2
    go_step3
    rename_i K hK
    exact hK _ _ (hr1 _ _ ⟨0, _, _, _, _, _, _, _, _, _, _, _, _, _, _, _, _, _, _, _, _, _, _, _, _, _, _, _, _, rfl, Nat.zero_le _, rfl, HB0.out, HD0.out⟩)
end Go.Proofs.Ytpmndmkmfcoieaa

namespace Go.Proofs.Ytpmndmkmfcoieaa
open Go.RowKit
set_option maxRecDepth 100000

/-- RunSteps at steps without a fault. -/
def runsR (l : List SD) (d : DK) : Int × DK := if sizF d = 0 then runD l d else (sizF d, [], [])
theorem AnsDR.put3 {w W : World} {rb : Nat} {r : Int} {d : DK} {aB aC : Option Addr} {nB cB nC cC : Nat} (hB : Below w.heap.size w W) (hrb : w.heap.size ≤ rb) (hY : DiskU W (.slice aB nB cB) (.slice aC nC cC) d (fun b => rb < b ∧ b < W.heap.size)) (x y z : Value) : AnsDR w (r, d) (.returned (.agg #[.int .i64 r, .slice aB nB cB, .slice aC nC cC])) (((W.setCell ⟨rb, 0, none⟩ x).setCell ⟨rb, 1, none⟩ y).setCell ⟨rb, 2, none⟩ z) := by
  refine ⟨aB, nB, cB, aC, nC, cC, rfl, ((hB.setCell hrb _).setCell hrb _).setCell hrb _, ?_⟩
  have hk : ∀ b, b ≠ rb → ((((W.setCell ⟨rb, 0, none⟩ x).setCell ⟨rb, 1, none⟩ y).setCell ⟨rb, 2, none⟩ z).heap[b]? = W.heap[b]?) := fun b hb => by
    rw [Below.heap_setCell _ _ _ _ hb, Below.heap_setCell _ _ _ _ hb, Below.heap_setCell _ _ _ _ hb]
  exact (hY.keep fun b hb _ => hk b (by have := hb.1; omega)).mono fun b hb => ⟨by omega, by simpa [World.setCell] using hb.2⟩
theorem DiskU.none' (w : World) (F : Nat → Prop) : DiskU w (.slice none 0 0) (.slice none 0 0) ([], []) F := ⟨fun _ => False, fun _ => False, Or.inl ⟨rfl, _, _, rfl⟩, Or.inl ⟨rfl, _, _, rfl⟩, fun _ h => h.elim, fun _ h => h.elim False.elim False.elim⟩
theorem open_drvM {w : World} {aB aC : Option Addr} {nB cB nC cC : Nat} {d : DK} (h : DiskR w (.slice aB nB cB) (.slice aC nC cC) d) (hg : GoodD d) :
    Calls Try.prog 59 #[.agg #[.slice aB nB cB, .slice aC nC cC]] w fun e w' => ∃ bd, e = .returned (.pointer (some ⟨bd, 0, none⟩)) ∧ Below w.heap.size w w' ∧ ∀ y0 y1 y2, ∀ V, Below w'.heap.size w' V → OwnRow V w'.heap.size 3 (cel [y0, y1, y2]) → DrvM V w.heap.size bd w'.heap.size d := by
  obtain ⟨_, _, e1, _, sB⟩ := h.1.open'
  simp only [Value.slice.injEq] at e1
  obtain ⟨rfl, rfl, rfl⟩ := e1
  obtain ⟨_, _, e2, _, sP⟩ := h.2.open'
  simp only [Value.slice.injEq] at e2
  obtain ⟨rfl, rfl, rfl⟩ := e2
  refine (openDisk_walk w _ _ _ cB _ cC d.1 d.2 rfl rfl (by have := hg.n47; omega) hg.few (fun k _ => hg.hz k) (fun k _ => hg.hzp k) sB sP).mono ?_
  rintro e w2 ⟨bd, g, aP, cP, pb, k, u, rfl, hdr⟩
  have hbd := hdr.row.lt
  obtain ⟨_, _, hgf, _⟩ := hdr.blocks.row (by have := hg.n47; omega)
  refine ⟨bd, rfl, hdr.below, fun y0 y1 y2 V hV hr => ⟨⟨bd + 1, g, aP, cP, pb, k, u, hdr.row.later hV, hdr.cache.later hV, (hdr.blocks.keep fun b _ hlt => hV.block b hlt).mono fun b hb => ⟨hb.1, by omega, by omega, by omega⟩, by omega, by have := hV.size; omega, by omega, fun o ho => by have := (hdr.cache.own.lt o ho).2; omega, fun i hi => ⟨by have := (hdr.cache.box i hi).lt; omega, by have := (hdr.cache.lo i hi).2.2; omega⟩⟩, hdr.lo, by omega, ⟨y0, y1, y2, hr⟩⟩⟩
theorem disk_drv {w : World} {lo bd bx : Nat} {d : DK} (h : DrvM w lo bd bx d) (hf : d.2.length ≤ 200) :
    Calls Try.prog 61 #[.pointer (some ⟨bd, 0, none⟩)] w fun e w' => ∃ aB nB cB aC nC cC, e = .returned (.agg #[.slice aB nB cB, .slice aC nC cC]) ∧ Below w.heap.size w w' ∧ DiskU w' (.slice aB nB cB) (.slice aC nC cC) d (fun b => lo ≤ b ∧ b < w'.heap.size) := by
  obtain ⟨cb, g, aP, cP, pb, k, u, h1, h2, h3, h4, h5, h6, h7, h8⟩ := h.at'
  refine (disk_any w bd cb d.2.length _ _ _ aP cP (fun i => d.2[i]?.getD (0, [])) pb k u (by omega) h1 h2).mono ?_
  rintro e w' ⟨aC, cC, rfl, hb, hl⟩
  have hs := hb.size
  have hlo := h.lob
  refine ⟨_, _, _, _, _, _, rfl, hb, fun c => lo ≤ c ∧ c < cb ∧ c ≠ bd ∧ c ≠ bx, fun c => cb ≤ c ∧ c < w'.heap.size, h3.keep fun b _ hlt => hb.block b hlt, LRow.puts2 hl rfl _ (fun o ho => by have := hl.own.lt o ho; omega) (fun i hi => hl.lo i hi), fun b x y => by omega, fun b hb' => by omega⟩

set_option maxHeartbeats 3200000 in
theorem implRunU (w : World) (a1 : Option Addr) (n1 c1 : Nat) (a2 : Option Addr) (n2 c2 : Nat) (d : DK) (a : Option Addr) (n c : Nat) (l : List SD) (h : DiskR w (.slice a1 n1 c1) (.slice a2 n2 c2) d) (hl : AtStp w a n l) (hn : l.length = n) (hm : n ≤ 120) (hst : ∀ i, i < n → stepF (l[i]?.getD sd0) = 0) (_hs : sizeDisk d ≤ 1048576) :
    Calls Try.prog 40 #[.agg #[.slice a1 n1 c1, .slice a2 n2 c2], .slice a n c] w (AnsDR w (runsR l d)) := by
  have HF : Hid (∀ W, Below w.heap.size w W → Calls Try.prog 58 #[.agg #[.slice a1 n1 c1, .slice a2 n2 c2]] W fun e w' => e = .returned (.int .i64 (sizF d)) ∧ Below W.heap.size W w') := fun W hW => sizeFault_any W _ _ _ _ _ _ d (h.later hW)
  have HO : Hid (sizF d = 0 → ∀ W, Below w.heap.size w W → Calls Try.prog 59 #[.agg #[.slice a1 n1 c1, .slice a2 n2 c2]] W _) := fun h0 W hW => open_drvM (h.later hW) (GoodD.of h0)
  have HDO : Hid (sizF d = 0 → ∀ w1 w2 bd, Below w.heap.size w w1 → Below w1.heap.size w1 w2 → (∀ y0 y1 y2, ∀ W, Below w2.heap.size w2 W → OwnRow W w2.heap.size 3 (cel [y0, y1, y2]) → DrvM W w1.heap.size bd w2.heap.size d) → Calls Try.prog 60 #[.pointer (some ⟨bd, 0, none⟩), .slice a n c] w2 fun e w' => e = .returned (.int .i64 (runD l d).1) ∧ Below w1.heap.size w1 w' ∧ ((runD l d).1 = 0 → DrvM w' w1.heap.size bd w2.heap.size (runD l d).2)) := fun h0 w1 w2 bd hw1 hw2 hd => by
    have := do_any w1 w2 bd a n c l d hn hw2 (hl.later hw1) (by omega) hst (GoodD.of h0) hd
    have e : runJ l d n = runD l d := by unfold runD; rw [hn]
    rw [e] at this
    exact this
  have HBAD : Hid (¬ sizF d = 0 → runsR l d = (sizF d, [], [])) := fun h0 => by unfold runsR; rw [if_neg h0]
  have HOK : Hid (sizF d = 0 → runsR l d = runD l d) := fun h0 => by unfold runsR; rw [if_pos h0]
  have HRC : Hid (¬ (runD l d).1 = 0 → runD l d = ((runD l d).1, [], [])) := fun h0 => by
    have := runJ_code l.length h0
    unfold runD at h0 ⊢
    rw [this]
  have HRG : Hid (sizF d = 0 → (runD l d).1 = 0 → (runD l d).2.2.length ≤ 200) := fun h0 h1 => (good_run (GoodD.of h0) (by rw [hn]; exact hst) l.length (Nat.le_refl _) h1).few
  clear h hl hst hs hn
  generalize runsR l d = RES at *
  generalize hRD : runD l d = RD at *
  generalize sizF d = r at *
  clear hRD
  have HB0 : Hid (Below w.heap.size w ((w.alloc (.cells #[.slice a1 n1 c1, .slice a2 n2 c2] 30)).alloc (.cells #[.int .i64 0, .slice none 0 0, .slice none 0 0] 32))) := later2 _ _ _
  have HX0 : Hid (Bx ((w.alloc (.cells #[.slice a1 n1 c1, .slice a2 n2 c2] 30)).alloc (.cells #[.int .i64 0, .slice none 0 0, .slice none 0 0] 32)) (w.heap.size) [.slice a1 n1 c1, .slice a2 n2 c2]) := (Bx.new w [.slice a1 n1 c1, .slice a2 n2 c2] _).later (later1 _ _)
  have HR0 : Hid (OwnRow ((w.alloc (.cells #[.slice a1 n1 c1, .slice a2 n2 c2] 30)).alloc (.cells #[.int .i64 0, .slice none 0 0, .slice none 0 0] 32)) (w.heap.size + 1) 3 (cel [.int .i64 0, .slice none 0 0, .slice none 0 0])) := (show OwnRow ((w.alloc (.cells #[.slice a1 n1 c1, .slice a2 n2 c2] 30)).alloc (.cells #[.int .i64 0, .slice none 0 0, .slice none 0 0] 32)) (w.heap.size + 1) 3 (cel [.int .i64 0, .slice none 0 0, .slice none 0 0]) from by have := newCel (w.alloc (.cells #[.slice a1 n1 c1, .slice a2 n2 c2] 30)) [.int .i64 0, .slice none 0 0, .slice none 0 0] 32; rw [World.size_alloc] at this; exact this)
  go_enter Try.func40, Try.ntmps40
  have xHX0 := HX0.out 0 _ rfl
  have xHX1 := HX0.out 1 _ rfl
  go_wp2_with fail
  clear xHX0 xHX1
  refine (HF.out _ HB0.out).mono ?_
  rintro e w1 ⟨rfl, hb⟩
  have HB1 : Hid (Below w.heap.size w w1) := HB0.out.trans (hb.mono HB0.out.size)
  have HX1 : Hid (Bx w1 (w.heap.size) [.slice a1 n1 c1, .slice a2 n2 c2]) := HX0.out.later hb
  have HR1 : Hid (OwnRow w1 (w.heap.size + 1) 3 (cel [.int .i64 0, .slice none 0 0, .slice none 0 0])) := HR0.out.later hb
  clear hb
  by_cases hf : r = 0
  · skip
    replace HO : Hid _ := HO.out hf
    replace HDO : Hid _ := HDO.out hf
    replace HOK : Hid _ := HOK.out hf
    replace HRG : Hid _ := HRG.out hf
    clear HBAD HF
    subst hf
    have h120 : ¬ (120 < (n : Int)) := by omega
    have xHX0 := HX1.out 0 _ rfl
    have xHX1 := HX1.out 1 _ rfl
    go_wp2_with fail
    clear xHX0 xHX1
    refine (HO.out _ HB1.out).mono ?_
    rintro e w2 ⟨bd, rfl, hb2, hdm2⟩
    have HC : Hid (Calls Try.prog 60 #[.pointer (some ⟨bd, 0, none⟩), .slice a n c] w2 _) := HDO.out w1 w2 bd HB1.out hb2 hdm2
    clear HO HDO hb2 hdm2
    go_wp2_with fail
    refine HC.out.mono ?_
    rintro e w3 ⟨rfl, hb, hdm⟩
    clear HC
    have HDM : Hid (RD.1 = 0 → DrvM w3 w1.heap.size bd w2.heap.size RD.2) := hdm
    clear hdm
    have hr1 : Hid (w.heap.size + 1 < w1.heap.size) := HR1.out.lt
    have HB2 : Hid (Below w.heap.size w w3) := HB1.out.trans (hb.mono HB1.out.size)
    have HX2 : Hid (Bx w3 (w.heap.size) [.slice a1 n1 c1, .slice a2 n2 c2]) := HX1.out.later hb
    have HR2 : Hid (OwnRow w3 (w.heap.size + 1) 3 (cel [.int .i64 0, .slice none 0 0, .slice none 0 0])) := HR1.out.later hb
    clear hb
    by_cases hc : RD.1 = 0
    · skip
      have HDU := disk_drv (HDM.out hc) (HRG.out hc)
      have HDV : Hid (Calls Try.prog 61 #[.pointer (some ⟨bd, 0, none⟩)] w3 _) := HDU
      clear HDU HDM HRC HRG
      have hcb : (RD.1 != 0) = false := by simpa using hc
      have HE : Hid (RES = (0, RD.2)) := by unfold Hid; rw [HOK.out]; exact Prod.ext hc rfl
      clear HOK
      go_wp2_with fail
      refine HDV.out.mono ?_
      rintro e w4 ⟨aB, nB, cB, aC, nC, cC, rfl, hb, hdu⟩
      have HDK : Hid (DiskU w4 (.slice aB nB cB) (.slice aC nC cC) RD.2 (fun b => w.heap.size + 1 < b ∧ b < w4.heap.size)) := hdu.mono fun b hb' => ⟨by have := hb'.1; have := hr1.out; omega, hb'.2⟩
      clear hdu HDV
      have HB3 : Hid (Below w.heap.size w w4) := HB2.out.trans (hb.mono HB2.out.size)
      have HX3 : Hid (Bx w4 (w.heap.size) [.slice a1 n1 c1, .slice a2 n2 c2]) := HX2.out.later hb
      have HR3 : Hid (OwnRow w4 (w.heap.size + 1) 3 (cel [.int .i64 0, .slice none 0 0, .slice none 0 0])) := HR2.out.later hb
      clear hb
      have hrr := HR3.out
      have t0 : w4.cell? ⟨w.heap.size + 1, 0, none⟩ = some (.int .i64 0) := hrr.cell (i := 0) (by omega)
      have t1 : w4.cell? ⟨w.heap.size + 1, 1, none⟩ = some (.slice none 0 0) := hrr.cell (i := 1) (by omega)
      have t2 : w4.cell? ⟨w.heap.size + 1, 2, none⟩ = some (.slice none 0 0) := hrr.cell (i := 2) (by omega)
      have f0 := hrr.frozen 0
      have f1 := hrr.frozen 1
      have f2 := hrr.frozen 2
      have hlr := hrr.lt
      clear hrr
      go_wp2
      exact bodyPost_ret (v := .agg #[.int .i64 0, .slice aB nB cB, .slice aC nC cC]) (by simp [results, Try.results40, go_sem, t0, t1, t2]) rfl (by rw [HE.out]; exact AnsDR.put3 HB3.out (by omega) HDK.out _ _ _)
    · skip
      have hcb : (RD.1 != 0) = true := by simpa using hc
      have HE : Hid (RES = (RD.1, [], [])) := by unfold Hid; rw [HOK.out]; exact HRC.out hc
      clear HOK HRC HRG HDM
      have hrr := HR2.out
      have t0 : w3.cell? ⟨w.heap.size + 1, 0, none⟩ = some (.int .i64 0) := hrr.cell (i := 0) (by omega)
      have t1 : w3.cell? ⟨w.heap.size + 1, 1, none⟩ = some (.slice none 0 0) := hrr.cell (i := 1) (by omega)
      have t2 : w3.cell? ⟨w.heap.size + 1, 2, none⟩ = some (.slice none 0 0) := hrr.cell (i := 2) (by omega)
      have f0 := hrr.frozen 0
      have f1 := hrr.frozen 1
      have f2 := hrr.frozen 2
      have hlr := hrr.lt
      clear hrr
      go_wp2
      exact bodyPost_ret (v := .agg #[.int .i64 RD.1, .slice none 0 0, .slice none 0 0]) (by simp [results, Try.results40, go_sem, t0, t1, t2]) rfl (by rw [HE.out]; exact AnsDR.put3 HB2.out (by omega) (DiskU.none' _ _) _ _ _)
  · skip
    have hfb : (r != 0) = true := by simpa using hf
    have HE : Hid (RES = (r, [], [])) := HBAD.out hf
    clear HBAD HO HDO HOK HRC HRG HF hf
    have hrr := HR1.out
    have t0 : w1.cell? ⟨w.heap.size + 1, 0, none⟩ = some (.int .i64 0) := hrr.cell (i := 0) (by omega)
    have t1 : w1.cell? ⟨w.heap.size + 1, 1, none⟩ = some (.slice none 0 0) := hrr.cell (i := 1) (by omega)
    have t2 : w1.cell? ⟨w.heap.size + 1, 2, none⟩ = some (.slice none 0 0) := hrr.cell (i := 2) (by omega)
    have f0 := hrr.frozen 0
    have f1 := hrr.frozen 1
    have f2 := hrr.frozen 2
    have hlr := hrr.lt
    clear hrr
    go_wp2
    exact bodyPost_ret (v := .agg #[.int .i64 r, .slice none 0 0, .slice none 0 0]) (by simp [results, Try.results40, go_sem, t0, t1, t2]) rfl (by rw [HE.out]; exact AnsDR.put3 HB1.out (by omega) (DiskU.none' _ _) _ _ _)

end Go.Proofs.Ytpmndmkmfcoieaa
