/- The steps of a plan that mounts: what they are; the specification's parts. PlanMount: the specification; answers that are steps, in the one form. Phases of steps: the program's parts. Phases of steps: the program's loops; slices.Concat of steps. Phases of steps: rows of words; the steps that bring a journal home. Answers that are puts: held against one another, marked, held. -/
import Derived.Test.YtpmndmkmfcoieaaM10
import Derived.Test.YtpmndmkmfcoieaaM13
import Derived.Test.YtpmndmkmfcoieaaM08
import Derived.Test.YtpmndmkmfcoieaaM04
import Derived.Test.YtpmndmkmfcoieaaM05
namespace Go.Proofs.Ytpmndmkmfcoieaa
open Go.RowKit
set_option maxRecDepth 100000

def superS (q : Int) : List SD := [(true, 0, []), (false, 0, [7, q + 1]), (true, 0, [])]
def putsS (ps : List (Int × List Int)) : List SD := ps.map fun p => (false, p.1, p.2)
theorem putsS_len (ps : List (Int × List Int)) : (putsS ps).length = ps.length := by simp [putsS]
theorem putsS_get (ps : List (Int × List Int)) {i : Nat} (h : i < ps.length) : (putsS ps)[i]?.getD sd0 = (false, (ps[i]?.getD (0, [])).1, (ps[i]?.getD (0, [])).2) := by
  unfold putsS
  rw [List.getElem?_map, List.getElem?_eq_getElem h]
  rfl
def homeS (q : Int) (ps : List (Int × List Int)) : List SD := putsS ps ++ superS q
theorem two_getD (xs ys : List SD) (i : Nat) : (xs ++ ys)[i]?.getD sd0 = if i < xs.length then xs[i]?.getD sd0 else ys[i - xs.length]?.getD sd0 := by
  by_cases h : i < xs.length
  · rw [if_pos h, List.getElem?_append_left h]
  · rw [if_neg h, List.getElem?_append_right (by omega)]
/-- PlanMount: its code and its steps. -/
def planR (d : DK) : Int × List SD :=
  if (scanR d).1 = 0 then (if (scanR d).2.1 = true ∧ ¬ (seqR d).2 = 60000 then (0, homeS (seqR d).2 (scanR d).2.2) else (0, [])) else ((scanR d).1, [])
theorem scan_code (d : DK) : (scanR d).1 = (seqR d).1 := by
  by_cases h0 : (seqR d).1 = 0
  · cases hf : foundB (fun k => atF d.1 d.2 k) (seqR d).2 with
    | true => rw [scanR_yes h0 hf, h0]
    | false => rw [scanR_no h0 hf, h0]
  · rw [scanR_bad h0]
theorem planR_bad {d : DK} (h : ¬ (seqR d).1 = 0) : planR d = ((seqR d).1, []) := by unfold planR; rw [scan_code, if_neg h]
theorem planR_no {d : DK} (h : (seqR d).1 = 0) (hf : foundB (fun k => atF d.1 d.2 k) (seqR d).2 = false) : planR d = (0, []) := by
  unfold planR; rw [scan_code, if_pos h, scanR_no h hf, if_neg (by simp)]
theorem planR_last {d : DK} (h : (seqR d).1 = 0) (_hf : foundB (fun k => atF d.1 d.2 k) (seqR d).2 = true) (hq : (seqR d).2 = 60000) : planR d = (0, []) := by
  unfold planR; rw [scan_code, if_pos h, if_neg (by rw [hq]; simp)]
theorem planR_yes {d : DK} (h : (seqR d).1 = 0) (hf : foundB (fun k => atF d.1 d.2 k) (seqR d).2 = true) (hq : ¬ (seqR d).2 = 60000) : planR d = (0, homeS (seqR d).2 (putsJ fun k => atF d.1 d.2 k)) := by
  unfold planR; rw [scan_code, if_pos h, scanR_yes h hf, if_pos ⟨rfl, hq⟩]
theorem seq_in {d : DK} (h : (seqR d).1 = 0) : 1 ≤ (seqR d).2 ∧ (seqR d).2 ≤ 60000 := by
  obtain ⟨_, h2, h3⟩ := seqR_zero h
  rw [h3]
  exact (superB_in h2).2.2
theorem putsJ_small {d : DK} (hs : sizeDisk d ≤ 1048576) (i : Nat) : ((putsJ fun k : Nat => atF d.1 d.2 k)[i]?.getD (0, [])).2.length ≤ 1048576 := by
  by_cases hi : i < (putsJ fun k : Nat => atF d.1 d.2 k).length
  · rw [putsJ_get _ i (by rw [putsJ_len] at hi; exact hi)]
    exact atF_len (dsize_blk hs) (dsize_put hs)
  · rw [List.getElem?_eq_none (by omega)]; simp
theorem putsJ_ten {d : DK} (hf : foundB (fun k => atF d.1 d.2 k) (seqR d).2 = true) : (putsJ fun k : Nat => atF d.1 d.2 k).length ≤ 10 := by
  rw [putsJ_len]
  unfold foundB at hf
  rw [Bool.and_eq_true] at hf
  exact (headB_len hf.1).2.2

set_option maxHeartbeats 3200000 in
theorem l13Puts_any (w : World) (a : Option Addr) (c : Nat) (ps : List (Int × List Int)) (h : Puts w (.slice a ps.length c) ps) (hn : ps.length ≤ 1000) (hz : ∀ i : Nat, (ps[i]?.getD (0, [])).2.length ≤ 1048576) :
    Calls Try.prog 36 #[.slice a ps.length c] w fun e w' => ∃ a' c' u G, e = .returned (.slice a' ps.length c') ∧ Below w.heap.size w w' ∧ GRow StpP w' w.heap.size 86 3 (.slice a' ps.length c') ps.length (fun i => (putsS ps)[i]?.getD sd0) u G := by
  obtain ⟨_, _, e1, _, hA⟩ := h.open'
  simp only [Value.slice.injEq] at e1
  obtain ⟨rfl, -, rfl⟩ := e1
  have HA : Hid (AtP w a ps.length ps) := hA
  have HG : Hid (∀ i, i < ps.length → (putsS ps)[i]?.getD sd0 = (false, (ps[i]?.getD (0, [])).1, (ps[i]?.getD (0, [])).2)) := fun i hi => putsS_get ps hi
  have HZ : Hid (∀ i : Nat, (ps[i]?.getD (0, [])).2.length ≤ 1048576) := hz
  clear h hA hz
  generalize putsS ps = XS at *
  generalize ps.length = n at *
  go_enter Try.func36, Try.ntmps36
  go_wp2
  go_loopw [3, 4] (fun s i wr => ∃ (j : Nat) (u : Nat → List Value) (G : Nat → Nat → Prop), j ≤ n ∧ i = .int .i64 j ∧ Below w.heap.size w wr ∧ GRow StpP wr w.heap.size 86 3 s j (fun k => XS[k]?.getD sd0) u G) (fun _ i _ => n - (intOf i).toNat)
  case atStart => exact ⟨0, _, _, Nat.zero_le _, rfl, later1 _ _, GRow.lit0 w _ (Nat.le_refl _) _ _ _⟩
  case round =>
    obtain ⟨j, u, G, hj, rfl, hbl, hrow⟩ := hrel
    obtain ⟨aQ, cQ, rfl⟩ := hrow.shape
    have HBL : Hid (Below w.heap.size w wr) := hbl
    have HRX : Hid (GRow StpP wr w.heap.size 86 3 (.slice aQ j cQ) j (fun k => XS[k]?.getD sd0) u G) := hrow
    clear hrow
    by_cases hlt : j < n
    · have HGJ : Hid (XS[j]?.getD sd0 = (false, (ps[j]?.getD (0, [])).1, (ps[j]?.getD (0, [])).2)) := HG.out j hlt
      obtain ⟨b, o, ua, uc, rfl, k0, k1, k2⟩ := HA.out j hlt
      replace k0 := cell_later hbl k0
      replace k1 := cell_later hbl k1
      have HI : Hid (Ints wr.drew (.slice ua (ps[j]?.getD (0, [])).2.length uc) (ps[j]?.getD (0, [])).2) := k2.later hbl.drew
      have HLW : Hid ((ps[j]?.getD (0, [])).2.length ≤ 1048576) := HZ.out j
      clear hbl k2 HG HZ
      generalize (ps[j]?.getD (0, [])).1 = x at *
      generalize (ps[j]?.getD (0, [])).2 = ws at *
      have HCP : Hid (Calls Try.prog 57 #[.slice ua ws.length uc] wr.drew fun e w1 => ∃ av cv g cap X u' G', e = .returned (.slice av ws.length cv) ∧ Hid (Below wr.heap.size wr w1) ∧
          Hid ((Builtin.append_ #[46, 46] 46 #[.slice aQ j cQ, .slice (some ⟨w1.heap.size, 0, none⟩) 1 1]).run Try.prog (w1.alloc (.cells #[.bool false, .int .i64 x, .slice av ws.length cv] 86)) = .ok (.slice (some ⟨g, 0, none⟩) (j + 1) cap) X) ∧ Hid (Below w.heap.size wr X) ∧ Hid (GRow StpP X w.heap.size 86 3 (.slice (some ⟨g, 0, none⟩) (j + 1) cap) (j + 1) (fun k => XS[k]?.getD sd0) u' G')) := by
        refine (l1IntsC HI.out HLW.out).mono ?_
        rintro e w1 ⟨av, cv, rfl, hb1', ho1, _, _⟩
        have hb1 : Below wr.heap.size wr w1 := (Below.refl _ _).drew.trans hb1'
        obtain ⟨g, cap, X, u', G', hr, hbx, _, hgx, -⟩ := append_stpG wr w1 w.heap.size j _ _ u G HRX.out HBL.out.size (by omega) hb1 false x av _ cv ws HGJ.out _ (fun c hc => hc) rfl ho1 w1.heap.size rfl
        exact ⟨av, cv, g, cap, X, u', G', rfl, hb1, hr, hbx, hgx⟩
      clear HI HLW HGJ HRX
      generalize ws.length = lw at *
      go_wp2_with fail
      go_region_law (first
        | (refine step_append_run rfl _ _ 46 rfl _ _ rfl rfl _ _ HR.out ?_)
        | (try go_simp; go_at_call 57; refine HCP.out.mono ?_; rintro e w1 ⟨av, cv, g, cap, X, u', G', rfl, HB1, HR, HBX, HGX⟩
           have y0 := cell_later HB1.out k0))
      all_goals
        clear HCP HR
        go_wp2
        go_roundw
        case rel => exact ⟨j + 1, _, _, by omega, by go_num, HBL.out.trans HBX.out, HGX.out⟩
        case measure => simp [intOf]; omega
    · have e : j = n := by omega
      subst e
      clear HA HG hbl
      go_wp2
      go_ret
      exact ⟨_, _, _, _, rfl, HBL.out, HRX.out⟩
theorem l13Super_any (w : World) (q : Int) (h0 : 0 ≤ q) (h1 : q ≤ 60000) :
    Calls Try.prog 37 #[.int .i64 q] w fun e w' => ∃ a' c' u G, e = .returned (.slice a' 3 c') ∧ Below w.heap.size w w' ∧ GRow StpP w' w.heap.size 86 3 (.slice a' 3 c') 3 (fun i => (superS q)[i]?.getD sd0) u G := by
  go_enter Try.func37, Try.ntmps37
  go_wp2
  go_ret
  have hbw := later1 w (.cells #[.int .i64 7, .int .i64 (q + 1)] 2)
  have hbx := later1 (w.alloc (.cells #[.int .i64 7, .int .i64 (q + 1)] 2)) (.cells #[.bool true, .int .i64 0, .slice none 0 0, .bool false, .int .i64 0, .slice (some ⟨w.heap.size, 0, none⟩) 2 2, .bool true, .int .i64 0, .slice none 0 0] 86)
  have hr := OwnRow.newS w (.int .i64 7) (.int .i64 (q + 1)) 2
  have hI : IntsO (w.alloc (.cells #[.int .i64 7, .int .i64 (q + 1)] 2)) (.slice (some ⟨w.heap.size, 0, none⟩) 2 2) [7, q + 1] (fun c => c = w.heap.size) := Or.inr ⟨w.heap.size, 2, rfl, rfl, by unfold maxLen; simp, hr.congr fun i hi => by
    rcases (show i = 0 ∨ i = 1 by have hi' : i < 2 := hi; omega) with rfl | rfl <;> rfl⟩
  have hown := World.ownsRow_lit (base := w.heap.size) (e := 86) (size := 3) (w.alloc (.cells #[.int .i64 7, .int .i64 (q + 1)] 2)) #[.bool true, .int .i64 0, .slice none 0 0, .bool false, .int .i64 0, .slice (some ⟨w.heap.size, 0, none⟩) 2 2, .bool true, .int .i64 0, .slice none 0 0] 3 (by simp) (by unfold maxLen; omega) rfl
  rw [World.size_alloc] at hown
  refine ⟨_, _, fun i => if i = 1 then [.bool false, .int .i64 0, .slice (some ⟨w.heap.size, 0, none⟩) 2 2] else [.bool true, .int .i64 0, .slice none 0 0], fun i c => i = 1 ∧ c = w.heap.size, rfl, later2 _ _ _, ⟨hown, fun i hi => ?_, fun i c _ hc => ?_, fun i c _ hc => ?_, fun i j c _ _ e h1 h2 => ?_, fun i hi => ?_⟩⟩
  · split <;> rfl
  · rw [hc.2]; simp; omega
  · rw [hc.2]; simp [Value.ownBlock]
  · omega
  · rcases (show i = 0 ∨ i = 1 ∨ i = 2 by omega) with rfl | rfl | rfl
    · exact ⟨none, 0, rfl, Or.inl ⟨rfl, none, 0, rfl⟩⟩
    · exact ⟨some ⟨w.heap.size, 0, none⟩, 2, rfl, (hI.later hbx).mono fun c hc => ⟨rfl, hc⟩⟩
    · exact ⟨none, 0, rfl, Or.inl ⟨rfl, none, 0, rfl⟩⟩
end Go.Proofs.Ytpmndmkmfcoieaa

namespace Go.Proofs.Ytpmndmkmfcoieaa
open Go.RowKit
set_option maxRecDepth 100000

def AnsSR (w : World) (r : Int × List SD) (e : Ending) (w' : World) : Prop := ∃ a n c, e = .returned (.agg #[.int .i64 r.1, .slice a n c]) ∧ Below w.heap.size w w' ∧ StpsO w' (.slice a n c) r.2 (fresh w w')
theorem StpsO.store {w : World} {v : Value} {ds : List SD} {F : Nat → Prop} (h : StpsO w v ds F) {p : Addr} (hp : ∀ b, F b → b ≠ p.block) (x : Value) : StpsO (w.setCell p x) v ds F := h.keep fun b hb _ => Below.heap_setCell _ _ _ _ (hp b hb)
theorem AnsSR.putB {w W : World} {rb : Nat} {r : Int} {zs : List SD} {a : Option Addr} {n c : Nat} (hB : Below w.heap.size w W) (hrb : w.heap.size ≤ rb) (hY : StpsO W (.slice a n c) zs (fun b => rb < b ∧ b < W.heap.size)) (x y : Value) : AnsSR w (r, zs) (.returned (.agg #[.int .i64 r, .slice a n c])) ((W.setCell ⟨rb, 0, none⟩ x).setCell ⟨rb, 1, none⟩ y) := by
  refine ⟨a, n, c, rfl, (hB.setCell hrb _).setCell hrb _, ?_⟩
  refine ((hY.store (fun b hb => by have := hb.1; show b ≠ rb; omega) x).store (fun b hb => by have := hb.1; show b ≠ rb; omega) y).mono fun b hb => ⟨by omega, ?_⟩
  simpa [World.setCell] using hb.2
theorem AnsSR.badB {w W : World} {rb : Nat} (r : Int) (hB : Below w.heap.size w W) (hrb : w.heap.size ≤ rb) (x y : Value) : AnsSR w (r, []) (.returned (.agg #[.int .i64 r, .slice none 0 0])) ((W.setCell ⟨rb, 0, none⟩ x).setCell ⟨rb, 1, none⟩ y) := AnsSR.putB hB hrb (Or.inl ⟨rfl, _, _, rfl⟩) x y

set_option maxHeartbeats 3200000 in
theorem specPlanU (w : World) (a1 : Option Addr) (n1 c1 : Nat) (a2 : Option Addr) (n2 c2 : Nat) (d : DK) (h : DiskR w (.slice a1 n1 c1) (.slice a2 n2 c2) d) (hs : sizeDisk d ≤ 1048576) :
    Calls Try.prog 19 #[.agg #[.slice a1 n1 c1, .slice a2 n2 c2]] w (AnsSR w (planR d)) := by
  have HF : Hid (∀ W, Below w.heap.size w W → Calls Try.prog 34 #[.agg #[.slice a1 n1 c1, .slice a2 n2 c2]] W fun e w' => e = .returned (.agg #[.int .i64 (seqR d).1, .int .i64 (seqR d).2]) ∧ Below W.heap.size W w') := fun W hW => specSeqU W _ _ _ _ _ _ d (h.later hW) hs
  have HU : Hid ((seqR d).1 = 0 → ∀ W, Below w.heap.size w W → W.cell? ⟨w.heap.size, 0, none⟩ = some (.slice a1 n1 c1) → W.cell? ⟨w.heap.size, 1, none⟩ = some (.slice a2 n2 c2) → Calls Try.prog 35 #[.pointer (some ⟨w.heap.size, 0, none⟩), .int .i64 (seqR d).2] W fun e w' => ∃ a n c, e = .returned (.tuple #[.slice a n c, .bool (foundB (fun k => atF d.1 d.2 k) (seqR d).2)]) ∧ Below W.heap.size W w' ∧ PutsO w' (.slice a n c) (if foundB (fun k => atF d.1 d.2 k) (seqR d).2 = true then putsJ (fun k => atF d.1 d.2 k) else []) (fresh W w')) := fun h0 W hW x0 x1 => found_spec w _ _ _ _ _ _ d h hs h0 W _ _ hW x0 x1
  have HBAD : Hid (¬ (seqR d).1 = 0 → planR d = ((seqR d).1, [])) := planR_bad
  have HNO : Hid ((seqR d).1 = 0 → foundB (fun k => atF d.1 d.2 k) (seqR d).2 = false → planR d = (0, [])) := planR_no
  have HLA : Hid ((seqR d).1 = 0 → foundB (fun k => atF d.1 d.2 k) (seqR d).2 = true → (seqR d).2 = 60000 → planR d = (0, [])) := planR_last
  have HYES : Hid ((seqR d).1 = 0 → foundB (fun k => atF d.1 d.2 k) (seqR d).2 = true → ¬ (seqR d).2 = 60000 → planR d = (0, homeS (seqR d).2 (putsJ fun k => atF d.1 d.2 k))) := planR_yes
  have HIN : Hid ((seqR d).1 = 0 → 1 ≤ (seqR d).2 ∧ (seqR d).2 ≤ 60000) := seq_in
  have HTEN : Hid (foundB (fun k => atF d.1 d.2 k) (seqR d).2 = true → (putsJ fun k => atF d.1 d.2 k).length ≤ 10) := putsJ_ten
  have HSM : Hid (∀ i : Nat, ((putsJ fun k => atF d.1 d.2 k)[i]?.getD (0, [])).2.length ≤ 1048576) := putsJ_small hs
  clear h
  generalize (seqR d).1 = r at *
  generalize (seqR d).2 = q at *
  generalize foundB (fun k => atF d.1 d.2 k) q = FB at *
  generalize (putsJ fun k => atF d.1 d.2 k) = PJ at *
  generalize planR d = RES at *
  have HB0 : Hid (Below w.heap.size w ((w.alloc (.cells #[.slice a1 n1 c1, .slice a2 n2 c2] 30)).alloc (.cells #[.int .i64 0, .slice none 0 0] 48))) := later2 _ _ _
  have HX0 : Hid (Bx ((w.alloc (.cells #[.slice a1 n1 c1, .slice a2 n2 c2] 30)).alloc (.cells #[.int .i64 0, .slice none 0 0] 48)) (w.heap.size) [.slice a1 n1 c1, .slice a2 n2 c2]) := (Bx.new w [.slice a1 n1 c1, .slice a2 n2 c2] _).later (later1 _ _)
  have HR0 : Hid (OwnRow ((w.alloc (.cells #[.slice a1 n1 c1, .slice a2 n2 c2] 30)).alloc (.cells #[.int .i64 0, .slice none 0 0] 48)) (w.heap.size + 1) 2 (cel [.int .i64 0, .slice none 0 0])) := (show OwnRow ((w.alloc (.cells #[.slice a1 n1 c1, .slice a2 n2 c2] 30)).alloc (.cells #[.int .i64 0, .slice none 0 0] 48)) (w.heap.size + 1) 2 (cel [.int .i64 0, .slice none 0 0]) from by have := newCel (w.alloc (.cells #[.slice a1 n1 c1, .slice a2 n2 c2] 30)) [.int .i64 0, .slice none 0 0] 48; rw [World.size_alloc] at this; exact this)
  go_enter Try.func19, Try.ntmps19
  have xHX0 := HX0.out 0 _ rfl
  have xHX1 := HX0.out 1 _ rfl
  go_wp2_with fail
  clear xHX0 xHX1
  refine (HF.out _ HB0.out).mono ?_
  rintro e w1 ⟨rfl, hb⟩
  have hb' : Below ((w.alloc (.cells #[.slice a1 n1 c1, .slice a2 n2 c2] 30)).alloc (.cells #[.int .i64 0, .slice none 0 0] 48)).heap.size ((w.alloc (.cells #[.slice a1 n1 c1, .slice a2 n2 c2] 30)).alloc (.cells #[.int .i64 0, .slice none 0 0] 48)) (w1.alloc (.cells #[.int .i64 r, .int .i64 q] 64)) := hb.trans ((later1 _ _).mono hb.size)
  have HB1 : Hid (Below w.heap.size w (w1.alloc (.cells #[.int .i64 r, .int .i64 q] 64))) := HB0.out.trans (hb'.mono HB0.out.size)
  have HX1 : Hid (Bx (w1.alloc (.cells #[.int .i64 r, .int .i64 q] 64)) (w.heap.size) [.slice a1 n1 c1, .slice a2 n2 c2]) := HX0.out.later hb'
  have HR1 : Hid (OwnRow (w1.alloc (.cells #[.int .i64 r, .int .i64 q] 64)) (w.heap.size + 1) 2 (cel [.int .i64 0, .slice none 0 0])) := HR0.out.later hb'
  clear hb hb'
  have HQ1 : Hid (Bx (w1.alloc (.cells #[.int .i64 r, .int .i64 q] 64)) w1.heap.size [.int .i64 r, .int .i64 q]) := Bx.new w1 [.int .i64 r, .int .i64 q] _
  by_cases hf : r = 0
  · skip
    replace HU : Hid _ := HU.out hf
    replace HNO : Hid _ := HNO.out hf
    replace HYES : Hid _ := HYES.out hf
    replace HLA : Hid _ := HLA.out hf
    replace HIN : Hid _ := HIN.out hf
    clear HBAD HF
    subst hf
    obtain ⟨hq0, hq1⟩ := HIN.out
    have xHQ0 := HQ1.out 0 _ rfl
    have xHQ1 := HQ1.out 1 _ rfl
    go_wp2_with fail
    clear xHQ0 xHQ1
    refine (HU.out _ HB1.out (HX1.out 0 _ rfl) (HX1.out 1 _ rfl)).mono ?_
    rintro e w2 ⟨ap, np, cp, rfl, hb, ho⟩
    clear HU
    cases hk : FB with
    | false =>
      have HE : Hid (RES = (0, [])) := HNO.out hk
      subst hk
      clear HNO HYES HLA HTEN ho
      have HB2 : Hid (Below w.heap.size w w2) := HB1.out.trans (hb.mono HB1.out.size)
      have HX2 : Hid (Bx w2 (w.heap.size) [.slice a1 n1 c1, .slice a2 n2 c2]) := HX1.out.later hb
      have HR2 : Hid (OwnRow w2 (w.heap.size + 1) 2 (cel [.int .i64 0, .slice none 0 0])) := HR1.out.later hb
      have HQ2 : Hid (Bx w2 w1.heap.size [.int .i64 0, .int .i64 q]) := HQ1.out.later hb
      clear hb
      have hrr := HR2.out
      have t0 : w2.cell? ⟨w.heap.size + 1, 0, none⟩ = some (.int .i64 0) := hrr.cell (i := 0) (by omega)
      have t1 : w2.cell? ⟨w.heap.size + 1, 1, none⟩ = some (.slice none 0 0) := hrr.cell (i := 1) (by omega)
      have f0 := hrr.frozen 0
      have f1 := hrr.frozen 1
      have hlr := hrr.lt
      clear hrr
      go_wp2
      exact bodyPost_ret (v := .agg #[.int .i64 0, .slice none 0 0]) (by simp [results, Try.results19, go_sem, t0, t1]) rfl (by rw [HE.out]; exact AnsSR.badB 0 HB2.out (by omega) _ _)
    | true =>
      subst hk
      replace ho : PutsO w2 (.slice ap np cp) PJ _ := ho
      obtain ⟨_, _, ep, _⟩ := ho.puts.open'
      simp only [Value.slice.injEq] at ep
      obtain ⟨rfl, rfl, rfl⟩ := ep
      have HP : Hid (Puts w2 (.slice ap PJ.length cp) PJ) := ho.puts
      have h10 := HTEN.out rfl
      clear HNO HTEN ho
      have HB2 : Hid (Below w.heap.size w w2) := HB1.out.trans (hb.mono HB1.out.size)
      have HX2 : Hid (Bx w2 (w.heap.size) [.slice a1 n1 c1, .slice a2 n2 c2]) := HX1.out.later hb
      have HR2 : Hid (OwnRow w2 (w.heap.size + 1) 2 (cel [.int .i64 0, .slice none 0 0])) := HR1.out.later hb
      have HQ2 : Hid (Bx w2 w1.heap.size [.int .i64 0, .int .i64 q]) := HQ1.out.later hb
      clear hb
      by_cases hq : q = 60000
      · skip
        have HE : Hid (RES = (0, [])) := HLA.out rfl hq
        subst hq
        clear HLA HYES HP
        have xHQ0 := HQ2.out 0 _ rfl
        have xHQ1 := HQ2.out 1 _ rfl
        have hrr := HR2.out
        have t0 : w2.cell? ⟨w.heap.size + 1, 0, none⟩ = some (.int .i64 0) := hrr.cell (i := 0) (by omega)
        have t1 : w2.cell? ⟨w.heap.size + 1, 1, none⟩ = some (.slice none 0 0) := hrr.cell (i := 1) (by omega)
        have f0 := hrr.frozen 0
        have f1 := hrr.frozen 1
        have hlr := hrr.lt
        clear hrr
        go_wp2
        exact bodyPost_ret (v := .agg #[.int .i64 0, .slice none 0 0]) (by simp [results, Try.results19, go_sem, t0, t1]) rfl (by rw [HE.out]; exact AnsSR.badB 0 HB2.out (by omega) _ _)
      · skip
        have HE : Hid (RES = (0, homeS q PJ)) := HYES.out rfl hq
        have hq2 : q ≤ 59999 := by omega
        have hqb : decide (60000 ≤ q) = false := by simp; omega
        clear HLA HYES
        have xHQ0 := HQ2.out 0 _ rfl
        have xHQ1 := HQ2.out 1 _ rfl
        go_wp2_with fail
        have HLP : Hid (Calls Try.prog 36 #[.slice ap PJ.length cp] w2.drew _) := l13Puts_any w2.drew ap cp PJ (HP.out.later (Below.refl _ _).drew) (by omega) HSM.out
        have HLS : Hid (∀ W, Calls Try.prog 37 #[.int .i64 q] W _) := fun W => l13Super_any W q (by omega) (by omega)
        have HHS : Hid (homeS q PJ = putsS PJ ++ superS q) := rfl
        have HPL : Hid ((putsS PJ).length = PJ.length) := putsS_len PJ
        have HSL : Hid ((superS q).length = 3) := rfl
        have hlr := HR2.out.lt
        clear HP HSM
        generalize homeS q PJ = HS at *
        generalize putsS PJ = PS at *
        generalize superS q = SS at *
        generalize PJ.length = n at *
        go_region_law (first
          | (refine step_append_run rfl _ _ 46 rfl _ _ rfl rfl _ _ HR.out ?_)
          | (try go_simp; first
              | (go_at_call 36; refine HLP.out.mono ?_; rintro e w3 ⟨av, cv, u1, G1, rfl, hb3, hg1⟩
                 have HB3' : Hid (Below w2.heap.size w2 w3) := (Below.refl _ _).drew.trans hb3
                 have d1 := cell_later HB3'.out xHQ1
                 have HG1 : Hid (GRow StpP w3 w2.heap.size 86 3 (.slice av n cv) n (fun i => PS[i]?.getD sd0) u1 G1) := hg1
                 clear hb3 hg1)
              | (go_at_call 37; refine (HLS.out _).mono ?_; rintro e w4 ⟨bv, dv, u2, G2, rfl, hb4, hg2⟩
                 have HB4' : Hid (Below w2.heap.size w2 w4) := HB3'.out.trans (hb4.mono HB3'.out.size)
                 obtain ⟨g, cap, X, u', G', hr, hbx, hgx, -, -⟩ := append_stpsG w4 w2.heap.size n 3 (.slice av n cv) (.slice bv 3 dv) _ _ u1 u2 G1 G2 (HG1.out.later StpP.steady hb4) (hg2.low HB3'.out.size) HB4'.out.size (by decide) (by omega) (fun j c hj hc e => by have := (hg2.lo j c hj hc).1; have := (HG1.out.own.lt c e).2; omega) (fun i j c hi hj h1 h2 => by have := (hg2.lo j c hj h2).1; have := (HG1.out.lo i c hi h1).2; omega)
                 have HR : Hid (_ = _) := hr
                 have HBX : Hid (Below w2.heap.size w2 X) := HB4'.out.trans (hbx w2.heap.size HB4'.out.size fun g hg => (HG1.out.own.lt g hg).1)
                 have HGX : Hid (GRow StpP X w2.heap.size 86 3 (.slice (some ⟨g, 0, none⟩) (n + 3) cap) (n + 3) (fun i => if i < n then PS[i]?.getD sd0 else SS[i - n]?.getD sd0) u' G') := hgx
                 have hrr := HR2.out.later HBX.out
                 have t0 : X.cell? ⟨w.heap.size + 1, 0, none⟩ = some (.int .i64 0) := hrr.cell (i := 0) (by omega)
                 have t1 : X.cell? ⟨w.heap.size + 1, 1, none⟩ = some (.slice none 0 0) := hrr.cell (i := 1) (by omega)
                 have f0 := hrr.frozen 0
                 have f1 := hrr.frozen 1
                 have hlx := hrr.lt
                 clear hr hbx hgx hb4 hg2 hrr)))
        all_goals
          have HY : Hid (StpsO X (.slice (some ⟨g, 0, none⟩) (n + 3) cap) HS (fun b => w.heap.size + 1 < b ∧ b < X.heap.size)) := by
            rw [HHS.out]
            exact (HGX.out.congr (x' := fun i => (PS ++ SS)[i]?.getD sd0) fun i _ => by rw [two_getD, HPL.out]).stps (by rw [List.length_append, HPL.out, HSL.out]) _ fun c h1 h2 => ⟨by omega, h2⟩
          have HBW : Hid (Below w.heap.size w X) := HB2.out.trans (HBX.out.mono HB2.out.size)
          clear HLP HLS HR HGX HG1 HB3' HB4' d1
          go_wp2
          exact bodyPost_ret (v := .agg #[.int .i64 0, .slice (some ⟨g, 0, none⟩) (n + 3) cap]) (by simp [results, Try.results19, go_sem, t0, t1]) rfl (by rw [HE.out]; exact AnsSR.putB HBW.out (by omega) HY.out _ _)
  · skip
    have hfb : (r != 0) = true := by simpa using hf
    have HE : Hid (RES = (r, [])) := HBAD.out hf
    clear HBAD HNO HYES HU HF HLA HIN hf
    have xHQ0 := HQ1.out 0 _ rfl
    have xHQ1 := HQ1.out 1 _ rfl
    have hrr := HR1.out
    have t0 : (w1.alloc (.cells #[.int .i64 r, .int .i64 q] 64)).cell? ⟨w.heap.size + 1, 0, none⟩ = some (.int .i64 0) := hrr.cell (i := 0) (by omega)
    have t1 : (w1.alloc (.cells #[.int .i64 r, .int .i64 q] 64)).cell? ⟨w.heap.size + 1, 1, none⟩ = some (.slice none 0 0) := hrr.cell (i := 1) (by omega)
    have f0 := hrr.frozen 0
    have f1 := hrr.frozen 1
    have hlr := hrr.lt
    clear hrr
    go_wp2
    exact bodyPost_ret (v := .agg #[.int .i64 r, .slice none 0 0]) (by simp [results, Try.results19, go_sem, t0, t1]) rfl (by rw [HE.out]; exact AnsSR.badB r HB1.out (by omega) _ _)

end Go.Proofs.Ytpmndmkmfcoieaa

namespace Go.Proofs.Ytpmndmkmfcoieaa
open Go.RowKit
set_option maxRecDepth 100000

theorem superW_any (w : World) (s : Int) : Calls Try.prog 71 #[.int .i64 s] w fun e w' => e = .returned (.slice (some ⟨w.heap.size, 0, none⟩) 2 2) ∧ Below w.heap.size w w' ∧ IntsO w' (.slice (some ⟨w.heap.size, 0, none⟩) 2 2) [7, s] (fun c => c = w.heap.size) ∧ w'.heap.size = w.heap.size + 1 := by
  go_enter Try.func71, Try.ntmps71
  go_wp2
  go_ret
  have hr := OwnRow.newS w (.int .i64 7) (.int .i64 s) 2
  refine ⟨rfl, later1 _ _, Or.inr ⟨w.heap.size, 2, rfl, rfl, by unfold maxLen; simp, hr.congr fun i hi => ?_⟩, by simp⟩
  rcases (show i = 0 ∨ i = 1 by have hi' : i < 2 := hi; omega) with rfl | rfl <;> rfl

set_option maxHeartbeats 3200000 in
theorem putStep_any (w : World) (k : Int) (x : Int) (a : Option Addr) (n c : Nat) (ws : List Int) (h : Ints w (.slice a n c) ws) (hz : ws.length ≤ 1048576) :
    Calls Try.prog 74 #[.int .i64 k, .agg #[.int .i64 x, .slice a n c]] w fun e w' => ∃ a' c', e = .returned (.agg #[.bool false, .int .i64 x, .slice a' n c']) ∧ Below w.heap.size w w' ∧ IntsO w' (.slice a' n c') ws (fresh w w') := by
  obtain ⟨_, _, e1, _⟩ := h.open'
  simp only [Value.slice.injEq] at e1
  obtain ⟨rfl, rfl, rfl⟩ := e1
  have HCP : Hid (∀ W, Below w.heap.size w W → Calls Try.prog 91 #[.slice a ws.length c] W fun e w' => ∃ a' c', e = .returned (.slice a' ws.length c') ∧ Below W.heap.size W w' ∧ IntsO w' (.slice a' ws.length c') ws (fresh W w')) := fun W hW => (copyOf_any (h.later hW) hz).mono fun e w' hh => ⟨_, _, hh⟩
  clear h
  generalize ws.length = n at *
  have HB0 : Hid (Below w.heap.size w ((w.alloc (.cells #[.int .i64 x, .slice a n c] 72)).alloc (.cells #[.bool false, .int .i64 0, .slice none 0 0] 86))) := later2 _ _ _
  have HX0 : Hid (Bx ((w.alloc (.cells #[.int .i64 x, .slice a n c] 72)).alloc (.cells #[.bool false, .int .i64 0, .slice none 0 0] 86)) (w.heap.size) [.int .i64 x, .slice a n c]) := (Bx.new w [.int .i64 x, .slice a n c] _).later (later1 _ _)
  have HR0 : Hid (OwnRow ((w.alloc (.cells #[.int .i64 x, .slice a n c] 72)).alloc (.cells #[.bool false, .int .i64 0, .slice none 0 0] 86)) (w.heap.size + 1) 3 (cel [.bool false, .int .i64 0, .slice none 0 0])) := (show OwnRow ((w.alloc (.cells #[.int .i64 x, .slice a n c] 72)).alloc (.cells #[.bool false, .int .i64 0, .slice none 0 0] 86)) (w.heap.size + 1) 3 (cel [.bool false, .int .i64 0, .slice none 0 0]) from by have := newCel (w.alloc (.cells #[.int .i64 x, .slice a n c] 72)) [.bool false, .int .i64 0, .slice none 0 0] 86; rw [World.size_alloc] at this; exact this)
  go_enter Try.func74, Try.ntmps74
  have xHX0 := HX0.out 0 _ rfl
  have xHX1 := HX0.out 1 _ rfl
  go_wp2_with fail
  generalize ((w.alloc (.cells #[.int .i64 x, .slice a n c] 72)).alloc (.cells #[.bool false, .int .i64 0, .slice none 0 0] 86)) = W at *
  go_region_with (go_at_call 91; refine (HCP.out _ HB0.out.drew).mono ?_; rintro e w1 ⟨a', c', rfl, hb, ho⟩
                  have HT1 : Hid (Below W.heap.size W w1) := (Below.refl _ _).drew.trans hb
                  have HI : Hid (IntsO w1 (.slice a' n c') ws (fun b => W.heap.size ≤ b ∧ b < w1.heap.size)) := ho
                  have y0 := cell_later HT1.out xHX0
                  have hrr := HR0.out.later HT1.out
                  have hlt := HR0.out.lt
                  have t0 : w1.cell? ⟨w.heap.size + 1, 0, none⟩ = some (.bool false) := hrr.cell (i := 0) (by omega)
                  have t1 : w1.cell? ⟨w.heap.size + 1, 1, none⟩ = some (.int .i64 0) := hrr.cell (i := 1) (by omega)
                  have t2 : w1.cell? ⟨w.heap.size + 1, 2, none⟩ = some (.slice none 0 0) := hrr.cell (i := 2) (by omega)
                  have f0 := hrr.frozen 0
                  have f1 := hrr.frozen 1
                  have f2 := hrr.frozen 2
                  clear hb ho hrr)
  all_goals
    have HB1 : Hid (Below w.heap.size w w1) := HB0.out.trans (HT1.out.mono HB0.out.size)
    have hs1 := HT1.out.size
    go_wp2
    exact bodyPost_ret (v := .agg #[.bool false, .int .i64 x, .slice a' n c']) (by simp [results, Try.results74, go_sem, t0, t1, t2]) rfl ⟨a', c', rfl, ((HB1.out.setCell (by simp) _).setCell (by simp) _).setCell (by simp) _, (((HI.out.store (fun b hb => by have := hb.1; show b ≠ w.heap.size + 1; omega) _).store (fun b hb => by have := hb.1; show b ≠ w.heap.size + 1; omega) _).store (fun b hb => by have := hb.1; show b ≠ w.heap.size + 1; omega) _).mono fun b hb => ⟨by have := hb.1; have := HB0.out.size; omega, by simpa [World.setCell] using hb.2⟩⟩

set_option maxHeartbeats 3200000 in
theorem rowsFrom_any (w : World) (x : Int) : Calls Try.prog 76 #[.int .i64 x] w fun e w' => e = .returned (.func (.func 95) #[] #[.pointer (some ⟨w.heap.size, 0, none⟩)]) ∧ w' = w.alloc (.cells #[.int .i64 x] 2) := by
  go_enter Try.func76, Try.ntmps76
  go_wp2
  go_ret
  exact ⟨rfl, rfl⟩

theorem rowsIn_any (w : World) (b : Nat) (x k : Int) (a : Option Addr) (n c : Nat) (h0 : w.cell? ⟨b, 0, none⟩ = some (.int .i64 x)) (hx : 0 ≤ x ∧ x ≤ 1000) (hk : 0 ≤ k ∧ k ≤ 1000) : Calls Try.prog 95 #[.int .i64 k, .slice a n c, .pointer (some ⟨b, 0, none⟩)] w fun e w' => e = .returned (.agg #[.bool false, .int .i64 (x + k), .slice a n c]) ∧ Below w.heap.size w w' := by
  have hb0 := lt_of_cell h0
  obtain ⟨hx0, hx1⟩ := hx
  obtain ⟨hk0, hk1⟩ := hk
  have HB0 : Hid (Below w.heap.size w (w.alloc (.cells #[.bool false, .int .i64 0, .slice none 0 0] 86))) := later1 _ _
  have HR0 : Hid (OwnRow (w.alloc (.cells #[.bool false, .int .i64 0, .slice none 0 0] 86)) (w.heap.size) 3 (cel [.bool false, .int .i64 0, .slice none 0 0])) := newCel w [.bool false, .int .i64 0, .slice none 0 0] _
  have y0 : (w.alloc (.cells #[.bool false, .int .i64 0, .slice none 0 0] 86)).cell? ⟨b, 0, none⟩ = some (.int .i64 x) := cell_later (later1 _ _) h0
  go_enter Try.func95, Try.ntmps95
  have hrr := HR0.out
  have t0 : (w.alloc (.cells #[.bool false, .int .i64 0, .slice none 0 0] 86)).cell? ⟨w.heap.size, 0, none⟩ = some (.bool false) := hrr.cell (i := 0) (by omega)
  have t1 : (w.alloc (.cells #[.bool false, .int .i64 0, .slice none 0 0] 86)).cell? ⟨w.heap.size, 1, none⟩ = some (.int .i64 0) := hrr.cell (i := 1) (by omega)
  have t2 : (w.alloc (.cells #[.bool false, .int .i64 0, .slice none 0 0] 86)).cell? ⟨w.heap.size, 2, none⟩ = some (.slice none 0 0) := hrr.cell (i := 2) (by omega)
  have f0 := hrr.frozen 0
  have f1 := hrr.frozen 1
  have f2 := hrr.frozen 2
  have hlr := hrr.lt
  clear hrr
  go_wp2
  exact bodyPost_ret (v := .agg #[.bool false, .int .i64 (x + k), .slice a n c]) (by simp [results, Try.results95, go_sem]) rfl ⟨rfl, later1 _ _⟩



end Go.Proofs.Ytpmndmkmfcoieaa

namespace Go.Proofs.Ytpmndmkmfcoieaa
open Go.RowKit
set_option maxRecDepth 100000

def endS : List SD := [(true, 0, [])]
set_option maxHeartbeats 3200000 in
theorem phaseP_any (w : World) (a : Option Addr) (c : Nat) (ps : List (Int × List Int)) (h : Puts w (.slice a ps.length c) ps) (hn : ps.length ≤ 1000) (hz : ∀ i : Nat, (ps[i]?.getD (0, [])).2.length ≤ 1048576) :
    Calls Try.prog 73 #[.slice a ps.length c, .func (.func 74) #[] #[]] w fun e w' => ∃ a' c' u G, e = .returned (.slice a' (ps.length + 1) c') ∧ Below w.heap.size w w' ∧ GRow StpP w' w.heap.size 86 3 (.slice a' (ps.length + 1) c') (ps.length + 1) (fun i => (putsS ps ++ endS)[i]?.getD sd0) u G := by
  obtain ⟨_, _, e1, _, hA⟩ := h.open'
  simp only [Value.slice.injEq] at e1
  obtain ⟨rfl, -, rfl⟩ := e1
  have HA : Hid (AtP w a ps.length ps) := hA
  have HG : Hid (∀ i, i < ps.length → (putsS ps ++ endS)[i]?.getD sd0 = (false, (ps[i]?.getD (0, [])).1, (ps[i]?.getD (0, [])).2)) := fun i hi => by rw [two_getD, if_pos (by rw [putsS_len]; exact hi), putsS_get ps hi]
  have HE : Hid ((putsS ps ++ endS)[ps.length]?.getD sd0 = (true, 0, [])) := by unfold Hid; rw [two_getD, putsS_len, if_neg (by omega), Nat.sub_self]; rfl
  have HZ : Hid (∀ i : Nat, (ps[i]?.getD (0, [])).2.length ≤ 1048576) := hz
  clear h hA hz
  generalize putsS ps ++ endS = XS at *
  generalize ps.length = n at *
  go_enter Try.func73, Try.ntmps73
  go_wp2
  go_loopw [5, 10] (fun s i wr => ∃ (j : Nat) (u : Nat → List Value) (G : Nat → Nat → Prop), j ≤ n ∧ i = .int .i64 j ∧ Below w.heap.size w wr ∧ GRow StpP wr w.heap.size 86 3 s j (fun k => XS[k]?.getD sd0) u G) (fun _ i _ => n - (intOf i).toNat)
  case atStart => exact ⟨0, _, _, Nat.zero_le _, rfl, Below.refl _ _, GRow.nil w _ _ _ _⟩
  case round =>
    obtain ⟨j, u, G, hj, rfl, hbl, hrow⟩ := hrel
    obtain ⟨aQ, cQ, rfl⟩ := hrow.shape
    have HBL : Hid (Below w.heap.size w wr) := hbl
    have HRX : Hid (GRow StpP wr w.heap.size 86 3 (.slice aQ j cQ) j (fun k => XS[k]?.getD sd0) u G) := hrow
    clear hrow
    by_cases hlt : j < n
    · have HGJ : Hid (XS[j]?.getD sd0 = (false, (ps[j]?.getD (0, [])).1, (ps[j]?.getD (0, [])).2)) := HG.out j hlt
      obtain ⟨b, o, ua, uc, rfl, k0, k1, k2⟩ := HA.out j hlt
      replace k0 := cell_later hbl k0
      replace k1 := cell_later hbl k1
      have hbz := lt_of_cell k0
      have HCP : Hid (∀ W, Below wr.heap.size wr W → Calls Try.prog 74 #[.int .i64 (j : Int), .agg #[.int .i64 (ps[j]?.getD (0, [])).1, .slice ua (ps[j]?.getD (0, [])).2.length uc]] W _) := fun W hW => putStep_any W (j : Int) _ _ _ uc _ (k2.later (hbl.trans (hW.mono hbl.size))) (HZ.out j)
      clear hbl k2 HG HZ HE
      generalize (ps[j]?.getD (0, [])).1 = x at *
      generalize (ps[j]?.getD (0, [])).2 = ws at *
      generalize ws.length = lw at *
      go_wp2_with fail
      refine (HCP.out _ (later1 _ _)).mono ?_
      rintro e w1 ⟨av, cv, rfl, hb1, ho⟩
      have hb1' : Below wr.heap.size wr w1 := (later1 _ _).trans (hb1.mono (by simp))
      obtain ⟨_, _, ev, _⟩ := ho.reads.shape
      simp only [Value.slice.injEq] at ev
      obtain ⟨-, hm, -⟩ := ev
      obtain ⟨g, cap, X, u', G', hr, hbx, _, hgx, -⟩ := append_stpG wr w1 w.heap.size j _ _ u G HRX.out HBL.out.size (by omega) hb1' false x av lw cv ws HGJ.out _ (fun c hc => ⟨by have := hc.1; simp at this; omega, hc.2⟩) hm ho w1.heap.size rfl
      have HR : Hid (_ = _) := hr
      have HBX : Hid (Below w.heap.size w X) := (HBL.out.trans hbx)
      have HGX : Hid (GRow StpP X w.heap.size 86 3 _ (j + 1) (fun k => XS[k]?.getD sd0) u' G') := hgx
      clear hr hbx hgx hb1 hb1' ho HRX HGJ HCP hm k0 k1
      go_wp2_with (at_builtin; refine wpList_append_run rfl _ _ 46 rfl _ _ rfl rfl _ _ HR.out ?_)
      go_roundw
      case rel => exact ⟨j + 1, _, _, by omega, by go_num, HBX.out, HGX.out⟩
      case measure => simp [intOf]; omega
    · have e : j = n := by omega
      subst e
      have HEJ : Hid (XS[j]?.getD sd0 = (true, 0, [])) := HE.out
      obtain ⟨g, cap, X, u', G', hr, hbx, _, hgx, -⟩ := append_stpG wr wr w.heap.size j _ _ u G HRX.out HBL.out.size (by omega) (Below.refl _ _) true 0 none 0 0 [] HEJ.out (fun _ => False) (fun c hc => hc.elim) rfl (Or.inl ⟨rfl, none, 0, rfl⟩) wr.heap.size rfl
      have HR : Hid (_ = _) := hr
      have HBX : Hid (Below w.heap.size w X) := (HBL.out.trans hbx)
      have HGX : Hid (GRow StpP X w.heap.size 86 3 _ (j + 1) (fun k => XS[k]?.getD sd0) u' G') := hgx
      clear hr hbx hgx HA HG HE HRX HEJ hbl
      go_wp2_with (at_builtin; refine wpList_append_run rfl _ _ 46 rfl _ _ rfl rfl _ _ HR.out ?_)
      go_ret
      exact ⟨_, _, _, _, rfl, HBX.out, HGX.out⟩
section
variable {P : Program} {w : World}
theorem wpList_appendM_run {ops : Array Oper} {rest : List Oper} {o : Oper} {a : Act} {Q : Exit → Act → World → Prop} (hgd : o.guard = none) (s x : Operand) (t t' : TypeId)
    (ho : o.op = .call { callee := .builtin .append, args := #[s, x], argTypes := #[t, t'] }) (v y : Value) (hs : a.eval s = v) (hx : a.eval x = y) (v' : Value) (w' : World)
    (hr : (Builtin.append_ #[t, t'] o.type #[v, y]).run P w = .ok v' w') (h : wpList P ops Q rest (a.put o.dst v') w') : wpList P ops Q (o :: rest) a w := by
  refine wpList_plain hgd fun K hK => ?_
  unfold Oper.wp execOp
  simp only [ho, resolve, invoke, builtin, Sem.run_bind, Sem.run_pure, Result.andThen_ok, List.map_toArray, List.map_cons, List.map_nil, hs, hx, hr]
  exact hK _ _ h
end
theorem append_makeS (w : World) (m : Nat) (hm : 0 < m) (hs : m ≤ 1000) :
    ∃ cap X, (Builtin.append_ #[46, 3] 46 #[.slice none 0 0, .int .i64 (m : Int)]).run Try.prog w = .ok (.slice (some ⟨w.heap.size, 0, none⟩) m cap) X ∧
      Below w.heap.size w X ∧ X.ownsRow w.heap.size 86 3 (.slice (some ⟨w.heap.size, 0, none⟩) 0 cap) 0 [] := by
  obtain ⟨i, hi, hz, hsz, hby⟩ := Try.infoStp'
  have hcap := grownCap_ge w m 0 86
  have hcm := grownCap_le_maxLen w m 0 86 (by unfold maxLen; omega)
  have h63 : ¬ (9223372036854775807 < ((m : Nat) : Int)) := by omega
  have h48 : ¬ (281474976710656 < Builtin.nextslicecap m 0 * i.bytes) := by
    have := growslice_fits (need := m) (old := 0) (bytes := i.bytes) (by omega) (by rw [hby]; omega)
    omega
  rw [hby] at h48
  have hpos : ¬ m = 0 := by omega
  have hpos3 : ¬ m * 3 = 0 := by omega
  have hw : IntKind.i64.wrap (m : Int) = m := by rw [IntKind.wrap_i64]; omega
  have hneg : ¬ ((m : Int) < 0) := by omega
  have hmb : ¬ (281474976710656 < (m : Int) * 40) := by omega
  have hfo := run_firstCells_none (P := Try.prog) (w := w.drew) 3 0 0 0
  refine ⟨grownCap w m 0 86, w.drew.alloc (.cells (Builtin.zeroCells (Value.agg #[.bool false, .int .i64 0, .slice none 0 0]).cells m ++ Builtin.zeroCells (Value.agg #[.bool false, .int .i64 0, .slice none 0 0]).cells (grownCap w m 0 86 - m)) 86), ?_, ?_, ?_⟩
  · simp [Builtin.append_, run_underlying Try.underlying46, run_underlying Try.underlying3, sizeOf, typeInfo, zeroValue, hi, hz, hsz, hby, asInt, asIntOf, hw, hneg, hmb, hpos, hpos3, h63, h48, Question.forced, hfo, newRow, grownCap]
    try rfl
  · exact (Below.refl _ _).drew.trans (by simpa using later1 w.drew _)
  · refine ⟨rfl, .inr ⟨w.heap.size, _, _, rfl, Nat.le_refl _, by simpa using Go.Deep.blk_alloc_new w.drew _, Nat.zero_le _, hcm, ?_, rfl⟩⟩
    rw [Array.size_append, size_zeroCells, size_zeroCells]
    have e : (Value.agg #[.bool false, .int .i64 0, .slice none 0 0]).cells.size = 3 := rfl
    rw [e]
    omega
theorem slice_cap0 (W : World) (b m cap : Nat) : (Instr.slice 46 (.slice (some ⟨b, 0, none⟩) m cap) none (some (.int .i64 0)) none).run Try.prog W = .ok (.slice (some ⟨b, 0, none⟩) 0 cap) W := by
  obtain ⟨i, hi, _⟩ := Try.infoStp'
  simp [Instr.slice, Instr.sliceBounds, Instr.sliceBound, asIntOf, run_underlying Try.underlying46, sizeOf, typeInfo, hi]
  exact fun _ => by simp [Addr.add]
set_option maxHeartbeats 1600000 in
theorem growS_any (w : World) (m : Nat) (hm : 0 < m) (hs : m ≤ 1000) :
    Calls Try.prog 94 #[.slice none 0 0, .int .i64 (m : Int)] w fun e w' => ∃ cap, e = .returned (.slice (some ⟨w.heap.size, 0, none⟩) 0 cap) ∧ Below w.heap.size w w' ∧ w'.ownsRow w.heap.size 86 3 (.slice (some ⟨w.heap.size, 0, none⟩) 0 cap) 0 [] := by
  obtain ⟨cap, X, hr, hb, ho⟩ := append_makeS w m hm hs
  have HR : Hid (_ = _) := hr
  have HB : Hid (Below w.heap.size w X) := hb
  have HO : Hid (X.ownsRow w.heap.size 86 3 (.slice (some ⟨w.heap.size, 0, none⟩) 0 cap) 0 []) := ho
  have hsl := slice_cap0 X w.heap.size m cap
  clear hr hb ho
  go_enter Try.func94, Try.ntmps94
  go_wp2_with (at_builtin; refine wpList_appendM_run rfl _ _ 46 3 rfl _ _ rfl rfl _ _ HR.out ?_)
  go_ret
  exact ⟨_, rfl, HB.out, HO.out⟩
set_option maxHeartbeats 3200000 in
/-- Two rows of steps, one behind the other. -/
theorem concatS_any (w : World) (bb base n1 n2 : Nat) (v1 v2 : Value) (x1 x2 : Nat → SD) (u1 u2 : Nat → List Value) (G1 G2 : Nat → Nat → Prop) (h1 : GRow StpP w base 86 3 v1 n1 x1 u1 G1) (h2 : GRow StpP w base 86 3 v2 n2 x2 u2 G2) (hb : base ≤ w.heap.size) (hn1 : 0 < n1) (hn2 : 0 < n2) (hn : n1 + n2 ≤ 100) (hd : ∀ i j c, i < n1 → j < n2 → G1 i c → ¬ G2 j c) (c0 : w.cell? ⟨bb, 0, none⟩ = some v1) (c1 : w.cell? ⟨bb, 1, none⟩ = some v2) :
    Calls Try.prog 72 #[.slice (some ⟨bb, 0, none⟩) 2 2] w fun e w' => ∃ a c u G, e = .returned (.slice a (n1 + n2) c) ∧ Below w.heap.size w w' ∧ GRow StpP w' base 86 3 (.slice a (n1 + n2) c) (n1 + n2) (fun i => if i < n1 then x1 i else x2 (i - n1)) u G := by
  obtain ⟨b1, cp1, rfl, _, _, hm1, _⟩ := h1.cells (by decide) hn1
  obtain ⟨b2, cp2, rfl, _, _, hm2, _⟩ := h2.cells (by decide) hn2
  have H1 : Hid (GRow StpP w base 86 3 (.slice (some ⟨b1, 0, none⟩) n1 cp1) n1 x1 u1 G1) := h1
  have H2 : Hid (GRow StpP w base 86 3 (.slice (some ⟨b2, 0, none⟩) n2 cp2) n2 x2 u2 G2) := h2
  have HGR : Hid (Calls Try.prog 94 #[.slice none 0 0, .int .i64 ((n1 + n2 : Nat) : Int)] w _) := growS_any w (n1 + n2) (by omega) (by omega)
  have HD : Hid (∀ i j c, i < n1 → j < n2 → G1 i c → ¬ G2 j c) := hd
  clear h1 h2 hd
  unfold maxLen at hm1 hm2
  have hbb := lt_of_cell c0
  go_enter Try.func72, Try.ntmps72
  go_wp2
  go_loopw [3, 11] (fun s i wr => wr = w ∧ ((i = .int .i64 0 ∧ s = .int .i64 0) ∨ (i = .int .i64 1 ∧ s = .int .i64 (n1 : Int)) ∨ (i = .int .i64 2 ∧ s = .int .i64 ((n1 + n2 : Nat) : Int)))) (fun _ i _ => 2 - (intOf i).toNat)
  case atStart => exact ⟨rfl, Or.inl ⟨rfl, rfl⟩⟩
  case round =>
    obtain ⟨hw, hc⟩ := hrel
    subst wr
    rcases hc with ⟨rfl, rfl⟩ | ⟨rfl, rfl⟩ | ⟨rfl, rfl⟩
    · go_wp2
      go_roundw
      case rel => exact ⟨trivial, Or.inr (Or.inl ⟨rfl, by go_num⟩)⟩
      case measure => simp [intOf]
    · go_wp2
      go_roundw
      case rel => exact ⟨trivial, Or.inr (Or.inr ⟨rfl, by go_num⟩)⟩
      case measure => simp [intOf]
    · go_wp2_with fail
      refine HGR.out.mono ?_
      rintro e w3 ⟨cap0, rfl, hb3, ho3⟩
      have hs3 := hb3.size
      have hg0 : GRow StpP w3 base 86 3 (.slice (some ⟨w.heap.size, 0, none⟩) 0 cap0) 0 x1 (fun _ => []) (fun _ _ => False) := ⟨ownsRow_le ho3 hb, fun i hi => by omega, fun i _ hi => by omega, fun i _ hi => by omega, fun i _ _ hi => by omega, fun i hi => by omega⟩
      have hlt3 := (ho3.lt w.heap.size rfl).2
      have ho0 : ∀ b, b < w.heap.size → (Value.slice (some ⟨w.heap.size, 0, none⟩) 0 cap0).ownBlock ≠ some b := fun b hb' e => by simp [Value.ownBlock] at e; omega
      obtain ⟨g1, cap1, X1, u1', G1', r1, r2, r3, r4, r5⟩ := append_stpsG w3 base 0 n1 _ _ x1 x1 (fun _ => []) u1 (fun _ _ => False) G1 hg0 (H1.out.later StpP.steady hb3) (by omega) hn1 (by omega) (fun j c hj hc => ho0 c (H1.out.lo j c hj hc).2) (fun i j c hi => by omega)
      rw [Nat.zero_add] at r1 r3 r5
      have hBX1 : Below w.heap.size w X1 := hb3.trans (r2 w.heap.size hs3 fun g hg => by simp [Value.ownBlock] at hg; omega)
      have hg1 : ∀ b, b < w.heap.size → g1 ≠ b := fun b hb' => (r4 b (by omega) (ho0 b hb')).2
      have hg1' : w.heap.size ≤ g1 := by
        by_cases e : g1 < w.heap.size
        · exact absurd rfl (hg1 g1 e)
        · omega
      obtain ⟨g2, cap2, X2, u2', G2', q1, q2, q3, -, -⟩ := append_stpsG X1 base n1 n2 (.slice (some ⟨g1, 0, none⟩) n1 cap1) _ _ x2 u1' u2 G1' G2 r3 (H2.out.later StpP.steady hBX1) (Nat.le_trans hb hBX1.size) hn2 (by omega) (fun j c hj hc e => by simp [Value.ownBlock] at e; exact hg1 c (H2.out.lo j c hj hc).2 e) (fun i j c hi hj h1 h2 => by
        have h1' := (r5 i c hi).1 h1
        rw [if_neg (by omega), Nat.sub_zero] at h1'
        exact HD.out i j c hi hj h1' h2)
      have HBX : Hid (Below w.heap.size w X2) := hBX1.trans (q2 w.heap.size hBX1.size fun g hg => by simp [Value.ownBlock] at hg; omega)
      have HQ1 : Hid (_ = _) := r1
      have HQ2 : Hid (_ = _) := q1
      have HY : Hid (GRow StpP X2 base 86 3 (.slice (some ⟨g2, 0, none⟩) (n1 + n2) cap2) (n1 + n2) (fun i => if i < n1 then x1 i else x2 (i - n1)) u2' G2') := q3.congr fun i hi => by
        by_cases e : i < n1
        · rw [if_pos e, if_pos e, if_neg (by omega), Nat.sub_zero]
        · rw [if_neg e, if_neg e]
      have d0 := cell_later hb3 c0
      have d1 := cell_later hBX1 c1
      have hbb3 : bb < w3.heap.size := by omega
      have hbbX : bb < X1.heap.size := by have := hBX1.size; omega
      clear r1 r2 r3 r4 r5 q1 q2 q3 hBX1 hg1 hg1' hg0 ho0 hlt3 ho3 hb3 hs3 H1 H2 HD HGR c0 c1 hb
      go_wp2
      go_loopw [6, 27] (fun s i wr => (i = .int .i64 0 ∧ s = .slice (some ⟨w.heap.size, 0, none⟩) 0 cap0 ∧ wr = w3) ∨ (i = .int .i64 1 ∧ s = .slice (some ⟨g1, 0, none⟩) n1 cap1 ∧ wr = X1) ∨ (i = .int .i64 2 ∧ s = .slice (some ⟨g2, 0, none⟩) (n1 + n2) cap2 ∧ wr = X2)) (fun _ i _ => 2 - (intOf i).toNat)
      case atStart => exact Or.inl ⟨rfl, rfl, rfl⟩
      case round =>
        rcases hrel with ⟨rfl, rfl, hw⟩ | ⟨rfl, rfl, hw⟩ | ⟨rfl, rfl, hw⟩
        · subst wr
          go_wp2_with (at_builtin; refine wpList_append_run rfl _ _ 46 rfl _ _ rfl rfl _ _ HQ1.out ?_)
          go_roundw
          case rel => exact Or.inr (Or.inl ⟨rfl, rfl, trivial⟩)
          case measure => simp [intOf]
        · subst wr
          go_wp2_with (at_builtin; refine wpList_append_run rfl _ _ 46 rfl _ _ rfl rfl _ _ HQ2.out ?_)
          go_roundw
          case rel => exact Or.inr (Or.inr ⟨rfl, rfl, trivial⟩)
          case measure => simp [intOf]
        · subst wr
          go_wp2
          go_ret
          exact ⟨_, _, _, _, rfl, HBX.out, HY.out⟩
end Go.Proofs.Ytpmndmkmfcoieaa

namespace Go.Proofs.Ytpmndmkmfcoieaa
open Go.RowKit
set_option maxRecDepth 100000

def rowsS (first : Int) (wss : List (List Int)) : List SD := (List.range wss.length).map fun i : Nat => (false, first + (i : Int), wss[i]?.getD [])
theorem rowsS_len (first : Int) (wss : List (List Int)) : (rowsS first wss).length = wss.length := by simp [rowsS]
theorem rowsS_get (first : Int) (wss : List (List Int)) {i : Nat} (h : i < wss.length) : (rowsS first wss)[i]?.getD sd0 = (false, first + (i : Int), wss[i]?.getD []) := by
  unfold rowsS; rw [List.getElem?_map, List.getElem?_range h]; rfl
set_option maxHeartbeats 3200000 in
theorem phaseI_any (w : World) (base bS n c kb : Nat) (first : Int) (vs : Nat → Value) (wss : List (List Int)) (S : Nat → Nat → Prop) (hk : w.cell? ⟨kb, 0, none⟩ = some (.int .i64 first)) (hf : 0 ≤ first ∧ first ≤ 100) (hn : wss.length = n) (hn' : n ≤ 100) (hc : ∀ k, k < n → w.cell? ⟨bS, k, none⟩ = some (vs k)) (hI : ∀ k, k < n → IntsO w (vs k) (wss[k]?.getD []) (S k)) (hS : ∀ k c, k < n → S k c → base ≤ c ∧ c < w.heap.size) (hSS : ∀ i j c, i < n → j < n → i ≠ j → S i c → ¬ S j c) (hb : base ≤ w.heap.size) :
    Calls Try.prog 75 #[.slice (some ⟨bS, 0, none⟩) n c, .func (.func 95) #[] #[.pointer (some ⟨kb, 0, none⟩)]] w fun e w' => ∃ a' c' u G, e = .returned (.slice a' (n + 1) c') ∧ Below w.heap.size w w' ∧ GRow StpP w' base 86 3 (.slice a' (n + 1) c') (n + 1) (fun i => (rowsS first wss ++ endS)[i]?.getD sd0) u G ∧ (∀ i c, i < n + 1 → G i c → ∃ k, k < n ∧ S k c) := by
  have HG : Hid (∀ i, i < n → (rowsS first wss ++ endS)[i]?.getD sd0 = (false, first + (i : Int), wss[i]?.getD [])) := fun i hi => by rw [two_getD, if_pos (by rw [rowsS_len]; omega), rowsS_get _ _ (by omega)]
  have HE : Hid ((rowsS first wss ++ endS)[n]?.getD sd0 = (true, 0, [])) := by unfold Hid; rw [two_getD, rowsS_len, if_neg (by omega), hn, Nat.sub_self]; rfl
  have HC : Hid (∀ k, k < n → w.cell? ⟨bS, k, none⟩ = some (vs k)) := hc
  have HI : Hid (∀ k, k < n → IntsO w (vs k) (wss[k]?.getD []) (S k)) := hI
  have HS : Hid (∀ k c, k < n → S k c → base ≤ c ∧ c < w.heap.size) := hS
  have HSS : Hid (∀ i j c, i < n → j < n → i ≠ j → S i c → ¬ S j c) := hSS
  have HB : Hid (base ≤ w.heap.size) := hb
  obtain ⟨hf0, hf1⟩ := hf
  clear hc hI hS hSS hb hn
  generalize rowsS first wss ++ endS = XS at *
  go_enter Try.func75, Try.ntmps75
  go_wp2
  go_loopw [5, 10] (fun s i wr => ∃ (j : Nat) (u : Nat → List Value) (G : Nat → Nat → Prop), j ≤ n ∧ i = .int .i64 j ∧ Below w.heap.size w wr ∧ GRow (StpT fun _ => True) wr base 86 3 s j (fun k => XS[k]?.getD sd0) u G ∧ (∀ i c, i < j → G i c → S i c) ∧ (∀ g, s.ownBlock = some g → w.heap.size ≤ g)) (fun _ i _ => n - (intOf i).toNat)
  case atStart => exact ⟨0, _, _, Nat.zero_le _, rfl, Below.refl _ _, GRow.nil w _ _ _ _, fun i _ hi => by omega, fun g hg => by simp [Value.ownBlock] at hg⟩
  case round =>
    obtain ⟨j, u, G, hj, rfl, hbl, hrow, hgs, hown⟩ := hrel
    obtain ⟨aQ, cQ, rfl⟩ := hrow.shape
    have HBL : Hid (Below w.heap.size w wr) := hbl
    have HRX : Hid (GRow (StpT fun _ => True) wr base 86 3 (.slice aQ j cQ) j (fun k => XS[k]?.getD sd0) u G) := hrow
    have HGS : Hid (∀ i c, i < j → G i c → S i c) := hgs
    have HOW : Hid (∀ g, (Value.slice aQ j cQ).ownBlock = some g → w.heap.size ≤ g) := hown
    clear hrow hgs hown
    by_cases hlt : j < n
    · have HGJ : Hid (XS[j]?.getD sd0 = (false, first + (j : Int), wss[j]?.getD [])) := HG.out j hlt
      have k0 := cell_later hbl (HC.out j hlt)
      have hbz := lt_of_cell k0
      have HIJ : Hid (IntsO wr (vs j) (wss[j]?.getD []) (S j)) := (HI.out j hlt).later hbl
      obtain ⟨av, cv, ev, _⟩ := HIJ.out.reads.shape
      rw [ev] at k0 HIJ
      have HCP : Hid (Calls Try.prog 95 #[.int .i64 (j : Int), .slice av (wss[j]?.getD []).length cv, .pointer (some ⟨kb, 0, none⟩)] wr _) := rowsIn_any wr kb first (j : Int) av _ cv (cell_later hbl hk) (by omega) (by omega)
      clear hbl HG HE ev
      generalize wss[j]?.getD [] = ws at *
      have HLW : Hid (ws.length = ws.length) := rfl
      generalize hlw : ws.length = lw at *
      have HLN : Hid (lw = ws.length) := hlw.symm
      clear hlw HLW
      go_wp2_with fail
      refine HCP.out.mono ?_
      rintro e w1 ⟨rfl, hb1⟩
      have hbw1 : Below w.heap.size w w1 := HBL.out.trans (hb1.mono HBL.out.size)
      obtain ⟨g, cap, X, u', G', hr, hbx, hgx, hkp, hgg⟩ := append_stpO (fun _ => True) w1 base j (.slice aQ j cQ) _ u G (HRX.out.later (StpT.steady _) hb1) (Nat.le_trans HB.out hbw1.size) (by omega) false (first + (j : Int)) av lw cv ws HGJ.out (S j) (fun c hc => ⟨(HS.out j c hlt hc).1, Nat.lt_of_lt_of_le (HS.out j c hlt hc).2 hbw1.size⟩) (fun _ _ => trivial) (fun c hc e => by have := HOW.out c e; have := (HS.out j c hlt hc).2; omega) (fun i c hi h1 h2 => HSS.out i j c (by omega) hlt (by omega) (HGS.out i c hi h1) h2) HLN.out (HIJ.out.later hb1) w1.heap.size rfl
      have HR : Hid (_ = _) := hr
      have HBX : Hid (Below w.heap.size w X) := hbw1.trans (hbx w.heap.size hbw1.size HOW.out)
      have HGX : Hid (GRow (StpT fun _ => True) X base 86 3 (.slice (some ⟨g, 0, none⟩) (j + 1) cap) (j + 1) (fun k => XS[k]?.getD sd0) u' G') := hgx
      have HG2 : Hid (∀ i c, i < j + 1 → G' i c → S i c) := fun i c hi h1 => by
        have h2 := (hgg i c hi).1 h1
        by_cases e : i < j
        · rw [if_pos e] at h2; exact HGS.out i c e h2
        · rw [if_neg e] at h2; rw [show i = j by omega]; exact h2
      have HO2 : Hid (∀ b, (Value.slice (some ⟨g, 0, none⟩) (j + 1) cap).ownBlock = some b → w.heap.size ≤ b) := fun b hb => by
        simp [Value.ownBlock] at hb
        subst hb
        by_cases e : g < w.heap.size
        · exact absurd rfl (hkp g (Nat.lt_of_lt_of_le e hbw1.size) (fun h => by have := HOW.out g h; omega)).2
        · omega
      clear hr hbx hgx hkp hgg hb1 hbw1 HRX HGJ HCP HIJ HLN HGS HOW k0
      go_wp2_with (at_builtin; refine wpList_append_run rfl _ _ 46 rfl _ _ rfl rfl _ _ HR.out ?_)
      go_roundw
      case rel => exact ⟨j + 1, _, _, by omega, by go_num, HBX.out, HGX.out, HG2.out, HO2.out⟩
      case measure => simp [intOf]; omega
    · have e : j = n := by omega
      subst e
      have HEJ : Hid (XS[j]?.getD sd0 = (true, 0, [])) := HE.out
      obtain ⟨g, cap, X, u', G', hr, hbx, hgx, _, hgg⟩ := append_stpO (fun _ => True) wr base j (.slice aQ j cQ) _ u G HRX.out (Nat.le_trans HB.out HBL.out.size) (by omega) true 0 none 0 0 [] HEJ.out (fun _ => False) (fun c hc => hc.elim) (fun _ _ => trivial) (fun c hc => hc.elim) (fun _ _ _ _ h => h.elim) rfl (Or.inl ⟨rfl, none, 0, rfl⟩) wr.heap.size rfl
      have HR : Hid (_ = _) := hr
      have HBX : Hid (Below w.heap.size w X) := HBL.out.trans (hbx w.heap.size HBL.out.size HOW.out)
      have HGX : Hid (GRow StpP X base 86 3 (.slice (some ⟨g, 0, none⟩) (j + 1) cap) (j + 1) (fun k => XS[k]?.getD sd0) u' G') := hgx.imp fun i _ h => h.1
      have HG2 : Hid (∀ i c, i < j + 1 → G' i c → ∃ k, k < j ∧ S k c) := fun i c hi h1 => by
        have h2 := (hgg i c hi).1 h1
        by_cases e : i < j
        · rw [if_pos e] at h2; exact ⟨i, e, HGS.out i c e h2⟩
        · rw [if_neg e] at h2; exact h2.elim
      clear hr hbx hgx hgg HC HI HS HSS HG HE HRX HEJ hbl HGS HOW
      go_wp2_with (at_builtin; refine wpList_append_run rfl _ _ 46 rfl _ _ rfl rfl _ _ HR.out ?_)
      go_ret
      exact ⟨_, _, _, _, rfl, HBX.out, HGX.out, HG2.out⟩
set_option maxHeartbeats 3200000 in
theorem homeSteps_any (w : World) (q : Int) (hq0 : 0 ≤ q) (hq1 : q ≤ 60000) (a : Option Addr) (n c : Nat) (ps : List (Int × List Int)) (h : Puts w (.slice a n c) ps) (hn : ps.length ≤ 10) (hz : ∀ i : Nat, (ps[i]?.getD (0, [])).2.length ≤ 1048576) :
    Calls Try.prog 44 #[.int .i64 q, .slice a n c] w fun e w' => ∃ a' n' c', e = .returned (.slice a' n' c') ∧ Below w.heap.size w w' ∧ StpsO w' (.slice a' n' c') (homeS q ps) (fresh w w') := by
  obtain ⟨_, _, e1, _⟩ := h.open'
  simp only [Value.slice.injEq] at e1
  obtain ⟨rfl, rfl, rfl⟩ := e1
  have HSW : Hid (Calls Try.prog 71 #[.int .i64 (q + 1)] w _) := superW_any w (q + 1)
  have HPP : Hid (∀ W, Below w.heap.size w W → Calls Try.prog 73 #[.slice a ps.length c, .func (.func 74) #[] #[]] W _) := fun W hW => phaseP_any W a c ps (h.later hW) (by omega) hz
  have HHS : Hid (homeS q ps = (putsS ps ++ endS) ++ (rowsS 0 [[7, q + 1]] ++ endS)) := by
    unfold Hid homeS
    rw [List.append_assoc]
    rfl
  have HL1 : Hid ((putsS ps ++ endS).length = ps.length + 1) := by unfold Hid; rw [List.length_append, putsS_len]; rfl
  have HL2 : Hid ((rowsS 0 [[7, q + 1]] ++ endS).length = 2) := rfl
  clear h hz
  generalize homeS q ps = HS at *
  generalize putsS ps ++ endS = XS at *
  generalize ps.length = n at *
  go_enter Try.func44, Try.ntmps44
  go_wp2_with fail
  refine HSW.out.mono ?_
  rintro e w1 ⟨rfl, hb1, hi1, hs1⟩
  have hla := later1 w1 (.cells #[.slice (some ⟨w.heap.size, 0, none⟩) 2 2] 56)
  have HB1 : Hid (Below w.heap.size w (w1.alloc (.cells #[.slice (some ⟨w.heap.size, 0, none⟩) 2 2] 56))) := hb1.trans (hla.mono hb1.size)
  have HI1 : Hid (IntsO (w1.alloc (.cells #[.slice (some ⟨w.heap.size, 0, none⟩) 2 2] 56)) (.slice (some ⟨w.heap.size, 0, none⟩) 2 2) [7, q + 1] (fun c => c = w.heap.size)) := hi1.later hla
  have HC1 : Hid ((w1.alloc (.cells #[.slice (some ⟨w.heap.size, 0, none⟩) 2 2] 56)).cell? ⟨w1.heap.size, 0, none⟩ = some (.slice (some ⟨w.heap.size, 0, none⟩) 2 2)) := by unfold Hid; rw [new_cell]; rfl
  rw [hs1] at HC1
  have HS1 : Hid ((w1.alloc (.cells #[.slice (some ⟨w.heap.size, 0, none⟩) 2 2] 56)).heap.size = w.heap.size + 2) := by unfold Hid; rw [World.size_alloc, hs1]
  clear hb1 hi1 hla HSW
  go_wp2_with fail
  refine (HPP.out _ HB1.out).mono ?_
  rintro e w2 ⟨a1, c1, u1, G1, rfl, hb2, hg1⟩
  have HG1 : Hid (GRow StpP w2 (w.heap.size + 2) 86 3 (.slice a1 (n + 1) c1) (n + 1) (fun i => XS[i]?.getD sd0) u1 G1) := by rw [← HS1.out]; exact hg1
  have HB2 : Hid (Below w.heap.size w w2) := HB1.out.trans (hb2.mono HB1.out.size)
  have HI2 : Hid (IntsO w2 (.slice (some ⟨w.heap.size, 0, none⟩) 2 2) [7, q + 1] (fun c => c = w.heap.size)) := HI1.out.later hb2
  have HC2 : Hid (w2.cell? ⟨w.heap.size + 1, 0, none⟩ = some (.slice (some ⟨w.heap.size, 0, none⟩) 2 2)) := cell_later hb2 HC1.out
  have HS2 : Hid (w.heap.size + 2 ≤ w2.heap.size) := by have := hb2.size; rw [HS1.out] at this; exact this
  clear hb2 hg1 HPP HB1 HI1 HC1 HS1 hs1
  go_wp2_with fail
  refine (rowsFrom_any _ 0).mono ?_
  rintro e w3 ⟨rfl, hw3⟩
  subst w3
  have hla := later1 w2 (.cells #[.int .i64 0] 2)
  have HB3 : Hid (Below w.heap.size w (w2.alloc (.cells #[.int .i64 0] 2))) := HB2.out.trans (hla.mono HB2.out.size)
  have hcell : ∀ k, k < 1 → (w2.alloc (.cells #[.int .i64 0] 2)).cell? ⟨w.heap.size + 1, k, none⟩ = some (.slice (some ⟨w.heap.size, 0, none⟩) 2 2) := fun k hk => by
    obtain rfl : k = 0 := by omega
    exact cell_later hla HC2.out
  have hint : ∀ k, k < 1 → IntsO (w2.alloc (.cells #[.int .i64 0] 2)) (.slice (some ⟨w.heap.size, 0, none⟩) 2 2) ([[7, q + 1]][k]?.getD []) (fun c => c = w.heap.size) := fun k hk => by
    obtain rfl : k = 0 := by omega
    exact HI2.out.later hla
  have HPI : Hid (Calls Try.prog 75 #[.slice (some ⟨w.heap.size + 1, 0, none⟩) 1 1, .func (.func 95) #[] #[.pointer (some ⟨w2.heap.size, 0, none⟩)]] (w2.alloc (.cells #[.int .i64 0] 2)) _) := phaseI_any (w2.alloc (.cells #[.int .i64 0] 2)) w.heap.size (w.heap.size + 1) 1 1 w2.heap.size 0 (fun _ => .slice (some ⟨w.heap.size, 0, none⟩) 2 2) [[7, q + 1]] (fun _ c => c = w.heap.size) (by rw [new_cell]; rfl) (by omega) rfl (by omega) hcell hint (fun k c hk hc => by have := HS2.out; have := hla.size; omega) (fun i j c hi hj e => by omega) HB3.out.size
  clear hcell hint
  have HG1' : Hid (GRow StpP (w2.alloc (.cells #[.int .i64 0] 2)) (w.heap.size + 2) 86 3 (.slice a1 (n + 1) c1) (n + 1) (fun i => XS[i]?.getD sd0) u1 G1) := HG1.out.later StpP.steady hla
  clear hla HG1 HI2 HC2 HB2 HS2
  go_wp2_with fail
  refine HPI.out.mono ?_
  rintro e w4 ⟨a2, c2, u2, G2, rfl, hb4, hg2, hs2⟩
  have HB4 : Hid (Below w.heap.size w w4) := HB3.out.trans (hb4.mono HB3.out.size)
  have hla := later1 w4 (.cells #[.slice a1 (n + 1) c1, .slice a2 (1 + 1) c2] 46)
  have HB5 : Hid (Below w.heap.size w (w4.alloc (.cells #[.slice a1 (n + 1) c1, .slice a2 (1 + 1) c2] 46))) := HB4.out.trans (hla.mono HB4.out.size)
  have HCC : Hid (Calls Try.prog 72 #[.slice (some ⟨w4.heap.size, 0, none⟩) 2 2] (w4.alloc (.cells #[.slice a1 (n + 1) c1, .slice a2 (1 + 1) c2] 46)) _) := concatS_any (w4.alloc (.cells #[.slice a1 (n + 1) c1, .slice a2 (1 + 1) c2] 46)) w4.heap.size w.heap.size (n + 1) (1 + 1) _ _ (fun i => XS[i]?.getD sd0) (fun i => (rowsS 0 [[7, q + 1]] ++ endS)[i]?.getD sd0) u1 u2 G1 G2 (((HG1'.out.later StpP.steady hb4).later StpP.steady hla).low (by omega)) (hg2.later StpP.steady hla) HB5.out.size (by omega) (by omega) (by omega) (fun i j c hi hj h1 h2 => by
    obtain ⟨_, _, e⟩ := hs2 j c hj h2
    have := (HG1'.out.lo i c hi h1).1
    omega) (by rw [new_cell]; rfl) (by rw [new_cell]; rfl)
  clear hla hb4 hg2 hs2 HPI HG1' HB3
  go_wp2_with fail
  refine HCC.out.mono ?_
  rintro e w5 ⟨a5, c5, u5, G5, rfl, hb5, hg5⟩
  have HB6 : Hid (Below w.heap.size w w5) := HB5.out.trans (hb5.mono HB5.out.size)
  have HY : Hid (StpsO w5 (.slice a5 (n + 1 + (1 + 1)) c5) HS (fresh w w5)) := by
    rw [HHS.out]
    exact (hg5.congr (x' := fun i => (XS ++ (rowsS 0 [[7, q + 1]] ++ endS))[i]?.getD sd0) fun i _ => by rw [two_getD XS _ i, HL1.out]).stps (by rw [List.length_append, HL1.out, HL2.out]) _ fun c h1 h2 => ⟨h1, h2⟩
  clear hb5 hg5 HCC
  go_wp2
  go_ret
  exact ⟨_, _, _, rfl, HB6.out, HY.out⟩
end Go.Proofs.Ytpmndmkmfcoieaa

namespace Go.Proofs.Ytpmndmkmfcoieaa
open Go.RowKit
set_option maxRecDepth 100000

def spanPs (ps : List (Int × List Int)) : Nat := ps.length + (wlens ps).sum
def mkPs (k : Int) (ps : List (Int × List Int)) : List (Int × List Int) := marksP k (wlens ps)
end Go.Proofs.Ytpmndmkmfcoieaa
