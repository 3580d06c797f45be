
/- The specification's InodeFault. -/
import Derived.Test.YtcmkfapgpolglajSpcD
namespace Go.Proofs.Ytcmkfapgpolglaj
open Go.RowKit
set_option maxRecDepth 100000

theorem l4Dir_many (w : World) (b : Nat) (k l s : Int) (vB : Value) (a : Option Addr) (n c : Nat) (hx : Bx w b [.int .i64 k, .int .i64 l, .int .i64 s, vB, .slice a n c]) (hn : 6 < n) :
    Calls Try.prog 56 #[.pointer (some ⟨b, 0, none⟩)] w fun e w' => e = .returned (.int .i64 2) ∧ w' = w := by
  have c4 := hx 4 _ rfl
  have h6 : decide ((6 : Int) < (n : Int)) = true := by simp; omega
  clear hx
  go_enter Try.func56, Try.ntmps56
  go_wp2
  go_ret
  exact ⟨rfl, rfl⟩
theorem l4Dir_any (w : World) (b : Nat) (k l s : Int) (vB : Value) (a : Option Addr) (n c : Nat) (es : List EN) (hx : Bx w b [.int .i64 k, .int .i64 l, .int .i64 s, vB, .slice a n c]) (he : Ents w (.slice a n c) es) :
    Calls Try.prog 56 #[.pointer (some ⟨b, 0, none⟩)] w fun e w' => e = .returned (.int .i64 (dirF es)) ∧ ∃ m, w' = w.drewN m := by
  obtain ⟨a', cap, h1, hm, hz, hc⟩ := he.open'
  simp only [Value.slice.injEq] at h1
  obtain ⟨rfl, rfl, rfl⟩ := h1
  unfold dirF
  by_cases h : 6 < es.length
  · rw [if_pos h]
    exact (l4Dir_many w b k l s vB _ _ _ hx h).mono fun e w' ⟨h1, h2⟩ => ⟨h1, 0, h2⟩
  · rw [if_neg h]
    exact l4Dir_walk w b k l s vB _ _ _ es hx (by omega) rfl hz hc

set_option maxHeartbeats 6400000 in
theorem l4Fault_any (w : World) (b : Nat) (d : ID) (a : Option Addr) (c : Nat) (a' : Option Addr) (c' : Nat) (hx : Bx w b [.int .i64 d.1, .int .i64 d.2.1, .int .i64 d.2.2.1, .slice a d.2.2.2.1.length c, .slice a' d.2.2.2.2.length c']) (hi : Ints w (.slice a d.2.2.2.1.length c) d.2.2.2.1) (he : Ents w (.slice a' d.2.2.2.2.length c') d.2.2.2.2) :
    Calls Try.prog 34 #[.pointer (some ⟨b, 0, none⟩)] w fun e w' => e = .returned (.int .i64 (inoF d)) ∧ ∃ m, w' = w.drewN m := by
  obtain ⟨k, l, s, bs, es⟩ := d
  dsimp only at hx hi he ⊢
  have HFI : Hid (∀ m, Calls Try.prog 55 #[.pointer (some ⟨b, 0, none⟩)] (w.drewN m) fun e w' => e = .returned (.int .i64 (fileF l s bs)) ∧ ∃ m', w' = (w.drewN m).drewN m') := fun m => l4File_any (w.drewN m) b k l s a _ c _ bs hx hi
  have HDI : Hid (∀ m, Calls Try.prog 56 #[.pointer (some ⟨b, 0, none⟩)] (w.drewN m) fun e w' => e = .returned (.int .i64 (dirF es)) ∧ ∃ m', w' = (w.drewN m).drewN m') := fun m => l4Dir_any (w.drewN m) b k l s _ a' _ c' es hx he
  have c0 := hx 0 _ rfl
  have c1 := hx 1 _ rfl
  have c2 := hx 2 _ rfl
  have c3 := hx 3 _ rfl
  have c4 := hx 4 _ rfl
  have HF : Hid (inoF (k, l, s, bs, es) = if k = 0 then (if (decide (l ≠ 0) || decide (s ≠ 0) || decide (0 < bs.length)) || decide (0 < es.length) then 1 else 0) else if k = 1 then (if decide (0 < es.length) then 1 else fileF l s bs) else if k = 2 then (if (decide (l ≠ 0) || decide (s ≠ 0) || decide (0 < bs.length)) then 1 else dirF es) else 1) := rfl
  generalize fileF l s bs = ff at *
  generalize dirF es = df at *
  generalize inoF (k, l, s, bs, es) = r at *
  generalize bs.length = n at *
  generalize es.length = n' at *
  clear hx hi he
  by_cases hk : 0 ≤ k ∧ k ≤ 2
  rotate_left
  · have HR : Hid (r = 1) := by unfold Hid; rw [HF.out, if_neg (by omega), if_neg (by omega), if_neg (by omega)]
    have HQ : Hid (decide (0 ≤ k ∧ k ≤ 2) = false) := by unfold Hid; simpa using hk
    clear hk
    go_enter Try.func34, Try.ntmps34
    go_wp2_with fail
    refine (l1In_is HQ.out).mono ?_
    rintro e w1 ⟨rfl, rfl⟩
    go_wp2
    go_ret
    exact ⟨ret_int HR.out.symm, 0, rfl⟩
  · have HQ : Hid (decide (0 ≤ k ∧ k ≤ 2) = true) := by unfold Hid; simpa using hk
    have hk3 : k = 0 ∨ k = 1 ∨ k = 2 := by omega
    clear hk
    rcases hk3 with rfl | rfl | rfl
    · clear HFI HDI
      by_cases hl : l = 0
      rotate_left
      · have hl' : (l != 0) = true := by simpa using hl
        have HR : Hid (r = 1) := by unfold Hid; rw [HF.out]; simp [hl]
        go_enter Try.func34, Try.ntmps34
        go_wp2_with fail
        refine (l1In_is HQ.out).mono ?_
        rintro e w1 ⟨rfl, rfl⟩
        go_wp2
        go_ret
        exact ⟨ret_int HR.out.symm, 0, rfl⟩
      · subst hl
        by_cases hs : s = 0
        rotate_left
        · have hs' : (s != 0) = true := by simpa using hs
          have HR : Hid (r = 1) := by unfold Hid; rw [HF.out]; simp [hs]
          go_enter Try.func34, Try.ntmps34
          go_wp2_with fail
          refine (l1In_is HQ.out).mono ?_
          rintro e w1 ⟨rfl, rfl⟩
          go_wp2
          go_ret
          exact ⟨ret_int HR.out.symm, 0, rfl⟩
        · subst hs
          by_cases hn : 0 < n
          · have hn' : decide ((0 : Int) < (n : Int)) = true := by simp; omega
            have HR : Hid (r = 1) := by unfold Hid; rw [HF.out]; simp [hn]
            go_enter Try.func34, Try.ntmps34
            go_wp2_with fail
            refine (l1In_is HQ.out).mono ?_
            rintro e w1 ⟨rfl, rfl⟩
            go_wp2
            go_ret
            exact ⟨ret_int HR.out.symm, 0, rfl⟩
          · have hn' : decide ((0 : Int) < (n : Int)) = false := by simp; omega
            by_cases hm : 0 < n'
            · have hm' : decide ((0 : Int) < (n' : Int)) = true := by simp; omega
              have HR : Hid (r = 1) := by unfold Hid; rw [HF.out]; simp [hm]
              go_enter Try.func34, Try.ntmps34
              go_wp2_with fail
              refine (l1In_is HQ.out).mono ?_
              rintro e w1 ⟨rfl, rfl⟩
              go_wp2
              go_ret
              exact ⟨ret_int HR.out.symm, 0, rfl⟩
            · have hm' : decide ((0 : Int) < (n' : Int)) = false := by simp; omega
              have HR : Hid (r = 0) := by unfold Hid; rw [HF.out]; simp; omega
              go_enter Try.func34, Try.ntmps34
              go_wp2_with fail
              refine (l1In_is HQ.out).mono ?_
              rintro e w1 ⟨rfl, rfl⟩
              go_wp2
              go_ret
              exact ⟨ret_int HR.out.symm, 0, rfl⟩
    · by_cases hm : 0 < n'
      · have hm' : decide ((0 : Int) < (n' : Int)) = true := by simp; omega
        have HR : Hid (r = 1) := by unfold Hid; rw [HF.out]; simp [hm]
        go_enter Try.func34, Try.ntmps34
        go_wp2_with fail
        refine (l1In_is HQ.out).mono ?_
        rintro e w1 ⟨rfl, rfl⟩
        go_wp2
        go_ret
        exact ⟨ret_int HR.out.symm, 0, rfl⟩
      · have hm' : decide ((0 : Int) < (n' : Int)) = false := by simp; omega
        have HR : Hid (r = ff) := by unfold Hid; rw [HF.out]; simp [hm]
        go_enter Try.func34, Try.ntmps34
        go_wp2_with fail
        refine (l1In_is HQ.out).mono ?_
        rintro e w1 ⟨rfl, rfl⟩
        go_wp2_with fail
        refine (HFI.out 0).mono ?_
        rintro e w2 ⟨rfl, m, rfl⟩
        go_wp2
        go_ret
        exact ⟨ret_int HR.out.symm, m, rfl⟩
    · by_cases hl : l = 0
      rotate_left
      · have hl' : (l != 0) = true := by simpa using hl
        have HR : Hid (r = 1) := by unfold Hid; rw [HF.out]; simp [hl]
        go_enter Try.func34, Try.ntmps34
        go_wp2_with fail
        refine (l1In_is HQ.out).mono ?_
        rintro e w1 ⟨rfl, rfl⟩
        go_wp2
        go_ret
        exact ⟨ret_int HR.out.symm, 0, rfl⟩
      · subst hl
        by_cases hs : s = 0
        rotate_left
        · have hs' : (s != 0) = true := by simpa using hs
          have HR : Hid (r = 1) := by unfold Hid; rw [HF.out]; simp [hs]
          go_enter Try.func34, Try.ntmps34
          go_wp2_with fail
          refine (l1In_is HQ.out).mono ?_
          rintro e w1 ⟨rfl, rfl⟩
          go_wp2
          go_ret
          exact ⟨ret_int HR.out.symm, 0, rfl⟩
        · subst hs
          by_cases hn : 0 < n
          · have hn' : decide ((0 : Int) < (n : Int)) = true := by simp; omega
            have HR : Hid (r = 1) := by unfold Hid; rw [HF.out]; simp [hn]
            go_enter Try.func34, Try.ntmps34
            go_wp2_with fail
            refine (l1In_is HQ.out).mono ?_
            rintro e w1 ⟨rfl, rfl⟩
            go_wp2
            go_ret
            exact ⟨ret_int HR.out.symm, 0, rfl⟩
          · have hn' : decide ((0 : Int) < (n : Int)) = false := by simp; omega
            have HR : Hid (r = df) := by unfold Hid; rw [HF.out]; simp [hn]
            go_enter Try.func34, Try.ntmps34
            go_wp2_with fail
            refine (l1In_is HQ.out).mono ?_
            rintro e w1 ⟨rfl, rfl⟩
            go_wp2_with fail
            refine (HDI.out 0).mono ?_
            rintro e w2 ⟨rfl, m, rfl⟩
            go_wp2
            go_ret
            exact ⟨ret_int HR.out.symm, m, rfl⟩

set_option maxHeartbeats 1600000 in
theorem specInoU (w : World) (z0 z1 z2 : Int) (aB : Option Addr) (nB cB : Nat) (aE : Option Addr) (nE cE : Nat) (d : ID) (h : InoR w (.int .i64 z0) (.int .i64 z1) (.int .i64 z2) (.slice aB nB cB) (.slice aE nE cE) d) (_s : sizeIno d ≤ 1048576) :
    Calls Try.prog 14 #[.agg #[.int .i64 z0, .int .i64 z1, .int .i64 z2, .slice aB nB cB, .slice aE nE cE]] w fun e w' => e = .returned (.int .i64 (inoF d)) ∧ Below w.heap.size w w' := by
  obtain ⟨⟨h0, h1, h2, _⟩, hi, he⟩ := h
  simp only [Value.int.injEq, true_and] at h0 h1 h2
  obtain ⟨_, _, e1, _⟩ := hi.open'
  obtain ⟨_, _, e2, _⟩ := he.open'
  simp only [Value.slice.injEq] at e1 e2
  obtain ⟨rfl, rfl, rfl⟩ := e1
  obtain ⟨rfl, rfl, rfl⟩ := e2
  subst h0 h1 h2
  have HI : Hid (Ints w _ d.2.2.2.1) := hi
  have HE : Hid (Ents w _ d.2.2.2.2) := he
  clear hi he
  have HL : Hid (∀ o : Obj, o = .cells #[.int .i64 d.1, .int .i64 d.2.1, .int .i64 d.2.2.1, .slice aB d.2.2.2.1.length cB, .slice aE d.2.2.2.2.length cE] 36 → Calls Try.prog 34 #[.pointer (some ⟨w.heap.size, 0, none⟩)] (w.alloc o) fun e w' => e = .returned (.int .i64 (inoF d)) ∧ ∃ m, w' = (w.alloc o).drewN m) := fun o ho => by
    subst ho
    exact l4Fault_any _ w.heap.size d aB cB aE cE (Bx.new w [.int .i64 d.1, .int .i64 d.2.1, .int .i64 d.2.2.1, .slice aB d.2.2.2.1.length cB, .slice aE d.2.2.2.2.length cE] _) (HI.out.later (later1 _ _)) (HE.out.later (later1 _ _))
  clear HI HE
  generalize inoF d = r at *
  generalize d.2.2.2.1.length = n1 at *
  generalize d.2.2.2.2.length = n2 at *
  generalize d.1 = z0 at *
  generalize d.2.1 = z1 at *
  generalize d.2.2.1 = z2 at *
  go_enter Try.func14, Try.ntmps14
  go_wp2_with fail
  refine (HL.out _ rfl).mono ?_
  rintro e w1 ⟨rfl, m, rfl⟩
  go_wp2
  go_ret
  exact ⟨rfl, below_drewN (later1 _ _) m⟩
end Go.Proofs.Ytcmkfapgpolglaj
