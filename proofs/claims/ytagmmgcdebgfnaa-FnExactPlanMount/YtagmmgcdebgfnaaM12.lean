/- What a journal has: the specification. ScanJournal: the specification. The steps of a plan that mounts: what they are; the specification's parts. PlanMount: the specification; answers that are steps, in the one form. Phases of steps: the program's parts. -/
import Derived.Test.YtagmmgcdebgfnaaM11
import Derived.Test.YtagmmgcdebgfnaaM08
namespace Go.Proofs.Ytagmmgcdebgfnaa
open Go.RowKit
set_option maxRecDepth 100000

theorem three_of {zs : List Int} (h : 3 ≤ zs.length) : ∃ x y z ps, zs = x :: y :: z :: ps := by
  match zs, h with
  | x :: y :: z :: ps, _ => exact ⟨x, y, z, ps, rfl⟩
theorem head_cons (q x y z : Int) (ps : List Int) : headB q (x :: y :: z :: ps) = decide (x = 1 ∧ y = q ∧ (0 ≤ z ∧ z ≤ 10) ∧ (ps.length : Int) = z) := by
  unfold headB
  have e : ((x :: y :: z :: ps).length : Int) = 3 + z ↔ (ps.length : Int) = z := by
    simp only [List.length_cons]; omega
  have e1 : 3 ≤ (x :: y :: z :: ps).length := by simp
  simp only [decide_eq_decide]
  constructor
  · rintro ⟨_, h1, h2, h3, h4⟩; exact ⟨h1, h2, h3, e.1 h4⟩
  · rintro ⟨h1, h2, h3, h4⟩; exact ⟨e1, h1, h2, h3, e.2 h4⟩
theorem found_head {f : Nat → List Int} {q : Int} (h : headB q (f 1) = false) : foundB f q = false := by unfold foundB; rw [h]; rfl
set_option maxHeartbeats 6400000 in
theorem l13Found_in (w : World) (ptr : Value) (f : Nat → List Int) (q : Int) (HRD : Hid (∀ W (k : Nat), k ≤ 46 → Below w.heap.size w W → Calls Try.prog 59 #[ptr, .int .i64 (k : Int)] W fun e w' => ∃ ua un uc, e = .returned (.slice ua un uc) ∧ Ints W (.slice ua un uc) (f k) ∧ w' = W)) (hlen : Hid (∀ k, (f k).length ≤ 1048576)) :
    Calls Try.prog 67 #[ptr, .int .i64 q] w fun e w' => ∃ a n c, e = .returned (.tuple #[.slice a n c, .bool (foundB f q)]) ∧ Below w.heap.size w w' ∧ PutsO w' (.slice a n c) (if foundB f q = true then putsJ f else []) (fresh w w') := by
  have HR1 : Hid (∀ W, Below w.heap.size w W → Calls Try.prog 59 #[ptr, .int .i64 1] W fun e w' => ∃ ua un uc, e = .returned (.slice ua un uc) ∧ Ints W (.slice ua un uc) (f 1) ∧ w' = W) := fun W hW => HRD.out W 1 (by omega) hW
  have HH : Hid (headB q (f 1) = false → foundB f q = false) := found_head
  have HFB : Hid (foundB f q = (headB q (f 1) && (decide (f (2 + ((f 1).drop 3).length) = [2, q, (((f 1).drop 3).length : Int)]) && plcsB ((f 1).drop 3)))) := rfl
  have HPJ : Hid (∀ i, i < ((f 1).drop 3).length → (putsJ f)[i]?.getD (0, []) = (((f 1).drop 3)[i]?.getD 0, f (2 + i))) := putsJ_get f
  have HPN : Hid ((putsJ f).length = ((f 1).drop 3).length) := putsJ_len f
  have hl1 := hlen.out 1
  generalize foundB f q = FB at *
  generalize putsJ f = PJ at *
  generalize hzs : f 1 = zs at *
  clear hzs
  go_enter Try.func67, Try.ntmps67
  go_wp2_with fail
  refine (HR1.out _ (Below.refl _ _)).mono ?_
  rintro e w1 ⟨az, nz, cz, rfl, ho, hw1⟩
  subst w1
  obtain ⟨_, _, ez, _, hat⟩ := ho.open'
  simp only [Value.slice.injEq] at ez
  obtain ⟨rfl, rfl, rfl⟩ := ez
  have HAT : Hid (At1 w az zs.length (fun k => .int .i64 (zs[k]?.getD 0))) := hat
  clear ho hat HR1
  by_cases hl : 3 ≤ zs.length
  · obtain ⟨x0, x1, x2, ps, rfl⟩ := three_of hl
    rw [head_cons] at HH HFB
    simp only [List.drop_succ_cons, List.drop_zero] at HFB HPJ HPN
    have hz0 := HAT.out 0 (by simp)
    obtain ⟨bz, oz, rfl, k0⟩ := hz0
    obtain ⟨_, _, ez, k1⟩ := HAT.out 1 (by simp)
    simp only [Option.some.injEq, Addr.mk.injEq, and_true] at ez
    obtain ⟨rfl, rfl⟩ := ez
    obtain ⟨_, _, ez, k2⟩ := HAT.out 2 (by simp)
    simp only [Option.some.injEq, Addr.mk.injEq, and_true] at ez
    obtain ⟨rfl, rfl⟩ := ez
    replace k0 : w.cell? ⟨bz, oz + 0, none⟩ = some (.int .i64 x0) := k0
    replace k1 : w.cell? ⟨bz, oz + 1, none⟩ = some (.int .i64 x1) := k1
    replace k2 : w.cell? ⟨bz, oz + 2, none⟩ = some (.int .i64 x2) := k2
    rw [Nat.add_zero] at k0
    have HPS : Hid (∀ j, j < ps.length → w.cell? ⟨bz, oz + (3 + j), none⟩ = some (.int .i64 (ps[j]?.getD 0))) := fun j hj => by
      obtain ⟨_, _, ez, k3⟩ := HAT.out (3 + j) (by simp; omega)
      simp only [Option.some.injEq, Addr.mk.injEq, and_true] at ez
      obtain ⟨rfl, rfl⟩ := ez
      dsimp only at k3
      rw [show (x0 :: x1 :: x2 :: ps)[3 + j]?.getD 0 = ps[j]?.getD 0 by rw [show 3 + j = j + 1 + 1 + 1 by omega]; rfl] at k3
      exact k3
    have hlp : (x0 :: x1 :: x2 :: ps).length = ps.length + 3 := rfl
    rw [hlp] at hl1 ⊢
    have hbz := World.block_lt_of_cell? _ _ k0
    have HGO : Hid (∀ n : Nat, ps.length = n → n + 3 ≤ 1048576) := fun n hn => by omega
    clear HAT hl hlp
    generalize hnn : ps.length = n at *
    have hn3 : n + 3 ≤ 1048576 := hl1
    have hd3 : decide ((n : Int) + 3 < 3) = false := by simp; omega
    by_cases h0 : x0 = 1
    · have h0b : (x0 != 1) = false := by simpa using h0
      by_cases h1 : x1 = q
      · have h1b : (x1 != q) = false := by simpa using h1
        by_cases h2 : 0 ≤ x2 ∧ x2 ≤ 10
        · have HQ2 : Hid (∀ W, Calls Try.prog 46 #[.int .i64 x2, .int .i64 0, .int .i64 10] W fun e w' => e = .returned (.bool true) ∧ w' = W) := fun W => by have := l1In_any W x2 0 10; rw [decide_eq_true h2] at this; exact this
          by_cases h3 : (n : Int) = x2
          · subst h3
            have h3b : ((n : Int) + 3 != 3 + (n : Int)) = false := bne_eq_false_iff_eq.2 (by omega)
            have HFE : Hid (FB = (decide (f (2 + n) = [2, q, (n : Int)]) && plcsB ps)) := by rw [HFB.out, decide_eq_true ⟨h0, h1, h2, rfl⟩, Bool.true_and]; rfl
            have HRE : Hid (∀ W, Below w.heap.size w W → Calls Try.prog 59 #[ptr, .int .i64 (2 + (n : Int))] W fun e w' => ∃ ua un uc, e = .returned (.slice ua un uc) ∧ Ints W (.slice ua un uc) (f (2 + n)) ∧ w' = W) := fun W hW => by
              have h := HRD.out W (2 + n) (by omega) hW
              rw [Int.natCast_add] at h
              exact h
            clear HFB HH
            go_wp2_with fail
            refine (HQ2.out _).mono ?_
            rintro e w1 ⟨rfl, hw1⟩
            subst w1
            go_wp2_with fail
            refine (HRE.out _ (Below.refl _ _)).mono ?_
            rintro e w1 ⟨ua, un, uc, rfl, ho2, hw1⟩
            subst w1
            have HQ : Hid (∀ W, W = w.alloc (.cells #[.int .i64 2, .int .i64 q, .int .i64 (n : Int)] 2) → Calls Try.prog 94 #[.slice ua un uc, .slice (some ⟨w.heap.size, 0, none⟩) 3 3] W fun e w' => e = .returned (.bool (decide (f (2 + n) = [2, q, (n : Int)]))) ∧ ∃ m, w' = W.drewN m) := fun W hW => by
              subst hW
              exact l4Ints_any (ho2.later (later1 _ _)) (lit3_ints _ _ _ _)
            clear ho2 HRE HQ2 h3b hd3 h0b h1b
            generalize decide (f (2 + n) = [2, q, (n : Int)]) = EQ at *
            go_wp2_with fail
            refine (HQ.out _ rfl).mono ?_
            rintro e w3 ⟨rfl, m3, rfl⟩
            clear HQ
            have HB3 : Hid (Below w.heap.size w ((w.alloc (.cells #[.int .i64 2, .int .i64 q, .int .i64 (n : Int)] 2)).drewN m3)) := below_drewN (later1 _ _) m3
            generalize ((w.alloc (.cells #[.int .i64 2, .int .i64 q, .int .i64 (n : Int)] 2)).drewN m3) = wl at *
            cases EQ with
            | false =>
              obtain rfl : FB = false := HFE.out
              go_wp2
              go_ret2
              exact ⟨none, 0, 0, rfl, HB3.out, Or.inl ⟨rfl, none, 0, rfl⟩⟩
            | true =>
              go_wp2
              go_loopw [8, 9] (fun s i wr => ∃ (j : Nat) (u : Nat → List Value) (G : Nat → Nat → Prop), j ≤ n ∧ i = .int .i64 j ∧ Below w.heap.size w wr ∧ GRow PutP wr w.heap.size 100 2 s j (fun k => PJ[k]?.getD (0, [])) u G ∧ ∀ i, i < j → plcB (ps[i]?.getD 0) = true) (fun _ i _ => n - (intOf i).toNat)
              case atStart => exact ⟨0, _, _, Nat.zero_le _, rfl, HB3.out.trans ((later1 _ _).mono HB3.out.size), GRow.lit0 wl _ HB3.out.size _ _ _, fun i hi => by omega⟩
              case round =>
                obtain ⟨j, u, G, hj, rfl, hbl, hrow, ht⟩ := hrel
                obtain ⟨aQ, cQ, rfl⟩ := hrow.shape
                have HBL : Hid (Below w.heap.size w wr) := hbl
                have HRX : Hid (GRow PutP wr w.heap.size 100 2 (.slice aQ j cQ) j (fun k => PJ[k]?.getD (0, [])) u G) := hrow
                have HT : Hid (∀ i, i < j → plcB (ps[i]?.getD 0) = true) := ht
                clear hrow ht HB3
                by_cases hlt : j < n
                · have HGJ : Hid (PJ[j]?.getD (0, []) = (ps[j]?.getD 0, f (2 + j))) := HPJ.out j hlt
                  have k3 := cell_later hbl (HPS.out j hlt)
                  have HAL : Hid (plcB (ps[j]?.getD 0) = true → ∀ i, i < j + 1 → plcB (ps[i]?.getD 0) = true) := fun h i hi => by
                    by_cases e : i = j
                    · rw [e]; exact h
                    · exact HT.out i (by omega)
                  have HNO : Hid (plcB (ps[j]?.getD 0) = false → FB = false) := fun h => by rw [HFE.out, plcsB_no (by omega) h]; rfl
                  have HQ : Hid (∀ W, Calls Try.prog 46 #[.int .i64 (ps[j]?.getD 0), .int .i64 17, .int .i64 26] W fun e w' => e = .returned (.bool (plcB (ps[j]?.getD 0))) ∧ w' = W) := fun W => l1In_any W _ 17 26
                  have HLW : Hid ((f (2 + j)).length ≤ 1048576) := hlen.out (2 + j)
                  have HRE : Hid (Calls Try.prog 59 #[ptr, .int .i64 (2 + (j : Int))] wr.drew fun e w' => ∃ ua un uc, e = .returned (.slice ua un uc) ∧ Ints wr.drew (.slice ua un uc) (f (2 + j)) ∧ w' = wr.drew) := by
                    have h := HRD.out wr.drew (2 + j) (by omega) hbl.drew
                    rw [Int.natCast_add] at h
                    exact h
                  clear HT HPS HPJ hbl HRD hlen
                  generalize ps[j]?.getD 0 = x at *
                  generalize f (2 + j) = ws at *
                  cases hpx : plcB x with
                  | false =>
                    obtain rfl : FB = false := HNO.out hpx
                    rw [hpx] at HQ
                    go_wp2_with fail
                    refine (HQ.out _).mono ?_
                    rintro e w1 ⟨rfl, hw1⟩
                    subst w1
                    go_wp2
                    go_ret2
                    exact ⟨none, 0, 0, rfl, HBL.out, Or.inl ⟨rfl, none, 0, rfl⟩⟩
                  | true =>
                    have HTN : Hid (∀ i, i < j + 1 → plcB (ps[i]?.getD 0) = true) := HAL.out hpx
                    rw [hpx] at HQ
                    have HCP : Hid (∀ ua un uc, Ints wr.drew (.slice ua un uc) ws → Calls Try.prog 95 #[.slice ua un uc] wr.drew fun e w1 => ∃ av cv g cap X u' G', e = .returned (.slice av ws.length cv) ∧ Hid (Below wr.heap.size wr w1) ∧
                        Hid ((Builtin.append_ #[47, 47] 47 #[.slice aQ j cQ, .slice (some ⟨w1.heap.size, 0, none⟩) 1 1]).run Try.prog (w1.alloc (.cells #[.int .i64 x, .slice av ws.length cv] 100)) = .ok (.slice (some ⟨g, 0, none⟩) (j + 1) cap) X) ∧ Hid (Below w.heap.size wr X) ∧ Hid (GRow PutP X w.heap.size 100 2 (.slice (some ⟨g, 0, none⟩) (j + 1) cap) (j + 1) (fun k => PJ[k]?.getD (0, [])) u' G')) := fun ua un uc hi => by
                      refine (l1IntsC hi HLW.out).mono ?_
                      rintro e w1 ⟨av, cv, rfl, hb1', ho1, _, _⟩
                      have hb1 : Below wr.heap.size wr w1 := (Below.refl _ _).drew.trans hb1'
                      obtain ⟨g, cap, X, u', G', hr, hbx, _, hgx, -⟩ := append_putG wr w1 w.heap.size j _ _ u G HRX.out HBL.out.size (by omega) hb1 x av _ cv ws HGJ.out _ (fun c hc => hc) rfl ho1 w1.heap.size rfl
                      exact ⟨av, cv, g, cap, X, u', G', rfl, hb1, hr, hbx, hgx⟩
                    clear HAL HNO HLW HGJ HRX hpx
                    generalize ws.length = lw at *
                    have hw3 := wrap_in (3 + (j : Int)) (by omega) (by omega)
                    have hw2 := wrap_in (2 + (j : Int)) (by omega) (by omega)
                    have hj3 : (0 : Int) ≤ 3 + (j : Int) ∧ 3 + (j : Int) < (n : Int) + 3 := by omega
                    have ht3 : ((3 : Int) + (j : Int)).toNat = 3 + j := by omega
                    go_wp2_with fail
                    refine (HQ.out _).mono ?_
                    rintro e w1 ⟨rfl, hw1⟩
                    subst w1
                    go_wp2_with fail
                    go_region_law (first
                      | (refine step_append_run rfl _ _ 47 rfl _ _ rfl rfl _ _ HR.out ?_)
                      | (try go_simp; first
                          | (go_at_call 95; refine (HCP.out _ _ _ ho2).mono ?_; rintro e w1 ⟨av, cv, g, cap, X, u', G', rfl, HB1, HR, HBX, HGX⟩
                             have y3 := cell_later HB1.out k3)
                          | (go_at_call 59; refine HRE.out.mono ?_; rintro e w1 ⟨ua, un, uc, rfl, ho2, rfl⟩)))
                    all_goals
                      clear HCP HRE HR
                      go_wp2
                      go_roundw
                      case rel => exact ⟨j + 1, _, _, by omega, by go_num, HBL.out.trans HBX.out, HGX.out, HTN.out⟩
                      case measure => simp [intOf]; omega
                · have e : j = n := by omega
                  subst e
                  obtain rfl : FB = true := by rw [HFE.out, plcsB_yes (fun k hk => HT.out k (by omega))]; rfl
                  have HF : Hid (PutsO wr (.slice aQ j cQ) PJ (fresh w wr)) := HRX.out.puts HPN.out _ fun c h1 h2 => ⟨h1, h2⟩
                  clear HRX HT HPS HPJ hbl HRD
                  go_wp2
                  go_ret2
                  exact ⟨_, _, _, rfl, HBL.out, HF.out⟩
          · obtain rfl : FB = false := HH.out (decide_eq_false fun h => h3 h.2.2.2)
            have h3b : ((n : Int) + 3 != 3 + x2) = true := bne_iff_ne.2 (by omega)
            clear HFB HH
            go_wp2_with fail
            refine (HQ2.out _).mono ?_
            rintro e w1 ⟨rfl, hw1⟩
            subst w1
            go_wp2
            go_ret2
            exact ⟨none, 0, 0, rfl, Below.refl _ _, Or.inl ⟨rfl, none, 0, rfl⟩⟩
        · obtain rfl : FB = false := HH.out (decide_eq_false fun h => h2 h.2.2.1)
          have HQ2 : Hid (∀ W, Calls Try.prog 46 #[.int .i64 x2, .int .i64 0, .int .i64 10] W fun e w' => e = .returned (.bool false) ∧ w' = W) := fun W => by have := l1In_any W x2 0 10; rw [decide_eq_false h2] at this; exact this
          clear HFB HH h2
          go_wp2_with fail
          refine (HQ2.out _).mono ?_
          rintro e w1 ⟨rfl, hw1⟩
          subst w1
          go_wp2
          go_ret2
          exact ⟨none, 0, 0, rfl, Below.refl _ _, Or.inl ⟨rfl, none, 0, rfl⟩⟩
      · obtain rfl : FB = false := HH.out (decide_eq_false fun h => h1 h.2.1)
        have h1b : (x1 != q) = true := by simpa using h1
        clear HFB HH h1
        go_wp2
        go_ret2
        exact ⟨none, 0, 0, rfl, Below.refl _ _, Or.inl ⟨rfl, none, 0, rfl⟩⟩
    · obtain rfl : FB = false := HH.out (decide_eq_false fun h => h0 h.1)
      have h0b : (x0 != 1) = true := by simpa using h0
      clear HFB HH h0
      go_wp2
      go_ret2
      exact ⟨none, 0, 0, rfl, Below.refl _ _, Or.inl ⟨rfl, none, 0, rfl⟩⟩
  · obtain rfl : FB = false := HH.out (head_few hl)
    clear HFB HH HPJ HPN
    generalize zs.length = n at *
    have hd3 : decide ((n : Int) < 3) = true := by simp; omega
    clear hl
    go_wp2
    go_ret2
    exact ⟨none, 0, 0, rfl, Below.refl _ _, Or.inl ⟨rfl, none, 0, rfl⟩⟩
end Go.Proofs.Ytagmmgcdebgfnaa

namespace Go.Proofs.Ytagmmgcdebgfnaa
open Go.RowKit
set_option maxRecDepth 100000

set_option maxHeartbeats 3200000 in
theorem found_spec (w : World) (a1 : Option Addr) (n1 c1 : Nat) (a2 : Option Addr) (n2 c2 : Nat) (d : DK) (h : DiskR w (.slice a1 n1 c1) (.slice a2 n2 c2) d) (hs : sizeDisk d ≤ 1048576) (h0 : (seqR d).1 = 0) (W : World) (bd : Nat) (q : Int) (hW : Below w.heap.size w W) (x0 : W.cell? ⟨bd, 0, none⟩ = some (.slice a1 n1 c1)) (x1 : W.cell? ⟨bd, 1, none⟩ = some (.slice a2 n2 c2)) :
    Calls Try.prog 67 #[.pointer (some ⟨bd, 0, none⟩), .int .i64 q] W fun e w' => ∃ a n c, e = .returned (.tuple #[.slice a n c, .bool (foundB (fun k => atF d.1 d.2 k) q)]) ∧ Below W.heap.size W w' ∧ PutsO w' (.slice a n c) (if foundB (fun k => atF d.1 d.2 k) q = true then putsJ (fun k => atF d.1 d.2 k) else []) (fresh W w') := by
  obtain ⟨hf, h47⟩ := sizF_zero (seqR_zero h0).1
  obtain ⟨_, _, e1, _, sB⟩ := h.1.open'
  simp only [Value.slice.injEq] at e1
  obtain ⟨rfl, rfl, rfl⟩ := e1
  obtain ⟨_, _, e2, _, sP⟩ := h.2.open'
  simp only [Value.slice.injEq] at e2
  obtain ⟨rfl, rfl, rfl⟩ := e2
  have hbd := lt_of_cell x0
  exact l13Found_in W _ (fun k => atF d.1 d.2 k) q (fun V k hk hV => l1At_walk V bd _ _ _ c1 _ c2 d.1 d.2 k (by omega) (faultF_lens hf).1 rfl (faultF_lens hf).2 (cell_later hV x0) (cell_later hV x1) (sB.later (hW.trans (hV.mono hW.size))) (sP.later (hW.trans (hV.mono hW.size)))) (fun k => atF_len (dsize_blk hs) (dsize_put hs))

set_option maxHeartbeats 3200000 in
theorem specScanU (w : World) (a1 : Option Addr) (n1 c1 : Nat) (a2 : Option Addr) (n2 c2 : Nat) (d : DK) (h : DiskR w (.slice a1 n1 c1) (.slice a2 n2 c2) d) (hs : sizeDisk d ≤ 1048576) :
    Calls Try.prog 25 #[.agg #[.slice a1 n1 c1, .slice a2 n2 c2]] w fun e w' => ∃ a n c, e = .returned (.agg #[.int .i64 (scanR d).1, .bool (scanR d).2.1, .slice a n c]) ∧ Below w.heap.size w w' ∧ PutsO w' (.slice a n c) (scanR d).2.2 (fresh w w') := by
  have HF : Hid (∀ W, Below w.heap.size w W → Calls Try.prog 21 #[.agg #[.slice a1 n1 c1, .slice a2 n2 c2]] W fun e w' => e = .returned (.agg #[.int .i64 (seqR d).1, .int .i64 (seqR d).2]) ∧ Below W.heap.size W w') := fun W hW => specSeqU W _ _ _ _ _ _ d (h.later hW) hs
  have HU : Hid ((seqR d).1 = 0 → ∀ W, Below w.heap.size w W → W.cell? ⟨w.heap.size, 0, none⟩ = some (.slice a1 n1 c1) → W.cell? ⟨w.heap.size, 1, none⟩ = some (.slice a2 n2 c2) → Calls Try.prog 67 #[.pointer (some ⟨w.heap.size, 0, none⟩), .int .i64 (seqR d).2] W fun e w' => ∃ a n c, e = .returned (.tuple #[.slice a n c, .bool (foundB (fun k => atF d.1 d.2 k) (seqR d).2)]) ∧ Below W.heap.size W w' ∧ PutsO w' (.slice a n c) (if foundB (fun k => atF d.1 d.2 k) (seqR d).2 = true then putsJ (fun k => atF d.1 d.2 k) else []) (fresh W w')) := fun h0 W hW x0 x1 => found_spec w _ _ _ _ _ _ d h hs h0 W _ _ hW x0 x1
  have HBAD : Hid (¬ (seqR d).1 = 0 → scanR d = ((seqR d).1, false, [])) := scanR_bad
  have HNO : Hid ((seqR d).1 = 0 → foundB (fun k => atF d.1 d.2 k) (seqR d).2 = false → scanR d = (0, false, [])) := scanR_no
  have HYES : Hid ((seqR d).1 = 0 → foundB (fun k => atF d.1 d.2 k) (seqR d).2 = true → scanR d = (0, true, putsJ fun k => atF d.1 d.2 k)) := scanR_yes
  clear h
  generalize (seqR d).1 = r at *
  generalize (seqR d).2 = q at *
  generalize foundB (fun k => atF d.1 d.2 k) q = FB at *
  generalize (putsJ fun k => atF d.1 d.2 k) = PJ at *
  generalize scanR d = RES at *
  have HB0 : Hid (Below w.heap.size w ((w.alloc (.cells #[.slice a1 n1 c1, .slice a2 n2 c2] 49)).alloc (.cells #[.int .i64 0, .bool false, .slice none 0 0] 54))) := later2 _ _ _
  have HX0 : Hid (Bx ((w.alloc (.cells #[.slice a1 n1 c1, .slice a2 n2 c2] 49)).alloc (.cells #[.int .i64 0, .bool false, .slice none 0 0] 54)) (w.heap.size) [.slice a1 n1 c1, .slice a2 n2 c2]) := (Bx.new w [.slice a1 n1 c1, .slice a2 n2 c2] _).later (later1 _ _)
  have HR0 : Hid (OwnRow ((w.alloc (.cells #[.slice a1 n1 c1, .slice a2 n2 c2] 49)).alloc (.cells #[.int .i64 0, .bool false, .slice none 0 0] 54)) (w.heap.size + 1) 3 (cel [.int .i64 0, .bool false, .slice none 0 0])) := (show OwnRow ((w.alloc (.cells #[.slice a1 n1 c1, .slice a2 n2 c2] 49)).alloc (.cells #[.int .i64 0, .bool false, .slice none 0 0] 54)) (w.heap.size + 1) 3 (cel [.int .i64 0, .bool false, .slice none 0 0]) from by have := newCel (w.alloc (.cells #[.slice a1 n1 c1, .slice a2 n2 c2] 49)) [.int .i64 0, .bool false, .slice none 0 0] 54; rw [World.size_alloc] at this; exact this)
  go_enter Try.func25, Try.ntmps25
  have xHX0 := HX0.out 0 _ rfl
  have xHX1 := HX0.out 1 _ rfl
  go_wp2_with fail
  clear xHX0 xHX1
  refine (HF.out _ HB0.out).mono ?_
  rintro e w1 ⟨rfl, hb⟩
  have hb' : Below ((w.alloc (.cells #[.slice a1 n1 c1, .slice a2 n2 c2] 49)).alloc (.cells #[.int .i64 0, .bool false, .slice none 0 0] 54)).heap.size ((w.alloc (.cells #[.slice a1 n1 c1, .slice a2 n2 c2] 49)).alloc (.cells #[.int .i64 0, .bool false, .slice none 0 0] 54)) (w1.alloc (.cells #[.int .i64 r, .int .i64 q] 34)) := hb.trans ((later1 _ _).mono hb.size)
  have HB1 : Hid (Below w.heap.size w (w1.alloc (.cells #[.int .i64 r, .int .i64 q] 34))) := HB0.out.trans (hb'.mono HB0.out.size)
  have HX1 : Hid (Bx (w1.alloc (.cells #[.int .i64 r, .int .i64 q] 34)) (w.heap.size) [.slice a1 n1 c1, .slice a2 n2 c2]) := HX0.out.later hb'
  have HR1 : Hid (OwnRow (w1.alloc (.cells #[.int .i64 r, .int .i64 q] 34)) (w.heap.size + 1) 3 (cel [.int .i64 0, .bool false, .slice none 0 0])) := HR0.out.later hb'
  clear hb hb'
  have HQ1 : Hid (Bx (w1.alloc (.cells #[.int .i64 r, .int .i64 q] 34)) w1.heap.size [.int .i64 r, .int .i64 q]) := Bx.new w1 [.int .i64 r, .int .i64 q] _
  by_cases hf : r = 0
  · skip
    replace HU : Hid _ := HU.out hf
    replace HNO : Hid _ := HNO.out hf
    replace HYES : Hid _ := HYES.out hf
    clear HBAD HF
    subst hf
    have xHQ0 := HQ1.out 0 _ rfl
    have xHQ1 := HQ1.out 1 _ rfl
    go_wp2_with fail
    clear xHQ0 xHQ1
    refine (HU.out _ HB1.out (HX1.out 0 _ rfl) (HX1.out 1 _ rfl)).mono ?_
    rintro e w2 ⟨ap, np, cp, rfl, hb, ho⟩
    have HI : Hid (PutsO w2 (.slice ap np cp) (if FB = true then PJ else []) (fun b => w.heap.size + 1 < b ∧ b < w2.heap.size)) := ho.mono fun b hb' => ⟨by have := hb'.1; have := HR1.out.lt; omega, hb'.2⟩
    clear ho HU
    have HB2 : Hid (Below w.heap.size w w2) := HB1.out.trans (hb.mono HB1.out.size)
    have HX2 : Hid (Bx w2 (w.heap.size) [.slice a1 n1 c1, .slice a2 n2 c2]) := HX1.out.later hb
    have HR2 : Hid (OwnRow w2 (w.heap.size + 1) 3 (cel [.int .i64 0, .bool false, .slice none 0 0])) := HR1.out.later hb
    have HQ2 : Hid (Bx w2 w1.heap.size [.int .i64 0, .int .i64 q]) := HQ1.out.later hb
    clear hb
    cases hk : FB with
    | false =>
      have HE : Hid (RES = (0, false, [])) := HNO.out hk
      subst hk
      clear HNO HYES HI
      have hrr := HR2.out
      have t0 : w2.cell? ⟨w.heap.size + 1, 0, none⟩ = some (.int .i64 0) := hrr.cell (i := 0) (by omega)
      have t1 : w2.cell? ⟨w.heap.size + 1, 1, none⟩ = some (.bool false) := hrr.cell (i := 1) (by omega)
      have t2 : w2.cell? ⟨w.heap.size + 1, 2, none⟩ = some (.slice none 0 0) := hrr.cell (i := 2) (by omega)
      have f0 := hrr.frozen 0
      have f1 := hrr.frozen 1
      have f2 := hrr.frozen 2
      have hlr := hrr.lt
      clear hrr
      go_wp2
      exact bodyPost_ret (v := .agg #[.int .i64 0, .bool false, .slice none 0 0]) (by simp [results, Try.results25, go_sem, t0, t1, t2]) rfl (⟨none, 0, 0, by rw [HE.out], (((HB2.out).setCell (by first | omega | (simp <;> omega)) _).setCell (by first | omega | (simp <;> omega)) _).setCell (by first | omega | (simp <;> omega)) _, by rw [HE.out]; exact Or.inl ⟨rfl, none, 0, rfl⟩⟩)
    | true =>
      have HE : Hid (RES = (0, true, PJ)) := HYES.out hk
      subst hk
      replace HI : Hid (PutsO w2 (.slice ap np cp) PJ (fun b => w.heap.size + 1 < b ∧ b < w2.heap.size)) := HI.out
      clear HNO HYES
      have hrr := HR2.out
      have t0 : w2.cell? ⟨w.heap.size + 1, 0, none⟩ = some (.int .i64 0) := hrr.cell (i := 0) (by omega)
      have t1 : w2.cell? ⟨w.heap.size + 1, 1, none⟩ = some (.bool false) := hrr.cell (i := 1) (by omega)
      have t2 : w2.cell? ⟨w.heap.size + 1, 2, none⟩ = some (.slice none 0 0) := hrr.cell (i := 2) (by omega)
      have f0 := hrr.frozen 0
      have f1 := hrr.frozen 1
      have f2 := hrr.frozen 2
      have hlr := hrr.lt
      clear hrr
      go_wp2
      exact bodyPost_ret (v := .agg #[.int .i64 0, .bool true, .slice ap np cp]) (by simp [results, Try.results25, go_sem, t0, t1, t2]) rfl (⟨ap, np, cp, by rw [HE.out], (((HB2.out).setCell (by first | omega | (simp <;> omega)) _).setCell (by first | omega | (simp <;> omega)) _).setCell (by first | omega | (simp <;> omega)) _, by rw [HE.out]; exact (((HI.out.store (fun b hb => by have := hb.1; show b ≠ w.heap.size + 1; omega) _).store (fun b hb => by have := hb.1; show b ≠ w.heap.size + 1; omega) _).store (fun b hb => by have := hb.1; show b ≠ w.heap.size + 1; omega) _).mono fun b hb => ⟨by omega, by simpa [World.setCell] using hb.2⟩⟩)
  · skip
    have hfb : (r != 0) = true := by simpa using hf
    have HE : Hid (RES = (r, false, [])) := HBAD.out hf
    clear HBAD HNO HYES HU HF hf
    have xHQ0 := HQ1.out 0 _ rfl
    have xHQ1 := HQ1.out 1 _ rfl
    have hrr := HR1.out
    have t0 : (w1.alloc (.cells #[.int .i64 r, .int .i64 q] 34)).cell? ⟨w.heap.size + 1, 0, none⟩ = some (.int .i64 0) := hrr.cell (i := 0) (by omega)
    have t1 : (w1.alloc (.cells #[.int .i64 r, .int .i64 q] 34)).cell? ⟨w.heap.size + 1, 1, none⟩ = some (.bool false) := hrr.cell (i := 1) (by omega)
    have t2 : (w1.alloc (.cells #[.int .i64 r, .int .i64 q] 34)).cell? ⟨w.heap.size + 1, 2, none⟩ = some (.slice none 0 0) := hrr.cell (i := 2) (by omega)
    have f0 := hrr.frozen 0
    have f1 := hrr.frozen 1
    have f2 := hrr.frozen 2
    have hlr := hrr.lt
    clear hrr
    go_wp2
    exact bodyPost_ret (v := .agg #[.int .i64 r, .bool false, .slice none 0 0]) (by simp [results, Try.results25, go_sem, t0, t1, t2]) rfl (⟨none, 0, 0, by rw [HE.out], (((HB1.out).setCell (by first | omega | (simp <;> omega)) _).setCell (by first | omega | (simp <;> omega)) _).setCell (by first | omega | (simp <;> omega)) _, by rw [HE.out]; exact Or.inl ⟨rfl, none, 0, rfl⟩⟩)

end Go.Proofs.Ytagmmgcdebgfnaa

namespace Go.Proofs.Ytagmmgcdebgfnaa
open Go.RowKit
set_option maxRecDepth 100000

def superS (q : Int) : List SD := [(true, 0, []), (false, 0, [7, q + 1]), (true, 0, [])]
def putsS (ps : List (Int × List Int)) : List SD := ps.map fun p => (false, p.1, p.2)
theorem putsS_len (ps : List (Int × List Int)) : (putsS ps).length = ps.length := by simp [putsS]
theorem putsS_get (ps : List (Int × List Int)) {i : Nat} (h : i < ps.length) : (putsS ps)[i]?.getD sd0 = (false, (ps[i]?.getD (0, [])).1, (ps[i]?.getD (0, [])).2) := by
  unfold putsS
  rw [List.getElem?_map, List.getElem?_eq_getElem h]
  rfl
def homeS (q : Int) (ps : List (Int × List Int)) : List SD := putsS ps ++ superS q
theorem two_getD (xs ys : List SD) (i : Nat) : (xs ++ ys)[i]?.getD sd0 = if i < xs.length then xs[i]?.getD sd0 else ys[i - xs.length]?.getD sd0 := by
  by_cases h : i < xs.length
  · rw [if_pos h, List.getElem?_append_left h]
  · rw [if_neg h, List.getElem?_append_right (by omega)]
/-- PlanMount: its code and its steps. -/
def planR (d : DK) : Int × List SD :=
  if (scanR d).1 = 0 then (if (scanR d).2.1 = true ∧ ¬ (seqR d).2 = 60000 then (0, homeS (seqR d).2 (scanR d).2.2) else (0, [])) else ((scanR d).1, [])
theorem scan_code (d : DK) : (scanR d).1 = (seqR d).1 := by
  by_cases h0 : (seqR d).1 = 0
  · cases hf : foundB (fun k => atF d.1 d.2 k) (seqR d).2 with
    | true => rw [scanR_yes h0 hf, h0]
    | false => rw [scanR_no h0 hf, h0]
  · rw [scanR_bad h0]
theorem planR_bad {d : DK} (h : ¬ (seqR d).1 = 0) : planR d = ((seqR d).1, []) := by unfold planR; rw [scan_code, if_neg h]
theorem planR_no {d : DK} (h : (seqR d).1 = 0) (hf : foundB (fun k => atF d.1 d.2 k) (seqR d).2 = false) : planR d = (0, []) := by
  unfold planR; rw [scan_code, if_pos h, scanR_no h hf, if_neg (by simp)]
theorem planR_last {d : DK} (h : (seqR d).1 = 0) (_hf : foundB (fun k => atF d.1 d.2 k) (seqR d).2 = true) (hq : (seqR d).2 = 60000) : planR d = (0, []) := by
  unfold planR; rw [scan_code, if_pos h, if_neg (by rw [hq]; simp)]
theorem planR_yes {d : DK} (h : (seqR d).1 = 0) (hf : foundB (fun k => atF d.1 d.2 k) (seqR d).2 = true) (hq : ¬ (seqR d).2 = 60000) : planR d = (0, homeS (seqR d).2 (putsJ fun k => atF d.1 d.2 k)) := by
  unfold planR; rw [scan_code, if_pos h, scanR_yes h hf, if_pos ⟨rfl, hq⟩]
theorem seq_in {d : DK} (h : (seqR d).1 = 0) : 1 ≤ (seqR d).2 ∧ (seqR d).2 ≤ 60000 := by
  obtain ⟨_, h2, h3⟩ := seqR_zero h
  rw [h3]
  exact (superB_in h2).2.2
theorem putsJ_small {d : DK} (hs : sizeDisk d ≤ 1048576) (i : Nat) : ((putsJ fun k : Nat => atF d.1 d.2 k)[i]?.getD (0, [])).2.length ≤ 1048576 := by
  by_cases hi : i < (putsJ fun k : Nat => atF d.1 d.2 k).length
  · rw [putsJ_get _ i (by rw [putsJ_len] at hi; exact hi)]
    exact atF_len (dsize_blk hs) (dsize_put hs)
  · rw [List.getElem?_eq_none (by omega)]; simp
theorem putsJ_ten {d : DK} (hf : foundB (fun k => atF d.1 d.2 k) (seqR d).2 = true) : (putsJ fun k : Nat => atF d.1 d.2 k).length ≤ 10 := by
  rw [putsJ_len]
  unfold foundB at hf
  rw [Bool.and_eq_true] at hf
  exact (headB_len hf.1).2.2

set_option maxHeartbeats 3200000 in
theorem l13Puts_any (w : World) (a : Option Addr) (c : Nat) (ps : List (Int × List Int)) (h : Puts w (.slice a ps.length c) ps) (hn : ps.length ≤ 1000) (hz : ∀ i : Nat, (ps[i]?.getD (0, [])).2.length ≤ 1048576) :
    Calls Try.prog 75 #[.slice a ps.length c] w fun e w' => ∃ a' c' u G, e = .returned (.slice a' ps.length c') ∧ Below w.heap.size w w' ∧ GRow StpP w' w.heap.size 27 3 (.slice a' ps.length c') ps.length (fun i => (putsS ps)[i]?.getD sd0) u G := by
  obtain ⟨_, _, e1, _, hA⟩ := h.open'
  simp only [Value.slice.injEq] at e1
  obtain ⟨rfl, -, rfl⟩ := e1
  have HA : Hid (AtP w a ps.length ps) := hA
  have HG : Hid (∀ i, i < ps.length → (putsS ps)[i]?.getD sd0 = (false, (ps[i]?.getD (0, [])).1, (ps[i]?.getD (0, [])).2)) := fun i hi => putsS_get ps hi
  have HZ : Hid (∀ i : Nat, (ps[i]?.getD (0, [])).2.length ≤ 1048576) := hz
  clear h hA hz
  generalize putsS ps = XS at *
  generalize ps.length = n at *
  go_enter Try.func75, Try.ntmps75
  go_wp2
  go_loopw [3, 4] (fun s i wr => ∃ (j : Nat) (u : Nat → List Value) (G : Nat → Nat → Prop), j ≤ n ∧ i = .int .i64 j ∧ Below w.heap.size w wr ∧ GRow StpP wr w.heap.size 27 3 s j (fun k => XS[k]?.getD sd0) u G) (fun _ i _ => n - (intOf i).toNat)
  case atStart => exact ⟨0, _, _, Nat.zero_le _, rfl, later1 _ _, GRow.lit0 w _ (Nat.le_refl _) _ _ _⟩
  case round =>
    obtain ⟨j, u, G, hj, rfl, hbl, hrow⟩ := hrel
    obtain ⟨aQ, cQ, rfl⟩ := hrow.shape
    have HBL : Hid (Below w.heap.size w wr) := hbl
    have HRX : Hid (GRow StpP wr w.heap.size 27 3 (.slice aQ j cQ) j (fun k => XS[k]?.getD sd0) u G) := hrow
    clear hrow
    by_cases hlt : j < n
    · have HGJ : Hid (XS[j]?.getD sd0 = (false, (ps[j]?.getD (0, [])).1, (ps[j]?.getD (0, [])).2)) := HG.out j hlt
      obtain ⟨b, o, ua, uc, rfl, k0, k1, k2⟩ := HA.out j hlt
      replace k0 := cell_later hbl k0
      replace k1 := cell_later hbl k1
      have HI : Hid (Ints wr.drew (.slice ua (ps[j]?.getD (0, [])).2.length uc) (ps[j]?.getD (0, [])).2) := k2.later hbl.drew
      have HLW : Hid ((ps[j]?.getD (0, [])).2.length ≤ 1048576) := HZ.out j
      clear hbl k2 HG HZ
      generalize (ps[j]?.getD (0, [])).1 = x at *
      generalize (ps[j]?.getD (0, [])).2 = ws at *
      have HCP : Hid (Calls Try.prog 95 #[.slice ua ws.length uc] wr.drew fun e w1 => ∃ av cv g cap X u' G', e = .returned (.slice av ws.length cv) ∧ Hid (Below wr.heap.size wr w1) ∧
          Hid ((Builtin.append_ #[36, 36] 36 #[.slice aQ j cQ, .slice (some ⟨w1.heap.size, 0, none⟩) 1 1]).run Try.prog (w1.alloc (.cells #[.bool false, .int .i64 x, .slice av ws.length cv] 27)) = .ok (.slice (some ⟨g, 0, none⟩) (j + 1) cap) X) ∧ Hid (Below w.heap.size wr X) ∧ Hid (GRow StpP X w.heap.size 27 3 (.slice (some ⟨g, 0, none⟩) (j + 1) cap) (j + 1) (fun k => XS[k]?.getD sd0) u' G')) := by
        refine (l1IntsC HI.out HLW.out).mono ?_
        rintro e w1 ⟨av, cv, rfl, hb1', ho1, _, _⟩
        have hb1 : Below wr.heap.size wr w1 := (Below.refl _ _).drew.trans hb1'
        obtain ⟨g, cap, X, u', G', hr, hbx, _, hgx, -⟩ := append_stpG wr w1 w.heap.size j _ _ u G HRX.out HBL.out.size (by omega) hb1 false x av _ cv ws HGJ.out _ (fun c hc => hc) rfl ho1 w1.heap.size rfl
        exact ⟨av, cv, g, cap, X, u', G', rfl, hb1, hr, hbx, hgx⟩
      clear HI HLW HGJ HRX
      generalize ws.length = lw at *
      go_wp2_with fail
      go_region_law (first
        | (refine step_append_run rfl _ _ 36 rfl _ _ rfl rfl _ _ HR.out ?_)
        | (try go_simp; go_at_call 95; refine HCP.out.mono ?_; rintro e w1 ⟨av, cv, g, cap, X, u', G', rfl, HB1, HR, HBX, HGX⟩
           have y0 := cell_later HB1.out k0))
      all_goals
        clear HCP HR
        go_wp2
        go_roundw
        case rel => exact ⟨j + 1, _, _, by omega, by go_num, HBL.out.trans HBX.out, HGX.out⟩
        case measure => simp [intOf]; omega
    · have e : j = n := by omega
      subst e
      clear HA HG hbl
      go_wp2
      go_ret
      exact ⟨_, _, _, _, rfl, HBL.out, HRX.out⟩
theorem l13Super_any (w : World) (q : Int) (h0 : 0 ≤ q) (h1 : q ≤ 60000) :
    Calls Try.prog 76 #[.int .i64 q] w fun e w' => ∃ a' c' u G, e = .returned (.slice a' 3 c') ∧ Below w.heap.size w w' ∧ GRow StpP w' w.heap.size 27 3 (.slice a' 3 c') 3 (fun i => (superS q)[i]?.getD sd0) u G := by
  go_enter Try.func76, Try.ntmps76
  go_wp2
  go_ret
  have hbw := later1 w (.cells #[.int .i64 7, .int .i64 (q + 1)] 2)
  have hbx := later1 (w.alloc (.cells #[.int .i64 7, .int .i64 (q + 1)] 2)) (.cells #[.bool true, .int .i64 0, .slice none 0 0, .bool false, .int .i64 0, .slice (some ⟨w.heap.size, 0, none⟩) 2 2, .bool true, .int .i64 0, .slice none 0 0] 27)
  have hr := OwnRow.newS w (.int .i64 7) (.int .i64 (q + 1)) 2
  have hI : IntsO (w.alloc (.cells #[.int .i64 7, .int .i64 (q + 1)] 2)) (.slice (some ⟨w.heap.size, 0, none⟩) 2 2) [7, q + 1] (fun c => c = w.heap.size) := Or.inr ⟨w.heap.size, 2, rfl, rfl, by unfold maxLen; simp, hr.congr fun i hi => by
    rcases (show i = 0 ∨ i = 1 by have hi' : i < 2 := hi; omega) with rfl | rfl <;> rfl⟩
  have hown := World.ownsRow_lit (base := w.heap.size) (e := 27) (size := 3) (w.alloc (.cells #[.int .i64 7, .int .i64 (q + 1)] 2)) #[.bool true, .int .i64 0, .slice none 0 0, .bool false, .int .i64 0, .slice (some ⟨w.heap.size, 0, none⟩) 2 2, .bool true, .int .i64 0, .slice none 0 0] 3 (by simp) (by unfold maxLen; omega) rfl
  rw [World.size_alloc] at hown
  refine ⟨_, _, fun i => if i = 1 then [.bool false, .int .i64 0, .slice (some ⟨w.heap.size, 0, none⟩) 2 2] else [.bool true, .int .i64 0, .slice none 0 0], fun i c => i = 1 ∧ c = w.heap.size, rfl, later2 _ _ _, ⟨hown, fun i hi => ?_, fun i c _ hc => ?_, fun i c _ hc => ?_, fun i j c _ _ e h1 h2 => ?_, fun i hi => ?_⟩⟩
  · split <;> rfl
  · rw [hc.2]; simp; omega
  · rw [hc.2]; simp [Value.ownBlock]
  · omega
  · rcases (show i = 0 ∨ i = 1 ∨ i = 2 by omega) with rfl | rfl | rfl
    · exact ⟨none, 0, rfl, Or.inl ⟨rfl, none, 0, rfl⟩⟩
    · exact ⟨some ⟨w.heap.size, 0, none⟩, 2, rfl, (hI.later hbx).mono fun c hc => ⟨rfl, hc⟩⟩
    · exact ⟨none, 0, rfl, Or.inl ⟨rfl, none, 0, rfl⟩⟩
end Go.Proofs.Ytagmmgcdebgfnaa

namespace Go.Proofs.Ytagmmgcdebgfnaa
open Go.RowKit
set_option maxRecDepth 100000

def AnsSR (w : World) (r : Int × List SD) (e : Ending) (w' : World) : Prop := ∃ a n c, e = .returned (.agg #[.int .i64 r.1, .slice a n c]) ∧ Below w.heap.size w w' ∧ StpsO w' (.slice a n c) r.2 (fresh w w')
theorem StpsO.store {w : World} {v : Value} {ds : List SD} {F : Nat → Prop} (h : StpsO w v ds F) {p : Addr} (hp : ∀ b, F b → b ≠ p.block) (x : Value) : StpsO (w.setCell p x) v ds F := h.keep fun b hb _ => Below.heap_setCell _ _ _ _ (hp b hb)
theorem AnsSR.putB {w W : World} {rb : Nat} {r : Int} {zs : List SD} {a : Option Addr} {n c : Nat} (hB : Below w.heap.size w W) (hrb : w.heap.size ≤ rb) (hY : StpsO W (.slice a n c) zs (fun b => rb < b ∧ b < W.heap.size)) (x y : Value) : AnsSR w (r, zs) (.returned (.agg #[.int .i64 r, .slice a n c])) ((W.setCell ⟨rb, 0, none⟩ x).setCell ⟨rb, 1, none⟩ y) := by
  refine ⟨a, n, c, rfl, (hB.setCell hrb _).setCell hrb _, ?_⟩
  refine ((hY.store (fun b hb => by have := hb.1; show b ≠ rb; omega) x).store (fun b hb => by have := hb.1; show b ≠ rb; omega) y).mono fun b hb => ⟨by omega, ?_⟩
  simpa [World.setCell] using hb.2
theorem AnsSR.badB {w W : World} {rb : Nat} (r : Int) (hB : Below w.heap.size w W) (hrb : w.heap.size ≤ rb) (x y : Value) : AnsSR w (r, []) (.returned (.agg #[.int .i64 r, .slice none 0 0])) ((W.setCell ⟨rb, 0, none⟩ x).setCell ⟨rb, 1, none⟩ y) := AnsSR.putB hB hrb (Or.inl ⟨rfl, _, _, rfl⟩) x y

set_option maxHeartbeats 3200000 in
theorem specPlanU (w : World) (a1 : Option Addr) (n1 c1 : Nat) (a2 : Option Addr) (n2 c2 : Nat) (d : DK) (h : DiskR w (.slice a1 n1 c1) (.slice a2 n2 c2) d) (hs : sizeDisk d ≤ 1048576) :
    Calls Try.prog 31 #[.agg #[.slice a1 n1 c1, .slice a2 n2 c2]] w (AnsSR w (planR d)) := by
  have HF : Hid (∀ W, Below w.heap.size w W → Calls Try.prog 21 #[.agg #[.slice a1 n1 c1, .slice a2 n2 c2]] W fun e w' => e = .returned (.agg #[.int .i64 (seqR d).1, .int .i64 (seqR d).2]) ∧ Below W.heap.size W w') := fun W hW => specSeqU W _ _ _ _ _ _ d (h.later hW) hs
  have HU : Hid ((seqR d).1 = 0 → ∀ W, Below w.heap.size w W → W.cell? ⟨w.heap.size, 0, none⟩ = some (.slice a1 n1 c1) → W.cell? ⟨w.heap.size, 1, none⟩ = some (.slice a2 n2 c2) → Calls Try.prog 67 #[.pointer (some ⟨w.heap.size, 0, none⟩), .int .i64 (seqR d).2] W fun e w' => ∃ a n c, e = .returned (.tuple #[.slice a n c, .bool (foundB (fun k => atF d.1 d.2 k) (seqR d).2)]) ∧ Below W.heap.size W w' ∧ PutsO w' (.slice a n c) (if foundB (fun k => atF d.1 d.2 k) (seqR d).2 = true then putsJ (fun k => atF d.1 d.2 k) else []) (fresh W w')) := fun h0 W hW x0 x1 => found_spec w _ _ _ _ _ _ d h hs h0 W _ _ hW x0 x1
  have HBAD : Hid (¬ (seqR d).1 = 0 → planR d = ((seqR d).1, [])) := planR_bad
  have HNO : Hid ((seqR d).1 = 0 → foundB (fun k => atF d.1 d.2 k) (seqR d).2 = false → planR d = (0, [])) := planR_no
  have HLA : Hid ((seqR d).1 = 0 → foundB (fun k => atF d.1 d.2 k) (seqR d).2 = true → (seqR d).2 = 60000 → planR d = (0, [])) := planR_last
  have HYES : Hid ((seqR d).1 = 0 → foundB (fun k => atF d.1 d.2 k) (seqR d).2 = true → ¬ (seqR d).2 = 60000 → planR d = (0, homeS (seqR d).2 (putsJ fun k => atF d.1 d.2 k))) := planR_yes
  have HIN : Hid ((seqR d).1 = 0 → 1 ≤ (seqR d).2 ∧ (seqR d).2 ≤ 60000) := seq_in
  have HTEN : Hid (foundB (fun k => atF d.1 d.2 k) (seqR d).2 = true → (putsJ fun k => atF d.1 d.2 k).length ≤ 10) := putsJ_ten
  have HSM : Hid (∀ i : Nat, ((putsJ fun k => atF d.1 d.2 k)[i]?.getD (0, [])).2.length ≤ 1048576) := putsJ_small hs
  clear h
  generalize (seqR d).1 = r at *
  generalize (seqR d).2 = q at *
  generalize foundB (fun k => atF d.1 d.2 k) q = FB at *
  generalize (putsJ fun k => atF d.1 d.2 k) = PJ at *
  generalize planR d = RES at *
  have HB0 : Hid (Below w.heap.size w ((w.alloc (.cells #[.slice a1 n1 c1, .slice a2 n2 c2] 49)).alloc (.cells #[.int .i64 0, .slice none 0 0] 60))) := later2 _ _ _
  have HX0 : Hid (Bx ((w.alloc (.cells #[.slice a1 n1 c1, .slice a2 n2 c2] 49)).alloc (.cells #[.int .i64 0, .slice none 0 0] 60)) (w.heap.size) [.slice a1 n1 c1, .slice a2 n2 c2]) := (Bx.new w [.slice a1 n1 c1, .slice a2 n2 c2] _).later (later1 _ _)
  have HR0 : Hid (OwnRow ((w.alloc (.cells #[.slice a1 n1 c1, .slice a2 n2 c2] 49)).alloc (.cells #[.int .i64 0, .slice none 0 0] 60)) (w.heap.size + 1) 2 (cel [.int .i64 0, .slice none 0 0])) := (show OwnRow ((w.alloc (.cells #[.slice a1 n1 c1, .slice a2 n2 c2] 49)).alloc (.cells #[.int .i64 0, .slice none 0 0] 60)) (w.heap.size + 1) 2 (cel [.int .i64 0, .slice none 0 0]) from by have := newCel (w.alloc (.cells #[.slice a1 n1 c1, .slice a2 n2 c2] 49)) [.int .i64 0, .slice none 0 0] 60; rw [World.size_alloc] at this; exact this)
  go_enter Try.func31, Try.ntmps31
  have xHX0 := HX0.out 0 _ rfl
  have xHX1 := HX0.out 1 _ rfl
  go_wp2_with fail
  clear xHX0 xHX1
  refine (HF.out _ HB0.out).mono ?_
  rintro e w1 ⟨rfl, hb⟩
  have hb' : Below ((w.alloc (.cells #[.slice a1 n1 c1, .slice a2 n2 c2] 49)).alloc (.cells #[.int .i64 0, .slice none 0 0] 60)).heap.size ((w.alloc (.cells #[.slice a1 n1 c1, .slice a2 n2 c2] 49)).alloc (.cells #[.int .i64 0, .slice none 0 0] 60)) (w1.alloc (.cells #[.int .i64 r, .int .i64 q] 34)) := hb.trans ((later1 _ _).mono hb.size)
  have HB1 : Hid (Below w.heap.size w (w1.alloc (.cells #[.int .i64 r, .int .i64 q] 34))) := HB0.out.trans (hb'.mono HB0.out.size)
  have HX1 : Hid (Bx (w1.alloc (.cells #[.int .i64 r, .int .i64 q] 34)) (w.heap.size) [.slice a1 n1 c1, .slice a2 n2 c2]) := HX0.out.later hb'
  have HR1 : Hid (OwnRow (w1.alloc (.cells #[.int .i64 r, .int .i64 q] 34)) (w.heap.size + 1) 2 (cel [.int .i64 0, .slice none 0 0])) := HR0.out.later hb'
  clear hb hb'
  have HQ1 : Hid (Bx (w1.alloc (.cells #[.int .i64 r, .int .i64 q] 34)) w1.heap.size [.int .i64 r, .int .i64 q]) := Bx.new w1 [.int .i64 r, .int .i64 q] _
  by_cases hf : r = 0
  · skip
    replace HU : Hid _ := HU.out hf
    replace HNO : Hid _ := HNO.out hf
    replace HYES : Hid _ := HYES.out hf
    replace HLA : Hid _ := HLA.out hf
    replace HIN : Hid _ := HIN.out hf
    clear HBAD HF
    subst hf
    obtain ⟨hq0, hq1⟩ := HIN.out
    have xHQ0 := HQ1.out 0 _ rfl
    have xHQ1 := HQ1.out 1 _ rfl
    go_wp2_with fail
    clear xHQ0 xHQ1
    refine (HU.out _ HB1.out (HX1.out 0 _ rfl) (HX1.out 1 _ rfl)).mono ?_
    rintro e w2 ⟨ap, np, cp, rfl, hb, ho⟩
    clear HU
    cases hk : FB with
    | false =>
      have HE : Hid (RES = (0, [])) := HNO.out hk
      subst hk
      clear HNO HYES HLA HTEN ho
      have HB2 : Hid (Below w.heap.size w w2) := HB1.out.trans (hb.mono HB1.out.size)
      have HX2 : Hid (Bx w2 (w.heap.size) [.slice a1 n1 c1, .slice a2 n2 c2]) := HX1.out.later hb
      have HR2 : Hid (OwnRow w2 (w.heap.size + 1) 2 (cel [.int .i64 0, .slice none 0 0])) := HR1.out.later hb
      have HQ2 : Hid (Bx w2 w1.heap.size [.int .i64 0, .int .i64 q]) := HQ1.out.later hb
      clear hb
      have hrr := HR2.out
      have t0 : w2.cell? ⟨w.heap.size + 1, 0, none⟩ = some (.int .i64 0) := hrr.cell (i := 0) (by omega)
      have t1 : w2.cell? ⟨w.heap.size + 1, 1, none⟩ = some (.slice none 0 0) := hrr.cell (i := 1) (by omega)
      have f0 := hrr.frozen 0
      have f1 := hrr.frozen 1
      have hlr := hrr.lt
      clear hrr
      go_wp2
      exact bodyPost_ret (v := .agg #[.int .i64 0, .slice none 0 0]) (by simp [results, Try.results31, go_sem, t0, t1]) rfl (by rw [HE.out]; exact AnsSR.badB 0 HB2.out (by omega) _ _)
    | true =>
      subst hk
      replace ho : PutsO w2 (.slice ap np cp) PJ _ := ho
      obtain ⟨_, _, ep, _⟩ := ho.puts.open'
      simp only [Value.slice.injEq] at ep
      obtain ⟨rfl, rfl, rfl⟩ := ep
      have HP : Hid (Puts w2 (.slice ap PJ.length cp) PJ) := ho.puts
      have h10 := HTEN.out rfl
      clear HNO HTEN ho
      have HB2 : Hid (Below w.heap.size w w2) := HB1.out.trans (hb.mono HB1.out.size)
      have HX2 : Hid (Bx w2 (w.heap.size) [.slice a1 n1 c1, .slice a2 n2 c2]) := HX1.out.later hb
      have HR2 : Hid (OwnRow w2 (w.heap.size + 1) 2 (cel [.int .i64 0, .slice none 0 0])) := HR1.out.later hb
      have HQ2 : Hid (Bx w2 w1.heap.size [.int .i64 0, .int .i64 q]) := HQ1.out.later hb
      clear hb
      by_cases hq : q = 60000
      · skip
        have HE : Hid (RES = (0, [])) := HLA.out rfl hq
        subst hq
        clear HLA HYES HP
        have xHQ0 := HQ2.out 0 _ rfl
        have xHQ1 := HQ2.out 1 _ rfl
        have hrr := HR2.out
        have t0 : w2.cell? ⟨w.heap.size + 1, 0, none⟩ = some (.int .i64 0) := hrr.cell (i := 0) (by omega)
        have t1 : w2.cell? ⟨w.heap.size + 1, 1, none⟩ = some (.slice none 0 0) := hrr.cell (i := 1) (by omega)
        have f0 := hrr.frozen 0
        have f1 := hrr.frozen 1
        have hlr := hrr.lt
        clear hrr
        go_wp2
        exact bodyPost_ret (v := .agg #[.int .i64 0, .slice none 0 0]) (by simp [results, Try.results31, go_sem, t0, t1]) rfl (by rw [HE.out]; exact AnsSR.badB 0 HB2.out (by omega) _ _)
      · skip
        have HE : Hid (RES = (0, homeS q PJ)) := HYES.out rfl hq
        have hq2 : q ≤ 59999 := by omega
        have hqb : decide (60000 ≤ q) = false := by simp; omega
        clear HLA HYES
        have xHQ0 := HQ2.out 0 _ rfl
        have xHQ1 := HQ2.out 1 _ rfl
        go_wp2_with fail
        have HLP : Hid (Calls Try.prog 75 #[.slice ap PJ.length cp] w2.drew _) := l13Puts_any w2.drew ap cp PJ (HP.out.later (Below.refl _ _).drew) (by omega) HSM.out
        have HLS : Hid (∀ W, Calls Try.prog 76 #[.int .i64 q] W _) := fun W => l13Super_any W q (by omega) (by omega)
        have HHS : Hid (homeS q PJ = putsS PJ ++ superS q) := rfl
        have HPL : Hid ((putsS PJ).length = PJ.length) := putsS_len PJ
        have HSL : Hid ((superS q).length = 3) := rfl
        have hlr := HR2.out.lt
        clear HP HSM
        generalize homeS q PJ = HS at *
        generalize putsS PJ = PS at *
        generalize superS q = SS at *
        generalize PJ.length = n at *
        go_region_law (first
          | (refine step_append_run rfl _ _ 36 rfl _ _ rfl rfl _ _ HR.out ?_)
          | (try go_simp; first
              | (go_at_call 75; refine HLP.out.mono ?_; rintro e w3 ⟨av, cv, u1, G1, rfl, hb3, hg1⟩
                 have HB3' : Hid (Below w2.heap.size w2 w3) := (Below.refl _ _).drew.trans hb3
                 have d1 := cell_later HB3'.out xHQ1
                 have HG1 : Hid (GRow StpP w3 w2.heap.size 27 3 (.slice av n cv) n (fun i => PS[i]?.getD sd0) u1 G1) := hg1
                 clear hb3 hg1)
              | (go_at_call 76; refine (HLS.out _).mono ?_; rintro e w4 ⟨bv, dv, u2, G2, rfl, hb4, hg2⟩
                 have HB4' : Hid (Below w2.heap.size w2 w4) := HB3'.out.trans (hb4.mono HB3'.out.size)
                 obtain ⟨g, cap, X, u', G', hr, hbx, hgx, -, -⟩ := append_stpsG w4 w2.heap.size n 3 (.slice av n cv) (.slice bv 3 dv) _ _ u1 u2 G1 G2 (HG1.out.later StpP.steady hb4) (hg2.low HB3'.out.size) HB4'.out.size (by decide) (by omega) (fun j c hj hc e => by have := (hg2.lo j c hj hc).1; have := (HG1.out.own.lt c e).2; omega) (fun i j c hi hj h1 h2 => by have := (hg2.lo j c hj h2).1; have := (HG1.out.lo i c hi h1).2; omega)
                 have HR : Hid (_ = _) := hr
                 have HBX : Hid (Below w2.heap.size w2 X) := HB4'.out.trans (hbx w2.heap.size HB4'.out.size fun g hg => (HG1.out.own.lt g hg).1)
                 have HGX : Hid (GRow StpP X w2.heap.size 27 3 (.slice (some ⟨g, 0, none⟩) (n + 3) cap) (n + 3) (fun i => if i < n then PS[i]?.getD sd0 else SS[i - n]?.getD sd0) u' G') := hgx
                 have hrr := HR2.out.later HBX.out
                 have t0 : X.cell? ⟨w.heap.size + 1, 0, none⟩ = some (.int .i64 0) := hrr.cell (i := 0) (by omega)
                 have t1 : X.cell? ⟨w.heap.size + 1, 1, none⟩ = some (.slice none 0 0) := hrr.cell (i := 1) (by omega)
                 have f0 := hrr.frozen 0
                 have f1 := hrr.frozen 1
                 have hlx := hrr.lt
                 clear hr hbx hgx hb4 hg2 hrr)))
        all_goals
          have HY : Hid (StpsO X (.slice (some ⟨g, 0, none⟩) (n + 3) cap) HS (fun b => w.heap.size + 1 < b ∧ b < X.heap.size)) := by
            rw [HHS.out]
            exact (HGX.out.congr (x' := fun i => (PS ++ SS)[i]?.getD sd0) fun i _ => by rw [two_getD, HPL.out]).stps (by rw [List.length_append, HPL.out, HSL.out]) _ fun c h1 h2 => ⟨by omega, h2⟩
          have HBW : Hid (Below w.heap.size w X) := HB2.out.trans (HBX.out.mono HB2.out.size)
          clear HLP HLS HR HGX HG1 HB3' HB4' d1
          go_wp2
          exact bodyPost_ret (v := .agg #[.int .i64 0, .slice (some ⟨g, 0, none⟩) (n + 3) cap]) (by simp [results, Try.results31, go_sem, t0, t1]) rfl (by rw [HE.out]; exact AnsSR.putB HBW.out (by omega) HY.out _ _)
  · skip
    have hfb : (r != 0) = true := by simpa using hf
    have HE : Hid (RES = (r, [])) := HBAD.out hf
    clear HBAD HNO HYES HU HF HLA HIN hf
    have xHQ0 := HQ1.out 0 _ rfl
    have xHQ1 := HQ1.out 1 _ rfl
    have hrr := HR1.out
    have t0 : (w1.alloc (.cells #[.int .i64 r, .int .i64 q] 34)).cell? ⟨w.heap.size + 1, 0, none⟩ = some (.int .i64 0) := hrr.cell (i := 0) (by omega)
    have t1 : (w1.alloc (.cells #[.int .i64 r, .int .i64 q] 34)).cell? ⟨w.heap.size + 1, 1, none⟩ = some (.slice none 0 0) := hrr.cell (i := 1) (by omega)
    have f0 := hrr.frozen 0
    have f1 := hrr.frozen 1
    have hlr := hrr.lt
    clear hrr
    go_wp2
    exact bodyPost_ret (v := .agg #[.int .i64 r, .slice none 0 0]) (by simp [results, Try.results31, go_sem, t0, t1]) rfl (by rw [HE.out]; exact AnsSR.badB r HB1.out (by omega) _ _)

end Go.Proofs.Ytagmmgcdebgfnaa

namespace Go.Proofs.Ytagmmgcdebgfnaa
open Go.RowKit
set_option maxRecDepth 100000

theorem superW_any (w : World) (s : Int) : Calls Try.prog 98 #[.int .i64 s] w fun e w' => e = .returned (.slice (some ⟨w.heap.size, 0, none⟩) 2 2) ∧ Below w.heap.size w w' ∧ IntsO w' (.slice (some ⟨w.heap.size, 0, none⟩) 2 2) [7, s] (fun c => c = w.heap.size) ∧ w'.heap.size = w.heap.size + 1 := by
  go_enter Try.func98, Try.ntmps98
  go_wp2
  go_ret
  have hr := OwnRow.newS w (.int .i64 7) (.int .i64 s) 2
  refine ⟨rfl, later1 _ _, Or.inr ⟨w.heap.size, 2, rfl, rfl, by unfold maxLen; simp, hr.congr fun i hi => ?_⟩, by simp⟩
  rcases (show i = 0 ∨ i = 1 by have hi' : i < 2 := hi; omega) with rfl | rfl <;> rfl

set_option maxHeartbeats 3200000 in
theorem putStep_any (w : World) (k : Int) (x : Int) (a : Option Addr) (n c : Nat) (ws : List Int) (h : Ints w (.slice a n c) ws) (hz : ws.length ≤ 1048576) :
    Calls Try.prog 101 #[.int .i64 k, .agg #[.int .i64 x, .slice a n c]] w fun e w' => ∃ a' c', e = .returned (.agg #[.bool false, .int .i64 x, .slice a' n c']) ∧ Below w.heap.size w w' ∧ IntsO w' (.slice a' n c') ws (fresh w w') := by
  obtain ⟨_, _, e1, _⟩ := h.open'
  simp only [Value.slice.injEq] at e1
  obtain ⟨rfl, rfl, rfl⟩ := e1
  have HCP : Hid (∀ W, Below w.heap.size w W → Calls Try.prog 87 #[.slice a ws.length c] W fun e w' => ∃ a' c', e = .returned (.slice a' ws.length c') ∧ Below W.heap.size W w' ∧ IntsO w' (.slice a' ws.length c') ws (fresh W w')) := fun W hW => (copyOf_any (h.later hW) hz).mono fun e w' hh => ⟨_, _, hh⟩
  clear h
  generalize ws.length = n at *
  have HB0 : Hid (Below w.heap.size w ((w.alloc (.cells #[.int .i64 x, .slice a n c] 100)).alloc (.cells #[.bool false, .int .i64 0, .slice none 0 0] 27))) := later2 _ _ _
  have HX0 : Hid (Bx ((w.alloc (.cells #[.int .i64 x, .slice a n c] 100)).alloc (.cells #[.bool false, .int .i64 0, .slice none 0 0] 27)) (w.heap.size) [.int .i64 x, .slice a n c]) := (Bx.new w [.int .i64 x, .slice a n c] _).later (later1 _ _)
  have HR0 : Hid (OwnRow ((w.alloc (.cells #[.int .i64 x, .slice a n c] 100)).alloc (.cells #[.bool false, .int .i64 0, .slice none 0 0] 27)) (w.heap.size + 1) 3 (cel [.bool false, .int .i64 0, .slice none 0 0])) := (show OwnRow ((w.alloc (.cells #[.int .i64 x, .slice a n c] 100)).alloc (.cells #[.bool false, .int .i64 0, .slice none 0 0] 27)) (w.heap.size + 1) 3 (cel [.bool false, .int .i64 0, .slice none 0 0]) from by have := newCel (w.alloc (.cells #[.int .i64 x, .slice a n c] 100)) [.bool false, .int .i64 0, .slice none 0 0] 27; rw [World.size_alloc] at this; exact this)
  go_enter Try.func101, Try.ntmps101
  have xHX0 := HX0.out 0 _ rfl
  have xHX1 := HX0.out 1 _ rfl
  go_wp2_with fail
  generalize ((w.alloc (.cells #[.int .i64 x, .slice a n c] 100)).alloc (.cells #[.bool false, .int .i64 0, .slice none 0 0] 27)) = W at *
  go_region_with (go_at_call 87; refine (HCP.out _ HB0.out.drew).mono ?_; rintro e w1 ⟨a', c', rfl, hb, ho⟩
                  have HT1 : Hid (Below W.heap.size W w1) := (Below.refl _ _).drew.trans hb
                  have HI : Hid (IntsO w1 (.slice a' n c') ws (fun b => W.heap.size ≤ b ∧ b < w1.heap.size)) := ho
                  have y0 := cell_later HT1.out xHX0
                  have hrr := HR0.out.later HT1.out
                  have hlt := HR0.out.lt
                  have t0 : w1.cell? ⟨w.heap.size + 1, 0, none⟩ = some (.bool false) := hrr.cell (i := 0) (by omega)
                  have t1 : w1.cell? ⟨w.heap.size + 1, 1, none⟩ = some (.int .i64 0) := hrr.cell (i := 1) (by omega)
                  have t2 : w1.cell? ⟨w.heap.size + 1, 2, none⟩ = some (.slice none 0 0) := hrr.cell (i := 2) (by omega)
                  have f0 := hrr.frozen 0
                  have f1 := hrr.frozen 1
                  have f2 := hrr.frozen 2
                  clear hb ho hrr)
  all_goals
    have HB1 : Hid (Below w.heap.size w w1) := HB0.out.trans (HT1.out.mono HB0.out.size)
    have hs1 := HT1.out.size
    go_wp2
    exact bodyPost_ret (v := .agg #[.bool false, .int .i64 x, .slice a' n c']) (by simp [results, Try.results101, go_sem, t0, t1, t2]) rfl ⟨a', c', rfl, ((HB1.out.setCell (by simp) _).setCell (by simp) _).setCell (by simp) _, (((HI.out.store (fun b hb => by have := hb.1; show b ≠ w.heap.size + 1; omega) _).store (fun b hb => by have := hb.1; show b ≠ w.heap.size + 1; omega) _).store (fun b hb => by have := hb.1; show b ≠ w.heap.size + 1; omega) _).mono fun b hb => ⟨by have := hb.1; have := HB0.out.size; omega, by simpa [World.setCell] using hb.2⟩⟩

set_option maxHeartbeats 3200000 in
theorem rowsFrom_any (w : World) (x : Int) : Calls Try.prog 103 #[.int .i64 x] w fun e w' => e = .returned (.func (.func 109) #[] #[.pointer (some ⟨w.heap.size, 0, none⟩)]) ∧ w' = w.alloc (.cells #[.int .i64 x] 2) := by
  go_enter Try.func103, Try.ntmps103
  go_wp2
  go_ret
  exact ⟨rfl, rfl⟩

theorem rowsIn_any (w : World) (b : Nat) (x k : Int) (a : Option Addr) (n c : Nat) (h0 : w.cell? ⟨b, 0, none⟩ = some (.int .i64 x)) (hx : 0 ≤ x ∧ x ≤ 1000) (hk : 0 ≤ k ∧ k ≤ 1000) : Calls Try.prog 109 #[.int .i64 k, .slice a n c, .pointer (some ⟨b, 0, none⟩)] w fun e w' => e = .returned (.agg #[.bool false, .int .i64 (x + k), .slice a n c]) ∧ Below w.heap.size w w' := by
  have hb0 := lt_of_cell h0
  obtain ⟨hx0, hx1⟩ := hx
  obtain ⟨hk0, hk1⟩ := hk
  have HB0 : Hid (Below w.heap.size w (w.alloc (.cells #[.bool false, .int .i64 0, .slice none 0 0] 27))) := later1 _ _
  have HR0 : Hid (OwnRow (w.alloc (.cells #[.bool false, .int .i64 0, .slice none 0 0] 27)) (w.heap.size) 3 (cel [.bool false, .int .i64 0, .slice none 0 0])) := newCel w [.bool false, .int .i64 0, .slice none 0 0] _
  have y0 : (w.alloc (.cells #[.bool false, .int .i64 0, .slice none 0 0] 27)).cell? ⟨b, 0, none⟩ = some (.int .i64 x) := cell_later (later1 _ _) h0
  go_enter Try.func109, Try.ntmps109
  have hrr := HR0.out
  have t0 : (w.alloc (.cells #[.bool false, .int .i64 0, .slice none 0 0] 27)).cell? ⟨w.heap.size, 0, none⟩ = some (.bool false) := hrr.cell (i := 0) (by omega)
  have t1 : (w.alloc (.cells #[.bool false, .int .i64 0, .slice none 0 0] 27)).cell? ⟨w.heap.size, 1, none⟩ = some (.int .i64 0) := hrr.cell (i := 1) (by omega)
  have t2 : (w.alloc (.cells #[.bool false, .int .i64 0, .slice none 0 0] 27)).cell? ⟨w.heap.size, 2, none⟩ = some (.slice none 0 0) := hrr.cell (i := 2) (by omega)
  have f0 := hrr.frozen 0
  have f1 := hrr.frozen 1
  have f2 := hrr.frozen 2
  have hlr := hrr.lt
  clear hrr
  go_wp2
  exact bodyPost_ret (v := .agg #[.bool false, .int .i64 (x + k), .slice a n c]) (by simp [results, Try.results109, go_sem]) rfl ⟨rfl, later1 _ _⟩



end Go.Proofs.Ytagmmgcdebgfnaa
