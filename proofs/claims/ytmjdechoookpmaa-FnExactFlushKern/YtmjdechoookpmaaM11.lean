/- The law FnDisks. From the reading of an argument to the lists that it holds. No program is named here. What the rows of this seat share: how a disk that came in is opened. How bytes that came in are opened. Lists of extents: how they read, what they own. No program is named here. When a kern has a fault: the model as a function of lists. No program is named here. -/
import Derived.Test.YtmjdechoookpmaaM10
import Derived.Test.YtmjdechoookpmaaM00
import Derived.ProofKit
import Derived.Deep.Slices
import Derived.Deep.SlicePairs
import Derived.Lib.SmallJoins
import Derived.Test.YtmjdechoookpmaaRows
import Derived.Test.YtmjdechoookpmaaM01
import Derived.Test.YtmjdechoookpmaaM05
namespace Go.Proofs.Ytmjdechoookpmaa
open Go.RowKit
set_option maxRecDepth 100000

/-- What stands behind the draw: a disk, its picks, and the program's crash and flush. -/
structure DkS (w0 w : World) (bd bc bf : Nat) (aB : Option Addr) (nB cB : Nat) (aC : Option Addr) (nC cC : Nat) (aP : Option Addr) (nP cP : Nat) (a1 : Option Addr) (n1 c1 : Nat) (a2 : Option Addr) (n2 c2 : Nat) (a3 : Option Addr) (n3 c3 : Nat) (a4 : Option Addr) (n4 c4 : Nat) (bs : List (List Int)) (ps : List (Int × List Int)) (bb : List Bool) (r : Int) : Prop where
  below : Below w0.heap.size w0 w
  boxd : Bx w bd [.slice aB nB cB, .slice aC nC cC]
  boxc : Bx w bc [.int .i64 r, .slice a1 n1 c1, .slice a2 n2 c2]
  boxf : Bx w bf [.int .i64 r, .slice a3 n3 c3, .slice a4 n4 c4]
  disk : DiskR w (.slice aB nB cB) (.slice aC nC cC) (bs, ps)
  picks : Bools w (.slice aP nP cP) bb
  crash : DiskR w (.slice a1 n1 c1) (.slice a2 n2 c2) (keepBlocks (fun i => bb[i]?.getD false) bs ps, [])
  flush : DiskR w (.slice a3 n3 c3) (.slice a4 n4 c4) (keepBlocks (fun _ => true) bs ps, [])
theorem DkS.later {w0 w w' : World} {bd bc bf : Nat} {aB : Option Addr} {nB cB : Nat} {aC : Option Addr} {nC cC : Nat} {aP : Option Addr} {nP cP : Nat} {a1 : Option Addr} {n1 c1 : Nat} {a2 : Option Addr} {n2 c2 : Nat} {a3 : Option Addr} {n3 c3 : Nat} {a4 : Option Addr} {n4 c4 : Nat} {bs : List (List Int)} {ps : List (Int × List Int)} {bb : List Bool} {r : Int}
    (h : DkS w0 w bd bc bf aB nB cB aC nC cC aP nP cP a1 n1 c1 a2 n2 c2 a3 n3 c3 a4 n4 c4 bs ps bb r) (hb : Below w.heap.size w w') : DkS w0 w' bd bc bf aB nB cB aC nC cC aP nP cP a1 n1 c1 a2 n2 c2 a3 n3 c3 a4 n4 c4 bs ps bb r :=
  ⟨h.below.trans (hb.mono h.below.size), h.boxd.later hb, h.boxc.later hb, h.boxf.later hb, h.disk.later hb, h.picks.later hb, h.crash.later hb, h.flush.later hb⟩

theorem DkS.hid {w0 w : World} {bd bc bf : Nat} {aB : Option Addr} {nB cB : Nat} {aC : Option Addr} {nC cC : Nat} {aP : Option Addr} {nP cP : Nat} {a1 : Option Addr} {n1 c1 : Nat} {a2 : Option Addr} {n2 c2 : Nat} {a3 : Option Addr} {n3 c3 : Nat} {a4 : Option Addr} {n4 c4 : Nat} {bs : List (List Int)} {ps : List (Int × List Int)} {bb : List Bool} {r : Int}
    (h : DkS w0 w bd bc bf aB nB cB aC nC cC aP nP cP a1 n1 c1 a2 n2 c2 a3 n3 c3 a4 n4 c4 bs ps bb r) : Hid (DkS w0 w bd bc bf aB nB cB aC nC cC aP nP cP a1 n1 c1 a2 n2 c2 a3 n3 c3 a4 n4 c4 bs ps bb r) := h

theorem field_ir (z : Int) (a : Option Addr) (n c : Nat) (w : World) : (Instr.field 41 (.agg #[.int .i64 z, .slice a n c]) 1).run Try.prog w = .ok (.slice a n c) w := by rfl
set_option maxHeartbeats 12800000 in
theorem lawDisks_any (w : World) (a : Option Addr) (n c : Nat) (hnm : n ≤ maxLen) (hb : AtB w a n) :
    Calls Try.prog 3 #[.slice a n c] w fun e w' => e = .returned (.bool true) ∧ Below w.heap.size w w' := by
  have HBG : Hid (∀ W, Calls Try.prog 6 #[.slice a n c] W fun e w' => e = .returned (.bool (decide (1048576 < n))) ∧ w' = W) := fun W => lwBig_b W a n c hnm
  by_cases hbig : 1048576 < n
  · have hd : decide (1048576 < n) = true := by simpa using hbig
    rw [hd] at HBG
    clear hb hbig hnm
    go_enter Try.func3, Try.ntmps3
    go_wp2_with fail
    refine (HBG.out _).mono ?_
    rintro e w1 ⟨rfl, rfl⟩
    go_wp2
    go_ret
    exact ⟨rfl, Below.refl _ _⟩
  · have hd : decide (1048576 < n) = false := by simpa using hbig
    rw [hd] at HBG
    have HDR : Hid (∀ W, W = w → Calls Try.prog 7 #[.slice a n c] W fun e w' => ∃ aB nB cB aC nC cC bs ps aP nP cP bb, e = .returned (.tuple #[.agg #[.slice aB nB cB, .slice aC nC cC], .slice aP nP cP]) ∧ Below w.heap.size w w' ∧ IntsS w' (.slice aB nB cB) bs ∧ Puts w' (.slice aC nC cC) ps ∧ (1 ≤ bs.length ∧ bs.length ≤ 61) ∧ ps.length ≤ 201 ∧ (∀ k : Nat, (bs[k]?.getD []).length ≤ 70) ∧ (∀ k : Nat, (ps[k]?.getD (0, [])).2.length ≤ 70) ∧ Bools w' (.slice aP nP cP) bb ∧ bb.length ≤ 100) := fun W hW => by
      subst hW
      exact drawCrash_any W a n c (by omega) hb
    clear hb hbig hnm hd
    go_enter Try.func3, Try.ntmps3
    go_wp2_with fail
    refine (HBG.out _).mono ?_
    rintro e w1 ⟨rfl, rfl⟩
    go_wp2_with fail
    refine (HDR.out _ rfl).mono ?_
    rintro e w2 ⟨aB, nB, cB, aC, nC, cC, bs, ps, aP, nP, cP, bb, rfl, hb2, hrb, hrp, hlb, hlp, hzb, hzp, hbo, hbl⟩
    obtain ⟨_, _, e1, _, _⟩ := hrb.open'
    obtain ⟨_, _, e2, _, _⟩ := hrp.open'
    obtain ⟨_, _, e3, _, _⟩ := hbo.open'
    simp only [Value.slice.injEq] at e1 e2 e3
    have hsz : sizeDisk (bs, ps) ≤ 1048576 := by
      unfold sizeDisk dsize
      have h1 : (bs.map List.length).sum ≤ 61 * 70 := by
        have : ∀ l : List (List Int), (∀ k : Nat, (l[k]?.getD []).length ≤ 70) → (l.map List.length).sum ≤ l.length * 70 := by
          intro l
          induction l with
          | nil => intro _; simp
          | cons x l ih =>
            intro h
            have h0 : x.length ≤ 70 := by simpa using h 0
            have := ih (fun k => by simpa using h (k + 1))
            simp only [List.map_cons, List.sum_cons, List.length_cons]
            omega
        have := this bs hzb
        omega
      have h2 : (wlens ps).sum ≤ 201 * 70 := by
        have : ∀ l : List (Int × List Int), (∀ k : Nat, (l[k]?.getD (0, [])).2.length ≤ 70) → (wlens l).sum ≤ l.length * 70 := by
          intro l
          induction l with
          | nil => intro _; simp [wlens]
          | cons x l ih =>
            intro h
            have h0 : x.2.length ≤ 70 := by simpa using h 0
            have := ih (fun k => by simpa using h (k + 1))
            unfold wlens at this ⊢
            simp only [List.map_cons, List.sum_cons, List.length_cons]
            omega
        have := this ps hzp
        omega
      show bs.length + (bs.map List.length).sum + (ps.length + (wlens ps).sum) ≤ 1048576
      omega
    have HDK : Hid (DiskR w2 (.slice aB nB cB) (.slice aC nC cC) (bs, ps)) := ⟨hrb, hrp⟩
    have HBO : Hid (Bools w2 (.slice aP nP cP) bb) := hbo
    have HB2 : Hid (Below w1.heap.size w1 w2) := hb2
    have HSZ : Hid (sizeDisk (bs, ps) ≤ 1048576) := hsz
    have HLL : Hid (bs.length = nB ∧ ps.length = nC ∧ bb.length = nP) := ⟨e1.2.1.symm, e2.2.1.symm, e3.2.1.symm⟩
    have HZ : Hid ((∀ k : Nat, (bs[k]?.getD []).length ≤ 70) ∧ (∀ k : Nat, (ps[k]?.getD (0, [])).2.length ≤ 70)) := ⟨hzb, hzp⟩
    have hnB : 1 ≤ nB ∧ nB ≤ 61 := by rw [← e1.2.1] at hlb; exact hlb
    have hnC : nC ≤ 201 := by rw [← e2.2.1] at hlp; exact hlp
    have hnP : nP ≤ 100 := by rw [← e3.2.1] at hbl; exact hbl
    clear hrb hrp hbo hb2 hsz hzb hzp e1 e2 e3 hlb hlp hbl HBG HDR
    have HX2 : Hid (Bx (w2.alloc (.cells #[.slice aB nB cB, .slice aC nC cC] 27)) w2.heap.size [.slice aB nB cB, .slice aC nC cC]) := Bx.new w2 [.slice aB nB cB, .slice aC nC cC] _
    go_wp2_with fail
    refine (implCrashU _ aB nB cB aC nC cC (bs, ps) aP nP cP bb (HDK.out.later (later1 _ _)) (HBO.out.later (later1 _ _)) HSZ.out (by have := HLL.out; omega)).mono ?_
    rintro e w3 ⟨a1, n1, c1, a2, n2, c2, rfl, hb3, ho3⟩
    have hl3 : Below w2.heap.size w2 w3 := (later1 _ _).trans (hb3.mono (by simp))
    have HX3 : Hid (Bx w3 w2.heap.size [.slice aB nB cB, .slice aC nC cC]) := HX2.out.later hb3
    have HDK3 : Hid (DiskR w3 (.slice aB nB cB) (.slice aC nC cC) (bs, ps)) := HDK.out.later hl3
    have HBO3 : Hid (Bools w3 (.slice aP nP cP) bb) := HBO.out.later hl3
    have HB3 : Hid (Below w1.heap.size w1 w3) := HB2.out.trans (hl3.mono HB2.out.size)
    have HCR3 : Hid (DiskR w3 (.slice a1 n1 c1) (.slice a2 n2 c2) (keepBlocks (fun i => bb[i]?.getD false) bs ps, [])) := ho3.reads
    clear hb3 ho3 hl3 HX2 HDK HBO HB2
    have x0 := HX3.out 0 _ rfl
    have x1 := HX3.out 1 _ rfl
    have hd3 := HX3.out.lt
    have HXC : Hid (∀ r : Int, Bx (w3.alloc (.cells #[.int .i64 r, .slice a1 n1 c1, .slice a2 n2 c2] 32)) w3.heap.size [.int .i64 r, .slice a1 n1 c1, .slice a2 n2 c2]) := fun r => Bx.new w3 [.int .i64 r, .slice a1 n1 c1, .slice a2 n2 c2] _
    obtain ⟨r, hr⟩ : ∃ r, r = faultF bs ps := ⟨_, rfl⟩
    have HRF : Hid (r = faultF bs ps) := hr
    dsimp only [crashR]
    rw [← hr]
    clear hr
    go_wp2_with fail
    clear x0 x1
    refine (implFlushU _ aB nB cB aC nC cC (bs, ps) (HDK3.out.later (later1 _ _)) HSZ.out).mono ?_
    rintro e w4 ⟨a3, n3, c3, a4, n4, c4, rfl, hb4, ho4⟩
    have hl4 : Below w3.heap.size w3 w4 := (later1 _ _).trans (hb4.mono (by simp))
    have hl5 := later1 w4 (.cells #[.int .i64 r, .slice a3 n3 c3, .slice a4 n4 c4] 32)
    have HS : Hid (DkS w1 (w4.alloc (.cells #[.int .i64 r, .slice a3 n3 c3, .slice a4 n4 c4] 32)) w2.heap.size w3.heap.size w4.heap.size aB nB cB aC nC cC aP nP cP a1 n1 c1 a2 n2 c2 a3 n3 c3 a4 n4 c4 bs ps bb r) :=
      ⟨(HB3.out.trans (hl4.mono HB3.out.size)).trans (hl5.mono (HB3.out.trans (hl4.mono HB3.out.size)).size), (HX3.out.later hl4).later hl5, ((HXC.out r).later hb4).later hl5, Bx.new w4 [.int .i64 r, .slice a3 n3 c3, .slice a4 n4 c4] _, (HDK3.out.later hl4).later hl5, (HBO3.out.later hl4).later hl5, (HCR3.out.later hl4).later hl5, DiskR.later ho4.reads hl5⟩
    clear hb4 ho4 hl4 hl5 HX3 HDK3 HBO3 HB3 HCR3 HXC hd3
    dsimp only [flushR]
    rw [← HRF.out]
    by_cases hr0 : r = 0
    rotate_left
    · have hrb : (r != 0) = true := by simpa using hr0
      have x0 := HS.out.boxd 0 _ rfl
      have x1 := HS.out.boxd 1 _ rfl
      have y0 := HS.out.boxc 0 _ rfl
      have z0 := HS.out.boxf 0 _ rfl
      have hrr : (r == r) = true := by simp
      go_wp2_with fail
      generalize w4.alloc (.cells #[.int .i64 r, .slice a3 n3 c3, .slice a4 n4 c4] 32) = W5 at *
      generalize w2.heap.size = bd at *
      generalize w3.heap.size = bc at *
      generalize w4.heap.size = bf at *
      go_region_held3 (fun W => W.cell? ⟨bd, 0, none⟩ = some (.slice aB nB cB) ∧ W.cell? ⟨bd, 1, none⟩ = some (.slice aC nC cC) ∧ W.cell? ⟨bc, 0, none⟩ = some (.int .i64 r) ∧ W.cell? ⟨bf, 0, none⟩ = some (.int .i64 r)) (go_keep) (first
        | (have h0 := HS.out.later (Below.refl _ _).drew; clear HS; go_at_call 10; refine (specFault_any _ _ _ bs ps h0.disk.1 h0.disk.2).mono ?_; rw [← HRF.out]; rintro e u1 ⟨rfl, hb1⟩; have HS1 := (h0.later hb1).hid; have k0 := HS1.out.boxd 0 _ rfl; have k1 := HS1.out.boxd 1 _ rfl; have k2 := HS1.out.boxc 0 _ rfl; have k3 := HS1.out.boxf 0 _ rfl; clear h0 hb1)
        | (have h0 := HS1.out; clear HS1; go_at_call 11; refine (fault_any _ _ _ bs ps h0.disk.1 h0.disk.2).mono ?_; rw [← HRF.out]; rintro e u2 ⟨rfl, hb1⟩; have HS2 := (h0.later hb1).hid; have l0 := HS2.out.boxd 0 _ rfl; have l1 := HS2.out.boxd 1 _ rfl; have l2 := HS2.out.boxc 0 _ rfl; have l3 := HS2.out.boxf 0 _ rfl; clear h0 hb1))
      all_goals
        go_wp2
        go_ret
        exact ⟨rfl, HS2.out.below⟩
    · subst hr0
      have x0 := HS.out.boxd 0 _ rfl
      have x1 := HS.out.boxd 1 _ rfl
      have y0 := HS.out.boxc 0 _ rfl
      have y1 := HS.out.boxc 1 _ rfl
      have y2 := HS.out.boxc 2 _ rfl
      have z0 := HS.out.boxf 0 _ rfl
      have z1 := HS.out.boxf 1 _ rfl
      have z2 := HS.out.boxf 2 _ rfl
      have HF0 : Hid (faultF bs ps = 0) := HRF.out.symm
      have hk1 : nB = n1 ∧ 0 = n2 ∧ nB = n3 ∧ 0 = n4 := by
        obtain ⟨_, _, e1, _, _⟩ := HS.out.crash.1.open'
        obtain ⟨_, _, e2, _, _⟩ := HS.out.crash.2.open'
        obtain ⟨_, _, e3, _, _⟩ := HS.out.flush.1.open'
        obtain ⟨_, _, e4, _, _⟩ := HS.out.flush.2.open'
        simp only [Value.slice.injEq] at e1 e2 e3 e4
        have h1 : (keepBlocks (fun i => bb[i]?.getD false) bs ps).length = nB := by unfold keepBlocks; rw [if_pos HF0.out, keepTo_length]; exact HLL.out.1
        have h3 : (keepBlocks (fun _ => true) bs ps).length = nB := by unfold keepBlocks; rw [if_pos HF0.out, keepTo_length]; exact HLL.out.1
        exact ⟨(e1.2.1.trans h1).symm, e2.2.1.symm, (e3.2.1.trans h3).symm, e4.2.1.symm⟩
      obtain ⟨rfl, rfl, rfl, rfl⟩ := hk1
      have hnB60 : nB ≤ 60 := by have := (faultF_lens HF0.out).1; rw [HLL.out.1] at this; exact this
      have hnC200 : nC ≤ 200 := by have := (faultF_lens HF0.out).2; rw [HLL.out.2.1] at this; exact this
      have HK : Hid (∀ pk : Nat → Bool, keepBlocks pk bs ps = keepTo pk bs ps nC) := fun pk => by unfold keepBlocks; rw [if_pos HF0.out, HLL.out.2.1]
      have HKA : Hid (∀ (pk : Nat → Bool) (k x : Nat), k < nC → x < nB → (keepTo pk bs ps (k + 1))[x]?.getD [] = if pk k = true ∧ (ps[k]?.getD (0, [])).1 = (x : Int) then (ps[k]?.getD (0, [])).2 else (keepTo pk bs ps k)[x]?.getD []) := fun pk k x hk hx => keepTo_at pk HF0.out (by rw [HLL.out.2.1]; exact hk) (by rw [HLL.out.1]; exact hx)
      have HKM : Hid (∀ x : Nat, x < nB → atK bs ps (x : Int) nC = (keepTo (fun _ => true) bs ps nC)[x]?.getD []) := fun x hx => atK_keep HF0.out (by rw [HLL.out.1]; exact hx) nC (by rw [HLL.out.2.1]; exact Nat.le_refl _)
      have HIT : Hid (∀ (x : Nat) (W : World), x < nB → DkS w1 W w2.heap.size w3.heap.size w4.heap.size aB nB cB aC nC cC aP nP cP a1 nB c1 a2 0 c2 a3 nB c3 a4 0 c4 bs ps bb 0 → Calls Try.prog 13 #[.agg #[.slice aB nB cB, .slice aC nC cC], .int .i64 (x : Int)] W fun e w' => ∃ a n c, e = .returned (.agg #[.int .i64 0, .slice a n c]) ∧ Below W.heap.size W w' ∧ Ints w' (.slice a n c) ((keepTo (fun _ => true) bs ps nC)[x]?.getD [])) := fun x W hx hW => by
        refine (implAt_any W _ _ bs ps (x : Int) hW.disk.1 hW.disk.2 (fun k => by have := HZ.out.1 k; omega) (fun k => by have := HZ.out.2 k; omega)).mono ?_
        rintro e w' ⟨a, n, c, he, hb, ho⟩
        have hp : placeF bs ps (x : Int) = 0 := by unfold placeF; rw [if_pos HF0.out, if_pos (by unfold placeB; rw [HLL.out.1]; simp; omega)]
        have hl : atList bs ps (x : Int) = (keepTo (fun _ => true) bs ps nC)[x]?.getD [] := by unfold atList atF; rw [if_pos hp, HLL.out.2.1]; exact HKM.out x hx
        rw [hp] at he
        rw [hl] at ho
        exact ⟨a, n, c, he, hb, ho.ints⟩
      have hfi := field_ir
      go_wp2
      generalize w4.alloc (.cells #[.int .i64 0, .slice a3 nB c3, .slice a4 0 c4] 32) = W5 at *
      generalize w2.heap.size = bd at *
      generalize w3.heap.size = bc at *
      generalize w4.heap.size = bf at *
      clear x0 x1 y0 y1 y2 z0 z1 z2
      go_loopw [7] (fun i wr => ∃ j : Nat, j ≤ nB ∧ i = .int .i64 j ∧ Below W5.heap.size W5 wr) (fun i _ => nB - (intOf i).toNat)
      case atStart => exact ⟨0, Nat.zero_le _, rfl, Below.refl _ _⟩
      case round =>
        obtain ⟨j, hj, rfl, hbl⟩ := hrel
        have HBL : Hid (Below W5.heap.size W5 wr) := hbl
        have HSR := (HS.out.later hbl).hid
        clear hbl
        have x0 := HSR.out.boxd 0 _ rfl
        have x1 := HSR.out.boxd 1 _ rfl
        by_cases hlt : j < nB
        · obtain ⟨_, _, eb, _, hat⟩ := HSR.out.disk.1.open'
          simp only [Value.slice.injEq] at eb
          obtain ⟨b, off, ua, ucap, eA, g0, hI0⟩ := hat j (by have := HLL.out.1; dsimp only; omega)
          rw [← eb.1] at eA
          dsimp only at g0 hI0
          have HI0 : Hid (Ints wr (.slice ua (bs[j]?.getD []).length ucap) (bs[j]?.getD [])) := hI0
          clear hat eb hI0
          subst eA
          obtain ⟨wo, rfl⟩ : ∃ wo, wo = wr := ⟨_, rfl⟩
          go_wp2
          clear g0
          go_loopw [8, 9, 10] (fun vw vl i wr2 => ∃ (k : Nat) (vW vL : Value), k ≤ nC ∧ i = .int .i64 k ∧ vw = vW ∧ vl = vL ∧ Below wo.heap.size wo wr2 ∧ Ints wr2 vW ((keepTo (fun i => bb[i]?.getD false) bs ps k)[j]?.getD []) ∧ Ints wr2 vL ((keepTo (fun _ => true) bs ps k)[j]?.getD [])) (fun _ _ i _ => nC - (intOf i).toNat)
          case atStart => exact ⟨0, _, _, Nat.zero_le _, rfl, rfl, rfl, Below.refl _ _, HI0.out, HI0.out⟩
          case round =>
            obtain ⟨k, vW, vL, hk, rfl, rfl, rfl, hbl2, hiW, hiL⟩ := hrel
            obtain ⟨aw, cw, ew, _⟩ := hiW.shape
            obtain ⟨al, cl, el, _⟩ := hiL.shape
            rw [ew] at hiW ⊢
            rw [el] at hiL ⊢
            clear ew el
            have HB2 : Hid (Below wo.heap.size wo wr) := hbl2
            have HS2 := (HSR.out.later hbl2).hid
            have HIW : Hid (Ints wr (.slice aw ((keepTo (fun i => bb[i]?.getD false) bs ps k)[j]?.getD []).length cw) ((keepTo (fun i => bb[i]?.getD false) bs ps k)[j]?.getD [])) := hiW
            have HIL : Hid (Ints wr (.slice al ((keepTo (fun _ => true) bs ps k)[j]?.getD []).length cl) ((keepTo (fun _ => true) bs ps k)[j]?.getD [])) := hiL
            clear hbl2 hiW hiL x0 x1
            have x0 := HS2.out.boxd 0 _ rfl
            have x1 := HS2.out.boxd 1 _ rfl
            by_cases hlk : k < nC
            · obtain ⟨_, _, ep, _, hatp⟩ := HS2.out.disk.2.open'
              simp only [Value.slice.injEq] at ep
              obtain ⟨b2, off2, pa, pc, eA, g0, g1, hI1⟩ := hatp k (by have := HLL.out.2.1; dsimp only; omega)
              rw [← ep.1] at eA
              dsimp only at g0 g1 hI1
              have HI1 : Hid (Ints wr (.slice pa (ps[k]?.getD (0, [])).2.length pc) (ps[k]?.getD (0, [])).2) := hI1
              have HKP := HKA.out (fun i => bb[i]?.getD false) k j hlk hlt
              have HKQ := HKA.out (fun _ => true) k j hlk hlt
              have HKP' : Hid ((keepTo (fun i => bb[i]?.getD false) bs ps (k + 1))[j]?.getD [] = if bb[k]?.getD false = true ∧ (ps[k]?.getD (0, [])).1 = (j : Int) then (ps[k]?.getD (0, [])).2 else (keepTo (fun i => bb[i]?.getD false) bs ps k)[j]?.getD []) := HKP
              have HKQ' : Hid ((keepTo (fun _ => true) bs ps (k + 1))[j]?.getD [] = if (true = true ∧ (ps[k]?.getD (0, [])).1 = (j : Int)) then (ps[k]?.getD (0, [])).2 else (keepTo (fun _ => true) bs ps k)[j]?.getD []) := HKQ
              clear hatp ep hI1 HKP HKQ
              subst eA
              by_cases heq : (ps[k]?.getD (0, [])).1 = (j : Int)
              rotate_left
              · have heb : ((ps[k]?.getD (0, [])).1 == (j : Int)) = false := by simpa using heq
                have HN1 : Hid (Ints wr (.slice aw ((keepTo (fun i => bb[i]?.getD false) bs ps k)[j]?.getD []).length cw) ((keepTo (fun i => bb[i]?.getD false) bs ps (k + 1))[j]?.getD [])) := by unfold Hid; rw [HKP'.out, if_neg (fun h => heq h.2)]; exact HIW.out
                have HN2 : Hid (Ints wr (.slice al ((keepTo (fun _ => true) bs ps k)[j]?.getD []).length cl) ((keepTo (fun _ => true) bs ps (k + 1))[j]?.getD [])) := by unfold Hid; rw [HKQ'.out, if_neg (fun h => heq h.2)]; exact HIL.out
                clear heq HKP' HKQ' HIW HIL HI1 HS2
                generalize (ps[k]?.getD (0, [])).1 = px at *
                generalize (ps[k]?.getD (0, [])).2.length = pn at *
                generalize ((keepTo (fun i => bb[i]?.getD false) bs ps k)[j]?.getD []).length = lw at *
                generalize ((keepTo (fun _ => true) bs ps k)[j]?.getD []).length = ll at *
                go_wp2
                go_roundw
                case rel => exact ⟨k + 1, _, _, by omega, by go_num, rfl, rfl, HB2.out, HN1.out, HN2.out⟩
                case measure => simp [intOf]; omega
              · have HN2 : Hid (Ints wr (.slice pa (ps[k]?.getD (0, [])).2.length pc) ((keepTo (fun _ => true) bs ps (k + 1))[j]?.getD [])) := by unfold Hid; rw [HKQ'.out, if_pos ⟨rfl, heq⟩]; exact HI1.out
                rw [heq] at g0
                by_cases hkp : k < nP
                · obtain ⟨_, _, eq, _, hatq⟩ := HS2.out.picks.open'
                  simp only [Value.slice.injEq] at eq
                  obtain ⟨b3, off3, eP, g3⟩ := hatq k (by have := HLL.out.2.2; omega)
                  rw [← eq.1] at eP
                  clear hatq eq
                  subst eP
                  cases hbk : bb[k]?.getD false with
                  | true =>
                    have HN1 : Hid (Ints wr (.slice pa (ps[k]?.getD (0, [])).2.length pc) ((keepTo (fun i => bb[i]?.getD false) bs ps (k + 1))[j]?.getD [])) := by unfold Hid; rw [HKP'.out, if_pos ⟨hbk, heq⟩]; exact HI1.out
                    rw [hbk] at g3
                    clear heq HKP' HKQ' HIW HIL HI1 HS2 hbk
                    generalize (ps[k]?.getD (0, [])).2.length = pn at *
                    generalize ((keepTo (fun i => bb[i]?.getD false) bs ps k)[j]?.getD []).length = lw at *
                    generalize ((keepTo (fun _ => true) bs ps k)[j]?.getD []).length = ll at *
                    go_wp2
                    go_roundw
                    case rel => exact ⟨k + 1, _, _, by omega, by go_num, rfl, rfl, HB2.out, HN1.out, HN2.out⟩
                    case measure => simp [intOf]; omega
                  | false =>
                    have HN1 : Hid (Ints wr (.slice aw ((keepTo (fun i => bb[i]?.getD false) bs ps k)[j]?.getD []).length cw) ((keepTo (fun i => bb[i]?.getD false) bs ps (k + 1))[j]?.getD [])) := by unfold Hid; rw [HKP'.out, if_neg (by rw [hbk]; simp)]; exact HIW.out
                    rw [hbk] at g3
                    clear heq HKP' HKQ' HIW HIL HI1 HS2 hbk
                    generalize (ps[k]?.getD (0, [])).2.length = pn at *
                    generalize ((keepTo (fun i => bb[i]?.getD false) bs ps k)[j]?.getD []).length = lw at *
                    generalize ((keepTo (fun _ => true) bs ps k)[j]?.getD []).length = ll at *
                    go_wp2
                    go_roundw
                    case rel => exact ⟨k + 1, _, _, by omega, by go_num, rfl, rfl, HB2.out, HN1.out, HN2.out⟩
                    case measure => simp [intOf]; omega
                · have hbk : bb[k]?.getD false = false := by rw [List.getElem?_eq_none (by have := HLL.out.2.2; omega)]; rfl
                  have HN1 : Hid (Ints wr (.slice aw ((keepTo (fun i => bb[i]?.getD false) bs ps k)[j]?.getD []).length cw) ((keepTo (fun i => bb[i]?.getD false) bs ps (k + 1))[j]?.getD [])) := by unfold Hid; rw [HKP'.out, if_neg (by rw [hbk]; simp)]; exact HIW.out
                  have hkpd : decide ((k : Int) < (nP : Int)) = false := by simp; omega
                  clear heq HKP' HKQ' HIW HIL HI1 HS2 hbk
                  generalize (ps[k]?.getD (0, [])).2.length = pn at *
                  generalize ((keepTo (fun i => bb[i]?.getD false) bs ps k)[j]?.getD []).length = lw at *
                  generalize ((keepTo (fun _ => true) bs ps k)[j]?.getD []).length = ll at *
                  go_wp2
                  go_roundw
                  case rel => exact ⟨k + 1, _, _, by omega, by go_num, rfl, rfl, HB2.out, HN1.out, HN2.out⟩
                  case measure => simp [intOf]; omega
            · have hkn : k = nC := by omega
              subst hkn
              clear hlk hk
              have hcr := HS2.out.crash.1
              have hfl := HS2.out.flush.1
              dsimp only at hcr hfl
              rw [HK.out] at hcr hfl
              obtain ⟨_, _, ec, _, hatc⟩ := hcr.open'
              simp only [Value.slice.injEq] at ec
              obtain ⟨b4, off4, ca, cc, eA1, g4, hI4⟩ := hatc j (by rw [← ec.2.1]; exact hlt)
              rw [← ec.1] at eA1
              obtain ⟨_, _, ef, _, hatf⟩ := hfl.open'
              simp only [Value.slice.injEq] at ef
              obtain ⟨b5, off5, fa, fc, eA2, g5, hI5⟩ := hatf j (by rw [← ef.2.1]; exact hlt)
              rw [← ef.1] at eA2
              clear hatc hatf ec ef hcr hfl
              subst eA1 eA2
              have HI4 : Hid (Ints wr _ ((keepTo (fun i => bb[i]?.getD false) bs ps k)[j]?.getD [])) := hI4
              have HI5 : Hid (Ints wr _ ((keepTo (fun _ => true) bs ps k)[j]?.getD [])) := hI5
              clear hI4 hI5
              have y1 := HS2.out.boxc 1 _ rfl
              have HITJ : Hid (∀ W : World, DkS w1 W bd bc bf _ nB cB aC k cC aP nP cP _ nB c1 a2 0 c2 _ nB c3 a4 0 c4 bs ps bb 0 → Calls Try.prog 13 #[.agg #[.slice _ nB cB, .slice aC k cC], .int .i64 (j : Int)] W fun e w' => ∃ a n c, e = .returned (.agg #[.int .i64 0, .slice a n c]) ∧ Below W.heap.size W w' ∧ Ints w' (.slice a n c) ((keepTo (fun _ => true) bs ps k)[j]?.getD [])) := fun W hW => HIT.out j W hlt hW
              generalize (keepTo (fun i => bb[i]?.getD false) bs ps k)[j]?.getD [] = zw at *
              generalize (keepTo (fun _ => true) bs ps k)[j]?.getD [] = zl at *
              go_wp2_with fail
              clear x0 x1 y1 g4
              refine (lwNums_true HI4.out HIW.out).mono ?_
              rintro e w5 ⟨rfl, hb5⟩
              have HB5 : Hid (Below wo.heap.size wo w5) := HB2.out.trans (hb5.mono HB2.out.size)
              have HS5 := (HS2.out.later hb5).hid
              have z1 := HS5.out.boxf 1 _ rfl
              replace g5 := cell_later hb5 g5
              have HI5' : Hid (Ints w5 _ zl) := HI5.out.later hb5
              have HIL5 : Hid (Ints w5 _ zl) := HIL.out.later hb5
              clear hb5 HS2 HB2 HI4 HIW HI5 HIL
              go_wp2_with fail
              clear z1 g5
              refine (lwNums_true HI5'.out HIL5.out).mono ?_
              rintro e w6 ⟨rfl, hb6⟩
              have HB6 : Hid (Below wo.heap.size wo w6) := HB5.out.trans (hb6.mono HB5.out.size)
              have HS6 := (HS5.out.later hb6).hid
              have x0 := HS6.out.boxd 0 _ rfl
              have x1 := HS6.out.boxd 1 _ rfl
              have HIL6 : Hid (Ints w6 _ zl) := HIL5.out.later hb6
              clear hb6 HS5 HB5 HI5' HIL5
              go_wp2_with fail
              clear x0 x1
              refine (HITJ.out w6 HS6.out).mono ?_
              rintro e w7 ⟨ba, bn, bcp, rfl, hb7, hI7⟩
              have HB7 : Hid (Below wo.heap.size wo w7) := HB6.out.trans (hb7.mono HB6.out.size)
              have HI7 : Hid (Ints w7 (.slice ba bn bcp) zl) := hI7
              have HIL7 : Hid (Ints w7 _ zl) := HIL6.out.later hb7
              clear hb7 hI7 HS6 HB6 HIL6
              go_wp2_with fail
              refine (lwNums_true HI7.out HIL7.out).mono ?_
              rintro e w8 ⟨rfl, hb8⟩
              have HB8 : Hid (Below W5.heap.size W5 w8) := HBL.out.trans ((HB7.out.trans (hb8.mono HB7.out.size)).mono HBL.out.size)
              clear hb8 HI7 HIL7 HB7
              go_wp2
              go_roundw
              case rel => exact ⟨j + 1, by omega, by go_num, HB8.out⟩
              case measure => simp [intOf]; omega
        · clear HIT HKM HKA HK
          have hp : placeF bs ps 0 = 0 := by unfold placeF; rw [if_pos HF0.out, if_pos (by unfold placeB; rw [HLL.out.1]; simp; omega)]
          have HPC : Hid (putCode bs ps 0 [5, 6] = if 200 ≤ nC then 2 else 0) := by
            unfold Hid putCode
            rw [if_pos hp, if_pos (show wordsF [5, 6] = 0 from rfl), HLL.out.2.1]
          have HNEW : Hid (∀ W, Calls Try.prog 15 #[.int .i64 (nB : Int)] W fun e w' => ∃ a c b m k, e = .returned (.agg #[.int .i64 0, .slice a nB c, .slice b m k]) ∧ Below W.heap.size W w') := fun W => by
            have h1 : newCode (nB : Int) = 0 := by unfold newCode; rw [if_pos (by omega)]
            have h2 : (newBlocks (nB : Int)).length = nB := by unfold newBlocks; rw [if_pos (by omega)]; simp
            refine (implNew_any W (nB : Int)).mono ?_
            rintro e w' ⟨a, nn, c, b, m, k, he, hn⟩
            rw [h1] at he
            obtain ⟨_, _, e1, _, _⟩ := hn.disk.ints.open'
            simp only [Value.slice.injEq] at e1
            rw [h2] at e1
            rw [e1.2.1] at he
            exact ⟨a, c, b, m, k, he, hn.below⟩
          have HLIT : Hid (∀ W : World, Ints (W.alloc (.cells #[.int .i64 5, .int .i64 6] 2)) (.slice (some ⟨W.heap.size, 0, none⟩) 2 2) [5, 6]) := fun W => (IntsX.lit W 0 [5, 6] _ 2 rfl rfl (by omega) (by omega)).ints
          by_cases h200 : 200 ≤ nC
          · have hnc : nC = 200 := by omega
            have HPUT : Hid (∀ W v, IntsS W (.slice aB nB cB) bs → Puts W (.slice aC nC cC) ps → Ints W v [5, 6] → Calls Try.prog 14 #[.agg #[.slice aB nB cB, .slice aC nC cC], .int .i64 0, v] W fun e w' => ∃ a n c b m k, e = .returned (.agg #[.int .i64 2, .slice a n c, .slice b m k]) ∧ Below W.heap.size W w') := fun W v h1 h2 h3 => by
              refine (implPut_any W _ _ v bs ps 0 [5, 6] h1 h2 h3 (fun k => by have := HZ.out.1 k; omega) (fun k => by have := HZ.out.2 k; omega) (by simp)).mono ?_
              rintro e w' ⟨a, nn, c, b, m, k, he, hn⟩
              rw [HPC.out, if_pos h200] at he
              exact ⟨a, nn, c, b, m, k, he, hn.below⟩
            clear HPC hp h200
            subst hnc
            go_wp2_with fail
            refine (HPUT.out _ _ (HSR.out.disk.1.later (later1 _ _)) (HSR.out.disk.2.later (later1 _ _)) (HLIT.out wr)).mono ?_
            rintro e w5 ⟨p1, p2, p3, p4, p5, p6, rfl, hb5⟩
            have hl5 : Below wr.heap.size wr w5 := (later1 _ _).trans (hb5.mono (by simp))
            have HS5 := ((HSR.out.later hl5).later (later1 _ (.cells #[.int .i64 2, .slice p1 p2 p3, .slice p4 p5 p6] 32))).hid
            have HXP : Hid (Bx (w5.alloc (.cells #[.int .i64 2, .slice p1 p2 p3, .slice p4 p5 p6] 32)) w5.heap.size [.int .i64 2, .slice p1 p2 p3, .slice p4 p5 p6]) := Bx.new w5 [.int .i64 2, .slice p1 p2 p3, .slice p4 p5 p6] _
            clear x0 x1 hb5 hl5 HSR
            have x0 := HS5.out.boxd 0 _ rfl
            go_wp2_with fail
            clear x0
            refine (HNEW.out _).mono ?_
            rintro e w6 ⟨q1, q2, q3, q4, q5, rfl, hb6⟩
            have HS6 := (HS5.out.later hb6).hid
            have HXP6 : Hid (Bx w6 w5.heap.size [.int .i64 2, .slice p1 p2 p3, .slice p4 p5 p6]) := HXP.out.later hb6
            clear hb6 HS5 HXP
            have x0 := HS6.out.boxd 0 _ rfl
            have x1 := HS6.out.boxd 1 _ rfl
            have y0 := HXP6.out 0 _ rfl
            have hy := HXP6.out.lt
            have hx := HS6.out.boxd.lt
            have hnn : ((nB : Int) == (nB : Int)) = true := by simp
            go_wp2
            go_ret
            exact ⟨rfl, HS6.out.below.trans ((later1 _ _).mono HS6.out.below.size)⟩
          · have HPUT : Hid (∀ W v, IntsS W (.slice aB nB cB) bs → Puts W (.slice aC nC cC) ps → Ints W v [5, 6] → Calls Try.prog 14 #[.agg #[.slice aB nB cB, .slice aC nC cC], .int .i64 0, v] W fun e w' => ∃ a n c b m k, e = .returned (.agg #[.int .i64 0, .slice a n c, .slice b m k]) ∧ Below W.heap.size W w' ∧ IntsS w' (.slice a n c) bs ∧ Puts w' (.slice b m k) (ps ++ [(0, [5, 6])])) := fun W v h1 h2 h3 => by
              refine (implPut_any W _ _ v bs ps 0 [5, 6] h1 h2 h3 (fun k => by have := HZ.out.1 k; omega) (fun k => by have := HZ.out.2 k; omega) (by simp)).mono ?_
              rintro e w' ⟨a, nn, c, b, m, k, he, hn⟩
              have hpc : putCode bs ps 0 [5, 6] = 0 := by rw [HPC.out, if_neg h200]
              have hpb : putBlocks bs ps 0 [5, 6] = bs := by unfold putBlocks; rw [if_pos hpc]
              have hpk : putCache bs ps 0 [5, 6] = ps ++ [(0, [5, 6])] := by unfold putCache; rw [if_pos hpc]
              have hi := hn.disk.ints
              have hu := hn.disk.puts
              rw [hpc] at he
              rw [hpb] at hi
              rw [hpk] at hu
              exact ⟨a, nn, c, b, m, k, he, hn.below, hi, hu⟩
            have HAT : Hid (∀ W vB vC, IntsS W vB bs → Puts W vC (ps ++ [(0, [5, 6])]) → Calls Try.prog 13 #[.agg #[vB, vC], .int .i64 0] W fun e w' => ∃ a n c, e = .returned (.agg #[.int .i64 0, .slice a n c]) ∧ Below W.heap.size W w' ∧ Ints w' (.slice a n c) [5, 6]) := fun W vB vC h1 h2 => by
              have hfa : faultF bs (ps ++ [(0, [5, 6])]) = 0 := faultF_app HF0.out (by rw [HLL.out.1]; omega) (by rw [HLL.out.2.1]; omega)
              have hpl : placeF bs (ps ++ [(0, [5, 6])]) 0 = 0 := by unfold placeF; rw [if_pos hfa, if_pos (by unfold placeB; rw [HLL.out.1]; simp; omega)]
              have hal : atList bs (ps ++ [(0, [5, 6])]) 0 = [5, 6] := by
                unfold atList atF
                rw [if_pos hpl, List.length_append]
                show atK bs (ps ++ [(0, [5, 6])]) 0 (ps.length + 1) = [5, 6]
                rw [atK_hit (by simp)]
                simp
              refine (implAt_any W vB vC bs (ps ++ [(0, [5, 6])]) 0 h1 h2 (fun k => by have := HZ.out.1 k; omega) (fun k => by
                by_cases hk : k < ps.length
                · rw [List.getElem?_append_left hk]; have := HZ.out.2 k; omega
                · rw [List.getElem?_append_right (by omega)]
                  cases hq : k - ps.length with
                  | zero => simp
                  | succ q => simp)).mono ?_
              rintro e w' ⟨a, nn, c, he, hb, ho⟩
              rw [hpl] at he
              rw [hal] at ho
              exact ⟨a, nn, c, he, hb, ho.ints⟩
            have hcne : ((nC : Int) == 200) = false := by rw [beq_eq_false_iff_ne]; omega
            clear HPC hp
            go_wp2_with fail
            refine (HPUT.out _ _ (HSR.out.disk.1.later (later1 _ _)) (HSR.out.disk.2.later (later1 _ _)) (HLIT.out wr)).mono ?_
            rintro e w5 ⟨p1, p2, p3, p4, p5, p6, rfl, hb5, hpi, hpp⟩
            have hl5 : Below wr.heap.size wr w5 := (later1 _ _).trans (hb5.mono (by simp))
            have hl6 := later1 w5 (.cells #[.int .i64 0, .slice p1 p2 p3, .slice p4 p5 p6] 32)
            have HS5 := ((HSR.out.later hl5).later hl6).hid
            have HXP : Hid (Bx (w5.alloc (.cells #[.int .i64 0, .slice p1 p2 p3, .slice p4 p5 p6] 32)) w5.heap.size [.int .i64 0, .slice p1 p2 p3, .slice p4 p5 p6]) := Bx.new w5 [.int .i64 0, .slice p1 p2 p3, .slice p4 p5 p6] _
            have HPI : Hid (IntsS (w5.alloc (.cells #[.int .i64 0, .slice p1 p2 p3, .slice p4 p5 p6] 32)) (.slice p1 p2 p3) bs ∧ Puts (w5.alloc (.cells #[.int .i64 0, .slice p1 p2 p3, .slice p4 p5 p6] 32)) (.slice p4 p5 p6) (ps ++ [(0, [5, 6])])) := ⟨hpi.later hl6, hpp.later hl6⟩
            clear x0 x1 hb5 hl5 hl6 HSR hpi hpp
            have x0 := HS5.out.boxd 0 _ rfl
            go_wp2_with fail
            clear x0
            refine (HNEW.out _).mono ?_
            rintro e w6 ⟨q1, q2, q3, q4, q5, rfl, hb6⟩
            have hl7 := later1 w6 (.cells #[.int .i64 0, .slice q1 nB q2, .slice q3 q4 q5] 32)
            have HS6 := ((HS5.out.later hb6).later hl7).hid
            have HXP6 : Hid (Bx (w6.alloc (.cells #[.int .i64 0, .slice q1 nB q2, .slice q3 q4 q5] 32)) w5.heap.size [.int .i64 0, .slice p1 p2 p3, .slice p4 p5 p6]) := (HXP.out.later hb6).later hl7
            have HXN : Hid (Bx (w6.alloc (.cells #[.int .i64 0, .slice q1 nB q2, .slice q3 q4 q5] 32)) w6.heap.size [.int .i64 0, .slice q1 nB q2, .slice q3 q4 q5]) := Bx.new w6 [.int .i64 0, .slice q1 nB q2, .slice q3 q4 q5] _
            have HPI6 : Hid (IntsS (w6.alloc (.cells #[.int .i64 0, .slice q1 nB q2, .slice q3 q4 q5] 32)) (.slice p1 p2 p3) bs ∧ Puts (w6.alloc (.cells #[.int .i64 0, .slice q1 nB q2, .slice q3 q4 q5] 32)) (.slice p4 p5 p6) (ps ++ [(0, [5, 6])])) := ⟨(HPI.out.1.later hb6).later hl7, (HPI.out.2.later hb6).later hl7⟩
            clear hb6 hl7 HS5 HXP HPI
            have x1 := HS6.out.boxd 1 _ rfl
            have y0 := HXP6.out 0 _ rfl
            have y1 := HXP6.out 1 _ rfl
            have y2 := HXP6.out 2 _ rfl
            go_wp2_with fail
            clear x1 y0 y1 y2
            generalize (w6.alloc (.cells #[.int .i64 0, .slice q1 nB q2, .slice q3 q4 q5] 32)) = W7 at *
            refine (HAT.out _ _ _ HPI6.out.1 HPI6.out.2).mono ?_
            rintro e w8 ⟨s1, s2, s3, rfl, hb8, hi8⟩
            have HS8 := (HS6.out.later hb8).hid
            have HXN8 : Hid (Bx w8 w6.heap.size [.int .i64 0, .slice q1 nB q2, .slice q3 q4 q5]) := HXN.out.later hb8
            have HI8 : Hid (Ints w8 (.slice s1 s2 s3) [5, 6]) := hi8
            clear hb8 hi8 HS6 HXN HXP6 HPI6
            go_wp2_with fail
            refine (lwNums_true (HI8.out.later (later1 _ _)) (HLIT.out w8)).mono ?_
            rintro e w9 ⟨rfl, hb9⟩
            have hl9 : Below w8.heap.size w8 w9 := (later1 _ _).trans (hb9.mono (by simp))
            have HS9 := (HS8.out.later hl9).hid
            have HXN9 : Hid (Bx w9 w6.heap.size [.int .i64 0, .slice q1 nB q2, .slice q3 q4 q5]) := HXN8.out.later hl9
            clear hb9 hl9 HS8 HXN8 HI8
            have x0 := HS9.out.boxd 0 _ rfl
            have y0 := HXN9.out 0 _ rfl
            have y1 := HXN9.out 1 _ rfl
            have hnn : ((nB : Int) == (nB : Int)) = true := by simp
            go_wp2
            go_ret
            exact ⟨rfl, HS9.out.below⟩
end Go.Proofs.Ytmjdechoookpmaa

namespace Go.Proofs.Ytmjdechoookpmaa
open Go.ChangeShapes Go.WideShapes Go.ChangeAt Go.RowKit Go.Deep
set_option maxRecDepth 100000

section
variable {H : Type} {enc : TypeId × Value → H} {P : Program} {w : World} {base : Nat} {held : Bool}

theorem addr_of {a : Addr} {v : Value} (h : w.cell? (a.add 0) = some v) : a = ⟨a.block, a.off, none⟩ := by
  obtain ⟨b, o, s⟩ := a
  have : s = none := by simpa [Addr.add] using World.cell?_spot h
  subst this; rfl
theorem add_plain (b off k : Nat) : (⟨b, off, none⟩ : Addr).add k = ⟨b, off + k, none⟩ := by
  by_cases h : k = 0
  · subst h; simp [Addr.add]
  · simp [Addr.add, h]

theorem open_Ints {t e : TypeId} {fuel : Nat} {v : Value} {x : DataW H × List MemPlace} (ht : P.underlying t = some (.slice e)) (he : P.underlying e = some (.int .i64)) (ce : P.cellsOf e = 1) (h : DataW.trod enc P w base (fun _ => true) held fuel t [v] = some x) :
    ∃ zs, Ints w v zs := by
  rcases open_ints ht he ce h with ⟨hcs, _⟩ | ⟨a, len, cap, zs, hcs, _, hl, hm, hz, _, hcell, _⟩
  · simp only [List.cons.injEq, and_true] at hcs
    exact ⟨[], Or.inl ⟨rfl, none, 0, hcs⟩⟩
  · simp only [List.cons.injEq, and_true] at hcs
    simp only [if_true] at hz
    by_cases h0 : len = 0
    · subst h0; exact ⟨[], Or.inl ⟨rfl, some a, cap, hcs⟩⟩
    · have ha := addr_of (hcell 0 (by omega))
      refine ⟨zs.take len, Or.inr ⟨a.block, a.off, cap, ?_, ?_, fun k hk => ?_⟩⟩
      · rw [hcs, List.length_take, Nat.min_eq_left (by omega), ← ha]
      · rw [List.length_take]; omega
      · rw [List.length_take] at hk
        have h1 := hcell k (by omega)
        rw [ha, add_plain] at h1
        rw [h1, List.getElem?_take, if_pos (by omega)]
        rfl

theorem open_IntsS {t e q : TypeId} {fuel : Nat} {v : Value} {x : DataW H × List MemPlace} (ht : P.underlying t = some (.slice e)) (he : P.underlying e = some (.slice q)) (hq : P.underlying q = some (.int .i64)) (ce : P.cellsOf e = 1) (cq : P.cellsOf q = 1)
    (h : DataW.trod enc P w base (fun _ => true) held fuel t [v] = some x) : ∃ zss, IntsS w v zss := by
  rcases open_slice1 ht ce h with ⟨hcs, _⟩ | ⟨a, len, cap, m, n, V, D, Pl, hcs, _, hl, hm, hmm, _, hx⟩
  · simp only [List.cons.injEq, and_true] at hcs
    exact ⟨[], Or.inl ⟨rfl, none, 0, hcs⟩⟩
  · simp only [List.cons.injEq, and_true] at hcs
    simp only [if_true] at hmm
    by_cases h0 : len = 0
    · subst h0; exact ⟨[], Or.inl ⟨rfl, some a, cap, hcs⟩⟩
    · have ha := addr_of (hx 0 (by omega)).1
      obtain ⟨Z, hZ⟩ := choose_lt (α := List Int) (n := m) (p := fun i zs => Ints w (V i) zs) fun i hi => open_Ints he hq cq (hx i hi).2
      refine ⟨(List.range len).map Z, Or.inr ⟨a.block, a.off, cap, V, ?_, ?_, fun k hk => ?_⟩⟩
      · simp only [List.length_map, List.length_range]; rw [hcs, ← ha]
      · simp only [List.length_map, List.length_range]; omega
      · simp only [List.length_map, List.length_range] at hk
        have h1 := (hx k (by omega)).1
        rw [ha, add_plain] at h1
        refine ⟨h1, ?_⟩
        have := hZ k (by omega)
        simpa [hk] using this

theorem open_Puts {t e q : TypeId} {f0 f1 : Field} {fuel : Nat} {v : Value} {x : DataW H × List MemPlace} (ht : P.underlying t = some (.slice e)) (he : P.underlying e = some (.struct #[f0, f1]))
    (ce : P.cellsOf e = 2) (o0 : f0.offset = 0) (o1 : f1.offset = 1) (c0 : P.cellsOf f0.type = 1) (c1 : P.cellsOf f1.type = 1) (h0 : P.underlying f0.type = some (.int .i64)) (h1 : P.underlying f1.type = some (.slice q)) (hq : P.underlying q = some (.int .i64)) (cq : P.cellsOf q = 1)
    (h : DataW.trod enc P w base (fun _ => true) held fuel t [v] = some x) : ∃ ps, Puts w v ps := by
  rcases open_slice_pairs ht he ce o0 o1 c0 c1 h with ⟨hcs, _⟩ | ⟨a, len, cap, m, n, V0, V1, D0, D1, P0, P1, hcs, _, hl, hm, hmm, _, hx⟩
  · simp only [List.cons.injEq, and_true] at hcs
    exact ⟨[], Or.inl ⟨rfl, none, 0, hcs⟩⟩
  · simp only [List.cons.injEq, and_true] at hcs
    simp only [if_true] at hmm
    by_cases hl0 : len = 0
    · subst hl0; exact ⟨[], Or.inl ⟨rfl, some a, cap, hcs⟩⟩
    · have ha := addr_of (by simpa using (hx 0 (by omega)).1)
      obtain ⟨Z, hZ⟩ := choose_lt (α := Int × List Int) (n := m) (p := fun i z => V0 i = .int .i64 z.1 ∧ Ints w (V1 i) z.2) fun i hi => by
        obtain ⟨_, _, g0, g1⟩ := hx i hi
        obtain ⟨zs, hzs⟩ := open_Ints h1 hq cq g1
        obtain ⟨y, hy, _⟩ := DataW.trod_int h0 g0
        simp only [List.cons.injEq, and_true] at hy
        exact ⟨(y, zs), hy, hzs⟩
      refine ⟨(List.range len).map Z, Or.inr ⟨a.block, a.off, cap, V1, ?_, ?_, fun k hk => ?_⟩⟩
      · simp only [List.length_map, List.length_range]; rw [hcs, ← ha]
      · simp only [List.length_map, List.length_range]; omega
      · simp only [List.length_map, List.length_range] at hk
        obtain ⟨e0, e1, _, _⟩ := hx k (by omega)
        rw [ha, add_plain] at e0 e1
        obtain ⟨g0, g1⟩ := hZ k (by omega)
        rw [g0] at e0
        have hg : ((List.range len).map Z)[k]?.getD (0, []) = Z k := by simp [hk]
        rw [hg]
        exact ⟨e0, e1, g1⟩
end

end Go.Proofs.Ytmjdechoookpmaa

namespace Go.Proofs.Ytmjdechoookpmaa
open Go.ChangeShapes Go.WideShapes Go.ChangeAt Go.RowKit Go.Joins
set_option maxRecDepth 100000

theorem Try.own : ownKnob Try.prog.godebug = none := by kernel_rfl
theorem Try.laidOut : laidOutB Try.prog = true := by kernel_rfl
theorem Try.cellsDisk : Try.prog.cellsOf 47 = 2 := by kernel_rfl
theorem Try.cellsPut : Try.prog.cellsOf 144 = 2 := by kernel_rfl
theorem Try.cellsInt : Try.prog.cellsOf 2 = 1 := by kernel_rfl
theorem Try.cellsInts : Try.prog.cellsOf 36 = 1 := by kernel_rfl

set_option maxRecDepth 100000 in
/-- The argument of type Disk, opened. -/
theorem open_Disk {H : Type} {enc : TypeId × Value → H} {W : World} {r : Reach} {b0 : Nat} {v : Value} {d : DataW H} {p : List MemPlace} (hv : Value.okWide Try.prog W r b0 47 v) (h : DataW.Trod enc Try.prog W 0 (fun _ => true) true 47 v d p) :
    ∃ vB vC bs ps, v = .agg #[vB, vC] ∧ IntsS W vB bs ∧ Puts W vC ps := by
  obtain ⟨c0, c1, y0, y1, m, rfl, _, _, hy0, hy1⟩ := open_agg2 Try.underlying47 (by kernel_rfl) Try.cellsDisk hv h
  obtain ⟨bs, hbs⟩ := open_IntsS Try.underlying24 Try.underlying36 Try.underlying2 Try.cellsInts Try.cellsInt hy0
  obtain ⟨ps, hps⟩ := open_Puts Try.underlying45 Try.underlying144 Try.cellsPut rfl rfl Try.cellsInt Try.cellsInts Try.underlying2 Try.underlying36 Try.underlying2 Try.cellsInt hy1
  exact ⟨c0, c1, bs, ps, rfl, hbs, hps⟩

end Go.Proofs.Ytmjdechoookpmaa

namespace Go.Proofs.Ytmjdechoookpmaa
open Go.ChangeShapes Go.WideShapes Go.ChangeAt Go.RowKit Go.Joins Go.Deep
set_option maxRecDepth 100000

theorem Try.cellsByte' : Try.prog.cellsOf 5 = 1 := by kernel_rfl
theorem open_Bytes {H : Type} {enc : TypeId × Value → H} {P : Program} {w : World} {base : Nat} {held : Bool} {t e : TypeId} {fuel : Nat} {a : Option Addr} {len cap : Nat} {x : DataW H × List MemPlace} (ht : P.underlying t = some (.slice e)) (he : P.underlying e = some (.int .u8)) (ce : P.cellsOf e = 1) (h : DataW.trod enc P w base (fun _ => true) held fuel t [.slice a len cap] = some x) :
    len ≤ maxLen ∧ AtB w a len := by
  rcases open_slice1 ht ce h with ⟨hcs, _⟩ | ⟨a', len', cap', m, n, V, D, Pl, hcs, _, hl, hm, hmm, _, hx⟩
  · simp only [List.cons.injEq, and_true, Value.slice.injEq] at hcs
    obtain ⟨_, rfl, _⟩ := hcs
    exact ⟨by simp, fun k hk => by omega⟩
  · simp only [List.cons.injEq, and_true, Value.slice.injEq] at hcs
    obtain ⟨rfl, rfl, rfl⟩ := hcs
    simp only [if_true] at hmm
    refine ⟨by omega, fun k hk => ?_⟩
    have ha := addr_of (hx 0 (by omega)).1
    obtain ⟨z, h1, _, hw⟩ := DataW.trod_int he (hx k (by omega)).2
    have hz0 : IntKind.u8.min ≤ z ∧ z ≤ IntKind.u8.max := by simpa [Lit.wf] using hw
    have hz : 0 ≤ z ∧ z ≤ 255 := hz0
    have h2 := (hx k (by omega)).1
    rw [ha, add_plain] at h2
    refine ⟨a'.block, a'.off, by rw [← ha], z.toNat, by omega, ?_⟩
    rw [h2]
    simp only [List.cons.injEq, and_true] at h1
    rw [h1]
    congr 2
    omega
end Go.Proofs.Ytmjdechoookpmaa

namespace Go.Proofs.Ytmjdechoookpmaa
open Go.RowKit
set_option maxRecDepth 100000

abbrev E3 := Int × Int × Int
/-- The cells of a row of extents. -/
def exCell (es : List E3) (j : Nat) : Value := .int .i64 (if j % 3 = 0 then (es[j / 3]?.getD (0, 0, 0)).1 else if j % 3 = 1 then (es[j / 3]?.getD (0, 0, 0)).2.1 else (es[j / 3]?.getD (0, 0, 0)).2.2)
theorem exCell_0 (es : List E3) (k : Nat) : exCell es (k * 3) = .int .i64 (es[k]?.getD (0, 0, 0)).1 := by
  unfold exCell; rw [if_pos (by omega), show k * 3 / 3 = k by omega]
theorem exCell_1 (es : List E3) (k : Nat) : exCell es (k * 3 + 1) = .int .i64 (es[k]?.getD (0, 0, 0)).2.1 := by
  unfold exCell; rw [if_neg (by omega), if_pos (by omega), show (k * 3 + 1) / 3 = k by omega]
theorem exCell_2 (es : List E3) (k : Nat) : exCell es (k * 3 + 2) = .int .i64 (es[k]?.getD (0, 0, 0)).2.2 := by
  unfold exCell; rw [if_neg (by omega), if_neg (by omega), show (k * 3 + 2) / 3 = k by omega]

/-- Where the extents of a list lie. -/
def AtE (w : World) (a : Option Addr) (n : Nat) (es : List E3) : Prop :=
  ∀ k, k < n → ∃ b off, a = some ⟨b, off, none⟩ ∧ w.cell? ⟨b, off + k * 3, none⟩ = some (.int .i64 (es[k]?.getD (0, 0, 0)).1) ∧ w.cell? ⟨b, off + k * 3 + 1, none⟩ = some (.int .i64 (es[k]?.getD (0, 0, 0)).2.1) ∧ w.cell? ⟨b, off + k * 3 + 2, none⟩ = some (.int .i64 (es[k]?.getD (0, 0, 0)).2.2)
theorem AtE.later {w w' : World} {a : Option Addr} {n : Nat} {es : List E3} (h : AtE w a n es) (hb : Below w.heap.size w w') : AtE w' a n es := fun k hk => by
  obtain ⟨b, off, e, c0, c1, c2⟩ := h k hk
  exact ⟨b, off, e, cell_later hb c0, cell_later hb c1, cell_later hb c2⟩
/-- The slice v reads as the extents es. -/
def Exts (w : World) (v : Value) (es : List E3) : Prop := ∃ a cap, v = .slice a es.length cap ∧ (es.length ≤ maxLen ∧ es.length ≤ cap) ∧ AtE w a es.length es
theorem Exts.later {w w' : World} {v : Value} {es : List E3} (h : Exts w v es) (hb : Below w.heap.size w w') : Exts w' v es := by
  obtain ⟨a, cap, h1, h2, h3⟩ := h
  exact ⟨a, cap, h1, h2, h3.later hb⟩
theorem Exts.open' {w : World} {v : Value} {es : List E3} (h : Exts w v es) : ∃ a cap, v = .slice a es.length cap ∧ es.length ≤ maxLen ∧ AtE w a es.length es := by
  obtain ⟨a, cap, h1, h2, h3⟩ := h
  exact ⟨a, cap, h1, h2.1, h3⟩
theorem Exts.cap {w : World} {a : Option Addr} {n c : Nat} {es : List E3} (h : Exts w (.slice a n c) es) : es.length ≤ c := by
  obtain ⟨a', c', h1, h2, _⟩ := h
  simp only [Value.slice.injEq] at h1
  rw [h1.2.2]
  exact h2.2
theorem Exts.nil (w : World) (a : Option Addr) (cap : Nat) : Exts w (.slice a 0 cap) [] := ⟨a, cap, rfl, by simp, fun k hk => by simp at hk⟩

/-- The slice v holds the extents es, in one block of F. -/
def ExtsO (w : World) (v : Value) (es : List E3) (F : Nat → Prop) : Prop :=
  (es = [] ∧ ∃ a cap, v = .slice a 0 cap) ∨
  (∃ b cap, F b ∧ v = .slice (some ⟨b, 0, none⟩) es.length cap ∧ (es.length ≤ maxLen ∧ es.length ≤ cap) ∧ OwnRow w b (es.length * 3) (exCell es))
theorem OwnRow.atE {w : World} {b n : Nat} {es : List E3} (h : OwnRow w b (n * 3) (exCell es)) : AtE w (some ⟨b, 0, none⟩) n es := fun k hk =>
  ⟨b, 0, rfl, by rw [Nat.zero_add, h.cell (by omega), exCell_0], by rw [Nat.zero_add, h.cell (by omega), exCell_1], by rw [Nat.zero_add, h.cell (by omega), exCell_2]⟩
theorem ExtsO.reads {w : World} {v : Value} {es : List E3} {F : Nat → Prop} (h : ExtsO w v es F) : Exts w v es := by
  rcases h with ⟨rfl, a, cap, rfl⟩ | ⟨b, cap, _, h1, h2, h3⟩
  · exact Exts.nil w a cap
  · exact ⟨_, cap, h1, h2, h3.atE⟩
theorem ExtsO.keep {w w' : World} {v : Value} {es : List E3} {F : Nat → Prop} (h : ExtsO w v es F) (e : ∀ b, F b → b < w.heap.size → w'.heap[b]? = w.heap[b]?) : ExtsO w' v es F := by
  rcases h with h | ⟨b, cap, hF, h1, h2, h3⟩
  · exact Or.inl h
  · exact Or.inr ⟨b, cap, hF, h1, h2, h3.block (e b hF h3.lt)⟩
theorem ExtsO.mono {w : World} {v : Value} {es : List E3} {F G : Nat → Prop} (h : ExtsO w v es F) (e : ∀ b, F b → G b) : ExtsO w v es G := by
  rcases h with h | ⟨b, cap, hF, h1⟩
  · exact Or.inl h
  · exact Or.inr ⟨b, cap, e b hF, h1⟩
theorem ExtsO.bound {w : World} {v : Value} {es : List E3} {F : Nat → Prop} (h : ExtsO w v es F) : ExtsO w v es (fun b => F b ∧ b < w.heap.size) := by
  rcases h with h | ⟨b, cap, hF, h1, h2, h3⟩
  · exact Or.inl h
  · exact Or.inr ⟨b, cap, ⟨hF, h3.lt⟩, h1, h2, h3⟩
theorem ExtsO.later {w w' : World} {v : Value} {es : List E3} {F : Nat → Prop} (h : ExtsO w v es F) (hb : Below w.heap.size w w') : ExtsO w' v es F := h.keep fun b _ hlt => hb.block b hlt
theorem ExtsO.store {w : World} {v : Value} {es : List E3} {F : Nat → Prop} (h : ExtsO w v es F) {p : Addr} (hp : ∀ b, F b → b ≠ p.block) (x : Value) : ExtsO (w.setCell p x) v es F := h.keep fun b hb _ => Below.heap_setCell _ _ _ _ (hp b hb)

/-- The marks of n extents, from k on. -/
def marksE (k : Int) (n : Nat) : List E3 := (List.range n).map fun i : Nat => (k + 3 * (i : Int), k + 3 * (i : Int) + 1, k + 3 * (i : Int) + 2)
theorem marksE_length (k : Int) (n : Nat) : (marksE k n).length = n := by simp [marksE]
theorem marksE_get (k : Int) {n i : Nat} (h : i < n) : (marksE k n)[i]?.getD (0, 0, 0) = (k + 3 * (i : Int), k + 3 * (i : Int) + 1, k + 3 * (i : Int) + 2) := by simp [marksE, h]
theorem exCell_marks (k : Int) {n c : Nat} (h : c < n * 3) : exCell (marksE k n) c = .int .i64 (k + (c : Int)) := by
  have h3 : c / 3 < n := by omega
  unfold exCell
  rw [marksE_get k h3]
  congr 1
  have : c % 3 = 0 ∨ c % 3 = 1 ∨ c % 3 = 2 := by omega
  rcases this with e | e | e
  · rw [if_pos e]; omega
  · rw [if_neg (by omega), if_pos e]; show k + 3 * ((c / 3 : Nat) : Int) + 1 = k + (c : Int); omega
  · rw [if_neg (by omega), if_neg (by omega)]; show k + 3 * ((c / 3 : Nat) : Int) + 2 = k + (c : Int); omega

/-- 'make' of n triples. -/
theorem run_make_trip {P : Program} (t e : TypeId) (x y z : Value) (bytes : Nat) (ht : P.underlying t = some (.slice e)) (hinfo : (P.info? e).map (fun i => (i.zero, i.size, i.bytes)) = some (some (.agg #[x, y, z]), 3, bytes)) (hz : (Value.agg #[x, y, z]).cells = #[x, y, z])
    (kl kc : IntKind) (n : Nat) (hbytes : bytes * n ≤ 281474976710656) (h63 : n ≤ 9223372036854775807) (w : World) :
    (Instr.makeSlice t (.int kl (n : Int)) (.int kc (n : Int))).run P w = .ok (.slice (some ⟨w.heap.size, 0, none⟩) n n) (w.alloc (.cells (madeCells #[x, y, z] (n * 3)) e)) := by
  obtain ⟨i, hi, hzz⟩ := Option.map_eq_some_iff.1 hinfo
  simp only [Prod.mk.injEq] at hzz
  obtain ⟨h1, h2, h3⟩ := hzz
  have hb' : (i.bytes : Int) * (n : Int) ≤ 281474976710656 := by
    have h : ((i.bytes * n : Nat) : Int) ≤ 281474976710656 := by rw [h3]; omega
    rwa [Int.natCast_mul] at h
  have hr := run_make (P := P) w t e i _ ht hi h1 kl kc n n (by omega) (Int.le_refl _) hb' (by omega)
  simp only [Int.toNat_natCast, h2, hz] at hr
  exact hr
theorem OwnRow.madeTrip (w : World) (n : Nat) (t : TypeId) : OwnRow (w.alloc (.cells (madeCells #[.int .i64 0, .int .i64 0, .int .i64 0] (n * 3)) t)) w.heap.size (n * 3) (fun _ => .int .i64 0) := by
  refine ⟨_, t, Go.Deep.blk_alloc_new _ _, by rw [size_madeCells]; exact Nat.le_refl _, fun i hi => ?_⟩
  unfold madeCells
  rw [Array.getElem?_map]
  have h1 : (Array.range (n * 3))[i]? = some i := by simp [hi]
  rw [h1]
  have : i % 3 = 0 ∨ i % 3 = 1 ∨ i % 3 = 2 := by omega
  rcases this with e | e | e <;> simp [e]
/-- The cells of a row of extents of which the first j stand. -/
def partE (es : List E3) (j c : Nat) : Value := if c < j * 3 then exCell es c else .int .i64 0
theorem partE_next (es : List E3) (j c : Nat) : (if c = j * 3 + 2 then .int .i64 (es[j]?.getD (0, 0, 0)).2.2 else (if c = j * 3 + 1 then .int .i64 (es[j]?.getD (0, 0, 0)).2.1 else (if c = j * 3 then .int .i64 (es[j]?.getD (0, 0, 0)).1 else partE es j c))) = partE es (j + 1) c := by
  unfold partE
  by_cases e2 : c = j * 3 + 2
  · subst e2; rw [if_pos rfl, if_pos (by omega), exCell_2]
  · rw [if_neg e2]
    by_cases e1 : c = j * 3 + 1
    · subst e1; rw [if_pos rfl, if_pos (by omega), exCell_1]
    · rw [if_neg e1]
      by_cases e0 : c = j * 3
      · subst e0; rw [if_pos rfl, if_pos (by omega), exCell_0]
      · rw [if_neg e0]
        by_cases h : c < j * 3
        · rw [if_pos h, if_pos (by omega)]
        · rw [if_neg h, if_neg (by omega)]
end Go.Proofs.Ytmjdechoookpmaa

namespace Go.Proofs.Ytmjdechoookpmaa
open Go.RowKit
set_option maxRecDepth 100000

/-- The first code that is not 0 of f 0, .., f (m - 1). -/
def firstNZ (f : Nat → Int) : Nat → Int
  | 0 => 0
  | m + 1 => if firstNZ f m = 0 then f m else firstNZ f m
theorem firstNZ_zero {f : Nat → Int} {m : Nat} (h : ∀ i, i < m → f i = 0) : firstNZ f m = 0 := by
  induction m with
  | zero => rfl
  | succ m ih => unfold firstNZ; rw [if_pos (ih fun i hi => h i (by omega))]; exact h m (by omega)
theorem firstNZ_at {f : Nat → Int} {m j : Nat} (h : ∀ i, i < j → f i = 0) (hj : j < m) (hf : ¬ f j = 0) : firstNZ f m = f j := by
  induction m with
  | zero => omega
  | succ m ih =>
    unfold firstNZ
    by_cases e : j = m
    · subst e; rw [if_pos (firstNZ_zero h)]
    · rw [ih (by omega), if_neg hf]
theorem firstNZ_all {f : Nat → Int} {m : Nat} (h : firstNZ f m = 0) : ∀ i, i < m → f i = 0 := by
  induction m with
  | zero => intro i hi; omega
  | succ m ih =>
    unfold firstNZ at h
    by_cases e : firstNZ f m = 0
    · rw [if_pos e] at h
      intro i hi
      by_cases e2 : i = m
      · subst e2; exact h
      · exact ih e i (by omega)
    · rw [if_neg e] at h; exact absurd h e

/-- An extent of a disk of n blocks is right. -/
def rightB (e : E3) (n : Nat) : Bool := decide (1 ≤ e.2.2 ∧ e.2.2 ≤ 9999) && (decide (0 ≤ e.1 ∧ e.1 ≤ (n : Int)) && (decide (1 ≤ e.2.1 ∧ e.2.1 ≤ (n : Int)) && decide (e.1 + e.2.1 ≤ (n : Int))))
theorem rightB_iff {e : E3} {n : Nat} : rightB e n = true ↔ (1 ≤ e.2.2 ∧ e.2.2 ≤ 9999) ∧ (0 ≤ e.1 ∧ e.1 ≤ (n : Int)) ∧ (1 ≤ e.2.1 ∧ e.2.1 ≤ (n : Int)) ∧ e.1 + e.2.1 ≤ (n : Int) := by simp [rightB]
def extAt (es : List E3) (i : Nat) : E3 := es[i]?.getD (0, 0, 0)
/-- The code of the extent at place i. -/
def extOne (es : List E3) (n i : Nat) : Int := if rightB (extAt es i) n = true then (if 0 < i ∧ (extAt es i).1 < (extAt es (i - 1)).1 + (extAt es (i - 1)).2.1 then 1 else 0) else 3
def kernF (d : (List (List Int) × List (Int × List Int)) × List E3) : Int := if faultF d.1.1 d.1.2 = 0 then (if 8 < d.2.length then 2 else firstNZ (extOne d.2 d.1.1.length) d.2.length) else faultF d.1.1 d.1.2
theorem kernF_disk {d : (List (List Int) × List (Int × List Int)) × List E3} (h : ¬ faultF d.1.1 d.1.2 = 0) : kernF d = faultF d.1.1 d.1.2 := by unfold kernF; rw [if_neg h]
theorem kernF_many {d : (List (List Int) × List (Int × List Int)) × List E3} (h : faultF d.1.1 d.1.2 = 0) (h8 : 8 < d.2.length) : kernF d = 2 := by unfold kernF; rw [if_pos h, if_pos h8]
theorem kernF_few {d : (List (List Int) × List (Int × List Int)) × List E3} (h : faultF d.1.1 d.1.2 = 0) (h8 : ¬ 8 < d.2.length) : kernF d = firstNZ (extOne d.2 d.1.1.length) d.2.length := by unfold kernF; rw [if_pos h, if_neg h8]
/-- Of a kern without a fault. -/
theorem kernF_ok {d : (List (List Int) × List (Int × List Int)) × List E3} (h : kernF d = 0) : faultF d.1.1 d.1.2 = 0 ∧ d.2.length ≤ 8 ∧ ∀ i, i < d.2.length → rightB (extAt d.2 i) d.1.1.length = true ∧ (0 < i → (extAt d.2 (i - 1)).1 + (extAt d.2 (i - 1)).2.1 ≤ (extAt d.2 i).1) := by
  by_cases h1 : faultF d.1.1 d.1.2 = 0
  · by_cases h2 : 8 < d.2.length
    · rw [kernF_many h1 h2] at h; omega
    · rw [kernF_few h1 h2] at h
      refine ⟨h1, by omega, fun i hi => ?_⟩
      have h3 := firstNZ_all h i hi
      unfold extOne at h3
      by_cases h4 : rightB (extAt d.2 i) d.1.1.length = true
      · rw [if_pos h4] at h3
        refine ⟨h4, fun h0 => ?_⟩
        by_cases h5 : 0 < i ∧ (extAt d.2 i).1 < (extAt d.2 (i - 1)).1 + (extAt d.2 (i - 1)).2.1
        · rw [if_pos h5] at h3; omega
        · omega
      · rw [if_neg h4] at h3; omega
  · rw [kernF_disk h1] at h; exact absurd h h1
end Go.Proofs.Ytmjdechoookpmaa
