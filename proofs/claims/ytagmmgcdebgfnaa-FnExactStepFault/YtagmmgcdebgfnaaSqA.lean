
/- SeqOf, both sides; what is wrong of a disk that is to have a file system. -/
import Derived.Test.YtagmmgcdebgfnaaSqP
import Derived.Test.YtagmmgcdebgfnaaCelA
namespace Go.Proofs.Ytagmmgcdebgfnaa
open Go.RowKit
set_option maxRecDepth 100000

def seqB (x : Int) : Bool := decide (1 ≤ x ∧ x ≤ 60000)
theorem isSeq_any (w : World) (x : Int) : Calls Try.prog 65 #[.int .i64 x] w fun e w' => e = .returned (.bool (seqB x)) ∧ w' = w := by
  by_cases h1 : 1 ≤ x
  · have HE : Hid (seqB x = decide (x ≤ 60000)) := by unfold Hid seqB; simp [h1]
    go_enter Try.func65, Try.ntmps65
    go_wp2
    go_ret
    exact ⟨ret_bool (by rw [HE.out]), rfl⟩
  · have HE : Hid (seqB x = false) := by unfold Hid seqB; simp [h1]
    have hd : decide (1 ≤ x) = false := by simpa using h1
    go_enter Try.func65, Try.ntmps65
    go_wp2
    go_ret
    exact ⟨ret_bool (by rw [HE.out]), rfl⟩
theorem l12Seq_any (w : World) (x : Int) : Calls Try.prog 60 #[.int .i64 x] w fun e w' => e = .returned (.bool (seqB x)) ∧ w' = w := by
  have HE : Hid ((decide (1 ≤ x) && decide (x ≤ 60000)) = seqB x) := by unfold Hid seqB; simp
  go_enter Try.func60, Try.ntmps60
  go_wp2_with fail
  refine (l1In_any _ _ _ _).mono ?_
  rintro e w1 ⟨rfl, rfl⟩
  go_wp2
  go_ret
  exact ⟨ret_bool HE.out, rfl⟩
theorem superB_two (z0 z1 : Int) : superB [z0, z1] = (decide (z0 = 7) && seqB z1) := by unfold superB seqB; simp
theorem superB_len {zs : List Int} (h : ¬ zs.length = 2) : superB zs = false := by unfold superB; simp [h]
theorem two_of {zs : List Int} (h : zs.length = 2) : ∃ z0 z1, zs = [z0, z1] := by
  match zs, h with
  | [a, b], _ => exact ⟨a, b, rfl⟩

set_option maxHeartbeats 1600000 in
theorem sizeFault_any (w : World) (a1 : Option Addr) (n1 c1 : Nat) (a2 : Option Addr) (n2 c2 : Nat) (d : DK) (h : DiskR w (.slice a1 n1 c1) (.slice a2 n2 c2) d) :
    Calls Try.prog 62 #[.agg #[.slice a1 n1 c1, .slice a2 n2 c2]] w fun e w' => e = .returned (.int .i64 (sizF d)) ∧ Below w.heap.size w w' := by
  have HF : Hid (∀ W, Below w.heap.size w W → Calls Try.prog 90 #[.agg #[.slice a1 n1 c1, .slice a2 n2 c2]] W fun e w' => e = .returned (.int .i64 (faultF d.1 d.2)) ∧ Below W.heap.size W w') := fun W hW => fault_any W _ _ d.1 d.2 (h.1.later hW) (h.2.later hW)
  have HR : Hid (sizF d = if faultF d.1 d.2 = 0 then (if d.1.length = 47 then 0 else 1) else faultF d.1 d.2) := rfl
  have HX : Hid (Bx (w.alloc (.cells #[.slice a1 n1 c1, .slice a2 n2 c2] 49)) w.heap.size [.slice a1 n1 c1, .slice a2 n2 c2]) := Bx.new w [.slice a1 n1 c1, .slice a2 n2 c2] _
  obtain ⟨_, _, e1, hm, _⟩ := h.1.open'
  simp only [Value.slice.injEq] at e1
  obtain ⟨rfl, rfl, rfl⟩ := e1
  unfold maxLen at hm
  have x0 := HX.out 0 _ rfl
  have x1 := HX.out 1 _ rfl
  clear h
  generalize sizF d = RES at *
  generalize faultF d.1 d.2 = r at *
  generalize d.1.length = n at *
  go_enter Try.func62, Try.ntmps62
  go_wp2_with fail
  refine (HF.out _ (later1 _ _)).mono ?_
  rintro e w1 ⟨rfl, hb⟩
  have HB : Hid (Below w.heap.size w w1) := (later1 _ _).trans (hb.mono (by simp))
  have y0 := (HX.out.later hb) 0 _ rfl
  clear hb x0 x1
  by_cases h0 : r = 0
  · have hr : (r != 0) = false := by simpa using h0
    by_cases h1 : n = 47
    · have hn : (((n : Nat) : Int) != 47) = false := by simp; omega
      have HE : Hid (RES = 0) := by unfold Hid; rw [HR.out, if_pos h0, if_pos h1]
      clear h0 h1 HR
      go_wp2
      go_ret
      exact ⟨ret_int HE.out.symm, HB.out⟩
    · have hn : (((n : Nat) : Int) != 47) = true := by simp; omega
      have HE : Hid (RES = 1) := by unfold Hid; rw [HR.out, if_pos h0, if_neg h1]
      clear h0 h1 HR
      go_wp2
      go_ret
      exact ⟨ret_int HE.out.symm, HB.out⟩
  · have hr : (r != 0) = true := by simpa using h0
    have HE : Hid (RES = r) := by unfold Hid; rw [HR.out, if_neg h0]
    clear h0 HR
    go_wp2
    go_ret
    exact ⟨ret_int HE.out.symm, HB.out⟩

set_option maxHeartbeats 3200000 in
theorem implSeqU (w : World) (a1 : Option Addr) (n1 c1 : Nat) (a2 : Option Addr) (n2 c2 : Nat) (d : DK) (h : DiskR w (.slice a1 n1 c1) (.slice a2 n2 c2) d) (hs : sizeDisk d ≤ 1048576) :
    Calls Try.prog 23 #[.agg #[.slice a1 n1 c1, .slice a2 n2 c2]] w fun e w' => e = .returned (.agg #[.int .i64 (seqR d).1, .int .i64 (seqR d).2]) ∧ Below w.heap.size w w' := by
  have HF : Hid (∀ W, Below w.heap.size w W → Calls Try.prog 62 #[.agg #[.slice a1 n1 c1, .slice a2 n2 c2]] W fun e w' => e = .returned (.int .i64 (sizF d)) ∧ Below W.heap.size W w') := fun W hW => sizeFault_any W _ _ _ _ _ _ d (h.later hW)
  have HO : Hid (sizF d = 0 → ∀ W, Below w.heap.size w W → Calls Try.prog 63 #[.agg #[.slice a1 n1 c1, .slice a2 n2 c2]] W fun e w' => ∃ bd, e = .returned (.pointer (some ⟨bd, 0, none⟩)) ∧ Below W.heap.size W w' ∧ DrvK w' bd d) := fun hf W hW => open_drv (h.later hW) (sizF_zero hf).1 hs
  have HRD : Hid (sizF d = 0 → ∀ W bd, DrvK W bd d → Calls Try.prog 64 #[.pointer (some ⟨bd, 0, none⟩), .int .i64 0] W fun e w' => ∃ a n c, e = .returned (.slice a n c) ∧ Below W.heap.size W w' ∧ IntsO w' (.slice a n c) (atF d.1 d.2 0) (fresh W w')) := fun hf W bd hd => read_drv hd 0 (by have := (sizF_zero hf).2; omega)
  have HRA : Hid (sizF d = 0 → superB (atF d.1 d.2 0) = true → seqR d = (0, (atF d.1 d.2 0)[1]?.getD 0)) := fun h1 h2 => by unfold seqR; rw [if_pos h1, if_pos h2]
  have HRB : Hid (sizF d = 0 → superB (atF d.1 d.2 0) = false → seqR d = (5, 0)) := fun h1 h2 => by unfold seqR; rw [if_pos h1, if_neg (by rw [h2]; simp)]
  have HRC : Hid (¬ sizF d = 0 → seqR d = (sizF d, 0)) := fun h1 => by unfold seqR; rw [if_neg h1]
  have HSB : Hid (∃ SB, SB = superB (atF d.1 d.2 0)) := ⟨_, rfl⟩
  clear h hs
  generalize seqR d = RES at *
  generalize sizF d = r at *
  generalize hzz : atF d.1 d.2 0 = zs at *
  clear hzz
  obtain ⟨SB, hsb⟩ := HSB.out
  replace HSB : Hid (SB = superB zs) := hsb
  rw [← hsb] at HRA HRB
  clear hsb
  have HB0 : Hid (Below w.heap.size w ((w.alloc (.cells #[.slice a1 n1 c1, .slice a2 n2 c2] 49)).alloc (.cells #[.int .i64 0, .int .i64 0] 34))) := later2 _ _ _
  have HX0 : Hid (Bx ((w.alloc (.cells #[.slice a1 n1 c1, .slice a2 n2 c2] 49)).alloc (.cells #[.int .i64 0, .int .i64 0] 34)) (w.heap.size) [.slice a1 n1 c1, .slice a2 n2 c2]) := (Bx.new w [.slice a1 n1 c1, .slice a2 n2 c2] _).later (later1 _ _)
  have HR0 : Hid (OwnRow ((w.alloc (.cells #[.slice a1 n1 c1, .slice a2 n2 c2] 49)).alloc (.cells #[.int .i64 0, .int .i64 0] 34)) (w.heap.size + 1) 2 (cel [.int .i64 0, .int .i64 0])) := (show OwnRow ((w.alloc (.cells #[.slice a1 n1 c1, .slice a2 n2 c2] 49)).alloc (.cells #[.int .i64 0, .int .i64 0] 34)) (w.heap.size + 1) 2 (cel [.int .i64 0, .int .i64 0]) from by have := newCel (w.alloc (.cells #[.slice a1 n1 c1, .slice a2 n2 c2] 49)) [.int .i64 0, .int .i64 0] 34; rw [World.size_alloc] at this; exact this)
  go_enter Try.func23, Try.ntmps23
  have xHX0 := HX0.out 0 _ rfl
  have xHX1 := HX0.out 1 _ rfl
  go_wp2_with fail
  clear xHX0 xHX1
  refine (HF.out _ HB0.out).mono ?_
  rintro e w1 ⟨rfl, hb⟩
  have HB1 : Hid (Below w.heap.size w w1) := HB0.out.trans (hb.mono HB0.out.size)
  have HX1 : Hid (Bx w1 (w.heap.size) [.slice a1 n1 c1, .slice a2 n2 c2]) := HX0.out.later hb
  have HR1 : Hid (OwnRow w1 (w.heap.size + 1) 2 (cel [.int .i64 0, .int .i64 0])) := HR0.out.later hb
  clear hb
  by_cases hf : r = 0
  · skip
    have hfb : (r != 0) = false := by simpa using hf
    replace HRA : Hid (SB = true → RES = (0, zs[1]?.getD 0)) := HRA.out hf
    replace HRB : Hid (SB = false → RES = (5, 0)) := HRB.out hf
    clear HRC
    have xHX0 := HX1.out 0 _ rfl
    have xHX1 := HX1.out 1 _ rfl
    go_wp2_with fail
    clear xHX0 xHX1
    refine (HO.out hf _ HB1.out).mono ?_
    rintro e w2 ⟨bd, rfl, hb, hdk⟩
    have HDK : Hid (DrvK w2 bd d) := hdk
    clear hdk
    have HB2 : Hid (Below w.heap.size w w2) := HB1.out.trans (hb.mono HB1.out.size)
    have HX2 : Hid (Bx w2 (w.heap.size) [.slice a1 n1 c1, .slice a2 n2 c2]) := HX1.out.later hb
    have HR2 : Hid (OwnRow w2 (w.heap.size + 1) 2 (cel [.int .i64 0, .int .i64 0])) := HR1.out.later hb
    clear hb
    go_wp2_with fail
    refine (HRD.out hf _ _ HDK.out).mono ?_
    rintro e w3 ⟨az, nz, cz, rfl, hb, ho⟩
    obtain ⟨_, _, ez, _, hat⟩ := ho.reads.open'
    simp only [Value.slice.injEq] at ez
    obtain ⟨rfl, rfl, rfl⟩ := ez
    have HAT : Hid (At1 w3 az zs.length (fun k => .int .i64 (zs[k]?.getD 0))) := hat
    clear ho hat
    have HB3 : Hid (Below w.heap.size w w3) := HB2.out.trans (hb.mono HB2.out.size)
    have HX3 : Hid (Bx w3 (w.heap.size) [.slice a1 n1 c1, .slice a2 n2 c2]) := HX2.out.later hb
    have HR3 : Hid (OwnRow w3 (w.heap.size + 1) 2 (cel [.int .i64 0, .int .i64 0])) := HR2.out.later hb
    clear hb
    clear HF HO HRD HDK
    by_cases hl : zs.length = 2
    · skip
      obtain ⟨z0, z1, rfl⟩ := two_of hl
      have hz0 := HAT.out 0 (by simp)
      have hz1 := HAT.out 1 (by simp)
      obtain ⟨bz, oz, rfl, k0⟩ := hz0
      obtain ⟨_, _, ez, k1⟩ := hz1
      simp only [Option.some.injEq, Addr.mk.injEq, and_true] at ez
      obtain ⟨rfl, rfl⟩ := ez
      replace k0 : w3.cell? ⟨bz, oz + 0, none⟩ = some (.int .i64 z0) := k0
      replace k1 : w3.cell? ⟨bz, oz + 1, none⟩ = some (.int .i64 z1) := k1
      rw [Nat.add_zero] at k0
      have hbz := World.block_lt_of_cell? _ _ k0
      have HS : Hid (SB = (decide (z0 = 7) && seqB z1)) := by unfold Hid; rw [HSB.out, superB_two]
      by_cases h7 : z0 = 7
      · skip
        have h7b : (z0 != 7) = false := by simpa using h7
        cases hq : seqB z1 with
        | true =>
          have HE : Hid (RES = (0, z1)) := HRA.out (by rw [HS.out, decide_eq_true h7, hq]; rfl)
          have HQ : Hid (∀ W, Calls Try.prog 65 #[.int .i64 z1] W fun e w' => e = .returned (.bool true) ∧ w' = W) := fun W => by rw [← hq]; exact isSeq_any W z1
          clear h7 hl HS HSB HAT hq
          go_wp2_with fail
          refine (HQ.out _).mono ?_
          rintro e wq ⟨rfl, hwq⟩
          subst wq
          have hrr := HR3.out
          have t0 : w3.cell? ⟨w.heap.size + 1, 0, none⟩ = some (.int .i64 0) := hrr.cell (i := 0) (by omega)
          have t1 : w3.cell? ⟨w.heap.size + 1, 1, none⟩ = some (.int .i64 0) := hrr.cell (i := 1) (by omega)
          have f0 := hrr.frozen 0
          have f1 := hrr.frozen 1
          have hlr := hrr.lt
          clear hrr
          go_wp2
          exact bodyPost_ret (v := .agg #[.int .i64 0, .int .i64 z1]) (by simp [results, Try.results23, go_sem, t0, t1]) rfl (⟨by rw [HE.out], ((HB3.out).setCell (by first | omega | (simp <;> omega)) _).setCell (by first | omega | (simp <;> omega)) _⟩)
        | false =>
          have HE : Hid (RES = (5, 0)) := HRB.out (by rw [HS.out, hq, Bool.and_false])
          have HQ : Hid (∀ W, Calls Try.prog 65 #[.int .i64 z1] W fun e w' => e = .returned (.bool false) ∧ w' = W) := fun W => by rw [← hq]; exact isSeq_any W z1
          clear h7 hl HS HSB HAT hq
          go_wp2_with fail
          refine (HQ.out _).mono ?_
          rintro e wq ⟨rfl, hwq⟩
          subst wq
          have hrr := HR3.out
          have t0 : w3.cell? ⟨w.heap.size + 1, 0, none⟩ = some (.int .i64 0) := hrr.cell (i := 0) (by omega)
          have t1 : w3.cell? ⟨w.heap.size + 1, 1, none⟩ = some (.int .i64 0) := hrr.cell (i := 1) (by omega)
          have f0 := hrr.frozen 0
          have f1 := hrr.frozen 1
          have hlr := hrr.lt
          clear hrr
          go_wp2
          exact bodyPost_ret (v := .agg #[.int .i64 5, .int .i64 0]) (by simp [results, Try.results23, go_sem, t0, t1]) rfl (⟨by rw [HE.out], ((HB3.out).setCell (by first | omega | (simp <;> omega)) _).setCell (by first | omega | (simp <;> omega)) _⟩)
      · skip
        have h7b : (z0 != 7) = true := by simpa using h7
        have HE : Hid (RES = (5, 0)) := HRB.out (by rw [HS.out, decide_eq_false h7]; rfl)
        clear h7 hl HS HSB HAT
        have hrr := HR3.out
        have t0 : w3.cell? ⟨w.heap.size + 1, 0, none⟩ = some (.int .i64 0) := hrr.cell (i := 0) (by omega)
        have t1 : w3.cell? ⟨w.heap.size + 1, 1, none⟩ = some (.int .i64 0) := hrr.cell (i := 1) (by omega)
        have f0 := hrr.frozen 0
        have f1 := hrr.frozen 1
        have hlr := hrr.lt
        clear hrr
        go_wp2
        exact bodyPost_ret (v := .agg #[.int .i64 5, .int .i64 0]) (by simp [results, Try.results23, go_sem, t0, t1]) rfl (⟨by rw [HE.out], ((HB3.out).setCell (by first | omega | (simp <;> omega)) _).setCell (by first | omega | (simp <;> omega)) _⟩)
    · skip
      have hlb : (((zs.length : Nat) : Int) != 2) = true := by simp; omega
      have HE : Hid (RES = (5, 0)) := HRB.out (by rw [HSB.out, superB_len hl])
      clear hl HSB HAT
      have hrr := HR3.out
      have t0 : w3.cell? ⟨w.heap.size + 1, 0, none⟩ = some (.int .i64 0) := hrr.cell (i := 0) (by omega)
      have t1 : w3.cell? ⟨w.heap.size + 1, 1, none⟩ = some (.int .i64 0) := hrr.cell (i := 1) (by omega)
      have f0 := hrr.frozen 0
      have f1 := hrr.frozen 1
      have hlr := hrr.lt
      clear hrr
      go_wp2
      exact bodyPost_ret (v := .agg #[.int .i64 5, .int .i64 0]) (by simp [results, Try.results23, go_sem, t0, t1]) rfl (⟨by rw [HE.out], ((HB3.out).setCell (by first | omega | (simp <;> omega)) _).setCell (by first | omega | (simp <;> omega)) _⟩)
  · skip
    have hbb : (r != 0) = true := by simpa using hf
    have HE : Hid (RES = (r, 0)) := HRC.out hf
    have hrr := HR1.out
    have t0 : w1.cell? ⟨w.heap.size + 1, 0, none⟩ = some (.int .i64 0) := hrr.cell (i := 0) (by omega)
    have t1 : w1.cell? ⟨w.heap.size + 1, 1, none⟩ = some (.int .i64 0) := hrr.cell (i := 1) (by omega)
    have f0 := hrr.frozen 0
    have f1 := hrr.frozen 1
    have hlr := hrr.lt
    clear hrr
    go_wp2
    exact bodyPost_ret (v := .agg #[.int .i64 r, .int .i64 0]) (by simp [results, Try.results23, go_sem, t0, t1]) rfl (⟨by rw [HE.out], ((HB1.out).setCell (by first | omega | (simp <;> omega)) _).setCell (by first | omega | (simp <;> omega)) _⟩)

set_option maxHeartbeats 3200000 in
theorem specSeqU (w : World) (a1 : Option Addr) (n1 c1 : Nat) (a2 : Option Addr) (n2 c2 : Nat) (d : DK) (h : DiskR w (.slice a1 n1 c1) (.slice a2 n2 c2) d) (_hs : sizeDisk d ≤ 1048576) :
    Calls Try.prog 21 #[.agg #[.slice a1 n1 c1, .slice a2 n2 c2]] w fun e w' => e = .returned (.agg #[.int .i64 (seqR d).1, .int .i64 (seqR d).2]) ∧ Below w.heap.size w w' := by
  obtain ⟨_, _, e1, hm, sB⟩ := h.1.open'
  simp only [Value.slice.injEq] at e1
  obtain ⟨rfl, rfl, rfl⟩ := e1
  obtain ⟨_, _, e2, _, sP⟩ := h.2.open'
  simp only [Value.slice.injEq] at e2
  obtain ⟨rfl, rfl, rfl⟩ := e2
  have HF : Hid (∀ W, Below w.heap.size w W → W.cell? ⟨w.heap.size, 0, none⟩ = some (.slice a1 d.1.length c1) → W.cell? ⟨w.heap.size, 1, none⟩ = some (.slice a2 d.2.length c2) → Calls Try.prog 58 #[.pointer (some ⟨w.heap.size, 0, none⟩)] W fun e w' => e = .returned (.int .i64 (faultF d.1 d.2)) ∧ ∃ m, w' = W.drewN m) := fun W hW x0 x1 => l1Fault_any x0 x1 (h.1.later hW) (h.2.later hW)
  have HRD : Hid (faultF d.1 d.2 = 0 → d.1.length = 47 → ∀ W, Below w.heap.size w W → W.cell? ⟨w.heap.size, 0, none⟩ = some (.slice a1 d.1.length c1) → W.cell? ⟨w.heap.size, 1, none⟩ = some (.slice a2 d.2.length c2) → Calls Try.prog 59 #[.pointer (some ⟨w.heap.size, 0, none⟩), .int .i64 0] W fun e w' => ∃ ua un uc, e = .returned (.slice ua un uc) ∧ Ints W (.slice ua un uc) (atF d.1 d.2 0) ∧ w' = W) := fun hf h47 W hW x0 x1 => l1At_walk W _ _ _ _ c1 _ c2 d.1 d.2 0 (by omega) (faultF_lens hf).1 rfl (faultF_lens hf).2 x0 x1 (sB.later hW) (sP.later hW)
  have HRA : Hid (faultF d.1 d.2 = 0 → d.1.length = 47 → superB (atF d.1 d.2 0) = true → seqR d = (0, (atF d.1 d.2 0)[1]?.getD 0)) := fun h0 h1 h2 => by unfold seqR sizF; rw [if_pos h0, if_pos h1, if_pos rfl, if_pos h2]
  have HRB : Hid (faultF d.1 d.2 = 0 → d.1.length = 47 → superB (atF d.1 d.2 0) = false → seqR d = (5, 0)) := fun h0 h1 h2 => by unfold seqR sizF; rw [if_pos h0, if_pos h1, if_pos rfl, if_neg (by rw [h2]; simp)]
  have HRC : Hid (¬ faultF d.1 d.2 = 0 → seqR d = (faultF d.1 d.2, 0)) := fun h0 => by unfold seqR sizF; rw [if_neg h0, if_neg h0]
  have HRE : Hid (faultF d.1 d.2 = 0 → ¬ d.1.length = 47 → seqR d = (1, 0)) := fun h0 h1 => by unfold seqR sizF; rw [if_pos h0, if_neg h1, if_neg (by decide)]
  have HSB : Hid (∃ SB, SB = superB (atF d.1 d.2 0)) := ⟨_, rfl⟩
  unfold maxLen at hm
  clear h sB sP
  generalize seqR d = RES at *
  generalize hff : faultF d.1 d.2 = r at *
  generalize hzz : atF d.1 d.2 0 = zs at *
  clear hzz hff
  generalize d.1.length = n1 at *
  generalize d.2.length = n2 at *
  obtain ⟨SB, hsb⟩ := HSB.out
  replace HSB : Hid (SB = superB zs) := hsb
  rw [← hsb] at HRA HRB
  clear hsb
  have HB0 : Hid (Below w.heap.size w ((w.alloc (.cells #[.slice a1 n1 c1, .slice a2 n2 c2] 49)).alloc (.cells #[.int .i64 0, .int .i64 0] 34))) := later2 _ _ _
  have HX0 : Hid (Bx ((w.alloc (.cells #[.slice a1 n1 c1, .slice a2 n2 c2] 49)).alloc (.cells #[.int .i64 0, .int .i64 0] 34)) (w.heap.size) [.slice a1 n1 c1, .slice a2 n2 c2]) := (Bx.new w [.slice a1 n1 c1, .slice a2 n2 c2] _).later (later1 _ _)
  have HR0 : Hid (OwnRow ((w.alloc (.cells #[.slice a1 n1 c1, .slice a2 n2 c2] 49)).alloc (.cells #[.int .i64 0, .int .i64 0] 34)) (w.heap.size + 1) 2 (cel [.int .i64 0, .int .i64 0])) := (show OwnRow ((w.alloc (.cells #[.slice a1 n1 c1, .slice a2 n2 c2] 49)).alloc (.cells #[.int .i64 0, .int .i64 0] 34)) (w.heap.size + 1) 2 (cel [.int .i64 0, .int .i64 0]) from by have := newCel (w.alloc (.cells #[.slice a1 n1 c1, .slice a2 n2 c2] 49)) [.int .i64 0, .int .i64 0] 34; rw [World.size_alloc] at this; exact this)
  go_enter Try.func21, Try.ntmps21
  go_wp2_with fail
  refine (HF.out _ HB0.out (HX0.out 0 _ rfl) (HX0.out 1 _ rfl)).mono ?_
  rintro e w1 ⟨rfl, m, rfl⟩
  have hb := below_drewN (Below.refl ((w.alloc (.cells #[.slice a1 n1 c1, .slice a2 n2 c2] 49)).alloc (.cells #[.int .i64 0, .int .i64 0] 34)).heap.size ((w.alloc (.cells #[.slice a1 n1 c1, .slice a2 n2 c2] 49)).alloc (.cells #[.int .i64 0, .int .i64 0] 34))) m
  have HB1 : Hid (Below w.heap.size w (((w.alloc (.cells #[.slice a1 n1 c1, .slice a2 n2 c2] 49)).alloc (.cells #[.int .i64 0, .int .i64 0] 34)).drewN m)) := HB0.out.trans (hb.mono HB0.out.size)
  have HX1 : Hid (Bx (((w.alloc (.cells #[.slice a1 n1 c1, .slice a2 n2 c2] 49)).alloc (.cells #[.int .i64 0, .int .i64 0] 34)).drewN m) (w.heap.size) [.slice a1 n1 c1, .slice a2 n2 c2]) := HX0.out.later hb
  have HR1 : Hid (OwnRow (((w.alloc (.cells #[.slice a1 n1 c1, .slice a2 n2 c2] 49)).alloc (.cells #[.int .i64 0, .int .i64 0] 34)).drewN m) (w.heap.size + 1) 2 (cel [.int .i64 0, .int .i64 0])) := HR0.out.later hb
  clear hb
  generalize (((w.alloc (.cells #[.slice a1 n1 c1, .slice a2 n2 c2] 49)).alloc (.cells #[.int .i64 0, .int .i64 0] 34)).drewN m) = w1 at *
  by_cases hf : r = 0
  · skip
    have hfb : (r != 0) = false := by simpa using hf
    by_cases hq : n1 = 47
    · skip
      have h47 : (((n1 : Nat) : Int) != 47) = false := by simp; omega
      replace HRA : Hid (SB = true → RES = (0, zs[1]?.getD 0)) := HRA.out hf hq
      replace HRB : Hid (SB = false → RES = (5, 0)) := HRB.out hf hq
      clear HRC HRE
      have xHX0 := HX1.out 0 _ rfl
      go_wp2_with fail
      clear xHX0
      refine (HRD.out hf hq _ HB1.out (HX1.out 0 _ rfl) (HX1.out 1 _ rfl)).mono ?_
      rintro e w2 ⟨az, nz, cz, rfl, ho, hw2⟩
      subst w2
      obtain ⟨_, _, ez, _, hat⟩ := ho.open'
      simp only [Value.slice.injEq] at ez
      obtain ⟨rfl, rfl, rfl⟩ := ez
      have HAT : Hid (At1 w1 az zs.length (fun k => .int .i64 (zs[k]?.getD 0))) := hat
      clear ho hat HF HRD
      by_cases hl : zs.length = 2
      · skip
        obtain ⟨z0, z1, rfl⟩ := two_of hl
        have hz0 := HAT.out 0 (by simp)
        have hz1 := HAT.out 1 (by simp)
        obtain ⟨bz, oz, rfl, k0⟩ := hz0
        obtain ⟨_, _, ez, k1⟩ := hz1
        simp only [Option.some.injEq, Addr.mk.injEq, and_true] at ez
        obtain ⟨rfl, rfl⟩ := ez
        replace k0 : w1.cell? ⟨bz, oz + 0, none⟩ = some (.int .i64 z0) := k0
        replace k1 : w1.cell? ⟨bz, oz + 1, none⟩ = some (.int .i64 z1) := k1
        rw [Nat.add_zero] at k0
        have hbz := World.block_lt_of_cell? _ _ k0
        have HS : Hid (SB = (decide (z0 = 7) && seqB z1)) := by unfold Hid; rw [HSB.out, superB_two]
        by_cases h7 : z0 = 7
        · skip
          have h7b : (z0 != 7) = false := by simpa using h7
          cases hq : seqB z1 with
          | true =>
            have HE : Hid (RES = (0, z1)) := HRA.out (by rw [HS.out, decide_eq_true h7, hq]; rfl)
            have HQ : Hid (∀ W, Calls Try.prog 60 #[.int .i64 z1] W fun e w' => e = .returned (.bool true) ∧ w' = W) := fun W => by rw [← hq]; exact l12Seq_any W z1
            clear h7 hl HS HSB HAT hq
            go_wp2_with fail
            refine (HQ.out _).mono ?_
            rintro e wq ⟨rfl, hwq⟩
            subst wq
            have hrr := HR1.out
            have t0 : w1.cell? ⟨w.heap.size + 1, 0, none⟩ = some (.int .i64 0) := hrr.cell (i := 0) (by omega)
            have t1 : w1.cell? ⟨w.heap.size + 1, 1, none⟩ = some (.int .i64 0) := hrr.cell (i := 1) (by omega)
            have f0 := hrr.frozen 0
            have f1 := hrr.frozen 1
            have hlr := hrr.lt
            clear hrr
            go_wp2
            exact bodyPost_ret (v := .agg #[.int .i64 0, .int .i64 z1]) (by simp [results, Try.results21, go_sem, t0, t1]) rfl (⟨by rw [HE.out], ((HB1.out).setCell (by first | omega | (simp <;> omega)) _).setCell (by first | omega | (simp <;> omega)) _⟩)
          | false =>
            have HE : Hid (RES = (5, 0)) := HRB.out (by rw [HS.out, hq, Bool.and_false])
            have HQ : Hid (∀ W, Calls Try.prog 60 #[.int .i64 z1] W fun e w' => e = .returned (.bool false) ∧ w' = W) := fun W => by rw [← hq]; exact l12Seq_any W z1
            clear h7 hl HS HSB HAT hq
            go_wp2_with fail
            refine (HQ.out _).mono ?_
            rintro e wq ⟨rfl, hwq⟩
            subst wq
            have hrr := HR1.out
            have t0 : w1.cell? ⟨w.heap.size + 1, 0, none⟩ = some (.int .i64 0) := hrr.cell (i := 0) (by omega)
            have t1 : w1.cell? ⟨w.heap.size + 1, 1, none⟩ = some (.int .i64 0) := hrr.cell (i := 1) (by omega)
            have f0 := hrr.frozen 0
            have f1 := hrr.frozen 1
            have hlr := hrr.lt
            clear hrr
            go_wp2
            exact bodyPost_ret (v := .agg #[.int .i64 5, .int .i64 0]) (by simp [results, Try.results21, go_sem, t0, t1]) rfl (⟨by rw [HE.out], ((HB1.out).setCell (by first | omega | (simp <;> omega)) _).setCell (by first | omega | (simp <;> omega)) _⟩)
        · skip
          have h7b : (z0 != 7) = true := by simpa using h7
          have HE : Hid (RES = (5, 0)) := HRB.out (by rw [HS.out, decide_eq_false h7]; rfl)
          clear h7 hl HS HSB HAT
          have hrr := HR1.out
          have t0 : w1.cell? ⟨w.heap.size + 1, 0, none⟩ = some (.int .i64 0) := hrr.cell (i := 0) (by omega)
          have t1 : w1.cell? ⟨w.heap.size + 1, 1, none⟩ = some (.int .i64 0) := hrr.cell (i := 1) (by omega)
          have f0 := hrr.frozen 0
          have f1 := hrr.frozen 1
          have hlr := hrr.lt
          clear hrr
          go_wp2
          exact bodyPost_ret (v := .agg #[.int .i64 5, .int .i64 0]) (by simp [results, Try.results21, go_sem, t0, t1]) rfl (⟨by rw [HE.out], ((HB1.out).setCell (by first | omega | (simp <;> omega)) _).setCell (by first | omega | (simp <;> omega)) _⟩)
      · skip
        have hlb : (((zs.length : Nat) : Int) != 2) = true := by simp; omega
        have HE : Hid (RES = (5, 0)) := HRB.out (by rw [HSB.out, superB_len hl])
        clear hl HSB HAT
        have hrr := HR1.out
        have t0 : w1.cell? ⟨w.heap.size + 1, 0, none⟩ = some (.int .i64 0) := hrr.cell (i := 0) (by omega)
        have t1 : w1.cell? ⟨w.heap.size + 1, 1, none⟩ = some (.int .i64 0) := hrr.cell (i := 1) (by omega)
        have f0 := hrr.frozen 0
        have f1 := hrr.frozen 1
        have hlr := hrr.lt
        clear hrr
        go_wp2
        exact bodyPost_ret (v := .agg #[.int .i64 5, .int .i64 0]) (by simp [results, Try.results21, go_sem, t0, t1]) rfl (⟨by rw [HE.out], ((HB1.out).setCell (by first | omega | (simp <;> omega)) _).setCell (by first | omega | (simp <;> omega)) _⟩)
    · skip
      have h47 : (((n1 : Nat) : Int) != 47) = true := by simp; omega
      have HE : Hid (RES = (1, 0)) := HRE.out hf hq
      have xHX0 := HX1.out 0 _ rfl
      have hrr := HR1.out
      have t0 : w1.cell? ⟨w.heap.size + 1, 0, none⟩ = some (.int .i64 0) := hrr.cell (i := 0) (by omega)
      have t1 : w1.cell? ⟨w.heap.size + 1, 1, none⟩ = some (.int .i64 0) := hrr.cell (i := 1) (by omega)
      have f0 := hrr.frozen 0
      have f1 := hrr.frozen 1
      have hlr := hrr.lt
      clear hrr
      go_wp2
      exact bodyPost_ret (v := .agg #[.int .i64 1, .int .i64 0]) (by simp [results, Try.results21, go_sem, t0, t1]) rfl (⟨by rw [HE.out], ((HB1.out).setCell (by first | omega | (simp <;> omega)) _).setCell (by first | omega | (simp <;> omega)) _⟩)
  · skip
    have hbb : (r != 0) = true := by simpa using hf
    have HE : Hid (RES = (r, 0)) := HRC.out hf
    have hrr := HR1.out
    have t0 : w1.cell? ⟨w.heap.size + 1, 0, none⟩ = some (.int .i64 0) := hrr.cell (i := 0) (by omega)
    have t1 : w1.cell? ⟨w.heap.size + 1, 1, none⟩ = some (.int .i64 0) := hrr.cell (i := 1) (by omega)
    have f0 := hrr.frozen 0
    have f1 := hrr.frozen 1
    have hlr := hrr.lt
    clear hrr
    go_wp2
    exact bodyPost_ret (v := .agg #[.int .i64 r, .int .i64 0]) (by simp [results, Try.results21, go_sem, t0, t1]) rfl (⟨by rw [HE.out], ((HB1.out).setCell (by first | omega | (simp <;> omega)) _).setCell (by first | omega | (simp <;> omega)) _⟩)

end Go.Proofs.Ytagmmgcdebgfnaa
