/- SeqOf, both sides; what is wrong of a disk that is to have a file system. The program's faults of lists of inodes and of busy blocks. The program's counts of who needs a block: an array. The program's counts, filled and read. The specification's PickBlocks. The program's UsedBlocks, FreeBlocks and PickBlocks. The program: what is wrong of inodes, data and entries of a file system. Lists of extents: how they read, what they own. No program is named here. The walks of the laws' functions over lists of extents. What 'append' and 'copy' of extents come to. The program's copying of a list of extents. Pieces of a list of extents: what slicing it comes to. A queue: words that grow by append and are gone through from the front. -/
import Derived.Test.YtpmndmkmfcoieaaM07
import Derived.Test.YtpmndmkmfcoieaaM06
import Derived.Test.YtpmndmkmfcoieaaM09
import Derived.Deep.WholeRow
import Derived.Test.YtpmndmkmfcoieaaM00
import Derived.Test.YtpmndmkmfcoieaaRows
import Derived.Test.YtpmndmkmfcoieaaM05
import Derived.Deep.RegionWith
import Derived.Deep.RegionHeld3
import Derived.Test.YtpmndmkmfcoieaaM01
import Derived.Deep.AppendLies
import Derived.Laws.CopyOwn
namespace Go.Proofs.Ytpmndmkmfcoieaa
open Go.RowKit
set_option maxRecDepth 100000

def seqB (x : Int) : Bool := decide (1 ≤ x ∧ x ≤ 60000)
theorem isSeq_any (w : World) (x : Int) : Calls Try.prog 70 #[.int .i64 x] w fun e w' => e = .returned (.bool (seqB x)) ∧ w' = w := by
  by_cases h1 : 1 ≤ x
  · have HE : Hid (seqB x = decide (x ≤ 60000)) := by unfold Hid seqB; simp [h1]
    go_enter Try.func70, Try.ntmps70
    go_wp2
    go_ret
    exact ⟨ret_bool (by rw [HE.out]), rfl⟩
  · have HE : Hid (seqB x = false) := by unfold Hid seqB; simp [h1]
    have hd : decide (1 ≤ x) = false := by simpa using h1
    go_enter Try.func70, Try.ntmps70
    go_wp2
    go_ret
    exact ⟨ret_bool (by rw [HE.out]), rfl⟩
theorem l12Seq_any (w : World) (x : Int) : Calls Try.prog 55 #[.int .i64 x] w fun e w' => e = .returned (.bool (seqB x)) ∧ w' = w := by
  have HE : Hid ((decide (1 ≤ x) && decide (x ≤ 60000)) = seqB x) := by unfold Hid seqB; simp
  go_enter Try.func55, Try.ntmps55
  go_wp2_with fail
  refine (l1In_any _ _ _ _).mono ?_
  rintro e w1 ⟨rfl, rfl⟩
  go_wp2
  go_ret
  exact ⟨ret_bool HE.out, rfl⟩
theorem superB_two (z0 z1 : Int) : superB [z0, z1] = (decide (z0 = 7) && seqB z1) := by unfold superB seqB; simp
theorem superB_len {zs : List Int} (h : ¬ zs.length = 2) : superB zs = false := by unfold superB; simp [h]
theorem two_of {zs : List Int} (h : zs.length = 2) : ∃ z0 z1, zs = [z0, z1] := by
  match zs, h with
  | [a, b], _ => exact ⟨a, b, rfl⟩

set_option maxHeartbeats 1600000 in
theorem sizeFault_any (w : World) (a1 : Option Addr) (n1 c1 : Nat) (a2 : Option Addr) (n2 c2 : Nat) (d : DK) (h : DiskR w (.slice a1 n1 c1) (.slice a2 n2 c2) d) :
    Calls Try.prog 58 #[.agg #[.slice a1 n1 c1, .slice a2 n2 c2]] w fun e w' => e = .returned (.int .i64 (sizF d)) ∧ Below w.heap.size w w' := by
  have HF : Hid (∀ W, Below w.heap.size w W → Calls Try.prog 62 #[.agg #[.slice a1 n1 c1, .slice a2 n2 c2]] W fun e w' => e = .returned (.int .i64 (faultF d.1 d.2)) ∧ Below W.heap.size W w') := fun W hW => fault_any W _ _ d.1 d.2 (h.1.later hW) (h.2.later hW)
  have HR : Hid (sizF d = if faultF d.1 d.2 = 0 then (if d.1.length = 47 then 0 else 1) else faultF d.1 d.2) := rfl
  have HX : Hid (Bx (w.alloc (.cells #[.slice a1 n1 c1, .slice a2 n2 c2] 30)) w.heap.size [.slice a1 n1 c1, .slice a2 n2 c2]) := Bx.new w [.slice a1 n1 c1, .slice a2 n2 c2] _
  obtain ⟨_, _, e1, hm, _⟩ := h.1.open'
  simp only [Value.slice.injEq] at e1
  obtain ⟨rfl, rfl, rfl⟩ := e1
  unfold maxLen at hm
  have x0 := HX.out 0 _ rfl
  have x1 := HX.out 1 _ rfl
  clear h
  generalize sizF d = RES at *
  generalize faultF d.1 d.2 = r at *
  generalize d.1.length = n at *
  go_enter Try.func58, Try.ntmps58
  go_wp2_with fail
  refine (HF.out _ (later1 _ _)).mono ?_
  rintro e w1 ⟨rfl, hb⟩
  have HB : Hid (Below w.heap.size w w1) := (later1 _ _).trans (hb.mono (by simp))
  have y0 := (HX.out.later hb) 0 _ rfl
  clear hb x0 x1
  by_cases h0 : r = 0
  · have hr : (r != 0) = false := by simpa using h0
    by_cases h1 : n = 47
    · have hn : (((n : Nat) : Int) != 47) = false := by simp; omega
      have HE : Hid (RES = 0) := by unfold Hid; rw [HR.out, if_pos h0, if_pos h1]
      clear h0 h1 HR
      go_wp2
      go_ret
      exact ⟨ret_int HE.out.symm, HB.out⟩
    · have hn : (((n : Nat) : Int) != 47) = true := by simp; omega
      have HE : Hid (RES = 1) := by unfold Hid; rw [HR.out, if_pos h0, if_neg h1]
      clear h0 h1 HR
      go_wp2
      go_ret
      exact ⟨ret_int HE.out.symm, HB.out⟩
  · have hr : (r != 0) = true := by simpa using h0
    have HE : Hid (RES = r) := by unfold Hid; rw [HR.out, if_neg h0]
    clear h0 HR
    go_wp2
    go_ret
    exact ⟨ret_int HE.out.symm, HB.out⟩

set_option maxHeartbeats 3200000 in
theorem implSeqU (w : World) (a1 : Option Addr) (n1 c1 : Nat) (a2 : Option Addr) (n2 c2 : Nat) (d : DK) (h : DiskR w (.slice a1 n1 c1) (.slice a2 n2 c2) d) (hs : sizeDisk d ≤ 1048576) :
    Calls Try.prog 43 #[.agg #[.slice a1 n1 c1, .slice a2 n2 c2]] w fun e w' => e = .returned (.agg #[.int .i64 (seqR d).1, .int .i64 (seqR d).2]) ∧ Below w.heap.size w w' := by
  have HF : Hid (∀ W, Below w.heap.size w W → Calls Try.prog 58 #[.agg #[.slice a1 n1 c1, .slice a2 n2 c2]] W fun e w' => e = .returned (.int .i64 (sizF d)) ∧ Below W.heap.size W w') := fun W hW => sizeFault_any W _ _ _ _ _ _ d (h.later hW)
  have HO : Hid (sizF d = 0 → ∀ W, Below w.heap.size w W → Calls Try.prog 59 #[.agg #[.slice a1 n1 c1, .slice a2 n2 c2]] W fun e w' => ∃ bd, e = .returned (.pointer (some ⟨bd, 0, none⟩)) ∧ Below W.heap.size W w' ∧ DrvK w' bd d) := fun hf W hW => open_drv (h.later hW) (sizF_zero hf).1 hs
  have HRD : Hid (sizF d = 0 → ∀ W bd, DrvK W bd d → Calls Try.prog 64 #[.pointer (some ⟨bd, 0, none⟩), .int .i64 0] W fun e w' => ∃ a n c, e = .returned (.slice a n c) ∧ Below W.heap.size W w' ∧ IntsO w' (.slice a n c) (atF d.1 d.2 0) (fresh W w')) := fun hf W bd hd => read_drv hd 0 (by have := (sizF_zero hf).2; omega)
  have HRA : Hid (sizF d = 0 → superB (atF d.1 d.2 0) = true → seqR d = (0, (atF d.1 d.2 0)[1]?.getD 0)) := fun h1 h2 => by unfold seqR; rw [if_pos h1, if_pos h2]
  have HRB : Hid (sizF d = 0 → superB (atF d.1 d.2 0) = false → seqR d = (5, 0)) := fun h1 h2 => by unfold seqR; rw [if_pos h1, if_neg (by rw [h2]; simp)]
  have HRC : Hid (¬ sizF d = 0 → seqR d = (sizF d, 0)) := fun h1 => by unfold seqR; rw [if_neg h1]
  have HSB : Hid (∃ SB, SB = superB (atF d.1 d.2 0)) := ⟨_, rfl⟩
  clear h hs
  generalize seqR d = RES at *
  generalize sizF d = r at *
  generalize hzz : atF d.1 d.2 0 = zs at *
  clear hzz
  obtain ⟨SB, hsb⟩ := HSB.out
  replace HSB : Hid (SB = superB zs) := hsb
  rw [← hsb] at HRA HRB
  clear hsb
  have HB0 : Hid (Below w.heap.size w ((w.alloc (.cells #[.slice a1 n1 c1, .slice a2 n2 c2] 30)).alloc (.cells #[.int .i64 0, .int .i64 0] 64))) := later2 _ _ _
  have HX0 : Hid (Bx ((w.alloc (.cells #[.slice a1 n1 c1, .slice a2 n2 c2] 30)).alloc (.cells #[.int .i64 0, .int .i64 0] 64)) (w.heap.size) [.slice a1 n1 c1, .slice a2 n2 c2]) := (Bx.new w [.slice a1 n1 c1, .slice a2 n2 c2] _).later (later1 _ _)
  have HR0 : Hid (OwnRow ((w.alloc (.cells #[.slice a1 n1 c1, .slice a2 n2 c2] 30)).alloc (.cells #[.int .i64 0, .int .i64 0] 64)) (w.heap.size + 1) 2 (cel [.int .i64 0, .int .i64 0])) := (show OwnRow ((w.alloc (.cells #[.slice a1 n1 c1, .slice a2 n2 c2] 30)).alloc (.cells #[.int .i64 0, .int .i64 0] 64)) (w.heap.size + 1) 2 (cel [.int .i64 0, .int .i64 0]) from by have := newCel (w.alloc (.cells #[.slice a1 n1 c1, .slice a2 n2 c2] 30)) [.int .i64 0, .int .i64 0] 64; rw [World.size_alloc] at this; exact this)
  go_enter Try.func43, Try.ntmps43
  have xHX0 := HX0.out 0 _ rfl
  have xHX1 := HX0.out 1 _ rfl
  go_wp2_with fail
  clear xHX0 xHX1
  refine (HF.out _ HB0.out).mono ?_
  rintro e w1 ⟨rfl, hb⟩
  have HB1 : Hid (Below w.heap.size w w1) := HB0.out.trans (hb.mono HB0.out.size)
  have HX1 : Hid (Bx w1 (w.heap.size) [.slice a1 n1 c1, .slice a2 n2 c2]) := HX0.out.later hb
  have HR1 : Hid (OwnRow w1 (w.heap.size + 1) 2 (cel [.int .i64 0, .int .i64 0])) := HR0.out.later hb
  clear hb
  by_cases hf : r = 0
  · skip
    have hfb : (r != 0) = false := by simpa using hf
    replace HRA : Hid (SB = true → RES = (0, zs[1]?.getD 0)) := HRA.out hf
    replace HRB : Hid (SB = false → RES = (5, 0)) := HRB.out hf
    clear HRC
    have xHX0 := HX1.out 0 _ rfl
    have xHX1 := HX1.out 1 _ rfl
    go_wp2_with fail
    clear xHX0 xHX1
    refine (HO.out hf _ HB1.out).mono ?_
    rintro e w2 ⟨bd, rfl, hb, hdk⟩
    have HDK : Hid (DrvK w2 bd d) := hdk
    clear hdk
    have HB2 : Hid (Below w.heap.size w w2) := HB1.out.trans (hb.mono HB1.out.size)
    have HX2 : Hid (Bx w2 (w.heap.size) [.slice a1 n1 c1, .slice a2 n2 c2]) := HX1.out.later hb
    have HR2 : Hid (OwnRow w2 (w.heap.size + 1) 2 (cel [.int .i64 0, .int .i64 0])) := HR1.out.later hb
    clear hb
    go_wp2_with fail
    refine (HRD.out hf _ _ HDK.out).mono ?_
    rintro e w3 ⟨az, nz, cz, rfl, hb, ho⟩
    obtain ⟨_, _, ez, _, hat⟩ := ho.reads.open'
    simp only [Value.slice.injEq] at ez
    obtain ⟨rfl, rfl, rfl⟩ := ez
    have HAT : Hid (At1 w3 az zs.length (fun k => .int .i64 (zs[k]?.getD 0))) := hat
    clear ho hat
    have HB3 : Hid (Below w.heap.size w w3) := HB2.out.trans (hb.mono HB2.out.size)
    have HX3 : Hid (Bx w3 (w.heap.size) [.slice a1 n1 c1, .slice a2 n2 c2]) := HX2.out.later hb
    have HR3 : Hid (OwnRow w3 (w.heap.size + 1) 2 (cel [.int .i64 0, .int .i64 0])) := HR2.out.later hb
    clear hb
    clear HF HO HRD HDK
    by_cases hl : zs.length = 2
    · skip
      obtain ⟨z0, z1, rfl⟩ := two_of hl
      have hz0 := HAT.out 0 (by simp)
      have hz1 := HAT.out 1 (by simp)
      obtain ⟨bz, oz, rfl, k0⟩ := hz0
      obtain ⟨_, _, ez, k1⟩ := hz1
      simp only [Option.some.injEq, Addr.mk.injEq, and_true] at ez
      obtain ⟨rfl, rfl⟩ := ez
      replace k0 : w3.cell? ⟨bz, oz + 0, none⟩ = some (.int .i64 z0) := k0
      replace k1 : w3.cell? ⟨bz, oz + 1, none⟩ = some (.int .i64 z1) := k1
      rw [Nat.add_zero] at k0
      have hbz := World.block_lt_of_cell? _ _ k0
      have HS : Hid (SB = (decide (z0 = 7) && seqB z1)) := by unfold Hid; rw [HSB.out, superB_two]
      by_cases h7 : z0 = 7
      · skip
        have h7b : (z0 != 7) = false := by simpa using h7
        cases hq : seqB z1 with
        | true =>
          have HE : Hid (RES = (0, z1)) := HRA.out (by rw [HS.out, decide_eq_true h7, hq]; rfl)
          have HQ : Hid (∀ W, Calls Try.prog 70 #[.int .i64 z1] W fun e w' => e = .returned (.bool true) ∧ w' = W) := fun W => by rw [← hq]; exact isSeq_any W z1
          clear h7 hl HS HSB HAT hq
          go_wp2_with fail
          refine (HQ.out _).mono ?_
          rintro e wq ⟨rfl, hwq⟩
          subst wq
          have hrr := HR3.out
          have t0 : w3.cell? ⟨w.heap.size + 1, 0, none⟩ = some (.int .i64 0) := hrr.cell (i := 0) (by omega)
          have t1 : w3.cell? ⟨w.heap.size + 1, 1, none⟩ = some (.int .i64 0) := hrr.cell (i := 1) (by omega)
          have f0 := hrr.frozen 0
          have f1 := hrr.frozen 1
          have hlr := hrr.lt
          clear hrr
          go_wp2
          exact bodyPost_ret (v := .agg #[.int .i64 0, .int .i64 z1]) (by simp [results, Try.results43, go_sem, t0, t1]) rfl (⟨by rw [HE.out], ((HB3.out).setCell (by first | omega | (simp <;> omega)) _).setCell (by first | omega | (simp <;> omega)) _⟩)
        | false =>
          have HE : Hid (RES = (5, 0)) := HRB.out (by rw [HS.out, hq, Bool.and_false])
          have HQ : Hid (∀ W, Calls Try.prog 70 #[.int .i64 z1] W fun e w' => e = .returned (.bool false) ∧ w' = W) := fun W => by rw [← hq]; exact isSeq_any W z1
          clear h7 hl HS HSB HAT hq
          go_wp2_with fail
          refine (HQ.out _).mono ?_
          rintro e wq ⟨rfl, hwq⟩
          subst wq
          have hrr := HR3.out
          have t0 : w3.cell? ⟨w.heap.size + 1, 0, none⟩ = some (.int .i64 0) := hrr.cell (i := 0) (by omega)
          have t1 : w3.cell? ⟨w.heap.size + 1, 1, none⟩ = some (.int .i64 0) := hrr.cell (i := 1) (by omega)
          have f0 := hrr.frozen 0
          have f1 := hrr.frozen 1
          have hlr := hrr.lt
          clear hrr
          go_wp2
          exact bodyPost_ret (v := .agg #[.int .i64 5, .int .i64 0]) (by simp [results, Try.results43, go_sem, t0, t1]) rfl (⟨by rw [HE.out], ((HB3.out).setCell (by first | omega | (simp <;> omega)) _).setCell (by first | omega | (simp <;> omega)) _⟩)
      · skip
        have h7b : (z0 != 7) = true := by simpa using h7
        have HE : Hid (RES = (5, 0)) := HRB.out (by rw [HS.out, decide_eq_false h7]; rfl)
        clear h7 hl HS HSB HAT
        have hrr := HR3.out
        have t0 : w3.cell? ⟨w.heap.size + 1, 0, none⟩ = some (.int .i64 0) := hrr.cell (i := 0) (by omega)
        have t1 : w3.cell? ⟨w.heap.size + 1, 1, none⟩ = some (.int .i64 0) := hrr.cell (i := 1) (by omega)
        have f0 := hrr.frozen 0
        have f1 := hrr.frozen 1
        have hlr := hrr.lt
        clear hrr
        go_wp2
        exact bodyPost_ret (v := .agg #[.int .i64 5, .int .i64 0]) (by simp [results, Try.results43, go_sem, t0, t1]) rfl (⟨by rw [HE.out], ((HB3.out).setCell (by first | omega | (simp <;> omega)) _).setCell (by first | omega | (simp <;> omega)) _⟩)
    · skip
      have hlb : (((zs.length : Nat) : Int) != 2) = true := by simp; omega
      have HE : Hid (RES = (5, 0)) := HRB.out (by rw [HSB.out, superB_len hl])
      clear hl HSB HAT
      have hrr := HR3.out
      have t0 : w3.cell? ⟨w.heap.size + 1, 0, none⟩ = some (.int .i64 0) := hrr.cell (i := 0) (by omega)
      have t1 : w3.cell? ⟨w.heap.size + 1, 1, none⟩ = some (.int .i64 0) := hrr.cell (i := 1) (by omega)
      have f0 := hrr.frozen 0
      have f1 := hrr.frozen 1
      have hlr := hrr.lt
      clear hrr
      go_wp2
      exact bodyPost_ret (v := .agg #[.int .i64 5, .int .i64 0]) (by simp [results, Try.results43, go_sem, t0, t1]) rfl (⟨by rw [HE.out], ((HB3.out).setCell (by first | omega | (simp <;> omega)) _).setCell (by first | omega | (simp <;> omega)) _⟩)
  · skip
    have hbb : (r != 0) = true := by simpa using hf
    have HE : Hid (RES = (r, 0)) := HRC.out hf
    have hrr := HR1.out
    have t0 : w1.cell? ⟨w.heap.size + 1, 0, none⟩ = some (.int .i64 0) := hrr.cell (i := 0) (by omega)
    have t1 : w1.cell? ⟨w.heap.size + 1, 1, none⟩ = some (.int .i64 0) := hrr.cell (i := 1) (by omega)
    have f0 := hrr.frozen 0
    have f1 := hrr.frozen 1
    have hlr := hrr.lt
    clear hrr
    go_wp2
    exact bodyPost_ret (v := .agg #[.int .i64 r, .int .i64 0]) (by simp [results, Try.results43, go_sem, t0, t1]) rfl (⟨by rw [HE.out], ((HB1.out).setCell (by first | omega | (simp <;> omega)) _).setCell (by first | omega | (simp <;> omega)) _⟩)

set_option maxHeartbeats 3200000 in
theorem specSeqU (w : World) (a1 : Option Addr) (n1 c1 : Nat) (a2 : Option Addr) (n2 c2 : Nat) (d : DK) (h : DiskR w (.slice a1 n1 c1) (.slice a2 n2 c2) d) (_hs : sizeDisk d ≤ 1048576) :
    Calls Try.prog 34 #[.agg #[.slice a1 n1 c1, .slice a2 n2 c2]] w fun e w' => e = .returned (.agg #[.int .i64 (seqR d).1, .int .i64 (seqR d).2]) ∧ Below w.heap.size w w' := by
  obtain ⟨_, _, e1, hm, sB⟩ := h.1.open'
  simp only [Value.slice.injEq] at e1
  obtain ⟨rfl, rfl, rfl⟩ := e1
  obtain ⟨_, _, e2, _, sP⟩ := h.2.open'
  simp only [Value.slice.injEq] at e2
  obtain ⟨rfl, rfl, rfl⟩ := e2
  have HF : Hid (∀ W, Below w.heap.size w W → W.cell? ⟨w.heap.size, 0, none⟩ = some (.slice a1 d.1.length c1) → W.cell? ⟨w.heap.size, 1, none⟩ = some (.slice a2 d.2.length c2) → Calls Try.prog 50 #[.pointer (some ⟨w.heap.size, 0, none⟩)] W fun e w' => e = .returned (.int .i64 (faultF d.1 d.2)) ∧ ∃ m, w' = W.drewN m) := fun W hW x0 x1 => l1Fault_any x0 x1 (h.1.later hW) (h.2.later hW)
  have HRD : Hid (faultF d.1 d.2 = 0 → d.1.length = 47 → ∀ W, Below w.heap.size w W → W.cell? ⟨w.heap.size, 0, none⟩ = some (.slice a1 d.1.length c1) → W.cell? ⟨w.heap.size, 1, none⟩ = some (.slice a2 d.2.length c2) → Calls Try.prog 54 #[.pointer (some ⟨w.heap.size, 0, none⟩), .int .i64 0] W fun e w' => ∃ ua un uc, e = .returned (.slice ua un uc) ∧ Ints W (.slice ua un uc) (atF d.1 d.2 0) ∧ w' = W) := fun hf h47 W hW x0 x1 => l1At_walk W _ _ _ _ c1 _ c2 d.1 d.2 0 (by omega) (faultF_lens hf).1 rfl (faultF_lens hf).2 x0 x1 (sB.later hW) (sP.later hW)
  have HRA : Hid (faultF d.1 d.2 = 0 → d.1.length = 47 → superB (atF d.1 d.2 0) = true → seqR d = (0, (atF d.1 d.2 0)[1]?.getD 0)) := fun h0 h1 h2 => by unfold seqR sizF; rw [if_pos h0, if_pos h1, if_pos rfl, if_pos h2]
  have HRB : Hid (faultF d.1 d.2 = 0 → d.1.length = 47 → superB (atF d.1 d.2 0) = false → seqR d = (5, 0)) := fun h0 h1 h2 => by unfold seqR sizF; rw [if_pos h0, if_pos h1, if_pos rfl, if_neg (by rw [h2]; simp)]
  have HRC : Hid (¬ faultF d.1 d.2 = 0 → seqR d = (faultF d.1 d.2, 0)) := fun h0 => by unfold seqR sizF; rw [if_neg h0, if_neg h0]
  have HRE : Hid (faultF d.1 d.2 = 0 → ¬ d.1.length = 47 → seqR d = (1, 0)) := fun h0 h1 => by unfold seqR sizF; rw [if_pos h0, if_neg h1, if_neg (by decide)]
  have HSB : Hid (∃ SB, SB = superB (atF d.1 d.2 0)) := ⟨_, rfl⟩
  unfold maxLen at hm
  clear h sB sP
  generalize seqR d = RES at *
  generalize hff : faultF d.1 d.2 = r at *
  generalize hzz : atF d.1 d.2 0 = zs at *
  clear hzz hff
  generalize d.1.length = n1 at *
  generalize d.2.length = n2 at *
  obtain ⟨SB, hsb⟩ := HSB.out
  replace HSB : Hid (SB = superB zs) := hsb
  rw [← hsb] at HRA HRB
  clear hsb
  have HB0 : Hid (Below w.heap.size w ((w.alloc (.cells #[.slice a1 n1 c1, .slice a2 n2 c2] 30)).alloc (.cells #[.int .i64 0, .int .i64 0] 64))) := later2 _ _ _
  have HX0 : Hid (Bx ((w.alloc (.cells #[.slice a1 n1 c1, .slice a2 n2 c2] 30)).alloc (.cells #[.int .i64 0, .int .i64 0] 64)) (w.heap.size) [.slice a1 n1 c1, .slice a2 n2 c2]) := (Bx.new w [.slice a1 n1 c1, .slice a2 n2 c2] _).later (later1 _ _)
  have HR0 : Hid (OwnRow ((w.alloc (.cells #[.slice a1 n1 c1, .slice a2 n2 c2] 30)).alloc (.cells #[.int .i64 0, .int .i64 0] 64)) (w.heap.size + 1) 2 (cel [.int .i64 0, .int .i64 0])) := (show OwnRow ((w.alloc (.cells #[.slice a1 n1 c1, .slice a2 n2 c2] 30)).alloc (.cells #[.int .i64 0, .int .i64 0] 64)) (w.heap.size + 1) 2 (cel [.int .i64 0, .int .i64 0]) from by have := newCel (w.alloc (.cells #[.slice a1 n1 c1, .slice a2 n2 c2] 30)) [.int .i64 0, .int .i64 0] 64; rw [World.size_alloc] at this; exact this)
  go_enter Try.func34, Try.ntmps34
  go_wp2_with fail
  refine (HF.out _ HB0.out (HX0.out 0 _ rfl) (HX0.out 1 _ rfl)).mono ?_
  rintro e w1 ⟨rfl, m, rfl⟩
  have hb := below_drewN (Below.refl ((w.alloc (.cells #[.slice a1 n1 c1, .slice a2 n2 c2] 30)).alloc (.cells #[.int .i64 0, .int .i64 0] 64)).heap.size ((w.alloc (.cells #[.slice a1 n1 c1, .slice a2 n2 c2] 30)).alloc (.cells #[.int .i64 0, .int .i64 0] 64))) m
  have HB1 : Hid (Below w.heap.size w (((w.alloc (.cells #[.slice a1 n1 c1, .slice a2 n2 c2] 30)).alloc (.cells #[.int .i64 0, .int .i64 0] 64)).drewN m)) := HB0.out.trans (hb.mono HB0.out.size)
  have HX1 : Hid (Bx (((w.alloc (.cells #[.slice a1 n1 c1, .slice a2 n2 c2] 30)).alloc (.cells #[.int .i64 0, .int .i64 0] 64)).drewN m) (w.heap.size) [.slice a1 n1 c1, .slice a2 n2 c2]) := HX0.out.later hb
  have HR1 : Hid (OwnRow (((w.alloc (.cells #[.slice a1 n1 c1, .slice a2 n2 c2] 30)).alloc (.cells #[.int .i64 0, .int .i64 0] 64)).drewN m) (w.heap.size + 1) 2 (cel [.int .i64 0, .int .i64 0])) := HR0.out.later hb
  clear hb
  generalize (((w.alloc (.cells #[.slice a1 n1 c1, .slice a2 n2 c2] 30)).alloc (.cells #[.int .i64 0, .int .i64 0] 64)).drewN m) = w1 at *
  by_cases hf : r = 0
  · skip
    have hfb : (r != 0) = false := by simpa using hf
    by_cases hq : n1 = 47
    · skip
      have h47 : (((n1 : Nat) : Int) != 47) = false := by simp; omega
      replace HRA : Hid (SB = true → RES = (0, zs[1]?.getD 0)) := HRA.out hf hq
      replace HRB : Hid (SB = false → RES = (5, 0)) := HRB.out hf hq
      clear HRC HRE
      have xHX0 := HX1.out 0 _ rfl
      go_wp2_with fail
      clear xHX0
      refine (HRD.out hf hq _ HB1.out (HX1.out 0 _ rfl) (HX1.out 1 _ rfl)).mono ?_
      rintro e w2 ⟨az, nz, cz, rfl, ho, hw2⟩
      subst w2
      obtain ⟨_, _, ez, _, hat⟩ := ho.open'
      simp only [Value.slice.injEq] at ez
      obtain ⟨rfl, rfl, rfl⟩ := ez
      have HAT : Hid (At1 w1 az zs.length (fun k => .int .i64 (zs[k]?.getD 0))) := hat
      clear ho hat HF HRD
      by_cases hl : zs.length = 2
      · skip
        obtain ⟨z0, z1, rfl⟩ := two_of hl
        have hz0 := HAT.out 0 (by simp)
        have hz1 := HAT.out 1 (by simp)
        obtain ⟨bz, oz, rfl, k0⟩ := hz0
        obtain ⟨_, _, ez, k1⟩ := hz1
        simp only [Option.some.injEq, Addr.mk.injEq, and_true] at ez
        obtain ⟨rfl, rfl⟩ := ez
        replace k0 : w1.cell? ⟨bz, oz + 0, none⟩ = some (.int .i64 z0) := k0
        replace k1 : w1.cell? ⟨bz, oz + 1, none⟩ = some (.int .i64 z1) := k1
        rw [Nat.add_zero] at k0
        have hbz := World.block_lt_of_cell? _ _ k0
        have HS : Hid (SB = (decide (z0 = 7) && seqB z1)) := by unfold Hid; rw [HSB.out, superB_two]
        by_cases h7 : z0 = 7
        · skip
          have h7b : (z0 != 7) = false := by simpa using h7
          cases hq : seqB z1 with
          | true =>
            have HE : Hid (RES = (0, z1)) := HRA.out (by rw [HS.out, decide_eq_true h7, hq]; rfl)
            have HQ : Hid (∀ W, Calls Try.prog 55 #[.int .i64 z1] W fun e w' => e = .returned (.bool true) ∧ w' = W) := fun W => by rw [← hq]; exact l12Seq_any W z1
            clear h7 hl HS HSB HAT hq
            go_wp2_with fail
            refine (HQ.out _).mono ?_
            rintro e wq ⟨rfl, hwq⟩
            subst wq
            have hrr := HR1.out
            have t0 : w1.cell? ⟨w.heap.size + 1, 0, none⟩ = some (.int .i64 0) := hrr.cell (i := 0) (by omega)
            have t1 : w1.cell? ⟨w.heap.size + 1, 1, none⟩ = some (.int .i64 0) := hrr.cell (i := 1) (by omega)
            have f0 := hrr.frozen 0
            have f1 := hrr.frozen 1
            have hlr := hrr.lt
            clear hrr
            go_wp2
            exact bodyPost_ret (v := .agg #[.int .i64 0, .int .i64 z1]) (by simp [results, Try.results34, go_sem, t0, t1]) rfl (⟨by rw [HE.out], ((HB1.out).setCell (by first | omega | (simp <;> omega)) _).setCell (by first | omega | (simp <;> omega)) _⟩)
          | false =>
            have HE : Hid (RES = (5, 0)) := HRB.out (by rw [HS.out, hq, Bool.and_false])
            have HQ : Hid (∀ W, Calls Try.prog 55 #[.int .i64 z1] W fun e w' => e = .returned (.bool false) ∧ w' = W) := fun W => by rw [← hq]; exact l12Seq_any W z1
            clear h7 hl HS HSB HAT hq
            go_wp2_with fail
            refine (HQ.out _).mono ?_
            rintro e wq ⟨rfl, hwq⟩
            subst wq
            have hrr := HR1.out
            have t0 : w1.cell? ⟨w.heap.size + 1, 0, none⟩ = some (.int .i64 0) := hrr.cell (i := 0) (by omega)
            have t1 : w1.cell? ⟨w.heap.size + 1, 1, none⟩ = some (.int .i64 0) := hrr.cell (i := 1) (by omega)
            have f0 := hrr.frozen 0
            have f1 := hrr.frozen 1
            have hlr := hrr.lt
            clear hrr
            go_wp2
            exact bodyPost_ret (v := .agg #[.int .i64 5, .int .i64 0]) (by simp [results, Try.results34, go_sem, t0, t1]) rfl (⟨by rw [HE.out], ((HB1.out).setCell (by first | omega | (simp <;> omega)) _).setCell (by first | omega | (simp <;> omega)) _⟩)
        · skip
          have h7b : (z0 != 7) = true := by simpa using h7
          have HE : Hid (RES = (5, 0)) := HRB.out (by rw [HS.out, decide_eq_false h7]; rfl)
          clear h7 hl HS HSB HAT
          have hrr := HR1.out
          have t0 : w1.cell? ⟨w.heap.size + 1, 0, none⟩ = some (.int .i64 0) := hrr.cell (i := 0) (by omega)
          have t1 : w1.cell? ⟨w.heap.size + 1, 1, none⟩ = some (.int .i64 0) := hrr.cell (i := 1) (by omega)
          have f0 := hrr.frozen 0
          have f1 := hrr.frozen 1
          have hlr := hrr.lt
          clear hrr
          go_wp2
          exact bodyPost_ret (v := .agg #[.int .i64 5, .int .i64 0]) (by simp [results, Try.results34, go_sem, t0, t1]) rfl (⟨by rw [HE.out], ((HB1.out).setCell (by first | omega | (simp <;> omega)) _).setCell (by first | omega | (simp <;> omega)) _⟩)
      · skip
        have hlb : (((zs.length : Nat) : Int) != 2) = true := by simp; omega
        have HE : Hid (RES = (5, 0)) := HRB.out (by rw [HSB.out, superB_len hl])
        clear hl HSB HAT
        have hrr := HR1.out
        have t0 : w1.cell? ⟨w.heap.size + 1, 0, none⟩ = some (.int .i64 0) := hrr.cell (i := 0) (by omega)
        have t1 : w1.cell? ⟨w.heap.size + 1, 1, none⟩ = some (.int .i64 0) := hrr.cell (i := 1) (by omega)
        have f0 := hrr.frozen 0
        have f1 := hrr.frozen 1
        have hlr := hrr.lt
        clear hrr
        go_wp2
        exact bodyPost_ret (v := .agg #[.int .i64 5, .int .i64 0]) (by simp [results, Try.results34, go_sem, t0, t1]) rfl (⟨by rw [HE.out], ((HB1.out).setCell (by first | omega | (simp <;> omega)) _).setCell (by first | omega | (simp <;> omega)) _⟩)
    · skip
      have h47 : (((n1 : Nat) : Int) != 47) = true := by simp; omega
      have HE : Hid (RES = (1, 0)) := HRE.out hf hq
      have xHX0 := HX1.out 0 _ rfl
      have hrr := HR1.out
      have t0 : w1.cell? ⟨w.heap.size + 1, 0, none⟩ = some (.int .i64 0) := hrr.cell (i := 0) (by omega)
      have t1 : w1.cell? ⟨w.heap.size + 1, 1, none⟩ = some (.int .i64 0) := hrr.cell (i := 1) (by omega)
      have f0 := hrr.frozen 0
      have f1 := hrr.frozen 1
      have hlr := hrr.lt
      clear hrr
      go_wp2
      exact bodyPost_ret (v := .agg #[.int .i64 1, .int .i64 0]) (by simp [results, Try.results34, go_sem, t0, t1]) rfl (⟨by rw [HE.out], ((HB1.out).setCell (by first | omega | (simp <;> omega)) _).setCell (by first | omega | (simp <;> omega)) _⟩)
  · skip
    have hbb : (r != 0) = true := by simpa using hf
    have HE : Hid (RES = (r, 0)) := HRC.out hf
    have hrr := HR1.out
    have t0 : w1.cell? ⟨w.heap.size + 1, 0, none⟩ = some (.int .i64 0) := hrr.cell (i := 0) (by omega)
    have t1 : w1.cell? ⟨w.heap.size + 1, 1, none⟩ = some (.int .i64 0) := hrr.cell (i := 1) (by omega)
    have f0 := hrr.frozen 0
    have f1 := hrr.frozen 1
    have hlr := hrr.lt
    clear hrr
    go_wp2
    exact bodyPost_ret (v := .agg #[.int .i64 r, .int .i64 0]) (by simp [results, Try.results34, go_sem, t0, t1]) rfl (⟨by rw [HE.out], ((HB1.out).setCell (by first | omega | (simp <;> omega)) _).setCell (by first | omega | (simp <;> omega)) _⟩)

end Go.Proofs.Ytpmndmkmfcoieaa

namespace Go.Proofs.Ytpmndmkmfcoieaa
open Go.RowKit
set_option maxRecDepth 100000

/-- An array that holds how many need each block. -/
def arrC (f : Nat → Nat) : Array Value := ((List.range 20).map fun i => intV ((f i : Nat) : Int)).toArray
theorem arrC_size (f : Nat → Nat) : (arrC f).size = 20 := by simp [arrC]
theorem arrC_get (f : Nat → Nat) {i : Nat} (h : i < 20) : (arrC f)[i]? = some (.int .i64 ((f i : Nat) : Int)) := by
  simp [arrC, h, intV]
theorem arrC_set (f : Nat → Nat) (q x : Nat) : (arrC f).setIfInBounds q (.int .i64 ((x : Nat) : Int)) = arrC (fun i => if i = q then x else f i) := by
  apply Array.ext_getElem?
  intro i
  rw [Array.getElem?_setIfInBounds]
  by_cases hi : i < 20
  · rw [arrC_get _ hi, arrC_get _ hi, arrC_size]
    by_cases e : q = i
    · subst e; simp [hi]
    · rw [if_neg e, if_neg (fun h => e h.symm)]
  · have h1 : (arrC f)[i]? = none := by rw [Array.getElem?_eq_none_iff, arrC_size]; omega
    have h2 : (arrC (fun i => if i = q then x else f i))[i]? = none := by rw [Array.getElem?_eq_none_iff, arrC_size]; omega
    rw [h1, h2, arrC_size]
    by_cases e : q = i
    · subst e; simp [hi]
    · rw [if_neg e]
theorem arrC_one (f : Nat → Nat) : (arrC f).all (·.oneCell') = true := by
  unfold arrC
  rw [Array.all_eq_true_iff_forall_mem]
  intro v hv
  simp only [List.mem_toArray, List.mem_map] at hv
  obtain ⟨i, _, rfl⟩ := hv
  rfl
section
variable {P : Program} {w : World}
/-- A load, a store whose run is known, at its place in a walk. -/
theorem wpList_load_run {ops : Array Oper} {rest : List Oper} {o : Oper} {a : Act} {Q : Exit → Act → World → Prop} (hgd : o.guard = none) (s : Operand) (t : TypeId) (ho : o.op = .load t s) (v : Value) (hs : a.eval s = v) (v' : Value) (w' : World)
    (hr : (Instr.loadAt t v).run P w = .ok v' w') (h : wpList P ops Q rest (a.put o.dst v') w') : wpList P ops Q (o :: rest) a w := by
  refine wpList_plain hgd fun K hK => ?_
  unfold Oper.wp execOp
  simp only [ho, Sem.run_bind, Sem.run_pure, hs, hr, Result.andThen_ok]
  exact hK _ _ h
theorem wpList_store_run {ops : Array Oper} {rest : List Oper} {o : Oper} {a : Act} {Q : Exit → Act → World → Prop} (hgd : o.guard = none) (s x : Operand) (t : TypeId) (ho : o.op = .store t s x) (v y : Value) (hs : a.eval s = v) (hx : a.eval x = y) (w' : World)
    (hr : (Instr.storeAt t v y).run P w = .ok () w') (h : wpList P ops Q rest (a.put o.dst undef) w') : wpList P ops Q (o :: rest) a w := by
  refine wpList_plain hgd fun K hK => ?_
  unfold Oper.wp execOp
  simp only [ho, Sem.run_bind, Sem.run_pure, hs, hx, hr, Result.andThen_ok]
  exact hK _ _ h
end

end Go.Proofs.Ytpmndmkmfcoieaa

namespace Go.Proofs.Ytpmndmkmfcoieaa
open Go.RowKit
set_option maxRecDepth 100000

/-- Blocks of inodes without a fault stand within the bounds. -/
theorem inoF_blocks {d : ID} (h : inoF d = 0) (k : Nat) (hk : k < d.2.2.2.1.length) : 0 ≤ d.2.2.2.1[k]?.getD 0 ∧ d.2.2.2.1[k]?.getD 0 < 20 := by
  have hp : ∀ x : Bool, (decide (d.2.1 ≠ 0) || decide (d.2.2.1 ≠ 0) || decide (0 < d.2.2.2.1.length)) = x → x = true := fun x hx => by
    rw [← hx, decide_eq_true (show 0 < d.2.2.2.1.length by omega)]; simp
  have hfp : fpB d = true := hp _ rfl
  unfold inoF at h
  rw [hfp] at h
  split at h
  · simp at h
  · split at h
    · split at h
      · omega
      · unfold fileF at h
        split at h
        · split at h
          · unfold blkF at h
            split at h
            · rename_i hz
              have := fstNZ_inv hz k hk
              unfold rngF at this
              split at this
              · omega
              · omega
            · rename_i hz; exact absurd h hz
          · omega
        · omega
    · split at h
      · simp at h
      · omega
theorem insF_len {ds : List ID} (h : insF ds = 0) : ds.length ≤ 10 := by
  unfold insF at h
  split at h
  · omega
  · omega
theorem insF_each {ds : List ID} (h : insF ds = 0) (j : Nat) (hj : j < ds.length) : inoF (ds[j]?.getD id0) = 0 := by
  unfold insF at h
  split at h
  · omega
  · exact fstNZ_inv (f := fun i => inoF (ds[i]?.getD id0)) h j hj
theorem insF_blocks {ds : List ID} (h : insF ds = 0) (j k : Nat) (hj : j < ds.length) (hk : k < (ds[j]?.getD id0).2.2.2.1.length) : 0 ≤ (ds[j]?.getD id0).2.2.2.1[k]?.getD 0 ∧ (ds[j]?.getD id0).2.2.2.1[k]?.getD 0 < 20 := inoF_blocks (insF_each h j hj) k hk

def manyB (f : Nat → Nat) : Bool := (List.range 20).any fun k => decide (1 < f k)
end Go.Proofs.Ytpmndmkmfcoieaa

namespace Go.Proofs.Ytpmndmkmfcoieaa
open Go.RowKit
set_option maxRecDepth 100000

/-- The same, and the list is no longer than its room. -/
def AnsIC (w : World) (r : Int × List Int) (e : Ending) (w' : World) : Prop := AnsIR w r e w' ∧ ∀ x a n c, e = .returned (.agg #[x, .slice a n c]) → n ≤ c
theorem AnsIC.mk {w w' : World} {r : Int × List Int} {x : Value} {a : Option Addr} {n c : Nat} (h : AnsIR w r (.returned (.agg #[x, .slice a n c])) w') (hc : n ≤ c) : AnsIC w r (.returned (.agg #[x, .slice a n c])) w' :=
  ⟨h, fun x' a' n' c' e => by
    simp only [Ending.returned.injEq, Value.agg.injEq, Array.mk.injEq, List.cons.injEq, Value.slice.injEq, and_true] at e
    omega⟩
theorem slice_takeI (a : Option Addr) (n c j : Nat) (hj : j ≤ c) :
    ∃ A C, j ≤ C ∧ (∀ W : World, (Instr.slice 56 (.slice a n c) none (some (.int .i64 (j : Int))) none).run Try.prog W = .ok (.slice A j C) W) ∧ ∀ (W : World) (zs : List Int) (F : Nat → Prop), j ≤ zs.length → IntsO W (.slice a n c) zs F → IntsO W (.slice A j C) (zs.take j) F := by
  obtain ⟨i, hi, _⟩ := Try.infoInt'
  refine ⟨if c = 0 then a else a.map (·.add (0 * 1)), c - 0, by omega, fun W => ?_, fun W zs F hjn h => ?_⟩
  · simp [Instr.slice, Instr.sliceBounds, Instr.sliceBound, asIntOf, run_underlying Try.underlying56, sizeOf, typeInfo, hi, hj]
  · by_cases hj0 : j = 0
    · subst hj0
      exact Or.inl ⟨by simp, _, _, rfl⟩
    · rw [if_neg (by omega)]
      rcases h with ⟨h, _⟩ | ⟨b, cap, hF, h1, h2, h3⟩
      · subst h; simp at hjn; omega
      · simp only [Value.slice.injEq] at h1
        obtain ⟨rfl, rfl, rfl⟩ := h1
        have hl : (zs.take j).length = j := by rw [List.length_take]; omega
        refine Or.inr ⟨b, c - 0, hF, by rw [hl]; simp [Addr.add], by rw [hl]; omega, ?_⟩
        obtain ⟨cs, t, hb, hn, hc⟩ := h3
        refine ⟨cs, t, hb, by rw [hl]; omega, fun k hk => ?_⟩
        rw [hl] at hk
        rw [hc k (by omega)]
        dsimp only
        rw [List.getElem?_take, if_pos hk]
theorem Wds.cap {w : World} {n₀ : Nat} {a : Option Addr} {n c : Nat} {zs : List Int} (h : Wds w n₀ (.slice a n c) zs) : n ≤ c := by
  rcases h.2 with ⟨e, h0⟩ | ⟨g, cap, cur, e, _, _, hnc, _⟩
  · simp only [Value.slice.injEq] at e; omega
  · simp only [Value.slice.injEq] at e; omega

end Go.Proofs.Ytpmndmkmfcoieaa

namespace Go.Proofs.Ytpmndmkmfcoieaa
open Go.RowKit
set_option maxRecDepth 100000

theorem busF_each {zs : List Int} (h : busF zs = 0) (k : Nat) (hk : k < zs.length) : 0 ≤ zs[k]?.getD 0 ∧ zs[k]?.getD 0 < 20 := by
  unfold busF at h
  split at h
  · omega
  · have := fstNZ_inv h k hk
    unfold rngF at this
    split at this <;> omega
theorem busF_len {zs : List Int} (h : busF zs = 0) : zs.length ≤ 20 := by
  unfold busF at h
  split at h <;> omega
theorem cntB_le (ds : List ID) (hs : sizeInos ds ≤ 1048576) (v : Int) : cntB ds v ≤ 1048576 := by
  have h2 := allB_len ds
  have h3 := List.count_le_length (a := v) (l := allB ds)
  unfold sizeInos at hs
  unfold cntB
  omega
theorem manyB_once (ds : List ID) : manyB (fun i => cntB ds (i : Int)) = !onceB ds 20 := by
  unfold manyB onceB
  rw [List.not_all_eq_any_not]
  congr 1
  funext k
  simp only [← decide_not]
  rw [decide_eq_decide]
  omega
theorem freeP_eq (ds : List ID) (bs : List Int) : (fun k : Nat => decide (cntB ds (k : Int) + bs.count (k : Int) = 0)) = freeP ds bs := by
  funext k
  unfold freeP
  cases hb : bs.contains (k : Int) with
  | true =>
    have h1 : (k : Int) ∈ bs := by simpa using hb
    have h2 := List.count_pos_iff.2 h1
    simp; omega
  | false =>
    have h1 : ¬ (k : Int) ∈ bs := by simpa using hb
    have h2 := List.count_eq_zero.2 h1
    rw [h2]; simp

end Go.Proofs.Ytpmndmkmfcoieaa

namespace Go.Proofs.Ytpmndmkmfcoieaa
open Go.RowKit
set_option maxRecDepth 100000

/-- A place of what is not free. -/
def thB (d : FD) (x : Int) : Bool := decide (0 ≤ x ∧ x < (d.1.length : Int)) && !decide (kindAt d.1 x.toNat = 0)
theorem th_lost {d : FD} {x : Int} (h : 0 ≤ x) : thB d x = !lostB d.1 x := by
  unfold thB lostB
  by_cases e : x < (d.1.length : Int)
  · rw [decide_eq_true (show 0 ≤ x ∧ x < (d.1.length : Int) from ⟨h, e⟩), decide_eq_false (show ¬ (d.1.length : Int) ≤ x by omega)]
    simp
  · rw [decide_eq_false (show ¬ (0 ≤ x ∧ x < (d.1.length : Int)) from fun hh => e hh.2), decide_eq_true (show (d.1.length : Int) ≤ x by omega)]
    simp

/-- What is wrong of data and blocks. -/
def dataF (d : FD) : Int := if d.2.length = 20 then (if fstNZ (manyF d.2) d.2.length = 0 then (if onceB d.1 20 then 0 else 7) else fstNZ (manyF d.2) d.2.length) else 1

end Go.Proofs.Ytpmndmkmfcoieaa

namespace Go.Proofs.Ytpmndmkmfcoieaa
open Go.RowKit
set_option maxRecDepth 100000

abbrev E3 := Int × Int × Int
/-- The cells of a row of extents. -/
def exCell (es : List E3) (j : Nat) : Value := .int .i64 (if j % 3 = 0 then (es[j / 3]?.getD (0, 0, 0)).1 else if j % 3 = 1 then (es[j / 3]?.getD (0, 0, 0)).2.1 else (es[j / 3]?.getD (0, 0, 0)).2.2)
theorem exCell_0 (es : List E3) (k : Nat) : exCell es (k * 3) = .int .i64 (es[k]?.getD (0, 0, 0)).1 := by
  unfold exCell; rw [if_pos (by omega), show k * 3 / 3 = k by omega]
theorem exCell_1 (es : List E3) (k : Nat) : exCell es (k * 3 + 1) = .int .i64 (es[k]?.getD (0, 0, 0)).2.1 := by
  unfold exCell; rw [if_neg (by omega), if_pos (by omega), show (k * 3 + 1) / 3 = k by omega]
theorem exCell_2 (es : List E3) (k : Nat) : exCell es (k * 3 + 2) = .int .i64 (es[k]?.getD (0, 0, 0)).2.2 := by
  unfold exCell; rw [if_neg (by omega), if_neg (by omega), show (k * 3 + 2) / 3 = k by omega]

/-- Where the extents of a list lie. -/
def AtE (w : World) (a : Option Addr) (n : Nat) (es : List E3) : Prop :=
  ∀ k, k < n → ∃ b off, a = some ⟨b, off, none⟩ ∧ w.cell? ⟨b, off + k * 3, none⟩ = some (.int .i64 (es[k]?.getD (0, 0, 0)).1) ∧ w.cell? ⟨b, off + k * 3 + 1, none⟩ = some (.int .i64 (es[k]?.getD (0, 0, 0)).2.1) ∧ w.cell? ⟨b, off + k * 3 + 2, none⟩ = some (.int .i64 (es[k]?.getD (0, 0, 0)).2.2)
theorem AtE.later {w w' : World} {a : Option Addr} {n : Nat} {es : List E3} (h : AtE w a n es) (hb : Below w.heap.size w w') : AtE w' a n es := fun k hk => by
  obtain ⟨b, off, e, c0, c1, c2⟩ := h k hk
  exact ⟨b, off, e, cell_later hb c0, cell_later hb c1, cell_later hb c2⟩
/-- The slice v reads as the extents es. -/
def Exts (w : World) (v : Value) (es : List E3) : Prop := ∃ a cap, v = .slice a es.length cap ∧ (es.length ≤ maxLen ∧ es.length ≤ cap) ∧ AtE w a es.length es
theorem Exts.later {w w' : World} {v : Value} {es : List E3} (h : Exts w v es) (hb : Below w.heap.size w w') : Exts w' v es := by
  obtain ⟨a, cap, h1, h2, h3⟩ := h
  exact ⟨a, cap, h1, h2, h3.later hb⟩
theorem Exts.open' {w : World} {v : Value} {es : List E3} (h : Exts w v es) : ∃ a cap, v = .slice a es.length cap ∧ es.length ≤ maxLen ∧ AtE w a es.length es := by
  obtain ⟨a, cap, h1, h2, h3⟩ := h
  exact ⟨a, cap, h1, h2.1, h3⟩
theorem Exts.cap {w : World} {a : Option Addr} {n c : Nat} {es : List E3} (h : Exts w (.slice a n c) es) : es.length ≤ c := by
  obtain ⟨a', c', h1, h2, _⟩ := h
  simp only [Value.slice.injEq] at h1
  rw [h1.2.2]
  exact h2.2
theorem Exts.nil (w : World) (a : Option Addr) (cap : Nat) : Exts w (.slice a 0 cap) [] := ⟨a, cap, rfl, by simp, fun k hk => by simp at hk⟩

/-- The slice v holds the extents es, in one block of F. -/
def ExtsO (w : World) (v : Value) (es : List E3) (F : Nat → Prop) : Prop :=
  (es = [] ∧ ∃ a cap, v = .slice a 0 cap) ∨
  (∃ b cap, F b ∧ v = .slice (some ⟨b, 0, none⟩) es.length cap ∧ (es.length ≤ maxLen ∧ es.length ≤ cap) ∧ OwnRow w b (es.length * 3) (exCell es))
theorem OwnRow.atE {w : World} {b n : Nat} {es : List E3} (h : OwnRow w b (n * 3) (exCell es)) : AtE w (some ⟨b, 0, none⟩) n es := fun k hk =>
  ⟨b, 0, rfl, by rw [Nat.zero_add, h.cell (by omega), exCell_0], by rw [Nat.zero_add, h.cell (by omega), exCell_1], by rw [Nat.zero_add, h.cell (by omega), exCell_2]⟩
theorem ExtsO.reads {w : World} {v : Value} {es : List E3} {F : Nat → Prop} (h : ExtsO w v es F) : Exts w v es := by
  rcases h with ⟨rfl, a, cap, rfl⟩ | ⟨b, cap, _, h1, h2, h3⟩
  · exact Exts.nil w a cap
  · exact ⟨_, cap, h1, h2, h3.atE⟩
theorem ExtsO.keep {w w' : World} {v : Value} {es : List E3} {F : Nat → Prop} (h : ExtsO w v es F) (e : ∀ b, F b → b < w.heap.size → w'.heap[b]? = w.heap[b]?) : ExtsO w' v es F := by
  rcases h with h | ⟨b, cap, hF, h1, h2, h3⟩
  · exact Or.inl h
  · exact Or.inr ⟨b, cap, hF, h1, h2, h3.block (e b hF h3.lt)⟩
theorem ExtsO.mono {w : World} {v : Value} {es : List E3} {F G : Nat → Prop} (h : ExtsO w v es F) (e : ∀ b, F b → G b) : ExtsO w v es G := by
  rcases h with h | ⟨b, cap, hF, h1⟩
  · exact Or.inl h
  · exact Or.inr ⟨b, cap, e b hF, h1⟩
theorem ExtsO.bound {w : World} {v : Value} {es : List E3} {F : Nat → Prop} (h : ExtsO w v es F) : ExtsO w v es (fun b => F b ∧ b < w.heap.size) := by
  rcases h with h | ⟨b, cap, hF, h1, h2, h3⟩
  · exact Or.inl h
  · exact Or.inr ⟨b, cap, ⟨hF, h3.lt⟩, h1, h2, h3⟩
theorem ExtsO.later {w w' : World} {v : Value} {es : List E3} {F : Nat → Prop} (h : ExtsO w v es F) (hb : Below w.heap.size w w') : ExtsO w' v es F := h.keep fun b _ hlt => hb.block b hlt
theorem ExtsO.store {w : World} {v : Value} {es : List E3} {F : Nat → Prop} (h : ExtsO w v es F) {p : Addr} (hp : ∀ b, F b → b ≠ p.block) (x : Value) : ExtsO (w.setCell p x) v es F := h.keep fun b hb _ => Below.heap_setCell _ _ _ _ (hp b hb)

/-- The marks of n extents, from k on. -/
def marksE (k : Int) (n : Nat) : List E3 := (List.range n).map fun i : Nat => (k + 3 * (i : Int), k + 3 * (i : Int) + 1, k + 3 * (i : Int) + 2)
theorem marksE_length (k : Int) (n : Nat) : (marksE k n).length = n := by simp [marksE]
theorem marksE_get (k : Int) {n i : Nat} (h : i < n) : (marksE k n)[i]?.getD (0, 0, 0) = (k + 3 * (i : Int), k + 3 * (i : Int) + 1, k + 3 * (i : Int) + 2) := by simp [marksE, h]
theorem exCell_marks (k : Int) {n c : Nat} (h : c < n * 3) : exCell (marksE k n) c = .int .i64 (k + (c : Int)) := by
  have h3 : c / 3 < n := by omega
  unfold exCell
  rw [marksE_get k h3]
  congr 1
  have : c % 3 = 0 ∨ c % 3 = 1 ∨ c % 3 = 2 := by omega
  rcases this with e | e | e
  · rw [if_pos e]; omega
  · rw [if_neg (by omega), if_pos e]; show k + 3 * ((c / 3 : Nat) : Int) + 1 = k + (c : Int); omega
  · rw [if_neg (by omega), if_neg (by omega)]; show k + 3 * ((c / 3 : Nat) : Int) + 2 = k + (c : Int); omega

/-- 'make' of n triples. -/
theorem run_make_trip {P : Program} (t e : TypeId) (x y z : Value) (bytes : Nat) (ht : P.underlying t = some (.slice e)) (hinfo : (P.info? e).map (fun i => (i.zero, i.size, i.bytes)) = some (some (.agg #[x, y, z]), 3, bytes)) (hz : (Value.agg #[x, y, z]).cells = #[x, y, z])
    (kl kc : IntKind) (n : Nat) (hbytes : bytes * n ≤ 281474976710656) (h63 : n ≤ 9223372036854775807) (w : World) :
    (Instr.makeSlice t (.int kl (n : Int)) (.int kc (n : Int))).run P w = .ok (.slice (some ⟨w.heap.size, 0, none⟩) n n) (w.alloc (.cells (madeCells #[x, y, z] (n * 3)) e)) := by
  obtain ⟨i, hi, hzz⟩ := Option.map_eq_some_iff.1 hinfo
  simp only [Prod.mk.injEq] at hzz
  obtain ⟨h1, h2, h3⟩ := hzz
  have hb' : (i.bytes : Int) * (n : Int) ≤ 281474976710656 := by
    have h : ((i.bytes * n : Nat) : Int) ≤ 281474976710656 := by rw [h3]; omega
    rwa [Int.natCast_mul] at h
  have hr := run_make (P := P) w t e i _ ht hi h1 kl kc n n (by omega) (Int.le_refl _) hb' (by omega)
  simp only [Int.toNat_natCast, h2, hz] at hr
  exact hr
theorem OwnRow.madeTrip (w : World) (n : Nat) (t : TypeId) : OwnRow (w.alloc (.cells (madeCells #[.int .i64 0, .int .i64 0, .int .i64 0] (n * 3)) t)) w.heap.size (n * 3) (fun _ => .int .i64 0) := by
  refine ⟨_, t, Go.Deep.blk_alloc_new _ _, by rw [size_madeCells]; exact Nat.le_refl _, fun i hi => ?_⟩
  unfold madeCells
  rw [Array.getElem?_map]
  have h1 : (Array.range (n * 3))[i]? = some i := by simp [hi]
  rw [h1]
  have : i % 3 = 0 ∨ i % 3 = 1 ∨ i % 3 = 2 := by omega
  rcases this with e | e | e <;> simp [e]
/-- The cells of a row of extents of which the first j stand. -/
def partE (es : List E3) (j c : Nat) : Value := if c < j * 3 then exCell es c else .int .i64 0
theorem partE_next (es : List E3) (j c : Nat) : (if c = j * 3 + 2 then .int .i64 (es[j]?.getD (0, 0, 0)).2.2 else (if c = j * 3 + 1 then .int .i64 (es[j]?.getD (0, 0, 0)).2.1 else (if c = j * 3 then .int .i64 (es[j]?.getD (0, 0, 0)).1 else partE es j c))) = partE es (j + 1) c := by
  unfold partE
  by_cases e2 : c = j * 3 + 2
  · subst e2; rw [if_pos rfl, if_pos (by omega), exCell_2]
  · rw [if_neg e2]
    by_cases e1 : c = j * 3 + 1
    · subst e1; rw [if_pos rfl, if_pos (by omega), exCell_1]
    · rw [if_neg e1]
      by_cases e0 : c = j * 3
      · subst e0; rw [if_pos rfl, if_pos (by omega), exCell_0]
      · rw [if_neg e0]
        by_cases h : c < j * 3
        · rw [if_pos h, if_pos (by omega)]
        · rw [if_neg h, if_neg (by omega)]
end Go.Proofs.Ytpmndmkmfcoieaa

namespace Go.Proofs.Ytpmndmkmfcoieaa
open Go.RowKit
set_option maxRecDepth 100000

/-- The cells of extents, one behind the other. -/
def exCells (es : List E3) : List Value := es.flatMap fun e => [.int .i64 e.1, .int .i64 e.2.1, .int .i64 e.2.2]
theorem exCells_length (es : List E3) : (exCells es).length = es.length * 3 := by
  induction es with
  | nil => rfl
  | cons a t ih =>
    have : exCells (a :: t) = [.int .i64 a.1, .int .i64 a.2.1, .int .i64 a.2.2] ++ exCells t := by simp [exCells]
    rw [this, List.length_append, ih]
    simp [Nat.add_mul]
    omega
theorem exCells_append (es fs : List E3) : exCells (es ++ fs) = exCells es ++ exCells fs := by simp [exCells]
theorem exCells_get (es : List E3) (j : Nat) (h : j < es.length * 3) : (exCells es)[j]? = some (exCell es j) := by
  induction es generalizing j with
  | nil => simp at h
  | cons a t ih =>
    have e : exCells (a :: t) = .int .i64 a.1 :: .int .i64 a.2.1 :: .int .i64 a.2.2 :: exCells t := by simp [exCells]
    rw [e]
    match j with
    | 0 => simp [exCell]
    | 1 => simp [exCell]
    | 2 => simp [exCell]
    | j + 3 =>
      simp only [List.getElem?_cons_succ]
      rw [ih j (by simp at h; omega)]
      unfold exCell
      have h1 : (j + 3) % 3 = j % 3 := by omega
      have h2 : (j + 3) / 3 = j / 3 + 1 := by omega
      rw [h1, h2]
      simp
theorem exCells_one (es : List E3) : ∀ u ∈ exCells es, u.oneCell' = true := by
  intro u hu
  simp only [exCells, List.mem_flatMap] at hu
  obtain ⟨e, _, hu⟩ := hu
  simp at hu
  rcases hu with rfl | rfl | rfl <;> rfl
theorem AtE.cells {w : World} {b off n : Nat} {es : List E3} (h : AtE w (some ⟨b, off, none⟩) n es) (hn : es.length = n) (j : Nat) (u : Value) (hu : (exCells es)[j]? = some u) : w.cell? ((⟨b, off, none⟩ : Addr).add j) = some u := by
  have hj : j < es.length * 3 := by rw [← exCells_length]; exact (List.getElem?_eq_some_iff.1 hu).1
  rw [exCells_get es j hj] at hu
  simp only [Option.some.injEq] at hu
  subst hu
  obtain ⟨b', off', e, c0, c1, c2⟩ := h (j / 3) (by omega)
  simp only [Option.some.injEq, Addr.mk.injEq, and_true] at e
  obtain ⟨rfl, rfl⟩ := e
  rw [add_plain']
  have : j % 3 = 0 ∨ j % 3 = 1 ∨ j % 3 = 2 := by omega
  unfold exCell
  rcases this with e | e | e
  · rw [if_pos e, ← c0, show off + j = off + j / 3 * 3 by omega]
  · rw [if_neg (by omega), if_pos e, ← c1, show off + j = off + j / 3 * 3 + 1 by omega]
  · rw [if_neg (by omega), if_neg (by omega), ← c2, show off + j = off + j / 3 * 3 + 2 by omega]

end Go.Proofs.Ytpmndmkmfcoieaa

namespace Go.Proofs.Ytpmndmkmfcoieaa
open Go.RowKit
set_option maxRecDepth 100000

/-- 'copy' between two rows of n elements of 'size' cells each. -/
theorem run_copy_wide {P : Program} (w : World) (dT sT ty elem : TypeId) (g n dCap : Nat) (a : Addr) (sCap size : Nat) (cur : Array Value) (t : TypeId) (cs : List Value)
    (hu : P.underlying dT = some (.slice elem)) (hs : (P.info? elem).map (·.size) = some size)
    (hg : w.heap[g]? = some (.cells cur t (0, 0))) (hn : cs.length = n * size)
    (hsrc : ∀ j v, cs[j]? = some v → w.cell? (a.add j) = some v) (hfit : cs.length ≤ cur.size) (h1 : ∀ v ∈ cs, v.oneCell' = true) :
    (Builtin.copy_ #[dT, sT] ty #[.slice (some ⟨g, 0, none⟩) n dCap, .slice (some a) n sCap]).run P w = .ok (goInt n) (w.setRow g (cs ++ cur.toList.drop cs.length).toArray) := by
  have hl := run_loadCells_list (P := P) w a cs hsrc
  have hst := run_storeCells_at P g 0 t cs 0 cur w hg (by simpa using hfit) h1
  simp only [Nat.zero_add, List.take_zero, List.nil_append] at hst
  cases hq : P.info? elem with
  | none => simp [hq] at hs
  | some i =>
    have hi : i.size = size := by simpa [hq] using hs
    have hm : Nat.min n n = n := Nat.min_self n
    simp [Builtin.copy_, run_underlying hu, Builtin.lenOf, Builtin.firstCells, sizeOf, typeInfo, hq, hi, hm, ← hn, hl, hst]
theorem run_copy_zero {P : Program} (w : World) (dT sT ty elem : TypeId) (d a : Option Addr) (dCap sCap size : Nat) (hu : P.underlying dT = some (.slice elem)) (hs : (P.info? elem).map (·.size) = some size) :
    (Builtin.copy_ #[dT, sT] ty #[.slice d 0 dCap, .slice a 0 sCap]).run P w = .ok (goInt 0) w := by
  cases hq : P.info? elem with
  | none => simp [hq] at hs
  | some i => cases a <;> cases d <;> simp [Builtin.copy_, run_underlying hu, Builtin.lenOf, Builtin.firstCells, sizeOf, typeInfo, hq, storeCells, loadCells, loadCellsFrom]

end Go.Proofs.Ytpmndmkmfcoieaa

namespace Go.Proofs.Ytpmndmkmfcoieaa
open Go.RowKit
set_option maxRecDepth 100000

theorem AtE.take {w : World} {a : Option Addr} {n : Nat} {es : List E3} (h : AtE w a n es) {j : Nat} (hj : j ≤ n) : AtE w a j (es.take j) := fun k hk => by
  obtain ⟨b, off, e, c0, c1, c2⟩ := h k (by omega)
  refine ⟨b, off, e, ?_, ?_, ?_⟩ <;> rw [List.getElem?_take, if_pos hk] <;> assumption
end Go.Proofs.Ytpmndmkmfcoieaa

namespace Go.Proofs.Ytpmndmkmfcoieaa
open Go.RowKit
set_option maxRecDepth 100000

def Qu (w : World) (n₀ : Nat) (v : Value) (zs : List Int) : Prop :=
  ∃ g off cap cur, v = .slice (some ⟨g, off, none⟩) zs.length cap ∧ n₀ ≤ g ∧ w.heap[g]? = some (.cells cur 2 (0, 0)) ∧ zs.length ≤ cap ∧ cap ≤ maxLen ∧ off + cap ≤ cur.size ∧ ∀ k, k < zs.length → cur[off + k]? = some (.int .i64 (zs[k]?.getD 0))
theorem Qu.keep {w w' : World} {n₀ : Nat} {v : Value} {zs : List Int} (h : Qu w n₀ v zs) (e : ∀ b c f, n₀ ≤ b → w.heap[b]? = some (.cells c 2 f) → w'.heap[b]? = w.heap[b]?) : Qu w' n₀ v zs := by
  obtain ⟨g, off, cap, cur, h1, h2, h3, h4⟩ := h
  exact ⟨g, off, cap, cur, h1, h2, (e g _ _ h2 h3).trans h3, h4⟩
theorem Qu.later {w w' : World} {n₀ : Nat} {v : Value} {zs : List Int} (h : Qu w n₀ v zs) (hb : Below w.heap.size w w') : Qu w' n₀ v zs := h.keep fun b _ _ _ hc => hb.block b (Array.getElem?_eq_some_iff.1 hc).1
theorem Qu.shape {w : World} {n₀ : Nat} {v : Value} {zs : List Int} (h : Qu w n₀ v zs) : ∃ a c, v = .slice a zs.length c ∧ zs.length ≤ c := by
  obtain ⟨g, off, cap, cur, rfl, _, _, h4, _⟩ := h
  exact ⟨_, _, rfl, h4⟩
theorem Qu.one (w : World) (n₀ : Nat) (hn : n₀ ≤ w.heap.size) (x : Int) : Qu (w.alloc (.cells #[.int .i64 x] 2)) n₀ (.slice (some ⟨w.heap.size, 0, none⟩) 1 1) [x] :=
  ⟨w.heap.size, 0, 1, #[.int .i64 x], rfl, hn, Go.Deep.blk_alloc_new _ _, by simp, by unfold maxLen; omega, by simp, fun k hk => by
    have : k = 0 := by simp at hk; exact hk
    subst this; rfl⟩
theorem Qu.cell {w : World} {n₀ : Nat} {a : Option Addr} {n c : Nat} {zs : List Int} (h : Qu w n₀ (.slice a n c) zs) {k : Nat} (hk : k < zs.length) : ∃ g off, a = some ⟨g, off, none⟩ ∧ w.cell? ⟨g, off + k, none⟩ = some (.int .i64 (zs[k]?.getD 0)) := by
  obtain ⟨g, off, cap, cur, e, _, h3, _, _, _, h6⟩ := h
  simp only [Value.slice.injEq] at e
  refine ⟨g, off, e.1, ?_⟩
  have := h6 k hk
  simp [World.cell?, h3, this]
theorem slice_tailQ (a : Option Addr) (n c : Nat) (hl : 1 ≤ n) (hc : n ≤ c) :
    ∃ A C, (∀ W : World, (Instr.slice 56 (.slice a n c) (some (.int .i64 1)) none none).run Try.prog W = .ok (.slice A (n - 1) C) W) ∧ ∀ (W : World) (n₀ : Nat) (z : Int) (zs : List Int), Qu W n₀ (.slice a n c) (z :: zs) → Qu W n₀ (.slice A (n - 1) C) zs := by
  obtain ⟨i, hi, _, h2, _⟩ := Try.infoInt'
  refine ⟨if c = 1 then a else a.map (·.add 1), c - 1, fun W => ?_, fun W n₀ z zs h => ?_⟩
  · simp [Instr.slice, Instr.sliceBounds, Instr.sliceBound, asIntOf, run_underlying Try.underlying56, sizeOf, typeInfo, hi, h2]
    intro hlt
    omega
  · obtain ⟨g, off, cap, cur, e, h1, h3, h4, h5, h6, h7⟩ := h
    simp only [Value.slice.injEq, List.length_cons] at e
    obtain ⟨rfl, rfl, rfl⟩ := e
    simp only [List.length_cons] at h4 h7
    by_cases hcl : c = 1
    · have hz : zs = [] := List.eq_nil_of_length_eq_zero (by omega)
      subst hz
      rw [if_pos hcl]
      exact ⟨g, off, c - 1, cur, by simp, h1, h3, by simp, by omega, by omega, fun k hk => by simp at hk⟩
    · rw [if_neg hcl]
      refine ⟨g, off + 1, c - 1, cur, by simp [add_plain'], h1, h3, by omega, by omega, by omega, fun k hk => ?_⟩
      have := h7 (k + 1) (by omega)
      rw [show off + 1 + k = off + (k + 1) by omega, this]
      simp
/-- Blocks that hold no words stand as they did. -/
def KeepQ (w w' : World) : Prop := ∀ (b : Nat) (o : Obj), w.heap[b]? = some o → (∀ c f, o ≠ .cells c 2 f) → w'.heap[b]? = some o
theorem append_q (w : World) (n₀ : Nat) (v : Value) (zs : List Int) (x : Int) (hq : Qu w n₀ v zs) (hn₀ : n₀ ≤ w.heap.size) (hz : zs.length ≤ 1000) :
    ∃ v' X, (Builtin.append_ #[56, 56] 56 #[v, .slice (some ⟨w.heap.size, 0, none⟩) 1 1]).run Try.prog (w.alloc (.cells #[.int .i64 x] 2)) = .ok v' X ∧ Qu X n₀ v' (zs ++ [x]) ∧ Below n₀ w X ∧ KeepQ w X := by
  obtain ⟨i, hi, h1, h2, h3⟩ := Try.infoInt'
  have hq' := hq.later (later1 w (.cells #[.int .i64 x] 2))
  have hBW : Below n₀ w (w.alloc (.cells #[.int .i64 x] 2)) := (later1 w _).mono hn₀
  have hKW : KeepQ w (w.alloc (.cells #[.int .i64 x] 2)) := fun b o hb _ => ((later1 w _).block b (Array.getElem?_eq_some_iff.1 hb).1).trans hb
  have hcell : (w.alloc (.cells #[.int .i64 x] 2)).cell? ⟨w.heap.size, 0, none⟩ = some (.int .i64 x) := by rw [new_cell]; rfl
  have hsz : n₀ ≤ (w.alloc (.cells #[.int .i64 x] 2)).heap.size := by simp; omega
  generalize hW : w.alloc (.cells #[.int .i64 x] 2) = W at *
  clear hW
  obtain ⟨g, off, cap, cur, rfl, hg0, hg, hnc, hcm, hoc, hrd⟩ := hq'
  have hglt : g < W.heap.size := (Array.getElem?_eq_some_iff.1 hg).1
  have hnews : ∀ j u, ([.int .i64 x] : List Value)[j]? = some u → W.cell? ((⟨w.heap.size, 0, none⟩ : Addr).add j) = some u := fun j u hu => by
    match j, hu with
    | 0, hu => simp at hu; subst hu; rw [add_plain']; exact hcell
    | j + 1, hu => simp at hu
  by_cases hroom : zs.length + 1 ≤ cap
  · have hf := run_firstCells_some (P := Try.prog) W i.size 1 ⟨w.heap.size, 0, none⟩ 1 1 [.int .i64 x] (by simp [h2]) hnews
    rw [h2] at hf
    have hst := run_storeCells_at Try.prog g (off + zs.length) 2 [.int .i64 x] 0 cur W hg (by simp; omega) (by simp [Value.oneCell'])
    simp only [Nat.add_zero, List.length_cons, List.length_nil, Nat.zero_add] at hst
    refine ⟨.slice (some ⟨g, off, none⟩) (zs.length + 1) cap, W.setRow g (cur.toList.take (off + zs.length) ++ [Value.int .i64 x] ++ cur.toList.drop (off + zs.length + 1)).toArray, ?_, ?_, hBW.trans ?_, ?_⟩
    · simp [Builtin.append_, run_underlying Try.underlying56, sizeOf, typeInfo, hi, h2, Builtin.lenOf, hroom, hf, add_plain', hst]
    · refine ⟨g, off, cap, _, by simp, hg0, setRow_heap W g cur _ 2 _ hg, by simp; omega, hcm, ?_, fun k hk => ?_⟩
      · simp only [List.size_toArray, List.length_append, List.length_take, List.length_drop, Array.length_toList, List.length_cons, List.length_nil]
        omega
      · simp only [List.length_append, List.length_cons, List.length_nil] at hk
        have hlt : (cur.toList.take (off + zs.length)).length = off + zs.length := by rw [List.length_take]; simp; omega
        rw [List.getElem?_toArray, List.append_assoc]
        by_cases hkz : k < zs.length
        · rw [List.getElem?_append_left (by rw [hlt]; omega), List.getElem?_take, if_pos (by omega), List.getElem?_append_left hkz, Array.getElem?_toList]
          exact hrd k hkz
        · have : k = zs.length := by omega
          subst this
          rw [List.getElem?_append_right (by rw [hlt]; omega), hlt, Nat.sub_self]
          simp
    · refine ⟨rfl, rfl, rfl, by simp, fun b hb => setRow_other W g b _ (by omega)⟩
    · intro b o hb ho
      have hb' := hKW b o hb ho
      by_cases e : b = g
      · subst e
        rw [hg] at hb'
        simp only [Option.some.injEq] at hb'
        exact absurd hb'.symm (ho _ _)
      · rw [← hb']; exact setRow_other W g b _ e
  · have hr := run_append_grow (P := Try.prog) W 56 56 2 i (.int .i64 0) Try.underlying56 hi h1 ⟨g, off, none⟩ zs.length cap (zs.map intV) (by simp [h2]) (fun j u hu => by
      rw [List.getElem?_map, Option.map_eq_some_iff] at hu
      obtain ⟨z, hz1, rfl⟩ := hu
      have hj : j < zs.length := (List.getElem?_eq_some_iff.1 hz1).1
      have := hrd j hj
      rw [hz1, Option.getD_some] at this
      rw [add_plain']
      simp [World.cell?, hg, this, intV]) ⟨w.heap.size, 0, none⟩ 1 1 [.int .i64 x] (by simp [h2]) hnews (by omega) (by omega) (growslice_fits (by omega) (by rw [h3]; omega))
    have hge := grownCap_ge W (zs.length + 1) cap 2
    have hcm' := grownCap_le_maxLen W (zs.length + 1) cap 2 (by unfold maxLen; omega)
    have hBX : ∀ o, Below W.heap.size W (W.drew.alloc o) := fun o => ⟨rfl, rfl, rfl, by simp, fun b hb => (later1 W.drew o).block b hb⟩
    refine ⟨_, _, hr, ?_, hBW.trans ((hBX _).mono hsz), fun b o hb ho => ?_⟩
    · refine ⟨W.heap.size, 0, _, _, by simp, hsz, Go.Deep.blk_alloc_new _ _, by simp; omega, hcm', ?_, fun k hk => ?_⟩
      · simp only [Array.size_append, List.size_toArray, size_zeroCells, List.length_map, List.length_cons, List.length_nil, Value.cells]
        simp
        omega
      · simp only [List.length_append, List.length_cons, List.length_nil] at hk
        rw [Nat.zero_add, Array.getElem?_append_left (by simp; omega)]
        by_cases hkz : k < zs.length
        · rw [Array.getElem?_append_left (by simpa using hkz), List.getElem?_append_left hkz]
          simp [List.getElem?_eq_getElem hkz, intV]
        · have : k = zs.length := by omega
          subst this
          rw [Array.getElem?_append_right (by simp)]
          simp
    · rw [(hBX _).block b (Array.getElem?_eq_some_iff.1 (hKW b o hb ho)).1]
      exact hKW b o hb ho
end Go.Proofs.Ytpmndmkmfcoieaa
