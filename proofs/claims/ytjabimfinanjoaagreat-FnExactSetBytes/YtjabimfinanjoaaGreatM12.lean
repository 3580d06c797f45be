/- The specification: has each block just the bytes that it should have? The program's copying of a file system. The program's copying of a file system: the walk. The program's faults of lists of inodes and of busy blocks. -/
import Derived.Test.YtjabimfinanjoaaGreatM11
import Derived.Deep.RegionHeld3
import Derived.Test.YtjabimfinanjoaaGreatM09
import Derived.Test.YtjabimfinanjoaaGreatM10
import Derived.Test.YtjabimfinanjoaaGreatM06
import Derived.Test.YtjabimfinanjoaaGreatM08
namespace Go.Proofs.YtjabimfinanjoaaGreat
open Go.RowKit
set_option maxRecDepth 100000

theorem ino_size {d : ID} (h : inoF d = 0) : 0 ≤ d.2.2.1 ∧ d.2.2.1 ≤ 32 ∧ ((d.2.2.2.1.length : Nat) : Int) = (d.2.2.1 + 7) / 8 := by
  unfold inoF at h
  have fp : fpB d = false → d.2.2.1 = 0 ∧ d.2.2.2.1.length = 0 := fun hf => by
    unfold fpB at hf
    simp at hf
    exact ⟨hf.1.2, by rw [hf.2]; rfl⟩
  by_cases h0 : d.1 = 0
  · rw [if_pos h0] at h
    have hf : fpB d = false := by
      cases e : fpB d with
      | false => rfl
      | true => rw [e] at h; simp at h
    obtain ⟨h1, h2⟩ := fp hf
    omega
  · rw [if_neg h0] at h
    by_cases h1 : d.1 = 1
    · rw [if_pos h1] at h
      have hd : dpB d = false := by
        cases e : dpB d with
        | false => rfl
        | true => rw [e] at h; simp at h
      rw [hd] at h
      simp only [Bool.false_eq_true, if_false] at h
      unfold fileF at h
      by_cases hl : linkB d.2.1 = true ∧ sizeB d.2.2.1 = true
      · rw [if_pos hl] at h
        have hz := hl.2
        unfold sizeB at hz
        simp at hz
        by_cases hb : ((d.2.2.2.1.length : Nat) : Int) = (d.2.2.1 + 7) / 8
        · exact ⟨hz.1, hz.2, hb⟩
        · rw [if_neg hb] at h; omega
      · rw [if_neg hl] at h; omega
    · rw [if_neg h1] at h
      by_cases h2 : d.1 = 2
      · rw [if_pos h2] at h
        have hf : fpB d = false := by
          cases e : fpB d with
          | false => rfl
          | true => rw [e] at h; simp at h
        obtain ⟨h3, h4⟩ := fp hf
        omega
      · rw [if_neg h2] at h; omega
theorem ino_six {d : ID} (h : inoF d = 0) : d.2.2.2.2.length ≤ 6 := by
  unfold inoF at h
  have dp : dpB d = false → d.2.2.2.2.length = 0 := fun hd => by unfold dpB at hd; simp at hd; rw [hd]; rfl
  by_cases h0 : d.1 = 0
  · rw [if_pos h0] at h
    have hd : dpB d = false := by
      cases e : dpB d with
      | false => rfl
      | true => rw [e] at h; simp at h
    have := dp hd
    omega
  · rw [if_neg h0] at h
    by_cases h1 : d.1 = 1
    · rw [if_pos h1] at h
      have hd : dpB d = false := by
        cases e : dpB d with
        | false => rfl
        | true => rw [e] at h; simp at h
      have := dp hd
      omega
    · rw [if_neg h1] at h
      by_cases h2 : d.1 = 2
      · rw [if_pos h2] at h
        by_cases hf : fpB d = true
        · rw [if_pos hf] at h; omega
        · rw [if_neg hf] at h
          unfold dirF at h
          by_cases h6 : 6 < d.2.2.2.2.length
          · rw [if_pos h6] at h; omega
          · omega
      · rw [if_neg h2] at h; omega

theorem lt_of_cell {w : World} {b o : Nat} {v : Value} (h : w.cell? ⟨b, o, none⟩ = some v) : b < w.heap.size := by
  by_cases hb : b < w.heap.size
  · exact hb
  · simp [World.cell?, Array.getElem?_eq_none (Nat.le_of_not_lt hb)] at h
theorem wrap_in (x : Int) (h0 : -9223372036854775808 ≤ x) (h1 : x ≤ 9223372036854775807) : IntKind.i64.wrap x = x := by
  unfold IntKind.wrap
  simp only [IntKind.signed, IntKind.bits]
  simp
  split <;> omega
def m8 (x : Int) : Int := if 8 < x then 8 else x
def putD (f : Nat → Int) (b v : Int) : Nat → Int := fun i => if i = b.toNat then v else f i
/-- How many bytes each block has to hold, behind k blocks of one inode, behind j inodes. -/
def dueK (s : Int) (bs : List Int) (f : Nat → Int) : Nat → Nat → Int
  | 0 => f
  | k + 1 => putD (dueK s bs f k) (bs[k]?.getD 0) (m8 (s - 8 * (k : Int)))
def dueI (ds : List ID) : Nat → Nat → Int
  | 0 => fun _ => 0
  | j + 1 => dueK (ds[j]?.getD id0).2.2.1 (ds[j]?.getD id0).2.2.2.1 (dueI ds j) (ds[j]?.getD id0).2.2.2.1.length
def sizOK (d : FD) (i : Nat) : Bool := decide ((((d.2[i]?.getD []).length : Nat) : Int) = dueI d.1 d.1.length i)
def sizesB (d : FD) : Bool := (List.range 20).all (sizOK d)
theorem sizesB_no {d : FD} {i : Nat} (hi : i < 20) (h : sizOK d i = false) : sizesB d = false := by
  unfold sizesB
  rw [List.all_eq_false]
  exact ⟨i, by simpa using hi, by simp [h]⟩
theorem sizesB_yes {d : FD} (h : ∀ i, i < 20 → sizOK d i = true) : sizesB d = true := by
  unfold sizesB
  rw [List.all_eq_true]
  intro i hi
  exact h i (by simpa using hi)
set_option maxHeartbeats 400000 in
theorem l1Min8_any (w : World) (x : Int) : Calls Tryz.prog 44 #[.int .i64 8, .int .i64 x] w fun e w' => e = .returned (.int .i64 (m8 x)) ∧ w' = w := by
  by_cases h : 8 < x
  · have hd : decide ((8 : Int) < x) = true := by simpa using h
    have HR : Hid (m8 x = 8) := by unfold Hid m8; rw [if_pos h]
    clear h
    go_enter Tryz.func44, Tryz.ntmps44
    go_wp2
    go_ret
    exact ⟨ret_int HR.out.symm, rfl⟩
  · have hd : decide ((8 : Int) < x) = false := by simpa using h
    have HR : Hid (m8 x = x) := by unfold Hid m8; rw [if_neg h]
    clear h
    go_enter Tryz.func44, Tryz.ntmps44
    go_wp2
    go_ret
    exact ⟨ret_int HR.out.symm, rfl⟩
def intF (f : Nat → Int) (i : Nat) : Value := .int .i64 (f i)

set_option maxHeartbeats 6400000 in
theorem l6Sizes_any (w : World) (b o : Nat) (d : FD) (aI : Option Addr) (cI : Nat) (aD : Option Addr) (cD : Nat) (h : FsX w b o d aI cI aD cD) (hn : d.1.length ≤ 10) (h20 : d.2.length = 20) (hi : insF d.1 = 0)
    (hbl : ∀ j k : Nat, j < d.1.length → k < (d.1[j]?.getD id0).2.2.2.1.length → 0 ≤ (d.1[j]?.getD id0).2.2.2.1[k]?.getD 0 ∧ (d.1[j]?.getD id0).2.2.2.1[k]?.getD 0 < 20) :
    Calls Tryz.prog 102 #[.pointer (some ⟨b, o, none⟩)] w fun e w' => e = .returned (.bool (sizesB d)) ∧ Below w.heap.size w w' := by
  have HINO : Hid (∀ j, j < d.1.length → inoF (d.1[j]?.getD id0) = 0) := ins_ino hi
  have HBK : Hid (∀ j k : Nat, j < d.1.length → k < (d.1[j]?.getD id0).2.2.2.1.length → 0 ≤ (d.1[j]?.getD id0).2.2.2.1[k]?.getD 0 ∧ (d.1[j]?.getD id0).2.2.2.1[k]?.getD 0 < 20) := hbl
  obtain ⟨_, _, e1, hm1, hAt⟩ := h.ins.open'
  simp only [Value.slice.injEq] at e1
  obtain ⟨rfl, -, rfl⟩ := e1
  obtain ⟨_, _, e2, hm2, hBt⟩ := h.byt.open'
  simp only [Value.slice.injEq] at e2
  obtain ⟨rfl, -, rfl⟩ := e2
  have c0 := h.c0
  have c1 := h.c1
  rw [h20] at c1 hBt
  have HAT : Hid (AtI w aI d.1.length d.1) := hAt
  have HBT : Hid (AtYs w aD 20 d.2) := hBt
  have HSO : Hid (∀ i, sizOK d i = decide ((((d.2[i]?.getD []).length : Nat) : Int) = dueI d.1 d.1.length i)) := fun i => rfl
  have HD0 : Hid (dueI d.1 0 = fun _ => 0) := rfl
  have HDS : Hid (∀ j, dueI d.1 (j + 1) = dueK (d.1[j]?.getD id0).2.2.1 (d.1[j]?.getD id0).2.2.2.1 (dueI d.1 j) (d.1[j]?.getD id0).2.2.2.1.length) := fun j => rfl
  clear h hi hbl hAt hBt hm1 hm2 h20
  obtain ⟨n, hnn⟩ : ∃ n, d.1.length = n := ⟨_, rfl⟩
  rw [hnn] at HINO HBK c0 HAT HSO hn
  clear hnn
  generalize dueI d.1 = DU at *
  have hmk : ∀ w, (Instr.makeSlice 27 (.int .i64 20) (.int .i64 20)).run Tryz.prog w = _ := fun w => run_make_row' (P := Tryz.prog) 27 2 (.int .i64 0) 8 Tryz.underlying27 Tryz.infoInt rfl .i64 .i64 20 (by omega) (by omega) w
  have HM0 : Hid (OwnRow (w.alloc (.cells (madeCells #[.int .i64 0] 20) 2)) w.heap.size 20 (intF (DU 0))) := by
    unfold Hid
    rw [HD0.out]
    exact OwnRow.made w (.int .i64 0) 20 2
  go_enter Tryz.func102, Tryz.ntmps102
  go_wp2
  clear hmk
  go_loopw [4] (fun i wr => ∃ j : Nat, j ≤ n ∧ i = .int .i64 j ∧ Below w.heap.size w wr ∧ OwnRow wr w.heap.size 20 (intF (DU j))) (fun i _ => n - (intOf i).toNat)
  case atStart => exact ⟨0, Nat.zero_le _, rfl, later1 _ _, HM0.out⟩
  case round =>
    obtain ⟨j, hj, rfl, hbl, hrow⟩ := hrel
    have HBL : Hid (Below w.heap.size w wr) := hbl
    have HROW : Hid (OwnRow wr w.heap.size 20 (intF (DU j))) := hrow
    have c0r := cell_later hbl c0
    have c1r := cell_later hbl c1
    clear hbl hrow HM0
    by_cases hlt : j < n
    · obtain ⟨b0, o0, rfl, hI⟩ := HAT.out j hlt
      obtain ⟨aB, cB, _, _, _, _, k2, k3, _, h5⟩ := hI
      obtain ⟨_, _, e3, hm3, hI1⟩ := h5.2.1.open'
      simp only [Value.slice.injEq] at e3
      obtain ⟨rfl, _, rfl⟩ := e3
      have hsz := ino_size (HINO.out j hlt)
      have hbk := HBK.out j
      have HBKJ : Hid (∀ k, k < (d.1[j]?.getD id0).2.2.2.1.length → 0 ≤ (d.1[j]?.getD id0).2.2.2.1[k]?.getD 0 ∧ (d.1[j]?.getD id0).2.2.2.1[k]?.getD 0 < 20) := fun k hk => hbk k hlt hk
      have HDJ : Hid (DU (j + 1) = dueK (d.1[j]?.getD id0).2.2.1 (d.1[j]?.getD id0).2.2.2.1 (DU j) (d.1[j]?.getD id0).2.2.2.1.length) := HDS.out j
      clear h5 hm3 hbk
      generalize (d.1[j]?.getD id0).2.2.1 = s at *
      generalize (d.1[j]?.getD id0).2.2.2.1 = bs at *
      have HIB : Hid (At1 w aB bs.length (fun k => .int .i64 (bs[k]?.getD 0))) := hI1
      have hb4 : bs.length ≤ 4 := by omega
      obtain ⟨nB, hnB⟩ : ∃ nB, bs.length = nB := ⟨_, rfl⟩
      rw [hnB] at k3 HIB HBKJ HDJ hb4
      clear hI1 hnB
      have HK0 : Hid (dueK s bs (DU j) 0 = DU j) := rfl
      have HKS : Hid (∀ k, dueK s bs (DU j) (k + 1) = putD (dueK s bs (DU j) k) (bs[k]?.getD 0) (m8 (s - 8 * (k : Int)))) := fun k => rfl
      have hs0 := hsz.1
      have hs1 := hsz.2.1
      clear hsz
      generalize dueK s bs (DU j) = DK at *
      have k2r := cell_later HBL.out k2
      have k3r := cell_later HBL.out k3
      go_wp2
      go_loopw [6] (fun i wr => ∃ k : Nat, k ≤ nB ∧ i = .int .i64 k ∧ Below w.heap.size w wr ∧ OwnRow wr w.heap.size 20 (intF (DK k))) (fun i _ => nB - (intOf i).toNat)
      case atStart => exact ⟨0, Nat.zero_le _, rfl, HBL.out, by rw [HK0.out]; exact HROW.out⟩
      case round =>
        obtain ⟨k, hk, rfl, hbl2, hrow2⟩ := hrel
        have HB2 : Hid (Below w.heap.size w wr) := hbl2
        have HROW2 : Hid (OwnRow wr w.heap.size 20 (intF (DK k))) := hrow2
        have k2s := cell_later hbl2 k2
        have k3s := cell_later hbl2 k3
        clear hbl2 hrow2 k2r k3r c0r c1r
        by_cases hlk : k < nB
        · obtain ⟨b1, o1, rfl, p1⟩ := HIB.out k hlk
          replace p1 : w.cell? ⟨b1, o1 + k, none⟩ = some (.int .i64 (bs[k]?.getD 0)) := p1
          have p1r := cell_later HB2.out p1
          have hbr := HBKJ.out k hlk
          have HST : Hid (DK (k + 1) = putD (DK k) (bs[k]?.getD 0) (m8 (s - 8 * (k : Int)))) := HKS.out k
          have hlt1 : b1 < w.heap.size := lt_of_cell p1
          have hlt0 : b0 < w.heap.size := lt_of_cell k2
          generalize bs[k]?.getD 0 = x at *
          obtain ⟨y, rfl⟩ : ∃ y : Nat, x = (y : Int) := ⟨x.toNat, by omega⟩
          have hy : y < 20 := by omega
          have r0 := HROW2.out.cell hy
          have r1 := HROW2.out.frozen y
          have hne0 : w.heap.size ≠ b0 := by omega
          have hne1 : w.heap.size ≠ b1 := by omega
          have HMN : Hid (∀ W, Calls Tryz.prog 44 #[.int .i64 8, .int .i64 (IntKind.i64.wrap (s - IntKind.i64.wrap ((k : Int) * 8)))] W fun e w' => e = .returned (.int .i64 (m8 (s - 8 * (k : Int)))) ∧ w' = W) := fun W => by
            rw [wrap_in ((k : Int) * 8) (by omega) (by omega), wrap_in (s - (k : Int) * 8) (by omega) (by omega), show s - 8 * (k : Int) = s - (k : Int) * 8 by omega]
            exact l1Min8_any W _
          generalize m8 (s - 8 * (k : Int)) = mv at *
          have HROW3 : Hid (∀ q, OwnRow ((wr.drewN q).setCell ⟨w.heap.size, y, none⟩ (.int .i64 mv)) w.heap.size 20 (intF (DK (k + 1)))) := fun q => by
            have := (HROW2.out.later (below_drewN (Below.refl _ _) q)).set y (.int .i64 mv)
            rw [HST.out]
            refine this.congr fun i _ => ?_
            unfold intF putD
            by_cases e : i = y <;> simp [e]
          have HB3 : Hid (∀ q, Below w.heap.size w ((wr.drewN q).setCell ⟨w.heap.size, y, none⟩ (.int .i64 mv))) := fun q => (below_drewN HB2.out q).setCell (by simp) _
          clear HROW2 HST HBKJ HKS HK0 HDJ
          unfold intF at r0
          generalize DK k y = rv at *
          go_wp2_with fail
          go_region_held3 (fun W => W.cell? ⟨b0, o0 + j * 5 + 2, none⟩ = some (.int .i64 s) ∧ W.cell? ⟨b0, o0 + j * 5 + 3, none⟩ = some (.slice (some ⟨b1, o1, none⟩) nB cB) ∧ W.cell? ⟨b1, o1 + k, none⟩ = some (.int .i64 (y : Int))) (go_keep) (first
            | (go_at_call 44; refine (HMN.out _).mono ?_; rintro e w2 ⟨rfl, rfl⟩))
          all_goals
            go_wp2
            go_roundw
            case rel => exact ⟨k + 1, by omega, by go_num, HB3.out _, HROW3.out _⟩
            case measure => simp [intOf]; omega
        · have HE : Hid (DK k = DU (j + 1)) := by unfold Hid; rw [HDJ.out, show k = nB by omega]
          go_wp2
          go_roundw
          case rel => exact ⟨j + 1, by omega, by go_num, HB2.out, by rw [← HE.out]; exact HROW2.out⟩
          case measure => simp [intOf]; omega
    · have HJ : Hid (DU j = DU n) := by unfold Hid; rw [show j = n by omega]
      have HROWN : Hid (OwnRow wr w.heap.size 20 (intF (DU n))) := by rw [← HJ.out]; exact HROW.out
      clear HAT HDS HINO HBK HROW HJ
      obtain ⟨wo, rfl⟩ : ∃ wo, wo = wr := ⟨_, rfl⟩
      go_wp2
      go_loopw [7] (fun i wr => ∃ k m : Nat, k ≤ 20 ∧ i = .int .i64 k ∧ wr = wo.drewN m ∧ ∀ q, q < k → sizOK d q = true) (fun i _ => 20 - (intOf i).toNat)
      case atStart => exact ⟨0, 0, by omega, rfl, rfl, fun q hq => by omega⟩
      case round =>
        obtain ⟨k, m, hk, rfl, rfl, hz⟩ := hrel
        have HZ : Hid (∀ q, q < k → sizOK d q = true) := hz
        clear hz
        by_cases hlk : k < 20
        · obtain ⟨bD, oD, ua, uc, rfl, d0, _⟩ := HBT.out k hlk
          replace d0 := cell_later HBL.out d0
          have r0 := HROWN.out.cell hlk
          have HSK : Hid (sizOK d k = decide ((((d.2[k]?.getD []).length : Nat) : Int) = DU n k)) := HSO.out k
          unfold intF at r0
          have HY : Hid (sizOK d k = true → ∀ q, q < k + 1 → sizOK d q = true) := fun hh q hq => by
            by_cases e : q = k
            · subst e; exact hh
            · exact HZ.out q (by omega)
          have HNO : Hid (sizOK d k = false → sizesB d = false) := fun hh => sizesB_no hlk hh
          generalize (d.2[k]?.getD []).length = ln at *
          generalize DU n k = du at *
          by_cases he : ((ln : Nat) : Int) = du
          · have hb : (((ln : Nat) : Int) != du) = false := by simpa using he
            have HR : Hid (∀ q, q < k + 1 → sizOK d q = true) := HY.out (by rw [HSK.out, decide_eq_true he])
            clear he HSK HY HNO
            go_wp2_with fail
            go_quiet (fail)
            go_wp2
            go_roundw
            case rel => exact ⟨k + 1, _, by omega, by go_num, by first | rfl | rw [World.drewN_drewN], HR.out⟩
            case measure => simp [intOf]; omega
          · have hb : (((ln : Nat) : Int) != du) = true := by simpa using he
            have HR : Hid (sizesB d = false) := HNO.out (by rw [HSK.out, decide_eq_false he])
            clear he HSK HY HNO
            go_wp2_with fail
            go_quiet (fail)
            go_wp2
            go_ret
            exact ⟨ret_bool HR.out.symm, by first | exact below_drewN HBL.out _ | exact below_drewN (below_drewN HBL.out _) _⟩
        · have HR : Hid (sizesB d = true) := sizesB_yes fun i hi => HZ.out i (by omega)
          go_wp2
          go_ret
          exact ⟨ret_bool HR.out.symm, below_drewN HBL.out m⟩
end Go.Proofs.YtjabimfinanjoaaGreat

namespace Go.Proofs.YtjabimfinanjoaaGreat
open Go.RowKit
set_option maxRecDepth 100000

theorem five {α : Type} (c k : Nat) (x0 x1 x2 x3 x4 r : α) : (if c = k + 4 then x4 else if c = k + 3 then x3 else if c = k + 2 then x2 else if c = k + 1 then x1 else if c = k then x0 else r) = (if c = k then x0 else if c = k + 1 then x1 else if c = k + 2 then x2 else if c = k + 3 then x3 else if c = k + 4 then x4 else r) := by
  by_cases h0 : c = k
  · subst h0; simp
  · by_cases h1 : c = k + 1
    · subst h1; simp
    · by_cases h2 : c = k + 2
      · subst h2; simp
      · by_cases h3 : c = k + 3
        · subst h3; simp
        · simp [h0, h1, h2, h3]
/-- Five cells of a row stored one behind the other. -/
def set5F (w : World) (b k : Nat) (x0 x1 x2 x3 x4 : Value) : World := ((((w.setCell ⟨b, k, none⟩ x0).setCell ⟨b, k + 1, none⟩ x1).setCell ⟨b, k + 2, none⟩ x2).setCell ⟨b, k + 3, none⟩ x3).setCell ⟨b, k + 4, none⟩ x4
theorem OwnRow.five {w : World} {b n : Nat} {f : Nat → Value} (h : OwnRow w b n f) (k : Nat) (x0 x1 x2 x3 x4 : Value) : OwnRow (set5F w b k x0 x1 x2 x3 x4) b n (fun c => if c = k then x0 else if c = k + 1 then x1 else if c = k + 2 then x2 else if c = k + 3 then x3 else if c = k + 4 then x4 else f c) :=
  (((((h.set k x0).set (k + 1) x1).set (k + 2) x2).set (k + 3) x3).set (k + 4) x4).congr fun c _ => Go.Proofs.YtjabimfinanjoaaGreat.five c k x0 x1 x2 x3 x4 (f c)
theorem set5_heap (w : World) (b k : Nat) (x0 x1 x2 x3 x4 : Value) (c : Nat) (h : c ≠ b) : (set5F w b k x0 x1 x2 x3 x4).heap[c]? = w.heap[c]? := by
  unfold set5F
  rw [Below.heap_setCell _ _ _ _ h, Below.heap_setCell _ _ _ _ h, Below.heap_setCell _ _ _ _ h, Below.heap_setCell _ _ _ _ h, Below.heap_setCell _ _ _ _ h]
theorem set5_size (w : World) (b k : Nat) (x0 x1 x2 x3 x4 : Value) : (set5F w b k x0 x1 x2 x3 x4).heap.size = w.heap.size := by simp [set5F, World.setCell]
theorem set5_below {w W : World} {B b : Nat} (hB : Below B w W) (h : B ≤ b) (k : Nat) (x0 x1 x2 x3 x4 : Value) : Below B w (set5F W b k x0 x1 x2 x3 x4) := ((((hB.setCell h _).setCell h _).setCell h _).setCell h _).setCell h _
theorem inCell_put (ds : List ID) (U : Nat → Value × Value) (j : Nat) (hj : j < ds.length) (vB vE : Value) (c : Nat) : (if c = j * 5 then .int .i64 (ds[j]?.getD id0).1 else if c = j * 5 + 1 then .int .i64 (ds[j]?.getD id0).2.1 else if c = j * 5 + 2 then .int .i64 (ds[j]?.getD id0).2.2.1 else if c = j * 5 + 3 then vB else if c = j * 5 + 4 then vE else inCell ds U c) = inCell ds (fun i => if i = j then (vB, vE) else U i) c := by
  rw [← inCell_set ds U j hj (ds[j]?.getD id0) vB vE c]
  have e : ds.set j (ds[j]?.getD id0) = ds := by
    rw [List.getElem?_eq_getElem hj, Option.getD_some, List.set_getElem_self]
  rw [e]
/-- What stands at the head of each round: the first j inodes are copies. -/
def CfI (w : World) (d : FD) (n m bI g so lo : Nat) (u0 : Nat → Value × Value) (wr : World) (j : Nat) : Prop :=
  Below w.heap.size w wr ∧ ((w.heap.size + 2 ≤ bI ∧ bI < lo) ∧ (w.heap.size + 2 ≤ so ∧ so < lo) ∧ bI ≠ so ∧ lo ≤ wr.heap.size) ∧ OwnRow wr (w.heap.size + 1) 2 (fun _ => .slice none 0 0) ∧ OwnRow wr so 2 (fun i => if i = 0 then .slice (some ⟨bI, 0, none⟩) n n else .slice (some ⟨g, 0, none⟩) m m) ∧
    BytsO wr (.slice (some ⟨g, 0, none⟩) m m) d.2 (fun c => c ≠ bI ∧ c ≠ so ∧ w.heap.size + 2 ≤ c ∧ c < lo) ∧ ∃ u s, OwnRow wr bI (n * 5) (inCell d.1 (fun i => if i < j then u i else u0 i)) ∧ BuiltI wr lo j u (fun i => d.1[i]?.getD id0) s
theorem CfI.next {w wr W : World} {d : FD} {n m bI g so lo : Nat} {u0 : Nat → Value × Value} {j : Nat} (h : CfI w d n m bI g so lo u0 wr j) (hj : j < d.1.length) (hb : Below wr.heap.size wr W) (vB vE : Value)
    (hv : InoU W (.int .i64 (d.1[j]?.getD id0).1) (.int .i64 (d.1[j]?.getD id0).2.1) (.int .i64 (d.1[j]?.getD id0).2.2.1) vB vE (d.1[j]?.getD id0) (fresh wr W)) :
    CfI w d n m bI g so lo u0 (set5F W bI (j * 5) (.int .i64 (d.1[j]?.getD id0).1) (.int .i64 (d.1[j]?.getD id0).2.1) (.int .i64 (d.1[j]?.getD id0).2.2.1) vB vE) (j + 1) := by
  obtain ⟨h1, h2, h3, h4, h5, u, s, h6, h7⟩ := h
  have hs := hb.size
  refine ⟨set5_below (h1.trans (hb.mono (by omega))) (by omega) _ _ _ _ _ _, ⟨h2.1, h2.2.1, h2.2.2.1, by rw [set5_size]; omega⟩, (h3.later hb).block (set5_heap _ _ _ _ _ _ _ _ _ (by omega)), (h4.later hb).block (set5_heap _ _ _ _ _ _ _ _ _ (by omega)), (h5.later hb).keep fun c hc _ => set5_heap _ _ _ _ _ _ _ _ _ hc.1, fun i => if i = j then (vB, vE) else u i, _, ((h6.later hb).five _ _ _ _ _ _).congr fun c _ => ?_, (h7.next hb hv).keep (by rw [set5_size]; exact Nat.le_refl _) fun c hc _ => set5_heap _ _ _ _ _ _ _ _ _ (by omega)⟩
  rw [inCell_put d.1 _ j hj vB vE c]
  congr 1
  funext i
  by_cases e : i = j
  · subst e; simp
  · by_cases e2 : i < j
    · simp [e, e2, show i < j + 1 by omega]
    · simp [e, e2, show ¬ i < j + 1 by omega]
theorem CfI.fs {w wr : World} {d : FD} {n m bI g so lo : Nat} {u0 : Nat → Value × Value} (h : CfI w d n m bI g so lo u0 wr n) (hn : d.1.length = n) (hm : n ≤ maxLen) : FsU wr (.slice (some ⟨bI, 0, none⟩) n n) (.slice (some ⟨g, 0, none⟩) m m) d (fun c => w.heap.size + 2 ≤ c ∧ c < wr.heap.size) := by
  obtain ⟨h1, h2, h3, h4, h5, u, s, h6, h7⟩ := h
  have hr : OwnRow wr bI (n * 5) (inCell d.1 u) := h6.congr fun c hc => by
    unfold inCell
    dsimp only
    rw [if_pos (show c / 5 < n by omega)]
  refine ⟨fun c => c = bI ∨ (lo ≤ c ∧ c < wr.heap.size), _, BuiltI.inos d.1 h7 hn ⟨hm, Nat.le_refl _⟩ (by omega) hr _ (Or.inl rfl) (fun c hc hc' => Or.inr ⟨hc, hc'⟩), h5, fun b hb hb' => by omega, fun b hb => by omega⟩
theorem CfI.ino {w wr : World} {d : FD} {n m bI g so lo : Nat} {u0 : Nat → Value × Value} {j : Nat} (h : CfI w d n m bI g so lo u0 wr j) (hj : j < n) : wr.cell? ⟨bI, j * 5, none⟩ = some (.int .i64 (d.1[j]?.getD id0).1) ∧ wr.cell? ⟨bI, j * 5 + 1, none⟩ = some (.int .i64 (d.1[j]?.getD id0).2.1) ∧ wr.cell? ⟨bI, j * 5 + 2, none⟩ = some (.int .i64 (d.1[j]?.getD id0).2.2.1) ∧ wr.cell? ⟨bI, j * 5 + 3, none⟩ = some (u0 j).1 ∧ wr.cell? ⟨bI, j * 5 + 4, none⟩ = some (u0 j).2 ∧ ∀ i, wr.frozen? ⟨bI, i, none⟩ = false := by
  obtain ⟨h1, h2, h3, h4, h5, u, s, h6, h7⟩ := h
  have e0 := h6.cell (i := j * 5) (by omega)
  have e1 := h6.cell (i := j * 5 + 1) (by omega)
  have e2 := h6.cell (i := j * 5 + 2) (by omega)
  have e3 := h6.cell (i := j * 5 + 3) (by omega)
  have e4 := h6.cell (i := j * 5 + 4) (by omega)
  rw [inCell_0] at e0
  rw [inCell_1] at e1
  rw [inCell_2] at e2
  rw [inCell_3, if_neg (by omega)] at e3
  rw [inCell_4, if_neg (by omega)] at e4
  exact ⟨e0, e1, e2, e3, e4, h6.frozen⟩
/-- The cells of a list of inodes that can be read, in the form of a row. -/
theorem AtI.row {w : World} {a : Option Addr} {n : Nat} {ds : List ID} (h : AtI w a n ds) : ∃ u : Nat → Value × Value, (∀ i, i < n → ∃ aB cB aE cE, u i = (.slice aB (ds[i]?.getD id0).2.2.2.1.length cB, .slice aE (ds[i]?.getD id0).2.2.2.2.length cE) ∧ InoR w (.int .i64 (ds[i]?.getD id0).1) (.int .i64 (ds[i]?.getD id0).2.1) (.int .i64 (ds[i]?.getD id0).2.2.1) (u i).1 (u i).2 (ds[i]?.getD id0)) ∧
    ∀ c, c < n * 5 → ∃ b off, a = some ⟨b, off, none⟩ ∧ w.cell? ⟨b, off + c, none⟩ = some (inCell ds u c) := by
  have hx : ∀ i, i < n → ∃ q : (Option Addr × Nat) × (Option Addr × Nat), ∃ b o, a = some ⟨b, o, none⟩ ∧ w.cell? ⟨b, o + i * 5, none⟩ = some (.int .i64 (ds[i]?.getD id0).1) ∧ w.cell? ⟨b, o + i * 5 + 1, none⟩ = some (.int .i64 (ds[i]?.getD id0).2.1) ∧ w.cell? ⟨b, o + i * 5 + 2, none⟩ = some (.int .i64 (ds[i]?.getD id0).2.2.1) ∧ w.cell? ⟨b, o + i * 5 + 3, none⟩ = some (.slice q.1.1 (ds[i]?.getD id0).2.2.2.1.length q.1.2) ∧ w.cell? ⟨b, o + i * 5 + 4, none⟩ = some (.slice q.2.1 (ds[i]?.getD id0).2.2.2.2.length q.2.2) ∧
      InoR w (.int .i64 (ds[i]?.getD id0).1) (.int .i64 (ds[i]?.getD id0).2.1) (.int .i64 (ds[i]?.getD id0).2.2.1) (.slice q.1.1 (ds[i]?.getD id0).2.2.2.1.length q.1.2) (.slice q.2.1 (ds[i]?.getD id0).2.2.2.2.length q.2.2) (ds[i]?.getD id0) := fun i hi => by
    obtain ⟨b, o, e, aB, cB, aE, cE, h0, h1, h2, h3, h4, h5⟩ := h i hi
    exact ⟨((aB, cB), (aE, cE)), b, o, e, h0, h1, h2, h3, h4, h5⟩
  obtain ⟨f, hf⟩ := pickQ hx
  refine ⟨fun i => (.slice (f i).1.1 (ds[i]?.getD id0).2.2.2.1.length (f i).1.2, .slice (f i).2.1 (ds[i]?.getD id0).2.2.2.2.length (f i).2.2), fun i hi => ?_, fun c hc => ?_⟩
  · obtain ⟨b, o, e, h0, h1, h2, h3, h4, h5⟩ := hf i hi
    exact ⟨_, _, _, _, rfl, h5⟩
  · obtain ⟨b, o, e, h0, h1, h2, h3, h4, h5⟩ := hf (c / 5) (by omega)
    refine ⟨b, o, e, ?_⟩
    have : c % 5 = 0 ∨ c % 5 = 1 ∨ c % 5 = 2 ∨ c % 5 = 3 ∨ c % 5 = 4 := by omega
    unfold inCell
    rcases this with hc5 | hc5 | hc5 | hc5 | hc5
    · rw [if_pos hc5, show o + c = o + c / 5 * 5 by omega]; exact h0
    · rw [if_neg (by omega), if_pos hc5, show o + c = o + c / 5 * 5 + 1 by omega]; exact h1
    · rw [if_neg (by omega), if_neg (by omega), if_pos hc5, show o + c = o + c / 5 * 5 + 2 by omega]; exact h2
    · rw [if_neg (by omega), if_neg (by omega), if_neg (by omega), if_pos hc5, show o + c = o + c / 5 * 5 + 3 by omega]; exact h3
    · rw [if_neg (by omega), if_neg (by omega), if_neg (by omega), if_neg (by omega), show o + c = o + c / 5 * 5 + 4 by omega]; exact h4
end Go.Proofs.YtjabimfinanjoaaGreat

namespace Go.Proofs.YtjabimfinanjoaaGreat
open Go.RowKit
set_option maxRecDepth 100000

theorem two0 (W : World) (t : TypeId) : OwnRow (W.alloc (.cells #[.slice none 0 0, .slice none 0 0] t)) W.heap.size 2 (fun _ => .slice none 0 0) := (OwnRow.two W (.slice none 0 0) (.slice none 0 0) t).congr fun i _ => by simp
theorem field_rackY (a : Option Addr) (n c : Nat) (w : World) : (Instr.field 110 (.agg #[.slice a n c]) 0).run Tryz.prog w = .ok (.slice a n c) w := by kernel_rfl
set_option maxHeartbeats 64000000 in
theorem copyOfFs_any (w : World) (a1 : Option Addr) (n1 c1 : Nat) (a2 : Option Addr) (n2 c2 : Nat) (d : FD) (h : FsR w (.slice a1 n1 c1) (.slice a2 n2 c2) d) (hs : sizeFs d ≤ 1048576) (h60 : d.2.length ≤ 60) :
    Calls Tryz.prog 49 #[.agg #[.slice a1 n1 c1, .slice a2 n2 c2]] w (AnsFs w d) := by
  obtain ⟨_, _, e1, hm1, hAt⟩ := h.1.open'
  obtain ⟨_, _, e2, hm2, hBt⟩ := h.2.open'
  simp only [Value.slice.injEq] at e1 e2
  obtain ⟨rfl, rfl, rfl⟩ := e1
  obtain ⟨rfl, rfl, rfl⟩ := e2
  obtain ⟨u0, hu0, hrow0⟩ := hAt.row
  have hsz : d.1.length + (isz d.1).sum + (d.2.length + (ylens d.2).sum) ≤ 1048576 := hs
  have HSI : Hid (∀ k : Nat, sizeIno (d.1[k]?.getD id0) ≤ 1048576) := fun k => by
    have := isz_le d.1 k
    omega
  have HU0 : Hid (∀ i, i < d.1.length → ∃ aB cB aE cE, u0 i = (.slice aB (d.1[i]?.getD id0).2.2.2.1.length cB, .slice aE (d.1[i]?.getD id0).2.2.2.2.length cE) ∧ InoR w (.int .i64 (d.1[i]?.getD id0).1) (.int .i64 (d.1[i]?.getD id0).2.1) (.int .i64 (d.1[i]?.getD id0).2.2.1) (u0 i).1 (u0 i).2 (d.1[i]?.getD id0)) := hu0
  have hn1 : d.1.length ≤ 1048576 := by omega
  have hmx : d.1.length ≤ maxLen := hm1.1
  have HMX : Hid (d.1.length ≤ maxLen) := hmx
  have HCI : Hid (∀ W, Below w.heap.size w W → Calls Tryz.prog 73 #[.slice a1 d.1.length c1] W fun e w' => ∃ bI, e = .returned (.slice (some ⟨bI, 0, none⟩) d.1.length d.1.length) ∧ bI = W.heap.size ∧ Below W.heap.size W w' ∧ OwnRow w' bI (d.1.length * 5) (inCell d.1 u0)) := fun W hW => (copyOfI_any d.1 u0 hn1 (fun i hi => by
    obtain ⟨aB, cB, aE, cE, e, _⟩ := hu0 i hi
    rw [e]
    exact ⟨rfl, rfl⟩) (fun c hc => by
    obtain ⟨b, off, e, hcell⟩ := hrow0 c hc
    exact ⟨b, off, e, cell_later hW hcell⟩)).mono fun _ _ ⟨h1, h2, h3⟩ => ⟨_, h1, rfl, h2, h3⟩
  have HCY : Hid (∀ W, Below w.heap.size w W → Calls Tryz.prog 74 #[.slice a2 d.2.length c2] W fun e w' => ∃ g, e = .returned (.agg #[.slice (some ⟨g, 0, none⟩) d.2.length d.2.length]) ∧ Below W.heap.size W w' ∧ BytsO w' (.slice (some ⟨g, 0, none⟩) d.2.length d.2.length) d.2 (fresh W w')) := fun W hW => rackOfY_walk W a2 d.2.length c2 d.2 rfl h60 (fun k hk => by have := ylens_le d.2 k; omega) (hBt.later hW)
  have HB0 : Hid (Below w.heap.size w ((w.alloc (.cells #[.slice a1 d.1.length c1, .slice a2 d.2.length c2] 31)).alloc (.cells #[.slice none 0 0, .slice none 0 0] 31))) := later2 _ _ _
  have hz0 : ((w.alloc (.cells #[.slice a1 d.1.length c1, .slice a2 d.2.length c2] 31)).alloc (.cells #[.slice none 0 0, .slice none 0 0] 31)).heap.size = w.heap.size + 2 := by simp
  have HBX : Hid (Bx ((w.alloc (.cells #[.slice a1 d.1.length c1, .slice a2 d.2.length c2] 31)).alloc (.cells #[.slice none 0 0, .slice none 0 0] 31)) w.heap.size [.slice a1 d.1.length c1, .slice a2 d.2.length c2]) := (Bx.new w [.slice a1 d.1.length c1, .slice a2 d.2.length c2] _).later (later1 _ _)
  have HRS : Hid (OwnRow ((w.alloc (.cells #[.slice a1 d.1.length c1, .slice a2 d.2.length c2] 31)).alloc (.cells #[.slice none 0 0, .slice none 0 0] 31)) (w.heap.size + 1) 2 (fun _ => .slice none 0 0)) := by
    have p2 := OwnRow.two (w.alloc (.cells #[.slice a1 d.1.length c1, .slice a2 d.2.length c2] 31)) (.slice none 0 0) (.slice none 0 0) 31
    rw [World.size_alloc] at p2
    exact p2.congr fun i _ => by simp
  obtain ⟨n, hn⟩ : ∃ n, d.1.length = n := ⟨_, rfl⟩
  obtain ⟨m, hm⟩ : ∃ m, d.2.length = m := ⟨_, rfl⟩
  have HN : Hid (d.1.length = n) := hn
  rw [hn, hm] at HB0 HBX HRS hz0 ⊢
  rw [hn] at HCI hn1 HMX HU0
  rw [hm] at HCY
  have hf := fun a c w => field_rackY a m c w
  clear h hs hsz hAt hBt hm1 hm2 hn hm hu0 hrow0 h60 hmx
  go_enter Tryz.func49, Tryz.ntmps49
  go_wp2_with fail
  generalize ((w.alloc (.cells #[.slice a1 n c1, .slice a2 m c2] 31)).alloc (.cells #[.slice none 0 0, .slice none 0 0] 31)) = W0 at *
  have x0 := HBX.out 0 _ rfl
  have x1 := HBX.out 1 _ rfl
  have hw0 : w.heap.size < W0.heap.size := by omega
  have HZ0 : Hid (W0.heap.size = w.heap.size + 2) := hz0
  clear hz0
  go_region_with (first
    | (have h0 := HB0.out; clear HB0; go_at_call 73
       refine (HCI.out _ (by first | exact h0.drew | exact (h0.trans ((later1 _ _).mono h0.size)).drew)).mono ?_; rintro e v1 ⟨bI, rfl, ebI, hb, hr⟩
       have HV1 : Hid (Below W0.heap.size W0 v1) := by first | exact (Below.refl _ _).drew.trans hb | exact ((later1 _ _).drew).trans (hb.mono (by simp))
       try (have HZ1 : Hid (OwnRow v1 W0.heap.size 2 (fun _ => .slice none 0 0)) := OwnRow.later (two0 _ _) ((Below.refl _ _).drew.trans hb))
       simp at ebI
       first | (have HEB : Hid (bI = W0.heap.size) := ebI) | (have HEB : Hid (bI = W0.heap.size + 1) := ebI)
       clear ebI
       have HI1 : Hid (OwnRow v1 bI (n * 5) (inCell d.1 u0)) := hr
       have HW1 : Hid (Below w.heap.size w v1) := h0.trans (HV1.out.mono h0.size)
       have y1 := cell_later HV1.out x1
       have y0' := cell_later HV1.out x0
       have hwv : w.heap.size < v1.heap.size := Nat.lt_of_lt_of_le hw0 HV1.out.size
       have HVL : Hid (W0.heap.size ≤ v1.heap.size ∧ bI < v1.heap.size) := ⟨HV1.out.size, HI1.out.lt⟩
       clear hb hr h0)
    | (have h0 := HB0.out; clear HB0; go_at_call 74
       refine (HCY.out _ (by first | exact h0.drew | exact (h0.trans ((later1 _ _).mono h0.size)).drew)).mono ?_; rintro e v1 ⟨g, rfl, hb, hy⟩
       have HV1 : Hid (Below W0.heap.size W0 v1) := by first | exact (Below.refl _ _).drew.trans hb | exact ((later1 _ _).drew).trans (hb.mono (by simp))
       try (have HZ1 : Hid (OwnRow v1 W0.heap.size 2 (fun _ => .slice none 0 0)) := OwnRow.later (two0 _ _) ((Below.refl _ _).drew.trans hb))
       have HY1 : Hid (∃ lY hY, BytsO v1 (.slice (some ⟨g, 0, none⟩) m m) d.2 (fun c => lY ≤ c ∧ c < hY) ∧ hY = v1.heap.size ∧ W0.heap.size ≤ lY ∧ (lY = W0.heap.size ∨ lY = W0.heap.size + 1)) := ⟨_, _, hy, rfl, by simp, by simp⟩
       try (have HY1C : Hid (BytsO v1 (.slice (some ⟨g, 0, none⟩) m m) d.2 (fun c => W0.heap.size + 1 ≤ c ∧ c < v1.heap.size)) := hy.mono fun c hc => ⟨by have := hc.1; simp at this; omega, hc.2⟩)
       have HW1 : Hid (Below w.heap.size w v1) := h0.trans (HV1.out.mono h0.size)
       have y0 := cell_later HV1.out x0
       have y1' := cell_later HV1.out x1
       have hwv : w.heap.size < v1.heap.size := Nat.lt_of_lt_of_le hw0 HV1.out.size
       have HVL : Hid (W0.heap.size ≤ v1.heap.size) := HV1.out.size
       clear hb hy h0)
    | (have h1 := HI1.out; clear HI1; go_at_call 74
       refine (HCY.out _ (by first | exact HW1.out | exact HW1.out.trans ((later1 _ _).mono HW1.out.size))).mono ?_; rintro e v2 ⟨g, rfl, hb, hy⟩
       have HVV : Hid (Below v1.heap.size v1 v2) := by first | exact hb | exact (later1 _ _).trans (hb.mono (by simp))
       try (have HZ2 : Hid (OwnRow v2 v1.heap.size 2 (fun _ => .slice none 0 0)) := OwnRow.later (two0 _ _) hb)
       try (have HZ2 : Hid (OwnRow v2 W0.heap.size 2 (fun _ => .slice none 0 0)) := HZ1.out.later HVV.out)
       try (have zc0 := HZ2.out.cell (i := 0) (by omega); have zc1 := HZ2.out.cell (i := 1) (by omega); have zf0 := HZ2.out.frozen 0; have zf1 := HZ2.out.frozen 1; have zl := HZ2.out.lt)
       have HRI : Hid (OwnRow v2 bI (n * 5) (inCell d.1 u0)) := h1.later HVV.out
       have HYI : Hid (∃ lY hY, BytsO v2 (.slice (some ⟨g, 0, none⟩) m m) d.2 (fun c => lY ≤ c ∧ c < hY) ∧ hY = v2.heap.size ∧ v1.heap.size ≤ lY ∧ (lY = v1.heap.size ∨ lY = v1.heap.size + 1)) := ⟨_, _, hy, rfl, by simp, by simp⟩
       try (have HYP : Hid (BytsO v2 (.slice (some ⟨g, 0, none⟩) m m) d.2 (fun c => v1.heap.size + 1 ≤ c ∧ c < v2.heap.size)) := hy.mono fun c hc => ⟨by have := hc.1; simp at this; omega, hc.2⟩)
       clear hb hy h1)
    | (have h1 := HY1.out; clear HY1; go_at_call 73
       refine (HCI.out _ (by first | exact HW1.out | exact HW1.out.trans ((later1 _ _).mono HW1.out.size))).mono ?_; rintro e v2 ⟨bI, rfl, ebI, hb, hr⟩
       have HVV : Hid (Below v1.heap.size v1 v2) := by first | exact hb | exact (later1 _ _).trans (hb.mono (by simp))
       try (have HZ2 : Hid (OwnRow v2 v1.heap.size 2 (fun _ => .slice none 0 0)) := OwnRow.later (two0 _ _) hb)
       try (have HZ2 : Hid (OwnRow v2 W0.heap.size 2 (fun _ => .slice none 0 0)) := HZ1.out.later HVV.out)
       try (have zc0 := HZ2.out.cell (i := 0) (by omega); have zc1 := HZ2.out.cell (i := 1) (by omega); have zf0 := HZ2.out.frozen 0; have zf1 := HZ2.out.frozen 1; have zl := HZ2.out.lt)
       simp at ebI
       first | (have HEB : Hid (bI = v1.heap.size) := ebI) | (have HEB : Hid (bI = v1.heap.size + 1) := ebI)
       clear ebI
       have HRI : Hid (OwnRow v2 bI (n * 5) (inCell d.1 u0)) := hr
       have HYI : Hid (∃ lY hY, BytsO v2 (.slice (some ⟨g, 0, none⟩) m m) d.2 (fun c => lY ≤ c ∧ c < hY) ∧ hY = v1.heap.size ∧ W0.heap.size ≤ lY ∧ (lY = W0.heap.size ∨ lY = W0.heap.size + 1)) := by
         obtain ⟨lY, hY, hy, e1, e2, e3⟩ := h1
         exact ⟨lY, hY, hy.later HVV.out, e1, e2, e3⟩
       try (have HYP : Hid (BytsO v2 (.slice (some ⟨g, 0, none⟩) m m) d.2 (fun c => W0.heap.size + 1 ≤ c ∧ c < v1.heap.size)) := HY1C.out.later HVV.out)
       clear hb hr h1))
  all_goals
    have hrl := HRI.out.lt
    obtain ⟨lY, hY, hyI, el1, el2, el3⟩ := HYI.out
    have HW2 : Hid (Below w.heap.size w v2) := HW1.out.trans (HVV.out.mono HW1.out.size)
    have HR2 : Hid (OwnRow v2 (w.heap.size + 1) 2 (fun _ => .slice none 0 0)) := (HRS.out.later HV1.out).later HVV.out
  all_goals
    have k0 := HEB.out
    have k1 := HVL.out
    have k2 := HZ0.out
    have k3 := HVV.out.size
    first
      | (have HST : Hid (CfI w d n m bI g v1.heap.size (v2.heap.size) u0 ((v2.setCell ⟨v1.heap.size, 0, none⟩ (.slice (some ⟨bI, 0, none⟩) n n)).setCell ⟨v1.heap.size, 1, none⟩ (.slice (some ⟨g, 0, none⟩) m m)) 0) := by
           first
           | exact ⟨(HW2.out.setCell (by simp; omega) _).setCell (by simp; omega) _, ⟨⟨by omega, by omega⟩, ⟨by omega, by omega⟩, by omega, by simp [World.setCell]⟩, (HR2.out.store (by simp; omega) _).store (by simp; omega) _, ((HZ2.out.set 0 _).set 1 _).congr fun i hi => by rcases (show i = 0 ∨ i = 1 by omega) with rfl | rfl <;> rfl, ((HYP.out.keep fun b hb _ => by rw [Below.heap_setCell _ _ _ _ (by simp; omega), Below.heap_setCell _ _ _ _ (by simp; omega)])).mono fun c hc => ⟨by omega, by omega, by omega, by omega⟩, fun _ => (.slice none 0 0, .slice none 0 0), _, ((HRI.out.store (by simp; omega) _).store (by simp; omega) _).congr fun c _ => by simp, BuiltI.nil _ _ (by simp [World.setCell])⟩
           | exact ⟨(HW2.out.setCell (by simp; omega) _).setCell (by simp; omega) _, ⟨⟨by omega, by omega⟩, ⟨by omega, by omega⟩, by omega, by simp [World.setCell]⟩, (HR2.out.store (by simp; omega) _).store (by simp; omega) _, ((HZ2.out.set 0 _).set 1 _).congr fun i hi => by rcases (show i = 0 ∨ i = 1 by omega) with rfl | rfl <;> rfl, ((hyI.keep fun b hb _ => by rw [Below.heap_setCell _ _ _ _ (by simp; omega), Below.heap_setCell _ _ _ _ (by simp; omega)])).mono fun c hc => ⟨by omega, by omega, by omega, by omega⟩, fun _ => (.slice none 0 0, .slice none 0 0), _, ((HRI.out.store (by simp; omega) _).store (by simp; omega) _).congr fun c _ => by simp, BuiltI.nil _ _ (by simp [World.setCell])⟩
         obtain ⟨lo, HST⟩ : ∃ lo, Hid (CfI w d n m bI g v1.heap.size lo u0 ((v2.setCell ⟨v1.heap.size, 0, none⟩ (.slice (some ⟨bI, 0, none⟩) n n)).setCell ⟨v1.heap.size, 1, none⟩ (.slice (some ⟨g, 0, none⟩) m m)) 0) := ⟨_, HST⟩
         clear hyI el1 el2 el3 HEB HVL HZ0 hrl HYI HRI HR2 HW2 HVV HV1 HRS HBX HCI HCY
         generalize (v2.setCell ⟨v1.heap.size, 0, none⟩ (.slice (some ⟨bI, 0, none⟩) n n)).setCell ⟨v1.heap.size, 1, none⟩ (.slice (some ⟨g, 0, none⟩) m m) = W5 at *
         generalize v1.heap.size = so at *)
      | (have HST : Hid (CfI w d n m bI g W0.heap.size (v2.heap.size) u0 ((v2.setCell ⟨W0.heap.size, 0, none⟩ (.slice (some ⟨bI, 0, none⟩) n n)).setCell ⟨W0.heap.size, 1, none⟩ (.slice (some ⟨g, 0, none⟩) m m)) 0) := by
           first
           | exact ⟨(HW2.out.setCell (by simp; omega) _).setCell (by simp; omega) _, ⟨⟨by omega, by omega⟩, ⟨by omega, by omega⟩, by omega, by simp [World.setCell]⟩, (HR2.out.store (by simp; omega) _).store (by simp; omega) _, ((HZ2.out.set 0 _).set 1 _).congr fun i hi => by rcases (show i = 0 ∨ i = 1 by omega) with rfl | rfl <;> rfl, ((HYP.out.keep fun b hb _ => by rw [Below.heap_setCell _ _ _ _ (by simp; omega), Below.heap_setCell _ _ _ _ (by simp; omega)])).mono fun c hc => ⟨by omega, by omega, by omega, by omega⟩, fun _ => (.slice none 0 0, .slice none 0 0), _, ((HRI.out.store (by simp; omega) _).store (by simp; omega) _).congr fun c _ => by simp, BuiltI.nil _ _ (by simp [World.setCell])⟩
           | exact ⟨(HW2.out.setCell (by simp; omega) _).setCell (by simp; omega) _, ⟨⟨by omega, by omega⟩, ⟨by omega, by omega⟩, by omega, by simp [World.setCell]⟩, (HR2.out.store (by simp; omega) _).store (by simp; omega) _, ((HZ2.out.set 0 _).set 1 _).congr fun i hi => by rcases (show i = 0 ∨ i = 1 by omega) with rfl | rfl <;> rfl, ((hyI.keep fun b hb _ => by rw [Below.heap_setCell _ _ _ _ (by simp; omega), Below.heap_setCell _ _ _ _ (by simp; omega)])).mono fun c hc => ⟨by omega, by omega, by omega, by omega⟩, fun _ => (.slice none 0 0, .slice none 0 0), _, ((HRI.out.store (by simp; omega) _).store (by simp; omega) _).congr fun c _ => by simp, BuiltI.nil _ _ (by simp [World.setCell])⟩
         obtain ⟨lo, HST⟩ : ∃ lo, Hid (CfI w d n m bI g W0.heap.size lo u0 ((v2.setCell ⟨W0.heap.size, 0, none⟩ (.slice (some ⟨bI, 0, none⟩) n n)).setCell ⟨W0.heap.size, 1, none⟩ (.slice (some ⟨g, 0, none⟩) m m)) 0) := ⟨_, HST⟩
         clear hyI el1 el2 el3 HEB HVL HZ0 hrl HYI HRI HR2 HW2 HVV HV1 HRS HBX HCI HCY
         generalize (v2.setCell ⟨W0.heap.size, 0, none⟩ (.slice (some ⟨bI, 0, none⟩) n n)).setCell ⟨W0.heap.size, 1, none⟩ (.slice (some ⟨g, 0, none⟩) m m) = W5 at *
         generalize W0.heap.size = so at *)
      | (have HST : Hid (CfI w d n m bI g v2.heap.size (v2.heap.size + 1) u0 (v2.alloc (.cells #[.slice (some ⟨bI, 0, none⟩) n n, .slice (some ⟨g, 0, none⟩) m m] 31)) 0) := by
           first
           | exact ⟨HW2.out.trans ((later1 _ _).mono HW2.out.size), ⟨⟨by omega, by omega⟩, ⟨by omega, by omega⟩, by omega, by simp⟩, HR2.out.later (later1 _ _), OwnRow.two _ _ _ _, ((hyI.later (later1 _ _))).mono fun c hc => ⟨by omega, by omega, by omega, by omega⟩, fun _ => (.slice none 0 0, .slice none 0 0), _, (HRI.out.later (later1 _ _)).congr fun c _ => by simp, BuiltI.nil _ _ (by simp)⟩
         obtain ⟨lo, HST⟩ : ∃ lo, Hid (CfI w d n m bI g v2.heap.size lo u0 (v2.alloc (.cells #[.slice (some ⟨bI, 0, none⟩) n n, .slice (some ⟨g, 0, none⟩) m m] 31)) 0) := ⟨_, HST⟩
         clear hyI el1 el2 el3 HEB HVL HZ0 hrl HYI HRI HR2 HW2 HVV HV1 HRS HBX HCI HCY
         generalize v2.alloc (.cells #[.slice (some ⟨bI, 0, none⟩) n n, .slice (some ⟨g, 0, none⟩) m m] 31) = W5 at *
         generalize v2.heap.size = so at *)
    have ho0 : W5.cell? ⟨so, 0, none⟩ = some (.slice (some ⟨bI, 0, none⟩) n n) := HST.out.2.2.2.1.cell (i := 0) (by omega)
    clear k0 k1 k2 k3
    go_wp2_with fail
    go_loopw [17] (fun i wr => ∃ j : Nat, j ≤ n ∧ i = .int .i64 j ∧ CfI w d n m bI g so lo u0 wr j) (fun i _ => n - (intOf i).toNat)
    case atStart => exact ⟨0, Nat.zero_le _, rfl, HST.out⟩
    case round =>
      clear HST
      obtain ⟨j, hj, rfl, hc⟩ := hrel
      have HC : Hid (CfI w d n m bI g so lo u0 wr j) := hc
      have hl := hc.2.1
      have hl1 : so < wr.heap.size := by omega
      have hl2 : bI < wr.heap.size := by omega
      have o0 : wr.cell? ⟨so, 0, none⟩ = some (.slice (some ⟨bI, 0, none⟩) n n) := hc.2.2.2.1.cell (i := 0) (by omega)
      by_cases hlt : j < n
      · obtain ⟨i0, i1, i2, i3, i4, i5⟩ := hc.ino hlt
        obtain ⟨aB, cB, aE, cE, eu, hir⟩ := HU0.out j hlt
        rw [eu] at i3 i4 hir
        have i50 := i5 (j * 5)
        have i51 := i5 (j * 5 + 1)
        have i52 := i5 (j * 5 + 2)
        have i53 := i5 (j * 5 + 3)
        have i54 := i5 (j * 5 + 4)
        have HCN : Hid (∀ W, Below wr.heap.size wr W → Calls Tryz.prog 75 #[.agg #[.int .i64 (d.1[j]?.getD id0).1, .int .i64 (d.1[j]?.getD id0).2.1, .int .i64 (d.1[j]?.getD id0).2.2.1, .slice aB (d.1[j]?.getD id0).2.2.2.1.length cB, .slice aE (d.1[j]?.getD id0).2.2.2.2.length cE]] W (AnsIno W (d.1[j]?.getD id0))) := fun W hW => copyOfInode_any W aB _ cB aE _ cE _ ((hir.later hc.1).later hW) (HSI.out j)
        have HNX : Hid (∀ W vB vE, Below wr.heap.size wr W → InoU W (.int .i64 (d.1[j]?.getD id0).1) (.int .i64 (d.1[j]?.getD id0).2.1) (.int .i64 (d.1[j]?.getD id0).2.2.1) vB vE (d.1[j]?.getD id0) (fresh wr W) → CfI w d n m bI g so lo u0 (set5F W bI (j * 5) (.int .i64 (d.1[j]?.getD id0).1) (.int .i64 (d.1[j]?.getD id0).2.1) (.int .i64 (d.1[j]?.getD id0).2.2.1) vB vE) (j + 1)) := fun W vB vE hW hv => hc.next (by rw [HN.out]; exact hlt) hW vB vE hv
        clear hc hir i5 eu HSI HU0
        obtain ⟨x, hx⟩ : ∃ x, d.1[j]?.getD id0 = x := ⟨_, rfl⟩
        rw [hx] at i0 i1 i2 i3 i4 HCN HNX
        clear hx
        obtain ⟨z0, z1, z2, zb, ze⟩ := x
        dsimp only at i0 i1 i2 i3 i4 HCN HNX
        have hne1 : so ≠ bI := by omega
        have hne2 : bI ≠ so := by omega
        have hne3 : wr.heap.size ≠ bI := by omega
        have hne4 : bI ≠ wr.heap.size := by omega
        generalize zb.length = lB at *
        generalize ze.length = lE at *
        go_wp2_with fail
        go_region_held3 (fun W => W.cell? ⟨so, 0, none⟩ = some (.slice (some ⟨bI, 0, none⟩) n n) ∧ W.cell? ⟨wr.heap.size, 0, none⟩ = some (.int .i64 z0) ∧ W.cell? ⟨wr.heap.size, 1, none⟩ = some (.int .i64 z1) ∧ W.cell? ⟨wr.heap.size, 2, none⟩ = some (.int .i64 z2) ∧ W.cell? ⟨wr.heap.size, 3, none⟩ = some (.slice aB lB cB) ∧ W.cell? ⟨wr.heap.size, 4, none⟩ = some (.slice aE lE cE)) (go_keep) (first
          | (go_at_call 75; refine (HCN.out _ (later1 _ _).drew).mono ?_; rintro e v3 ⟨b1, m1, e1, b2, m2, e2, rfl, hb, ho⟩
             have HB3 : Hid (Below wr.heap.size wr v3) := ((later1 wr _).drew).trans (hb.mono (by simp [World.drew]))
             have hX3 : Bx v3 wr.heap.size [.int .i64 z0, .int .i64 z1, .int .i64 z2, .slice aB lB cB, .slice aE lE cE] := ((Bx.new wr [.int .i64 z0, .int .i64 z1, .int .i64 z2, .slice aB lB cB, .slice aE lE cE] _).later (Below.refl _ _).drew).later hb
             have g0 := hX3 0 _ rfl
             have g1 := hX3 1 _ rfl
             have g2 := hX3 2 _ rfl
             have g3 := hX3 3 _ rfl
             have g4 := hX3 4 _ rfl
             have k0 := cell_later HB3.out o0
             have k1 := cell_later HB3.out i0
             have k2 := cell_later HB3.out i1
             have k3 := cell_later HB3.out i2
             have k4 := cell_later HB3.out i3
             have k5 := cell_later HB3.out i4
             have f0 := (HB3.out.frozen (p := ⟨bI, j * 5, none⟩) hl2).trans i50
             have f1 := (HB3.out.frozen (p := ⟨bI, j * 5 + 1, none⟩) hl2).trans i51
             have f2 := (HB3.out.frozen (p := ⟨bI, j * 5 + 2, none⟩) hl2).trans i52
             have f3 := (HB3.out.frozen (p := ⟨bI, j * 5 + 3, none⟩) hl2).trans i53
             have f4 := (HB3.out.frozen (p := ⟨bI, j * 5 + 4, none⟩) hl2).trans i54
             have HNN : Hid (CfI w d n m bI g so lo u0 (set5F v3 bI (j * 5) (.int .i64 z0) (.int .i64 z1) (.int .i64 z2) (.slice b1 m1 e1) (.slice b2 m2 e2)) (j + 1)) := HNX.out v3 _ _ HB3.out (ho.mono fun c hc => ⟨by have := hc.1; simp [World.drew] at this; omega, hc.2⟩)
             clear hb ho)
          | fail)
        all_goals
          clear HCN HNX
          go_wp2
          go_roundw
          case rel => exact ⟨j + 1, by omega, by go_num, HNN.out⟩
          case measure => simp [intOf]; omega
      · have e : j = n := by omega
        subst e
        have HFS : Hid (FsU wr (.slice (some ⟨bI, 0, none⟩) j j) (.slice (some ⟨g, 0, none⟩) m m) d (fun c => w.heap.size + 2 ≤ c ∧ c < wr.heap.size)) := hc.fs HN.out HMX.out
        have HBW : Hid (Below w.heap.size w wr) := hc.1
        have o1 : wr.cell? ⟨so, 1, none⟩ = some (.slice (some ⟨g, 0, none⟩) m m) := hc.2.2.2.1.cell (i := 1) (by omega)
        have hrr := hc.2.2.1
        have t0 := hrr.cell (i := 0) (by omega)
        have t1 := hrr.cell (i := 1) (by omega)
        have s0 := hrr.frozen 0
        have s1 := hrr.frozen 1
        clear hc hrr HC
        go_wp2
        refine bodyPost_ret (v := .agg #[.slice (some ⟨bI, 0, none⟩) j j, .slice (some ⟨g, 0, none⟩) m m]) (by simp [results, Tryz.results49, go_sem, t0, t1]) rfl ⟨_, _, _, _, _, _, rfl, (HBW.out.setCell (by simp) _).setCell (by simp) _, (HFS.out.keep fun b hb _ => ?_).mono fun b hb => ?_⟩
        · rw [Below.heap_setCell _ _ _ _ (by simp; omega), Below.heap_setCell _ _ _ _ (by simp; omega)]
        · unfold fresh
          simp only [World.setCell, Array.size_modify]
          omega
end Go.Proofs.YtjabimfinanjoaaGreat

namespace Go.Proofs.YtjabimfinanjoaaGreat
open Go.RowKit
set_option maxRecDepth 100000

set_option maxHeartbeats 800000 in
theorem inodesFault_many (w : World) (a : Option Addr) (n c : Nat) (hn : 10 < n) :
    Calls Tryz.prog 69 #[.slice a n c] w fun e w' => e = .returned (.int .i64 2) ∧ w' = w := by
  have h6 : decide ((10 : Int) < (n : Int)) = true := by simp; omega
  go_enter Tryz.func69, Tryz.ntmps69
  go_wp2
  go_ret
  exact ⟨rfl, rfl⟩

set_option maxHeartbeats 1600000 in
theorem inodesFault_walk (w : World) (a : Option Addr) (n c : Nat) (ds : List ID) (hn : n ≤ 10) (hdn : ds.length = n) (hz : ∀ k : Nat, sizeIno (ds[k]?.getD id0) ≤ 1048576) (hc : AtI w a n ds) :
    Calls Tryz.prog 69 #[.slice a n c] w fun e w' => e = .returned (.int .i64 (fstNZ (fun i => inoF (ds[i]?.getD id0)) ds.length)) ∧ Below w.heap.size w w' := by
  have HC : Hid (AtI w a n ds) := hc
  have HN : Hid (ds.length = n) := hdn
  have HSZ : Hid (∀ k : Nat, sizeIno (ds[k]?.getD id0) ≤ 1048576) := hz
  have h6 : decide ((10 : Int) < (n : Int)) = false := by simp; omega
  clear hc hdn hz
  go_enter Tryz.func69, Tryz.ntmps69
  go_wp2
  go_loopw [11] (fun i wr => ∃ j : Nat, j ≤ n ∧ i = .int .i64 j ∧ Below w.heap.size w wr ∧ ∀ i : Nat, i < j → inoF (ds[i]?.getD id0) = 0) (fun i _ => n - (intOf i).toNat)
  case atStart => exact ⟨0, Nat.zero_le _, rfl, Below.refl _ _, fun i hi => by omega⟩
  case round =>
    obtain ⟨j, hj, rfl, hbl, hz⟩ := hrel
    have HZ : Hid (∀ i : Nat, i < j → inoF (ds[i]?.getD id0) = 0) := hz
    have HBL : Hid (Below w.heap.size w wr) := hbl
    clear hz hbl
    by_cases hlt : j < n
    · obtain ⟨b, o, rfl, hI⟩ := HC.out j hlt
      obtain ⟨aB, cB, aE, cE, c0, c1, c2, c3, c4, hR⟩ := hI.later HBL.out
      have HF : Hid (∀ W, Below wr.heap.size wr W → Calls Tryz.prog 93 #[.agg #[.int .i64 (ds[j]?.getD id0).1, .int .i64 (ds[j]?.getD id0).2.1, .int .i64 (ds[j]?.getD id0).2.2.1, .slice aB (ds[j]?.getD id0).2.2.2.1.length cB, .slice aE (ds[j]?.getD id0).2.2.2.2.length cE]] W fun e w' => e = .returned (.int .i64 (inoF (ds[j]?.getD id0))) ∧ Below W.heap.size W w') := fun W hW => implInoU W _ _ _ aB _ cB aE _ cE (ds[j]?.getD id0) (hR.later hW) (HSZ.out j)
      clear hI hR
      have HR : Hid (inoF (ds[j]?.getD id0) = 0 → (∀ i : Nat, i < j + 1 → inoF (ds[i]?.getD id0) = 0)) := fun h i hi => by
        by_cases e : i = j
        · subst e; exact h
        · exact HZ.out i (by omega)
      have HT : Hid (¬ inoF (ds[j]?.getD id0) = 0 → inoF (ds[j]?.getD id0) = fstNZ (fun i => inoF (ds[i]?.getD id0)) ds.length) := fun h => (fstNZ_at (f := fun i => inoF (ds[i]?.getD id0)) HZ.out h (by rw [HN.out]; exact hlt)).symm
      by_cases hzz : inoF (ds[j]?.getD id0) = 0
      · have HR' : Hid (∀ i : Nat, i < j + 1 → inoF (ds[i]?.getD id0) = 0) := HR.out hzz
        have HZZ : Hid (inoF (ds[j]?.getD id0) = 0) := hzz
        clear HR HT hzz HC
        go_wp2_with fail
        refine (HF.out _ (by first | exact Below.refl _ _ | exact later1 _ _ | exact later2 _ _ _)).mono ?_
        rw [HZZ.out]
        rintro e w1 ⟨rfl, hb⟩
        have HB1 : Hid (Below w.heap.size w w1) := by first | exact HBL.out.trans (hb.mono HBL.out.size) | exact (HBL.out.trans ((later1 _ _).mono HBL.out.size)).trans (hb.mono (HBL.out.trans ((later1 _ _).mono HBL.out.size)).size)
        clear hb
        go_wp2
        go_roundw
        case rel => exact ⟨j + 1, by omega, by go_num, HB1.out, HR'.out⟩
        case measure => simp [intOf]; omega
      · have HT' : Hid (inoF (ds[j]?.getD id0) = fstNZ (fun i => inoF (ds[i]?.getD id0)) ds.length) := HT.out hzz
        have hzb : (inoF (ds[j]?.getD id0) != 0) = true := by simpa using hzz
        clear HR HT HC hzz
        generalize inoF (ds[j]?.getD id0) = r at *
        go_wp2_with fail
        refine (HF.out _ (by first | exact Below.refl _ _ | exact later1 _ _ | exact later2 _ _ _)).mono ?_
        rintro e w1 ⟨rfl, hb⟩
        have HB1 : Hid (Below w.heap.size w w1) := by first | exact HBL.out.trans (hb.mono HBL.out.size) | exact (HBL.out.trans ((later1 _ _).mono HBL.out.size)).trans (hb.mono (HBL.out.trans ((later1 _ _).mono HBL.out.size)).size)
        clear hb
        go_wp2
        go_ret
        exact ⟨ret_int HT'.out, HB1.out⟩
    · go_wp2
      go_ret
      exact ⟨ret_int (fstNZ_zero (fun i hi => HZ.out i (by rw [HN.out] at hi; omega))).symm, HBL.out⟩
theorem inodesFault_any {w : World} {v : Value} {ds : List ID} (h : Inos w v ds) (hs : sizeInos ds ≤ 1048576) :
    Calls Tryz.prog 69 #[v] w fun e w' => e = .returned (.int .i64 (insF ds)) ∧ Below w.heap.size w w' := by
  obtain ⟨a, cap, rfl, hm, hc⟩ := h.open'
  unfold insF
  by_cases h : 10 < ds.length
  · rw [if_pos h]
    exact (inodesFault_many w _ _ _ h).mono fun e w' ⟨h1, h2⟩ => ⟨h1, h2 ▸ Below.refl _ _⟩
  · rw [if_neg h]
    exact inodesFault_walk w _ _ _ ds (by omega) rfl (fun k => by have := isz_le ds k; unfold sizeInos at hs; omega) hc
end Go.Proofs.YtjabimfinanjoaaGreat
