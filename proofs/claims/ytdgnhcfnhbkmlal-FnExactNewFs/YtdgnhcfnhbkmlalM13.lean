/- The specification: has each block just the bytes that it should have? The specification: what is wrong of a file system. The program: how many bytes each block has to hold; what is wrong of a file system. -/
import Derived.Test.YtdgnhcfnhbkmlalM12
import Derived.Deep.RegionHeld3
import Derived.Test.YtdgnhcfnhbkmlalM09
import Derived.Test.YtdgnhcfnhbkmlalM08
namespace Go.Proofs.Ytdgnhcfnhbkmlal
open Go.RowKit
set_option maxRecDepth 100000

theorem ino_size {d : ID} (h : inoF d = 0) : 0 ≤ d.2.2.1 ∧ d.2.2.1 ≤ 32 ∧ ((d.2.2.2.1.length : Nat) : Int) = (d.2.2.1 + 7) / 8 := by
  unfold inoF at h
  have fp : fpB d = false → d.2.2.1 = 0 ∧ d.2.2.2.1.length = 0 := fun hf => by
    unfold fpB at hf
    simp at hf
    exact ⟨hf.1.2, by rw [hf.2]; rfl⟩
  by_cases h0 : d.1 = 0
  · rw [if_pos h0] at h
    have hf : fpB d = false := by
      cases e : fpB d with
      | false => rfl
      | true => rw [e] at h; simp at h
    obtain ⟨h1, h2⟩ := fp hf
    omega
  · rw [if_neg h0] at h
    by_cases h1 : d.1 = 1
    · rw [if_pos h1] at h
      have hd : dpB d = false := by
        cases e : dpB d with
        | false => rfl
        | true => rw [e] at h; simp at h
      rw [hd] at h
      simp only [Bool.false_eq_true, if_false] at h
      unfold fileF at h
      by_cases hl : linkB d.2.1 = true ∧ sizeB d.2.2.1 = true
      · rw [if_pos hl] at h
        have hz := hl.2
        unfold sizeB at hz
        simp at hz
        by_cases hb : ((d.2.2.2.1.length : Nat) : Int) = (d.2.2.1 + 7) / 8
        · exact ⟨hz.1, hz.2, hb⟩
        · rw [if_neg hb] at h; omega
      · rw [if_neg hl] at h; omega
    · rw [if_neg h1] at h
      by_cases h2 : d.1 = 2
      · rw [if_pos h2] at h
        have hf : fpB d = false := by
          cases e : fpB d with
          | false => rfl
          | true => rw [e] at h; simp at h
        obtain ⟨h3, h4⟩ := fp hf
        omega
      · rw [if_neg h2] at h; omega
theorem ino_six {d : ID} (h : inoF d = 0) : d.2.2.2.2.length ≤ 6 := by
  unfold inoF at h
  have dp : dpB d = false → d.2.2.2.2.length = 0 := fun hd => by unfold dpB at hd; simp at hd; rw [hd]; rfl
  by_cases h0 : d.1 = 0
  · rw [if_pos h0] at h
    have hd : dpB d = false := by
      cases e : dpB d with
      | false => rfl
      | true => rw [e] at h; simp at h
    have := dp hd
    omega
  · rw [if_neg h0] at h
    by_cases h1 : d.1 = 1
    · rw [if_pos h1] at h
      have hd : dpB d = false := by
        cases e : dpB d with
        | false => rfl
        | true => rw [e] at h; simp at h
      have := dp hd
      omega
    · rw [if_neg h1] at h
      by_cases h2 : d.1 = 2
      · rw [if_pos h2] at h
        by_cases hf : fpB d = true
        · rw [if_pos hf] at h; omega
        · rw [if_neg hf] at h
          unfold dirF at h
          by_cases h6 : 6 < d.2.2.2.2.length
          · rw [if_pos h6] at h; omega
          · omega
      · rw [if_neg h2] at h; omega

theorem lt_of_cell {w : World} {b o : Nat} {v : Value} (h : w.cell? ⟨b, o, none⟩ = some v) : b < w.heap.size := by
  by_cases hb : b < w.heap.size
  · exact hb
  · simp [World.cell?, Array.getElem?_eq_none (Nat.le_of_not_lt hb)] at h
theorem wrap_in (x : Int) (h0 : -9223372036854775808 ≤ x) (h1 : x ≤ 9223372036854775807) : IntKind.i64.wrap x = x := by
  unfold IntKind.wrap
  simp only [IntKind.signed, IntKind.bits]
  simp
  split <;> omega
def m8 (x : Int) : Int := if 8 < x then 8 else x
def putD (f : Nat → Int) (b v : Int) : Nat → Int := fun i => if i = b.toNat then v else f i
/-- How many bytes each block has to hold, behind k blocks of one inode, behind j inodes. -/
def dueK (s : Int) (bs : List Int) (f : Nat → Int) : Nat → Nat → Int
  | 0 => f
  | k + 1 => putD (dueK s bs f k) (bs[k]?.getD 0) (m8 (s - 8 * (k : Int)))
def dueI (ds : List ID) : Nat → Nat → Int
  | 0 => fun _ => 0
  | j + 1 => dueK (ds[j]?.getD id0).2.2.1 (ds[j]?.getD id0).2.2.2.1 (dueI ds j) (ds[j]?.getD id0).2.2.2.1.length
def sizOK (d : FD) (i : Nat) : Bool := decide ((((d.2[i]?.getD []).length : Nat) : Int) = dueI d.1 d.1.length i)
def sizesB (d : FD) : Bool := (List.range 20).all (sizOK d)
theorem sizesB_no {d : FD} {i : Nat} (hi : i < 20) (h : sizOK d i = false) : sizesB d = false := by
  unfold sizesB
  rw [List.all_eq_false]
  exact ⟨i, by simpa using hi, by simp [h]⟩
theorem sizesB_yes {d : FD} (h : ∀ i, i < 20 → sizOK d i = true) : sizesB d = true := by
  unfold sizesB
  rw [List.all_eq_true]
  intro i hi
  exact h i (by simpa using hi)
set_option maxHeartbeats 400000 in
theorem l1Min8_any (w : World) (x : Int) : Calls Try.prog 96 #[.int .i64 8, .int .i64 x] w fun e w' => e = .returned (.int .i64 (m8 x)) ∧ w' = w := by
  by_cases h : 8 < x
  · have hd : decide ((8 : Int) < x) = true := by simpa using h
    have HR : Hid (m8 x = 8) := by unfold Hid m8; rw [if_pos h]
    clear h
    go_enter Try.func96, Try.ntmps96
    go_wp2
    go_ret
    exact ⟨ret_int HR.out.symm, rfl⟩
  · have hd : decide ((8 : Int) < x) = false := by simpa using h
    have HR : Hid (m8 x = x) := by unfold Hid m8; rw [if_neg h]
    clear h
    go_enter Try.func96, Try.ntmps96
    go_wp2
    go_ret
    exact ⟨ret_int HR.out.symm, rfl⟩
def intF (f : Nat → Int) (i : Nat) : Value := .int .i64 (f i)

set_option maxHeartbeats 6400000 in
theorem l6Sizes_any (w : World) (b o : Nat) (d : FD) (aI : Option Addr) (cI : Nat) (aD : Option Addr) (cD : Nat) (h : FsX w b o d aI cI aD cD) (hn : d.1.length ≤ 10) (h20 : d.2.length = 20) (hi : insF d.1 = 0)
    (hbl : ∀ j k : Nat, j < d.1.length → k < (d.1[j]?.getD id0).2.2.2.1.length → 0 ≤ (d.1[j]?.getD id0).2.2.2.1[k]?.getD 0 ∧ (d.1[j]?.getD id0).2.2.2.1[k]?.getD 0 < 20) :
    Calls Try.prog 69 #[.pointer (some ⟨b, o, none⟩)] w fun e w' => e = .returned (.bool (sizesB d)) ∧ Below w.heap.size w w' := by
  have HINO : Hid (∀ j, j < d.1.length → inoF (d.1[j]?.getD id0) = 0) := ins_ino hi
  have HBK : Hid (∀ j k : Nat, j < d.1.length → k < (d.1[j]?.getD id0).2.2.2.1.length → 0 ≤ (d.1[j]?.getD id0).2.2.2.1[k]?.getD 0 ∧ (d.1[j]?.getD id0).2.2.2.1[k]?.getD 0 < 20) := hbl
  obtain ⟨_, _, e1, hm1, hAt⟩ := h.ins.open'
  simp only [Value.slice.injEq] at e1
  obtain ⟨rfl, -, rfl⟩ := e1
  obtain ⟨_, _, e2, hm2, hBt⟩ := h.byt.open'
  simp only [Value.slice.injEq] at e2
  obtain ⟨rfl, -, rfl⟩ := e2
  have c0 := h.c0
  have c1 := h.c1
  rw [h20] at c1 hBt
  have HAT : Hid (AtI w aI d.1.length d.1) := hAt
  have HBT : Hid (AtYs w aD 20 d.2) := hBt
  have HSO : Hid (∀ i, sizOK d i = decide ((((d.2[i]?.getD []).length : Nat) : Int) = dueI d.1 d.1.length i)) := fun i => rfl
  have HD0 : Hid (dueI d.1 0 = fun _ => 0) := rfl
  have HDS : Hid (∀ j, dueI d.1 (j + 1) = dueK (d.1[j]?.getD id0).2.2.1 (d.1[j]?.getD id0).2.2.2.1 (dueI d.1 j) (d.1[j]?.getD id0).2.2.2.1.length) := fun j => rfl
  clear h hi hbl hAt hBt hm1 hm2 h20
  obtain ⟨n, hnn⟩ : ∃ n, d.1.length = n := ⟨_, rfl⟩
  rw [hnn] at HINO HBK c0 HAT HSO hn
  clear hnn
  generalize dueI d.1 = DU at *
  have hmk : ∀ w, (Instr.makeSlice 51 (.int .i64 20) (.int .i64 20)).run Try.prog w = _ := fun w => run_make_row' (P := Try.prog) 51 2 (.int .i64 0) 8 Try.underlying51 Try.infoInt rfl .i64 .i64 20 (by omega) (by omega) w
  have HM0 : Hid (OwnRow (w.alloc (.cells (madeCells #[.int .i64 0] 20) 2)) w.heap.size 20 (intF (DU 0))) := by
    unfold Hid
    rw [HD0.out]
    exact OwnRow.made w (.int .i64 0) 20 2
  go_enter Try.func69, Try.ntmps69
  go_wp2
  clear hmk
  go_loopw [4] (fun i wr => ∃ j : Nat, j ≤ n ∧ i = .int .i64 j ∧ Below w.heap.size w wr ∧ OwnRow wr w.heap.size 20 (intF (DU j))) (fun i _ => n - (intOf i).toNat)
  case atStart => exact ⟨0, Nat.zero_le _, rfl, later1 _ _, HM0.out⟩
  case round =>
    obtain ⟨j, hj, rfl, hbl, hrow⟩ := hrel
    have HBL : Hid (Below w.heap.size w wr) := hbl
    have HROW : Hid (OwnRow wr w.heap.size 20 (intF (DU j))) := hrow
    have c0r := cell_later hbl c0
    have c1r := cell_later hbl c1
    clear hbl hrow HM0
    by_cases hlt : j < n
    · obtain ⟨b0, o0, rfl, hI⟩ := HAT.out j hlt
      obtain ⟨aB, cB, _, _, _, _, k2, k3, _, h5⟩ := hI
      obtain ⟨_, _, e3, hm3, hI1⟩ := h5.2.1.open'
      simp only [Value.slice.injEq] at e3
      obtain ⟨rfl, _, rfl⟩ := e3
      have hsz := ino_size (HINO.out j hlt)
      have hbk := HBK.out j
      have HBKJ : Hid (∀ k, k < (d.1[j]?.getD id0).2.2.2.1.length → 0 ≤ (d.1[j]?.getD id0).2.2.2.1[k]?.getD 0 ∧ (d.1[j]?.getD id0).2.2.2.1[k]?.getD 0 < 20) := fun k hk => hbk k hlt hk
      have HDJ : Hid (DU (j + 1) = dueK (d.1[j]?.getD id0).2.2.1 (d.1[j]?.getD id0).2.2.2.1 (DU j) (d.1[j]?.getD id0).2.2.2.1.length) := HDS.out j
      clear h5 hm3 hbk
      generalize (d.1[j]?.getD id0).2.2.1 = s at *
      generalize (d.1[j]?.getD id0).2.2.2.1 = bs at *
      have HIB : Hid (At1 w aB bs.length (fun k => .int .i64 (bs[k]?.getD 0))) := hI1
      have hb4 : bs.length ≤ 4 := by omega
      obtain ⟨nB, hnB⟩ : ∃ nB, bs.length = nB := ⟨_, rfl⟩
      rw [hnB] at k3 HIB HBKJ HDJ hb4
      clear hI1 hnB
      have HK0 : Hid (dueK s bs (DU j) 0 = DU j) := rfl
      have HKS : Hid (∀ k, dueK s bs (DU j) (k + 1) = putD (dueK s bs (DU j) k) (bs[k]?.getD 0) (m8 (s - 8 * (k : Int)))) := fun k => rfl
      have hs0 := hsz.1
      have hs1 := hsz.2.1
      clear hsz
      generalize dueK s bs (DU j) = DK at *
      have k2r := cell_later HBL.out k2
      have k3r := cell_later HBL.out k3
      go_wp2
      go_loopw [6] (fun i wr => ∃ k : Nat, k ≤ nB ∧ i = .int .i64 k ∧ Below w.heap.size w wr ∧ OwnRow wr w.heap.size 20 (intF (DK k))) (fun i _ => nB - (intOf i).toNat)
      case atStart => exact ⟨0, Nat.zero_le _, rfl, HBL.out, by rw [HK0.out]; exact HROW.out⟩
      case round =>
        obtain ⟨k, hk, rfl, hbl2, hrow2⟩ := hrel
        have HB2 : Hid (Below w.heap.size w wr) := hbl2
        have HROW2 : Hid (OwnRow wr w.heap.size 20 (intF (DK k))) := hrow2
        have k2s := cell_later hbl2 k2
        have k3s := cell_later hbl2 k3
        clear hbl2 hrow2 k2r k3r c0r c1r
        by_cases hlk : k < nB
        · obtain ⟨b1, o1, rfl, p1⟩ := HIB.out k hlk
          replace p1 : w.cell? ⟨b1, o1 + k, none⟩ = some (.int .i64 (bs[k]?.getD 0)) := p1
          have p1r := cell_later HB2.out p1
          have hbr := HBKJ.out k hlk
          have HST : Hid (DK (k + 1) = putD (DK k) (bs[k]?.getD 0) (m8 (s - 8 * (k : Int)))) := HKS.out k
          have hlt1 : b1 < w.heap.size := lt_of_cell p1
          have hlt0 : b0 < w.heap.size := lt_of_cell k2
          generalize bs[k]?.getD 0 = x at *
          obtain ⟨y, rfl⟩ : ∃ y : Nat, x = (y : Int) := ⟨x.toNat, by omega⟩
          have hy : y < 20 := by omega
          have r0 := HROW2.out.cell hy
          have r1 := HROW2.out.frozen y
          have hne0 : w.heap.size ≠ b0 := by omega
          have hne1 : w.heap.size ≠ b1 := by omega
          have HMN : Hid (∀ W, Calls Try.prog 96 #[.int .i64 8, .int .i64 (IntKind.i64.wrap (s - IntKind.i64.wrap ((k : Int) * 8)))] W fun e w' => e = .returned (.int .i64 (m8 (s - 8 * (k : Int)))) ∧ w' = W) := fun W => by
            rw [wrap_in ((k : Int) * 8) (by omega) (by omega), wrap_in (s - (k : Int) * 8) (by omega) (by omega), show s - 8 * (k : Int) = s - (k : Int) * 8 by omega]
            exact l1Min8_any W _
          generalize m8 (s - 8 * (k : Int)) = mv at *
          have HROW3 : Hid (∀ q, OwnRow ((wr.drewN q).setCell ⟨w.heap.size, y, none⟩ (.int .i64 mv)) w.heap.size 20 (intF (DK (k + 1)))) := fun q => by
            have := (HROW2.out.later (below_drewN (Below.refl _ _) q)).set y (.int .i64 mv)
            rw [HST.out]
            refine this.congr fun i _ => ?_
            unfold intF putD
            by_cases e : i = y <;> simp [e]
          have HB3 : Hid (∀ q, Below w.heap.size w ((wr.drewN q).setCell ⟨w.heap.size, y, none⟩ (.int .i64 mv))) := fun q => (below_drewN HB2.out q).setCell (by simp) _
          clear HROW2 HST HBKJ HKS HK0 HDJ
          unfold intF at r0
          generalize DK k y = rv at *
          go_wp2_with fail
          go_region_held3 (fun W => W.cell? ⟨b0, o0 + j * 5 + 2, none⟩ = some (.int .i64 s) ∧ W.cell? ⟨b0, o0 + j * 5 + 3, none⟩ = some (.slice (some ⟨b1, o1, none⟩) nB cB) ∧ W.cell? ⟨b1, o1 + k, none⟩ = some (.int .i64 (y : Int))) (go_keep) (first
            | (go_at_call 96; refine (HMN.out _).mono ?_; rintro e w2 ⟨rfl, rfl⟩))
          all_goals
            go_wp2
            go_roundw
            case rel => exact ⟨k + 1, by omega, by go_num, HB3.out _, HROW3.out _⟩
            case measure => simp [intOf]; omega
        · have HE : Hid (DK k = DU (j + 1)) := by unfold Hid; rw [HDJ.out, show k = nB by omega]
          go_wp2
          go_roundw
          case rel => exact ⟨j + 1, by omega, by go_num, HB2.out, by rw [← HE.out]; exact HROW2.out⟩
          case measure => simp [intOf]; omega
    · have HJ : Hid (DU j = DU n) := by unfold Hid; rw [show j = n by omega]
      have HROWN : Hid (OwnRow wr w.heap.size 20 (intF (DU n))) := by rw [← HJ.out]; exact HROW.out
      clear HAT HDS HINO HBK HROW HJ
      obtain ⟨wo, rfl⟩ : ∃ wo, wo = wr := ⟨_, rfl⟩
      go_wp2
      go_loopw [7] (fun i wr => ∃ k m : Nat, k ≤ 20 ∧ i = .int .i64 k ∧ wr = wo.drewN m ∧ ∀ q, q < k → sizOK d q = true) (fun i _ => 20 - (intOf i).toNat)
      case atStart => exact ⟨0, 0, by omega, rfl, rfl, fun q hq => by omega⟩
      case round =>
        obtain ⟨k, m, hk, rfl, rfl, hz⟩ := hrel
        have HZ : Hid (∀ q, q < k → sizOK d q = true) := hz
        clear hz
        by_cases hlk : k < 20
        · obtain ⟨bD, oD, ua, uc, rfl, d0, _⟩ := HBT.out k hlk
          replace d0 := cell_later HBL.out d0
          have r0 := HROWN.out.cell hlk
          have HSK : Hid (sizOK d k = decide ((((d.2[k]?.getD []).length : Nat) : Int) = DU n k)) := HSO.out k
          unfold intF at r0
          have HY : Hid (sizOK d k = true → ∀ q, q < k + 1 → sizOK d q = true) := fun hh q hq => by
            by_cases e : q = k
            · subst e; exact hh
            · exact HZ.out q (by omega)
          have HNO : Hid (sizOK d k = false → sizesB d = false) := fun hh => sizesB_no hlk hh
          generalize (d.2[k]?.getD []).length = ln at *
          generalize DU n k = du at *
          by_cases he : ((ln : Nat) : Int) = du
          · have hb : (((ln : Nat) : Int) != du) = false := by simpa using he
            have HR : Hid (∀ q, q < k + 1 → sizOK d q = true) := HY.out (by rw [HSK.out, decide_eq_true he])
            clear he HSK HY HNO
            go_wp2_with fail
            go_quiet (fail)
            go_wp2
            go_roundw
            case rel => exact ⟨k + 1, _, by omega, by go_num, by first | rfl | rw [World.drewN_drewN], HR.out⟩
            case measure => simp [intOf]; omega
          · have hb : (((ln : Nat) : Int) != du) = true := by simpa using he
            have HR : Hid (sizesB d = false) := HNO.out (by rw [HSK.out, decide_eq_false he])
            clear he HSK HY HNO
            go_wp2_with fail
            go_quiet (fail)
            go_wp2
            go_ret
            exact ⟨ret_bool HR.out.symm, by first | exact below_drewN HBL.out _ | exact below_drewN (below_drewN HBL.out _) _⟩
        · have HR : Hid (sizesB d = true) := sizesB_yes fun i hi => HZ.out i (by omega)
          go_wp2
          go_ret
          exact ⟨ret_bool HR.out.symm, below_drewN HBL.out m⟩
end Go.Proofs.Ytdgnhcfnhbkmlal

namespace Go.Proofs.Ytdgnhcfnhbkmlal
open Go.RowKit
set_option maxRecDepth 100000

def fsF (d : FD) : Int := if fsE d = 0 then (if linksB d.1 && sizesB d then 0 else 1) else fsE d
theorem fsE_zero {d : FD} (h : fsE d = 0) : insF d.1 = 0 ∧ formB d = false ∧ fstNZ (manyF d.2) d.2.length = 0 ∧ onceB d.1 20 = true ∧ lostF d.1 = 0 := by
  unfold fsE at h
  by_cases h1 : insF d.1 = 0
  · rw [if_pos h1] at h
    by_cases h2 : formB d = true
    · rw [if_pos h2] at h; omega
    · rw [if_neg h2] at h
      by_cases h3 : fstNZ (manyF d.2) d.2.length = 0
      · rw [if_pos h3] at h
        by_cases h4 : onceB d.1 20 = true
        · rw [if_pos h4] at h
          exact ⟨h1, by simpa using h2, h3, h4, h⟩
        · rw [if_neg h4] at h; omega
      · rw [if_neg h3] at h; exact absurd h h3
  · rw [if_neg h1] at h; exact absurd h h1
theorem formB_no {d : FD} (h : formB d = false) : ¬ d.1.length = 0 ∧ kindAt d.1 0 = 2 ∧ d.2.length = 20 := by
  unfold formB at h
  simp at h
  obtain ⟨⟨h1, h2⟩, h3⟩ := h
  exact ⟨fun e => h1 (List.eq_nil_of_length_eq_zero e), h2, h3⟩
theorem insF_ten {ds : List ID} (h : insF ds = 0) : ds.length ≤ 10 := by
  unfold insF at h
  by_cases h1 : 10 < ds.length
  · rw [if_pos h1] at h; omega
  · omega
theorem lost_in {ds : List ID} (hi : insF ds = 0) (h : lostF ds = 0) : ∀ j, j < ds.length → ∀ k, k < (ds[j]?.getD id0).2.2.2.2.length → 0 ≤ ((ds[j]?.getD id0).2.2.2.2[k]?.getD en0).2 ∧ ((ds[j]?.getD id0).2.2.2.2[k]?.getD en0).2 < (ds.length : Int) := fun j hj k hk => by
  refine ⟨ino_ent (ins_ino hi j hj) k hk, ?_⟩
  cases hl : lostB ds ((ds[j]?.getD id0).2.2.2.2[k]?.getD en0).2 with
  | true => rw [lost_yes hj hk hl] at h; omega
  | false =>
    unfold lostB at hl
    simp at hl
    omega
theorem ins_blk {ds : List ID} (h : insF ds = 0) (j k : Nat) (hj : j < ds.length) (hk : k < (ds[j]?.getD id0).2.2.2.1.length) : 0 ≤ (ds[j]?.getD id0).2.2.2.1[k]?.getD 0 ∧ (ds[j]?.getD id0).2.2.2.1[k]?.getD 0 < 20 := by
  have := insF_blocks h j k hj hk
  omega

set_option maxHeartbeats 1600000 in
theorem l6Fault_any (w : World) (b o : Nat) (d : FD) (aI : Option Addr) (cI : Nat) (aD : Option Addr) (cD : Nat) (h : FsX w b o d aI cI aD cD) (hs : sizeInos d.1 ≤ 1048576) :
    Calls Try.prog 36 #[.pointer (some ⟨b, o, none⟩)] w fun e w' => e = .returned (.int .i64 (fsF d)) ∧ Below w.heap.size w w' := by
  have HE : Hid (Calls Try.prog 54 #[.pointer (some ⟨b, o, none⟩)] w fun e w' => e = .returned (.int .i64 (fsE d)) ∧ Below w.heap.size w w') := l6Entries_any w b o d aI cI aD cD h hs
  have HF : Hid (fsF d = if fsE d = 0 then (if linksB d.1 && sizesB d then 0 else 1) else fsE d) := rfl
  by_cases he : fsE d = 0
  rotate_left
  · have HR : Hid (fsF d = fsE d) := by unfold Hid; rw [HF.out, if_neg he]
    have hb : (fsE d != 0) = true := by simpa using he
    clear HF he h
    generalize fsE d = r at *
    go_enter Try.func36, Try.ntmps36
    go_wp2_with fail
    refine HE.out.mono ?_
    rintro e w1 ⟨rfl, hb1⟩
    have HB0 : Hid (Below w.heap.size w w1) := hb1
    clear hb1
    go_wp2
    go_ret
    exact ⟨ret_int HR.out.symm, HB0.out⟩
  · obtain ⟨h1, h2, h3, h4, h5⟩ := fsE_zero he
    obtain ⟨g1, g2, g3⟩ := formB_no h2
    have HL : Hid (∀ W, Below w.heap.size w W → Calls Try.prog 68 #[.pointer (some ⟨b, o, none⟩)] W fun e w' => e = .returned (.bool (linksB d.1)) ∧ Below W.heap.size W w') := fun W hW => l6Links_any W b o d aI cI aD cD (h.later hW) hs g1 (insF_ten h1) (lost_in h1 h5)
    have HS : Hid (∀ W, Below w.heap.size w W → Calls Try.prog 69 #[.pointer (some ⟨b, o, none⟩)] W fun e w' => e = .returned (.bool (sizesB d)) ∧ Below W.heap.size W w') := fun W hW => l6Sizes_any W b o d aI cI aD cD (h.later hW) (insF_ten h1) g3 h1 (ins_blk h1)
    have HR : Hid (fsF d = if linksB d.1 && sizesB d then 0 else 1) := by unfold Hid; rw [HF.out, if_pos he]
    rw [he] at HE
    clear HF he h h1 h2 h3 h4 h5 g1 g2 g3
    generalize linksB d.1 = lb at *
    generalize sizesB d = sb at *
    cases lb with
    | false =>
      go_enter Try.func36, Try.ntmps36
      go_wp2_with fail
      refine HE.out.mono ?_
      rintro e w1 ⟨rfl, hb1⟩
      have HB0 : Hid (Below w.heap.size w w1) := hb1
      clear hb1
      go_wp2_with fail
      refine (HL.out _ HB0.out).mono ?_
      rintro e w2 ⟨rfl, hb2⟩
      have HB2 : Hid (Below w.heap.size w w2) := HB0.out.trans (hb2.mono HB0.out.size)
      clear hb2
      go_wp2
      go_ret
      exact ⟨ret_int HR.out.symm, HB2.out⟩
    | true =>
      cases sb
      all_goals
        go_enter Try.func36, Try.ntmps36
        go_wp2_with fail
        refine HE.out.mono ?_
        rintro e w1 ⟨rfl, hb1⟩
        have HB0 : Hid (Below w.heap.size w w1) := hb1
        clear hb1
        go_wp2_with fail
        refine (HL.out _ HB0.out).mono ?_
        rintro e w2 ⟨rfl, hb2⟩
        have HB2 : Hid (Below w.heap.size w w2) := HB0.out.trans (hb2.mono HB0.out.size)
        clear hb2
        go_wp2_with fail
        refine (HS.out _ HB2.out).mono ?_
        rintro e w3 ⟨rfl, hb3⟩
        have HB3 : Hid (Below w.heap.size w w3) := HB2.out.trans (hb3.mono HB2.out.size)
        clear hb3
        go_wp2
        go_ret
        exact ⟨ret_int HR.out.symm, HB3.out⟩

theorem FsX.box {w : World} {a1 : Option Addr} {n1 c1 : Nat} {a2 : Option Addr} {n2 c2 : Nat} {d : FD} (h : FsR w (.slice a1 n1 c1) (.slice a2 n2 c2) d) (t : TypeId) : FsX (w.alloc (.cells #[.slice a1 n1 c1, .slice a2 n2 c2] t)) w.heap.size 0 d a1 c1 a2 c2 ∧ n1 = d.1.length ∧ n2 = d.2.length := by
  obtain ⟨_, _, e1, _, _⟩ := h.1.open'
  obtain ⟨_, _, e2, _, _⟩ := h.2.open'
  simp only [Value.slice.injEq] at e1 e2
  obtain ⟨rfl, rfl, rfl⟩ := e1
  obtain ⟨rfl, rfl, rfl⟩ := e2
  have hx := Bx.new w [.slice a1 d.1.length c1, .slice a2 d.2.length c2] t
  exact ⟨⟨hx 0 _ rfl, hx 1 _ rfl, h.1.later (later1 _ _), h.2.later (later1 _ _)⟩, rfl, rfl⟩
set_option maxHeartbeats 800000 in
theorem specFsU (w : World) (a1 : Option Addr) (n1 c1 : Nat) (a2 : Option Addr) (n2 c2 : Nat) (d : FD) (h : FsR w (.slice a1 n1 c1) (.slice a2 n2 c2) d) (hs : sizeFs d ≤ 1048576) :
    Calls Try.prog 9 #[.agg #[.slice a1 n1 c1, .slice a2 n2 c2]] w fun e w' => e = .returned (.int .i64 (fsF d)) ∧ Below w.heap.size w w' := by
  obtain ⟨hx, -, -⟩ := FsX.box h 30
  have HF : Hid (Calls Try.prog 36 #[.pointer (some ⟨w.heap.size, 0, none⟩)] (w.alloc (.cells #[.slice a1 n1 c1, .slice a2 n2 c2] 30)) fun e w' => e = .returned (.int .i64 (fsF d)) ∧ Below (w.alloc (.cells #[.slice a1 n1 c1, .slice a2 n2 c2] 30)).heap.size (w.alloc (.cells #[.slice a1 n1 c1, .slice a2 n2 c2] 30)) w') := l6Fault_any _ _ _ d _ _ _ _ hx (by unfold sizeFs at hs; omega)
  clear h hx
  go_enter Try.func9, Try.ntmps9
  go_wp2_with fail
  refine HF.out.mono ?_
  rintro e w1 ⟨rfl, hb1⟩
  have HB1 : Hid (Below w.heap.size w w1) := (later1 _ _).trans (hb1.mono (by simp))
  clear hb1
  go_wp2
  go_ret
  exact ⟨rfl, HB1.out⟩
end Go.Proofs.Ytdgnhcfnhbkmlal

namespace Go.Proofs.Ytdgnhcfnhbkmlal
open Go.RowKit
set_option maxRecDepth 100000

/-- An array that holds a number for each block. -/
def arrI (f : Nat → Int) : Array Value := ((List.range 20).map fun i => intV (f i)).toArray
theorem arrI_size (f : Nat → Int) : (arrI f).size = 20 := by simp [arrI]
theorem arrI_get (f : Nat → Int) {i : Nat} (h : i < 20) : (arrI f)[i]? = some (.int .i64 (f i)) := by
  simp [arrI, h, intV]
theorem arrI_set (f : Nat → Int) (q : Nat) (x : Int) : (arrI f).setIfInBounds q (.int .i64 x) = arrI (fun i => if i = q then x else f i) := by
  apply Array.ext_getElem?
  intro i
  rw [Array.getElem?_setIfInBounds]
  by_cases hi : i < 20
  · rw [arrI_get _ hi, arrI_get _ hi, arrI_size]
    by_cases e : q = i
    · subst e; simp [hi]
    · rw [if_neg e, if_neg (fun h => e h.symm)]
  · have h1 : (arrI f)[i]? = none := by rw [Array.getElem?_eq_none_iff, arrI_size]; omega
    have h2 : (arrI (fun i => if i = q then x else f i))[i]? = none := by rw [Array.getElem?_eq_none_iff, arrI_size]; omega
    rw [h1, h2, arrI_size]
    by_cases e : q = i
    · subst e; simp [hi]
    · rw [if_neg e]
/-- Block b holds the numbers f. -/
def ArI (w : World) (b : Nat) (f : Nat → Int) : Prop := w.heap[b]? = some (.cells (arrI f) 100)
theorem ArI.cell {w : World} {b : Nat} {f : Nat → Int} (h : ArI w b f) {i : Nat} (hi : i < 20) : w.cell? ⟨b, i, none⟩ = some (.int .i64 (f i)) := by
  simp [World.cell?, show w.heap[b]? = some (.cells (arrI f) 100) from h, arrI_get f hi]
theorem ArI.frozen {w : World} {b : Nat} {f : Nat → Int} (h : ArI w b f) (i : Nat) : w.frozen? ⟨b, i, none⟩ = false := by
  simp [World.frozen?, show w.heap[b]? = some (.cells (arrI f) 100) from h]
theorem ArI.lt {w : World} {b : Nat} {f : Nat → Int} (h : ArI w b f) : b < w.heap.size := (Array.getElem?_eq_some_iff.1 h).1
theorem ArI.later {w w' : World} {b : Nat} {f : Nat → Int} (h : ArI w b f) (hb : Below w.heap.size w w') : ArI w' b f := (hb.block b h.lt).trans h
theorem ArI.set {w : World} {b : Nat} {f : Nat → Int} (h : ArI w b f) (q : Nat) (x : Int) : ArI (w.setCell ⟨b, q, none⟩ (.int .i64 x)) b (fun i => if i = q then x else f i) := by
  have h' : w.heap[b]? = some (.cells (arrI f) 100) := h
  unfold ArI
  rw [← arrI_set f q x]
  simp [World.setCell, Array.getElem?_modify, h']
theorem ArI.store {w : World} {b : Nat} {f : Nat → Int} (h : ArI w b f) {p : Addr} (hp : b ≠ p.block) (v : Value) : ArI (w.setCell p v) b f := (Below.heap_setCell _ _ _ _ hp).trans h
theorem ArI.new (w : World) (f : Nat → Int) : ArI (w.alloc (.cells (arrI f) 100)) w.heap.size f := Go.Deep.blk_alloc_new _ _

theorem arrI_one (f : Nat → Int) : (arrI f).all (·.oneCell') = true := by
  unfold arrI
  rw [Array.all_eq_true_iff_forall_mem]
  intro v hv
  simp only [List.mem_toArray, List.mem_map] at hv
  obtain ⟨i, _, rfl⟩ := hv
  rfl
theorem Try.infoA20 : (Try.prog.info? 100).map (·.size) = some 20 := by kernel_rfl
theorem ArI.load {w : World} {b : Nat} {f : Nat → Int} (h : ArI w b f) : (Instr.loadAt 100 (.pointer (some ⟨b, 0, none⟩))).run Try.prog w = .ok (.agg (arrI f)) w := by
  simp only [Instr.loadAt, Instr.sureAddr, Sem.run_bind, Sem.run_pure, Result.andThen]
  exact run_loadVar_row w b _ _ (arrI f) (0, 0) _ h Try.underlying100 rfl (by rw [arrI_size]; exact Try.infoA20)
theorem ArI.loadV {w : World} {b : Nat} {f : Nat → Int} (h : ArI w b f) : (loadVar 100 ⟨b, 0, none⟩).run Try.prog w = .ok (.agg (arrI f)) w :=
  run_loadVar_row w b _ _ (arrI f) (0, 0) _ h Try.underlying100 rfl (by rw [arrI_size]; exact Try.infoA20)
theorem ArI.put {w : World} {b : Nat} {f : Nat → Int} (h : ArI w b f) (g : Nat → Int) : ∃ X, (Instr.storeAt 100 (.pointer (some ⟨b, 0, none⟩)) (.agg (arrI g))).run Try.prog w = .ok () X ∧ ArI X b g ∧ X.heap.size = w.heap.size ∧ (∀ c, c ≠ b → X.heap[c]? = w.heap[c]?) ∧ X.os = w.os ∧ X.tape = w.tape ∧ X.output = w.output := by
  refine ⟨w.setRow b (arrI g), ?_, ?_, ?_, fun c hc => ?_, rfl, rfl, rfl⟩
  · simp only [Instr.storeAt, Instr.sureAddr, Sem.run_bind, Sem.run_pure, Result.andThen]
    rw [run_storeVar_row w b _ _ (arrI f) (arrI g) h (by rw [arrI_size]; exact Try.infoA20) (by rw [arrI_size, arrI_size]) (arrI_one g)]
  · have h' : w.heap[b]? = some (.cells (arrI f) 100) := h
    unfold ArI
    simp [World.setRow, Array.getElem?_modify, h']
  · simp [World.setRow]
  · simp only [World.setRow]
    rw [Array.getElem?_modify, if_neg (fun e => hc e.symm)]

theorem m8_left {s : Int} {nB k : Nat} (hn : ((nB : Nat) : Int) = (s + 7) / 8) (hk : k + 1 < nB) : s - 8 * (k : Int) - m8 (s - 8 * (k : Int)) = s - 8 * ((k + 1 : Nat) : Int) := by
  unfold m8
  rw [if_pos (by omega)]
  omega
set_option maxHeartbeats 3200000 in
theorem bytesDue_walk (w : World) (a : Option Addr) (n c : Nat) (ds : List ID) (hdn : ds.length = n) (hn : n ≤ 10) (hi : insF ds = 0) (hc : AtI w a n ds) :
    Calls Try.prog 76 #[.slice a n c] w fun e w' => e = .returned (.agg (arrI (dueI ds n))) ∧ Below w.heap.size w w' := by
  have HC : Hid (AtI w a n ds) := hc
  have HINO : Hid (∀ j, j < n → inoF (ds[j]?.getD id0) = 0) := by rw [← hdn]; exact ins_ino hi
  have HBK : Hid (∀ j k : Nat, j < n → k < (ds[j]?.getD id0).2.2.2.1.length → 0 ≤ (ds[j]?.getD id0).2.2.2.1[k]?.getD 0 ∧ (ds[j]?.getD id0).2.2.2.1[k]?.getD 0 < 20) := by rw [← hdn]; exact ins_blk hi
  have HDS : Hid (∀ j, dueI ds (j + 1) = dueK (ds[j]?.getD id0).2.2.1 (ds[j]?.getD id0).2.2.2.1 (dueI ds j) (ds[j]?.getD id0).2.2.2.1.length) := fun j => rfl
  have HD0 : Hid ((fun _ : Nat => (0 : Int)) = dueI ds 0) := rfl
  clear hc hdn hi
  have z0 := ArI.new w (fun _ => 0)
  have z1 := ArI.new (w.alloc (.cells (arrI fun _ => 0) 100)) (fun _ => 0)
  replace z0 := z0.later (later1 _ (.cells (arrI fun _ => 0) 100))
  rw [World.size_alloc] at z1
  have HB0 : Hid (Below w.heap.size w ((w.alloc (.cells (arrI fun _ => 0) 100)).alloc (.cells (arrI fun _ => 0) 100))) := later2 _ _ _
  have HZ0 : Hid (ArI _ _ _) := z0
  have HZ1 : Hid (ArI _ _ _) := z1
  clear z0 z1
  generalize dueI ds = DU at *
  go_enter Try.func76, Try.ntmps76
  go_wp2
  go_loopw [11] (fun i wr => ∃ j : Nat, j ≤ n ∧ i = .int .i64 j ∧ Below w.heap.size w wr ∧ ArI wr (w.heap.size + 1) (DU j) ∧ ArI wr w.heap.size (fun _ => 0)) (fun i _ => n - (intOf i).toNat)
  case atStart => exact ⟨0, Nat.zero_le _, rfl, HB0.out, HD0.out ▸ HZ1.out, HZ0.out⟩
  case round =>
    clear HB0 HZ0 HZ1
    obtain ⟨j, hj, rfl, hbl, hx, hy⟩ := hrel
    have HBL : Hid (Below w.heap.size w wr) := hbl
    have HA : Hid (ArI wr (w.heap.size + 1) (DU j)) := hx
    have HY : Hid (ArI wr w.heap.size (fun _ => 0)) := hy
    have hw0 := hx.lt
    clear hbl hx hy
    by_cases hlt : j < n
    · obtain ⟨b, o, rfl, hI⟩ := HC.out j hlt
      obtain ⟨aB, cB, aE, cE, c0, c1, c2, c3, c4, hR⟩ := hI
      replace c0 := cell_later HBL.out c0
      replace c1 := cell_later HBL.out c1
      replace c2 := cell_later HBL.out c2
      replace c3 := cell_later HBL.out c3
      replace c4 := cell_later HBL.out c4
      obtain ⟨_, _, e3, hm3, hI1⟩ := hR.2.1.open'
      simp only [Value.slice.injEq] at e3
      obtain ⟨rfl, _, rfl⟩ := e3
      have hsz := ino_size (HINO.out j hlt)
      have hbk := HBK.out j
      have HBKJ : Hid (∀ k, k < (ds[j]?.getD id0).2.2.2.1.length → 0 ≤ (ds[j]?.getD id0).2.2.2.1[k]?.getD 0 ∧ (ds[j]?.getD id0).2.2.2.1[k]?.getD 0 < 20) := fun k hk => hbk k hlt hk
      have HDJ : Hid (DU (j + 1) = dueK (ds[j]?.getD id0).2.2.1 (ds[j]?.getD id0).2.2.2.1 (DU j) (ds[j]?.getD id0).2.2.2.1.length) := HDS.out j
      clear hR hm3 hbk
      generalize (ds[j]?.getD id0) = dj at *
      obtain ⟨dk, dl, s, bs, es⟩ := dj
      dsimp only at *
      have HIB : Hid (At1 w aB bs.length (fun k => .int .i64 (bs[k]?.getD 0))) := hI1
      have hb4 : bs.length ≤ 4 := by omega
      obtain ⟨nB, hnB⟩ : ∃ nB, bs.length = nB := ⟨_, rfl⟩
      rw [hnB] at c3 HIB HBKJ HDJ hb4 hsz
      clear hI1 hnB
      have HK0 : Hid (dueK s bs (DU j) 0 = DU j) := rfl
      have HKS : Hid (∀ k, dueK s bs (DU j) (k + 1) = putD (dueK s bs (DU j) k) (bs[k]?.getD 0) (m8 (s - 8 * (k : Int)))) := fun k => rfl
      have HML : Hid (∀ k, k + 1 < nB → s - 8 * (k : Int) - m8 (s - 8 * (k : Int)) = s - 8 * ((k + 1 : Nat) : Int)) := fun k hk => m8_left hsz.2.2 hk
      have hs0 := hsz.1
      have hs1 := hsz.2.1
      clear hsz
      generalize dueK s bs (DU j) = DK at *
      generalize es.length = nE at *
      go_wp2
      clear c0 c1 c2 c3 c4
      go_loopw [6, 20] (fun l i wr2 => ∃ (k : Nat) (lf : Int), k ≤ nB ∧ i = .int .i64 k ∧ l = .int .i64 lf ∧ (k < nB → lf = s - 8 * (k : Int)) ∧ Below w.heap.size w wr2 ∧ ArI wr2 (w.heap.size + 1) (DK k) ∧ ArI wr2 w.heap.size (fun _ => 0)) (fun _ i _ => nB - (intOf i).toNat)
      case atStart => exact ⟨0, s, Nat.zero_le _, rfl, rfl, fun _ => by simp, HBL.out.trans ((later1 _ _).mono HBL.out.size), by rw [HK0.out]; exact HA.out.later (later1 _ _), HY.out.later (later1 _ _)⟩
      case round =>
        obtain ⟨k, lf, hk, rfl, rfl, hlf, hbl2, hx2, hy2⟩ := hrel
        have HB2 : Hid (Below w.heap.size w wr) := hbl2
        have HA2 : Hid (ArI wr (w.heap.size + 1) (DK k)) := hx2
        have HY2 : Hid (ArI wr w.heap.size (fun _ => 0)) := hy2
        have HLF : Hid (k < nB → lf = s - 8 * (k : Int)) := hlf
        clear hbl2 hx2 hy2 hlf HA HY HBL
        by_cases hlk : k < nB
        · obtain ⟨b1, o1, rfl, p1⟩ := HIB.out k hlk
          replace p1 : w.cell? ⟨b1, o1 + k, none⟩ = some (.int .i64 (bs[k]?.getD 0)) := p1
          replace p1 := cell_later HB2.out p1
          have hbr := HBKJ.out k hlk
          have HST : Hid (DK (k + 1) = putD (DK k) (bs[k]?.getD 0) (m8 lf)) := by rw [HLF.out hlk]; exact HKS.out k
          have HMK : Hid (k + 1 < nB → lf - m8 lf = s - 8 * ((k + 1 : Nat) : Int)) := fun h => by rw [HLF.out hlk]; exact HML.out k h
          have hl0 : -32 ≤ lf ∧ lf ≤ 32 := by have := HLF.out hlk; omega
          generalize bs[k]?.getD 0 = x at *
          obtain ⟨y, rfl⟩ : ∃ y : Nat, x = (y : Int) := ⟨x.toNat, by omega⟩
          have hy : y < 20 := by omega
          have r0 := HA2.out.cell hy
          have r1 := HA2.out.frozen y
          have hw2 := HA2.out.lt
          clear hbr
          have HM : Hid (m8 lf = min lf 8) := by unfold Hid m8; split <;> omega
          rw [HM.out] at HST HMK
          have HA3 : Hid (ArI (wr.setCell ⟨w.heap.size + 1, y, none⟩ (.int .i64 (min lf 8))) (w.heap.size + 1) (DK (k + 1))) := by
            have := HA2.out.set y (min lf 8)
            rw [HST.out]
            exact this
          have HY3 : Hid (ArI (wr.setCell ⟨w.heap.size + 1, y, none⟩ (.int .i64 (min lf 8))) w.heap.size (fun _ => 0)) := HY2.out.store (by simp) _
          have HB3 : Hid (Below w.heap.size w (wr.setCell ⟨w.heap.size + 1, y, none⟩ (.int .i64 (min lf 8)))) := HB2.out.setCell (by simp) _
          generalize DK k y = rv at *
          go_wp2
          go_roundw
          case rel => exact ⟨k + 1, lf - min lf 8, by omega, by go_num, by go_num, HMK.out, HB3.out, HA3.out, HY3.out⟩
          case measure => simp [intOf]; omega
        · have HE : Hid (DK k = DU (j + 1)) := by unfold Hid; rw [HDJ.out, show k = nB by omega]
          go_wp2
          go_roundw
          case rel => exact ⟨j + 1, by omega, by go_num, HB2.out, by rw [← HE.out]; exact HA2.out, HY2.out⟩
          case measure => simp [intOf]; omega
    · have HGN : Hid (DU j = DU n) := by unfold Hid; rw [show j = n by omega]
      have HL : Hid (_ = _) := HA.out.load
      obtain ⟨X, hst, hax, hsx, hoth, hx1, hx2, hx3⟩ := HY.out.put (DU j)
      have HST : Hid (_ = _) := hst
      have HAX : Hid (ArI X w.heap.size (DU n)) := HGN.out ▸ hax
      have HBX : Hid (Below w.heap.size w X) := HBL.out.trans ⟨hx1, hx2, hx3, by omega, fun c hc => hoth c (by omega)⟩
      clear hst hax hsx hoth hx1 hx2 hx3
      generalize DU j = g1 at HL HST
      go_wp2_with (first | refine wpList_load_run rfl _ 100 rfl _ rfl _ _ HL.out ?_ | refine wpList_store_run rfl _ _ 100 rfl _ _ rfl rfl _ HST.out ?_)
      refine bodyPost_ret (v := .agg (arrI (DU n))) ?_ rfl ⟨rfl, HBX.out⟩
      have hlv := HAX.out.loadV
      simp [results, Try.results76, asAddr, Act.put, hlv]
theorem bytesDue_any {w : World} {v : Value} {ds : List ID} (h : Inos w v ds) (hi : insF ds = 0) :
    Calls Try.prog 76 #[v] w fun e w' => e = .returned (.agg (arrI (dueI ds ds.length))) ∧ Below w.heap.size w w' := by
  obtain ⟨a, cap, rfl, hm, hc⟩ := h.open'
  exact bytesDue_walk w a _ cap ds rfl (insF_ten hi) hi hc

def bytF (d : FD) : Int := if sizesB d then 0 else 1
set_option maxHeartbeats 3200000 in
theorem bytesFault_any (w : World) (aI : Option Addr) (nI cI : Nat) (aD : Option Addr) (nD cD : Nat) (d : FD) (h : FsR w (.slice aI nI cI) (.slice aD nD cD) d) (hi : insF d.1 = 0) (h20 : d.2.length = 20) :
    Calls Try.prog 40 #[.agg #[.slice aI nI cI, .slice aD nD cD]] w fun e w' => e = .returned (.int .i64 (bytF d)) ∧ Below w.heap.size w w' := by
  have HBD : Hid (∀ W, Below w.heap.size w W → Calls Try.prog 76 #[.slice aI nI cI] W fun e w' => e = .returned (.agg (arrI (dueI d.1 d.1.length))) ∧ Below W.heap.size W w') := fun W hW => bytesDue_any (h.1.later hW) hi
  have HX : Hid (Bx (w.alloc (.cells #[.slice aI nI cI, .slice aD nD cD] 30)) w.heap.size [.slice aI nI cI, .slice aD nD cD]) := Bx.new w [.slice aI nI cI, .slice aD nD cD] _
  obtain ⟨_, _, e2, hm2, hc⟩ := h.2.open'
  simp only [Value.slice.injEq] at e2
  obtain ⟨rfl, rfl, rfl⟩ := e2
  rw [h20] at HX hc ⊢
  have HC : Hid (AtYs w aD 20 d.2) := hc
  have HSO : Hid (∀ i, sizOK d i = decide ((((d.2[i]?.getD []).length : Nat) : Int) = dueI d.1 d.1.length i)) := fun i => rfl
  clear hc h hm2 hi h20
  generalize dueI d.1 d.1.length = DU at *
  go_enter Try.func40, Try.ntmps40
  go_wp2_with fail
  refine (HBD.out _ (later1 _ _)).mono ?_
  rintro e w1 ⟨rfl, hb1⟩
  have HB1 : Hid (Below w.heap.size w w1) := (later1 _ _).trans (hb1.mono (by simp))
  have HX1 : Hid (Bx w1 w.heap.size [.slice aI nI cI, .slice aD 20 cD]) := HX.out.later hb1
  clear hb1 HX HBD
  have hz1 : w.heap.size < w1.heap.size := HX1.out.lt
  obtain ⟨X, hst, hax, hsx, hoth, hx1, hx2, hx3⟩ := (ArI.new w1 (fun _ => 0)).put DU
  have HST : Hid (_ = _) := hst
  have HAX : Hid (ArI X w1.heap.size DU) := hax
  have HBX : Hid (Below w1.heap.size w1 X) := (later1 w1 (.cells (arrI fun _ => 0) 100)).trans ⟨hx1, hx2, hx3, by omega, fun c hc => hoth c (by omega)⟩
  have HXX : Hid (Bx X w.heap.size [.slice aI nI cI, .slice aD 20 cD]) := HX1.out.later HBX.out
  have HBW : Hid (Below w.heap.size w X) := HB1.out.trans (HBX.out.mono HB1.out.size)
  clear hst hax hsx hoth hx1 hx2 hx3
  have x1 := HXX.out 1 _ rfl
  go_wp2_with (first | refine wpList_store_run rfl _ _ 100 rfl _ _ rfl rfl _ HST.out ?_ | fail)
  clear HST
  go_loopw [12] (fun i wr => ∃ k : Nat, k ≤ 20 ∧ i = .int .i64 k ∧ wr = X ∧ ∀ q, q < k → sizOK d q = true) (fun i _ => 20 - (intOf i).toNat)
  case atStart => exact ⟨0, by omega, rfl, rfl, fun q hq => by omega⟩
  case round =>
    obtain ⟨k, hk, rfl, rfl, hz⟩ := hrel
    have HZ : Hid (∀ q, q < k → sizOK d q = true) := hz
    clear hz x1
    by_cases hlk : k < 20
    · obtain ⟨bD, oD, ua, uc, rfl, d0, _⟩ := HC.out k hlk
      replace d0 := cell_later HBW.out d0
      have r0 := HAX.out.cell hlk
      have HSK : Hid (sizOK d k = decide ((((d.2[k]?.getD []).length : Nat) : Int) = DU k)) := HSO.out k
      have HY : Hid (sizOK d k = true → ∀ q, q < k + 1 → sizOK d q = true) := fun hh q hq => by
        by_cases e : q = k
        · subst e; exact hh
        · exact HZ.out q (by omega)
      have HNO : Hid (sizOK d k = false → bytF d = 1) := fun hh => by unfold bytF; rw [sizesB_no hlk hh]; rfl
      generalize (d.2[k]?.getD []).length = ln at *
      generalize DU k = du at *
      by_cases he : ((ln : Nat) : Int) = du
      · have hb : (((ln : Nat) : Int) != du) = false := by simpa using he
        have HR : Hid (∀ q, q < k + 1 → sizOK d q = true) := HY.out (by rw [HSK.out, decide_eq_true he])
        clear he HSK HY HNO
        go_wp2
        go_roundw
        case rel => exact ⟨k + 1, by omega, by go_num, by first | rfl | trivial, HR.out⟩
        case measure => simp [intOf]; omega
      · have hb : (((ln : Nat) : Int) != du) = true := by simpa using he
        have HR : Hid (bytF d = 1) := HNO.out (by rw [HSK.out, decide_eq_false he])
        clear he HSK HY HNO
        go_wp2
        go_ret
        exact ⟨ret_int HR.out.symm, HBW.out⟩
    · have HR : Hid (bytF d = 0) := by unfold Hid bytF; rw [sizesB_yes fun i hi => HZ.out i (by omega)]; rfl
      go_wp2
      go_ret
      exact ⟨ret_int HR.out.symm, HBW.out⟩

/-- The program's codes up to entries are the specification's. -/
theorem fsE_eq (d : FD) : fsE d = if insF d.1 = 0 then (if d.1.length = 0 ∨ ¬ kindAt d.1 0 = 2 then 1 else if dataF d = 0 then lostF d.1 else dataF d) else insF d.1 := by
  unfold fsE dataF formB
  by_cases h1 : insF d.1 = 0
  · rw [if_pos h1, if_pos h1]
    by_cases h2 : d.1.length = 0 ∨ ¬ kindAt d.1 0 = 2
    · rw [if_pos h2, if_pos (by rcases h2 with h | h <;> simp [h])]
    · rw [if_neg h2]
      have h2a : ¬ d.1.length = 0 := fun e => h2 (Or.inl e)
      have h2b : kindAt d.1 0 = 2 := Classical.byContradiction fun e => h2 (Or.inr e)
      by_cases h3 : d.2.length = 20
      · rw [if_neg (by simp [h2b, h3]; intro e; exact h2a (by rw [e]; rfl)), if_pos h3]
        by_cases h4 : fstNZ (manyF d.2) d.2.length = 0
        · rw [if_pos h4]
          by_cases h5 : onceB d.1 20 = true
          · rw [if_pos h5]; simp [h4, h5]
          · rw [if_neg h5]; simp [h4, h5]
        · rw [if_neg h4, if_neg h4, if_neg h4]
      · rw [if_pos (by simp [h3]), if_neg h3]; simp
  · rw [if_neg h1, if_neg h1]
set_option maxHeartbeats 3200000 in
theorem reachFault_any (w : World) (aI : Option Addr) (nI cI : Nat) (aD : Option Addr) (nD cD : Nat) (d : FD) (h : FsR w (.slice aI nI cI) (.slice aD nD cD) d) (hs : sizeInos d.1 ≤ 1048576) :
    Calls Try.prog 38 #[.agg #[.slice aI nI cI, .slice aD nD cD]] w fun e w' => e = .returned (.int .i64 (fsE d)) ∧ Below w.heap.size w w' := by
  have HF : Hid (∀ W, Below w.heap.size w W → Calls Try.prog 71 #[.slice aI nI cI] W fun e w' => e = .returned (.int .i64 (insF d.1)) ∧ Below W.heap.size W w') := fun W hW => inodesFault_any (h.1.later hW) hs
  have HE : Hid (fsE d = if insF d.1 = 0 then (if d.1.length = 0 ∨ ¬ kindAt d.1 0 = 2 then 1 else if dataF d = 0 then lostF d.1 else dataF d) else insF d.1) := fsE_eq d
  have HX : Hid (Bx (w.alloc (.cells #[.slice aI nI cI, .slice aD nD cD] 30)) w.heap.size [.slice aI nI cI, .slice aD nD cD]) := Bx.new w [.slice aI nI cI, .slice aD nD cD] _
  by_cases h1 : insF d.1 = 0
  rotate_left
  · have HR : Hid (fsE d = insF d.1) := by unfold Hid; rw [HE.out, if_neg h1]
    have hb : (insF d.1 != 0) = true := by simpa using h1
    clear HE h1 h
    generalize insF d.1 = r at *
    go_enter Try.func38, Try.ntmps38
    go_wp2_with fail
    refine (HF.out _ (later1 _ _)).mono ?_
    rintro e w1 ⟨rfl, hb1⟩
    have HB1 : Hid (Below w.heap.size w w1) := (later1 _ _).trans (hb1.mono (by simp))
    clear hb1
    go_wp2
    go_ret
    exact ⟨ret_int HR.out.symm, HB1.out⟩
  · have HD : Hid (∀ W, Below w.heap.size w W → Calls Try.prog 72 #[.agg #[.slice aI nI cI, .slice aD nD cD]] W fun e w' => e = .returned (.int .i64 (dataF d)) ∧ Below W.heap.size W w') := fun W hW => dataFault_any W aI nI cI aD nD cD d (h.later hW) hs h1
    have HN : Hid (∀ W, Below w.heap.size w W → Calls Try.prog 73 #[.agg #[.slice aI nI cI, .slice aD nD cD]] W fun e w' => e = .returned (.int .i64 (lostF d.1)) ∧ Below W.heap.size W w') := fun W hW => entriesFault_any W aI nI cI aD nD cD d (h.later hW) hs h1
    obtain ⟨_, _, e2, hm2, hc⟩ := h.1.open'
    simp only [Value.slice.injEq] at e2
    obtain ⟨rfl, rfl, rfl⟩ := e2
    rw [h1, if_pos rfl] at HE
    rw [h1] at HF
    have HC : Hid (AtI w aI d.1.length d.1) := hc
    clear h h1 hc hs hm2
    by_cases h0 : d.1.length = 0
    · have hb0 : (((d.1.length : Nat) : Int) == 0) = true := by simp [h0]
      have HR : Hid (fsE d = 1) := by unfold Hid; rw [HE.out, if_pos (Or.inl h0)]
      clear HE h0
      generalize d.1.length = n at *
      go_enter Try.func38, Try.ntmps38
      go_wp2_with fail
      refine (HF.out _ (later1 _ _)).mono ?_
      rintro e w1 ⟨rfl, hb1⟩
      have HB1 : Hid (Below w.heap.size w w1) := (later1 _ _).trans (hb1.mono (by simp))
      have x0 := (HX.out.later hb1) 0 _ rfl
      clear hb1
      go_wp2
      go_ret
      exact ⟨ret_int HR.out.symm, HB1.out⟩
    · have hb0 : (((d.1.length : Nat) : Int) == 0) = false := by simp; intro e; exact h0 (by rw [e]; rfl)
      obtain ⟨b0, o0, rfl, hI⟩ := HC.out 0 (by omega)
      obtain ⟨_, _, _, _, kc, _⟩ := hI
      replace kc : w.cell? ⟨b0, o0, none⟩ = some (.int .i64 (kindAt d.1 0)) := by simpa [kindAt] using kc
      have h00 : 0 < d.1.length := by omega
      have HE2 : Hid (fsE d = if ¬ kindAt d.1 0 = 2 then 1 else if dataF d = 0 then lostF d.1 else dataF d) := by
        unfold Hid; rw [HE.out]; simp only [h0, false_or]
      clear HE h0 HC
      generalize d.1.length = n at *
      generalize kindAt d.1 0 = kd at *
      generalize dataF d = df at *
      generalize lostF d.1 = lf at *
      by_cases hk : kd = 2
      rotate_left
      · have hb2 : (kd != 2) = true := by simpa using hk
        have HR : Hid (fsE d = 1) := by unfold Hid; rw [HE2.out, if_pos hk]
        clear HE2 hk
        go_enter Try.func38, Try.ntmps38
        go_wp2_with fail
        refine (HF.out _ (later1 _ _)).mono ?_
        rintro e w1 ⟨rfl, hb1⟩
        have HB1 : Hid (Below w.heap.size w w1) := (later1 _ _).trans (hb1.mono (by simp))
        have x0 := (HX.out.later hb1) 0 _ rfl
        replace kc := cell_later HB1.out kc
        clear hb1
        go_wp2
        go_ret
        exact ⟨ret_int HR.out.symm, HB1.out⟩
      · have hb2 : (kd != 2) = false := by simpa using hk
        have HE3 : Hid (fsE d = if df = 0 then lf else df) := by unfold Hid; rw [HE2.out, if_neg (by simp [hk])]
        clear HE2 hk
        by_cases hd : df = 0
        · have hb3 : (df != 0) = false := by simpa using hd
          have HR : Hid (fsE d = lf) := by unfold Hid; rw [HE3.out, if_pos hd]
          clear HE3 hd
          go_enter Try.func38, Try.ntmps38
          go_wp2_with fail
          refine (HF.out _ (later1 _ _)).mono ?_
          rintro e w1 ⟨rfl, hb1⟩
          have HB1 : Hid (Below w.heap.size w w1) := (later1 _ _).trans (hb1.mono (by simp))
          have HX1 : Hid (Bx w1 w.heap.size _) := HX.out.later hb1
          have x0 := HX1.out 0 _ rfl
          have x1 := HX1.out 1 _ rfl
          replace kc := cell_later HB1.out kc
          clear hb1
          go_wp2_with fail
          refine (HD.out _ HB1.out).mono ?_
          rintro e w2 ⟨rfl, hb2'⟩
          have HB2 : Hid (Below w.heap.size w w2) := HB1.out.trans (hb2'.mono HB1.out.size)
          have y0 := (HX1.out.later hb2') 0 _ rfl
          have y1 := (HX1.out.later hb2') 1 _ rfl
          clear hb2' x0 x1 kc
          go_wp2_with fail
          refine (HN.out _ HB2.out).mono ?_
          rintro e w3 ⟨rfl, hb3'⟩
          have HB3 : Hid (Below w.heap.size w w3) := HB2.out.trans (hb3'.mono HB2.out.size)
          clear hb3'
          go_wp2
          go_ret
          exact ⟨ret_int HR.out.symm, HB3.out⟩
        · have hb3 : (df != 0) = true := by simpa using hd
          have HR : Hid (fsE d = df) := by unfold Hid; rw [HE3.out, if_neg hd]
          clear HE3 hd
          go_enter Try.func38, Try.ntmps38
          go_wp2_with fail
          refine (HF.out _ (later1 _ _)).mono ?_
          rintro e w1 ⟨rfl, hb1⟩
          have HB1 : Hid (Below w.heap.size w w1) := (later1 _ _).trans (hb1.mono (by simp))
          have HX1 : Hid (Bx w1 w.heap.size _) := HX.out.later hb1
          have x0 := HX1.out 0 _ rfl
          have x1 := HX1.out 1 _ rfl
          replace kc := cell_later HB1.out kc
          clear hb1
          go_wp2_with fail
          refine (HD.out _ HB1.out).mono ?_
          rintro e w2 ⟨rfl, hb2'⟩
          have HB2 : Hid (Below w.heap.size w w2) := HB1.out.trans (hb2'.mono HB1.out.size)
          clear hb2' x0 x1 kc
          go_wp2
          go_ret
          exact ⟨ret_int HR.out.symm, HB2.out⟩

theorem range_of {ds : List ID} (hi : insF ds = 0) (h : lostF ds = 0) : inRange ds := fun i hil x hx => by
  unfold entsOf entI at hx
  obtain ⟨e, he, rfl⟩ := List.mem_map.1 hx
  obtain ⟨k, hk, hke⟩ := List.getElem_of_mem he
  have := lost_in hi h i hil k hk
  rw [List.getElem?_eq_getElem hk, Option.getD_some, hke] at this
  exact this
theorem six_of {ds : List ID} (hi : insF ds = 0) (i : Nat) : (entsOf ds i).length ≤ 6 := by
  rw [entsOf_len]
  by_cases h : i < ds.length
  · exact ino_six (ins_ino hi i h)
  · rw [List.getElem?_eq_none (by omega)]; simp [id0]
set_option maxHeartbeats 3200000 in
theorem implFsI (w : World) (aI : Option Addr) (nI cI : Nat) (aD : Option Addr) (nD cD : Nat) (d : FD) (h : FsR w (.slice aI nI cI) (.slice aD nD cD) d) (hsi : sizeInos d.1 ≤ 1048576) :
    Calls Try.prog 11 #[.agg #[.slice aI nI cI, .slice aD nD cD]] w fun e w' => e = .returned (.int .i64 (fsF d)) ∧ Below w.heap.size w w' := by
  have HRF : Hid (∀ W, Below w.heap.size w W → Calls Try.prog 38 #[.agg #[.slice aI nI cI, .slice aD nD cD]] W fun e w' => e = .returned (.int .i64 (fsE d)) ∧ Below W.heap.size W w') := fun W hW => reachFault_any W aI nI cI aD nD cD d (h.later hW) hsi
  have HX : Hid (Bx (w.alloc (.cells #[.slice aI nI cI, .slice aD nD cD] 30)) w.heap.size [.slice aI nI cI, .slice aD nD cD]) := Bx.new w [.slice aI nI cI, .slice aD nD cD] _
  have HF : Hid (fsF d = if fsE d = 0 then (if linksB d.1 && sizesB d then 0 else 1) else fsE d) := rfl
  by_cases he : fsE d = 0
  rotate_left
  · have HR : Hid (fsF d = fsE d) := by unfold Hid; rw [HF.out, if_neg he]
    have hb : (fsE d != 0) = true := by simpa using he
    clear HF he h
    generalize fsE d = r at *
    go_enter Try.func11, Try.ntmps11
    go_wp2_with fail
    refine (HRF.out _ (later1 _ _)).mono ?_
    rintro e w1 ⟨rfl, hb1⟩
    have HB1 : Hid (Below w.heap.size w w1) := (later1 _ _).trans (hb1.mono (by simp))
    clear hb1
    go_wp2
    go_ret
    exact ⟨ret_int HR.out.symm, HB1.out⟩
  · obtain ⟨h1, h2, _, _, h5⟩ := fsE_zero he
    obtain ⟨g1, _, g3⟩ := formB_no h2
    have HT : Hid (∀ W, Below w.heap.size w W → Calls Try.prog 39 #[.agg #[.slice aI nI cI, .slice aD nD cD]] W fun e w' => e = .returned (.int .i64 (treeF d.1)) ∧ Below W.heap.size W w') := fun W hW => treeFault_any W aI nI cI aD nD cD d (h.later hW) hsi h1 (by omega) (insF_ten h1) (range_of h1 h5) (six_of h1)
    have HB : Hid (∀ W, Below w.heap.size w W → Calls Try.prog 40 #[.agg #[.slice aI nI cI, .slice aD nD cD]] W fun e w' => e = .returned (.int .i64 (bytF d)) ∧ Below W.heap.size W w') := fun W hW => bytesFault_any W aI nI cI aD nD cD d (h.later hW) h1 g3
    have HR : Hid (fsF d = if linksB d.1 && sizesB d then 0 else 1) := by unfold Hid; rw [HF.out, if_pos he]
    have HTF : Hid (treeF d.1 = if linksB d.1 then 0 else 1) := rfl
    have HBF : Hid (bytF d = if sizesB d then 0 else 1) := rfl
    rw [he] at HRF
    rw [HTF.out] at HT
    rw [HBF.out] at HB
    clear HF he h h1 h2 h5 g1 g3 HTF HBF
    generalize linksB d.1 = lb at *
    generalize sizesB d = sb at *
    cases lb with
    | false =>
      go_enter Try.func11, Try.ntmps11
      go_wp2_with fail
      refine (HRF.out _ (later1 _ _)).mono ?_
      rintro e w1 ⟨rfl, hb1⟩
      have HB1 : Hid (Below w.heap.size w w1) := (later1 _ _).trans (hb1.mono (by simp))
      have x0 := (HX.out.later hb1) 0 _ rfl
      have x1 := (HX.out.later hb1) 1 _ rfl
      clear hb1
      go_wp2_with fail
      refine (HT.out _ HB1.out).mono ?_
      rintro e w2 ⟨rfl, hb2⟩
      have HB2 : Hid (Below w.heap.size w w2) := HB1.out.trans (hb2.mono HB1.out.size)
      clear hb2 x0 x1
      go_wp2
      go_ret
      exact ⟨ret_int HR.out.symm, HB2.out⟩
    | true =>
      cases sb
      all_goals
        go_enter Try.func11, Try.ntmps11
        go_wp2_with fail
        refine (HRF.out _ (later1 _ _)).mono ?_
        rintro e w1 ⟨rfl, hb1⟩
        have HB1 : Hid (Below w.heap.size w w1) := (later1 _ _).trans (hb1.mono (by simp))
        have HX1 : Hid (Bx w1 w.heap.size _) := HX.out.later hb1
        have x0 := HX1.out 0 _ rfl
        have x1 := HX1.out 1 _ rfl
        clear hb1
        go_wp2_with fail
        refine (HT.out _ HB1.out).mono ?_
        rintro e w2 ⟨rfl, hb2⟩
        have HB2 : Hid (Below w.heap.size w w2) := HB1.out.trans (hb2.mono HB1.out.size)
        have y0 := (HX1.out.later hb2) 0 _ rfl
        have y1 := (HX1.out.later hb2) 1 _ rfl
        clear hb2 x0 x1
        go_wp2_with fail
        refine (HB.out _ HB2.out).mono ?_
        rintro e w3 ⟨rfl, hb3⟩
        have HB3 : Hid (Below w.heap.size w w3) := HB2.out.trans (hb3.mono HB2.out.size)
        clear hb3
        go_wp2
        go_ret
        exact ⟨ret_int HR.out.symm, HB3.out⟩
theorem implFsU (w : World) (aI : Option Addr) (nI cI : Nat) (aD : Option Addr) (nD cD : Nat) (d : FD) (h : FsR w (.slice aI nI cI) (.slice aD nD cD) d) (hs : sizeFs d ≤ 1048576) :
    Calls Try.prog 11 #[.agg #[.slice aI nI cI, .slice aD nD cD]] w fun e w' => e = .returned (.int .i64 (fsF d)) ∧ Below w.heap.size w w' :=
  implFsI w aI nI cI aD nD cD d h (by unfold sizeFs at hs; omega)
end Go.Proofs.Ytdgnhcfnhbkmlal
