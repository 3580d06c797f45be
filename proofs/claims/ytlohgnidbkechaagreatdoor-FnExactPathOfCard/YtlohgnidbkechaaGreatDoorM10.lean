/- The specification: what is wrong of a file system. The bytes of a file: the specification. Lists of inodes are marked, and the marks are held. Lists of lists of bytes, and file systems: the marks are held. Answers that hold a file system: compared, marked, held. -/
import Derived.Test.YtlohgnidbkechaaGreatDoorM09
import Derived.Test.YtlohgnidbkechaaGreatDoorM05
import Derived.Test.YtlohgnidbkechaaGreatDoorM08
import Derived.Deep.RegionHeld3
import Derived.Test.YtlohgnidbkechaaGreatDoorM04
namespace Go.Proofs.YtlohgnidbkechaaGreatDoor
open Go.RowKit
set_option maxRecDepth 100000

def fsF (d : FD) : Int := if fsE d = 0 then (if linksB d.1 && sizesB d then 0 else 1) else fsE d
theorem fsE_zero {d : FD} (h : fsE d = 0) : insF d.1 = 0 ∧ formB d = false ∧ fstNZ (manyF d.2) d.2.length = 0 ∧ onceB d.1 20 = true ∧ lostF d.1 = 0 := by
  unfold fsE at h
  by_cases h1 : insF d.1 = 0
  · rw [if_pos h1] at h
    by_cases h2 : formB d = true
    · rw [if_pos h2] at h; omega
    · rw [if_neg h2] at h
      by_cases h3 : fstNZ (manyF d.2) d.2.length = 0
      · rw [if_pos h3] at h
        by_cases h4 : onceB d.1 20 = true
        · rw [if_pos h4] at h
          exact ⟨h1, by simpa using h2, h3, h4, h⟩
        · rw [if_neg h4] at h; omega
      · rw [if_neg h3] at h; exact absurd h h3
  · rw [if_neg h1] at h; exact absurd h h1
theorem formB_no {d : FD} (h : formB d = false) : ¬ d.1.length = 0 ∧ kindAt d.1 0 = 2 ∧ d.2.length = 20 := by
  unfold formB at h
  simp at h
  obtain ⟨⟨h1, h2⟩, h3⟩ := h
  exact ⟨fun e => h1 (List.eq_nil_of_length_eq_zero e), h2, h3⟩
theorem insF_ten {ds : List ID} (h : insF ds = 0) : ds.length ≤ 10 := by
  unfold insF at h
  by_cases h1 : 10 < ds.length
  · rw [if_pos h1] at h; omega
  · omega
theorem lost_in {ds : List ID} (hi : insF ds = 0) (h : lostF ds = 0) : ∀ j, j < ds.length → ∀ k, k < (ds[j]?.getD id0).2.2.2.2.length → 0 ≤ ((ds[j]?.getD id0).2.2.2.2[k]?.getD en0).2 ∧ ((ds[j]?.getD id0).2.2.2.2[k]?.getD en0).2 < (ds.length : Int) := fun j hj k hk => by
  refine ⟨ino_ent (ins_ino hi j hj) k hk, ?_⟩
  cases hl : lostB ds ((ds[j]?.getD id0).2.2.2.2[k]?.getD en0).2 with
  | true => rw [lost_yes hj hk hl] at h; omega
  | false =>
    unfold lostB at hl
    simp at hl
    omega
theorem ins_blk {ds : List ID} (h : insF ds = 0) (j k : Nat) (hj : j < ds.length) (hk : k < (ds[j]?.getD id0).2.2.2.1.length) : 0 ≤ (ds[j]?.getD id0).2.2.2.1[k]?.getD 0 ∧ (ds[j]?.getD id0).2.2.2.1[k]?.getD 0 < 20 := by
  have := insF_blocks h j k hj hk
  omega

set_option maxHeartbeats 1600000 in
theorem l6Fault_any (w : World) (b o : Nat) (d : FD) (aI : Option Addr) (cI : Nat) (aD : Option Addr) (cD : Nat) (h : FsX w b o d aI cI aD cD) (hs : sizeInos d.1 ≤ 1048576) :
    Calls Tryz.prog 25 #[.pointer (some ⟨b, o, none⟩)] w fun e w' => e = .returned (.int .i64 (fsF d)) ∧ Below w.heap.size w w' := by
  have HE : Hid (Calls Tryz.prog 53 #[.pointer (some ⟨b, o, none⟩)] w fun e w' => e = .returned (.int .i64 (fsE d)) ∧ Below w.heap.size w w') := l6Entries_any w b o d aI cI aD cD h hs
  have HF : Hid (fsF d = if fsE d = 0 then (if linksB d.1 && sizesB d then 0 else 1) else fsE d) := rfl
  by_cases he : fsE d = 0
  rotate_left
  · have HR : Hid (fsF d = fsE d) := by unfold Hid; rw [HF.out, if_neg he]
    have hb : (fsE d != 0) = true := by simpa using he
    clear HF he h
    generalize fsE d = r at *
    go_enter Tryz.func25, Tryz.ntmps25
    go_wp2_with fail
    refine HE.out.mono ?_
    rintro e w1 ⟨rfl, hb1⟩
    have HB0 : Hid (Below w.heap.size w w1) := hb1
    clear hb1
    go_wp2
    go_ret
    exact ⟨ret_int HR.out.symm, HB0.out⟩
  · obtain ⟨h1, h2, h3, h4, h5⟩ := fsE_zero he
    obtain ⟨g1, g2, g3⟩ := formB_no h2
    have HL : Hid (∀ W, Below w.heap.size w W → Calls Tryz.prog 54 #[.pointer (some ⟨b, o, none⟩)] W fun e w' => e = .returned (.bool (linksB d.1)) ∧ Below W.heap.size W w') := fun W hW => l6Links_any W b o d aI cI aD cD (h.later hW) hs g1 (insF_ten h1) (lost_in h1 h5)
    have HS : Hid (∀ W, Below w.heap.size w W → Calls Tryz.prog 55 #[.pointer (some ⟨b, o, none⟩)] W fun e w' => e = .returned (.bool (sizesB d)) ∧ Below W.heap.size W w') := fun W hW => l6Sizes_any W b o d aI cI aD cD (h.later hW) (insF_ten h1) g3 h1 (ins_blk h1)
    have HR : Hid (fsF d = if linksB d.1 && sizesB d then 0 else 1) := by unfold Hid; rw [HF.out, if_pos he]
    rw [he] at HE
    clear HF he h h1 h2 h3 h4 h5 g1 g2 g3
    generalize linksB d.1 = lb at *
    generalize sizesB d = sb at *
    cases lb with
    | false =>
      go_enter Tryz.func25, Tryz.ntmps25
      go_wp2_with fail
      refine HE.out.mono ?_
      rintro e w1 ⟨rfl, hb1⟩
      have HB0 : Hid (Below w.heap.size w w1) := hb1
      clear hb1
      go_wp2_with fail
      refine (HL.out _ HB0.out).mono ?_
      rintro e w2 ⟨rfl, hb2⟩
      have HB2 : Hid (Below w.heap.size w w2) := HB0.out.trans (hb2.mono HB0.out.size)
      clear hb2
      go_wp2
      go_ret
      exact ⟨ret_int HR.out.symm, HB2.out⟩
    | true =>
      cases sb
      all_goals
        go_enter Tryz.func25, Tryz.ntmps25
        go_wp2_with fail
        refine HE.out.mono ?_
        rintro e w1 ⟨rfl, hb1⟩
        have HB0 : Hid (Below w.heap.size w w1) := hb1
        clear hb1
        go_wp2_with fail
        refine (HL.out _ HB0.out).mono ?_
        rintro e w2 ⟨rfl, hb2⟩
        have HB2 : Hid (Below w.heap.size w w2) := HB0.out.trans (hb2.mono HB0.out.size)
        clear hb2
        go_wp2_with fail
        refine (HS.out _ HB2.out).mono ?_
        rintro e w3 ⟨rfl, hb3⟩
        have HB3 : Hid (Below w.heap.size w w3) := HB2.out.trans (hb3.mono HB2.out.size)
        clear hb3
        go_wp2
        go_ret
        exact ⟨ret_int HR.out.symm, HB3.out⟩

theorem FsX.box {w : World} {a1 : Option Addr} {n1 c1 : Nat} {a2 : Option Addr} {n2 c2 : Nat} {d : FD} (h : FsR w (.slice a1 n1 c1) (.slice a2 n2 c2) d) (t : TypeId) : FsX (w.alloc (.cells #[.slice a1 n1 c1, .slice a2 n2 c2] t)) w.heap.size 0 d a1 c1 a2 c2 ∧ n1 = d.1.length ∧ n2 = d.2.length := by
  obtain ⟨_, _, e1, _, _⟩ := h.1.open'
  obtain ⟨_, _, e2, _, _⟩ := h.2.open'
  simp only [Value.slice.injEq] at e1 e2
  obtain ⟨rfl, rfl, rfl⟩ := e1
  obtain ⟨rfl, rfl, rfl⟩ := e2
  have hx := Bx.new w [.slice a1 d.1.length c1, .slice a2 d.2.length c2] t
  exact ⟨⟨hx 0 _ rfl, hx 1 _ rfl, h.1.later (later1 _ _), h.2.later (later1 _ _)⟩, rfl, rfl⟩
end Go.Proofs.YtlohgnidbkechaaGreatDoor

namespace Go.Proofs.YtlohgnidbkechaaGreatDoor
open Go.RowKit
set_option maxRecDepth 100000

/-- The bytes of the first k blocks of an inode. -/
def bytK (d : FD) (bs : List Int) (k : Nat) : List UInt8 := (bs.take k).flatMap fun b => d.2[b.toNat]?.getD []
def bytL (d : FD) (j : Nat) : List UInt8 := bytK d (d.1[j]?.getD id0).2.2.2.1 (d.1[j]?.getD id0).2.2.2.1.length
def bytR (d : FD) (x : Int) : Int × List UInt8 :=
  if fsF d = 0 then (if 0 ≤ x ∧ x < (d.1.length : Int) then (if kindAt d.1 x.toNat = 2 then (9, []) else if kindAt d.1 x.toNat = 0 then (4, []) else (0, bytL d x.toNat)) else (3, [])) else (fsF d, [])
theorem bytK_next (d : FD) (bs : List Int) (k : Nat) (hk : k < bs.length) : bytK d bs (k + 1) = bytK d bs k ++ (d.2[(bs[k]?.getD 0).toNat]?.getD []) := by
  unfold bytK
  rw [List.take_succ_eq_append_getElem hk, List.flatMap_append]
  simp [List.getElem?_eq_getElem hk]
theorem bytK_len (d : FD) (bs : List Int) (h8 : ∀ i : Nat, (d.2[i]?.getD []).length ≤ 8) : ∀ k, k ≤ bs.length → (bytK d bs k).length ≤ 8 * k
  | 0, _ => by simp [bytK]
  | k + 1, hk => by
    rw [bytK_next d bs k hk, List.length_append]
    have h1 := bytK_len d bs h8 k (by omega)
    have h2 := h8 (bs[k]?.getD 0).toNat
    omega
theorem many_eight {zss : List (List UInt8)} (h : fstNZ (manyF zss) zss.length = 0) (i : Nat) : (zss[i]?.getD []).length ≤ 8 := by
  by_cases hi : i < zss.length
  · have := fstNZ_inv h i hi
    unfold manyF at this
    by_cases h8 : 8 < (zss[i]?.getD []).length
    · rw [if_pos h8] at this; omega
    · omega
  · rw [List.getElem?_eq_none (by omega)]; simp

set_option maxHeartbeats 3200000 in
theorem l6Bytes_any (w : World) (b o : Nat) (d : FD) (aI : Option Addr) (cI : Nat) (aD : Option Addr) (cD : Nat) (j : Nat) (h : FsX w b o d aI cI aD cD) (hj : j < d.1.length) (_hn : d.1.length ≤ 10) (h20 : d.2.length = 20) (h8 : ∀ i : Nat, (d.2[i]?.getD []).length ≤ 8) (h4 : (d.1[j]?.getD id0).2.2.2.1.length ≤ 4)
    (hbl : ∀ k : Nat, k < (d.1[j]?.getD id0).2.2.2.1.length → 0 ≤ (d.1[j]?.getD id0).2.2.2.1[k]?.getD 0 ∧ (d.1[j]?.getD id0).2.2.2.1[k]?.getD 0 < 20) :
    Calls Tryz.prog 69 #[.pointer (some ⟨b, o, none⟩), .int .i64 (j : Int)] w fun e w' => ∃ v, e = .returned v ∧ Below w.heap.size w w' ∧ WdY w' w.heap.size v (bytL d j) := by
  have HBK : Hid (∀ k : Nat, k < (d.1[j]?.getD id0).2.2.2.1.length → 0 ≤ (d.1[j]?.getD id0).2.2.2.1[k]?.getD 0 ∧ (d.1[j]?.getD id0).2.2.2.1[k]?.getD 0 < 20) := hbl
  obtain ⟨_, _, e1, hm1, hAt⟩ := h.ins.open'
  simp only [Value.slice.injEq] at e1
  obtain ⟨rfl, -, rfl⟩ := e1
  obtain ⟨_, _, e2, hm2, hBt⟩ := h.byt.open'
  simp only [Value.slice.injEq] at e2
  obtain ⟨rfl, -, rfl⟩ := e2
  have c0 := h.c0
  have c1 := h.c1
  rw [h20] at c1 hBt
  have HBT : Hid (AtYs w aD 20 d.2) := hBt
  obtain ⟨b0, o0, rfl, hI⟩ := hAt j hj
  obtain ⟨aB, cB, _, _, _, _, _, k3, _, h5⟩ := hI
  obtain ⟨_, _, e3, hm3, hI1⟩ := h5.2.1.open'
  simp only [Value.slice.injEq] at e3
  obtain ⟨rfl, _, rfl⟩ := e3
  have HNX : Hid (∀ k, k < (d.1[j]?.getD id0).2.2.2.1.length → bytK d (d.1[j]?.getD id0).2.2.2.1 (k + 1) = bytK d (d.1[j]?.getD id0).2.2.2.1 k ++ (d.2[((d.1[j]?.getD id0).2.2.2.1[k]?.getD 0).toNat]?.getD [])) := fun k hk => bytK_next d _ k hk
  have HLN : Hid (∀ k, k ≤ (d.1[j]?.getD id0).2.2.2.1.length → (bytK d (d.1[j]?.getD id0).2.2.2.1 k).length ≤ 8 * k) := bytK_len d _ h8
  have H8 : Hid (∀ i : Nat, (d.2[i]?.getD []).length ≤ 8) := h8
  have HBL : Hid (bytL d j = bytK d (d.1[j]?.getD id0).2.2.2.1 (d.1[j]?.getD id0).2.2.2.1.length) := rfl
  rw [HBL.out]
  have hjn : (j : Int) < ((d.1.length : Nat) : Int) := by omega
  clear h hbl hAt hBt hm1 hm2 h20 h5 hm3 h8 HBL
  generalize (d.1[j]?.getD id0).2.2.2.1 = bs at *
  have HIB : Hid (At1 w aB bs.length (fun k => .int .i64 (bs[k]?.getD 0))) := hI1
  have HB0 : Hid (bytK d bs 0 = []) := by unfold Hid bytK; simp
  clear hI1
  generalize bytK d bs = BK at *
  obtain ⟨nB, hnB⟩ : ∃ nB, bs.length = nB := ⟨_, rfl⟩
  rw [hnB] at k3 HIB HBK HNX HLN h4 ⊢
  clear hnB
  generalize d.1.length = n at *
  have HW0 : Hid (WdY (w.alloc (.cells #[] 5)) w.heap.size (.slice (some ⟨w.heap.size, 0, none⟩) 0 0) []) := WdY.lit0 w _ (Nat.le_refl _)
  have hlt0 : b < w.heap.size := lt_of_cell c0
  have hlt1 : b0 < w.heap.size := lt_of_cell k3
  go_enter Tryz.func69, Tryz.ntmps69
  go_wp2
  go_loopw [5, 7] (fun v i wr => ∃ k : Nat, k ≤ nB ∧ i = .int .i64 k ∧ Below w.heap.size w wr ∧ WdY wr w.heap.size v (BK k)) (fun _ i _ => nB - (intOf i).toNat)
  case atStart => exact ⟨0, Nat.zero_le _, rfl, later1 _ _, by rw [HB0.out]; exact HW0.out⟩
  case round =>
    obtain ⟨k, hk, rfl, hbl, hw⟩ := hrel
    have HBL : Hid (Below w.heap.size w wr) := hbl
    have HWD : Hid (WdY wr w.heap.size _ (BK k)) := hw
    obtain ⟨av, cv, rfl⟩ := hw.shape
    have k3r := cell_later hbl k3
    have c1r := cell_later hbl c1
    clear hbl hw HW0
    by_cases hlk : k < nB
    · obtain ⟨b1, o1, rfl, p1⟩ := HIB.out k hlk
      replace p1 : w.cell? ⟨b1, o1 + k, none⟩ = some (.int .i64 (bs[k]?.getD 0)) := p1
      have p1r := cell_later HBL.out p1
      have hbr := HBK.out k hlk
      have HN := HNX.out k hlk
      have hln := HLN.out k (by omega)
      generalize bs[k]?.getD 0 = x at *
      obtain ⟨y, rfl⟩ : ∃ y : Nat, x = (y : Int) := ⟨x.toNat, by omega⟩
      have hy : y < 20 := by omega
      have hy' : (y : Int) < 20 := by omega
      obtain ⟨bD, oD, ua, uc, rfl, d0, iy⟩ := HBT.out y hy
      have d0r := cell_later HBL.out d0
      have h8y := H8.out y
      have HNX' : Hid (BK (k + 1) = BK k ++ d.2[y]?.getD []) := by unfold Hid; simpa using HN
      clear HN hbr
      generalize d.2[y]?.getD [] = ys at *
      have hap : ∃ v' X, (Builtin.append_ #[75, 75] 75 #[.slice av (BK k).length cv, .slice ua ys.length uc]).run Tryz.prog wr.drew = .ok v' X ∧ WdY X w.heap.size v' (BK (k + 1)) ∧ Below w.heap.size w X := by
        obtain ⟨v', X, h1, h2, h3⟩ := append_y wr.drew w.heap.size _ (BK k) ys ua ys.length uc (HWD.out.later (Below.refl _ _).drew) (by have := HBL.out.size; simpa using this) (by omega) (by omega) ((iy.later HBL.out).later (Below.refl _ _).drew)
        exact ⟨v', X, h1, by rw [HNX'.out]; exact h2, HBL.out.drew.trans h3⟩
      obtain ⟨v', X, hr, hwx, hbx⟩ := hap
      have HR : Hid (_ = _) := hr
      have HWX : Hid (WdY X w.heap.size v' (BK (k + 1))) := hwx
      have HBX : Hid (Below w.heap.size w X) := hbx
      have x1 := cell_later hbx c1
      have x2 := cell_later hbx k3
      have x3 := cell_later hbx p1
      have x4 := cell_later hbx d0
      clear hr hwx hbx iy HNX' HWD HNX HLN HBK
      generalize (BK k).length = ln at *
      generalize ys.length = ly at *
      go_wp2_with fail
      go_region_held3 (fun W => W.cell? ⟨b, o + 1, none⟩ = some (.slice (some ⟨bD, oD, none⟩) 20 cD) ∧ W.cell? ⟨b0, o0 + j * 5 + 3, none⟩ = some (.slice (some ⟨b1, o1, none⟩) nB cB) ∧ W.cell? ⟨b1, o1 + k, none⟩ = some (.int .i64 (y : Int)) ∧ W.cell? ⟨bD, oD + y, none⟩ = some (.slice ua ly uc)) (go_keep) (first
        | (refine step_append_run rfl _ _ _ rfl _ _ rfl rfl _ _ HR.out ?_)
        | fail)
      all_goals
        go_wp2
        go_roundw
        case rel => exact ⟨k + 1, by omega, by go_num, HBX.out, HWX.out⟩
        case measure => simp [intOf]; omega
    · have HE : Hid (BK k = BK nB) := by unfold Hid; rw [show k = nB by omega]
      have HWN : Hid (WdY wr w.heap.size (.slice av (BK k).length cv) (BK nB)) := by rw [← HE.out]; exact HWD.out
      generalize (BK k).length = ln at *
      go_wp2
      go_ret
      exact ⟨_, rfl, HBL.out, HWN.out⟩

set_option maxHeartbeats 400000 in
theorem l6Place_any (w : World) (b o : Nat) (d : FD) (aI : Option Addr) (cI : Nat) (aD : Option Addr) (cD : Nat) (x : Int) (h : FsX w b o d aI cI aD cD) :
    Calls Tryz.prog 34 #[.pointer (some ⟨b, o, none⟩), .int .i64 x] w fun e w' => e = .returned (.bool (decide (0 ≤ x ∧ x < (d.1.length : Int)))) ∧ w' = w := by
  obtain ⟨_, _, e1, hm1, _⟩ := h.ins.open'
  have hm := hm1.1
  unfold maxLen at hm
  have c0 := h.c0
  have HE : Hid ((decide (0 ≤ x) && decide (x ≤ ((d.1.length : Nat) : Int) - 1)) = decide (0 ≤ x ∧ x < (d.1.length : Int))) := by
    unfold Hid
    by_cases hq : 0 ≤ x ∧ x < (d.1.length : Int)
    · rw [decide_eq_true hq, decide_eq_true hq.1, decide_eq_true (by omega)]; rfl
    · rw [decide_eq_false hq, Bool.and_eq_false_iff]
      by_cases h0 : 0 ≤ x
      · exact Or.inr (decide_eq_false (by omega))
      · exact Or.inl (decide_eq_false h0)
  clear h e1 hm1
  generalize d.1.length = n at *
  go_enter Tryz.func34, Tryz.ntmps34
  go_wp2_with fail
  refine (l1In_any _ _ _ _).mono ?_
  rintro e w1 ⟨rfl, rfl⟩
  go_wp2
  go_ret
  exact ⟨ret_bool HE.out, rfl⟩

theorem AnsYR.put {w W : World} {rb : Nat} {r : Int} {zs : List UInt8} {a : Option Addr} {n c : Nat} (hB : Below w.heap.size w W) (hrb : w.heap.size ≤ rb) (hY : BytO W (.slice a n c) zs (fun b => rb < b ∧ b < W.heap.size)) (x y : Value) : AnsYR w (r, zs) (.returned (.agg #[.int .i64 r, .slice a n c])) ((W.setCell ⟨rb, 0, none⟩ x).setCell ⟨rb, 1, none⟩ y) := by
  refine ⟨a, n, c, rfl, (hB.setCell (by simpa using hrb) _).setCell (by simpa using hrb) _, (hY.keep fun b hb _ => ?_).mono fun b hb => ?_⟩
  · rw [Below.heap_setCell _ _ _ _ (by simp; omega), Below.heap_setCell _ _ _ _ (by simp; omega)]
  · unfold fresh
    simp only [World.setCell, Array.size_modify]
    exact ⟨by omega, hb.2⟩
theorem AnsYR.bad {w W : World} {rb : Nat} (r : Int) (hB : Below w.heap.size w W) (hrb : w.heap.size ≤ rb) (x y : Value) : AnsYR w (r, []) (.returned (.agg #[.int .i64 r, .slice none 0 0])) ((W.setCell ⟨rb, 0, none⟩ x).setCell ⟨rb, 1, none⟩ y) := AnsYR.put hB hrb (Or.inl ⟨rfl, _, _, rfl⟩) x y
theorem fsF_zero {d : FD} (h : fsF d = 0) : fsE d = 0 := by
  unfold fsF at h
  by_cases he : fsE d = 0
  · exact he
  · rw [if_neg he] at h; exact absurd h he

end Go.Proofs.YtlohgnidbkechaaGreatDoor

namespace Go.Proofs.YtlohgnidbkechaaGreatDoor
open Go.RowKit
set_option maxRecDepth 100000

/-- An inode marked from N on. -/
def mkI (N : Nat) (d : ID) : ID := (((N : Nat) : Int), ((N : Nat) : Int) + 1, ((N : Nat) : Int) + 1 + 1, marks (((N : Nat) : Int) + 1 + 1 + 1) d.2.2.2.1.length, marksN (N + 3 + d.2.2.2.1.length) d.2.2.2.2.length)
def mkIns (k : Nat) (ds : List ID) : List ID := (List.range ds.length).map fun i => mkI (inum k ds i) (ds[i]?.getD id0)
theorem mkIns_length (k : Nat) (ds : List ID) : (mkIns k ds).length = ds.length := by simp [mkIns]
theorem mkIns_get (k : Nat) (ds : List ID) {i : Nat} (hi : i < ds.length) : (mkIns k ds)[i]?.getD id0 = mkI (inum k ds i) (ds[i]?.getD id0) := by
  unfold mkIns; rw [List.getElem?_map, List.getElem?_range hi]; rfl
theorem inum_next (k : Nat) (ds : List ID) (hk : k + spanInos ds ≤ 4294967296) (j : Nat) (hj : j < ds.length) : inum k ds j + 3 + (ds[j]?.getD id0).2.2.2.1.length + 2 * (ds[j]?.getD id0).2.2.2.2.length = inum k ds (j + 1) ∧ inum k ds (j + 1) ≤ 4294967296 := by
  have h1 := upto_succ (isp ds) j (by rw [isp_length]; omega)
  rw [isp_get ds j hj] at h1
  have h2 := upto_le (isp ds) (j + 1)
  have h3 : spanIno (ds[j]?.getD id0) = (ds[j]?.getD id0).2.2.2.1.length + 2 * (ds[j]?.getD id0).2.2.2.2.length := rfl
  have h4 : spanInos ds = (isp ds).sum := rfl
  unfold inum
  omega
theorem inum_all (k : Nat) (ds : List ID) : inum k ds ds.length = k + spanInos ds := by
  have := upto_all (isp ds)
  rw [isp_length] at this
  unfold inum spanInos
  rw [this]

/-- The list of which the first j are marked. -/
def halfI (k : Nat) (ds : List ID) (j : Nat) : List ID := (List.range ds.length).map fun i => if i < j then mkI (inum k ds i) (ds[i]?.getD id0) else ds[i]?.getD id0
theorem halfI_length (k : Nat) (ds : List ID) (j : Nat) : (halfI k ds j).length = ds.length := by simp [halfI]
theorem halfI_get (k : Nat) (ds : List ID) (j : Nat) {i : Nat} (hi : i < ds.length) : (halfI k ds j)[i]?.getD id0 = if i < j then mkI (inum k ds i) (ds[i]?.getD id0) else ds[i]?.getD id0 := by
  unfold halfI; rw [List.getElem?_map, List.getElem?_range hi]; rfl
theorem halfI_zero (k : Nat) (ds : List ID) : halfI k ds 0 = ds := by
  apply List.ext_getElem?
  intro i
  unfold halfI
  rw [List.getElem?_map]
  by_cases hi : i < ds.length
  · rw [List.getElem?_range hi]; simp [List.getElem?_eq_getElem hi]
  · rw [List.getElem?_eq_none (by simpa using Nat.le_of_not_lt hi), List.getElem?_eq_none (by omega)]; rfl
theorem halfI_all (k : Nat) (ds : List ID) : halfI k ds ds.length = mkIns k ds := by
  unfold halfI mkIns
  apply List.map_congr_left
  intro i hi
  rw [if_pos (List.mem_range.1 hi)]
structure HalfM (w : World) (b n : Nat) (cs : List ID) (u : Nat → Value × Value) (F1 G1 : Nat → Nat → Prop) : Prop where
  row : OwnRow w b (n * 5) (inCell cs u)
  ints : ∀ i, i < n → IntsO w (u i).1 (cs[i]?.getD id0).2.2.2.1 (F1 i)
  ents : ∀ i, i < n → EntsO w (u i).2 (cs[i]?.getD id0).2.2.2.2 (G1 i)
/-- Three cells of one inode turned. -/
theorem inCell_three (cs cs' : List ID) (u : Nat → Value × Value) (j : Nat) (x0 x1 x2 : Int) (h0 : ∀ i, i ≠ j → (cs'[i]?.getD id0) = (cs[i]?.getD id0)) (e0 : (cs'[j]?.getD id0).1 = x0) (e1 : (cs'[j]?.getD id0).2.1 = x1) (e2 : (cs'[j]?.getD id0).2.2.1 = x2) (c : Nat) :
    (if c = j * 5 + 2 then .int .i64 x2 else if c = j * 5 + 1 then .int .i64 x1 else if c = j * 5 then .int .i64 x0 else inCell cs u c) = inCell cs' u c := by
  by_cases hj : c / 5 = j
  · unfold inCell
    rw [hj, e0, e1, e2]
    by_cases h0 : c % 5 = 0
    · rw [if_neg (by omega), if_neg (by omega), if_pos (by omega), if_pos h0]
    · by_cases h1 : c % 5 = 1
      · rw [if_neg (by omega), if_pos (by omega), if_neg h0, if_pos h1]
      · by_cases h2 : c % 5 = 2
        · rw [if_pos (by omega), if_neg h0, if_neg h1, if_pos h2]
        · rw [if_neg (by omega), if_neg (by omega), if_neg (by omega), if_neg h0, if_neg h1, if_neg h2, if_neg h0, if_neg h1, if_neg h2]
  · rw [if_neg (by omega), if_neg (by omega), if_neg (by omega)]
    unfold inCell
    rw [h0 _ hj]

set_option maxHeartbeats 6400000 in
theorem markInosM_walk (w : World) (b cap n k : Nat) (F : Nat → Prop) (ds : List ID) (u : Nat → Value × Value) (F1 G1 : Nat → Nat → Prop) (hF : F b) (hFF : ∀ i c, F1 i c → F c ∧ c ≠ b) (hGF : ∀ i c, G1 i c → F c ∧ c ≠ b) (hFG : ∀ i j c, F1 i c → ¬ G1 j c) (hFd : ∀ i j c, i ≠ j → F1 i c → ¬ F1 j c) (hGd : ∀ i j c, i ≠ j → G1 i c → ¬ G1 j c)
    (hn : ds.length = n) (hk0 : 1 ≤ k) (hk : k + spanInos ds ≤ 4294967296) (hn2 : n ≤ 9223372036854775807) (h0 : HalfM w b n ds u F1 G1) :
    Calls Tryz.prog 44 #[.slice (some ⟨b, 0, none⟩) n cap, .int .i64 (k : Int)] w fun e w' => e = .returned (.int .i64 ((k + spanInos ds : Nat) : Int)) ∧ HalfM w' b n (mkIns k ds) u F1 G1 ∧ Chg F w w' := by
  have H0 : Hid (HalfM w b n (halfI k ds 0) u F1 G1) := by unfold Hid; rw [halfI_zero]; exact h0
  have HF : Hid (F b) := hF
  have HFF : Hid (∀ i c, F1 i c → F c ∧ c ≠ b) := hFF
  have HGF : Hid (∀ i c, G1 i c → F c ∧ c ≠ b) := hGF
  have HFG : Hid (∀ i j c, F1 i c → ¬ G1 j c) := hFG
  have HFD : Hid (∀ i j c, i ≠ j → F1 i c → ¬ F1 j c) := hFd
  have HGD : Hid (∀ i j c, i ≠ j → G1 i c → ¬ G1 j c) := hGd
  have HBD : Hid (∀ j, j < n → inum k ds j + 3 + (ds[j]?.getD id0).2.2.2.1.length + 2 * (ds[j]?.getD id0).2.2.2.2.length = inum k ds (j + 1) ∧ inum k ds (j + 1) ≤ 4294967296) := fun j hj => inum_next k ds hk j (by omega)
  have HE : Hid (inum k ds n = k + spanInos ds) := by unfold Hid; rw [← hn]; exact inum_all k ds
  have HEL : Hid (halfI k ds n = mkIns k ds) := by unfold Hid; rw [← hn]; exact halfI_all k ds
  have HI0 : Hid (inum k ds 0 = k) := by unfold Hid inum; rw [upto_zero, Nat.add_zero]
  have HK1 : Hid (∀ j, 1 ≤ inum k ds j) := fun j => by unfold inum; omega
  have HGT : Hid (∀ j i, i < n → (halfI k ds j)[i]?.getD id0 = if i < j then mkI (inum k ds i) (ds[i]?.getD id0) else ds[i]?.getD id0) := fun j i hi => halfI_get k ds j (by omega)
  have HGO : Hid (∀ j i, i ≠ j → (halfI k ds (j + 1))[i]?.getD id0 = (halfI k ds j)[i]?.getD id0) := fun j i hij => by
    by_cases hi : i < ds.length
    · rw [halfI_get _ _ _ hi, halfI_get _ _ _ hi]
      by_cases e : i < j
      · rw [if_pos e, if_pos (by omega)]
      · rw [if_neg e, if_neg (by omega)]
    · rw [List.getElem?_eq_none (by rw [halfI_length]; omega), List.getElem?_eq_none (by rw [halfI_length]; omega)]
  rw [← HE.out, ← HEL.out]
  clear h0 hF hFF hGF hFG hFd hGd hn hk HE HEL
  generalize inum k ds = N at *
  generalize halfI k ds = CS at *
  go_enter Tryz.func44, Tryz.ntmps44
  go_wp2
  go_loopw [1, 5] (fun q i wr => ∃ j : Nat, j ≤ n ∧ i = .int .i64 j ∧ q = .int .i64 ((N j : Nat) : Int) ∧ HalfM wr b n (CS j) u F1 G1 ∧ Chg F w wr) (fun _ i _ => n - (intOf i).toNat)
  case atStart => exact ⟨0, Nat.zero_le _, rfl, by rw [HI0.out], H0.out, Chg.refl _ _⟩
  case round =>
    obtain ⟨j, hj, rfl, rfl, hh, hch⟩ := hrel
    have HH : Hid (HalfM wr b n (CS j) u F1 G1) := hh
    have HCH : Hid (Chg F w wr) := hch
    clear hh hch H0
    by_cases hlt : j < n
    · obtain ⟨hs, hle⟩ := HBD.out j hlt
      have hN1 := HK1.out j
      have hNb : N j + 3 ≤ 4294967296 := by omega
      have HSN : Hid (N j + 3 + (ds[j]?.getD id0).2.2.2.1.length + 2 * (ds[j]?.getD id0).2.2.2.2.length = N (j + 1)) := hs
      have hgj : (CS j)[j]?.getD id0 = ds[j]?.getD id0 := by rw [HGT.out j j hlt, if_neg (by omega)]
      have hgj' : (CS (j + 1))[j]?.getD id0 = mkI (N j) (ds[j]?.getD id0) := by rw [HGT.out (j + 1) j hlt, if_pos (by omega)]
      have HGJ : Hid ((CS (j + 1))[j]?.getD id0 = mkI (N j) (ds[j]?.getD id0)) := hgj'
      have hr := HH.out.row
      have c0 := hr.cell (i := j * 5) (by omega)
      have c1 := hr.cell (i := j * 5 + 1) (by omega)
      have c2 := hr.cell (i := j * 5 + 2) (by omega)
      have c3 := hr.cell (i := j * 5 + 3) (by omega)
      have c4 := hr.cell (i := j * 5 + 4) (by omega)
      rw [inCell_0] at c0
      rw [inCell_1] at c1
      rw [inCell_2] at c2
      rw [inCell_3] at c3
      rw [inCell_4] at c4
      have f0 := hr.frozen (j * 5)
      have f1 := hr.frozen (j * 5 + 1)
      have f2 := hr.frozen (j * 5 + 2)
      have hbw := hr.lt
      have HR3 : Hid (OwnRow (((wr.setCell ⟨b, j * 5, none⟩ (.int .i64 ((N j : Nat) : Int))).setCell ⟨b, j * 5 + 1, none⟩ (.int .i64 (((N j : Nat) : Int) + 1))).setCell ⟨b, j * 5 + 2, none⟩ (.int .i64 (((N j : Nat) : Int) + 1 + 1))) b (n * 5) (inCell (CS (j + 1)) u)) := by
        have := ((hr.set (j * 5) (.int .i64 ((N j : Nat) : Int))).set (j * 5 + 1) (.int .i64 (((N j : Nat) : Int) + 1))).set (j * 5 + 2) (.int .i64 (((N j : Nat) : Int) + 1 + 1))
        exact this.congr fun c _ => inCell_three (CS j) (CS (j + 1)) u j _ _ _ (HGO.out j) (by rw [hgj']; rfl) (by rw [hgj']; rfl) (by rw [hgj']; rfl) c
      have hset : ∀ c, c ≠ b → (((wr.setCell ⟨b, j * 5, none⟩ (.int .i64 ((N j : Nat) : Int))).setCell ⟨b, j * 5 + 1, none⟩ (.int .i64 (((N j : Nat) : Int) + 1))).setCell ⟨b, j * 5 + 2, none⟩ (.int .i64 (((N j : Nat) : Int) + 1 + 1))).heap[c]? = wr.heap[c]? := fun c hc => by
        rw [Below.heap_setCell _ _ _ _ hc, Below.heap_setCell _ _ _ _ hc, Below.heap_setCell _ _ _ _ hc]
      have HI3 : Hid (∀ i, i < n → IntsO (((wr.setCell ⟨b, j * 5, none⟩ (.int .i64 ((N j : Nat) : Int))).setCell ⟨b, j * 5 + 1, none⟩ (.int .i64 (((N j : Nat) : Int) + 1))).setCell ⟨b, j * 5 + 2, none⟩ (.int .i64 (((N j : Nat) : Int) + 1 + 1))) (u i).1 ((CS j)[i]?.getD id0).2.2.2.1 (F1 i)) := fun i hi => (HH.out.ints i hi).keep fun c hc _ => hset c (HFF.out i c hc).2
      have HE3 : Hid (∀ i, i < n → EntsO (((wr.setCell ⟨b, j * 5, none⟩ (.int .i64 ((N j : Nat) : Int))).setCell ⟨b, j * 5 + 1, none⟩ (.int .i64 (((N j : Nat) : Int) + 1))).setCell ⟨b, j * 5 + 2, none⟩ (.int .i64 (((N j : Nat) : Int) + 1 + 1))) (u i).2 ((CS j)[i]?.getD id0).2.2.2.2 (G1 i)) := fun i hi => (HH.out.ents i hi).keep fun c hc _ => hset c (HGF.out i c hc).2
      have HCH3 : Hid (Chg F w (((wr.setCell ⟨b, j * 5, none⟩ (.int .i64 ((N j : Nat) : Int))).setCell ⟨b, j * 5 + 1, none⟩ (.int .i64 (((N j : Nat) : Int) + 1))).setCell ⟨b, j * 5 + 2, none⟩ (.int .i64 (((N j : Nat) : Int) + 1 + 1)))) := ((HCH.out.set HF.out _ _).set HF.out _ _).set HF.out _ _
      have HIJ := HI3.out j hlt
      have HEJ := HE3.out j hlt
      rw [hgj] at HIJ HEJ c0 c1 c2
      obtain ⟨aB, cB, eB, _⟩ := HIJ.ints.shape
      obtain ⟨aE, cE, eE, _⟩ := HEJ.reads.open'
      have HEB : Hid ((u j).1 = .slice aB (ds[j]?.getD id0).2.2.2.1.length cB) := eB
      have HEE : Hid ((u j).2 = .slice aE (ds[j]?.getD id0).2.2.2.2.length cE) := eE
      rw [eB] at c3 HIJ
      rw [eE] at c4 HEJ
      have HIJ' : Hid (IntsO _ (.slice aB (ds[j]?.getD id0).2.2.2.1.length cB) (ds[j]?.getD id0).2.2.2.1 (F1 j)) := HIJ
      have HEJ' : Hid (EntsO _ (.slice aE (ds[j]?.getD id0).2.2.2.2.length cE) (ds[j]?.getD id0).2.2.2.2 (G1 j)) := HEJ
      clear HIJ HEJ eB eE hs hgj hgj' hset hr
      go_wp2_with fail
      clear c0 c1 c2 c3 c4 f0 f1 f2
      refine (markInts_any (((N j : Nat) : Int) + 1 + 1 + 1) HIJ'.out (by omega) (by have := HSN.out; omega)).mono ?_
      rintro e w1 ⟨rfl, hm1, hc1⟩
      have hr1 : OwnRow w1 b (n * 5) (inCell (CS (j + 1)) u) := HR3.out.block (hc1.block b HR3.out.lt (fun h => (HFF.out j b h).2 rfl))
      have c4 := hr1.cell (i := j * 5 + 4) (by omega)
      rw [inCell_4, HEE.out] at c4
      have HR1 : Hid (OwnRow w1 b (n * 5) (inCell (CS (j + 1)) u)) := hr1
      have HM1 : Hid (IntsO w1 (.slice aB (ds[j]?.getD id0).2.2.2.1.length cB) (marks (((N j : Nat) : Int) + 1 + 1 + 1) (ds[j]?.getD id0).2.2.2.1.length) (F1 j)) := hm1
      have HI1 : Hid (∀ i, i < n → i ≠ j → IntsO w1 (u i).1 ((CS j)[i]?.getD id0).2.2.2.1 (F1 i)) := fun i hi hij => (HI3.out i hi).keep fun c hc hl => hc1.block c hl (HFD.out i j c hij hc)
      have HE1 : Hid (∀ i, i < n → EntsO w1 (u i).2 ((CS j)[i]?.getD id0).2.2.2.2 (G1 i)) := fun i hi => (HE3.out i hi).keep fun c hc hl => hc1.block c hl (fun h => HFG.out j i c h hc)
      have HEJ1 : Hid (EntsO w1 (.slice aE (ds[j]?.getD id0).2.2.2.2.length cE) (ds[j]?.getD id0).2.2.2.2 (G1 j)) := HEJ'.out.keep fun c hc hl => hc1.block c hl (fun h => HFG.out j j c h hc)
      have HCH1 : Hid (Chg F w w1) := HCH3.out.trans (hc1.mono fun c hc => (HFF.out j c hc).1)
      have hq : ((N j : Nat) : Int) + 1 + 1 + 1 + ((ds[j]?.getD id0).2.2.2.1.length : Nat) = ((N j + 3 + (ds[j]?.getD id0).2.2.2.1.length : Nat) : Int) := by omega
      rw [hq]
      clear hq hm1 hc1 hr1 HI3 HE3 HCH3 HR3 HIJ' HEJ'
      go_wp2_with fail
      refine (markEntsU (N j + 3 + (ds[j]?.getD id0).2.2.2.1.length) HEJ1.out (by omega) (by have := HSN.out; omega)).mono ?_
      rintro e w2 ⟨rfl, hm2, hc2⟩
      have HQN : Hid (((N j + 3 + (ds[j]?.getD id0).2.2.2.1.length + 2 * (ds[j]?.getD id0).2.2.2.2.length : Nat) : Int) = ((N (j + 1) : Nat) : Int)) := by unfold Hid; rw [HSN.out]
      rw [HQN.out]
      have HH2 : Hid (HalfM w2 b n (CS (j + 1)) u F1 G1) := by
        refine ⟨HR1.out.block (hc2.block b HR1.out.lt (fun h => (HGF.out j b h).2 rfl)), fun i hi => ?_, fun i hi => ?_⟩
        · by_cases e : i = j
          · subst e
            rw [HGJ.out, HEB.out]
            exact HM1.out.keep fun c hc hl => hc2.block c hl (fun h => HFG.out i i c hc h)
          · rw [HGO.out j i e]
            exact (HI1.out i hi e).keep fun c hc hl => hc2.block c hl (fun h => HFG.out i j c hc h)
        · by_cases e : i = j
          · subst e
            rw [HGJ.out, HEE.out]
            exact hm2
          · rw [HGO.out j i e]
            exact (HE1.out i hi).keep fun c hc hl => hc2.block c hl (HGD.out i j c e hc)
      have HCH2 : Hid (Chg F w w2) := HCH1.out.trans (hc2.mono fun c hc => (HGF.out j c hc).1)
      clear hc2 hm2 c4 HR1 HM1 HI1 HE1 HEJ1 HCH1
      go_wp2
      go_roundw
      case rel => exact ⟨j + 1, by omega, by go_num, rfl, HH2.out, HCH2.out⟩
      case measure => simp [intOf]; omega
    · have HJ : Hid (j = n) := by unfold Hid; omega
      go_wp2
      go_ret
      exact ⟨ret_int (by rw [HJ.out]), by have := HH.out; rw [show CS j = CS n by rw [HJ.out]] at this; exact this, HCH.out⟩
end Go.Proofs.YtlohgnidbkechaaGreatDoor

namespace Go.Proofs.YtlohgnidbkechaaGreatDoor
open Go.RowKit
set_option maxRecDepth 100000

def ynum (k : Nat) (zss : List (List UInt8)) (j : Nat) : Nat := k + upto (ylens zss) j
def mkYs (k : Nat) (zss : List (List UInt8)) : List (List UInt8) := (List.range zss.length).map fun i => mkByt ((ynum k zss i : Nat) : Int) (zss[i]?.getD [])
theorem mkYs_length (k : Nat) (zss : List (List UInt8)) : (mkYs k zss).length = zss.length := by simp [mkYs]
theorem mkYs_get (k : Nat) (zss : List (List UInt8)) {i : Nat} (hi : i < zss.length) : (mkYs k zss)[i]?.getD [] = mkByt ((ynum k zss i : Nat) : Int) (zss[i]?.getD []) := by
  unfold mkYs; rw [List.getElem?_map, List.getElem?_range hi]; rfl
theorem ynum_next (k : Nat) (zss : List (List UInt8)) (j : Nat) (hj : j < zss.length) : ynum k zss (j + 1) = ynum k zss j + (zss[j]?.getD []).length ∧ ynum k zss (j + 1) ≤ k + (ylens zss).sum := by
  have h1 := upto_succ (ylens zss) j (by rw [ylens_length]; exact hj)
  rw [ylens_get] at h1
  have h2 := upto_le (ylens zss) (j + 1)
  unfold ynum
  omega
theorem ynum_all (k : Nat) (zss : List (List UInt8)) : ynum k zss zss.length = k + (ylens zss).sum := by
  have := upto_all (ylens zss)
  rw [ylens_length] at this
  unfold ynum
  rw [this]
def halfY (k : Nat) (zss : List (List UInt8)) (j i : Nat) : List UInt8 := if i < j then mkByt ((ynum k zss i : Nat) : Int) (zss[i]?.getD []) else zss[i]?.getD []
set_option maxHeartbeats 1600000 in
theorem markBytsM_walk (w : World) (b cap n k : Nat) (F : Nat → Prop) (zss : List (List UInt8)) (u : Nat → Value) (G : Nat → Nat → Prop) (hG : ∀ i c, G i c → F c ∧ c ≠ b) (hGG : ∀ i j c, i ≠ j → G i c → ¬ G j c)
    (hn : zss.length = n) (hk : k + (ylens zss).sum ≤ 4294967296) (hn2 : n ≤ 9223372036854775807) (hr : OwnRow w b n u) (hu : ∀ i, i < n → BytO w (u i) (zss[i]?.getD []) (G i)) :
    Calls Tryz.prog 45 #[.slice (some ⟨b, 0, none⟩) n cap, .int .i64 (k : Int)] w fun e w' => e = .returned (.int .i64 ((k + (ylens zss).sum : Nat) : Int)) ∧ OwnRow w' b n u ∧ (∀ i, i < n → BytO w' (u i) ((mkYs k zss)[i]?.getD []) (G i)) ∧ Chg F w w' := by
  have HR : Hid (OwnRow w b n u) := hr
  have HU : Hid (∀ i, i < n → BytO w (u i) (halfY k zss 0 i) (G i)) := fun i hi => by unfold halfY; rw [if_neg (by omega)]; exact hu i hi
  have HG : Hid (∀ i c, G i c → F c ∧ c ≠ b) := hG
  have HGG : Hid (∀ i j c, i ≠ j → G i c → ¬ G j c) := hGG
  have HBD : Hid (∀ j, j < n → ynum k zss (j + 1) = ynum k zss j + (zss[j]?.getD []).length ∧ ynum k zss (j + 1) ≤ 4294967296) := fun j hj => by
    have := ynum_next k zss j (by omega)
    exact ⟨this.1, by omega⟩
  have HE : Hid (ynum k zss n = k + (ylens zss).sum) := by unfold Hid; rw [← hn]; exact ynum_all k zss
  have HI0 : Hid (ynum k zss 0 = k) := by unfold Hid ynum; rw [upto_zero, Nat.add_zero]
  have HHJ : Hid (∀ j, halfY k zss j j = zss[j]?.getD []) := fun j => by unfold halfY; rw [if_neg (by omega)]
  have HHN : Hid (∀ j, halfY k zss (j + 1) j = mkByt ((ynum k zss j : Nat) : Int) (zss[j]?.getD [])) := fun j => by unfold halfY; rw [if_pos (by omega)]
  have HHO : Hid (∀ j i, i ≠ j → halfY k zss (j + 1) i = halfY k zss j i) := fun j i e => by
    unfold halfY
    by_cases e2 : i < j
    · rw [if_pos e2, if_pos (by omega)]
    · rw [if_neg e2, if_neg (by omega)]
  have HHA : Hid (∀ i, i < n → halfY k zss n i = (mkYs k zss)[i]?.getD []) := fun i hi => by rw [mkYs_get k zss (by omega)]; unfold halfY; rw [if_pos hi]
  rw [← HE.out]
  clear hr hu hG hGG hn hk HE
  generalize ynum k zss = N at *
  generalize halfY k zss = HY at *
  go_enter Tryz.func45, Tryz.ntmps45
  go_wp2
  go_loopw [1, 5] (fun q i wr => ∃ j : Nat, j ≤ n ∧ i = .int .i64 j ∧ q = .int .i64 ((N j : Nat) : Int) ∧ OwnRow wr b n u ∧ (∀ i, i < n → BytO wr (u i) (HY j i) (G i)) ∧ Chg F w wr) (fun _ i _ => n - (intOf i).toNat)
  case atStart => exact ⟨0, Nat.zero_le _, rfl, by rw [HI0.out], HR.out, HU.out, Chg.refl _ _⟩
  case round =>
    obtain ⟨j, hj, rfl, rfl, hrow, hin, hch⟩ := hrel
    have HROW : Hid (OwnRow wr b n u) := hrow
    have HIN : Hid (∀ i, i < n → BytO wr (u i) (HY j i) (G i)) := hin
    have HCH : Hid (Chg F w wr) := hch
    by_cases hlt : j < n
    · have c1 := hrow.cell hlt
      clear hrow hin hch HU HR
      obtain ⟨hs, hle⟩ := HBD.out j hlt
      have HS : Hid (((N j : Nat) : Int) + ((zss[j]?.getD []).length : Nat) = ((N (j + 1) : Nat) : Int)) := by unfold Hid; omega
      have HIJ : Hid (BytO wr (u j) (zss[j]?.getD []) (G j)) := by have := HIN.out j hlt; rw [HHJ.out j] at this; exact this
      have hb : ((N j : Nat) : Int) + ((zss[j]?.getD []).length : Nat) ≤ 4611686018427387904 := by omega
      clear hs
      go_wp2_with fail
      refine (markBytU ((N j : Nat) : Int) HIJ.out (by omega) hb).mono ?_
      rintro e w' ⟨rfl, hm, hc⟩
      have HM : Hid (BytO w' (u j) (mkByt ((N j : Nat) : Int) (zss[j]?.getD [])) (G j)) := hm
      have HC : Hid (Chg (G j) wr w') := hc
      rw [HS.out]
      clear hm hc hb
      go_wp2
      go_roundw
      case rel =>
        refine ⟨j + 1, by omega, by go_num, rfl, HROW.out.block (HC.out.block b HROW.out.lt (fun h => (HG.out j b h).2 rfl)), fun i hi => ?_, HCH.out.trans (HC.out.mono fun c hc => (HG.out j c hc).1)⟩
        by_cases e : i = j
        · subst e
          rw [HHN.out]; exact HM.out
        · rw [HHO.out j i e]
          exact (HIN.out i hi).keep (w' := w') fun c hc hlt => HC.out.block c hlt (HGG.out i j c e hc)
      case measure => simp [intOf]; omega
    · have HJ : Hid (j = n) := by unfold Hid; omega
      clear hrow hin hch
      go_wp2
      go_ret
      exact ⟨ret_int (by rw [HJ.out]), HROW.out, fun i hi => by have := HIN.out i hi; rw [HJ.out, HHA.out i hi] at this; exact this, HCH.out⟩
theorem markBytsM {w : World} {v : Value} {zss : List (List UInt8)} {F : Nat → Prop} (k : Nat) (h : BytsO w v zss F) (hk : k + (ylens zss).sum ≤ 4294967296) :
    Calls Tryz.prog 45 #[v, .int .i64 (k : Int)] w fun e w' => e = .returned (.int .i64 ((k + (ylens zss).sum : Nat) : Int)) ∧ BytsO w' v (mkYs k zss) F ∧ Chg F w w' := by
  rcases h with ⟨rfl, a, cap, rfl⟩ | ⟨b, cap, u, G, hF, hG, hGG, rfl, hl, hr, hu⟩
  · exact (markByts_nil w a cap _).mono fun e w' ⟨he, hw⟩ => ⟨by rw [he]; simp [ylens], Or.inl ⟨rfl, _, _, rfl⟩, hw ▸ Chg.refl _ _⟩
  · refine (markBytsM_walk w b cap zss.length k F zss u G hG hGG rfl hk (by have := hl.1; unfold maxLen at this; omega) hr hu).mono fun e w' ⟨he, h1, h2, hc⟩ => ⟨he, Or.inr ⟨b, cap, u, G, hF, hG, hGG, by rw [mkYs_length], by rw [mkYs_length]; exact hl, by rw [mkYs_length]; exact h1, by rw [mkYs_length]; exact h2⟩, hc⟩
end Go.Proofs.YtlohgnidbkechaaGreatDoor

namespace Go.Proofs.YtlohgnidbkechaaGreatDoor
open Go.RowKit
set_option maxRecDepth 100000

open Classical in
theorem pickQ {α : Type} [Inhabited α] {n : Nat} {P : Nat → α → Prop} (h : ∀ i, i < n → ∃ q, P i q) : ∃ f : Nat → α, ∀ i, i < n → P i (f i) :=
  ⟨fun i => if hi : i < n then Classical.choose (h i hi) else default, fun i hi => by dsimp only; rw [dif_pos hi]; exact Classical.choose_spec (h i hi)⟩
def mkFs (k : Int) (d : FD) : FD := (mkIns k.toNat d.1, mkYs (k.toNat + spanInos d.1) d.2)
theorem markInosM {w : World} {v : Value} {ds : List ID} {F : Nat → Prop} (k : Nat) (h : InosO w v ds F) (hk0 : 1 ≤ k) (hk : k + spanInos ds ≤ 4294967296) :
    Calls Tryz.prog 44 #[v, .int .i64 (k : Int)] w fun e w' => e = .returned (.int .i64 ((k + spanInos ds : Nat) : Int)) ∧ InosO w' v (mkIns k ds) F ∧ Chg F w w' := by
  rcases h with ⟨rfl, a, cap, rfl⟩ | ⟨b, cap, u, G, hF, hG, hGG, rfl, hl, hr, hu⟩
  · exact (markInos_nil w a cap _).mono fun e w' ⟨he, hw⟩ => ⟨by rw [he]; simp [spanInos, isp], Or.inl ⟨rfl, _, _, rfl⟩, hw ▸ Chg.refl _ _⟩
  · have hch : ∀ i, i < ds.length → ∃ q : (Nat → Prop) × (Nat → Prop), IntsO w (u i).1 (ds[i]?.getD id0).2.2.2.1 q.1 ∧ EntsO w (u i).2 (ds[i]?.getD id0).2.2.2.2 q.2 ∧ (∀ c, q.1 c → ¬ q.2 c) ∧ ∀ c, q.1 c ∨ q.2 c → G i c := fun i hi => by
      obtain ⟨_, F1, G1, h1, h2, h3, h4⟩ := hu i hi
      exact ⟨(F1, G1), h1, h2, h3, h4⟩
    obtain ⟨Q, hQ⟩ := pickQ hch
    have hcapu : ∀ i, i < ds.length → capOK (u i).1 := fun i hi => (hu i hi).1.2.2.2
    refine (markInosM_walk w b cap ds.length k F ds u (fun i c => i < ds.length ∧ (Q i).1 c) (fun i c => i < ds.length ∧ (Q i).2 c) hF (fun i c hc => hG i c ((hQ i hc.1).2.2.2 c (Or.inl hc.2))) (fun i c hc => hG i c ((hQ i hc.1).2.2.2 c (Or.inr hc.2))) (fun i j c hc hc' => ?_) (fun i j c e hc hc' => hGG i j c e ((hQ i hc.1).2.2.2 c (Or.inl hc.2)) ((hQ j hc'.1).2.2.2 c (Or.inl hc'.2))) (fun i j c e hc hc' => hGG i j c e ((hQ i hc.1).2.2.2 c (Or.inr hc.2)) ((hQ j hc'.1).2.2.2 c (Or.inr hc'.2))) rfl hk0 hk (by have := hl.1; unfold maxLen at this; omega)
      ⟨hr, fun i hi => (hQ i hi).1.mono fun c hc => ⟨hi, hc⟩, fun i hi => (hQ i hi).2.1.mono fun c hc => ⟨hi, hc⟩⟩).mono fun e w' ⟨he, hm, hc⟩ => ⟨he, Or.inr ⟨b, cap, u, G, hF, hG, hGG, by rw [mkIns_length], by rw [mkIns_length]; exact hl, by rw [mkIns_length]; exact hm.row, fun i hi => ?_⟩, hc⟩
    · by_cases e : i = j
      · subst e; exact (hQ i hc.1).2.2.1 c hc.2 hc'.2
      · exact hGG i j c e ((hQ i hc.1).2.2.2 c (Or.inl hc.2)) ((hQ j hc'.1).2.2.2 c (Or.inr hc'.2))
    · rw [mkIns_length] at hi
      exact ⟨⟨rfl, rfl, rfl, hcapu i hi⟩, _, _, hm.ints i hi, hm.ents i hi, fun c hc hc' => (hQ i hi).2.2.1 c hc.2 hc'.2, fun c hc => (hQ i hi).2.2.2 c (hc.imp (·.2) (·.2))⟩
set_option maxHeartbeats 800000 in
theorem markFsM (w : World) (v1 v2 : Value) (d : FD) (F : Nat → Prop) (k : Int) (h : FsU w v1 v2 d F) (hk0 : 1 ≤ k) (hk : k + (spanFs d : Nat) ≤ 4294967296) :
    Calls Tryz.prog 18 #[.agg #[v1, v2], .int .i64 k] w fun e w' => e = .returned (.int .i64 (k + (spanFs d : Nat))) ∧ FsU w' v1 v2 (mkFs k d) F ∧ Chg F w w' := by
  obtain ⟨q, rfl⟩ := Int.eq_ofNat_of_zero_le (a := k) (by omega)
  obtain ⟨F1, G1, h1, h2, hd, hf⟩ := h
  have H1 : Hid (InosO w v1 d.1 F1) := h1
  have H2 : Hid (BytsO w v2 d.2 G1) := h2
  have HD : Hid (∀ b, F1 b → ¬ G1 b) := hd
  have HF : Hid (∀ b, F1 b ∨ G1 b → F b) := hf
  have HE : Hid (((q : Nat) : Int) + (spanFs d : Nat) = ((q + spanInos d.1 + (ylens d.2).sum : Nat) : Int)) := by unfold Hid spanFs; omega
  have HMK : Hid (mkFs ((q : Nat) : Int) d = (mkIns q d.1, mkYs (q + spanInos d.1) d.2)) := by unfold Hid mkFs; simp
  have hk2 : q + spanInos d.1 + (ylens d.2).sum ≤ 4294967296 := by unfold spanFs at hk; omega
  rw [HE.out, HMK.out]
  clear h1 h2 hd hf hk HE HMK
  go_enter Tryz.func18, Tryz.ntmps18
  go_wp2_with fail
  refine (markInosM q (H1.out.bound.keep fun b hb hlt => (later1 _ _).block b hlt) (by omega) (by omega)).mono ?_
  rintro e w1 ⟨rfl, hm, hc⟩
  have c1 : w1.cell? ⟨w.heap.size, 1, none⟩ = some v2 := by
    rw [World.cell?_of_block (w := w.alloc (.cells #[v1, v2] 32)) (box_later hc fun b hb => hb.2), new_cell]; rfl
  have HM : Hid (InosO w1 v1 (mkIns q d.1) (fun b => F1 b ∧ b < w.heap.size)) := hm
  have HC : Hid (Chg (fun b => F1 b ∧ b < w.heap.size) (w.alloc (.cells #[v1, v2] 32)) w1) := hc
  have H2' : Hid (BytsO w1 v2 d.2 (fun b => G1 b ∧ b < w.heap.size)) := H2.out.bound.keep fun b hb hlt => (HC.out.block b (by simp; omega) (fun h => HD.out b h.1 hb.1)).trans ((later1 _ _).block b hlt)
  clear hc hm
  go_wp2_with fail
  refine (markBytsM _ H2'.out (by omega)).mono ?_
  rintro e w2 ⟨rfl, hm2, hc2⟩
  have HM2 : Hid (BytsO w2 v2 (mkYs (q + spanInos d.1) d.2) (fun b => G1 b ∧ b < w.heap.size)) := hm2
  have HC2 : Hid (Chg (fun b => G1 b ∧ b < w.heap.size) w1 w2) := hc2
  clear hc2 hm2
  go_wp2
  go_ret
  exact ⟨rfl, ⟨_, _, HM.out.keep fun b hb hlt => HC2.out.block b hlt (fun h => HD.out b hb.1 h.1), HM2.out, fun b hb hb' => HD.out b hb.1 hb'.1, fun b hb => HF.out b (hb.imp (·.1) (·.1))⟩, (Chg.of_below (later1 _ _)).trans ((HC.out.mono fun b hb => HF.out b (Or.inl hb.1)).trans (HC2.out.mono fun b hb => HF.out b (Or.inr hb.1)))⟩
/-- Answers that are a code and a file system. -/
def AnsFR (w : World) (r : Int × FD) (e : Ending) (w' : World) : Prop := ∃ a1 n1 c1 a2 n2 c2, e = .returned (.agg #[.int .i64 r.1, .slice a1 n1 c1, .slice a2 n2 c2]) ∧ Below w.heap.size w w' ∧ FsU w' (.slice a1 n1 c1) (.slice a2 n2 c2) r.2 (fresh w w')
end Go.Proofs.YtlohgnidbkechaaGreatDoor
