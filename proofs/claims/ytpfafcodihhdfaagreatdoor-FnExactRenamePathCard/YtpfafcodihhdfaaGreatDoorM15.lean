/- The bytes of a file: the specification. Files that are read, written, cut and dropped: what they come to. No program is named here. The program's file at work: opened, its bytes dropped, released, closed. Answers of calls: a code, a reply, a value, bytes, names and a file system, in the one form. -/
import Derived.Test.YtpfafcodihhdfaaGreatDoorM05
import Derived.Test.YtpfafcodihhdfaaGreatDoorM14
import Derived.Test.YtpfafcodihhdfaaGreatDoorM08
import Derived.Test.YtpfafcodihhdfaaGreatDoorM10
import Derived.Deep.RegionHeld3
import Derived.Test.YtpfafcodihhdfaaGreatDoorM11
import Derived.Test.YtpfafcodihhdfaaGreatDoorM06
import Derived.Test.YtpfafcodihhdfaaGreatDoorM07
namespace Go.Proofs.YtpfafcodihhdfaaGreatDoor
open Go.RowKit
set_option maxRecDepth 100000

/-- The bytes of the first k blocks of an inode. -/
def bytK (d : FD) (bs : List Int) (k : Nat) : List UInt8 := (bs.take k).flatMap fun b => d.2[b.toNat]?.getD []
def bytL (d : FD) (j : Nat) : List UInt8 := bytK d (d.1[j]?.getD id0).2.2.2.1 (d.1[j]?.getD id0).2.2.2.1.length
def bytR (d : FD) (x : Int) : Int × List UInt8 :=
  if fsF d = 0 then (if 0 ≤ x ∧ x < (d.1.length : Int) then (if kindAt d.1 x.toNat = 2 then (9, []) else if kindAt d.1 x.toNat = 0 then (4, []) else (0, bytL d x.toNat)) else (3, [])) else (fsF d, [])
theorem bytK_next (d : FD) (bs : List Int) (k : Nat) (hk : k < bs.length) : bytK d bs (k + 1) = bytK d bs k ++ (d.2[(bs[k]?.getD 0).toNat]?.getD []) := by
  unfold bytK
  rw [List.take_succ_eq_append_getElem hk, List.flatMap_append]
  simp [List.getElem?_eq_getElem hk]
theorem bytK_len (d : FD) (bs : List Int) (h8 : ∀ i : Nat, (d.2[i]?.getD []).length ≤ 8) : ∀ k, k ≤ bs.length → (bytK d bs k).length ≤ 8 * k
  | 0, _ => by simp [bytK]
  | k + 1, hk => by
    rw [bytK_next d bs k hk, List.length_append]
    have h1 := bytK_len d bs h8 k (by omega)
    have h2 := h8 (bs[k]?.getD 0).toNat
    omega
theorem many_eight {zss : List (List UInt8)} (h : fstNZ (manyF zss) zss.length = 0) (i : Nat) : (zss[i]?.getD []).length ≤ 8 := by
  by_cases hi : i < zss.length
  · have := fstNZ_inv h i hi
    unfold manyF at this
    by_cases h8 : 8 < (zss[i]?.getD []).length
    · rw [if_pos h8] at this; omega
    · omega
  · rw [List.getElem?_eq_none (by omega)]; simp

set_option maxHeartbeats 3200000 in
theorem l6Bytes_any (w : World) (b o : Nat) (d : FD) (aI : Option Addr) (cI : Nat) (aD : Option Addr) (cD : Nat) (j : Nat) (h : FsX w b o d aI cI aD cD) (hj : j < d.1.length) (_hn : d.1.length ≤ 10) (h20 : d.2.length = 20) (h8 : ∀ i : Nat, (d.2[i]?.getD []).length ≤ 8) (h4 : (d.1[j]?.getD id0).2.2.2.1.length ≤ 4)
    (hbl : ∀ k : Nat, k < (d.1[j]?.getD id0).2.2.2.1.length → 0 ≤ (d.1[j]?.getD id0).2.2.2.1[k]?.getD 0 ∧ (d.1[j]?.getD id0).2.2.2.1[k]?.getD 0 < 20) :
    Calls Tryz.prog 187 #[.pointer (some ⟨b, o, none⟩), .int .i64 (j : Int)] w fun e w' => ∃ v, e = .returned v ∧ Below w.heap.size w w' ∧ WdY w' w.heap.size v (bytL d j) := by
  have HBK : Hid (∀ k : Nat, k < (d.1[j]?.getD id0).2.2.2.1.length → 0 ≤ (d.1[j]?.getD id0).2.2.2.1[k]?.getD 0 ∧ (d.1[j]?.getD id0).2.2.2.1[k]?.getD 0 < 20) := hbl
  obtain ⟨_, _, e1, hm1, hAt⟩ := h.ins.open'
  simp only [Value.slice.injEq] at e1
  obtain ⟨rfl, -, rfl⟩ := e1
  obtain ⟨_, _, e2, hm2, hBt⟩ := h.byt.open'
  simp only [Value.slice.injEq] at e2
  obtain ⟨rfl, -, rfl⟩ := e2
  have c0 := h.c0
  have c1 := h.c1
  rw [h20] at c1 hBt
  have HBT : Hid (AtYs w aD 20 d.2) := hBt
  obtain ⟨b0, o0, rfl, hI⟩ := hAt j hj
  obtain ⟨aB, cB, _, _, _, _, _, k3, _, h5⟩ := hI
  obtain ⟨_, _, e3, hm3, hI1⟩ := h5.2.1.open'
  simp only [Value.slice.injEq] at e3
  obtain ⟨rfl, _, rfl⟩ := e3
  have HNX : Hid (∀ k, k < (d.1[j]?.getD id0).2.2.2.1.length → bytK d (d.1[j]?.getD id0).2.2.2.1 (k + 1) = bytK d (d.1[j]?.getD id0).2.2.2.1 k ++ (d.2[((d.1[j]?.getD id0).2.2.2.1[k]?.getD 0).toNat]?.getD [])) := fun k hk => bytK_next d _ k hk
  have HLN : Hid (∀ k, k ≤ (d.1[j]?.getD id0).2.2.2.1.length → (bytK d (d.1[j]?.getD id0).2.2.2.1 k).length ≤ 8 * k) := bytK_len d _ h8
  have H8 : Hid (∀ i : Nat, (d.2[i]?.getD []).length ≤ 8) := h8
  have HBL : Hid (bytL d j = bytK d (d.1[j]?.getD id0).2.2.2.1 (d.1[j]?.getD id0).2.2.2.1.length) := rfl
  rw [HBL.out]
  have hjn : (j : Int) < ((d.1.length : Nat) : Int) := by omega
  clear h hbl hAt hBt hm1 hm2 h20 h5 hm3 h8 HBL
  generalize (d.1[j]?.getD id0).2.2.2.1 = bs at *
  have HIB : Hid (At1 w aB bs.length (fun k => .int .i64 (bs[k]?.getD 0))) := hI1
  have HB0 : Hid (bytK d bs 0 = []) := by unfold Hid bytK; simp
  clear hI1
  generalize bytK d bs = BK at *
  obtain ⟨nB, hnB⟩ : ∃ nB, bs.length = nB := ⟨_, rfl⟩
  rw [hnB] at k3 HIB HBK HNX HLN h4 ⊢
  clear hnB
  generalize d.1.length = n at *
  have HW0 : Hid (WdY (w.alloc (.cells #[] 5)) w.heap.size (.slice (some ⟨w.heap.size, 0, none⟩) 0 0) []) := WdY.lit0 w _ (Nat.le_refl _)
  have hlt0 : b < w.heap.size := lt_of_cell c0
  have hlt1 : b0 < w.heap.size := lt_of_cell k3
  go_enter Tryz.func187, Tryz.ntmps187
  go_wp2
  go_loopw [5, 7] (fun v i wr => ∃ k : Nat, k ≤ nB ∧ i = .int .i64 k ∧ Below w.heap.size w wr ∧ WdY wr w.heap.size v (BK k)) (fun _ i _ => nB - (intOf i).toNat)
  case atStart => exact ⟨0, Nat.zero_le _, rfl, later1 _ _, by rw [HB0.out]; exact HW0.out⟩
  case round =>
    obtain ⟨k, hk, rfl, hbl, hw⟩ := hrel
    have HBL : Hid (Below w.heap.size w wr) := hbl
    have HWD : Hid (WdY wr w.heap.size _ (BK k)) := hw
    obtain ⟨av, cv, rfl⟩ := hw.shape
    have k3r := cell_later hbl k3
    have c1r := cell_later hbl c1
    clear hbl hw HW0
    by_cases hlk : k < nB
    · obtain ⟨b1, o1, rfl, p1⟩ := HIB.out k hlk
      replace p1 : w.cell? ⟨b1, o1 + k, none⟩ = some (.int .i64 (bs[k]?.getD 0)) := p1
      have p1r := cell_later HBL.out p1
      have hbr := HBK.out k hlk
      have HN := HNX.out k hlk
      have hln := HLN.out k (by omega)
      generalize bs[k]?.getD 0 = x at *
      obtain ⟨y, rfl⟩ : ∃ y : Nat, x = (y : Int) := ⟨x.toNat, by omega⟩
      have hy : y < 20 := by omega
      have hy' : (y : Int) < 20 := by omega
      obtain ⟨bD, oD, ua, uc, rfl, d0, iy⟩ := HBT.out y hy
      have d0r := cell_later HBL.out d0
      have h8y := H8.out y
      have HNX' : Hid (BK (k + 1) = BK k ++ d.2[y]?.getD []) := by unfold Hid; simpa using HN
      clear HN hbr
      generalize d.2[y]?.getD [] = ys at *
      have hap : ∃ v' X, (Builtin.append_ #[37, 37] 37 #[.slice av (BK k).length cv, .slice ua ys.length uc]).run Tryz.prog wr.drew = .ok v' X ∧ WdY X w.heap.size v' (BK (k + 1)) ∧ Below w.heap.size w X := by
        obtain ⟨v', X, h1, h2, h3⟩ := append_y wr.drew w.heap.size _ (BK k) ys ua ys.length uc (HWD.out.later (Below.refl _ _).drew) (by have := HBL.out.size; simpa using this) (by omega) (by omega) ((iy.later HBL.out).later (Below.refl _ _).drew)
        exact ⟨v', X, h1, by rw [HNX'.out]; exact h2, HBL.out.drew.trans h3⟩
      obtain ⟨v', X, hr, hwx, hbx⟩ := hap
      have HR : Hid (_ = _) := hr
      have HWX : Hid (WdY X w.heap.size v' (BK (k + 1))) := hwx
      have HBX : Hid (Below w.heap.size w X) := hbx
      have x1 := cell_later hbx c1
      have x2 := cell_later hbx k3
      have x3 := cell_later hbx p1
      have x4 := cell_later hbx d0
      clear hr hwx hbx iy HNX' HWD HNX HLN HBK
      generalize (BK k).length = ln at *
      generalize ys.length = ly at *
      go_wp2_with fail
      go_region_held3 (fun W => W.cell? ⟨b, o + 1, none⟩ = some (.slice (some ⟨bD, oD, none⟩) 20 cD) ∧ W.cell? ⟨b0, o0 + j * 5 + 3, none⟩ = some (.slice (some ⟨b1, o1, none⟩) nB cB) ∧ W.cell? ⟨b1, o1 + k, none⟩ = some (.int .i64 (y : Int)) ∧ W.cell? ⟨bD, oD + y, none⟩ = some (.slice ua ly uc)) (go_keep) (first
        | (refine step_append_run rfl _ _ _ rfl _ _ rfl rfl _ _ HR.out ?_)
        | fail)
      all_goals
        go_wp2
        go_roundw
        case rel => exact ⟨k + 1, by omega, by go_num, HBX.out, HWX.out⟩
        case measure => simp [intOf]; omega
    · have HE : Hid (BK k = BK nB) := by unfold Hid; rw [show k = nB by omega]
      have HWN : Hid (WdY wr w.heap.size (.slice av (BK k).length cv) (BK nB)) := by rw [← HE.out]; exact HWD.out
      generalize (BK k).length = ln at *
      go_wp2
      go_ret
      exact ⟨_, rfl, HBL.out, HWN.out⟩

set_option maxHeartbeats 400000 in
theorem l6Place_any (w : World) (b o : Nat) (d : FD) (aI : Option Addr) (cI : Nat) (aD : Option Addr) (cD : Nat) (x : Int) (h : FsX w b o d aI cI aD cD) :
    Calls Tryz.prog 167 #[.pointer (some ⟨b, o, none⟩), .int .i64 x] w fun e w' => e = .returned (.bool (decide (0 ≤ x ∧ x < (d.1.length : Int)))) ∧ w' = w := by
  obtain ⟨_, _, e1, hm1, _⟩ := h.ins.open'
  have hm := hm1.1
  unfold maxLen at hm
  have c0 := h.c0
  have HE : Hid ((decide (0 ≤ x) && decide (x ≤ ((d.1.length : Nat) : Int) - 1)) = decide (0 ≤ x ∧ x < (d.1.length : Int))) := by
    unfold Hid
    by_cases hq : 0 ≤ x ∧ x < (d.1.length : Int)
    · rw [decide_eq_true hq, decide_eq_true hq.1, decide_eq_true (by omega)]; rfl
    · rw [decide_eq_false hq, Bool.and_eq_false_iff]
      by_cases h0 : 0 ≤ x
      · exact Or.inr (decide_eq_false (by omega))
      · exact Or.inl (decide_eq_false h0)
  clear h e1 hm1
  generalize d.1.length = n at *
  go_enter Tryz.func167, Tryz.ntmps167
  go_wp2_with fail
  refine (l1In_any _ _ _ _).mono ?_
  rintro e w1 ⟨rfl, rfl⟩
  go_wp2
  go_ret
  exact ⟨ret_bool HE.out, rfl⟩

theorem AnsYR.put {w W : World} {rb : Nat} {r : Int} {zs : List UInt8} {a : Option Addr} {n c : Nat} (hB : Below w.heap.size w W) (hrb : w.heap.size ≤ rb) (hY : BytO W (.slice a n c) zs (fun b => rb < b ∧ b < W.heap.size)) (x y : Value) : AnsYR w (r, zs) (.returned (.agg #[.int .i64 r, .slice a n c])) ((W.setCell ⟨rb, 0, none⟩ x).setCell ⟨rb, 1, none⟩ y) := by
  refine ⟨a, n, c, rfl, (hB.setCell (by simpa using hrb) _).setCell (by simpa using hrb) _, (hY.keep fun b hb _ => ?_).mono fun b hb => ?_⟩
  · rw [Below.heap_setCell _ _ _ _ (by simp; omega), Below.heap_setCell _ _ _ _ (by simp; omega)]
  · unfold fresh
    simp only [World.setCell, Array.size_modify]
    exact ⟨by omega, hb.2⟩
theorem AnsYR.bad {w W : World} {rb : Nat} (r : Int) (hB : Below w.heap.size w W) (hrb : w.heap.size ≤ rb) (x y : Value) : AnsYR w (r, []) (.returned (.agg #[.int .i64 r, .slice none 0 0])) ((W.setCell ⟨rb, 0, none⟩ x).setCell ⟨rb, 1, none⟩ y) := AnsYR.put hB hrb (Or.inl ⟨rfl, _, _, rfl⟩) x y
theorem fsF_zero {d : FD} (h : fsF d = 0) : fsE d = 0 := by
  unfold fsF at h
  by_cases he : fsE d = 0
  · exact he
  · rw [if_neg he] at h; exact absurd h he

set_option maxHeartbeats 6400000 in
theorem specBytU (w : World) (a1 : Option Addr) (n1 c1 : Nat) (a2 : Option Addr) (n2 c2 : Nat) (d : FD) (x : Int) (h : FsR w (.slice a1 n1 c1) (.slice a2 n2 c2) d) (hs : sizeFs d ≤ 1048576) :
    Calls Tryz.prog 185 #[.agg #[.slice a1 n1 c1, .slice a2 n2 c2], .int .i64 x] w (AnsYR w (bytR d x)) := by
  obtain ⟨hx0, -, -⟩ := FsX.box h 32
  have hx := hx0.later (later1 _ (.cells #[.int .i64 0, .slice none 0 0] 178))
  have hsi : sizeInos d.1 ≤ 1048576 := by unfold sizeFs at hs; omega
  have hrow0 : OwnRow ((w.alloc (.cells #[.slice a1 n1 c1, .slice a2 n2 c2] 32)).alloc (.cells #[.int .i64 0, .slice none 0 0] 178)) (w.heap.size + 1) 2 (fun i => if i = 0 then .int .i64 0 else .slice none 0 0) := by
    have := box2 (w.alloc (.cells #[.slice a1 n1 c1, .slice a2 n2 c2] 32)) 178
    rw [World.size_alloc] at this
    exact this
  have HB0 : Hid (Below w.heap.size w ((w.alloc (.cells #[.slice a1 n1 c1, .slice a2 n2 c2] 32)).alloc (.cells #[.int .i64 0, .slice none 0 0] 178))) := later2 _ _ _
  have HX : Hid (FsX _ w.heap.size 0 d a1 c1 a2 c2) := hx
  have HRB : Hid (OwnRow _ (w.heap.size + 1) 2 _) := hrow0
  have HR : Hid (bytR d x = if fsF d = 0 then (if 0 ≤ x ∧ x < (d.1.length : Int) then (if kindAt d.1 x.toNat = 2 then (9, []) else if kindAt d.1 x.toNat = 0 then (4, []) else (0, bytL d x.toNat)) else (3, [])) else (fsF d, [])) := rfl
  rw [HR.out]
  clear HR h hx hx0 hrow0 hs
  have HF : Hid (Calls Tryz.prog 32 #[.pointer (some ⟨w.heap.size, 0, none⟩)] ((w.alloc (.cells #[.slice a1 n1 c1, .slice a2 n2 c2] 32)).alloc (.cells #[.int .i64 0, .slice none 0 0] 178)) fun e w' => e = .returned (.int .i64 (fsF d)) ∧ Below ((w.alloc (.cells #[.slice a1 n1 c1, .slice a2 n2 c2] 32)).alloc (.cells #[.int .i64 0, .slice none 0 0] 178)).heap.size ((w.alloc (.cells #[.slice a1 n1 c1, .slice a2 n2 c2] 32)).alloc (.cells #[.int .i64 0, .slice none 0 0] 178)) w') := l6Fault_any _ _ _ d _ _ _ _ HX.out hsi
  have hwz : ((w.alloc (.cells #[.slice a1 n1 c1, .slice a2 n2 c2] 32)).alloc (.cells #[.int .i64 0, .slice none 0 0] 178)).heap.size = w.heap.size + 2 := by simp
  by_cases hf : fsF d = 0
  rotate_left
  · rw [if_neg hf]
    have hb : (fsF d != 0) = true := by simpa using hf
    clear hf
    generalize fsF d = r at *
    go_enter Tryz.func185, Tryz.ntmps185
    go_wp2_with fail
    refine HF.out.mono ?_
    rintro e w1 ⟨rfl, hb1⟩
    have HB1 : Hid (Below w.heap.size w w1) := HB0.out.trans (hb1.mono HB0.out.size)
    have hrow := HRB.out.later hb1
    have t0 := hrow.cell (i := 0) (by omega)
    have t1 := hrow.cell (i := 1) (by omega)
    have s0 := hrow.frozen 0
    have s1 := hrow.frozen 1
    simp at t0 t1
    clear hb1 hrow
    go_wp2
    exact bodyPost_ret (v := .agg #[.int .i64 r, .slice none 0 0]) (by simp [results, Tryz.results185, go_sem, t0, t1]) rfl (AnsYR.bad r HB1.out (by omega) _ _)
  · rw [if_pos hf]
    obtain ⟨h1, h2, h3, _, _⟩ := fsE_zero (fsF_zero hf)
    obtain ⟨g1, _, g3⟩ := formB_no h2
    have hten := insF_ten h1
    rw [hf] at HF
    by_cases hpl : 0 ≤ x ∧ x < (d.1.length : Int)
    rotate_left
    · rw [if_neg hpl]
      have HPL : Hid (∀ W, Below ((w.alloc (.cells #[.slice a1 n1 c1, .slice a2 n2 c2] 32)).alloc (.cells #[.int .i64 0, .slice none 0 0] 178)).heap.size ((w.alloc (.cells #[.slice a1 n1 c1, .slice a2 n2 c2] 32)).alloc (.cells #[.int .i64 0, .slice none 0 0] 178)) W → Calls Tryz.prog 167 #[.pointer (some ⟨w.heap.size, 0, none⟩), .int .i64 x] W fun e w' => e = .returned (.bool false) ∧ w' = W) := fun W hW => by
        have := l6Place_any W _ _ d _ _ _ _ x (HX.out.later hW)
        rw [decide_eq_false hpl] at this
        exact this
      clear hpl hf h1 h2 h3 g1 g3 hten
      go_enter Tryz.func185, Tryz.ntmps185
      go_wp2_with fail
      refine HF.out.mono ?_
      rintro e w1 ⟨rfl, hb1⟩
      have HB1 : Hid (Below w.heap.size w w1) := HB0.out.trans (hb1.mono HB0.out.size)
      have HL1 : Hid (Below _ _ w1) := hb1
      have hrow := HRB.out.later hb1
      have t0 := hrow.cell (i := 0) (by omega)
      have t1 := hrow.cell (i := 1) (by omega)
      have s0 := hrow.frozen 0
      have s1 := hrow.frozen 1
      simp at t0 t1
      clear hb1 hrow
      go_wp2_with fail
      refine (HPL.out _ HL1.out).mono ?_
      rintro e w2 ⟨rfl, rfl⟩
      go_wp2
      exact bodyPost_ret (v := .agg #[.int .i64 3, .slice none 0 0]) (by simp [results, Tryz.results185, go_sem, t0, t1]) rfl (AnsYR.bad 3 HB1.out (by omega) _ _)
    · rw [if_pos hpl]
      have HPL : Hid (∀ W, Below ((w.alloc (.cells #[.slice a1 n1 c1, .slice a2 n2 c2] 32)).alloc (.cells #[.int .i64 0, .slice none 0 0] 178)).heap.size ((w.alloc (.cells #[.slice a1 n1 c1, .slice a2 n2 c2] 32)).alloc (.cells #[.int .i64 0, .slice none 0 0] 178)) W → Calls Tryz.prog 167 #[.pointer (some ⟨w.heap.size, 0, none⟩), .int .i64 x] W fun e w' => e = .returned (.bool true) ∧ w' = W) := fun W hW => by
        have := l6Place_any W _ _ d _ _ _ _ x (HX.out.later hW)
        rw [decide_eq_true hpl] at this
        exact this
      obtain ⟨j, rfl⟩ : ∃ j : Nat, x = (j : Int) := ⟨x.toNat, by omega⟩
      rw [Int.toNat_natCast]
      have hj : j < d.1.length := by omega
      have hsz := ino_size (ins_ino h1 j hj)
      have HBY : Hid (∀ W, Below ((w.alloc (.cells #[.slice a1 n1 c1, .slice a2 n2 c2] 32)).alloc (.cells #[.int .i64 0, .slice none 0 0] 178)).heap.size ((w.alloc (.cells #[.slice a1 n1 c1, .slice a2 n2 c2] 32)).alloc (.cells #[.int .i64 0, .slice none 0 0] 178)) W → Calls Tryz.prog 187 #[.pointer (some ⟨w.heap.size, 0, none⟩), .int .i64 (j : Int)] W fun e w' => ∃ v, e = .returned v ∧ Below W.heap.size W w' ∧ WdY w' W.heap.size v (bytL d j)) := fun W hW => l6Bytes_any W _ _ d _ _ _ _ j (HX.out.later hW) hj hten g3 (many_eight h3) (by omega) (fun k hk => ins_blk h1 j k hj hk)
      obtain ⟨_, _, q1, _, hAt⟩ := HX.out.ins.open'
      simp only [Value.slice.injEq] at q1
      obtain ⟨rfl, -, rfl⟩ := q1
      obtain ⟨b0, o0, rfl, hI⟩ := hAt j hj
      obtain ⟨_, _, _, _, kc, _⟩ := hI
      have HKC : Hid (_ = some (Value.int .i64 (d.1[j]?.getD id0).1)) := kc
      have HKD : Hid (kindAt d.1 j = (d.1[j]?.getD id0).1) := rfl
      rw [HKD.out]
      have c0 := HX.out.c0
      have HC0 : Hid (_ = _) := c0
      have hjn : (j : Int) < ((d.1.length : Nat) : Int) := by omega
      clear hpl hf h1 h2 h3 g1 g3 hAt kc hsz HKD c0
      generalize (d.1[j]?.getD id0).1 = kd at *
      generalize bytL d j = zs at *
      generalize d.1.length = n at *
      by_cases hk2 : kd = 2
      · rw [if_pos hk2]
        have hb2 : (kd == 2) = true := by simpa using hk2
        clear hk2 HBY
        go_enter Tryz.func185, Tryz.ntmps185
        go_wp2_with fail
        refine HF.out.mono ?_
        rintro e w1 ⟨rfl, hb1⟩
        have HB1 : Hid (Below w.heap.size w w1) := HB0.out.trans (hb1.mono HB0.out.size)
        have HL1 : Hid (Below _ _ w1) := hb1
        have hrow := HRB.out.later hb1
        have t0 := hrow.cell (i := 0) (by omega)
        have t1 := hrow.cell (i := 1) (by omega)
        have s0 := hrow.frozen 0
        have s1 := hrow.frozen 1
        simp at t0 t1
        have kc1 := cell_later hb1 HKC.out
        have c01 := cell_later hb1 HC0.out
        clear hb1 hrow
        go_wp2_with fail
        refine (HPL.out _ HL1.out).mono ?_
        rintro e w2 ⟨rfl, rfl⟩
        go_wp2
        exact bodyPost_ret (v := .agg #[.int .i64 9, .slice none 0 0]) (by simp [results, Tryz.results185, go_sem, t0, t1]) rfl (AnsYR.bad 9 HB1.out (by omega) _ _)
      · rw [if_neg hk2]
        have hb2 : (kd == 2) = false := by simpa using hk2
        by_cases hk0 : kd = 0
        · rw [if_pos hk0]
          have hb0 : (kd == 0) = true := by simpa using hk0
          clear hk2 hk0 HBY
          go_enter Tryz.func185, Tryz.ntmps185
          go_wp2_with fail
          refine HF.out.mono ?_
          rintro e w1 ⟨rfl, hb1⟩
          have HB1 : Hid (Below w.heap.size w w1) := HB0.out.trans (hb1.mono HB0.out.size)
          have HL1 : Hid (Below _ _ w1) := hb1
          have hrow := HRB.out.later hb1
          have t0 := hrow.cell (i := 0) (by omega)
          have t1 := hrow.cell (i := 1) (by omega)
          have s0 := hrow.frozen 0
          have s1 := hrow.frozen 1
          simp at t0 t1
          have kc1 := cell_later hb1 HKC.out
          have c01 := cell_later hb1 HC0.out
          clear hb1 hrow
          go_wp2_with fail
          refine (HPL.out _ HL1.out).mono ?_
          rintro e w2 ⟨rfl, rfl⟩
          go_wp2
          exact bodyPost_ret (v := .agg #[.int .i64 4, .slice none 0 0]) (by simp [results, Tryz.results185, go_sem, t0, t1]) rfl (AnsYR.bad 4 HB1.out (by omega) _ _)
        · rw [if_neg hk0]
          have hb0 : (kd == 0) = false := by simpa using hk0
          clear hk2 hk0
          go_enter Tryz.func185, Tryz.ntmps185
          go_wp2_with fail
          refine HF.out.mono ?_
          rintro e w1 ⟨rfl, hb1⟩
          have HB1 : Hid (Below w.heap.size w w1) := HB0.out.trans (hb1.mono HB0.out.size)
          have HL1 : Hid (Below _ _ w1) := hb1
          have HRW : Hid (OwnRow w1 (w.heap.size + 1) 2 _) := HRB.out.later hb1
          have kc1 := cell_later hb1 HKC.out
          have c01 := cell_later hb1 HC0.out
          have hw1 : w.heap.size + 2 ≤ w1.heap.size := by have := hb1.size; omega
          clear hb1
          go_wp2_with fail
          refine (HPL.out _ HL1.out).mono ?_
          rintro e w2 ⟨rfl, rfl⟩
          go_wp2_with fail
          refine (HBY.out _ HL1.out).mono ?_
          rintro e w3 ⟨v, rfl, hb3, hwd⟩
          obtain ⟨av, cv, rfl⟩ := hwd.shape
          have HB3 : Hid (Below w.heap.size w w3) := HB1.out.trans (hb3.mono HB1.out.size)
          have hrow := HRW.out.later hb3
          have t0 := hrow.cell (i := 0) (by omega)
          have t1 := hrow.cell (i := 1) (by omega)
          have s0 := hrow.frozen 0
          have s1 := hrow.frozen 1
          simp at t0 t1
          have HY : Hid (BytO w3 (.slice av zs.length cv) zs (fun b => w.heap.size + 1 < b ∧ b < w3.heap.size)) := (hwd.own (w0 := w2) (Nat.le_refl _)).mono fun b hb => ⟨by have := hb.1; omega, hb.2⟩
          clear hb3 hrow hwd kc1 c01
          generalize zs.length = ln at *
          go_wp2
          exact bodyPost_ret (v := .agg #[.int .i64 0, .slice av ln cv]) (by simp [results, Tryz.results185, go_sem, t0, t1]) rfl (AnsYR.put HB3.out (by omega) HY.out _ _)
end Go.Proofs.YtpfafcodihhdfaaGreatDoor

namespace Go.Proofs.YtpfafcodihhdfaaGreatDoor
open Go.RowKit
set_option maxRecDepth 100000

/-- The first k of these blocks hold nothing. -/
def clrK (zss : List (List UInt8)) (bs : List Int) : Nat → List (List UInt8)
  | 0 => zss
  | k + 1 => (clrK zss bs k).set (bs[k]?.getD 0).toNat []
/-- The first k of these blocks hold what is theirs of data. -/
def putK (zss : List (List UInt8)) (bs : List Int) (data : List UInt8) : Nat → List (List UInt8)
  | 0 => zss
  | k + 1 => (putK zss bs data k).set (bs[k]?.getD 0).toNat ((data.drop (k * 8)).take 8)
theorem clrK_length (zss : List (List UInt8)) (bs : List Int) : ∀ k, (clrK zss bs k).length = zss.length
  | 0 => rfl
  | k + 1 => by show ((clrK zss bs k).set _ _).length = _; rw [List.length_set, clrK_length zss bs k]
theorem putK_length (zss : List (List UInt8)) (bs : List Int) (data : List UInt8) : ∀ k, (putK zss bs data k).length = zss.length
  | 0 => rfl
  | k + 1 => by show ((putK zss bs data k).set _ _).length = _; rw [List.length_set, putK_length zss bs data k]
theorem set_len_le {zss : List (List UInt8)} {m : Nat} (h : ∀ i : Nat, (zss[i]?.getD []).length ≤ m) (y : Nat) (zs : List UInt8) (hz : zs.length ≤ m) (i : Nat) : ((zss.set y zs)[i]?.getD []).length ≤ m := by
  rw [List.getElem?_set]
  by_cases e : y = i
  · rw [if_pos e]
    by_cases hl : y < zss.length
    · rw [if_pos hl]; exact hz
    · rw [if_neg hl]; simp
  · rw [if_neg e]; exact h i
theorem clrK_le {zss : List (List UInt8)} {m : Nat} (h : ∀ i : Nat, (zss[i]?.getD []).length ≤ m) (bs : List Int) : ∀ (k i : Nat), ((clrK zss bs k)[i]?.getD []).length ≤ m
  | 0, i => h i
  | k + 1, i => set_len_le (clrK_le h bs k) _ _ (by simp) i
theorem putK_le {zss : List (List UInt8)} (h : ∀ i : Nat, (zss[i]?.getD []).length ≤ 8) (bs : List Int) (data : List UInt8) : ∀ (k i : Nat), ((putK zss bs data k)[i]?.getD []).length ≤ 8
  | 0, i => h i
  | k + 1, i => set_len_le (putK_le h bs data k) _ _ (by rw [List.length_take]; omega) i
theorem ylens_eight {zss : List (List UInt8)} (h : ∀ i : Nat, (zss[i]?.getD []).length ≤ 8) : (ylens zss).sum ≤ 8 * zss.length := by
  unfold ylens
  induction zss with
  | nil => simp
  | cons z zss ih =>
    have h0 := h 0
    have := ih fun i => by have := h (i + 1); simpa using this
    simp at h0
    simp only [List.map_cons, List.sum_cons, List.length_cons]
    omega

/-- The blocks of the inode at a place. -/
def blkA (d : FD) (j : Nat) : List Int := (d.1[j]?.getD id0).2.2.2.1
/-- The file at place j with other blocks and bytes; the file at place j gone. -/
def setI (d : FD) (j : Nat) (bs : List Int) (n : Nat) : ID := ((d.1[j]?.getD id0).1, (d.1[j]?.getD id0).2.1, (n : Int), bs, (d.1[j]?.getD id0).2.2.2.2)
def setD (d : FD) (j : Nat) (bs : List Int) (data : List UInt8) : FD := (d.1.set j (setI d j bs data.length), putK (clrK d.2 (blkA d j) (blkA d j).length) bs data bs.length)
def dropD (d : FD) (j : Nat) : FD := (d.1.set j id0, clrK d.2 (blkA d j) (blkA d j).length)
def noFs (c : Int) : Int × FD := (c, [], [])
/-- SetBytes behind its first codes. -/
def setQ (d : FD) (j : Nat) (data : List UInt8) (busy : List Int) : Int × FD :=
  if data.length ≤ 32 then (if (pickR d.1 busy (((data.length + 7) / 8 : Nat) : Int)).1 = 0 then (0, setD d j (pickR d.1 busy (((data.length + 7) / 8 : Nat) : Int)).2 data) else noFs (pickR d.1 busy (((data.length + 7) / 8 : Nat) : Int)).1) else noFs 2
/-- The codes that SetBytes, WriteFile and CutFile ask alike. -/
def askR (d : FD) (x : Int) (busy : List Int) : Int := if (bytR d x).1 = 0 then busF busy else (bytR d x).1
def setR (d : FD) (x : Int) (data : List UInt8) (busy : List Int) : Int × FD := if askR d x busy = 0 then setQ d x.toNat data busy else noFs (askR d x busy)
def fromB (p : Int) : Bool := decide (0 ≤ p) && decide (p ≤ 1000)
/-- Bytes of a given number: the first of these, and 0 behind them. -/
def strY (zs : List UInt8) (n : Nat) : List UInt8 := (zs ++ List.replicate (n - zs.length) 0).take n
/-- Data in place of what is there from p on. -/
def mixY (zs : List UInt8) (p : Nat) (data : List UInt8) : List UInt8 := zs.take p ++ data ++ zs.drop (p + data.length)
def writeFR (d : FD) (x p : Int) (data : List UInt8) (busy : List Int) : Int × FD :=
  if askR d x busy = 0 then (if fromB p = true then (if p + (data.length : Int) ≤ 32 then (if data.length = 0 then (0, d) else setQ d x.toNat (mixY (strY (bytL d x.toNat) (max (p.toNat + data.length) (bytL d x.toNat).length)) p.toNat data) busy) else noFs 2) else noFs 3) else noFs (askR d x busy)
def cutR (d : FD) (x n : Int) (busy : List Int) : Int × FD :=
  if askR d x busy = 0 then (if 0 ≤ n ∧ n ≤ 32 then setQ d x.toNat (strY (bytL d x.toNat) n.toNat) busy else noFs 3) else noFs (askR d x busy)
def dropR (d : FD) (x : Int) : Int × FD := if (bytR d x).1 = 0 then (0, dropD d x.toNat) else noFs (bytR d x).1
/-- ReadFile. -/
def cutY (zs : List UInt8) (p n : Nat) : List UInt8 := (zs.drop p).take n
def readFR (d : FD) (x p n : Int) : Int × List UInt8 :=
  if (bytR d x).1 = 0 then (if fromB p && (decide (0 ≤ n) && decide (n ≤ 100)) then (0, cutY (bytL d x.toNat) p.toNat n.toNat) else (3, [])) else ((bytR d x).1, [])

/-- What stands where BytesIn tells no code. -/
structure Sound (d : FD) (j : Nat) : Prop where
  fs : fsF d = 0
  lt : j < d.1.length
  ten : d.1.length ≤ 10
  dat : d.2.length = 20
  eight : ∀ i : Nat, (d.2[i]?.getD []).length ≤ 8
  kind : (d.1[j]?.getD id0).1 = 1
  ent : (d.1[j]?.getD id0).2.2.2.2 = []
  four : (blkA d j).length ≤ 4
  blk : ∀ k : Nat, k < (blkA d j).length → 0 ≤ (blkA d j)[k]?.getD 0 ∧ (blkA d j)[k]?.getD 0 < 20
  bl : (bytL d j).length ≤ 32
theorem bytR_code {d : FD} {x : Int} (h : (bytR d x).1 = 0) : bytR d x = (0, bytL d x.toNat) ∧ fsF d = 0 ∧ (0 ≤ x ∧ x < (d.1.length : Int)) ∧ ¬ kindAt d.1 x.toNat = 2 ∧ ¬ kindAt d.1 x.toNat = 0 := by
  unfold bytR at h ⊢
  by_cases hf : fsF d = 0
  · rw [if_pos hf] at h ⊢
    by_cases hp : 0 ≤ x ∧ x < (d.1.length : Int)
    · rw [if_pos hp] at h ⊢
      by_cases h2 : kindAt d.1 x.toNat = 2
      · rw [if_pos h2] at h; simp at h
      · rw [if_neg h2] at h ⊢
        by_cases h0 : kindAt d.1 x.toNat = 0
        · rw [if_pos h0] at h; simp at h
        · rw [if_neg h0]
          exact ⟨rfl, hf, hp, h2, h0⟩
    · rw [if_neg hp] at h; simp at h
  · rw [if_neg hf] at h; exact absurd h hf
theorem bytR_bad {d : FD} {x : Int} (h : ¬ (bytR d x).1 = 0) : (bytR d x).2 = [] := by
  unfold bytR at h ⊢
  by_cases hf : fsF d = 0
  · rw [if_pos hf] at h ⊢
    by_cases hp : 0 ≤ x ∧ x < (d.1.length : Int)
    · rw [if_pos hp] at h ⊢
      by_cases h2 : kindAt d.1 x.toNat = 2
      · rw [if_pos h2]
      · rw [if_neg h2] at h ⊢
        by_cases h0 : kindAt d.1 x.toNat = 0
        · rw [if_pos h0]
        · rw [if_neg h0] at h; exact absurd rfl h
    · rw [if_neg hp]
  · rw [if_neg hf]
theorem ino_kinds {d : ID} (h : inoF d = 0) (h2 : ¬ d.1 = 2) (h0 : ¬ d.1 = 0) : d.1 = 1 ∧ d.2.2.2.2 = [] := by
  unfold inoF at h
  rw [if_neg h0] at h
  by_cases h1 : d.1 = 1
  · rw [if_pos h1] at h
    refine ⟨h1, ?_⟩
    by_cases hd : dpB d = true
    · rw [if_pos hd] at h; omega
    · unfold dpB at hd
      simp at hd
      exact hd
  · rw [if_neg h1, if_neg h2] at h; omega
theorem sound {d : FD} {x : Int} (h : (bytR d x).1 = 0) : Sound d x.toNat := by
  obtain ⟨_, hf, hp, h2, h0⟩ := bytR_code h
  obtain ⟨h1, g2, h3, _, _⟩ := fsE_zero (fsF_zero hf)
  obtain ⟨g1, _, g3⟩ := formB_no g2
  have hj : x.toNat < d.1.length := by omega
  have hk := ino_kinds (ins_ino h1 x.toNat hj) h2 h0
  have hsz := ino_size (ins_ino h1 x.toNat hj)
  have hb := bytK_len d (d.1[x.toNat]?.getD id0).2.2.2.1 (many_eight h3) _ (Nat.le_refl _)
  refine ⟨hf, hj, insF_ten h1, g3, many_eight h3, hk.1, hk.2, ?_, fun k hk => ins_blk h1 _ k hj hk, ?_⟩
  · show (d.1[x.toNat]?.getD id0).2.2.2.1.length ≤ 4
    omega
  · show (bytK d _ _).length ≤ 32
    omega
end Go.Proofs.YtpfafcodihhdfaaGreatDoor

namespace Go.Proofs.YtpfafcodihhdfaaGreatDoor
open Go.RowKit
set_option maxRecDepth 100000

def cel (vs : List Value) (i : Nat) : Value := vs[i]?.getD (.int .i64 0)
theorem newCel (w : World) (vs : List Value) (t : TypeId) : OwnRow (w.alloc (.cells vs.toArray t)) w.heap.size vs.length (cel vs) := rowVL w vs t
/-- The blocks of a list can be read, elsewhere than in bD. -/
def BlkR (w : World) (bD : Nat) (aB : Option Addr) (bs : List Int) : Prop := ∀ k, k < bs.length → ∃ b1, aB = some ⟨b1, 0, none⟩ ∧ b1 ≠ bD ∧ b1 < w.heap.size ∧ w.cell? ⟨b1, k, none⟩ = some (.int .i64 (bs[k]?.getD 0))
theorem Chg.cellOf {F : Nat → Prop} {w w' : World} (h : Chg F w w') {b o : Nat} {v : Value} (hv : w.cell? ⟨b, o, none⟩ = some v) (hf : ¬ F b) : w'.cell? ⟨b, o, none⟩ = some v := (h.cell (a := ⟨b, o, none⟩) (World.block_lt_of_cell? _ _ hv) hf).trans hv
theorem FsS.clr {w : World} {bI n cI bD cD : Nat} {d : FD} {F : Nat → Prop} {bs : List Int} {k y : Nat} (h : FsS w bI n cI bD 20 cD (d.1, clrK d.2 bs k) F) (hy : y < 20) (e : bs[k]?.getD 0 = (y : Int)) : FsS (w.setCell ⟨bD, y, none⟩ (.slice none 0 0)) bI n cI bD 20 cD (d.1, clrK d.2 bs (k + 1)) F := by
  have := h.put (G := fun _ => False) y hy (Below.refl _ _) (.slice none 0 0) [] (Or.inl ⟨rfl, none, 0, rfl⟩) (fun c hc => hc.elim)
  have e2 : clrK d.2 bs (k + 1) = (clrK d.2 bs k).set y [] := by
    show (clrK d.2 bs k).set (bs[k]?.getD 0).toNat [] = _
    rw [e]; rfl
  rw [e2]
  exact this

set_option maxHeartbeats 1600000 in
theorem dropBytes_any (w : World) (bf bI n cI bD cD : Nat) (d : FD) (F : Nat → Prop) (vs : List Value) (aB : Option Addr) (cB : Nat) (bs : List Int) (_hv : vs.length = 8) (hbox : OwnRow w bf 8 (cel vs)) (e3 : cel vs 3 = .slice aB bs.length cB) (e7 : cel vs 7 = .slice (some ⟨bD, 0, none⟩) 20 cD) (hfs : FsS w bI n cI bD 20 cD d F) (hbf : bf ≠ bD) (hbs : BlkR w bD aB bs) (hr : ∀ k : Nat, k < bs.length → 0 ≤ bs[k]?.getD 0 ∧ bs[k]?.getD 0 < 20) (h4 : bs.length ≤ 4) :
    Calls Tryz.prog 247 #[.pointer (some ⟨bf, 0, none⟩)] w fun e w' => e = .returned (.tuple #[]) ∧ Chg (fun c => c = bD) w w' ∧ FsS w' bI n cI bD 20 cD (d.1, clrK d.2 bs bs.length) F := by
  have q3 := hbox.cell (i := 3) (by omega)
  have q7 := hbox.cell (i := 7) (by omega)
  rw [e3] at q3
  rw [e7] at q7
  have HFS : Hid (FsS w bI n cI bD 20 cD d F) := hfs
  have HBS : Hid (BlkR w bD aB bs) := hbs
  have HRG : Hid (∀ k : Nat, k < bs.length → 0 ≤ bs[k]?.getD 0 ∧ bs[k]?.getD 0 < 20) := hr
  obtain ⟨nB, hnB⟩ : ∃ nB, bs.length = nB := ⟨_, rfl⟩
  have HNB : Hid (bs.length = nB) := hnB
  rw [hnB] at q3 HRG h4 ⊢
  clear hfs hbs hr hbox hnB e3 e7
  go_enter Tryz.func247, Tryz.ntmps247
  go_wp2_with fail
  go_loopw [10] (fun i wr => ∃ k : Nat, k ≤ nB ∧ i = .int .i64 k ∧ Chg (fun c => c = bD) w wr ∧ FsS wr bI n cI bD 20 cD (d.1, clrK d.2 bs k) F) (fun i _ => nB - (intOf i).toNat)
  case atStart => exact ⟨0, Nat.zero_le _, rfl, Chg.refl _ _, HFS.out⟩
  case round =>
    obtain ⟨k, hk, rfl, hc, hf⟩ := hrel
    have HC : Hid (Chg (fun c => c = bD) w wr) := hc
    have HF : Hid (FsS wr bI n cI bD 20 cD (d.1, clrK d.2 bs k) F) := hf
    have q7r := hc.cellOf q7 hbf
    clear hc hf
    by_cases hlt : k < nB
    · obtain ⟨b1, rfl, hb1, _, c1⟩ := HBS.out k (by rw [HNB.out]; exact hlt)
      have c1r := HC.out.cellOf c1 hb1
      have hrg := HRG.out k hlt
      have HCL : Hid (∀ y : Nat, y < 20 → bs[k]?.getD 0 = (y : Int) → FsS (wr.setCell ⟨bD, y, none⟩ (.slice none 0 0)) bI n cI bD 20 cD (d.1, clrK d.2 bs (k + 1)) F) := fun y hy e => HF.out.clr hy e
      generalize bs[k]?.getD 0 = x at *
      obtain ⟨y, rfl⟩ : ∃ y : Nat, x = (y : Int) := ⟨x.toNat, by omega⟩
      have hy : y < 20 := by omega
      have hyI : (y : Int) < 20 := by omega
      obtain ⟨ua, uc, d0, d1, _⟩ := HF.out.data y hy
      have HN : Hid (FsS (wr.setCell ⟨bD, y, none⟩ (.slice none 0 0)) bI n cI bD 20 cD (d.1, clrK d.2 bs (k + 1)) F) := HCL.out y hy rfl
      clear HCL hrg c1
      go_wp2
      go_roundw
      case rel => exact ⟨k + 1, by omega, by go_num, HC.out.set rfl _ _, HN.out⟩
      case measure => simp [intOf]; omega
    · have e : k = nB := by omega
      subst e
      go_wp2
      go_end0
      exact ⟨rfl, HC.out, HF.out⟩

set_option maxHeartbeats 800000 in
theorem release_any (w : World) (bf : Nat) (vs : List Value) (hbox : OwnRow w bf 8 (cel vs)) :
    Calls Tryz.prog 164 #[.pointer (some ⟨bf, 0, none⟩)] w fun e w' => e = .returned (.tuple #[]) ∧ w' = set5F w bf 0 (.int .i64 0) (.int .i64 0) (.int .i64 0) (.slice none 0 0) (.slice none 0 0) := by
  have c0 := hbox.cell (i := 0) (by omega)
  have c1 := hbox.cell (i := 1) (by omega)
  have c2 := hbox.cell (i := 2) (by omega)
  have c3 := hbox.cell (i := 3) (by omega)
  have c4 := hbox.cell (i := 4) (by omega)
  have f0 := hbox.frozen 0
  have f1 := hbox.frozen 1
  have f2 := hbox.frozen 2
  have f3 := hbox.frozen 3
  have f4 := hbox.frozen 4
  clear hbox
  go_enter Tryz.func164, Tryz.ntmps164
  go_wp2
  go_end0
  exact ⟨rfl, rfl⟩

/-- The world behind a file that is closed. -/
def clsW (w : World) (bI j : Nat) (x : ID) (vB vE va vb : Value) : World := ((set5F w bI (j * 5) (.int .i64 x.1) (.int .i64 x.2.1) (.int .i64 x.2.2.1) vB vE).alloc (.cells #[va, vb] 32)).drew
theorem cls_chg (w : World) (bI j : Nat) (x : ID) (vB vE va vb : Value) : Chg (fun c => c = bI) w (clsW w bI j x vB vE va vb) := by
  have h : Chg (fun c => c = bI) w (set5F w bI (j * 5) (.int .i64 x.1) (.int .i64 x.2.1) (.int .i64 x.2.2.1) vB vE) := by
    have h0 : Chg (fun c => c = bI) w w := Chg.refl _ _
    have h1 := Chg.set (F := fun c => c = bI) h0 rfl (j * 5) (.int .i64 x.1)
    have h2 := Chg.set (F := fun c => c = bI) h1 rfl (j * 5 + 1) (.int .i64 x.2.1)
    have h3 := Chg.set (F := fun c => c = bI) h2 rfl (j * 5 + 2) (.int .i64 x.2.2.1)
    have h4 := Chg.set (F := fun c => c = bI) h3 rfl (j * 5 + 3) vB
    exact Chg.set (F := fun c => c = bI) h4 rfl (j * 5 + 4) vE
  exact h.trans (Chg.of_below ((later1 _ _).drew))
theorem cls_block (w : World) (bI j : Nat) (x : ID) (vB vE va vb : Value) (c : Nat) (hc : c < w.heap.size) (hcb : c ≠ bI) : (clsW w bI j x vB vE va vb).heap[c]? = w.heap[c]? := (cls_chg w bI j x vB vE va vb).block c hc hcb
theorem cls_row (w : World) (bI j n : Nat) (ds : List ID) (x : ID) (vB vE va vb : Value) (u : Nat → Value × Value) (hj : j < ds.length) (hu : OwnRow w bI (n * 5) (inCell ds u)) : OwnRow (clsW w bI j x vB vE va vb) bI (n * 5) (inCell (ds.set j x) (fun i => if i = j then (vB, vE) else u i)) := by
  have h1 := hu.five (j * 5) (.int .i64 x.1) (.int .i64 x.2.1) (.int .i64 x.2.2.1) vB vE
  have h2 := h1.later ((later1 _ (.cells #[va, vb] 32)).drew)
  exact h2.congr fun c _ => (inCell_set ds u j hj x vB vE c).symm
theorem cls_fs {w : World} {bI n cI bD cD : Nat} {d : FD} {F G : Nat → Prop} (hfs : FsS w bI n cI bD 20 cD d F) (j : Nat) (hj : j < n) (x : ID) (vB vE : Value) (hv : InoU w (.int .i64 x.1) (.int .i64 x.2.1) (.int .i64 x.2.2.1) vB vE x G) (hG : ∀ c, G c → ¬ F c ∧ c < w.heap.size) (va vb : Value) : FsS (clsW w bI j x vB vE va vb) bI n cI bD 20 cD (d.1.set j x, d.2) (fun c => F c ∨ G c) := by
  have hne := hfs.ne
  have hl := hfs.len.1
  exact hfs.putI j hj x vB vE (fun u hu => cls_row w bI j n d.1 x vB vE va vb u (by omega) hu) (cls_chg w bI j x vB vE va vb) (hv.keep fun c hc hlt => cls_block w bI j x vB vE va vb c hlt fun e => (hG c hc).1 (e ▸ hne.2.1.1)) (fun c hc => ⟨(hG c hc).1, Nat.lt_of_lt_of_le (hG c hc).2 (cls_chg w bI j x vB vE va vb).size⟩)

end Go.Proofs.YtpfafcodihhdfaaGreatDoor

namespace Go.Proofs.YtpfafcodihhdfaaGreatDoor
open Go.RowKit
set_option maxRecDepth 100000

theorem eqStrsM {w : World} {va vb : Value} {xs : List (List UInt8)} (h1 : StrR w va xs) (h2 : StrR w vb xs) :
    Calls Tryz.prog 49 #[va, vb] w fun e w' => e = .returned (.bool true) ∧ Below w.heap.size w w' := by
  obtain ⟨a, ca, rfl, hn, ha⟩ := h1
  obtain ⟨b, cb, rfl, _, hb⟩ := h2
  exact (eqS_walk w a b _ ca cb xs hn ha hb).mono fun _ _ ⟨h1, m, h2⟩ => ⟨h1, h2 ▸ below_drewN (Below.refl _ _) m⟩
theorem StrsO.bound {w : World} {v : Value} {xs : List (List UInt8)} {F : Nat → Prop} (h : StrsO w v xs F) : StrsO w v xs (fun b => F b ∧ b < w.heap.size) := by
  rcases h with h | ⟨b, cap, hF, h1, h2, h3⟩
  · exact Or.inl h
  · exact Or.inr ⟨b, cap, ⟨hF, h3.lt⟩, h1, h2, h3⟩
theorem FsU.boundU {w : World} {v1 v2 : Value} {d : FD} {F : Nat → Prop} (h : FsU w v1 v2 d F) : FsU w v1 v2 d (fun b => F b ∧ b < w.heap.size) := by
  obtain ⟨F1, G1, h1, h2, h3, h4⟩ := h
  refine ⟨_, _, h1.bound, h2.bound, fun b hb hb' => h3 b hb.1 hb'.1, fun b hb => ?_⟩
  rcases hb with hb | hb
  · exact ⟨h4 b (Or.inl hb.1), hb.2⟩
  · exact ⟨h4 b (Or.inr hb.1), hb.2⟩
theorem markStrsM {w : World} {v : Value} {xs : List (List UInt8)} {F : Nat → Prop} (k : Int) (h : StrsO w v xs F) (hk0 : 1 ≤ k) (hk : k + (List.length xs : Nat) ≤ 4294967296) :
    Calls Tryz.prog 53 #[v, .int .i64 k] w fun e w' => e = .returned (.int .i64 (k + (List.length xs : Nat))) ∧ StrsO w' v (mkStrs k xs) F ∧ Chg F w w' := by
  obtain ⟨q, rfl⟩ : ∃ q : Nat, k = (q : Int) := ⟨k.toNat, by omega⟩
  rcases h with ⟨rfl, a, cap, rfl⟩ | ⟨b, cap, hF, rfl, h2, h3⟩
  · refine (markS_nil w a cap q).mono ?_
    rintro e w' ⟨rfl, rfl⟩
    exact ⟨by simp, Or.inl ⟨rfl, a, cap, rfl⟩, Chg.refl _ _⟩
  · refine (markS_walk w b cap xs.length q _ (by omega) (by omega) h3).mono ?_
    rintro e w' ⟨rfl, hr, hc⟩
    refine ⟨by simp, Or.inr ⟨b, cap, hF, by rw [mkStrs_length], by rw [mkStrs_length]; exact h2, ?_⟩, hc.mono fun b' e => by subst e; exact hF⟩
    rw [mkStrs_length]
    exact hr.congr fun i hi => (mkStrs_get (q : Int) xs hi).symm
theorem heldStrsM {w : World} {v : Value} {xs : List (List UInt8)} {F : Nat → Prop} (k : Int) (h : StrsO w v (mkStrs k xs) F) (hk0 : 1 ≤ k) (hk : k + (List.length xs : Nat) ≤ 4294967296) :
    Calls Tryz.prog 55 #[v, .int .i64 k] w fun e w' => e = .returned (.int .i64 (k + (List.length xs : Nat))) ∧ Below w.heap.size w w' := by
  obtain ⟨q, rfl⟩ : ∃ q : Nat, k = (q : Int) := ⟨k.toNat, by omega⟩
  rcases h with ⟨h0, a, cap, rfl⟩ | ⟨b, cap, hF, rfl, h2, h3⟩
  · have hx : xs.length = 0 := by have := mkStrs_length (q : Int) xs; rw [h0] at this; simpa using this.symm
    rw [hx]
    refine (heldS_nil w a cap q).mono ?_
    rintro e w' ⟨rfl, rfl⟩
    exact ⟨by simp, Below.refl _ _⟩
  · rw [mkStrs_length] at h3 ⊢
    refine (heldS_walk w b cap xs.length q (by omega) (by omega) (h3.congr fun i hi => mkStrs_get (q : Int) xs hi)).mono ?_
    rintro e w' ⟨rfl, hb⟩
    exact ⟨by simp, hb⟩

/-- A reply, a value, bytes, names and a file system. -/
abbrev CRD := Int × Int × List UInt8 × List (List UInt8) × FD
def CResR (w : World) (v1 v2 v3 v4 v5 v6 : Value) (d : CRD) : Prop := (v1 = .int .i64 d.1 ∧ v2 = .int .i64 d.2.1) ∧ Byt w v3 d.2.2.1 ∧ StrR w v4 d.2.2.2.1 ∧ FsR w v5 v6 d.2.2.2.2
theorem CResR.later {w w' : World} {v1 v2 v3 v4 v5 v6 : Value} {d : CRD} (h : CResR w v1 v2 v3 v4 v5 v6 d) (hb : Below w.heap.size w w') : CResR w' v1 v2 v3 v4 v5 v6 d := ⟨h.1, h.2.1.later hb, h.2.2.1.later hb, h.2.2.2.later hb⟩
def CResU (w : World) (v1 v2 v3 v4 v5 v6 : Value) (d : CRD) (F : Nat → Prop) : Prop := (v1 = .int .i64 d.1 ∧ v2 = .int .i64 d.2.1) ∧ ∃ F1 G1 K1 : Nat → Prop, BytO w v3 d.2.2.1 F1 ∧ StrsO w v4 d.2.2.2.1 G1 ∧ FsU w v5 v6 d.2.2.2.2 K1 ∧ (∀ b, F1 b → ¬ G1 b ∧ ¬ K1 b) ∧ (∀ b, G1 b → ¬ K1 b) ∧ ∀ b, F1 b ∨ G1 b ∨ K1 b → F b
theorem CResU.reads {w : World} {v1 v2 v3 v4 v5 v6 : Value} {d : CRD} {F : Nat → Prop} (h : CResU w v1 v2 v3 v4 v5 v6 d F) : CResR w v1 v2 v3 v4 v5 v6 d := by
  obtain ⟨h0, F1, G1, K1, h1, h2, h3, _⟩ := h
  exact ⟨h0, h1.reads, h2.reads, h3.reads⟩
theorem CResU.keep {w w' : World} {v1 v2 v3 v4 v5 v6 : Value} {d : CRD} {F : Nat → Prop} (h : CResU w v1 v2 v3 v4 v5 v6 d F) (e : ∀ b, F b → b < w.heap.size → w'.heap[b]? = w.heap[b]?) : CResU w' v1 v2 v3 v4 v5 v6 d F := by
  obtain ⟨h0, F1, G1, K1, h1, h2, h3, h4, h5, h6⟩ := h
  exact ⟨h0, F1, G1, K1, h1.keep fun b hb => e b (h6 b (Or.inl hb)), h2.keep fun b hb => e b (h6 b (Or.inr (Or.inl hb))), h3.keep fun b hb => e b (h6 b (Or.inr (Or.inr hb))), h4, h5, h6⟩
theorem CResU.later {w w' : World} {v1 v2 v3 v4 v5 v6 : Value} {d : CRD} {F : Nat → Prop} (h : CResU w v1 v2 v3 v4 v5 v6 d F) (hb : Below w.heap.size w w') : CResU w' v1 v2 v3 v4 v5 v6 d F := h.keep fun b _ hlt => hb.block b hlt
theorem CResU.mono {w : World} {v1 v2 v3 v4 v5 v6 : Value} {d : CRD} {F G : Nat → Prop} (h : CResU w v1 v2 v3 v4 v5 v6 d F) (e : ∀ b, F b → G b) : CResU w v1 v2 v3 v4 v5 v6 d G := by
  obtain ⟨h0, F1, G1, K1, h1, h2, h3, h4, h5, h6⟩ := h
  exact ⟨h0, F1, G1, K1, h1, h2, h3, h4, h5, fun b hb => e b (h6 b hb)⟩
theorem CResU.chg {w w' : World} {v1 v2 v3 v4 v5 v6 : Value} {d : CRD} {F G : Nat → Prop} (h : CResU w v1 v2 v3 v4 v5 v6 d F) (hc : Chg G w w') (hd : ∀ b, F b → ¬ G b) : CResU w' v1 v2 v3 v4 v5 v6 d F := h.keep fun b hb hlt => hc.block b hlt (hd b hb)
def spanCR (d : CRD) : Nat := d.2.2.1.length + d.2.2.2.1.length + spanFs d.2.2.2.2
def mkCR (k : Int) (d : CRD) : CRD := (d.1, d.2.1, mkByt k d.2.2.1, mkStrs (k + (d.2.2.1.length : Nat)) d.2.2.2.1, mkFs (k + (d.2.2.1.length : Nat) + (d.2.2.2.1.length : Nat)) d.2.2.2.2)
def AnsCR (w : World) (r : Int × CRD) (e : Ending) (w' : World) : Prop := ∃ z1 z2 a3 n3 c3 a4 n4 c4 a5 n5 c5 a6 n6 c6, e = .returned (.agg #[.int .i64 r.1, .int .i64 z1, .int .i64 z2, .slice a3 n3 c3, .slice a4 n4 c4, .slice a5 n5 c5, .slice a6 n6 c6]) ∧ Below w.heap.size w w' ∧ CResU w' (.int .i64 z1) (.int .i64 z2) (.slice a3 n3 c3) (.slice a4 n4 c4) (.slice a5 n5 c5) (.slice a6 n6 c6) r.2 (fresh w w')

set_option maxHeartbeats 1600000 in
theorem eqCallResultU (w : World) (c : Int) (v1 v2 v3 v4 v5 v6 v1' v2' v3' v4' v5' v6' : Value) (d : CRD) (h : CResR w v1 v2 v3 v4 v5 v6 d) (h' : CResR w v1' v2' v3' v4' v5' v6' d) :
    Calls Tryz.prog 18 #[.agg #[.int .i64 c, v1, v2, v3, v4, v5, v6], .agg #[.int .i64 c, v1', v2', v3', v4', v5', v6']] w fun e w' => e = .returned (.bool true) ∧ Below w.heap.size w w' := by
  obtain ⟨⟨rfl, rfl⟩, h3, h4, h5⟩ := h
  obtain ⟨⟨rfl, rfl⟩, h3', h4', h5'⟩ := h'
  have H3 : Hid (Byt w v3 d.2.2.1) := h3
  have H3' : Hid (Byt w v3' d.2.2.1) := h3'
  have H4 : Hid (StrR w v4 d.2.2.2.1) := h4
  have H4' : Hid (StrR w v4' d.2.2.2.1) := h4'
  have H5 : Hid (FsR w v5 v6 d.2.2.2.2) := h5
  have H5' : Hid (FsR w v5' v6' d.2.2.2.2) := h5'
  clear h3 h3' h4 h4' h5 h5'
  generalize d.1 = z1 at *
  generalize d.2.1 = z2 at *
  have e0 : (c != c) = false := by simp
  have e1 : (z1 != z1) = false := by simp
  have e2 : (z2 != z2) = false := by simp
  have HX : Hid (Bx ((w.alloc (.cells #[.int .i64 c, .int .i64 z1, .int .i64 z2, v3, v4, v5, v6] 44)).alloc (.cells #[.int .i64 c, .int .i64 z1, .int .i64 z2, v3', v4', v5', v6'] 44)) w.heap.size [.int .i64 c, .int .i64 z1, .int .i64 z2, v3, v4, v5, v6]) := (Bx.new w [.int .i64 c, .int .i64 z1, .int .i64 z2, v3, v4, v5, v6] _).later (later1 _ _)
  have HY : Hid (Bx ((w.alloc (.cells #[.int .i64 c, .int .i64 z1, .int .i64 z2, v3, v4, v5, v6] 44)).alloc (.cells #[.int .i64 c, .int .i64 z1, .int .i64 z2, v3', v4', v5', v6'] 44)) (w.heap.size + 1) [.int .i64 c, .int .i64 z1, .int .i64 z2, v3', v4', v5', v6']) := by
    have := Bx.new (w.alloc (.cells #[.int .i64 c, .int .i64 z1, .int .i64 z2, v3, v4, v5, v6] 44)) [.int .i64 c, .int .i64 z1, .int .i64 z2, v3', v4', v5', v6'] 44
    rw [World.size_alloc] at this
    exact this
  have HB0 : Hid (Below w.heap.size w ((w.alloc (.cells #[.int .i64 c, .int .i64 z1, .int .i64 z2, v3, v4, v5, v6] 44)).alloc (.cells #[.int .i64 c, .int .i64 z1, .int .i64 z2, v3', v4', v5', v6'] 44))) := later2 _ _ _
  go_enter Tryz.func18, Tryz.ntmps18
  go_wp2_with fail
  generalize ((w.alloc (.cells #[.int .i64 c, .int .i64 z1, .int .i64 z2, v3, v4, v5, v6] 44)).alloc (.cells #[.int .i64 c, .int .i64 z1, .int .i64 z2, v3', v4', v5', v6'] 44)) = W0 at *
  refine (eqBytV (H3.out.later HB0.out) (H3'.out.later HB0.out)).mono ?_
  rintro e w1 ⟨rfl, hb1⟩
  have HB1 : Hid (Below w.heap.size w w1) := HB0.out.trans (hb1.mono HB0.out.size)
  have HX1 : Hid (Bx w1 w.heap.size [.int .i64 c, .int .i64 z1, .int .i64 z2, v3, v4, v5, v6]) := HX.out.later hb1
  have HY1 : Hid (Bx w1 (w.heap.size + 1) [.int .i64 c, .int .i64 z1, .int .i64 z2, v3', v4', v5', v6']) := HY.out.later hb1
  have x4 := HX1.out 4 _ rfl
  have y4 := HY1.out 4 _ rfl
  clear hb1
  go_wp2_with fail
  clear x4 y4
  refine (eqStrsM (H4.out.later HB1.out) (H4'.out.later HB1.out)).mono ?_
  rintro e w2 ⟨rfl, hb2⟩
  have HB2 : Hid (Below w.heap.size w w2) := HB1.out.trans (hb2.mono HB1.out.size)
  have x5 := (HX1.out.later hb2) 5 _ rfl
  have x6 := (HX1.out.later hb2) 6 _ rfl
  have y5 := (HY1.out.later hb2) 5 _ rfl
  have y6 := (HY1.out.later hb2) 6 _ rfl
  clear hb2
  go_wp2_with fail
  clear x5 x6 y5 y6
  refine (eqFsU _ _ _ _ _ d.2.2.2.2 (H5.out.later HB2.out) (H5'.out.later HB2.out)).mono ?_
  rintro e w3 ⟨rfl, hb3⟩
  have HB3 : Hid (Below w.heap.size w w3) := HB2.out.trans (hb3.mono HB2.out.size)
  clear hb3
  go_wp2
  go_ret
  exact ⟨rfl, HB3.out⟩

set_option maxHeartbeats 1600000 in
theorem markCallResultU (w : World) (c : Int) (v1 v2 v3 v4 v5 v6 : Value) (d : CRD) (F : Nat → Prop) (k : Int) (h : CResU w v1 v2 v3 v4 v5 v6 d F) (hk0 : 1 ≤ k) (hk : k + (spanCR d : Nat) ≤ 4294967296) :
    Calls Tryz.prog 24 #[.agg #[.int .i64 c, v1, v2, v3, v4, v5, v6], .int .i64 k] w fun e w' => e = .returned (.int .i64 (k + (spanCR d : Nat))) ∧ CResU w' v1 v2 v3 v4 v5 v6 (mkCR k d) F ∧ Chg F w w' := by
  obtain ⟨⟨rfl, rfl⟩, F1, G1, K1, h3, h4, h5, hd1, hd2, hf⟩ := h
  have H3 : Hid (BytO w v3 d.2.2.1 F1) := h3
  have H4 : Hid (StrsO w v4 d.2.2.2.1 G1) := h4
  have H5 : Hid (FsU w v5 v6 d.2.2.2.2 K1) := h5
  have HD1 : Hid (∀ b, F1 b → ¬ G1 b ∧ ¬ K1 b) := hd1
  have HD2 : Hid (∀ b, G1 b → ¬ K1 b) := hd2
  have HF : Hid (∀ b, F1 b ∨ G1 b ∨ K1 b → F b) := hf
  have HMK : Hid (mkCR k d = (d.1, d.2.1, mkByt k d.2.2.1, mkStrs (k + (d.2.2.1.length : Nat)) d.2.2.2.1, mkFs (k + (d.2.2.1.length : Nat) + (d.2.2.2.1.length : Nat)) d.2.2.2.2)) := rfl
  have HE : Hid (k + (spanCR d : Nat) = k + (d.2.2.1.length : Nat) + (d.2.2.2.1.length : Nat) + (spanFs d.2.2.2.2 : Nat)) := by unfold Hid spanCR; omega
  have hk2 : k + (d.2.2.1.length : Nat) + (d.2.2.2.1.length : Nat) + (spanFs d.2.2.2.2 : Nat) ≤ 4294967296 := by rw [← HE.out]; exact hk
  rw [HE.out, HMK.out]
  clear h3 h4 h5 hd1 hd2 hf hk HE HMK
  obtain ⟨k1, hk1⟩ : ∃ k1, k + (d.2.2.1.length : Nat) = k1 := ⟨_, rfl⟩
  obtain ⟨k3, hk3⟩ : ∃ k3, k1 + (d.2.2.2.1.length : Nat) = k3 := ⟨_, rfl⟩
  have HQ1 : Hid (k + ((d.2.2.1.length : Nat) : Int) = k1) := hk1
  have HQ3 : Hid (k1 + ((d.2.2.2.1.length : Nat) : Int) = k3) := hk3
  have L1 : Hid (1 ≤ k1 ∧ k1 + (d.2.2.2.1.length : Nat) ≤ 4294967296 ∧ k + (d.2.2.1.length : Nat) ≤ 4611686018427387904) := by unfold Hid; omega
  have L3 : Hid (1 ≤ k3 ∧ k3 + (spanFs d.2.2.2.2 : Nat) ≤ 4294967296) := by unfold Hid; omega
  have L0 : Hid (0 ≤ k) := by unfold Hid; omega
  rw [hk1, hk3]
  rw [hk1, hk3] at hk2
  clear hk0 hk2 hk1 hk3
  have HX : Hid (OwnRow (w.alloc (.cells #[.int .i64 c, .int .i64 d.1, .int .i64 d.2.1, v3, v4, v5, v6] 44)) w.heap.size 7 (cel [.int .i64 c, .int .i64 d.1, .int .i64 d.2.1, v3, v4, v5, v6])) := newCel w [.int .i64 c, .int .i64 d.1, .int .i64 d.2.1, v3, v4, v5, v6] _
  have HB0 : Hid (Below w.heap.size w (w.alloc (.cells #[.int .i64 c, .int .i64 d.1, .int .i64 d.2.1, v3, v4, v5, v6] 44))) := later1 _ _
  generalize d.1 = z1 at *
  generalize d.2.1 = z2 at *
  go_enter Tryz.func24, Tryz.ntmps24
  go_wp2_with fail
  generalize (w.alloc (.cells #[.int .i64 c, .int .i64 z1, .int .i64 z2, v3, v4, v5, v6] 44)) = W0 at *
  refine (markBytU (F := fun b => F1 b ∧ b < w.heap.size) k (H3.out.bound.later HB0.out) L0.out L1.out.2.2).mono ?_
  rw [HQ1.out]
  rintro e w1 ⟨rfl, hm1, hc1⟩
  have HM1 : Hid (BytO w1 v3 (mkByt k d.2.2.1) (fun b => F1 b ∧ b < w.heap.size)) := hm1
  have HC1 : Hid (Chg (fun b => F1 b ∧ b < w.heap.size) W0 w1) := hc1
  have H41 : Hid (StrsO w1 v4 d.2.2.2.1 (fun b => G1 b ∧ b < w.heap.size)) := (H4.out.bound.later HB0.out).chg hc1 fun b hb h => (HD1.out b h.1).1 hb.1
  have H51 : Hid (FsU w1 v5 v6 d.2.2.2.2 (fun b => K1 b ∧ b < w.heap.size)) := (H5.out.boundU.later HB0.out).chg hc1 fun b hb h => (HD1.out b h.1).2 hb.1
  have HX1 : Hid (OwnRow w1 w.heap.size 7 (cel [.int .i64 c, .int .i64 z1, .int .i64 z2, v3, v4, v5, v6])) := HX.out.block (hc1.block _ HX.out.lt (fun h => by omega))
  have x4 : w1.cell? ⟨w.heap.size, 4, none⟩ = some v4 := HX1.out.cell (i := 4) (by omega)
  clear hm1 hc1
  go_wp2_with fail
  clear x4
  refine (markStrsM k1 H41.out L1.out.1 L1.out.2.1).mono ?_
  rw [HQ3.out]
  rintro e w2 ⟨rfl, hm2, hc2⟩
  have HM2 : Hid (StrsO w2 v4 (mkStrs k1 d.2.2.2.1) (fun b => G1 b ∧ b < w.heap.size)) := hm2
  have HC2 : Hid (Chg (fun b => G1 b ∧ b < w.heap.size) w1 w2) := hc2
  have H52 : Hid (FsU w2 v5 v6 d.2.2.2.2 (fun b => K1 b ∧ b < w.heap.size)) := H51.out.chg hc2 fun b hb h => HD2.out b h.1 hb.1
  have HM12 : Hid (BytO w2 v3 (mkByt k d.2.2.1) (fun b => F1 b ∧ b < w.heap.size)) := HM1.out.chg hc2 fun b hb h => (HD1.out b hb.1).1 h.1
  have HX2 : Hid (OwnRow w2 w.heap.size 7 (cel [.int .i64 c, .int .i64 z1, .int .i64 z2, v3, v4, v5, v6])) := HX1.out.block (hc2.block _ HX1.out.lt (fun h => by omega))
  have x5 : w2.cell? ⟨w.heap.size, 5, none⟩ = some v5 := HX2.out.cell (i := 5) (by omega)
  have x6 : w2.cell? ⟨w.heap.size, 6, none⟩ = some v6 := HX2.out.cell (i := 6) (by omega)
  clear hm2 hc2
  go_wp2_with fail
  clear x5 x6
  refine (markFsM _ _ _ d.2.2.2.2 _ k3 H52.out L3.out.1 L3.out.2).mono ?_
  rintro e w3 ⟨rfl, hm3, hc3⟩
  have HM3 : Hid (FsU w3 v5 v6 (mkFs k3 d.2.2.2.2) (fun b => K1 b ∧ b < w.heap.size)) := hm3
  have HC3 : Hid (Chg (fun b => K1 b ∧ b < w.heap.size) w2 w3) := hc3
  have HM23 : Hid (StrsO w3 v4 (mkStrs k1 d.2.2.2.1) (fun b => G1 b ∧ b < w.heap.size)) := HM2.out.chg hc3 fun b hb h => HD2.out b hb.1 h.1
  have HM13 : Hid (BytO w3 v3 (mkByt k d.2.2.1) (fun b => F1 b ∧ b < w.heap.size)) := HM12.out.chg hc3 fun b hb h => (HD1.out b hb.1).2 h.1
  clear hm3 hc3
  go_wp2
  go_ret
  refine ⟨rfl, ⟨⟨rfl, rfl⟩, _, _, _, HM13.out, HM23.out, HM3.out, fun b hb => ⟨fun h => (HD1.out b hb.1).1 h.1, fun h => (HD1.out b hb.1).2 h.1⟩, fun b hb h => HD2.out b hb.1 h.1, fun b hb => ?_⟩, ?_⟩
  · rcases hb with hb | hb | hb
    · exact HF.out b (Or.inl hb.1)
    · exact HF.out b (Or.inr (Or.inl hb.1))
    · exact HF.out b (Or.inr (Or.inr hb.1))
  · exact (Chg.of_below HB0.out).trans ((HC1.out.mono fun b hb => HF.out b (Or.inl hb.1)).trans ((HC2.out.mono fun b hb => HF.out b (Or.inr (Or.inl hb.1))).trans (HC3.out.mono fun b hb => HF.out b (Or.inr (Or.inr hb.1)))))

set_option maxHeartbeats 1600000 in
theorem heldCallResultU (w : World) (c : Int) (v1 v2 v3 v4 v5 v6 : Value) (d : CRD) (F : Nat → Prop) (k : Int) (h : CResU w v1 v2 v3 v4 v5 v6 (mkCR k d) F) (hk0 : 1 ≤ k) (hk : k + (spanCR d : Nat) ≤ 4294967296) :
    Calls Tryz.prog 25 #[.agg #[.int .i64 c, v1, v2, v3, v4, v5, v6], .int .i64 k] w fun e w' => e = .returned (.int .i64 (k + (spanCR d : Nat))) ∧ Below w.heap.size w w' := by
  have HMK : Hid (mkCR k d = (d.1, d.2.1, mkByt k d.2.2.1, mkStrs (k + (d.2.2.1.length : Nat)) d.2.2.2.1, mkFs (k + (d.2.2.1.length : Nat) + (d.2.2.2.1.length : Nat)) d.2.2.2.2)) := rfl
  rw [HMK.out] at h
  obtain ⟨⟨rfl, rfl⟩, F1, G1, K1, h3, h4, h5, -, -, -⟩ := h
  dsimp only at h3 h4 h5
  have H3 : Hid (Byt w v3 (mkByt k d.2.2.1)) := h3.reads
  have H4 : Hid (StrsO w v4 (mkStrs (k + (d.2.2.1.length : Nat)) d.2.2.2.1) G1) := h4
  have H5 : Hid (FsR w v5 v6 (mkFs (k + (d.2.2.1.length : Nat) + (d.2.2.2.1.length : Nat)) d.2.2.2.2)) := h5.reads
  have HE : Hid (k + (spanCR d : Nat) = k + (d.2.2.1.length : Nat) + (d.2.2.2.1.length : Nat) + (spanFs d.2.2.2.2 : Nat)) := by unfold Hid spanCR; omega
  have hk2 : k + (d.2.2.1.length : Nat) + (d.2.2.2.1.length : Nat) + (spanFs d.2.2.2.2 : Nat) ≤ 4294967296 := by rw [← HE.out]; exact hk
  rw [HE.out]
  clear h3 h4 h5 hk HE HMK
  obtain ⟨k1, hk1⟩ : ∃ k1, k + (d.2.2.1.length : Nat) = k1 := ⟨_, rfl⟩
  obtain ⟨k3, hk3⟩ : ∃ k3, k1 + (d.2.2.2.1.length : Nat) = k3 := ⟨_, rfl⟩
  obtain ⟨k5, hk5⟩ : ∃ k5, k3 + (spanFs d.2.2.2.2 : Nat) = k5 := ⟨_, rfl⟩
  have HQ1 : Hid (k + ((d.2.2.1.length : Nat) : Int) = k1) := hk1
  have HQ3 : Hid (k1 + ((d.2.2.2.1.length : Nat) : Int) = k3) := hk3
  have HQ5 : Hid (k3 + ((spanFs d.2.2.2.2 : Nat) : Int) = k5) := hk5
  have L1 : Hid (1 ≤ k1 ∧ k1 + (d.2.2.2.1.length : Nat) ≤ 4294967296 ∧ k + (d.2.2.1.length : Nat) ≤ 4611686018427387904) := by unfold Hid; omega
  have L3 : Hid (1 ≤ k3 ∧ k3 + (spanFs d.2.2.2.2 : Nat) ≤ 4294967296) := by unfold Hid; omega
  have L0 : Hid (0 ≤ k) := by unfold Hid; omega
  have n1 : ¬ k1 < 0 := by omega
  have n3 : ¬ k3 < 0 := by omega
  have n5 : ¬ k5 < 0 := by omega
  rw [hk1, hk3, hk5]
  rw [hk1] at H4 H5
  rw [hk3] at H5
  clear hk0 hk2 hk1 hk3 hk5
  have HX : Hid (Bx (w.alloc (.cells #[.int .i64 c, .int .i64 d.1, .int .i64 d.2.1, v3, v4, v5, v6] 44)) w.heap.size [.int .i64 c, .int .i64 d.1, .int .i64 d.2.1, v3, v4, v5, v6]) := Bx.new w [.int .i64 c, .int .i64 d.1, .int .i64 d.2.1, v3, v4, v5, v6] _
  have HB0 : Hid (Below w.heap.size w (w.alloc (.cells #[.int .i64 c, .int .i64 d.1, .int .i64 d.2.1, v3, v4, v5, v6] 44))) := later1 _ _
  generalize d.1 = z1 at *
  generalize d.2.1 = z2 at *
  go_enter Tryz.func25, Tryz.ntmps25
  go_wp2_with fail
  generalize (w.alloc (.cells #[.int .i64 c, .int .i64 z1, .int .i64 z2, v3, v4, v5, v6] 44)) = W0 at *
  refine (heldBytU k (H3.out.later HB0.out) L0.out L1.out.2.2).mono ?_
  rw [HQ1.out]
  rintro e w1 ⟨rfl, hb1⟩
  have HB1 : Hid (Below w.heap.size w w1) := HB0.out.trans (hb1.mono HB0.out.size)
  have HX1 : Hid (Bx w1 w.heap.size [.int .i64 c, .int .i64 z1, .int .i64 z2, v3, v4, v5, v6]) := HX.out.later hb1
  have x4 := HX1.out 4 _ rfl
  clear hb1
  go_wp2_with fail
  clear x4
  refine (heldStrsM k1 (H4.out.later HB1.out) L1.out.1 L1.out.2.1).mono ?_
  rw [HQ3.out]
  rintro e w2 ⟨rfl, hb2⟩
  have HB2 : Hid (Below w.heap.size w w2) := HB1.out.trans (hb2.mono HB1.out.size)
  have x5 := (HX1.out.later hb2) 5 _ rfl
  have x6 := (HX1.out.later hb2) 6 _ rfl
  clear hb2
  go_wp2_with fail
  clear x5 x6
  refine (heldFsM _ _ _ d.2.2.2.2 k3 (H5.out.later HB2.out) L3.out.1 L3.out.2).mono ?_
  rw [HQ5.out]
  rintro e w3 ⟨rfl, hb3⟩
  have HB3 : Hid (Below w.heap.size w w3) := HB2.out.trans (hb3.mono HB2.out.size)
  clear hb3
  go_wp2
  go_ret
  exact ⟨rfl, HB3.out⟩
end Go.Proofs.YtpfafcodihhdfaaGreatDoor
