/- The walks of the copying functions. One form for the contracts of the laws' own functions, type by type: what a value reads as, what it owns, how great it is. The walks of the functions that copy a list of integers: the specification's by append, the program's by copy. The plain mathematics of chapter 1: the codes of words, puts and disks. No program, no world. The walks of the codes of words and disks, the program's and the specification's. The walks of NewDisk, the program's and the specification's. -/
import Derived.Test.YtagmmgcdebgfnaaRows
import Derived.Test.YtagmmgcdebgfnaaM01
import Derived.Laws.CopyOwn
namespace Go.Proofs.Ytagmmgcdebgfnaa
open Go.RowKit
set_option maxRecDepth 100000

theorem Try.infoInt : (Try.prog.info? 2).map (fun i => (i.zero, i.size, i.bytes)) = some (some (.int .i64 0), 1, 8) := by kernel_rfl
theorem Try.infoInts : (Try.prog.info? 22).map (fun i => (i.zero, i.size, i.bytes)) = some (some (.slice none 0 0), 1, 24) := by kernel_rfl

set_option maxHeartbeats 400000 in
theorem toInts_nil (w : World) (a : Option Addr) (cap n : Nat) (hn : n ≤ 0) :
    Calls Try.prog 48 #[.slice a n cap] w fun e w' => e = .returned (.slice (some ⟨w.heap.size, 0, none⟩) n n) ∧ Below w.heap.size w w' := by
  have hmk := fun w => run_make_row' (P := Try.prog) 22 2 (.int .i64 0) 8 Try.underlying22 Try.infoInt rfl .i64 .i64 n (by omega) (by omega) w
  go_enter Try.func48, Try.ntmps48
  go_wp2
  go_loop [4] (fun i => i = .int .i64 0) (fun _ => 0)
  case atStart => rfl
  case round =>
    obtain rfl := hrel
    go_wp2
    go_ret
    exact ⟨rfl, later1 _ _⟩

set_option maxHeartbeats 400000 in
theorem toInts_walk (w : World) (b off cap n : Nat) (zs : List Int) (hn : n ≤ 1048576) (hc : ∀ k, k < n → w.cell? ⟨b, off + k, none⟩ = some (.int .i64 (zs[k]?.getD 0))) :
    Calls Try.prog 48 #[.slice (some ⟨b, off, none⟩) n cap] w fun e w' => e = .returned (.slice (some ⟨w.heap.size, 0, none⟩) n n) ∧ Below w.heap.size w w' ∧ OwnRow w' w.heap.size n (fun i => .int .i64 (zs[i]?.getD 0)) := by
  have hmk := fun w => run_make_row' (P := Try.prog) 22 2 (.int .i64 0) 8 Try.underlying22 Try.infoInt rfl .i64 .i64 n (by omega) (by omega) w
  go_enter Try.func48, Try.ntmps48
  go_wp2
  go_loopw [4] (fun i wr => ∃ j : Nat, j ≤ n ∧ i = .int .i64 j ∧ Below w.heap.size w wr ∧ OwnRow wr w.heap.size n (fun i => if i < j then .int .i64 (zs[i]?.getD 0) else .int .i64 0)) (fun i _ => n - (intOf i).toNat)
  case atStart => exact ⟨0, Nat.zero_le _, rfl, later1 _ _, (OwnRow.made w (.int .i64 0) n 2).congr fun i _ => by simp⟩
  case round =>
    obtain ⟨j, hj, rfl, hbl, hrow⟩ := hrel
    by_cases hlt : j < n
    · have c1 := cell_later hbl (hc j hlt)
      have d1 := hrow.cell hlt
      have d2 := hrow.frozen j
      simp only [Nat.lt_irrefl, if_false] at d1
      have HBL : Hid (Below w.heap.size w wr) := hbl
      have HROW : Hid (OwnRow wr w.heap.size n (fun i => if i < j then .int .i64 (zs[i]?.getD 0) else .int .i64 0)) := hrow
      clear hbl hrow hc
      go_wp2
      go_roundw
      case rel =>
        refine ⟨j + 1, by omega, by go_num, HBL.out.setCell (Nat.le_refl _) _, (HROW.out.set j _).congr fun i hi => ?_⟩
        by_cases e : i = j
        · subst e; simp
        · by_cases e2 : i < j
          · simp [e, e2, show i < j + 1 by omega]
          · simp [e, e2, show ¬ i < j + 1 by omega]
      case measure => simp [intOf]; omega
    · go_wp2
      go_ret
      have e : j = n := by omega
      subst e
      exact ⟨rfl, hbl, hrow.congr fun i hi => by simp [hi]⟩

theorem toInts_any {w : World} {v : Value} {zs : List Int} (h : Ints w v zs) (hn : zs.length ≤ 1048576) :
    Calls Try.prog 48 #[v] w fun e w' => e = .returned (.slice (some ⟨w.heap.size, 0, none⟩) zs.length zs.length) ∧ Below w.heap.size w w' ∧ IntsO w' (.slice (some ⟨w.heap.size, 0, none⟩) zs.length zs.length) zs (fresh w w') := by
  rcases h with ⟨rfl, a, cap, rfl⟩ | ⟨b, off, cap, rfl, hl, hc⟩
  · exact (toInts_nil w a cap 0 (Nat.le_refl _)).mono fun e w' ⟨he, hb⟩ => ⟨he, hb, Or.inl ⟨rfl, _, _, rfl⟩⟩
  · exact (toInts_walk w b off cap zs.length zs hn hc).mono fun e w' ⟨he, hb, hr⟩ => ⟨he, hb, Or.inr ⟨w.heap.size, _, ⟨Nat.le_refl _, hr.lt⟩, rfl, hl, hr⟩⟩

set_option maxHeartbeats 400000 in
theorem toIntsS_nil (w : World) (a : Option Addr) (cap n : Nat) (hn : n ≤ 0) :
    Calls Try.prog 61 #[.slice a n cap] w fun e w' => e = .returned (.slice (some ⟨w.heap.size, 0, none⟩) n n) ∧ Below w.heap.size w w' := by
  have hmk := fun w => run_make_row' (P := Try.prog) 41 22 (.slice none 0 0) 24 Try.underlying41 Try.infoInts rfl .i64 .i64 n (by omega) (by omega) w
  go_enter Try.func61, Try.ntmps61
  go_wp2
  go_loop [4] (fun i => i = .int .i64 0) (fun _ => 0)
  case atStart => rfl
  case round =>
    obtain rfl := hrel
    go_wp2
    go_ret
    exact ⟨rfl, later1 _ _⟩

set_option maxHeartbeats 400000 in
theorem toIntsS_walk (w : World) (b off cap n : Nat) (zss : List (List Int)) (u : Nat → Value) (hn : n ≤ 1048576) (hz : ∀ k, k < n → (zss[k]?.getD []).length ≤ 1048576)
    (hc : ∀ k, k < n → w.cell? ⟨b, off + k, none⟩ = some (u k) ∧ Ints w (u k) (zss[k]?.getD [])) :
    Calls Try.prog 61 #[.slice (some ⟨b, off, none⟩) n cap] w fun e w' => e = .returned (.slice (some ⟨w.heap.size, 0, none⟩) n n) ∧ Below w.heap.size w w' ∧
      ∃ u' s, OwnRow w' w.heap.size n u' ∧ Built w' (w.heap.size + 1) n u' (fun i => zss[i]?.getD []) s := by
  have hmk := fun w => run_make_row' (P := Try.prog) 41 22 (.slice none 0 0) 24 Try.underlying41 Try.infoInts rfl .i64 .i64 n (by omega) (by omega) w
  have HZ : Hid (∀ k, k < n → (zss[k]?.getD []).length ≤ 1048576) := hz
  have HCC : Hid (∀ k, k < n → w.cell? ⟨b, off + k, none⟩ = some (u k) ∧ Ints w (u k) (zss[k]?.getD [])) := hc
  clear hz hc
  go_enter Try.func61, Try.ntmps61
  go_wp2
  clear hmk
  go_loopw [4] (fun i wr => ∃ j : Nat, j ≤ n ∧ i = .int .i64 j ∧ Below w.heap.size w wr ∧ ∃ u' s, OwnRow wr w.heap.size n (fun i => if i < j then u' i else .slice none 0 0) ∧ Built wr (w.heap.size + 1) j u' (fun i => zss[i]?.getD []) s) (fun i _ => n - (intOf i).toNat)
  case atStart => exact ⟨0, Nat.zero_le _, rfl, later1 _ _, fun _ => .slice none 0 0, _, (OwnRow.made w (.slice none 0 0) n 22).congr fun i _ => by simp, Built.nil _ _ (by simp)⟩
  case round =>
    obtain ⟨j, hj, rfl, hbl, u', s, hrow, hbt⟩ := hrel
    by_cases hlt : j < n
    · obtain ⟨c0, i0⟩ := HCC.out j hlt
      have c1 := cell_later hbl c0
      have HI : Hid (Ints wr (u j) (zss[j]?.getD [])) := i0.later hbl
      have HBL : Hid (Below w.heap.size w wr) := hbl
      have HROW : Hid (OwnRow wr w.heap.size n (fun i => if i < j then u' i else .slice none 0 0)) := hrow
      have HBT : Hid (Built wr (w.heap.size + 1) j u' (fun i => zss[i]?.getD []) s) := hbt
      clear c0 i0 hbl hrow hbt
      go_wp2_with fail
      refine (toInts_any HI.out (HZ.out j hlt)).mono ?_
      rintro e w1 ⟨rfl, hb1, ho1⟩
      have HB1 : Hid (Below wr.heap.size wr w1) := hb1
      have HO1 : Hid (IntsO w1 (.slice (some ⟨wr.heap.size, 0, none⟩) (zss[j]?.getD []).length (zss[j]?.getD []).length) (zss[j]?.getD []) (fresh wr w1)) := ho1
      have HROW1 : Hid (OwnRow w1 w.heap.size n (fun i => if i < j then u' i else .slice none 0 0)) := HROW.out.block (hb1.block _ HROW.out.lt)
      have d1 := HROW1.out.cell hlt
      have d2 := HROW1.out.frozen j
      simp only [Nat.lt_irrefl, if_false] at d1
      clear hb1 ho1
      go_wp2
      go_roundw
      case rel =>
        refine ⟨j + 1, by omega, by go_num, (HBL.out.trans (HB1.out.mono HBL.out.size)).setCell (Nat.le_refl _) _, _, _, (HROW1.out.set j _).congr fun i hi => ?_, (HBT.out.next HB1.out HO1.out).store (by simp) _⟩
        by_cases e : i = j
        · subst e; simp
        · by_cases e2 : i < j
          · simp [e, e2, show i < j + 1 by omega]
          · simp [e, e2, show ¬ i < j + 1 by omega]
      case measure => simp [intOf]; omega
    · go_wp2
      go_ret
      have e : j = n := by omega
      subst e
      exact ⟨rfl, hbl, u', s, hrow.congr fun i hi => by simp [hi], hbt⟩

theorem len_le_sum (zss : List (List Int)) : ∀ k : Nat, (zss[k]?.getD []).length ≤ (zss.map List.length).sum := by
  intro k
  by_cases h : k < zss.length
  · have h1 := upto_succ (zss.map List.length) k (by simpa using h)
    rw [lens_get] at h1
    have h2 := upto_le (zss.map List.length) (k + 1)
    omega
  · rw [List.getElem?_eq_none (by omega)]; simp
theorem wlen_le_sum (ps : List (Int × List Int)) : ∀ k : Nat, (ps[k]?.getD (0, [])).2.length ≤ (wlens ps).sum := by
  intro k
  by_cases h : k < ps.length
  · have h1 := upto_succ (wlens ps) k (by rw [wlens_length]; exact h)
    rw [wlens_get] at h1
    have h2 := upto_le (wlens ps) (k + 1)
    omega
  · rw [List.getElem?_eq_none (by omega)]; simp

theorem toIntsS_any {w : World} {v : Value} {zss : List (List Int)} (h : IntsS w v zss) (hn : zss.length + (zss.map List.length).sum ≤ 1048576) :
    Calls Try.prog 61 #[v] w fun e w' => e = .returned (.slice (some ⟨w.heap.size, 0, none⟩) zss.length zss.length) ∧ Below w.heap.size w w' ∧ IntsSO w' (.slice (some ⟨w.heap.size, 0, none⟩) zss.length zss.length) zss (fresh w w') := by
  rcases h with ⟨rfl, a, cap, rfl⟩ | ⟨b, off, cap, u, rfl, hl, hc⟩
  · exact (toIntsS_nil w a cap 0 (Nat.le_refl _)).mono fun e w' ⟨he, hb⟩ => ⟨he, hb, Or.inl ⟨rfl, _, _, rfl⟩⟩
  · refine (toIntsS_walk w b off cap zss.length zss u (by omega) (fun k _ => by have := len_le_sum zss k; omega) hc).mono fun e w' ⟨he, hb, u', s, hr, hbt⟩ => ⟨he, hb, ?_⟩
    exact hbt.ints zss rfl (fun _ _ => rfl) hl (Nat.lt_succ_self _) hr _ ⟨Nat.le_refl _, hr.lt⟩ (fun c h1 h2 => ⟨by omega, h2⟩)

theorem Try.infoPut : (Try.prog.info? 100).map (fun i => (i.zero, i.size, i.bytes)) = some (some (.agg #[.int .i64 0, .slice none 0 0]), 2, 32) := by kernel_rfl

set_option maxHeartbeats 400000 in
theorem toPut_any (w : World) (v : Value) (a : Int) (zs : List Int) (h : Ints w v zs) (hn : zs.length ≤ 1048576) :
    Calls Try.prog 83 #[.agg #[.int .i64 a, v]] w fun e w' => ∃ b, e = .returned (.agg #[.int .i64 a, .slice (some ⟨b, 0, none⟩) zs.length zs.length]) ∧ Below w.heap.size w w' ∧ IntsO w' (.slice (some ⟨b, 0, none⟩) zs.length zs.length) zs (fresh w w') := by
  have HI : Hid (Ints w v zs) := h
  clear h
  go_enter Try.func83, Try.ntmps83
  go_wp2_with fail
  refine (toInts_any (HI.out.later (later3 _ _ _ _)) hn).mono ?_
  rintro e w1 ⟨rfl, hb1, ho1⟩
  have HB1 : Hid (Below _ _ w1) := hb1
  have HO1 : Hid (IntsO w1 _ zs _) := ho1
  obtain ⟨hc, hf⟩ := bcell hb1
  clear hb1 ho1
  go_wp2
  refine bodyPost_ret (v := .agg #[.int .i64 a, .slice (some ⟨w.heap.size + 1 + 1 + 1, 0, none⟩) zs.length zs.length]) (by simp [results, Try.results83, go_sem, hc]) rfl ⟨w.heap.size + 1 + 1 + 1, rfl, ?_, ?_⟩
  · exact ((((later3 _ _ _ _).trans (HB1.out.mono (by simp; omega))).setCell (by simp; omega) _).setCell (by simp) _).setCell (by simp) _
  · have h1 := HO1.out
    simp only [World.size_alloc] at h1
    refine (((h1.store (fun b hb => ?_) _).store (fun b hb => ?_) _).store (fun b hb => ?_) _).mono fun b hb => ?_
    · have := hb.1; simp at this ⊢; omega
    · have := hb.1; simp at this ⊢; omega
    · have := hb.1; simp at this ⊢; omega
    · exact ⟨by have := hb.1; simp at this; omega, by simpa [World.setCell] using hb.2⟩

set_option maxHeartbeats 400000 in
theorem toPuts_nil (w : World) (a : Option Addr) (cap n : Nat) (hn : n ≤ 0) :
    Calls Try.prog 38 #[.slice a n cap] w fun e w' => e = .returned (.slice (some ⟨w.heap.size, 0, none⟩) n n) ∧ Below w.heap.size w w' := by
  have hmk := fun w => run_make_pair (P := Try.prog) 47 100 (.int .i64 0) (.slice none 0 0) 32 Try.underlying47 Try.infoPut rfl .i64 .i64 n (by omega) (by omega) w
  go_enter Try.func38, Try.ntmps38
  go_wp2
  go_loop [4] (fun i => i = .int .i64 0) (fun _ => 0)
  case atStart => rfl
  case round =>
    obtain rfl := hrel
    go_wp2
    go_ret
    exact ⟨rfl, later1 _ _⟩

/-- The cells of a row of puts of which the first j stand. -/
def partCell (ps : List (Int × List Int)) (u : Nat → Value) (j c : Nat) : Value := if c < j * 2 then putCell ps u c else pairCell (.int .i64 0) (.slice none 0 0) c
theorem partCell_next (ps : List (Int × List Int)) (u : Nat → Value) (j c : Nat) (v : Value) : (if c = j * 2 + 1 then v else (if c = j * 2 then .int .i64 (ps[j]?.getD (0, [])).1 else partCell ps u j c)) = partCell ps (fun i => if i = j then v else u i) (j + 1) c := by
  unfold partCell
  by_cases e : c = j * 2 + 1
  · subst e; rw [if_pos rfl, if_pos (by omega), putCell_words]; simp
  · rw [if_neg e]
    by_cases e2 : c = j * 2
    · subst e2; rw [if_pos rfl, if_pos (by omega), putCell_at]
    · rw [if_neg e2]
      by_cases e3 : c < j * 2
      · rw [if_pos e3, if_pos (by omega)]
        unfold putCell
        by_cases e4 : c % 2 = 0
        · rw [if_pos e4, if_pos e4]
        · rw [if_neg e4, if_neg e4]
          show u (c / 2) = if c / 2 = j then v else u (c / 2)
          rw [if_neg (by omega)]
      · rw [if_neg e3, if_neg (by omega)]

set_option maxHeartbeats 800000 in
theorem toPuts_walk (w : World) (b off cap n : Nat) (ps : List (Int × List Int)) (u : Nat → Value) (hn : n ≤ 1048576) (hz : ∀ k, k < n → (ps[k]?.getD (0, [])).2.length ≤ 1048576)
    (hc : ∀ k, k < n → w.cell? ⟨b, off + k * 2, none⟩ = some (.int .i64 (ps[k]?.getD (0, [])).1) ∧ w.cell? ⟨b, off + k * 2 + 1, none⟩ = some (u k) ∧ Ints w (u k) (ps[k]?.getD (0, [])).2) :
    Calls Try.prog 38 #[.slice (some ⟨b, off, none⟩) n cap] w fun e w' => e = .returned (.slice (some ⟨w.heap.size, 0, none⟩) n n) ∧ Below w.heap.size w w' ∧
      ∃ u' s, OwnRow w' w.heap.size (n * 2) (putCell ps u') ∧ Built w' (w.heap.size + 1) n u' (fun i => (ps[i]?.getD (0, [])).2) s := by
  have hmk := fun w => run_make_pair (P := Try.prog) 47 100 (.int .i64 0) (.slice none 0 0) 32 Try.underlying47 Try.infoPut rfl .i64 .i64 n (by omega) (by omega) w
  have HZ : Hid (∀ k, k < n → (ps[k]?.getD (0, [])).2.length ≤ 1048576) := hz
  have HCC : Hid (∀ k, k < n → w.cell? ⟨b, off + k * 2, none⟩ = some (.int .i64 (ps[k]?.getD (0, [])).1) ∧ w.cell? ⟨b, off + k * 2 + 1, none⟩ = some (u k) ∧ Ints w (u k) (ps[k]?.getD (0, [])).2) := hc
  clear hz hc
  go_enter Try.func38, Try.ntmps38
  go_wp2
  clear hmk
  go_loopw [4] (fun i wr => ∃ j : Nat, j ≤ n ∧ i = .int .i64 j ∧ Below w.heap.size w wr ∧ ∃ u' s, OwnRow wr w.heap.size (n * 2) (partCell ps u' j) ∧ Built wr (w.heap.size + 1) j u' (fun i => (ps[i]?.getD (0, [])).2) s) (fun i _ => n - (intOf i).toNat)
  case atStart => exact ⟨0, Nat.zero_le _, rfl, later1 _ _, fun _ => .slice none 0 0, _, (OwnRow.madePair w (.int .i64 0) (.slice none 0 0) n 100).congr fun i _ => by simp [partCell], Built.nil _ _ (by simp)⟩
  case round =>
    obtain ⟨j, hj, rfl, hbl, u', s, hrow, hbt⟩ := hrel
    by_cases hlt : j < n
    · obtain ⟨c0, c0', i0⟩ := HCC.out j hlt
      have c1 := cell_later hbl c0
      have c2 := cell_later hbl c0'
      obtain ⟨ua, ucap, hu, _⟩ := i0.shape
      rw [hu] at c2
      have HI : Hid (Ints wr (.slice ua (ps[j]?.getD (0, [])).2.length ucap) (ps[j]?.getD (0, [])).2) := by rw [← hu]; exact i0.later hbl
      have HBL : Hid (Below w.heap.size w wr) := hbl
      have HROW : Hid (OwnRow wr w.heap.size (n * 2) (partCell ps u' j)) := hrow
      have HBT : Hid (Built wr (w.heap.size + 1) j u' (fun i => (ps[i]?.getD (0, [])).2) s) := hbt
      clear c0 c0' i0 hbl hrow hbt hu
      go_wp2_with fail
      refine (toPut_any _ _ _ _ HI.out (HZ.out j hlt)).mono ?_
      rintro e w1 ⟨nb, rfl, hb1, ho1⟩
      have HB1 : Hid (Below wr.heap.size wr w1) := hb1
      have HO1 : Hid (IntsO w1 (.slice (some ⟨nb, 0, none⟩) (ps[j]?.getD (0, [])).2.length (ps[j]?.getD (0, [])).2.length) (ps[j]?.getD (0, [])).2 (fresh wr w1)) := ho1
      have HROW1 : Hid (OwnRow w1 w.heap.size (n * 2) (partCell ps u' j)) := HROW.out.block (hb1.block _ HROW.out.lt)
      obtain ⟨y1, d1⟩ : ∃ y, w1.cell? ⟨w.heap.size, j * 2, none⟩ = some (.int .i64 y) := ⟨0, by rw [HROW1.out.cell (by omega)]; simp [partCell, pairCell]⟩
      obtain ⟨z1, z2, z3, d2⟩ : ∃ z1 z2 z3, w1.cell? ⟨w.heap.size, j * 2 + 1, none⟩ = some (.slice z1 z2 z3) := ⟨none, 0, 0, by rw [HROW1.out.cell (by omega)]; simp [partCell, pairCell]; omega⟩
      have d3 := HROW1.out.frozen (j * 2)
      have d4 := HROW1.out.frozen (j * 2 + 1)
      clear hb1 ho1
      go_wp2
      go_roundw
      case rel =>
        refine ⟨j + 1, by omega, by go_num, ((HBL.out.trans (HB1.out.mono HBL.out.size)).setCell (Nat.le_refl _) _).setCell (Nat.le_refl _) _, _, _, ((HROW1.out.set (j * 2) _).set (j * 2 + 1) _).congr fun c _ => partCell_next ps u' j c _, ((HBT.out.next HB1.out HO1.out).store (by simp) _).store (by simp) _⟩
      case measure => simp [intOf]; omega
    · go_wp2
      go_ret
      have e : j = n := by omega
      subst e
      exact ⟨rfl, hbl, u', s, hrow.congr fun i hi => by simp [partCell, hi], hbt⟩

theorem toPuts_any {w : World} {v : Value} {ps : List (Int × List Int)} (h : Puts w v ps) (hn : ps.length + (wlens ps).sum ≤ 1048576) :
    Calls Try.prog 38 #[v] w fun e w' => e = .returned (.slice (some ⟨w.heap.size, 0, none⟩) ps.length ps.length) ∧ Below w.heap.size w w' ∧ PutsO w' (.slice (some ⟨w.heap.size, 0, none⟩) ps.length ps.length) ps (fresh w w') := by
  rcases h with ⟨rfl, a, cap, rfl⟩ | ⟨b, off, cap, u, rfl, hl, hc⟩
  · exact (toPuts_nil w a cap 0 (Nat.le_refl _)).mono fun e w' ⟨he, hb⟩ => ⟨he, hb, Or.inl ⟨rfl, _, _, rfl⟩⟩
  · refine (toPuts_walk w b off cap ps.length ps u (by omega) (fun k _ => by have := wlen_le_sum ps k; omega) hc).mono fun e w' ⟨he, hb, u', s, hr, hbt⟩ => ⟨he, hb, ?_⟩
    exact hbt.puts ps rfl (fun _ _ => rfl) hl (Nat.lt_succ_self _) hr _ ⟨Nat.le_refl _, hr.lt⟩ (fun c h1 h2 => ⟨by omega, h2⟩)

/-- An answer that is a disk by itself. -/
def AnsBare (w : World) (bs : List (List Int)) (ps : List (Int × List Int)) (e : Ending) (w' : World) : Prop :=
  ∃ aB nB cB aC nC cC, e = .returned (.agg #[.slice aB nB cB, .slice aC nC cC]) ∧ Below w.heap.size w w' ∧ DiskO w' (.slice aB nB cB) (.slice aC nC cC) bs ps (fresh w w')

set_option maxHeartbeats 800000 in
theorem toDisk_any (w : World) (aB aC : Option Addr) (nB cB nC cC : Nat) (bs : List (List Int)) (ps : List (Int × List Int)) (h1 : IntsS w (.slice aB nB cB) bs) (h2 : Puts w (.slice aC nC cC) ps) (l1 : bs.length + (bs.map List.length).sum ≤ 1048576) (l2 : ps.length + (wlens ps).sum ≤ 1048576) :
    Calls Try.prog 22 #[.agg #[.slice aB nB cB, .slice aC nC cC]] w (AnsBare w bs ps) := by
  have H1 : Hid (IntsS w (.slice aB nB cB) bs) := h1
  have H2 : Hid (Puts w (.slice aC nC cC) ps) := h2
  clear h1 h2
  go_enter Try.func22, Try.ntmps22
  go_wp2_with fail
  refine (toIntsS_any (H1.out.later (later3 _ _ _ _)) l1).mono ?_
  rintro e w1 ⟨rfl, hb1, ho1⟩
  have HB1 : Hid (Below w.heap.size w w1) := (later3 _ _ _ _).trans (hb1.mono (by simp; omega))
  have O2 : OwnRow w1 (w.heap.size + 1 + 1) 2 (fun i => if i = 0 then .slice none 0 0 else .slice none 0 0) := by
    have := (OwnRow.two ((w.alloc (Obj.cells #[Value.slice aB nB cB, Value.slice aC nC cC] 44)).alloc (Obj.cells #[Value.slice none 0 0, Value.slice none 0 0] 49)) (.slice none 0 0) (.slice none 0 0) 49).later hb1
    simpa using this
  have O1 : OwnRow w1 (w.heap.size + 1) 2 (fun i => if i = 0 then .slice none 0 0 else .slice none 0 0) := by
    have := ((OwnRow.two (w.alloc (Obj.cells #[Value.slice aB nB cB, Value.slice aC nC cC] 44)) (.slice none 0 0) (.slice none 0 0) 49).later (later1 _ (Obj.cells #[Value.slice none 0 0, Value.slice none 0 0] 49))).later hb1
    simpa using this
  have P0 : w1.cell? ⟨w.heap.size, 1, none⟩ = some (.slice aC nC cC) := by
    rw [hb1.cell (by simp; omega)]
    have h := (OwnRow.two w (.slice aB nB cB) (.slice aC nC cC) 44)
    exact ((h.later (later1 _ _)).later (later1 _ _)).cell (i := 1) (by omega)
  have HO1 : Hid (IntsSO w1 (.slice (some ⟨w.heap.size + 1 + 1 + 1, 0, none⟩) bs.length bs.length) bs (fun b => w.heap.size + 1 + 1 + 1 ≤ b ∧ b < w1.heap.size)) := by
    have h := ho1
    simp only [World.size_alloc] at h
    exact h.mono fun b hb => ⟨by have := hb.1; simp at this; omega, hb.2⟩
  clear hb1 ho1
  have d1 := O2.cell (i := 0) (by omega)
  have d2 := O2.frozen 0
  simp at d1
  have HO2 : Hid (OwnRow w1 (w.heap.size + 1 + 1) 2 (fun i => if i = 0 then .slice none 0 0 else .slice none 0 0)) := O2
  have HR1 : Hid (OwnRow w1 (w.heap.size + 1) 2 (fun i => if i = 0 then .slice none 0 0 else .slice none 0 0)) := O1
  clear O1 O2
  go_wp2_with fail
  clear d1 d2 P0
  have HBX : Hid (Below w.heap.size w (w1.setCell ⟨w.heap.size + 1 + 1, 0, none⟩ (.slice (some ⟨w.heap.size + 1 + 1 + 1, 0, none⟩) bs.length bs.length))) := HB1.out.setCell (by simp; omega) _
  refine (toPuts_any (H2.out.later HBX.out) l2).mono ?_
  rintro e w2 ⟨rfl, hb2, ho2⟩
  have HOX := (HO2.out.set 0 (.slice (some ⟨w.heap.size + 1 + 1 + 1, 0, none⟩) bs.length bs.length)).later hb2
  have HRX := (HR1.out.store (p := ⟨w.heap.size + 1 + 1, 0, none⟩) (by simp) (.slice (some ⟨w.heap.size + 1 + 1 + 1, 0, none⟩) bs.length bs.length)).later hb2
  have HIX : Hid (IntsSO w2 (.slice (some ⟨w.heap.size + 1 + 1 + 1, 0, none⟩) bs.length bs.length) bs (fun b => w.heap.size + 1 + 1 + 1 ≤ b ∧ b < w1.heap.size)) :=
    (HO1.out.store (p := ⟨w.heap.size + 1 + 1, 0, none⟩) (fun b hb => by have := hb.1; simp; omega) _).keep fun b hb hlt => hb2.block b hlt
  have HPX : Hid (PutsO w2 (.slice (some ⟨w1.heap.size, 0, none⟩) ps.length ps.length) ps (fun b => w1.heap.size ≤ b ∧ b < w2.heap.size)) := by
    have h := ho2
    have e1 : (w1.setCell ⟨w.heap.size + 1 + 1, 0, none⟩ (.slice (some ⟨w.heap.size + 1 + 1 + 1, 0, none⟩) bs.length bs.length)).heap.size = w1.heap.size := by simp [World.setCell]
    unfold fresh at h
    rw [e1] at h
    exact h
  have HB2 : Hid (Below w.heap.size w w2) := HBX.out.trans (hb2.mono HBX.out.size)
  have e1 : w1.heap.size ≤ w2.heap.size := by have := hb2.size; simpa [World.setCell] using this
  have q0 := HOX.cell (i := 0) (by omega)
  have q1 := HOX.cell (i := 1) (by omega)
  have q2 := HOX.frozen 1
  have t0 := HRX.cell (i := 0) (by omega)
  have t1 := HRX.cell (i := 1) (by omega)
  have t2 := HRX.frozen 0
  have t3 := HRX.frozen 1
  simp at q0 q1 t0 t1
  clear HOX HRX hb2 ho2
  have hz1 : w.heap.size + 1 + 1 < w1.heap.size := HO2.out.lt
  go_wp2
  refine bodyPost_ret (v := .agg #[.slice (some ⟨w.heap.size + 1 + 1 + 1, 0, none⟩) bs.length bs.length, .slice (some ⟨w1.heap.size, 0, none⟩) ps.length ps.length]) (by simp [results, Try.results22, go_sem, t0, t1]) rfl ⟨_, _, _, _, _, _, rfl, ?_, ?_⟩
  · exact ((HB2.out.setCell (by simp; omega) _).setCell (by simp) _).setCell (by simp) _
  · refine ⟨_, _, ((HIX.out.store ?_ _).store ?_ _).store ?_ _, ((HPX.out.store ?_ _).store ?_ _).store ?_ _, fun b hb hb' => ?_, fun b hb => ?_⟩
    · intro b hb; have := hb.1; simp; omega
    · intro b hb; have := hb.1; simp; omega
    · intro b hb; have := hb.1; simp; omega
    · intro b hb; have := hb.1; simp; omega
    · intro b hb; have := hb.1; simp; omega
    · intro b hb; have := hb.1; simp; omega
    · have := hb.2; have := hb'.1; omega
    · unfold fresh
      simp only [World.setCell, Array.size_modify]
      rcases hb with hb | hb
      · exact ⟨by have := hb.1; omega, by have := hb.2; omega⟩
      · exact ⟨by have := hb.1; omega, hb.2⟩
end Go.Proofs.Ytagmmgcdebgfnaa

namespace Go.Proofs.Ytagmmgcdebgfnaa
open Go.RowKit
set_option maxRecDepth 100000

/-- The cells of block b, from the first on. -/
def Bx (w : World) (b : Nat) (vs : List Value) : Prop := ∀ i v, vs[i]? = some v → w.cell? ⟨b, i, none⟩ = some v
theorem Bx.new (w : World) (vs : List Value) (t : TypeId) : Bx (w.alloc (.cells vs.toArray t)) w.heap.size vs := fun i v h => by rw [new_cell]; simpa using h
theorem Bx.later {w w' : World} {b : Nat} {vs : List Value} (h : Bx w b vs) (hb : Below w.heap.size w w') : Bx w' b vs := fun i v e => cell_later hb (h i v e)
theorem Bx.chg {w w' : World} {b : Nat} {vs : List Value} {F : Nat → Prop} (h : Bx w b vs) (hc : Chg F w w') (hf : ¬ F b) : Bx w' b vs := fun i v e => by
  have := h i v e
  exact (hc.cell (a := ⟨b, i, none⟩) (World.block_lt_of_cell? _ _ this) hf).trans this
theorem Bx.lt {w : World} {b : Nat} {v : Value} {vs : List Value} (h : Bx w b (v :: vs)) : b < w.heap.size := World.block_lt_of_cell? _ _ (h 0 v rfl)

/-- Lists of integers. -/
theorem IntsO.reads {w : World} {v : Value} {zs : List Int} {F : Nat → Prop} (h : IntsO w v zs F) : Ints w v zs := h.ints
theorem toIntsU {w : World} {v : Value} {zs : List Int} (h : Ints w v zs) (hn : zs.length ≤ 1048576) :
    Calls Try.prog 48 #[v] w fun e w' => ∃ a n c, e = .returned (.slice a n c) ∧ Below w.heap.size w w' ∧ IntsO w' (.slice a n c) zs (fresh w w') :=
  (toInts_any h hn).mono fun _ _ ⟨h1, h2, h3⟩ => ⟨_, _, _, h1, h2, h3⟩
theorem eqIntsU {w : World} {v v' : Value} {zs : List Int} (h : Ints w v zs) (h' : Ints w v' zs) : Calls Try.prog 51 #[v, v'] w fun e w' => e = .returned (.bool true) ∧ Below w.heap.size w w' :=
  (eqInts_any h h').mono fun _ _ ⟨h1, m, h2⟩ => ⟨by rw [h1, beq_self_eq_true], h2 ▸ below_drewN (Below.refl _ _) m⟩
theorem markIntsU {w : World} {v : Value} {zs : List Int} {F : Nat → Prop} (k : Int) (h : IntsO w v zs F) (hk0 : 0 ≤ k) (hk : k + (zs.length : Nat) ≤ 4611686018427387904) :
    Calls Try.prog 89 #[v, .int .i64 k] w fun e w' => e = .returned (.int .i64 (k + (zs.length : Nat))) ∧ Chg F w w' :=
  (markInts_any k h hk0 hk).mono fun _ _ ⟨h1, _, h2⟩ => ⟨h1, h2⟩

/-- Disks. -/
abbrev DK := List (List Int) × List (Int × List Int)
def DiskR (w : World) (vB vC : Value) (d : DK) : Prop := IntsS w vB d.1 ∧ Puts w vC d.2
theorem DiskR.later {w w' : World} {vB vC : Value} {d : DK} (h : DiskR w vB vC d) (hb : Below w.heap.size w w') : DiskR w' vB vC d := ⟨h.1.later hb, h.2.later hb⟩
def DiskU (w : World) (vB vC : Value) (d : DK) (F : Nat → Prop) : Prop := DiskO w vB vC d.1 d.2 F
theorem DiskU.reads {w : World} {vB vC : Value} {d : DK} {F : Nat → Prop} (h : DiskU w vB vC d F) : DiskR w vB vC d := ⟨DiskO.ints h, DiskO.puts h⟩
theorem DiskU.later {w w' : World} {vB vC : Value} {d : DK} {F : Nat → Prop} (h : DiskU w vB vC d F) (hb : Below w.heap.size w w') : DiskU w' vB vC d F := DiskO.later h hb
theorem DiskU.mono {w : World} {vB vC : Value} {d : DK} {F G : Nat → Prop} (h : DiskU w vB vC d F) (e : ∀ b, F b → G b) : DiskU w vB vC d G := DiskO.mono h e
theorem DiskU.chg {w w' : World} {vB vC : Value} {d : DK} {F G : Nat → Prop} (h : DiskU w vB vC d F) (hc : Chg G w w') (hd : ∀ b, F b → ¬ G b) : DiskU w' vB vC d F := DiskO.chg h hc hd
def sizeDisk (d : DK) : Nat := dsize d.1 d.2
theorem szDiskU (w : World) (aB : Option Addr) (nB cB : Nat) (aC : Option Addr) (nC cC : Nat) (d : DK) (h : DiskR w (.slice aB nB cB) (.slice aC nC cC) d) (left : Int) (l0 : 0 ≤ left) (l1 : left ≤ 1048576) :
    Calls Try.prog 20 #[.agg #[.slice aB nB cB, .slice aC nC cC], .int .i64 left] w fun e w' => e = .returned (.int .i64 (szf left (sizeDisk d))) ∧ Below w.heap.size w w' := szDisk_any w aB aC nB cB nC cC d.1 d.2 h.1 h.2 left l0 l1
theorem toDiskU (w : World) (aB : Option Addr) (nB cB : Nat) (aC : Option Addr) (nC cC : Nat) (d : DK) (h : DiskR w (.slice aB nB cB) (.slice aC nC cC) d) (hs : sizeDisk d ≤ 1048576) :
    Calls Try.prog 22 #[.agg #[.slice aB nB cB, .slice aC nC cC]] w fun e w' => ∃ dB eB fB dC eC fC, e = .returned (.agg #[.slice dB eB fB, .slice dC eC fC]) ∧ Below w.heap.size w w' ∧ DiskU w' (.slice dB eB fB) (.slice dC eC fC) d (fresh w w') := by
  unfold sizeDisk dsize at hs
  exact (toDisk_any w aB aC nB cB nC cC d.1 d.2 h.1 h.2 (by omega) (by omega)).mono fun e w' ⟨dB, eB, fB, dC, eC, fC, h1, h2, h3⟩ => ⟨dB, eB, fB, dC, eC, fC, h1, h2, h3⟩
theorem eqDiskU (w : World) (vB vC vB' vC' : Value) (d : DK) (h : DiskR w vB vC d) (h' : DiskR w vB' vC' d) : Calls Try.prog 24 #[.agg #[vB, vC], .agg #[vB', vC']] w fun e w' => e = .returned (.bool true) ∧ Below w.heap.size w w' :=
  eqDisk_true w vB vC vB' vC' d.1 d.2 h.1 h.2 h'.1 h'.2
def spanDisk (d : DK) : Nat := dspan d.1 d.2
theorem spanDisk_le (d : DK) : spanDisk d ≤ sizeDisk d := by unfold spanDisk sizeDisk dspan dsize; omega
theorem markDiskU (w : World) (vB vC : Value) (d : DK) (F : Nat → Prop) (k : Int) (h : DiskU w vB vC d F) (hk0 : 0 ≤ k) (hk : k + (spanDisk d : Nat) ≤ 4611686018427387904) :
    Calls Try.prog 28 #[.agg #[vB, vC], .int .i64 k] w fun e w' => e = .returned (.int .i64 (k + (spanDisk d : Nat))) ∧ Chg F w w' := markDsk w vB vC d.1 d.2 F k h hk0 hk

/-- Answers that are a code and a disk. -/
def AnsDR (w : World) (r : Int × DK) (e : Ending) (w' : World) : Prop := ∃ aB nB cB aC nC cC, e = .returned (.agg #[.int .i64 r.1, .slice aB nB cB, .slice aC nC cC]) ∧ Below w.heap.size w w' ∧ DiskU w' (.slice aB nB cB) (.slice aC nC cC) r.2 (fresh w w')
theorem AnsDisk.uni {w w' : World} {c : Int} {bs : List (List Int)} {ps : List (Int × List Int)} {e : Ending} (h : AnsDisk w c bs ps e w') : AnsDR w (c, bs, ps) e w' := by
  obtain ⟨aB, nB, cB, aC, nC, cC, h1, h2⟩ := h
  exact ⟨aB, nB, cB, aC, nC, cC, h1, h2.below, h2.disk⟩
def mkDisk (k : Int) (d : DK) : DK := (marksS k (d.1.map List.length), marksP (k + ((d.1.map List.length).sum : Nat)) (wlens d.2))
end Go.Proofs.Ytagmmgcdebgfnaa

namespace Go.Proofs.Ytagmmgcdebgfnaa
open Go.RowKit
set_option maxRecDepth 100000

theorem Try.sizeInt : (Try.prog.info? 2).map (·.size) = some 1 := by kernel_rfl

/-- What 'copy' into a list that was just made comes to. -/
theorem copy_made (w : World) (a : Option Addr) (n cap : Nat) (zs : List Int) (hz : zs.length = n) (hc : At1 w a n (fun k => .int .i64 (zs[k]?.getD 0))) :
    ∃ X, (Builtin.copy_ #[22, 22] 3 #[.slice (some ⟨w.heap.size, 0, none⟩) n n, .slice a n cap]).run Try.prog (w.alloc (.cells (madeCells #[.int .i64 0] n) 2)) = .ok (goInt n) X ∧
      Below w.heap.size w X ∧ OwnRow X w.heap.size n (fun i => .int .i64 (zs[i]?.getD 0)) := by
  by_cases h0 : n = 0
  · subst h0
    have hr := run_copy_none (P := Try.prog) (w.alloc (.cells (madeCells #[.int .i64 0] 0) 2)) 22 22 3 2 (some ⟨w.heap.size, 0, none⟩) a 0 0 0 cap Try.underlying22 Try.sizeInt (by simp)
    exact ⟨_, hr, later1 _ _, (OwnRow.made w (.int .i64 0) 0 2).congr fun i hi => by omega⟩
  · obtain ⟨b, off, rfl, _⟩ := hc 0 (by omega)
    have hc' : ∀ k, k < n → w.cell? ⟨b, off + k, none⟩ = some (.int .i64 (zs[k]?.getD 0)) := by
      intro k hk
      obtain ⟨b', off', e, h⟩ := hc k hk
      simp only [Option.some.injEq, Addr.mk.injEq, and_true] at e
      rw [e.1, e.2]; exact h
    have hcp := run_copy_row (P := Try.prog) (w.alloc (.cells (madeCells #[.int .i64 0] n) 2)) 22 22 3 2 w.heap.size 0 n n ⟨b, off, none⟩ n cap (madeCells #[.int .i64 0] n) 2 (zs.map fun z => Value.int .i64 z) Try.underlying22 Try.sizeInt
      (Go.Deep.blk_alloc_new _ _) (by simp [hz]) (fun j v hv => by
        rw [List.getElem?_map, Option.map_eq_some_iff] at hv
        obtain ⟨z, hz1, rfl⟩ := hv
        have hj : j < n := by rw [← hz]; exact (List.getElem?_eq_some_iff.1 hz1).1
        have h2 := hc' j hj
        rw [hz1, Option.getD_some] at h2
        have ha : (⟨b, off, none⟩ : Addr).add j = ⟨b, off + j, none⟩ := by
          by_cases hj0 : j = 0
          · subst hj0; simp [Addr.add]
          · simp [Addr.add, hj0]
        rw [ha]
        exact cell_later (later1 _ _) h2) (by simp [size_madeCells, hz]) (fun v hv => by
        obtain ⟨z, _, rfl⟩ := List.mem_map.1 hv
        rfl)
    refine ⟨_, by rw [hcp, List.length_map, hz], below_setRow (later1 _ _) (Nat.le_refl _) _, ?_⟩
    refine ⟨_, 2, setRow_heap _ _ _ _ _ _ (Go.Deep.blk_alloc_new _ _), ?_, fun i hi => ?_⟩
    · simp [hz]
    · have hlen : i < zs.length := by omega
      simp [List.getElem?_append_left, hlen]
set_option maxHeartbeats 400000 in
theorem copyOf_more {w : World} {v : Value} {zs : List Int} (h : Ints w v zs) (hn : zs.length ≤ 1048576) :
    Calls Try.prog 87 #[v] w fun e w' => e = .returned (.slice (some ⟨w.heap.size, 0, none⟩) zs.length zs.length) ∧ Below w.heap.size w w' ∧ IntsO w' (.slice (some ⟨w.heap.size, 0, none⟩) zs.length zs.length) zs (fresh w w') ∧ w.heap.size < w'.heap.size := by
  obtain ⟨a, cap, rfl, hm, hc⟩ := h.open'
  clear h
  obtain ⟨X, hcp, hbX, hrX⟩ := copy_made w a zs.length cap zs rfl hc
  have hmk := fun w => run_make_row' (P := Try.prog) 22 2 (.int .i64 0) 8 Try.underlying22 Try.infoInt rfl .i64 .i64 zs.length (by omega) (by omega) w
  have HB : Hid (Below w.heap.size w X) := hbX
  have HR : Hid (OwnRow X w.heap.size zs.length (fun i => .int .i64 (zs[i]?.getD 0))) := hrX
  clear hbX hrX hc
  go_enter Try.func87, Try.ntmps87
  go_wp2
  go_ret
  exact ⟨rfl, HB.out, Or.inr ⟨w.heap.size, _, ⟨Nat.le_refl _, HR.out.lt⟩, rfl, hm, HR.out⟩, HR.out.lt⟩
theorem copyOf_any {w : World} {v : Value} {zs : List Int} (h : Ints w v zs) (hn : zs.length ≤ 1048576) :
    Calls Try.prog 87 #[v] w fun e w' => e = .returned (.slice (some ⟨w.heap.size, 0, none⟩) zs.length zs.length) ∧ Below w.heap.size w w' ∧ IntsO w' (.slice (some ⟨w.heap.size, 0, none⟩) zs.length zs.length) zs (fresh w w') :=
  (copyOf_more h hn).mono fun _ _ ⟨h1, h2, h3, _⟩ => ⟨h1, h2, h3⟩
end Go.Proofs.Ytagmmgcdebgfnaa

namespace Go.Proofs.Ytagmmgcdebgfnaa

def okW (z : Int) : Bool := decide (0 ≤ z ∧ z ≤ 65535)
def wordsF (ws : List Int) : Int := if 64 < ws.length then 2 else if ws.all okW then 0 else 3
/-- The first code that is not 0. -/
def firstF : List Int → Int
  | [] => 0
  | c :: cs => if c = 0 then firstF cs else c
def placeB (n : Nat) (x : Int) : Bool := decide (0 ≤ x ∧ x < (n : Int))
def putF (n : Nat) (p : Int × List Int) : Int := if placeB n p.1 = true then wordsF p.2 else 3
def faultF (bs : List (List Int)) (ps : List (Int × List Int)) : Int :=
  if 60 < bs.length ∨ 200 < ps.length then 2 else if firstF (bs.map wordsF) = 0 then firstF (ps.map (putF bs.length)) else firstF (bs.map wordsF)

theorem all_ok {ws : List Int} (h : ∀ i : Nat, i < ws.length → okW (ws[i]?.getD 0) = true) : ws.all okW = true := by
  rw [List.all_eq_true]
  intro x hx
  obtain ⟨i, hi, rfl⟩ := List.getElem_of_mem hx
  have := h i hi
  rwa [List.getElem?_eq_getElem hi, Option.getD_some] at this
theorem not_ok {ws : List Int} {i : Nat} (hi : i < ws.length) (h : okW (ws[i]?.getD 0) = false) : ws.all okW = false := by
  rw [List.getElem?_eq_getElem hi, Option.getD_some] at h
  rw [Bool.eq_false_iff]
  intro ha
  rw [List.all_eq_true] at ha
  have := ha _ (List.getElem_mem hi)
  rw [h] at this; cases this
theorem wordsF_many {ws : List Int} (h : 64 < ws.length) : wordsF ws = 2 := by simp [wordsF, h]
theorem wordsF_ok {ws : List Int} (h : ¬ 64 < ws.length) (ha : ∀ i : Nat, i < ws.length → okW (ws[i]?.getD 0) = true) : wordsF ws = 0 := by simp [wordsF, h, all_ok ha]
theorem wordsF_bad {ws : List Int} {i : Nat} (h : ¬ 64 < ws.length) (hi : i < ws.length) (ha : okW (ws[i]?.getD 0) = false) : wordsF ws = 3 := by simp [wordsF, h, not_ok hi ha]
theorem firstF_zero (l : List Int) : (∀ i : Nat, i < l.length → l[i]?.getD 0 = 0) → firstF l = 0 := by
  induction l with
  | nil => intro _; rfl
  | cons c cs ih =>
    intro h
    have h0 : c = 0 := by simpa using h 0 (by simp)
    have : firstF cs = 0 := ih fun i hi => by have := h (i + 1) (by simpa using hi); simpa using this
    simp [firstF, h0, this]
theorem firstF_at (l : List Int) : ∀ j : Nat, j < l.length → (∀ i : Nat, i < j → l[i]?.getD 0 = 0) → ¬ l[j]?.getD 0 = 0 → firstF l = l[j]?.getD 0 := by
  induction l with
  | nil => intro j hj; simp at hj
  | cons c cs ih =>
    intro j hj hz hn
    cases j with
    | zero => simp at hn; simp [firstF, hn]
    | succ j =>
      have h0 : c = 0 := by simpa using hz 0 (by omega)
      have := ih j (by simpa using hj) (fun i hi => by have := hz (i + 1) (by omega); simpa using this) (by simpa using hn)
      simp [firstF, h0, this]
theorem mapW_get (bs : List (List Int)) {i : Nat} (h : i < bs.length) : (bs.map wordsF)[i]?.getD 0 = wordsF (bs[i]?.getD []) := by
  rw [List.getElem?_map, List.getElem?_eq_getElem h]; rfl
theorem mapP_get (n : Nat) (ps : List (Int × List Int)) {i : Nat} (h : i < ps.length) : (ps.map (putF n))[i]?.getD 0 = putF n (ps[i]?.getD (0, [])) := by
  rw [List.getElem?_map, List.getElem?_eq_getElem h]; rfl
theorem faultF_many {bs : List (List Int)} {ps : List (Int × List Int)} (h : 60 < bs.length ∨ 200 < ps.length) : faultF bs ps = 2 := by simp [faultF, h]
theorem faultF_block {bs : List (List Int)} {ps : List (Int × List Int)} {j : Nat} (h : ¬ (60 < bs.length ∨ 200 < ps.length)) (hj : j < bs.length) (hz : ∀ i : Nat, i < j → wordsF (bs[i]?.getD []) = 0) (hn : ¬ wordsF (bs[j]?.getD []) = 0) : faultF bs ps = wordsF (bs[j]?.getD []) := by
  have e := firstF_at (bs.map wordsF) j (by simpa using hj) (fun i hi => by rw [mapW_get bs (by omega)]; exact hz i hi) (by rw [mapW_get bs hj]; exact hn)
  rw [mapW_get bs hj] at e
  simp [faultF, h, e, hn]
theorem faultF_put {bs : List (List Int)} {ps : List (Int × List Int)} {j : Nat} (h : ¬ (60 < bs.length ∨ 200 < ps.length)) (hb : ∀ i : Nat, i < bs.length → wordsF (bs[i]?.getD []) = 0) (hj : j < ps.length) (hz : ∀ i : Nat, i < j → putF bs.length (ps[i]?.getD (0, [])) = 0) (hn : ¬ putF bs.length (ps[j]?.getD (0, [])) = 0) : faultF bs ps = putF bs.length (ps[j]?.getD (0, [])) := by
  have e0 := firstF_zero (bs.map wordsF) (fun i hi => by rw [List.length_map] at hi; rw [mapW_get bs hi]; exact hb i hi)
  have e := firstF_at (ps.map (putF bs.length)) j (by simpa using hj) (fun i hi => by rw [mapP_get _ ps (by omega)]; exact hz i hi) (by rw [mapP_get _ ps hj]; exact hn)
  rw [mapP_get _ ps hj] at e
  simp [faultF, h, e0, e]
theorem faultF_ok {bs : List (List Int)} {ps : List (Int × List Int)} (h : ¬ (60 < bs.length ∨ 200 < ps.length)) (hb : ∀ i : Nat, i < bs.length → wordsF (bs[i]?.getD []) = 0) (hz : ∀ i : Nat, i < ps.length → putF bs.length (ps[i]?.getD (0, [])) = 0) : faultF bs ps = 0 := by
  have e0 := firstF_zero (bs.map wordsF) (fun i hi => by rw [List.length_map] at hi; rw [mapW_get bs hi]; exact hb i hi)
  have e := firstF_zero (ps.map (putF bs.length)) (fun i hi => by rw [List.length_map] at hi; rw [mapP_get _ ps hi]; exact hz i hi)
  simp [faultF, h, e0, e]

/-- The words that stand at place x while only the first k puts are looked at, the last one first. -/
def atK (bs : List (List Int)) (ps : List (Int × List Int)) (x : Int) : Nat → List Int
  | 0 => bs[x.toNat]?.getD []
  | k + 1 => if (ps[k]?.getD (0, [])).1 = x then (ps[k]?.getD (0, [])).2 else atK bs ps x k
def atF (bs : List (List Int)) (ps : List (Int × List Int)) (x : Int) : List Int := atK bs ps x ps.length
theorem atK_hit {bs : List (List Int)} {ps : List (Int × List Int)} {x : Int} {k : Nat} (h : (ps[k]?.getD (0, [])).1 = x) : atK bs ps x (k + 1) = (ps[k]?.getD (0, [])).2 := by simp [atK, h]
theorem atK_miss {bs : List (List Int)} {ps : List (Int × List Int)} {x : Int} {k : Nat} (h : ¬ (ps[k]?.getD (0, [])).1 = x) : atK bs ps x (k + 1) = atK bs ps x k := by simp [atK, h]
/-- The codes of PutBlock and of BlockAt. -/
def placeF (bs : List (List Int)) (ps : List (Int × List Int)) (x : Int) : Int := if faultF bs ps = 0 then (if placeB bs.length x = true then 0 else 3) else faultF bs ps

end Go.Proofs.Ytagmmgcdebgfnaa

namespace Go.Proofs.Ytagmmgcdebgfnaa
open Go.RowKit
set_option maxRecDepth 100000

theorem l1In_any (w : World) (v low high : Int) :
    Calls Try.prog 46 #[.int .i64 v, .int .i64 low, .int .i64 high] w fun e w' => e = .returned (.bool (decide (low ≤ v ∧ v ≤ high))) ∧ w' = w := by
  by_cases h1 : low ≤ v
  · by_cases h2 : v ≤ high
    · have e1 : decide (low ≤ v ∧ v ≤ high) = true := by simp [h1, h2]
      rw [e1]
      go_enter Try.func46, Try.ntmps46
      go_wp2
      go_ret
      exact ⟨rfl, rfl⟩
    · have e1 : decide (low ≤ v ∧ v ≤ high) = false := by simp [h2]
      rw [e1]
      go_enter Try.func46, Try.ntmps46
      go_wp2
      go_ret
      exact ⟨rfl, rfl⟩
  · have e1 : decide (low ≤ v ∧ v ≤ high) = false := by simp [h1]
    have hd : decide (low ≤ v) = false := by simpa using h1
    rw [e1]
    go_enter Try.func46, Try.ntmps46
    go_wp2
    go_ret
    exact ⟨rfl, rfl⟩

set_option maxHeartbeats 400000 in
theorem l1Words_walk (w : World) (a : Option Addr) (n cap : Nat) (ws : List Int) (hn : ws.length = n) (hm : n ≤ maxLen) (hc : At1 w a n (fun k => .int .i64 (ws[k]?.getD 0))) :
    Calls Try.prog 47 #[.slice a n cap] w fun e w' => e = .returned (.int .i64 (wordsF ws)) ∧ w' = w := by
  have HN : Hid (ws.length = n) := hn
  have HC : Hid (At1 w a n (fun k => .int .i64 (ws[k]?.getD 0))) := hc
  clear hn hc
  unfold maxLen at hm
  by_cases h : 64 < n
  · have h' : (64 : Int) < (n : Int) := by omega
    rw [wordsF_many (by rw [HN.out]; exact h)]
    go_enter Try.func47, Try.ntmps47
    go_wp2
    go_ret
    exact ⟨rfl, rfl⟩
  · have h' : ¬ (64 : Int) < (n : Int) := by omega
    go_enter Try.func47, Try.ntmps47
    go_wp2
    go_loop [3] (fun i => ∃ j : Nat, j ≤ n ∧ i = .int .i64 j ∧ ∀ i : Nat, i < j → okW (ws[i]?.getD 0) = true) (fun i => n - (intOf i).toNat)
    case atStart => exact ⟨0, Nat.zero_le _, rfl, fun i hi => by omega⟩
    case round =>
      obtain ⟨j, hj, rfl, hall⟩ := hrel
      have HA : Hid (∀ i : Nat, i < j → okW (ws[i]?.getD 0) = true) := hall
      clear hall
      by_cases hlt : j < n
      · obtain ⟨b, off, e, c1⟩ := HC.out j hlt
        clear HC
        subst e
        replace c1 : w.cell? ⟨b, off + j, none⟩ = some (.int .i64 (ws[j]?.getD 0)) := c1
        generalize hz : ws[j]?.getD 0 = z at *
        have HZ : Hid (ws[j]?.getD 0 = z) := hz
        clear hz
        cases hok : okW z
        · have HOK : Hid (decide (0 ≤ z ∧ z ≤ 65535) = false) := hok
          clear hok
          go_wp2_with fail
          refine (l1In_any _ _ _ _).mono ?_
          rw [HOK.out]
          rintro e w' ⟨rfl, rfl⟩
          go_wp2
          go_ret
          exact ⟨ret_int (wordsF_bad (by rw [HN.out]; exact h) (by rw [HN.out]; exact hlt) (by rw [HZ.out]; exact HOK.out)).symm, rfl⟩
        · have HOK : Hid (decide (0 ≤ z ∧ z ≤ 65535) = true) := hok
          clear hok
          go_wp2_with fail
          refine (l1In_any _ _ _ _).mono ?_
          rw [HOK.out]
          rintro e w' ⟨rfl, rfl⟩
          go_wp2
          go_round
          case rel =>
            refine ⟨j + 1, by omega, by go_num, fun i hi => ?_⟩
            by_cases e : i = j
            · subst e; rw [HZ.out]; exact HOK.out
            · exact HA.out i (by omega)
          case measure => simp [intOf]; omega
      · go_wp2
        go_ret
        exact ⟨ret_int (wordsF_ok (by rw [HN.out]; exact h) (fun i hi => HA.out i (by rw [HN.out] at hi; omega))).symm, rfl⟩
theorem l1Words_any {w : World} {v : Value} {ws : List Int} (h : Ints w v ws) : Calls Try.prog 47 #[v] w fun e w' => e = .returned (.int .i64 (wordsF ws)) ∧ w' = w := by
  obtain ⟨a, cap, rfl, hm, hc⟩ := h.open'
  exact l1Words_walk w a _ cap ws rfl hm hc

set_option maxHeartbeats 400000 in
theorem words_walk (w : World) (a : Option Addr) (n cap : Nat) (ws : List Int) (hn : ws.length = n) (hm : n ≤ maxLen) (hc : At1 w a n (fun k => .int .i64 (ws[k]?.getD 0))) :
    Calls Try.prog 50 #[.slice a n cap] w fun e w' => e = .returned (.int .i64 (wordsF ws)) ∧ w' = w := by
  have HN : Hid (ws.length = n) := hn
  have HC : Hid (At1 w a n (fun k => .int .i64 (ws[k]?.getD 0))) := hc
  clear hn hc
  unfold maxLen at hm
  by_cases h : 64 < n
  · have h' : (64 : Int) < (n : Int) := by omega
    rw [wordsF_many (by rw [HN.out]; exact h)]
    go_enter Try.func50, Try.ntmps50
    go_wp2
    go_ret
    exact ⟨rfl, rfl⟩
  · have h' : ¬ (64 : Int) < (n : Int) := by omega
    go_enter Try.func50, Try.ntmps50
    go_wp2
    go_loop [10] (fun i => ∃ j : Nat, j ≤ n ∧ i = .int .i64 j ∧ ∀ i : Nat, i < j → okW (ws[i]?.getD 0) = true) (fun i => n - (intOf i).toNat)
    case atStart => exact ⟨0, Nat.zero_le _, rfl, fun i hi => by omega⟩
    case round =>
      obtain ⟨j, hj, rfl, hall⟩ := hrel
      have HA : Hid (∀ i : Nat, i < j → okW (ws[i]?.getD 0) = true) := hall
      clear hall
      by_cases hlt : j < n
      · obtain ⟨b, off, e, c1⟩ := HC.out j hlt
        clear HC
        subst e
        replace c1 : w.cell? ⟨b, off + j, none⟩ = some (.int .i64 (ws[j]?.getD 0)) := c1
        generalize hz : ws[j]?.getD 0 = z at *
        have HZ : Hid (ws[j]?.getD 0 = z) := hz
        clear hz
        by_cases h1 : z < 0
        · go_wp2
          go_ret
          exact ⟨ret_int (wordsF_bad (by rw [HN.out]; exact h) (by rw [HN.out]; exact hlt) (by rw [HZ.out]; simp [okW]; omega)).symm, rfl⟩
        · have hd : decide (z < 0) = false := by simpa using h1
          by_cases h2 : 65535 < z
          · go_wp2
            go_ret
            exact ⟨ret_int (wordsF_bad (by rw [HN.out]; exact h) (by rw [HN.out]; exact hlt) (by rw [HZ.out]; simp [okW]; omega)).symm, rfl⟩
          · have hd2 : decide (65535 < z) = false := by simpa using h2
            go_wp2
            go_round
            case rel =>
              refine ⟨j + 1, by omega, by go_num, fun i hi => ?_⟩
              by_cases e : i = j
              · subst e; rw [HZ.out]; simp [okW]; omega
              · exact HA.out i (by omega)
            case measure => simp [intOf]; omega
      · go_wp2
        go_ret
        exact ⟨ret_int (wordsF_ok (by rw [HN.out]; exact h) (fun i hi => HA.out i (by rw [HN.out] at hi; omega))).symm, rfl⟩
theorem words_any {w : World} {v : Value} {ws : List Int} (h : Ints w v ws) : Calls Try.prog 50 #[v] w fun e w' => e = .returned (.int .i64 (wordsF ws)) ∧ w' = w := by
  obtain ⟨a, cap, rfl, hm, hc⟩ := h.open'
  exact words_walk w a _ cap ws rfl hm hc

theorem l1In_is {w : World} {v low high : Int} {r : Bool} (h : decide (low ≤ v ∧ v ≤ high) = r) :
    Calls Try.prog 46 #[.int .i64 v, .int .i64 low, .int .i64 high] w fun e w' => e = .returned (.bool r) ∧ w' = w := by
  subst h; exact l1In_any w v low high

theorem place_l1 (n : Nat) (x : Int) : decide (0 ≤ x ∧ x ≤ (n : Int) - 1) = placeB n x := by
  unfold placeB
  by_cases h : 0 ≤ x ∧ x < (n : Int)
  · simp [h]; omega
  · simp [h]; omega

theorem l1Fault_many (w : World) (bd : Nat) (aB aC : Option Addr) (nB cB nC cC : Nat) (h0 : w.cell? ⟨bd, 0, none⟩ = some (.slice aB nB cB)) (h1 : w.cell? ⟨bd, 1, none⟩ = some (.slice aC nC cC)) (h : 60 < nB ∨ 200 < nC) :
    Calls Try.prog 58 #[.pointer (some ⟨bd, 0, none⟩)] w fun e w' => e = .returned (.int .i64 2) ∧ w' = w := by
  by_cases g : 60 < nB
  · have g' : (60 : Int) < (nB : Int) := by omega
    clear h
    go_enter Try.func58, Try.ntmps58
    go_wp2
    go_ret
    exact ⟨rfl, rfl⟩
  · have hd : decide ((60 : Int) < (nB : Int)) = false := by simp; omega
    have g' : (200 : Int) < (nC : Int) := by omega
    clear h
    go_enter Try.func58, Try.ntmps58
    go_wp2
    go_ret
    exact ⟨rfl, rfl⟩

set_option maxHeartbeats 1600000 in
theorem l1Fault_walk (w : World) (bd : Nat) (aB aC : Option Addr) (nB cB nC cC : Nat) (bs : List (List Int)) (ps : List (Int × List Int)) (hbl : bs.length = nB) (hpl : ps.length = nC) (h0 : w.cell? ⟨bd, 0, none⟩ = some (.slice aB nB cB)) (h1 : w.cell? ⟨bd, 1, none⟩ = some (.slice aC nC cC))
    (g1 : nB ≤ 60) (g2 : nC ≤ 200) (hB : AtS w aB nB bs) (hP : AtP w aC nC ps) :
    Calls Try.prog 58 #[.pointer (some ⟨bd, 0, none⟩)] w fun e w' => e = .returned (.int .i64 (faultF bs ps)) ∧ ∃ m, w' = w.drewN m := by
  have HBL : Hid (bs.length = nB) := hbl
  have HPL : Hid (ps.length = nC) := hpl
  have HB : Hid (AtS w aB nB bs) := hB
  have HP : Hid (AtP w aC nC ps) := hP
  have HM : Hid (¬ (60 < bs.length ∨ 200 < ps.length)) := by unfold Hid; omega
  clear hbl hpl hB hP
  have hd : decide ((60 : Int) < (nB : Int)) = false := by simp; omega
  have hd2 : decide ((200 : Int) < (nC : Int)) = false := by simp; omega
  go_enter Try.func58, Try.ntmps58
  go_wp2
  go_loop [3] (fun i => ∃ j : Nat, j ≤ nB ∧ i = .int .i64 j ∧ ∀ i : Nat, i < j → wordsF (bs[i]?.getD []) = 0) (fun i => nB - (intOf i).toNat)
  case atStart => exact ⟨0, Nat.zero_le _, rfl, fun i hi => by omega⟩
  case round =>
    obtain ⟨j, hj, rfl, hall⟩ := hrel
    have HA : Hid (∀ i : Nat, i < j → wordsF (bs[i]?.getD []) = 0) := hall
    clear hall
    by_cases hlt : j < nB
    · obtain ⟨b, off, ua, ucap, e, c1, i1⟩ := HB.out j hlt
      clear HB
      subst e
      have HI : Hid (Ints w (.slice ua (bs[j]?.getD []).length ucap) (bs[j]?.getD [])) := i1
      clear i1
      generalize hc : wordsF (bs[j]?.getD []) = c
      have HC : Hid (wordsF (bs[j]?.getD []) = c) := hc
      clear hc
      by_cases hz : c = 0
      · subst hz
        go_wp2_with fail
        refine (l1Words_any HI.out).mono ?_
        rw [HC.out]
        rintro e w' ⟨rfl, rfl⟩
        go_wp2
        go_round
        case rel =>
          refine ⟨j + 1, by omega, by go_num, fun i hi => ?_⟩
          by_cases e : i = j
          · subst e; exact HC.out
          · exact HA.out i (by omega)
        case measure => simp [intOf]; omega
      · have hne : (c != 0) = true := by simpa using hz
        go_wp2_with fail
        refine (l1Words_any HI.out).mono ?_
        rw [HC.out]
        rintro e w' ⟨rfl, rfl⟩
        go_wp2
        go_ret
        exact ⟨ret_int (by rw [faultF_block HM.out (by rw [HBL.out]; exact hlt) HA.out (by rw [HC.out]; exact hz), HC.out]), 0, rfl⟩
    · have HA' : Hid (∀ i : Nat, i < bs.length → wordsF (bs[i]?.getD []) = 0) := fun i hi => HA.out i (by rw [HBL.out] at hi; omega)
      clear HA HB
      go_wp2
      go_loopw [5] (fun i wr => ∃ j m : Nat, j ≤ nC ∧ i = .int .i64 j ∧ wr = w.drewN m ∧ ∀ i : Nat, i < j → putF bs.length (ps[i]?.getD (0, [])) = 0) (fun i _ => nC - (intOf i).toNat)
      case atStart => exact ⟨0, 0, Nat.zero_le _, rfl, rfl, fun i hi => by omega⟩
      case round =>
        obtain ⟨k, m, hk, rfl, rfl, hall⟩ := hrel
        have HA : Hid (∀ i : Nat, i < k → putF bs.length (ps[i]?.getD (0, [])) = 0) := hall
        clear hall
        by_cases hlt2 : k < nC
        · obtain ⟨b, off, ua, ucap, e, c1, c2, i1⟩ := HP.out k hlt2
          clear HP
          subst e
          have HI : Hid (Ints w (.slice ua (ps[k]?.getD (0, [])).2.length ucap) (ps[k]?.getD (0, [])).2) := i1
          clear i1
          have hPF : putF bs.length (ps[k]?.getD (0, [])) = if placeB nB (ps[k]?.getD (0, [])).1 = true then wordsF (ps[k]?.getD (0, [])).2 else 3 := by rw [HBL.out]; rfl
          have HPF : Hid (putF bs.length (ps[k]?.getD (0, [])) = if placeB nB (ps[k]?.getD (0, [])).1 = true then wordsF (ps[k]?.getD (0, [])).2 else 3) := hPF
          clear hPF
          cases hpl : placeB nB (ps[k]?.getD (0, [])).1
          · have HQ : Hid (decide (0 ≤ (ps[k]?.getD (0, [])).1 ∧ (ps[k]?.getD (0, [])).1 ≤ (nB : Int) - 1) = false) := by unfold Hid; rw [place_l1]; exact hpl
            have HF : Hid (putF bs.length (ps[k]?.getD (0, [])) = 3) := by unfold Hid; rw [HPF.out, hpl]; rfl
            clear hpl
            go_wp2_with fail
            go_quiet ((go_at_call 46; refine quiet_same2 (l1In_is (r := false) ?_); exact HQ.out))
            go_wp2
            go_ret
            exact ⟨ret_int (by rw [faultF_put HM.out HA'.out (by rw [HPL.out]; exact hlt2) HA.out (by rw [HF.out]; decide), HF.out]), m + nq, by rw [World.drewN_drewN]⟩
          · have HQ : Hid (decide (0 ≤ (ps[k]?.getD (0, [])).1 ∧ (ps[k]?.getD (0, [])).1 ≤ (nB : Int) - 1) = true) := by unfold Hid; rw [place_l1]; exact hpl
            have HF : Hid (putF bs.length (ps[k]?.getD (0, [])) = wordsF (ps[k]?.getD (0, [])).2) := by unfold Hid; rw [HPF.out, hpl]; rfl
            clear hpl
            generalize hc : wordsF (ps[k]?.getD (0, [])).2 = c at *
            have HC : Hid (wordsF (ps[k]?.getD (0, [])).2 = c) := hc
            clear hc
            go_wp2_with fail
            go_quiet ((go_at_call 46; refine quiet_same2 (l1In_is (r := true) ?_); exact HQ.out))
            by_cases hz : c = 0
            · subst hz
              go_wp2_with fail
              refine (l1Words_any (HI.out.drewN _)).mono ?_
              rw [HC.out]
              rintro e w' ⟨rfl, rfl⟩
              go_wp2
              go_roundw
              case rel =>
                refine ⟨k + 1, m + nq, by omega, by go_num, by first | rfl | rw [World.drewN_drewN], fun i hi => ?_⟩
                by_cases e : i = k
                · subst e; exact HF.out
                · exact HA.out i (by omega)
              case measure => simp [intOf]; omega
            · have hne : (c != 0) = true := by simpa using hz
              go_wp2_with fail
              refine (l1Words_any (HI.out.drewN _)).mono ?_
              rw [HC.out]
              rintro e w' ⟨rfl, rfl⟩
              go_wp2
              go_ret
              exact ⟨ret_int (by rw [faultF_put HM.out HA'.out (by rw [HPL.out]; exact hlt2) HA.out (by rw [HF.out]; exact hz), HF.out]), m + nq, by first | rfl | rw [World.drewN_drewN]⟩
        · go_wp2
          go_ret
          exact ⟨ret_int (by rw [faultF_ok HM.out HA'.out (fun i hi => HA.out i (by rw [HPL.out] at hi; omega))]), m, rfl⟩
end Go.Proofs.Ytagmmgcdebgfnaa

namespace Go.Proofs.Ytagmmgcdebgfnaa
open Go.RowKit
set_option maxRecDepth 100000

theorem newRack_any (w : World) (n : Nat) (hn : n ≤ 60) :
    Calls Try.prog 106 #[.int .i64 (n : Int)] w fun e w' => ∃ b, w.heap.size ≤ b ∧ e = .returned (.agg #[.slice (some ⟨b, 0, none⟩) n n]) ∧ Below w.heap.size w w' ∧ OwnRow w' b n (fun _ => .slice none 0 0) := by
  have hmk := fun w => run_make_row' (P := Try.prog) 41 22 (.slice none 0 0) 24 Try.underlying41 Try.infoInts rfl .i64 .i64 n (by omega) (by omega) w
  go_enter Try.func106, Try.ntmps106
  go_wp2
  refine bodyPost_ret (v := .agg #[.slice (some ⟨w.heap.size + 1, 0, none⟩) n n]) (by simp [results, Try.results106, go_sem]) rfl ⟨w.heap.size + 1, by omega, rfl, later2 _ _ _, ?_⟩
  have := OwnRow.made (w.alloc (Obj.cells #[Value.slice (some ⟨w.heap.size + 1, 0, none⟩) n n] 119)) (.slice none 0 0) n 22
  simpa using this

/-- n empty lists in one row that the call made. -/
theorem empties {w' : World} {b n : Nat} (F : Nat → Prop) (hF : F b) (hn : n ≤ 60) (h : OwnRow w' b n (fun _ => .slice none 0 0)) : IntsSO w' (.slice (some ⟨b, 0, none⟩) n n) (List.replicate n []) F := by
  refine Or.inr ⟨b, n, fun _ => .slice none 0 0, fun _ _ => False, hF, fun _ _ h => h.elim, fun _ _ _ _ h => h.elim, by simp, by unfold maxLen; simp; omega, by simpa using h, fun i hi => Or.inl ⟨?_, none, 0, rfl⟩⟩
  simp at hi
  simp [hi]

/-- The codes and the blocks of a new disk. -/
def newCode (size : Int) : Int := if 0 ≤ size ∧ size ≤ 60 then 0 else 3
def newBlocks (size : Int) : List (List Int) := if 0 ≤ size ∧ size ≤ 60 then List.replicate size.toNat [] else []

theorem ans_new {w w' : World} {b n : Nat} (hn : n ≤ 60) (hb : w.heap.size ≤ b) (hbel : Below w.heap.size w w') (hr : OwnRow w' b n (fun _ => .slice none 0 0)) : AnsDisk w 0 (List.replicate n []) [] (.returned (.agg #[.int .i64 0, .slice (some ⟨b, 0, none⟩) n n, .slice none 0 0])) w' :=
  ⟨_, n, n, none, 0, 0, rfl, hbel, fun c => c = b, fun _ => False, empties _ rfl hn hr, Or.inl ⟨rfl, none, 0, rfl⟩, fun _ _ h => h.elim, fun c h => by have := hr.lt; exact h.elim (fun h => ⟨by omega, by omega⟩) False.elim⟩

end Go.Proofs.Ytagmmgcdebgfnaa
