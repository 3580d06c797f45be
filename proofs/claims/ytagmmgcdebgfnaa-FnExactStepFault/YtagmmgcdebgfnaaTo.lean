
/- The walks of the copying functions. -/
import Derived.Test.YtagmmgcdebgfnaaRows
import Derived.Test.YtagmmgcdebgfnaaBuilt
namespace Go.Proofs.Ytagmmgcdebgfnaa
open Go.RowKit
set_option maxRecDepth 100000

theorem Try.infoInt : (Try.prog.info? 2).map (fun i => (i.zero, i.size, i.bytes)) = some (some (.int .i64 0), 1, 8) := by kernel_rfl
theorem Try.infoInts : (Try.prog.info? 22).map (fun i => (i.zero, i.size, i.bytes)) = some (some (.slice none 0 0), 1, 24) := by kernel_rfl

set_option maxHeartbeats 400000 in
theorem toInts_nil (w : World) (a : Option Addr) (cap n : Nat) (hn : n ≤ 0) :
    Calls Try.prog 48 #[.slice a n cap] w fun e w' => e = .returned (.slice (some ⟨w.heap.size, 0, none⟩) n n) ∧ Below w.heap.size w w' := by
  have hmk := fun w => run_make_row' (P := Try.prog) 22 2 (.int .i64 0) 8 Try.underlying22 Try.infoInt rfl .i64 .i64 n (by omega) (by omega) w
  go_enter Try.func48, Try.ntmps48
  go_wp2
  go_loop [4] (fun i => i = .int .i64 0) (fun _ => 0)
  case atStart => rfl
  case round =>
    obtain rfl := hrel
    go_wp2
    go_ret
    exact ⟨rfl, later1 _ _⟩

set_option maxHeartbeats 400000 in
theorem toInts_walk (w : World) (b off cap n : Nat) (zs : List Int) (hn : n ≤ 1048576) (hc : ∀ k, k < n → w.cell? ⟨b, off + k, none⟩ = some (.int .i64 (zs[k]?.getD 0))) :
    Calls Try.prog 48 #[.slice (some ⟨b, off, none⟩) n cap] w fun e w' => e = .returned (.slice (some ⟨w.heap.size, 0, none⟩) n n) ∧ Below w.heap.size w w' ∧ OwnRow w' w.heap.size n (fun i => .int .i64 (zs[i]?.getD 0)) := by
  have hmk := fun w => run_make_row' (P := Try.prog) 22 2 (.int .i64 0) 8 Try.underlying22 Try.infoInt rfl .i64 .i64 n (by omega) (by omega) w
  go_enter Try.func48, Try.ntmps48
  go_wp2
  go_loopw [4] (fun i wr => ∃ j : Nat, j ≤ n ∧ i = .int .i64 j ∧ Below w.heap.size w wr ∧ OwnRow wr w.heap.size n (fun i => if i < j then .int .i64 (zs[i]?.getD 0) else .int .i64 0)) (fun i _ => n - (intOf i).toNat)
  case atStart => exact ⟨0, Nat.zero_le _, rfl, later1 _ _, (OwnRow.made w (.int .i64 0) n 2).congr fun i _ => by simp⟩
  case round =>
    obtain ⟨j, hj, rfl, hbl, hrow⟩ := hrel
    by_cases hlt : j < n
    · have c1 := cell_later hbl (hc j hlt)
      have d1 := hrow.cell hlt
      have d2 := hrow.frozen j
      simp only [Nat.lt_irrefl, if_false] at d1
      have HBL : Hid (Below w.heap.size w wr) := hbl
      have HROW : Hid (OwnRow wr w.heap.size n (fun i => if i < j then .int .i64 (zs[i]?.getD 0) else .int .i64 0)) := hrow
      clear hbl hrow hc
      go_wp2
      go_roundw
      case rel =>
        refine ⟨j + 1, by omega, by go_num, HBL.out.setCell (Nat.le_refl _) _, (HROW.out.set j _).congr fun i hi => ?_⟩
        by_cases e : i = j
        · subst e; simp
        · by_cases e2 : i < j
          · simp [e, e2, show i < j + 1 by omega]
          · simp [e, e2, show ¬ i < j + 1 by omega]
      case measure => simp [intOf]; omega
    · go_wp2
      go_ret
      have e : j = n := by omega
      subst e
      exact ⟨rfl, hbl, hrow.congr fun i hi => by simp [hi]⟩

theorem toInts_any {w : World} {v : Value} {zs : List Int} (h : Ints w v zs) (hn : zs.length ≤ 1048576) :
    Calls Try.prog 48 #[v] w fun e w' => e = .returned (.slice (some ⟨w.heap.size, 0, none⟩) zs.length zs.length) ∧ Below w.heap.size w w' ∧ IntsO w' (.slice (some ⟨w.heap.size, 0, none⟩) zs.length zs.length) zs (fresh w w') := by
  rcases h with ⟨rfl, a, cap, rfl⟩ | ⟨b, off, cap, rfl, hl, hc⟩
  · exact (toInts_nil w a cap 0 (Nat.le_refl _)).mono fun e w' ⟨he, hb⟩ => ⟨he, hb, Or.inl ⟨rfl, _, _, rfl⟩⟩
  · exact (toInts_walk w b off cap zs.length zs hn hc).mono fun e w' ⟨he, hb, hr⟩ => ⟨he, hb, Or.inr ⟨w.heap.size, _, ⟨Nat.le_refl _, hr.lt⟩, rfl, hl, hr⟩⟩

set_option maxHeartbeats 400000 in
theorem toIntsS_nil (w : World) (a : Option Addr) (cap n : Nat) (hn : n ≤ 0) :
    Calls Try.prog 61 #[.slice a n cap] w fun e w' => e = .returned (.slice (some ⟨w.heap.size, 0, none⟩) n n) ∧ Below w.heap.size w w' := by
  have hmk := fun w => run_make_row' (P := Try.prog) 41 22 (.slice none 0 0) 24 Try.underlying41 Try.infoInts rfl .i64 .i64 n (by omega) (by omega) w
  go_enter Try.func61, Try.ntmps61
  go_wp2
  go_loop [4] (fun i => i = .int .i64 0) (fun _ => 0)
  case atStart => rfl
  case round =>
    obtain rfl := hrel
    go_wp2
    go_ret
    exact ⟨rfl, later1 _ _⟩

set_option maxHeartbeats 400000 in
theorem toIntsS_walk (w : World) (b off cap n : Nat) (zss : List (List Int)) (u : Nat → Value) (hn : n ≤ 1048576) (hz : ∀ k, k < n → (zss[k]?.getD []).length ≤ 1048576)
    (hc : ∀ k, k < n → w.cell? ⟨b, off + k, none⟩ = some (u k) ∧ Ints w (u k) (zss[k]?.getD [])) :
    Calls Try.prog 61 #[.slice (some ⟨b, off, none⟩) n cap] w fun e w' => e = .returned (.slice (some ⟨w.heap.size, 0, none⟩) n n) ∧ Below w.heap.size w w' ∧
      ∃ u' s, OwnRow w' w.heap.size n u' ∧ Built w' (w.heap.size + 1) n u' (fun i => zss[i]?.getD []) s := by
  have hmk := fun w => run_make_row' (P := Try.prog) 41 22 (.slice none 0 0) 24 Try.underlying41 Try.infoInts rfl .i64 .i64 n (by omega) (by omega) w
  have HZ : Hid (∀ k, k < n → (zss[k]?.getD []).length ≤ 1048576) := hz
  have HCC : Hid (∀ k, k < n → w.cell? ⟨b, off + k, none⟩ = some (u k) ∧ Ints w (u k) (zss[k]?.getD [])) := hc
  clear hz hc
  go_enter Try.func61, Try.ntmps61
  go_wp2
  clear hmk
  go_loopw [4] (fun i wr => ∃ j : Nat, j ≤ n ∧ i = .int .i64 j ∧ Below w.heap.size w wr ∧ ∃ u' s, OwnRow wr w.heap.size n (fun i => if i < j then u' i else .slice none 0 0) ∧ Built wr (w.heap.size + 1) j u' (fun i => zss[i]?.getD []) s) (fun i _ => n - (intOf i).toNat)
  case atStart => exact ⟨0, Nat.zero_le _, rfl, later1 _ _, fun _ => .slice none 0 0, _, (OwnRow.made w (.slice none 0 0) n 22).congr fun i _ => by simp, Built.nil _ _ (by simp)⟩
  case round =>
    obtain ⟨j, hj, rfl, hbl, u', s, hrow, hbt⟩ := hrel
    by_cases hlt : j < n
    · obtain ⟨c0, i0⟩ := HCC.out j hlt
      have c1 := cell_later hbl c0
      have HI : Hid (Ints wr (u j) (zss[j]?.getD [])) := i0.later hbl
      have HBL : Hid (Below w.heap.size w wr) := hbl
      have HROW : Hid (OwnRow wr w.heap.size n (fun i => if i < j then u' i else .slice none 0 0)) := hrow
      have HBT : Hid (Built wr (w.heap.size + 1) j u' (fun i => zss[i]?.getD []) s) := hbt
      clear c0 i0 hbl hrow hbt
      go_wp2_with fail
      refine (toInts_any HI.out (HZ.out j hlt)).mono ?_
      rintro e w1 ⟨rfl, hb1, ho1⟩
      have HB1 : Hid (Below wr.heap.size wr w1) := hb1
      have HO1 : Hid (IntsO w1 (.slice (some ⟨wr.heap.size, 0, none⟩) (zss[j]?.getD []).length (zss[j]?.getD []).length) (zss[j]?.getD []) (fresh wr w1)) := ho1
      have HROW1 : Hid (OwnRow w1 w.heap.size n (fun i => if i < j then u' i else .slice none 0 0)) := HROW.out.block (hb1.block _ HROW.out.lt)
      have d1 := HROW1.out.cell hlt
      have d2 := HROW1.out.frozen j
      simp only [Nat.lt_irrefl, if_false] at d1
      clear hb1 ho1
      go_wp2
      go_roundw
      case rel =>
        refine ⟨j + 1, by omega, by go_num, (HBL.out.trans (HB1.out.mono HBL.out.size)).setCell (Nat.le_refl _) _, _, _, (HROW1.out.set j _).congr fun i hi => ?_, (HBT.out.next HB1.out HO1.out).store (by simp) _⟩
        by_cases e : i = j
        · subst e; simp
        · by_cases e2 : i < j
          · simp [e, e2, show i < j + 1 by omega]
          · simp [e, e2, show ¬ i < j + 1 by omega]
      case measure => simp [intOf]; omega
    · go_wp2
      go_ret
      have e : j = n := by omega
      subst e
      exact ⟨rfl, hbl, u', s, hrow.congr fun i hi => by simp [hi], hbt⟩

theorem len_le_sum (zss : List (List Int)) : ∀ k : Nat, (zss[k]?.getD []).length ≤ (zss.map List.length).sum := by
  intro k
  by_cases h : k < zss.length
  · have h1 := upto_succ (zss.map List.length) k (by simpa using h)
    rw [lens_get] at h1
    have h2 := upto_le (zss.map List.length) (k + 1)
    omega
  · rw [List.getElem?_eq_none (by omega)]; simp
theorem wlen_le_sum (ps : List (Int × List Int)) : ∀ k : Nat, (ps[k]?.getD (0, [])).2.length ≤ (wlens ps).sum := by
  intro k
  by_cases h : k < ps.length
  · have h1 := upto_succ (wlens ps) k (by rw [wlens_length]; exact h)
    rw [wlens_get] at h1
    have h2 := upto_le (wlens ps) (k + 1)
    omega
  · rw [List.getElem?_eq_none (by omega)]; simp

theorem toIntsS_any {w : World} {v : Value} {zss : List (List Int)} (h : IntsS w v zss) (hn : zss.length + (zss.map List.length).sum ≤ 1048576) :
    Calls Try.prog 61 #[v] w fun e w' => e = .returned (.slice (some ⟨w.heap.size, 0, none⟩) zss.length zss.length) ∧ Below w.heap.size w w' ∧ IntsSO w' (.slice (some ⟨w.heap.size, 0, none⟩) zss.length zss.length) zss (fresh w w') := by
  rcases h with ⟨rfl, a, cap, rfl⟩ | ⟨b, off, cap, u, rfl, hl, hc⟩
  · exact (toIntsS_nil w a cap 0 (Nat.le_refl _)).mono fun e w' ⟨he, hb⟩ => ⟨he, hb, Or.inl ⟨rfl, _, _, rfl⟩⟩
  · refine (toIntsS_walk w b off cap zss.length zss u (by omega) (fun k _ => by have := len_le_sum zss k; omega) hc).mono fun e w' ⟨he, hb, u', s, hr, hbt⟩ => ⟨he, hb, ?_⟩
    exact hbt.ints zss rfl (fun _ _ => rfl) hl (Nat.lt_succ_self _) hr _ ⟨Nat.le_refl _, hr.lt⟩ (fun c h1 h2 => ⟨by omega, h2⟩)

theorem Try.infoPut : (Try.prog.info? 100).map (fun i => (i.zero, i.size, i.bytes)) = some (some (.agg #[.int .i64 0, .slice none 0 0]), 2, 32) := by kernel_rfl

set_option maxHeartbeats 400000 in
theorem toPut_any (w : World) (v : Value) (a : Int) (zs : List Int) (h : Ints w v zs) (hn : zs.length ≤ 1048576) :
    Calls Try.prog 83 #[.agg #[.int .i64 a, v]] w fun e w' => ∃ b, e = .returned (.agg #[.int .i64 a, .slice (some ⟨b, 0, none⟩) zs.length zs.length]) ∧ Below w.heap.size w w' ∧ IntsO w' (.slice (some ⟨b, 0, none⟩) zs.length zs.length) zs (fresh w w') := by
  have HI : Hid (Ints w v zs) := h
  clear h
  go_enter Try.func83, Try.ntmps83
  go_wp2_with fail
  refine (toInts_any (HI.out.later (later3 _ _ _ _)) hn).mono ?_
  rintro e w1 ⟨rfl, hb1, ho1⟩
  have HB1 : Hid (Below _ _ w1) := hb1
  have HO1 : Hid (IntsO w1 _ zs _) := ho1
  obtain ⟨hc, hf⟩ := bcell hb1
  clear hb1 ho1
  go_wp2
  refine bodyPost_ret (v := .agg #[.int .i64 a, .slice (some ⟨w.heap.size + 1 + 1 + 1, 0, none⟩) zs.length zs.length]) (by simp [results, Try.results83, go_sem, hc]) rfl ⟨w.heap.size + 1 + 1 + 1, rfl, ?_, ?_⟩
  · exact ((((later3 _ _ _ _).trans (HB1.out.mono (by simp; omega))).setCell (by simp; omega) _).setCell (by simp) _).setCell (by simp) _
  · have h1 := HO1.out
    simp only [World.size_alloc] at h1
    refine (((h1.store (fun b hb => ?_) _).store (fun b hb => ?_) _).store (fun b hb => ?_) _).mono fun b hb => ?_
    · have := hb.1; simp at this ⊢; omega
    · have := hb.1; simp at this ⊢; omega
    · have := hb.1; simp at this ⊢; omega
    · exact ⟨by have := hb.1; simp at this; omega, by simpa [World.setCell] using hb.2⟩

set_option maxHeartbeats 400000 in
theorem toPuts_nil (w : World) (a : Option Addr) (cap n : Nat) (hn : n ≤ 0) :
    Calls Try.prog 38 #[.slice a n cap] w fun e w' => e = .returned (.slice (some ⟨w.heap.size, 0, none⟩) n n) ∧ Below w.heap.size w w' := by
  have hmk := fun w => run_make_pair (P := Try.prog) 47 100 (.int .i64 0) (.slice none 0 0) 32 Try.underlying47 Try.infoPut rfl .i64 .i64 n (by omega) (by omega) w
  go_enter Try.func38, Try.ntmps38
  go_wp2
  go_loop [4] (fun i => i = .int .i64 0) (fun _ => 0)
  case atStart => rfl
  case round =>
    obtain rfl := hrel
    go_wp2
    go_ret
    exact ⟨rfl, later1 _ _⟩

/-- The cells of a row of puts of which the first j stand. -/
def partCell (ps : List (Int × List Int)) (u : Nat → Value) (j c : Nat) : Value := if c < j * 2 then putCell ps u c else pairCell (.int .i64 0) (.slice none 0 0) c
theorem partCell_next (ps : List (Int × List Int)) (u : Nat → Value) (j c : Nat) (v : Value) : (if c = j * 2 + 1 then v else (if c = j * 2 then .int .i64 (ps[j]?.getD (0, [])).1 else partCell ps u j c)) = partCell ps (fun i => if i = j then v else u i) (j + 1) c := by
  unfold partCell
  by_cases e : c = j * 2 + 1
  · subst e; rw [if_pos rfl, if_pos (by omega), putCell_words]; simp
  · rw [if_neg e]
    by_cases e2 : c = j * 2
    · subst e2; rw [if_pos rfl, if_pos (by omega), putCell_at]
    · rw [if_neg e2]
      by_cases e3 : c < j * 2
      · rw [if_pos e3, if_pos (by omega)]
        unfold putCell
        by_cases e4 : c % 2 = 0
        · rw [if_pos e4, if_pos e4]
        · rw [if_neg e4, if_neg e4]
          show u (c / 2) = if c / 2 = j then v else u (c / 2)
          rw [if_neg (by omega)]
      · rw [if_neg e3, if_neg (by omega)]

set_option maxHeartbeats 800000 in
theorem toPuts_walk (w : World) (b off cap n : Nat) (ps : List (Int × List Int)) (u : Nat → Value) (hn : n ≤ 1048576) (hz : ∀ k, k < n → (ps[k]?.getD (0, [])).2.length ≤ 1048576)
    (hc : ∀ k, k < n → w.cell? ⟨b, off + k * 2, none⟩ = some (.int .i64 (ps[k]?.getD (0, [])).1) ∧ w.cell? ⟨b, off + k * 2 + 1, none⟩ = some (u k) ∧ Ints w (u k) (ps[k]?.getD (0, [])).2) :
    Calls Try.prog 38 #[.slice (some ⟨b, off, none⟩) n cap] w fun e w' => e = .returned (.slice (some ⟨w.heap.size, 0, none⟩) n n) ∧ Below w.heap.size w w' ∧
      ∃ u' s, OwnRow w' w.heap.size (n * 2) (putCell ps u') ∧ Built w' (w.heap.size + 1) n u' (fun i => (ps[i]?.getD (0, [])).2) s := by
  have hmk := fun w => run_make_pair (P := Try.prog) 47 100 (.int .i64 0) (.slice none 0 0) 32 Try.underlying47 Try.infoPut rfl .i64 .i64 n (by omega) (by omega) w
  have HZ : Hid (∀ k, k < n → (ps[k]?.getD (0, [])).2.length ≤ 1048576) := hz
  have HCC : Hid (∀ k, k < n → w.cell? ⟨b, off + k * 2, none⟩ = some (.int .i64 (ps[k]?.getD (0, [])).1) ∧ w.cell? ⟨b, off + k * 2 + 1, none⟩ = some (u k) ∧ Ints w (u k) (ps[k]?.getD (0, [])).2) := hc
  clear hz hc
  go_enter Try.func38, Try.ntmps38
  go_wp2
  clear hmk
  go_loopw [4] (fun i wr => ∃ j : Nat, j ≤ n ∧ i = .int .i64 j ∧ Below w.heap.size w wr ∧ ∃ u' s, OwnRow wr w.heap.size (n * 2) (partCell ps u' j) ∧ Built wr (w.heap.size + 1) j u' (fun i => (ps[i]?.getD (0, [])).2) s) (fun i _ => n - (intOf i).toNat)
  case atStart => exact ⟨0, Nat.zero_le _, rfl, later1 _ _, fun _ => .slice none 0 0, _, (OwnRow.madePair w (.int .i64 0) (.slice none 0 0) n 100).congr fun i _ => by simp [partCell], Built.nil _ _ (by simp)⟩
  case round =>
    obtain ⟨j, hj, rfl, hbl, u', s, hrow, hbt⟩ := hrel
    by_cases hlt : j < n
    · obtain ⟨c0, c0', i0⟩ := HCC.out j hlt
      have c1 := cell_later hbl c0
      have c2 := cell_later hbl c0'
      obtain ⟨ua, ucap, hu, _⟩ := i0.shape
      rw [hu] at c2
      have HI : Hid (Ints wr (.slice ua (ps[j]?.getD (0, [])).2.length ucap) (ps[j]?.getD (0, [])).2) := by rw [← hu]; exact i0.later hbl
      have HBL : Hid (Below w.heap.size w wr) := hbl
      have HROW : Hid (OwnRow wr w.heap.size (n * 2) (partCell ps u' j)) := hrow
      have HBT : Hid (Built wr (w.heap.size + 1) j u' (fun i => (ps[i]?.getD (0, [])).2) s) := hbt
      clear c0 c0' i0 hbl hrow hbt hu
      go_wp2_with fail
      refine (toPut_any _ _ _ _ HI.out (HZ.out j hlt)).mono ?_
      rintro e w1 ⟨nb, rfl, hb1, ho1⟩
      have HB1 : Hid (Below wr.heap.size wr w1) := hb1
      have HO1 : Hid (IntsO w1 (.slice (some ⟨nb, 0, none⟩) (ps[j]?.getD (0, [])).2.length (ps[j]?.getD (0, [])).2.length) (ps[j]?.getD (0, [])).2 (fresh wr w1)) := ho1
      have HROW1 : Hid (OwnRow w1 w.heap.size (n * 2) (partCell ps u' j)) := HROW.out.block (hb1.block _ HROW.out.lt)
      obtain ⟨y1, d1⟩ : ∃ y, w1.cell? ⟨w.heap.size, j * 2, none⟩ = some (.int .i64 y) := ⟨0, by rw [HROW1.out.cell (by omega)]; simp [partCell, pairCell]⟩
      obtain ⟨z1, z2, z3, d2⟩ : ∃ z1 z2 z3, w1.cell? ⟨w.heap.size, j * 2 + 1, none⟩ = some (.slice z1 z2 z3) := ⟨none, 0, 0, by rw [HROW1.out.cell (by omega)]; simp [partCell, pairCell]; omega⟩
      have d3 := HROW1.out.frozen (j * 2)
      have d4 := HROW1.out.frozen (j * 2 + 1)
      clear hb1 ho1
      go_wp2
      go_roundw
      case rel =>
        refine ⟨j + 1, by omega, by go_num, ((HBL.out.trans (HB1.out.mono HBL.out.size)).setCell (Nat.le_refl _) _).setCell (Nat.le_refl _) _, _, _, ((HROW1.out.set (j * 2) _).set (j * 2 + 1) _).congr fun c _ => partCell_next ps u' j c _, ((HBT.out.next HB1.out HO1.out).store (by simp) _).store (by simp) _⟩
      case measure => simp [intOf]; omega
    · go_wp2
      go_ret
      have e : j = n := by omega
      subst e
      exact ⟨rfl, hbl, u', s, hrow.congr fun i hi => by simp [partCell, hi], hbt⟩

theorem toPuts_any {w : World} {v : Value} {ps : List (Int × List Int)} (h : Puts w v ps) (hn : ps.length + (wlens ps).sum ≤ 1048576) :
    Calls Try.prog 38 #[v] w fun e w' => e = .returned (.slice (some ⟨w.heap.size, 0, none⟩) ps.length ps.length) ∧ Below w.heap.size w w' ∧ PutsO w' (.slice (some ⟨w.heap.size, 0, none⟩) ps.length ps.length) ps (fresh w w') := by
  rcases h with ⟨rfl, a, cap, rfl⟩ | ⟨b, off, cap, u, rfl, hl, hc⟩
  · exact (toPuts_nil w a cap 0 (Nat.le_refl _)).mono fun e w' ⟨he, hb⟩ => ⟨he, hb, Or.inl ⟨rfl, _, _, rfl⟩⟩
  · refine (toPuts_walk w b off cap ps.length ps u (by omega) (fun k _ => by have := wlen_le_sum ps k; omega) hc).mono fun e w' ⟨he, hb, u', s, hr, hbt⟩ => ⟨he, hb, ?_⟩
    exact hbt.puts ps rfl (fun _ _ => rfl) hl (Nat.lt_succ_self _) hr _ ⟨Nat.le_refl _, hr.lt⟩ (fun c h1 h2 => ⟨by omega, h2⟩)

/-- An answer that is a disk by itself. -/
def AnsBare (w : World) (bs : List (List Int)) (ps : List (Int × List Int)) (e : Ending) (w' : World) : Prop :=
  ∃ aB nB cB aC nC cC, e = .returned (.agg #[.slice aB nB cB, .slice aC nC cC]) ∧ Below w.heap.size w w' ∧ DiskO w' (.slice aB nB cB) (.slice aC nC cC) bs ps (fresh w w')

set_option maxHeartbeats 800000 in
theorem toDisk_any (w : World) (aB aC : Option Addr) (nB cB nC cC : Nat) (bs : List (List Int)) (ps : List (Int × List Int)) (h1 : IntsS w (.slice aB nB cB) bs) (h2 : Puts w (.slice aC nC cC) ps) (l1 : bs.length + (bs.map List.length).sum ≤ 1048576) (l2 : ps.length + (wlens ps).sum ≤ 1048576) :
    Calls Try.prog 22 #[.agg #[.slice aB nB cB, .slice aC nC cC]] w (AnsBare w bs ps) := by
  have H1 : Hid (IntsS w (.slice aB nB cB) bs) := h1
  have H2 : Hid (Puts w (.slice aC nC cC) ps) := h2
  clear h1 h2
  go_enter Try.func22, Try.ntmps22
  go_wp2_with fail
  refine (toIntsS_any (H1.out.later (later3 _ _ _ _)) l1).mono ?_
  rintro e w1 ⟨rfl, hb1, ho1⟩
  have HB1 : Hid (Below w.heap.size w w1) := (later3 _ _ _ _).trans (hb1.mono (by simp; omega))
  have O2 : OwnRow w1 (w.heap.size + 1 + 1) 2 (fun i => if i = 0 then .slice none 0 0 else .slice none 0 0) := by
    have := (OwnRow.two ((w.alloc (Obj.cells #[Value.slice aB nB cB, Value.slice aC nC cC] 44)).alloc (Obj.cells #[Value.slice none 0 0, Value.slice none 0 0] 49)) (.slice none 0 0) (.slice none 0 0) 49).later hb1
    simpa using this
  have O1 : OwnRow w1 (w.heap.size + 1) 2 (fun i => if i = 0 then .slice none 0 0 else .slice none 0 0) := by
    have := ((OwnRow.two (w.alloc (Obj.cells #[Value.slice aB nB cB, Value.slice aC nC cC] 44)) (.slice none 0 0) (.slice none 0 0) 49).later (later1 _ (Obj.cells #[Value.slice none 0 0, Value.slice none 0 0] 49))).later hb1
    simpa using this
  have P0 : w1.cell? ⟨w.heap.size, 1, none⟩ = some (.slice aC nC cC) := by
    rw [hb1.cell (by simp; omega)]
    have h := (OwnRow.two w (.slice aB nB cB) (.slice aC nC cC) 44)
    exact ((h.later (later1 _ _)).later (later1 _ _)).cell (i := 1) (by omega)
  have HO1 : Hid (IntsSO w1 (.slice (some ⟨w.heap.size + 1 + 1 + 1, 0, none⟩) bs.length bs.length) bs (fun b => w.heap.size + 1 + 1 + 1 ≤ b ∧ b < w1.heap.size)) := by
    have h := ho1
    simp only [World.size_alloc] at h
    exact h.mono fun b hb => ⟨by have := hb.1; simp at this; omega, hb.2⟩
  clear hb1 ho1
  have d1 := O2.cell (i := 0) (by omega)
  have d2 := O2.frozen 0
  simp at d1
  have HO2 : Hid (OwnRow w1 (w.heap.size + 1 + 1) 2 (fun i => if i = 0 then .slice none 0 0 else .slice none 0 0)) := O2
  have HR1 : Hid (OwnRow w1 (w.heap.size + 1) 2 (fun i => if i = 0 then .slice none 0 0 else .slice none 0 0)) := O1
  clear O1 O2
  go_wp2_with fail
  clear d1 d2 P0
  have HBX : Hid (Below w.heap.size w (w1.setCell ⟨w.heap.size + 1 + 1, 0, none⟩ (.slice (some ⟨w.heap.size + 1 + 1 + 1, 0, none⟩) bs.length bs.length))) := HB1.out.setCell (by simp; omega) _
  refine (toPuts_any (H2.out.later HBX.out) l2).mono ?_
  rintro e w2 ⟨rfl, hb2, ho2⟩
  have HOX := (HO2.out.set 0 (.slice (some ⟨w.heap.size + 1 + 1 + 1, 0, none⟩) bs.length bs.length)).later hb2
  have HRX := (HR1.out.store (p := ⟨w.heap.size + 1 + 1, 0, none⟩) (by simp) (.slice (some ⟨w.heap.size + 1 + 1 + 1, 0, none⟩) bs.length bs.length)).later hb2
  have HIX : Hid (IntsSO w2 (.slice (some ⟨w.heap.size + 1 + 1 + 1, 0, none⟩) bs.length bs.length) bs (fun b => w.heap.size + 1 + 1 + 1 ≤ b ∧ b < w1.heap.size)) :=
    (HO1.out.store (p := ⟨w.heap.size + 1 + 1, 0, none⟩) (fun b hb => by have := hb.1; simp; omega) _).keep fun b hb hlt => hb2.block b hlt
  have HPX : Hid (PutsO w2 (.slice (some ⟨w1.heap.size, 0, none⟩) ps.length ps.length) ps (fun b => w1.heap.size ≤ b ∧ b < w2.heap.size)) := by
    have h := ho2
    have e1 : (w1.setCell ⟨w.heap.size + 1 + 1, 0, none⟩ (.slice (some ⟨w.heap.size + 1 + 1 + 1, 0, none⟩) bs.length bs.length)).heap.size = w1.heap.size := by simp [World.setCell]
    unfold fresh at h
    rw [e1] at h
    exact h
  have HB2 : Hid (Below w.heap.size w w2) := HBX.out.trans (hb2.mono HBX.out.size)
  have e1 : w1.heap.size ≤ w2.heap.size := by have := hb2.size; simpa [World.setCell] using this
  have q0 := HOX.cell (i := 0) (by omega)
  have q1 := HOX.cell (i := 1) (by omega)
  have q2 := HOX.frozen 1
  have t0 := HRX.cell (i := 0) (by omega)
  have t1 := HRX.cell (i := 1) (by omega)
  have t2 := HRX.frozen 0
  have t3 := HRX.frozen 1
  simp at q0 q1 t0 t1
  clear HOX HRX hb2 ho2
  have hz1 : w.heap.size + 1 + 1 < w1.heap.size := HO2.out.lt
  go_wp2
  refine bodyPost_ret (v := .agg #[.slice (some ⟨w.heap.size + 1 + 1 + 1, 0, none⟩) bs.length bs.length, .slice (some ⟨w1.heap.size, 0, none⟩) ps.length ps.length]) (by simp [results, Try.results22, go_sem, t0, t1]) rfl ⟨_, _, _, _, _, _, rfl, ?_, ?_⟩
  · exact ((HB2.out.setCell (by simp; omega) _).setCell (by simp) _).setCell (by simp) _
  · refine ⟨_, _, ((HIX.out.store ?_ _).store ?_ _).store ?_ _, ((HPX.out.store ?_ _).store ?_ _).store ?_ _, fun b hb hb' => ?_, fun b hb => ?_⟩
    · intro b hb; have := hb.1; simp; omega
    · intro b hb; have := hb.1; simp; omega
    · intro b hb; have := hb.1; simp; omega
    · intro b hb; have := hb.1; simp; omega
    · intro b hb; have := hb.1; simp; omega
    · intro b hb; have := hb.1; simp; omega
    · have := hb.2; have := hb'.1; omega
    · unfold fresh
      simp only [World.setCell, Array.size_modify]
      rcases hb with hb | hb
      · exact ⟨by have := hb.1; omega, by have := hb.2; omega⟩
      · exact ⟨by have := hb.1; omega, hb.2⟩
end Go.Proofs.Ytagmmgcdebgfnaa
