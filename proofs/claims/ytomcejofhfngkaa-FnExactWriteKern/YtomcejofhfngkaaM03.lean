/- The walks of the copying functions. One form for the contracts of the laws' own functions, type by type: what a value reads as, what it owns, how great it is. Kerns: how they read, what they own, and the walks of the laws' functions over them. -/
import Derived.Test.YtomcejofhfngkaaRows
import Derived.Test.YtomcejofhfngkaaM00
import Derived.Test.YtomcejofhfngkaaM02
import Derived.Test.YtomcejofhfngkaaM01
namespace Go.Proofs.Ytomcejofhfngkaa
open Go.RowKit
set_option maxRecDepth 100000

theorem Try.infoInt : (Try.prog.info? 2).map (fun i => (i.zero, i.size, i.bytes)) = some (some (.int .i64 0), 1, 8) := by kernel_rfl
theorem Try.infoInts : (Try.prog.info? 26).map (fun i => (i.zero, i.size, i.bytes)) = some (some (.slice none 0 0), 1, 24) := by kernel_rfl

set_option maxHeartbeats 400000 in
theorem toInts_nil (w : World) (a : Option Addr) (cap n : Nat) (hn : n ≤ 0) :
    Calls Try.prog 11 #[.slice a n cap] w fun e w' => e = .returned (.slice (some ⟨w.heap.size, 0, none⟩) n n) ∧ Below w.heap.size w w' := by
  have hmk := fun w => run_make_row' (P := Try.prog) 26 2 (.int .i64 0) 8 Try.underlying26 Try.infoInt rfl .i64 .i64 n (by omega) (by omega) w
  go_enter Try.func11, Try.ntmps11
  go_wp2
  go_loop [4] (fun i => i = .int .i64 0) (fun _ => 0)
  case atStart => rfl
  case round =>
    obtain rfl := hrel
    go_wp2
    go_ret
    exact ⟨rfl, later1 _ _⟩

set_option maxHeartbeats 400000 in
theorem toInts_walk (w : World) (b off cap n : Nat) (zs : List Int) (hn : n ≤ 1048576) (hc : ∀ k, k < n → w.cell? ⟨b, off + k, none⟩ = some (.int .i64 (zs[k]?.getD 0))) :
    Calls Try.prog 11 #[.slice (some ⟨b, off, none⟩) n cap] w fun e w' => e = .returned (.slice (some ⟨w.heap.size, 0, none⟩) n n) ∧ Below w.heap.size w w' ∧ OwnRow w' w.heap.size n (fun i => .int .i64 (zs[i]?.getD 0)) := by
  have hmk := fun w => run_make_row' (P := Try.prog) 26 2 (.int .i64 0) 8 Try.underlying26 Try.infoInt rfl .i64 .i64 n (by omega) (by omega) w
  go_enter Try.func11, Try.ntmps11
  go_wp2
  go_loopw [4] (fun i wr => ∃ j : Nat, j ≤ n ∧ i = .int .i64 j ∧ Below w.heap.size w wr ∧ OwnRow wr w.heap.size n (fun i => if i < j then .int .i64 (zs[i]?.getD 0) else .int .i64 0)) (fun i _ => n - (intOf i).toNat)
  case atStart => exact ⟨0, Nat.zero_le _, rfl, later1 _ _, (OwnRow.made w (.int .i64 0) n 2).congr fun i _ => by simp⟩
  case round =>
    obtain ⟨j, hj, rfl, hbl, hrow⟩ := hrel
    by_cases hlt : j < n
    · have c1 := cell_later hbl (hc j hlt)
      have d1 := hrow.cell hlt
      have d2 := hrow.frozen j
      simp only [Nat.lt_irrefl, if_false] at d1
      have HBL : Hid (Below w.heap.size w wr) := hbl
      have HROW : Hid (OwnRow wr w.heap.size n (fun i => if i < j then .int .i64 (zs[i]?.getD 0) else .int .i64 0)) := hrow
      clear hbl hrow hc
      go_wp2
      go_roundw
      case rel =>
        refine ⟨j + 1, by omega, by go_num, HBL.out.setCell (Nat.le_refl _) _, (HROW.out.set j _).congr fun i hi => ?_⟩
        by_cases e : i = j
        · subst e; simp
        · by_cases e2 : i < j
          · simp [e, e2, show i < j + 1 by omega]
          · simp [e, e2, show ¬ i < j + 1 by omega]
      case measure => simp [intOf]; omega
    · go_wp2
      go_ret
      have e : j = n := by omega
      subst e
      exact ⟨rfl, hbl, hrow.congr fun i hi => by simp [hi]⟩

theorem toInts_any {w : World} {v : Value} {zs : List Int} (h : Ints w v zs) (hn : zs.length ≤ 1048576) :
    Calls Try.prog 11 #[v] w fun e w' => e = .returned (.slice (some ⟨w.heap.size, 0, none⟩) zs.length zs.length) ∧ Below w.heap.size w w' ∧ IntsO w' (.slice (some ⟨w.heap.size, 0, none⟩) zs.length zs.length) zs (fresh w w') := by
  rcases h with ⟨rfl, a, cap, rfl⟩ | ⟨b, off, cap, rfl, hl, hc⟩
  · exact (toInts_nil w a cap 0 (Nat.le_refl _)).mono fun e w' ⟨he, hb⟩ => ⟨he, hb, Or.inl ⟨rfl, _, _, rfl⟩⟩
  · exact (toInts_walk w b off cap zs.length zs hn hc).mono fun e w' ⟨he, hb, hr⟩ => ⟨he, hb, Or.inr ⟨w.heap.size, _, ⟨Nat.le_refl _, hr.lt⟩, rfl, hl, hr⟩⟩

set_option maxHeartbeats 400000 in
theorem toIntsS_nil (w : World) (a : Option Addr) (cap n : Nat) (hn : n ≤ 0) :
    Calls Try.prog 48 #[.slice a n cap] w fun e w' => e = .returned (.slice (some ⟨w.heap.size, 0, none⟩) n n) ∧ Below w.heap.size w w' := by
  have hmk := fun w => run_make_row' (P := Try.prog) 22 26 (.slice none 0 0) 24 Try.underlying22 Try.infoInts rfl .i64 .i64 n (by omega) (by omega) w
  go_enter Try.func48, Try.ntmps48
  go_wp2
  go_loop [4] (fun i => i = .int .i64 0) (fun _ => 0)
  case atStart => rfl
  case round =>
    obtain rfl := hrel
    go_wp2
    go_ret
    exact ⟨rfl, later1 _ _⟩

set_option maxHeartbeats 400000 in
theorem toIntsS_walk (w : World) (b off cap n : Nat) (zss : List (List Int)) (u : Nat → Value) (hn : n ≤ 1048576) (hz : ∀ k, k < n → (zss[k]?.getD []).length ≤ 1048576)
    (hc : ∀ k, k < n → w.cell? ⟨b, off + k, none⟩ = some (u k) ∧ Ints w (u k) (zss[k]?.getD [])) :
    Calls Try.prog 48 #[.slice (some ⟨b, off, none⟩) n cap] w fun e w' => e = .returned (.slice (some ⟨w.heap.size, 0, none⟩) n n) ∧ Below w.heap.size w w' ∧
      ∃ u' s, OwnRow w' w.heap.size n u' ∧ Built w' (w.heap.size + 1) n u' (fun i => zss[i]?.getD []) s := by
  have hmk := fun w => run_make_row' (P := Try.prog) 22 26 (.slice none 0 0) 24 Try.underlying22 Try.infoInts rfl .i64 .i64 n (by omega) (by omega) w
  have HZ : Hid (∀ k, k < n → (zss[k]?.getD []).length ≤ 1048576) := hz
  have HCC : Hid (∀ k, k < n → w.cell? ⟨b, off + k, none⟩ = some (u k) ∧ Ints w (u k) (zss[k]?.getD [])) := hc
  clear hz hc
  go_enter Try.func48, Try.ntmps48
  go_wp2
  clear hmk
  go_loopw [4] (fun i wr => ∃ j : Nat, j ≤ n ∧ i = .int .i64 j ∧ Below w.heap.size w wr ∧ ∃ u' s, OwnRow wr w.heap.size n (fun i => if i < j then u' i else .slice none 0 0) ∧ Built wr (w.heap.size + 1) j u' (fun i => zss[i]?.getD []) s) (fun i _ => n - (intOf i).toNat)
  case atStart => exact ⟨0, Nat.zero_le _, rfl, later1 _ _, fun _ => .slice none 0 0, _, (OwnRow.made w (.slice none 0 0) n 26).congr fun i _ => by simp, Built.nil _ _ (by simp)⟩
  case round =>
    obtain ⟨j, hj, rfl, hbl, u', s, hrow, hbt⟩ := hrel
    by_cases hlt : j < n
    · obtain ⟨c0, i0⟩ := HCC.out j hlt
      have c1 := cell_later hbl c0
      have HI : Hid (Ints wr (u j) (zss[j]?.getD [])) := i0.later hbl
      have HBL : Hid (Below w.heap.size w wr) := hbl
      have HROW : Hid (OwnRow wr w.heap.size n (fun i => if i < j then u' i else .slice none 0 0)) := hrow
      have HBT : Hid (Built wr (w.heap.size + 1) j u' (fun i => zss[i]?.getD []) s) := hbt
      clear c0 i0 hbl hrow hbt
      go_wp2_with fail
      refine (toInts_any HI.out (HZ.out j hlt)).mono ?_
      rintro e w1 ⟨rfl, hb1, ho1⟩
      have HB1 : Hid (Below wr.heap.size wr w1) := hb1
      have HO1 : Hid (IntsO w1 (.slice (some ⟨wr.heap.size, 0, none⟩) (zss[j]?.getD []).length (zss[j]?.getD []).length) (zss[j]?.getD []) (fresh wr w1)) := ho1
      have HROW1 : Hid (OwnRow w1 w.heap.size n (fun i => if i < j then u' i else .slice none 0 0)) := HROW.out.block (hb1.block _ HROW.out.lt)
      have d1 := HROW1.out.cell hlt
      have d2 := HROW1.out.frozen j
      simp only [Nat.lt_irrefl, if_false] at d1
      clear hb1 ho1
      go_wp2
      go_roundw
      case rel =>
        refine ⟨j + 1, by omega, by go_num, (HBL.out.trans (HB1.out.mono HBL.out.size)).setCell (Nat.le_refl _) _, _, _, (HROW1.out.set j _).congr fun i hi => ?_, (HBT.out.next HB1.out HO1.out).store (by simp) _⟩
        by_cases e : i = j
        · subst e; simp
        · by_cases e2 : i < j
          · simp [e, e2, show i < j + 1 by omega]
          · simp [e, e2, show ¬ i < j + 1 by omega]
      case measure => simp [intOf]; omega
    · go_wp2
      go_ret
      have e : j = n := by omega
      subst e
      exact ⟨rfl, hbl, u', s, hrow.congr fun i hi => by simp [hi], hbt⟩

theorem len_le_sum (zss : List (List Int)) : ∀ k : Nat, (zss[k]?.getD []).length ≤ (zss.map List.length).sum := by
  intro k
  by_cases h : k < zss.length
  · have h1 := upto_succ (zss.map List.length) k (by simpa using h)
    rw [lens_get] at h1
    have h2 := upto_le (zss.map List.length) (k + 1)
    omega
  · rw [List.getElem?_eq_none (by omega)]; simp
theorem wlen_le_sum (ps : List (Int × List Int)) : ∀ k : Nat, (ps[k]?.getD (0, [])).2.length ≤ (wlens ps).sum := by
  intro k
  by_cases h : k < ps.length
  · have h1 := upto_succ (wlens ps) k (by rw [wlens_length]; exact h)
    rw [wlens_get] at h1
    have h2 := upto_le (wlens ps) (k + 1)
    omega
  · rw [List.getElem?_eq_none (by omega)]; simp

theorem toIntsS_any {w : World} {v : Value} {zss : List (List Int)} (h : IntsS w v zss) (hn : zss.length + (zss.map List.length).sum ≤ 1048576) :
    Calls Try.prog 48 #[v] w fun e w' => e = .returned (.slice (some ⟨w.heap.size, 0, none⟩) zss.length zss.length) ∧ Below w.heap.size w w' ∧ IntsSO w' (.slice (some ⟨w.heap.size, 0, none⟩) zss.length zss.length) zss (fresh w w') := by
  rcases h with ⟨rfl, a, cap, rfl⟩ | ⟨b, off, cap, u, rfl, hl, hc⟩
  · exact (toIntsS_nil w a cap 0 (Nat.le_refl _)).mono fun e w' ⟨he, hb⟩ => ⟨he, hb, Or.inl ⟨rfl, _, _, rfl⟩⟩
  · refine (toIntsS_walk w b off cap zss.length zss u (by omega) (fun k _ => by have := len_le_sum zss k; omega) hc).mono fun e w' ⟨he, hb, u', s, hr, hbt⟩ => ⟨he, hb, ?_⟩
    exact hbt.ints zss rfl (fun _ _ => rfl) hl (Nat.lt_succ_self _) hr _ ⟨Nat.le_refl _, hr.lt⟩ (fun c h1 h2 => ⟨by omega, h2⟩)

theorem Try.infoPut : (Try.prog.info? 71).map (fun i => (i.zero, i.size, i.bytes)) = some (some (.agg #[.int .i64 0, .slice none 0 0]), 2, 32) := by kernel_rfl

set_option maxHeartbeats 400000 in
theorem toPut_any (w : World) (v : Value) (a : Int) (zs : List Int) (h : Ints w v zs) (hn : zs.length ≤ 1048576) :
    Calls Try.prog 88 #[.agg #[.int .i64 a, v]] w fun e w' => ∃ b, e = .returned (.agg #[.int .i64 a, .slice (some ⟨b, 0, none⟩) zs.length zs.length]) ∧ Below w.heap.size w w' ∧ IntsO w' (.slice (some ⟨b, 0, none⟩) zs.length zs.length) zs (fresh w w') := by
  have HI : Hid (Ints w v zs) := h
  clear h
  go_enter Try.func88, Try.ntmps88
  go_wp2_with fail
  refine (toInts_any (HI.out.later (later3 _ _ _ _)) hn).mono ?_
  rintro e w1 ⟨rfl, hb1, ho1⟩
  have HB1 : Hid (Below _ _ w1) := hb1
  have HO1 : Hid (IntsO w1 _ zs _) := ho1
  obtain ⟨hc, hf⟩ := bcell hb1
  clear hb1 ho1
  go_wp2
  refine bodyPost_ret (v := .agg #[.int .i64 a, .slice (some ⟨w.heap.size + 1 + 1 + 1, 0, none⟩) zs.length zs.length]) (by simp [results, Try.results88, go_sem, hc]) rfl ⟨w.heap.size + 1 + 1 + 1, rfl, ?_, ?_⟩
  · exact ((((later3 _ _ _ _).trans (HB1.out.mono (by simp; omega))).setCell (by simp; omega) _).setCell (by simp) _).setCell (by simp) _
  · have h1 := HO1.out
    simp only [World.size_alloc] at h1
    refine (((h1.store (fun b hb => ?_) _).store (fun b hb => ?_) _).store (fun b hb => ?_) _).mono fun b hb => ?_
    · have := hb.1; simp at this ⊢; omega
    · have := hb.1; simp at this ⊢; omega
    · have := hb.1; simp at this ⊢; omega
    · exact ⟨by have := hb.1; simp at this; omega, by simpa [World.setCell] using hb.2⟩

set_option maxHeartbeats 400000 in
theorem toPuts_nil (w : World) (a : Option Addr) (cap n : Nat) (hn : n ≤ 0) :
    Calls Try.prog 49 #[.slice a n cap] w fun e w' => e = .returned (.slice (some ⟨w.heap.size, 0, none⟩) n n) ∧ Below w.heap.size w w' := by
  have hmk := fun w => run_make_pair (P := Try.prog) 28 71 (.int .i64 0) (.slice none 0 0) 32 Try.underlying28 Try.infoPut rfl .i64 .i64 n (by omega) (by omega) w
  go_enter Try.func49, Try.ntmps49
  go_wp2
  go_loop [4] (fun i => i = .int .i64 0) (fun _ => 0)
  case atStart => rfl
  case round =>
    obtain rfl := hrel
    go_wp2
    go_ret
    exact ⟨rfl, later1 _ _⟩

/-- The cells of a row of puts of which the first j stand. -/
def partCell (ps : List (Int × List Int)) (u : Nat → Value) (j c : Nat) : Value := if c < j * 2 then putCell ps u c else pairCell (.int .i64 0) (.slice none 0 0) c
theorem partCell_next (ps : List (Int × List Int)) (u : Nat → Value) (j c : Nat) (v : Value) : (if c = j * 2 + 1 then v else (if c = j * 2 then .int .i64 (ps[j]?.getD (0, [])).1 else partCell ps u j c)) = partCell ps (fun i => if i = j then v else u i) (j + 1) c := by
  unfold partCell
  by_cases e : c = j * 2 + 1
  · subst e; rw [if_pos rfl, if_pos (by omega), putCell_words]; simp
  · rw [if_neg e]
    by_cases e2 : c = j * 2
    · subst e2; rw [if_pos rfl, if_pos (by omega), putCell_at]
    · rw [if_neg e2]
      by_cases e3 : c < j * 2
      · rw [if_pos e3, if_pos (by omega)]
        unfold putCell
        by_cases e4 : c % 2 = 0
        · rw [if_pos e4, if_pos e4]
        · rw [if_neg e4, if_neg e4]
          show u (c / 2) = if c / 2 = j then v else u (c / 2)
          rw [if_neg (by omega)]
      · rw [if_neg e3, if_neg (by omega)]

set_option maxHeartbeats 800000 in
theorem toPuts_walk (w : World) (b off cap n : Nat) (ps : List (Int × List Int)) (u : Nat → Value) (hn : n ≤ 1048576) (hz : ∀ k, k < n → (ps[k]?.getD (0, [])).2.length ≤ 1048576)
    (hc : ∀ k, k < n → w.cell? ⟨b, off + k * 2, none⟩ = some (.int .i64 (ps[k]?.getD (0, [])).1) ∧ w.cell? ⟨b, off + k * 2 + 1, none⟩ = some (u k) ∧ Ints w (u k) (ps[k]?.getD (0, [])).2) :
    Calls Try.prog 49 #[.slice (some ⟨b, off, none⟩) n cap] w fun e w' => e = .returned (.slice (some ⟨w.heap.size, 0, none⟩) n n) ∧ Below w.heap.size w w' ∧
      ∃ u' s, OwnRow w' w.heap.size (n * 2) (putCell ps u') ∧ Built w' (w.heap.size + 1) n u' (fun i => (ps[i]?.getD (0, [])).2) s := by
  have hmk := fun w => run_make_pair (P := Try.prog) 28 71 (.int .i64 0) (.slice none 0 0) 32 Try.underlying28 Try.infoPut rfl .i64 .i64 n (by omega) (by omega) w
  have HZ : Hid (∀ k, k < n → (ps[k]?.getD (0, [])).2.length ≤ 1048576) := hz
  have HCC : Hid (∀ k, k < n → w.cell? ⟨b, off + k * 2, none⟩ = some (.int .i64 (ps[k]?.getD (0, [])).1) ∧ w.cell? ⟨b, off + k * 2 + 1, none⟩ = some (u k) ∧ Ints w (u k) (ps[k]?.getD (0, [])).2) := hc
  clear hz hc
  go_enter Try.func49, Try.ntmps49
  go_wp2
  clear hmk
  go_loopw [4] (fun i wr => ∃ j : Nat, j ≤ n ∧ i = .int .i64 j ∧ Below w.heap.size w wr ∧ ∃ u' s, OwnRow wr w.heap.size (n * 2) (partCell ps u' j) ∧ Built wr (w.heap.size + 1) j u' (fun i => (ps[i]?.getD (0, [])).2) s) (fun i _ => n - (intOf i).toNat)
  case atStart => exact ⟨0, Nat.zero_le _, rfl, later1 _ _, fun _ => .slice none 0 0, _, (OwnRow.madePair w (.int .i64 0) (.slice none 0 0) n 71).congr fun i _ => by simp [partCell], Built.nil _ _ (by simp)⟩
  case round =>
    obtain ⟨j, hj, rfl, hbl, u', s, hrow, hbt⟩ := hrel
    by_cases hlt : j < n
    · obtain ⟨c0, c0', i0⟩ := HCC.out j hlt
      have c1 := cell_later hbl c0
      have c2 := cell_later hbl c0'
      obtain ⟨ua, ucap, hu, _⟩ := i0.shape
      rw [hu] at c2
      have HI : Hid (Ints wr (.slice ua (ps[j]?.getD (0, [])).2.length ucap) (ps[j]?.getD (0, [])).2) := by rw [← hu]; exact i0.later hbl
      have HBL : Hid (Below w.heap.size w wr) := hbl
      have HROW : Hid (OwnRow wr w.heap.size (n * 2) (partCell ps u' j)) := hrow
      have HBT : Hid (Built wr (w.heap.size + 1) j u' (fun i => (ps[i]?.getD (0, [])).2) s) := hbt
      clear c0 c0' i0 hbl hrow hbt hu
      go_wp2_with fail
      refine (toPut_any _ _ _ _ HI.out (HZ.out j hlt)).mono ?_
      rintro e w1 ⟨nb, rfl, hb1, ho1⟩
      have HB1 : Hid (Below wr.heap.size wr w1) := hb1
      have HO1 : Hid (IntsO w1 (.slice (some ⟨nb, 0, none⟩) (ps[j]?.getD (0, [])).2.length (ps[j]?.getD (0, [])).2.length) (ps[j]?.getD (0, [])).2 (fresh wr w1)) := ho1
      have HROW1 : Hid (OwnRow w1 w.heap.size (n * 2) (partCell ps u' j)) := HROW.out.block (hb1.block _ HROW.out.lt)
      obtain ⟨y1, d1⟩ : ∃ y, w1.cell? ⟨w.heap.size, j * 2, none⟩ = some (.int .i64 y) := ⟨0, by rw [HROW1.out.cell (by omega)]; simp [partCell, pairCell]⟩
      obtain ⟨z1, z2, z3, d2⟩ : ∃ z1 z2 z3, w1.cell? ⟨w.heap.size, j * 2 + 1, none⟩ = some (.slice z1 z2 z3) := ⟨none, 0, 0, by rw [HROW1.out.cell (by omega)]; simp [partCell, pairCell]; omega⟩
      have d3 := HROW1.out.frozen (j * 2)
      have d4 := HROW1.out.frozen (j * 2 + 1)
      clear hb1 ho1
      go_wp2
      go_roundw
      case rel =>
        refine ⟨j + 1, by omega, by go_num, ((HBL.out.trans (HB1.out.mono HBL.out.size)).setCell (Nat.le_refl _) _).setCell (Nat.le_refl _) _, _, _, ((HROW1.out.set (j * 2) _).set (j * 2 + 1) _).congr fun c _ => partCell_next ps u' j c _, ((HBT.out.next HB1.out HO1.out).store (by simp) _).store (by simp) _⟩
      case measure => simp [intOf]; omega
    · go_wp2
      go_ret
      have e : j = n := by omega
      subst e
      exact ⟨rfl, hbl, u', s, hrow.congr fun i hi => by simp [partCell, hi], hbt⟩

theorem toPuts_any {w : World} {v : Value} {ps : List (Int × List Int)} (h : Puts w v ps) (hn : ps.length + (wlens ps).sum ≤ 1048576) :
    Calls Try.prog 49 #[v] w fun e w' => e = .returned (.slice (some ⟨w.heap.size, 0, none⟩) ps.length ps.length) ∧ Below w.heap.size w w' ∧ PutsO w' (.slice (some ⟨w.heap.size, 0, none⟩) ps.length ps.length) ps (fresh w w') := by
  rcases h with ⟨rfl, a, cap, rfl⟩ | ⟨b, off, cap, u, rfl, hl, hc⟩
  · exact (toPuts_nil w a cap 0 (Nat.le_refl _)).mono fun e w' ⟨he, hb⟩ => ⟨he, hb, Or.inl ⟨rfl, _, _, rfl⟩⟩
  · refine (toPuts_walk w b off cap ps.length ps u (by omega) (fun k _ => by have := wlen_le_sum ps k; omega) hc).mono fun e w' ⟨he, hb, u', s, hr, hbt⟩ => ⟨he, hb, ?_⟩
    exact hbt.puts ps rfl (fun _ _ => rfl) hl (Nat.lt_succ_self _) hr _ ⟨Nat.le_refl _, hr.lt⟩ (fun c h1 h2 => ⟨by omega, h2⟩)

/-- An answer that is a disk by itself. -/
def AnsBare (w : World) (bs : List (List Int)) (ps : List (Int × List Int)) (e : Ending) (w' : World) : Prop :=
  ∃ aB nB cB aC nC cC, e = .returned (.agg #[.slice aB nB cB, .slice aC nC cC]) ∧ Below w.heap.size w w' ∧ DiskO w' (.slice aB nB cB) (.slice aC nC cC) bs ps (fresh w w')

set_option maxHeartbeats 800000 in
theorem toDisk_any (w : World) (aB aC : Option Addr) (nB cB nC cC : Nat) (bs : List (List Int)) (ps : List (Int × List Int)) (h1 : IntsS w (.slice aB nB cB) bs) (h2 : Puts w (.slice aC nC cC) ps) (l1 : bs.length + (bs.map List.length).sum ≤ 1048576) (l2 : ps.length + (wlens ps).sum ≤ 1048576) :
    Calls Try.prog 10 #[.agg #[.slice aB nB cB, .slice aC nC cC]] w (AnsBare w bs ps) := by
  have H1 : Hid (IntsS w (.slice aB nB cB) bs) := h1
  have H2 : Hid (Puts w (.slice aC nC cC) ps) := h2
  clear h1 h2
  go_enter Try.func10, Try.ntmps10
  go_wp2_with fail
  refine (toIntsS_any (H1.out.later (later3 _ _ _ _)) l1).mono ?_
  rintro e w1 ⟨rfl, hb1, ho1⟩
  have HB1 : Hid (Below w.heap.size w w1) := (later3 _ _ _ _).trans (hb1.mono (by simp; omega))
  have O2 : OwnRow w1 (w.heap.size + 1 + 1) 2 (fun i => if i = 0 then .slice none 0 0 else .slice none 0 0) := by
    have := (OwnRow.two ((w.alloc (Obj.cells #[Value.slice aB nB cB, Value.slice aC nC cC] 25)).alloc (Obj.cells #[Value.slice none 0 0, Value.slice none 0 0] 30)) (.slice none 0 0) (.slice none 0 0) 30).later hb1
    simpa using this
  have O1 : OwnRow w1 (w.heap.size + 1) 2 (fun i => if i = 0 then .slice none 0 0 else .slice none 0 0) := by
    have := ((OwnRow.two (w.alloc (Obj.cells #[Value.slice aB nB cB, Value.slice aC nC cC] 25)) (.slice none 0 0) (.slice none 0 0) 30).later (later1 _ (Obj.cells #[Value.slice none 0 0, Value.slice none 0 0] 30))).later hb1
    simpa using this
  have P0 : w1.cell? ⟨w.heap.size, 1, none⟩ = some (.slice aC nC cC) := by
    rw [hb1.cell (by simp; omega)]
    have h := (OwnRow.two w (.slice aB nB cB) (.slice aC nC cC) 25)
    exact ((h.later (later1 _ _)).later (later1 _ _)).cell (i := 1) (by omega)
  have HO1 : Hid (IntsSO w1 (.slice (some ⟨w.heap.size + 1 + 1 + 1, 0, none⟩) bs.length bs.length) bs (fun b => w.heap.size + 1 + 1 + 1 ≤ b ∧ b < w1.heap.size)) := by
    have h := ho1
    simp only [World.size_alloc] at h
    exact h.mono fun b hb => ⟨by have := hb.1; simp at this; omega, hb.2⟩
  clear hb1 ho1
  have d1 := O2.cell (i := 0) (by omega)
  have d2 := O2.frozen 0
  simp at d1
  have HO2 : Hid (OwnRow w1 (w.heap.size + 1 + 1) 2 (fun i => if i = 0 then .slice none 0 0 else .slice none 0 0)) := O2
  have HR1 : Hid (OwnRow w1 (w.heap.size + 1) 2 (fun i => if i = 0 then .slice none 0 0 else .slice none 0 0)) := O1
  clear O1 O2
  go_wp2_with fail
  clear d1 d2 P0
  have HBX : Hid (Below w.heap.size w (w1.setCell ⟨w.heap.size + 1 + 1, 0, none⟩ (.slice (some ⟨w.heap.size + 1 + 1 + 1, 0, none⟩) bs.length bs.length))) := HB1.out.setCell (by simp; omega) _
  refine (toPuts_any (H2.out.later HBX.out) l2).mono ?_
  rintro e w2 ⟨rfl, hb2, ho2⟩
  have HOX := (HO2.out.set 0 (.slice (some ⟨w.heap.size + 1 + 1 + 1, 0, none⟩) bs.length bs.length)).later hb2
  have HRX := (HR1.out.store (p := ⟨w.heap.size + 1 + 1, 0, none⟩) (by simp) (.slice (some ⟨w.heap.size + 1 + 1 + 1, 0, none⟩) bs.length bs.length)).later hb2
  have HIX : Hid (IntsSO w2 (.slice (some ⟨w.heap.size + 1 + 1 + 1, 0, none⟩) bs.length bs.length) bs (fun b => w.heap.size + 1 + 1 + 1 ≤ b ∧ b < w1.heap.size)) :=
    (HO1.out.store (p := ⟨w.heap.size + 1 + 1, 0, none⟩) (fun b hb => by have := hb.1; simp; omega) _).keep fun b hb hlt => hb2.block b hlt
  have HPX : Hid (PutsO w2 (.slice (some ⟨w1.heap.size, 0, none⟩) ps.length ps.length) ps (fun b => w1.heap.size ≤ b ∧ b < w2.heap.size)) := by
    have h := ho2
    have e1 : (w1.setCell ⟨w.heap.size + 1 + 1, 0, none⟩ (.slice (some ⟨w.heap.size + 1 + 1 + 1, 0, none⟩) bs.length bs.length)).heap.size = w1.heap.size := by simp [World.setCell]
    unfold fresh at h
    rw [e1] at h
    exact h
  have HB2 : Hid (Below w.heap.size w w2) := HBX.out.trans (hb2.mono HBX.out.size)
  have e1 : w1.heap.size ≤ w2.heap.size := by have := hb2.size; simpa [World.setCell] using this
  have q0 := HOX.cell (i := 0) (by omega)
  have q1 := HOX.cell (i := 1) (by omega)
  have q2 := HOX.frozen 1
  have t0 := HRX.cell (i := 0) (by omega)
  have t1 := HRX.cell (i := 1) (by omega)
  have t2 := HRX.frozen 0
  have t3 := HRX.frozen 1
  simp at q0 q1 t0 t1
  clear HOX HRX hb2 ho2
  have hz1 : w.heap.size + 1 + 1 < w1.heap.size := HO2.out.lt
  go_wp2
  refine bodyPost_ret (v := .agg #[.slice (some ⟨w.heap.size + 1 + 1 + 1, 0, none⟩) bs.length bs.length, .slice (some ⟨w1.heap.size, 0, none⟩) ps.length ps.length]) (by simp [results, Try.results10, go_sem, t0, t1]) rfl ⟨_, _, _, _, _, _, rfl, ?_, ?_⟩
  · exact ((HB2.out.setCell (by simp; omega) _).setCell (by simp) _).setCell (by simp) _
  · refine ⟨_, _, ((HIX.out.store ?_ _).store ?_ _).store ?_ _, ((HPX.out.store ?_ _).store ?_ _).store ?_ _, fun b hb hb' => ?_, fun b hb => ?_⟩
    · intro b hb; have := hb.1; simp; omega
    · intro b hb; have := hb.1; simp; omega
    · intro b hb; have := hb.1; simp; omega
    · intro b hb; have := hb.1; simp; omega
    · intro b hb; have := hb.1; simp; omega
    · intro b hb; have := hb.1; simp; omega
    · have := hb.2; have := hb'.1; omega
    · unfold fresh
      simp only [World.setCell, Array.size_modify]
      rcases hb with hb | hb
      · exact ⟨by have := hb.1; omega, by have := hb.2; omega⟩
      · exact ⟨by have := hb.1; omega, hb.2⟩
end Go.Proofs.Ytomcejofhfngkaa

namespace Go.Proofs.Ytomcejofhfngkaa
open Go.RowKit
set_option maxRecDepth 100000

/-- The cells of block b, from the first on. -/
def Bx (w : World) (b : Nat) (vs : List Value) : Prop := ∀ i v, vs[i]? = some v → w.cell? ⟨b, i, none⟩ = some v
theorem Bx.new (w : World) (vs : List Value) (t : TypeId) : Bx (w.alloc (.cells vs.toArray t)) w.heap.size vs := fun i v h => by rw [new_cell]; simpa using h
theorem Bx.later {w w' : World} {b : Nat} {vs : List Value} (h : Bx w b vs) (hb : Below w.heap.size w w') : Bx w' b vs := fun i v e => cell_later hb (h i v e)
theorem Bx.chg {w w' : World} {b : Nat} {vs : List Value} {F : Nat → Prop} (h : Bx w b vs) (hc : Chg F w w') (hf : ¬ F b) : Bx w' b vs := fun i v e => by
  have := h i v e
  exact (hc.cell (a := ⟨b, i, none⟩) (World.block_lt_of_cell? _ _ this) hf).trans this
theorem Bx.lt {w : World} {b : Nat} {v : Value} {vs : List Value} (h : Bx w b (v :: vs)) : b < w.heap.size := World.block_lt_of_cell? _ _ (h 0 v rfl)

/-- Lists of integers. -/
theorem IntsO.reads {w : World} {v : Value} {zs : List Int} {F : Nat → Prop} (h : IntsO w v zs F) : Ints w v zs := h.ints
theorem toIntsU {w : World} {v : Value} {zs : List Int} (h : Ints w v zs) (hn : zs.length ≤ 1048576) :
    Calls Try.prog 11 #[v] w fun e w' => ∃ a n c, e = .returned (.slice a n c) ∧ Below w.heap.size w w' ∧ IntsO w' (.slice a n c) zs (fresh w w') :=
  (toInts_any h hn).mono fun _ _ ⟨h1, h2, h3⟩ => ⟨_, _, _, h1, h2, h3⟩
theorem eqIntsU {w : World} {v v' : Value} {zs : List Int} (h : Ints w v zs) (h' : Ints w v' zs) : Calls Try.prog 15 #[v, v'] w fun e w' => e = .returned (.bool true) ∧ Below w.heap.size w w' :=
  (eqInts_any h h').mono fun _ _ ⟨h1, m, h2⟩ => ⟨by rw [h1, beq_self_eq_true], h2 ▸ below_drewN (Below.refl _ _) m⟩
theorem markIntsU {w : World} {v : Value} {zs : List Int} {F : Nat → Prop} (k : Int) (h : IntsO w v zs F) (hk0 : 0 ≤ k) (hk : k + (zs.length : Nat) ≤ 4611686018427387904) :
    Calls Try.prog 17 #[v, .int .i64 k] w fun e w' => e = .returned (.int .i64 (k + (zs.length : Nat))) ∧ Chg F w w' :=
  (markInts_any k h hk0 hk).mono fun _ _ ⟨h1, _, h2⟩ => ⟨h1, h2⟩

/-- Disks. -/
abbrev DK := List (List Int) × List (Int × List Int)
def DiskR (w : World) (vB vC : Value) (d : DK) : Prop := IntsS w vB d.1 ∧ Puts w vC d.2
theorem DiskR.later {w w' : World} {vB vC : Value} {d : DK} (h : DiskR w vB vC d) (hb : Below w.heap.size w w') : DiskR w' vB vC d := ⟨h.1.later hb, h.2.later hb⟩
def DiskU (w : World) (vB vC : Value) (d : DK) (F : Nat → Prop) : Prop := DiskO w vB vC d.1 d.2 F
theorem DiskU.reads {w : World} {vB vC : Value} {d : DK} {F : Nat → Prop} (h : DiskU w vB vC d F) : DiskR w vB vC d := ⟨DiskO.ints h, DiskO.puts h⟩
theorem DiskU.later {w w' : World} {vB vC : Value} {d : DK} {F : Nat → Prop} (h : DiskU w vB vC d F) (hb : Below w.heap.size w w') : DiskU w' vB vC d F := DiskO.later h hb
theorem DiskU.mono {w : World} {vB vC : Value} {d : DK} {F G : Nat → Prop} (h : DiskU w vB vC d F) (e : ∀ b, F b → G b) : DiskU w vB vC d G := DiskO.mono h e
theorem DiskU.chg {w w' : World} {vB vC : Value} {d : DK} {F G : Nat → Prop} (h : DiskU w vB vC d F) (hc : Chg G w w') (hd : ∀ b, F b → ¬ G b) : DiskU w' vB vC d F := DiskO.chg h hc hd
def sizeDisk (d : DK) : Nat := dsize d.1 d.2
theorem szDiskU (w : World) (aB : Option Addr) (nB cB : Nat) (aC : Option Addr) (nC cC : Nat) (d : DK) (h : DiskR w (.slice aB nB cB) (.slice aC nC cC) d) (left : Int) (l0 : 0 ≤ left) (l1 : left ≤ 1048576) :
    Calls Try.prog 8 #[.agg #[.slice aB nB cB, .slice aC nC cC], .int .i64 left] w fun e w' => e = .returned (.int .i64 (szf left (sizeDisk d))) ∧ Below w.heap.size w w' := szDisk_any w aB aC nB cB nC cC d.1 d.2 h.1 h.2 left l0 l1
theorem toDiskU (w : World) (aB : Option Addr) (nB cB : Nat) (aC : Option Addr) (nC cC : Nat) (d : DK) (h : DiskR w (.slice aB nB cB) (.slice aC nC cC) d) (hs : sizeDisk d ≤ 1048576) :
    Calls Try.prog 10 #[.agg #[.slice aB nB cB, .slice aC nC cC]] w fun e w' => ∃ dB eB fB dC eC fC, e = .returned (.agg #[.slice dB eB fB, .slice dC eC fC]) ∧ Below w.heap.size w w' ∧ DiskU w' (.slice dB eB fB) (.slice dC eC fC) d (fresh w w') := by
  unfold sizeDisk dsize at hs
  exact (toDisk_any w aB aC nB cB nC cC d.1 d.2 h.1 h.2 (by omega) (by omega)).mono fun e w' ⟨dB, eB, fB, dC, eC, fC, h1, h2, h3⟩ => ⟨dB, eB, fB, dC, eC, fC, h1, h2, h3⟩
theorem eqDiskU (w : World) (vB vC vB' vC' : Value) (d : DK) (h : DiskR w vB vC d) (h' : DiskR w vB' vC' d) : Calls Try.prog 14 #[.agg #[vB, vC], .agg #[vB', vC']] w fun e w' => e = .returned (.bool true) ∧ Below w.heap.size w w' :=
  eqDisk_true w vB vC vB' vC' d.1 d.2 h.1 h.2 h'.1 h'.2
def spanDisk (d : DK) : Nat := dspan d.1 d.2
theorem spanDisk_le (d : DK) : spanDisk d ≤ sizeDisk d := by unfold spanDisk sizeDisk dspan dsize; omega
theorem markDiskU (w : World) (vB vC : Value) (d : DK) (F : Nat → Prop) (k : Int) (h : DiskU w vB vC d F) (hk0 : 0 ≤ k) (hk : k + (spanDisk d : Nat) ≤ 4611686018427387904) :
    Calls Try.prog 16 #[.agg #[vB, vC], .int .i64 k] w fun e w' => e = .returned (.int .i64 (k + (spanDisk d : Nat))) ∧ Chg F w w' := markDsk w vB vC d.1 d.2 F k h hk0 hk

/-- Answers that are a code and a disk. -/
def AnsDR (w : World) (r : Int × DK) (e : Ending) (w' : World) : Prop := ∃ aB nB cB aC nC cC, e = .returned (.agg #[.int .i64 r.1, .slice aB nB cB, .slice aC nC cC]) ∧ Below w.heap.size w w' ∧ DiskU w' (.slice aB nB cB) (.slice aC nC cC) r.2 (fresh w w')
theorem AnsDisk.uni {w w' : World} {c : Int} {bs : List (List Int)} {ps : List (Int × List Int)} {e : Ending} (h : AnsDisk w c bs ps e w') : AnsDR w (c, bs, ps) e w' := by
  obtain ⟨aB, nB, cB, aC, nC, cC, h1, h2⟩ := h
  exact ⟨aB, nB, cB, aC, nC, cC, h1, h2.below, h2.disk⟩
theorem eqDiskResultU (w : World) (c : Int) (vB vC vB' vC' : Value) (d : DK) (h : DiskR w vB vC d) (h' : DiskR w vB' vC' d) : Calls Try.prog 13 #[.agg #[.int .i64 c, vB, vC], .agg #[.int .i64 c, vB', vC']] w fun e w' => e = .returned (.bool true) ∧ Below w.heap.size w w' :=
  eqDiskResult_true w c vB vC vB' vC' d.1 d.2 h.1 h.2 h'.1 h'.2
def mkDisk (k : Int) (d : DK) : DK := (marksS k (d.1.map List.length), marksP (k + ((d.1.map List.length).sum : Nat)) (wlens d.2))
theorem markDiskResultU (w : World) (c : Int) (vB vC : Value) (d : DK) (F : Nat → Prop) (k : Int) (h : DiskU w vB vC d F) (hk0 : 0 ≤ k) (hk : k + (spanDisk d : Nat) ≤ 4611686018427387904) :
    Calls Try.prog 18 #[.agg #[.int .i64 c, vB, vC], .int .i64 k] w fun e w' => e = .returned (.int .i64 (k + (spanDisk d : Nat))) ∧ DiskU w' vB vC (mkDisk k d) F ∧ Chg F w w' :=
  (markRes w c vB vC d.1 d.2 F k h hk0 hk).mono fun _ _ ⟨h1, h2, h3⟩ => ⟨h1, h2.disk, h3⟩
theorem heldDiskResultU (w : World) (c : Int) (vB vC : Value) (d : DK) (F : Nat → Prop) (k : Int) (h : DiskU w vB vC (mkDisk k d) F) (hk0 : 0 ≤ k) (hk : k + (spanDisk d : Nat) ≤ 4611686018427387904) :
    Calls Try.prog 19 #[.agg #[.int .i64 c, vB, vC], .int .i64 k] w fun e w' => e = .returned (.int .i64 (k + (spanDisk d : Nat))) ∧ Below w.heap.size w w' := heldRes w c vB vC d.1 d.2 F k ⟨h⟩ hk0 hk
end Go.Proofs.Ytomcejofhfngkaa

namespace Go.Proofs.Ytomcejofhfngkaa
open Go.RowKit
set_option maxRecDepth 100000

abbrev KD := DK × List E3
def KernR (w : World) (vB vC vE : Value) (d : KD) : Prop := DiskR w vB vC d.1 ∧ Exts w vE d.2
theorem KernR.later {w w' : World} {vB vC vE : Value} {d : KD} (h : KernR w vB vC vE d) (hb : Below w.heap.size w w') : KernR w' vB vC vE d := ⟨h.1.later hb, h.2.later hb⟩
def KernU (w : World) (vB vC vE : Value) (d : KD) (F : Nat → Prop) : Prop := ∃ F1 G1 : Nat → Prop, DiskU w vB vC d.1 F1 ∧ ExtsO w vE d.2 G1 ∧ (∀ b, F1 b → ¬ G1 b) ∧ ∀ b, F1 b ∨ G1 b → F b
theorem DiskU.keep {w w' : World} {vB vC : Value} {d : DK} {F : Nat → Prop} (h : DiskU w vB vC d F) (e : ∀ b, F b → b < w.heap.size → w'.heap[b]? = w.heap[b]?) : DiskU w' vB vC d F := DiskO.keep h e
theorem KernU.reads {w : World} {vB vC vE : Value} {d : KD} {F : Nat → Prop} (h : KernU w vB vC vE d F) : KernR w vB vC vE d := by
  obtain ⟨_, _, h1, h2, _⟩ := h
  exact ⟨h1.reads, h2.reads⟩
theorem KernU.keep {w w' : World} {vB vC vE : Value} {d : KD} {F : Nat → Prop} (h : KernU w vB vC vE d F) (e : ∀ b, F b → b < w.heap.size → w'.heap[b]? = w.heap[b]?) : KernU w' vB vC vE d F := by
  obtain ⟨F1, G1, h1, h2, hd, hf⟩ := h
  exact ⟨F1, G1, h1.keep fun b hb => e b (hf b (Or.inl hb)), h2.keep fun b hb => e b (hf b (Or.inr hb)), hd, hf⟩
theorem KernU.later {w w' : World} {vB vC vE : Value} {d : KD} {F : Nat → Prop} (h : KernU w vB vC vE d F) (hb : Below w.heap.size w w') : KernU w' vB vC vE d F := h.keep fun b _ hlt => hb.block b hlt
theorem KernU.mono {w : World} {vB vC vE : Value} {d : KD} {F G : Nat → Prop} (h : KernU w vB vC vE d F) (e : ∀ b, F b → G b) : KernU w vB vC vE d G := by
  obtain ⟨F1, G1, h1, h2, hd, hf⟩ := h
  exact ⟨F1, G1, h1, h2, hd, fun b hb => e b (hf b hb)⟩
theorem KernU.chg {w w' : World} {vB vC vE : Value} {d : KD} {F G : Nat → Prop} (h : KernU w vB vC vE d F) (hc : Chg G w w') (hd : ∀ b, F b → ¬ G b) : KernU w' vB vC vE d F := h.keep fun b hb hlt => hc.block b hlt (hd b hb)
theorem DiskU.bound {w : World} {vB vC : Value} {d : DK} {F : Nat → Prop} (h : DiskU w vB vC d F) : DiskU w vB vC d (fun b => F b ∧ b < w.heap.size) := DiskO.bound h
theorem KernU.bound {w : World} {vB vC vE : Value} {d : KD} {F : Nat → Prop} (h : KernU w vB vC vE d F) : KernU w vB vC vE d (fun b => F b ∧ b < w.heap.size) := by
  obtain ⟨F1, G1, h1, h2, hd, hf⟩ := h
  exact ⟨_, _, h1.bound, h2.bound, fun b hb hb' => hd b hb.1 hb'.1, fun b hb => hb.elim (fun h => ⟨hf b (Or.inl h.1), h.2⟩) (fun h => ⟨hf b (Or.inr h.1), h.2⟩)⟩
def sizeKern (d : KD) : Nat := sizeDisk d.1 + d.2.length

set_option maxHeartbeats 800000 in
theorem szKernU (w : World) (aB : Option Addr) (nB cB : Nat) (aC : Option Addr) (nC cC : Nat) (aE : Option Addr) (nE cE : Nat) (d : KD) (h : KernR w (.slice aB nB cB) (.slice aC nC cC) (.slice aE nE cE) d) (left : Int) (l0 : 0 ≤ left) (l1 : left ≤ 1048576) :
    Calls Try.prog 22 #[.agg #[.slice aB nB cB, .slice aC nC cC, .slice aE nE cE], .int .i64 left] w fun e w' => e = .returned (.int .i64 (szf left (sizeKern d))) ∧ Below w.heap.size w w' := by
  have H1 : Hid (DiskR w (.slice aB nB cB) (.slice aC nC cC) d.1) := h.1
  have H2 : Hid (Exts w (.slice aE nE cE) d.2) := h.2
  clear h
  by_cases hm : left < ((sizeDisk d.1 : Nat) : Int)
  · have HR : Hid (szf left (sizeDisk d.1) = -1) := szf_no hm
    have HM : Hid (szf left (sizeKern d) = -1) := szf_no (by unfold sizeKern; omega)
    rw [HM.out]
    go_enter Try.func22, Try.ntmps22
    go_wp2_with fail
    refine (szDiskU _ _ _ _ _ _ _ d.1 (H1.out.later (later1 _ _)) _ l0 l1).mono ?_
    rw [HR.out]
    rintro e w1 ⟨rfl, hb1⟩
    have HB1 : Hid (Below w.heap.size w w1) := (later1 _ _).trans (hb1.mono (by simp))
    clear hb1
    go_wp2
    go_ret
    exact ⟨rfl, HB1.out⟩
  · have HR : Hid (szf left (sizeDisk d.1) = left - (sizeDisk d.1 : Nat)) := szf_yes hm
    have hpos : ¬ left - ((sizeDisk d.1 : Nat) : Int) < 0 := by omega
    have HD : Hid (szf (left - ((sizeDisk d.1 : Nat) : Int)) d.2.length = szf left (sizeKern d)) := by
      unfold Hid szf sizeKern
      split <;> split <;> omega
    have hx0 : (0 : Int) ≤ ((sizeDisk d.1 : Nat) : Int) := by omega
    generalize ((sizeDisk d.1 : Nat) : Int) = X at *
    have hrr : szf left (sizeKern d) = -1 ∨ 0 ≤ szf left (sizeKern d) := by unfold szf; split <;> omega
    generalize hr : szf left (sizeKern d) = r at *
    have HRR : Hid (szf left (sizeKern d) = r) := hr
    clear hr
    have step : ∀ (P : Prop), (r = -1 → P) → (0 ≤ r → P) → P := fun P h1 h2 => hrr.elim h1 h2
    apply step
    · intro hneg
      subst hneg
      clear step hrr
      go_enter Try.func22, Try.ntmps22
      go_wp2_with fail
      refine (szDiskU _ _ _ _ _ _ _ d.1 (H1.out.later (later1 _ _)) _ l0 l1).mono ?_
      rw [HR.out]
      rintro e w1 ⟨rfl, hb1⟩
      have HB1 : Hid (Below w.heap.size w w1) := (later1 _ _).trans (hb1.mono (by simp))
      have x2 : w1.cell? ⟨w.heap.size, 2, none⟩ = some (.slice aE nE cE) := by rw [hb1.cell (by simp), new_cell]; rfl
      clear hb1
      go_wp2_with fail
      refine (szExts_any (H2.out.later HB1.out) _ (by omega) (by omega)).mono ?_
      rw [HD.out]
      rintro e w2 ⟨rfl, rfl⟩
      go_wp2
      go_ret
      exact ⟨rfl, HB1.out⟩
    · intro hge
      have hnn : ¬ r < 0 := by omega
      clear step hrr
      go_enter Try.func22, Try.ntmps22
      go_wp2_with fail
      refine (szDiskU _ _ _ _ _ _ _ d.1 (H1.out.later (later1 _ _)) _ l0 l1).mono ?_
      rw [HR.out]
      rintro e w1 ⟨rfl, hb1⟩
      have HB1 : Hid (Below w.heap.size w w1) := (later1 _ _).trans (hb1.mono (by simp))
      have x2 : w1.cell? ⟨w.heap.size, 2, none⟩ = some (.slice aE nE cE) := by rw [hb1.cell (by simp), new_cell]; rfl
      clear hb1
      go_wp2_with fail
      refine (szExts_any (H2.out.later HB1.out) _ (by omega) (by omega)).mono ?_
      rw [HD.out]
      rintro e w2 ⟨rfl, rfl⟩
      go_wp2
      go_ret
      exact ⟨rfl, HB1.out⟩

theorem OwnRow.new3 (w : World) (x y z : Value) (t : TypeId) : OwnRow (w.alloc (.cells #[x, y, z] t)) w.heap.size 3 (fun i => if i = 0 then x else if i = 1 then y else z) := by
  refine ⟨_, t, Go.Deep.blk_alloc_new _ _, by simp, fun i hi => ?_⟩
  have : i = 0 ∨ i = 1 ∨ i = 2 := by omega
  rcases this with rfl | rfl | rfl <;> simp

set_option maxHeartbeats 1600000 in
theorem toKernU (w : World) (aB : Option Addr) (nB cB : Nat) (aC : Option Addr) (nC cC : Nat) (aE : Option Addr) (nE cE : Nat) (d : KD) (h : KernR w (.slice aB nB cB) (.slice aC nC cC) (.slice aE nE cE) d) (hs : sizeKern d ≤ 1048576) :
    Calls Try.prog 24 #[.agg #[.slice aB nB cB, .slice aC nC cC, .slice aE nE cE]] w fun e w' => ∃ dB eB fB dC eC fC dE eE fE, e = .returned (.agg #[.slice dB eB fB, .slice dC eC fC, .slice dE eE fE]) ∧ Below w.heap.size w w' ∧ KernU w' (.slice dB eB fB) (.slice dC eC fC) (.slice dE eE fE) d (fresh w w') := by
  have H1 : Hid (DiskR w (.slice aB nB cB) (.slice aC nC cC) d.1) := h.1
  have H2 : Hid (Exts w (.slice aE nE cE) d.2) := h.2
  have L1 : Hid (sizeDisk d.1 ≤ 1048576) := by unfold sizeKern at hs; unfold Hid; omega
  have L2 : Hid (d.2.length ≤ 1048576) := by unfold sizeKern at hs; unfold Hid; omega
  clear h hs
  go_enter Try.func24, Try.ntmps24
  go_wp2_with fail
  refine (toDiskU _ _ _ _ _ _ _ d.1 (H1.out.later (later3 _ _ _ _)) L1.out).mono ?_
  rintro e w1 ⟨dB, eB, fB, dC, eC, fC, rfl, hb1, ho1⟩
  have HB1 : Hid (Below w.heap.size w w1) := (later3 _ _ _ _).trans (hb1.mono (by simp; omega))
  have O2 : OwnRow w1 (w.heap.size + 1 + 1) 3 (fun i => if i = 0 then .slice none 0 0 else if i = 1 then .slice none 0 0 else .slice none 0 0) := by
    have := (OwnRow.new3 ((w.alloc (Obj.cells #[Value.slice aB nB cB, Value.slice aC nC cC, Value.slice aE nE cE] 47)).alloc (Obj.cells #[Value.slice none 0 0, Value.slice none 0 0, Value.slice none 0 0] 51)) (.slice none 0 0) (.slice none 0 0) (.slice none 0 0) 51).later hb1
    simpa using this
  have O1 : OwnRow w1 (w.heap.size + 1) 3 (fun i => if i = 0 then .slice none 0 0 else if i = 1 then .slice none 0 0 else .slice none 0 0) := by
    have := ((OwnRow.new3 (w.alloc (Obj.cells #[Value.slice aB nB cB, Value.slice aC nC cC, Value.slice aE nE cE] 47)) (.slice none 0 0) (.slice none 0 0) (.slice none 0 0) 51).later (later1 _ (Obj.cells #[Value.slice none 0 0, Value.slice none 0 0, Value.slice none 0 0] 51))).later hb1
    simpa using this
  have P0 : w1.cell? ⟨w.heap.size, 2, none⟩ = some (.slice aE nE cE) := by
    rw [hb1.cell (by simp; omega)]
    have h := (OwnRow.new3 w (.slice aB nB cB) (.slice aC nC cC) (.slice aE nE cE) 47)
    exact ((h.later (later1 _ _)).later (later1 _ _)).cell (i := 2) (by omega)
  have HO1 : Hid (DiskU w1 (.slice dB eB fB) (.slice dC eC fC) d.1 (fun b => w.heap.size + 3 ≤ b ∧ b < w1.heap.size)) := ho1.mono fun b hb => ⟨by have := hb.1; simp at this; omega, hb.2⟩
  clear hb1 ho1
  have d0 := O2.cell (i := 0) (by omega)
  have d1 := O2.cell (i := 1) (by omega)
  have f0 := O2.frozen 0
  have f1 := O2.frozen 1
  simp at d0 d1
  have HO2 : Hid (OwnRow w1 (w.heap.size + 1 + 1) 3 (fun i => if i = 0 then .slice none 0 0 else if i = 1 then .slice none 0 0 else .slice none 0 0)) := O2
  have HR1 : Hid (OwnRow w1 (w.heap.size + 1) 3 (fun i => if i = 0 then .slice none 0 0 else if i = 1 then .slice none 0 0 else .slice none 0 0)) := O1
  have hz1 : w.heap.size + 1 + 1 < w1.heap.size := O2.lt
  clear O1 O2
  go_wp2_with fail
  clear d0 d1 f0 f1 P0
  have HBX : Hid (Below w.heap.size w ((w1.setCell ⟨w.heap.size + 1 + 1, 0, none⟩ (.slice dB eB fB)).setCell ⟨w.heap.size + 1 + 1, 1, none⟩ (.slice dC eC fC))) := (HB1.out.setCell (by simp; omega) _).setCell (by simp; omega) _
  refine (toExtsU (H2.out.later HBX.out) L2.out).mono ?_
  rintro e w2 ⟨dE, eE, fE, rfl, hb2, ho2⟩
  have HOX := ((HO2.out.set 0 (.slice dB eB fB)).set 1 (.slice dC eC fC)).later hb2
  have HRX := ((HR1.out.store (p := ⟨w.heap.size + 1 + 1, 0, none⟩) (by simp) (.slice dB eB fB)).store (p := ⟨w.heap.size + 1 + 1, 1, none⟩) (by simp) (.slice dC eC fC)).later hb2
  have e1 : ((w1.setCell ⟨w.heap.size + 1 + 1, 0, none⟩ (.slice dB eB fB)).setCell ⟨w.heap.size + 1 + 1, 1, none⟩ (.slice dC eC fC)).heap.size = w1.heap.size := by simp [World.setCell]
  have HIX : Hid (DiskU w2 (.slice dB eB fB) (.slice dC eC fC) d.1 (fun b => w.heap.size + 3 ≤ b ∧ b < w1.heap.size)) := HO1.out.keep fun b hb hlt => by
    rw [hb2.block b (by rw [e1]; exact hlt), Below.heap_setCell _ _ _ _ (by simp; omega), Below.heap_setCell _ _ _ _ (by simp; omega)]
  have HPX : Hid (ExtsO w2 (.slice dE eE fE) d.2 (fun b => w1.heap.size ≤ b ∧ b < w2.heap.size)) := by
    unfold fresh at ho2
    rw [e1] at ho2
    exact ho2
  have HB2 : Hid (Below w.heap.size w w2) := HBX.out.trans (hb2.mono HBX.out.size)
  have e2 : w1.heap.size ≤ w2.heap.size := by have := hb2.size; rwa [e1] at this
  have q0 := HOX.cell (i := 0) (by omega)
  have q1 := HOX.cell (i := 1) (by omega)
  have q2 := HOX.cell (i := 2) (by omega)
  have q3 := HOX.frozen 2
  have t0 := HRX.cell (i := 0) (by omega)
  have t1 := HRX.cell (i := 1) (by omega)
  have t2 := HRX.cell (i := 2) (by omega)
  have s0 := HRX.frozen 0
  have s1 := HRX.frozen 1
  have s2 := HRX.frozen 2
  simp at q0 q1 q2 t0 t1 t2
  clear HOX HRX hb2 ho2
  go_wp2
  refine bodyPost_ret (v := .agg #[.slice dB eB fB, .slice dC eC fC, .slice dE eE fE]) (by simp [results, Try.results24, go_sem, t0, t1, t2]) rfl ⟨_, _, _, _, _, _, _, _, _, rfl, ?_, ?_⟩
  · exact (((HB2.out.setCell (by simp; omega) _).setCell (by simp) _).setCell (by simp) _).setCell (by simp) _
  · refine ⟨fun b => w.heap.size + 3 ≤ b ∧ b < w1.heap.size, fun b => w1.heap.size ≤ b ∧ b < w2.heap.size, HIX.out.keep fun b hb hlt => ?_, HPX.out.keep fun b hb hlt => ?_, fun b hb hb' => by omega, fun b hb => ?_⟩
    · rw [Below.heap_setCell _ _ _ _ (by simp; omega), Below.heap_setCell _ _ _ _ (by simp; omega), Below.heap_setCell _ _ _ _ (by simp; omega), Below.heap_setCell _ _ _ _ (by simp; omega)]
    · rw [Below.heap_setCell _ _ _ _ (by simp; omega), Below.heap_setCell _ _ _ _ (by simp; omega), Below.heap_setCell _ _ _ _ (by simp; omega), Below.heap_setCell _ _ _ _ (by simp; omega)]
    · unfold fresh
      simp only [World.setCell, Array.size_modify]
      rcases hb with hb | hb <;> omega

theorem eqKernU (w : World) (vB vC vE vB' vC' vE' : Value) (d : KD) (h : KernR w vB vC vE d) (h' : KernR w vB' vC' vE' d) :
    Calls Try.prog 27 #[.agg #[vB, vC, vE], .agg #[vB', vC', vE']] w fun e w' => e = .returned (.bool true) ∧ Below w.heap.size w w' := by
  obtain ⟨a1, c1, rfl, _⟩ := h.1.1.open'
  obtain ⟨a2, c2, rfl, _⟩ := h.1.2.open'
  obtain ⟨a3, c3, rfl, _⟩ := h.2.open'
  obtain ⟨b1, k1, rfl, _⟩ := h'.1.1.open'
  obtain ⟨b2, k2, rfl, _⟩ := h'.1.2.open'
  obtain ⟨b3, k3, rfl, _⟩ := h'.2.open'
  have H : Hid (KernR w _ _ _ d) := h
  have H' : Hid (KernR w _ _ _ d) := h'
  clear h h'
  generalize d.1.1.length = m1 at *
  generalize d.1.2.length = m2 at *
  generalize d.2.length = m3 at *
  go_enter Try.func27, Try.ntmps27
  go_wp2_with fail
  refine (eqDiskU _ _ _ _ _ d.1 (H.out.1.later (later2 _ _ _)) (H'.out.1.later (later2 _ _ _))).mono ?_
  rintro e w1 ⟨rfl, hb1⟩
  have HB1 : Hid (Below w.heap.size w w1) := (later2 _ _ _).trans (hb1.mono (by simp; omega))
  have x2 : w1.cell? ⟨w.heap.size, 2, none⟩ = some (.slice a3 m3 c3) := by rw [hb1.cell (by simp; omega)]; exact ((OwnRow.new3 w _ _ _ 51).later (later1 _ _)).cell (i := 2) (by omega)
  have y2 : w1.cell? ⟨w.heap.size + 1, 2, none⟩ = some (.slice b3 m3 k3) := by
    rw [hb1.cell (by simp)]
    have := (OwnRow.new3 (w.alloc (.cells #[.slice a1 m1 c1, .slice a2 m2 c2, .slice a3 m3 c3] 51)) (.slice b1 m1 k1) (.slice b2 m2 k2) (.slice b3 m3 k3) 51).cell (i := 2) (by omega)
    rw [World.size_alloc] at this
    exact this
  clear hb1
  go_wp2_with fail
  refine (eqExtsU (H.out.2.later HB1.out) (H'.out.2.later HB1.out)).mono ?_
  rintro e w2 ⟨rfl, hb2⟩
  have HB2 : Hid (Below w.heap.size w w2) := HB1.out.trans (hb2.mono HB1.out.size)
  clear hb2
  go_wp2
  go_ret
  exact ⟨rfl, HB2.out⟩

def spanKern (d : KD) : Nat := spanDisk d.1 + 3 * d.2.length
theorem spanKern_le (d : KD) : spanKern d ≤ 3 * sizeKern d := by have := spanDisk_le d.1; unfold spanKern sizeKern; omega
def mkKern (k : Int) (d : KD) : KD := (mkDisk k d.1, marksE (k + (spanDisk d.1 : Nat)) d.2.length)
theorem markDskU (w : World) (vB vC : Value) (d : DK) (F : Nat → Prop) (k : Int) (h : DiskU w vB vC d F) (hk0 : 0 ≤ k) (hk : k + (spanDisk d : Nat) ≤ 4611686018427387904) :
    Calls Try.prog 16 #[.agg #[vB, vC], .int .i64 k] w fun e w' => e = .returned (.int .i64 (k + (spanDisk d : Nat))) ∧ DiskU w' vB vC (mkDisk k d) F ∧ Chg F w w' := by
  obtain ⟨F1, G1, h1, h2, hd, hf⟩ := h
  exact (markDisk_any w vB vC d.1 d.2 F1 G1 k h1 h2 hd hk0 hk).mono fun e w' ⟨he, i1, i2, hc⟩ => ⟨he, ⟨F1, G1, i1, i2, hd, hf⟩, hc.mono hf⟩

set_option maxHeartbeats 800000 in
theorem markKernM (w : World) (vB vC vE : Value) (d : KD) (F : Nat → Prop) (k : Int) (h : KernU w vB vC vE d F) (hk0 : 0 ≤ k) (hk : k + (spanKern d : Nat) ≤ 4611686018427387904) :
    Calls Try.prog 28 #[.agg #[vB, vC, vE], .int .i64 k] w fun e w' => e = .returned (.int .i64 (k + (spanKern d : Nat))) ∧ KernU w' vB vC vE (mkKern k d) F ∧ Chg F w w' := by
  obtain ⟨a1, c1, rfl, _⟩ := h.reads.1.1.open'
  obtain ⟨a2, c2, rfl, _⟩ := h.reads.1.2.open'
  obtain ⟨a3, c3, rfl, _⟩ := h.reads.2.open'
  obtain ⟨F1, G1, h1, h2, hd, hf⟩ := h
  have H1 : Hid (DiskU w (.slice a1 d.1.1.length c1) (.slice a2 d.1.2.length c2) d.1 F1) := h1
  have H2 : Hid (ExtsO w (.slice a3 d.2.length c3) d.2 G1) := h2
  have HD : Hid (∀ b, F1 b → ¬ G1 b) := hd
  have HF : Hid (∀ b, F1 b ∨ G1 b → F b) := hf
  have HKD : Hid (mkKern k d = (mkDisk k d.1, marksE (k + (spanDisk d.1 : Nat)) d.2.length)) := rfl
  clear h1 h2 hd hf
  have hq : k + (spanDisk d.1 : Nat) + 3 * (d.2.length : Int) ≤ 4611686018427387904 := by unfold spanKern at hk; omega
  have HE : Hid (k + ((spanKern d : Nat) : Int) = k + (spanDisk d.1 : Nat) + 3 * (d.2.length : Int)) := by unfold Hid spanKern; omega
  rw [HE.out, HKD.out]
  clear hk
  have hU0 : (0 : Int) ≤ ((spanDisk d.1 : Nat) : Int) := by omega
  go_enter Try.func28, Try.ntmps28
  go_wp2_with fail
  refine (markDskU _ _ _ d.1 (fun b => F1 b ∧ b < w.heap.size) k (H1.out.bound.keep fun b hb hlt => (later1 _ _).block b hlt) hk0 (by omega)).mono ?_
  rintro e w1 ⟨rfl, hm, hc⟩
  have x2 : w1.cell? ⟨w.heap.size, 2, none⟩ = some (.slice a3 d.2.length c3) := by
    rw [World.cell?_of_block (w := w.alloc (.cells #[.slice a1 d.1.1.length c1, .slice a2 d.1.2.length c2, .slice a3 d.2.length c3] 51)) (box_later hc fun b hb => hb.2), new_cell]; rfl
  have HM : Hid (DiskU w1 _ _ (mkDisk k d.1) (fun b => F1 b ∧ b < w.heap.size)) := hm
  have HC : Hid (Chg (fun b => F1 b ∧ b < w.heap.size) (w.alloc (.cells #[.slice a1 d.1.1.length c1, .slice a2 d.1.2.length c2, .slice a3 d.2.length c3] 51)) w1) := hc
  have H2' : Hid (ExtsO w1 (.slice a3 d.2.length c3) d.2 (fun b => G1 b ∧ b < w.heap.size)) := H2.out.bound.keep fun b hb hlt => (HC.out.block b (by simp; omega) (fun h => HD.out b h.1 hb.1)).trans ((later1 _ _).block b hlt)
  clear hm hc
  go_wp2_with fail
  refine (markExtsU _ H2'.out (by omega) hq).mono ?_
  rintro e w2 ⟨rfl, hm2, hc2⟩
  have HM2 : Hid (ExtsO w2 (.slice a3 d.2.length c3) (marksE (k + (spanDisk d.1 : Nat)) d.2.length) (fun b => G1 b ∧ b < w.heap.size)) := hm2
  have HC2 : Hid (Chg (fun b => G1 b ∧ b < w.heap.size) w1 w2) := hc2
  clear hm2 hc2
  go_wp2
  go_ret
  refine ⟨rfl, ⟨fun b => F1 b ∧ b < w.heap.size, fun b => G1 b ∧ b < w.heap.size, HM.out.keep fun b hb hlt => HC2.out.block b hlt (fun h => HD.out b hb.1 h.1), HM2.out, fun b h h' => HD.out b h.1 h'.1, fun b hb => HF.out b (hb.elim (fun h => Or.inl h.1) (fun h => Or.inr h.1))⟩, ?_⟩
  exact (Chg.of_below (later1 _ _)).trans ((HC.out.mono fun b hb => HF.out b (Or.inl hb.1)).trans (HC2.out.mono fun b hb => HF.out b (Or.inr hb.1)))
theorem markKernU (w : World) (vB vC vE : Value) (d : KD) (F : Nat → Prop) (k : Int) (h : KernU w vB vC vE d F) (hk0 : 0 ≤ k) (hk : k + (spanKern d : Nat) ≤ 4611686018427387904) :
    Calls Try.prog 28 #[.agg #[vB, vC, vE], .int .i64 k] w fun e w' => e = .returned (.int .i64 (k + (spanKern d : Nat))) ∧ Chg F w w' := (markKernM w vB vC vE d F k h hk0 hk).mono fun _ _ ⟨h1, _, h2⟩ => ⟨h1, h2⟩

theorem heldDskU (w : World) (vB vC : Value) (d : DK) (k : Int) (h : DiskR w vB vC (mkDisk k d)) (hk0 : 0 ≤ k) (hk : k + (spanDisk d : Nat) ≤ 4611686018427387904) :
    Calls Try.prog 60 #[.agg #[vB, vC], .int .i64 k] w fun e w' => e = .returned (.int .i64 (k + (spanDisk d : Nat))) ∧ Below w.heap.size w w' := by
  unfold spanDisk dspan at hk ⊢
  refine (heldDisk_any w vB vC _ (wlens d.2) k h.1 h.2 hk0 (by rw [wlens_length]; omega)).mono fun e w' ⟨he, hb⟩ => ⟨he.trans (ret_int ?_), hb⟩
  rw [wlens_length]
  omega

theorem mkDisk_len1 (k : Int) (d : DK) : (mkDisk k d).1.length = d.1.length := by simp [mkDisk, marksS_length]
theorem mkDisk_len2 (k : Int) (d : DK) : (mkDisk k d).2.length = d.2.length := by simp [mkDisk, marksP_length, wlens]

set_option maxHeartbeats 800000 in
theorem heldKernM (w : World) (vB vC vE : Value) (d : KD) (k : Int) (h : KernR w vB vC vE (mkKern k d)) (hk0 : 0 ≤ k) (hk : k + (spanKern d : Nat) ≤ 4611686018427387904) :
    Calls Try.prog 73 #[.agg #[vB, vC, vE], .int .i64 k] w fun e w' => e = .returned (.int .i64 (k + (spanKern d : Nat))) ∧ Below w.heap.size w w' := by
  obtain ⟨a1, c1, rfl, _⟩ := h.1.1.open'
  obtain ⟨a2, c2, rfl, _⟩ := h.1.2.open'
  obtain ⟨a3, c3, rfl, _⟩ := h.2.open'
  have H1 : Hid (DiskR w _ _ (mkDisk k d.1)) := h.1
  have H2 : Hid (Exts w _ (marksE (k + (spanDisk d.1 : Nat)) d.2.length)) := h.2
  clear h
  have hq : k + (spanDisk d.1 : Nat) + 3 * (d.2.length : Int) ≤ 4611686018427387904 := by unfold spanKern at hk; omega
  have HE : Hid (k + ((spanKern d : Nat) : Int) = k + (spanDisk d.1 : Nat) + 3 * (d.2.length : Int)) := by unfold Hid spanKern; omega
  rw [HE.out]
  clear hk
  generalize (mkKern k d).1.1.length = m1 at *
  generalize (mkKern k d).1.2.length = m2 at *
  generalize (mkKern k d).2.length = m3 at *
  have l1 : ¬ (k + ((spanDisk d.1 : Nat) : Int) < 0) := by omega
  have l2 : ¬ (k + ((spanDisk d.1 : Nat) : Int) + 3 * (d.2.length : Int) < 0) := by omega
  go_enter Try.func73, Try.ntmps73
  go_wp2_with fail
  refine (heldDskU _ _ _ d.1 k (H1.out.later (later1 _ _)) hk0 (by omega)).mono ?_
  rintro e w1 ⟨rfl, hb1⟩
  have HB1 : Hid (Below w.heap.size w w1) := (later1 _ _).trans (hb1.mono (by simp))
  have x2 : w1.cell? ⟨w.heap.size, 2, none⟩ = some (.slice a3 m3 c3) := by rw [hb1.cell (by simp), new_cell]; rfl
  clear hb1
  go_wp2_with fail
  refine (heldExtsU _ d.2.length (H2.out.later HB1.out) (by omega) hq).mono ?_
  rintro e w2 ⟨rfl, rfl⟩
  go_wp2
  go_ret
  exact ⟨rfl, HB1.out⟩
end Go.Proofs.Ytomcejofhfngkaa
