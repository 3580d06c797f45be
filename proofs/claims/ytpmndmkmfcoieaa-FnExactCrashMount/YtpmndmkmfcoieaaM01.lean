/- The walks of the copying functions. What 'append' comes to, as laws for the walk, and the specification's copying of a list. Rows that grow by append, each element with a list of its own. The walks of the functions that copy a list of integers: the specification's by append, the program's by copy. -/
import Derived.Test.YtpmndmkmfcoieaaRows
import Derived.Test.YtpmndmkmfcoieaaM00
import Derived.OwnWalk
import Derived.Deep.RegionLaw
import Derived.Deep.AppendLies
import Derived.Laws.CopyOwn
namespace Go.Proofs.Ytpmndmkmfcoieaa
open Go.RowKit
set_option maxRecDepth 100000

theorem Try.infoInt : (Try.prog.info? 2).map (fun i => (i.zero, i.size, i.bytes)) = some (some (.int .i64 0), 1, 8) := by kernel_rfl
theorem Try.infoInts : (Try.prog.info? 56).map (fun i => (i.zero, i.size, i.bytes)) = some (some (.slice none 0 0), 1, 24) := by kernel_rfl

set_option maxHeartbeats 400000 in
theorem toInts_nil (w : World) (a : Option Addr) (cap n : Nat) (hn : n ≤ 0) :
    Calls Try.prog 38 #[.slice a n cap] w fun e w' => e = .returned (.slice (some ⟨w.heap.size, 0, none⟩) n n) ∧ Below w.heap.size w w' := by
  have hmk := fun w => run_make_row' (P := Try.prog) 56 2 (.int .i64 0) 8 Try.underlying56 Try.infoInt rfl .i64 .i64 n (by omega) (by omega) w
  go_enter Try.func38, Try.ntmps38
  go_wp2
  go_loop [4] (fun i => i = .int .i64 0) (fun _ => 0)
  case atStart => rfl
  case round =>
    obtain rfl := hrel
    go_wp2
    go_ret
    exact ⟨rfl, later1 _ _⟩

set_option maxHeartbeats 400000 in
theorem toInts_walk (w : World) (b off cap n : Nat) (zs : List Int) (hn : n ≤ 1048576) (hc : ∀ k, k < n → w.cell? ⟨b, off + k, none⟩ = some (.int .i64 (zs[k]?.getD 0))) :
    Calls Try.prog 38 #[.slice (some ⟨b, off, none⟩) n cap] w fun e w' => e = .returned (.slice (some ⟨w.heap.size, 0, none⟩) n n) ∧ Below w.heap.size w w' ∧ OwnRow w' w.heap.size n (fun i => .int .i64 (zs[i]?.getD 0)) := by
  have hmk := fun w => run_make_row' (P := Try.prog) 56 2 (.int .i64 0) 8 Try.underlying56 Try.infoInt rfl .i64 .i64 n (by omega) (by omega) w
  go_enter Try.func38, Try.ntmps38
  go_wp2
  go_loopw [4] (fun i wr => ∃ j : Nat, j ≤ n ∧ i = .int .i64 j ∧ Below w.heap.size w wr ∧ OwnRow wr w.heap.size n (fun i => if i < j then .int .i64 (zs[i]?.getD 0) else .int .i64 0)) (fun i _ => n - (intOf i).toNat)
  case atStart => exact ⟨0, Nat.zero_le _, rfl, later1 _ _, (OwnRow.made w (.int .i64 0) n 2).congr fun i _ => by simp⟩
  case round =>
    obtain ⟨j, hj, rfl, hbl, hrow⟩ := hrel
    by_cases hlt : j < n
    · have c1 := cell_later hbl (hc j hlt)
      have d1 := hrow.cell hlt
      have d2 := hrow.frozen j
      simp only [Nat.lt_irrefl, if_false] at d1
      have HBL : Hid (Below w.heap.size w wr) := hbl
      have HROW : Hid (OwnRow wr w.heap.size n (fun i => if i < j then .int .i64 (zs[i]?.getD 0) else .int .i64 0)) := hrow
      clear hbl hrow hc
      go_wp2
      go_roundw
      case rel =>
        refine ⟨j + 1, by omega, by go_num, HBL.out.setCell (Nat.le_refl _) _, (HROW.out.set j _).congr fun i hi => ?_⟩
        by_cases e : i = j
        · subst e; simp
        · by_cases e2 : i < j
          · simp [e, e2, show i < j + 1 by omega]
          · simp [e, e2, show ¬ i < j + 1 by omega]
      case measure => simp [intOf]; omega
    · go_wp2
      go_ret
      have e : j = n := by omega
      subst e
      exact ⟨rfl, hbl, hrow.congr fun i hi => by simp [hi]⟩

theorem toInts_any {w : World} {v : Value} {zs : List Int} (h : Ints w v zs) (hn : zs.length ≤ 1048576) :
    Calls Try.prog 38 #[v] w fun e w' => e = .returned (.slice (some ⟨w.heap.size, 0, none⟩) zs.length zs.length) ∧ Below w.heap.size w w' ∧ IntsO w' (.slice (some ⟨w.heap.size, 0, none⟩) zs.length zs.length) zs (fresh w w') := by
  rcases h with ⟨rfl, a, cap, rfl⟩ | ⟨b, off, cap, rfl, hl, hc⟩
  · exact (toInts_nil w a cap 0 (Nat.le_refl _)).mono fun e w' ⟨he, hb⟩ => ⟨he, hb, Or.inl ⟨rfl, _, _, rfl⟩⟩
  · exact (toInts_walk w b off cap zs.length zs hn hc).mono fun e w' ⟨he, hb, hr⟩ => ⟨he, hb, Or.inr ⟨w.heap.size, _, ⟨Nat.le_refl _, hr.lt⟩, rfl, hl, hr⟩⟩

set_option maxHeartbeats 400000 in
theorem toIntsS_nil (w : World) (a : Option Addr) (cap n : Nat) (hn : n ≤ 0) :
    Calls Try.prog 20 #[.slice a n cap] w fun e w' => e = .returned (.slice (some ⟨w.heap.size, 0, none⟩) n n) ∧ Below w.heap.size w w' := by
  have hmk := fun w => run_make_row' (P := Try.prog) 22 56 (.slice none 0 0) 24 Try.underlying22 Try.infoInts rfl .i64 .i64 n (by omega) (by omega) w
  go_enter Try.func20, Try.ntmps20
  go_wp2
  go_loop [4] (fun i => i = .int .i64 0) (fun _ => 0)
  case atStart => rfl
  case round =>
    obtain rfl := hrel
    go_wp2
    go_ret
    exact ⟨rfl, later1 _ _⟩

set_option maxHeartbeats 400000 in
theorem toIntsS_walk (w : World) (b off cap n : Nat) (zss : List (List Int)) (u : Nat → Value) (hn : n ≤ 1048576) (hz : ∀ k, k < n → (zss[k]?.getD []).length ≤ 1048576)
    (hc : ∀ k, k < n → w.cell? ⟨b, off + k, none⟩ = some (u k) ∧ Ints w (u k) (zss[k]?.getD [])) :
    Calls Try.prog 20 #[.slice (some ⟨b, off, none⟩) n cap] w fun e w' => e = .returned (.slice (some ⟨w.heap.size, 0, none⟩) n n) ∧ Below w.heap.size w w' ∧
      ∃ u' s, OwnRow w' w.heap.size n u' ∧ Built w' (w.heap.size + 1) n u' (fun i => zss[i]?.getD []) s := by
  have hmk := fun w => run_make_row' (P := Try.prog) 22 56 (.slice none 0 0) 24 Try.underlying22 Try.infoInts rfl .i64 .i64 n (by omega) (by omega) w
  have HZ : Hid (∀ k, k < n → (zss[k]?.getD []).length ≤ 1048576) := hz
  have HCC : Hid (∀ k, k < n → w.cell? ⟨b, off + k, none⟩ = some (u k) ∧ Ints w (u k) (zss[k]?.getD [])) := hc
  clear hz hc
  go_enter Try.func20, Try.ntmps20
  go_wp2
  clear hmk
  go_loopw [4] (fun i wr => ∃ j : Nat, j ≤ n ∧ i = .int .i64 j ∧ Below w.heap.size w wr ∧ ∃ u' s, OwnRow wr w.heap.size n (fun i => if i < j then u' i else .slice none 0 0) ∧ Built wr (w.heap.size + 1) j u' (fun i => zss[i]?.getD []) s) (fun i _ => n - (intOf i).toNat)
  case atStart => exact ⟨0, Nat.zero_le _, rfl, later1 _ _, fun _ => .slice none 0 0, _, (OwnRow.made w (.slice none 0 0) n 56).congr fun i _ => by simp, Built.nil _ _ (by simp)⟩
  case round =>
    obtain ⟨j, hj, rfl, hbl, u', s, hrow, hbt⟩ := hrel
    by_cases hlt : j < n
    · obtain ⟨c0, i0⟩ := HCC.out j hlt
      have c1 := cell_later hbl c0
      have HI : Hid (Ints wr (u j) (zss[j]?.getD [])) := i0.later hbl
      have HBL : Hid (Below w.heap.size w wr) := hbl
      have HROW : Hid (OwnRow wr w.heap.size n (fun i => if i < j then u' i else .slice none 0 0)) := hrow
      have HBT : Hid (Built wr (w.heap.size + 1) j u' (fun i => zss[i]?.getD []) s) := hbt
      clear c0 i0 hbl hrow hbt
      go_wp2_with fail
      refine (toInts_any HI.out (HZ.out j hlt)).mono ?_
      rintro e w1 ⟨rfl, hb1, ho1⟩
      have HB1 : Hid (Below wr.heap.size wr w1) := hb1
      have HO1 : Hid (IntsO w1 (.slice (some ⟨wr.heap.size, 0, none⟩) (zss[j]?.getD []).length (zss[j]?.getD []).length) (zss[j]?.getD []) (fresh wr w1)) := ho1
      have HROW1 : Hid (OwnRow w1 w.heap.size n (fun i => if i < j then u' i else .slice none 0 0)) := HROW.out.block (hb1.block _ HROW.out.lt)
      have d1 := HROW1.out.cell hlt
      have d2 := HROW1.out.frozen j
      simp only [Nat.lt_irrefl, if_false] at d1
      clear hb1 ho1
      go_wp2
      go_roundw
      case rel =>
        refine ⟨j + 1, by omega, by go_num, (HBL.out.trans (HB1.out.mono HBL.out.size)).setCell (Nat.le_refl _) _, _, _, (HROW1.out.set j _).congr fun i hi => ?_, (HBT.out.next HB1.out HO1.out).store (by simp) _⟩
        by_cases e : i = j
        · subst e; simp
        · by_cases e2 : i < j
          · simp [e, e2, show i < j + 1 by omega]
          · simp [e, e2, show ¬ i < j + 1 by omega]
      case measure => simp [intOf]; omega
    · go_wp2
      go_ret
      have e : j = n := by omega
      subst e
      exact ⟨rfl, hbl, u', s, hrow.congr fun i hi => by simp [hi], hbt⟩

theorem len_le_sum (zss : List (List Int)) : ∀ k : Nat, (zss[k]?.getD []).length ≤ (zss.map List.length).sum := by
  intro k
  by_cases h : k < zss.length
  · have h1 := upto_succ (zss.map List.length) k (by simpa using h)
    rw [lens_get] at h1
    have h2 := upto_le (zss.map List.length) (k + 1)
    omega
  · rw [List.getElem?_eq_none (by omega)]; simp
theorem wlen_le_sum (ps : List (Int × List Int)) : ∀ k : Nat, (ps[k]?.getD (0, [])).2.length ≤ (wlens ps).sum := by
  intro k
  by_cases h : k < ps.length
  · have h1 := upto_succ (wlens ps) k (by rw [wlens_length]; exact h)
    rw [wlens_get] at h1
    have h2 := upto_le (wlens ps) (k + 1)
    omega
  · rw [List.getElem?_eq_none (by omega)]; simp

theorem toIntsS_any {w : World} {v : Value} {zss : List (List Int)} (h : IntsS w v zss) (hn : zss.length + (zss.map List.length).sum ≤ 1048576) :
    Calls Try.prog 20 #[v] w fun e w' => e = .returned (.slice (some ⟨w.heap.size, 0, none⟩) zss.length zss.length) ∧ Below w.heap.size w w' ∧ IntsSO w' (.slice (some ⟨w.heap.size, 0, none⟩) zss.length zss.length) zss (fresh w w') := by
  rcases h with ⟨rfl, a, cap, rfl⟩ | ⟨b, off, cap, u, rfl, hl, hc⟩
  · exact (toIntsS_nil w a cap 0 (Nat.le_refl _)).mono fun e w' ⟨he, hb⟩ => ⟨he, hb, Or.inl ⟨rfl, _, _, rfl⟩⟩
  · refine (toIntsS_walk w b off cap zss.length zss u (by omega) (fun k _ => by have := len_le_sum zss k; omega) hc).mono fun e w' ⟨he, hb, u', s, hr, hbt⟩ => ⟨he, hb, ?_⟩
    exact hbt.ints zss rfl (fun _ _ => rfl) hl (Nat.lt_succ_self _) hr _ ⟨Nat.le_refl _, hr.lt⟩ (fun c h1 h2 => ⟨by omega, h2⟩)

theorem Try.infoPut : (Try.prog.info? 72).map (fun i => (i.zero, i.size, i.bytes)) = some (some (.agg #[.int .i64 0, .slice none 0 0]), 2, 32) := by kernel_rfl

set_option maxHeartbeats 400000 in
theorem toPut_any (w : World) (v : Value) (a : Int) (zs : List Int) (h : Ints w v zs) (hn : zs.length ≤ 1048576) :
    Calls Try.prog 39 #[.agg #[.int .i64 a, v]] w fun e w' => ∃ b, e = .returned (.agg #[.int .i64 a, .slice (some ⟨b, 0, none⟩) zs.length zs.length]) ∧ Below w.heap.size w w' ∧ IntsO w' (.slice (some ⟨b, 0, none⟩) zs.length zs.length) zs (fresh w w') := by
  have HI : Hid (Ints w v zs) := h
  clear h
  go_enter Try.func39, Try.ntmps39
  go_wp2_with fail
  refine (toInts_any (HI.out.later (later3 _ _ _ _)) hn).mono ?_
  rintro e w1 ⟨rfl, hb1, ho1⟩
  have HB1 : Hid (Below _ _ w1) := hb1
  have HO1 : Hid (IntsO w1 _ zs _) := ho1
  obtain ⟨hc, hf⟩ := bcell hb1
  clear hb1 ho1
  go_wp2
  refine bodyPost_ret (v := .agg #[.int .i64 a, .slice (some ⟨w.heap.size + 1 + 1 + 1, 0, none⟩) zs.length zs.length]) (by simp [results, Try.results39, go_sem, hc]) rfl ⟨w.heap.size + 1 + 1 + 1, rfl, ?_, ?_⟩
  · exact ((((later3 _ _ _ _).trans (HB1.out.mono (by simp; omega))).setCell (by simp; omega) _).setCell (by simp) _).setCell (by simp) _
  · have h1 := HO1.out
    simp only [World.size_alloc] at h1
    refine (((h1.store (fun b hb => ?_) _).store (fun b hb => ?_) _).store (fun b hb => ?_) _).mono fun b hb => ?_
    · have := hb.1; simp at this ⊢; omega
    · have := hb.1; simp at this ⊢; omega
    · have := hb.1; simp at this ⊢; omega
    · exact ⟨by have := hb.1; simp at this; omega, by simpa [World.setCell] using hb.2⟩

set_option maxHeartbeats 400000 in
theorem toPuts_nil (w : World) (a : Option Addr) (cap n : Nat) (hn : n ≤ 0) :
    Calls Try.prog 21 #[.slice a n cap] w fun e w' => e = .returned (.slice (some ⟨w.heap.size, 0, none⟩) n n) ∧ Below w.heap.size w w' := by
  have hmk := fun w => run_make_pair (P := Try.prog) 28 72 (.int .i64 0) (.slice none 0 0) 32 Try.underlying28 Try.infoPut rfl .i64 .i64 n (by omega) (by omega) w
  go_enter Try.func21, Try.ntmps21
  go_wp2
  go_loop [4] (fun i => i = .int .i64 0) (fun _ => 0)
  case atStart => rfl
  case round =>
    obtain rfl := hrel
    go_wp2
    go_ret
    exact ⟨rfl, later1 _ _⟩

/-- The cells of a row of puts of which the first j stand. -/
def partCell (ps : List (Int × List Int)) (u : Nat → Value) (j c : Nat) : Value := if c < j * 2 then putCell ps u c else pairCell (.int .i64 0) (.slice none 0 0) c
theorem partCell_next (ps : List (Int × List Int)) (u : Nat → Value) (j c : Nat) (v : Value) : (if c = j * 2 + 1 then v else (if c = j * 2 then .int .i64 (ps[j]?.getD (0, [])).1 else partCell ps u j c)) = partCell ps (fun i => if i = j then v else u i) (j + 1) c := by
  unfold partCell
  by_cases e : c = j * 2 + 1
  · subst e; rw [if_pos rfl, if_pos (by omega), putCell_words]; simp
  · rw [if_neg e]
    by_cases e2 : c = j * 2
    · subst e2; rw [if_pos rfl, if_pos (by omega), putCell_at]
    · rw [if_neg e2]
      by_cases e3 : c < j * 2
      · rw [if_pos e3, if_pos (by omega)]
        unfold putCell
        by_cases e4 : c % 2 = 0
        · rw [if_pos e4, if_pos e4]
        · rw [if_neg e4, if_neg e4]
          show u (c / 2) = if c / 2 = j then v else u (c / 2)
          rw [if_neg (by omega)]
      · rw [if_neg e3, if_neg (by omega)]

set_option maxHeartbeats 800000 in
theorem toPuts_walk (w : World) (b off cap n : Nat) (ps : List (Int × List Int)) (u : Nat → Value) (hn : n ≤ 1048576) (hz : ∀ k, k < n → (ps[k]?.getD (0, [])).2.length ≤ 1048576)
    (hc : ∀ k, k < n → w.cell? ⟨b, off + k * 2, none⟩ = some (.int .i64 (ps[k]?.getD (0, [])).1) ∧ w.cell? ⟨b, off + k * 2 + 1, none⟩ = some (u k) ∧ Ints w (u k) (ps[k]?.getD (0, [])).2) :
    Calls Try.prog 21 #[.slice (some ⟨b, off, none⟩) n cap] w fun e w' => e = .returned (.slice (some ⟨w.heap.size, 0, none⟩) n n) ∧ Below w.heap.size w w' ∧
      ∃ u' s, OwnRow w' w.heap.size (n * 2) (putCell ps u') ∧ Built w' (w.heap.size + 1) n u' (fun i => (ps[i]?.getD (0, [])).2) s := by
  have hmk := fun w => run_make_pair (P := Try.prog) 28 72 (.int .i64 0) (.slice none 0 0) 32 Try.underlying28 Try.infoPut rfl .i64 .i64 n (by omega) (by omega) w
  have HZ : Hid (∀ k, k < n → (ps[k]?.getD (0, [])).2.length ≤ 1048576) := hz
  have HCC : Hid (∀ k, k < n → w.cell? ⟨b, off + k * 2, none⟩ = some (.int .i64 (ps[k]?.getD (0, [])).1) ∧ w.cell? ⟨b, off + k * 2 + 1, none⟩ = some (u k) ∧ Ints w (u k) (ps[k]?.getD (0, [])).2) := hc
  clear hz hc
  go_enter Try.func21, Try.ntmps21
  go_wp2
  clear hmk
  go_loopw [4] (fun i wr => ∃ j : Nat, j ≤ n ∧ i = .int .i64 j ∧ Below w.heap.size w wr ∧ ∃ u' s, OwnRow wr w.heap.size (n * 2) (partCell ps u' j) ∧ Built wr (w.heap.size + 1) j u' (fun i => (ps[i]?.getD (0, [])).2) s) (fun i _ => n - (intOf i).toNat)
  case atStart => exact ⟨0, Nat.zero_le _, rfl, later1 _ _, fun _ => .slice none 0 0, _, (OwnRow.madePair w (.int .i64 0) (.slice none 0 0) n 72).congr fun i _ => by simp [partCell], Built.nil _ _ (by simp)⟩
  case round =>
    obtain ⟨j, hj, rfl, hbl, u', s, hrow, hbt⟩ := hrel
    by_cases hlt : j < n
    · obtain ⟨c0, c0', i0⟩ := HCC.out j hlt
      have c1 := cell_later hbl c0
      have c2 := cell_later hbl c0'
      obtain ⟨ua, ucap, hu, _⟩ := i0.shape
      rw [hu] at c2
      have HI : Hid (Ints wr (.slice ua (ps[j]?.getD (0, [])).2.length ucap) (ps[j]?.getD (0, [])).2) := by rw [← hu]; exact i0.later hbl
      have HBL : Hid (Below w.heap.size w wr) := hbl
      have HROW : Hid (OwnRow wr w.heap.size (n * 2) (partCell ps u' j)) := hrow
      have HBT : Hid (Built wr (w.heap.size + 1) j u' (fun i => (ps[i]?.getD (0, [])).2) s) := hbt
      clear c0 c0' i0 hbl hrow hbt hu
      go_wp2_with fail
      refine (toPut_any _ _ _ _ HI.out (HZ.out j hlt)).mono ?_
      rintro e w1 ⟨nb, rfl, hb1, ho1⟩
      have HB1 : Hid (Below wr.heap.size wr w1) := hb1
      have HO1 : Hid (IntsO w1 (.slice (some ⟨nb, 0, none⟩) (ps[j]?.getD (0, [])).2.length (ps[j]?.getD (0, [])).2.length) (ps[j]?.getD (0, [])).2 (fresh wr w1)) := ho1
      have HROW1 : Hid (OwnRow w1 w.heap.size (n * 2) (partCell ps u' j)) := HROW.out.block (hb1.block _ HROW.out.lt)
      obtain ⟨y1, d1⟩ : ∃ y, w1.cell? ⟨w.heap.size, j * 2, none⟩ = some (.int .i64 y) := ⟨0, by rw [HROW1.out.cell (by omega)]; simp [partCell, pairCell]⟩
      obtain ⟨z1, z2, z3, d2⟩ : ∃ z1 z2 z3, w1.cell? ⟨w.heap.size, j * 2 + 1, none⟩ = some (.slice z1 z2 z3) := ⟨none, 0, 0, by rw [HROW1.out.cell (by omega)]; simp [partCell, pairCell]; omega⟩
      have d3 := HROW1.out.frozen (j * 2)
      have d4 := HROW1.out.frozen (j * 2 + 1)
      clear hb1 ho1
      go_wp2
      go_roundw
      case rel =>
        refine ⟨j + 1, by omega, by go_num, ((HBL.out.trans (HB1.out.mono HBL.out.size)).setCell (Nat.le_refl _) _).setCell (Nat.le_refl _) _, _, _, ((HROW1.out.set (j * 2) _).set (j * 2 + 1) _).congr fun c _ => partCell_next ps u' j c _, ((HBT.out.next HB1.out HO1.out).store (by simp) _).store (by simp) _⟩
      case measure => simp [intOf]; omega
    · go_wp2
      go_ret
      have e : j = n := by omega
      subst e
      exact ⟨rfl, hbl, u', s, hrow.congr fun i hi => by simp [partCell, hi], hbt⟩

theorem toPuts_any {w : World} {v : Value} {ps : List (Int × List Int)} (h : Puts w v ps) (hn : ps.length + (wlens ps).sum ≤ 1048576) :
    Calls Try.prog 21 #[v] w fun e w' => e = .returned (.slice (some ⟨w.heap.size, 0, none⟩) ps.length ps.length) ∧ Below w.heap.size w w' ∧ PutsO w' (.slice (some ⟨w.heap.size, 0, none⟩) ps.length ps.length) ps (fresh w w') := by
  rcases h with ⟨rfl, a, cap, rfl⟩ | ⟨b, off, cap, u, rfl, hl, hc⟩
  · exact (toPuts_nil w a cap 0 (Nat.le_refl _)).mono fun e w' ⟨he, hb⟩ => ⟨he, hb, Or.inl ⟨rfl, _, _, rfl⟩⟩
  · refine (toPuts_walk w b off cap ps.length ps u (by omega) (fun k _ => by have := wlen_le_sum ps k; omega) hc).mono fun e w' ⟨he, hb, u', s, hr, hbt⟩ => ⟨he, hb, ?_⟩
    exact hbt.puts ps rfl (fun _ _ => rfl) hl (Nat.lt_succ_self _) hr _ ⟨Nat.le_refl _, hr.lt⟩ (fun c h1 h2 => ⟨by omega, h2⟩)

/-- An answer that is a disk by itself. -/
def AnsBare (w : World) (bs : List (List Int)) (ps : List (Int × List Int)) (e : Ending) (w' : World) : Prop :=
  ∃ aB nB cB aC nC cC, e = .returned (.agg #[.slice aB nB cB, .slice aC nC cC]) ∧ Below w.heap.size w w' ∧ DiskO w' (.slice aB nB cB) (.slice aC nC cC) bs ps (fresh w w')

set_option maxHeartbeats 800000 in
theorem toDisk_any (w : World) (aB aC : Option Addr) (nB cB nC cC : Nat) (bs : List (List Int)) (ps : List (Int × List Int)) (h1 : IntsS w (.slice aB nB cB) bs) (h2 : Puts w (.slice aC nC cC) ps) (l1 : bs.length + (bs.map List.length).sum ≤ 1048576) (l2 : ps.length + (wlens ps).sum ≤ 1048576) :
    Calls Try.prog 6 #[.agg #[.slice aB nB cB, .slice aC nC cC]] w (AnsBare w bs ps) := by
  have H1 : Hid (IntsS w (.slice aB nB cB) bs) := h1
  have H2 : Hid (Puts w (.slice aC nC cC) ps) := h2
  clear h1 h2
  go_enter Try.func6, Try.ntmps6
  go_wp2_with fail
  refine (toIntsS_any (H1.out.later (later3 _ _ _ _)) l1).mono ?_
  rintro e w1 ⟨rfl, hb1, ho1⟩
  have HB1 : Hid (Below w.heap.size w w1) := (later3 _ _ _ _).trans (hb1.mono (by simp; omega))
  have O2 : OwnRow w1 (w.heap.size + 1 + 1) 2 (fun i => if i = 0 then .slice none 0 0 else .slice none 0 0) := by
    have := (OwnRow.two ((w.alloc (Obj.cells #[Value.slice aB nB cB, Value.slice aC nC cC] 25)).alloc (Obj.cells #[Value.slice none 0 0, Value.slice none 0 0] 30)) (.slice none 0 0) (.slice none 0 0) 30).later hb1
    simpa using this
  have O1 : OwnRow w1 (w.heap.size + 1) 2 (fun i => if i = 0 then .slice none 0 0 else .slice none 0 0) := by
    have := ((OwnRow.two (w.alloc (Obj.cells #[Value.slice aB nB cB, Value.slice aC nC cC] 25)) (.slice none 0 0) (.slice none 0 0) 30).later (later1 _ (Obj.cells #[Value.slice none 0 0, Value.slice none 0 0] 30))).later hb1
    simpa using this
  have P0 : w1.cell? ⟨w.heap.size, 1, none⟩ = some (.slice aC nC cC) := by
    rw [hb1.cell (by simp; omega)]
    have h := (OwnRow.two w (.slice aB nB cB) (.slice aC nC cC) 25)
    exact ((h.later (later1 _ _)).later (later1 _ _)).cell (i := 1) (by omega)
  have HO1 : Hid (IntsSO w1 (.slice (some ⟨w.heap.size + 1 + 1 + 1, 0, none⟩) bs.length bs.length) bs (fun b => w.heap.size + 1 + 1 + 1 ≤ b ∧ b < w1.heap.size)) := by
    have h := ho1
    simp only [World.size_alloc] at h
    exact h.mono fun b hb => ⟨by have := hb.1; simp at this; omega, hb.2⟩
  clear hb1 ho1
  have d1 := O2.cell (i := 0) (by omega)
  have d2 := O2.frozen 0
  simp at d1
  have HO2 : Hid (OwnRow w1 (w.heap.size + 1 + 1) 2 (fun i => if i = 0 then .slice none 0 0 else .slice none 0 0)) := O2
  have HR1 : Hid (OwnRow w1 (w.heap.size + 1) 2 (fun i => if i = 0 then .slice none 0 0 else .slice none 0 0)) := O1
  clear O1 O2
  go_wp2_with fail
  clear d1 d2 P0
  have HBX : Hid (Below w.heap.size w (w1.setCell ⟨w.heap.size + 1 + 1, 0, none⟩ (.slice (some ⟨w.heap.size + 1 + 1 + 1, 0, none⟩) bs.length bs.length))) := HB1.out.setCell (by simp; omega) _
  refine (toPuts_any (H2.out.later HBX.out) l2).mono ?_
  rintro e w2 ⟨rfl, hb2, ho2⟩
  have HOX := (HO2.out.set 0 (.slice (some ⟨w.heap.size + 1 + 1 + 1, 0, none⟩) bs.length bs.length)).later hb2
  have HRX := (HR1.out.store (p := ⟨w.heap.size + 1 + 1, 0, none⟩) (by simp) (.slice (some ⟨w.heap.size + 1 + 1 + 1, 0, none⟩) bs.length bs.length)).later hb2
  have HIX : Hid (IntsSO w2 (.slice (some ⟨w.heap.size + 1 + 1 + 1, 0, none⟩) bs.length bs.length) bs (fun b => w.heap.size + 1 + 1 + 1 ≤ b ∧ b < w1.heap.size)) :=
    (HO1.out.store (p := ⟨w.heap.size + 1 + 1, 0, none⟩) (fun b hb => by have := hb.1; simp; omega) _).keep fun b hb hlt => hb2.block b hlt
  have HPX : Hid (PutsO w2 (.slice (some ⟨w1.heap.size, 0, none⟩) ps.length ps.length) ps (fun b => w1.heap.size ≤ b ∧ b < w2.heap.size)) := by
    have h := ho2
    have e1 : (w1.setCell ⟨w.heap.size + 1 + 1, 0, none⟩ (.slice (some ⟨w.heap.size + 1 + 1 + 1, 0, none⟩) bs.length bs.length)).heap.size = w1.heap.size := by simp [World.setCell]
    unfold fresh at h
    rw [e1] at h
    exact h
  have HB2 : Hid (Below w.heap.size w w2) := HBX.out.trans (hb2.mono HBX.out.size)
  have e1 : w1.heap.size ≤ w2.heap.size := by have := hb2.size; simpa [World.setCell] using this
  have q0 := HOX.cell (i := 0) (by omega)
  have q1 := HOX.cell (i := 1) (by omega)
  have q2 := HOX.frozen 1
  have t0 := HRX.cell (i := 0) (by omega)
  have t1 := HRX.cell (i := 1) (by omega)
  have t2 := HRX.frozen 0
  have t3 := HRX.frozen 1
  simp at q0 q1 t0 t1
  clear HOX HRX hb2 ho2
  have hz1 : w.heap.size + 1 + 1 < w1.heap.size := HO2.out.lt
  go_wp2
  refine bodyPost_ret (v := .agg #[.slice (some ⟨w.heap.size + 1 + 1 + 1, 0, none⟩) bs.length bs.length, .slice (some ⟨w1.heap.size, 0, none⟩) ps.length ps.length]) (by simp [results, Try.results6, go_sem, t0, t1]) rfl ⟨_, _, _, _, _, _, rfl, ?_, ?_⟩
  · exact ((HB2.out.setCell (by simp; omega) _).setCell (by simp) _).setCell (by simp) _
  · refine ⟨_, _, ((HIX.out.store ?_ _).store ?_ _).store ?_ _, ((HPX.out.store ?_ _).store ?_ _).store ?_ _, fun b hb hb' => ?_, fun b hb => ?_⟩
    · intro b hb; have := hb.1; simp; omega
    · intro b hb; have := hb.1; simp; omega
    · intro b hb; have := hb.1; simp; omega
    · intro b hb; have := hb.1; simp; omega
    · intro b hb; have := hb.1; simp; omega
    · intro b hb; have := hb.1; simp; omega
    · have := hb.2; have := hb'.1; omega
    · unfold fresh
      simp only [World.setCell, Array.size_modify]
      rcases hb with hb | hb
      · exact ⟨by have := hb.1; omega, by have := hb.2; omega⟩
      · exact ⟨by have := hb.1; omega, hb.2⟩
end Go.Proofs.Ytpmndmkmfcoieaa

namespace Go.Proofs.Ytpmndmkmfcoieaa
open Go.RowKit
set_option maxRecDepth 100000

section
variable {P : Program} {w : World}
/-- An append whose run is known, at its place in a walk. -/
theorem wpList_append_run {ops : Array Oper} {rest : List Oper} {o : Oper} {a : Act} {Q : Exit → Act → World → Prop} (hgd : o.guard = none) (s x : Operand) (t : TypeId)
    (ho : o.op = .call { callee := .builtin .append, args := #[s, x], argTypes := #[t, t] }) (v y : Value) (hs : a.eval s = v) (hx : a.eval x = y) (v' : Value) (w' : World)
    (hr : (Builtin.append_ #[t, t] o.type #[v, y]).run P w = .ok v' w') (h : wpList P ops Q rest (a.put o.dst v') w') : wpList P ops Q (o :: rest) a w := by
  refine wpList_plain hgd fun K hK => ?_
  unfold Oper.wp execOp
  simp only [ho, resolve, invoke, builtin, Sem.run_bind, Sem.run_pure, Result.andThen_ok, List.map_toArray, List.map_cons, List.map_nil, hs, hx, hr]
  exact hK _ _ h
/-- The same inside a region that draws its order. -/
theorem step_append_run {ops : Array Oper} {o : Oper} {a : Act} {K : Act → World → Prop} {Q : Exit → Act → World → Prop} {E : Prop} (hgd : o.guard = none) (s x : Operand) (t : TypeId)
    (ho : o.op = .call { callee := .builtin .append, args := #[s, x], argTypes := #[t, t] }) (v y : Value) (hs : a.eval s = v) (hx : a.eval x = y) (v' : Value) (w' : World)
    (hr : (Builtin.append_ #[t, t] o.type #[v, y]).run P w = .ok v' w') (h : K (a.put o.dst v') w') : if Region.wanted o (yielded ops a.tmps) = true then Oper.wp P o a w K Q else E := by
  have hw : Region.wanted o (yielded ops a.tmps) = true := by simp [Region.wanted, hgd]
  rw [if_pos hw]
  unfold Oper.wp execOp
  simp only [ho, resolve, invoke, builtin, Sem.run_bind, Sem.run_pure, Result.andThen_ok, List.map_toArray, List.map_cons, List.map_nil, hs, hx, hr]
  exact h
end

theorem below_grown {w w' : World} {B : Nat} {row : Option Nat} (h : w.grownBy w' row) (hB : B ≤ w.heap.size) (hr : ∀ k, row = some k → B ≤ k) : Below B w w' := (Below.refl _ _).grown h hB hr

/-- A row of one cell an element that the call owns. -/
theorem ownsRow_row {w : World} {base n : Nat} {e : TypeId} {v : Value} {xs : List Value} (h : w.ownsRow base e 1 v n xs) (h0 : 0 < n) : ∃ g cap, v = .slice (some ⟨g, 0, none⟩) n cap ∧ base ≤ g ∧ g < w.heap.size ∧ n ≤ maxLen ∧ OwnRow w g n (fun i => xs[i]?.getD undef) := by
  obtain ⟨hl, h | ⟨g, cap, cur, rfl, hb, hh, hnc, hcm, hcs, htake⟩⟩ := h
  · omega
  · refine ⟨g, cap, rfl, hb, (Array.getElem?_eq_some_iff.1 hh).1, by omega, cur, e, hh, by omega, fun i hi => ?_⟩
    rw [Nat.mul_one] at htake
    have h1 : xs[i]? = cur[i]? := by rw [← htake, List.getElem?_take, if_pos hi, Array.getElem?_toList]
    show cur[i]? = some (xs[i]?.getD undef)
    have h2 : i < cur.size := by omega
    rw [h1, Array.getElem?_eq_getElem h2]; rfl

theorem add_plain' (b off k : Nat) : (⟨b, off, none⟩ : Addr).add k = ⟨b, off + k, none⟩ := by
  by_cases h : k = 0
  · subst h; simp [Addr.add]
  · simp [Addr.add, h]

theorem Try.infoInt' : ∃ i, Try.prog.info? 2 = some i ∧ i.zero = some (.int .i64 0) ∧ i.size = 1 ∧ i.bytes = 8 := by
  obtain ⟨i, hi, h⟩ := Option.map_eq_some_iff.1 Try.infoInt
  simp only [Prod.mk.injEq] at h
  exact ⟨i, hi, h.1, h.2.1, h.2.2⟩

theorem append_empty (w : World) (ty : TypeId) (a : Option Addr) (n cap : Nat) (zs : List Int) (hz : zs.length = n) (hn : n ≤ 1048576) (hc : At1 w a n (fun k => .int .i64 (zs[k]?.getD 0))) :
    ∃ v' X, (Builtin.append_ #[56, 56] ty #[.slice (some ⟨w.heap.size, 0, none⟩) 0 0, .slice a n cap]).run Try.prog (w.alloc (.cells #[] 2)) = .ok v' X ∧
      Below w.heap.size w X ∧ IntsO X v' zs (fresh w X) ∧ w.heap.size < X.heap.size ∧ ∃ a' c', v' = .slice a' n c' := by
  obtain ⟨i, hi, h1, h2, h3⟩ := Try.infoInt'
  have hown : (w.alloc (.cells #[] 2)).ownsRow w.heap.size 2 1 (.slice (some ⟨w.heap.size, 0, none⟩) 0 0) 0 [] := World.ownsRow_lit w #[] 0 (Nat.le_refl _) (by simp) rfl
  by_cases ha : a = none
  · subst ha
    have h0 : n = 0 := by
      by_cases h : n = 0
      · exact h
      · obtain ⟨_, _, e, _⟩ := hc 0 (by omega); cases e
    subst h0
    have hzs : zs = [] := List.eq_nil_of_length_eq_zero hz
    subst hzs
    refine ⟨.slice (some ⟨w.heap.size, 0, none⟩) 0 0, w.alloc (.cells #[] 2), ?_, later1 _ _, Or.inl ⟨rfl, _, _, rfl⟩, by simp, _, _, rfl⟩
    simp [Builtin.append_, run_underlying Try.underlying56, sizeOf, typeInfo, hi, Builtin.lenOf, Builtin.firstCells, storeCells]
  · obtain ⟨ad, rfl⟩ := Option.ne_none_iff_exists'.1 ha
    obtain ⟨v', X, hr, ho, hg, _⟩ := run_append_own (P := Try.prog) (w.alloc (.cells #[] 2)) w.heap.size 56 ty 2 i (.int .i64 0) 1 8 Try.underlying56 hi h1 h2 h3 rfl (by decide) _ 0 [] hown ad n cap (zs.map fun z => Value.int .i64 z)
      (by simp [hz]) (fun j u hu => by
        rw [List.getElem?_map, Option.map_eq_some_iff] at hu
        obtain ⟨z, hz1, rfl⟩ := hu
        have hj : j < n := by rw [← hz]; exact (List.getElem?_eq_some_iff.1 hz1).1
        obtain ⟨b, off, e, h⟩ := hc j hj
        simp only [Option.some.injEq] at e
        rw [e, add_plain']
        replace h : w.cell? ⟨b, off + j, none⟩ = some (.int .i64 (zs[j]?.getD 0)) := h
        rw [hz1, Option.getD_some] at h
        exact cell_later (later1 _ _) h) (fun u hu => by
        obtain ⟨z, _, rfl⟩ := List.mem_map.1 hu
        rfl) (by unfold maxLen; omega) (by omega) (by simp)
    have hB : Below w.heap.size w X := (later1 _ _).trans (below_grown hg (by simp) (fun k hk => by simp [Value.ownBlock] at hk; omega))
    simp only [Nat.zero_add, List.nil_append] at ho
    refine ⟨v', X, hr, hB, ?_, by have := hg.size; simp at this; omega, ?_⟩
    · by_cases h0 : n = 0
      · subst h0
        have hzs : zs = [] := List.eq_nil_of_length_eq_zero hz
        refine Or.inl ⟨hzs, ?_⟩
        rcases ho.2 with ⟨rfl, _⟩ | ⟨g, c, cur, rfl, _⟩
        · exact ⟨_, _, rfl⟩
        · exact ⟨_, _, rfl⟩
      · obtain ⟨g, c, rfl, hg1, hg2, hm, hrow⟩ := ownsRow_row ho (by omega)
        refine Or.inr ⟨g, c, ⟨hg1, hg2⟩, by rw [hz], by rw [hz]; exact hm, ?_⟩
        rw [hz]
        exact hrow.congr fun i hi => by
          have : i < zs.length := by omega
          simp [this]
    · rcases ho.2 with ⟨rfl, rfl⟩ | ⟨g, c, cur, rfl, _⟩
      · exact ⟨_, _, rfl⟩
      · exact ⟨_, _, rfl⟩

set_option maxHeartbeats 400000 in
theorem l1Ints_more {w : World} {v : Value} {zs : List Int} (h : Ints w v zs) (hn : zs.length ≤ 1048576) :
    Calls Try.prog 57 #[v] w fun e w' => ∃ a c, e = .returned (.slice a zs.length c) ∧ Below w.heap.size w w' ∧ IntsO w' (.slice a zs.length c) zs (fresh w w') ∧ w.heap.size < w'.heap.size := by
  obtain ⟨a, cap, rfl, hm, hc⟩ := h.open'
  clear h
  obtain ⟨v', X, hr, hbX, hoX, hsX, a', c', rfl⟩ := append_empty w 56 a zs.length cap zs rfl hn hc
  have HR : Hid (_ = _) := hr
  have HB : Hid (Below w.heap.size w X) := hbX
  have HO : Hid (IntsO X (.slice a' zs.length c') zs (fresh w X)) := hoX
  clear hbX hoX hc hr
  go_enter Try.func57, Try.ntmps57
  go_wp2_with (at_builtin; refine wpList_append_run rfl _ _ 56 rfl _ _ rfl rfl _ _ HR.out ?_)
  go_ret
  exact ⟨a', c', rfl, HB.out, HO.out, hsX⟩
theorem l1Ints_any {w : World} {v : Value} {zs : List Int} (h : Ints w v zs) (hn : zs.length ≤ 1048576) :
    Calls Try.prog 57 #[v] w fun e w' => ∃ a c, e = .returned (.slice a zs.length c) ∧ Below w.heap.size w w' ∧ IntsO w' (.slice a zs.length c) zs (fresh w w') :=
  (l1Ints_more h hn).mono fun _ _ ⟨a, c, h1, h2, h3, _⟩ => ⟨a, c, h1, h2, h3⟩
end Go.Proofs.Ytpmndmkmfcoieaa

namespace Go.Proofs.Ytpmndmkmfcoieaa
open Go.RowKit
set_option maxRecDepth 100000

/-- A row of n elements that the call owns; element i is told by C i (u i), where u i is a list of its own in block k i. -/
structure LRow (C : Nat → Value → List Value) (w : World) (base lo : Nat) (e : TypeId) (size : Nat) (v : Value) (n : Nat) (f : Nat → List Int) (k : Nat → Nat) (u : Nat → Value) : Prop where
  own : w.ownsRow base e size v n ((List.range n).flatMap fun i => C i (u i))
  lo : ∀ i, i < n → lo ≤ k i ∧ k i < w.heap.size
  ne : ∀ i, i < n → v.ownBlock ≠ some (k i)
  inj : ∀ i j, i < n → j < n → i ≠ j → k i ≠ k j
  sh : ∀ i, i < n → ∃ a c, u i = .slice a (f i).length c
  at' : ∀ i, i < n → IntsO w (u i) (f i) (fun c => c = k i)

theorem LRow.nil {C : Nat → Value → List Value} (w : World) (base lo : Nat) (e : TypeId) (size : Nat) (f : Nat → List Int) : LRow C w base lo e size (.slice none 0 0) 0 f (fun _ => 0) (fun _ => .slice none 0 0) :=
  ⟨World.ownsRow_nil _ _ _ _, fun i hi => by omega, fun i hi => by omega, fun i j hi => by omega, fun i hi => by omega, fun i hi => by omega⟩
theorem LRow.keep {C : Nat → Value → List Value} {w w' : World} {base lo : Nat} {e : TypeId} {size : Nat} {v : Value} {n : Nat} {f : Nat → List Int} {k : Nat → Nat} {u : Nat → Value} (h : LRow C w base lo e size v n f k u) (hs : w.heap.size ≤ w'.heap.size)
    (hrow : ∀ g, v.ownBlock = some g → w'.heap[g]? = w.heap[g]?) (hk : ∀ i, i < n → w'.heap[k i]? = w.heap[k i]?) : LRow C w' base lo e size v n f k u := by
  refine ⟨?_, fun i hi => ⟨(h.lo i hi).1, Nat.lt_of_lt_of_le (h.lo i hi).2 hs⟩, h.ne, h.inj, h.sh, fun i hi => (h.at' i hi).keep fun b hb _ => by rw [hb]; exact hk i hi⟩
  obtain ⟨h1, h2⟩ := h.own
  refine ⟨h1, ?_⟩
  rcases h2 with h2 | ⟨g, cap, cur, hv, hg, hh, r⟩
  · exact Or.inl h2
  · exact Or.inr ⟨g, cap, cur, hv, hg, by rw [hrow g (by rw [hv]; rfl)]; exact hh, r⟩
theorem LRow.later {C : Nat → Value → List Value} {w w' : World} {base lo : Nat} {e : TypeId} {size : Nat} {v : Value} {n : Nat} {f : Nat → List Int} {k : Nat → Nat} {u : Nat → Value} (h : LRow C w base lo e size v n f k u) (hb : Below w.heap.size w w') : LRow C w' base lo e size v n f k u :=
  h.keep hb.size (fun g hg => hb.block g (h.own.lt g hg).2) (fun i hi => hb.block _ (h.lo i hi).2)
theorem LRow.store {C : Nat → Value → List Value} {w : World} {base lo : Nat} {e : TypeId} {size : Nat} {v : Value} {n : Nat} {f : Nat → List Int} {k : Nat → Nat} {u : Nat → Value} (h : LRow C w base lo e size v n f k u) {p : Addr} (h1 : p.block < base) (h2 : p.block < lo) (x : Value) : LRow C (w.setCell p x) base lo e size v n f k u :=
  h.keep (by simp [World.setCell]) (fun g hg => Below.heap_setCell _ _ _ _ (by have := (h.own.lt g hg).1; omega)) (fun i hi => Below.heap_setCell _ _ _ _ (by have := (h.lo i hi).1; omega))
theorem LRow.shape {C : Nat → Value → List Value} {w : World} {base lo : Nat} {e : TypeId} {size : Nat} {v : Value} {n : Nat} {f : Nat → List Int} {k : Nat → Nat} {u : Nat → Value} (h : LRow C w base lo e size v n f k u) : ∃ a c, v = .slice a n c := by
  rcases h.own.2 with ⟨rfl, rfl⟩ | ⟨g, c, cur, rfl, _⟩
  · exact ⟨_, _, rfl⟩
  · exact ⟨_, _, rfl⟩

/-- What 'append' of one element comes to. -/
theorem LRow.append {C : Nat → Value → List Value} (w w1 : World) (t ty e : TypeId) (i : TypeInfo) (z : Value) (size bytes : Nat) (ht : Try.prog.underlying t = some (.slice e)) (hi : Try.prog.info? e = some i) (hz : i.zero = some z) (hsize : i.size = size) (hby : i.bytes = bytes) (hzs : z.cells.size = size) (hsz : 0 < size) (hbb : bytes ≤ 1000)
    (base lo n : Nat) (v : Value) (f : Nat → List Int) (k : Nat → Nat) (u : Nat → Value) (h : LRow C w base lo e size v n f k u) (hb : base ≤ w.heap.size) (hn : n ≤ 100000) (hb1 : Below w.heap.size w w1)
    (a : Option Addr) (c : Nat) (hlen : (C n (.slice a (f n).length c)).length = size) (hone : ∀ x ∈ C n (.slice a (f n).length c), x.oneCell' = true) (kb : Nat) (hk1 : lo ≤ kb) (hk2 : kb < w1.heap.size) (hk3 : v.ownBlock ≠ some kb) (hk4 : ∀ i, i < n → k i ≠ kb) (hf : IntsO w1 (.slice a (f n).length c) (f n) (fun x => x = kb)) :
    ∃ g cap X, (Builtin.append_ #[t, t] ty #[v, .slice (some ⟨w1.heap.size, 0, none⟩) 1 1]).run Try.prog (w1.alloc (.cells (C n (.slice a (f n).length c)).toArray e)) = .ok (.slice (some ⟨g, 0, none⟩) (n + 1) cap) X ∧
      (∀ b, b < w1.heap.size → v.ownBlock ≠ some b → X.heap[b]? = w1.heap[b]?) ∧ Below base w X ∧ w1.heap.size < X.heap.size ∧
      LRow C X base lo e size (.slice (some ⟨g, 0, none⟩) (n + 1) cap) (n + 1) f (fun j => if j = n then kb else k j) (fun j => if j = n then .slice a (f n).length c else u j) := by
  have hsz1 := hb1.size
  have hbW : Below w.heap.size w (w1.alloc (.cells (C n (.slice a (f n).length c)).toArray e)) := hb1.trans ((later1 _ _).mono hb1.size)
  have hW := h.later hbW
  obtain ⟨g, cap, X, hr, ho, hg, hat, hgX⟩ := run_append_lies (P := Try.prog) (w1.alloc (.cells (C n (.slice a (f n).length c)).toArray e)) t ty base e i z size bytes ht hi hz hsize hby hzs hsz v n _ hW.own ⟨w1.heap.size, 0, none⟩ 1 1 (C n (.slice a (f n).length c)) (by rw [hlen, Nat.one_mul])
    (fun j x hx => by
      rw [add_plain', Nat.zero_add, new_cell]
      simpa using hx) hone (by decide) (by unfold maxLen; omega) (by have : (n + 1) * bytes ≤ 100001 * 1000 := Nat.mul_le_mul (by omega) hbb; omega) (by simp; omega) (w1.heap.size + 1) (by simp)
  have hrow : ∀ g, v.ownBlock = some g → g < w.heap.size := fun g hg => (h.own.lt g hg).2
  have hrowb : ∀ g, v.ownBlock = some g → base ≤ g := fun g hg => (h.own.lt g hg).1
  have hXb : ∀ b, b < w1.heap.size → v.ownBlock ≠ some b → X.heap[b]? = w1.heap[b]? := fun b hb' hne => (hg.block b (by simp; omega) (fun e => hne e.symm)).trans ((later1 _ _).block b hb')
  have hne : ∀ b, b < w1.heap.size → v.ownBlock ≠ some b → g ≠ b := by
    intro b hb' hb2 e
    subst e
    rcases hat with h | h
    · exact hb2 h
    · omega
  have old : ∀ b, b < w.heap.size → v.ownBlock ≠ some b → X.heap[b]? = w.heap[b]? := fun b hb' hne => (hXb b (by omega) hne).trans (hb1.block b hb')
  have hXs : w1.heap.size < X.heap.size := by have := hg.size; simp at this; omega
  refine ⟨g, cap, X, hr, hXb, (hbW.mono hb).trans (below_grown hg (by simp; omega) (fun g hg' => hrowb g hg')), hXs, ⟨?_, fun j hj => ?_, fun j hj => ?_, fun j j' hj hj' e => ?_, fun j hj => ?_, fun j hj => ?_⟩⟩
  · rw [List.range_succ, List.flatMap_append]
    have e1 : (List.range n).flatMap (fun i => C i (if i = n then .slice a (f n).length c else u i)) = (List.range n).flatMap (fun i => C i (u i)) := by
      have e0 : (List.range n).map (fun i => C i (if i = n then .slice a (f n).length c else u i)) = (List.range n).map (fun i => C i (u i)) := List.map_congr_left fun i hi => by rw [if_neg (by have := List.mem_range.1 hi; omega)]
      rw [List.flatMap_def, List.flatMap_def, e0]
    have e2 : [n].flatMap (fun i => C i (if i = n then .slice a (f n).length c else u i)) = C n (.slice a (f n).length c) := by simp only [List.flatMap_cons, List.flatMap_nil, List.append_nil, if_true]
    rw [e1, e2]
    exact ho
  · by_cases e : j = n
    · subst e; simp; omega
    · have := h.lo j (by omega); simp [e]; omega
  · by_cases e : j = n
    · subst e
      simp only [if_true]
      exact fun e => hne kb hk2 hk3 (by simpa [Value.ownBlock] using e)
    · have hj' : j < n := by omega
      have hl := h.lo j hj'
      simp only [e, if_false]
      exact fun e => hne (k j) (by omega) (h.ne j hj') (by simpa [Value.ownBlock] using e)
  · by_cases e1 : j = n
    · by_cases e2 : j' = n
      · omega
      · simp [e1, e2]; exact fun e => hk4 j' (by omega) e.symm
    · by_cases e2 : j' = n
      · simp [e1, e2]; exact hk4 j (by omega)
      · simp [e1, e2]; exact h.inj j j' (by omega) (by omega) e
  · by_cases e : j = n
    · subst e; exact ⟨a, c, by simp⟩
    · simp only [e, if_false]; exact h.sh j (by omega)
  · by_cases e : j = n
    · subst e
      simp only [if_true]
      exact hf.keep fun b hb' hlt' => by rw [hb']; exact hXb kb hk2 hk3
    · have hj' : j < n := by omega
      simp only [e, if_false]
      exact (h.at' j hj').keep fun b hb' hlt' => by rw [hb']; exact old _ (h.lo j hj').2 (h.ne j hj')

/-- The one block of a list that is fresh. -/
theorem IntsO.one {w w1 : World} {v : Value} {zs : List Int} (h : IntsO w1 v zs (fresh w w1)) (hlt : w.heap.size < w1.heap.size) : ∃ kb, w.heap.size ≤ kb ∧ kb < w1.heap.size ∧ IntsO w1 v zs (fun c => c = kb) := by
  rcases h with h | ⟨b, cap, hF, r⟩
  · exact ⟨w.heap.size, Nat.le_refl _, hlt, Or.inl h⟩
  · exact ⟨b, hF.1, hF.2, Or.inr ⟨b, cap, rfl, r⟩⟩

/-- A row of lists. -/
def C1 : Nat → Value → List Value := fun _ v => [v]
/-- A row of puts. -/
def C2 (f : Nat → Int) : Nat → Value → List Value := fun i v => [.int .i64 (f i), v]

theorem flat_len {C : Nat → Value → List Value} {size : Nat} (u : Nat → Value) (hC : ∀ i, (C i (u i)).length = size) (n : Nat) : ((List.range n).flatMap fun i => C i (u i)).length = n * size := by
  induction n with
  | zero => simp
  | succ n ih => rw [List.range_succ, List.flatMap_append, List.length_append, ih]; simp [hC, Nat.add_mul]
theorem flat_get {C : Nat → Value → List Value} {size : Nat} (_hsz : 0 < size) (u : Nat → Value) (hC : ∀ i, (C i (u i)).length = size) (n : Nat) : ∀ i j, i < n → j < size → ((List.range n).flatMap fun i => C i (u i))[i * size + j]? = (C i (u i))[j]? := by
  induction n with
  | zero => intro i j hi; omega
  | succ n ih =>
    intro i j hi hj
    have hl := flat_len u hC n
    rw [List.range_succ, List.flatMap_append]
    by_cases e : i = n
    · subst e
      rw [List.getElem?_append_right (by rw [hl]; omega), hl]
      simp
    · rw [List.getElem?_append_left (by rw [hl]; have : (i + 1) * size ≤ n * size := Nat.mul_le_mul_right _ (by omega); rw [Nat.add_mul] at this; omega)]
      exact ih i j (by omega) hj

/-- The cells of such a row. -/
theorem LRow.cells {C : Nat → Value → List Value} {w : World} {base lo : Nat} {e : TypeId} {size : Nat} {v : Value} {n : Nat} {f : Nat → List Int} {k : Nat → Nat} {u : Nat → Value} (h : LRow C w base lo e size v n f k u) (hsz : 0 < size) (hC : ∀ i, (C i (u i)).length = size) (hn : 0 < n) :
    ∃ g cap, v = .slice (some ⟨g, 0, none⟩) n cap ∧ base ≤ g ∧ g < w.heap.size ∧ n ≤ maxLen ∧ OwnRow w g (n * size) (fun c => (C (c / size) (u (c / size)))[c % size]?.getD undef) := by
  obtain ⟨hl, h2 | ⟨g, cap, cur, rfl, hb, hh, hnc, hcm, hcs, htake⟩⟩ := h.own
  · omega
  · have hle : n * size ≤ cap * size := Nat.mul_le_mul_right _ hnc
    refine ⟨g, cap, rfl, hb, (Array.getElem?_eq_some_iff.1 hh).1, by omega, cur, e, hh, by omega, fun c hc => ?_⟩
    have hd : c / size < n := by rw [Nat.div_lt_iff_lt_mul hsz]; exact hc
    have hm : c % size < size := Nat.mod_lt _ hsz
    have hg := flat_get hsz u hC n (c / size) (c % size) hd hm
    rw [Nat.div_add_mod'] at hg
    have h1 : ((List.range n).flatMap fun i => C i (u i))[c]? = cur[c]? := by rw [← htake, List.getElem?_take, if_pos hc, Array.getElem?_toList]
    rw [h1] at hg
    have hlt : c < cur.size := by omega
    show cur[c]? = some ((C (c / size) (u (c / size)))[c % size]?.getD undef)
    rw [← hg, Array.getElem?_eq_getElem hlt]; rfl

theorem LRow.intsS {w : World} {base lo : Nat} {e : TypeId} {v : Value} {n : Nat} {k : Nat → Nat} {u : Nat → Value} {zss : List (List Int)} (h : LRow C1 w base lo e 1 v n (fun i => zss[i]?.getD []) k u) (hn : zss.length = n) (F : Nat → Prop) (hF : ∀ c, base ≤ c → c < w.heap.size → F c) (hF' : ∀ c, lo ≤ c → c < w.heap.size → F c) : IntsSO w v zss F := by
  subst hn
  by_cases h0 : zss.length = 0
  · obtain ⟨a, c, rfl⟩ := h.shape
    exact Or.inl ⟨List.eq_nil_of_length_eq_zero h0, a, c, by rw [h0]⟩
  · obtain ⟨g, cap, rfl, hb, hg, hm, hrow⟩ := h.cells (by decide) (fun _ => rfl) (by omega)
    refine Or.inr ⟨g, cap, u, fun i c => i < zss.length ∧ c = k i, hF g hb hg, fun i c hc => ?_, fun i j c e h1 h2 => h.inj i j h1.1 h2.1 e (h1.2.symm.trans h2.2), rfl, hm, ?_, fun i hi => (h.at' i hi).mono fun c hc => ⟨hi, hc⟩⟩
    · have hl := h.lo i hc.1
      have hne := h.ne i hc.1
      rw [hc.2]
      exact ⟨hF' _ hl.1 hl.2, fun e => hne (by simp [Value.ownBlock, e])⟩
    · rw [Nat.mul_one] at hrow
      exact hrow.congr fun i hi => by simp [C1, Nat.mod_one]
theorem LRow.puts {w : World} {base lo : Nat} {e : TypeId} {v : Value} {n : Nat} {k : Nat → Nat} {u : Nat → Value} {ps : List (Int × List Int)} (h : LRow (C2 fun i => (ps[i]?.getD (0, [])).1) w base lo e 2 v n (fun i => (ps[i]?.getD (0, [])).2) k u) (hn : ps.length = n) (F : Nat → Prop) (hF : ∀ c, base ≤ c → c < w.heap.size → F c) (hF' : ∀ i, i < n → F (k i)) : PutsO w v ps F := by
  subst hn
  by_cases h0 : ps.length = 0
  · obtain ⟨a, c, rfl⟩ := h.shape
    exact Or.inl ⟨List.eq_nil_of_length_eq_zero h0, a, c, by rw [h0]⟩
  · obtain ⟨g, cap, rfl, hb, hg, hm, hrow⟩ := h.cells (by decide) (fun _ => rfl) (by omega)
    refine Or.inr ⟨g, cap, u, fun i c => i < ps.length ∧ c = k i, hF g hb hg, fun i c hc => ?_, fun i j c e h1 h2 => h.inj i j h1.1 h2.1 e (h1.2.symm.trans h2.2), rfl, hm, ?_, fun i hi => (h.at' i hi).mono fun c hc => ⟨hi, hc⟩⟩
    · have hne := h.ne i hc.1
      rw [hc.2]
      exact ⟨hF' i hc.1, fun e => hne (by simp [Value.ownBlock, e])⟩
    · refine hrow.congr fun c hc => ?_
      unfold putCell C2
      rcases Nat.mod_two_eq_zero_or_one c with h | h <;> simp [h]
end Go.Proofs.Ytpmndmkmfcoieaa

namespace Go.Proofs.Ytpmndmkmfcoieaa
open Go.RowKit
set_option maxRecDepth 100000

theorem Try.sizeInt : (Try.prog.info? 2).map (·.size) = some 1 := by kernel_rfl

/-- What 'copy' into a list that was just made comes to. -/
theorem copy_made (w : World) (a : Option Addr) (n cap : Nat) (zs : List Int) (hz : zs.length = n) (hc : At1 w a n (fun k => .int .i64 (zs[k]?.getD 0))) :
    ∃ X, (Builtin.copy_ #[56, 56] 3 #[.slice (some ⟨w.heap.size, 0, none⟩) n n, .slice a n cap]).run Try.prog (w.alloc (.cells (madeCells #[.int .i64 0] n) 2)) = .ok (goInt n) X ∧
      Below w.heap.size w X ∧ OwnRow X w.heap.size n (fun i => .int .i64 (zs[i]?.getD 0)) := by
  by_cases h0 : n = 0
  · subst h0
    have hr := run_copy_none (P := Try.prog) (w.alloc (.cells (madeCells #[.int .i64 0] 0) 2)) 56 56 3 2 (some ⟨w.heap.size, 0, none⟩) a 0 0 0 cap Try.underlying56 Try.sizeInt (by simp)
    exact ⟨_, hr, later1 _ _, (OwnRow.made w (.int .i64 0) 0 2).congr fun i hi => by omega⟩
  · obtain ⟨b, off, rfl, _⟩ := hc 0 (by omega)
    have hc' : ∀ k, k < n → w.cell? ⟨b, off + k, none⟩ = some (.int .i64 (zs[k]?.getD 0)) := by
      intro k hk
      obtain ⟨b', off', e, h⟩ := hc k hk
      simp only [Option.some.injEq, Addr.mk.injEq, and_true] at e
      rw [e.1, e.2]; exact h
    have hcp := run_copy_row (P := Try.prog) (w.alloc (.cells (madeCells #[.int .i64 0] n) 2)) 56 56 3 2 w.heap.size 0 n n ⟨b, off, none⟩ n cap (madeCells #[.int .i64 0] n) 2 (zs.map fun z => Value.int .i64 z) Try.underlying56 Try.sizeInt
      (Go.Deep.blk_alloc_new _ _) (by simp [hz]) (fun j v hv => by
        rw [List.getElem?_map, Option.map_eq_some_iff] at hv
        obtain ⟨z, hz1, rfl⟩ := hv
        have hj : j < n := by rw [← hz]; exact (List.getElem?_eq_some_iff.1 hz1).1
        have h2 := hc' j hj
        rw [hz1, Option.getD_some] at h2
        have ha : (⟨b, off, none⟩ : Addr).add j = ⟨b, off + j, none⟩ := by
          by_cases hj0 : j = 0
          · subst hj0; simp [Addr.add]
          · simp [Addr.add, hj0]
        rw [ha]
        exact cell_later (later1 _ _) h2) (by simp [size_madeCells, hz]) (fun v hv => by
        obtain ⟨z, _, rfl⟩ := List.mem_map.1 hv
        rfl)
    refine ⟨_, by rw [hcp, List.length_map, hz], below_setRow (later1 _ _) (Nat.le_refl _) _, ?_⟩
    refine ⟨_, 2, setRow_heap _ _ _ _ _ _ (Go.Deep.blk_alloc_new _ _), ?_, fun i hi => ?_⟩
    · simp [hz]
    · have hlen : i < zs.length := by omega
      simp [List.getElem?_append_left, hlen]
set_option maxHeartbeats 400000 in
theorem copyOf_more {w : World} {v : Value} {zs : List Int} (h : Ints w v zs) (hn : zs.length ≤ 1048576) :
    Calls Try.prog 91 #[v] w fun e w' => e = .returned (.slice (some ⟨w.heap.size, 0, none⟩) zs.length zs.length) ∧ Below w.heap.size w w' ∧ IntsO w' (.slice (some ⟨w.heap.size, 0, none⟩) zs.length zs.length) zs (fresh w w') ∧ w.heap.size < w'.heap.size := by
  obtain ⟨a, cap, rfl, hm, hc⟩ := h.open'
  clear h
  obtain ⟨X, hcp, hbX, hrX⟩ := copy_made w a zs.length cap zs rfl hc
  have hmk := fun w => run_make_row' (P := Try.prog) 56 2 (.int .i64 0) 8 Try.underlying56 Try.infoInt rfl .i64 .i64 zs.length (by omega) (by omega) w
  have HB : Hid (Below w.heap.size w X) := hbX
  have HR : Hid (OwnRow X w.heap.size zs.length (fun i => .int .i64 (zs[i]?.getD 0))) := hrX
  clear hbX hrX hc
  go_enter Try.func91, Try.ntmps91
  go_wp2
  go_ret
  exact ⟨rfl, HB.out, Or.inr ⟨w.heap.size, _, ⟨Nat.le_refl _, HR.out.lt⟩, rfl, hm, HR.out⟩, HR.out.lt⟩
theorem copyOf_any {w : World} {v : Value} {zs : List Int} (h : Ints w v zs) (hn : zs.length ≤ 1048576) :
    Calls Try.prog 91 #[v] w fun e w' => e = .returned (.slice (some ⟨w.heap.size, 0, none⟩) zs.length zs.length) ∧ Below w.heap.size w w' ∧ IntsO w' (.slice (some ⟨w.heap.size, 0, none⟩) zs.length zs.length) zs (fresh w w') :=
  (copyOf_more h hn).mono fun _ _ ⟨h1, h2, h3, _⟩ => ⟨h1, h2, h3⟩
end Go.Proofs.Ytpmndmkmfcoieaa
