
/- The library's iterator over a list of texts. -/
import Derived.Test.YtcmkfapgpolglaaItC
import Derived.Test.YtcmkfapgpolglaaCutB
namespace Go.Proofs.Ytcmkfapgpolglaa
open Go.RowKit Go.Shelf
set_option maxRecDepth 100000
attribute [local go_sem] Oper.semAt_some

set_option maxRecDepth 100000 in
set_option maxHeartbeats 1600000 in
theorem vals1_in (n : Nat) (hn : 2 ≤ n) (l Bn n₀ : Nat) (a : Option Addr) (m c : Nat) (xs : List (List UInt8)) (hm : xs.length = m) (hml : m ≤ 1048577) (hx : ∀ k : Nat, (xs[k]?.getD []).length ≤ 1048576) (J Jx : List BL → World → Prop)
    (hY : ∀ pre x W, J pre W → pre.length < m → YieldAt Fence.wide (n - 1) Try.prog l (encB x) W fun e W' =>
      (e = .returned (.bool true) ∧ J (pre ++ [x]) W' ∧ Below n₀ W W') ∨ (e = .returned (.bool false) ∧ Jx (pre ++ [x]) W'))
    (W : World) (hB : W.cell? ⟨Bn, 0, none⟩ = some (.slice a m c)) (hat : ∀ W', Below n₀ W W' → AtT W' a m xs) (h0 : J [] W) :
    CallsIn Fence.wide n Try.prog 116 #[.func (.yield l) #[] #[], .pointer (some ⟨Bn, 0, none⟩)] W fun e W' => (∃ v, e = .returned v) ∧
      ((∃ ys, txt ys = xs ∧ J ys W') ∨ (∃ pre, txt pre <+: xs ∧ Jx pre W')) := by
  refine callsIn_of_wp Try.func116 rfl trivial ?_ rfl
  simp only [Try.ntmps116, List.size_toArray, List.length_cons, List.length_nil, Nat.reduceAdd, Nat.reduceSub, Array.replicate_succ, Array.replicate_zero, List.push_toArray, List.append_toArray, List.nil_append, List.cons_append]
  have HAT : Hid (∀ W', Below n₀ W W' → AtT W' a m xs) := hat
  have HM : Hid (xs.length = m) := hm
  have HX : Hid (∀ k : Nat, (xs[k]?.getD []).length ≤ 1048576) := hx
  clear hat hm hx
  gi_wp2
  gi_loopw [7] (fun v wr => ∃ pre : List BL, v = .int .i64 (pre.length : Int) ∧ pre.length ≤ m ∧ txt pre = xs.take pre.length ∧ Below n₀ W wr ∧ J pre wr) (fun v _ => m - (intOf v).toNat)
  case atStart => exact ⟨[], rfl, Nat.zero_le _, rfl, Below.refl _ _, h0⟩
  case round =>
    obtain ⟨pre, rfl, hle, htx, hbl, hJs⟩ := hrel
    have HT : Hid (txt pre = xs.take pre.length) := htx
    have HB : Hid (Below n₀ W wr) := hbl
    generalize hj : pre.length = j at *
    have HJ : Hid (pre.length = j) := hj
    clear htx hbl hj
    by_cases hlt : j < m
    · obtain ⟨b, off, rfl, c0⟩ := HAT.out wr HB.out j hlt
      have hyl := HX.out j
      have HTS : Hid (∀ y, xs[j]?.getD [] = y → txt pre ++ [y] = xs.take (j + 1)) := fun y hy => by
        rw [HT.out, List.take_add_one, ← hy, List.getElem?_eq_getElem (by rw [HM.out]; exact hlt)]; rfl
      generalize hy0 : xs[j]?.getD [] = y at *
      have HTZ := HTS.out y rfl
      obtain ⟨fn, tmps, assign, body, hy, hR⟩ := hY pre ⟨y, hyl⟩ wr hJs (by rw [HJ.out]; exact hlt)
      dsimp only [encB] at hy
      have HTQ : Hid (txt (pre ++ [⟨y, hyl⟩]) = xs.take (j + 1)) := by unfold Hid; rw [← HTZ]; simp [txt]
      clear HTS HTZ hy0
      gi_wp2
      refine ⟨fun _ => by omega, hR.mono ?_⟩
      rintro e W3 (⟨rfl, hJ3, hk3⟩ | ⟨rfl, hJx3⟩)
      · gi_wp2
        go_roundw
        case rel => exact ⟨pre ++ [⟨y, hyl⟩], by rw [List.length_append, HJ.out]; go_num, by rw [List.length_append, HJ.out]; simp; omega, by rw [HTQ.out, List.length_append, HJ.out]; rfl, HB.out.trans hk3, hJ3⟩
        case measure => simp [intOf]; omega
      · gi_wp2
        refine bodyPost_ret (results_none rfl _ _ _) rfl ?_
        exact ⟨⟨_, rfl⟩, .inr ⟨pre ++ [⟨y, hyl⟩], by rw [HTQ.out]; exact List.take_prefix _ _, hJx3⟩⟩
    · have hx1 : decide ((j : Int) < (m : Int)) = false := by simp; omega
      have hx2 : decide (j < m) = false := by simp; omega
      gi_wp2
      go_end0
      exact ⟨⟨_, rfl⟩, .inl ⟨pre, by rw [HT.out]; exact List.take_of_length_le (by rw [HM.out]; omega), hJs⟩⟩
theorem vals_stops (n : Nat) (hn : 2 ≤ n) (Bn : Nat) (a : Option Addr) (m c : Nat) (xs : List (List UInt8)) (hm : xs.length = m) (hml : m ≤ 1048577) (hx : ∀ k : Nat, (xs[k]?.getD []).length ≤ 1048576) (w0 w : World) (hw : Below w0.heap.size w0 w) (hBn : Bn < w.heap.size) (hc : w.cell? ⟨Bn, 0, none⟩ = some (.slice a m c)) (hat : AtT w0 a m xs) :
    SeqStopsK Fence.wide n Try.prog 116 #[.pointer (some ⟨Bn, 0, none⟩)] encB (Below w0.heap.size) (fun ys => txt ys = xs) (fun pre => txt pre <+: xs) m w := fun l J Jx W hW _ _ hY h0 =>
  vals1_in n hn l Bn w0.heap.size a m c xs hm hml hx J Jx hY W ((hW.cell (p := ⟨Bn, 0, none⟩) hBn).trans hc) (fun _ hb => hat.later ((hw.trans (hW.mono hw.size)).trans hb)) h0

set_option maxRecDepth 100000 in
set_option maxHeartbeats 2000000 in
theorem valsFault_any (w : World) (Bn : Nat) (a : Option Addr) (m c : Nat) (xs : List (List UInt8)) (hm : xs.length = m) (hml : m ≤ 1048577) (hx : ∀ k : Nat, (xs[k]?.getD []).length ≤ 1048576) (hat : AtT w a m xs) (hBn : Bn < w.heap.size) (hc : w.cell? ⟨Bn, 0, none⟩ = some (.slice a m c)) :
    Calls Try.prog 88 #[.func (.func 116) #[] #[.pointer (some ⟨Bn, 0, none⟩)]] w fun e w' => e = .returned (.int .i64 (namesF xs)) ∧ Below w.heap.size w w' := by
  refine (callsIn_wide (n := 5)).1 ?_
  refine callsIn_of_wp_marks Try.func88 rfl trivial ?_ rfl
  simp only [Try.ntmps88, List.size_toArray, List.length_cons, List.length_nil, Nat.reduceAdd, Nat.reduceSub, Array.replicate_succ, Array.replicate_zero, List.push_toArray, List.append_toArray, List.nil_append, List.cons_append]
  gi_wp2
  refine wpIn_wide.2 (wp_scope_straight ((wpIn_wide (n := 5)).1 ?_))
  gi_wp2
  refine wpIn_label ?_
  gi_wp2
  have hs := cell_new_l w (.int .i64 0) 2
  have hB0 : Below w.heap.size w (w.alloc (.cells #[.int .i64 0] 2)) := (Below.refl _ w).alloc (Nat.le_refl _) _
  refine wpIn_rangeFunc_ownF rfl (by omega) (gf := 116) (lb := #[.pointer (some ⟨Bn, 0, none⟩)]) rfl trivial (enters_of Try.func116 (by kernel_rfl) rfl)
    (vals_stops 4 (by omega) Bn a m c xs hm hml hx w (w.alloc (.cells #[.int .i64 0] 2)) (later1 _ _) (by simp; omega) (cell_later (later1 _ _) hc) hat) belowK_t (belowK_b (by simp)) (Below.refl _ _) (fun _ => rfl)
    (fun pre W => (namesF (txt pre) = 0 ∧ W.cell? ⟨w.heap.size, 0, none⟩ = some (.int .i64 0) ∧ W.frozen? ⟨w.heap.size, 0, none⟩ = false) ∧ Below w.heap.size w W)
    (fun c pre W => (c = .exit 0 ∧ ¬ namesF (txt pre) = 0 ∧ W.cell? ⟨w.heap.size, 0, none⟩ = some (.int .i64 (namesF (txt pre))) ∧ W.frozen? ⟨w.heap.size, 0, none⟩ = false) ∧ Below w.heap.size w W)
    (OwnFrom.and (Own.from (fun s A B row hs hg hr => ⟨hs.1, cell_kept hs.2.1 hg hr, (frozen_kept hs.2.1 hg hr).trans hs.2.2⟩) _) (ownFrom_below (Nat.le_refl _) (by simp)))
    (fun c => OwnFrom.and (Own.from (fun s A B row hs hg hr => ⟨hs.1, hs.2.1, cell_kept hs.2.2.1 hg hr, (frozen_kept hs.2.2.1 hg hr).trans hs.2.2.2⟩) _) (ownFrom_below (Nat.le_refl _) (by simp)))
    ⟨⟨rfl, hs⟩, hB0⟩
    (fun x => { tmps := #[.func (.func 116) #[] #[.pointer (some ⟨Bn, 0, none⟩)], undef, .int .i64 0, .pointer (some ⟨w.heap.size, 0, none⟩), .string (mkB x.1), .func (.func 116) #[] #[.pointer (some ⟨Bn, 0, none⟩)], .string (mkB x.1), undef, undef, undef, undef, undef, undef, undef], defers := [] }) ?assign ?body ?done ?stop
  case assign =>
    intro l x W K hK
    gi_wp2
    exact hK
  case body =>
    rintro l pre x W ⟨⟨hz, hcc, hf⟩, hB⟩ hlt
    have hxs : (mkB x.1).size ≤ maxLen := by rw [mkB_size]; have := x.2; unfold maxLen; omega
    have HS : Hid (namesF (txt (pre ++ [x])) = nameF (mkB x.1)) := by
      unfold Hid
      have : txt (pre ++ [x]) = txt pre ++ [x.1] := by simp [txt]
      rw [this, namesF_snoc x.1 hz]
    gi_wp2
    refine ⟨trivial, (CallsIn.inRound l (callsIn_wide.2 (implName_any _ _ hxs))).mono ?_⟩
    rcases nameF_cases (mkB x.1) with hv | hv | hv
    · rw [hv]
      rintro e w' ⟨rfl, rfl⟩
      gi_wp2
      exact ⟨KeepsOthers.setCell _ _ _, (Below.refl w.heap.size _).setCell (p := ⟨w.heap.size, 0, none⟩) (Nat.le_refl _) _, ⟨by rw [HS.out, hv], by rw [World.cell?_setCell_same' _ _ _ (by rw [hcc]; rfl)], by rw [World.frozen?_setCell]; exact hf⟩, hB.setCell (p := ⟨w.heap.size, 0, none⟩) (Nat.le_refl _) _⟩
    · rw [hv]
      rintro e w' ⟨rfl, rfl⟩
      gi_wp2
      exact ⟨KeepsOthers.setCell _ _ _, ⟨rfl, by rw [HS.out, hv]; decide, by rw [World.cell?_setCell_same' _ _ _ (by rw [hcc]; rfl), HS.out, hv], by rw [World.frozen?_setCell]; exact hf⟩, hB.setCell (p := ⟨w.heap.size, 0, none⟩) (Nat.le_refl _) _⟩
    · rw [hv]
      rintro e w' ⟨rfl, rfl⟩
      gi_wp2
      exact ⟨KeepsOthers.setCell _ _ _, ⟨rfl, by rw [HS.out, hv]; decide, by rw [World.cell?_setCell_same' _ _ _ (by rw [hcc]; rfl), HS.out, hv], by rw [World.frozen?_setCell]; exact hf⟩, hB.setCell (p := ⟨w.heap.size, 0, none⟩) (Nat.le_refl _) _⟩
  case done =>
    rintro D ys W hD hys ⟨⟨hz, hcc, _⟩, hB⟩ hK
    have HYL : Hid ((0 : Int) = namesF xs) := by unfold Hid; rw [← hys]; exact hz.symm
    clear hys
    gi_wp2
    refine ⟨by simp, .inl ⟨_, _, rfl, run_takeDeferred hK, ?_⟩⟩
    exact ⟨.int .i64 0, by simp [results, Try.results88, go_sem], ret_int HYL.out, hB.trans (belowK_b (w := w) (Nat.le_refl _) W D _ _ (by simp at hD; omega) hK rfl rfl)⟩
  case stop =>
    rintro D c pre W hD hpre ⟨⟨rfl, hnz, hcc, _⟩, hB⟩ hK
    have HYL : Hid (namesF (txt pre) = namesF xs) := (namesF_prefix hpre hnz).symm
    generalize namesF (txt pre) = f at *
    clear hpre
    gi_wp2
    refine ⟨by simp, .inl ⟨_, _, rfl, run_takeDeferred hK, ?_⟩⟩
    exact ⟨.int .i64 f, by simp [results, Try.results88, go_sem], ret_int HYL.out, hB.trans (belowK_b (w := w) (Nat.le_refl _) W D _ _ (by simp at hD; omega) hK rfl rfl)⟩
end Go.Proofs.Ytcmkfapgpolglaa
