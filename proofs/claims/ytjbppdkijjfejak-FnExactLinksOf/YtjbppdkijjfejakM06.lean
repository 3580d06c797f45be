/- The specification's PickBlocks. The program's UsedBlocks, FreeBlocks and PickBlocks. The program's PickBlocks and FreeInode. The walks of the laws' functions over lists of inodes: how great they are, copied, held against each other. -/
import Derived.Test.YtjbppdkijjfejakM05
import Derived.Test.YtjbppdkijjfejakM04
import Derived.Test.YtjbppdkijjfejakM02
namespace Go.Proofs.Ytjbppdkijjfejak
open Go.RowKit
set_option maxRecDepth 100000

theorem slice_takeI (a : Option Addr) (n c j : Nat) (hj : j ≤ c) :
    ∃ A C, (∀ W : World, (Instr.slice 22 (.slice a n c) none (some (.int .i64 (j : Int))) none).run Try.prog W = .ok (.slice A j C) W) ∧ ∀ (W : World) (zs : List Int) (F : Nat → Prop), j ≤ zs.length → IntsO W (.slice a n c) zs F → IntsO W (.slice A j C) (zs.take j) F := by
  obtain ⟨i, hi, _⟩ := Try.infoInt'
  refine ⟨if c = 0 then a else a.map (·.add (0 * 1)), c - 0, fun W => ?_, fun W zs F hjn h => ?_⟩
  · simp [Instr.slice, Instr.sliceBounds, Instr.sliceBound, asIntOf, run_underlying Try.underlying22, sizeOf, typeInfo, hi, hj]
  · by_cases hj0 : j = 0
    · subst hj0
      exact Or.inl ⟨by simp, _, _, rfl⟩
    · rw [if_neg (by omega)]
      rcases h with ⟨h, _⟩ | ⟨b, cap, hF, h1, h2, h3⟩
      · subst h; simp at hjn; omega
      · simp only [Value.slice.injEq] at h1
        obtain ⟨rfl, rfl, rfl⟩ := h1
        have hl : (zs.take j).length = j := by rw [List.length_take]; omega
        refine Or.inr ⟨b, c - 0, hF, by rw [hl]; simp [Addr.add], by rw [hl]; omega, ?_⟩
        obtain ⟨cs, t, hb, hn, hc⟩ := h3
        refine ⟨cs, t, hb, by rw [hl]; omega, fun k hk => ?_⟩
        rw [hl] at hk
        rw [hc k (by omega)]
        dsimp only
        rw [List.getElem?_take, if_pos hk]
theorem Wds.cap {w : World} {n₀ : Nat} {a : Option Addr} {n c : Nat} {zs : List Int} (h : Wds w n₀ (.slice a n c) zs) : n ≤ c := by
  rcases h.2 with ⟨e, h0⟩ | ⟨g, cap, cur, e, _, _, hnc, _⟩
  · simp only [Value.slice.injEq] at e; omega
  · simp only [Value.slice.injEq] at e; omega

set_option maxHeartbeats 3200000 in
theorem specPickU (w : World) (a : Option Addr) (n c : Nat) (ds : List ID) (a' : Option Addr) (n' c' : Nat) (bs : List Int) (k : Int) (h : Inos w (.slice a n c) ds) (h' : Ints w (.slice a' n' c') bs) (hs : sizeInos ds ≤ 1048576) (_ : bs.length ≤ 1048576) :
    Calls Try.prog 28 #[.slice a n c, .slice a' n' c', .int .i64 k] w (AnsIR w (pickR ds bs k)) := by
  have HF : Hid (∀ W, Below w.heap.size w W → Calls Try.prog 50 #[.slice a n c, .slice a' n' c'] W fun e w' => e = .returned (.int .i64 (askF ds bs)) ∧ ∃ m, w' = W.drewN m) := fun W hW => l5Asked_any (h.later hW) (h'.later hW)
  have HU : Hid (∀ W, Below w.heap.size w W → Calls Try.prog 51 #[.slice a n c, .slice a' n' c'] W fun e w' => ∃ a c, e = .returned (.slice a (selL (freeP ds bs) 20).length c) ∧ Below W.heap.size W w' ∧ Wds w' W.heap.size (.slice a (selL (freeP ds bs) 20).length c) (selL (freeP ds bs) 20)) := fun W hW => l5Free_any (h.later hW) (h'.later hW) hs
  have HR : Hid (pickR ds bs k = if askF ds bs = 0 then (if 0 ≤ k ∧ k ≤ 4 then (if ((selL (freeP ds bs) 20).length : Int) < k then (8, []) else (0, (selL (freeP ds bs) 20).take k.toNat)) else (3, [])) else (askF ds bs, [])) := rfl
  rw [HR.out]
  have hl20 := selL_len (freeP ds bs) 20
  clear HR h hs h'
  generalize askF ds bs = r at *
  generalize selL (freeP ds bs) 20 = zs at *
  have HRB : Hid (OwnRow (w.alloc (.cells #[.int .i64 0, .slice none 0 0] 36)) w.heap.size 2 (fun i => if i = 0 then .int .i64 0 else .slice none 0 0)) := box2 w _
  have HB0 : Hid (Below w.heap.size w (w.alloc (.cells #[.int .i64 0, .slice none 0 0] 36))) := later1 _ _
  have hwz : (w.alloc (.cells #[.int .i64 0, .slice none 0 0] 36)).heap.size = w.heap.size + 1 := by simp
  by_cases hf : r = 0
  · rw [if_pos hf]
    subst hf
    by_cases hk : 0 ≤ k ∧ k ≤ 4
    · rw [if_pos hk]
      have HK : Hid (decide (0 ≤ k ∧ k ≤ 4) = true) := by unfold Hid; simpa using hk
      obtain ⟨j, hj⟩ := Int.eq_ofNat_of_zero_le hk.1
      subst hj
      have hj4 : j ≤ 4 := by omega
      clear hk
      by_cases hlt : ((zs.length : Nat) : Int) < (j : Int)
      · rw [if_pos hlt]
        have hltd : decide (((zs.length : Nat) : Int) < (j : Int)) = true := by simpa using hlt
        have hltd' : decide (zs.length < j) = true := by simpa using hlt
        clear hlt
        go_enter Try.func28, Try.ntmps28
        go_wp2_with fail
        generalize hW : w.alloc (Obj.cells #[.int .i64 0, .slice none 0 0] 36) = W at *
        clear hW
        refine (HF.out _ HB0.out).mono ?_
        rintro e w1 ⟨rfl, m, rfl⟩
        go_wp2_with fail
        refine (l1In_is HK.out).mono ?_
        rintro e w1 ⟨rfl, rfl⟩
        go_wp2_with fail
        refine (HU.out _ (below_drewN HB0.out m)).mono ?_
        rintro e w2 ⟨aV, cV, rfl, hb2, hw2⟩
        have HB2 : Hid (Below w.heap.size w w2) := (below_drewN HB0.out m).trans (hb2.mono (below_drewN HB0.out m).size)
        have hrow : OwnRow w2 w.heap.size 2 (fun i => if i = 0 then .int .i64 0 else .slice none 0 0) := OwnRow.later (w := W.drewN m) HRB.out hb2
        have t0 := hrow.cell (i := 0) (by omega)
        have t1 := hrow.cell (i := 1) (by omega)
        have s0 := hrow.frozen 0
        have s1 := hrow.frozen 1
        simp at t0 t1
        have hz2 := hrow.lt
        clear hb2 hw2 hrow
        go_wp2
        exact bodyPost_ret (v := .agg #[.int .i64 8, .slice none 0 0]) (by simp [results, Try.results28, go_sem, t0, t1]) rfl (AnsIR.bad 8 HB2.out _ _)
      · rw [if_neg hlt]
        have hltd : decide (((zs.length : Nat) : Int) < (j : Int)) = false := by simpa using hlt
        have hltd' : decide (zs.length < j) = false := by simpa using hlt
        have hjz : j ≤ zs.length := by omega
        rw [Int.toNat_natCast]
        clear hlt
        go_enter Try.func28, Try.ntmps28
        go_wp2_with fail
        generalize hW : w.alloc (Obj.cells #[.int .i64 0, .slice none 0 0] 36) = W at *
        clear hW
        refine (HF.out _ HB0.out).mono ?_
        rintro e w1 ⟨rfl, m, rfl⟩
        go_wp2_with fail
        refine (l1In_is HK.out).mono ?_
        rintro e w1 ⟨rfl, rfl⟩
        go_wp2_with fail
        refine (HU.out _ (below_drewN HB0.out m)).mono ?_
        rintro e w2 ⟨aV, cV, rfl, hb2, hw2⟩
        have HB2 : Hid (Below w.heap.size w w2) := (below_drewN HB0.out m).trans (hb2.mono (below_drewN HB0.out m).size)
        have hrow : OwnRow w2 w.heap.size 2 (fun i => if i = 0 then .int .i64 0 else .slice none 0 0) := OwnRow.later (w := W.drewN m) HRB.out hb2
        obtain ⟨A, C, hsl, hown⟩ := slice_takeI aV zs.length cV j (by have := hw2.cap; omega)
        have HI : Hid (IntsO w2 (.slice A j C) (zs.take j) (fun b => w.heap.size + 1 ≤ b ∧ b < w2.heap.size)) := hown w2 zs _ hjz (hw2.box (W := W.drewN m) hwz)
        have t0 := hrow.cell (i := 0) (by omega)
        have t1 := hrow.cell (i := 1) (by omega)
        have s0 := hrow.frozen 0
        have s1 := hrow.frozen 1
        simp at t0 t1
        have hz2 := hrow.lt
        clear hb2 hw2 hrow hown
        go_wp2
        exact bodyPost_ret (v := .agg #[.int .i64 0, .slice A j C]) (by simp [results, Try.results28, go_sem, t0, t1]) rfl (AnsIR.box HB2.out HI.out _ _)
    · rw [if_neg hk]
      have HK : Hid (decide (0 ≤ k ∧ k ≤ 4) = false) := by unfold Hid; simpa using hk
      clear hk
      go_enter Try.func28, Try.ntmps28
      go_wp2_with fail
      generalize hW : w.alloc (Obj.cells #[.int .i64 0, .slice none 0 0] 36) = W at *
      clear hW
      refine (HF.out _ HB0.out).mono ?_
      rintro e w1 ⟨rfl, m, rfl⟩
      go_wp2_with fail
      refine (l1In_is HK.out).mono ?_
      rintro e w1 ⟨rfl, rfl⟩
      have t0 := HRB.out.cell (i := 0) (by omega)
      have t1 := HRB.out.cell (i := 1) (by omega)
      have s0 := HRB.out.frozen 0
      have s1 := HRB.out.frozen 1
      simp at t0 t1
      go_wp2
      exact bodyPost_ret (v := .agg #[.int .i64 3, .slice none 0 0]) (by simp [results, Try.results28, go_sem, t0, t1]) rfl (AnsIR.bad 3 (below_drewN HB0.out m) _ _)
  · rw [if_neg hf]
    have hr : (r != 0) = true := by simpa using hf
    go_enter Try.func28, Try.ntmps28
    go_wp2_with fail
    generalize hW : w.alloc (Obj.cells #[.int .i64 0, .slice none 0 0] 36) = W at *
    clear hW
    refine (HF.out _ HB0.out).mono ?_
    rintro e w1 ⟨rfl, m, rfl⟩
    have t0 := HRB.out.cell (i := 0) (by omega)
    have t1 := HRB.out.cell (i := 1) (by omega)
    have s0 := HRB.out.frozen 0
    have s1 := HRB.out.frozen 1
    simp at t0 t1
    go_wp2
    exact bodyPost_ret (v := .agg #[.int .i64 r, .slice none 0 0]) (by simp [results, Try.results28, go_sem, t0, t1]) rfl (AnsIR.bad r (below_drewN HB0.out m) _ _)
end Go.Proofs.Ytjbppdkijjfejak

namespace Go.Proofs.Ytjbppdkijjfejak
open Go.RowKit
set_option maxRecDepth 100000

theorem Arr.putNew (w : World) (g : Nat → Nat) : ∃ X, (Instr.storeAt 69 (.pointer (some ⟨w.heap.size, 0, none⟩)) (.agg (arrC g))).run Try.prog (w.alloc (.cells (arrC fun _ => 0) 69)) = .ok () X ∧ Arr X w.heap.size g ∧ Below w.heap.size w X := by
  obtain ⟨X, h1, h2, h3, h4, h5, h6, h7⟩ := (Arr.new w fun _ => 0).put g
  exact ⟨X, h1, h2, (later1 w (.cells (arrC fun _ => 0) 69)).trans ⟨h5, h6, h7, by omega, fun c hc => h4 c (by omega)⟩⟩

set_option maxHeartbeats 800000 in
theorem busyFault_many (w : World) (a : Option Addr) (n c : Nat) (hn : 20 < n) :
    Calls Try.prog 52 #[.slice a n c] w fun e w' => e = .returned (.int .i64 2) ∧ Below w.heap.size w w' := by
  have h6 : decide ((20 : Int) < (n : Int)) = true := by simp; omega
  go_enter Try.func52, Try.ntmps52
  go_wp2
  go_ret
  exact ⟨rfl, Below.refl _ _⟩
set_option maxHeartbeats 1600000 in
theorem busyFault_walk (w : World) (a : Option Addr) (n c : Nat) (zs : List Int) (hn : n ≤ 20) (hzn : zs.length = n) (hc : At1 w a n (fun k => .int .i64 (zs[k]?.getD 0))) :
    Calls Try.prog 52 #[.slice a n c] w fun e w' => e = .returned (.int .i64 (fstNZ (rngF zs) zs.length)) ∧ Below w.heap.size w w' := by
  have HC : Hid (At1 w a n (fun k => .int .i64 (zs[k]?.getD 0))) := hc
  have HN : Hid (zs.length = n) := hzn
  have h6 : decide ((20 : Int) < (n : Int)) = false := by simp; omega
  clear hc hzn
  go_enter Try.func52, Try.ntmps52
  go_wp2
  go_loopw [10] (fun i wr => ∃ j : Nat, j ≤ n ∧ i = .int .i64 j ∧ Below w.heap.size w wr ∧ ∀ i : Nat, i < j → rngF zs i = 0) (fun i _ => n - (intOf i).toNat)
  case atStart => exact ⟨0, Nat.zero_le _, rfl, Below.refl _ _, fun i hi => by omega⟩
  case round =>
    obtain ⟨j, hj, rfl, hbl, hz⟩ := hrel
    have HZ : Hid (∀ i : Nat, i < j → rngF zs i = 0) := hz
    have HBL : Hid (Below w.heap.size w wr) := hbl
    clear hz hbl
    by_cases hlt : j < n
    · obtain ⟨b, o, rfl, d1⟩ := HC.out j hlt
      replace d1 : w.cell? ⟨b, o + j, none⟩ = some (.int .i64 (zs[j]?.getD 0)) := d1
      replace d1 := cell_later HBL.out d1
      have HT : Hid (¬ rngF zs j = 0 → rngF zs j = fstNZ (rngF zs) zs.length) := fun h => (fstNZ_at (f := rngF zs) HZ.out h (by rw [HN.out]; exact hlt)).symm
      by_cases hxv : 0 ≤ zs[j]?.getD 0 ∧ zs[j]?.getD 0 ≤ 19
      · have HR : Hid (∀ i : Nat, i < j + 1 → rngF zs i = 0) := fun i hi => by
          by_cases e : i = j
          · subst e; unfold rngF; rw [if_pos hxv]
          · exact HZ.out i (by omega)
        have hx0 : decide (zs[j]?.getD 0 < 0) = false := by simp; omega
        have hx1 : decide (20 ≤ zs[j]?.getD 0) = false := by simp; omega
        clear hxv HC HT
        generalize zs[j]?.getD 0 = x at *
        go_wp2
        go_roundw
        case rel => exact ⟨j + 1, by omega, by go_num, HBL.out, HR.out⟩
        case measure => simp [intOf]; omega
      · have HR : Hid (3 = fstNZ (rngF zs) zs.length) := by
          have h3 : rngF zs j = 3 := by unfold rngF; rw [if_neg hxv]
          have := HT.out (by rw [h3]; omega)
          rwa [h3] at this
        have hxx : zs[j]?.getD 0 < 0 ∨ 20 ≤ zs[j]?.getD 0 := by omega
        clear hxv HC HT
        generalize zs[j]?.getD 0 = x at *
        by_cases h0 : x < 0
        · have hx0 : decide (x < 0) = true := by simpa using h0
          clear hxx
          go_wp2
          go_ret
          exact ⟨ret_int HR.out, HBL.out⟩
        · have hx0 : decide (x < 0) = false := by simpa using h0
          have hx1 : decide (20 ≤ x) = true := by simp; omega
          clear hxx
          go_wp2
          go_ret
          exact ⟨ret_int HR.out, HBL.out⟩
    · go_wp2
      go_ret
      exact ⟨ret_int (fstNZ_zero (fun i hi => HZ.out i (by rw [HN.out] at hi; omega))).symm, HBL.out⟩
theorem busyFault_any {w : World} {vv : Value} {zs : List Int} (h : Ints w vv zs) :
    Calls Try.prog 52 #[vv] w fun e w' => e = .returned (.int .i64 (busF zs)) ∧ Below w.heap.size w w' := by
  obtain ⟨a, cap, rfl, hm, hc⟩ := h.open'
  unfold busF
  by_cases h : 20 < zs.length
  · rw [if_pos h]
    exact busyFault_many w _ _ _ h
  · rw [if_neg h]
    exact busyFault_walk w a _ cap zs (by omega) rfl hc
theorem busF_each {zs : List Int} (h : busF zs = 0) (k : Nat) (hk : k < zs.length) : 0 ≤ zs[k]?.getD 0 ∧ zs[k]?.getD 0 < 20 := by
  unfold busF at h
  split at h
  · omega
  · have := fstNZ_inv h k hk
    unfold rngF at this
    split at this <;> omega
theorem busF_len {zs : List Int} (h : busF zs = 0) : zs.length ≤ 20 := by
  unfold busF at h
  split at h <;> omega
theorem cntB_le (ds : List ID) (hs : sizeInos ds ≤ 1048576) (v : Int) : cntB ds v ≤ 1048576 := by
  have h2 := allB_len ds
  have h3 := List.count_le_length (a := v) (l := allB ds)
  unfold sizeInos at hs
  unfold cntB
  omega
theorem manyB_once (ds : List ID) : manyB (fun i => cntB ds (i : Int)) = !onceB ds 20 := by
  unfold manyB onceB
  rw [List.not_all_eq_any_not]
  congr 1
  funext k
  simp only [← decide_not]
  rw [decide_eq_decide]
  omega
theorem freeP_eq (ds : List ID) (bs : List Int) : (fun k : Nat => decide (cntB ds (k : Int) + bs.count (k : Int) = 0)) = freeP ds bs := by
  funext k
  unfold freeP
  cases hb : bs.contains (k : Int) with
  | true =>
    have h1 : (k : Int) ∈ bs := by simpa using hb
    have h2 := List.count_pos_iff.2 h1
    simp; omega
  | false =>
    have h1 : ¬ (k : Int) ∈ bs := by simpa using hb
    have h2 := List.count_eq_zero.2 h1
    rw [h2]; simp

set_option maxHeartbeats 6400000 in
theorem implUsedU (w : World) (a : Option Addr) (n c : Nat) (ds : List ID) (h : Inos w (.slice a n c) ds) (hs : sizeInos ds ≤ 1048576) :
    Calls Try.prog 17 #[.slice a n c] w (AnsIR w (usedR ds)) := by
  have HF : Hid (∀ W, Below w.heap.size w W → Calls Try.prog 44 #[.slice a n c] W fun e w' => e = .returned (.int .i64 (insF ds)) ∧ Below W.heap.size W w') := fun W hW => inodesFault_any (h.later hW) hs
  have HNE : Hid (insF ds = 0 → ∀ W, Below w.heap.size w W → Calls Try.prog 45 #[.slice a n c] W fun e w' => e = .returned (.agg (arrC fun i => cntB ds (i : Int))) ∧ Below W.heap.size W w') := fun hz W hW => needsOf_any (h.later hW) hs hz
  have HM : Hid (∀ W, Calls Try.prog 46 #[.agg (arrC fun i => cntB ds (i : Int))] W fun e w' => e = .returned (.bool (!onceB ds 20)) ∧ Below W.heap.size W w') := fun W => by
    rw [← manyB_once]
    exact anyOfTwo_any W _ (fun i => by have := cntB_le ds hs (i : Int); omega)
  have HU : Hid (∀ W, Calls Try.prog 47 #[.agg (arrC fun i => cntB ds (i : Int))] W fun e w' => ∃ a c, e = .returned (.slice a (selL (usedP ds) 20).length c) ∧ Below W.heap.size W w' ∧ Wds w' W.heap.size (.slice a (selL (usedP ds) 20).length c) (selL (usedP ds) 20)) := fun W => needsUsed_any W _ (fun i => by have := cntB_le ds hs (i : Int); omega)
  have HR : Hid (usedR ds = if insF ds = 0 then (if onceB ds 20 = true then (0, selL (usedP ds) 20) else (7, [])) else (insF ds, [])) := rfl
  rw [HR.out]
  clear HR h hs
  generalize insF ds = r at *
  generalize onceB ds 20 = bo at *
  generalize selL (usedP ds) 20 = zs at *
  generalize (fun i : Nat => cntB ds (i : Int)) = g at *
  have HRB : Hid (OwnRow (w.alloc (.cells #[.int .i64 0, .slice none 0 0] 36)) w.heap.size 2 (fun i => if i = 0 then .int .i64 0 else .slice none 0 0)) := box2 w _
  have HB0 : Hid (Below w.heap.size w (w.alloc (.cells #[.int .i64 0, .slice none 0 0] 36))) := later1 _ _
  have hwz : (w.alloc (.cells #[.int .i64 0, .slice none 0 0] 36)).heap.size = w.heap.size + 1 := by simp
  by_cases hf : r = 0
  · rw [if_pos hf]
    have HNE' : Hid (∀ W, Below w.heap.size w W → Calls Try.prog 45 #[.slice a n c] W fun e w' => e = .returned (.agg (arrC g)) ∧ Below W.heap.size W w') := HNE.out hf
    subst hf
    clear HNE
    cases bo
    all_goals
      go_enter Try.func17, Try.ntmps17
      go_wp2_with fail
      generalize hW : w.alloc (Obj.cells #[.int .i64 0, .slice none 0 0] 36) = W at *
      clear hW
      refine (HF.out _ HB0.out).mono ?_
      rintro e w1 ⟨rfl, hb1⟩
      have HB1 : Hid (Below w.heap.size w w1) := HB0.out.trans (hb1.mono HB0.out.size)
      have HRB1 : Hid (OwnRow w1 w.heap.size 2 (fun i => if i = 0 then .int .i64 0 else .slice none 0 0)) := HRB.out.later hb1
      have hz1 : w.heap.size + 1 ≤ w1.heap.size := by have := hb1.size; omega
      clear hb1
      go_wp2_with fail
      refine (HNE'.out _ HB1.out).mono ?_
      rintro e w2 ⟨rfl, hb2⟩
      obtain ⟨X, hst, hax, hbx⟩ := Arr.putNew w2 g
      have hbX : Below w1.heap.size w1 X := hb2.trans (hbx.mono hb2.size)
      have HST : Hid (_ = _) := hst
      have HAX : Hid (Arr X w2.heap.size g) := hax
      have HLD : Hid (_ = _) := hax.load
      have HBX : Hid (Below w.heap.size w X) := HB1.out.trans (hbX.mono HB1.out.size)
      have HRBX : Hid (OwnRow X w.heap.size 2 (fun i => if i = 0 then .int .i64 0 else .slice none 0 0)) := HRB1.out.later hbX
      have hzX : w.heap.size + 1 ≤ X.heap.size := by have := hbX.size; omega
      clear hst hax hbx hb2 hbX HRB1 HB1
      go_wp2_with (first | refine wpList_store_run rfl _ _ 69 rfl _ _ rfl rfl _ HST.out ?_ | refine wpList_load_run rfl _ 69 rfl _ rfl _ _ HLD.out ?_ | fail)
      refine (HM.out X).mono ?_
      rintro e w3 ⟨rfl, hb3⟩
      have HB3 : Hid (Below w.heap.size w w3) := HBX.out.trans (hb3.mono HBX.out.size)
      have HRB3 : Hid (OwnRow w3 w.heap.size 2 (fun i => if i = 0 then .int .i64 0 else .slice none 0 0)) := HRBX.out.later hb3
      have HA3 : Hid (Arr w3 w2.heap.size g) := HAX.out.later hb3
      have HLD3 : Hid (_ = _) := HA3.out.load
      have hz3 : w.heap.size + 1 ≤ w3.heap.size := by have := hb3.size; omega
      clear hb3 HST HLD HAX HBX HRBX
    · have t0 := HRB3.out.cell (i := 0) (by omega)
      have t1 := HRB3.out.cell (i := 1) (by omega)
      have s0 := HRB3.out.frozen 0
      have s1 := HRB3.out.frozen 1
      simp at t0 t1
      have hz2 := HRB3.out.lt
      go_wp2
      exact bodyPost_ret (v := .agg #[.int .i64 7, .slice none 0 0]) (by simp [results, Try.results17, go_sem, t0, t1]) rfl (AnsIR.bad 7 HB3.out _ _)
    · go_wp2_with (first | refine wpList_load_run rfl _ 69 rfl _ rfl _ _ HLD3.out ?_ | fail)
      refine (HU.out w3).mono ?_
      rintro e w4 ⟨aV, cV, rfl, hb4, hw4⟩
      have HB4 : Hid (Below w.heap.size w w4) := HB3.out.trans (hb4.mono HB3.out.size)
      have hrow : OwnRow w4 w.heap.size 2 (fun i => if i = 0 then .int .i64 0 else .slice none 0 0) := HRB3.out.later hb4
      have HI : Hid (IntsO w4 (.slice aV zs.length cV) zs (fun b => w.heap.size + 1 ≤ b ∧ b < w4.heap.size)) := (hw4.own' (w0 := w3) (Nat.le_refl _)).mono fun b hb => ⟨by have := hb.1; omega, hb.2⟩
      have t0 := hrow.cell (i := 0) (by omega)
      have t1 := hrow.cell (i := 1) (by omega)
      have s0 := hrow.frozen 0
      have s1 := hrow.frozen 1
      simp at t0 t1
      have hz2 := hrow.lt
      clear hb4 hw4 hrow
      go_wp2
      exact bodyPost_ret (v := .agg #[.int .i64 0, .slice aV zs.length cV]) (by simp [results, Try.results17, go_sem, t0, t1]) rfl (AnsIR.box HB4.out HI.out _ _)
  · rw [if_neg hf]
    have hr : (r != 0) = true := by simpa using hf
    clear HNE
    go_enter Try.func17, Try.ntmps17
    go_wp2_with fail
    generalize hW : w.alloc (Obj.cells #[.int .i64 0, .slice none 0 0] 36) = W at *
    clear hW
    refine (HF.out _ HB0.out).mono ?_
    rintro e w1 ⟨rfl, hb1⟩
    have HB1 : Hid (Below w.heap.size w w1) := HB0.out.trans (hb1.mono HB0.out.size)
    have hrow : OwnRow w1 w.heap.size 2 (fun i => if i = 0 then .int .i64 0 else .slice none 0 0) := HRB.out.later hb1
    have t0 := hrow.cell (i := 0) (by omega)
    have t1 := hrow.cell (i := 1) (by omega)
    have s0 := hrow.frozen 0
    have s1 := hrow.frozen 1
    simp at t0 t1
    have hz2 := hrow.lt
    clear hb1 hrow
    go_wp2
    exact bodyPost_ret (v := .agg #[.int .i64 r, .slice none 0 0]) (by simp [results, Try.results17, go_sem, t0, t1]) rfl (AnsIR.bad r HB1.out _ _)

/-- The same, and the list is no longer than its room. -/
def AnsIC (w : World) (r : Int × List Int) (e : Ending) (w' : World) : Prop := AnsIR w r e w' ∧ ∀ x a n c, e = .returned (.agg #[x, .slice a n c]) → n ≤ c
theorem AnsIC.mk {w w' : World} {r : Int × List Int} {x : Value} {a : Option Addr} {n c : Nat} (h : AnsIR w r (.returned (.agg #[x, .slice a n c])) w') (hc : n ≤ c) : AnsIC w r (.returned (.agg #[x, .slice a n c])) w' :=
  ⟨h, fun x' a' n' c' e => by
    simp only [Ending.returned.injEq, Value.agg.injEq, Array.mk.injEq, List.cons.injEq, Value.slice.injEq, and_true] at e
    omega⟩

set_option maxHeartbeats 6400000 in
theorem implFreeC (w : World) (a : Option Addr) (n c : Nat) (ds : List ID) (a' : Option Addr) (n' c' : Nat) (bs : List Int) (h : Inos w (.slice a n c) ds) (h' : Ints w (.slice a' n' c') bs) (hs : sizeInos ds ≤ 1048576) (_ : bs.length ≤ 1048576) :
    Calls Try.prog 25 #[.slice a n c, .slice a' n' c'] w (AnsIC w (freeR ds bs)) := by
  have HF : Hid (∀ W, Below w.heap.size w W → Calls Try.prog 44 #[.slice a n c] W fun e w' => e = .returned (.int .i64 (insF ds)) ∧ Below W.heap.size W w') := fun W hW => inodesFault_any (h.later hW) hs
  have HBF : Hid (∀ W, Below w.heap.size w W → Calls Try.prog 52 #[.slice a' n' c'] W fun e w' => e = .returned (.int .i64 (busF bs)) ∧ Below W.heap.size W w') := fun W hW => busyFault_any (h'.later hW)
  have HNE : Hid (insF ds = 0 → ∀ W, Below w.heap.size w W → Calls Try.prog 45 #[.slice a n c] W fun e w' => e = .returned (.agg (arrC fun i => cntB ds (i : Int))) ∧ Below W.heap.size W w') := fun hz W hW => needsOf_any (h.later hW) hs hz
  have HWI : Hid (busF bs = 0 → ∀ W, Below w.heap.size w W → Calls Try.prog 53 #[.agg (arrC fun i => cntB ds (i : Int)), .slice a' n' c'] W fun e w' => e = .returned (.agg (arrC fun i => cntB ds (i : Int) + bs.count (i : Int))) ∧ Below W.heap.size W w') := fun hz W hW => needsWith_any (h'.later hW) _ (by have := busF_len hz; omega) (fun i => by have := cntB_le ds hs (i : Int); omega) (fun k hk => busF_each hz k hk)
  have HU : Hid (busF bs = 0 → ∀ W, Calls Try.prog 54 #[.agg (arrC fun i => cntB ds (i : Int) + bs.count (i : Int))] W fun e w' => ∃ a c, e = .returned (.slice a (selL (freeP ds bs) 20).length c) ∧ Below W.heap.size W w' ∧ Wds w' W.heap.size (.slice a (selL (freeP ds bs) 20).length c) (selL (freeP ds bs) 20)) := fun hz W => by
    rw [← freeP_eq]
    exact needsFree_any W _ (fun i => by
      have h1 := cntB_le ds hs (i : Int)
      have h2 := List.count_le_length (a := (i : Int)) (l := bs)
      have h3 := busF_len hz
      omega)
  have HR : Hid (freeR ds bs = if (if insF ds = 0 then busF bs else insF ds) = 0 then (0, selL (freeP ds bs) 20) else ((if insF ds = 0 then busF bs else insF ds), [])) := rfl
  rw [HR.out]
  clear HR h hs h'
  generalize insF ds = r at *
  generalize busF bs = q at *
  generalize selL (freeP ds bs) 20 = zs at *
  generalize (fun i : Nat => cntB ds (i : Int) + bs.count (i : Int)) = g2 at *
  generalize (fun i : Nat => cntB ds (i : Int)) = g at *
  have HRB : Hid (OwnRow (w.alloc (.cells #[.int .i64 0, .slice none 0 0] 36)) w.heap.size 2 (fun i => if i = 0 then .int .i64 0 else .slice none 0 0)) := box2 w _
  have HB0 : Hid (Below w.heap.size w (w.alloc (.cells #[.int .i64 0, .slice none 0 0] 36))) := later1 _ _
  have hwz : (w.alloc (.cells #[.int .i64 0, .slice none 0 0] 36)).heap.size = w.heap.size + 1 := by simp
  by_cases hf : r = 0
  · rw [if_pos hf]
    have HNE' : Hid (∀ W, Below w.heap.size w W → Calls Try.prog 45 #[.slice a n c] W fun e w' => e = .returned (.agg (arrC g)) ∧ Below W.heap.size W w') := HNE.out hf
    subst hf
    clear HNE
    by_cases hq : q = 0
    · rw [if_pos hq]
      have HWI' := HWI.out hq
      have HU' := HU.out hq
      have HWI2 : Hid (∀ W, Below w.heap.size w W → Calls Try.prog 53 #[.agg (arrC g), .slice a' n' c'] W fun e w' => e = .returned (.agg (arrC g2)) ∧ Below W.heap.size W w') := HWI'
      have HU2 : Hid (∀ W, Calls Try.prog 54 #[.agg (arrC g2)] W fun e w' => ∃ a c, e = .returned (.slice a zs.length c) ∧ Below W.heap.size W w' ∧ Wds w' W.heap.size (.slice a zs.length c) zs) := HU'
      clear HWI HU HWI' HU'
      subst hq
      go_enter Try.func25, Try.ntmps25
      go_wp2_with fail
      generalize hW : w.alloc (Obj.cells #[.int .i64 0, .slice none 0 0] 36) = W at *
      clear hW
      refine (HF.out _ HB0.out).mono ?_
      rintro e w1 ⟨rfl, hb1⟩
      have HB1 : Hid (Below w.heap.size w w1) := HB0.out.trans (hb1.mono HB0.out.size)
      have HL1 : Hid (Below W.heap.size W w1) := hb1
      clear hb1
      go_wp2_with fail
      refine (HBF.out _ HB1.out).mono ?_
      rintro e w2 ⟨rfl, hb2⟩
      have HB2 : Hid (Below w.heap.size w w2) := HB1.out.trans (hb2.mono HB1.out.size)
      have HL2 : Hid (Below W.heap.size W w2) := HL1.out.trans (hb2.mono HL1.out.size)
      clear hb2
      go_wp2_with fail
      refine (HNE'.out _ HB2.out).mono ?_
      rintro e w3 ⟨rfl, hb3⟩
      have HB3 : Hid (Below w.heap.size w w3) := HB2.out.trans (hb3.mono HB2.out.size)
      have HL3 : Hid (Below W.heap.size W w3) := HL2.out.trans (hb3.mono HL2.out.size)
      clear hb3
      go_wp2_with fail
      refine (HWI2.out _ HB3.out).mono ?_
      rintro e w4 ⟨rfl, hb4⟩
      have HB4 : Hid (Below w.heap.size w w4) := HB3.out.trans (hb4.mono HB3.out.size)
      have HL4 : Hid (Below W.heap.size W w4) := HL3.out.trans (hb4.mono HL3.out.size)
      clear hb4
      go_wp2_with fail
      refine (HU2.out w4).mono ?_
      rintro e w5 ⟨aV, cV, rfl, hb5, hw5⟩
      have HB5 : Hid (Below w.heap.size w w5) := HB4.out.trans (hb5.mono HB4.out.size)
      have hrow : OwnRow w5 w.heap.size 2 (fun i => if i = 0 then .int .i64 0 else .slice none 0 0) := HRB.out.later (HL4.out.trans (hb5.mono HL4.out.size))
      have hz4 : w.heap.size + 1 ≤ w4.heap.size := by have := HL4.out.size; omega
      have HI : Hid (IntsO w5 (.slice aV zs.length cV) zs (fun b => w.heap.size + 1 ≤ b ∧ b < w5.heap.size)) := (hw5.own' (w0 := w4) (Nat.le_refl _)).mono fun b hb => ⟨by have := hb.1; omega, hb.2⟩
      have HCAP : Hid (zs.length ≤ cV) := hw5.cap
      have t0 := hrow.cell (i := 0) (by omega)
      have t1 := hrow.cell (i := 1) (by omega)
      have s0 := hrow.frozen 0
      have s1 := hrow.frozen 1
      simp at t0 t1
      have hz2 := hrow.lt
      clear hb5 hw5 hrow
      go_wp2
      exact bodyPost_ret (v := .agg #[.int .i64 0, .slice aV zs.length cV]) (by simp [results, Try.results25, go_sem, t0, t1]) rfl (AnsIC.mk (AnsIR.box HB5.out HI.out _ _) HCAP.out)
    · rw [if_neg hq]
      have hr : (q != 0) = true := by simpa using hq
      clear HWI HU
      go_enter Try.func25, Try.ntmps25
      go_wp2_with fail
      generalize hW : w.alloc (Obj.cells #[.int .i64 0, .slice none 0 0] 36) = W at *
      clear hW
      refine (HF.out _ HB0.out).mono ?_
      rintro e w1 ⟨rfl, hb1⟩
      have HB1 : Hid (Below w.heap.size w w1) := HB0.out.trans (hb1.mono HB0.out.size)
      have HL1 : Hid (Below W.heap.size W w1) := hb1
      clear hb1
      go_wp2_with fail
      refine (HBF.out _ HB1.out).mono ?_
      rintro e w2 ⟨rfl, hb2⟩
      have HB2 : Hid (Below w.heap.size w w2) := HB1.out.trans (hb2.mono HB1.out.size)
      have hrow : OwnRow w2 w.heap.size 2 (fun i => if i = 0 then .int .i64 0 else .slice none 0 0) := HRB.out.later (HL1.out.trans (hb2.mono HL1.out.size))
      have t0 := hrow.cell (i := 0) (by omega)
      have t1 := hrow.cell (i := 1) (by omega)
      have s0 := hrow.frozen 0
      have s1 := hrow.frozen 1
      simp at t0 t1
      have hz2 := hrow.lt
      clear hb2 hrow
      go_wp2
      exact bodyPost_ret (v := .agg #[.int .i64 q, .slice none 0 0]) (by simp [results, Try.results25, go_sem, t0, t1]) rfl (AnsIC.mk (AnsIR.bad q HB2.out _ _) (Nat.le_refl _))
  · rw [if_neg hf, if_neg hf]
    have hr : (r != 0) = true := by simpa using hf
    clear HNE HWI HU
    go_enter Try.func25, Try.ntmps25
    go_wp2_with fail
    generalize hW : w.alloc (Obj.cells #[.int .i64 0, .slice none 0 0] 36) = W at *
    clear hW
    refine (HF.out _ HB0.out).mono ?_
    rintro e w1 ⟨rfl, hb1⟩
    have HB1 : Hid (Below w.heap.size w w1) := HB0.out.trans (hb1.mono HB0.out.size)
    have hrow : OwnRow w1 w.heap.size 2 (fun i => if i = 0 then .int .i64 0 else .slice none 0 0) := HRB.out.later hb1
    have t0 := hrow.cell (i := 0) (by omega)
    have t1 := hrow.cell (i := 1) (by omega)
    have s0 := hrow.frozen 0
    have s1 := hrow.frozen 1
    simp at t0 t1
    have hz2 := hrow.lt
    clear hb1 hrow
    go_wp2
    exact bodyPost_ret (v := .agg #[.int .i64 r, .slice none 0 0]) (by simp [results, Try.results25, go_sem, t0, t1]) rfl (AnsIC.mk (AnsIR.bad r HB1.out _ _) (Nat.le_refl _))
theorem implFreeU (w : World) (a : Option Addr) (n c : Nat) (ds : List ID) (a' : Option Addr) (n' c' : Nat) (bs : List Int) (h : Inos w (.slice a n c) ds) (h' : Ints w (.slice a' n' c') bs) (hs : sizeInos ds ≤ 1048576) (hb : bs.length ≤ 1048576) :
    Calls Try.prog 25 #[.slice a n c, .slice a' n' c'] w (AnsIR w (freeR ds bs)) := (implFreeC w a n c ds a' n' c' bs h h' hs hb).mono fun _ _ h => h.1
end Go.Proofs.Ytjbppdkijjfejak

namespace Go.Proofs.Ytjbppdkijjfejak
open Go.RowKit
set_option maxRecDepth 100000

theorem AnsIR.gen {w w2 : World} {r : Int} {a : Option Addr} {n c : Nat} {zs : List Int} (hb : Below w.heap.size w w2) (ho : IntsO w2 (.slice a n c) zs (fun b => w.heap.size + 1 ≤ b ∧ b < w2.heap.size)) (x y : Value) :
    AnsIR w (r, zs) (.returned (.agg #[.int .i64 r, .slice a n c])) ((w2.setCell ⟨w.heap.size, 0, none⟩ x).setCell ⟨w.heap.size, 1, none⟩ y) := by
  refine ⟨_, _, _, rfl, (hb.setCell (by simp) _).setCell (by simp) _, (ho.keep fun b hb hlt => ?_).mono fun b hb => ⟨by omega, by simp only [World.setCell, Array.size_modify]; exact hb.2⟩⟩
  rw [Below.heap_setCell _ _ _ _ (by simp; omega), Below.heap_setCell _ _ _ _ (by simp; omega)]
theorem AnsIR.later {w w2 w3 : World} {r : Int × List Int} {e : Ending} (h : AnsIR w r e w2) (hb : Below w2.heap.size w2 w3) : AnsIR w r e w3 := by
  obtain ⟨a, n, c, h1, h2, h3⟩ := h
  exact ⟨a, n, c, h1, h2.trans (hb.mono h2.size), (h3.keep fun b _ hlt => hb.block b hlt).mono fun b hh => ⟨hh.1, Nat.lt_of_lt_of_le hh.2 hb.size⟩⟩

set_option maxHeartbeats 6400000 in
theorem implPickU (w : World) (a : Option Addr) (n c : Nat) (ds : List ID) (a' : Option Addr) (n' c' : Nat) (bs : List Int) (k : Int) (h : Inos w (.slice a n c) ds) (h' : Ints w (.slice a' n' c') bs) (hs : sizeInos ds ≤ 1048576) (hbl : bs.length ≤ 1048576) :
    Calls Try.prog 29 #[.slice a n c, .slice a' n' c', .int .i64 k] w (AnsIR w (pickR ds bs k)) := by
  have HU : Hid (∀ W, Below w.heap.size w W → Calls Try.prog 25 #[.slice a n c, .slice a' n' c'] W (AnsIC W (if askF ds bs = 0 then (0, selL (freeP ds bs) 20) else (askF ds bs, [])))) := fun W hW => implFreeC W a n c ds a' n' c' bs (h.later hW) (h'.later hW) hs hbl
  have HR : Hid (pickR ds bs k = if askF ds bs = 0 then (if 0 ≤ k ∧ k ≤ 4 then (if ((selL (freeP ds bs) 20).length : Int) < k then (8, []) else (0, (selL (freeP ds bs) 20).take k.toNat)) else (3, [])) else (askF ds bs, [])) := rfl
  rw [HR.out]
  have hl20 := selL_len (freeP ds bs) 20
  clear HR h hs h' hbl
  generalize askF ds bs = r at *
  generalize selL (freeP ds bs) 20 = zs at *
  have HRB : Hid (OwnRow (w.alloc (.cells #[.int .i64 0, .slice none 0 0] 36)) w.heap.size 2 (fun i => if i = 0 then .int .i64 0 else .slice none 0 0)) := box2 w _
  have HB0 : Hid (Below w.heap.size w (w.alloc (.cells #[.int .i64 0, .slice none 0 0] 36))) := later1 _ _
  have hwz : (w.alloc (.cells #[.int .i64 0, .slice none 0 0] 36)).heap.size = w.heap.size + 1 := by simp
  by_cases hf : r = 0
  · rw [if_pos hf]
    rw [if_pos hf] at HU
    subst hf
    by_cases hk : 0 ≤ k ∧ k ≤ 4
    · rw [if_pos hk]
      obtain ⟨j, hj⟩ := Int.eq_ofNat_of_zero_le hk.1
      subst hj
      have hj4 : j ≤ 4 := by omega
      have hk4 : decide ((4 : Int) < (j : Int)) = false := by simp; omega
      have hk4' : decide (4 < j) = false := by simp; omega
      clear hk
      by_cases hlt : ((zs.length : Nat) : Int) < (j : Int)
      · rw [if_pos hlt]
        have hltd : decide (((zs.length : Nat) : Int) < (j : Int)) = true := by simpa using hlt
        have hltd' : decide (zs.length < j) = true := by simpa using hlt
        clear hlt
        go_enter Try.func29, Try.ntmps29
        go_wp2_with fail
        generalize hW : w.alloc (Obj.cells #[.int .i64 0, .slice none 0 0] 36) = W at *
        clear hW
        refine (HU.out _ HB0.out).mono ?_
        rintro e w2 ⟨⟨aV, nV, cV, rfl, hb2, hw2⟩, hcap⟩
        have hcp := hcap _ _ _ _ rfl
        clear hcap
        obtain ⟨aV, cV, hsh, _⟩ := hw2.ints.shape
        simp only [Value.slice.injEq] at hsh
        obtain ⟨rfl, rfl, rfl⟩ := hsh
        have HB2 : Hid (Below w.heap.size w w2) := HB0.out.trans (hb2.mono HB0.out.size)
        have hrow : OwnRow w2 w.heap.size 2 (fun i => if i = 0 then .int .i64 0 else .slice none 0 0) := HRB.out.later hb2
        have t0 := hrow.cell (i := 0) (by omega)
        have t1 := hrow.cell (i := 1) (by omega)
        have s0 := hrow.frozen 0
        have s1 := hrow.frozen 1
        simp at t0 t1
        have hz2 := hrow.lt
        clear hb2 hw2 hrow
        dsimp only
        go_wp2
        exact bodyPost_ret (v := .agg #[.int .i64 8, .slice none 0 0]) (by simp [results, Try.results29, go_sem, t0, t1, hz2]) rfl (by first | exact AnsIR.bad 8 (HB2.out.trans ((later1 _ _).mono HB2.out.size)) _ _ | exact (AnsIR.bad 8 HB2.out _ _).later (later1 _ _))
      · rw [if_neg hlt]
        have hltd : decide (((zs.length : Nat) : Int) < (j : Int)) = false := by simpa using hlt
        have hltd' : decide (zs.length < j) = false := by simpa using hlt
        have hjz : j ≤ zs.length := by omega
        rw [Int.toNat_natCast]
        clear hlt
        go_enter Try.func29, Try.ntmps29
        go_wp2_with fail
        generalize hW : w.alloc (Obj.cells #[.int .i64 0, .slice none 0 0] 36) = W at *
        clear hW
        refine (HU.out _ HB0.out).mono ?_
        rintro e w2 ⟨⟨aV, nV, cV, rfl, hb2, hw2⟩, hcap⟩
        have hcp := hcap _ _ _ _ rfl
        clear hcap
        obtain ⟨aV, cV, hsh, _⟩ := hw2.ints.shape
        simp only [Value.slice.injEq] at hsh
        obtain ⟨rfl, rfl, rfl⟩ := hsh
        have HB2 : Hid (Below w.heap.size w w2) := HB0.out.trans (hb2.mono HB0.out.size)
        have hrow : OwnRow w2 w.heap.size 2 (fun i => if i = 0 then .int .i64 0 else .slice none 0 0) := HRB.out.later hb2
        dsimp only at hcp hw2 ⊢
        obtain ⟨A, C, hsl, hown⟩ := slice_takeI aV zs.length cV j (by omega)
        have HI : Hid (IntsO w2 (.slice A j C) (zs.take j) (fun b => w.heap.size + 1 ≤ b ∧ b < w2.heap.size)) := hown w2 zs _ hjz (hw2.mono fun b hb => ⟨by have := hb.1; omega, hb.2⟩)
        have t0 := hrow.cell (i := 0) (by omega)
        have t1 := hrow.cell (i := 1) (by omega)
        have s0 := hrow.frozen 0
        have s1 := hrow.frozen 1
        simp at t0 t1
        have hz2 := hrow.lt
        clear hb2 hw2 hrow hown
        go_wp2
        exact bodyPost_ret (v := .agg #[.int .i64 0, .slice A j C]) (by simp [results, Try.results29, go_sem, t0, t1, hz2]) rfl (by first | exact AnsIR.gen (HB2.out.trans ((later1 _ _).mono HB2.out.size)) ((HI.out.keep fun b _ hlt => (later1 _ _).block b hlt).mono fun b hb => ⟨hb.1, by simp; omega⟩) _ _ | exact (AnsIR.gen HB2.out HI.out _ _).later (later1 _ _))
    · rw [if_neg hk]
      have hkk : k < 0 ∨ 4 < k := by omega
      clear hk
      have step : ∀ P : Prop, (decide (k < 0) = true → P) → (decide (k < 0) = false → decide (4 < k) = true → P) → P := fun P h1 h2 => by
        by_cases h0 : k < 0
        · exact h1 (by simpa using h0)
        · exact h2 (by simpa using h0) (by simp; omega)
      clear hkk
      apply step
      all_goals
        intros
        clear step
        go_enter Try.func29, Try.ntmps29
        go_wp2_with fail
        generalize hW : w.alloc (Obj.cells #[.int .i64 0, .slice none 0 0] 36) = W at *
        clear hW
        refine (HU.out _ HB0.out).mono ?_
        rintro e w2 ⟨⟨aV, nV, cV, rfl, hb2, hw2⟩, hcap⟩
        clear hcap
        have HB2 : Hid (Below w.heap.size w w2) := HB0.out.trans (hb2.mono HB0.out.size)
        have hrow : OwnRow w2 w.heap.size 2 (fun i => if i = 0 then .int .i64 0 else .slice none 0 0) := HRB.out.later hb2
        have t0 := hrow.cell (i := 0) (by omega)
        have t1 := hrow.cell (i := 1) (by omega)
        have s0 := hrow.frozen 0
        have s1 := hrow.frozen 1
        simp at t0 t1
        have hz2 := hrow.lt
        clear hb2 hw2 hrow
        dsimp only
        go_wp2
        exact bodyPost_ret (v := .agg #[.int .i64 3, .slice none 0 0]) (by simp [results, Try.results29, go_sem, t0, t1, hz2]) rfl (by first | exact AnsIR.bad 3 (HB2.out.trans ((later1 _ _).mono HB2.out.size)) _ _ | exact (AnsIR.bad 3 HB2.out _ _).later (later1 _ _))
  · rw [if_neg hf]
    rw [if_neg hf] at HU
    have hr : (r != 0) = true := by simpa using hf
    go_enter Try.func29, Try.ntmps29
    go_wp2_with fail
    generalize hW : w.alloc (Obj.cells #[.int .i64 0, .slice none 0 0] 36) = W at *
    clear hW
    refine (HU.out _ HB0.out).mono ?_
    rintro e w2 ⟨⟨aV, nV, cV, rfl, hb2, hw2⟩, hcap⟩
    clear hcap
    dsimp only at hw2 ⊢
    have HB2 : Hid (Below w.heap.size w w2) := HB0.out.trans (hb2.mono HB0.out.size)
    have hrow : OwnRow w2 w.heap.size 2 (fun i => if i = 0 then .int .i64 0 else .slice none 0 0) := HRB.out.later hb2
    have HI : Hid (IntsO w2 (.slice aV nV cV) [] (fun b => w.heap.size + 1 ≤ b ∧ b < w2.heap.size)) := hw2.mono fun b hb => ⟨by have := hb.1; omega, hb.2⟩
    have t0 := hrow.cell (i := 0) (by omega)
    have t1 := hrow.cell (i := 1) (by omega)
    have s0 := hrow.frozen 0
    have s1 := hrow.frozen 1
    simp at t0 t1
    have hz2 := hrow.lt
    clear hb2 hw2 hrow
    go_wp2
    exact bodyPost_ret (v := .agg #[.int .i64 r, .slice aV nV cV]) (by simp [results, Try.results29, go_sem, t0, t1, hz2]) rfl (by first | exact AnsIR.gen (HB2.out.trans ((later1 _ _).mono HB2.out.size)) ((HI.out.keep fun b _ hlt => (later1 _ _).block b hlt).mono fun b hb => ⟨hb.1, by simp; omega⟩) _ _ | exact (AnsIR.gen HB2.out HI.out _ _).later (later1 _ _))

set_option maxHeartbeats 3200000 in
theorem implFinU (w : World) (a : Option Addr) (n c : Nat) (ds : List ID) (h : Inos w (.slice a n c) ds) (hs : sizeInos ds ≤ 1048576) :
    Calls Try.prog 31 #[.slice a n c] w fun e w' => e = .returned (.agg #[.int .i64 (finR ds).1, .int .i64 (finR ds).2]) ∧ Below w.heap.size w w' := by
  have HF : Hid (∀ W, Below w.heap.size w W → Calls Try.prog 44 #[.slice a n c] W fun e w' => e = .returned (.int .i64 (insF ds)) ∧ Below W.heap.size W w') := fun W hW => inodesFault_any (h.later hW) hs
  obtain ⟨_, _, esh, _, hc⟩ := h.open'
  simp only [Value.slice.injEq] at esh
  obtain ⟨rfl, rfl, rfl⟩ := esh
  have HC : Hid (AtI w a ds.length ds) := hc
  have HY : Hid (∀ j, j < ds.length → kindAt ds j = 0 → plcI ds (ds.length - j) = (j : Int)) := fun j hj hk => plcI_yes ds hj hk
  have HNO : Hid (∀ j, j < ds.length → ¬ kindAt ds j = 0 → plcI ds (ds.length - (j + 1)) = plcI ds (ds.length - j)) := fun j hj hk => plcI_no ds hj hk
  have HE : Hid (plcI ds 0 = if ds.length < 10 then (ds.length : Int) else -1) := rfl
  have hlen : insF ds = 0 → ds.length ≤ 10 := insF_len
  have HR : Hid (finR ds = if insF ds = 0 then (if plcI ds ds.length < 0 then (8, 0) else (0, plcI ds ds.length)) else (insF ds, 0)) := rfl
  rw [HR.out]
  clear HR h hs hc
  generalize insF ds = r at *
  have HRB : Hid (OwnRow (w.alloc (.cells #[.int .i64 0, .int .i64 0] 53)) w.heap.size 2 (fun i => if i = 0 then .int .i64 0 else .int .i64 0)) := OwnRow.newS w (.int .i64 0) (.int .i64 0) _
  have HB0 : Hid (Below w.heap.size w (w.alloc (.cells #[.int .i64 0, .int .i64 0] 53))) := later1 _ _
  by_cases hf : r = 0
  · rw [if_pos hf]
    have h10 := hlen hf
    subst hf
    clear hlen
    obtain ⟨R, hR⟩ : ∃ R, R = plcI ds ds.length := ⟨_, rfl⟩
    rw [← hR]
    have HR0 : Hid (R = plcI ds ds.length) := hR
    clear hR
    obtain ⟨P, hP⟩ : ∃ P : Int × Int, P = if R < 0 then (8, 0) else (0, R) := ⟨_, rfl⟩
    rw [← hP]
    have HP : Hid (P = if R < 0 then (8, 0) else (0, R)) := hP
    clear hP
    generalize hn : ds.length = n at *
    clear hn
    go_enter Try.func31, Try.ntmps31
    go_wp2_with fail
    generalize hW : w.alloc (Obj.cells #[.int .i64 0, .int .i64 0] 53) = W at *
    clear hW
    refine (HF.out _ HB0.out).mono ?_
    rintro e w1 ⟨rfl, hb1⟩
    have HB1 : Hid (Below w.heap.size w w1) := HB0.out.trans (hb1.mono HB0.out.size)
    have hrow : OwnRow w1 w.heap.size 2 (fun i => if i = 0 then .int .i64 0 else .int .i64 0) := HRB.out.later hb1
    have t0 := hrow.cell (i := 0) (by omega)
    have t1 := hrow.cell (i := 1) (by omega)
    have s0 := hrow.frozen 0
    have s1 := hrow.frozen 1
    simp only [ite_self] at t0 t1
    have hz1 := hrow.lt
    clear hb1 hrow HF HRB HB0
    go_wp2
    go_loopw [13] (fun i wr => ∃ j : Nat, j ≤ n ∧ i = .int .i64 j ∧ wr = w1 ∧ R = plcI ds (n - j)) (fun i _ => n - (intOf i).toNat)
    case atStart => exact ⟨0, Nat.zero_le _, rfl, rfl, by rw [Nat.sub_zero]; exact HR0.out⟩
    case round =>
      obtain ⟨j, hj, rfl, hwr, hz⟩ := hrel
      have HZ : Hid (R = plcI ds (n - j)) := hz
      rw [← hwr] at t0 t1 s0 s1 hz1 HB1
      have HWE : Hid (wr = w1) := hwr
      clear hz hwr
      by_cases hlt : j < n
      · obtain ⟨b, o, rfl, hI⟩ := HC.out j hlt
        obtain ⟨aB, cB, aE, cE, c0, -⟩ := hI.later HB1.out
        replace c0 : wr.cell? ⟨b, o + j * 5, none⟩ = some (.int .i64 (kindAt ds j)) := c0
        by_cases hk : kindAt ds j = 0
        · have HRJ : Hid (R = (j : Int)) := HZ.out.trans (HY.out j hlt hk)
          have HRN : Hid (P = (0, (j : Int))) := by unfold Hid; rw [HP.out, HRJ.out, if_neg (by omega)]
          rw [hk] at c0
          clear hk HY HNO HC hI
          go_wp2
          exact bodyPost_ret (v := .agg #[.int .i64 0, .int .i64 (j : Int)]) (by simp [results, Try.results31, go_sem, t0, t1]) rfl ⟨by rw [HRN.out], (HB1.out.setCell (by simp) _).setCell (by simp) _⟩
        · have HRJ : Hid (R = plcI ds (n - (j + 1))) := HZ.out.trans (HNO.out j hlt hk).symm
          have hkb : (kindAt ds j == 0) = false := by simpa using hk
          clear hk HY HNO HC hI
          generalize kindAt ds j = x at *
          go_wp2
          go_roundw
          case rel => exact ⟨j + 1, by omega, by go_num, HWE.out, HRJ.out⟩
          case measure => simp [intOf]; omega
      · by_cases hl10 : n < 10
        · have HRJ : Hid (P = (0, (n : Int))) := by unfold Hid; rw [HP.out, HZ.out, show n - j = 0 by omega, HE.out, if_pos hl10, if_neg (by omega)]
          have hd : ((n : Int) == 10) = false := by rw [beq_eq_false_iff_ne]; omega
          clear HE HY HNO HC
          go_wp2
          exact bodyPost_ret (v := .agg #[.int .i64 0, .int .i64 (n : Int)]) (by simp [results, Try.results31, go_sem, t0, t1]) rfl ⟨by rw [HRJ.out], (HB1.out.setCell (by simp) _).setCell (by simp) _⟩
        · have HRJ : Hid (P = (8, 0)) := by unfold Hid; rw [HP.out, HZ.out, show n - j = 0 by omega, HE.out, if_neg hl10, if_pos (by omega)]
          have hd : ((n : Int) == 10) = true := by rw [beq_iff_eq]; omega
          clear HE HY HNO HC
          go_wp2
          exact bodyPost_ret (v := .agg #[.int .i64 8, .int .i64 0]) (by simp [results, Try.results31, go_sem, t0, t1]) rfl ⟨by rw [HRJ.out], (HB1.out.setCell (by simp) _).setCell (by simp) _⟩
  · rw [if_neg hf]
    have hr : (r != 0) = true := by simpa using hf
    clear HY HNO HC HE hlen
    go_enter Try.func31, Try.ntmps31
    go_wp2_with fail
    generalize hW : w.alloc (Obj.cells #[.int .i64 0, .int .i64 0] 53) = W at *
    clear hW
    refine (HF.out _ HB0.out).mono ?_
    rintro e w1 ⟨rfl, hb1⟩
    have HB1 : Hid (Below w.heap.size w w1) := HB0.out.trans (hb1.mono HB0.out.size)
    have hrow : OwnRow w1 w.heap.size 2 (fun i => if i = 0 then .int .i64 0 else .int .i64 0) := HRB.out.later hb1
    have t0 := hrow.cell (i := 0) (by omega)
    have t1 := hrow.cell (i := 1) (by omega)
    have s0 := hrow.frozen 0
    have s1 := hrow.frozen 1
    simp only [ite_self] at t0 t1
    have hz1 := hrow.lt
    clear hb1 hrow
    go_wp2
    exact bodyPost_ret (v := .agg #[.int .i64 r, .int .i64 0]) (by simp [results, Try.results31, go_sem, t0, t1]) rfl ⟨rfl, (HB1.out.setCell (by simp) _).setCell (by simp) _⟩
end Go.Proofs.Ytjbppdkijjfejak

namespace Go.Proofs.Ytjbppdkijjfejak
open Go.RowKit
set_option maxRecDepth 100000

set_option maxHeartbeats 400000 in
theorem szInos_many (w : World) (a : Option Addr) (n cap : Nat) (left : Int) (h0 : 0 ≤ left) (h1 : left ≤ 1048576) (hn : n ≤ maxLen) (h : left < (n : Int)) :
    Calls Try.prog 14 #[.slice a n cap, .int .i64 left] w fun e w' => e = .returned (.int .i64 (-1)) ∧ w' = w := by
  unfold maxLen at hn
  have h' : left - (n : Int) < 0 := by omega
  go_enter Try.func14, Try.ntmps14
  go_wp2
  go_ret
  exact ⟨rfl, rfl⟩

set_option maxHeartbeats 1600000 in
theorem szInos_walk (w : World) (a : Option Addr) (cap n : Nat) (left : Int) (ds : List ID) (hzn : ds.length = n) (h0 : 0 ≤ left) (h1 : left ≤ 1048576) (h2 : ¬ left < (n : Int)) (hc : AtI w a n ds) :
    Calls Try.prog 14 #[.slice a n cap, .int .i64 left] w fun e w' => e = .returned (.int .i64 (szf left (n + (isz ds).sum))) ∧ Below w.heap.size w w' := by
  have HN : Hid (ds.length = n) := hzn
  have h2' : ¬ left - (n : Int) < 0 := by omega
  have HC : Hid (AtI w a n ds) := hc
  clear hzn hc
  go_enter Try.func14, Try.ntmps14
  go_wp2
  go_loopw [1, 5] (fun q i wr => ∃ j : Nat, j ≤ n ∧ i = .int .i64 j ∧ q = .int .i64 (left - (n : Int) - (upto (isz ds) j : Nat)) ∧ 0 ≤ left - (n : Int) - (upto (isz ds) j : Nat) ∧ Below w.heap.size w wr) (fun _ i _ => n - (intOf i).toNat)
  case atStart => exact ⟨0, Nat.zero_le _, rfl, by simp [upto_zero], by simp [upto_zero]; omega, Below.refl _ _⟩
  case round =>
    obtain ⟨j, hj, rfl, rfl, hq, hbl⟩ := hrel
    by_cases hlt : j < n
    · obtain ⟨b, o, rfl, hI⟩ := HC.out j hlt
      obtain ⟨aB, cB, aE, cE, c0, c1, c2, c3, c4, hR⟩ := hI.later hbl
      have hs := upto_succ (isz ds) j (by rw [isz_length, HN.out]; exact hlt)
      rw [isz_get] at hs
      have hle := upto_le (isz ds) (j + 1)
      have HS : Hid (upto (isz ds) (j + 1) = upto (isz ds) j + sizeIno (ds[j]?.getD id0)) := hs
      clear hs hI HC
      generalize upto (isz ds) j = U at *
      generalize ds[j]?.getD id0 = d at *
      have HI : Hid (InoR wr _ _ _ _ _ d) := hR
      have HBL : Hid (Below w.heap.size w wr) := hbl
      clear hR hbl
      by_cases hm : left - (n : Int) - (U : Int) < ((sizeIno d : Nat) : Int)
      · have HM : Hid (szf left (n + (isz ds).sum) = -1) := szf_no (by have := HS.out; omega)
        have HR' : Hid (szf (left - (n : Int) - (U : Int)) (sizeIno d) = -1) := szf_no hm
        go_wp2_with fail
        refine (szInodeU _ _ _ _ _ _ _ _ _ _ d HI.out _ hq (by omega)).mono ?_
        rw [HR'.out]
        rintro e w' ⟨rfl, hb⟩
        have HB : Hid (Below w.heap.size w w') := HBL.out.trans (hb.mono HBL.out.size)
        clear hb
        go_wp2
        go_ret
        exact ⟨ret_int HM.out.symm, HB.out⟩
      · have HR' : Hid (szf (left - (n : Int) - (U : Int)) (sizeIno d) = left - (n : Int) - (U : Int) - ((sizeIno d : Nat) : Int)) := szf_yes hm
        have hpos : ¬ (left - (n : Int) - (U : Int) - ((sizeIno d : Nat) : Int) < 0) := by omega
        go_wp2_with fail
        refine (szInodeU _ _ _ _ _ _ _ _ _ _ d HI.out _ hq (by omega)).mono ?_
        rw [HR'.out]
        rintro e w' ⟨rfl, hb⟩
        have HB : Hid (Below w.heap.size w w') := HBL.out.trans (hb.mono HBL.out.size)
        clear hb
        go_wp2
        go_roundw
        case rel => exact ⟨j + 1, by omega, by go_num, by rw [HS.out]; go_num, by rw [HS.out]; omega, HB.out⟩
        case measure => simp [intOf]; omega
    · go_wp2
      go_ret
      have e : j = n := by omega
      subst e
      have ha := upto_all (isz ds)
      rw [isz_length, HN.out] at ha
      refine ⟨ret_int ?_, hbl⟩
      rw [ha] at hq ⊢
      rw [szf_yes (by omega)]
      omega

theorem szInosU (w : World) (a : Option Addr) (n c : Nat) (d : List ID) (h : Inos w (.slice a n c) d) (left : Int) (l0 : 0 ≤ left) (l1 : left ≤ 1048576) :
    Calls Try.prog 14 #[.slice a n c, .int .i64 left] w fun e w' => e = .returned (.int .i64 (szf left (sizeInos d))) ∧ Below w.heap.size w w' := by
  obtain ⟨a', cap, e, hm, hc⟩ := h.open'
  simp only [Value.slice.injEq] at e
  obtain ⟨rfl, rfl, rfl⟩ := e
  by_cases h : left < (d.length : Int)
  · refine (szInos_many w _ d.length _ left l0 l1 hm.1 h).mono fun e w' ⟨he, hw⟩ => ⟨he.trans (ret_int ?_), hw ▸ Below.refl _ _⟩
    rw [szf_no (by unfold sizeInos; omega)]
  · exact szInos_walk w _ _ d.length left d rfl l0 l1 h hc

theorem toInodeV (w : World) (aB : Option Addr) (nB cB : Nat) (aE : Option Addr) (nE cE : Nat) (d : ID) (h : InoR w (.int .i64 d.1) (.int .i64 d.2.1) (.int .i64 d.2.2.1) (.slice aB nB cB) (.slice aE nE cE) d) (hs : sizeIno d ≤ 1048576) :
    Calls Try.prog 11 #[.agg #[.int .i64 d.1, .int .i64 d.2.1, .int .i64 d.2.2.1, .slice aB nB cB, .slice aE nE cE]] w fun e w' => ∃ dB eB fB dE eE fE, e = .returned (.agg #[.int .i64 d.1, .int .i64 d.2.1, .int .i64 d.2.2.1, .slice dB eB fB, .slice dE eE fE]) ∧ Below w.heap.size w w' ∧ InoU w' (.int .i64 d.1) (.int .i64 d.2.1) (.int .i64 d.2.2.1) (.slice dB eB fB) (.slice dE eE fE) d (fresh w w') := by
  refine (toInodeU w _ _ _ aB nB cB aE nE cE d h hs).mono ?_
  rintro e w' ⟨y0, y1, y2, dB, eB, fB, dE, eE, fE, rfl, hb, ⟨⟨e0, e1, e2, hcap⟩, hu⟩⟩
  simp only [Value.int.injEq, true_and] at e0 e1 e2
  subst e0 e1 e2
  exact ⟨dB, eB, fB, dE, eE, fE, rfl, hb, ⟨rfl, rfl, rfl, hcap⟩, hu⟩

theorem Try.infoIno : (Try.prog.info? 30).map (fun i => (i.zero, i.size, i.bytes)) = some (some (.agg #[.int .i64 0, .int .i64 0, .int .i64 0, .slice none 0 0, .slice none 0 0]), 5, 72) := by kernel_rfl

set_option maxHeartbeats 3200000 in
theorem toInos_walk (w : World) (a : Option Addr) (cap n : Nat) (ds : List ID) (hn : n ≤ 1048576) (hz : ∀ k : Nat, sizeIno (ds[k]?.getD id0) ≤ 1048576) (hc : AtI w a n ds) :
    Calls Try.prog 16 #[.slice a n cap] w fun e w' => e = .returned (.slice (some ⟨w.heap.size, 0, none⟩) n n) ∧ Below w.heap.size w w' ∧
      ∃ u s, OwnRow w' w.heap.size (n * 5) (inCell ds u) ∧ BuiltI w' (w.heap.size + 1) n u (fun i => ds[i]?.getD id0) s := by
  have hmk := fun w => run_make_five (P := Try.prog) 38 30 (.int .i64 0) (.int .i64 0) (.int .i64 0) (.slice none 0 0) (.slice none 0 0) 72 Try.underlying38 Try.infoIno rfl .i64 .i64 n (by omega) (by omega) w
  have HZ : Hid (∀ k : Nat, sizeIno (ds[k]?.getD id0) ≤ 1048576) := hz
  have HC : Hid (AtI w a n ds) := hc
  clear hz hc
  go_enter Try.func16, Try.ntmps16
  go_wp2
  clear hmk
  go_loopw [4] (fun i wr => ∃ j : Nat, j ≤ n ∧ i = .int .i64 j ∧ Below w.heap.size w wr ∧ ∃ u s, OwnRow wr w.heap.size (n * 5) (partI ds u j) ∧ BuiltI wr (w.heap.size + 1) j u (fun i => ds[i]?.getD id0) s) (fun i _ => n - (intOf i).toNat)
  case atStart => exact ⟨0, Nat.zero_le _, rfl, later1 _ _, fun _ => (.slice none 0 0, .slice none 0 0), _, (OwnRow.madeFive w n 30).congr fun i _ => by simp [partI], BuiltI.nil _ _ (by simp)⟩
  case round =>
    obtain ⟨j, hj, rfl, hbl, u, s, hrow, hbt⟩ := hrel
    by_cases hlt : j < n
    · obtain ⟨b, o, rfl, hI⟩ := HC.out j hlt
      obtain ⟨aB, cB, aE, cE, c0, c1, c2, c3, c4, hR⟩ := hI.later hbl
      have HI : Hid (InoR wr _ _ _ _ _ (ds[j]?.getD id0)) := hR
      have HBL : Hid (Below w.heap.size w wr) := hbl
      have HROW : Hid (OwnRow wr w.heap.size (n * 5) (partI ds u j)) := hrow
      have HBT : Hid (BuiltI wr (w.heap.size + 1) j u (fun i => ds[i]?.getD id0) s) := hbt
      clear hI hR hbl hrow hbt HC
      go_wp2_with fail
      refine (toInodeV _ _ _ _ _ _ _ _ HI.out (HZ.out j)).mono ?_
      rintro e w1 ⟨dB, eB, fB, dE, eE, fE, rfl, hb1, ho1⟩
      have HB1 : Hid (Below wr.heap.size wr w1) := hb1
      have HO1 : Hid (InoU w1 _ _ _ (.slice dB eB fB) (.slice dE eE fE) (ds[j]?.getD id0) (fresh wr w1)) := ho1
      have HROW1 : Hid (OwnRow w1 w.heap.size (n * 5) (partI ds u j)) := HROW.out.block (hb1.block _ HROW.out.lt)
      have zz : ∀ q, q < 5 → partI ds u j (j * 5 + q) = zeroI q := fun q hq => by unfold partI zeroI; rw [if_neg (by omega), show (j * 5 + q) % 5 = q % 5 by omega]
      have d0 : w1.cell? ⟨w.heap.size, j * 5, none⟩ = some (.int .i64 0) := by rw [HROW1.out.cell (by omega)]; exact congrArg some (zz 0 (by omega))
      have d1 : w1.cell? ⟨w.heap.size, j * 5 + 1, none⟩ = some (.int .i64 0) := by rw [HROW1.out.cell (by omega), zz 1 (by omega)]; rfl
      have d2 : w1.cell? ⟨w.heap.size, j * 5 + 2, none⟩ = some (.int .i64 0) := by rw [HROW1.out.cell (by omega), zz 2 (by omega)]; rfl
      have d3 : w1.cell? ⟨w.heap.size, j * 5 + 3, none⟩ = some (.slice none 0 0) := by rw [HROW1.out.cell (by omega), zz 3 (by omega)]; rfl
      have d4 : w1.cell? ⟨w.heap.size, j * 5 + 4, none⟩ = some (.slice none 0 0) := by rw [HROW1.out.cell (by omega), zz 4 (by omega)]; rfl
      have f0 := HROW1.out.frozen (j * 5)
      have f1 := HROW1.out.frozen (j * 5 + 1)
      have f2 := HROW1.out.frozen (j * 5 + 2)
      have f3 := HROW1.out.frozen (j * 5 + 3)
      have f4 := HROW1.out.frozen (j * 5 + 4)
      clear hb1 ho1 zz c0 c1 c2 c3 c4
      go_wp2
      go_roundw
      case rel =>
        refine ⟨j + 1, by omega, by go_num, (((((HBL.out.trans (HB1.out.mono HBL.out.size)).setCell (Nat.le_refl _) _).setCell (Nat.le_refl _) _).setCell (Nat.le_refl _) _).setCell (Nat.le_refl _) _).setCell (Nat.le_refl _) _, _, _, (((((HROW1.out.set (j * 5) _).set (j * 5 + 1) _).set (j * 5 + 2) _).set (j * 5 + 3) _).set (j * 5 + 4) _).congr fun c _ => partI_next ds u j c _ _, (((((HBT.out.next HB1.out HO1.out).store (by simp) _).store (by simp) _).store (by simp) _).store (by simp) _).store (by simp) _⟩
      case measure => simp [intOf]; omega
    · go_wp2
      go_ret
      have e : j = n := by omega
      subst e
      exact ⟨rfl, hbl, u, s, hrow.congr fun i hi => by simp [partI, hi], hbt⟩

theorem toInosU {w : World} {v : Value} {ds : List ID} (h : Inos w v ds) (hn : sizeInos ds ≤ 1048576) :
    Calls Try.prog 16 #[v] w fun e w' => ∃ a n c, e = .returned (.slice a n c) ∧ Below w.heap.size w w' ∧ InosO w' (.slice a n c) ds (fresh w w') := by
  obtain ⟨a, cap, rfl, hm, hc⟩ := h.open'
  unfold sizeInos at hn
  refine (toInos_walk w a cap ds.length ds (by omega) (fun k => by have := isz_le ds k; omega) hc).mono fun e w' ⟨he, hb, u, s, hr, hbt⟩ => ⟨_, _, _, he, hb, ?_⟩
  exact BuiltI.inos ds hbt rfl ⟨hm.1, Nat.le_refl _⟩ (Nat.lt_succ_self _) hr _ ⟨Nat.le_refl _, hr.lt⟩ (fun c h1 h2 => ⟨by omega, h2⟩)

set_option maxHeartbeats 3200000 in
theorem eqInos_walk (w : World) (a a' : Option Addr) (cap cap' n : Nat) (ds : List ID) (hn : n ≤ maxLen) (hc : AtI w a n ds) (hc' : AtI w a' n ds) :
    Calls Try.prog 19 #[.slice a n cap, .slice a' n cap'] w fun e w' => e = .returned (.bool true) ∧ Below w.heap.size w w' := by
  unfold maxLen at hn
  have HC : Hid (AtI w a n ds) := hc
  have HC' : Hid (AtI w a' n ds) := hc'
  clear hc hc'
  go_enter Try.func19, Try.ntmps19
  go_wp2
  go_loopw [5] (fun i wr => ∃ k : Nat, k ≤ n ∧ i = .int .i64 k ∧ Below w.heap.size w wr) (fun i _ => n - (intOf i).toNat)
  case atStart => exact ⟨0, Nat.zero_le _, rfl, Below.refl _ _⟩
  case round =>
    obtain ⟨j, hj, rfl, hbl⟩ := hrel
    by_cases hlt : j < n
    · obtain ⟨b, o, rfl, hI⟩ := HC.out j hlt
      obtain ⟨b', o', rfl, hI'⟩ := HC'.out j hlt
      obtain ⟨aB, cB, aE, cE, c0, c1, c2, c3, c4, hR⟩ := hI.later hbl
      obtain ⟨aB', cB', aE', cE', d0, d1, d2, d3, d4, hR'⟩ := hI'.later hbl
      clear hI hI' HC HC'
      have HI : Hid (InoR wr _ _ _ _ _ (ds[j]?.getD id0)) := hR
      have HI' : Hid (InoR wr _ _ _ _ _ (ds[j]?.getD id0)) := hR'
      have HBL : Hid (Below w.heap.size w wr) := hbl
      clear hbl hR hR'
      generalize ds[j]?.getD id0 = d at *
      have HEQ : Hid (∀ W, Below wr.heap.size wr W → Calls Try.prog 13 #[.agg #[.int .i64 d.1, .int .i64 d.2.1, .int .i64 d.2.2.1, .slice aB d.2.2.2.1.length cB, .slice aE d.2.2.2.2.length cE], .agg #[.int .i64 d.1, .int .i64 d.2.1, .int .i64 d.2.2.1, .slice aB' d.2.2.2.1.length cB', .slice aE' d.2.2.2.2.length cE']] W fun e w' => e = .returned (.bool true) ∧ Below W.heap.size W w') := fun W hW => eqInodeU W _ _ _ _ _ _ _ _ _ _ d (HI.out.later hW) (HI'.out.later hW)
      clear HI HI'
      generalize d.2.2.2.1.length = m1 at *
      generalize d.2.2.2.2.length = m2 at *
      generalize d.1 = z0 at *
      generalize d.2.1 = z1 at *
      generalize d.2.2.1 = z2 at *
      go_wp2_with fail
      go_region_with ((go_at_call 13; refine (HEQ.out _ (Below.refl _ _).drew).mono ?_; rintro e w' ⟨rfl, hb2⟩))
      all_goals
        go_wp2
        go_roundw
        case rel => exact ⟨j + 1, by omega, by go_num, (HBL.out.drew).trans (hb2.mono HBL.out.size)⟩
        case measure => simp [intOf]; omega
    · go_wp2
      go_ret
      exact ⟨rfl, hbl⟩
theorem eqInosU {w : World} {v v' : Value} {ds : List ID} (h : Inos w v ds) (h' : Inos w v' ds) : Calls Try.prog 19 #[v, v'] w fun e w' => e = .returned (.bool true) ∧ Below w.heap.size w w' := by
  obtain ⟨a, cap, rfl, hm, hc⟩ := h.open'
  obtain ⟨a', cap', rfl, _, hc'⟩ := h'.open'
  exact eqInos_walk w a a' cap cap' ds.length ds hm.1 hc hc'
end Go.Proofs.Ytjbppdkijjfejak
