
/- The program's JoinPath. -/
import Derived.Test.YtcmkfapgpolglaaJnA
import Derived.Test.YtcmkfapgpolglaaJoinA
namespace Go.Proofs.Ytcmkfapgpolglaa
open Go.RowKit
set_option maxRecDepth 100000

set_option maxHeartbeats 1600000 in
theorem implJoin_many (w : World) (a : Option Addr) (n c : Nat) (hn : 6 < n) :
    Calls Try.prog 36 #[.slice a n c] w fun e w' => e = .returned (.agg #[.int .i64 2, .string ⟨#[]⟩]) ∧ Below w.heap.size w w' := by
  have h6 : decide ((6 : Int) < (n : Int)) = true := by simp; omega
  go_enter Try.func36, Try.ntmps36
  go_wp2
  exact bodyPost_ret (v := .agg #[.int .i64 2, .string ⟨#[]⟩]) (by simp [results, Try.results36, go_sem]) rfl ⟨rfl, by first | exact later1 _ _ | exact later2 _ _ _⟩

theorem str_bytes (x : List UInt8) : Lib.strCells (mkB x) = Lib.byteCells x := by unfold Lib.strCells Lib.byteCells; rw [mkB_list]
theorem join_cells {xs : List (List UInt8)} {j : Nat} (h : j < xs.length) : Lib.byteCells (joinL (xs.take j)) ++ [.int .u8 47] ++ Lib.strCells (mkB (xs[j]?.getD [])) = Lib.byteCells (joinL (xs.take (j + 1))) := by
  rw [joinL_step h, str_bytes, Lib.byteCells_append]
  simp [Lib.byteCells]

set_option maxHeartbeats 3200000 in
theorem implJoin_few (w : World) (a : Option Addr) (n c : Nat) (xs : List (List UInt8)) (hl : xs.length = n) (hn : n ≤ 6) (hx : ∀ k : Nat, (xs[k]?.getD []).length ≤ 1048576) (hat : AtT w a n xs) :
    Calls Try.prog 36 #[.slice a n c] w fun e w' => e = .returned (.agg #[.int .i64 (namesF xs), .string (mkB (if namesF xs = 0 then joinT xs else []))]) ∧ Below w.heap.size w w' := by
  have h6 : decide ((6 : Int) < (n : Int)) = false := by simp; omega
  have HAT : Hid (AtT w a n xs) := hat
  have HL : Hid (xs.length = n) := hl
  have HX : Hid (∀ k : Nat, (xs[k]?.getD []).length ≤ 1048576) := hx
  clear hl hx hat
  have HNF : Hid (∀ (W : World) (Bn : Nat), Below w.heap.size w W → Bn < W.heap.size → W.cell? ⟨Bn, 0, none⟩ = some (.slice a n c) → Calls Try.prog 88 #[.func (.func 116) #[] #[.pointer (some ⟨Bn, 0, none⟩)]] W fun e w' => e = .returned (.int .i64 (namesF xs)) ∧ Below W.heap.size W w') := fun W Bn hW h1 h2 => valsFault_any W Bn a n c xs HL.out (by omega) HX.out (HAT.out.later hW) h1 h2
  have HC1 : Hid (((w.alloc (Obj.cells #[.int .i64 0, .string ⟨#[]⟩] 69)).alloc (Obj.cells #[.slice a n c] 64)).cell? ⟨w.heap.size + 1, 0, none⟩ = some (.slice a n c)) := by
    have := (cell_new_l (w.alloc (Obj.cells #[.int .i64 0, .string ⟨#[]⟩] 69)) (.slice a n c) 64).1
    rwa [World.size_alloc] at this
  have HRB : Hid (OwnRow ((w.alloc (Obj.cells #[.int .i64 0, .string ⟨#[]⟩] 69)).alloc (Obj.cells #[.slice a n c] 64)) w.heap.size 2 (fun i => if i = 0 then .int .i64 0 else .string ⟨#[]⟩)) := (OwnRow.newS w (.int .i64 0) (.string ⟨#[]⟩) 69).later (later1 _ _)
  by_cases hf : namesF xs = 0
  rotate_left
  · rw [if_neg hf]
    have HF : Hid (¬ namesF xs = 0) := hf
    clear hf
    generalize namesF xs = z at *
    have hz : (z != 0) = true := by simpa using HF.out
    go_enter Try.func36, Try.ntmps36
    go_wp2_with fail
    refine (values_any _ a n c).mono ?_
    rintro e w1 ⟨rfl, rfl⟩
    go_wp2_with fail
    refine (HNF.out _ (w.heap.size + 1) (later2 _ _ _) (by simp) HC1.out).mono ?_
    rintro e w2 ⟨rfl, hb2⟩
    have HB2 : Hid (Below w.heap.size w w2) := (later2 _ _ _).trans (hb2.mono (by simp; omega))
    have hrow := HRB.out.later hb2
    have t0 := hrow.cell (i := 0) (by omega)
    have t1 := hrow.cell (i := 1) (by omega)
    have s0 := hrow.frozen 0
    have s1 := hrow.frozen 1
    simp at t0 t1
    clear hb2 hrow
    go_wp2
    exact bodyPost_ret (v := .agg #[.int .i64 z, .string ⟨#[]⟩]) (by simp [results, Try.results36, go_sem, t0, t1]) rfl ⟨rfl, (HB2.out.setCell (by simp) _).setCell (by simp) _⟩
  · rw [if_pos hf, hf]
    rw [hf] at HNF
    clear hf
    by_cases h0 : n = 0
    · subst h0
      have hxs : xs = [] := List.eq_nil_of_length_eq_zero HL.out
      have HJ : Hid (joinT xs = [47]) := by unfold Hid; rw [hxs]; rfl
      rw [HJ.out]
      go_enter Try.func36, Try.ntmps36
      go_wp2_with fail
      refine (values_any _ a 0 c).mono ?_
      rintro e w1 ⟨rfl, rfl⟩
      go_wp2_with fail
      refine (HNF.out _ (w.heap.size + 1) (later2 _ _ _) (by simp) HC1.out).mono ?_
      rintro e w2 ⟨rfl, hb2⟩
      have HB2 : Hid (Below w.heap.size w w2) := (later2 _ _ _).trans (hb2.mono (by simp; omega))
      have hrow := HRB.out.later hb2
      have t0 := hrow.cell (i := 0) (by omega)
      have t1 := hrow.cell (i := 1) (by omega)
      have s0 := hrow.frozen 0
      have s1 := hrow.frozen 1
      simp at t0 t1
      clear hb2 hrow
      go_wp2
      exact bodyPost_ret (v := .agg #[.int .i64 0, .string (mkB [47])]) (by simp [results, Try.results36, go_sem, t0, t1, mkB]) rfl ⟨rfl, (HB2.out.setCell (by simp) _).setCell (by simp) _⟩
    · have hn0 : ((n : Int) == 0) = false := by simp; omega
      have HJ : Hid (joinL xs ≠ []) := by
        unfold Hid
        cases hx : xs with
        | nil => rw [hx] at HL; exact absurd HL.out.symm h0
        | cons y ys => simp [joinL]
      have HJT : Hid (joinT xs = joinL xs) := by unfold Hid joinT; rw [if_neg HJ.out]
      rw [HJT.out]
      clear h0
      go_enter Try.func36, Try.ntmps36
      go_wp2_with fail
      refine (values_any _ a n c).mono ?_
      rintro e w1 ⟨rfl, rfl⟩
      go_wp2_with fail
      refine (HNF.out _ (w.heap.size + 1) (later2 _ _ _) (by simp) HC1.out).mono ?_
      rintro e w2 ⟨rfl, hb2⟩
      have HB2 : Hid (Below w.heap.size w w2) := (later2 _ _ _).trans (hb2.mono (by simp; omega))
      have HROW : Hid (OwnRow w2 w.heap.size 2 (fun i => if i = 0 then .int .i64 0 else .string ⟨#[]⟩)) := HRB.out.later hb2
      have hlt2 := HROW.out.lt
      clear hb2 HRB HC1 HNF
      go_wp2
      go_loopw [24] (fun i wr => ∃ j : Nat, j ≤ n ∧ i = .int .i64 j ∧ Below w2.heap.size w2 wr ∧ BldP w2.heap.size w2.heap.size (Lib.byteCells (joinL (xs.take j))) wr) (fun i _ => n - (intOf i).toNat)
      case atStart => exact ⟨0, Nat.zero_le _, rfl, later1 _ _, Lib.fresh_isBuilder 135 5 w2⟩
      case round =>
        obtain ⟨j, hj, rfl, hbl, hbd⟩ := hrel
        have HBL : Hid (Below w2.heap.size w2 wr) := hbl
        have HBW : Hid (Below w.heap.size w wr) := HB2.out.trans (hbl.mono HB2.out.size)
        have HBD : Hid (BldP w2.heap.size w2.heap.size (Lib.byteCells (joinL (xs.take j))) wr) := hbd
        clear hbl hbd
        by_cases hlt : j < n
        · obtain ⟨b1, off, rfl, e1⟩ := HAT.out j hlt
          replace e1 := cell_later HBW.out e1
          have HJC : Hid (Lib.byteCells (joinL (xs.take j)) ++ [.int .u8 47] ++ Lib.strCells (mkB (xs[j]?.getD [])) = Lib.byteCells (joinL (xs.take (j + 1)))) := join_cells (by rw [HL.out]; exact hlt)
          have HLN : Hid ((Lib.byteCells (joinL (xs.take j))).length ≤ 6291462) := by
            unfold Hid
            rw [Lib.byteCells_length]
            have h1 := joinL_len (j := j) HX.out (by rw [HL.out]; omega)
            have h2 : j * (1048576 + 1) ≤ 6 * (1048576 + 1) := Nat.mul_le_mul_right _ (by omega)
            omega
          have HXJ : Hid ((mkB (xs[j]?.getD [])).size ≤ 1048576) := by unfold Hid; rw [mkB_size]; exact HX.out j
          generalize Lib.byteCells (joinL (xs.take j)) = bs at *
          generalize mkB (xs[j]?.getD []) = x at *
          go_wp2_with fail
          refine (writeByte_any w2.heap.size w2.heap.size bs 47 _ HBD.out (by have := HLN.out; omega) HBL.out.size).mono ?_
          rintro e w3 ⟨rfl, hbd3, hb3⟩
          have HBD3 : Hid (BldP w2.heap.size w2.heap.size (bs ++ [.int .u8 47]) w3) := Or.inr hbd3
          have HB3 : Hid (Below w2.heap.size w2 w3) := HBL.out.trans hb3
          clear hbd3 hb3
          go_wp2_with fail
          refine (writeString_any w2.heap.size w2.heap.size (bs ++ [.int .u8 47]) x _ HBD3.out (by simp; have := HLN.out; omega) HXJ.out HB3.out.size).mono ?_
          rintro e w4 ⟨rfl, hbd4, hb4⟩
          have HBD4 : Hid (BldP w2.heap.size w2.heap.size (Lib.byteCells (joinL (xs.take (j + 1)))) w4) := by unfold Hid; rw [← HJC.out]; exact Or.inr hbd4
          have HB4 : Hid (Below w2.heap.size w2 w4) := HB3.out.trans hb4
          clear hbd4 hb4
          go_wp2
          go_roundw
          case rel => exact ⟨j + 1, by omega, by go_num, HB4.out, HBD4.out⟩
          case measure => simp [intOf]; omega
        · have HTK : Hid (xs.take j = xs) := List.take_of_length_le (by rw [HL.out]; omega)
          rw [HTK.out] at HBD
          obtain ⟨p, hp⟩ : ∃ p, Bld w2.heap.size w2.heap.size p (Lib.byteCells (joinL xs)) wr := HBD.out.elim (fun h => ⟨_, h⟩) (fun h => ⟨_, h⟩)
          have HP : Hid (Bld w2.heap.size w2.heap.size p (Lib.byteCells (joinL xs)) wr) := hp
          clear hp
          go_wp2_with fail
          refine (bldText_any w2.heap.size w2.heap.size p (joinL xs) _ HP.out HJ.out).mono ?_
          rintro e w5 ⟨rfl, hb5⟩
          have HB5 : Hid (Below w2.heap.size w2 w5) := HBL.out.trans hb5
          have HB6 : Hid (Below w.heap.size w w5) := HB2.out.trans (HB5.out.mono HB2.out.size)
          have hrow := HROW.out.later HB5.out
          have t0 := hrow.cell (i := 0) (by omega)
          have t1 := hrow.cell (i := 1) (by omega)
          have s0 := hrow.frozen 0
          have s1 := hrow.frozen 1
          simp at t0 t1
          clear hb5 hrow
          go_wp2
          exact bodyPost_ret (v := .agg #[.int .i64 0, .string (mkB (joinL xs))]) (by simp [results, Try.results36, go_sem, t0, t1]) rfl ⟨rfl, (HB6.out.setCell (by simp) _).setCell (by simp) _⟩
end Go.Proofs.Ytcmkfapgpolglaa
