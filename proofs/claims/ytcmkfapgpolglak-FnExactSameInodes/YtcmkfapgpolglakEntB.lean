
/- The walks of the laws' functions over lists of entries. -/
import Derived.Test.YtcmkfapgpolglakRows
import Derived.Test.YtcmkfapgpolglakEntA
import Derived.Deep.RegionWith
import Derived.Deep.RegionHeld3
namespace Go.Proofs.Ytcmkfapgpolglak
open Go.RowKit

theorem Try.infoEnt : (Try.prog.info? 42).map (fun i => (i.zero, i.size, i.bytes)) = some (some (.agg #[.string ⟨#[]⟩, .int .i64 0]), 2, 24) := by kernel_rfl

set_option maxHeartbeats 400000 in
theorem szEnt_any (w : World) (s : ByteArray) (z left : Int) (hs : s.size ≤ maxLen) (h0 : 0 ≤ left) (h1 : left ≤ 1048576) :
    Calls Try.prog 18 #[.agg #[.string s, .int .i64 z], .int .i64 left] w fun e w' => e = .returned (.int .i64 (szf left s.size)) ∧ Below w.heap.size w w' := by
  unfold maxLen at hs
  by_cases h : left < (s.size : Int)
  · rw [szf_no h]
    have h' : left - (s.size : Int) < 0 := by omega
    go_enter Try.func18, Try.ntmps18
    go_wp2
    go_ret
    exact ⟨rfl, later1 _ _⟩
  · rw [szf_yes h]
    have h' : ¬ left - (s.size : Int) < 0 := by omega
    go_enter Try.func18, Try.ntmps18
    go_wp2
    go_ret
    exact ⟨rfl, later1 _ _⟩

set_option maxHeartbeats 800000 in
theorem szEnts_walk (w : World) (a : Option Addr) (n cap : Nat) (es : List EN) (left : Int) (h0 : 0 ≤ left) (h1 : left ≤ 1048576) (hl : es.length = n) (hn : n ≤ maxLen) (hz : ∀ k : Nat, (es[k]?.getD en0).1.size ≤ maxLen) (hc : AtN w a n es) :
    Calls Try.prog 10 #[.slice a n cap, .int .i64 left] w fun e w' => e = .returned (.int .i64 (szf left (sizeN es))) ∧ Below w.heap.size w w' := by
  have HC : Hid (AtN w a n es) := hc
  have HZ : Hid (∀ k : Nat, (es[k]?.getD en0).1.size ≤ maxLen) := hz
  have HS : Hid (sizeN es = n + (nlens es).sum) := by unfold Hid sizeN; rw [hl]
  have HL : Hid (es.length = n) := hl
  unfold maxLen at hn
  clear hc hz hl
  by_cases h : left < (n : Int)
  · rw [szf_no (by rw [HS.out]; omega)]
    have h' : left - (n : Int) < 0 := by omega
    go_enter Try.func10, Try.ntmps10
    go_wp2
    go_ret
    exact ⟨rfl, Below.refl _ _⟩
  · have h' : ¬ left - (n : Int) < 0 := by omega
    go_enter Try.func10, Try.ntmps10
    go_wp2
    go_loopw [1, 5] (fun q i wr => ∃ j : Nat, j ≤ n ∧ i = .int .i64 j ∧ q = .int .i64 (left - (n : Int) - (upto (nlens es) j : Nat)) ∧ 0 ≤ left - (n : Int) - (upto (nlens es) j : Nat) ∧ Below w.heap.size w wr) (fun _ i _ => n - (intOf i).toNat)
    case atStart => exact ⟨0, Nat.zero_le _, rfl, by rw [upto_zero]; simp, by rw [upto_zero]; simp; omega, Below.refl _ _⟩
    case round =>
      obtain ⟨j, hj, rfl, rfl, hge, hbl⟩ := hrel
      have HBL : Hid (Below w.heap.size w wr) := hbl
      clear hbl
      by_cases hlt : j < n
      · obtain ⟨b, off, rfl, c0, c1⟩ := HC.out j hlt
        replace c0 := cell_later HBL.out c0
        replace c1 := cell_later HBL.out c1
        have HNX : Hid (upto (nlens es) (j + 1) = upto (nlens es) j + (es[j]?.getD en0).1.size) := by unfold Hid; rw [upto_succ _ _ (by rw [nlens_length, HL.out]; exact hlt), nlens_get]
        have HSZ : Hid ((es[j]?.getD en0).1.size ≤ maxLen) := HZ.out j
        have HUP : Hid (upto (nlens es) (j + 1) ≤ (nlens es).sum) := upto_le _ _
        generalize hL : left - (n : Int) - ((upto (nlens es) j : Nat) : Int) = L at *
        have HLL : Hid (left - (n : Int) - ((upto (nlens es) j : Nat) : Int) = L) := hL
        have hL1 : L ≤ 1048576 := by omega
        clear hL
        generalize (es[j]?.getD en0).1 = s at *
        generalize (es[j]?.getD en0).2 = z at *
        by_cases hs : L < (s.size : Int)
        · have HR : Hid (szf L s.size = -1) := szf_no hs
          have HM : Hid (szf left (sizeN es) = -1) := szf_no (by rw [HS.out]; have := HNX.out; have := HUP.out; have := HLL.out; omega)
          clear hs
          go_wp2_with fail
          refine (szEnt_any _ s z L HSZ.out hge hL1).mono ?_
          rw [HR.out]
          rintro e w1 ⟨rfl, hb1⟩
          have HB1 : Hid (Below w.heap.size w w1) := HBL.out.trans (hb1.mono HBL.out.size)
          clear hb1
          go_wp2
          go_ret
          exact ⟨ret_int HM.out.symm, HB1.out⟩
        · have HR : Hid (szf L s.size = L - (s.size : Int)) := szf_yes hs
          have hs' : ¬ L - (s.size : Int) < 0 := by omega
          have HE : Hid (left - (n : Int) - ((upto (nlens es) (j + 1) : Nat) : Int) = L - (s.size : Int)) := by unfold Hid; rw [HNX.out]; have := HLL.out; omega
          clear hs
          go_wp2_with fail
          refine (szEnt_any _ s z L HSZ.out hge hL1).mono ?_
          rw [HR.out]
          rintro e w1 ⟨rfl, hb1⟩
          have HB1 : Hid (Below w.heap.size w w1) := HBL.out.trans (hb1.mono HBL.out.size)
          clear hb1
          go_wp2
          go_roundw
          case rel => exact ⟨j + 1, by omega, by go_num, by rw [HE.out], by rw [HE.out]; omega, HB1.out⟩
          case measure => simp [intOf]; omega
      · have e : j = n := by omega
        have HE : Hid (left - (n : Int) - ((upto (nlens es) j : Nat) : Int) = szf left (sizeN es)) := by
          unfold Hid
          have h2 : upto (nlens es) j = (nlens es).sum := by rw [e, ← HL.out, ← nlens_length]; exact upto_all _
          rw [szf_yes (by rw [HS.out]; omega), HS.out]; omega
        go_wp2
        go_ret
        exact ⟨ret_int HE.out, HBL.out⟩
theorem szEnts_any {w : World} {v : Value} {es : List EN} (h : Ents w v es) (left : Int) (h0 : 0 ≤ left) (h1 : left ≤ 1048576) :
    Calls Try.prog 10 #[v, .int .i64 left] w fun e w' => e = .returned (.int .i64 (szf left (sizeN es))) ∧ Below w.heap.size w w' := by
  obtain ⟨a, cap, rfl, hm, hz, hc⟩ := h.open'
  exact szEnts_walk w a _ cap es left h0 h1 rfl hm hz hc

theorem toEnt_any (w : World) (s : ByteArray) (z : Int) :
    Calls Try.prog 20 #[.agg #[.string s, .int .i64 z]] w fun e w' => e = .returned (.agg #[.string s, .int .i64 z]) ∧ Below w.heap.size w w' := by
  go_enter Try.func20, Try.ntmps20
  go_wp2
  exact bodyPost_ret (v := .agg #[.string s, .int .i64 z]) (by simp [results, Try.results20, go_sem]) rfl ⟨rfl, later3 _ _ _ _⟩

set_option maxHeartbeats 800000 in
theorem toEnts_walk (w : World) (a : Option Addr) (cap n : Nat) (es : List EN) (hn : n ≤ 1048576) (hc : AtN w a n es) :
    Calls Try.prog 13 #[.slice a n cap] w fun e w' => e = .returned (.slice (some ⟨w.heap.size, 0, none⟩) n n) ∧ Below w.heap.size w w' ∧ OwnRow w' w.heap.size (n * 2) (enCell es) := by
  have hmk := fun w => run_make_pair (P := Try.prog) 28 42 (.string ⟨#[]⟩) (.int .i64 0) 24 Try.underlying28 Try.infoEnt rfl .i64 .i64 n (by omega) (by omega) w
  have HC : Hid (AtN w a n es) := hc
  clear hc
  go_enter Try.func13, Try.ntmps13
  go_wp2
  clear hmk
  go_loopw [4] (fun i wr => ∃ j : Nat, j ≤ n ∧ i = .int .i64 j ∧ Below w.heap.size w wr ∧ OwnRow wr w.heap.size (n * 2) (partN es j)) (fun i _ => n - (intOf i).toNat)
  case atStart => exact ⟨0, Nat.zero_le _, rfl, later1 _ _, (OwnRow.madePair w (.string ⟨#[]⟩) (.int .i64 0) n 42).congr fun i _ => by simp [partN]⟩
  case round =>
    obtain ⟨j, hj, rfl, hbl, hrow⟩ := hrel
    by_cases hlt : j < n
    · obtain ⟨b, off, rfl, c0, c1⟩ := HC.out j hlt
      replace c0 := cell_later hbl c0
      replace c1 := cell_later hbl c1
      have HBL : Hid (Below w.heap.size w wr) := hbl
      have HROW : Hid (OwnRow wr w.heap.size (n * 2) (partN es j)) := hrow
      have NX : ∀ c, (if c = j * 2 + 1 then .int .i64 (es[j]?.getD en0).2 else (if c = j * 2 then .string (es[j]?.getD en0).1 else partN es j c)) = partN es (j + 1) c := partN_next es j
      generalize (es[j]?.getD en0).1 = x at c0 NX
      generalize (es[j]?.getD en0).2 = y at c1 NX
      have HNX : Hid (∀ c, (if c = j * 2 + 1 then .int .i64 y else (if c = j * 2 then .string x else partN es j c)) = partN es (j + 1) c) := NX
      clear hbl hrow NX
      go_wp2_with fail
      refine (toEnt_any _ x y).mono ?_
      rintro e w1 ⟨rfl, hb1⟩
      have HB1 : Hid (Below wr.heap.size wr w1) := hb1
      have HROW1 : Hid (OwnRow w1 w.heap.size (n * 2) (partN es j)) := HROW.out.block (hb1.block _ HROW.out.lt)
      have d0 : w1.cell? ⟨w.heap.size, j * 2, none⟩ = some (.string ⟨#[]⟩) := by rw [HROW1.out.cell (by omega)]; simp [partN, pairCell]
      have d1 : w1.cell? ⟨w.heap.size, j * 2 + 1, none⟩ = some (.int .i64 0) := by rw [HROW1.out.cell (by omega)]; unfold partN pairCell; rw [if_neg (by omega), if_neg (by omega)]
      have f0 := HROW1.out.frozen (j * 2)
      have f1 := HROW1.out.frozen (j * 2 + 1)
      clear hb1
      go_wp2
      go_roundw
      case rel =>
        refine ⟨j + 1, by omega, by go_num, ((HBL.out.trans (HB1.out.mono HBL.out.size)).setCell (Nat.le_refl _) _).setCell (Nat.le_refl _) _, ((HROW1.out.set (j * 2) _).set (j * 2 + 1) _).congr fun c _ => HNX.out c⟩
      case measure => simp [intOf]; omega
    · go_wp2
      go_ret
      have e : j = n := by omega
      subst e
      exact ⟨rfl, hbl, hrow.congr fun i hi => by simp [partN, hi]⟩
theorem toEntsU {w : World} {v : Value} {es : List EN} (h : Ents w v es) (hn : es.length ≤ 1048576) :
    Calls Try.prog 13 #[v] w fun e w' => ∃ a n c, e = .returned (.slice a n c) ∧ Below w.heap.size w w' ∧ EntsO w' (.slice a n c) es (fresh w w') := by
  obtain ⟨a, cap, rfl, hm, hz, hc⟩ := h.open'
  exact (toEnts_walk w a cap es.length es hn hc).mono fun e w' ⟨he, hb, hr⟩ => ⟨_, _, _, he, hb, Or.inr ⟨w.heap.size, _, ⟨Nat.le_refl _, hr.lt⟩, rfl, ⟨hm, Nat.le_refl _, hz⟩, hr⟩⟩

theorem eqEnt_true (w : World) (s : ByteArray) (z : Int) :
    Calls Try.prog 21 #[.agg #[.string s, .int .i64 z], .agg #[.string s, .int .i64 z]] w fun e w' => e = .returned (.bool true) ∧ Below w.heap.size w w' := by
  have h0 : (s.toList != s.toList) = false := by simp
  have h2 : (z != z) = false := by simp
  go_enter Try.func21, Try.ntmps21
  go_wp2
  go_ret
  exact ⟨rfl, later2 _ _ _⟩

set_option maxHeartbeats 800000 in
theorem eqEnts_walk (w : World) (a a' : Option Addr) (cap cap' n : Nat) (es : List EN) (hn : n ≤ maxLen) (hc : AtN w a n es) (hc' : AtN w a' n es) :
    Calls Try.prog 17 #[.slice a n cap, .slice a' n cap'] w fun e w' => e = .returned (.bool true) ∧ Below w.heap.size w w' := by
  unfold maxLen at hn
  have HC : Hid (AtN w a n es) := hc
  have HC' : Hid (AtN w a' n es) := hc'
  clear hc hc'
  go_enter Try.func17, Try.ntmps17
  go_wp2
  go_loopw [5] (fun i wr => ∃ k : Nat, k ≤ n ∧ i = .int .i64 k ∧ Below w.heap.size w wr) (fun i _ => n - (intOf i).toNat)
  case atStart => exact ⟨0, Nat.zero_le _, rfl, Below.refl _ _⟩
  case round =>
    obtain ⟨j, hj, rfl, hbl⟩ := hrel
    by_cases hlt : j < n
    · obtain ⟨b, off, rfl, c0, c1⟩ := HC.out j hlt
      obtain ⟨b', off', rfl, d0, d1⟩ := HC'.out j hlt
      replace c0 := cell_later hbl c0
      replace c1 := cell_later hbl c1
      replace d0 := cell_later hbl d0
      replace d1 := cell_later hbl d1
      generalize (es[j]?.getD en0).1 = x at c0 d0
      generalize (es[j]?.getD en0).2 = y at c1 d1
      have HBL : Hid (Below w.heap.size w wr) := hbl
      clear hbl
      go_wp2_with fail
      go_region_with ((go_at_call 21; refine (eqEnt_true _ x y).mono ?_; rintro e w' ⟨rfl, hb2⟩))
      all_goals
        go_wp2
        go_roundw
        case rel => exact ⟨j + 1, by omega, by go_num, (HBL.out.drew).trans (hb2.mono HBL.out.size)⟩
        case measure => simp [intOf]; omega
    · go_wp2
      go_ret
      exact ⟨rfl, hbl⟩
theorem eqEntsU {w : World} {v v' : Value} {es : List EN} (h : Ents w v es) (h' : Ents w v' es) : Calls Try.prog 17 #[v, v'] w fun e w' => e = .returned (.bool true) ∧ Below w.heap.size w w' := by
  obtain ⟨a, cap, rfl, hm, _, hc⟩ := h.open'
  obtain ⟨a', cap', rfl, _, hc'⟩ := h'
  exact eqEnts_walk w a a' cap cap' es.length es hm hc hc'
end Go.Proofs.Ytcmkfapgpolglak
