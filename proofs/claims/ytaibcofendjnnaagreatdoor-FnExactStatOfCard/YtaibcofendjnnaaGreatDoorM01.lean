/- The walks of the laws' functions over bytes and lists of bytes. The walks of the marking and holding functions over slices. Bytes and lists of bytes are marked, and the marks are held. NameFault, the specification's and the program's: what both come to. Texts as lists of bytes: cut at each slash. No program is named here but for slicing. The library's IndexByte, laid from the shelf. The iterator that tells the names of a path: its contract. Ranges over the names of a path: howMany. -/
import Derived.Test.YtaibcofendjnnaaGreatDoorM00
import Derived.Test.YtaibcofendjnnaaGreatDoorRows
import Derived.Lib.Bytealg
import Derived.Shelf.Small.Strs
import Derived.Shelf.Strings.Search1
import Derived.RangeFuncNested
import Derived.RangeFuncBound
import Derived.RangeFuncCalls
import Derived.RangeFuncLeaves
import Derived.RangeFuncFrom
import Derived.Shelf.Abstract
import Derived.Shelf.RegionOpen
import Derived.WalkKit
import Derived.OwnWalkIn
import Derived.TacticsInMore
import Derived.LoopNIn
import Derived.LoopIn
namespace Go.Proofs.YtaibcofendjnnaaGreatDoor
open Go.RowKit
set_option maxRecDepth 100000

theorem Tryz.infoU8 : (Tryz.prog.info? 5).map (fun i => (i.zero, i.size, i.bytes)) = some (some (.int .u8 0), 1, 1) := by kernel_rfl
theorem Tryz.infoU8s : (Tryz.prog.info? 41).map (fun i => (i.zero, i.size, i.bytes)) = some (some (.slice none 0 0), 1, 24) := by kernel_rfl

set_option maxHeartbeats 400000 in
theorem szByt_walk (w : World) (a : Option Addr) (n cap : Nat) (left : Int) (h0 : 0 ≤ left) (h1 : left ≤ 1048576) (hn : n ≤ maxLen) :
    Calls Tryz.prog 53 #[.slice a n cap, .int .i64 left] w fun e w' => e = .returned (.int .i64 (szf left n)) ∧ w' = w := by
  unfold maxLen at hn
  by_cases h : left < (n : Int)
  · rw [szf_no h]
    have h' : left - (n : Int) < 0 := by omega
    go_enter Tryz.func53, Tryz.ntmps53
    go_wp2
    go_ret
    exact ⟨rfl, rfl⟩
  · rw [szf_yes h]
    have h' : ¬ left - (n : Int) < 0 := by omega
    go_enter Tryz.func53, Tryz.ntmps53
    go_wp2
    go_ret
    exact ⟨rfl, rfl⟩
theorem szBytU {w : World} {v : Value} {zs : List UInt8} (h : Byt w v zs) (left : Int) (h0 : 0 ≤ left) (h1 : left ≤ 1048576) :
    Calls Tryz.prog 53 #[v, .int .i64 left] w fun e w' => e = .returned (.int .i64 (szf left zs.length)) ∧ w' = w := by
  obtain ⟨a, cap, rfl, hn, _⟩ := h
  exact szByt_walk w a _ cap left h0 h1 hn.1

set_option maxHeartbeats 400000 in
theorem szByts_many (w : World) (a : Option Addr) (n cap : Nat) (left : Int) (h0 : 0 ≤ left) (h1 : left ≤ 1048576) (hn : n ≤ maxLen) (h : left < (n : Int)) :
    Calls Tryz.prog 25 #[.slice a n cap, .int .i64 left] w fun e w' => e = .returned (.int .i64 (-1)) ∧ w' = w := by
  unfold maxLen at hn
  have h' : left - (n : Int) < 0 := by omega
  go_enter Tryz.func25, Tryz.ntmps25
  go_wp2
  go_ret
  exact ⟨rfl, rfl⟩
set_option maxHeartbeats 800000 in
theorem szByts_walk (w : World) (a : Option Addr) (cap n : Nat) (left : Int) (zss : List (List UInt8)) (hzn : zss.length = n) (h0 : 0 ≤ left) (h1 : left ≤ 1048576) (h2 : ¬ left < (n : Int)) (hc : AtYs w a n zss) :
    Calls Tryz.prog 25 #[.slice a n cap, .int .i64 left] w fun e w' => e = .returned (.int .i64 (szf left (n + (ylens zss).sum))) ∧ w' = w := by
  have HN : Hid (zss.length = n) := hzn
  have HC : Hid (AtYs w a n zss) := hc
  have h2' : ¬ left - (n : Int) < 0 := by omega
  clear hzn hc
  go_enter Tryz.func25, Tryz.ntmps25
  go_wp2
  go_loop [1, 5] (fun q i => ∃ j : Nat, j ≤ n ∧ i = .int .i64 j ∧ q = .int .i64 (left - (n : Int) - (upto (ylens zss) j : Nat)) ∧ 0 ≤ left - (n : Int) - (upto (ylens zss) j : Nat)) (fun _ i => n - (intOf i).toNat)
  case atStart => exact ⟨0, Nat.zero_le _, rfl, by simp [upto_zero], by simp [upto_zero]; omega⟩
  case round =>
    obtain ⟨j, hj, rfl, rfl, hq⟩ := hrel
    by_cases hlt : j < n
    · obtain ⟨b, off, ua, uc, rfl, c1, i1⟩ := HC.out j hlt
      clear HC
      have hs := upto_succ (ylens zss) j (by rw [ylens_length, HN.out]; exact hlt)
      rw [ylens_get] at hs
      have hle := upto_le (ylens zss) (j + 1)
      have HS : Hid (upto (ylens zss) (j + 1) = upto (ylens zss) j + (zss[j]?.getD []).length) := hs
      clear hs
      generalize upto (ylens zss) j = U at *
      have HI : Hid (Byt w (.slice ua (zss[j]?.getD []).length uc) (zss[j]?.getD [])) := i1
      clear i1
      by_cases hm : left - (n : Int) - (U : Int) < ((zss[j]?.getD []).length : Int)
      · have HM : Hid (szf left (n + (ylens zss).sum) = -1) := szf_no (by have := HS.out; omega)
        have HR' : Hid (szf (left - (n : Int) - (U : Int)) (zss[j]?.getD []).length = -1) := szf_no hm
        go_wp2_with fail
        refine (szBytU HI.out _ hq (by omega)).mono ?_
        rw [HR'.out]
        rintro e w' ⟨rfl, rfl⟩
        go_wp2
        go_ret
        exact ⟨ret_int HM.out.symm, rfl⟩
      · have HR' : Hid (szf (left - (n : Int) - (U : Int)) (zss[j]?.getD []).length = left - (n : Int) - (U : Int) - ((zss[j]?.getD []).length : Int)) := szf_yes hm
        have hpos : ¬ (left - (n : Int) - (U : Int) - ((zss[j]?.getD []).length : Int) < 0) := by omega
        go_wp2_with fail
        refine (szBytU HI.out _ hq (by omega)).mono ?_
        rw [HR'.out]
        rintro e w' ⟨rfl, rfl⟩
        go_wp2
        go_round
        case rel => exact ⟨j + 1, by omega, by go_num, by rw [HS.out]; go_num, by rw [HS.out]; omega⟩
        case measure => simp [intOf]; omega
    · go_wp2
      go_ret
      have e : j = n := by omega
      subst e
      have ha := upto_all (ylens zss)
      rw [ylens_length, HN.out] at ha
      refine ⟨ret_int ?_, rfl⟩
      rw [ha] at hq ⊢
      rw [szf_yes (by omega)]
      omega
theorem szBytsU (w : World) (a : Option Addr) (n c : Nat) (d : List (List UInt8)) (h : Byts w (.slice a n c) d) (left : Int) (l0 : 0 ≤ left) (l1 : left ≤ 1048576) :
    Calls Tryz.prog 25 #[.slice a n c, .int .i64 left] w fun e w' => e = .returned (.int .i64 (szf left (sizeByts d))) ∧ Below w.heap.size w w' := by
  obtain ⟨a', cap, e, hm, hc⟩ := h.open'
  simp only [Value.slice.injEq] at e
  obtain ⟨rfl, rfl, rfl⟩ := e
  by_cases h : left < (d.length : Int)
  · refine (szByts_many w _ d.length _ left l0 l1 hm.1 h).mono fun e w' ⟨he, hw⟩ => ⟨he.trans (ret_int ?_), hw ▸ Below.refl _ _⟩
    rw [szf_no (by unfold sizeByts; omega)]
  · exact (szByts_walk w _ _ d.length left d rfl l0 l1 h hc).mono fun e w' ⟨he, hw⟩ => ⟨he, hw ▸ Below.refl _ _⟩

set_option maxHeartbeats 400000 in
theorem toByt_walk (w : World) (a : Option Addr) (cap n : Nat) (zs : List UInt8) (hn : n ≤ 1048576) (hc : AtY w a n zs) :
    Calls Tryz.prog 60 #[.slice a n cap] w fun e w' => e = .returned (.slice (some ⟨w.heap.size, 0, none⟩) n n) ∧ Below w.heap.size w w' ∧ OwnRow w' w.heap.size n (fun i => .int .u8 (((zs[i]?.getD 0).toNat : Nat) : Int)) := by
  have hmk := fun w => run_make_row' (P := Tryz.prog) 41 5 (.int .u8 0) 1 Tryz.underlying41 Tryz.infoU8 rfl .i64 .i64 n (by omega) (by omega) w
  have HC : Hid (AtY w a n zs) := hc
  clear hc
  go_enter Tryz.func60, Tryz.ntmps60
  go_wp2
  clear hmk
  go_loopw [4] (fun i wr => ∃ j : Nat, j ≤ n ∧ i = .int .i64 j ∧ Below w.heap.size w wr ∧ OwnRow wr w.heap.size n (fun i => if i < j then .int .u8 (((zs[i]?.getD 0).toNat : Nat) : Int) else .int .u8 0)) (fun i _ => n - (intOf i).toNat)
  case atStart => exact ⟨0, Nat.zero_le _, rfl, later1 _ _, (OwnRow.made w (.int .u8 0) n 5).congr fun i _ => by simp⟩
  case round =>
    obtain ⟨j, hj, rfl, hbl, hrow⟩ := hrel
    by_cases hlt : j < n
    · obtain ⟨b, off, rfl, c0⟩ := HC.out j hlt
      have c1 := cell_later hbl c0
      have d1 := hrow.cell hlt
      have d2 := hrow.frozen j
      simp only [Nat.lt_irrefl, if_false] at d1
      have HBL : Hid (Below w.heap.size w wr) := hbl
      have HROW : Hid (OwnRow wr w.heap.size n (fun i => if i < j then .int .u8 (((zs[i]?.getD 0).toNat : Nat) : Int) else .int .u8 0)) := hrow
      clear hbl hrow c0 HC
      go_wp2
      go_roundw
      case rel =>
        refine ⟨j + 1, by omega, by go_num, HBL.out.setCell (Nat.le_refl _) _, (HROW.out.set j _).congr fun i hi => ?_⟩
        by_cases e : i = j
        · subst e; simp
        · by_cases e2 : i < j
          · simp [e, e2, show i < j + 1 by omega]
          · simp [e, e2, show ¬ i < j + 1 by omega]
      case measure => simp [intOf]; omega
    · go_wp2
      go_ret
      have e : j = n := by omega
      subst e
      exact ⟨rfl, hbl, hrow.congr fun i hi => by simp [hi]⟩
theorem toBytU {w : World} {v : Value} {zs : List UInt8} (h : Byt w v zs) (hn : zs.length ≤ 1048576) :
    Calls Tryz.prog 60 #[v] w fun e w' => ∃ a n c, e = .returned (.slice a n c) ∧ Below w.heap.size w w' ∧ BytO w' (.slice a n c) zs (fresh w w') := by
  obtain ⟨a, cap, rfl, hm, hc⟩ := h
  refine (toByt_walk w a cap zs.length zs hn hc).mono fun e w' ⟨he, hb, hr⟩ => ⟨_, _, _, he, hb, Or.inr ⟨w.heap.size, _, ⟨Nat.le_refl _, hr.lt⟩, rfl, ⟨hm.1, Nat.le_refl _⟩, hr⟩⟩

set_option maxHeartbeats 800000 in
theorem toByts_walk (w : World) (a : Option Addr) (cap n : Nat) (zss : List (List UInt8)) (hn : n ≤ 1048576) (hz : ∀ k : Nat, (zss[k]?.getD []).length ≤ 1048576) (hc : AtYs w a n zss) :
    Calls Tryz.prog 30 #[.slice a n cap] w fun e w' => e = .returned (.slice (some ⟨w.heap.size, 0, none⟩) n n) ∧ Below w.heap.size w w' ∧
      ∃ u s, OwnRow w' w.heap.size n u ∧ BuiltY w' (w.heap.size + 1) n u (fun i => zss[i]?.getD []) s := by
  have hmk := fun w => run_make_row' (P := Tryz.prog) 23 41 (.slice none 0 0) 24 Tryz.underlying23 Tryz.infoU8s rfl .i64 .i64 n (by omega) (by omega) w
  have HZ : Hid (∀ k : Nat, (zss[k]?.getD []).length ≤ 1048576) := hz
  have HC : Hid (AtYs w a n zss) := hc
  clear hz hc
  go_enter Tryz.func30, Tryz.ntmps30
  go_wp2
  clear hmk
  go_loopw [4] (fun i wr => ∃ j : Nat, j ≤ n ∧ i = .int .i64 j ∧ Below w.heap.size w wr ∧ ∃ u s, OwnRow wr w.heap.size n (fun i => if i < j then u i else .slice none 0 0) ∧ BuiltY wr (w.heap.size + 1) j u (fun i => zss[i]?.getD []) s) (fun i _ => n - (intOf i).toNat)
  case atStart => exact ⟨0, Nat.zero_le _, rfl, later1 _ _, fun _ => .slice none 0 0, _, (OwnRow.made w (.slice none 0 0) n 41).congr fun i _ => by simp, BuiltY.nil _ _ (by simp)⟩
  case round =>
    obtain ⟨j, hj, rfl, hbl, u, s, hrow, hbt⟩ := hrel
    by_cases hlt : j < n
    · obtain ⟨b, off, ua, uc, rfl, c0, i0⟩ := HC.out j hlt
      have c1 := cell_later hbl c0
      have HI : Hid (Byt wr (.slice ua (zss[j]?.getD []).length uc) (zss[j]?.getD [])) := i0.later hbl
      have HBL : Hid (Below w.heap.size w wr) := hbl
      have HROW : Hid (OwnRow wr w.heap.size n (fun i => if i < j then u i else .slice none 0 0)) := hrow
      have HBT : Hid (BuiltY wr (w.heap.size + 1) j u (fun i => zss[i]?.getD []) s) := hbt
      clear c0 i0 hbl hrow hbt HC
      go_wp2_with fail
      refine (toBytU HI.out (HZ.out j)).mono ?_
      rintro e w1 ⟨na, nn, nc, rfl, hb1, ho1⟩
      have HB1 : Hid (Below wr.heap.size wr w1) := hb1
      have HO1 : Hid (BytO w1 (.slice na nn nc) (zss[j]?.getD []) (fresh wr w1)) := ho1
      have HROW1 : Hid (OwnRow w1 w.heap.size n (fun i => if i < j then u i else .slice none 0 0)) := HROW.out.block (hb1.block _ HROW.out.lt)
      have d1 := HROW1.out.cell hlt
      have d2 := HROW1.out.frozen j
      simp only [Nat.lt_irrefl, if_false] at d1
      clear hb1 ho1
      go_wp2
      go_roundw
      case rel =>
        refine ⟨j + 1, by omega, by go_num, (HBL.out.trans (HB1.out.mono HBL.out.size)).setCell (Nat.le_refl _) _, _, _, (HROW1.out.set j _).congr fun i hi => ?_, (HBT.out.next HB1.out HO1.out).store (by simp) _⟩
        by_cases e : i = j
        · subst e; simp
        · by_cases e2 : i < j
          · simp [e, e2, show i < j + 1 by omega]
          · simp [e, e2, show ¬ i < j + 1 by omega]
      case measure => simp [intOf]; omega
    · go_wp2
      go_ret
      have e : j = n := by omega
      subst e
      exact ⟨rfl, hbl, u, s, hrow.congr fun i hi => by simp [hi], hbt⟩
theorem toBytsU {w : World} {v : Value} {zss : List (List UInt8)} (h : Byts w v zss) (hn : sizeByts zss ≤ 1048576) :
    Calls Tryz.prog 30 #[v] w fun e w' => ∃ a n c, e = .returned (.slice a n c) ∧ Below w.heap.size w w' ∧ BytsO w' (.slice a n c) zss (fresh w w') := by
  obtain ⟨a, cap, rfl, hm, hc⟩ := h.open'
  unfold sizeByts at hn
  refine (toByts_walk w a cap zss.length zss (by omega) (fun k => by have := ylens_le zss k; omega) hc).mono fun e w' ⟨he, hb, u, s, hr, hbt⟩ => ⟨_, _, _, he, hb, ?_⟩
  exact BuiltY.byts zss hbt rfl ⟨hm.1, Nat.le_refl _⟩ (Nat.lt_succ_self _) hr _ ⟨Nat.le_refl _, hr.lt⟩ (fun c h1 h2 => ⟨by omega, h2⟩)

set_option maxHeartbeats 800000 in
theorem eqByt_walk (w : World) (a a' : Option Addr) (cap cap' n : Nat) (zs : List UInt8) (hn : n ≤ maxLen) (hc : AtY w a n zs) (hc' : AtY w a' n zs) :
    Calls Tryz.prog 43 #[.slice a n cap, .slice a' n cap'] w fun e w' => e = .returned (.bool true) ∧ ∃ m, w' = w.drewN m := by
  unfold maxLen at hn
  have HC : Hid (AtY w a n zs) := hc
  have HC' : Hid (AtY w a' n zs) := hc'
  clear hc hc'
  go_enter Tryz.func43, Tryz.ntmps43
  go_wp2
  go_loopw [5] (fun i wr => ∃ j m : Nat, j ≤ n ∧ i = .int .i64 j ∧ wr = w.drewN m) (fun i _ => n - (intOf i).toNat)
  case atStart => exact ⟨0, 0, Nat.zero_le _, rfl, rfl⟩
  case round =>
    obtain ⟨j, m, hj, rfl, rfl⟩ := hrel
    by_cases hlt : j < n
    · obtain ⟨b, o, rfl, d0⟩ := HC.out j hlt
      obtain ⟨b', o', rfl, d1⟩ := HC'.out j hlt
      have hz : ((((zs[j]?.getD 0).toNat : Nat) : Int) != (((zs[j]?.getD 0).toNat : Nat) : Int)) = false := by simp
      generalize ((((zs[j]?.getD 0).toNat : Nat) : Int)) = z at *
      clear HC HC'
      go_wp2_with fail
      go_quiet (fail)
      go_wp2
      go_roundw
      case rel => exact ⟨j + 1, _, by omega, by go_num, rfl⟩
      case measure => simp [intOf]; omega
    · go_wp2
      go_ret
      exact ⟨rfl, m, rfl⟩
theorem eqBytU {w : World} {v v' : Value} {zs : List UInt8} (h : Byt w v zs) (h' : Byt w v' zs) : Calls Tryz.prog 43 #[v, v'] w fun e w' => e = .returned (.bool true) ∧ ∃ m, w' = w.drewN m := by
  obtain ⟨a, cap, rfl, hm, hc⟩ := h
  obtain ⟨a', cap', rfl, _, hc'⟩ := h'
  exact eqByt_walk w a a' cap cap' _ zs hm.1 hc hc'
end Go.Proofs.YtaibcofendjnnaaGreatDoor

namespace Go.Proofs.YtaibcofendjnnaaGreatDoor
open Go.RowKit
set_option maxRecDepth 100000

set_option maxHeartbeats 400000 in
theorem markInts_nil (w : World) (a : Option Addr) (cap : Nat) (k : Int) :
    Calls Tryz.prog 82 #[.slice a 0 cap, .int .i64 k] w fun e w' => e = .returned (.int .i64 k) ∧ w' = w := by
  go_enter Tryz.func82, Tryz.ntmps82
  go_wp2
  go_loop [1, 5] (fun q i => i = .int .i64 0 ∧ q = .int .i64 k) (fun _ _ => 0)
  case atStart => exact ⟨rfl, rfl⟩
  case round =>
    obtain ⟨rfl, rfl⟩ := hrel
    go_wp2
    go_ret
    exact ⟨rfl, rfl⟩

set_option maxHeartbeats 400000 in
theorem markInts_walk (w : World) (b cap n : Nat) (k : Int) (F : Nat → Prop) (f : Nat → Value) (hF : F b) (hk0 : 0 ≤ k) (hk : k + (n : Int) ≤ 4611686018427387904) (hr : OwnRow w b n f) :
    Calls Tryz.prog 82 #[.slice (some ⟨b, 0, none⟩) n cap, .int .i64 k] w fun e w' => e = .returned (.int .i64 (k + (n : Int))) ∧ OwnRow w' b n (fun i => .int .i64 (k + (i : Int))) ∧ Chg F w w' := by
  have HR : Hid (OwnRow w b n f) := hr
  have HF : Hid (F b) := hF
  clear hr hF
  go_enter Tryz.func82, Tryz.ntmps82
  go_wp2
  go_loopw [1, 5] (fun q i wr => ∃ j : Nat, j ≤ n ∧ i = .int .i64 j ∧ q = .int .i64 (k + (j : Int)) ∧ OwnRow wr b n (fun i => if i < j then .int .i64 (k + (i : Int)) else f i) ∧ Chg F w wr) (fun _ i _ => n - (intOf i).toNat)
  case atStart => exact ⟨0, Nat.zero_le _, rfl, by simp, HR.out.congr fun i _ => by simp, Chg.refl _ _⟩
  case round =>
    obtain ⟨j, hj, rfl, rfl, hrow, hch⟩ := hrel
    by_cases hlt : j < n
    · have c1 := hrow.cell hlt
      have c2 := hrow.frozen j
      have HROW : Hid (OwnRow wr b n (fun i => if i < j then .int .i64 (k + (i : Int)) else f i)) := hrow
      have HCH : Hid (Chg F w wr) := hch
      clear hrow hch
      simp only [Nat.lt_irrefl, if_false] at c1
      go_wp2
      go_roundw
      case rel =>
        refine ⟨j + 1, by omega, by go_num, by go_num, (HROW.out.set j _).congr fun i hi => ?_, HCH.out.set HF.out _ _⟩
        by_cases e : i = j
        · subst e; simp
        · by_cases e2 : i < j
          · simp [e, e2, show i < j + 1 by omega]
          · simp [e, e2, show ¬ i < j + 1 by omega]
      case measure => simp [intOf]; omega
    · go_wp2
      go_ret
      have e : j = n := by omega
      subst e
      exact ⟨rfl, hrow.congr fun i hi => by simp [hi], hch⟩

theorem markInts_any {w : World} {v : Value} {zs : List Int} {F : Nat → Prop} (k : Int) (h : IntsO w v zs F) (hk0 : 0 ≤ k) (hk : k + (zs.length : Int) ≤ 4611686018427387904) :
    Calls Tryz.prog 82 #[v, .int .i64 k] w fun e w' => e = .returned (.int .i64 (k + (zs.length : Int))) ∧ IntsO w' v (marks k zs.length) F ∧ Chg F w w' := by
  rcases h with ⟨rfl, a, cap, rfl⟩ | ⟨b, cap, hF, rfl, hl, hr⟩
  · exact (markInts_nil w a cap k).mono fun e w' ⟨he, hw⟩ => ⟨by rw [he]; simp, Or.inl ⟨by simp [marks], a, cap, rfl⟩, hw ▸ Chg.refl _ _⟩
  · refine (markInts_walk w b cap zs.length k F _ hF hk0 hk hr).mono fun e w' ⟨he, hrow, hch⟩ => ⟨he, Or.inr ⟨b, cap, hF, by rw [marks_length], by rw [marks_length]; exact hl, ?_⟩, hch⟩
    rw [marks_length]
    exact hrow.congr fun i hi => by rw [marks_get k hi]

set_option maxHeartbeats 400000 in
theorem heldInts_nil (w : World) (a : Option Addr) (cap : Nat) (k : Int) :
    Calls Tryz.prog 127 #[.slice a 0 cap, .int .i64 k] w fun e w' => e = .returned (.int .i64 k) ∧ w' = w := by
  go_enter Tryz.func127, Tryz.ntmps127
  go_wp2
  go_loop [1, 5] (fun q i => i = .int .i64 0 ∧ q = .int .i64 k) (fun _ _ => 0)
  case atStart => exact ⟨rfl, rfl⟩
  case round =>
    obtain ⟨rfl, rfl⟩ := hrel
    go_wp2
    go_ret
    exact ⟨rfl, rfl⟩

set_option maxHeartbeats 400000 in
theorem heldInts_walk (w : World) (b off cap n : Nat) (k : Int) (hk0 : 0 ≤ k) (hk : k + (n : Int) ≤ 4611686018427387904) (hc : ∀ i : Nat, i < n → w.cell? ⟨b, off + i, none⟩ = some (.int .i64 (k + (i : Int)))) :
    Calls Tryz.prog 127 #[.slice (some ⟨b, off, none⟩) n cap, .int .i64 k] w fun e w' => e = .returned (.int .i64 (k + (n : Int))) ∧ w' = w := by
  go_enter Tryz.func127, Tryz.ntmps127
  go_wp2
  go_loop [1, 5] (fun q i => ∃ j : Nat, j ≤ n ∧ i = .int .i64 j ∧ q = .int .i64 (k + (j : Int))) (fun _ i => n - (intOf i).toNat)
  case atStart => exact ⟨0, Nat.zero_le _, rfl, by simp⟩
  case round =>
    obtain ⟨j, hj, rfl, rfl⟩ := hrel
    by_cases hlt : j < n
    · have c1 := hc j hlt
      have hne : ((k + (j : Int)) != (k + (j : Int))) = false := by simp
      clear hc
      go_wp2
      go_round
      case rel => exact ⟨j + 1, by omega, by go_num, by go_num⟩
      case measure => simp [intOf]; omega
    · go_wp2
      go_ret
      have e : j = n := by omega
      subst e
      exact ⟨rfl, rfl⟩

theorem heldInts_any {w : World} {v : Value} (k : Int) (n : Nat) (h : Ints w v (marks k n)) (hk0 : 0 ≤ k) (hk : k + (n : Int) ≤ 4611686018427387904) :
    Calls Tryz.prog 127 #[v, .int .i64 k] w fun e w' => e = .returned (.int .i64 (k + (n : Int))) ∧ w' = w := by
  rcases h with ⟨h0, a, cap, rfl⟩ | ⟨b, off, cap, hv, hl, hr⟩
  · have : n = 0 := by have := marks_length k n; rw [h0] at this; simpa using this.symm
    subst this
    exact (heldInts_nil w a cap k).mono fun e w' ⟨he, hw⟩ => ⟨by rw [he]; simp, hw⟩
  · rw [marks_length] at hv hr
    subst hv
    exact heldInts_walk w b off cap n k hk0 hk fun i hi => by rw [hr i hi, marks_get k hi]

/-- What stands in the inner list i while the first j are marked. -/
def half (k : Int) (zss : List (List Int)) (j i : Nat) : List Int := if i < j then marks (k + (upto (zss.map List.length) i : Nat)) (zss[i]?.getD []).length else zss[i]?.getD []

end Go.Proofs.YtaibcofendjnnaaGreatDoor

namespace Go.Proofs.YtaibcofendjnnaaGreatDoor
open Go.RowKit
set_option maxRecDepth 100000

/-- The marks of n bytes from k on. -/
def marksY (k n : Nat) : List UInt8 := (List.range n).map fun i => UInt8.ofNat (k + i)
theorem marksY_length (k n : Nat) : (marksY k n).length = n := by simp [marksY]
theorem marksY_get (k : Nat) {n i : Nat} (h : i < n) : (marksY k n)[i]?.getD 0 = UInt8.ofNat (k + i) := by
  unfold marksY; rw [List.getElem?_map, List.getElem?_range h]; rfl
theorem u8_ofNat (k : Nat) : (((UInt8.ofNat k).toNat : Nat) : Int) = (k : Int) % 256 := by
  rw [UInt8.toNat_ofNat']; omega

set_option maxHeartbeats 400000 in
theorem markByt_nil (w : World) (a : Option Addr) (cap : Nat) (k : Int) :
    Calls Tryz.prog 47 #[.slice a 0 cap, .int .i64 k] w fun e w' => e = .returned (.int .i64 k) ∧ w' = w := by
  go_enter Tryz.func47, Tryz.ntmps47
  go_wp2
  go_loop [1, 5] (fun q i => i = .int .i64 0 ∧ q = .int .i64 k) (fun _ _ => 0)
  case atStart => exact ⟨rfl, rfl⟩
  case round =>
    obtain ⟨rfl, rfl⟩ := hrel
    go_wp2
    go_ret
    exact ⟨rfl, rfl⟩

set_option maxHeartbeats 800000 in
theorem markByt_walk (w : World) (b cap n k : Nat) (F : Nat → Prop) (f : Nat → Value) (hF : F b) (hk : k + n ≤ 4611686018427387904) (hr : OwnRow w b n f) :
    Calls Tryz.prog 47 #[.slice (some ⟨b, 0, none⟩) n cap, .int .i64 (k : Int)] w fun e w' => e = .returned (.int .i64 ((k + n : Nat) : Int)) ∧ OwnRow w' b n (fun i => .int .u8 (((k : Int) + (i : Int)) % 256)) ∧ Chg F w w' := by
  have HR : Hid (OwnRow w b n f) := hr
  have HF : Hid (F b) := hF
  clear hr hF
  go_enter Tryz.func47, Tryz.ntmps47
  go_wp2
  go_loopw [1, 5] (fun q i wr => ∃ j : Nat, j ≤ n ∧ i = .int .i64 j ∧ q = .int .i64 ((k : Int) + (j : Int)) ∧ OwnRow wr b n (fun i => if i < j then .int .u8 (((k : Int) + (i : Int)) % 256) else f i) ∧ Chg F w wr) (fun _ i _ => n - (intOf i).toNat)
  case atStart => exact ⟨0, Nat.zero_le _, rfl, by simp, HR.out.congr fun i _ => by simp, Chg.refl _ _⟩
  case round =>
    obtain ⟨j, hj, rfl, rfl, hrow, hch⟩ := hrel
    by_cases hlt : j < n
    · have c1 := hrow.cell hlt
      have c2 := hrow.frozen j
      have HROW : Hid (OwnRow wr b n (fun i => if i < j then .int .u8 (((k : Int) + (i : Int)) % 256) else f i)) := hrow
      have HCH : Hid (Chg F w wr) := hch
      clear hrow hch
      simp only [Nat.lt_irrefl, if_false] at c1
      have hwr : IntKind.u8.wrap ((k : Int) + (j : Int)) = ((k : Int) + (j : Int)) % 256 := by
        unfold IntKind.wrap
        simp [IntKind.signed, IntKind.bits]
      generalize hX : ((k : Int) + (j : Int)) % 256 = X at *
      have HX : Hid (((k : Int) + (j : Int)) % 256 = X) := hX
      clear hX
      go_wp2
      go_roundw
      case rel =>
        refine ⟨j + 1, by omega, by go_num, by go_num, (HROW.out.set j _).congr fun i hi => ?_, HCH.out.set HF.out _ _⟩
        by_cases e : i = j
        · subst e; simp [HX.out]
        · by_cases e2 : i < j
          · simp [e, e2, show i < j + 1 by omega]
          · simp [e, e2, show ¬ i < j + 1 by omega]
      case measure => simp [intOf]; omega
    · go_wp2
      go_ret
      have e : j = n := by omega
      subst e
      exact ⟨by first | rfl | (congr 2; omega), hrow.congr fun i hi => by simp [hi], hch⟩
def mkByt (k : Int) (zs : List UInt8) : List UInt8 := marksY k.toNat zs.length
theorem mkByt_length (k : Int) (zs : List UInt8) : (mkByt k zs).length = zs.length := marksY_length _ _
theorem markBytU {w : World} {v : Value} {zs : List UInt8} {F : Nat → Prop} (k : Int) (h : BytO w v zs F) (hk0 : 0 ≤ k) (hk : k + (zs.length : Nat) ≤ 4611686018427387904) :
    Calls Tryz.prog 47 #[v, .int .i64 k] w fun e w' => e = .returned (.int .i64 (k + (zs.length : Nat))) ∧ BytO w' v (mkByt k zs) F ∧ Chg F w w' := by
  obtain ⟨q, rfl⟩ := Int.eq_ofNat_of_zero_le hk0
  rcases h with ⟨rfl, a, cap, rfl⟩ | ⟨b, cap, hF, rfl, hl, hr⟩
  · exact (markByt_nil w a cap _).mono fun e w' ⟨he, hw⟩ => ⟨by rw [he]; simp, Or.inl ⟨by simp [mkByt, marksY], _, _, rfl⟩, hw ▸ Chg.refl _ _⟩
  · refine (markByt_walk w b cap zs.length q F _ hF (by omega) hr).mono fun e w' ⟨he, hro, hc⟩ => ⟨by rw [he]; simp, Or.inr ⟨b, cap, hF, by rw [mkByt_length], by rw [mkByt_length]; exact hl, ?_⟩, hc⟩
    rw [mkByt_length]
    refine hro.congr fun i hi => ?_
    unfold mkByt
    rw [marksY_get _ hi, u8_ofNat]
    congr 1
set_option maxHeartbeats 400000 in
theorem heldByt_nil (w : World) (a : Option Addr) (cap : Nat) (k : Int) :
    Calls Tryz.prog 49 #[.slice a 0 cap, .int .i64 k] w fun e w' => e = .returned (.int .i64 k) ∧ w' = w := by
  go_enter Tryz.func49, Tryz.ntmps49
  go_wp2
  go_loop [1, 5] (fun q i => i = .int .i64 0 ∧ q = .int .i64 k) (fun _ _ => 0)
  case atStart => exact ⟨rfl, rfl⟩
  case round =>
    obtain ⟨rfl, rfl⟩ := hrel
    go_wp2
    go_ret
    exact ⟨rfl, rfl⟩
set_option maxHeartbeats 800000 in
theorem heldByt_walk (w : World) (b off cap n k : Nat) (hk : k + n ≤ 4611686018427387904) (hc : ∀ i : Nat, i < n → w.cell? ⟨b, off + i, none⟩ = some (.int .u8 (((k : Int) + (i : Int)) % 256))) :
    Calls Tryz.prog 49 #[.slice (some ⟨b, off, none⟩) n cap, .int .i64 (k : Int)] w fun e w' => e = .returned (.int .i64 ((k + n : Nat) : Int)) ∧ w' = w := by
  have HC : Hid (∀ i : Nat, i < n → w.cell? ⟨b, off + i, none⟩ = some (.int .u8 (((k : Int) + (i : Int)) % 256))) := hc
  clear hc
  go_enter Tryz.func49, Tryz.ntmps49
  go_wp2
  go_loopw [1, 5] (fun q i wr => ∃ j : Nat, j ≤ n ∧ i = .int .i64 j ∧ q = .int .i64 ((k : Int) + (j : Int)) ∧ wr = w) (fun _ i _ => n - (intOf i).toNat)
  case atStart => exact ⟨0, Nat.zero_le _, rfl, by simp, rfl⟩
  case round =>
    obtain ⟨j, hj, rfl, rfl, rfl⟩ := hrel
    by_cases hlt : j < n
    · have c1 := HC.out j hlt
      have hwr : IntKind.u8.wrap ((k : Int) + (j : Int)) = ((k : Int) + (j : Int)) % 256 := by
        unfold IntKind.wrap
        simp [IntKind.signed, IntKind.bits]
      generalize ((k : Int) + (j : Int)) % 256 = X at *
      have hxx : (X != X) = false := by simp
      go_wp2
      go_roundw
      case rel => exact ⟨j + 1, by omega, by go_num, by go_num, by first | rfl | trivial⟩
      case measure => simp [intOf]; omega
    · go_wp2
      go_ret
      have e : j = n := by omega
      subst e
      exact ⟨by first | rfl | (congr 2; omega), rfl⟩
theorem heldBytU {w : World} {v : Value} {zs : List UInt8} (k : Int) (h : Byt w v (mkByt k zs)) (hk0 : 0 ≤ k) (hk : k + (zs.length : Nat) ≤ 4611686018427387904) :
    Calls Tryz.prog 49 #[v, .int .i64 k] w fun e w' => e = .returned (.int .i64 (k + (zs.length : Nat))) ∧ Below w.heap.size w w' := by
  obtain ⟨q, rfl⟩ := Int.eq_ofNat_of_zero_le hk0
  obtain ⟨a, cap, rfl, hm, hc⟩ := h
  rw [mkByt_length] at hc hm ⊢
  by_cases h0 : zs.length = 0
  · rw [h0]
    exact (heldByt_nil w a cap _).mono fun e w' ⟨he, hw⟩ => ⟨by rw [he]; simp, hw ▸ Below.refl _ _⟩
  · obtain ⟨b, off, rfl, _⟩ := hc 0 (by omega)
    refine (heldByt_walk w b off cap zs.length q (by omega) fun i hi => ?_).mono fun e w' ⟨he, hw⟩ => ⟨by rw [he]; simp, hw ▸ Below.refl _ _⟩
    obtain ⟨b', off', e, hcell⟩ := hc i hi
    simp only [Option.some.injEq, Addr.mk.injEq] at e
    obtain ⟨rfl, rfl, _⟩ := e
    rw [hcell]
    unfold mkByt
    rw [marksY_get _ hi, u8_ofNat]
    simp

set_option maxHeartbeats 400000 in
theorem markByts_nil (w : World) (a : Option Addr) (cap : Nat) (k : Int) :
    Calls Tryz.prog 46 #[.slice a 0 cap, .int .i64 k] w fun e w' => e = .returned (.int .i64 k) ∧ w' = w := by
  go_enter Tryz.func46, Tryz.ntmps46
  go_wp2
  go_loop [1, 5] (fun q i => i = .int .i64 0 ∧ q = .int .i64 k) (fun _ _ => 0)
  case atStart => exact ⟨rfl, rfl⟩
  case round =>
    obtain ⟨rfl, rfl⟩ := hrel
    go_wp2
    go_ret
    exact ⟨rfl, rfl⟩
set_option maxHeartbeats 800000 in
theorem markByts_walk (w : World) (b cap n : Nat) (k : Int) (F : Nat → Prop) (zss : List (List UInt8)) (u : Nat → Value) (G : Nat → Nat → Prop) (hG : ∀ i c, G i c → F c ∧ c ≠ b) (hGG : ∀ i j c, i ≠ j → G i c → ¬ G j c)
    (hn : zss.length = n) (hk0 : 0 ≤ k) (hk : k + ((ylens zss).sum : Nat) ≤ 4611686018427387904) (hn2 : n ≤ 9223372036854775807) (hr : OwnRow w b n u) (hu : ∀ i, i < n → BytO w (u i) (zss[i]?.getD []) (G i)) :
    Calls Tryz.prog 46 #[.slice (some ⟨b, 0, none⟩) n cap, .int .i64 k] w fun e w' => e = .returned (.int .i64 (k + ((ylens zss).sum : Nat))) ∧ Chg F w w' := by
  have HR : Hid (OwnRow w b n u) := hr
  have HU : Hid (∀ i, i < n → BytO w (u i) (zss[i]?.getD []) (G i)) := hu
  have HG : Hid (∀ i c, G i c → F c ∧ c ≠ b) := hG
  have HGG : Hid (∀ i j c, i ≠ j → G i c → ¬ G j c) := hGG
  have HN : Hid (zss.length = n) := hn
  clear hr hu hG hGG hn
  go_enter Tryz.func46, Tryz.ntmps46
  go_wp2
  go_loopw [1, 5] (fun q i wr => ∃ j : Nat, j ≤ n ∧ i = .int .i64 j ∧ q = .int .i64 (k + (upto (ylens zss) j : Nat)) ∧ OwnRow wr b n u ∧ (∀ i, j ≤ i → i < n → BytO wr (u i) (zss[i]?.getD []) (G i)) ∧ Chg F w wr) (fun _ i _ => n - (intOf i).toNat)
  case atStart => exact ⟨0, Nat.zero_le _, rfl, by simp [upto_zero], HR.out, fun i _ hi => HU.out i hi, Chg.refl _ _⟩
  case round =>
    obtain ⟨j, hj, rfl, rfl, hrow, hin, hch⟩ := hrel
    by_cases hlt : j < n
    · have c1 := hrow.cell hlt
      have HROW : Hid (OwnRow wr b n u) := hrow
      have HIN : Hid (∀ i, j ≤ i → i < n → BytO wr (u i) (zss[i]?.getD []) (G i)) := hin
      have HCH : Hid (Chg F w wr) := hch
      clear hrow hin hch
      have hs := upto_succ (ylens zss) j (by rw [ylens_length, HN.out]; exact hlt)
      rw [ylens_get] at hs
      have hle := upto_le (ylens zss) (j + 1)
      have HS : Hid (upto (ylens zss) (j + 1) = upto (ylens zss) j + (zss[j]?.getD []).length) := hs
      clear hs
      generalize hU : upto (ylens zss) j = U at *
      have HIJ : Hid (BytO wr (u j) (zss[j]?.getD []) (G j)) := HIN.out j (Nat.le_refl _) hlt
      go_wp2_with fail
      refine (markBytU (k + (U : Int)) HIJ.out (by omega) (by have := HS.out; omega)).mono ?_
      rintro e w' ⟨rfl, _, hc⟩
      have HC : Hid (Chg (G j) wr w') := hc
      clear hc
      go_wp2
      go_roundw
      case rel =>
        refine ⟨j + 1, by omega, by go_num, by rw [HS.out]; go_num, HROW.out.block (HC.out.block b HROW.out.lt (fun h => (HG.out j b h).2 rfl)), fun i hij hi => ?_, HCH.out.trans (HC.out.mono fun c hc => (HG.out j c hc).1)⟩
        exact (HIN.out i (by omega) hi).keep (w' := w') fun c hc hlt => HC.out.block c hlt (HGG.out i j c (by omega) hc)
      case measure => simp [intOf]; omega
    · go_wp2
      go_ret
      have e : j = n := by omega
      subst e
      exact ⟨ret_int (by rw [← HN.out, ← upto_all, ylens_length]), hch⟩
theorem markBytsU {w : World} {v : Value} {zss : List (List UInt8)} {F : Nat → Prop} (k : Int) (h : BytsO w v zss F) (hk0 : 0 ≤ k) (hk : k + ((ylens zss).sum : Nat) ≤ 4611686018427387904) :
    Calls Tryz.prog 46 #[v, .int .i64 k] w fun e w' => e = .returned (.int .i64 (k + ((ylens zss).sum : Nat))) ∧ Chg F w w' := by
  rcases h with ⟨rfl, a, cap, rfl⟩ | ⟨b, cap, u, G, hF, hG, hGG, rfl, hl, hr, hu⟩
  · exact (markByts_nil w a cap k).mono fun e w' ⟨he, hw⟩ => ⟨by rw [he]; simp [ylens], hw ▸ Chg.refl _ _⟩
  · exact markByts_walk w b cap zss.length k F zss u G hG hGG rfl hk0 hk (by have := hl.1; unfold maxLen at this; omega) hr hu
end Go.Proofs.YtaibcofendjnnaaGreatDoor

namespace Go.Proofs.YtaibcofendjnnaaGreatDoor
open Go.RowKit
set_option maxRecDepth 100000

def byB (c : UInt8) : Bool := decide (97 ≤ (c.toNat : Int)) && decide ((c.toNat : Int) ≤ 122)
def nameF (s : ByteArray) : Int := if s.size = 0 then 5 else if s.data.toList.all byB = true then (if 4 < s.size then 2 else 0) else 5
theorem nameF_bad {s : ByteArray} {k : Nat} (h : k < s.size) (hb : byB s[k] = false) : nameF s = 5 := by
  unfold nameF
  split
  · rfl
  · rw [if_neg]
    intro ha
    rw [List.all_eq_true] at ha
    have := ha s[k] (by
      have : s[k] = s.data.toList[k]'(by simpa using h) := rfl
      rw [this]; exact List.getElem_mem _)
    rw [hb] at this
    exact absurd this (by simp)
theorem nameF_good {s : ByteArray} (ha : ∀ j (h : j < s.size), byB s[j] = true) : nameF s = if s.size = 0 then 5 else if 4 < s.size then 2 else 0 := by
  unfold nameF
  rw [if_pos (c := s.data.toList.all byB = true)]
  rw [List.all_eq_true]
  intro c hc
  obtain ⟨k, hk, rfl⟩ := List.mem_iff_getElem.1 hc
  exact ha k (by simpa using hk)

theorem toList_size (s : ByteArray) : s.toList.length = s.size := by rw [ByteArray.toList_eq]; rfl
theorem emp_no {s : ByteArray} (h : ¬ s.size = 0) : s.toList.isEmpty = false := by
  cases hs : s.toList with
  | nil => have := toList_size s; rw [hs] at this; exact absurd this.symm h
  | cons a t => rfl
theorem emp_yes {s : ByteArray} (h : s.size = 0) : s.toList.isEmpty = true := by
  cases hs : s.toList with
  | nil => rfl
  | cons a t => have := toList_size s; rw [hs, h] at this; simp at this

set_option maxHeartbeats 800000 in
theorem isNameByte_any (w : World) (c : UInt8) : Calls Tryz.prog 153 #[.int .u8 (c.toNat : Int)] w fun e w' => e = .returned (.bool (byB c)) ∧ w' = w := by
  unfold byB
  by_cases h1 : 97 ≤ (c.toNat : Int)
  · by_cases h2 : (c.toNat : Int) ≤ 122
    · rw [decide_eq_true h1, decide_eq_true h2]
      go_enter Tryz.func153, Tryz.ntmps153
      go_wp2
      go_ret
      exact ⟨rfl, rfl⟩
    · rw [decide_eq_true h1, decide_eq_false h2]
      have d2 : decide ((c.toNat : Int) ≤ 122) = false := by simpa using h2
      go_enter Tryz.func153, Tryz.ntmps153
      go_wp2
      go_ret
      exact ⟨rfl, rfl⟩
  · rw [decide_eq_false h1]
    have d1 : decide (97 ≤ (c.toNat : Int)) = false := by simpa using h1
    go_enter Tryz.func153, Tryz.ntmps153
    go_wp2
    go_ret
    exact ⟨rfl, rfl⟩

set_option maxHeartbeats 800000 in
theorem specName_any (w : World) (s : ByteArray) (hs : s.size ≤ maxLen) : Calls Tryz.prog 132 #[.string s] w fun e w' => e = .returned (.int .i64 (nameF s)) ∧ w' = w := by
  unfold maxLen at hs
  go_enter Tryz.func132, Tryz.ntmps132
  go_wp2
  go_loop [3] (fun i => ∃ k : Nat, k ≤ s.size ∧ i = .int .i64 k ∧ ∀ j (h : j < s.size), j < k → byB s[j] = true) (fun i => s.size - (intOf i).toNat)
  case atStart => exact ⟨0, Nat.zero_le _, rfl, fun j h h' => by omega⟩
  case round =>
    obtain ⟨k, hk, rfl, ha⟩ := hrel
    have HA : Hid (∀ j (h : j < s.size), j < k → byB s[j] = true) := ha
    clear ha
    by_cases hlt : k < s.size
    · by_cases h1 : (s[k].toNat : Int) < 97
      · have HB : Hid (nameF s = 5) := nameF_bad hlt (by unfold byB; rw [decide_eq_false (by omega)]; rfl)
        go_wp2
        go_ret
        exact ⟨ret_int HB.out.symm, rfl⟩
      · by_cases h2 : 122 < (s[k].toNat : Int)
        · have HB : Hid (nameF s = 5) := nameF_bad hlt (by unfold byB; rw [decide_eq_false (p := (s[k].toNat : Int) ≤ 122) (by omega)]; simp)
          go_wp2
          go_ret
          exact ⟨ret_int HB.out.symm, rfl⟩
        · have HB : Hid (byB s[k] = true) := by unfold Hid byB; rw [decide_eq_true (by omega), decide_eq_true (by omega)]; rfl
          go_wp2
          go_round
          case rel =>
            refine ⟨k + 1, by omega, by go_num, fun j h hj => ?_⟩
            by_cases e : j = k
            · subst e; exact HB.out
            · exact HA.out j h (by omega)
          case measure => simp [intOf]; omega
    · have HN : Hid (nameF s = if s.size = 0 then 5 else if 4 < s.size then 2 else 0) := nameF_good fun j h => HA.out j h (by omega)
      by_cases h0 : s.size = 0
      · have hem := emp_yes h0
        go_wp2
        go_ret
        exact ⟨ret_int (by rw [HN.out, if_pos h0]), rfl⟩
      · have hem := emp_no h0
        by_cases h4 : 4 < s.size
        · go_wp2
          go_ret
          exact ⟨ret_int (by rw [HN.out, if_neg h0, if_pos h4]), rfl⟩
        · go_wp2
          go_ret
          exact ⟨ret_int (by rw [HN.out, if_neg h0, if_neg h4]), rfl⟩

set_option maxHeartbeats 800000 in
theorem implName_any (w : World) (s : ByteArray) (hs : s.size ≤ maxLen) : Calls Tryz.prog 123 #[.string s] w fun e w' => e = .returned (.int .i64 (nameF s)) ∧ w' = w := by
  unfold maxLen at hs
  by_cases h0 : s.size = 0
  · have hem := emp_yes h0
    have HN : Hid (nameF s = 5) := by unfold Hid nameF; rw [if_pos h0]
    rw [HN.out]
    go_enter Tryz.func123, Tryz.ntmps123
    go_wp2
    go_ret
    exact ⟨rfl, rfl⟩
  · have hem := emp_no h0
    go_enter Tryz.func123, Tryz.ntmps123
    go_wp2
    go_loop [8] (fun i => ∃ k : Nat, k ≤ s.size ∧ i = .int .i64 k ∧ ∀ j (h : j < s.size), j < k → byB s[j] = true) (fun i => s.size - (intOf i).toNat)
    case atStart => exact ⟨0, Nat.zero_le _, rfl, fun j h h' => by omega⟩
    case round =>
      obtain ⟨k, hk, rfl, ha⟩ := hrel
      have HA : Hid (∀ j (h : j < s.size), j < k → byB s[j] = true) := ha
      clear ha
      by_cases hlt : k < s.size
      · cases hb : byB s[k]
        · have HB : Hid (byB s[k] = false) := hb
          have HN : Hid (nameF s = 5) := nameF_bad hlt hb
          clear hb
          go_wp2_with fail
          refine (isNameByte_any _ _).mono ?_
          rw [HB.out]
          rintro e w1 ⟨rfl, rfl⟩
          go_wp2
          go_ret
          exact ⟨ret_int HN.out.symm, rfl⟩
        · have HB : Hid (byB s[k] = true) := hb
          clear hb
          go_wp2_with fail
          refine (isNameByte_any _ _).mono ?_
          rw [HB.out]
          rintro e w1 ⟨rfl, rfl⟩
          go_wp2
          go_round
          case rel =>
            refine ⟨k + 1, by omega, by go_num, fun j h hj => ?_⟩
            by_cases e : j = k
            · subst e; exact HB.out
            · exact HA.out j h (by omega)
          case measure => simp [intOf]; omega
      · have HN : Hid (nameF s = if s.size = 0 then 5 else if 4 < s.size then 2 else 0) := nameF_good fun j h => HA.out j h (by omega)
        by_cases h4 : 4 < s.size
        · go_wp2
          go_ret
          exact ⟨ret_int (by rw [HN.out, if_neg h0, if_pos h4]), rfl⟩
        · go_wp2
          go_ret
          exact ⟨ret_int (by rw [HN.out, if_neg h0, if_neg h4]), rfl⟩

end Go.Proofs.YtaibcofendjnnaaGreatDoor

namespace Go.Proofs.YtaibcofendjnnaaGreatDoor
open Go.RowKit
set_option maxRecDepth 100000

def mkB (l : List UInt8) : ByteArray := ⟨l.toArray⟩
theorem mkB_data (s : ByteArray) : mkB s.data.toList = s := by cases s; simp [mkB]
theorem mkB_list (l : List UInt8) : (mkB l).data.toList = l := by simp [mkB]
theorem mkB_size (l : List UInt8) : (mkB l).size = l.length := by simp [mkB, ByteArray.size]
theorem mkB_inj {l m : List UInt8} (h : mkB l = mkB m) : l = m := by rw [← mkB_list l, h, mkB_list]
def cutHead (b : UInt8) : List (List UInt8) → List (List UInt8)
  | [] => [[b]]
  | p :: ps => (b :: p) :: ps
/-- A text cut at each slash. -/
def cutB : List UInt8 → List (List UInt8)
  | [] => [[]]
  | b :: l => if b = 47 then [] :: cutB l else cutHead b (cutB l)
def takeTo (l : List UInt8) : List UInt8 := l.takeWhile (· != 47)
def dropTo (l : List UInt8) : List UInt8 := l.dropWhile (· != 47)
/-- What stands behind each slash, the first sign being one. -/
def restN : List UInt8 → List (List UInt8)
  | [] => []
  | _ :: t => cutB t
theorem cut_step (t : List UInt8) : cutB t = takeTo t :: restN (dropTo t) := by
  induction t with
  | nil => rfl
  | cons b l ih =>
    unfold cutB takeTo dropTo
    by_cases h : b = 47
    · rw [if_pos h, List.takeWhile_cons, List.dropWhile_cons, if_neg (by simp [h]), if_neg (by simp [h])]
      rfl
    · rw [if_neg h, ih, List.takeWhile_cons, List.dropWhile_cons, if_pos (by simpa using h), if_pos (by simpa using h)]
      rfl
theorem idx_cases (t : List UInt8) : (Lib.indexByte t 47 = -1 ∧ takeTo t = t ∧ dropTo t = []) ∨ ∃ o : Nat, Lib.indexByte t 47 = (o : Int) ∧ o < t.length ∧ takeTo t = t.take o ∧ dropTo t = t.drop o := by
  induction t with
  | nil => exact Or.inl ⟨rfl, rfl, rfl⟩
  | cons b l ih =>
    unfold Lib.indexByte takeTo dropTo
    by_cases h : b = 47
    · exact Or.inr ⟨0, by simp [h], by simp, by simp [h], by simp [h]⟩
    · have hb : (b == 47) = false := by simpa using h
      rcases ih with ⟨h1, h2, h3⟩ | ⟨o, h1, h2, h3, h4⟩
      · refine Or.inl ⟨by simp [hb, h1], ?_, ?_⟩
        · rw [List.takeWhile_cons, if_pos (by simpa using h)]; unfold takeTo at h2; rw [h2]
        · rw [List.dropWhile_cons, if_pos (by simpa using h)]; unfold dropTo at h3; rw [h3]
      · refine Or.inr ⟨o + 1, ?_, by simp; omega, ?_, ?_⟩
        · have : (Lib.indexByte l 47 == -1) = false := by rw [h1]; simp
          simp [hb, h1]
        · rw [List.takeWhile_cons, if_pos (by simpa using h)]; unfold takeTo at h3; rw [h3]; rfl
        · rw [List.dropWhile_cons, if_pos (by simpa using h)]; unfold dropTo at h4; rw [h4]; rfl
theorem restN_cons (b : UInt8) (t : List UInt8) : restN (b :: t) = takeTo t :: restN (dropTo t) := cut_step t
theorem dropTo_le (t : List UInt8) : (dropTo t).length ≤ t.length := by unfold dropTo; exact (List.dropWhile_sublist _).length_le
theorem takeTo_le (t : List UInt8) : (takeTo t).length ≤ t.length := by unfold takeTo; exact (List.takeWhile_sublist _).length_le
/-- The names that a path tells. -/
def namesL (l : List UInt8) : List (List UInt8) := if l = [47] then [] else restN l

theorem run_from (l : List UInt8) (k : Nat) (hk : k ≤ l.length) (W : World) : (Instr.slice 9 (.string (mkB l)) (some (.int .i64 (k : Int))) none none).run Tryz.prog W = .ok (.string (mkB (l.drop k))) W := by
  have hs := mkB_size l
  have he : (mkB l).extract k (mkB l).size = mkB (l.drop k) := by
    have h : ((mkB l).extract k (mkB l).size).data.toList = l.drop k := by
      simp only [mkB, ByteArray.size, ByteArray.data_extract, Array.toList_extract, List.size_toArray, List.extract_eq_take_drop]
      exact List.take_of_length_le (by simp)
    rw [← mkB_data ((mkB l).extract k (mkB l).size), h]
  simp [Instr.slice, Instr.sliceBounds, Instr.sliceBound, asIntOf, run_underlying Tryz.underlying9, hs, hk]
  rw [← hs]
  exact he
theorem run_upto (l : List UInt8) (k : Nat) (hk : k ≤ l.length) (W : World) : (Instr.slice 9 (.string (mkB l)) none (some (.int .i64 (k : Int))) none).run Tryz.prog W = .ok (.string (mkB (l.take k))) W := by
  have hs := mkB_size l
  have he : (mkB l).extract 0 k = mkB (l.take k) := by
    have h : ((mkB l).extract 0 k).data.toList = l.take k := by simp [mkB]
    rw [← mkB_data ((mkB l).extract 0 k), h]
  simp [Instr.slice, Instr.sliceBounds, Instr.sliceBound, asIntOf, run_underlying Tryz.underlying9, hs, hk]
  exact he
end Go.Proofs.YtaibcofendjnnaaGreatDoor

namespace Go.Proofs.YtaibcofendjnnaaGreatDoor
open Go.RowKit Go.Shelf
set_option maxRecDepth 100000
def idx_ren : Go.Shelf.Ren := ⟨fun | 137 => 139 | 217 => 159 | 266 => 165 | n => n, fun | 9 => 9 | 5 => 5 | 3 => 3 | n => n, fun | n => n⟩
theorem idx_lays : Go.Proofs.Lays.n137 Tryz.prog idx_ren := {
  mixed := by kernel_rfl
  f137 := Tryz.func139.trans (congrArg some (by kernel_rfl))
  f217 := Tryz.func159.trans (congrArg some (by kernel_rfl))
  f266 := Tryz.func165.trans (congrArg some (by kernel_rfl))
  t3 := Tryz.underlying3
  a3 := Tryz.isAgg3
  z3 := Tryz.sizeOf3
  v3 := Tryz.zeroValue3
  t5 := Tryz.underlying5
  a5 := Tryz.isAgg5
  z5 := Tryz.sizeOf5
  v5 := Tryz.zeroValue5
  t9 := Tryz.underlying9
  a9 := Tryz.isAgg9
  z9 := Tryz.sizeOf9
  v9 := Tryz.zeroValue9 }
theorem indexSlash (l : List UInt8) (w : World) :
    Calls Tryz.prog 139 #[.string (mkB l), .int .u8 47] w fun e w' => e = .returned (.int .i64 (Lib.indexByte l 47)) ∧ w' = w := by
  have h := Go.Proofs.Any.strings_IndexByte idx_lays (mkB l) 47 w
  rw [mkB_list] at h
  exact h
end Go.Proofs.YtaibcofendjnnaaGreatDoor

namespace Go.Proofs.YtaibcofendjnnaaGreatDoor
open Go.RowKit Go.Shelf
set_option maxRecDepth 100000
attribute [local go_sem] Oper.semAt_some

/-- A text that is no longer than a row takes. -/
abbrev BL := { l : List UInt8 // l.length ≤ 1048576 }
/-- A name as it is told. -/
abbrev encB (x : BL) : Array Value := #[.string (mkB x.1)]
abbrev txt (pre : List BL) : List (List UInt8) := pre.map (·.1)
theorem mkB_toList (l : List UInt8) : (mkB l).toList = l := by rw [ByteArray.toList_eq, mkB_list]
def strLen : Value → Nat
  | .string s => s.size
  | _ => 0

set_option maxRecDepth 100000 in
set_option maxHeartbeats 1600000 in
theorem names1_in (n : Nat) (hn : 2 ≤ n) (l Bn n₀ : Nat) (p : List UInt8) (hp : p.length ≤ 1048576) (J Jx : List BL → World → Prop)
    (hY : ∀ pre x W, J pre W → pre.length < (namesL p).length → YieldAt Fence.wide (n - 1) Tryz.prog l (encB x) W fun e W' =>
      (e = .returned (.bool true) ∧ J (pre ++ [x]) W' ∧ Below n₀ W W') ∨ (e = .returned (.bool false) ∧ Jx (pre ++ [x]) W'))
    (W : World) (hB : W.cell? ⟨Bn, 0, none⟩ = some (.string (mkB p))) (h0 : J [] W) :
    CallsIn Fence.wide n Tryz.prog 138 #[.func (.yield l) #[] #[], .pointer (some ⟨Bn, 0, none⟩)] W fun e W' => (∃ v, e = .returned v) ∧
      ((∃ ys, txt ys = namesL p ∧ J ys W') ∨ (∃ pre, txt pre <+: namesL p ∧ Jx pre W')) := by
  refine callsIn_of_wp Tryz.func138 rfl trivial ?_ rfl
  simp only [Tryz.ntmps138, List.size_toArray, List.length_cons, List.length_nil, Nat.reduceAdd, Nat.reduceSub, Array.replicate_succ, Array.replicate_zero, List.push_toArray, List.append_toArray, List.nil_append, List.cons_append]
  by_cases hp1 : p = [47]
  · have heq : ((mkB p).toList == [47]) = true := by rw [mkB_toList, hp1]; rfl
    have HN : Hid (namesL p = []) := by unfold Hid namesL; rw [if_pos hp1]
    clear hp1
    gi_wp2
    refine bodyPost_ret (results_none rfl _ _ _) rfl ?_
    exact ⟨⟨_, rfl⟩, .inl ⟨[], by rw [HN.out]; rfl, h0⟩⟩
  · have heq : ((mkB p).toList == [47]) = false := by rw [mkB_toList]; simpa using hp1
    have HN : Hid (namesL p = restN p) := by unfold Hid namesL; rw [if_neg hp1]
    clear hp1
    gi_wp2
    gi_loopw [3] (fun v wr => ∃ (pre : List BL) (r : List UInt8), v = .string (mkB r) ∧ namesL p = txt pre ++ restN r ∧ r.length ≤ 1048576 ∧ J pre wr) (fun v _ => strLen v)
    case atStart => exact ⟨[], p, rfl, by rw [HN.out]; rfl, hp, h0⟩
    case round =>
      obtain ⟨pre, r, rfl, hx, hr, hJs⟩ := hrel
      cases r with
      | nil =>
        have hem : (mkB []).toList.isEmpty = true := by rw [mkB_toList]; rfl
        gi_wp2
        go_end0
        exact ⟨⟨_, rfl⟩, .inl ⟨pre, by rw [hx]; simp [restN], hJs⟩⟩
      | cons b t =>
        have hem : (mkB (b :: t)).toList.isEmpty = false := by rw [mkB_toList]; rfl
        have HX : Hid (namesL p = txt pre ++ (takeTo t :: restN (dropTo t))) := by unfold Hid; rw [hx, restN_cons]
        have hs1 : ∀ W : World, (Instr.slice 9 (.string (mkB (b :: t))) (some (.int .i64 1)) none none).run Tryz.prog W = .ok (.string (mkB t)) W := fun W => run_from (b :: t) 1 (by simp) W
        have hdl := dropTo_le t
        have htl := takeTo_le t
        simp only [List.length_cons] at hr
        clear hx
        rcases idx_cases t with ⟨h1, h2, h3⟩ | ⟨o, h1, hol, h2, h3⟩
        · have hsz : (mkB t).size = t.length := mkB_size t
          have hs2 : ∀ W : World, (Instr.slice 9 (.string (mkB t)) none (some (.int .i64 (t.length : Int))) none).run Tryz.prog W = .ok (.string (mkB (takeTo t))) W := fun W => by rw [run_upto t t.length (Nat.le_refl _) W, h2, List.take_length]
          have hs3 : ∀ W : World, (Instr.slice 9 (.string (mkB t)) (some (.int .i64 (t.length : Int))) none none).run Tryz.prog W = .ok (.string (mkB (dropTo t))) W := fun W => by rw [run_from t t.length (Nat.le_refl _) W, h3, List.drop_length]
          clear h2 h3
          have hyl : (takeTo t).length ≤ 1048576 := by omega
          generalize takeTo t = y at *
          generalize dropTo t = z at *
          obtain ⟨fn, tmps, assign, body, hy, hR⟩ := hY pre ⟨y, hyl⟩ wr hJs (by rw [HX.out]; simp)
          dsimp only [encB] at hy
          gi_wp2
          refine ⟨trivial, fun _ => by omega, ?_⟩
          refine (callsIn_wide.2 (indexSlash t _)).mono ?_
          rintro e w' ⟨rfl, rfl⟩
          gi_wp2
          refine ⟨fun _ => by omega, hR.mono ?_⟩
          rintro e W3 (⟨rfl, hJ3, hk3⟩ | ⟨rfl, hJx3⟩)
          · gi_wp2
            go_roundw
            case rel => exact ⟨pre ++ [⟨y, hyl⟩], z, rfl, by rw [HX.out]; simp [txt], by omega, hJ3⟩
            case measure => simp only [strLen, mkB_size]; simp only [List.length_cons]; omega
          · gi_wp2
            refine bodyPost_ret (results_none rfl _ _ _) rfl ?_
            exact ⟨⟨_, rfl⟩, .inr ⟨pre ++ [⟨y, hyl⟩], ⟨restN (z), by rw [HX.out]; simp [txt]⟩, hJx3⟩⟩
        · have hs2 : ∀ W : World, (Instr.slice 9 (.string (mkB t)) none (some (.int .i64 (o : Int))) none).run Tryz.prog W = .ok (.string (mkB (takeTo t))) W := fun W => by rw [run_upto t o (by omega) W, h2]
          have hs3 : ∀ W : World, (Instr.slice 9 (.string (mkB t)) (some (.int .i64 (o : Int))) none none).run Tryz.prog W = .ok (.string (mkB (dropTo t))) W := fun W => by rw [run_from t o (by omega) W, h3]
          clear h2 h3
          have hyl : (takeTo t).length ≤ 1048576 := by omega
          generalize takeTo t = y at *
          generalize dropTo t = z at *
          obtain ⟨fn, tmps, assign, body, hy, hR⟩ := hY pre ⟨y, hyl⟩ wr hJs (by rw [HX.out]; simp)
          dsimp only [encB] at hy
          gi_wp2
          refine ⟨trivial, fun _ => by omega, ?_⟩
          refine (callsIn_wide.2 (indexSlash t _)).mono ?_
          rintro e w' ⟨rfl, rfl⟩
          gi_wp2
          refine ⟨fun _ => by omega, hR.mono ?_⟩
          rintro e W3 (⟨rfl, hJ3, hk3⟩ | ⟨rfl, hJx3⟩)
          · gi_wp2
            go_roundw
            case rel => exact ⟨pre ++ [⟨y, hyl⟩], z, rfl, by rw [HX.out]; simp [txt], by omega, hJ3⟩
            case measure => simp only [strLen, mkB_size]; simp only [List.length_cons]; omega
          · gi_wp2
            refine bodyPost_ret (results_none rfl _ _ _) rfl ?_
            exact ⟨⟨_, rfl⟩, .inr ⟨pre ++ [⟨y, hyl⟩], ⟨restN (z), by rw [HX.out]; simp [txt]⟩, hJx3⟩⟩
end Go.Proofs.YtaibcofendjnnaaGreatDoor

namespace Go.Proofs.YtaibcofendjnnaaGreatDoor
open Go.RowKit Go.Shelf
set_option maxRecDepth 100000
attribute [local go_sem] Oper.semAt_some

theorem namesOf_any (w : World) (p : List UInt8) : Calls Tryz.prog 101 #[.string (mkB p)] w fun e w' => e = .returned (.func (.func 138) #[] #[.pointer (some ⟨w.heap.size, 0, none⟩)]) ∧ w' = w.alloc (.cells #[.string (mkB p)] 9) := by
  go_enter Tryz.func101, Tryz.ntmps101
  go_wp2
  go_ret
  exact ⟨rfl, rfl⟩
theorem names_stops (n : Nat) (hn : 2 ≤ n) (Bn n₀ : Nat) (p : List UInt8) (hp : p.length ≤ 1048576) (w : World) (hBn : Bn < w.heap.size) (hc : w.cell? ⟨Bn, 0, none⟩ = some (.string (mkB p))) :
    SeqStopsK Fence.wide n Tryz.prog 138 #[.pointer (some ⟨Bn, 0, none⟩)] encB (Below n₀) (fun ys => txt ys = namesL p) (fun pre => txt pre <+: namesL p) (namesL p).length w := fun l J Jx W hW _ _ hY h0 =>
  names1_in n hn l Bn n₀ p hp J Jx hY W ((hW.cell (p := ⟨Bn, 0, none⟩) hBn).trans hc) h0
theorem cutHead_len (b : UInt8) (ps : List (List UInt8)) (h : ps ≠ []) : (cutHead b ps).length = ps.length := by
  cases ps with
  | nil => exact absurd rfl h
  | cons a t => rfl
theorem cutB_ne (l : List UInt8) : cutB l ≠ [] := by rw [cut_step]; simp
theorem cutB_len (l : List UInt8) : (cutB l).length ≤ l.length + 1 := by
  induction l with
  | nil => simp [cutB]
  | cons b t ih =>
    unfold cutB
    split
    · simp only [List.length_cons]; omega
    · rw [cutHead_len b _ (cutB_ne t)]; simp only [List.length_cons]; omega
theorem namesL_len (l : List UInt8) : (namesL l).length ≤ l.length + 1 := by
  unfold namesL
  split
  · simp
  · cases l with
    | nil => simp [restN]
    | cons b t => have := cutB_len t; simp only [restN, List.length_cons]; omega
theorem cell_new_l (W : World) (v : Value) (t : TypeId) : (W.alloc (.cells #[v] t)).cell? ⟨W.heap.size, 0, none⟩ = some v ∧ (W.alloc (.cells #[v] t)).frozen? ⟨W.heap.size, 0, none⟩ = false := by
  have h : (W.alloc (.cells #[v] t)).heap[W.heap.size]? = some (.cells #[v] t (0, 0)) := World.alloc_heap_new W _
  constructor
  · simp only [World.cell?, h]; rfl
  · simp only [World.frozen?, h]; rfl

set_option maxRecDepth 100000 in
set_option maxHeartbeats 2000000 in
theorem howMany_any (w : World) (Bn : Nat) (p : List UInt8) (hp : p.length ≤ 1048576) (hBn : Bn < w.heap.size) (hc : w.cell? ⟨Bn, 0, none⟩ = some (.string (mkB p))) :
    Calls Tryz.prog 136 #[.func (.func 138) #[] #[.pointer (some ⟨Bn, 0, none⟩)]] w fun e w' => e = .returned (.int .i64 ((namesL p).length : Int)) ∧ Below w.heap.size w w' := by
  refine (callsIn_wide (n := 5)).1 ?_
  refine callsIn_of_wp_marks Tryz.func136 rfl trivial ?_ rfl
  simp only [Tryz.ntmps136, List.size_toArray, List.length_cons, List.length_nil, Nat.reduceAdd, Nat.reduceSub, Array.replicate_succ, Array.replicate_zero, List.push_toArray, List.append_toArray, List.nil_append, List.cons_append]
  gi_wp2
  have hs := cell_new_l w (.int .i64 0) 3
  have hB0 : Below w.heap.size w (w.alloc (.cells #[.int .i64 0] 3)) := (Below.refl _ w).alloc (Nat.le_refl _) _
  have hlen := namesL_len p
  refine wpIn_rangeFunc_ownF rfl (by omega) (gf := 138) (lb := #[.pointer (some ⟨Bn, 0, none⟩)]) rfl trivial (enters_of Tryz.func138 (by kernel_rfl) rfl)
    (names_stops 4 (by omega) Bn w.heap.size p hp (w.alloc (.cells #[.int .i64 0] 3)) (by simp; omega) (cell_later (later1 _ _) hc)) belowK_t (belowK_b (by simp)) (Below.refl _ _) (fun _ => rfl)
    (fun pre W => (W.cell? ⟨w.heap.size, 0, none⟩ = some (.int .i64 (pre.length : Int)) ∧ W.frozen? ⟨w.heap.size, 0, none⟩ = false) ∧ Below w.heap.size w W)
    (fun _ _ _ => False)
    (OwnFrom.and (Own.from (fun s A B row hs hg hr => ⟨cell_kept hs.1 hg hr, (frozen_kept hs.1 hg hr).trans hs.2⟩) _) (ownFrom_below (Nat.le_refl _) (by simp)))
    (fun _ _ _ _ _ hs _ _ => hs)
    ⟨hs, hB0⟩
    (fun x => { tmps := #[.func (.func 138) #[] #[.pointer (some ⟨Bn, 0, none⟩)], undef, .int .i64 0, .pointer (some ⟨w.heap.size, 0, none⟩), .func (.func 138) #[] #[.pointer (some ⟨Bn, 0, none⟩)], .string (mkB x.1), undef, undef, undef], defers := [] }) ?assign ?body ?done ?stop
  case assign =>
    intro l x W K hK
    gi_wp2
    simpa using hK
  case body =>
    rintro l pre x W ⟨⟨hcc, hf⟩, hB⟩ hlt
    have hw : IntKind.i64.wrap ((pre.length : Int) + 1) = (pre.length : Int) + 1 := by rw [IntKind.wrap_i64]; omega
    gi_wp2
    exact ⟨KeepsOthers.setCell _ _ _, (Below.refl w.heap.size W).setCell (p := ⟨w.heap.size, 0, none⟩) (Nat.le_refl _) _, ⟨by rw [World.cell?_setCell_same' _ _ _ (by rw [hcc]; rfl)]; simp, by rw [World.frozen?_setCell]; exact hf⟩, hB.setCell (p := ⟨w.heap.size, 0, none⟩) (Nat.le_refl _) _⟩
  case done =>
    rintro D ys W hD hys ⟨⟨hcc, _⟩, hB⟩ hK
    have HYL : Hid ((ys.length : Int) = ((namesL p).length : Int)) := by unfold Hid; rw [← hys]; simp
    clear hys
    gi_wp2
    refine ⟨by simp, .inl ⟨_, _, rfl, run_takeDeferred hK, ?_⟩⟩
    exact ⟨.int .i64 (ys.length : Int), by simp [results, Tryz.results136, go_sem], ret_int HYL.out, hB.trans (belowK_b (w := w) (Nat.le_refl _) W D _ _ (by simp at hD; omega) hK rfl rfl)⟩
  case stop =>
    rintro D c pre W _ _ h _
    exact h.elim
end Go.Proofs.YtaibcofendjnnaaGreatDoor
