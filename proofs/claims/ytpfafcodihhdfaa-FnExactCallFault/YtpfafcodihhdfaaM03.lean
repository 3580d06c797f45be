/- The walks of the laws' functions over bytes and lists of bytes. Bytes and lists of bytes are marked, and the marks are held. Lists of bytes as arguments: compared and marked, in the one form. Calls as arguments: how a call reads, and the laws' functions over calls. The plain mathematics of chapter 1: the codes of words, puts and disks. No program, no world. The walks of the codes of words and disks, the program's and the specification's. The walks of DiskFault, the specification's and the program's. CallFault, of the program and of the specification. -/
import Derived.Test.YtpfafcodihhdfaaM02
import Derived.Test.YtpfafcodihhdfaaM01
import Derived.Test.YtpfafcodihhdfaaRows
import Derived.BigQuiet
namespace Go.Proofs.Ytpfafcodihhdfaa
open Go.RowKit
set_option maxRecDepth 100000

theorem Try.infoU8 : (Try.prog.info? 5).map (fun i => (i.zero, i.size, i.bytes)) = some (some (.int .u8 0), 1, 1) := by kernel_rfl
theorem Try.infoU8s : (Try.prog.info? 40).map (fun i => (i.zero, i.size, i.bytes)) = some (some (.slice none 0 0), 1, 24) := by kernel_rfl

set_option maxHeartbeats 400000 in
theorem szByt_walk (w : World) (a : Option Addr) (n cap : Nat) (left : Int) (h0 : 0 ≤ left) (h1 : left ≤ 1048576) (hn : n ≤ maxLen) :
    Calls Try.prog 34 #[.slice a n cap, .int .i64 left] w fun e w' => e = .returned (.int .i64 (szf left n)) ∧ w' = w := by
  unfold maxLen at hn
  by_cases h : left < (n : Int)
  · rw [szf_no h]
    have h' : left - (n : Int) < 0 := by omega
    go_enter Try.func34, Try.ntmps34
    go_wp2
    go_ret
    exact ⟨rfl, rfl⟩
  · rw [szf_yes h]
    have h' : ¬ left - (n : Int) < 0 := by omega
    go_enter Try.func34, Try.ntmps34
    go_wp2
    go_ret
    exact ⟨rfl, rfl⟩
theorem szBytU {w : World} {v : Value} {zs : List UInt8} (h : Byt w v zs) (left : Int) (h0 : 0 ≤ left) (h1 : left ≤ 1048576) :
    Calls Try.prog 34 #[v, .int .i64 left] w fun e w' => e = .returned (.int .i64 (szf left zs.length)) ∧ w' = w := by
  obtain ⟨a, cap, rfl, hn, _⟩ := h
  exact szByt_walk w a _ cap left h0 h1 hn.1

set_option maxHeartbeats 400000 in
theorem szByts_many (w : World) (a : Option Addr) (n cap : Nat) (left : Int) (h0 : 0 ≤ left) (h1 : left ≤ 1048576) (hn : n ≤ maxLen) (h : left < (n : Int)) :
    Calls Try.prog 20 #[.slice a n cap, .int .i64 left] w fun e w' => e = .returned (.int .i64 (-1)) ∧ w' = w := by
  unfold maxLen at hn
  have h' : left - (n : Int) < 0 := by omega
  go_enter Try.func20, Try.ntmps20
  go_wp2
  go_ret
  exact ⟨rfl, rfl⟩
set_option maxHeartbeats 800000 in
theorem szByts_walk (w : World) (a : Option Addr) (cap n : Nat) (left : Int) (zss : List (List UInt8)) (hzn : zss.length = n) (h0 : 0 ≤ left) (h1 : left ≤ 1048576) (h2 : ¬ left < (n : Int)) (hc : AtYs w a n zss) :
    Calls Try.prog 20 #[.slice a n cap, .int .i64 left] w fun e w' => e = .returned (.int .i64 (szf left (n + (ylens zss).sum))) ∧ w' = w := by
  have HN : Hid (zss.length = n) := hzn
  have HC : Hid (AtYs w a n zss) := hc
  have h2' : ¬ left - (n : Int) < 0 := by omega
  clear hzn hc
  go_enter Try.func20, Try.ntmps20
  go_wp2
  go_loop [1, 5] (fun q i => ∃ j : Nat, j ≤ n ∧ i = .int .i64 j ∧ q = .int .i64 (left - (n : Int) - (upto (ylens zss) j : Nat)) ∧ 0 ≤ left - (n : Int) - (upto (ylens zss) j : Nat)) (fun _ i => n - (intOf i).toNat)
  case atStart => exact ⟨0, Nat.zero_le _, rfl, by simp [upto_zero], by simp [upto_zero]; omega⟩
  case round =>
    obtain ⟨j, hj, rfl, rfl, hq⟩ := hrel
    by_cases hlt : j < n
    · obtain ⟨b, off, ua, uc, rfl, c1, i1⟩ := HC.out j hlt
      clear HC
      have hs := upto_succ (ylens zss) j (by rw [ylens_length, HN.out]; exact hlt)
      rw [ylens_get] at hs
      have hle := upto_le (ylens zss) (j + 1)
      have HS : Hid (upto (ylens zss) (j + 1) = upto (ylens zss) j + (zss[j]?.getD []).length) := hs
      clear hs
      generalize upto (ylens zss) j = U at *
      have HI : Hid (Byt w (.slice ua (zss[j]?.getD []).length uc) (zss[j]?.getD [])) := i1
      clear i1
      by_cases hm : left - (n : Int) - (U : Int) < ((zss[j]?.getD []).length : Int)
      · have HM : Hid (szf left (n + (ylens zss).sum) = -1) := szf_no (by have := HS.out; omega)
        have HR' : Hid (szf (left - (n : Int) - (U : Int)) (zss[j]?.getD []).length = -1) := szf_no hm
        go_wp2_with fail
        refine (szBytU HI.out _ hq (by omega)).mono ?_
        rw [HR'.out]
        rintro e w' ⟨rfl, rfl⟩
        go_wp2
        go_ret
        exact ⟨ret_int HM.out.symm, rfl⟩
      · have HR' : Hid (szf (left - (n : Int) - (U : Int)) (zss[j]?.getD []).length = left - (n : Int) - (U : Int) - ((zss[j]?.getD []).length : Int)) := szf_yes hm
        have hpos : ¬ (left - (n : Int) - (U : Int) - ((zss[j]?.getD []).length : Int) < 0) := by omega
        go_wp2_with fail
        refine (szBytU HI.out _ hq (by omega)).mono ?_
        rw [HR'.out]
        rintro e w' ⟨rfl, rfl⟩
        go_wp2
        go_round
        case rel => exact ⟨j + 1, by omega, by go_num, by rw [HS.out]; go_num, by rw [HS.out]; omega⟩
        case measure => simp [intOf]; omega
    · go_wp2
      go_ret
      have e : j = n := by omega
      subst e
      have ha := upto_all (ylens zss)
      rw [ylens_length, HN.out] at ha
      refine ⟨ret_int ?_, rfl⟩
      rw [ha] at hq ⊢
      rw [szf_yes (by omega)]
      omega
theorem szBytsU (w : World) (a : Option Addr) (n c : Nat) (d : List (List UInt8)) (h : Byts w (.slice a n c) d) (left : Int) (l0 : 0 ≤ left) (l1 : left ≤ 1048576) :
    Calls Try.prog 20 #[.slice a n c, .int .i64 left] w fun e w' => e = .returned (.int .i64 (szf left (sizeByts d))) ∧ Below w.heap.size w w' := by
  obtain ⟨a', cap, e, hm, hc⟩ := h.open'
  simp only [Value.slice.injEq] at e
  obtain ⟨rfl, rfl, rfl⟩ := e
  by_cases h : left < (d.length : Int)
  · refine (szByts_many w _ d.length _ left l0 l1 hm.1 h).mono fun e w' ⟨he, hw⟩ => ⟨he.trans (ret_int ?_), hw ▸ Below.refl _ _⟩
    rw [szf_no (by unfold sizeByts; omega)]
  · exact (szByts_walk w _ _ d.length left d rfl l0 l1 h hc).mono fun e w' ⟨he, hw⟩ => ⟨he, hw ▸ Below.refl _ _⟩

set_option maxHeartbeats 400000 in
theorem toByt_walk (w : World) (a : Option Addr) (cap n : Nat) (zs : List UInt8) (hn : n ≤ 1048576) (hc : AtY w a n zs) :
    Calls Try.prog 37 #[.slice a n cap] w fun e w' => e = .returned (.slice (some ⟨w.heap.size, 0, none⟩) n n) ∧ Below w.heap.size w w' ∧ OwnRow w' w.heap.size n (fun i => .int .u8 (((zs[i]?.getD 0).toNat : Nat) : Int)) := by
  have hmk := fun w => run_make_row' (P := Try.prog) 40 5 (.int .u8 0) 1 Try.underlying40 Try.infoU8 rfl .i64 .i64 n (by omega) (by omega) w
  have HC : Hid (AtY w a n zs) := hc
  clear hc
  go_enter Try.func37, Try.ntmps37
  go_wp2
  clear hmk
  go_loopw [4] (fun i wr => ∃ j : Nat, j ≤ n ∧ i = .int .i64 j ∧ Below w.heap.size w wr ∧ OwnRow wr w.heap.size n (fun i => if i < j then .int .u8 (((zs[i]?.getD 0).toNat : Nat) : Int) else .int .u8 0)) (fun i _ => n - (intOf i).toNat)
  case atStart => exact ⟨0, Nat.zero_le _, rfl, later1 _ _, (OwnRow.made w (.int .u8 0) n 5).congr fun i _ => by simp⟩
  case round =>
    obtain ⟨j, hj, rfl, hbl, hrow⟩ := hrel
    by_cases hlt : j < n
    · obtain ⟨b, off, rfl, c0⟩ := HC.out j hlt
      have c1 := cell_later hbl c0
      have d1 := hrow.cell hlt
      have d2 := hrow.frozen j
      simp only [Nat.lt_irrefl, if_false] at d1
      have HBL : Hid (Below w.heap.size w wr) := hbl
      have HROW : Hid (OwnRow wr w.heap.size n (fun i => if i < j then .int .u8 (((zs[i]?.getD 0).toNat : Nat) : Int) else .int .u8 0)) := hrow
      clear hbl hrow c0 HC
      go_wp2
      go_roundw
      case rel =>
        refine ⟨j + 1, by omega, by go_num, HBL.out.setCell (Nat.le_refl _) _, (HROW.out.set j _).congr fun i hi => ?_⟩
        by_cases e : i = j
        · subst e; simp
        · by_cases e2 : i < j
          · simp [e, e2, show i < j + 1 by omega]
          · simp [e, e2, show ¬ i < j + 1 by omega]
      case measure => simp [intOf]; omega
    · go_wp2
      go_ret
      have e : j = n := by omega
      subst e
      exact ⟨rfl, hbl, hrow.congr fun i hi => by simp [hi]⟩
theorem toBytU {w : World} {v : Value} {zs : List UInt8} (h : Byt w v zs) (hn : zs.length ≤ 1048576) :
    Calls Try.prog 37 #[v] w fun e w' => ∃ a n c, e = .returned (.slice a n c) ∧ Below w.heap.size w w' ∧ BytO w' (.slice a n c) zs (fresh w w') := by
  obtain ⟨a, cap, rfl, hm, hc⟩ := h
  refine (toByt_walk w a cap zs.length zs hn hc).mono fun e w' ⟨he, hb, hr⟩ => ⟨_, _, _, he, hb, Or.inr ⟨w.heap.size, _, ⟨Nat.le_refl _, hr.lt⟩, rfl, ⟨hm.1, Nat.le_refl _⟩, hr⟩⟩

set_option maxHeartbeats 800000 in
theorem toByts_walk (w : World) (a : Option Addr) (cap n : Nat) (zss : List (List UInt8)) (hn : n ≤ 1048576) (hz : ∀ k : Nat, (zss[k]?.getD []).length ≤ 1048576) (hc : AtYs w a n zss) :
    Calls Try.prog 24 #[.slice a n cap] w fun e w' => e = .returned (.slice (some ⟨w.heap.size, 0, none⟩) n n) ∧ Below w.heap.size w w' ∧
      ∃ u s, OwnRow w' w.heap.size n u ∧ BuiltY w' (w.heap.size + 1) n u (fun i => zss[i]?.getD []) s := by
  have hmk := fun w => run_make_row' (P := Try.prog) 23 40 (.slice none 0 0) 24 Try.underlying23 Try.infoU8s rfl .i64 .i64 n (by omega) (by omega) w
  have HZ : Hid (∀ k : Nat, (zss[k]?.getD []).length ≤ 1048576) := hz
  have HC : Hid (AtYs w a n zss) := hc
  clear hz hc
  go_enter Try.func24, Try.ntmps24
  go_wp2
  clear hmk
  go_loopw [4] (fun i wr => ∃ j : Nat, j ≤ n ∧ i = .int .i64 j ∧ Below w.heap.size w wr ∧ ∃ u s, OwnRow wr w.heap.size n (fun i => if i < j then u i else .slice none 0 0) ∧ BuiltY wr (w.heap.size + 1) j u (fun i => zss[i]?.getD []) s) (fun i _ => n - (intOf i).toNat)
  case atStart => exact ⟨0, Nat.zero_le _, rfl, later1 _ _, fun _ => .slice none 0 0, _, (OwnRow.made w (.slice none 0 0) n 40).congr fun i _ => by simp, BuiltY.nil _ _ (by simp)⟩
  case round =>
    obtain ⟨j, hj, rfl, hbl, u, s, hrow, hbt⟩ := hrel
    by_cases hlt : j < n
    · obtain ⟨b, off, ua, uc, rfl, c0, i0⟩ := HC.out j hlt
      have c1 := cell_later hbl c0
      have HI : Hid (Byt wr (.slice ua (zss[j]?.getD []).length uc) (zss[j]?.getD [])) := i0.later hbl
      have HBL : Hid (Below w.heap.size w wr) := hbl
      have HROW : Hid (OwnRow wr w.heap.size n (fun i => if i < j then u i else .slice none 0 0)) := hrow
      have HBT : Hid (BuiltY wr (w.heap.size + 1) j u (fun i => zss[i]?.getD []) s) := hbt
      clear c0 i0 hbl hrow hbt HC
      go_wp2_with fail
      refine (toBytU HI.out (HZ.out j)).mono ?_
      rintro e w1 ⟨na, nn, nc, rfl, hb1, ho1⟩
      have HB1 : Hid (Below wr.heap.size wr w1) := hb1
      have HO1 : Hid (BytO w1 (.slice na nn nc) (zss[j]?.getD []) (fresh wr w1)) := ho1
      have HROW1 : Hid (OwnRow w1 w.heap.size n (fun i => if i < j then u i else .slice none 0 0)) := HROW.out.block (hb1.block _ HROW.out.lt)
      have d1 := HROW1.out.cell hlt
      have d2 := HROW1.out.frozen j
      simp only [Nat.lt_irrefl, if_false] at d1
      clear hb1 ho1
      go_wp2
      go_roundw
      case rel =>
        refine ⟨j + 1, by omega, by go_num, (HBL.out.trans (HB1.out.mono HBL.out.size)).setCell (Nat.le_refl _) _, _, _, (HROW1.out.set j _).congr fun i hi => ?_, (HBT.out.next HB1.out HO1.out).store (by simp) _⟩
        by_cases e : i = j
        · subst e; simp
        · by_cases e2 : i < j
          · simp [e, e2, show i < j + 1 by omega]
          · simp [e, e2, show ¬ i < j + 1 by omega]
      case measure => simp [intOf]; omega
    · go_wp2
      go_ret
      have e : j = n := by omega
      subst e
      exact ⟨rfl, hbl, u, s, hrow.congr fun i hi => by simp [hi], hbt⟩
theorem toBytsU {w : World} {v : Value} {zss : List (List UInt8)} (h : Byts w v zss) (hn : sizeByts zss ≤ 1048576) :
    Calls Try.prog 24 #[v] w fun e w' => ∃ a n c, e = .returned (.slice a n c) ∧ Below w.heap.size w w' ∧ BytsO w' (.slice a n c) zss (fresh w w') := by
  obtain ⟨a, cap, rfl, hm, hc⟩ := h.open'
  unfold sizeByts at hn
  refine (toByts_walk w a cap zss.length zss (by omega) (fun k => by have := ylens_le zss k; omega) hc).mono fun e w' ⟨he, hb, u, s, hr, hbt⟩ => ⟨_, _, _, he, hb, ?_⟩
  exact BuiltY.byts zss hbt rfl ⟨hm.1, Nat.le_refl _⟩ (Nat.lt_succ_self _) hr _ ⟨Nat.le_refl _, hr.lt⟩ (fun c h1 h2 => ⟨by omega, h2⟩)

set_option maxHeartbeats 800000 in
theorem eqByt_walk (w : World) (a a' : Option Addr) (cap cap' n : Nat) (zs : List UInt8) (hn : n ≤ maxLen) (hc : AtY w a n zs) (hc' : AtY w a' n zs) :
    Calls Try.prog 40 #[.slice a n cap, .slice a' n cap'] w fun e w' => e = .returned (.bool true) ∧ ∃ m, w' = w.drewN m := by
  unfold maxLen at hn
  have HC : Hid (AtY w a n zs) := hc
  have HC' : Hid (AtY w a' n zs) := hc'
  clear hc hc'
  go_enter Try.func40, Try.ntmps40
  go_wp2
  go_loopw [5] (fun i wr => ∃ j m : Nat, j ≤ n ∧ i = .int .i64 j ∧ wr = w.drewN m) (fun i _ => n - (intOf i).toNat)
  case atStart => exact ⟨0, 0, Nat.zero_le _, rfl, rfl⟩
  case round =>
    obtain ⟨j, m, hj, rfl, rfl⟩ := hrel
    by_cases hlt : j < n
    · obtain ⟨b, o, rfl, d0⟩ := HC.out j hlt
      obtain ⟨b', o', rfl, d1⟩ := HC'.out j hlt
      have hz : ((((zs[j]?.getD 0).toNat : Nat) : Int) != (((zs[j]?.getD 0).toNat : Nat) : Int)) = false := by simp
      generalize ((((zs[j]?.getD 0).toNat : Nat) : Int)) = z at *
      clear HC HC'
      go_wp2_with fail
      go_quiet (fail)
      go_wp2
      go_roundw
      case rel => exact ⟨j + 1, _, by omega, by go_num, rfl⟩
      case measure => simp [intOf]; omega
    · go_wp2
      go_ret
      exact ⟨rfl, m, rfl⟩
theorem eqBytU {w : World} {v v' : Value} {zs : List UInt8} (h : Byt w v zs) (h' : Byt w v' zs) : Calls Try.prog 40 #[v, v'] w fun e w' => e = .returned (.bool true) ∧ ∃ m, w' = w.drewN m := by
  obtain ⟨a, cap, rfl, hm, hc⟩ := h
  obtain ⟨a', cap', rfl, _, hc'⟩ := h'
  exact eqByt_walk w a a' cap cap' _ zs hm.1 hc hc'
end Go.Proofs.Ytpfafcodihhdfaa

namespace Go.Proofs.Ytpfafcodihhdfaa
open Go.RowKit
set_option maxRecDepth 100000

/-- The marks of n bytes from k on. -/
def marksY (k n : Nat) : List UInt8 := (List.range n).map fun i => UInt8.ofNat (k + i)
theorem marksY_length (k n : Nat) : (marksY k n).length = n := by simp [marksY]
theorem marksY_get (k : Nat) {n i : Nat} (h : i < n) : (marksY k n)[i]?.getD 0 = UInt8.ofNat (k + i) := by
  unfold marksY; rw [List.getElem?_map, List.getElem?_range h]; rfl
theorem u8_ofNat (k : Nat) : (((UInt8.ofNat k).toNat : Nat) : Int) = (k : Int) % 256 := by
  rw [UInt8.toNat_ofNat']; omega

set_option maxHeartbeats 400000 in
theorem markByt_nil (w : World) (a : Option Addr) (cap : Nat) (k : Int) :
    Calls Try.prog 54 #[.slice a 0 cap, .int .i64 k] w fun e w' => e = .returned (.int .i64 k) ∧ w' = w := by
  go_enter Try.func54, Try.ntmps54
  go_wp2
  go_loop [1, 5] (fun q i => i = .int .i64 0 ∧ q = .int .i64 k) (fun _ _ => 0)
  case atStart => exact ⟨rfl, rfl⟩
  case round =>
    obtain ⟨rfl, rfl⟩ := hrel
    go_wp2
    go_ret
    exact ⟨rfl, rfl⟩

set_option maxHeartbeats 800000 in
theorem markByt_walk (w : World) (b cap n k : Nat) (F : Nat → Prop) (f : Nat → Value) (hF : F b) (hk : k + n ≤ 4611686018427387904) (hr : OwnRow w b n f) :
    Calls Try.prog 54 #[.slice (some ⟨b, 0, none⟩) n cap, .int .i64 (k : Int)] w fun e w' => e = .returned (.int .i64 ((k + n : Nat) : Int)) ∧ OwnRow w' b n (fun i => .int .u8 (((k : Int) + (i : Int)) % 256)) ∧ Chg F w w' := by
  have HR : Hid (OwnRow w b n f) := hr
  have HF : Hid (F b) := hF
  clear hr hF
  go_enter Try.func54, Try.ntmps54
  go_wp2
  go_loopw [1, 5] (fun q i wr => ∃ j : Nat, j ≤ n ∧ i = .int .i64 j ∧ q = .int .i64 ((k : Int) + (j : Int)) ∧ OwnRow wr b n (fun i => if i < j then .int .u8 (((k : Int) + (i : Int)) % 256) else f i) ∧ Chg F w wr) (fun _ i _ => n - (intOf i).toNat)
  case atStart => exact ⟨0, Nat.zero_le _, rfl, by simp, HR.out.congr fun i _ => by simp, Chg.refl _ _⟩
  case round =>
    obtain ⟨j, hj, rfl, rfl, hrow, hch⟩ := hrel
    by_cases hlt : j < n
    · have c1 := hrow.cell hlt
      have c2 := hrow.frozen j
      have HROW : Hid (OwnRow wr b n (fun i => if i < j then .int .u8 (((k : Int) + (i : Int)) % 256) else f i)) := hrow
      have HCH : Hid (Chg F w wr) := hch
      clear hrow hch
      simp only [Nat.lt_irrefl, if_false] at c1
      have hwr : IntKind.u8.wrap ((k : Int) + (j : Int)) = ((k : Int) + (j : Int)) % 256 := by
        unfold IntKind.wrap
        simp [IntKind.signed, IntKind.bits]
      generalize hX : ((k : Int) + (j : Int)) % 256 = X at *
      have HX : Hid (((k : Int) + (j : Int)) % 256 = X) := hX
      clear hX
      go_wp2
      go_roundw
      case rel =>
        refine ⟨j + 1, by omega, by go_num, by go_num, (HROW.out.set j _).congr fun i hi => ?_, HCH.out.set HF.out _ _⟩
        by_cases e : i = j
        · subst e; simp [HX.out]
        · by_cases e2 : i < j
          · simp [e, e2, show i < j + 1 by omega]
          · simp [e, e2, show ¬ i < j + 1 by omega]
      case measure => simp [intOf]; omega
    · go_wp2
      go_ret
      have e : j = n := by omega
      subst e
      exact ⟨by first | rfl | (congr 2; omega), hrow.congr fun i hi => by simp [hi], hch⟩
def mkByt (k : Int) (zs : List UInt8) : List UInt8 := marksY k.toNat zs.length
theorem mkByt_length (k : Int) (zs : List UInt8) : (mkByt k zs).length = zs.length := marksY_length _ _
theorem markBytU {w : World} {v : Value} {zs : List UInt8} {F : Nat → Prop} (k : Int) (h : BytO w v zs F) (hk0 : 0 ≤ k) (hk : k + (zs.length : Nat) ≤ 4611686018427387904) :
    Calls Try.prog 54 #[v, .int .i64 k] w fun e w' => e = .returned (.int .i64 (k + (zs.length : Nat))) ∧ BytO w' v (mkByt k zs) F ∧ Chg F w w' := by
  obtain ⟨q, rfl⟩ := Int.eq_ofNat_of_zero_le hk0
  rcases h with ⟨rfl, a, cap, rfl⟩ | ⟨b, cap, hF, rfl, hl, hr⟩
  · exact (markByt_nil w a cap _).mono fun e w' ⟨he, hw⟩ => ⟨by rw [he]; simp, Or.inl ⟨by simp [mkByt, marksY], _, _, rfl⟩, hw ▸ Chg.refl _ _⟩
  · refine (markByt_walk w b cap zs.length q F _ hF (by omega) hr).mono fun e w' ⟨he, hro, hc⟩ => ⟨by rw [he]; simp, Or.inr ⟨b, cap, hF, by rw [mkByt_length], by rw [mkByt_length]; exact hl, ?_⟩, hc⟩
    rw [mkByt_length]
    refine hro.congr fun i hi => ?_
    unfold mkByt
    rw [marksY_get _ hi, u8_ofNat]
    congr 1
set_option maxHeartbeats 400000 in
theorem markByts_nil (w : World) (a : Option Addr) (cap : Nat) (k : Int) :
    Calls Try.prog 31 #[.slice a 0 cap, .int .i64 k] w fun e w' => e = .returned (.int .i64 k) ∧ w' = w := by
  go_enter Try.func31, Try.ntmps31
  go_wp2
  go_loop [1, 5] (fun q i => i = .int .i64 0 ∧ q = .int .i64 k) (fun _ _ => 0)
  case atStart => exact ⟨rfl, rfl⟩
  case round =>
    obtain ⟨rfl, rfl⟩ := hrel
    go_wp2
    go_ret
    exact ⟨rfl, rfl⟩
set_option maxHeartbeats 800000 in
theorem markByts_walk (w : World) (b cap n : Nat) (k : Int) (F : Nat → Prop) (zss : List (List UInt8)) (u : Nat → Value) (G : Nat → Nat → Prop) (hG : ∀ i c, G i c → F c ∧ c ≠ b) (hGG : ∀ i j c, i ≠ j → G i c → ¬ G j c)
    (hn : zss.length = n) (hk0 : 0 ≤ k) (hk : k + ((ylens zss).sum : Nat) ≤ 4611686018427387904) (hn2 : n ≤ 9223372036854775807) (hr : OwnRow w b n u) (hu : ∀ i, i < n → BytO w (u i) (zss[i]?.getD []) (G i)) :
    Calls Try.prog 31 #[.slice (some ⟨b, 0, none⟩) n cap, .int .i64 k] w fun e w' => e = .returned (.int .i64 (k + ((ylens zss).sum : Nat))) ∧ Chg F w w' := by
  have HR : Hid (OwnRow w b n u) := hr
  have HU : Hid (∀ i, i < n → BytO w (u i) (zss[i]?.getD []) (G i)) := hu
  have HG : Hid (∀ i c, G i c → F c ∧ c ≠ b) := hG
  have HGG : Hid (∀ i j c, i ≠ j → G i c → ¬ G j c) := hGG
  have HN : Hid (zss.length = n) := hn
  clear hr hu hG hGG hn
  go_enter Try.func31, Try.ntmps31
  go_wp2
  go_loopw [1, 5] (fun q i wr => ∃ j : Nat, j ≤ n ∧ i = .int .i64 j ∧ q = .int .i64 (k + (upto (ylens zss) j : Nat)) ∧ OwnRow wr b n u ∧ (∀ i, j ≤ i → i < n → BytO wr (u i) (zss[i]?.getD []) (G i)) ∧ Chg F w wr) (fun _ i _ => n - (intOf i).toNat)
  case atStart => exact ⟨0, Nat.zero_le _, rfl, by simp [upto_zero], HR.out, fun i _ hi => HU.out i hi, Chg.refl _ _⟩
  case round =>
    obtain ⟨j, hj, rfl, rfl, hrow, hin, hch⟩ := hrel
    by_cases hlt : j < n
    · have c1 := hrow.cell hlt
      have HROW : Hid (OwnRow wr b n u) := hrow
      have HIN : Hid (∀ i, j ≤ i → i < n → BytO wr (u i) (zss[i]?.getD []) (G i)) := hin
      have HCH : Hid (Chg F w wr) := hch
      clear hrow hin hch
      have hs := upto_succ (ylens zss) j (by rw [ylens_length, HN.out]; exact hlt)
      rw [ylens_get] at hs
      have hle := upto_le (ylens zss) (j + 1)
      have HS : Hid (upto (ylens zss) (j + 1) = upto (ylens zss) j + (zss[j]?.getD []).length) := hs
      clear hs
      generalize hU : upto (ylens zss) j = U at *
      have HIJ : Hid (BytO wr (u j) (zss[j]?.getD []) (G j)) := HIN.out j (Nat.le_refl _) hlt
      go_wp2_with fail
      refine (markBytU (k + (U : Int)) HIJ.out (by omega) (by have := HS.out; omega)).mono ?_
      rintro e w' ⟨rfl, _, hc⟩
      have HC : Hid (Chg (G j) wr w') := hc
      clear hc
      go_wp2
      go_roundw
      case rel =>
        refine ⟨j + 1, by omega, by go_num, by rw [HS.out]; go_num, HROW.out.block (HC.out.block b HROW.out.lt (fun h => (HG.out j b h).2 rfl)), fun i hij hi => ?_, HCH.out.trans (HC.out.mono fun c hc => (HG.out j c hc).1)⟩
        exact (HIN.out i (by omega) hi).keep (w' := w') fun c hc hlt => HC.out.block c hlt (HGG.out i j c (by omega) hc)
      case measure => simp [intOf]; omega
    · go_wp2
      go_ret
      have e : j = n := by omega
      subst e
      exact ⟨ret_int (by rw [← HN.out, ← upto_all, ylens_length]), hch⟩
theorem markBytsU {w : World} {v : Value} {zss : List (List UInt8)} {F : Nat → Prop} (k : Int) (h : BytsO w v zss F) (hk0 : 0 ≤ k) (hk : k + ((ylens zss).sum : Nat) ≤ 4611686018427387904) :
    Calls Try.prog 31 #[v, .int .i64 k] w fun e w' => e = .returned (.int .i64 (k + ((ylens zss).sum : Nat))) ∧ Chg F w w' := by
  rcases h with ⟨rfl, a, cap, rfl⟩ | ⟨b, cap, u, G, hF, hG, hGG, rfl, hl, hr, hu⟩
  · exact (markByts_nil w a cap k).mono fun e w' ⟨he, hw⟩ => ⟨by rw [he]; simp [ylens], hw ▸ Chg.refl _ _⟩
  · exact markByts_walk w b cap zss.length k F zss u G hG hGG rfl hk0 hk (by have := hl.1; unfold maxLen at this; omega) hr hu
end Go.Proofs.Ytpfafcodihhdfaa

namespace Go.Proofs.Ytpfafcodihhdfaa
open Go.RowKit
set_option maxRecDepth 100000

theorem Try.cellsU8V : Try.prog.cellsOf 5 = 1 := by kernel_rfl
theorem eqBytV {w : World} {v v' : Value} {zs : List UInt8} (h : Byt w v zs) (h' : Byt w v' zs) : Calls Try.prog 40 #[v, v'] w fun e w' => e = .returned (.bool true) ∧ Below w.heap.size w w' :=
  (eqBytU h h').mono fun _ _ ⟨h1, m, h2⟩ => ⟨h1, h2 ▸ below_drewN (Below.refl _ _) m⟩
theorem markBytV {w : World} {v : Value} {zs : List UInt8} {F : Nat → Prop} (k : Int) (h : BytO w v zs F) (hk0 : 0 ≤ k) (hk : k + (zs.length : Nat) ≤ 4611686018427387904) :
    Calls Try.prog 54 #[v, .int .i64 k] w fun e w' => e = .returned (.int .i64 (k + (zs.length : Nat))) ∧ Chg F w w' :=
  (markBytU k h hk0 hk).mono fun _ _ ⟨h1, _, h2⟩ => ⟨h1, h2⟩
end Go.Proofs.Ytpfafcodihhdfaa

namespace Go.Proofs.Ytpfafcodihhdfaa
open Go.RowKit
set_option maxRecDepth 100000

/-- A call: its kind, its path, the other path, where from, what size, its data. -/
abbrev CalD := Int × ByteArray × ByteArray × Int × Int × List UInt8
def CalR (w : World) (v0 v1 v2 v3 v4 vD : Value) (d : CalD) : Prop := (v0 = .int .i64 d.1 ∧ v1 = .string d.2.1 ∧ v2 = .string d.2.2.1 ∧ v3 = .int .i64 d.2.2.2.1 ∧ v4 = .int .i64 d.2.2.2.2.1 ∧ d.2.1.size ≤ maxLen ∧ d.2.2.1.size ≤ maxLen) ∧ Byt w vD d.2.2.2.2.2
theorem CalR.later {w w' : World} {v0 v1 v2 v3 v4 vD : Value} {d : CalD} (h : CalR w v0 v1 v2 v3 v4 vD d) (hb : Below w.heap.size w w') : CalR w' v0 v1 v2 v3 v4 vD d := ⟨h.1, h.2.later hb⟩
def CalU (w : World) (v0 v1 v2 v3 v4 vD : Value) (d : CalD) (F : Nat → Prop) : Prop := (v0 = .int .i64 d.1 ∧ v1 = .string d.2.1 ∧ v2 = .string d.2.2.1 ∧ v3 = .int .i64 d.2.2.2.1 ∧ v4 = .int .i64 d.2.2.2.2.1 ∧ d.2.1.size ≤ maxLen ∧ d.2.2.1.size ≤ maxLen) ∧ BytO w vD d.2.2.2.2.2 F
theorem CalU.reads {w : World} {v0 v1 v2 v3 v4 vD : Value} {d : CalD} {F : Nat → Prop} (h : CalU w v0 v1 v2 v3 v4 vD d F) : CalR w v0 v1 v2 v3 v4 vD d := ⟨h.1, h.2.reads⟩
theorem CalU.keep {w w' : World} {v0 v1 v2 v3 v4 vD : Value} {d : CalD} {F : Nat → Prop} (h : CalU w v0 v1 v2 v3 v4 vD d F) (e : ∀ b, F b → b < w.heap.size → w'.heap[b]? = w.heap[b]?) : CalU w' v0 v1 v2 v3 v4 vD d F := ⟨h.1, h.2.keep e⟩
theorem CalU.later {w w' : World} {v0 v1 v2 v3 v4 vD : Value} {d : CalD} {F : Nat → Prop} (h : CalU w v0 v1 v2 v3 v4 vD d F) (hb : Below w.heap.size w w') : CalU w' v0 v1 v2 v3 v4 vD d F := h.keep fun b _ hlt => hb.block b hlt
theorem CalU.mono {w : World} {v0 v1 v2 v3 v4 vD : Value} {d : CalD} {F G : Nat → Prop} (h : CalU w v0 v1 v2 v3 v4 vD d F) (e : ∀ b, F b → G b) : CalU w v0 v1 v2 v3 v4 vD d G := ⟨h.1, h.2.mono e⟩
theorem CalU.chg {w w' : World} {v0 v1 v2 v3 v4 vD : Value} {d : CalD} {F G : Nat → Prop} (h : CalU w v0 v1 v2 v3 v4 vD d F) (hc : Chg G w w') (hd : ∀ b, F b → ¬ G b) : CalU w' v0 v1 v2 v3 v4 vD d F := h.keep fun b hb hlt => hc.block b hlt (hd b hb)
def sizeCal (d : CalD) : Nat := d.2.1.size + d.2.2.1.size + d.2.2.2.2.2.length
def spanCal (d : CalD) : Nat := d.2.2.2.2.2.length
theorem spanCal_le (d : CalD) : spanCal d ≤ 2 * sizeCal d := by unfold spanCal sizeCal; omega

set_option maxHeartbeats 800000 in
theorem szCallU (w : World) (z0 : Int) (t1 t2 : ByteArray) (z3 z4 : Int) (aD : Option Addr) (nD cD : Nat) (d : CalD) (h : CalR w (.int .i64 z0) (.string t1) (.string t2) (.int .i64 z3) (.int .i64 z4) (.slice aD nD cD) d) (left : Int) (l0 : 0 ≤ left) (l1 : left ≤ 1048576) :
    Calls Try.prog 14 #[.agg #[.int .i64 z0, .string t1, .string t2, .int .i64 z3, .int .i64 z4, .slice aD nD cD], .int .i64 left] w fun e w' => e = .returned (.int .i64 (szf left (sizeCal d))) ∧ Below w.heap.size w w' := by
  obtain ⟨⟨_, e1, e2, _, _, m1, m2⟩, hB⟩ := h
  obtain ⟨k0, q1, q2, k3, k4, zs⟩ := d
  dsimp only at e1 e2 m1 m2 hB
  simp only [Value.string.injEq] at e1 e2
  subst e1 e2
  have HD : Hid (Byt w (.slice aD nD cD) zs) := hB
  have HZ : Hid (sizeCal (k0, t1, t2, k3, k4, zs) = t1.size + t2.size + zs.length) := rfl
  clear hB
  unfold maxLen at m1 m2
  by_cases hp : left < (t1.size : Int)
  · rw [szf_no (by rw [HZ.out]; omega)]
    have hn : left - (t1.size : Int) < 0 := by omega
    go_enter Try.func14, Try.ntmps14
    go_wp2
    go_ret
    exact ⟨rfl, later1 _ _⟩
  · have hn : ¬ left - (t1.size : Int) < 0 := by omega
    by_cases ht : left - (t1.size : Int) < (t2.size : Int)
    · rw [szf_no (by rw [HZ.out]; omega)]
      have hn2 : left - (t1.size : Int) - (t2.size : Int) < 0 := by omega
      go_enter Try.func14, Try.ntmps14
      go_wp2
      go_ret
      exact ⟨rfl, later1 _ _⟩
    · have hn2 : ¬ left - (t1.size : Int) - (t2.size : Int) < 0 := by omega
      have HR : Hid (szf (left - (t1.size : Int) - (t2.size : Int)) zs.length = szf left (sizeCal (k0, t1, t2, k3, k4, zs))) := by
        unfold Hid szf sizeCal
        dsimp only
        split <;> split <;> omega
      have hrr : szf left (sizeCal (k0, t1, t2, k3, k4, zs)) = -1 ∨ 0 ≤ szf left (sizeCal (k0, t1, t2, k3, k4, zs)) := by unfold szf; split <;> omega
      generalize hr : szf left (sizeCal (k0, t1, t2, k3, k4, zs)) = r at *
      clear hr HZ
      rcases hrr with hneg | hge
      · subst hneg
        go_enter Try.func14, Try.ntmps14
        go_wp2_with fail
        refine (szBytU (HD.out.later (later1 _ _)) _ (by omega) (by omega)).mono ?_
        rw [HR.out]
        rintro e w1 ⟨rfl, rfl⟩
        go_wp2
        go_ret
        exact ⟨rfl, later1 _ _⟩
      · have hnn : ¬ r < 0 := by omega
        clear hge
        go_enter Try.func14, Try.ntmps14
        go_wp2_with fail
        refine (szBytU (HD.out.later (later1 _ _)) _ (by omega) (by omega)).mono ?_
        rw [HR.out]
        rintro e w1 ⟨rfl, rfl⟩
        go_wp2
        go_ret
        exact ⟨rfl, later1 _ _⟩

set_option maxHeartbeats 1600000 in
theorem eqCallU (w : World) (v0 v1 v2 v3 v4 vD v0' v1' v2' v3' v4' vD' : Value) (d : CalD) (h : CalR w v0 v1 v2 v3 v4 vD d) (h' : CalR w v0' v1' v2' v3' v4' vD' d) :
    Calls Try.prog 18 #[.agg #[v0, v1, v2, v3, v4, vD], .agg #[v0', v1', v2', v3', v4', vD']] w fun e w' => e = .returned (.bool true) ∧ Below w.heap.size w w' := by
  obtain ⟨⟨rfl, rfl, rfl, rfl, rfl, -⟩, hB⟩ := h
  obtain ⟨⟨rfl, rfl, rfl, rfl, rfl, -⟩, hB'⟩ := h'
  obtain ⟨a1, c1, rfl, -⟩ := id hB
  obtain ⟨b1, k1, rfl, -⟩ := id hB'
  have H1 : Hid (Byt w (.slice a1 d.2.2.2.2.2.length c1) d.2.2.2.2.2) := hB
  have H1' : Hid (Byt w (.slice b1 d.2.2.2.2.2.length k1) d.2.2.2.2.2) := hB'
  clear hB hB'
  generalize d.1 = z0
  generalize d.2.1 = t1
  generalize d.2.2.1 = t2
  generalize d.2.2.2.1 = z3
  generalize d.2.2.2.2.1 = z4
  generalize d.2.2.2.2.2.length = m1 at *
  have e0 : (z0 != z0) = false := by simp
  have e1 : (t1.toList != t1.toList) = false := by simp
  have e2 : (t2.toList != t2.toList) = false := by simp
  have e3 : (z3 != z3) = false := by simp
  have e4 : (z4 != z4) = false := by simp
  go_enter Try.func18, Try.ntmps18
  go_wp2_with fail
  refine (eqBytV (H1.out.later (later2 _ _ _)) (H1'.out.later (later2 _ _ _))).mono ?_
  rintro e w1 ⟨rfl, hb1⟩
  have HB1 : Hid (Below w.heap.size w w1) := (later2 _ _ _).trans (hb1.mono (by simp; omega))
  clear hb1
  go_wp2
  go_ret
  exact ⟨rfl, HB1.out⟩
end Go.Proofs.Ytpfafcodihhdfaa

namespace Go.Proofs.Ytpfafcodihhdfaa

def okW (z : Int) : Bool := decide (0 ≤ z ∧ z ≤ 65535)
def wordsF (ws : List Int) : Int := if 64 < ws.length then 2 else if ws.all okW then 0 else 3
/-- The first code that is not 0. -/
def firstF : List Int → Int
  | [] => 0
  | c :: cs => if c = 0 then firstF cs else c
def placeB (n : Nat) (x : Int) : Bool := decide (0 ≤ x ∧ x < (n : Int))
def putF (n : Nat) (p : Int × List Int) : Int := if placeB n p.1 = true then wordsF p.2 else 3
def faultF (bs : List (List Int)) (ps : List (Int × List Int)) : Int :=
  if 60 < bs.length ∨ 200 < ps.length then 2 else if firstF (bs.map wordsF) = 0 then firstF (ps.map (putF bs.length)) else firstF (bs.map wordsF)

theorem all_ok {ws : List Int} (h : ∀ i : Nat, i < ws.length → okW (ws[i]?.getD 0) = true) : ws.all okW = true := by
  rw [List.all_eq_true]
  intro x hx
  obtain ⟨i, hi, rfl⟩ := List.getElem_of_mem hx
  have := h i hi
  rwa [List.getElem?_eq_getElem hi, Option.getD_some] at this
theorem not_ok {ws : List Int} {i : Nat} (hi : i < ws.length) (h : okW (ws[i]?.getD 0) = false) : ws.all okW = false := by
  rw [List.getElem?_eq_getElem hi, Option.getD_some] at h
  rw [Bool.eq_false_iff]
  intro ha
  rw [List.all_eq_true] at ha
  have := ha _ (List.getElem_mem hi)
  rw [h] at this; cases this
theorem wordsF_many {ws : List Int} (h : 64 < ws.length) : wordsF ws = 2 := by simp [wordsF, h]
theorem wordsF_ok {ws : List Int} (h : ¬ 64 < ws.length) (ha : ∀ i : Nat, i < ws.length → okW (ws[i]?.getD 0) = true) : wordsF ws = 0 := by simp [wordsF, h, all_ok ha]
theorem wordsF_bad {ws : List Int} {i : Nat} (h : ¬ 64 < ws.length) (hi : i < ws.length) (ha : okW (ws[i]?.getD 0) = false) : wordsF ws = 3 := by simp [wordsF, h, not_ok hi ha]
theorem firstF_zero (l : List Int) : (∀ i : Nat, i < l.length → l[i]?.getD 0 = 0) → firstF l = 0 := by
  induction l with
  | nil => intro _; rfl
  | cons c cs ih =>
    intro h
    have h0 : c = 0 := by simpa using h 0 (by simp)
    have : firstF cs = 0 := ih fun i hi => by have := h (i + 1) (by simpa using hi); simpa using this
    simp [firstF, h0, this]
theorem firstF_at (l : List Int) : ∀ j : Nat, j < l.length → (∀ i : Nat, i < j → l[i]?.getD 0 = 0) → ¬ l[j]?.getD 0 = 0 → firstF l = l[j]?.getD 0 := by
  induction l with
  | nil => intro j hj; simp at hj
  | cons c cs ih =>
    intro j hj hz hn
    cases j with
    | zero => simp at hn; simp [firstF, hn]
    | succ j =>
      have h0 : c = 0 := by simpa using hz 0 (by omega)
      have := ih j (by simpa using hj) (fun i hi => by have := hz (i + 1) (by omega); simpa using this) (by simpa using hn)
      simp [firstF, h0, this]
theorem mapW_get (bs : List (List Int)) {i : Nat} (h : i < bs.length) : (bs.map wordsF)[i]?.getD 0 = wordsF (bs[i]?.getD []) := by
  rw [List.getElem?_map, List.getElem?_eq_getElem h]; rfl
theorem mapP_get (n : Nat) (ps : List (Int × List Int)) {i : Nat} (h : i < ps.length) : (ps.map (putF n))[i]?.getD 0 = putF n (ps[i]?.getD (0, [])) := by
  rw [List.getElem?_map, List.getElem?_eq_getElem h]; rfl
theorem faultF_many {bs : List (List Int)} {ps : List (Int × List Int)} (h : 60 < bs.length ∨ 200 < ps.length) : faultF bs ps = 2 := by simp [faultF, h]
theorem faultF_block {bs : List (List Int)} {ps : List (Int × List Int)} {j : Nat} (h : ¬ (60 < bs.length ∨ 200 < ps.length)) (hj : j < bs.length) (hz : ∀ i : Nat, i < j → wordsF (bs[i]?.getD []) = 0) (hn : ¬ wordsF (bs[j]?.getD []) = 0) : faultF bs ps = wordsF (bs[j]?.getD []) := by
  have e := firstF_at (bs.map wordsF) j (by simpa using hj) (fun i hi => by rw [mapW_get bs (by omega)]; exact hz i hi) (by rw [mapW_get bs hj]; exact hn)
  rw [mapW_get bs hj] at e
  simp [faultF, h, e, hn]
theorem faultF_put {bs : List (List Int)} {ps : List (Int × List Int)} {j : Nat} (h : ¬ (60 < bs.length ∨ 200 < ps.length)) (hb : ∀ i : Nat, i < bs.length → wordsF (bs[i]?.getD []) = 0) (hj : j < ps.length) (hz : ∀ i : Nat, i < j → putF bs.length (ps[i]?.getD (0, [])) = 0) (hn : ¬ putF bs.length (ps[j]?.getD (0, [])) = 0) : faultF bs ps = putF bs.length (ps[j]?.getD (0, [])) := by
  have e0 := firstF_zero (bs.map wordsF) (fun i hi => by rw [List.length_map] at hi; rw [mapW_get bs hi]; exact hb i hi)
  have e := firstF_at (ps.map (putF bs.length)) j (by simpa using hj) (fun i hi => by rw [mapP_get _ ps (by omega)]; exact hz i hi) (by rw [mapP_get _ ps hj]; exact hn)
  rw [mapP_get _ ps hj] at e
  simp [faultF, h, e0, e]
theorem faultF_ok {bs : List (List Int)} {ps : List (Int × List Int)} (h : ¬ (60 < bs.length ∨ 200 < ps.length)) (hb : ∀ i : Nat, i < bs.length → wordsF (bs[i]?.getD []) = 0) (hz : ∀ i : Nat, i < ps.length → putF bs.length (ps[i]?.getD (0, [])) = 0) : faultF bs ps = 0 := by
  have e0 := firstF_zero (bs.map wordsF) (fun i hi => by rw [List.length_map] at hi; rw [mapW_get bs hi]; exact hb i hi)
  have e := firstF_zero (ps.map (putF bs.length)) (fun i hi => by rw [List.length_map] at hi; rw [mapP_get _ ps hi]; exact hz i hi)
  simp [faultF, h, e0, e]

/-- The words that stand at place x while only the first k puts are looked at, the last one first. -/
def atK (bs : List (List Int)) (ps : List (Int × List Int)) (x : Int) : Nat → List Int
  | 0 => bs[x.toNat]?.getD []
  | k + 1 => if (ps[k]?.getD (0, [])).1 = x then (ps[k]?.getD (0, [])).2 else atK bs ps x k
def atF (bs : List (List Int)) (ps : List (Int × List Int)) (x : Int) : List Int := atK bs ps x ps.length
theorem atK_hit {bs : List (List Int)} {ps : List (Int × List Int)} {x : Int} {k : Nat} (h : (ps[k]?.getD (0, [])).1 = x) : atK bs ps x (k + 1) = (ps[k]?.getD (0, [])).2 := by simp [atK, h]
theorem atK_miss {bs : List (List Int)} {ps : List (Int × List Int)} {x : Int} {k : Nat} (h : ¬ (ps[k]?.getD (0, [])).1 = x) : atK bs ps x (k + 1) = atK bs ps x k := by simp [atK, h]
/-- The codes of PutBlock and of BlockAt. -/
def placeF (bs : List (List Int)) (ps : List (Int × List Int)) (x : Int) : Int := if faultF bs ps = 0 then (if placeB bs.length x = true then 0 else 3) else faultF bs ps

end Go.Proofs.Ytpfafcodihhdfaa

namespace Go.Proofs.Ytpfafcodihhdfaa
open Go.RowKit
set_option maxRecDepth 100000

theorem l1In_any (w : World) (v low high : Int) :
    Calls Try.prog 35 #[.int .i64 v, .int .i64 low, .int .i64 high] w fun e w' => e = .returned (.bool (decide (low ≤ v ∧ v ≤ high))) ∧ w' = w := by
  by_cases h1 : low ≤ v
  · by_cases h2 : v ≤ high
    · have e1 : decide (low ≤ v ∧ v ≤ high) = true := by simp [h1, h2]
      rw [e1]
      go_enter Try.func35, Try.ntmps35
      go_wp2
      go_ret
      exact ⟨rfl, rfl⟩
    · have e1 : decide (low ≤ v ∧ v ≤ high) = false := by simp [h2]
      rw [e1]
      go_enter Try.func35, Try.ntmps35
      go_wp2
      go_ret
      exact ⟨rfl, rfl⟩
  · have e1 : decide (low ≤ v ∧ v ≤ high) = false := by simp [h1]
    have hd : decide (low ≤ v) = false := by simpa using h1
    rw [e1]
    go_enter Try.func35, Try.ntmps35
    go_wp2
    go_ret
    exact ⟨rfl, rfl⟩

theorem l1In_is {w : World} {v low high : Int} {r : Bool} (h : decide (low ≤ v ∧ v ≤ high) = r) :
    Calls Try.prog 35 #[.int .i64 v, .int .i64 low, .int .i64 high] w fun e w' => e = .returned (.bool r) ∧ w' = w := by
  subst h; exact l1In_any w v low high

theorem place_l1 (n : Nat) (x : Int) : decide (0 ≤ x ∧ x ≤ (n : Int) - 1) = placeB n x := by
  unfold placeB
  by_cases h : 0 ≤ x ∧ x < (n : Int)
  · simp [h]; omega
  · simp [h]; omega

end Go.Proofs.Ytpfafcodihhdfaa

namespace Go.Proofs.Ytpfafcodihhdfaa
open Go.RowKit
set_option maxRecDepth 100000

/-- What is left of a call without what its kind has; whether it is more than a path; the call's code. -/
def restT (k : Int) (t : ByteArray) : ByteArray := if k = 8 ∨ k = 9 then ⟨#[]⟩ else t
def restF (k f : Int) : Int := if k = 3 ∨ k = 4 then 0 else f
def restS (k s : Int) : Int := if k = 4 ∨ k = 5 then 0 else s
def restV (k : Int) (a : Option Addr) (n c : Nat) : Value := if k = 3 then .slice none 0 0 else .slice a n c
def restM (k : Int) (n : Nat) : Nat := if k = 3 then 0 else n
def moreB (t : ByteArray) (f s : Int) (n : Nat) : Bool := decide (¬ t.toList = [] ∨ ¬ f = 0 ∨ ¬ s = 0 ∨ 0 < n)
def callQ (k : Int) (t : ByteArray) (f s : Int) (n : Nat) : Int := if 1 ≤ k ∧ k ≤ 11 then (if moreB (restT k t) (restF k f) (restS k s) (restM k n) = true then 1 else if 40 < n then 2 else 0) else 1
def callF (d : CalD) : Int := callQ d.1 d.2.2.1 d.2.2.2.1 d.2.2.2.2.1 d.2.2.2.2.2.length

set_option maxHeartbeats 1600000 in
theorem restOf_any (w : World) (k : Int) (p t : ByteArray) (f s : Int) (a : Option Addr) (n c : Nat) :
    Calls Try.prog 38 #[.agg #[.int .i64 k, .string p, .string t, .int .i64 f, .int .i64 s, .slice a n c]] w fun e w' => e = .returned (.agg #[.int .i64 k, .string p, .string (restT k t), .int .i64 (restF k f), .int .i64 (restS k s), restV k a n c]) ∧ Below w.heap.size w w' := by
  by_cases h8 : k = 8
  · subst h8
    rw [show restT 8 t = ⟨#[]⟩ from rfl, show restF 8 f = f from rfl, show restS 8 s = s from rfl, show restV 8 a n c = .slice a n c from rfl]
    go_enter Try.func38, Try.ntmps38
    go_wp2
    exact bodyPost_ret (v := .agg #[.int .i64 8, .string p, .string ⟨#[]⟩, .int .i64 f, .int .i64 s, .slice a n c]) (by simp [results, Try.results38, go_sem]) rfl ⟨rfl, later2 _ _ _⟩
  by_cases h9 : k = 9
  · subst h9
    rw [show restT 9 t = ⟨#[]⟩ from rfl, show restF 9 f = f from rfl, show restS 9 s = s from rfl, show restV 9 a n c = .slice a n c from rfl]
    go_enter Try.func38, Try.ntmps38
    go_wp2
    exact bodyPost_ret (v := .agg #[.int .i64 9, .string p, .string ⟨#[]⟩, .int .i64 f, .int .i64 s, .slice a n c]) (by simp [results, Try.results38, go_sem]) rfl ⟨rfl, later2 _ _ _⟩
  by_cases h3 : k = 3
  · subst h3
    rw [show restT 3 t = t from rfl, show restF 3 f = 0 from rfl, show restS 3 s = s from rfl, show restV 3 a n c = .slice none 0 0 from rfl]
    go_enter Try.func38, Try.ntmps38
    go_wp2
    exact bodyPost_ret (v := .agg #[.int .i64 3, .string p, .string t, .int .i64 0, .int .i64 s, .slice none 0 0]) (by simp [results, Try.results38, go_sem]) rfl ⟨rfl, later2 _ _ _⟩
  by_cases h4 : k = 4
  · subst h4
    rw [show restT 4 t = t from rfl, show restF 4 f = 0 from rfl, show restS 4 s = 0 from rfl, show restV 4 a n c = .slice a n c from rfl]
    go_enter Try.func38, Try.ntmps38
    go_wp2
    exact bodyPost_ret (v := .agg #[.int .i64 4, .string p, .string t, .int .i64 0, .int .i64 0, .slice a n c]) (by simp [results, Try.results38, go_sem]) rfl ⟨rfl, later2 _ _ _⟩
  by_cases h5 : k = 5
  · subst h5
    rw [show restT 5 t = t from rfl, show restF 5 f = f from rfl, show restS 5 s = 0 from rfl, show restV 5 a n c = .slice a n c from rfl]
    go_enter Try.func38, Try.ntmps38
    go_wp2
    exact bodyPost_ret (v := .agg #[.int .i64 5, .string p, .string t, .int .i64 f, .int .i64 0, .slice a n c]) (by simp [results, Try.results38, go_sem]) rfl ⟨rfl, later2 _ _ _⟩
  rw [show restT k t = t from if_neg (fun h => h.elim h8 h9), show restF k f = f from if_neg (fun h => h.elim h3 h4), show restS k s = s from if_neg (fun h => h.elim h4 h5), show restV k a n c = .slice a n c from if_neg h3]
  have e8 : (k == 8) = false := beq_eq_false_iff_ne.2 h8
  have e9 : (k == 9) = false := beq_eq_false_iff_ne.2 h9
  have e3 : (k == 3) = false := beq_eq_false_iff_ne.2 h3
  have e4 : (k == 4) = false := beq_eq_false_iff_ne.2 h4
  have e5 : (k == 5) = false := beq_eq_false_iff_ne.2 h5
  clear h8 h9 h3 h4 h5
  go_enter Try.func38, Try.ntmps38
  go_wp2
  exact bodyPost_ret (v := .agg #[.int .i64 k, .string p, .string t, .int .i64 f, .int .i64 s, .slice a n c]) (by simp [results, Try.results38, go_sem]) rfl ⟨rfl, later2 _ _ _⟩

set_option maxHeartbeats 1600000 in
theorem hasMore_any (w : World) (k : Int) (p t : ByteArray) (f s : Int) (a : Option Addr) (n c : Nat) (_hn : n ≤ maxLen) :
    Calls Try.prog 39 #[.agg #[.int .i64 k, .string p, .string t, .int .i64 f, .int .i64 s, .slice a n c]] w fun e w' => e = .returned (.bool (moreB t f s n)) ∧ Below w.heap.size w w' := by
  unfold maxLen at _hn
  go_enter Try.func39, Try.ntmps39
  go_wp2
  all_goals
    go_ret
    refine ⟨?_, later1 _ _⟩
    simp_all [moreB]

theorem restV_shape (k : Int) (a : Option Addr) (n c : Nat) : ∃ a' c', restV k a n c = .slice a' (restM k n) c' := by
  unfold restV restM
  by_cases h : k = 3
  · rw [if_pos h, if_pos h]; exact ⟨_, _, rfl⟩
  · rw [if_neg h, if_neg h]; exact ⟨_, _, rfl⟩
theorem restM_le (k : Int) (n : Nat) : restM k n ≤ n := by unfold restM; split <;> omega

set_option maxHeartbeats 1600000 in
theorem implCallQ (w : World) (k : Int) (p t : ByteArray) (f s : Int) (a : Option Addr) (n c : Nat) (hn : n ≤ maxLen) :
    Calls Try.prog 17 #[.agg #[.int .i64 k, .string p, .string t, .int .i64 f, .int .i64 s, .slice a n c]] w fun e w' => e = .returned (.int .i64 (callQ k t f s n)) ∧ Below w.heap.size w w' := by
  have HRO : Hid (∀ W, Calls Try.prog 38 #[.agg #[.int .i64 k, .string p, .string t, .int .i64 f, .int .i64 s, .slice a n c]] W fun e w' => e = .returned (.agg #[.int .i64 k, .string p, .string (restT k t), .int .i64 (restF k f), .int .i64 (restS k s), restV k a n c]) ∧ Below W.heap.size W w') := fun W => restOf_any W k p t f s a n c
  obtain ⟨a', c', hv⟩ := restV_shape k a n c
  rw [hv] at HRO
  have HHM : Hid (∀ W, Calls Try.prog 39 #[.agg #[.int .i64 k, .string p, .string (restT k t), .int .i64 (restF k f), .int .i64 (restS k s), .slice a' (restM k n) c']] W fun e w' => e = .returned (.bool (moreB (restT k t) (restF k f) (restS k s) (restM k n))) ∧ Below W.heap.size W w') := fun W => hasMore_any W k p _ _ _ a' _ c' (Nat.le_trans (restM_le k n) hn)
  have HQ : Hid (callQ k t f s n = if 1 ≤ k ∧ k ≤ 11 then (if moreB (restT k t) (restF k f) (restS k s) (restM k n) = true then 1 else if 40 < n then 2 else 0) else 1) := rfl
  have HX : Hid (Bx (w.alloc (.cells #[.int .i64 k, .string p, .string t, .int .i64 f, .int .i64 s, .slice a n c] 45)) w.heap.size [.int .i64 k, .string p, .string t, .int .i64 f, .int .i64 s, .slice a n c]) := Bx.new w [.int .i64 k, .string p, .string t, .int .i64 f, .int .i64 s, .slice a n c] _
  have HB0 : Hid (Below w.heap.size w (w.alloc (.cells #[.int .i64 k, .string p, .string t, .int .i64 f, .int .i64 s, .slice a n c] 45))) := later1 _ _
  clear hv
  unfold maxLen at hn
  generalize moreB (restT k t) (restF k f) (restS k s) (restM k n) = mb at *
  generalize restT k t = rt at *
  generalize restF k f = rf at *
  generalize restS k s = rs at *
  generalize restM k n = rm at *
  by_cases hk : 1 ≤ k ∧ k ≤ 11
  rotate_left
  · rw [if_neg hk] at HQ
    rw [HQ.out]
    by_cases h1 : k < 1
    · have d1 : decide (k < 1) = true := decide_eq_true h1
      go_enter Try.func17, Try.ntmps17
      go_wp2
      go_ret
      exact ⟨rfl, later1 _ _⟩
    · have d1 : decide (k < 1) = false := decide_eq_false h1
      have h11 : 11 < k := by omega
      have d2 : decide (11 < k) = true := decide_eq_true h11
      clear hk
      go_enter Try.func17, Try.ntmps17
      go_wp2
      go_ret
      exact ⟨rfl, later1 _ _⟩
  · rw [if_pos hk] at HQ
    have h1 : ¬ k < 1 := by omega
    have h11 : ¬ 11 < k := by omega
    obtain ⟨RES, hRES⟩ : ∃ r, callQ k t f s n = r := ⟨_, rfl⟩
    rw [hRES] at HQ ⊢
    clear hk hRES
    go_enter Try.func17, Try.ntmps17
    go_wp2_with fail
    generalize (w.alloc (.cells #[.int .i64 k, .string p, .string t, .int .i64 f, .int .i64 s, .slice a n c] 45)) = W0 at *
    refine (HRO.out _).mono ?_
    rintro e w1 ⟨rfl, hb1⟩
    have HB1 : Hid (Below w.heap.size w w1) := HB0.out.trans (hb1.mono HB0.out.size)
    have HX1 : Hid (Bx w1 w.heap.size [.int .i64 k, .string p, .string t, .int .i64 f, .int .i64 s, .slice a n c]) := HX.out.later hb1
    clear hb1
    go_wp2_with fail
    refine (HHM.out _).mono ?_
    rintro e w2 ⟨rfl, hb2⟩
    have HB2 : Hid (Below w.heap.size w w2) := HB1.out.trans (hb2.mono HB1.out.size)
    have x5 := (HX1.out.later hb2) 5 _ rfl
    clear hb2
    cases mb with
    | true =>
      have HE : Hid (RES = 1) := by unfold Hid; rw [HQ.out, if_pos rfl]
      clear x5
      go_wp2
      go_ret
      exact ⟨by rw [HE.out]; rfl, HB2.out⟩
    | false =>
      by_cases h40 : 40 < n
      · have h40' : (40 : Int) < (n : Int) := by omega
        have HE : Hid (RES = 2) := by unfold Hid; rw [HQ.out, if_neg (by decide), if_pos h40]
        go_wp2
        go_ret
        exact ⟨by rw [HE.out]; rfl, HB2.out⟩
      · have h40' : ¬ (40 : Int) < (n : Int) := by omega
        have HE : Hid (RES = 0) := by unfold Hid; rw [HQ.out, if_neg (by decide), if_neg h40]
        go_wp2
        go_ret
        exact ⟨by rw [HE.out]; rfl, HB2.out⟩

set_option maxHeartbeats 800000 in
theorem l10Wide_any (w : World) (k : Int) : Calls Try.prog 36 #[.int .i64 k] w fun e w' => e = .returned (.bool (decide (k = 8 ∨ k = 9))) ∧ w' = w := by
  go_enter Try.func36, Try.ntmps36
  go_wp2
  all_goals
    go_ret
    refine ⟨?_, rfl⟩
    by_cases h9 : k = 9 <;> simp_all

set_option maxHeartbeats 6400000 in
theorem specCallQ (w : World) (k : Int) (p t : ByteArray) (f s : Int) (a : Option Addr) (n c : Nat) (hn : n ≤ maxLen) :
    Calls Try.prog 15 #[.agg #[.int .i64 k, .string p, .string t, .int .i64 f, .int .i64 s, .slice a n c]] w fun e w' => e = .returned (.int .i64 (callQ k t f s n)) ∧ Below w.heap.size w w' := by
  have HIN : Hid (∀ W : World, Calls Try.prog 35 #[.int .i64 k, .int .i64 1, .int .i64 11] W fun e w' => e = .returned (.bool (decide (1 ≤ k ∧ k ≤ 11))) ∧ w' = W) := fun W => l1In_any W k 1 11
  have HWD : Hid (∀ W : World, Calls Try.prog 36 #[.int .i64 k] W fun e w' => e = .returned (.bool (decide (k = 8 ∨ k = 9))) ∧ w' = W) := fun W => l10Wide_any W k
  unfold maxLen at hn
  by_cases hk : 1 ≤ k ∧ k ≤ 11
  rotate_left
  · rw [show callQ k t f s n = 1 from if_neg hk]
    rw [decide_eq_false hk] at HIN
    go_enter Try.func15, Try.ntmps15
    go_wp2_with fail
    refine (HIN.out _).mono ?_
    rintro e w1 ⟨rfl, rfl⟩
    go_wp2
    go_ret
    exact ⟨rfl, later1 _ _⟩
  · rw [decide_eq_true hk] at HIN
    rw [show callQ k t f s n = (if moreB (restT k t) (restF k f) (restS k s) (restM k n) = true then 1 else if 40 < n then 2 else 0) from if_pos hk]
    obtain ⟨RES, hRES⟩ : ∃ r, (if moreB (restT k t) (restF k f) (restS k s) (restM k n) = true then (1 : Int) else if 40 < n then 2 else 0) = r := ⟨_, rfl⟩
    have HRES : Hid ((if moreB (restT k t) (restF k f) (restS k s) (restM k n) = true then (1 : Int) else if 40 < n then 2 else 0) = RES) := hRES
    rw [hRES]
    clear hRES hk
    have fin : ∀ {r : Int}, RES = r → (Ending.returned (Value.int .i64 r)) = .returned (.int .i64 RES) := fun e => by rw [e]
    have HFIN : Hid (∀ {r : Int}, RES = r → (Ending.returned (Value.int .i64 r)) = .returned (.int .i64 RES)) := fin
    clear fin
    by_cases h8 : k = 8
    · subst h8
      rw [show decide ((8 : Int) = 8 ∨ (8 : Int) = 9) = true by decide] at HWD
      go_enter Try.func15, Try.ntmps15
      go_wp2_with fail
      refine (HIN.out _).mono ?_
      rintro e w1 ⟨rfl, rfl⟩
      go_wp2_with fail
      refine (HWD.out _).mono ?_
      rintro e w1 ⟨rfl, rfl⟩
      go_wp2
      all_goals
        go_ret
        refine ⟨HFIN.out ?_, later1 _ _⟩
        have r1 := HRES.out
        clear HRES HIN HWD HFIN
        simp_all [moreB, restT, restF, restS, restM]
    by_cases h9 : k = 9
    · subst h9
      rw [show decide ((9 : Int) = 8 ∨ (9 : Int) = 9) = true by decide] at HWD
      go_enter Try.func15, Try.ntmps15
      go_wp2_with fail
      refine (HIN.out _).mono ?_
      rintro e w1 ⟨rfl, rfl⟩
      go_wp2_with fail
      refine (HWD.out _).mono ?_
      rintro e w1 ⟨rfl, rfl⟩
      go_wp2
      all_goals
        go_ret
        refine ⟨HFIN.out ?_, later1 _ _⟩
        have r1 := HRES.out
        clear HRES HIN HWD HFIN
        simp_all [moreB, restT, restF, restS, restM]
    by_cases h3 : k = 3
    · subst h3
      rw [show decide ((3 : Int) = 8 ∨ (3 : Int) = 9) = false by decide] at HWD
      go_enter Try.func15, Try.ntmps15
      go_wp2_with fail
      refine (HIN.out _).mono ?_
      rintro e w1 ⟨rfl, rfl⟩
      go_wp2_with fail
      refine (HWD.out _).mono ?_
      rintro e w1 ⟨rfl, rfl⟩
      go_wp2
      all_goals
        go_ret
        refine ⟨HFIN.out ?_, later1 _ _⟩
        have r1 := HRES.out
        clear HRES HIN HWD HFIN
        simp_all [moreB, restT, restF, restS, restM]
        all_goals
          rw [← r1]
          first
            | exact if_pos (by omega)
            | exact if_neg (by omega)
    by_cases h4 : k = 4
    · subst h4
      rw [show decide ((4 : Int) = 8 ∨ (4 : Int) = 9) = false by decide] at HWD
      go_enter Try.func15, Try.ntmps15
      go_wp2_with fail
      refine (HIN.out _).mono ?_
      rintro e w1 ⟨rfl, rfl⟩
      go_wp2_with fail
      refine (HWD.out _).mono ?_
      rintro e w1 ⟨rfl, rfl⟩
      go_wp2
      all_goals
        go_ret
        refine ⟨HFIN.out ?_, later1 _ _⟩
        have r1 := HRES.out
        clear HRES HIN HWD HFIN
        simp_all [moreB, restT, restF, restS, restM]
    by_cases h5 : k = 5
    · subst h5
      rw [show decide ((5 : Int) = 8 ∨ (5 : Int) = 9) = false by decide] at HWD
      go_enter Try.func15, Try.ntmps15
      go_wp2_with fail
      refine (HIN.out _).mono ?_
      rintro e w1 ⟨rfl, rfl⟩
      go_wp2_with fail
      refine (HWD.out _).mono ?_
      rintro e w1 ⟨rfl, rfl⟩
      go_wp2
      all_goals
        go_ret
        refine ⟨HFIN.out ?_, later1 _ _⟩
        have r1 := HRES.out
        clear HRES HIN HWD HFIN
        simp_all [moreB, restT, restF, restS, restM]
    rw [show decide (k = 8 ∨ k = 9) = false from decide_eq_false (fun h => h.elim h8 h9)] at HWD
    have e3 : (k == 3) = false := beq_eq_false_iff_ne.2 h3
    have e4 : (k == 4) = false := beq_eq_false_iff_ne.2 h4
    have e5 : (k == 5) = false := beq_eq_false_iff_ne.2 h5
    have e6 : (k != 3) = true := by simpa using h3
    have H3 : Hid (¬ k = 3) := h3
    have H4 : Hid (¬ k = 4) := h4
    have H5 : Hid (¬ k = 5) := h5
    have H8 : Hid (¬ k = 8) := h8
    have H9 : Hid (¬ k = 9) := h9
    clear h3 h4 h5 h8 h9
    go_enter Try.func15, Try.ntmps15
    go_wp2_with fail
    refine (HIN.out _).mono ?_
    rintro e w1 ⟨rfl, rfl⟩
    go_wp2_with fail
    refine (HWD.out _).mono ?_
    rintro e w1 ⟨rfl, rfl⟩
    go_wp2
    all_goals
      go_ret
      refine ⟨HFIN.out ?_, later1 _ _⟩
      have r1 := HRES.out
      have g3 := H3.out
      have g4 := H4.out
      have g5 := H5.out
      have g8 := H8.out
      have g9 := H9.out
      clear HRES HIN HWD HFIN
      simp_all [moreB, restT, restF, restS, restM]
theorem implCallFU (w : World) (z0 : Int) (t1 t2 : ByteArray) (z3 z4 : Int) (a : Option Addr) (n c : Nat) (d : CalD) (h : CalR w (.int .i64 z0) (.string t1) (.string t2) (.int .i64 z3) (.int .i64 z4) (.slice a n c) d) (_hs : sizeCal d ≤ 1048576) :
    Calls Try.prog 17 #[.agg #[.int .i64 z0, .string t1, .string t2, .int .i64 z3, .int .i64 z4, .slice a n c]] w fun e w' => e = .returned (.int .i64 (callF d)) ∧ Below w.heap.size w w' := by
  obtain ⟨⟨e0, e1, e2, e3, e4, -, -⟩, a', c', e5, hm, -⟩ := h
  simp only [Value.int.injEq, Value.string.injEq, Value.slice.injEq, true_and] at e0 e1 e2 e3 e4 e5
  obtain ⟨rfl, rfl, rfl⟩ := e5
  subst e0 e1 e2 e3 e4
  exact implCallQ w _ _ _ _ _ _ _ _ hm.1
theorem specCallFU (w : World) (z0 : Int) (t1 t2 : ByteArray) (z3 z4 : Int) (a : Option Addr) (n c : Nat) (d : CalD) (h : CalR w (.int .i64 z0) (.string t1) (.string t2) (.int .i64 z3) (.int .i64 z4) (.slice a n c) d) (_hs : sizeCal d ≤ 1048576) :
    Calls Try.prog 15 #[.agg #[.int .i64 z0, .string t1, .string t2, .int .i64 z3, .int .i64 z4, .slice a n c]] w fun e w' => e = .returned (.int .i64 (callF d)) ∧ Below w.heap.size w w' := by
  obtain ⟨⟨e0, e1, e2, e3, e4, -, -⟩, a', c', e5, hm, -⟩ := h
  simp only [Value.int.injEq, Value.string.injEq, Value.slice.injEq, true_and] at e0 e1 e2 e3 e4 e5
  obtain ⟨rfl, rfl, rfl⟩ := e5
  subst e0 e1 e2 e3 e4
  exact specCallQ w _ _ _ _ _ _ _ _ hm.1
end Go.Proofs.Ytpfafcodihhdfaa
