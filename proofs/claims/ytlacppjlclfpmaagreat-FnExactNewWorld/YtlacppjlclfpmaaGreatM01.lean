/- The walks of the marking and holding functions over slices. Bytes and lists of bytes are marked, and the marks are held. NameFault, the specification's and the program's: what both come to. Texts as lists of bytes: cut at each slash. No program is named here but for slicing. The library's IndexByte, laid from the shelf. The iterator that tells the names of a path: its contract. Ranges over the names of a path: howMany. The marks of texts. Ranges over the names of a path: namesFault. Contracts of the library, laid from the shelf for this program. What of a path is wrong: the walk of the program's pathFault. SplitPath, the program's. What 'append' comes to, as laws for the walk, and the specification's copying of a list. -/
import Derived.Test.YtlacppjlclfpmaaGreatRows
import Derived.Test.YtlacppjlclfpmaaGreatM00
import Derived.Lib.Bytealg
import Derived.Shelf.Small.Strs
import Derived.Shelf.Strings.Search1
import Derived.RangeFuncNested
import Derived.RangeFuncBound
import Derived.RangeFuncCalls
import Derived.RangeFuncLeaves
import Derived.RangeFuncFrom
import Derived.Shelf.Abstract
import Derived.Shelf.RegionOpen
import Derived.WalkKit
import Derived.OwnWalkIn
import Derived.TacticsInMore
import Derived.LoopNIn
import Derived.LoopIn
import Derived.Laws.IdiomStrings
import Derived.Scope
import Derived.Shelf.LaysM
import Derived.Shelf.Strconv.Clone
import Derived.Shelf.Strings.Prefix
import Derived.Shelf.Slices.Equal
import Derived.Shelf.Slices.Empties2
import Derived.RangeFuncWrites
import Derived.RangeFuncBox
import Derived.Maps.AppendAt
import Derived.OwnWalk
import Derived.Deep.RegionLaw
namespace Go.Proofs.YtlacppjlclfpmaaGreat
open Go.RowKit
set_option maxRecDepth 100000

set_option maxHeartbeats 400000 in
theorem markInts_nil (w : World) (a : Option Addr) (cap : Nat) (k : Int) :
    Calls Tryz.prog 86 #[.slice a 0 cap, .int .i64 k] w fun e w' => e = .returned (.int .i64 k) ∧ w' = w := by
  go_enter Tryz.func86, Tryz.ntmps86
  go_wp2
  go_loop [1, 5] (fun q i => i = .int .i64 0 ∧ q = .int .i64 k) (fun _ _ => 0)
  case atStart => exact ⟨rfl, rfl⟩
  case round =>
    obtain ⟨rfl, rfl⟩ := hrel
    go_wp2
    go_ret
    exact ⟨rfl, rfl⟩

set_option maxHeartbeats 400000 in
theorem markInts_walk (w : World) (b cap n : Nat) (k : Int) (F : Nat → Prop) (f : Nat → Value) (hF : F b) (hk0 : 0 ≤ k) (hk : k + (n : Int) ≤ 4611686018427387904) (hr : OwnRow w b n f) :
    Calls Tryz.prog 86 #[.slice (some ⟨b, 0, none⟩) n cap, .int .i64 k] w fun e w' => e = .returned (.int .i64 (k + (n : Int))) ∧ OwnRow w' b n (fun i => .int .i64 (k + (i : Int))) ∧ Chg F w w' := by
  have HR : Hid (OwnRow w b n f) := hr
  have HF : Hid (F b) := hF
  clear hr hF
  go_enter Tryz.func86, Tryz.ntmps86
  go_wp2
  go_loopw [1, 5] (fun q i wr => ∃ j : Nat, j ≤ n ∧ i = .int .i64 j ∧ q = .int .i64 (k + (j : Int)) ∧ OwnRow wr b n (fun i => if i < j then .int .i64 (k + (i : Int)) else f i) ∧ Chg F w wr) (fun _ i _ => n - (intOf i).toNat)
  case atStart => exact ⟨0, Nat.zero_le _, rfl, by simp, HR.out.congr fun i _ => by simp, Chg.refl _ _⟩
  case round =>
    obtain ⟨j, hj, rfl, rfl, hrow, hch⟩ := hrel
    by_cases hlt : j < n
    · have c1 := hrow.cell hlt
      have c2 := hrow.frozen j
      have HROW : Hid (OwnRow wr b n (fun i => if i < j then .int .i64 (k + (i : Int)) else f i)) := hrow
      have HCH : Hid (Chg F w wr) := hch
      clear hrow hch
      simp only [Nat.lt_irrefl, if_false] at c1
      go_wp2
      go_roundw
      case rel =>
        refine ⟨j + 1, by omega, by go_num, by go_num, (HROW.out.set j _).congr fun i hi => ?_, HCH.out.set HF.out _ _⟩
        by_cases e : i = j
        · subst e; simp
        · by_cases e2 : i < j
          · simp [e, e2, show i < j + 1 by omega]
          · simp [e, e2, show ¬ i < j + 1 by omega]
      case measure => simp [intOf]; omega
    · go_wp2
      go_ret
      have e : j = n := by omega
      subst e
      exact ⟨rfl, hrow.congr fun i hi => by simp [hi], hch⟩

theorem markInts_any {w : World} {v : Value} {zs : List Int} {F : Nat → Prop} (k : Int) (h : IntsO w v zs F) (hk0 : 0 ≤ k) (hk : k + (zs.length : Int) ≤ 4611686018427387904) :
    Calls Tryz.prog 86 #[v, .int .i64 k] w fun e w' => e = .returned (.int .i64 (k + (zs.length : Int))) ∧ IntsO w' v (marks k zs.length) F ∧ Chg F w w' := by
  rcases h with ⟨rfl, a, cap, rfl⟩ | ⟨b, cap, hF, rfl, hl, hr⟩
  · exact (markInts_nil w a cap k).mono fun e w' ⟨he, hw⟩ => ⟨by rw [he]; simp, Or.inl ⟨by simp [marks], a, cap, rfl⟩, hw ▸ Chg.refl _ _⟩
  · refine (markInts_walk w b cap zs.length k F _ hF hk0 hk hr).mono fun e w' ⟨he, hrow, hch⟩ => ⟨he, Or.inr ⟨b, cap, hF, by rw [marks_length], by rw [marks_length]; exact hl, ?_⟩, hch⟩
    rw [marks_length]
    exact hrow.congr fun i hi => by rw [marks_get k hi]

set_option maxHeartbeats 400000 in
theorem heldInts_nil (w : World) (a : Option Addr) (cap : Nat) (k : Int) :
    Calls Tryz.prog 88 #[.slice a 0 cap, .int .i64 k] w fun e w' => e = .returned (.int .i64 k) ∧ w' = w := by
  go_enter Tryz.func88, Tryz.ntmps88
  go_wp2
  go_loop [1, 5] (fun q i => i = .int .i64 0 ∧ q = .int .i64 k) (fun _ _ => 0)
  case atStart => exact ⟨rfl, rfl⟩
  case round =>
    obtain ⟨rfl, rfl⟩ := hrel
    go_wp2
    go_ret
    exact ⟨rfl, rfl⟩

set_option maxHeartbeats 400000 in
theorem heldInts_walk (w : World) (b off cap n : Nat) (k : Int) (hk0 : 0 ≤ k) (hk : k + (n : Int) ≤ 4611686018427387904) (hc : ∀ i : Nat, i < n → w.cell? ⟨b, off + i, none⟩ = some (.int .i64 (k + (i : Int)))) :
    Calls Tryz.prog 88 #[.slice (some ⟨b, off, none⟩) n cap, .int .i64 k] w fun e w' => e = .returned (.int .i64 (k + (n : Int))) ∧ w' = w := by
  go_enter Tryz.func88, Tryz.ntmps88
  go_wp2
  go_loop [1, 5] (fun q i => ∃ j : Nat, j ≤ n ∧ i = .int .i64 j ∧ q = .int .i64 (k + (j : Int))) (fun _ i => n - (intOf i).toNat)
  case atStart => exact ⟨0, Nat.zero_le _, rfl, by simp⟩
  case round =>
    obtain ⟨j, hj, rfl, rfl⟩ := hrel
    by_cases hlt : j < n
    · have c1 := hc j hlt
      have hne : ((k + (j : Int)) != (k + (j : Int))) = false := by simp
      clear hc
      go_wp2
      go_round
      case rel => exact ⟨j + 1, by omega, by go_num, by go_num⟩
      case measure => simp [intOf]; omega
    · go_wp2
      go_ret
      have e : j = n := by omega
      subst e
      exact ⟨rfl, rfl⟩

theorem heldInts_any {w : World} {v : Value} (k : Int) (n : Nat) (h : Ints w v (marks k n)) (hk0 : 0 ≤ k) (hk : k + (n : Int) ≤ 4611686018427387904) :
    Calls Tryz.prog 88 #[v, .int .i64 k] w fun e w' => e = .returned (.int .i64 (k + (n : Int))) ∧ w' = w := by
  rcases h with ⟨h0, a, cap, rfl⟩ | ⟨b, off, cap, hv, hl, hr⟩
  · have : n = 0 := by have := marks_length k n; rw [h0] at this; simpa using this.symm
    subst this
    exact (heldInts_nil w a cap k).mono fun e w' ⟨he, hw⟩ => ⟨by rw [he]; simp, hw⟩
  · rw [marks_length] at hv hr
    subst hv
    exact heldInts_walk w b off cap n k hk0 hk fun i hi => by rw [hr i hi, marks_get k hi]

set_option maxHeartbeats 400000 in
theorem markIntsS_nil (w : World) (a : Option Addr) (cap : Nat) (k : Int) :
    Calls Tryz.prog 65 #[.slice a 0 cap, .int .i64 k] w fun e w' => e = .returned (.int .i64 k) ∧ w' = w := by
  go_enter Tryz.func65, Tryz.ntmps65
  go_wp2
  go_loop [1, 5] (fun q i => i = .int .i64 0 ∧ q = .int .i64 k) (fun _ _ => 0)
  case atStart => exact ⟨rfl, rfl⟩
  case round =>
    obtain ⟨rfl, rfl⟩ := hrel
    go_wp2
    go_ret
    exact ⟨rfl, rfl⟩

/-- What stands in the inner list i while the first j are marked. -/
def half (k : Int) (zss : List (List Int)) (j i : Nat) : List Int := if i < j then marks (k + (upto (zss.map List.length) i : Nat)) (zss[i]?.getD []).length else zss[i]?.getD []

set_option maxHeartbeats 400000 in
theorem markIntsS_walk (w : World) (b cap n : Nat) (k : Int) (F : Nat → Prop) (zss : List (List Int)) (u : Nat → Value) (G : Nat → Nat → Prop) (hG : ∀ i c, G i c → F c ∧ c ≠ b) (hGG : ∀ i j c, i ≠ j → G i c → ¬ G j c)
    (hn : zss.length = n) (hk0 : 0 ≤ k) (hk : k + ((zss.map List.length).sum : Nat) ≤ 4611686018427387904) (hn2 : n ≤ 9223372036854775807) (hr : OwnRow w b n u) (hu : ∀ i, i < n → IntsO w (u i) (zss[i]?.getD []) (G i)) :
    Calls Tryz.prog 65 #[.slice (some ⟨b, 0, none⟩) n cap, .int .i64 k] w fun e w' => e = .returned (.int .i64 (k + ((zss.map List.length).sum : Nat))) ∧ OwnRow w' b n u ∧ (∀ i, i < n → IntsO w' (u i) (half k zss n i) (G i)) ∧ Chg F w w' := by
  have HR : Hid (OwnRow w b n u) := hr
  have HU : Hid (∀ i, i < n → IntsO w (u i) (zss[i]?.getD []) (G i)) := hu
  have HG : Hid (∀ i c, G i c → F c ∧ c ≠ b) := hG
  have HGG : Hid (∀ i j c, i ≠ j → G i c → ¬ G j c) := hGG
  have HN : Hid (zss.length = n) := hn
  clear hr hu hG hGG hn
  go_enter Tryz.func65, Tryz.ntmps65
  go_wp2
  go_loopw [1, 5] (fun q i wr => ∃ j : Nat, j ≤ n ∧ i = .int .i64 j ∧ q = .int .i64 (k + (upto (zss.map List.length) j : Nat)) ∧ OwnRow wr b n u ∧ (∀ i, i < n → IntsO wr (u i) (half k zss j i) (G i)) ∧ Chg F w wr) (fun _ i _ => n - (intOf i).toNat)
  case atStart => exact ⟨0, Nat.zero_le _, rfl, by simp [upto_zero], HR.out, fun i hi => by simpa [half] using HU.out i hi, Chg.refl _ _⟩
  case round =>
    obtain ⟨j, hj, rfl, rfl, hrow, hin, hch⟩ := hrel
    by_cases hlt : j < n
    · have c1 := hrow.cell hlt
      have HROW : Hid (OwnRow wr b n u) := hrow
      have HIN : Hid (∀ i, i < n → IntsO wr (u i) (half k zss j i) (G i)) := hin
      have HCH : Hid (Chg F w wr) := hch
      clear hrow hin hch
      have hs := upto_succ (zss.map List.length) j (by rw [List.length_map, HN.out]; exact hlt)
      rw [lens_get] at hs
      have hle := upto_le (zss.map List.length) (j + 1)
      have HS : Hid (upto (zss.map List.length) (j + 1) = upto (zss.map List.length) j + (zss[j]?.getD []).length) := hs
      clear hs
      generalize hU : upto (zss.map List.length) j = U at *
      have hij : IntsO wr (u j) (zss[j]?.getD []) (G j) := by have := HIN.out j hlt; simpa [half] using this
      have HIJ : Hid (IntsO wr (u j) (zss[j]?.getD []) (G j)) := hij
      clear hij
      go_wp2_with fail
      refine (markInts_any (k + (U : Int)) HIJ.out (by omega) (by have := HS.out; omega)).mono ?_
      rintro e w' ⟨rfl, hm, hc⟩
      have HM : Hid (IntsO w' (u j) (marks (k + (U : Int)) (zss[j]?.getD []).length) (G j)) := hm
      have HC : Hid (Chg (G j) wr w') := hc
      clear hm hc
      go_wp2
      go_roundw
      case rel =>
        refine ⟨j + 1, by omega, by go_num, by rw [HS.out]; go_num, HROW.out.block (HC.out.block b HROW.out.lt (fun h => (HG.out j b h).2 rfl)), fun i hi => ?_, HCH.out.trans (HC.out.mono fun c hc => (HG.out j c hc).1)⟩
        by_cases e : i = j
        · subst e
          have := HM.out
          rw [← hU] at this
          simpa [half] using this
        · have h1 := (HIN.out i hi).keep (w' := w') fun c hc hlt => HC.out.block c hlt (HGG.out i j c e hc)
          have h2 : half k zss (j + 1) i = half k zss j i := by
            unfold half
            by_cases e2 : i < j
            · rw [if_pos e2, if_pos (by omega)]
            · rw [if_neg e2, if_neg (by omega)]
          rw [h2]; exact h1
      case measure => simp [intOf]; omega
    · go_wp2
      go_ret
      have e : j = n := by omega
      subst e
      exact ⟨ret_int (by rw [← HN.out, ← upto_all, List.length_map]), hrow, hin, hch⟩

theorem markIntsS_any {w : World} {v : Value} {zss : List (List Int)} {F : Nat → Prop} (k : Int) (h : IntsSO w v zss F) (hk0 : 0 ≤ k) (hk : k + ((zss.map List.length).sum : Nat) ≤ 4611686018427387904) :
    Calls Tryz.prog 65 #[v, .int .i64 k] w fun e w' => e = .returned (.int .i64 (k + ((zss.map List.length).sum : Nat))) ∧ IntsSO w' v (marksS k (zss.map List.length)) F ∧ Chg F w w' := by
  rcases h with ⟨rfl, a, cap, rfl⟩ | ⟨b, cap, u, G, hF, hG, hGG, rfl, hl, hr, hu⟩
  · exact (markIntsS_nil w a cap k).mono fun e w' ⟨he, hw⟩ => ⟨by rw [he]; simp, Or.inl ⟨rfl, a, cap, rfl⟩, hw ▸ Chg.refl _ _⟩
  · refine (markIntsS_walk w b cap zss.length k F zss u G hG hGG rfl hk0 hk (by unfold maxLen at hl; omega) hr hu).mono fun e w' ⟨he, hrow, hin, hch⟩ => ⟨he, Or.inr ⟨b, cap, u, G, hF, hG, hGG, ?_, ?_, ?_, ?_⟩, hch⟩
    · rw [marksS_length, List.length_map]
    · rw [marksS_length, List.length_map]; exact hl
    · rw [marksS_length, List.length_map]; exact hrow
    · intro i hi
      rw [marksS_length, List.length_map] at hi
      have := hin i hi
      rw [marksS_get _ _ _ (by rw [List.length_map]; exact hi), lens_get]
      simpa [half, hi] using this

set_option maxHeartbeats 400000 in
theorem heldIntsS_nil (w : World) (a : Option Addr) (cap : Nat) (k : Int) :
    Calls Tryz.prog 69 #[.slice a 0 cap, .int .i64 k] w fun e w' => e = .returned (.int .i64 k) ∧ w' = w := by
  go_enter Tryz.func69, Tryz.ntmps69
  go_wp2
  go_loop [1, 5] (fun q i => i = .int .i64 0 ∧ q = .int .i64 k) (fun _ _ => 0)
  case atStart => exact ⟨rfl, rfl⟩
  case round =>
    obtain ⟨rfl, rfl⟩ := hrel
    go_wp2
    go_ret
    exact ⟨rfl, rfl⟩

set_option maxHeartbeats 400000 in
theorem heldIntsS_walk (w : World) (b off cap n : Nat) (k : Int) (ns : List Nat) (u : Nat → Value) (hns : ns.length = n) (hk0 : 0 ≤ k) (hk : k + (ns.sum : Nat) ≤ 4611686018427387904) (hn2 : n ≤ 9223372036854775807)
    (hc : ∀ i : Nat, i < n → w.cell? ⟨b, off + i, none⟩ = some (u i) ∧ Ints w (u i) (marks (k + (upto ns i : Nat)) (ns[i]?.getD 0))) :
    Calls Tryz.prog 69 #[.slice (some ⟨b, off, none⟩) n cap, .int .i64 k] w fun e w' => e = .returned (.int .i64 (k + (ns.sum : Nat))) ∧ w' = w := by
  have HN : Hid (ns.length = n) := hns
  clear hns
  go_enter Tryz.func69, Tryz.ntmps69
  go_wp2
  go_loop [1, 5] (fun q i => ∃ j : Nat, j ≤ n ∧ i = .int .i64 j ∧ q = .int .i64 (k + (upto ns j : Nat))) (fun _ i => n - (intOf i).toNat)
  case atStart => exact ⟨0, Nat.zero_le _, rfl, by simp [upto_zero]⟩
  case round =>
    obtain ⟨j, hj, rfl, rfl⟩ := hrel
    by_cases hlt : j < n
    · obtain ⟨c1, i1⟩ := hc j hlt
      clear hc
      have hs := upto_succ ns j (by rw [HN.out]; exact hlt)
      have hle := upto_le ns (j + 1)
      have HS : Hid (upto ns (j + 1) = upto ns j + ns[j]?.getD 0) := hs
      clear hs
      generalize upto ns j = U at *
      have HI : Hid (Ints w (u j) (marks (k + (U : Int)) (ns[j]?.getD 0))) := i1
      clear i1
      have hlo : ¬ (k + (U : Int) + ((ns[j]?.getD 0 : Nat) : Int)) < 0 := by omega
      go_wp2_with fail
      refine (heldInts_any (k + (U : Int)) (ns[j]?.getD 0) HI.out (by omega) (by have := HS.out; omega)).mono ?_
      rintro e w' ⟨rfl, rfl⟩
      go_wp2
      go_round
      case rel => exact ⟨j + 1, by omega, by go_num, by rw [HS.out]; go_num⟩
      case measure => simp [intOf]; omega
    · go_wp2
      go_ret
      have e : j = n := by omega
      subst e
      exact ⟨ret_int (by rw [← HN.out, ← upto_all]), rfl⟩

theorem heldIntsS_any {w : World} {v : Value} (k : Int) (ns : List Nat) (h : IntsS w v (marksS k ns)) (hk0 : 0 ≤ k) (hk : k + (ns.sum : Nat) ≤ 4611686018427387904) :
    Calls Tryz.prog 69 #[v, .int .i64 k] w fun e w' => e = .returned (.int .i64 (k + (ns.sum : Nat))) ∧ w' = w := by
  rcases h with ⟨h0, a, cap, rfl⟩ | ⟨b, off, cap, u, hv, hl, hr⟩
  · have : ns = [] := by have := marksS_length ns k; rw [h0] at this; cases ns <;> simp at this ⊢
    subst this
    exact (heldIntsS_nil w a cap k).mono fun e w' ⟨he, hw⟩ => ⟨by rw [he]; simp, hw⟩
  · rw [marksS_length] at hv hr hl
    subst hv
    exact heldIntsS_walk w b off cap ns.length k ns u rfl hk0 hk (by unfold maxLen at hl; omega) fun i hi => ⟨(hr i hi).1, by have := (hr i hi).2; rwa [marksS_get _ _ _ hi] at this⟩
end Go.Proofs.YtlacppjlclfpmaaGreat

namespace Go.Proofs.YtlacppjlclfpmaaGreat
open Go.RowKit
set_option maxRecDepth 100000

/-- The marks of n bytes from k on. -/
def marksY (k n : Nat) : List UInt8 := (List.range n).map fun i => UInt8.ofNat (k + i)
theorem marksY_length (k n : Nat) : (marksY k n).length = n := by simp [marksY]
theorem marksY_get (k : Nat) {n i : Nat} (h : i < n) : (marksY k n)[i]?.getD 0 = UInt8.ofNat (k + i) := by
  unfold marksY; rw [List.getElem?_map, List.getElem?_range h]; rfl
theorem u8_ofNat (k : Nat) : (((UInt8.ofNat k).toNat : Nat) : Int) = (k : Int) % 256 := by
  rw [UInt8.toNat_ofNat']; omega

set_option maxHeartbeats 400000 in
theorem markByt_nil (w : World) (a : Option Addr) (cap : Nat) (k : Int) :
    Calls Tryz.prog 36 #[.slice a 0 cap, .int .i64 k] w fun e w' => e = .returned (.int .i64 k) ∧ w' = w := by
  go_enter Tryz.func36, Tryz.ntmps36
  go_wp2
  go_loop [1, 5] (fun q i => i = .int .i64 0 ∧ q = .int .i64 k) (fun _ _ => 0)
  case atStart => exact ⟨rfl, rfl⟩
  case round =>
    obtain ⟨rfl, rfl⟩ := hrel
    go_wp2
    go_ret
    exact ⟨rfl, rfl⟩

set_option maxHeartbeats 800000 in
theorem markByt_walk (w : World) (b cap n k : Nat) (F : Nat → Prop) (f : Nat → Value) (hF : F b) (hk : k + n ≤ 4611686018427387904) (hr : OwnRow w b n f) :
    Calls Tryz.prog 36 #[.slice (some ⟨b, 0, none⟩) n cap, .int .i64 (k : Int)] w fun e w' => e = .returned (.int .i64 ((k + n : Nat) : Int)) ∧ OwnRow w' b n (fun i => .int .u8 (((k : Int) + (i : Int)) % 256)) ∧ Chg F w w' := by
  have HR : Hid (OwnRow w b n f) := hr
  have HF : Hid (F b) := hF
  clear hr hF
  go_enter Tryz.func36, Tryz.ntmps36
  go_wp2
  go_loopw [1, 5] (fun q i wr => ∃ j : Nat, j ≤ n ∧ i = .int .i64 j ∧ q = .int .i64 ((k : Int) + (j : Int)) ∧ OwnRow wr b n (fun i => if i < j then .int .u8 (((k : Int) + (i : Int)) % 256) else f i) ∧ Chg F w wr) (fun _ i _ => n - (intOf i).toNat)
  case atStart => exact ⟨0, Nat.zero_le _, rfl, by simp, HR.out.congr fun i _ => by simp, Chg.refl _ _⟩
  case round =>
    obtain ⟨j, hj, rfl, rfl, hrow, hch⟩ := hrel
    by_cases hlt : j < n
    · have c1 := hrow.cell hlt
      have c2 := hrow.frozen j
      have HROW : Hid (OwnRow wr b n (fun i => if i < j then .int .u8 (((k : Int) + (i : Int)) % 256) else f i)) := hrow
      have HCH : Hid (Chg F w wr) := hch
      clear hrow hch
      simp only [Nat.lt_irrefl, if_false] at c1
      have hwr : IntKind.u8.wrap ((k : Int) + (j : Int)) = ((k : Int) + (j : Int)) % 256 := by
        unfold IntKind.wrap
        simp [IntKind.signed, IntKind.bits]
      generalize hX : ((k : Int) + (j : Int)) % 256 = X at *
      have HX : Hid (((k : Int) + (j : Int)) % 256 = X) := hX
      clear hX
      go_wp2
      go_roundw
      case rel =>
        refine ⟨j + 1, by omega, by go_num, by go_num, (HROW.out.set j _).congr fun i hi => ?_, HCH.out.set HF.out _ _⟩
        by_cases e : i = j
        · subst e; simp [HX.out]
        · by_cases e2 : i < j
          · simp [e, e2, show i < j + 1 by omega]
          · simp [e, e2, show ¬ i < j + 1 by omega]
      case measure => simp [intOf]; omega
    · go_wp2
      go_ret
      have e : j = n := by omega
      subst e
      exact ⟨by first | rfl | (congr 2; omega), hrow.congr fun i hi => by simp [hi], hch⟩
def mkByt (k : Int) (zs : List UInt8) : List UInt8 := marksY k.toNat zs.length
theorem mkByt_length (k : Int) (zs : List UInt8) : (mkByt k zs).length = zs.length := marksY_length _ _
theorem markBytU {w : World} {v : Value} {zs : List UInt8} {F : Nat → Prop} (k : Int) (h : BytO w v zs F) (hk0 : 0 ≤ k) (hk : k + (zs.length : Nat) ≤ 4611686018427387904) :
    Calls Tryz.prog 36 #[v, .int .i64 k] w fun e w' => e = .returned (.int .i64 (k + (zs.length : Nat))) ∧ BytO w' v (mkByt k zs) F ∧ Chg F w w' := by
  obtain ⟨q, rfl⟩ := Int.eq_ofNat_of_zero_le hk0
  rcases h with ⟨rfl, a, cap, rfl⟩ | ⟨b, cap, hF, rfl, hl, hr⟩
  · exact (markByt_nil w a cap _).mono fun e w' ⟨he, hw⟩ => ⟨by rw [he]; simp, Or.inl ⟨by simp [mkByt, marksY], _, _, rfl⟩, hw ▸ Chg.refl _ _⟩
  · refine (markByt_walk w b cap zs.length q F _ hF (by omega) hr).mono fun e w' ⟨he, hro, hc⟩ => ⟨by rw [he]; simp, Or.inr ⟨b, cap, hF, by rw [mkByt_length], by rw [mkByt_length]; exact hl, ?_⟩, hc⟩
    rw [mkByt_length]
    refine hro.congr fun i hi => ?_
    unfold mkByt
    rw [marksY_get _ hi, u8_ofNat]
    congr 1
set_option maxHeartbeats 400000 in
theorem heldByt_nil (w : World) (a : Option Addr) (cap : Nat) (k : Int) :
    Calls Tryz.prog 40 #[.slice a 0 cap, .int .i64 k] w fun e w' => e = .returned (.int .i64 k) ∧ w' = w := by
  go_enter Tryz.func40, Tryz.ntmps40
  go_wp2
  go_loop [1, 5] (fun q i => i = .int .i64 0 ∧ q = .int .i64 k) (fun _ _ => 0)
  case atStart => exact ⟨rfl, rfl⟩
  case round =>
    obtain ⟨rfl, rfl⟩ := hrel
    go_wp2
    go_ret
    exact ⟨rfl, rfl⟩
set_option maxHeartbeats 800000 in
theorem heldByt_walk (w : World) (b off cap n k : Nat) (hk : k + n ≤ 4611686018427387904) (hc : ∀ i : Nat, i < n → w.cell? ⟨b, off + i, none⟩ = some (.int .u8 (((k : Int) + (i : Int)) % 256))) :
    Calls Tryz.prog 40 #[.slice (some ⟨b, off, none⟩) n cap, .int .i64 (k : Int)] w fun e w' => e = .returned (.int .i64 ((k + n : Nat) : Int)) ∧ w' = w := by
  have HC : Hid (∀ i : Nat, i < n → w.cell? ⟨b, off + i, none⟩ = some (.int .u8 (((k : Int) + (i : Int)) % 256))) := hc
  clear hc
  go_enter Tryz.func40, Tryz.ntmps40
  go_wp2
  go_loopw [1, 5] (fun q i wr => ∃ j : Nat, j ≤ n ∧ i = .int .i64 j ∧ q = .int .i64 ((k : Int) + (j : Int)) ∧ wr = w) (fun _ i _ => n - (intOf i).toNat)
  case atStart => exact ⟨0, Nat.zero_le _, rfl, by simp, rfl⟩
  case round =>
    obtain ⟨j, hj, rfl, rfl, rfl⟩ := hrel
    by_cases hlt : j < n
    · have c1 := HC.out j hlt
      have hwr : IntKind.u8.wrap ((k : Int) + (j : Int)) = ((k : Int) + (j : Int)) % 256 := by
        unfold IntKind.wrap
        simp [IntKind.signed, IntKind.bits]
      generalize ((k : Int) + (j : Int)) % 256 = X at *
      have hxx : (X != X) = false := by simp
      go_wp2
      go_roundw
      case rel => exact ⟨j + 1, by omega, by go_num, by go_num, by first | rfl | trivial⟩
      case measure => simp [intOf]; omega
    · go_wp2
      go_ret
      have e : j = n := by omega
      subst e
      exact ⟨by first | rfl | (congr 2; omega), rfl⟩
theorem heldBytU {w : World} {v : Value} {zs : List UInt8} (k : Int) (h : Byt w v (mkByt k zs)) (hk0 : 0 ≤ k) (hk : k + (zs.length : Nat) ≤ 4611686018427387904) :
    Calls Tryz.prog 40 #[v, .int .i64 k] w fun e w' => e = .returned (.int .i64 (k + (zs.length : Nat))) ∧ Below w.heap.size w w' := by
  obtain ⟨q, rfl⟩ := Int.eq_ofNat_of_zero_le hk0
  obtain ⟨a, cap, rfl, hm, hc⟩ := h
  rw [mkByt_length] at hc hm ⊢
  by_cases h0 : zs.length = 0
  · rw [h0]
    exact (heldByt_nil w a cap _).mono fun e w' ⟨he, hw⟩ => ⟨by rw [he]; simp, hw ▸ Below.refl _ _⟩
  · obtain ⟨b, off, rfl, _⟩ := hc 0 (by omega)
    refine (heldByt_walk w b off cap zs.length q (by omega) fun i hi => ?_).mono fun e w' ⟨he, hw⟩ => ⟨by rw [he]; simp, hw ▸ Below.refl _ _⟩
    obtain ⟨b', off', e, hcell⟩ := hc i hi
    simp only [Option.some.injEq, Addr.mk.injEq] at e
    obtain ⟨rfl, rfl, _⟩ := e
    rw [hcell]
    unfold mkByt
    rw [marksY_get _ hi, u8_ofNat]
    simp

set_option maxHeartbeats 400000 in
theorem markByts_nil (w : World) (a : Option Addr) (cap : Nat) (k : Int) :
    Calls Tryz.prog 64 #[.slice a 0 cap, .int .i64 k] w fun e w' => e = .returned (.int .i64 k) ∧ w' = w := by
  go_enter Tryz.func64, Tryz.ntmps64
  go_wp2
  go_loop [1, 5] (fun q i => i = .int .i64 0 ∧ q = .int .i64 k) (fun _ _ => 0)
  case atStart => exact ⟨rfl, rfl⟩
  case round =>
    obtain ⟨rfl, rfl⟩ := hrel
    go_wp2
    go_ret
    exact ⟨rfl, rfl⟩
set_option maxHeartbeats 800000 in
theorem markByts_walk (w : World) (b cap n : Nat) (k : Int) (F : Nat → Prop) (zss : List (List UInt8)) (u : Nat → Value) (G : Nat → Nat → Prop) (hG : ∀ i c, G i c → F c ∧ c ≠ b) (hGG : ∀ i j c, i ≠ j → G i c → ¬ G j c)
    (hn : zss.length = n) (hk0 : 0 ≤ k) (hk : k + ((ylens zss).sum : Nat) ≤ 4611686018427387904) (hn2 : n ≤ 9223372036854775807) (hr : OwnRow w b n u) (hu : ∀ i, i < n → BytO w (u i) (zss[i]?.getD []) (G i)) :
    Calls Tryz.prog 64 #[.slice (some ⟨b, 0, none⟩) n cap, .int .i64 k] w fun e w' => e = .returned (.int .i64 (k + ((ylens zss).sum : Nat))) ∧ Chg F w w' := by
  have HR : Hid (OwnRow w b n u) := hr
  have HU : Hid (∀ i, i < n → BytO w (u i) (zss[i]?.getD []) (G i)) := hu
  have HG : Hid (∀ i c, G i c → F c ∧ c ≠ b) := hG
  have HGG : Hid (∀ i j c, i ≠ j → G i c → ¬ G j c) := hGG
  have HN : Hid (zss.length = n) := hn
  clear hr hu hG hGG hn
  go_enter Tryz.func64, Tryz.ntmps64
  go_wp2
  go_loopw [1, 5] (fun q i wr => ∃ j : Nat, j ≤ n ∧ i = .int .i64 j ∧ q = .int .i64 (k + (upto (ylens zss) j : Nat)) ∧ OwnRow wr b n u ∧ (∀ i, j ≤ i → i < n → BytO wr (u i) (zss[i]?.getD []) (G i)) ∧ Chg F w wr) (fun _ i _ => n - (intOf i).toNat)
  case atStart => exact ⟨0, Nat.zero_le _, rfl, by simp [upto_zero], HR.out, fun i _ hi => HU.out i hi, Chg.refl _ _⟩
  case round =>
    obtain ⟨j, hj, rfl, rfl, hrow, hin, hch⟩ := hrel
    by_cases hlt : j < n
    · have c1 := hrow.cell hlt
      have HROW : Hid (OwnRow wr b n u) := hrow
      have HIN : Hid (∀ i, j ≤ i → i < n → BytO wr (u i) (zss[i]?.getD []) (G i)) := hin
      have HCH : Hid (Chg F w wr) := hch
      clear hrow hin hch
      have hs := upto_succ (ylens zss) j (by rw [ylens_length, HN.out]; exact hlt)
      rw [ylens_get] at hs
      have hle := upto_le (ylens zss) (j + 1)
      have HS : Hid (upto (ylens zss) (j + 1) = upto (ylens zss) j + (zss[j]?.getD []).length) := hs
      clear hs
      generalize hU : upto (ylens zss) j = U at *
      have HIJ : Hid (BytO wr (u j) (zss[j]?.getD []) (G j)) := HIN.out j (Nat.le_refl _) hlt
      go_wp2_with fail
      refine (markBytU (k + (U : Int)) HIJ.out (by omega) (by have := HS.out; omega)).mono ?_
      rintro e w' ⟨rfl, _, hc⟩
      have HC : Hid (Chg (G j) wr w') := hc
      clear hc
      go_wp2
      go_roundw
      case rel =>
        refine ⟨j + 1, by omega, by go_num, by rw [HS.out]; go_num, HROW.out.block (HC.out.block b HROW.out.lt (fun h => (HG.out j b h).2 rfl)), fun i hij hi => ?_, HCH.out.trans (HC.out.mono fun c hc => (HG.out j c hc).1)⟩
        exact (HIN.out i (by omega) hi).keep (w' := w') fun c hc hlt => HC.out.block c hlt (HGG.out i j c (by omega) hc)
      case measure => simp [intOf]; omega
    · go_wp2
      go_ret
      have e : j = n := by omega
      subst e
      exact ⟨ret_int (by rw [← HN.out, ← upto_all, ylens_length]), hch⟩
theorem markBytsU {w : World} {v : Value} {zss : List (List UInt8)} {F : Nat → Prop} (k : Int) (h : BytsO w v zss F) (hk0 : 0 ≤ k) (hk : k + ((ylens zss).sum : Nat) ≤ 4611686018427387904) :
    Calls Tryz.prog 64 #[v, .int .i64 k] w fun e w' => e = .returned (.int .i64 (k + ((ylens zss).sum : Nat))) ∧ Chg F w w' := by
  rcases h with ⟨rfl, a, cap, rfl⟩ | ⟨b, cap, u, G, hF, hG, hGG, rfl, hl, hr, hu⟩
  · exact (markByts_nil w a cap k).mono fun e w' ⟨he, hw⟩ => ⟨by rw [he]; simp [ylens], hw ▸ Chg.refl _ _⟩
  · exact markByts_walk w b cap zss.length k F zss u G hG hGG rfl hk0 hk (by have := hl.1; unfold maxLen at this; omega) hr hu
end Go.Proofs.YtlacppjlclfpmaaGreat

namespace Go.Proofs.YtlacppjlclfpmaaGreat
open Go.RowKit
set_option maxRecDepth 100000

def byB (c : UInt8) : Bool := decide (97 ≤ (c.toNat : Int)) && decide ((c.toNat : Int) ≤ 122)
def nameF (s : ByteArray) : Int := if s.size = 0 then 5 else if s.data.toList.all byB = true then (if 4 < s.size then 2 else 0) else 5
theorem nameF_bad {s : ByteArray} {k : Nat} (h : k < s.size) (hb : byB s[k] = false) : nameF s = 5 := by
  unfold nameF
  split
  · rfl
  · rw [if_neg]
    intro ha
    rw [List.all_eq_true] at ha
    have := ha s[k] (by
      have : s[k] = s.data.toList[k]'(by simpa using h) := rfl
      rw [this]; exact List.getElem_mem _)
    rw [hb] at this
    exact absurd this (by simp)
theorem nameF_good {s : ByteArray} (ha : ∀ j (h : j < s.size), byB s[j] = true) : nameF s = if s.size = 0 then 5 else if 4 < s.size then 2 else 0 := by
  unfold nameF
  rw [if_pos (c := s.data.toList.all byB = true)]
  rw [List.all_eq_true]
  intro c hc
  obtain ⟨k, hk, rfl⟩ := List.mem_iff_getElem.1 hc
  exact ha k (by simpa using hk)

theorem toList_size (s : ByteArray) : s.toList.length = s.size := by rw [ByteArray.toList_eq]; rfl
theorem emp_no {s : ByteArray} (h : ¬ s.size = 0) : s.toList.isEmpty = false := by
  cases hs : s.toList with
  | nil => have := toList_size s; rw [hs] at this; exact absurd this.symm h
  | cons a t => rfl
theorem emp_yes {s : ByteArray} (h : s.size = 0) : s.toList.isEmpty = true := by
  cases hs : s.toList with
  | nil => rfl
  | cons a t => have := toList_size s; rw [hs, h] at this; simp at this

set_option maxHeartbeats 800000 in
theorem isNameByte_any (w : World) (c : UInt8) : Calls Tryz.prog 108 #[.int .u8 (c.toNat : Int)] w fun e w' => e = .returned (.bool (byB c)) ∧ w' = w := by
  unfold byB
  by_cases h1 : 97 ≤ (c.toNat : Int)
  · by_cases h2 : (c.toNat : Int) ≤ 122
    · rw [decide_eq_true h1, decide_eq_true h2]
      go_enter Tryz.func108, Tryz.ntmps108
      go_wp2
      go_ret
      exact ⟨rfl, rfl⟩
    · rw [decide_eq_true h1, decide_eq_false h2]
      have d2 : decide ((c.toNat : Int) ≤ 122) = false := by simpa using h2
      go_enter Tryz.func108, Tryz.ntmps108
      go_wp2
      go_ret
      exact ⟨rfl, rfl⟩
  · rw [decide_eq_false h1]
    have d1 : decide (97 ≤ (c.toNat : Int)) = false := by simpa using h1
    go_enter Tryz.func108, Tryz.ntmps108
    go_wp2
    go_ret
    exact ⟨rfl, rfl⟩

set_option maxHeartbeats 800000 in
theorem implName_any (w : World) (s : ByteArray) (hs : s.size ≤ maxLen) : Calls Tryz.prog 106 #[.string s] w fun e w' => e = .returned (.int .i64 (nameF s)) ∧ w' = w := by
  unfold maxLen at hs
  by_cases h0 : s.size = 0
  · have hem := emp_yes h0
    have HN : Hid (nameF s = 5) := by unfold Hid nameF; rw [if_pos h0]
    rw [HN.out]
    go_enter Tryz.func106, Tryz.ntmps106
    go_wp2
    go_ret
    exact ⟨rfl, rfl⟩
  · have hem := emp_no h0
    go_enter Tryz.func106, Tryz.ntmps106
    go_wp2
    go_loop [8] (fun i => ∃ k : Nat, k ≤ s.size ∧ i = .int .i64 k ∧ ∀ j (h : j < s.size), j < k → byB s[j] = true) (fun i => s.size - (intOf i).toNat)
    case atStart => exact ⟨0, Nat.zero_le _, rfl, fun j h h' => by omega⟩
    case round =>
      obtain ⟨k, hk, rfl, ha⟩ := hrel
      have HA : Hid (∀ j (h : j < s.size), j < k → byB s[j] = true) := ha
      clear ha
      by_cases hlt : k < s.size
      · cases hb : byB s[k]
        · have HB : Hid (byB s[k] = false) := hb
          have HN : Hid (nameF s = 5) := nameF_bad hlt hb
          clear hb
          go_wp2_with fail
          refine (isNameByte_any _ _).mono ?_
          rw [HB.out]
          rintro e w1 ⟨rfl, rfl⟩
          go_wp2
          go_ret
          exact ⟨ret_int HN.out.symm, rfl⟩
        · have HB : Hid (byB s[k] = true) := hb
          clear hb
          go_wp2_with fail
          refine (isNameByte_any _ _).mono ?_
          rw [HB.out]
          rintro e w1 ⟨rfl, rfl⟩
          go_wp2
          go_round
          case rel =>
            refine ⟨k + 1, by omega, by go_num, fun j h hj => ?_⟩
            by_cases e : j = k
            · subst e; exact HB.out
            · exact HA.out j h (by omega)
          case measure => simp [intOf]; omega
      · have HN : Hid (nameF s = if s.size = 0 then 5 else if 4 < s.size then 2 else 0) := nameF_good fun j h => HA.out j h (by omega)
        by_cases h4 : 4 < s.size
        · go_wp2
          go_ret
          exact ⟨ret_int (by rw [HN.out, if_neg h0, if_pos h4]), rfl⟩
        · go_wp2
          go_ret
          exact ⟨ret_int (by rw [HN.out, if_neg h0, if_neg h4]), rfl⟩

end Go.Proofs.YtlacppjlclfpmaaGreat

namespace Go.Proofs.YtlacppjlclfpmaaGreat
open Go.RowKit
set_option maxRecDepth 100000

def mkB (l : List UInt8) : ByteArray := ⟨l.toArray⟩
theorem mkB_data (s : ByteArray) : mkB s.data.toList = s := by cases s; simp [mkB]
theorem mkB_list (l : List UInt8) : (mkB l).data.toList = l := by simp [mkB]
theorem mkB_size (l : List UInt8) : (mkB l).size = l.length := by simp [mkB, ByteArray.size]
theorem mkB_inj {l m : List UInt8} (h : mkB l = mkB m) : l = m := by rw [← mkB_list l, h, mkB_list]
def cutHead (b : UInt8) : List (List UInt8) → List (List UInt8)
  | [] => [[b]]
  | p :: ps => (b :: p) :: ps
/-- A text cut at each slash. -/
def cutB : List UInt8 → List (List UInt8)
  | [] => [[]]
  | b :: l => if b = 47 then [] :: cutB l else cutHead b (cutB l)
def takeTo (l : List UInt8) : List UInt8 := l.takeWhile (· != 47)
def dropTo (l : List UInt8) : List UInt8 := l.dropWhile (· != 47)
/-- What stands behind each slash, the first sign being one. -/
def restN : List UInt8 → List (List UInt8)
  | [] => []
  | _ :: t => cutB t
theorem cut_step (t : List UInt8) : cutB t = takeTo t :: restN (dropTo t) := by
  induction t with
  | nil => rfl
  | cons b l ih =>
    unfold cutB takeTo dropTo
    by_cases h : b = 47
    · rw [if_pos h, List.takeWhile_cons, List.dropWhile_cons, if_neg (by simp [h]), if_neg (by simp [h])]
      rfl
    · rw [if_neg h, ih, List.takeWhile_cons, List.dropWhile_cons, if_pos (by simpa using h), if_pos (by simpa using h)]
      rfl
theorem idx_cases (t : List UInt8) : (Lib.indexByte t 47 = -1 ∧ takeTo t = t ∧ dropTo t = []) ∨ ∃ o : Nat, Lib.indexByte t 47 = (o : Int) ∧ o < t.length ∧ takeTo t = t.take o ∧ dropTo t = t.drop o := by
  induction t with
  | nil => exact Or.inl ⟨rfl, rfl, rfl⟩
  | cons b l ih =>
    unfold Lib.indexByte takeTo dropTo
    by_cases h : b = 47
    · exact Or.inr ⟨0, by simp [h], by simp, by simp [h], by simp [h]⟩
    · have hb : (b == 47) = false := by simpa using h
      rcases ih with ⟨h1, h2, h3⟩ | ⟨o, h1, h2, h3, h4⟩
      · refine Or.inl ⟨by simp [hb, h1], ?_, ?_⟩
        · rw [List.takeWhile_cons, if_pos (by simpa using h)]; unfold takeTo at h2; rw [h2]
        · rw [List.dropWhile_cons, if_pos (by simpa using h)]; unfold dropTo at h3; rw [h3]
      · refine Or.inr ⟨o + 1, ?_, by simp; omega, ?_, ?_⟩
        · have : (Lib.indexByte l 47 == -1) = false := by rw [h1]; simp
          simp [hb, h1]
        · rw [List.takeWhile_cons, if_pos (by simpa using h)]; unfold takeTo at h3; rw [h3]; rfl
        · rw [List.dropWhile_cons, if_pos (by simpa using h)]; unfold dropTo at h4; rw [h4]; rfl
theorem restN_cons (b : UInt8) (t : List UInt8) : restN (b :: t) = takeTo t :: restN (dropTo t) := cut_step t
theorem dropTo_le (t : List UInt8) : (dropTo t).length ≤ t.length := by unfold dropTo; exact (List.dropWhile_sublist _).length_le
theorem takeTo_le (t : List UInt8) : (takeTo t).length ≤ t.length := by unfold takeTo; exact (List.takeWhile_sublist _).length_le
/-- The names that a path tells. -/
def namesL (l : List UInt8) : List (List UInt8) := if l = [47] then [] else restN l

theorem run_from (l : List UInt8) (k : Nat) (hk : k ≤ l.length) (W : World) : (Instr.slice 9 (.string (mkB l)) (some (.int .i64 (k : Int))) none none).run Tryz.prog W = .ok (.string (mkB (l.drop k))) W := by
  have hs := mkB_size l
  have he : (mkB l).extract k (mkB l).size = mkB (l.drop k) := by
    have h : ((mkB l).extract k (mkB l).size).data.toList = l.drop k := by
      simp only [mkB, ByteArray.size, ByteArray.data_extract, Array.toList_extract, List.size_toArray, List.extract_eq_take_drop]
      exact List.take_of_length_le (by simp)
    rw [← mkB_data ((mkB l).extract k (mkB l).size), h]
  simp [Instr.slice, Instr.sliceBounds, Instr.sliceBound, asIntOf, run_underlying Tryz.underlying9, hs, hk]
  rw [← hs]
  exact he
theorem run_upto (l : List UInt8) (k : Nat) (hk : k ≤ l.length) (W : World) : (Instr.slice 9 (.string (mkB l)) none (some (.int .i64 (k : Int))) none).run Tryz.prog W = .ok (.string (mkB (l.take k))) W := by
  have hs := mkB_size l
  have he : (mkB l).extract 0 k = mkB (l.take k) := by
    have h : ((mkB l).extract 0 k).data.toList = l.take k := by simp [mkB]
    rw [← mkB_data ((mkB l).extract 0 k), h]
  simp [Instr.slice, Instr.sliceBounds, Instr.sliceBound, asIntOf, run_underlying Tryz.underlying9, hs, hk]
  exact he
end Go.Proofs.YtlacppjlclfpmaaGreat

namespace Go.Proofs.YtlacppjlclfpmaaGreat
open Go.RowKit Go.Shelf
set_option maxRecDepth 100000
attribute [local go_sem] Oper.semAt_some

/-- A text that is no longer than a row takes. -/
abbrev BL := { l : List UInt8 // l.length ≤ 1048576 }
/-- A name as it is told. -/
abbrev encB (x : BL) : Array Value := #[.string (mkB x.1)]
abbrev txt (pre : List BL) : List (List UInt8) := pre.map (·.1)
theorem mkB_toList (l : List UInt8) : (mkB l).toList = l := by rw [ByteArray.toList_eq, mkB_list]
def strLen : Value → Nat
  | .string s => s.size
  | _ => 0

end Go.Proofs.YtlacppjlclfpmaaGreat

namespace Go.Proofs.YtlacppjlclfpmaaGreat
open Go.RowKit Go.Shelf
set_option maxRecDepth 100000
attribute [local go_sem] Oper.semAt_some

theorem cutHead_len (b : UInt8) (ps : List (List UInt8)) (h : ps ≠ []) : (cutHead b ps).length = ps.length := by
  cases ps with
  | nil => exact absurd rfl h
  | cons a t => rfl
theorem cutB_ne (l : List UInt8) : cutB l ≠ [] := by rw [cut_step]; simp
theorem cutB_len (l : List UInt8) : (cutB l).length ≤ l.length + 1 := by
  induction l with
  | nil => simp [cutB]
  | cons b t ih =>
    unfold cutB
    split
    · simp only [List.length_cons]; omega
    · rw [cutHead_len b _ (cutB_ne t)]; simp only [List.length_cons]; omega
theorem namesL_len (l : List UInt8) : (namesL l).length ≤ l.length + 1 := by
  unfold namesL
  split
  · simp
  · cases l with
    | nil => simp [restN]
    | cons b t => have := cutB_len t; simp only [restN, List.length_cons]; omega
theorem cell_new_l (W : World) (v : Value) (t : TypeId) : (W.alloc (.cells #[v] t)).cell? ⟨W.heap.size, 0, none⟩ = some v ∧ (W.alloc (.cells #[v] t)).frozen? ⟨W.heap.size, 0, none⟩ = false := by
  have h : (W.alloc (.cells #[v] t)).heap[W.heap.size]? = some (.cells #[v] t (0, 0)) := World.alloc_heap_new W _
  constructor
  · simp only [World.cell?, h]; rfl
  · simp only [World.frozen?, h]; rfl

end Go.Proofs.YtlacppjlclfpmaaGreat

namespace Go.Proofs.YtlacppjlclfpmaaGreat
open Go.RowKit
set_option maxRecDepth 100000

/-- The digits of a number ahead of what stands. -/
def dg (k : Nat) (acc : List UInt8) : List UInt8 := if h : k = 0 then acc else dg (k / 10) (UInt8.ofNat (48 + k % 10) :: acc)
termination_by k
decreasing_by omega

theorem mkB_app (a b : List UInt8) : mkB a ++ mkB b = mkB (a ++ b) := by
  have h : (mkB a ++ mkB b).data.toList = a ++ b := by simp [mkB]
  rw [← mkB_data (mkB a ++ mkB b), h]
theorem conv_one (w : World) (j : Nat) :
    (convert 22 9 (.slice (some ⟨w.heap.size, 0, none⟩) 1 1)).run Tryz.prog (w.alloc (.cells #[.int .u8 (48 + (j : Int) % 10)] 5)) = .ok (.string (mkB [UInt8.ofNat (48 + j % 10)])) (w.alloc (.cells #[.int .u8 (48 + (j : Int) % 10)] 5)) := by
  refine run_convert_bytes_back _ 22 9 5 ⟨w.heap.size, 0, none⟩ 1 [UInt8.ofNat (48 + j % 10)] Tryz.underlying22 Tryz.underlying5 Tryz.underlying9 (fun i hi => ?_)
  have hi0 : i = 0 := by simpa using hi
  subst hi0
  have h1 : (UInt8.ofNat (48 + j % 10)).toNat = 48 + j % 10 := by rw [UInt8.toNat_ofNat']; omega
  show (w.alloc (.cells #[.int .u8 (48 + (j : Int) % 10)] 5)).cell? ⟨w.heap.size, 0, none⟩ = some (.int .u8 ((UInt8.ofNat (48 + j % 10)).toNat : Int))
  rw [h1, (cell_new_l w _ _).1]
  congr 2

set_option maxHeartbeats 1600000 in
theorem markText_any (w : World) (k : Nat) (hk : 1 ≤ k) (hk2 : k ≤ 4294967296) :
    Calls Tryz.prog 62 #[.int .i64 (k : Int)] w fun e w' => e = .returned (.string (mkB (109 :: dg k []))) ∧ Below w.heap.size w w' := by
  have hk' : decide ((k : Int) ≤ 0) = false := by simp; omega
  go_enter Tryz.func62, Tryz.ntmps62
  go_wp2
  go_loopw [0, 3] (fun q o wr => ∃ (j : Nat) (acc : List UInt8), acc.length + j ≤ k ∧ q = .int .i64 (j : Int) ∧ o = .string (mkB acc) ∧ dg j acc = dg k [] ∧ Below w.heap.size w wr) (fun q _ _ => (intOf q).toNat)
  case atStart => exact ⟨k, [], by simp, rfl, rfl, rfl, Below.refl _ _⟩
  case round =>
    obtain ⟨j, acc, hj, rfl, rfl, hdg, hbl⟩ := hrel
    have HD : Hid (dg j acc = dg k []) := hdg
    have HB : Hid (Below w.heap.size w wr) := hbl
    have hkz : (k = 0) = False := by simp; omega
    clear hdg hbl
    by_cases h0 : j = 0
    · subst h0
      have HE : Hid (acc = dg k []) := by unfold Hid; rw [← HD.out]; unfold dg; simp
      have HE2 : Hid (mkB [109] ++ mkB acc = mkB (109 :: dg k [])) := by unfold Hid; rw [mkB_app, ← HE.out]; rfl
      have hm : (⟨#[109]⟩ : ByteArray) = mkB [109] := rfl
      have hsz : (9223372036854775807 < (mkB [109]).size + (mkB acc).size) = False := by rw [mkB_size, mkB_size]; simp; omega
      go_wp2
      go_ret
      exact ⟨by rw [← HE2.out]; rfl, HB.out⟩
    · have hp : (0 : Int) < (j : Int) := by omega
      have hcv := conv_one wr j
      have HAP : Hid (mkB [UInt8.ofNat (48 + j % 10)] ++ mkB acc = mkB (UInt8.ofNat (48 + j % 10) :: acc)) := mkB_app _ _
      have HDD : Hid (dg (j / 10) (UInt8.ofNat (48 + j % 10) :: acc) = dg k []) := by unfold Hid; rw [← HD.out]; conv => rhs; unfold dg; rw [dif_neg h0]
      have hsz : (9223372036854775807 < (mkB [UInt8.ofNat (48 + j % 10)]).size + (mkB acc).size) = False := by rw [mkB_size, mkB_size]; simp; omega
      generalize UInt8.ofNat (48 + j % 10) = b at *
      go_wp2
      go_roundw
      case rel => exact ⟨j / 10, b :: acc, by simp; omega, by go_num, by rw [HAP.out], HDD.out, HB.out.trans ((later1 _ _).mono HB.out.size)⟩
      case measure => simp [intOf]; omega
end Go.Proofs.YtlacppjlclfpmaaGreat

namespace Go.Proofs.YtlacppjlclfpmaaGreat
open Go.RowKit Go.Shelf
set_option maxRecDepth 100000
attribute [local go_sem] Oper.semAt_some

/-- The fault of the first name that has one. -/
def namesF : List (List UInt8) → Int
  | [] => 0
  | x :: t => if nameF (mkB x) = 0 then namesF t else nameF (mkB x)
theorem nameF_cases (s : ByteArray) : nameF s = 0 ∨ nameF s = 2 ∨ nameF s = 5 := by
  unfold nameF
  split
  · simp
  · split
    · split <;> simp
    · simp
theorem namesF_app (a b : List (List UInt8)) : namesF (a ++ b) = if namesF a = 0 then namesF b else namesF a := by
  induction a with
  | nil => simp [namesF]
  | cons x t ih =>
    simp only [List.cons_append, namesF]
    split
    · exact ih
    · rfl
theorem namesF_snoc {a : List (List UInt8)} (x : List UInt8) (h : namesF a = 0) : namesF (a ++ [x]) = nameF (mkB x) := by
  rw [namesF_app, if_pos h]
  simp only [namesF]
  split
  · rename_i h; exact h.symm
  · rfl
theorem namesF_prefix {a b : List (List UInt8)} (h : a <+: b) (hn : ¬ namesF a = 0) : namesF b = namesF a := by
  obtain ⟨t, rfl⟩ := h
  rw [namesF_app, if_neg hn]

end Go.Proofs.YtlacppjlclfpmaaGreat

namespace Go.Proofs.YtlacppjlclfpmaaGreat
open Go.Shelf Go.RowKit Go.Lib
set_option maxRecDepth 100000
def Tryz.laysM316_ren : Go.Shelf.Ren := ⟨fun | 316 => 95 | n => n, fun | 9 => 9 | 3 => 3 | 4 => 4 | 37 => 22 | 0 => 0 | 127 => 138 | 5 => 5 | n => n, fun | n => n⟩
theorem Tryz.laysM316 : Go.Proofs.LaysM.n316 Tryz.prog Tryz.laysM316_ren := {
  mixed := by kernel_rfl
  f316 := Tryz.func95.trans (congrArg some (by kernel_rfl))
  t0 := Tryz.underlying0
  a0 := Tryz.isAgg0
  z0 := Tryz.sizeOf0
  v0 := Tryz.zeroValue0
  t3 := Tryz.underlying3
  a3 := Tryz.isAgg3
  z3 := Tryz.sizeOf3
  v3 := Tryz.zeroValue3
  t4 := Tryz.underlying4
  a4 := Tryz.isAgg4
  z4 := Tryz.sizeOf4
  v4 := Tryz.zeroValue4
  t9 := Tryz.underlying9
  a9 := Tryz.isAgg9
  z9 := Tryz.sizeOf9
  v9 := Tryz.zeroValue9
  t37 := Tryz.underlying22
  a37 := Tryz.isAgg22
  z37 := Tryz.sizeOf22
  v37 := Tryz.zeroValue22
  t127 := Tryz.underlying138
  a127 := Tryz.isAgg138
  z127 := Tryz.sizeOf138
  v127 := Tryz.zeroValue138
  t5 := Tryz.underlying5
  a5 := Tryz.isAgg5
  z5 := Tryz.sizeOf5
  v5 := Tryz.zeroValue5
  i0 := by kernel_rfl
  i3 := by kernel_rfl
  i4 := by kernel_rfl
  i5 := by kernel_rfl
  i9 := by kernel_rfl
  i37 := by kernel_rfl
  i127 := by kernel_rfl }
theorem Tryz.stringslite_Clone (s : ByteArray) (w : World) (hlim : s.size ≤ 281474976710656) :
    Calls Tryz.prog 95 #[.string s] w fun e w' => e = .returned (.string s) ∧ Below w.heap.size w w' := Any.stringslite_Clone Tryz.laysM316 s w hlim
end Go.Proofs.YtlacppjlclfpmaaGreat

namespace Go.Proofs.YtlacppjlclfpmaaGreat
open Go.RowKit
set_option maxRecDepth 100000

def preB (l : List UInt8) : Bool := l.head? == some 47
def sufB (l : List UInt8) : Bool := l.getLast? == some 47
def topB (l : List UInt8) : Bool := l == [47]
theorem pre_lib (l : List UInt8) : Lib.hasPrefix l [47] = preB l := by
  cases l with
  | nil => rfl
  | cons b t => simp [Lib.hasPrefix, preB, List.isPrefixOf]; exact BEq.comm
theorem suf_lib (l : List UInt8) : Lib.hasSuffix l [47] = sufB l := by
  unfold Lib.hasSuffix sufB
  cases h : l.reverse with
  | nil =>
    have : l = [] := by simpa using h
    subst this; rfl
  | cons b t =>
    have : l = t.reverse ++ [b] := by
      have := congrArg List.reverse h
      simpa using this
    subst this
    simp [List.isSuffixOf, List.isPrefixOf]; exact BEq.comm
def pathF (l : List UInt8) : Int :=
  if 30 < l.length then 2 else if preB l = true then (if sufB l = true ∧ topB l = false then 5 else if 6 < (namesL l).length then 2 else namesF (namesL l)) else 5

end Go.Proofs.YtlacppjlclfpmaaGreat

namespace Go.Proofs.YtlacppjlclfpmaaGreat
open Go.RowKit Go.Shelf
set_option maxRecDepth 100000
attribute [local go_sem] Oper.semAt_some

theorem Tryz.infoStr : (Tryz.prog.info? 9).map (fun i => (i.zero, i.size, i.bytes)) = some (some (.string ⟨#[]⟩), 1, 16) := by kernel_rfl
/-- The cells of a list of texts. -/
def strV (l : List UInt8) : Value := .string (mkB l)
theorem clone_any (w : World) (l : List UInt8) (hl : l.length ≤ 1048576) : Calls Tryz.prog 82 #[.string (mkB l)] w fun e w' => e = .returned (.string (mkB l)) ∧ Below w.heap.size w w' := by
  go_enter Tryz.func82, Tryz.ntmps82
  go_wp2_with fail
  refine (Tryz.stringslite_Clone (mkB l) _ (by rw [mkB_size]; omega)).mono ?_
  rintro e w1 ⟨rfl, hb1⟩
  go_wp2
  go_ret
  exact ⟨rfl, hb1⟩
/-- The names that SplitPath answers. -/
def splitL (l : List UInt8) : List (List UInt8) := if pathF l = 0 then namesL l else []

theorem ownsRow_later {B : Nat} {e : TypeId} {k : Nat} {v : Value} {n : Nat} {xs : List Value} {w w' : World} (h : w.ownsRow B e k v n xs) (hb : Below w.heap.size w w') : w'.ownsRow B e k v n xs :=
  h.kept (row := none) ⟨hb.os, hb.tape, hb.output, hb.size, fun j hj _ => hb.block j hj⟩ (by cases hv : v.ownBlock <;> simp)
theorem ownsRow_shape {w : World} {B : Nat} {e : TypeId} {k : Nat} {v : Value} {n : Nat} {xs : List Value} (h : w.ownsRow B e k v n xs) : ∃ a c, v = .slice a n c := by
  rcases h.2 with ⟨rfl, rfl⟩ | ⟨g, cap, cur, rfl, _⟩
  · exact ⟨_, _, rfl⟩
  · exact ⟨_, _, rfl⟩
theorem ownsRow_base {w : World} {B B' : Nat} {e : TypeId} {k : Nat} {v : Value} {n : Nat} {xs : List Value} (h : w.ownsRow B e k v n xs) (hb : B' ≤ B) : w.ownsRow B' e k v n xs := by
  obtain ⟨hl, h | ⟨g, cap, cur, h1, h2, r⟩⟩ := h
  · exact ⟨hl, Or.inl h⟩
  · exact ⟨hl, Or.inr ⟨g, cap, cur, h1, Nat.le_trans hb h2, r⟩⟩
theorem ownsRow_store {w : World} {B : Nat} {e : TypeId} {k : Nat} {v : Value} {n : Nat} {xs : List Value} (h : w.ownsRow B e k v n xs) {p : Addr} (hp : p.block < B) (u : Value) : (w.setCell p u).ownsRow B e k v n xs := by
  obtain ⟨hl, h | ⟨g, cap, cur, h1, h2, h3, r⟩⟩ := h
  · exact ⟨hl, Or.inl h⟩
  · exact ⟨hl, Or.inr ⟨g, cap, cur, h1, h2, (Below.heap_setCell _ _ _ _ (by omega)).trans h3, r⟩⟩
theorem keeps_later {w w' : World} (hb : Below w.heap.size w w') : KeepsOthers w w' := ⟨hb.size, fun j _ hj _ => (hb.block j (Array.getElem?_eq_some_iff.1 hj).1).trans hj⟩
theorem OwnRow.newS (w : World) (x y : Value) (t : TypeId) : OwnRow (w.alloc (.cells #[x, y] t)) w.heap.size 2 (fun i => if i = 0 then x else y) := by
  refine ⟨_, t, World.alloc_heap_new w _, by simp, fun i hi => ?_⟩
  have : i = 0 ∨ i = 1 := by omega
  rcases this with rfl | rfl <;> simp

/-- One text more behind a row: what the program's append comes to, behind a call that made memory of its own. -/
theorem append_str (W w2 : World) (n₀ B : Nat) (v : Value) (n : Nat) (xs : List Value) (y : List UInt8) (hxn : xs.length = n) (hv : Boxed W B 23 v) (hrow : W.ownsRow n₀ 9 1 v n xs) (hn₀ : n₀ ≤ W.heap.size) (hB : n₀ ≤ B) (hb2 : Below W.heap.size W w2) (hn : n ≤ 1048577) :
    ∃ g c X, (Builtin.append_ #[23, 23] 23 #[v, .slice (some ⟨w2.heap.size, 0, none⟩) 1 1]).run Tryz.prog (w2.alloc (.cells #[strV y] 9)) = .ok (.slice (some ⟨g, 0, none⟩) (n + 1) c) X ∧ X.cell? ⟨B, 0, none⟩ = some v ∧ X.frozen? ⟨B, 0, none⟩ = false ∧
      Boxed (X.setCell ⟨B, 0, none⟩ (.slice (some ⟨g, 0, none⟩) (n + 1) c)) B 23 (.slice (some ⟨g, 0, none⟩) (n + 1) c) ∧ (X.setCell ⟨B, 0, none⟩ (.slice (some ⟨g, 0, none⟩) (n + 1) c)).ownsRow n₀ 9 1 (.slice (some ⟨g, 0, none⟩) (n + 1) c) (n + 1) (xs ++ [strV y]) ∧
      KeepsOthers W (X.setCell ⟨B, 0, none⟩ (.slice (some ⟨g, 0, none⟩) (n + 1) c)) ∧ Below n₀ W (X.setCell ⟨B, 0, none⟩ (.slice (some ⟨g, 0, none⟩) (n + 1) c)) := by
  subst hxn
  obtain ⟨i0, hi, hz0, hz1, hz2⟩ := info_parts Tryz.infoStr
  have hv2 : Boxed w2 B 23 v := (hb2.block B hv.lt).trans hv
  have hrow2 := ownsRow_later hrow hb2
  have hs2 := hb2.size
  obtain ⟨v', X, hr, hown, hgrow, _⟩ := run_append_own (P := Tryz.prog) (w2.alloc (.cells #[strV y] 9)) n₀ 23 23 9 i0 (.string ⟨#[]⟩) 1 16 Tryz.underlying23 hi hz0 hz1 hz2 rfl (by decide) v xs.length xs (ownsRow_later hrow2 (later1 _ _)) ⟨w2.heap.size, 0, none⟩ 1 1 [strV y] rfl (cell_one_new _ _ _) (by simp [Value.oneCell', strV]) (by unfold maxLen; omega) (by omega) (by simp; omega)
  obtain ⟨g, c, rfl⟩ := ownsRow_succ hown
  obtain ⟨h1, h2, h3, h4, h5⟩ := hv2.appended (by decide) hrow2 (by omega) hB hown hgrow
  exact ⟨g, c, X, hr, h1.cell, h1.frozen, h2, h3, (keeps_later hb2).trans h4, (hb2.mono hn₀).trans h5⟩

/-- What a builtin append is known to come to, inside a region of a round that draws its order. -/
theorem stepIn_append_run {F : Fence} {n : Nat} {P : Program} {w : World} {ops : Array Oper} {o : Oper} {a : Act} {K : Act → World → Prop} {Q : Exit → Act → World → Prop} {E : Prop} (hgd : o.guard = none) (s x : Operand) (t : TypeId)
    (hop : o.op = .call { callee := .builtin .append, args := #[s, x], argTypes := #[t, t] }) (v y : Value) (hs : a.eval s = v) (hx : a.eval x = y) (v' : Value) (w' : World)
    (hr : (Builtin.append_ #[t, t] o.type #[v, y]).run P w = .ok v' w') (h : K (a.put o.dst v') w') : if Region.wanted o (yielded ops a.tmps) = true then Oper.wpIn F n P o a w K Q else E := by
  have hw : Region.wanted o (yielded ops a.tmps) = true := by simp [Region.wanted, hgd]
  rw [if_pos hw]
  unfold Oper.wpIn
  refine ⟨?_, ?_⟩
  · simp [Oper.about, hop, resolve, Target.leads, Sem.run_pure]
  · rw [Oper.semAt_plain F _ _ (by rw [hop]; intro c hc'; cases hc')]
    simp [execOp, hop, resolve, invoke, builtin, hs, hx, hr, Result.andThen]
    exact h

end Go.Proofs.YtlacppjlclfpmaaGreat

namespace Go.Proofs.YtlacppjlclfpmaaGreat
open Go.RowKit
set_option maxRecDepth 100000

section
variable {P : Program} {w : World}
/-- An append whose run is known, at its place in a walk. -/
theorem wpList_append_run {ops : Array Oper} {rest : List Oper} {o : Oper} {a : Act} {Q : Exit → Act → World → Prop} (hgd : o.guard = none) (s x : Operand) (t : TypeId)
    (ho : o.op = .call { callee := .builtin .append, args := #[s, x], argTypes := #[t, t] }) (v y : Value) (hs : a.eval s = v) (hx : a.eval x = y) (v' : Value) (w' : World)
    (hr : (Builtin.append_ #[t, t] o.type #[v, y]).run P w = .ok v' w') (h : wpList P ops Q rest (a.put o.dst v') w') : wpList P ops Q (o :: rest) a w := by
  refine wpList_plain hgd fun K hK => ?_
  unfold Oper.wp execOp
  simp only [ho, resolve, invoke, builtin, Sem.run_bind, Sem.run_pure, Result.andThen_ok, List.map_toArray, List.map_cons, List.map_nil, hs, hx, hr]
  exact hK _ _ h
/-- The same inside a region that draws its order. -/
theorem step_append_run {ops : Array Oper} {o : Oper} {a : Act} {K : Act → World → Prop} {Q : Exit → Act → World → Prop} {E : Prop} (hgd : o.guard = none) (s x : Operand) (t : TypeId)
    (ho : o.op = .call { callee := .builtin .append, args := #[s, x], argTypes := #[t, t] }) (v y : Value) (hs : a.eval s = v) (hx : a.eval x = y) (v' : Value) (w' : World)
    (hr : (Builtin.append_ #[t, t] o.type #[v, y]).run P w = .ok v' w') (h : K (a.put o.dst v') w') : if Region.wanted o (yielded ops a.tmps) = true then Oper.wp P o a w K Q else E := by
  have hw : Region.wanted o (yielded ops a.tmps) = true := by simp [Region.wanted, hgd]
  rw [if_pos hw]
  unfold Oper.wp execOp
  simp only [ho, resolve, invoke, builtin, Sem.run_bind, Sem.run_pure, Result.andThen_ok, List.map_toArray, List.map_cons, List.map_nil, hs, hx, hr]
  exact h
end

theorem below_grown {w w' : World} {B : Nat} {row : Option Nat} (h : w.grownBy w' row) (hB : B ≤ w.heap.size) (hr : ∀ k, row = some k → B ≤ k) : Below B w w' := (Below.refl _ _).grown h hB hr

/-- A row of one cell an element that the call owns. -/
theorem ownsRow_row {w : World} {base n : Nat} {e : TypeId} {v : Value} {xs : List Value} (h : w.ownsRow base e 1 v n xs) (h0 : 0 < n) : ∃ g cap, v = .slice (some ⟨g, 0, none⟩) n cap ∧ base ≤ g ∧ g < w.heap.size ∧ n ≤ maxLen ∧ OwnRow w g n (fun i => xs[i]?.getD undef) := by
  obtain ⟨hl, h | ⟨g, cap, cur, rfl, hb, hh, hnc, hcm, hcs, htake⟩⟩ := h
  · omega
  · refine ⟨g, cap, rfl, hb, (Array.getElem?_eq_some_iff.1 hh).1, by omega, cur, e, hh, by omega, fun i hi => ?_⟩
    rw [Nat.mul_one] at htake
    have h1 : xs[i]? = cur[i]? := by rw [← htake, List.getElem?_take, if_pos hi, Array.getElem?_toList]
    show cur[i]? = some (xs[i]?.getD undef)
    have h2 : i < cur.size := by omega
    rw [h1, Array.getElem?_eq_getElem h2]; rfl

theorem add_plain' (b off k : Nat) : (⟨b, off, none⟩ : Addr).add k = ⟨b, off + k, none⟩ := by
  by_cases h : k = 0
  · subst h; simp [Addr.add]
  · simp [Addr.add, h]

theorem Tryz.infoInt' : ∃ i, Tryz.prog.info? 2 = some i ∧ i.zero = some (.int .i64 0) ∧ i.size = 1 ∧ i.bytes = 8 := by
  obtain ⟨i, hi, h⟩ := Option.map_eq_some_iff.1 Tryz.infoInt
  simp only [Prod.mk.injEq] at h
  exact ⟨i, hi, h.1, h.2.1, h.2.2⟩

theorem append_empty (w : World) (ty : TypeId) (a : Option Addr) (n cap : Nat) (zs : List Int) (hz : zs.length = n) (hn : n ≤ 1048576) (hc : At1 w a n (fun k => .int .i64 (zs[k]?.getD 0))) :
    ∃ v' X, (Builtin.append_ #[55, 55] ty #[.slice (some ⟨w.heap.size, 0, none⟩) 0 0, .slice a n cap]).run Tryz.prog (w.alloc (.cells #[] 2)) = .ok v' X ∧
      Below w.heap.size w X ∧ IntsO X v' zs (fresh w X) ∧ w.heap.size < X.heap.size ∧ ∃ a' c', v' = .slice a' n c' := by
  obtain ⟨i, hi, h1, h2, h3⟩ := Tryz.infoInt'
  have hown : (w.alloc (.cells #[] 2)).ownsRow w.heap.size 2 1 (.slice (some ⟨w.heap.size, 0, none⟩) 0 0) 0 [] := World.ownsRow_lit w #[] 0 (Nat.le_refl _) (by simp) rfl
  by_cases ha : a = none
  · subst ha
    have h0 : n = 0 := by
      by_cases h : n = 0
      · exact h
      · obtain ⟨_, _, e, _⟩ := hc 0 (by omega); cases e
    subst h0
    have hzs : zs = [] := List.eq_nil_of_length_eq_zero hz
    subst hzs
    refine ⟨.slice (some ⟨w.heap.size, 0, none⟩) 0 0, w.alloc (.cells #[] 2), ?_, later1 _ _, Or.inl ⟨rfl, _, _, rfl⟩, by simp, _, _, rfl⟩
    simp [Builtin.append_, run_underlying Tryz.underlying55, sizeOf, typeInfo, hi, Builtin.lenOf, Builtin.firstCells, storeCells]
  · obtain ⟨ad, rfl⟩ := Option.ne_none_iff_exists'.1 ha
    obtain ⟨v', X, hr, ho, hg, _⟩ := run_append_own (P := Tryz.prog) (w.alloc (.cells #[] 2)) w.heap.size 55 ty 2 i (.int .i64 0) 1 8 Tryz.underlying55 hi h1 h2 h3 rfl (by decide) _ 0 [] hown ad n cap (zs.map fun z => Value.int .i64 z)
      (by simp [hz]) (fun j u hu => by
        rw [List.getElem?_map, Option.map_eq_some_iff] at hu
        obtain ⟨z, hz1, rfl⟩ := hu
        have hj : j < n := by rw [← hz]; exact (List.getElem?_eq_some_iff.1 hz1).1
        obtain ⟨b, off, e, h⟩ := hc j hj
        simp only [Option.some.injEq] at e
        rw [e, add_plain']
        replace h : w.cell? ⟨b, off + j, none⟩ = some (.int .i64 (zs[j]?.getD 0)) := h
        rw [hz1, Option.getD_some] at h
        exact cell_later (later1 _ _) h) (fun u hu => by
        obtain ⟨z, _, rfl⟩ := List.mem_map.1 hu
        rfl) (by unfold maxLen; omega) (by omega) (by simp)
    have hB : Below w.heap.size w X := (later1 _ _).trans (below_grown hg (by simp) (fun k hk => by simp [Value.ownBlock] at hk; omega))
    simp only [Nat.zero_add, List.nil_append] at ho
    refine ⟨v', X, hr, hB, ?_, by have := hg.size; simp at this; omega, ?_⟩
    · by_cases h0 : n = 0
      · subst h0
        have hzs : zs = [] := List.eq_nil_of_length_eq_zero hz
        refine Or.inl ⟨hzs, ?_⟩
        rcases ho.2 with ⟨rfl, _⟩ | ⟨g, c, cur, rfl, _⟩
        · exact ⟨_, _, rfl⟩
        · exact ⟨_, _, rfl⟩
      · obtain ⟨g, c, rfl, hg1, hg2, hm, hrow⟩ := ownsRow_row ho (by omega)
        refine Or.inr ⟨g, c, ⟨hg1, hg2⟩, by rw [hz], by rw [hz]; exact hm, ?_⟩
        rw [hz]
        exact hrow.congr fun i hi => by
          have : i < zs.length := by omega
          simp [this]
    · rcases ho.2 with ⟨rfl, rfl⟩ | ⟨g, c, cur, rfl, _⟩
      · exact ⟨_, _, rfl⟩
      · exact ⟨_, _, rfl⟩

end Go.Proofs.YtlacppjlclfpmaaGreat
