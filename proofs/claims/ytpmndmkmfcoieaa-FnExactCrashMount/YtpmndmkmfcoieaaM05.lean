/- The walks of the marking and holding functions over slices. The walks of the marking and holding functions over puts and disks. The walks of the comparing, marking and holding functions over an answer of a code and a list. The walks of the functions that tell how great an argument is. One form for the contracts of the laws' own functions, type by type: what a value reads as, what it owns, how great it is. -/
import Derived.Test.YtpmndmkmfcoieaaRows
import Derived.Test.YtpmndmkmfcoieaaM00
import Derived.Test.YtpmndmkmfcoieaaM04
import Derived.Test.YtpmndmkmfcoieaaM01
namespace Go.Proofs.Ytpmndmkmfcoieaa
open Go.RowKit
set_option maxRecDepth 100000

set_option maxHeartbeats 400000 in
theorem markInts_nil (w : World) (a : Option Addr) (cap : Nat) (k : Int) :
    Calls Try.prog 47 #[.slice a 0 cap, .int .i64 k] w fun e w' => e = .returned (.int .i64 k) ∧ w' = w := by
  go_enter Try.func47, Try.ntmps47
  go_wp2
  go_loop [1, 5] (fun q i => i = .int .i64 0 ∧ q = .int .i64 k) (fun _ _ => 0)
  case atStart => exact ⟨rfl, rfl⟩
  case round =>
    obtain ⟨rfl, rfl⟩ := hrel
    go_wp2
    go_ret
    exact ⟨rfl, rfl⟩

set_option maxHeartbeats 400000 in
theorem markInts_walk (w : World) (b cap n : Nat) (k : Int) (F : Nat → Prop) (f : Nat → Value) (hF : F b) (hk0 : 0 ≤ k) (hk : k + (n : Int) ≤ 4611686018427387904) (hr : OwnRow w b n f) :
    Calls Try.prog 47 #[.slice (some ⟨b, 0, none⟩) n cap, .int .i64 k] w fun e w' => e = .returned (.int .i64 (k + (n : Int))) ∧ OwnRow w' b n (fun i => .int .i64 (k + (i : Int))) ∧ Chg F w w' := by
  have HR : Hid (OwnRow w b n f) := hr
  have HF : Hid (F b) := hF
  clear hr hF
  go_enter Try.func47, Try.ntmps47
  go_wp2
  go_loopw [1, 5] (fun q i wr => ∃ j : Nat, j ≤ n ∧ i = .int .i64 j ∧ q = .int .i64 (k + (j : Int)) ∧ OwnRow wr b n (fun i => if i < j then .int .i64 (k + (i : Int)) else f i) ∧ Chg F w wr) (fun _ i _ => n - (intOf i).toNat)
  case atStart => exact ⟨0, Nat.zero_le _, rfl, by simp, HR.out.congr fun i _ => by simp, Chg.refl _ _⟩
  case round =>
    obtain ⟨j, hj, rfl, rfl, hrow, hch⟩ := hrel
    by_cases hlt : j < n
    · have c1 := hrow.cell hlt
      have c2 := hrow.frozen j
      have HROW : Hid (OwnRow wr b n (fun i => if i < j then .int .i64 (k + (i : Int)) else f i)) := hrow
      have HCH : Hid (Chg F w wr) := hch
      clear hrow hch
      simp only [Nat.lt_irrefl, if_false] at c1
      go_wp2
      go_roundw
      case rel =>
        refine ⟨j + 1, by omega, by go_num, by go_num, (HROW.out.set j _).congr fun i hi => ?_, HCH.out.set HF.out _ _⟩
        by_cases e : i = j
        · subst e; simp
        · by_cases e2 : i < j
          · simp [e, e2, show i < j + 1 by omega]
          · simp [e, e2, show ¬ i < j + 1 by omega]
      case measure => simp [intOf]; omega
    · go_wp2
      go_ret
      have e : j = n := by omega
      subst e
      exact ⟨rfl, hrow.congr fun i hi => by simp [hi], hch⟩

theorem markInts_any {w : World} {v : Value} {zs : List Int} {F : Nat → Prop} (k : Int) (h : IntsO w v zs F) (hk0 : 0 ≤ k) (hk : k + (zs.length : Int) ≤ 4611686018427387904) :
    Calls Try.prog 47 #[v, .int .i64 k] w fun e w' => e = .returned (.int .i64 (k + (zs.length : Int))) ∧ IntsO w' v (marks k zs.length) F ∧ Chg F w w' := by
  rcases h with ⟨rfl, a, cap, rfl⟩ | ⟨b, cap, hF, rfl, hl, hr⟩
  · exact (markInts_nil w a cap k).mono fun e w' ⟨he, hw⟩ => ⟨by rw [he]; simp, Or.inl ⟨by simp [marks], a, cap, rfl⟩, hw ▸ Chg.refl _ _⟩
  · refine (markInts_walk w b cap zs.length k F _ hF hk0 hk hr).mono fun e w' ⟨he, hrow, hch⟩ => ⟨he, Or.inr ⟨b, cap, hF, by rw [marks_length], by rw [marks_length]; exact hl, ?_⟩, hch⟩
    rw [marks_length]
    exact hrow.congr fun i hi => by rw [marks_get k hi]

set_option maxHeartbeats 400000 in
theorem heldInts_nil (w : World) (a : Option Addr) (cap : Nat) (k : Int) :
    Calls Try.prog 77 #[.slice a 0 cap, .int .i64 k] w fun e w' => e = .returned (.int .i64 k) ∧ w' = w := by
  go_enter Try.func77, Try.ntmps77
  go_wp2
  go_loop [1, 5] (fun q i => i = .int .i64 0 ∧ q = .int .i64 k) (fun _ _ => 0)
  case atStart => exact ⟨rfl, rfl⟩
  case round =>
    obtain ⟨rfl, rfl⟩ := hrel
    go_wp2
    go_ret
    exact ⟨rfl, rfl⟩

set_option maxHeartbeats 400000 in
theorem heldInts_walk (w : World) (b off cap n : Nat) (k : Int) (hk0 : 0 ≤ k) (hk : k + (n : Int) ≤ 4611686018427387904) (hc : ∀ i : Nat, i < n → w.cell? ⟨b, off + i, none⟩ = some (.int .i64 (k + (i : Int)))) :
    Calls Try.prog 77 #[.slice (some ⟨b, off, none⟩) n cap, .int .i64 k] w fun e w' => e = .returned (.int .i64 (k + (n : Int))) ∧ w' = w := by
  go_enter Try.func77, Try.ntmps77
  go_wp2
  go_loop [1, 5] (fun q i => ∃ j : Nat, j ≤ n ∧ i = .int .i64 j ∧ q = .int .i64 (k + (j : Int))) (fun _ i => n - (intOf i).toNat)
  case atStart => exact ⟨0, Nat.zero_le _, rfl, by simp⟩
  case round =>
    obtain ⟨j, hj, rfl, rfl⟩ := hrel
    by_cases hlt : j < n
    · have c1 := hc j hlt
      have hne : ((k + (j : Int)) != (k + (j : Int))) = false := by simp
      clear hc
      go_wp2
      go_round
      case rel => exact ⟨j + 1, by omega, by go_num, by go_num⟩
      case measure => simp [intOf]; omega
    · go_wp2
      go_ret
      have e : j = n := by omega
      subst e
      exact ⟨rfl, rfl⟩

theorem heldInts_any {w : World} {v : Value} (k : Int) (n : Nat) (h : Ints w v (marks k n)) (hk0 : 0 ≤ k) (hk : k + (n : Int) ≤ 4611686018427387904) :
    Calls Try.prog 77 #[v, .int .i64 k] w fun e w' => e = .returned (.int .i64 (k + (n : Int))) ∧ w' = w := by
  rcases h with ⟨h0, a, cap, rfl⟩ | ⟨b, off, cap, hv, hl, hr⟩
  · have : n = 0 := by have := marks_length k n; rw [h0] at this; simpa using this.symm
    subst this
    exact (heldInts_nil w a cap k).mono fun e w' ⟨he, hw⟩ => ⟨by rw [he]; simp, hw⟩
  · rw [marks_length] at hv hr
    subst hv
    exact heldInts_walk w b off cap n k hk0 hk fun i hi => by rw [hr i hi, marks_get k hi]

set_option maxHeartbeats 400000 in
theorem markIntsS_nil (w : World) (a : Option Addr) (cap : Nat) (k : Int) :
    Calls Try.prog 26 #[.slice a 0 cap, .int .i64 k] w fun e w' => e = .returned (.int .i64 k) ∧ w' = w := by
  go_enter Try.func26, Try.ntmps26
  go_wp2
  go_loop [1, 5] (fun q i => i = .int .i64 0 ∧ q = .int .i64 k) (fun _ _ => 0)
  case atStart => exact ⟨rfl, rfl⟩
  case round =>
    obtain ⟨rfl, rfl⟩ := hrel
    go_wp2
    go_ret
    exact ⟨rfl, rfl⟩

/-- What stands in the inner list i while the first j are marked. -/
def half (k : Int) (zss : List (List Int)) (j i : Nat) : List Int := if i < j then marks (k + (upto (zss.map List.length) i : Nat)) (zss[i]?.getD []).length else zss[i]?.getD []

set_option maxHeartbeats 400000 in
theorem markIntsS_walk (w : World) (b cap n : Nat) (k : Int) (F : Nat → Prop) (zss : List (List Int)) (u : Nat → Value) (G : Nat → Nat → Prop) (hG : ∀ i c, G i c → F c ∧ c ≠ b) (hGG : ∀ i j c, i ≠ j → G i c → ¬ G j c)
    (hn : zss.length = n) (hk0 : 0 ≤ k) (hk : k + ((zss.map List.length).sum : Nat) ≤ 4611686018427387904) (hn2 : n ≤ 9223372036854775807) (hr : OwnRow w b n u) (hu : ∀ i, i < n → IntsO w (u i) (zss[i]?.getD []) (G i)) :
    Calls Try.prog 26 #[.slice (some ⟨b, 0, none⟩) n cap, .int .i64 k] w fun e w' => e = .returned (.int .i64 (k + ((zss.map List.length).sum : Nat))) ∧ OwnRow w' b n u ∧ (∀ i, i < n → IntsO w' (u i) (half k zss n i) (G i)) ∧ Chg F w w' := by
  have HR : Hid (OwnRow w b n u) := hr
  have HU : Hid (∀ i, i < n → IntsO w (u i) (zss[i]?.getD []) (G i)) := hu
  have HG : Hid (∀ i c, G i c → F c ∧ c ≠ b) := hG
  have HGG : Hid (∀ i j c, i ≠ j → G i c → ¬ G j c) := hGG
  have HN : Hid (zss.length = n) := hn
  clear hr hu hG hGG hn
  go_enter Try.func26, Try.ntmps26
  go_wp2
  go_loopw [1, 5] (fun q i wr => ∃ j : Nat, j ≤ n ∧ i = .int .i64 j ∧ q = .int .i64 (k + (upto (zss.map List.length) j : Nat)) ∧ OwnRow wr b n u ∧ (∀ i, i < n → IntsO wr (u i) (half k zss j i) (G i)) ∧ Chg F w wr) (fun _ i _ => n - (intOf i).toNat)
  case atStart => exact ⟨0, Nat.zero_le _, rfl, by simp [upto_zero], HR.out, fun i hi => by simpa [half] using HU.out i hi, Chg.refl _ _⟩
  case round =>
    obtain ⟨j, hj, rfl, rfl, hrow, hin, hch⟩ := hrel
    by_cases hlt : j < n
    · have c1 := hrow.cell hlt
      have HROW : Hid (OwnRow wr b n u) := hrow
      have HIN : Hid (∀ i, i < n → IntsO wr (u i) (half k zss j i) (G i)) := hin
      have HCH : Hid (Chg F w wr) := hch
      clear hrow hin hch
      have hs := upto_succ (zss.map List.length) j (by rw [List.length_map, HN.out]; exact hlt)
      rw [lens_get] at hs
      have hle := upto_le (zss.map List.length) (j + 1)
      have HS : Hid (upto (zss.map List.length) (j + 1) = upto (zss.map List.length) j + (zss[j]?.getD []).length) := hs
      clear hs
      generalize hU : upto (zss.map List.length) j = U at *
      have hij : IntsO wr (u j) (zss[j]?.getD []) (G j) := by have := HIN.out j hlt; simpa [half] using this
      have HIJ : Hid (IntsO wr (u j) (zss[j]?.getD []) (G j)) := hij
      clear hij
      go_wp2_with fail
      refine (markInts_any (k + (U : Int)) HIJ.out (by omega) (by have := HS.out; omega)).mono ?_
      rintro e w' ⟨rfl, hm, hc⟩
      have HM : Hid (IntsO w' (u j) (marks (k + (U : Int)) (zss[j]?.getD []).length) (G j)) := hm
      have HC : Hid (Chg (G j) wr w') := hc
      clear hm hc
      go_wp2
      go_roundw
      case rel =>
        refine ⟨j + 1, by omega, by go_num, by rw [HS.out]; go_num, HROW.out.block (HC.out.block b HROW.out.lt (fun h => (HG.out j b h).2 rfl)), fun i hi => ?_, HCH.out.trans (HC.out.mono fun c hc => (HG.out j c hc).1)⟩
        by_cases e : i = j
        · subst e
          have := HM.out
          rw [← hU] at this
          simpa [half] using this
        · have h1 := (HIN.out i hi).keep (w' := w') fun c hc hlt => HC.out.block c hlt (HGG.out i j c e hc)
          have h2 : half k zss (j + 1) i = half k zss j i := by
            unfold half
            by_cases e2 : i < j
            · rw [if_pos e2, if_pos (by omega)]
            · rw [if_neg e2, if_neg (by omega)]
          rw [h2]; exact h1
      case measure => simp [intOf]; omega
    · go_wp2
      go_ret
      have e : j = n := by omega
      subst e
      exact ⟨ret_int (by rw [← HN.out, ← upto_all, List.length_map]), hrow, hin, hch⟩

theorem markIntsS_any {w : World} {v : Value} {zss : List (List Int)} {F : Nat → Prop} (k : Int) (h : IntsSO w v zss F) (hk0 : 0 ≤ k) (hk : k + ((zss.map List.length).sum : Nat) ≤ 4611686018427387904) :
    Calls Try.prog 26 #[v, .int .i64 k] w fun e w' => e = .returned (.int .i64 (k + ((zss.map List.length).sum : Nat))) ∧ IntsSO w' v (marksS k (zss.map List.length)) F ∧ Chg F w w' := by
  rcases h with ⟨rfl, a, cap, rfl⟩ | ⟨b, cap, u, G, hF, hG, hGG, rfl, hl, hr, hu⟩
  · exact (markIntsS_nil w a cap k).mono fun e w' ⟨he, hw⟩ => ⟨by rw [he]; simp, Or.inl ⟨rfl, a, cap, rfl⟩, hw ▸ Chg.refl _ _⟩
  · refine (markIntsS_walk w b cap zss.length k F zss u G hG hGG rfl hk0 hk (by unfold maxLen at hl; omega) hr hu).mono fun e w' ⟨he, hrow, hin, hch⟩ => ⟨he, Or.inr ⟨b, cap, u, G, hF, hG, hGG, ?_, ?_, ?_, ?_⟩, hch⟩
    · rw [marksS_length, List.length_map]
    · rw [marksS_length, List.length_map]; exact hl
    · rw [marksS_length, List.length_map]; exact hrow
    · intro i hi
      rw [marksS_length, List.length_map] at hi
      have := hin i hi
      rw [marksS_get _ _ _ (by rw [List.length_map]; exact hi), lens_get]
      simpa [half, hi] using this

set_option maxHeartbeats 400000 in
theorem heldIntsS_nil (w : World) (a : Option Addr) (cap : Nat) (k : Int) :
    Calls Try.prog 48 #[.slice a 0 cap, .int .i64 k] w fun e w' => e = .returned (.int .i64 k) ∧ w' = w := by
  go_enter Try.func48, Try.ntmps48
  go_wp2
  go_loop [1, 5] (fun q i => i = .int .i64 0 ∧ q = .int .i64 k) (fun _ _ => 0)
  case atStart => exact ⟨rfl, rfl⟩
  case round =>
    obtain ⟨rfl, rfl⟩ := hrel
    go_wp2
    go_ret
    exact ⟨rfl, rfl⟩

set_option maxHeartbeats 400000 in
theorem heldIntsS_walk (w : World) (b off cap n : Nat) (k : Int) (ns : List Nat) (u : Nat → Value) (hns : ns.length = n) (hk0 : 0 ≤ k) (hk : k + (ns.sum : Nat) ≤ 4611686018427387904) (hn2 : n ≤ 9223372036854775807)
    (hc : ∀ i : Nat, i < n → w.cell? ⟨b, off + i, none⟩ = some (u i) ∧ Ints w (u i) (marks (k + (upto ns i : Nat)) (ns[i]?.getD 0))) :
    Calls Try.prog 48 #[.slice (some ⟨b, off, none⟩) n cap, .int .i64 k] w fun e w' => e = .returned (.int .i64 (k + (ns.sum : Nat))) ∧ w' = w := by
  have HN : Hid (ns.length = n) := hns
  clear hns
  go_enter Try.func48, Try.ntmps48
  go_wp2
  go_loop [1, 5] (fun q i => ∃ j : Nat, j ≤ n ∧ i = .int .i64 j ∧ q = .int .i64 (k + (upto ns j : Nat))) (fun _ i => n - (intOf i).toNat)
  case atStart => exact ⟨0, Nat.zero_le _, rfl, by simp [upto_zero]⟩
  case round =>
    obtain ⟨j, hj, rfl, rfl⟩ := hrel
    by_cases hlt : j < n
    · obtain ⟨c1, i1⟩ := hc j hlt
      clear hc
      have hs := upto_succ ns j (by rw [HN.out]; exact hlt)
      have hle := upto_le ns (j + 1)
      have HS : Hid (upto ns (j + 1) = upto ns j + ns[j]?.getD 0) := hs
      clear hs
      generalize upto ns j = U at *
      have HI : Hid (Ints w (u j) (marks (k + (U : Int)) (ns[j]?.getD 0))) := i1
      clear i1
      have hlo : ¬ (k + (U : Int) + ((ns[j]?.getD 0 : Nat) : Int)) < 0 := by omega
      go_wp2_with fail
      refine (heldInts_any (k + (U : Int)) (ns[j]?.getD 0) HI.out (by omega) (by have := HS.out; omega)).mono ?_
      rintro e w' ⟨rfl, rfl⟩
      go_wp2
      go_round
      case rel => exact ⟨j + 1, by omega, by go_num, by rw [HS.out]; go_num⟩
      case measure => simp [intOf]; omega
    · go_wp2
      go_ret
      have e : j = n := by omega
      subst e
      exact ⟨ret_int (by rw [← HN.out, ← upto_all]), rfl⟩

theorem heldIntsS_any {w : World} {v : Value} (k : Int) (ns : List Nat) (h : IntsS w v (marksS k ns)) (hk0 : 0 ≤ k) (hk : k + (ns.sum : Nat) ≤ 4611686018427387904) :
    Calls Try.prog 48 #[v, .int .i64 k] w fun e w' => e = .returned (.int .i64 (k + (ns.sum : Nat))) ∧ w' = w := by
  rcases h with ⟨h0, a, cap, rfl⟩ | ⟨b, off, cap, u, hv, hl, hr⟩
  · have : ns = [] := by have := marksS_length ns k; rw [h0] at this; cases ns <;> simp at this ⊢
    subst this
    exact (heldIntsS_nil w a cap k).mono fun e w' ⟨he, hw⟩ => ⟨by rw [he]; simp, hw⟩
  · rw [marksS_length] at hv hr hl
    subst hv
    exact heldIntsS_walk w b off cap ns.length k ns u rfl hk0 hk (by unfold maxLen at hl; omega) fun i hi => ⟨(hr i hi).1, by have := (hr i hi).2; rwa [marksS_get _ _ _ hi] at this⟩
end Go.Proofs.Ytpmndmkmfcoieaa

namespace Go.Proofs.Ytpmndmkmfcoieaa
open Go.RowKit
set_option maxRecDepth 100000

set_option maxHeartbeats 400000 in
theorem markPuts_nil (w : World) (a : Option Addr) (cap : Nat) (k : Int) :
    Calls Try.prog 27 #[.slice a 0 cap, .int .i64 k] w fun e w' => e = .returned (.int .i64 k) ∧ w' = w := by
  go_enter Try.func27, Try.ntmps27
  go_wp2
  go_loop [1, 5] (fun q i => i = .int .i64 0 ∧ q = .int .i64 k) (fun _ _ => 0)
  case atStart => exact ⟨rfl, rfl⟩
  case round =>
    obtain ⟨rfl, rfl⟩ := hrel
    go_wp2
    go_ret
    exact ⟨rfl, rfl⟩

/-- The number that stands ahead of put i. -/
def pnum (k : Int) (ps : List (Int × List Int)) (i : Nat) : Int := k + i + (upto (wlens ps) i : Nat)
def halfA (k : Int) (ps : List (Int × List Int)) (j i : Nat) : Int := if i < j then pnum k ps i else (ps[i]?.getD (0, [])).1
def halfW (k : Int) (ps : List (Int × List Int)) (j i : Nat) : List Int := if i < j then marks (pnum k ps i + 1) (ps[i]?.getD (0, [])).2.length else (ps[i]?.getD (0, [])).2
def halfCell (k : Int) (ps : List (Int × List Int)) (u : Nat → Value) (j c : Nat) : Value := if c % 2 = 0 then .int .i64 (halfA k ps j (c / 2)) else u (c / 2)
theorem halfCell_at (k : Int) (ps : List (Int × List Int)) (u : Nat → Value) (j i : Nat) : halfCell k ps u j (i * 2) = .int .i64 (halfA k ps j i) := by
  unfold halfCell; rw [if_pos (by omega), show i * 2 / 2 = i by omega]
theorem halfCell_words (k : Int) (ps : List (Int × List Int)) (u : Nat → Value) (j i : Nat) : halfCell k ps u j (i * 2 + 1) = u i := by
  unfold halfCell; rw [if_neg (by omega), show (i * 2 + 1) / 2 = i by omega]
theorem halfCell_next (k : Int) (ps : List (Int × List Int)) (u : Nat → Value) (j c : Nat) : (if c = j * 2 then .int .i64 (pnum k ps j) else halfCell k ps u j c) = halfCell k ps u (j + 1) c := by
  by_cases e : c = j * 2
  · subst e; rw [if_pos rfl, halfCell_at]; simp [halfA]
  · rw [if_neg e]
    unfold halfCell halfA
    by_cases e2 : c % 2 = 0
    · rw [if_pos e2, if_pos e2]
      have hne : c / 2 ≠ j := by omega
      by_cases e3 : c / 2 < j
      · rw [if_pos e3, if_pos (by omega)]
      · rw [if_neg e3, if_neg (by omega)]
    · rw [if_neg e2, if_neg e2]

set_option maxHeartbeats 800000 in
theorem markPuts_walk (w : World) (b cap n : Nat) (k : Int) (F : Nat → Prop) (ps : List (Int × List Int)) (u : Nat → Value) (G : Nat → Nat → Prop) (hF : F b) (hG : ∀ i c, G i c → F c ∧ c ≠ b) (hGG : ∀ i j c, i ≠ j → G i c → ¬ G j c)
    (hn : ps.length = n) (hk0 : 0 ≤ k) (hk : k + (n : Int) + ((wlens ps).sum : Nat) ≤ 4611686018427387904) (hn2 : n ≤ 9223372036854775807) (hr : OwnRow w b (n * 2) (putCell ps u)) (hu : ∀ i, i < n → IntsO w (u i) (ps[i]?.getD (0, [])).2 (G i)) :
    Calls Try.prog 27 #[.slice (some ⟨b, 0, none⟩) n cap, .int .i64 k] w fun e w' => e = .returned (.int .i64 (k + (n : Int) + ((wlens ps).sum : Nat))) ∧ OwnRow w' b (n * 2) (halfCell k ps u n) ∧ (∀ i, i < n → IntsO w' (u i) (halfW k ps n i) (G i)) ∧ Chg F w w' := by
  have HR : Hid (OwnRow w b (n * 2) (putCell ps u)) := hr
  have HU : Hid (∀ i, i < n → IntsO w (u i) (ps[i]?.getD (0, [])).2 (G i)) := hu
  have HF : Hid (F b) := hF
  have HG : Hid (∀ i c, G i c → F c ∧ c ≠ b) := hG
  have HGG : Hid (∀ i j c, i ≠ j → G i c → ¬ G j c) := hGG
  have HN : Hid (ps.length = n) := hn
  clear hr hu hG hGG hn hF
  go_enter Try.func27, Try.ntmps27
  go_wp2
  go_loopw [1, 5] (fun q i wr => ∃ j : Nat, j ≤ n ∧ i = .int .i64 j ∧ q = .int .i64 (pnum k ps j) ∧ OwnRow wr b (n * 2) (halfCell k ps u j) ∧ (∀ i, i < n → IntsO wr (u i) (halfW k ps j i) (G i)) ∧ Chg F w wr) (fun _ i _ => n - (intOf i).toNat)
  case atStart => exact ⟨0, Nat.zero_le _, rfl, by simp [pnum, upto_zero], HR.out.congr fun i _ => by simp [putCell, halfCell, halfA], fun i hi => by simpa [halfW] using HU.out i hi, Chg.refl _ _⟩
  case round =>
    obtain ⟨j, hj, rfl, rfl, hrow, hin, hch⟩ := hrel
    by_cases hlt : j < n
    · have c1 := hrow.cell (i := j * 2) (by omega)
      have c2 := hrow.cell (i := j * 2 + 1) (by omega)
      have c3 := hrow.frozen (j * 2)
      rw [halfCell_at] at c1
      rw [halfCell_words] at c2
      have c1' : ∃ q, wr.cell? ⟨b, j * 2, none⟩ = some (.int .i64 q) := ⟨_, c1⟩
      clear c1
      obtain ⟨old, c1⟩ := c1'
      have HROW : Hid (OwnRow wr b (n * 2) (halfCell k ps u j)) := hrow
      have HIN : Hid (∀ i, i < n → IntsO wr (u i) (halfW k ps j i) (G i)) := hin
      have HCH : Hid (Chg F w wr) := hch
      clear hrow hin hch
      have hs := upto_succ (wlens ps) j (by rw [wlens_length, HN.out]; exact hlt)
      rw [wlens_get] at hs
      have hle := upto_le (wlens ps) (j + 1)
      have hp0 : 0 ≤ pnum k ps j := by unfold pnum; omega
      have hp1 : pnum k ps j + 1 + ((ps[j]?.getD (0, [])).2.length : Int) ≤ 4611686018427387904 := by unfold pnum; omega
      have HS : Hid (pnum k ps (j + 1) = pnum k ps j + 1 + ((ps[j]?.getD (0, [])).2.length : Int)) := by unfold Hid pnum; omega
      clear hs hle
      have HIJ : Hid (IntsO wr (u j) (ps[j]?.getD (0, [])).2 (G j)) := by have := HIN.out j hlt; unfold Hid; simpa [halfW] using this
      go_wp2_with fail
      refine (markInts_any (pnum k ps j + 1) (HIJ.out.keep (w' := wr.setCell ⟨b, j * 2, none⟩ (.int .i64 (pnum k ps j))) fun c hc _ => Below.heap_setCell _ _ _ _ (HG.out j c hc).2) (by omega) (by omega)).mono ?_
      rintro e w' ⟨rfl, hm, hc⟩
      have HM : Hid (IntsO w' (u j) (marks (pnum k ps j + 1) (ps[j]?.getD (0, [])).2.length) (G j)) := hm
      have HC : Hid (Chg (G j) (wr.setCell ⟨b, j * 2, none⟩ (.int .i64 (pnum k ps j))) w') := hc
      clear hm hc
      go_wp2
      go_roundw
      case rel =>
        refine ⟨j + 1, by omega, by go_num, by rw [HS.out], ?_, fun i hi => ?_, (HCH.out.set HF.out _ _).trans (HC.out.mono fun c hc => (HG.out j c hc).1)⟩
        · have h1 := (HROW.out.set (j * 2) (.int .i64 (pnum k ps j))).congr (g := halfCell k ps u (j + 1)) fun c _ => halfCell_next k ps u j c
          exact h1.block (HC.out.block b h1.lt (fun h => (HG.out j b h).2 rfl))
        · by_cases e : i = j
          · subst e
            have := HM.out
            simpa [halfW] using this
          · have h1 := (HIN.out i hi).keep (w' := w') fun c hc hlt => (HC.out.block c (by simpa [World.setCell] using hlt) (HGG.out i j c e hc)).trans (Below.heap_setCell _ _ _ _ (HG.out i c hc).2)
            have h2 : halfW k ps (j + 1) i = halfW k ps j i := by
              unfold halfW
              by_cases e2 : i < j
              · rw [if_pos e2, if_pos (by omega)]
              · rw [if_neg e2, if_neg (by omega)]
            rw [h2]; exact h1
      case measure => simp [intOf]; omega
    · go_wp2
      go_ret
      have e : j = n := by omega
      subst e
      exact ⟨ret_int (by have := upto_all (wlens ps); rw [wlens_length, HN.out] at this; unfold pnum; rw [this]), hrow, hin, hch⟩

theorem markPuts_any {w : World} {v : Value} {ps : List (Int × List Int)} {F : Nat → Prop} (k : Int) (h : PutsO w v ps F) (hk0 : 0 ≤ k) (hk : k + (ps.length : Int) + ((wlens ps).sum : Nat) ≤ 4611686018427387904) :
    Calls Try.prog 27 #[v, .int .i64 k] w fun e w' => e = .returned (.int .i64 (k + (ps.length : Int) + ((wlens ps).sum : Nat))) ∧ PutsO w' v (marksP k (wlens ps)) F ∧ Chg F w w' := by
  rcases h with ⟨rfl, a, cap, rfl⟩ | ⟨b, cap, u, G, hF, hG, hGG, rfl, hl, hr, hu⟩
  · exact (markPuts_nil w a cap k).mono fun e w' ⟨he, hw⟩ => ⟨by rw [he]; simp [wlens], Or.inl ⟨rfl, a, cap, rfl⟩, hw ▸ Chg.refl _ _⟩
  · refine (markPuts_walk w b cap ps.length k F ps u G hF hG hGG rfl hk0 hk (by unfold maxLen at hl; omega) hr hu).mono fun e w' ⟨he, hrow, hin, hch⟩ => ⟨he, Or.inr ⟨b, cap, u, G, hF, hG, hGG, ?_, ?_, ?_, ?_⟩, hch⟩
    · rw [marksP_length, wlens_length]
    · rw [marksP_length, wlens_length]; exact hl
    · rw [marksP_length, wlens_length]
      refine hrow.congr fun c hc => ?_
      unfold halfCell putCell halfA
      by_cases e2 : c % 2 = 0
      · rw [if_pos e2, if_pos e2, if_pos (by omega), marksP_get _ _ _ (by rw [wlens_length]; omega)]; rfl
      · rw [if_neg e2, if_neg e2]
    · intro i hi
      rw [marksP_length, wlens_length] at hi
      have := hin i hi
      rw [marksP_get _ _ _ (by rw [wlens_length]; exact hi), wlens_get]
      simpa [halfW, hi, pnum] using this

set_option maxHeartbeats 400000 in
theorem heldPuts_nil (w : World) (a : Option Addr) (cap : Nat) (k : Int) :
    Calls Try.prog 49 #[.slice a 0 cap, .int .i64 k] w fun e w' => e = .returned (.int .i64 k) ∧ w' = w := by
  go_enter Try.func49, Try.ntmps49
  go_wp2
  go_loop [1, 5] (fun q i => i = .int .i64 0 ∧ q = .int .i64 k) (fun _ _ => 0)
  case atStart => exact ⟨rfl, rfl⟩
  case round =>
    obtain ⟨rfl, rfl⟩ := hrel
    go_wp2
    go_ret
    exact ⟨rfl, rfl⟩

set_option maxHeartbeats 800000 in
theorem heldPuts_walk (w : World) (b off cap n : Nat) (k : Int) (ns : List Nat) (u : Nat → Value) (hns : ns.length = n) (hk0 : 0 ≤ k) (hk : k + (n : Int) + (ns.sum : Nat) ≤ 4611686018427387904) (hn2 : n ≤ 9223372036854775807)
    (hc : ∀ i : Nat, i < n → w.cell? ⟨b, off + i * 2, none⟩ = some (.int .i64 (k + i + (upto ns i : Nat))) ∧ w.cell? ⟨b, off + i * 2 + 1, none⟩ = some (u i) ∧ Ints w (u i) (marks (k + i + (upto ns i : Nat) + 1) (ns[i]?.getD 0))) :
    Calls Try.prog 49 #[.slice (some ⟨b, off, none⟩) n cap, .int .i64 k] w fun e w' => e = .returned (.int .i64 (k + (n : Int) + (ns.sum : Nat))) ∧ w' = w := by
  have HN : Hid (ns.length = n) := hns
  clear hns
  go_enter Try.func49, Try.ntmps49
  go_wp2
  go_loop [1, 5] (fun q i => ∃ j : Nat, j ≤ n ∧ i = .int .i64 j ∧ q = .int .i64 (k + j + (upto ns j : Nat))) (fun _ i => n - (intOf i).toNat)
  case atStart => exact ⟨0, Nat.zero_le _, rfl, by simp [upto_zero]⟩
  case round =>
    obtain ⟨j, hj, rfl, rfl⟩ := hrel
    by_cases hlt : j < n
    · obtain ⟨c1, c2, i1⟩ := hc j hlt
      clear hc
      have hs := upto_succ ns j (by rw [HN.out]; exact hlt)
      have hle := upto_le ns (j + 1)
      have hp0 : 0 ≤ k + j + (upto ns j : Nat) := by omega
      have hp1 : k + j + (upto ns j : Nat) + 1 + (ns[j]?.getD 0 : Nat) ≤ 4611686018427387904 := by omega
      have HS : Hid (k + ((j + 1 : Nat) : Int) + (upto ns (j + 1) : Nat) = k + j + (upto ns j : Nat) + 1 + (ns[j]?.getD 0 : Nat)) := by unfold Hid; omega
      clear hs hle
      generalize k + j + ((upto ns j : Nat) : Int) = U at *
      have HI : Hid (Ints w (u j) (marks (U + 1) (ns[j]?.getD 0))) := i1
      clear i1
      have hne : (U != U) = false := by simp
      have hlo : ¬ (U + 1 + ((ns[j]?.getD 0 : Nat) : Int)) < 0 := by omega
      go_wp2_with fail
      refine (heldInts_any (U + 1) (ns[j]?.getD 0) HI.out (by omega) (by omega)).mono ?_
      rintro e w' ⟨rfl, rfl⟩
      go_wp2
      go_round
      case rel => exact ⟨j + 1, by omega, by go_num, by rw [HS.out]⟩
      case measure => simp [intOf]; omega
    · go_wp2
      go_ret
      have e : j = n := by omega
      subst e
      exact ⟨ret_int (by have := upto_all ns; rw [HN.out] at this; rw [this]), rfl⟩

theorem heldPuts_any {w : World} {v : Value} (k : Int) (ns : List Nat) (h : Puts w v (marksP k ns)) (hk0 : 0 ≤ k) (hk : k + (ns.length : Int) + (ns.sum : Nat) ≤ 4611686018427387904) :
    Calls Try.prog 49 #[v, .int .i64 k] w fun e w' => e = .returned (.int .i64 (k + (ns.length : Int) + (ns.sum : Nat))) ∧ w' = w := by
  rcases h with ⟨h0, a, cap, rfl⟩ | ⟨b, off, cap, u, hv, hl, hr⟩
  · have : ns = [] := by have := marksP_length ns k; rw [h0] at this; cases ns <;> simp at this ⊢
    subst this
    exact (heldPuts_nil w a cap k).mono fun e w' ⟨he, hw⟩ => ⟨by rw [he]; simp, hw⟩
  · rw [marksP_length] at hv hr hl
    subst hv
    refine heldPuts_walk w b off cap ns.length k ns u rfl hk0 hk (by unfold maxLen at hl; omega) fun i hi => ?_
    have := hr i hi
    rw [marksP_get _ _ _ hi] at this
    exact this


theorem markDisk_any (w : World) (va vc : Value) (bs : List (List Int)) (ps : List (Int × List Int)) (F G : Nat → Prop) (k : Int) (h1 : IntsSO w va bs F) (h2 : PutsO w vc ps G) (hd : ∀ b, F b → ¬ G b) (hk0 : 0 ≤ k) (hk : k + (dspan bs ps : Nat) ≤ 4611686018427387904) :
    Calls Try.prog 12 #[.agg #[va, vc], .int .i64 k] w fun e w' => e = .returned (.int .i64 (k + (dspan bs ps : Nat))) ∧ IntsSO w' va (marksS k (bs.map List.length)) F ∧ PutsO w' vc (marksP (k + ((bs.map List.length).sum : Nat)) (wlens ps)) G ∧ Chg (fun b => F b ∨ G b) w w' := by
  have H1 : Hid (IntsSO w va bs F) := h1
  have H2 : Hid (PutsO w vc ps G) := h2
  have HD : Hid (∀ b, F b → ¬ G b) := hd
  clear h1 h2 hd
  unfold dspan at hk ⊢
  have hk1 : k + ((bs.map List.length).sum : Nat) + (ps.length : Int) + ((wlens ps).sum : Nat) ≤ 4611686018427387904 := by omega
  have HE : Hid (k + (((bs.map List.length).sum + ps.length + (wlens ps).sum : Nat) : Int) = k + ((bs.map List.length).sum : Nat) + (ps.length : Int) + ((wlens ps).sum : Nat)) := by unfold Hid; omega
  rw [HE.out]
  go_enter Try.func12, Try.ntmps12
  go_wp2_with fail
  refine (markIntsS_any k (H1.out.bound.keep fun b hb hlt => (later1 _ _).block b hlt) hk0 (by omega)).mono ?_
  rintro e w1 ⟨rfl, hm, hc⟩
  have c1 : w1.cell? ⟨w.heap.size, 1, none⟩ = some vc := by
    rw [World.cell?_of_block (w := w.alloc (.cells #[va, vc] 30)) (box_later hc fun b hb => hb.2), new_cell]; rfl
  have HM : Hid (IntsSO w1 va (marksS k (bs.map List.length)) (fun b => F b ∧ b < w.heap.size)) := hm
  have HC : Hid (Chg (fun b => F b ∧ b < w.heap.size) (w.alloc (.cells #[va, vc] 30)) w1) := hc
  have H2' : Hid (PutsO w1 vc ps (fun b => G b ∧ b < w.heap.size)) := H2.out.bound.keep fun b hb hlt => (HC.out.block b (by simp; omega) (fun h => HD.out b h.1 hb.1)).trans ((later1 _ _).block b hlt)
  clear hm hc
  go_wp2_with fail
  refine (markPuts_any _ H2'.out (by omega) hk1).mono ?_
  rintro e w2 ⟨rfl, hm2, hc2⟩
  have HM2 : Hid (PutsO w2 vc (marksP (k + ((bs.map List.length).sum : Nat)) (wlens ps)) (fun b => G b ∧ b < w.heap.size)) := hm2
  have HC2 : Hid (Chg (fun b => G b ∧ b < w.heap.size) w1 w2) := hc2
  clear hm2 hc2
  go_wp2
  go_ret
  refine ⟨rfl, (HM.out.keep fun b hb hlt => HC2.out.block b hlt (fun h => HD.out b hb.1 h.1)).mono fun b hb => hb.1, HM2.out.mono fun b hb => hb.1, ?_⟩
  exact (Chg.of_below (later1 _ _)).trans ((HC.out.mono fun b hb => Or.inl hb.1).trans (HC2.out.mono fun b hb => Or.inr hb.1))

theorem heldDisk_any (w : World) (va vc : Value) (ns ms : List Nat) (k : Int) (h1 : IntsS w va (marksS k ns)) (h2 : Puts w vc (marksP (k + (ns.sum : Nat)) ms)) (hk0 : 0 ≤ k) (hk : k + (ns.sum : Nat) + (ms.length : Int) + (ms.sum : Nat) ≤ 4611686018427387904) :
    Calls Try.prog 28 #[.agg #[va, vc], .int .i64 k] w fun e w' => e = .returned (.int .i64 (k + (ns.sum : Nat) + (ms.length : Int) + (ms.sum : Nat))) ∧ Below w.heap.size w w' := by
  have H1 : Hid (IntsS w va (marksS k ns)) := h1
  have H2 : Hid (Puts w vc (marksP (k + (ns.sum : Nat)) ms)) := h2
  clear h1 h2
  have l1 : ¬ (k + (ns.sum : Nat) < 0) := by omega
  have l2 : ¬ (k + (ns.sum : Nat) + (ms.length : Int) + (ms.sum : Nat) < 0) := by omega
  go_enter Try.func28, Try.ntmps28
  go_wp2_with fail
  refine (heldIntsS_any k ns (H1.out.later (later1 _ _)) hk0 (by omega)).mono ?_
  rintro e w1 ⟨rfl, rfl⟩
  go_wp2_with fail
  refine (heldPuts_any _ ms (H2.out.later (later1 _ _)) (by omega) hk).mono ?_
  rintro e w1 ⟨rfl, rfl⟩
  go_wp2
  go_ret
  exact ⟨rfl, later1 _ _⟩

theorem markDiskResult_any (w : World) (c : Int) (va vc : Value) (bs : List (List Int)) (ps : List (Int × List Int)) (F G : Nat → Prop) (k : Int) (h1 : IntsSO w va bs F) (h2 : PutsO w vc ps G) (hd : ∀ b, F b → ¬ G b) (hk0 : 0 ≤ k) (hk : k + (dspan bs ps : Nat) ≤ 4611686018427387904) :
    Calls Try.prog 14 #[.agg #[.int .i64 c, va, vc], .int .i64 k] w fun e w' => e = .returned (.int .i64 (k + (dspan bs ps : Nat))) ∧ IntsSO w' va (marksS k (bs.map List.length)) F ∧ PutsO w' vc (marksP (k + ((bs.map List.length).sum : Nat)) (wlens ps)) G ∧ Chg (fun b => F b ∨ G b) w w' := by
  have H1 : Hid (IntsSO w va bs F) := h1
  have H2 : Hid (PutsO w vc ps G) := h2
  have HD : Hid (∀ b, F b → ¬ G b) := hd
  clear h1 h2 hd
  go_enter Try.func14, Try.ntmps14
  go_wp2_with fail
  refine (markDisk_any _ _ _ bs ps F G k (H1.out.keep fun b hb hlt => (later1 _ _).block b hlt) (H2.out.keep fun b hb hlt => (later1 _ _).block b hlt) HD.out hk0 hk).mono ?_
  rintro e w1 ⟨rfl, hm, hm2, hc⟩
  have HM : Hid (IntsSO w1 va (marksS k (bs.map List.length)) F) := hm
  have HM2 : Hid (PutsO w1 vc (marksP (k + ((bs.map List.length).sum : Nat)) (wlens ps)) G) := hm2
  have HC : Hid (Chg (fun b => F b ∨ G b) (w.alloc (.cells #[.int .i64 c, va, vc] 32)) w1) := hc
  clear hm hm2 hc
  go_wp2
  go_ret
  exact ⟨rfl, HM.out, HM2.out, (Chg.of_below (later1 _ _)).trans HC.out⟩

theorem heldDiskResult_any (w : World) (c : Int) (va vc : Value) (ns ms : List Nat) (k : Int) (h1 : IntsS w va (marksS k ns)) (h2 : Puts w vc (marksP (k + (ns.sum : Nat)) ms)) (hk0 : 0 ≤ k) (hk : k + (ns.sum : Nat) + (ms.length : Int) + (ms.sum : Nat) ≤ 4611686018427387904) :
    Calls Try.prog 15 #[.agg #[.int .i64 c, va, vc], .int .i64 k] w fun e w' => e = .returned (.int .i64 (k + (ns.sum : Nat) + (ms.length : Int) + (ms.sum : Nat))) ∧ Below w.heap.size w w' := by
  have H1 : Hid (IntsS w va (marksS k ns)) := h1
  have H2 : Hid (Puts w vc (marksP (k + (ns.sum : Nat)) ms)) := h2
  clear h1 h2
  have l2 : ¬ (k + (ns.sum : Nat) + (ms.length : Int) + (ms.sum : Nat) < 0) := by omega
  go_enter Try.func15, Try.ntmps15
  go_wp2_with fail
  refine (heldDisk_any _ _ _ ns ms k (H1.out.later (later1 _ _)) (H2.out.later (later1 _ _)) hk0 hk).mono ?_
  rintro e w1 ⟨rfl, hb⟩
  go_wp2
  go_ret
  exact ⟨rfl, (later1 _ _).trans (hb.mono (by simp))⟩


/-- Marked, a disk holds. -/
structure Marked (w : World) (vB vC : Value) (bs : List (List Int)) (ps : List (Int × List Int)) (k : Int) (F : Nat → Prop) : Prop where
  disk : DiskO w vB vC (marksS k (bs.map List.length)) (marksP (k + ((bs.map List.length).sum : Nat)) (wlens ps)) F
theorem Marked.later {w w' : World} {vB vC : Value} {bs : List (List Int)} {ps : List (Int × List Int)} {k : Int} {F : Nat → Prop} (h : Marked w vB vC bs ps k F) (hb : Below w.heap.size w w') : Marked w' vB vC bs ps k F := ⟨h.disk.later hb⟩

theorem markRes (w : World) (c : Int) (vB vC : Value) (bs : List (List Int)) (ps : List (Int × List Int)) (F : Nat → Prop) (k : Int) (h : DiskO w vB vC bs ps F) (hk0 : 0 ≤ k) (hk : k + (dspan bs ps : Nat) ≤ 4611686018427387904) :
    Calls Try.prog 14 #[.agg #[.int .i64 c, vB, vC], .int .i64 k] w fun e w' => e = .returned (.int .i64 (k + (dspan bs ps : Nat))) ∧ Marked w' vB vC bs ps k F ∧ Chg F w w' := by
  obtain ⟨F1, G1, h1, h2, hd, hf⟩ := h
  exact (markDiskResult_any w c vB vC bs ps F1 G1 k h1 h2 hd hk0 hk).mono fun e w' ⟨he, a, b, hc⟩ => ⟨he, ⟨F1, G1, a, b, hd, hf⟩, hc.mono hf⟩
theorem heldRes (w : World) (c : Int) (vB vC : Value) (bs : List (List Int)) (ps : List (Int × List Int)) (F : Nat → Prop) (k : Int) (h : Marked w vB vC bs ps k F) (hk0 : 0 ≤ k) (hk : k + (dspan bs ps : Nat) ≤ 4611686018427387904) :
    Calls Try.prog 15 #[.agg #[.int .i64 c, vB, vC], .int .i64 k] w fun e w' => e = .returned (.int .i64 (k + (dspan bs ps : Nat))) ∧ Below w.heap.size w w' := by
  unfold dspan at hk ⊢
  refine (heldDiskResult_any w c vB vC _ (wlens ps) k h.disk.ints h.disk.puts hk0 (by rw [wlens_length]; omega)).mono fun e w' ⟨he, hb⟩ => ⟨he.trans (ret_int ?_), hb⟩
  rw [wlens_length]; omega

end Go.Proofs.Ytpmndmkmfcoieaa

namespace Go.Proofs.Ytpmndmkmfcoieaa
open Go.RowKit
set_option maxRecDepth 100000

theorem markDsk (w : World) (vB vC : Value) (bs : List (List Int)) (ps : List (Int × List Int)) (F : Nat → Prop) (k : Int) (h : DiskO w vB vC bs ps F) (hk0 : 0 ≤ k) (hk : k + (dspan bs ps : Nat) ≤ 4611686018427387904) :
    Calls Try.prog 12 #[.agg #[vB, vC], .int .i64 k] w fun e w' => e = .returned (.int .i64 (k + (dspan bs ps : Nat))) ∧ Chg F w w' := by
  obtain ⟨F1, G1, h1, h2, hd, hf⟩ := h
  exact (markDisk_any w vB vC bs ps F1 G1 k h1 h2 hd hk0 hk).mono fun e w' ⟨he, _, _, hc⟩ => ⟨he, hc.mono hf⟩

theorem Box2.chg {w w' : World} {b : Nat} {x y : Value} {F : Nat → Prop} (h : Box2 w b x y) (hc : Chg F w w') (hf : ¬ F b) : Box2 w' b x y := ⟨(hc.cell h.lt hf).trans h.1, (hc.cell h.lt hf).trans h.2⟩
theorem IntsO.later {w w' : World} {v : Value} {zs : List Int} {F : Nat → Prop} (h : IntsO w v zs F) (hb : Below w.heap.size w w') : IntsO w' v zs F := h.keep fun b _ hlt => hb.block b hlt
theorem IntsO.chg {w w' : World} {v : Value} {zs : List Int} {F G : Nat → Prop} (h : IntsO w v zs F) (hc : Chg G w w') (hd : ∀ b, F b → ¬ G b) : IntsO w' v zs F := h.keep fun b hb hlt => hc.block b hlt (hd b hb)
end Go.Proofs.Ytpmndmkmfcoieaa

namespace Go.Proofs.Ytpmndmkmfcoieaa
open Go.RowKit
set_option maxRecDepth 100000

/-- What is left of 'left' behind n values: -1 if there are too many. -/
def szf (left : Int) (n : Nat) : Int := if left < (n : Int) then -1 else left - (n : Int)
theorem szf_no {left : Int} {n : Nat} (h : left < (n : Int)) : szf left n = -1 := by simp [szf, h]
theorem szf_yes {left : Int} {n : Nat} (h : ¬ left < (n : Int)) : szf left n = left - (n : Int) := by simp [szf, h]

theorem szInts_walk (w : World) (a : Option Addr) (n cap : Nat) (left : Int) (h0 : 0 ≤ left) (h1 : left ≤ 1048576) (hn : n ≤ maxLen) :
    Calls Try.prog 29 #[.slice a n cap, .int .i64 left] w fun e w' => e = .returned (.int .i64 (szf left n)) ∧ w' = w := by
  unfold maxLen at hn
  by_cases h : left < (n : Int)
  · rw [szf_no h]
    have h' : left - (n : Int) < 0 := by omega
    go_enter Try.func29, Try.ntmps29
    go_wp2
    go_ret
    exact ⟨rfl, rfl⟩
  · rw [szf_yes h]
    have h' : ¬ left - (n : Int) < 0 := by omega
    go_enter Try.func29, Try.ntmps29
    go_wp2
    go_ret
    exact ⟨rfl, rfl⟩

theorem szInts_any {w : World} {v : Value} {zs : List Int} (h : Ints w v zs) (left : Int) (h0 : 0 ≤ left) (h1 : left ≤ 1048576) :
    Calls Try.prog 29 #[v, .int .i64 left] w fun e w' => e = .returned (.int .i64 (szf left zs.length)) ∧ w' = w := by
  obtain ⟨a, cap, rfl, hn⟩ := h.shape
  exact szInts_walk w a _ cap left h0 h1 hn

set_option maxHeartbeats 400000 in
theorem szIntsS_many (w : World) (a : Option Addr) (n cap : Nat) (left : Int) (h0 : 0 ≤ left) (h1 : left ≤ 1048576) (hn : n ≤ maxLen) (h : left < (n : Int)) :
    Calls Try.prog 16 #[.slice a n cap, .int .i64 left] w fun e w' => e = .returned (.int .i64 (-1)) ∧ w' = w := by
  unfold maxLen at hn
  have h' : left - (n : Int) < 0 := by omega
  go_enter Try.func16, Try.ntmps16
  go_wp2
  go_ret
  exact ⟨rfl, rfl⟩

set_option maxHeartbeats 400000 in
theorem szIntsS_nil (w : World) (a : Option Addr) (cap : Nat) (left : Int) (h0 : 0 ≤ left) (h1 : left ≤ 1048576) :
    Calls Try.prog 16 #[.slice a 0 cap, .int .i64 left] w fun e w' => e = .returned (.int .i64 left) ∧ w' = w := by
  have h' : ¬ left < 0 := by omega
  go_enter Try.func16, Try.ntmps16
  go_wp2
  go_loop [1, 5] (fun q i => i = .int .i64 0 ∧ q = .int .i64 left) (fun _ _ => 0)
  case atStart => exact ⟨rfl, rfl⟩
  case round =>
    obtain ⟨rfl, rfl⟩ := hrel
    go_wp2
    go_ret
    exact ⟨rfl, rfl⟩

set_option maxHeartbeats 400000 in
theorem szIntsS_walk (w : World) (b off cap n : Nat) (left : Int) (zss : List (List Int)) (u : Nat → Value) (hzn : zss.length = n) (h0 : 0 ≤ left) (h1 : left ≤ 1048576) (h2 : ¬ left < (n : Int))
    (hc : ∀ k, k < n → w.cell? ⟨b, off + k, none⟩ = some (u k) ∧ Ints w (u k) (zss[k]?.getD [])) :
    Calls Try.prog 16 #[.slice (some ⟨b, off, none⟩) n cap, .int .i64 left] w fun e w' => e = .returned (.int .i64 (szf left (n + (zss.map List.length).sum))) ∧ w' = w := by
  have HN : Hid (zss.length = n) := hzn
  have h2' : ¬ left - (n : Int) < 0 := by omega
  clear hzn
  go_enter Try.func16, Try.ntmps16
  go_wp2
  go_loop [1, 5] (fun q i => ∃ j : Nat, j ≤ n ∧ i = .int .i64 j ∧ q = .int .i64 (left - (n : Int) - (upto (zss.map List.length) j : Nat)) ∧ 0 ≤ left - (n : Int) - (upto (zss.map List.length) j : Nat)) (fun _ i => n - (intOf i).toNat)
  case atStart => exact ⟨0, Nat.zero_le _, rfl, by simp [upto_zero], by simp [upto_zero]; omega⟩
  case round =>
    obtain ⟨j, hj, rfl, rfl, hq⟩ := hrel
    by_cases hlt : j < n
    · obtain ⟨c1, i1⟩ := hc j hlt
      clear hc
      have hs := upto_succ (zss.map List.length) j (by rw [List.length_map, HN.out]; exact hlt)
      rw [lens_get] at hs
      have hle := upto_le (zss.map List.length) (j + 1)
      have HS : Hid (upto (zss.map List.length) (j + 1) = upto (zss.map List.length) j + (zss[j]?.getD []).length) := hs
      clear hs
      generalize upto (zss.map List.length) j = U at *
      have HI : Hid (Ints w (u j) (zss[j]?.getD [])) := i1
      clear i1
      by_cases hm : left - (n : Int) - (U : Int) < ((zss[j]?.getD []).length : Int)
      · have HM : Hid (szf left (n + (zss.map List.length).sum) = -1) := szf_no (by have := HS.out; omega)
        have HR := szf_no hm
        have HR' : Hid (szf (left - (n : Int) - (U : Int)) (zss[j]?.getD []).length = -1) := HR
        clear HR
        go_wp2_with fail
        refine (szInts_any HI.out _ hq (by omega)).mono ?_
        rw [HR'.out]
        rintro e w' ⟨rfl, rfl⟩
        go_wp2
        go_ret
        exact ⟨ret_int HM.out.symm, rfl⟩
      · have HR := szf_yes hm
        have HR' : Hid (szf (left - (n : Int) - (U : Int)) (zss[j]?.getD []).length = left - (n : Int) - (U : Int) - ((zss[j]?.getD []).length : Int)) := HR
        clear HR
        have hpos : ¬ (left - (n : Int) - (U : Int) - ((zss[j]?.getD []).length : Int) < 0) := by omega
        go_wp2_with fail
        refine (szInts_any HI.out _ hq (by omega)).mono ?_
        rw [HR'.out]
        rintro e w' ⟨rfl, rfl⟩
        go_wp2
        go_round
        case rel => exact ⟨j + 1, by omega, by go_num, by rw [HS.out]; go_num, by rw [HS.out]; omega⟩
        case measure => simp [intOf]; omega
    · go_wp2
      go_ret
      have e : j = n := by omega
      subst e
      have ha := upto_all (zss.map List.length)
      rw [List.length_map, HN.out] at ha
      refine ⟨ret_int ?_, rfl⟩
      rw [ha] at hq ⊢
      rw [szf_yes (by omega)]
      omega

theorem szIntsS_any {w : World} {v : Value} {zss : List (List Int)} (h : IntsS w v zss) (left : Int) (h0 : 0 ≤ left) (h1 : left ≤ 1048576) :
    Calls Try.prog 16 #[v, .int .i64 left] w fun e w' => e = .returned (.int .i64 (szf left (zss.length + (zss.map List.length).sum))) ∧ w' = w := by
  rcases h with ⟨rfl, a, cap, rfl⟩ | ⟨b, off, cap, u, rfl, hl, hc⟩
  · refine (szIntsS_nil w a cap left h0 h1).mono fun e w' ⟨he, hw⟩ => ⟨he.trans (ret_int ?_), hw⟩
    simp [szf]; omega
  · by_cases h : left < (zss.length : Int)
    · refine (szIntsS_many w _ zss.length cap left h0 h1 hl h).mono fun e w' ⟨he, hw⟩ => ⟨he.trans (ret_int ?_), hw⟩
      rw [szf_no (by omega)]
    · exact szIntsS_walk w b off cap zss.length left zss u rfl h0 h1 h hc

theorem szPut_any (w : World) (v : Value) (a : Int) (zs : List Int) (h : Ints w v zs) (left : Int) (h0 : 0 ≤ left) (h1 : left ≤ 1048576) :
    Calls Try.prog 30 #[.agg #[.int .i64 a, v], .int .i64 left] w fun e w' => e = .returned (.int .i64 (szf left zs.length)) ∧ Below w.heap.size w w' := by
  have HI : Hid (Ints w v zs) := h
  clear h
  by_cases hm : left < (zs.length : Int)
  · have HR : Hid (szf left zs.length = -1) := szf_no hm
    rw [HR.out]
    go_enter Try.func30, Try.ntmps30
    go_wp2_with fail
    refine (szInts_any (HI.out.later (later1 _ _)) _ h0 h1).mono ?_
    rw [HR.out]
    rintro e w' ⟨rfl, rfl⟩
    go_wp2
    go_ret
    exact ⟨rfl, later1 _ _⟩
  · have HR : Hid (szf left zs.length = left - (zs.length : Int)) := szf_yes hm
    have hpos : ¬ left - (zs.length : Int) < 0 := by omega
    rw [HR.out]
    go_enter Try.func30, Try.ntmps30
    go_wp2_with fail
    refine (szInts_any (HI.out.later (later1 _ _)) _ h0 h1).mono ?_
    rw [HR.out]
    rintro e w' ⟨rfl, rfl⟩
    go_wp2
    go_ret
    exact ⟨rfl, later1 _ _⟩

set_option maxHeartbeats 400000 in
theorem szPuts_many (w : World) (a : Option Addr) (n cap : Nat) (left : Int) (h0 : 0 ≤ left) (h1 : left ≤ 1048576) (hn : n ≤ maxLen) (h : left < (n : Int)) :
    Calls Try.prog 17 #[.slice a n cap, .int .i64 left] w fun e w' => e = .returned (.int .i64 (-1)) ∧ w' = w := by
  unfold maxLen at hn
  have h' : left - (n : Int) < 0 := by omega
  go_enter Try.func17, Try.ntmps17
  go_wp2
  go_ret
  exact ⟨rfl, rfl⟩

set_option maxHeartbeats 400000 in
theorem szPuts_nil (w : World) (a : Option Addr) (cap : Nat) (left : Int) (h0 : 0 ≤ left) (h1 : left ≤ 1048576) :
    Calls Try.prog 17 #[.slice a 0 cap, .int .i64 left] w fun e w' => e = .returned (.int .i64 left) ∧ w' = w := by
  have h' : ¬ left < 0 := by omega
  go_enter Try.func17, Try.ntmps17
  go_wp2
  go_loop [1, 5] (fun q i => i = .int .i64 0 ∧ q = .int .i64 left) (fun _ _ => 0)
  case atStart => exact ⟨rfl, rfl⟩
  case round =>
    obtain ⟨rfl, rfl⟩ := hrel
    go_wp2
    go_ret
    exact ⟨rfl, rfl⟩

set_option maxHeartbeats 800000 in
theorem szPuts_walk (w : World) (b off cap n : Nat) (left : Int) (ps : List (Int × List Int)) (u : Nat → Value) (hzn : ps.length = n) (h0 : 0 ≤ left) (h1 : left ≤ 1048576) (h2 : ¬ left < (n : Int))
    (hc : ∀ k, k < n → w.cell? ⟨b, off + k * 2, none⟩ = some (.int .i64 (ps[k]?.getD (0, [])).1) ∧ w.cell? ⟨b, off + k * 2 + 1, none⟩ = some (u k) ∧ Ints w (u k) (ps[k]?.getD (0, [])).2) :
    Calls Try.prog 17 #[.slice (some ⟨b, off, none⟩) n cap, .int .i64 left] w fun e w' => e = .returned (.int .i64 (szf left (n + (wlens ps).sum))) ∧ Below w.heap.size w w' := by
  have HN : Hid (ps.length = n) := hzn
  have h2' : ¬ left - (n : Int) < 0 := by omega
  clear hzn
  go_enter Try.func17, Try.ntmps17
  go_wp2
  go_loopw [1, 5] (fun q i wr => ∃ j : Nat, j ≤ n ∧ i = .int .i64 j ∧ q = .int .i64 (left - (n : Int) - (upto (wlens ps) j : Nat)) ∧ 0 ≤ left - (n : Int) - (upto (wlens ps) j : Nat) ∧ Below w.heap.size w wr) (fun _ i _ => n - (intOf i).toNat)
  case atStart => exact ⟨0, Nat.zero_le _, rfl, by simp [upto_zero], by simp [upto_zero]; omega, Below.refl _ _⟩
  case round =>
    obtain ⟨j, hj, rfl, rfl, hq, hbl⟩ := hrel
    by_cases hlt : j < n
    · obtain ⟨c1, c2, i1⟩ := hc j hlt
      clear hc
      have hs := upto_succ (wlens ps) j (by rw [wlens_length, HN.out]; exact hlt)
      rw [wlens_get] at hs
      have hle := upto_le (wlens ps) (j + 1)
      have HS : Hid (upto (wlens ps) (j + 1) = upto (wlens ps) j + (ps[j]?.getD (0, [])).2.length) := hs
      clear hs
      generalize upto (wlens ps) j = U at *
      have HI : Hid (Ints wr (u j) (ps[j]?.getD (0, [])).2) := i1.later hbl
      replace c1 := cell_later hbl c1
      replace c2 := cell_later hbl c2
      have HBL : Hid (Below w.heap.size w wr) := hbl
      clear i1 hbl
      obtain ⟨ua, ucap, hu, _⟩ := HI.out.shape
      have HI' : Hid (Ints wr (.slice ua (ps[j]?.getD (0, [])).2.length ucap) (ps[j]?.getD (0, [])).2) := by rw [← hu]; exact HI.out
      rw [hu] at c2
      clear HI hu
      by_cases hm : left - (n : Int) - (U : Int) < ((ps[j]?.getD (0, [])).2.length : Int)
      · have HM : Hid (szf left (n + (wlens ps).sum) = -1) := szf_no (by have := HS.out; omega)
        have HR' : Hid (szf (left - (n : Int) - (U : Int)) (ps[j]?.getD (0, [])).2.length = -1) := szf_no hm
        go_wp2_with fail
        refine (szPut_any _ _ _ _ HI'.out _ hq (by omega)).mono ?_
        rw [HR'.out]
        rintro e w' ⟨rfl, hb⟩
        have HB : Hid (Below w.heap.size w w') := HBL.out.trans (hb.mono HBL.out.size)
        clear hb
        go_wp2
        go_ret
        exact ⟨ret_int HM.out.symm, HB.out⟩
      · have HR' : Hid (szf (left - (n : Int) - (U : Int)) (ps[j]?.getD (0, [])).2.length = left - (n : Int) - (U : Int) - ((ps[j]?.getD (0, [])).2.length : Int)) := szf_yes hm
        have hpos : ¬ (left - (n : Int) - (U : Int) - ((ps[j]?.getD (0, [])).2.length : Int) < 0) := by omega
        go_wp2_with fail
        refine (szPut_any _ _ _ _ HI'.out _ hq (by omega)).mono ?_
        rw [HR'.out]
        rintro e w' ⟨rfl, hb⟩
        have HB : Hid (Below w.heap.size w w') := HBL.out.trans (hb.mono HBL.out.size)
        clear hb
        go_wp2
        go_roundw
        case rel => exact ⟨j + 1, by omega, by go_num, by rw [HS.out]; go_num, by rw [HS.out]; omega, HB.out⟩
        case measure => simp [intOf]; omega
    · go_wp2
      go_ret
      have e : j = n := by omega
      subst e
      have ha := upto_all (wlens ps)
      rw [wlens_length, HN.out] at ha
      refine ⟨ret_int ?_, hbl⟩
      rw [ha] at hq ⊢
      rw [szf_yes (by omega)]
      omega

theorem szPuts_any {w : World} {v : Value} {ps : List (Int × List Int)} (h : Puts w v ps) (left : Int) (h0 : 0 ≤ left) (h1 : left ≤ 1048576) :
    Calls Try.prog 17 #[v, .int .i64 left] w fun e w' => e = .returned (.int .i64 (szf left (ps.length + (wlens ps).sum))) ∧ Below w.heap.size w w' := by
  rcases h with ⟨rfl, a, cap, rfl⟩ | ⟨b, off, cap, u, rfl, hl, hc⟩
  · refine (szPuts_nil w a cap left h0 h1).mono fun e w' ⟨he, hw⟩ => ⟨he.trans (ret_int ?_), hw ▸ Below.refl _ _⟩
    simp [szf, wlens]; omega
  · by_cases h : left < (ps.length : Int)
    · refine (szPuts_many w _ ps.length cap left h0 h1 hl h).mono fun e w' ⟨he, hw⟩ => ⟨he.trans (ret_int ?_), hw ▸ Below.refl _ _⟩
      rw [szf_no (by omega)]
    · exact szPuts_walk w b off cap ps.length left ps u rfl h0 h1 h hc

/-- How many values a disk holds. -/
def dsize (bs : List (List Int)) (ps : List (Int × List Int)) : Nat := bs.length + (bs.map List.length).sum + (ps.length + (wlens ps).sum)

theorem szDisk_any (w : World) (aB aC : Option Addr) (nB cB nC cC : Nat) (bs : List (List Int)) (ps : List (Int × List Int)) (h1 : IntsS w (.slice aB nB cB) bs) (h2 : Puts w (.slice aC nC cC) ps) (left : Int) (l0 : 0 ≤ left) (l1 : left ≤ 1048576) :
    Calls Try.prog 4 #[.agg #[.slice aB nB cB, .slice aC nC cC], .int .i64 left] w fun e w' => e = .returned (.int .i64 (szf left (dsize bs ps))) ∧ Below w.heap.size w w' := by
  have H1 : Hid (IntsS w (.slice aB nB cB) bs) := h1
  have H2 : Hid (Puts w (.slice aC nC cC) ps) := h2
  clear h1 h2
  by_cases hm : left < ((bs.length + (bs.map List.length).sum : Nat) : Int)
  · have HR : Hid (szf left (bs.length + (bs.map List.length).sum) = -1) := szf_no hm
    have HM : Hid (szf left (dsize bs ps) = -1) := szf_no (by unfold dsize; omega)
    rw [HM.out]
    go_enter Try.func4, Try.ntmps4
    go_wp2_with fail
    refine (szIntsS_any (H1.out.later (later1 _ _)) _ l0 l1).mono ?_
    rw [HR.out]
    rintro e w' ⟨rfl, rfl⟩
    go_wp2
    go_ret
    exact ⟨rfl, later1 _ _⟩
  · have HR : Hid (szf left (bs.length + (bs.map List.length).sum) = left - ((bs.length + (bs.map List.length).sum : Nat) : Int)) := szf_yes hm
    have hpos : ¬ left - ((bs.length + (bs.map List.length).sum : Nat) : Int) < 0 := by omega
    have HD : Hid (szf (left - ((bs.length + (bs.map List.length).sum : Nat) : Int)) (ps.length + (wlens ps).sum) = szf left (dsize bs ps)) := by
      unfold Hid szf dsize
      split <;> split <;> omega
    have hX0 : (0 : Int) ≤ ((bs.length + (bs.map List.length).sum : Nat) : Int) := by omega
    generalize ((bs.length + (bs.map List.length).sum : Nat) : Int) = X at *
    generalize hr : szf left (dsize bs ps) = r at *
    have HRR : Hid (szf left (dsize bs ps) = r) := hr
    clear hr
    by_cases hn : r < 0
    · have hr1 : r = -1 := by have := HRR.out; unfold szf at this; split at this <;> omega
      subst hr1
      go_enter Try.func4, Try.ntmps4
      go_wp2_with fail
      refine (szIntsS_any (H1.out.later (later1 _ _)) _ l0 l1).mono ?_
      rw [HR.out]
      rintro e w' ⟨rfl, rfl⟩
      go_wp2_with fail
      refine (szPuts_any (H2.out.later (later1 _ _)) _ (by omega) (by omega)).mono ?_
      rw [HD.out]
      rintro e w' ⟨rfl, hb⟩
      have HB : Hid (Below w.heap.size w w') := (later1 _ _).trans (hb.mono (by simp))
      clear hb
      go_wp2
      go_ret
      exact ⟨rfl, HB.out⟩
    · go_enter Try.func4, Try.ntmps4
      go_wp2_with fail
      refine (szIntsS_any (H1.out.later (later1 _ _)) _ l0 l1).mono ?_
      rw [HR.out]
      rintro e w' ⟨rfl, rfl⟩
      go_wp2_with fail
      refine (szPuts_any (H2.out.later (later1 _ _)) _ (by omega) (by omega)).mono ?_
      rw [HD.out]
      rintro e w' ⟨rfl, hb⟩
      have HB : Hid (Below w.heap.size w w') := (later1 _ _).trans (hb.mono (by simp))
      clear hb
      go_wp2
      go_ret
      exact ⟨rfl, HB.out⟩
end Go.Proofs.Ytpmndmkmfcoieaa

namespace Go.Proofs.Ytpmndmkmfcoieaa
open Go.RowKit
set_option maxRecDepth 100000

/-- The cells of block b, from the first on. -/
def Bx (w : World) (b : Nat) (vs : List Value) : Prop := ∀ i v, vs[i]? = some v → w.cell? ⟨b, i, none⟩ = some v
theorem Bx.new (w : World) (vs : List Value) (t : TypeId) : Bx (w.alloc (.cells vs.toArray t)) w.heap.size vs := fun i v h => by rw [new_cell]; simpa using h
theorem Bx.later {w w' : World} {b : Nat} {vs : List Value} (h : Bx w b vs) (hb : Below w.heap.size w w') : Bx w' b vs := fun i v e => cell_later hb (h i v e)
theorem Bx.chg {w w' : World} {b : Nat} {vs : List Value} {F : Nat → Prop} (h : Bx w b vs) (hc : Chg F w w') (hf : ¬ F b) : Bx w' b vs := fun i v e => by
  have := h i v e
  exact (hc.cell (a := ⟨b, i, none⟩) (World.block_lt_of_cell? _ _ this) hf).trans this
theorem Bx.lt {w : World} {b : Nat} {v : Value} {vs : List Value} (h : Bx w b (v :: vs)) : b < w.heap.size := World.block_lt_of_cell? _ _ (h 0 v rfl)

/-- Lists of integers. -/
theorem IntsO.reads {w : World} {v : Value} {zs : List Int} {F : Nat → Prop} (h : IntsO w v zs F) : Ints w v zs := h.ints
theorem toIntsU {w : World} {v : Value} {zs : List Int} (h : Ints w v zs) (hn : zs.length ≤ 1048576) :
    Calls Try.prog 38 #[v] w fun e w' => ∃ a n c, e = .returned (.slice a n c) ∧ Below w.heap.size w w' ∧ IntsO w' (.slice a n c) zs (fresh w w') :=
  (toInts_any h hn).mono fun _ _ ⟨h1, h2, h3⟩ => ⟨_, _, _, h1, h2, h3⟩
theorem eqIntsU {w : World} {v v' : Value} {zs : List Int} (h : Ints w v zs) (h' : Ints w v' zs) : Calls Try.prog 45 #[v, v'] w fun e w' => e = .returned (.bool true) ∧ Below w.heap.size w w' :=
  (eqInts_any h h').mono fun _ _ ⟨h1, m, h2⟩ => ⟨by rw [h1, beq_self_eq_true], h2 ▸ below_drewN (Below.refl _ _) m⟩
theorem markIntsU {w : World} {v : Value} {zs : List Int} {F : Nat → Prop} (k : Int) (h : IntsO w v zs F) (hk0 : 0 ≤ k) (hk : k + (zs.length : Nat) ≤ 4611686018427387904) :
    Calls Try.prog 47 #[v, .int .i64 k] w fun e w' => e = .returned (.int .i64 (k + (zs.length : Nat))) ∧ Chg F w w' :=
  (markInts_any k h hk0 hk).mono fun _ _ ⟨h1, _, h2⟩ => ⟨h1, h2⟩

/-- Disks. -/
abbrev DK := List (List Int) × List (Int × List Int)
def DiskR (w : World) (vB vC : Value) (d : DK) : Prop := IntsS w vB d.1 ∧ Puts w vC d.2
theorem DiskR.later {w w' : World} {vB vC : Value} {d : DK} (h : DiskR w vB vC d) (hb : Below w.heap.size w w') : DiskR w' vB vC d := ⟨h.1.later hb, h.2.later hb⟩
def DiskU (w : World) (vB vC : Value) (d : DK) (F : Nat → Prop) : Prop := DiskO w vB vC d.1 d.2 F
theorem DiskU.reads {w : World} {vB vC : Value} {d : DK} {F : Nat → Prop} (h : DiskU w vB vC d F) : DiskR w vB vC d := ⟨DiskO.ints h, DiskO.puts h⟩
theorem DiskU.later {w w' : World} {vB vC : Value} {d : DK} {F : Nat → Prop} (h : DiskU w vB vC d F) (hb : Below w.heap.size w w') : DiskU w' vB vC d F := DiskO.later h hb
theorem DiskU.mono {w : World} {vB vC : Value} {d : DK} {F G : Nat → Prop} (h : DiskU w vB vC d F) (e : ∀ b, F b → G b) : DiskU w vB vC d G := DiskO.mono h e
theorem DiskU.chg {w w' : World} {vB vC : Value} {d : DK} {F G : Nat → Prop} (h : DiskU w vB vC d F) (hc : Chg G w w') (hd : ∀ b, F b → ¬ G b) : DiskU w' vB vC d F := DiskO.chg h hc hd
def sizeDisk (d : DK) : Nat := dsize d.1 d.2
theorem szDiskU (w : World) (aB : Option Addr) (nB cB : Nat) (aC : Option Addr) (nC cC : Nat) (d : DK) (h : DiskR w (.slice aB nB cB) (.slice aC nC cC) d) (left : Int) (l0 : 0 ≤ left) (l1 : left ≤ 1048576) :
    Calls Try.prog 4 #[.agg #[.slice aB nB cB, .slice aC nC cC], .int .i64 left] w fun e w' => e = .returned (.int .i64 (szf left (sizeDisk d))) ∧ Below w.heap.size w w' := szDisk_any w aB aC nB cB nC cC d.1 d.2 h.1 h.2 left l0 l1
theorem toDiskU (w : World) (aB : Option Addr) (nB cB : Nat) (aC : Option Addr) (nC cC : Nat) (d : DK) (h : DiskR w (.slice aB nB cB) (.slice aC nC cC) d) (hs : sizeDisk d ≤ 1048576) :
    Calls Try.prog 6 #[.agg #[.slice aB nB cB, .slice aC nC cC]] w fun e w' => ∃ dB eB fB dC eC fC, e = .returned (.agg #[.slice dB eB fB, .slice dC eC fC]) ∧ Below w.heap.size w w' ∧ DiskU w' (.slice dB eB fB) (.slice dC eC fC) d (fresh w w') := by
  unfold sizeDisk dsize at hs
  exact (toDisk_any w aB aC nB cB nC cC d.1 d.2 h.1 h.2 (by omega) (by omega)).mono fun e w' ⟨dB, eB, fB, dC, eC, fC, h1, h2, h3⟩ => ⟨dB, eB, fB, dC, eC, fC, h1, h2, h3⟩
theorem eqDiskU (w : World) (vB vC vB' vC' : Value) (d : DK) (h : DiskR w vB vC d) (h' : DiskR w vB' vC' d) : Calls Try.prog 10 #[.agg #[vB, vC], .agg #[vB', vC']] w fun e w' => e = .returned (.bool true) ∧ Below w.heap.size w w' :=
  eqDisk_true w vB vC vB' vC' d.1 d.2 h.1 h.2 h'.1 h'.2
def spanDisk (d : DK) : Nat := dspan d.1 d.2
theorem spanDisk_le (d : DK) : spanDisk d ≤ sizeDisk d := by unfold spanDisk sizeDisk dspan dsize; omega
theorem markDiskU (w : World) (vB vC : Value) (d : DK) (F : Nat → Prop) (k : Int) (h : DiskU w vB vC d F) (hk0 : 0 ≤ k) (hk : k + (spanDisk d : Nat) ≤ 4611686018427387904) :
    Calls Try.prog 12 #[.agg #[vB, vC], .int .i64 k] w fun e w' => e = .returned (.int .i64 (k + (spanDisk d : Nat))) ∧ Chg F w w' := markDsk w vB vC d.1 d.2 F k h hk0 hk

/-- Answers that are a code and a disk. -/
def AnsDR (w : World) (r : Int × DK) (e : Ending) (w' : World) : Prop := ∃ aB nB cB aC nC cC, e = .returned (.agg #[.int .i64 r.1, .slice aB nB cB, .slice aC nC cC]) ∧ Below w.heap.size w w' ∧ DiskU w' (.slice aB nB cB) (.slice aC nC cC) r.2 (fresh w w')
theorem AnsDisk.uni {w w' : World} {c : Int} {bs : List (List Int)} {ps : List (Int × List Int)} {e : Ending} (h : AnsDisk w c bs ps e w') : AnsDR w (c, bs, ps) e w' := by
  obtain ⟨aB, nB, cB, aC, nC, cC, h1, h2⟩ := h
  exact ⟨aB, nB, cB, aC, nC, cC, h1, h2.below, h2.disk⟩
theorem eqDiskResultU (w : World) (c : Int) (vB vC vB' vC' : Value) (d : DK) (h : DiskR w vB vC d) (h' : DiskR w vB' vC' d) : Calls Try.prog 9 #[.agg #[.int .i64 c, vB, vC], .agg #[.int .i64 c, vB', vC']] w fun e w' => e = .returned (.bool true) ∧ Below w.heap.size w w' :=
  eqDiskResult_true w c vB vC vB' vC' d.1 d.2 h.1 h.2 h'.1 h'.2
def mkDisk (k : Int) (d : DK) : DK := (marksS k (d.1.map List.length), marksP (k + ((d.1.map List.length).sum : Nat)) (wlens d.2))
theorem markDiskResultU (w : World) (c : Int) (vB vC : Value) (d : DK) (F : Nat → Prop) (k : Int) (h : DiskU w vB vC d F) (hk0 : 0 ≤ k) (hk : k + (spanDisk d : Nat) ≤ 4611686018427387904) :
    Calls Try.prog 14 #[.agg #[.int .i64 c, vB, vC], .int .i64 k] w fun e w' => e = .returned (.int .i64 (k + (spanDisk d : Nat))) ∧ DiskU w' vB vC (mkDisk k d) F ∧ Chg F w w' :=
  (markRes w c vB vC d.1 d.2 F k h hk0 hk).mono fun _ _ ⟨h1, h2, h3⟩ => ⟨h1, h2.disk, h3⟩
theorem heldDiskResultU (w : World) (c : Int) (vB vC : Value) (d : DK) (F : Nat → Prop) (k : Int) (h : DiskU w vB vC (mkDisk k d) F) (hk0 : 0 ≤ k) (hk : k + (spanDisk d : Nat) ≤ 4611686018427387904) :
    Calls Try.prog 15 #[.agg #[.int .i64 c, vB, vC], .int .i64 k] w fun e w' => e = .returned (.int .i64 (k + (spanDisk d : Nat))) ∧ Below w.heap.size w w' := heldRes w c vB vC d.1 d.2 F k ⟨h⟩ hk0 hk
end Go.Proofs.Ytpmndmkmfcoieaa
