/- The walks of the marking and holding functions over slices. The walks of the marking and holding functions over puts and disks. Lists that a loop makes one behind the other, each in memory of its own. No program is named here. The walks of the comparing, marking and holding functions over an answer of a code and a list. The walks of the functions that tell how great an argument is. The walks of the copying functions. One form for the contracts of the laws' own functions, type by type: what a value reads as, what it owns, how great it is. The walks of the functions that copy a list of integers: the specification's by append, the program's by copy. -/
import Derived.Test.YtlohgnidbkechaaRows
import Derived.Test.YtlohgnidbkechaaM00
import Derived.Laws.CopyOwn
namespace Go.Proofs.Ytlohgnidbkechaa
open Go.RowKit
set_option maxRecDepth 100000

set_option maxHeartbeats 400000 in
theorem markInts_nil (w : World) (a : Option Addr) (cap : Nat) (k : Int) :
    Calls Try.prog 46 #[.slice a 0 cap, .int .i64 k] w fun e w' => e = .returned (.int .i64 k) ∧ w' = w := by
  go_enter Try.func46, Try.ntmps46
  go_wp2
  go_loop [1, 5] (fun q i => i = .int .i64 0 ∧ q = .int .i64 k) (fun _ _ => 0)
  case atStart => exact ⟨rfl, rfl⟩
  case round =>
    obtain ⟨rfl, rfl⟩ := hrel
    go_wp2
    go_ret
    exact ⟨rfl, rfl⟩

set_option maxHeartbeats 400000 in
theorem markInts_walk (w : World) (b cap n : Nat) (k : Int) (F : Nat → Prop) (f : Nat → Value) (hF : F b) (hk0 : 0 ≤ k) (hk : k + (n : Int) ≤ 4611686018427387904) (hr : OwnRow w b n f) :
    Calls Try.prog 46 #[.slice (some ⟨b, 0, none⟩) n cap, .int .i64 k] w fun e w' => e = .returned (.int .i64 (k + (n : Int))) ∧ OwnRow w' b n (fun i => .int .i64 (k + (i : Int))) ∧ Chg F w w' := by
  have HR : Hid (OwnRow w b n f) := hr
  have HF : Hid (F b) := hF
  clear hr hF
  go_enter Try.func46, Try.ntmps46
  go_wp2
  go_loopw [1, 5] (fun q i wr => ∃ j : Nat, j ≤ n ∧ i = .int .i64 j ∧ q = .int .i64 (k + (j : Int)) ∧ OwnRow wr b n (fun i => if i < j then .int .i64 (k + (i : Int)) else f i) ∧ Chg F w wr) (fun _ i _ => n - (intOf i).toNat)
  case atStart => exact ⟨0, Nat.zero_le _, rfl, by simp, HR.out.congr fun i _ => by simp, Chg.refl _ _⟩
  case round =>
    obtain ⟨j, hj, rfl, rfl, hrow, hch⟩ := hrel
    by_cases hlt : j < n
    · have c1 := hrow.cell hlt
      have c2 := hrow.frozen j
      have HROW : Hid (OwnRow wr b n (fun i => if i < j then .int .i64 (k + (i : Int)) else f i)) := hrow
      have HCH : Hid (Chg F w wr) := hch
      clear hrow hch
      simp only [Nat.lt_irrefl, if_false] at c1
      go_wp2
      go_roundw
      case rel =>
        refine ⟨j + 1, by omega, by go_num, by go_num, (HROW.out.set j _).congr fun i hi => ?_, HCH.out.set HF.out _ _⟩
        by_cases e : i = j
        · subst e; simp
        · by_cases e2 : i < j
          · simp [e, e2, show i < j + 1 by omega]
          · simp [e, e2, show ¬ i < j + 1 by omega]
      case measure => simp [intOf]; omega
    · go_wp2
      go_ret
      have e : j = n := by omega
      subst e
      exact ⟨rfl, hrow.congr fun i hi => by simp [hi], hch⟩

theorem markInts_any {w : World} {v : Value} {zs : List Int} {F : Nat → Prop} (k : Int) (h : IntsO w v zs F) (hk0 : 0 ≤ k) (hk : k + (zs.length : Int) ≤ 4611686018427387904) :
    Calls Try.prog 46 #[v, .int .i64 k] w fun e w' => e = .returned (.int .i64 (k + (zs.length : Int))) ∧ IntsO w' v (marks k zs.length) F ∧ Chg F w w' := by
  rcases h with ⟨rfl, a, cap, rfl⟩ | ⟨b, cap, hF, rfl, hl, hr⟩
  · exact (markInts_nil w a cap k).mono fun e w' ⟨he, hw⟩ => ⟨by rw [he]; simp, Or.inl ⟨by simp [marks], a, cap, rfl⟩, hw ▸ Chg.refl _ _⟩
  · refine (markInts_walk w b cap zs.length k F _ hF hk0 hk hr).mono fun e w' ⟨he, hrow, hch⟩ => ⟨he, Or.inr ⟨b, cap, hF, by rw [marks_length], by rw [marks_length]; exact hl, ?_⟩, hch⟩
    rw [marks_length]
    exact hrow.congr fun i hi => by rw [marks_get k hi]

set_option maxHeartbeats 400000 in
theorem heldInts_nil (w : World) (a : Option Addr) (cap : Nat) (k : Int) :
    Calls Try.prog 47 #[.slice a 0 cap, .int .i64 k] w fun e w' => e = .returned (.int .i64 k) ∧ w' = w := by
  go_enter Try.func47, Try.ntmps47
  go_wp2
  go_loop [1, 5] (fun q i => i = .int .i64 0 ∧ q = .int .i64 k) (fun _ _ => 0)
  case atStart => exact ⟨rfl, rfl⟩
  case round =>
    obtain ⟨rfl, rfl⟩ := hrel
    go_wp2
    go_ret
    exact ⟨rfl, rfl⟩

set_option maxHeartbeats 400000 in
theorem heldInts_walk (w : World) (b off cap n : Nat) (k : Int) (hk0 : 0 ≤ k) (hk : k + (n : Int) ≤ 4611686018427387904) (hc : ∀ i : Nat, i < n → w.cell? ⟨b, off + i, none⟩ = some (.int .i64 (k + (i : Int)))) :
    Calls Try.prog 47 #[.slice (some ⟨b, off, none⟩) n cap, .int .i64 k] w fun e w' => e = .returned (.int .i64 (k + (n : Int))) ∧ w' = w := by
  go_enter Try.func47, Try.ntmps47
  go_wp2
  go_loop [1, 5] (fun q i => ∃ j : Nat, j ≤ n ∧ i = .int .i64 j ∧ q = .int .i64 (k + (j : Int))) (fun _ i => n - (intOf i).toNat)
  case atStart => exact ⟨0, Nat.zero_le _, rfl, by simp⟩
  case round =>
    obtain ⟨j, hj, rfl, rfl⟩ := hrel
    by_cases hlt : j < n
    · have c1 := hc j hlt
      have hne : ((k + (j : Int)) != (k + (j : Int))) = false := by simp
      clear hc
      go_wp2
      go_round
      case rel => exact ⟨j + 1, by omega, by go_num, by go_num⟩
      case measure => simp [intOf]; omega
    · go_wp2
      go_ret
      have e : j = n := by omega
      subst e
      exact ⟨rfl, rfl⟩

theorem heldInts_any {w : World} {v : Value} (k : Int) (n : Nat) (h : Ints w v (marks k n)) (hk0 : 0 ≤ k) (hk : k + (n : Int) ≤ 4611686018427387904) :
    Calls Try.prog 47 #[v, .int .i64 k] w fun e w' => e = .returned (.int .i64 (k + (n : Int))) ∧ w' = w := by
  rcases h with ⟨h0, a, cap, rfl⟩ | ⟨b, off, cap, hv, hl, hr⟩
  · have : n = 0 := by have := marks_length k n; rw [h0] at this; simpa using this.symm
    subst this
    exact (heldInts_nil w a cap k).mono fun e w' ⟨he, hw⟩ => ⟨by rw [he]; simp, hw⟩
  · rw [marks_length] at hv hr
    subst hv
    exact heldInts_walk w b off cap n k hk0 hk fun i hi => by rw [hr i hi, marks_get k hi]

set_option maxHeartbeats 400000 in
theorem markIntsS_nil (w : World) (a : Option Addr) (cap : Nat) (k : Int) :
    Calls Try.prog 33 #[.slice a 0 cap, .int .i64 k] w fun e w' => e = .returned (.int .i64 k) ∧ w' = w := by
  go_enter Try.func33, Try.ntmps33
  go_wp2
  go_loop [1, 5] (fun q i => i = .int .i64 0 ∧ q = .int .i64 k) (fun _ _ => 0)
  case atStart => exact ⟨rfl, rfl⟩
  case round =>
    obtain ⟨rfl, rfl⟩ := hrel
    go_wp2
    go_ret
    exact ⟨rfl, rfl⟩

/-- What stands in the inner list i while the first j are marked. -/
def half (k : Int) (zss : List (List Int)) (j i : Nat) : List Int := if i < j then marks (k + (upto (zss.map List.length) i : Nat)) (zss[i]?.getD []).length else zss[i]?.getD []

set_option maxHeartbeats 400000 in
theorem markIntsS_walk (w : World) (b cap n : Nat) (k : Int) (F : Nat → Prop) (zss : List (List Int)) (u : Nat → Value) (G : Nat → Nat → Prop) (hG : ∀ i c, G i c → F c ∧ c ≠ b) (hGG : ∀ i j c, i ≠ j → G i c → ¬ G j c)
    (hn : zss.length = n) (hk0 : 0 ≤ k) (hk : k + ((zss.map List.length).sum : Nat) ≤ 4611686018427387904) (hn2 : n ≤ 9223372036854775807) (hr : OwnRow w b n u) (hu : ∀ i, i < n → IntsO w (u i) (zss[i]?.getD []) (G i)) :
    Calls Try.prog 33 #[.slice (some ⟨b, 0, none⟩) n cap, .int .i64 k] w fun e w' => e = .returned (.int .i64 (k + ((zss.map List.length).sum : Nat))) ∧ OwnRow w' b n u ∧ (∀ i, i < n → IntsO w' (u i) (half k zss n i) (G i)) ∧ Chg F w w' := by
  have HR : Hid (OwnRow w b n u) := hr
  have HU : Hid (∀ i, i < n → IntsO w (u i) (zss[i]?.getD []) (G i)) := hu
  have HG : Hid (∀ i c, G i c → F c ∧ c ≠ b) := hG
  have HGG : Hid (∀ i j c, i ≠ j → G i c → ¬ G j c) := hGG
  have HN : Hid (zss.length = n) := hn
  clear hr hu hG hGG hn
  go_enter Try.func33, Try.ntmps33
  go_wp2
  go_loopw [1, 5] (fun q i wr => ∃ j : Nat, j ≤ n ∧ i = .int .i64 j ∧ q = .int .i64 (k + (upto (zss.map List.length) j : Nat)) ∧ OwnRow wr b n u ∧ (∀ i, i < n → IntsO wr (u i) (half k zss j i) (G i)) ∧ Chg F w wr) (fun _ i _ => n - (intOf i).toNat)
  case atStart => exact ⟨0, Nat.zero_le _, rfl, by simp [upto_zero], HR.out, fun i hi => by simpa [half] using HU.out i hi, Chg.refl _ _⟩
  case round =>
    obtain ⟨j, hj, rfl, rfl, hrow, hin, hch⟩ := hrel
    by_cases hlt : j < n
    · have c1 := hrow.cell hlt
      have HROW : Hid (OwnRow wr b n u) := hrow
      have HIN : Hid (∀ i, i < n → IntsO wr (u i) (half k zss j i) (G i)) := hin
      have HCH : Hid (Chg F w wr) := hch
      clear hrow hin hch
      have hs := upto_succ (zss.map List.length) j (by rw [List.length_map, HN.out]; exact hlt)
      rw [lens_get] at hs
      have hle := upto_le (zss.map List.length) (j + 1)
      have HS : Hid (upto (zss.map List.length) (j + 1) = upto (zss.map List.length) j + (zss[j]?.getD []).length) := hs
      clear hs
      generalize hU : upto (zss.map List.length) j = U at *
      have hij : IntsO wr (u j) (zss[j]?.getD []) (G j) := by have := HIN.out j hlt; simpa [half] using this
      have HIJ : Hid (IntsO wr (u j) (zss[j]?.getD []) (G j)) := hij
      clear hij
      go_wp2_with fail
      refine (markInts_any (k + (U : Int)) HIJ.out (by omega) (by have := HS.out; omega)).mono ?_
      rintro e w' ⟨rfl, hm, hc⟩
      have HM : Hid (IntsO w' (u j) (marks (k + (U : Int)) (zss[j]?.getD []).length) (G j)) := hm
      have HC : Hid (Chg (G j) wr w') := hc
      clear hm hc
      go_wp2
      go_roundw
      case rel =>
        refine ⟨j + 1, by omega, by go_num, by rw [HS.out]; go_num, HROW.out.block (HC.out.block b HROW.out.lt (fun h => (HG.out j b h).2 rfl)), fun i hi => ?_, HCH.out.trans (HC.out.mono fun c hc => (HG.out j c hc).1)⟩
        by_cases e : i = j
        · subst e
          have := HM.out
          rw [← hU] at this
          simpa [half] using this
        · have h1 := (HIN.out i hi).keep (w' := w') fun c hc hlt => HC.out.block c hlt (HGG.out i j c e hc)
          have h2 : half k zss (j + 1) i = half k zss j i := by
            unfold half
            by_cases e2 : i < j
            · rw [if_pos e2, if_pos (by omega)]
            · rw [if_neg e2, if_neg (by omega)]
          rw [h2]; exact h1
      case measure => simp [intOf]; omega
    · go_wp2
      go_ret
      have e : j = n := by omega
      subst e
      exact ⟨ret_int (by rw [← HN.out, ← upto_all, List.length_map]), hrow, hin, hch⟩

theorem markIntsS_any {w : World} {v : Value} {zss : List (List Int)} {F : Nat → Prop} (k : Int) (h : IntsSO w v zss F) (hk0 : 0 ≤ k) (hk : k + ((zss.map List.length).sum : Nat) ≤ 4611686018427387904) :
    Calls Try.prog 33 #[v, .int .i64 k] w fun e w' => e = .returned (.int .i64 (k + ((zss.map List.length).sum : Nat))) ∧ IntsSO w' v (marksS k (zss.map List.length)) F ∧ Chg F w w' := by
  rcases h with ⟨rfl, a, cap, rfl⟩ | ⟨b, cap, u, G, hF, hG, hGG, rfl, hl, hr, hu⟩
  · exact (markIntsS_nil w a cap k).mono fun e w' ⟨he, hw⟩ => ⟨by rw [he]; simp, Or.inl ⟨rfl, a, cap, rfl⟩, hw ▸ Chg.refl _ _⟩
  · refine (markIntsS_walk w b cap zss.length k F zss u G hG hGG rfl hk0 hk (by unfold maxLen at hl; omega) hr hu).mono fun e w' ⟨he, hrow, hin, hch⟩ => ⟨he, Or.inr ⟨b, cap, u, G, hF, hG, hGG, ?_, ?_, ?_, ?_⟩, hch⟩
    · rw [marksS_length, List.length_map]
    · rw [marksS_length, List.length_map]; exact hl
    · rw [marksS_length, List.length_map]; exact hrow
    · intro i hi
      rw [marksS_length, List.length_map] at hi
      have := hin i hi
      rw [marksS_get _ _ _ (by rw [List.length_map]; exact hi), lens_get]
      simpa [half, hi] using this

set_option maxHeartbeats 400000 in
theorem heldIntsS_nil (w : World) (a : Option Addr) (cap : Nat) (k : Int) :
    Calls Try.prog 35 #[.slice a 0 cap, .int .i64 k] w fun e w' => e = .returned (.int .i64 k) ∧ w' = w := by
  go_enter Try.func35, Try.ntmps35
  go_wp2
  go_loop [1, 5] (fun q i => i = .int .i64 0 ∧ q = .int .i64 k) (fun _ _ => 0)
  case atStart => exact ⟨rfl, rfl⟩
  case round =>
    obtain ⟨rfl, rfl⟩ := hrel
    go_wp2
    go_ret
    exact ⟨rfl, rfl⟩

set_option maxHeartbeats 400000 in
theorem heldIntsS_walk (w : World) (b off cap n : Nat) (k : Int) (ns : List Nat) (u : Nat → Value) (hns : ns.length = n) (hk0 : 0 ≤ k) (hk : k + (ns.sum : Nat) ≤ 4611686018427387904) (hn2 : n ≤ 9223372036854775807)
    (hc : ∀ i : Nat, i < n → w.cell? ⟨b, off + i, none⟩ = some (u i) ∧ Ints w (u i) (marks (k + (upto ns i : Nat)) (ns[i]?.getD 0))) :
    Calls Try.prog 35 #[.slice (some ⟨b, off, none⟩) n cap, .int .i64 k] w fun e w' => e = .returned (.int .i64 (k + (ns.sum : Nat))) ∧ w' = w := by
  have HN : Hid (ns.length = n) := hns
  clear hns
  go_enter Try.func35, Try.ntmps35
  go_wp2
  go_loop [1, 5] (fun q i => ∃ j : Nat, j ≤ n ∧ i = .int .i64 j ∧ q = .int .i64 (k + (upto ns j : Nat))) (fun _ i => n - (intOf i).toNat)
  case atStart => exact ⟨0, Nat.zero_le _, rfl, by simp [upto_zero]⟩
  case round =>
    obtain ⟨j, hj, rfl, rfl⟩ := hrel
    by_cases hlt : j < n
    · obtain ⟨c1, i1⟩ := hc j hlt
      clear hc
      have hs := upto_succ ns j (by rw [HN.out]; exact hlt)
      have hle := upto_le ns (j + 1)
      have HS : Hid (upto ns (j + 1) = upto ns j + ns[j]?.getD 0) := hs
      clear hs
      generalize upto ns j = U at *
      have HI : Hid (Ints w (u j) (marks (k + (U : Int)) (ns[j]?.getD 0))) := i1
      clear i1
      have hlo : ¬ (k + (U : Int) + ((ns[j]?.getD 0 : Nat) : Int)) < 0 := by omega
      go_wp2_with fail
      refine (heldInts_any (k + (U : Int)) (ns[j]?.getD 0) HI.out (by omega) (by have := HS.out; omega)).mono ?_
      rintro e w' ⟨rfl, rfl⟩
      go_wp2
      go_round
      case rel => exact ⟨j + 1, by omega, by go_num, by rw [HS.out]; go_num⟩
      case measure => simp [intOf]; omega
    · go_wp2
      go_ret
      have e : j = n := by omega
      subst e
      exact ⟨ret_int (by rw [← HN.out, ← upto_all]), rfl⟩

theorem heldIntsS_any {w : World} {v : Value} (k : Int) (ns : List Nat) (h : IntsS w v (marksS k ns)) (hk0 : 0 ≤ k) (hk : k + (ns.sum : Nat) ≤ 4611686018427387904) :
    Calls Try.prog 35 #[v, .int .i64 k] w fun e w' => e = .returned (.int .i64 (k + (ns.sum : Nat))) ∧ w' = w := by
  rcases h with ⟨h0, a, cap, rfl⟩ | ⟨b, off, cap, u, hv, hl, hr⟩
  · have : ns = [] := by have := marksS_length ns k; rw [h0] at this; cases ns <;> simp at this ⊢
    subst this
    exact (heldIntsS_nil w a cap k).mono fun e w' ⟨he, hw⟩ => ⟨by rw [he]; simp, hw⟩
  · rw [marksS_length] at hv hr hl
    subst hv
    exact heldIntsS_walk w b off cap ns.length k ns u rfl hk0 hk (by unfold maxLen at hl; omega) fun i hi => ⟨(hr i hi).1, by have := (hr i hi).2; rwa [marksS_get _ _ _ hi] at this⟩
end Go.Proofs.Ytlohgnidbkechaa

namespace Go.Proofs.Ytlohgnidbkechaa
open Go.RowKit
set_option maxRecDepth 100000

set_option maxHeartbeats 400000 in
theorem markPuts_nil (w : World) (a : Option Addr) (cap : Nat) (k : Int) :
    Calls Try.prog 34 #[.slice a 0 cap, .int .i64 k] w fun e w' => e = .returned (.int .i64 k) ∧ w' = w := by
  go_enter Try.func34, Try.ntmps34
  go_wp2
  go_loop [1, 5] (fun q i => i = .int .i64 0 ∧ q = .int .i64 k) (fun _ _ => 0)
  case atStart => exact ⟨rfl, rfl⟩
  case round =>
    obtain ⟨rfl, rfl⟩ := hrel
    go_wp2
    go_ret
    exact ⟨rfl, rfl⟩

/-- The number that stands ahead of put i. -/
def pnum (k : Int) (ps : List (Int × List Int)) (i : Nat) : Int := k + i + (upto (wlens ps) i : Nat)
def halfA (k : Int) (ps : List (Int × List Int)) (j i : Nat) : Int := if i < j then pnum k ps i else (ps[i]?.getD (0, [])).1
def halfW (k : Int) (ps : List (Int × List Int)) (j i : Nat) : List Int := if i < j then marks (pnum k ps i + 1) (ps[i]?.getD (0, [])).2.length else (ps[i]?.getD (0, [])).2
def halfCell (k : Int) (ps : List (Int × List Int)) (u : Nat → Value) (j c : Nat) : Value := if c % 2 = 0 then .int .i64 (halfA k ps j (c / 2)) else u (c / 2)
theorem halfCell_at (k : Int) (ps : List (Int × List Int)) (u : Nat → Value) (j i : Nat) : halfCell k ps u j (i * 2) = .int .i64 (halfA k ps j i) := by
  unfold halfCell; rw [if_pos (by omega), show i * 2 / 2 = i by omega]
theorem halfCell_words (k : Int) (ps : List (Int × List Int)) (u : Nat → Value) (j i : Nat) : halfCell k ps u j (i * 2 + 1) = u i := by
  unfold halfCell; rw [if_neg (by omega), show (i * 2 + 1) / 2 = i by omega]
theorem halfCell_next (k : Int) (ps : List (Int × List Int)) (u : Nat → Value) (j c : Nat) : (if c = j * 2 then .int .i64 (pnum k ps j) else halfCell k ps u j c) = halfCell k ps u (j + 1) c := by
  by_cases e : c = j * 2
  · subst e; rw [if_pos rfl, halfCell_at]; simp [halfA]
  · rw [if_neg e]
    unfold halfCell halfA
    by_cases e2 : c % 2 = 0
    · rw [if_pos e2, if_pos e2]
      have hne : c / 2 ≠ j := by omega
      by_cases e3 : c / 2 < j
      · rw [if_pos e3, if_pos (by omega)]
      · rw [if_neg e3, if_neg (by omega)]
    · rw [if_neg e2, if_neg e2]

set_option maxHeartbeats 800000 in
theorem markPuts_walk (w : World) (b cap n : Nat) (k : Int) (F : Nat → Prop) (ps : List (Int × List Int)) (u : Nat → Value) (G : Nat → Nat → Prop) (hF : F b) (hG : ∀ i c, G i c → F c ∧ c ≠ b) (hGG : ∀ i j c, i ≠ j → G i c → ¬ G j c)
    (hn : ps.length = n) (hk0 : 0 ≤ k) (hk : k + (n : Int) + ((wlens ps).sum : Nat) ≤ 4611686018427387904) (hn2 : n ≤ 9223372036854775807) (hr : OwnRow w b (n * 2) (putCell ps u)) (hu : ∀ i, i < n → IntsO w (u i) (ps[i]?.getD (0, [])).2 (G i)) :
    Calls Try.prog 34 #[.slice (some ⟨b, 0, none⟩) n cap, .int .i64 k] w fun e w' => e = .returned (.int .i64 (k + (n : Int) + ((wlens ps).sum : Nat))) ∧ OwnRow w' b (n * 2) (halfCell k ps u n) ∧ (∀ i, i < n → IntsO w' (u i) (halfW k ps n i) (G i)) ∧ Chg F w w' := by
  have HR : Hid (OwnRow w b (n * 2) (putCell ps u)) := hr
  have HU : Hid (∀ i, i < n → IntsO w (u i) (ps[i]?.getD (0, [])).2 (G i)) := hu
  have HF : Hid (F b) := hF
  have HG : Hid (∀ i c, G i c → F c ∧ c ≠ b) := hG
  have HGG : Hid (∀ i j c, i ≠ j → G i c → ¬ G j c) := hGG
  have HN : Hid (ps.length = n) := hn
  clear hr hu hG hGG hn hF
  go_enter Try.func34, Try.ntmps34
  go_wp2
  go_loopw [1, 5] (fun q i wr => ∃ j : Nat, j ≤ n ∧ i = .int .i64 j ∧ q = .int .i64 (pnum k ps j) ∧ OwnRow wr b (n * 2) (halfCell k ps u j) ∧ (∀ i, i < n → IntsO wr (u i) (halfW k ps j i) (G i)) ∧ Chg F w wr) (fun _ i _ => n - (intOf i).toNat)
  case atStart => exact ⟨0, Nat.zero_le _, rfl, by simp [pnum, upto_zero], HR.out.congr fun i _ => by simp [putCell, halfCell, halfA], fun i hi => by simpa [halfW] using HU.out i hi, Chg.refl _ _⟩
  case round =>
    obtain ⟨j, hj, rfl, rfl, hrow, hin, hch⟩ := hrel
    by_cases hlt : j < n
    · have c1 := hrow.cell (i := j * 2) (by omega)
      have c2 := hrow.cell (i := j * 2 + 1) (by omega)
      have c3 := hrow.frozen (j * 2)
      rw [halfCell_at] at c1
      rw [halfCell_words] at c2
      have c1' : ∃ q, wr.cell? ⟨b, j * 2, none⟩ = some (.int .i64 q) := ⟨_, c1⟩
      clear c1
      obtain ⟨old, c1⟩ := c1'
      have HROW : Hid (OwnRow wr b (n * 2) (halfCell k ps u j)) := hrow
      have HIN : Hid (∀ i, i < n → IntsO wr (u i) (halfW k ps j i) (G i)) := hin
      have HCH : Hid (Chg F w wr) := hch
      clear hrow hin hch
      have hs := upto_succ (wlens ps) j (by rw [wlens_length, HN.out]; exact hlt)
      rw [wlens_get] at hs
      have hle := upto_le (wlens ps) (j + 1)
      have hp0 : 0 ≤ pnum k ps j := by unfold pnum; omega
      have hp1 : pnum k ps j + 1 + ((ps[j]?.getD (0, [])).2.length : Int) ≤ 4611686018427387904 := by unfold pnum; omega
      have HS : Hid (pnum k ps (j + 1) = pnum k ps j + 1 + ((ps[j]?.getD (0, [])).2.length : Int)) := by unfold Hid pnum; omega
      clear hs hle
      have HIJ : Hid (IntsO wr (u j) (ps[j]?.getD (0, [])).2 (G j)) := by have := HIN.out j hlt; unfold Hid; simpa [halfW] using this
      go_wp2_with fail
      refine (markInts_any (pnum k ps j + 1) (HIJ.out.keep (w' := wr.setCell ⟨b, j * 2, none⟩ (.int .i64 (pnum k ps j))) fun c hc _ => Below.heap_setCell _ _ _ _ (HG.out j c hc).2) (by omega) (by omega)).mono ?_
      rintro e w' ⟨rfl, hm, hc⟩
      have HM : Hid (IntsO w' (u j) (marks (pnum k ps j + 1) (ps[j]?.getD (0, [])).2.length) (G j)) := hm
      have HC : Hid (Chg (G j) (wr.setCell ⟨b, j * 2, none⟩ (.int .i64 (pnum k ps j))) w') := hc
      clear hm hc
      go_wp2
      go_roundw
      case rel =>
        refine ⟨j + 1, by omega, by go_num, by rw [HS.out], ?_, fun i hi => ?_, (HCH.out.set HF.out _ _).trans (HC.out.mono fun c hc => (HG.out j c hc).1)⟩
        · have h1 := (HROW.out.set (j * 2) (.int .i64 (pnum k ps j))).congr (g := halfCell k ps u (j + 1)) fun c _ => halfCell_next k ps u j c
          exact h1.block (HC.out.block b h1.lt (fun h => (HG.out j b h).2 rfl))
        · by_cases e : i = j
          · subst e
            have := HM.out
            simpa [halfW] using this
          · have h1 := (HIN.out i hi).keep (w' := w') fun c hc hlt => (HC.out.block c (by simpa [World.setCell] using hlt) (HGG.out i j c e hc)).trans (Below.heap_setCell _ _ _ _ (HG.out i c hc).2)
            have h2 : halfW k ps (j + 1) i = halfW k ps j i := by
              unfold halfW
              by_cases e2 : i < j
              · rw [if_pos e2, if_pos (by omega)]
              · rw [if_neg e2, if_neg (by omega)]
            rw [h2]; exact h1
      case measure => simp [intOf]; omega
    · go_wp2
      go_ret
      have e : j = n := by omega
      subst e
      exact ⟨ret_int (by have := upto_all (wlens ps); rw [wlens_length, HN.out] at this; unfold pnum; rw [this]), hrow, hin, hch⟩

theorem markPuts_any {w : World} {v : Value} {ps : List (Int × List Int)} {F : Nat → Prop} (k : Int) (h : PutsO w v ps F) (hk0 : 0 ≤ k) (hk : k + (ps.length : Int) + ((wlens ps).sum : Nat) ≤ 4611686018427387904) :
    Calls Try.prog 34 #[v, .int .i64 k] w fun e w' => e = .returned (.int .i64 (k + (ps.length : Int) + ((wlens ps).sum : Nat))) ∧ PutsO w' v (marksP k (wlens ps)) F ∧ Chg F w w' := by
  rcases h with ⟨rfl, a, cap, rfl⟩ | ⟨b, cap, u, G, hF, hG, hGG, rfl, hl, hr, hu⟩
  · exact (markPuts_nil w a cap k).mono fun e w' ⟨he, hw⟩ => ⟨by rw [he]; simp [wlens], Or.inl ⟨rfl, a, cap, rfl⟩, hw ▸ Chg.refl _ _⟩
  · refine (markPuts_walk w b cap ps.length k F ps u G hF hG hGG rfl hk0 hk (by unfold maxLen at hl; omega) hr hu).mono fun e w' ⟨he, hrow, hin, hch⟩ => ⟨he, Or.inr ⟨b, cap, u, G, hF, hG, hGG, ?_, ?_, ?_, ?_⟩, hch⟩
    · rw [marksP_length, wlens_length]
    · rw [marksP_length, wlens_length]; exact hl
    · rw [marksP_length, wlens_length]
      refine hrow.congr fun c hc => ?_
      unfold halfCell putCell halfA
      by_cases e2 : c % 2 = 0
      · rw [if_pos e2, if_pos e2, if_pos (by omega), marksP_get _ _ _ (by rw [wlens_length]; omega)]; rfl
      · rw [if_neg e2, if_neg e2]
    · intro i hi
      rw [marksP_length, wlens_length] at hi
      have := hin i hi
      rw [marksP_get _ _ _ (by rw [wlens_length]; exact hi), wlens_get]
      simpa [halfW, hi, pnum] using this

set_option maxHeartbeats 400000 in
theorem heldPuts_nil (w : World) (a : Option Addr) (cap : Nat) (k : Int) :
    Calls Try.prog 36 #[.slice a 0 cap, .int .i64 k] w fun e w' => e = .returned (.int .i64 k) ∧ w' = w := by
  go_enter Try.func36, Try.ntmps36
  go_wp2
  go_loop [1, 5] (fun q i => i = .int .i64 0 ∧ q = .int .i64 k) (fun _ _ => 0)
  case atStart => exact ⟨rfl, rfl⟩
  case round =>
    obtain ⟨rfl, rfl⟩ := hrel
    go_wp2
    go_ret
    exact ⟨rfl, rfl⟩

set_option maxHeartbeats 800000 in
theorem heldPuts_walk (w : World) (b off cap n : Nat) (k : Int) (ns : List Nat) (u : Nat → Value) (hns : ns.length = n) (hk0 : 0 ≤ k) (hk : k + (n : Int) + (ns.sum : Nat) ≤ 4611686018427387904) (hn2 : n ≤ 9223372036854775807)
    (hc : ∀ i : Nat, i < n → w.cell? ⟨b, off + i * 2, none⟩ = some (.int .i64 (k + i + (upto ns i : Nat))) ∧ w.cell? ⟨b, off + i * 2 + 1, none⟩ = some (u i) ∧ Ints w (u i) (marks (k + i + (upto ns i : Nat) + 1) (ns[i]?.getD 0))) :
    Calls Try.prog 36 #[.slice (some ⟨b, off, none⟩) n cap, .int .i64 k] w fun e w' => e = .returned (.int .i64 (k + (n : Int) + (ns.sum : Nat))) ∧ w' = w := by
  have HN : Hid (ns.length = n) := hns
  clear hns
  go_enter Try.func36, Try.ntmps36
  go_wp2
  go_loop [1, 5] (fun q i => ∃ j : Nat, j ≤ n ∧ i = .int .i64 j ∧ q = .int .i64 (k + j + (upto ns j : Nat))) (fun _ i => n - (intOf i).toNat)
  case atStart => exact ⟨0, Nat.zero_le _, rfl, by simp [upto_zero]⟩
  case round =>
    obtain ⟨j, hj, rfl, rfl⟩ := hrel
    by_cases hlt : j < n
    · obtain ⟨c1, c2, i1⟩ := hc j hlt
      clear hc
      have hs := upto_succ ns j (by rw [HN.out]; exact hlt)
      have hle := upto_le ns (j + 1)
      have hp0 : 0 ≤ k + j + (upto ns j : Nat) := by omega
      have hp1 : k + j + (upto ns j : Nat) + 1 + (ns[j]?.getD 0 : Nat) ≤ 4611686018427387904 := by omega
      have HS : Hid (k + ((j + 1 : Nat) : Int) + (upto ns (j + 1) : Nat) = k + j + (upto ns j : Nat) + 1 + (ns[j]?.getD 0 : Nat)) := by unfold Hid; omega
      clear hs hle
      generalize k + j + ((upto ns j : Nat) : Int) = U at *
      have HI : Hid (Ints w (u j) (marks (U + 1) (ns[j]?.getD 0))) := i1
      clear i1
      have hne : (U != U) = false := by simp
      have hlo : ¬ (U + 1 + ((ns[j]?.getD 0 : Nat) : Int)) < 0 := by omega
      go_wp2_with fail
      refine (heldInts_any (U + 1) (ns[j]?.getD 0) HI.out (by omega) (by omega)).mono ?_
      rintro e w' ⟨rfl, rfl⟩
      go_wp2
      go_round
      case rel => exact ⟨j + 1, by omega, by go_num, by rw [HS.out]⟩
      case measure => simp [intOf]; omega
    · go_wp2
      go_ret
      have e : j = n := by omega
      subst e
      exact ⟨ret_int (by have := upto_all ns; rw [HN.out] at this; rw [this]), rfl⟩

theorem heldPuts_any {w : World} {v : Value} (k : Int) (ns : List Nat) (h : Puts w v (marksP k ns)) (hk0 : 0 ≤ k) (hk : k + (ns.length : Int) + (ns.sum : Nat) ≤ 4611686018427387904) :
    Calls Try.prog 36 #[v, .int .i64 k] w fun e w' => e = .returned (.int .i64 (k + (ns.length : Int) + (ns.sum : Nat))) ∧ w' = w := by
  rcases h with ⟨h0, a, cap, rfl⟩ | ⟨b, off, cap, u, hv, hl, hr⟩
  · have : ns = [] := by have := marksP_length ns k; rw [h0] at this; cases ns <;> simp at this ⊢
    subst this
    exact (heldPuts_nil w a cap k).mono fun e w' ⟨he, hw⟩ => ⟨by rw [he]; simp, hw⟩
  · rw [marksP_length] at hv hr hl
    subst hv
    refine heldPuts_walk w b off cap ns.length k ns u rfl hk0 hk (by unfold maxLen at hl; omega) fun i hi => ?_
    have := hr i hi
    rw [marksP_get _ _ _ hi] at this
    exact this


theorem markDisk_any (w : World) (va vc : Value) (bs : List (List Int)) (ps : List (Int × List Int)) (F G : Nat → Prop) (k : Int) (h1 : IntsSO w va bs F) (h2 : PutsO w vc ps G) (hd : ∀ b, F b → ¬ G b) (hk0 : 0 ≤ k) (hk : k + (dspan bs ps : Nat) ≤ 4611686018427387904) :
    Calls Try.prog 19 #[.agg #[va, vc], .int .i64 k] w fun e w' => e = .returned (.int .i64 (k + (dspan bs ps : Nat))) ∧ IntsSO w' va (marksS k (bs.map List.length)) F ∧ PutsO w' vc (marksP (k + ((bs.map List.length).sum : Nat)) (wlens ps)) G ∧ Chg (fun b => F b ∨ G b) w w' := by
  have H1 : Hid (IntsSO w va bs F) := h1
  have H2 : Hid (PutsO w vc ps G) := h2
  have HD : Hid (∀ b, F b → ¬ G b) := hd
  clear h1 h2 hd
  unfold dspan at hk ⊢
  have hk1 : k + ((bs.map List.length).sum : Nat) + (ps.length : Int) + ((wlens ps).sum : Nat) ≤ 4611686018427387904 := by omega
  have HE : Hid (k + (((bs.map List.length).sum + ps.length + (wlens ps).sum : Nat) : Int) = k + ((bs.map List.length).sum : Nat) + (ps.length : Int) + ((wlens ps).sum : Nat)) := by unfold Hid; omega
  rw [HE.out]
  go_enter Try.func19, Try.ntmps19
  go_wp2_with fail
  refine (markIntsS_any k (H1.out.bound.keep fun b hb hlt => (later1 _ _).block b hlt) hk0 (by omega)).mono ?_
  rintro e w1 ⟨rfl, hm, hc⟩
  have c1 : w1.cell? ⟨w.heap.size, 1, none⟩ = some vc := by
    rw [World.cell?_of_block (w := w.alloc (.cells #[va, vc] 25)) (box_later hc fun b hb => hb.2), new_cell]; rfl
  have HM : Hid (IntsSO w1 va (marksS k (bs.map List.length)) (fun b => F b ∧ b < w.heap.size)) := hm
  have HC : Hid (Chg (fun b => F b ∧ b < w.heap.size) (w.alloc (.cells #[va, vc] 25)) w1) := hc
  have H2' : Hid (PutsO w1 vc ps (fun b => G b ∧ b < w.heap.size)) := H2.out.bound.keep fun b hb hlt => (HC.out.block b (by simp; omega) (fun h => HD.out b h.1 hb.1)).trans ((later1 _ _).block b hlt)
  clear hm hc
  go_wp2_with fail
  refine (markPuts_any _ H2'.out (by omega) hk1).mono ?_
  rintro e w2 ⟨rfl, hm2, hc2⟩
  have HM2 : Hid (PutsO w2 vc (marksP (k + ((bs.map List.length).sum : Nat)) (wlens ps)) (fun b => G b ∧ b < w.heap.size)) := hm2
  have HC2 : Hid (Chg (fun b => G b ∧ b < w.heap.size) w1 w2) := hc2
  clear hm2 hc2
  go_wp2
  go_ret
  refine ⟨rfl, (HM.out.keep fun b hb hlt => HC2.out.block b hlt (fun h => HD.out b hb.1 h.1)).mono fun b hb => hb.1, HM2.out.mono fun b hb => hb.1, ?_⟩
  exact (Chg.of_below (later1 _ _)).trans ((HC.out.mono fun b hb => Or.inl hb.1).trans (HC2.out.mono fun b hb => Or.inr hb.1))

theorem heldDisk_any (w : World) (va vc : Value) (ns ms : List Nat) (k : Int) (h1 : IntsS w va (marksS k ns)) (h2 : Puts w vc (marksP (k + (ns.sum : Nat)) ms)) (hk0 : 0 ≤ k) (hk : k + (ns.sum : Nat) + (ms.length : Int) + (ms.sum : Nat) ≤ 4611686018427387904) :
    Calls Try.prog 20 #[.agg #[va, vc], .int .i64 k] w fun e w' => e = .returned (.int .i64 (k + (ns.sum : Nat) + (ms.length : Int) + (ms.sum : Nat))) ∧ Below w.heap.size w w' := by
  have H1 : Hid (IntsS w va (marksS k ns)) := h1
  have H2 : Hid (Puts w vc (marksP (k + (ns.sum : Nat)) ms)) := h2
  clear h1 h2
  have l1 : ¬ (k + (ns.sum : Nat) < 0) := by omega
  have l2 : ¬ (k + (ns.sum : Nat) + (ms.length : Int) + (ms.sum : Nat) < 0) := by omega
  go_enter Try.func20, Try.ntmps20
  go_wp2_with fail
  refine (heldIntsS_any k ns (H1.out.later (later1 _ _)) hk0 (by omega)).mono ?_
  rintro e w1 ⟨rfl, rfl⟩
  go_wp2_with fail
  refine (heldPuts_any _ ms (H2.out.later (later1 _ _)) (by omega) hk).mono ?_
  rintro e w1 ⟨rfl, rfl⟩
  go_wp2
  go_ret
  exact ⟨rfl, later1 _ _⟩

theorem markDiskResult_any (w : World) (c : Int) (va vc : Value) (bs : List (List Int)) (ps : List (Int × List Int)) (F G : Nat → Prop) (k : Int) (h1 : IntsSO w va bs F) (h2 : PutsO w vc ps G) (hd : ∀ b, F b → ¬ G b) (hk0 : 0 ≤ k) (hk : k + (dspan bs ps : Nat) ≤ 4611686018427387904) :
    Calls Try.prog 7 #[.agg #[.int .i64 c, va, vc], .int .i64 k] w fun e w' => e = .returned (.int .i64 (k + (dspan bs ps : Nat))) ∧ IntsSO w' va (marksS k (bs.map List.length)) F ∧ PutsO w' vc (marksP (k + ((bs.map List.length).sum : Nat)) (wlens ps)) G ∧ Chg (fun b => F b ∨ G b) w w' := by
  have H1 : Hid (IntsSO w va bs F) := h1
  have H2 : Hid (PutsO w vc ps G) := h2
  have HD : Hid (∀ b, F b → ¬ G b) := hd
  clear h1 h2 hd
  go_enter Try.func7, Try.ntmps7
  go_wp2_with fail
  refine (markDisk_any _ _ _ bs ps F G k (H1.out.keep fun b hb hlt => (later1 _ _).block b hlt) (H2.out.keep fun b hb hlt => (later1 _ _).block b hlt) HD.out hk0 hk).mono ?_
  rintro e w1 ⟨rfl, hm, hm2, hc⟩
  have HM : Hid (IntsSO w1 va (marksS k (bs.map List.length)) F) := hm
  have HM2 : Hid (PutsO w1 vc (marksP (k + ((bs.map List.length).sum : Nat)) (wlens ps)) G) := hm2
  have HC : Hid (Chg (fun b => F b ∨ G b) (w.alloc (.cells #[.int .i64 c, va, vc] 27)) w1) := hc
  clear hm hm2 hc
  go_wp2
  go_ret
  exact ⟨rfl, HM.out, HM2.out, (Chg.of_below (later1 _ _)).trans HC.out⟩

theorem heldDiskResult_any (w : World) (c : Int) (va vc : Value) (ns ms : List Nat) (k : Int) (h1 : IntsS w va (marksS k ns)) (h2 : Puts w vc (marksP (k + (ns.sum : Nat)) ms)) (hk0 : 0 ≤ k) (hk : k + (ns.sum : Nat) + (ms.length : Int) + (ms.sum : Nat) ≤ 4611686018427387904) :
    Calls Try.prog 8 #[.agg #[.int .i64 c, va, vc], .int .i64 k] w fun e w' => e = .returned (.int .i64 (k + (ns.sum : Nat) + (ms.length : Int) + (ms.sum : Nat))) ∧ Below w.heap.size w w' := by
  have H1 : Hid (IntsS w va (marksS k ns)) := h1
  have H2 : Hid (Puts w vc (marksP (k + (ns.sum : Nat)) ms)) := h2
  clear h1 h2
  have l2 : ¬ (k + (ns.sum : Nat) + (ms.length : Int) + (ms.sum : Nat) < 0) := by omega
  go_enter Try.func8, Try.ntmps8
  go_wp2_with fail
  refine (heldDisk_any _ _ _ ns ms k (H1.out.later (later1 _ _)) (H2.out.later (later1 _ _)) hk0 hk).mono ?_
  rintro e w1 ⟨rfl, hb⟩
  go_wp2
  go_ret
  exact ⟨rfl, (later1 _ _).trans (hb.mono (by simp))⟩


/-- Marked, a disk holds. -/
structure Marked (w : World) (vB vC : Value) (bs : List (List Int)) (ps : List (Int × List Int)) (k : Int) (F : Nat → Prop) : Prop where
  disk : DiskO w vB vC (marksS k (bs.map List.length)) (marksP (k + ((bs.map List.length).sum : Nat)) (wlens ps)) F
theorem Marked.later {w w' : World} {vB vC : Value} {bs : List (List Int)} {ps : List (Int × List Int)} {k : Int} {F : Nat → Prop} (h : Marked w vB vC bs ps k F) (hb : Below w.heap.size w w') : Marked w' vB vC bs ps k F := ⟨h.disk.later hb⟩

theorem markRes (w : World) (c : Int) (vB vC : Value) (bs : List (List Int)) (ps : List (Int × List Int)) (F : Nat → Prop) (k : Int) (h : DiskO w vB vC bs ps F) (hk0 : 0 ≤ k) (hk : k + (dspan bs ps : Nat) ≤ 4611686018427387904) :
    Calls Try.prog 7 #[.agg #[.int .i64 c, vB, vC], .int .i64 k] w fun e w' => e = .returned (.int .i64 (k + (dspan bs ps : Nat))) ∧ Marked w' vB vC bs ps k F ∧ Chg F w w' := by
  obtain ⟨F1, G1, h1, h2, hd, hf⟩ := h
  exact (markDiskResult_any w c vB vC bs ps F1 G1 k h1 h2 hd hk0 hk).mono fun e w' ⟨he, a, b, hc⟩ => ⟨he, ⟨F1, G1, a, b, hd, hf⟩, hc.mono hf⟩
theorem heldRes (w : World) (c : Int) (vB vC : Value) (bs : List (List Int)) (ps : List (Int × List Int)) (F : Nat → Prop) (k : Int) (h : Marked w vB vC bs ps k F) (hk0 : 0 ≤ k) (hk : k + (dspan bs ps : Nat) ≤ 4611686018427387904) :
    Calls Try.prog 8 #[.agg #[.int .i64 c, vB, vC], .int .i64 k] w fun e w' => e = .returned (.int .i64 (k + (dspan bs ps : Nat))) ∧ Below w.heap.size w w' := by
  unfold dspan at hk ⊢
  refine (heldDiskResult_any w c vB vC _ (wlens ps) k h.disk.ints h.disk.puts hk0 (by rw [wlens_length]; omega)).mono fun e w' ⟨he, hb⟩ => ⟨he.trans (ret_int ?_), hb⟩
  rw [wlens_length]; omega

end Go.Proofs.Ytlohgnidbkechaa

namespace Go.Proofs.Ytlohgnidbkechaa
open Go.RowKit
set_option maxRecDepth 100000

/-- What came between w and w'. -/
def fresh (w w' : World) (b : Nat) : Prop := w.heap.size ≤ b ∧ b < w'.heap.size

/-- The first j lists stand, list i in the blocks from s i up to s (i + 1), none below lo. -/
structure Built (w : World) (lo j : Nat) (u : Nat → Value) (f : Nat → List Int) (s : Nat → Nat) : Prop where
  lo : lo ≤ s 0
  mono : ∀ i, i < j → s i ≤ s (i + 1)
  hi : s j ≤ w.heap.size
  at' : ∀ i, i < j → IntsO w (u i) (f i) (fun b => s i ≤ b ∧ b < s (i + 1))

theorem Built.nil {w : World} {lo : Nat} (u : Nat → Value) (f : Nat → List Int) (h : lo ≤ w.heap.size) : Built w lo 0 u f (fun _ => w.heap.size) :=
  ⟨h, fun i hi => by omega, Nat.le_refl _, fun i hi => by omega⟩
theorem Built.le {w : World} {lo j : Nat} {u : Nat → Value} {f : Nat → List Int} {s : Nat → Nat} (h : Built w lo j u f s) : ∀ i k, i ≤ k → k ≤ j → s i ≤ s k := by
  intro i k hik
  induction k with
  | zero => intro _; have : i = 0 := by omega
            subst this; exact Nat.le_refl _
  | succ k ih =>
    intro hk
    by_cases e : i = k + 1
    · subst e; exact Nat.le_refl _
    · exact Nat.le_trans (ih (by omega) (by omega)) (h.mono k (by omega))
theorem Built.low {w : World} {lo j : Nat} {u : Nat → Value} {f : Nat → List Int} {s : Nat → Nat} (h : Built w lo j u f s) (i : Nat) (hi : i ≤ j) : lo ≤ s i := Nat.le_trans h.lo (h.le 0 i (Nat.zero_le _) hi)
theorem Built.keep {w w' : World} {lo j : Nat} {u : Nat → Value} {f : Nat → List Int} {s : Nat → Nat} (h : Built w lo j u f s) (hs : w.heap.size ≤ w'.heap.size) (e : ∀ b, lo ≤ b → b < w.heap.size → w'.heap[b]? = w.heap[b]?) : Built w' lo j u f s :=
  ⟨h.lo, h.mono, Nat.le_trans h.hi hs, fun i hi => (h.at' i hi).keep fun b hb hlt => e b (Nat.le_trans (h.low i (by omega)) hb.1) hlt⟩
theorem Built.later {w w' : World} {lo j : Nat} {u : Nat → Value} {f : Nat → List Int} {s : Nat → Nat} (h : Built w lo j u f s) (hb : Below w.heap.size w w') : Built w' lo j u f s := h.keep hb.size fun b _ hlt => hb.block b hlt
theorem Built.store {w : World} {lo j : Nat} {u : Nat → Value} {f : Nat → List Int} {s : Nat → Nat} (h : Built w lo j u f s) {p : Addr} (hp : p.block < lo) (v : Value) : Built (w.setCell p v) lo j u f s :=
  h.keep (by simp [World.setCell]) fun b hb _ => Below.heap_setCell _ _ _ _ (by omega)
theorem Built.next {w w' : World} {lo j : Nat} {u : Nat → Value} {f : Nat → List Int} {s : Nat → Nat} {v : Value} (h : Built w lo j u f s) (hb : Below w.heap.size w w') (hv : IntsO w' v (f j) (fresh w w')) :
    Built w' lo (j + 1) (fun i => if i = j then v else u i) f (fun i => if i ≤ j then s i else w'.heap.size) := by
  have h' := h.later hb
  have en : ∀ i : Nat, ¬ i + 1 ≤ i := fun i => by omega
  refine ⟨by simpa using h.lo, fun i hi => ?_, by simp [en], fun i hi => ?_⟩
  · by_cases e : i = j
    · subst e; simp [en]; exact h'.hi
    · simp [show i ≤ j by omega, show i + 1 ≤ j by omega]; exact h.mono i (by omega)
  · by_cases e : i = j
    · subst e
      simp [en]
      exact hv.mono fun b hb => ⟨Nat.le_trans h.hi hb.1, hb.2⟩
    · simp [e, show i ≤ j by omega, show i + 1 ≤ j by omega]
      exact h'.at' i (by omega)
theorem Built.apart {w : World} {lo n : Nat} {u : Nat → Value} {f : Nat → List Int} {s : Nat → Nat} (h : Built w lo n u f s) (i j c : Nat) (e : i ≠ j) (h1 : i < n ∧ s i ≤ c ∧ c < s (i + 1)) (h2 : j < n ∧ s j ≤ c ∧ c < s (j + 1)) : False := by
  rcases Nat.lt_or_gt_of_ne e with h3 | h3
  · have := h.le (i + 1) j (by omega) (by omega); omega
  · have := h.le (j + 1) i (by omega) (by omega); omega
theorem Built.ints {w : World} {lo n b cap : Nat} {u : Nat → Value} {f : Nat → List Int} {s : Nat → Nat} (h : Built w lo n u f s) (zss : List (List Int)) (hn : zss.length = n) (hf : ∀ i, i < n → f i = zss[i]?.getD []) (hm : n ≤ maxLen) (hb : b < lo) (hr : OwnRow w b n u) (F : Nat → Prop) (hF : F b) (hF' : ∀ c, lo ≤ c → c < w.heap.size → F c) :
    IntsSO w (.slice (some ⟨b, 0, none⟩) n cap) zss F := by
  subst hn
  refine Or.inr ⟨b, cap, u, fun i c => i < zss.length ∧ s i ≤ c ∧ c < s (i + 1), hF, fun i c hc => ?_, fun i j c e h1 h2 => h.apart i j c e h1 h2, rfl, hm, hr, fun i hi => ?_⟩
  · have h1 := h.low i (by omega)
    have h2 := h.le (i + 1) zss.length (by omega) (Nat.le_refl _)
    have h3 := h.hi
    exact ⟨hF' c (by omega) (by omega), by omega⟩
  · rw [← hf i hi]
    exact (h.at' i hi).mono fun c hc => ⟨hi, hc⟩
theorem Built.puts {w : World} {lo n b cap : Nat} {u : Nat → Value} {f : Nat → List Int} {s : Nat → Nat} (h : Built w lo n u f s) (ps : List (Int × List Int)) (hn : ps.length = n) (hf : ∀ i, i < n → f i = (ps[i]?.getD (0, [])).2) (hm : n ≤ maxLen) (hb : b < lo) (hr : OwnRow w b (n * 2) (putCell ps u)) (F : Nat → Prop) (hF : F b) (hF' : ∀ c, lo ≤ c → c < w.heap.size → F c) :
    PutsO w (.slice (some ⟨b, 0, none⟩) n cap) ps F := by
  subst hn
  refine Or.inr ⟨b, cap, u, fun i c => i < ps.length ∧ s i ≤ c ∧ c < s (i + 1), hF, fun i c hc => ?_, fun i j c e h1 h2 => h.apart i j c e h1 h2, rfl, hm, hr, fun i hi => ?_⟩
  · have h1 := h.low i (by omega)
    have h2 := h.le (i + 1) ps.length (by omega) (Nat.le_refl _)
    have h3 := h.hi
    exact ⟨hF' c (by omega) (by omega), by omega⟩
  · rw [← hf i hi]
    exact (h.at' i hi).mono fun c hc => ⟨hi, hc⟩

theorem OwnRow.made (w : World) (z : Value) (n : Nat) (t : TypeId) : OwnRow (w.alloc (.cells (madeCells #[z] n) t)) w.heap.size n (fun _ => z) := by
  obtain ⟨c, h1, h2, h3⟩ := World.rowIs_made w z n t
  exact ⟨c, t, h1, by omega, h3⟩
theorem bcell {W w1 : World} (hb : Below W.heap.size W w1) : (∀ b o, b < W.heap.size → w1.cell? ⟨b, o, none⟩ = W.cell? ⟨b, o, none⟩) ∧ (∀ b o, b < W.heap.size → w1.frozen? ⟨b, o, none⟩ = W.frozen? ⟨b, o, none⟩) :=
  ⟨fun b o h => hb.cell (p := ⟨b, o, none⟩) h, fun b o h => hb.frozen (p := ⟨b, o, none⟩) h⟩
theorem later3 (w : World) (o o' o'' : Obj) : Below w.heap.size w (((w.alloc o).alloc o').alloc o'') := (later2 w o o').alloc (by simp; omega) _

/-- 'make' of n pairs. -/
theorem run_make_pair {P : Program} (t e : TypeId) (x y : Value) (bytes : Nat) (ht : P.underlying t = some (.slice e)) (hinfo : (P.info? e).map (fun i => (i.zero, i.size, i.bytes)) = some (some (.agg #[x, y]), 2, bytes)) (hz : (Value.agg #[x, y]).cells = #[x, y])
    (kl kc : IntKind) (n : Nat) (hbytes : bytes * n ≤ 281474976710656) (h63 : n ≤ 9223372036854775807) (w : World) :
    (Instr.makeSlice t (.int kl (n : Int)) (.int kc (n : Int))).run P w = .ok (.slice (some ⟨w.heap.size, 0, none⟩) n n) (w.alloc (.cells (madeCells #[x, y] (n * 2)) e)) := by
  obtain ⟨i, hi, hzz⟩ := Option.map_eq_some_iff.1 hinfo
  simp only [Prod.mk.injEq] at hzz
  obtain ⟨h1, h2, h3⟩ := hzz
  have hb' : (i.bytes : Int) * (n : Int) ≤ 281474976710656 := by
    have h : ((i.bytes * n : Nat) : Int) ≤ 281474976710656 := by rw [h3]; omega
    rwa [Int.natCast_mul] at h
  have hr := run_make (P := P) w t e i _ ht hi h1 kl kc n n (by omega) (Int.le_refl _) hb' (by omega)
  simp only [Int.toNat_natCast, h2, hz] at hr
  exact hr
def pairCell (x y : Value) (j : Nat) : Value := if j % 2 = 0 then x else y
theorem OwnRow.madePair (w : World) (x y : Value) (n : Nat) (t : TypeId) : OwnRow (w.alloc (.cells (madeCells #[x, y] (n * 2)) t)) w.heap.size (n * 2) (pairCell x y) := by
  refine ⟨_, t, Go.Deep.blk_alloc_new _ _, by rw [size_madeCells]; exact Nat.le_refl _, fun i hi => ?_⟩
  unfold madeCells pairCell
  rw [Array.getElem?_map]
  have h1 : (Array.range (n * 2))[i]? = some i := by simp [hi]
  rw [h1]
  rcases Nat.mod_two_eq_zero_or_one i with h | h
  · simp [h]
  · simp [h]

theorem OwnRow.two (w : World) (x y : Value) (t : TypeId) : OwnRow (w.alloc (.cells #[x, y] t)) w.heap.size 2 (fun i => if i = 0 then x else y) := by
  refine ⟨_, t, Go.Deep.blk_alloc_new _ _, by simp, fun i hi => ?_⟩
  have : i = 0 ∨ i = 1 := by omega
  rcases this with rfl | rfl <;> simp
theorem OwnRow.later {w w' : World} {b n : Nat} {f : Nat → Value} (h : OwnRow w b n f) (hb : Below w.heap.size w w') : OwnRow w' b n f := h.block (hb.block b h.lt)

/-- Nothing but new memory has come, and in it an answer. -/
structure DiskNew (w : World) (bs : List (List Int)) (ps : List (Int × List Int)) (vB vC : Value) (w' : World) : Prop where
  below : Below w.heap.size w w'
  disk : DiskO w' vB vC bs ps (fun b => w.heap.size ≤ b ∧ b < w'.heap.size)

/-- An answer that is a disk: its code, its blocks and its cache, in new memory of its own. -/
def AnsDisk (w : World) (code : Int) (bs : List (List Int)) (ps : List (Int × List Int)) (e : Ending) (w' : World) : Prop :=
  ∃ aB nB cB aC nC cC, e = .returned (.agg #[.int .i64 code, .slice aB nB cB, .slice aC nC cC]) ∧ DiskNew w bs ps (.slice aB nB cB) (.slice aC nC cC) w'

theorem ans_bad {w w' : World} (hb : Below w.heap.size w w') (code : Int) : AnsDisk w code [] [] (.returned (.agg #[.int .i64 code, .slice none 0 0, .slice none 0 0])) w' :=
  ⟨none, 0, 0, none, 0, 0, rfl, hb, fun _ => False, fun _ => False, Or.inl ⟨rfl, none, 0, rfl⟩, Or.inl ⟨rfl, none, 0, rfl⟩, fun _ h => h.elim, fun _ h => h.elim False.elim False.elim⟩

end Go.Proofs.Ytlohgnidbkechaa

namespace Go.Proofs.Ytlohgnidbkechaa
open Go.RowKit
set_option maxRecDepth 100000

theorem markDsk (w : World) (vB vC : Value) (bs : List (List Int)) (ps : List (Int × List Int)) (F : Nat → Prop) (k : Int) (h : DiskO w vB vC bs ps F) (hk0 : 0 ≤ k) (hk : k + (dspan bs ps : Nat) ≤ 4611686018427387904) :
    Calls Try.prog 19 #[.agg #[vB, vC], .int .i64 k] w fun e w' => e = .returned (.int .i64 (k + (dspan bs ps : Nat))) ∧ Chg F w w' := by
  obtain ⟨F1, G1, h1, h2, hd, hf⟩ := h
  exact (markDisk_any w vB vC bs ps F1 G1 k h1 h2 hd hk0 hk).mono fun e w' ⟨he, _, _, hc⟩ => ⟨he, hc.mono hf⟩

theorem Box2.chg {w w' : World} {b : Nat} {x y : Value} {F : Nat → Prop} (h : Box2 w b x y) (hc : Chg F w w') (hf : ¬ F b) : Box2 w' b x y := ⟨(hc.cell h.lt hf).trans h.1, (hc.cell h.lt hf).trans h.2⟩
theorem IntsO.later {w w' : World} {v : Value} {zs : List Int} {F : Nat → Prop} (h : IntsO w v zs F) (hb : Below w.heap.size w w') : IntsO w' v zs F := h.keep fun b _ hlt => hb.block b hlt
theorem IntsO.chg {w w' : World} {v : Value} {zs : List Int} {F G : Nat → Prop} (h : IntsO w v zs F) (hc : Chg G w w') (hd : ∀ b, F b → ¬ G b) : IntsO w' v zs F := h.keep fun b hb hlt => hc.block b hlt (hd b hb)
end Go.Proofs.Ytlohgnidbkechaa

namespace Go.Proofs.Ytlohgnidbkechaa
open Go.RowKit
set_option maxRecDepth 100000

/-- What is left of 'left' behind n values: -1 if there are too many. -/
def szf (left : Int) (n : Nat) : Int := if left < (n : Int) then -1 else left - (n : Int)
theorem szf_no {left : Int} {n : Nat} (h : left < (n : Int)) : szf left n = -1 := by simp [szf, h]
theorem szf_yes {left : Int} {n : Nat} (h : ¬ left < (n : Int)) : szf left n = left - (n : Int) := by simp [szf, h]

/-- How many values a disk holds. -/
def dsize (bs : List (List Int)) (ps : List (Int × List Int)) : Nat := bs.length + (bs.map List.length).sum + (ps.length + (wlens ps).sum)

end Go.Proofs.Ytlohgnidbkechaa

namespace Go.Proofs.Ytlohgnidbkechaa
open Go.RowKit
set_option maxRecDepth 100000

theorem Try.infoInt : (Try.prog.info? 2).map (fun i => (i.zero, i.size, i.bytes)) = some (some (.int .i64 0), 1, 8) := by kernel_rfl
theorem Try.infoInts : (Try.prog.info? 40).map (fun i => (i.zero, i.size, i.bytes)) = some (some (.slice none 0 0), 1, 24) := by kernel_rfl

theorem len_le_sum (zss : List (List Int)) : ∀ k : Nat, (zss[k]?.getD []).length ≤ (zss.map List.length).sum := by
  intro k
  by_cases h : k < zss.length
  · have h1 := upto_succ (zss.map List.length) k (by simpa using h)
    rw [lens_get] at h1
    have h2 := upto_le (zss.map List.length) (k + 1)
    omega
  · rw [List.getElem?_eq_none (by omega)]; simp
theorem wlen_le_sum (ps : List (Int × List Int)) : ∀ k : Nat, (ps[k]?.getD (0, [])).2.length ≤ (wlens ps).sum := by
  intro k
  by_cases h : k < ps.length
  · have h1 := upto_succ (wlens ps) k (by rw [wlens_length]; exact h)
    rw [wlens_get] at h1
    have h2 := upto_le (wlens ps) (k + 1)
    omega
  · rw [List.getElem?_eq_none (by omega)]; simp

theorem Try.infoPut : (Try.prog.info? 53).map (fun i => (i.zero, i.size, i.bytes)) = some (some (.agg #[.int .i64 0, .slice none 0 0]), 2, 32) := by kernel_rfl

/-- The cells of a row of puts of which the first j stand. -/
def partCell (ps : List (Int × List Int)) (u : Nat → Value) (j c : Nat) : Value := if c < j * 2 then putCell ps u c else pairCell (.int .i64 0) (.slice none 0 0) c
theorem partCell_next (ps : List (Int × List Int)) (u : Nat → Value) (j c : Nat) (v : Value) : (if c = j * 2 + 1 then v else (if c = j * 2 then .int .i64 (ps[j]?.getD (0, [])).1 else partCell ps u j c)) = partCell ps (fun i => if i = j then v else u i) (j + 1) c := by
  unfold partCell
  by_cases e : c = j * 2 + 1
  · subst e; rw [if_pos rfl, if_pos (by omega), putCell_words]; simp
  · rw [if_neg e]
    by_cases e2 : c = j * 2
    · subst e2; rw [if_pos rfl, if_pos (by omega), putCell_at]
    · rw [if_neg e2]
      by_cases e3 : c < j * 2
      · rw [if_pos e3, if_pos (by omega)]
        unfold putCell
        by_cases e4 : c % 2 = 0
        · rw [if_pos e4, if_pos e4]
        · rw [if_neg e4, if_neg e4]
          show u (c / 2) = if c / 2 = j then v else u (c / 2)
          rw [if_neg (by omega)]
      · rw [if_neg e3, if_neg (by omega)]

/-- An answer that is a disk by itself. -/
def AnsBare (w : World) (bs : List (List Int)) (ps : List (Int × List Int)) (e : Ending) (w' : World) : Prop :=
  ∃ aB nB cB aC nC cC, e = .returned (.agg #[.slice aB nB cB, .slice aC nC cC]) ∧ Below w.heap.size w w' ∧ DiskO w' (.slice aB nB cB) (.slice aC nC cC) bs ps (fresh w w')

end Go.Proofs.Ytlohgnidbkechaa

namespace Go.Proofs.Ytlohgnidbkechaa
open Go.RowKit
set_option maxRecDepth 100000

/-- The cells of block b, from the first on. -/
def Bx (w : World) (b : Nat) (vs : List Value) : Prop := ∀ i v, vs[i]? = some v → w.cell? ⟨b, i, none⟩ = some v
theorem Bx.new (w : World) (vs : List Value) (t : TypeId) : Bx (w.alloc (.cells vs.toArray t)) w.heap.size vs := fun i v h => by rw [new_cell]; simpa using h
theorem Bx.later {w w' : World} {b : Nat} {vs : List Value} (h : Bx w b vs) (hb : Below w.heap.size w w') : Bx w' b vs := fun i v e => cell_later hb (h i v e)
theorem Bx.chg {w w' : World} {b : Nat} {vs : List Value} {F : Nat → Prop} (h : Bx w b vs) (hc : Chg F w w') (hf : ¬ F b) : Bx w' b vs := fun i v e => by
  have := h i v e
  exact (hc.cell (a := ⟨b, i, none⟩) (World.block_lt_of_cell? _ _ this) hf).trans this
theorem Bx.lt {w : World} {b : Nat} {v : Value} {vs : List Value} (h : Bx w b (v :: vs)) : b < w.heap.size := World.block_lt_of_cell? _ _ (h 0 v rfl)

/-- Lists of integers. -/
theorem IntsO.reads {w : World} {v : Value} {zs : List Int} {F : Nat → Prop} (h : IntsO w v zs F) : Ints w v zs := h.ints
theorem eqIntsU {w : World} {v v' : Value} {zs : List Int} (h : Ints w v zs) (h' : Ints w v' zs) : Calls Try.prog 44 #[v, v'] w fun e w' => e = .returned (.bool true) ∧ Below w.heap.size w w' :=
  (eqInts_any h h').mono fun _ _ ⟨h1, m, h2⟩ => ⟨by rw [h1, beq_self_eq_true], h2 ▸ below_drewN (Below.refl _ _) m⟩
theorem markIntsU {w : World} {v : Value} {zs : List Int} {F : Nat → Prop} (k : Int) (h : IntsO w v zs F) (hk0 : 0 ≤ k) (hk : k + (zs.length : Nat) ≤ 4611686018427387904) :
    Calls Try.prog 46 #[v, .int .i64 k] w fun e w' => e = .returned (.int .i64 (k + (zs.length : Nat))) ∧ Chg F w w' :=
  (markInts_any k h hk0 hk).mono fun _ _ ⟨h1, _, h2⟩ => ⟨h1, h2⟩

/-- Disks. -/
abbrev DK := List (List Int) × List (Int × List Int)
def DiskR (w : World) (vB vC : Value) (d : DK) : Prop := IntsS w vB d.1 ∧ Puts w vC d.2
theorem DiskR.later {w w' : World} {vB vC : Value} {d : DK} (h : DiskR w vB vC d) (hb : Below w.heap.size w w') : DiskR w' vB vC d := ⟨h.1.later hb, h.2.later hb⟩
def DiskU (w : World) (vB vC : Value) (d : DK) (F : Nat → Prop) : Prop := DiskO w vB vC d.1 d.2 F
theorem DiskU.reads {w : World} {vB vC : Value} {d : DK} {F : Nat → Prop} (h : DiskU w vB vC d F) : DiskR w vB vC d := ⟨DiskO.ints h, DiskO.puts h⟩
theorem DiskU.later {w w' : World} {vB vC : Value} {d : DK} {F : Nat → Prop} (h : DiskU w vB vC d F) (hb : Below w.heap.size w w') : DiskU w' vB vC d F := DiskO.later h hb
theorem DiskU.mono {w : World} {vB vC : Value} {d : DK} {F G : Nat → Prop} (h : DiskU w vB vC d F) (e : ∀ b, F b → G b) : DiskU w vB vC d G := DiskO.mono h e
theorem DiskU.chg {w w' : World} {vB vC : Value} {d : DK} {F G : Nat → Prop} (h : DiskU w vB vC d F) (hc : Chg G w w') (hd : ∀ b, F b → ¬ G b) : DiskU w' vB vC d F := DiskO.chg h hc hd
def sizeDisk (d : DK) : Nat := dsize d.1 d.2
theorem eqDiskU (w : World) (vB vC vB' vC' : Value) (d : DK) (h : DiskR w vB vC d) (h' : DiskR w vB' vC' d) : Calls Try.prog 18 #[.agg #[vB, vC], .agg #[vB', vC']] w fun e w' => e = .returned (.bool true) ∧ Below w.heap.size w w' :=
  eqDisk_true w vB vC vB' vC' d.1 d.2 h.1 h.2 h'.1 h'.2
def spanDisk (d : DK) : Nat := dspan d.1 d.2
theorem spanDisk_le (d : DK) : spanDisk d ≤ sizeDisk d := by unfold spanDisk sizeDisk dspan dsize; omega
theorem markDiskU (w : World) (vB vC : Value) (d : DK) (F : Nat → Prop) (k : Int) (h : DiskU w vB vC d F) (hk0 : 0 ≤ k) (hk : k + (spanDisk d : Nat) ≤ 4611686018427387904) :
    Calls Try.prog 19 #[.agg #[vB, vC], .int .i64 k] w fun e w' => e = .returned (.int .i64 (k + (spanDisk d : Nat))) ∧ Chg F w w' := markDsk w vB vC d.1 d.2 F k h hk0 hk

/-- Answers that are a code and a disk. -/
def AnsDR (w : World) (r : Int × DK) (e : Ending) (w' : World) : Prop := ∃ aB nB cB aC nC cC, e = .returned (.agg #[.int .i64 r.1, .slice aB nB cB, .slice aC nC cC]) ∧ Below w.heap.size w w' ∧ DiskU w' (.slice aB nB cB) (.slice aC nC cC) r.2 (fresh w w')
theorem AnsDisk.uni {w w' : World} {c : Int} {bs : List (List Int)} {ps : List (Int × List Int)} {e : Ending} (h : AnsDisk w c bs ps e w') : AnsDR w (c, bs, ps) e w' := by
  obtain ⟨aB, nB, cB, aC, nC, cC, h1, h2⟩ := h
  exact ⟨aB, nB, cB, aC, nC, cC, h1, h2.below, h2.disk⟩
theorem eqDiskResultU (w : World) (c : Int) (vB vC vB' vC' : Value) (d : DK) (h : DiskR w vB vC d) (h' : DiskR w vB' vC' d) : Calls Try.prog 6 #[.agg #[.int .i64 c, vB, vC], .agg #[.int .i64 c, vB', vC']] w fun e w' => e = .returned (.bool true) ∧ Below w.heap.size w w' :=
  eqDiskResult_true w c vB vC vB' vC' d.1 d.2 h.1 h.2 h'.1 h'.2
def mkDisk (k : Int) (d : DK) : DK := (marksS k (d.1.map List.length), marksP (k + ((d.1.map List.length).sum : Nat)) (wlens d.2))
theorem markDiskResultU (w : World) (c : Int) (vB vC : Value) (d : DK) (F : Nat → Prop) (k : Int) (h : DiskU w vB vC d F) (hk0 : 0 ≤ k) (hk : k + (spanDisk d : Nat) ≤ 4611686018427387904) :
    Calls Try.prog 7 #[.agg #[.int .i64 c, vB, vC], .int .i64 k] w fun e w' => e = .returned (.int .i64 (k + (spanDisk d : Nat))) ∧ DiskU w' vB vC (mkDisk k d) F ∧ Chg F w w' :=
  (markRes w c vB vC d.1 d.2 F k h hk0 hk).mono fun _ _ ⟨h1, h2, h3⟩ => ⟨h1, h2.disk, h3⟩
theorem heldDiskResultU (w : World) (c : Int) (vB vC : Value) (d : DK) (F : Nat → Prop) (k : Int) (h : DiskU w vB vC (mkDisk k d) F) (hk0 : 0 ≤ k) (hk : k + (spanDisk d : Nat) ≤ 4611686018427387904) :
    Calls Try.prog 8 #[.agg #[.int .i64 c, vB, vC], .int .i64 k] w fun e w' => e = .returned (.int .i64 (k + (spanDisk d : Nat))) ∧ Below w.heap.size w w' := heldRes w c vB vC d.1 d.2 F k ⟨h⟩ hk0 hk
end Go.Proofs.Ytlohgnidbkechaa

namespace Go.Proofs.Ytlohgnidbkechaa
open Go.RowKit
set_option maxRecDepth 100000

theorem Try.sizeInt : (Try.prog.info? 2).map (·.size) = some 1 := by kernel_rfl

/-- What 'copy' into a list that was just made comes to. -/
theorem copy_made (w : World) (a : Option Addr) (n cap : Nat) (zs : List Int) (hz : zs.length = n) (hc : At1 w a n (fun k => .int .i64 (zs[k]?.getD 0))) :
    ∃ X, (Builtin.copy_ #[40, 40] 3 #[.slice (some ⟨w.heap.size, 0, none⟩) n n, .slice a n cap]).run Try.prog (w.alloc (.cells (madeCells #[.int .i64 0] n) 2)) = .ok (goInt n) X ∧
      Below w.heap.size w X ∧ OwnRow X w.heap.size n (fun i => .int .i64 (zs[i]?.getD 0)) := by
  by_cases h0 : n = 0
  · subst h0
    have hr := run_copy_none (P := Try.prog) (w.alloc (.cells (madeCells #[.int .i64 0] 0) 2)) 40 40 3 2 (some ⟨w.heap.size, 0, none⟩) a 0 0 0 cap Try.underlying40 Try.sizeInt (by simp)
    exact ⟨_, hr, later1 _ _, (OwnRow.made w (.int .i64 0) 0 2).congr fun i hi => by omega⟩
  · obtain ⟨b, off, rfl, _⟩ := hc 0 (by omega)
    have hc' : ∀ k, k < n → w.cell? ⟨b, off + k, none⟩ = some (.int .i64 (zs[k]?.getD 0)) := by
      intro k hk
      obtain ⟨b', off', e, h⟩ := hc k hk
      simp only [Option.some.injEq, Addr.mk.injEq, and_true] at e
      rw [e.1, e.2]; exact h
    have hcp := run_copy_row (P := Try.prog) (w.alloc (.cells (madeCells #[.int .i64 0] n) 2)) 40 40 3 2 w.heap.size 0 n n ⟨b, off, none⟩ n cap (madeCells #[.int .i64 0] n) 2 (zs.map fun z => Value.int .i64 z) Try.underlying40 Try.sizeInt
      (Go.Deep.blk_alloc_new _ _) (by simp [hz]) (fun j v hv => by
        rw [List.getElem?_map, Option.map_eq_some_iff] at hv
        obtain ⟨z, hz1, rfl⟩ := hv
        have hj : j < n := by rw [← hz]; exact (List.getElem?_eq_some_iff.1 hz1).1
        have h2 := hc' j hj
        rw [hz1, Option.getD_some] at h2
        have ha : (⟨b, off, none⟩ : Addr).add j = ⟨b, off + j, none⟩ := by
          by_cases hj0 : j = 0
          · subst hj0; simp [Addr.add]
          · simp [Addr.add, hj0]
        rw [ha]
        exact cell_later (later1 _ _) h2) (by simp [size_madeCells, hz]) (fun v hv => by
        obtain ⟨z, _, rfl⟩ := List.mem_map.1 hv
        rfl)
    refine ⟨_, by rw [hcp, List.length_map, hz], below_setRow (later1 _ _) (Nat.le_refl _) _, ?_⟩
    refine ⟨_, 2, setRow_heap _ _ _ _ _ _ (Go.Deep.blk_alloc_new _ _), ?_, fun i hi => ?_⟩
    · simp [hz]
    · have hlen : i < zs.length := by omega
      simp [List.getElem?_append_left, hlen]
set_option maxHeartbeats 400000 in
theorem copyOf_more {w : World} {v : Value} {zs : List Int} (h : Ints w v zs) (hn : zs.length ≤ 1048576) :
    Calls Try.prog 24 #[v] w fun e w' => e = .returned (.slice (some ⟨w.heap.size, 0, none⟩) zs.length zs.length) ∧ Below w.heap.size w w' ∧ IntsO w' (.slice (some ⟨w.heap.size, 0, none⟩) zs.length zs.length) zs (fresh w w') ∧ w.heap.size < w'.heap.size := by
  obtain ⟨a, cap, rfl, hm, hc⟩ := h.open'
  clear h
  obtain ⟨X, hcp, hbX, hrX⟩ := copy_made w a zs.length cap zs rfl hc
  have hmk := fun w => run_make_row' (P := Try.prog) 40 2 (.int .i64 0) 8 Try.underlying40 Try.infoInt rfl .i64 .i64 zs.length (by omega) (by omega) w
  have HB : Hid (Below w.heap.size w X) := hbX
  have HR : Hid (OwnRow X w.heap.size zs.length (fun i => .int .i64 (zs[i]?.getD 0))) := hrX
  clear hbX hrX hc
  go_enter Try.func24, Try.ntmps24
  go_wp2
  go_ret
  exact ⟨rfl, HB.out, Or.inr ⟨w.heap.size, _, ⟨Nat.le_refl _, HR.out.lt⟩, rfl, hm, HR.out⟩, HR.out.lt⟩
theorem copyOf_any {w : World} {v : Value} {zs : List Int} (h : Ints w v zs) (hn : zs.length ≤ 1048576) :
    Calls Try.prog 24 #[v] w fun e w' => e = .returned (.slice (some ⟨w.heap.size, 0, none⟩) zs.length zs.length) ∧ Below w.heap.size w w' ∧ IntsO w' (.slice (some ⟨w.heap.size, 0, none⟩) zs.length zs.length) zs (fresh w w') :=
  (copyOf_more h hn).mono fun _ _ ⟨h1, h2, h3, _⟩ => ⟨h1, h2, h3⟩
end Go.Proofs.Ytlohgnidbkechaa
