/- The specification's cutting of a text at each slash. The specification's l3Names and l3Split. Lists of texts: marking, holding, comparing. The walks of the comparing functions over slices of integers and of slices. The walks of the comparing functions over puts and disks. The walks of the marking and holding functions over puts and disks. The walks of the comparing, marking and holding functions over an answer of a code and a list. One form for the contracts of the laws' own functions, type by type: what a value reads as, what it owns, how great it is. -/
import Derived.Test.YtlacppjlclfpmaaGreatM01
import Derived.Deep.RegionHeld3
import Derived.Test.YtlacppjlclfpmaaGreatRows
import Derived.Test.YtlacppjlclfpmaaGreatM00
import Derived.Deep.RegionWith
namespace Go.Proofs.YtlacppjlclfpmaaGreat
open Go.RowKit
set_option maxRecDepth 100000

theorem cut_at47 {l : List UInt8} {n : Nat} (h : ∀ k, k < n → l[k]?.getD 0 ≠ 47) (hn : n ≤ l.length) (he : n = l.length ∨ l[n]?.getD 0 = 47) : takeTo l = l.take n ∧ dropTo l = l.drop n := by
  induction l generalizing n with
  | nil => simp at hn; subst hn; exact ⟨rfl, rfl⟩
  | cons b t ih =>
    unfold takeTo dropTo
    cases n with
    | zero =>
      have hb : b = 47 := by rcases he with h | h <;> simp at h; exact h
      simp [hb]
    | succ n =>
      have hb : ¬ b = 47 := by have := h 0 (by omega); simpa using this
      have := ih (n := n) (fun k hk => by have := h (k + 1) (by omega); simpa using this) (by simpa using hn) (by simpa using he)
      unfold takeTo dropTo at this
      rw [List.takeWhile_cons, List.dropWhile_cons, if_pos (by simpa using hb), if_pos (by simpa using hb), this.1, this.2]
      exact ⟨rfl, rfl⟩
theorem run_mid (l : List UInt8) (f k : Nat) (hf : f ≤ k) (hk : k ≤ l.length) (W : World) : (Instr.slice 9 (.string (mkB l)) (some (.int .i64 (f : Int))) (some (.int .i64 (k : Int))) none).run Tryz.prog W = .ok (.string (mkB ((l.drop f).take (k - f)))) W := by
  have hs := mkB_size l
  have he : (mkB l).extract f k = mkB ((l.drop f).take (k - f)) := by
    have h : ((mkB l).extract f k).data.toList = (l.drop f).take (k - f) := by
      simp only [mkB, ByteArray.data_extract, Array.toList_extract, List.extract_eq_take_drop]
    rw [← mkB_data ((mkB l).extract f k), h]
  simp [Instr.slice, Instr.sliceBounds, Instr.sliceBound, asIntOf, run_underlying Tryz.underlying9, hs, hk, hf]
  exact he
theorem mkB_get (t : List UInt8) (j : Nat) (h : j < (mkB t).size) : (mkB t)[j] = t[j]?.getD 0 := by
  have h' : j < t.length := by rw [← mkB_size]; exact h
  rw [List.getElem?_eq_getElem h', Option.getD_some]
  show (mkB t).data[j] = _
  simp [mkB]
/-- One text more behind a row. -/
theorem append_strN (w : World) (n₀ : Nat) (v : Value) (n : Nat) (xs : List Value) (y : List UInt8) (hxn : xs.length = n) (hrow : w.ownsRow n₀ 9 1 v n xs) (hn₀ : n₀ ≤ w.heap.size) (hn : n ≤ 1048577) :
    ∃ v' X, (Builtin.append_ #[23, 23] 23 #[v, .slice (some ⟨w.heap.size, 0, none⟩) 1 1]).run Tryz.prog (w.alloc (.cells #[.string (mkB y)] 9)) = .ok v' X ∧ X.ownsRow n₀ 9 1 v' (n + 1) (xs ++ [strV y]) ∧ Below n₀ w X := by
  subst hxn
  obtain ⟨i0, hi, hz0, hz1, hz2⟩ := info_parts Tryz.infoStr
  obtain ⟨v', X, hr, hown, hgrow, _⟩ := run_append_own (P := Tryz.prog) (w.alloc (.cells #[strV y] 9)) n₀ 23 23 9 i0 (.string ⟨#[]⟩) 1 16 Tryz.underlying23 hi hz0 hz1 hz2 rfl (by decide) v xs.length xs (ownsRow_later hrow (later1 _ _)) ⟨w.heap.size, 0, none⟩ 1 1 [strV y] rfl (cell_one_new _ _ _) (by simp [Value.oneCell', strV]) (by unfold maxLen; omega) (by omega) (by simp; omega)
  refine ⟨v', X, hr, hown, ((later1 w _).mono hn₀).trans (below_grown hgrow (by simp; omega) (fun k hk => ?_))⟩
  rcases hrow.2 with ⟨rfl, _⟩ | ⟨g, cap, cur, rfl, hb, _⟩
  · simp [Value.ownBlock] at hk
  · simp [Value.ownBlock] at hk; omega

/-- How far the cutting is: 'done' pieces, the next one from f on. -/
def CutSt (t : List UInt8) (j f : Nat) (done : List (List UInt8)) : Prop :=
  (j ≤ t.length ∧ f ≤ j ∧ cutB t = done ++ cutB (t.drop f) ∧ (∀ k, f ≤ k → k < j → t[k]?.getD 0 ≠ 47) ∧ done.length ≤ j) ∨ (j = t.length + 1 ∧ done = cutB t)
theorem cut_here {t : List UInt8} {j f : Nat} {done : List (List UInt8)} (hf : f ≤ j) (hj : j ≤ t.length) (h1 : cutB t = done ++ cutB (t.drop f)) (h2 : ∀ k, f ≤ k → k < j → t[k]?.getD 0 ≠ 47) (he : j = t.length ∨ t[j]?.getD 0 = 47) :
    cutB t = (done ++ [(t.drop f).take (j - f)]) ++ restN (t.drop j) := by
  have := cut_at47 (l := t.drop f) (n := j - f) (fun k hk => by rw [List.getElem?_drop]; exact h2 (f + k) (by omega) (by omega)) (by simp; omega) (by
    rcases he with e | e
    · exact Or.inl (by simp; omega)
    · exact Or.inr (by rw [List.getElem?_drop, show f + (j - f) = j by omega]; exact e))
  rw [h1, cut_step (t.drop f), this.1, this.2, List.drop_drop, show f + (j - f) = j by omega, List.append_assoc]
  rfl

end Go.Proofs.YtlacppjlclfpmaaGreat

namespace Go.Proofs.YtlacppjlclfpmaaGreat
open Go.RowKit
set_option maxRecDepth 100000

/-- How a list of texts reads. -/
def AtT (w : World) (a : Option Addr) (n : Nat) (xs : List (List UInt8)) : Prop := ∀ k, k < n → ∃ b off, a = some ⟨b, off, none⟩ ∧ w.cell? ⟨b, off + k, none⟩ = some (.string (mkB (xs[k]?.getD [])))
theorem AtT.later {w w' : World} {a : Option Addr} {n : Nat} {xs : List (List UInt8)} (h : AtT w a n xs) (hb : Below w.heap.size w w') : AtT w' a n xs := fun k hk => by
  obtain ⟨b, off, e, c⟩ := h k hk
  exact ⟨b, off, e, cell_later hb c⟩
theorem ownsRow_at {w : World} {B : Nat} {e : TypeId} {a : Option Addr} {n c : Nat} {xs : List (List UInt8)} (h : w.ownsRow B e 1 (.slice a n c) xs.length (xs.map strV)) : n = xs.length ∧ AtT w a n xs := by
  obtain ⟨hl, ⟨h1, h2⟩ | ⟨g, cap, cur, h1, h2, h3, h4, h5, h6, h7⟩⟩ := h
  · simp only [Value.slice.injEq] at h1
    exact ⟨by rw [h1.2.1, h2], fun k hk => by rw [h1.2.1] at hk; omega⟩
  · simp only [Value.slice.injEq] at h1
    refine ⟨h1.2.1, fun k hk => ⟨g, 0, h1.1, ?_⟩⟩
    rw [h1.2.1] at hk
    have h8 : (xs.map strV)[k]? = some (.string (mkB (xs[k]?.getD []))) := by rw [List.getElem?_map, List.getElem?_eq_getElem hk]; rfl
    rw [← h7, List.getElem?_take, if_pos (by omega), Array.getElem?_toList] at h8
    rw [Nat.zero_add]
    simp only [World.cell?, h3]
    exact h8
def namesC (xs : List (List UInt8)) : Int := if 6 < xs.length then 2 else namesF xs
theorem namesF_at {xs : List (List UInt8)} {j : Nat} (h : ∀ i, i < j → nameF (mkB (xs[i]?.getD [])) = 0) (hj : j < xs.length) (hn : ¬ nameF (mkB (xs[j]?.getD [])) = 0) : namesF xs = nameF (mkB (xs[j]?.getD [])) := by
  induction xs generalizing j with
  | nil => simp at hj
  | cons x t ih =>
    cases j with
    | zero => simp at hn ⊢; simp [namesF, hn]
    | succ j =>
      have h0 : nameF (mkB x) = 0 := by simpa using h 0 (by omega)
      simp only [namesF, if_pos h0]
      have := ih (j := j) (fun i hi => by simpa using h (i + 1) (by omega)) (by simpa using hj) (by simpa using hn)
      simpa using this
theorem namesF_zero {xs : List (List UInt8)} (h : ∀ i, i < xs.length → nameF (mkB (xs[i]?.getD [])) = 0) : namesF xs = 0 := by
  induction xs with
  | nil => rfl
  | cons x t ih =>
    have h0 : nameF (mkB x) = 0 := by simpa using h 0 (by simp)
    simp only [namesF, if_pos h0]
    exact ih fun i hi => by simpa using h (i + 1) (by simpa using hi)

end Go.Proofs.YtlacppjlclfpmaaGreat

namespace Go.Proofs.YtlacppjlclfpmaaGreat
open Go.RowKit
set_option maxRecDepth 100000

def mkT (k : Nat) : Value := .string (mkB (109 :: dg k []))

set_option maxHeartbeats 1600000 in
theorem markS_walk (w : World) (b cap n k : Nat) (f : Nat → Value) (hk0 : 1 ≤ k) (hk : k + n ≤ 4294967296) (hr : OwnRow w b n f) :
    Calls Tryz.prog 37 #[.slice (some ⟨b, 0, none⟩) n cap, .int .i64 (k : Int)] w fun e w' => e = .returned (.int .i64 ((k + n : Nat) : Int)) ∧ OwnRow w' b n (fun i => mkT (k + i)) ∧ Chg (fun c => c = b) w w' := by
  have HR : Hid (OwnRow w b n f) := hr
  clear hr
  go_enter Tryz.func37, Tryz.ntmps37
  go_wp2
  go_loopw [1, 5] (fun q i wr => ∃ j : Nat, j ≤ n ∧ i = .int .i64 j ∧ q = .int .i64 ((k + j : Nat) : Int) ∧ OwnRow wr b n (fun i => if i < j then mkT (k + i) else f i) ∧ Chg (fun c => c = b) w wr) (fun _ i _ => n - (intOf i).toNat)
  case atStart => exact ⟨0, Nat.zero_le _, rfl, by simp, HR.out.congr fun i _ => by simp, Chg.refl _ _⟩
  case round =>
    obtain ⟨j, hj, rfl, rfl, hrow, hch⟩ := hrel
    have HROW : Hid (OwnRow wr b n (fun i => if i < j then mkT (k + i) else f i)) := hrow
    have HCH : Hid (Chg (fun c => c = b) w wr) := hch
    clear hch
    by_cases hlt : j < n
    · have c1 := hrow.cell hlt
      have c2 := hrow.frozen j
      have c3 := hrow.lt
      clear hrow
      simp only [Nat.lt_irrefl, if_false] at c1
      have hkk : k + j ≤ 4294967296 := by omega
      have hk1 : 1 ≤ k + j := by omega
      generalize hq : k + j = q at *
      have HQQ : Hid (k + j = q) := hq
      clear hq
      go_wp2_with fail
      refine (markText_any _ q hk1 (by omega)).mono ?_
      rintro e w1 ⟨rfl, hb1⟩
      have HCH1 : Hid (Chg (fun c => c = b) w w1) := HCH.out.trans (Chg.of_below hb1)
      have hrow1 := HROW.out.block (hb1.block b c3)
      have HROW1 : Hid (OwnRow w1 b n (fun i => if i < j then mkT (k + i) else f i)) := hrow1
      have c1 := hrow1.cell hlt
      have c2 := hrow1.frozen j
      simp only [Nat.lt_irrefl, if_false] at c1
      generalize hv : mkB (109 :: dg q []) = v
      have HV : Hid (mkT (k + j) = .string v) := by unfold Hid; rw [HQQ.out]; unfold mkT; rw [hv]
      clear hb1 hrow1 HROW HCH hv
      go_wp2
      go_roundw
      case rel =>
        refine ⟨j + 1, by omega, by go_num, by rw [show k + (j + 1) = q + 1 by have := HQQ.out; omega]; go_num, (HROW1.out.set j _).congr fun i hi => ?_, HCH1.out.set rfl _ _⟩
        by_cases e : i = j
        · subst e; simp [HV.out]
        · by_cases e2 : i < j
          · simp [e, e2, show i < j + 1 by omega]
          · simp [e, e2, show ¬ i < j + 1 by omega]
      case measure => simp [intOf]; omega
    · have hjn : j = n := by omega
      clear hrow
      go_wp2
      go_ret
      subst hjn
      exact ⟨rfl, HROW.out.congr fun i hi => by simp [hi], HCH.out⟩

set_option maxHeartbeats 1600000 in
theorem markS_nil (w : World) (a : Option Addr) (cap k : Nat) :
    Calls Tryz.prog 37 #[.slice a 0 cap, .int .i64 (k : Int)] w fun e w' => e = .returned (.int .i64 (k : Int)) ∧ w' = w := by
  go_enter Tryz.func37, Tryz.ntmps37
  go_wp2
  go_loop [1, 5] (fun q i => i = .int .i64 0 ∧ q = .int .i64 (k : Int)) (fun _ _ => 0)
  case atStart => exact ⟨rfl, rfl⟩
  case round =>
    obtain ⟨rfl, rfl⟩ := hrel
    go_wp2
    go_ret
    exact ⟨rfl, rfl⟩

set_option maxHeartbeats 1600000 in
theorem heldS_nil (w : World) (a : Option Addr) (cap k : Nat) :
    Calls Tryz.prog 41 #[.slice a 0 cap, .int .i64 (k : Int)] w fun e w' => e = .returned (.int .i64 (k : Int)) ∧ w' = w := by
  go_enter Tryz.func41, Tryz.ntmps41
  go_wp2
  go_loop [1, 5] (fun q i => i = .int .i64 0 ∧ q = .int .i64 (k : Int)) (fun _ _ => 0)
  case atStart => exact ⟨rfl, rfl⟩
  case round =>
    obtain ⟨rfl, rfl⟩ := hrel
    go_wp2
    go_ret
    exact ⟨rfl, rfl⟩

set_option maxHeartbeats 3200000 in
theorem heldS_walk (w : World) (b cap n k : Nat) (hk0 : 1 ≤ k) (hk : k + n ≤ 4294967296) (hr : OwnRow w b n (fun i => mkT (k + i))) :
    Calls Tryz.prog 41 #[.slice (some ⟨b, 0, none⟩) n cap, .int .i64 (k : Int)] w fun e w' => e = .returned (.int .i64 ((k + n : Nat) : Int)) ∧ Below w.heap.size w w' := by
  have HR : Hid (OwnRow w b n (fun i => mkT (k + i))) := hr
  clear hr
  go_enter Tryz.func41, Tryz.ntmps41
  go_wp2
  go_loopw [1, 5] (fun q i wr => ∃ j : Nat, j ≤ n ∧ i = .int .i64 j ∧ q = .int .i64 ((k + j : Nat) : Int) ∧ Below w.heap.size w wr) (fun _ i _ => n - (intOf i).toNat)
  case atStart => exact ⟨0, Nat.zero_le _, rfl, by simp, Below.refl _ _⟩
  case round =>
    obtain ⟨j, hj, rfl, rfl, hbl⟩ := hrel
    have HBL : Hid (Below w.heap.size w wr) := hbl
    clear hbl
    by_cases hlt : j < n
    · have hrow := HR.out.block (HBL.out.block b HR.out.lt)
      have c1 := hrow.cell hlt
      have hkk : k + j ≤ 4294967296 := by omega
      have hk1 : 1 ≤ k + j := by omega
      generalize hq : k + j = q at *
      have HQQ : Hid (k + j = q) := hq
      unfold mkT at c1
      have HMT : Hid (∀ W, Calls Tryz.prog 62 #[.int .i64 (q : Int)] W fun e w' => e = .returned (.string (mkB (109 :: dg q []))) ∧ Below W.heap.size W w') := fun W => markText_any W q hk1 (by omega)
      generalize mkB (109 :: dg q []) = v at *
      clear hq hrow
      have hne : (v.toList != v.toList) = false := by simp
      go_wp2_with fail
      go_region_held3 (fun W => W.cell? ⟨b, j, none⟩ = some (.string v)) (go_keep) (first | (go_at_call 62; refine (HMT.out _).mono ?_; rintro e w2 ⟨rfl, hb2⟩; have HB2 : Hid (Below wr.heap.size wr w2) := (Below.refl _ _).drew.trans hb2; have k0 := cell_later hb2 c1; clear hb2))
      all_goals
        go_wp2
        go_roundw
        case rel => exact ⟨j + 1, by omega, by go_num, by rw [show k + (j + 1) = q + 1 by have := HQQ.out; omega]; go_num, HBL.out.trans (HB2.out.mono HBL.out.size)⟩
        case measure => simp [intOf]; omega
    · have hjn : j = n := by omega
      go_wp2
      go_ret
      subst hjn
      exact ⟨rfl, HBL.out⟩

set_option maxHeartbeats 3200000 in
theorem eqS_walk (w : World) (a b : Option Addr) (n c d : Nat) (xs : List (List UInt8)) (hn : n ≤ 1048577) (h1 : AtT w a n xs) (h2 : AtT w b n xs) :
    Calls Tryz.prog 33 #[.slice a n c, .slice b n d] w fun e w' => e = .returned (.bool true) ∧ ∃ m, w' = w.drewN m := by
  have HA2 : Hid (AtT w a n xs) := h1
  have HB2 : Hid (AtT w b n xs) := h2
  have hnn : ((n : Int) != (n : Int)) = false := by simp
  clear h1 h2
  go_enter Tryz.func33, Tryz.ntmps33
  go_wp2
  go_loopw [5] (fun i wr => ∃ j q : Nat, j ≤ n ∧ i = .int .i64 j ∧ wr = w.drewN q) (fun i _ => n - (intOf i).toNat)
  case atStart => exact ⟨0, 0, Nat.zero_le _, rfl, rfl⟩
  case round =>
    obtain ⟨j, q, hj, rfl, rfl⟩ := hrel
    by_cases hlt : j < n
    · obtain ⟨b1, o1, rfl, e1⟩ := HA2.out j hlt
      obtain ⟨b2, o2, rfl, e2⟩ := HB2.out j hlt
      generalize xs[j]?.getD [] = y at e1 e2
      go_wp2_with fail
      go_quiet (fail)
      go_wp2
      go_roundw
      case rel => exact ⟨j + 1, q + nq, by omega, by go_num, rfl⟩
      case measure => simp [intOf]; omega
    · have hx' : decide ((j : Int) < (n : Int)) = false := by simp; omega
      have hx2 : decide (j < n) = false := by simp; omega
      go_wp2
      go_ret
      exact ⟨rfl, q, rfl⟩
end Go.Proofs.YtlacppjlclfpmaaGreat

namespace Go.Proofs.YtlacppjlclfpmaaGreat
open Go.RowKit
set_option maxRecDepth 100000

set_option maxHeartbeats 400000 in
theorem eqInts_len (w : World) (a a' : Option Addr) (cap cap' n n' : Nat) (hn : ¬ n = n') :
    Calls Tryz.prog 84 #[.slice a n cap, .slice a' n' cap'] w fun e w' => e = .returned (.bool false) ∧ w' = w := by
  have hb : ((n : Int) != (n' : Int)) = true := by simp; omega
  clear hn
  go_enter Tryz.func84, Tryz.ntmps84
  go_wp2
  go_ret
  exact ⟨rfl, rfl⟩

set_option maxHeartbeats 400000 in
theorem eqInts_nil (w : World) (a a' : Option Addr) (cap cap' : Nat) :
    Calls Tryz.prog 84 #[.slice a 0 cap, .slice a' 0 cap'] w fun e w' => e = .returned (.bool true) ∧ w' = w := by
  go_enter Tryz.func84, Tryz.ntmps84
  go_wp2
  go_loop [5] (fun i => i = .int .i64 0) (fun _ => 0)
  case atStart => rfl
  case round =>
    obtain rfl := hrel
    go_wp2
    go_ret
    exact ⟨rfl, rfl⟩

set_option maxHeartbeats 400000 in
theorem eqInts_walk (w : World) (b off cap b' off' cap' n : Nat) (xs ys : List Int) (hx : xs.length = n) (hy : ys.length = n) (hn : n ≤ maxLen)
    (cx : ∀ k, k < n → w.cell? ⟨b, off + k, none⟩ = some (.int .i64 (xs[k]?.getD 0)))
    (cy : ∀ k, k < n → w.cell? ⟨b', off' + k, none⟩ = some (.int .i64 (ys[k]?.getD 0))) :
    Calls Tryz.prog 84 #[.slice (some ⟨b, off, none⟩) n cap, .slice (some ⟨b', off', none⟩) n cap'] w fun e w' => e = .returned (.bool (xs == ys)) ∧ ∃ m, w' = w.drewN m := by
  unfold maxLen at hn
  have HX : Hid (xs.length = n) := hx
  have HY : Hid (ys.length = n) := hy
  clear hx hy
  go_enter Tryz.func84, Tryz.ntmps84
  go_wp2
  go_loopw [5] (fun i wr => ∃ k m : Nat, k ≤ n ∧ i = .int .i64 k ∧ wr = w.drewN m ∧ xs.take k = ys.take k) (fun i _ => n - (intOf i).toNat)
  case atStart => exact ⟨0, 0, Nat.zero_le _, rfl, rfl, rfl⟩
  case round =>
    obtain ⟨k, m, hk, rfl, rfl, ht⟩ := hrel
    by_cases hlt : k < n
    · have c1 := cx k hlt
      have c2 := cy k hlt
      clear cx cy
      have HT : Hid (xs.take k = ys.take k) := ht
      clear ht
      by_cases he : xs[k]?.getD 0 = ys[k]?.getD 0
      · have hb : (xs[k]?.getD 0 != ys[k]?.getD 0) = false := by simp [he]
        have HE : Hid (xs[k]?.getD 0 = ys[k]?.getD 0) := he
        clear he
        go_wp2_with fail
        go_quiet (fail)
        go_wp2
        go_roundw
        case rel => exact ⟨k + 1, m + nq, by omega, by go_num, rfl, take_more 0 HX.out HY.out hlt HT.out HE.out⟩
        case measure => simp [intOf]; omega
      · have hb : (xs[k]?.getD 0 != ys[k]?.getD 0) = true := by simp [he]
        go_wp2_with fail
        go_quiet (fail)
        go_wp2
        go_ret
        exact ⟨ret_bool (beq_at 0 he), m + nq, by rw [World.drewN_drewN]⟩
    · go_wp2
      go_ret
      exact ⟨ret_bool (beq_takes HX.out HY.out (by omega) ht), m, rfl⟩

theorem eqInts_any {w : World} {va vb : Value} {xs ys : List Int} (ha : Ints w va xs) (hb : Ints w vb ys) :
    Calls Tryz.prog 84 #[va, vb] w fun e w' => e = .returned (.bool (xs == ys)) ∧ ∃ m, w' = w.drewN m := by
  have base : ∀ a cap a' cap' (x y : List Int), x.length ≠ y.length ∨ (x = [] ∧ y = []) → Calls Tryz.prog 84 #[.slice a x.length cap, .slice a' y.length cap'] w fun e w' => e = .returned (.bool (x == y)) ∧ ∃ m, w' = w.drewN m := by
    intro a cap a' cap' x y h
    rcases h with h | ⟨rfl, rfl⟩
    · exact (eqInts_len w a a' cap cap' _ _ h).mono fun e w' ⟨he, hw⟩ => ⟨he.trans (ret_bool (beq_len h)), 0, hw⟩
    · exact (eqInts_nil w a a' cap cap').mono fun e w' ⟨he, hw⟩ => ⟨he, 0, hw⟩
  rcases ha with ⟨rfl, a, cap, rfl⟩ | ⟨b, off, cap, rfl, hl, hc⟩
  · rcases hb with ⟨rfl, a', cap', rfl⟩ | ⟨b', off', cap', rfl, hl', hc'⟩
    · exact base a cap a' cap' [] [] (Or.inr ⟨rfl, rfl⟩)
    · by_cases h : ys = []
      · subst h; exact base a cap _ cap' [] [] (Or.inr ⟨rfl, rfl⟩)
      · exact base a cap _ cap' [] ys (Or.inl (by cases ys <;> simp at h ⊢))
  · rcases hb with ⟨rfl, a', cap', rfl⟩ | ⟨b', off', cap', rfl, hl', hc'⟩
    · by_cases h : xs = []
      · subst h; exact base _ cap a' cap' [] [] (Or.inr ⟨rfl, rfl⟩)
      · exact base _ cap a' cap' xs [] (Or.inl (by cases xs <;> simp at h ⊢))
    · by_cases h : xs.length = ys.length
      · have := eqInts_walk w b off cap b' off' cap' ys.length xs ys h rfl hl' (fun k hk => hc k (by omega)) hc'
        rw [h]; exact this
      · exact base _ cap _ cap' xs ys (Or.inl h)

set_option maxHeartbeats 400000 in
theorem eqIntsS_len (w : World) (a a' : Option Addr) (cap cap' n n' : Nat) (hn : ¬ n = n') :
    Calls Tryz.prog 60 #[.slice a n cap, .slice a' n' cap'] w fun e w' => e = .returned (.bool false) ∧ w' = w := by
  have hb : ((n : Int) != (n' : Int)) = true := by simp; omega
  clear hn
  go_enter Tryz.func60, Tryz.ntmps60
  go_wp2
  go_ret
  exact ⟨rfl, rfl⟩

set_option maxHeartbeats 400000 in
theorem eqIntsS_nil (w : World) (a a' : Option Addr) (cap cap' : Nat) :
    Calls Tryz.prog 60 #[.slice a 0 cap, .slice a' 0 cap'] w fun e w' => e = .returned (.bool true) ∧ w' = w := by
  go_enter Tryz.func60, Tryz.ntmps60
  go_wp2
  go_loop [5] (fun i => i = .int .i64 0) (fun _ => 0)
  case atStart => rfl
  case round =>
    obtain rfl := hrel
    go_wp2
    go_ret
    exact ⟨rfl, rfl⟩

set_option maxHeartbeats 400000 in
theorem eqIntsS_walk (w : World) (b off cap b' off' cap' n : Nat) (xs ys : List (List Int)) (u u' : Nat → Value) (hx : xs.length = n) (hy : ys.length = n) (hn : n ≤ maxLen)
    (cx : ∀ k, k < n → w.cell? ⟨b, off + k, none⟩ = some (u k) ∧ Ints w (u k) (xs[k]?.getD []))
    (cy : ∀ k, k < n → w.cell? ⟨b', off' + k, none⟩ = some (u' k) ∧ Ints w (u' k) (ys[k]?.getD [])) :
    Calls Tryz.prog 60 #[.slice (some ⟨b, off, none⟩) n cap, .slice (some ⟨b', off', none⟩) n cap'] w fun e w' => e = .returned (.bool (xs == ys)) ∧ ∃ m, w' = w.drewN m := by
  unfold maxLen at hn
  have HX : Hid (xs.length = n) := hx
  have HY : Hid (ys.length = n) := hy
  clear hx hy
  go_enter Tryz.func60, Tryz.ntmps60
  go_wp2
  go_loopw [5] (fun i wr => ∃ k m : Nat, k ≤ n ∧ i = .int .i64 k ∧ wr = w.drewN m ∧ xs.take k = ys.take k) (fun i _ => n - (intOf i).toNat)
  case atStart => exact ⟨0, 0, Nat.zero_le _, rfl, rfl, rfl⟩
  case round =>
    obtain ⟨k, m, hk, rfl, rfl, ht⟩ := hrel
    by_cases hlt : k < n
    · obtain ⟨c1, i1⟩ := cx k hlt
      obtain ⟨c2, i2⟩ := cy k hlt
      clear cx cy
      have HT : Hid (xs.take k = ys.take k) := ht
      clear ht
      have I1 : Hid (Ints w (u k) (xs[k]?.getD [])) := i1
      have I2 : Hid (Ints w (u' k) (ys[k]?.getD [])) := i2
      clear i1 i2
      by_cases he : xs[k]?.getD [] = ys[k]?.getD []
      · have hb : (xs[k]?.getD [] == ys[k]?.getD []) = true := by simp [he]
        have HE : Hid (xs[k]?.getD [] = ys[k]?.getD []) := he
        clear he
        go_wp2_with fail
        go_quiet ((go_at_call 84; refine quiet_of2 (eqInts_any (xs := xs[k]?.getD []) (ys := ys[k]?.getD []) ?_ ?_) <;> first | exact I1.out | exact I2.out))
        go_wp2
        go_roundw
        case rel => exact ⟨k + 1, m + nq, by omega, by go_num, rfl, take_more [] HX.out HY.out hlt HT.out HE.out⟩
        case measure => simp [intOf]; omega
      · have hb : (xs[k]?.getD [] == ys[k]?.getD []) = false := by simp [he]
        go_wp2_with fail
        go_quiet ((go_at_call 84; refine quiet_of2 (eqInts_any (xs := xs[k]?.getD []) (ys := ys[k]?.getD []) ?_ ?_) <;> first | exact I1.out | exact I2.out))
        go_wp2
        go_ret
        exact ⟨ret_bool (beq_at [] he), m + nq, by rw [World.drewN_drewN]⟩
    · go_wp2
      go_ret
      exact ⟨ret_bool (beq_takes HX.out HY.out (by omega) ht), m, rfl⟩

theorem eqIntsS_any {w : World} {va vb : Value} {xs ys : List (List Int)} (ha : IntsS w va xs) (hb : IntsS w vb ys) :
    Calls Tryz.prog 60 #[va, vb] w fun e w' => e = .returned (.bool (xs == ys)) ∧ ∃ m, w' = w.drewN m := by
  have base : ∀ a cap a' cap' (x y : List (List Int)), x.length ≠ y.length ∨ (x = [] ∧ y = []) → Calls Tryz.prog 60 #[.slice a x.length cap, .slice a' y.length cap'] w fun e w' => e = .returned (.bool (x == y)) ∧ ∃ m, w' = w.drewN m := by
    intro a cap a' cap' x y h
    rcases h with h | ⟨rfl, rfl⟩
    · exact (eqIntsS_len w a a' cap cap' _ _ h).mono fun e w' ⟨he, hw⟩ => ⟨he.trans (ret_bool (beq_len h)), 0, hw⟩
    · exact (eqIntsS_nil w a a' cap cap').mono fun e w' ⟨he, hw⟩ => ⟨he, 0, hw⟩
  rcases ha with ⟨rfl, a, cap, rfl⟩ | ⟨b, off, cap, u, rfl, hl, hc⟩
  · rcases hb with ⟨rfl, a', cap', rfl⟩ | ⟨b', off', cap', u', rfl, hl', hc'⟩
    · exact base a cap a' cap' [] [] (Or.inr ⟨rfl, rfl⟩)
    · by_cases h : ys = []
      · subst h; exact base a cap _ cap' [] [] (Or.inr ⟨rfl, rfl⟩)
      · exact base a cap _ cap' [] ys (Or.inl (by cases ys <;> simp at h ⊢))
  · rcases hb with ⟨rfl, a', cap', rfl⟩ | ⟨b', off', cap', u', rfl, hl', hc'⟩
    · by_cases h : xs = []
      · subst h; exact base _ cap a' cap' [] [] (Or.inr ⟨rfl, rfl⟩)
      · exact base _ cap a' cap' xs [] (Or.inl (by cases xs <;> simp at h ⊢))
    · by_cases h : xs.length = ys.length
      · have := eqIntsS_walk w b off cap b' off' cap' ys.length xs ys u u' h rfl hl' (fun k hk => hc k (by omega)) hc'
        rw [h]; exact this
      · exact base _ cap _ cap' xs ys (Or.inl h)

end Go.Proofs.YtlacppjlclfpmaaGreat

namespace Go.Proofs.YtlacppjlclfpmaaGreat
open Go.RowKit
set_option maxRecDepth 100000

theorem beq_pair1 {a b : Int} (xs ys : List Int) (h : (a != b) = true) : false = ((a, xs) == (b, ys)) := by
  symm; rw [Bool.eq_false_iff]; intro e; simp at h; have := eq_of_beq e; simp at this; exact h this.1
theorem beq_pair2 {a b : Int} {xs ys : List Int} {r : Bool} (h : (a != b) = false) (hr : (xs == ys) = r) : r = ((a, xs) == (b, ys)) := by
  simp at h; subst h; rw [← hr]
  by_cases e : xs = ys
  · simp [e]
  · have h1 : (xs == ys) = false := by simp [e]
    rw [h1]; symm; rw [Bool.eq_false_iff]; intro h2; have := eq_of_beq h2; simp at this; exact e this

set_option maxHeartbeats 400000 in
theorem eqPut_any (w : World) (va vb : Value) (a b : Int) (xs ys : List Int) (ha : Ints w va xs) (hb : Ints w vb ys) :
    Calls Tryz.prog 85 #[.agg #[.int .i64 a, va], .agg #[.int .i64 b, vb]] w fun e w' => e = .returned (.bool ((a, xs) == (b, ys))) ∧ Below w.heap.size w w' := by
  have HA : Hid (Ints w va xs) := ha
  have HB : Hid (Ints w vb ys) := hb
  clear ha hb
  generalize hr : (xs == ys) = r
  have HR : Hid ((xs == ys) = r) := hr
  clear hr
  by_cases hab : (a != b) = true
  · go_enter Tryz.func85, Tryz.ntmps85
    go_wp2_with fail
    go_ret
    exact ⟨ret_bool (beq_pair1 xs ys hab), later2 _ _ _⟩
  · have hab' : (a != b) = false := by simpa using hab
    clear hab
    go_enter Tryz.func85, Tryz.ntmps85
    go_wp2_with fail
    refine (eqInts_any (HA.out.later (later2 _ _ _)) (HB.out.later (later2 _ _ _))).mono ?_
    rw [HR.out]
    rintro e w' ⟨rfl, m, rfl⟩
    cases r
    all_goals
      go_wp2
      go_ret
      exact ⟨ret_bool (beq_pair2 hab' HR.out), below_drewN (later2 _ _ _) m⟩

set_option maxHeartbeats 400000 in
theorem eqPuts_len (w : World) (a a' : Option Addr) (cap cap' n n' : Nat) (hn : ¬ n = n') :
    Calls Tryz.prog 61 #[.slice a n cap, .slice a' n' cap'] w fun e w' => e = .returned (.bool false) ∧ w' = w := by
  have hb : ((n : Int) != (n' : Int)) = true := by simp; omega
  clear hn
  go_enter Tryz.func61, Tryz.ntmps61
  go_wp2
  go_ret
  exact ⟨rfl, rfl⟩

set_option maxHeartbeats 400000 in
theorem eqPuts_nil (w : World) (a a' : Option Addr) (cap cap' : Nat) :
    Calls Tryz.prog 61 #[.slice a 0 cap, .slice a' 0 cap'] w fun e w' => e = .returned (.bool true) ∧ w' = w := by
  go_enter Tryz.func61, Tryz.ntmps61
  go_wp2
  go_loop [5] (fun i => i = .int .i64 0) (fun _ => 0)
  case atStart => rfl
  case round =>
    obtain rfl := hrel
    go_wp2
    go_ret
    exact ⟨rfl, rfl⟩

set_option maxHeartbeats 800000 in
theorem eqPuts_walk (w : World) (b off cap b' off' cap' n : Nat) (xs ys : List (Int × List Int)) (u u' : Nat → Value) (hx : xs.length = n) (hy : ys.length = n) (hn : n ≤ maxLen)
    (cx : ∀ k, k < n → w.cell? ⟨b, off + k * 2, none⟩ = some (.int .i64 (xs[k]?.getD (0, [])).1) ∧ w.cell? ⟨b, off + k * 2 + 1, none⟩ = some (u k) ∧ Ints w (u k) (xs[k]?.getD (0, [])).2)
    (cy : ∀ k, k < n → w.cell? ⟨b', off' + k * 2, none⟩ = some (.int .i64 (ys[k]?.getD (0, [])).1) ∧ w.cell? ⟨b', off' + k * 2 + 1, none⟩ = some (u' k) ∧ Ints w (u' k) (ys[k]?.getD (0, [])).2) :
    Calls Tryz.prog 61 #[.slice (some ⟨b, off, none⟩) n cap, .slice (some ⟨b', off', none⟩) n cap'] w fun e w' => e = .returned (.bool (xs == ys)) ∧ Below w.heap.size w w' := by
  unfold maxLen at hn
  have HX : Hid (xs.length = n) := hx
  have HY : Hid (ys.length = n) := hy
  clear hx hy
  go_enter Tryz.func61, Tryz.ntmps61
  go_wp2
  go_loopw [5] (fun i wr => ∃ k : Nat, k ≤ n ∧ i = .int .i64 k ∧ Below w.heap.size w wr ∧ xs.take k = ys.take k) (fun i _ => n - (intOf i).toNat)
  case atStart => exact ⟨0, Nat.zero_le _, rfl, Below.refl _ _, rfl⟩
  case round =>
    obtain ⟨k, hk, rfl, hbl, ht⟩ := hrel
    by_cases hlt : k < n
    · obtain ⟨c1, c2, i1⟩ := cx k hlt
      obtain ⟨d1, d2, i2⟩ := cy k hlt
      clear cx cy
      have HT : Hid (xs.take k = ys.take k) := ht
      clear ht
      replace c1 := cell_later hbl c1
      replace c2 := cell_later hbl c2
      replace d1 := cell_later hbl d1
      replace d2 := cell_later hbl d2
      replace i1 := i1.later hbl
      replace i2 := i2.later hbl
      have HBL : Hid (Below w.heap.size w wr) := hbl
      clear hbl
      have HI1 : Hid (Ints wr (u k) (xs[k]?.getD (0, [])).2) := i1
      have HI2 : Hid (Ints wr (u' k) (ys[k]?.getD (0, [])).2) := i2
      clear i1 i2
      by_cases he : xs[k]?.getD (0, []) = ys[k]?.getD (0, [])
      · have HE : Hid (xs[k]?.getD (0, []) = ys[k]?.getD (0, [])) := he
        have HB : Hid (((xs[k]?.getD (0, [])) == (ys[k]?.getD (0, []))) = true) := by simp [he, Hid]
        clear he
        go_wp2_with fail
        go_region_with ((go_at_call 85; refine (eqPut_any _ _ _ _ _ (xs[k]?.getD (0, [])).2 (ys[k]?.getD (0, [])).2 ?_ ?_).mono ?_; exact HI1.out; exact HI2.out; rw [show (((xs[k]?.getD (0, [])).1, (xs[k]?.getD (0, [])).2) == ((ys[k]?.getD (0, [])).1, (ys[k]?.getD (0, [])).2)) = true from HB.out]; rintro e w' ⟨rfl, hb2⟩))
        all_goals
          go_wp2
          go_roundw
          case rel => exact ⟨k + 1, by omega, by go_num, (HBL.out.drew).trans (hb2.mono HBL.out.size), take_more (0, []) HX.out HY.out hlt HT.out HE.out⟩
          case measure => simp [intOf]; omega
      · have HB : Hid (((xs[k]?.getD (0, [])) == (ys[k]?.getD (0, []))) = false) := by unfold Hid; rw [Bool.eq_false_iff]; intro h; exact he (eq_of_beq h)
        have HE : Hid (¬ xs[k]?.getD (0, []) = ys[k]?.getD (0, [])) := he
        clear he
        go_wp2_with fail
        go_region_with ((go_at_call 85; refine (eqPut_any _ _ _ _ _ (xs[k]?.getD (0, [])).2 (ys[k]?.getD (0, [])).2 ?_ ?_).mono ?_; exact HI1.out; exact HI2.out; rw [show (((xs[k]?.getD (0, [])).1, (xs[k]?.getD (0, [])).2) == ((ys[k]?.getD (0, [])).1, (ys[k]?.getD (0, [])).2)) = false from HB.out]; rintro e w' ⟨rfl, hb2⟩))
        all_goals
          go_wp2
          go_ret
          exact ⟨ret_bool (beq_at (0, []) HE.out), (HBL.out.drew).trans (hb2.mono HBL.out.size)⟩
    · go_wp2
      go_ret
      exact ⟨ret_bool (beq_takes HX.out HY.out (by omega) ht), hbl⟩

theorem eqPuts_any {w : World} {va vb : Value} {xs ys : List (Int × List Int)} (ha : Puts w va xs) (hb : Puts w vb ys) :
    Calls Tryz.prog 61 #[va, vb] w fun e w' => e = .returned (.bool (xs == ys)) ∧ Below w.heap.size w w' := by
  have base : ∀ a cap a' cap' (x y : List (Int × List Int)), x.length ≠ y.length ∨ (x = [] ∧ y = []) → Calls Tryz.prog 61 #[.slice a x.length cap, .slice a' y.length cap'] w fun e w' => e = .returned (.bool (x == y)) ∧ Below w.heap.size w w' := by
    intro a cap a' cap' x y h
    rcases h with h | ⟨rfl, rfl⟩
    · exact (eqPuts_len w a a' cap cap' _ _ h).mono fun e w' ⟨he, hw⟩ => ⟨he.trans (ret_bool (beq_len h)), hw ▸ Below.refl _ _⟩
    · exact (eqPuts_nil w a a' cap cap').mono fun e w' ⟨he, hw⟩ => ⟨he, hw ▸ Below.refl _ _⟩
  rcases ha with ⟨rfl, a, cap, rfl⟩ | ⟨b, off, cap, u, rfl, hl, hc⟩
  · rcases hb with ⟨rfl, a', cap', rfl⟩ | ⟨b', off', cap', u', rfl, hl', hc'⟩
    · exact base a cap a' cap' [] [] (Or.inr ⟨rfl, rfl⟩)
    · by_cases h : ys = []
      · subst h; exact base a cap _ cap' [] [] (Or.inr ⟨rfl, rfl⟩)
      · exact base a cap _ cap' [] ys (Or.inl (by cases ys <;> simp at h ⊢))
  · rcases hb with ⟨rfl, a', cap', rfl⟩ | ⟨b', off', cap', u', rfl, hl', hc'⟩
    · by_cases h : xs = []
      · subst h; exact base _ cap a' cap' [] [] (Or.inr ⟨rfl, rfl⟩)
      · exact base _ cap a' cap' xs [] (Or.inl (by cases xs <;> simp at h ⊢))
    · by_cases h : xs.length = ys.length
      · have := eqPuts_walk w b off cap b' off' cap' ys.length xs ys u u' h rfl hl' (fun k hk => hc k (by omega)) hc'
        rw [h]; exact this
      · exact base _ cap _ cap' xs ys (Or.inl h)

/-- Of two disks that read alike eqDisk tells true. -/
theorem eqDisk_true (w : World) (va vc va' vc' : Value) (bs : List (List Int)) (ps : List (Int × List Int)) (h1 : IntsS w va bs) (h2 : Puts w vc ps) (h3 : IntsS w va' bs) (h4 : Puts w vc' ps) :
    Calls Tryz.prog 35 #[.agg #[va, vc], .agg #[va', vc']] w fun e w' => e = .returned (.bool true) ∧ Below w.heap.size w w' := by
  have H1 : Hid (IntsS w va bs) := h1
  have H2 : Hid (Puts w vc ps) := h2
  have H3 : Hid (IntsS w va' bs) := h3
  have H4 : Hid (Puts w vc' ps) := h4
  clear h1 h2 h3 h4
  go_enter Tryz.func35, Tryz.ntmps35
  go_wp2_with fail
  refine (eqIntsS_any (H1.out.later (later2 _ _ _)) (H3.out.later (later2 _ _ _))).mono ?_
  rw [beq_self_eq_true]
  rintro e w' ⟨rfl, m, rfl⟩
  go_wp2_with fail
  refine (eqPuts_any ((H2.out.later (later2 _ _ _)).drewN m) ((H4.out.later (later2 _ _ _)).drewN m)).mono ?_
  rw [beq_self_eq_true]
  rintro e w' ⟨rfl, hb⟩
  go_wp2
  go_ret
  exact ⟨rfl, (below_drewN (later2 _ _ _) m).trans (hb.mono (by simp [World.drewN]; omega))⟩

end Go.Proofs.YtlacppjlclfpmaaGreat

namespace Go.Proofs.YtlacppjlclfpmaaGreat
open Go.RowKit
set_option maxRecDepth 100000

set_option maxHeartbeats 400000 in
theorem markPuts_nil (w : World) (a : Option Addr) (cap : Nat) (k : Int) :
    Calls Tryz.prog 66 #[.slice a 0 cap, .int .i64 k] w fun e w' => e = .returned (.int .i64 k) ∧ w' = w := by
  go_enter Tryz.func66, Tryz.ntmps66
  go_wp2
  go_loop [1, 5] (fun q i => i = .int .i64 0 ∧ q = .int .i64 k) (fun _ _ => 0)
  case atStart => exact ⟨rfl, rfl⟩
  case round =>
    obtain ⟨rfl, rfl⟩ := hrel
    go_wp2
    go_ret
    exact ⟨rfl, rfl⟩

/-- The number that stands ahead of put i. -/
def pnum (k : Int) (ps : List (Int × List Int)) (i : Nat) : Int := k + i + (upto (wlens ps) i : Nat)
def halfA (k : Int) (ps : List (Int × List Int)) (j i : Nat) : Int := if i < j then pnum k ps i else (ps[i]?.getD (0, [])).1
def halfW (k : Int) (ps : List (Int × List Int)) (j i : Nat) : List Int := if i < j then marks (pnum k ps i + 1) (ps[i]?.getD (0, [])).2.length else (ps[i]?.getD (0, [])).2
def halfCell (k : Int) (ps : List (Int × List Int)) (u : Nat → Value) (j c : Nat) : Value := if c % 2 = 0 then .int .i64 (halfA k ps j (c / 2)) else u (c / 2)
theorem halfCell_at (k : Int) (ps : List (Int × List Int)) (u : Nat → Value) (j i : Nat) : halfCell k ps u j (i * 2) = .int .i64 (halfA k ps j i) := by
  unfold halfCell; rw [if_pos (by omega), show i * 2 / 2 = i by omega]
theorem halfCell_words (k : Int) (ps : List (Int × List Int)) (u : Nat → Value) (j i : Nat) : halfCell k ps u j (i * 2 + 1) = u i := by
  unfold halfCell; rw [if_neg (by omega), show (i * 2 + 1) / 2 = i by omega]
theorem halfCell_next (k : Int) (ps : List (Int × List Int)) (u : Nat → Value) (j c : Nat) : (if c = j * 2 then .int .i64 (pnum k ps j) else halfCell k ps u j c) = halfCell k ps u (j + 1) c := by
  by_cases e : c = j * 2
  · subst e; rw [if_pos rfl, halfCell_at]; simp [halfA]
  · rw [if_neg e]
    unfold halfCell halfA
    by_cases e2 : c % 2 = 0
    · rw [if_pos e2, if_pos e2]
      have hne : c / 2 ≠ j := by omega
      by_cases e3 : c / 2 < j
      · rw [if_pos e3, if_pos (by omega)]
      · rw [if_neg e3, if_neg (by omega)]
    · rw [if_neg e2, if_neg e2]

set_option maxHeartbeats 800000 in
theorem markPuts_walk (w : World) (b cap n : Nat) (k : Int) (F : Nat → Prop) (ps : List (Int × List Int)) (u : Nat → Value) (G : Nat → Nat → Prop) (hF : F b) (hG : ∀ i c, G i c → F c ∧ c ≠ b) (hGG : ∀ i j c, i ≠ j → G i c → ¬ G j c)
    (hn : ps.length = n) (hk0 : 0 ≤ k) (hk : k + (n : Int) + ((wlens ps).sum : Nat) ≤ 4611686018427387904) (hn2 : n ≤ 9223372036854775807) (hr : OwnRow w b (n * 2) (putCell ps u)) (hu : ∀ i, i < n → IntsO w (u i) (ps[i]?.getD (0, [])).2 (G i)) :
    Calls Tryz.prog 66 #[.slice (some ⟨b, 0, none⟩) n cap, .int .i64 k] w fun e w' => e = .returned (.int .i64 (k + (n : Int) + ((wlens ps).sum : Nat))) ∧ OwnRow w' b (n * 2) (halfCell k ps u n) ∧ (∀ i, i < n → IntsO w' (u i) (halfW k ps n i) (G i)) ∧ Chg F w w' := by
  have HR : Hid (OwnRow w b (n * 2) (putCell ps u)) := hr
  have HU : Hid (∀ i, i < n → IntsO w (u i) (ps[i]?.getD (0, [])).2 (G i)) := hu
  have HF : Hid (F b) := hF
  have HG : Hid (∀ i c, G i c → F c ∧ c ≠ b) := hG
  have HGG : Hid (∀ i j c, i ≠ j → G i c → ¬ G j c) := hGG
  have HN : Hid (ps.length = n) := hn
  clear hr hu hG hGG hn hF
  go_enter Tryz.func66, Tryz.ntmps66
  go_wp2
  go_loopw [1, 5] (fun q i wr => ∃ j : Nat, j ≤ n ∧ i = .int .i64 j ∧ q = .int .i64 (pnum k ps j) ∧ OwnRow wr b (n * 2) (halfCell k ps u j) ∧ (∀ i, i < n → IntsO wr (u i) (halfW k ps j i) (G i)) ∧ Chg F w wr) (fun _ i _ => n - (intOf i).toNat)
  case atStart => exact ⟨0, Nat.zero_le _, rfl, by simp [pnum, upto_zero], HR.out.congr fun i _ => by simp [putCell, halfCell, halfA], fun i hi => by simpa [halfW] using HU.out i hi, Chg.refl _ _⟩
  case round =>
    obtain ⟨j, hj, rfl, rfl, hrow, hin, hch⟩ := hrel
    by_cases hlt : j < n
    · have c1 := hrow.cell (i := j * 2) (by omega)
      have c2 := hrow.cell (i := j * 2 + 1) (by omega)
      have c3 := hrow.frozen (j * 2)
      rw [halfCell_at] at c1
      rw [halfCell_words] at c2
      have c1' : ∃ q, wr.cell? ⟨b, j * 2, none⟩ = some (.int .i64 q) := ⟨_, c1⟩
      clear c1
      obtain ⟨old, c1⟩ := c1'
      have HROW : Hid (OwnRow wr b (n * 2) (halfCell k ps u j)) := hrow
      have HIN : Hid (∀ i, i < n → IntsO wr (u i) (halfW k ps j i) (G i)) := hin
      have HCH : Hid (Chg F w wr) := hch
      clear hrow hin hch
      have hs := upto_succ (wlens ps) j (by rw [wlens_length, HN.out]; exact hlt)
      rw [wlens_get] at hs
      have hle := upto_le (wlens ps) (j + 1)
      have hp0 : 0 ≤ pnum k ps j := by unfold pnum; omega
      have hp1 : pnum k ps j + 1 + ((ps[j]?.getD (0, [])).2.length : Int) ≤ 4611686018427387904 := by unfold pnum; omega
      have HS : Hid (pnum k ps (j + 1) = pnum k ps j + 1 + ((ps[j]?.getD (0, [])).2.length : Int)) := by unfold Hid pnum; omega
      clear hs hle
      have HIJ : Hid (IntsO wr (u j) (ps[j]?.getD (0, [])).2 (G j)) := by have := HIN.out j hlt; unfold Hid; simpa [halfW] using this
      go_wp2_with fail
      refine (markInts_any (pnum k ps j + 1) (HIJ.out.keep (w' := wr.setCell ⟨b, j * 2, none⟩ (.int .i64 (pnum k ps j))) fun c hc _ => Below.heap_setCell _ _ _ _ (HG.out j c hc).2) (by omega) (by omega)).mono ?_
      rintro e w' ⟨rfl, hm, hc⟩
      have HM : Hid (IntsO w' (u j) (marks (pnum k ps j + 1) (ps[j]?.getD (0, [])).2.length) (G j)) := hm
      have HC : Hid (Chg (G j) (wr.setCell ⟨b, j * 2, none⟩ (.int .i64 (pnum k ps j))) w') := hc
      clear hm hc
      go_wp2
      go_roundw
      case rel =>
        refine ⟨j + 1, by omega, by go_num, by rw [HS.out], ?_, fun i hi => ?_, (HCH.out.set HF.out _ _).trans (HC.out.mono fun c hc => (HG.out j c hc).1)⟩
        · have h1 := (HROW.out.set (j * 2) (.int .i64 (pnum k ps j))).congr (g := halfCell k ps u (j + 1)) fun c _ => halfCell_next k ps u j c
          exact h1.block (HC.out.block b h1.lt (fun h => (HG.out j b h).2 rfl))
        · by_cases e : i = j
          · subst e
            have := HM.out
            simpa [halfW] using this
          · have h1 := (HIN.out i hi).keep (w' := w') fun c hc hlt => (HC.out.block c (by simpa [World.setCell] using hlt) (HGG.out i j c e hc)).trans (Below.heap_setCell _ _ _ _ (HG.out i c hc).2)
            have h2 : halfW k ps (j + 1) i = halfW k ps j i := by
              unfold halfW
              by_cases e2 : i < j
              · rw [if_pos e2, if_pos (by omega)]
              · rw [if_neg e2, if_neg (by omega)]
            rw [h2]; exact h1
      case measure => simp [intOf]; omega
    · go_wp2
      go_ret
      have e : j = n := by omega
      subst e
      exact ⟨ret_int (by have := upto_all (wlens ps); rw [wlens_length, HN.out] at this; unfold pnum; rw [this]), hrow, hin, hch⟩

theorem markPuts_any {w : World} {v : Value} {ps : List (Int × List Int)} {F : Nat → Prop} (k : Int) (h : PutsO w v ps F) (hk0 : 0 ≤ k) (hk : k + (ps.length : Int) + ((wlens ps).sum : Nat) ≤ 4611686018427387904) :
    Calls Tryz.prog 66 #[v, .int .i64 k] w fun e w' => e = .returned (.int .i64 (k + (ps.length : Int) + ((wlens ps).sum : Nat))) ∧ PutsO w' v (marksP k (wlens ps)) F ∧ Chg F w w' := by
  rcases h with ⟨rfl, a, cap, rfl⟩ | ⟨b, cap, u, G, hF, hG, hGG, rfl, hl, hr, hu⟩
  · exact (markPuts_nil w a cap k).mono fun e w' ⟨he, hw⟩ => ⟨by rw [he]; simp [wlens], Or.inl ⟨rfl, a, cap, rfl⟩, hw ▸ Chg.refl _ _⟩
  · refine (markPuts_walk w b cap ps.length k F ps u G hF hG hGG rfl hk0 hk (by unfold maxLen at hl; omega) hr hu).mono fun e w' ⟨he, hrow, hin, hch⟩ => ⟨he, Or.inr ⟨b, cap, u, G, hF, hG, hGG, ?_, ?_, ?_, ?_⟩, hch⟩
    · rw [marksP_length, wlens_length]
    · rw [marksP_length, wlens_length]; exact hl
    · rw [marksP_length, wlens_length]
      refine hrow.congr fun c hc => ?_
      unfold halfCell putCell halfA
      by_cases e2 : c % 2 = 0
      · rw [if_pos e2, if_pos e2, if_pos (by omega), marksP_get _ _ _ (by rw [wlens_length]; omega)]; rfl
      · rw [if_neg e2, if_neg e2]
    · intro i hi
      rw [marksP_length, wlens_length] at hi
      have := hin i hi
      rw [marksP_get _ _ _ (by rw [wlens_length]; exact hi), wlens_get]
      simpa [halfW, hi, pnum] using this

set_option maxHeartbeats 400000 in
theorem heldPuts_nil (w : World) (a : Option Addr) (cap : Nat) (k : Int) :
    Calls Tryz.prog 70 #[.slice a 0 cap, .int .i64 k] w fun e w' => e = .returned (.int .i64 k) ∧ w' = w := by
  go_enter Tryz.func70, Tryz.ntmps70
  go_wp2
  go_loop [1, 5] (fun q i => i = .int .i64 0 ∧ q = .int .i64 k) (fun _ _ => 0)
  case atStart => exact ⟨rfl, rfl⟩
  case round =>
    obtain ⟨rfl, rfl⟩ := hrel
    go_wp2
    go_ret
    exact ⟨rfl, rfl⟩

set_option maxHeartbeats 800000 in
theorem heldPuts_walk (w : World) (b off cap n : Nat) (k : Int) (ns : List Nat) (u : Nat → Value) (hns : ns.length = n) (hk0 : 0 ≤ k) (hk : k + (n : Int) + (ns.sum : Nat) ≤ 4611686018427387904) (hn2 : n ≤ 9223372036854775807)
    (hc : ∀ i : Nat, i < n → w.cell? ⟨b, off + i * 2, none⟩ = some (.int .i64 (k + i + (upto ns i : Nat))) ∧ w.cell? ⟨b, off + i * 2 + 1, none⟩ = some (u i) ∧ Ints w (u i) (marks (k + i + (upto ns i : Nat) + 1) (ns[i]?.getD 0))) :
    Calls Tryz.prog 70 #[.slice (some ⟨b, off, none⟩) n cap, .int .i64 k] w fun e w' => e = .returned (.int .i64 (k + (n : Int) + (ns.sum : Nat))) ∧ w' = w := by
  have HN : Hid (ns.length = n) := hns
  clear hns
  go_enter Tryz.func70, Tryz.ntmps70
  go_wp2
  go_loop [1, 5] (fun q i => ∃ j : Nat, j ≤ n ∧ i = .int .i64 j ∧ q = .int .i64 (k + j + (upto ns j : Nat))) (fun _ i => n - (intOf i).toNat)
  case atStart => exact ⟨0, Nat.zero_le _, rfl, by simp [upto_zero]⟩
  case round =>
    obtain ⟨j, hj, rfl, rfl⟩ := hrel
    by_cases hlt : j < n
    · obtain ⟨c1, c2, i1⟩ := hc j hlt
      clear hc
      have hs := upto_succ ns j (by rw [HN.out]; exact hlt)
      have hle := upto_le ns (j + 1)
      have hp0 : 0 ≤ k + j + (upto ns j : Nat) := by omega
      have hp1 : k + j + (upto ns j : Nat) + 1 + (ns[j]?.getD 0 : Nat) ≤ 4611686018427387904 := by omega
      have HS : Hid (k + ((j + 1 : Nat) : Int) + (upto ns (j + 1) : Nat) = k + j + (upto ns j : Nat) + 1 + (ns[j]?.getD 0 : Nat)) := by unfold Hid; omega
      clear hs hle
      generalize k + j + ((upto ns j : Nat) : Int) = U at *
      have HI : Hid (Ints w (u j) (marks (U + 1) (ns[j]?.getD 0))) := i1
      clear i1
      have hne : (U != U) = false := by simp
      have hlo : ¬ (U + 1 + ((ns[j]?.getD 0 : Nat) : Int)) < 0 := by omega
      go_wp2_with fail
      refine (heldInts_any (U + 1) (ns[j]?.getD 0) HI.out (by omega) (by omega)).mono ?_
      rintro e w' ⟨rfl, rfl⟩
      go_wp2
      go_round
      case rel => exact ⟨j + 1, by omega, by go_num, by rw [HS.out]⟩
      case measure => simp [intOf]; omega
    · go_wp2
      go_ret
      have e : j = n := by omega
      subst e
      exact ⟨ret_int (by have := upto_all ns; rw [HN.out] at this; rw [this]), rfl⟩

theorem heldPuts_any {w : World} {v : Value} (k : Int) (ns : List Nat) (h : Puts w v (marksP k ns)) (hk0 : 0 ≤ k) (hk : k + (ns.length : Int) + (ns.sum : Nat) ≤ 4611686018427387904) :
    Calls Tryz.prog 70 #[v, .int .i64 k] w fun e w' => e = .returned (.int .i64 (k + (ns.length : Int) + (ns.sum : Nat))) ∧ w' = w := by
  rcases h with ⟨h0, a, cap, rfl⟩ | ⟨b, off, cap, u, hv, hl, hr⟩
  · have : ns = [] := by have := marksP_length ns k; rw [h0] at this; cases ns <;> simp at this ⊢
    subst this
    exact (heldPuts_nil w a cap k).mono fun e w' ⟨he, hw⟩ => ⟨by rw [he]; simp, hw⟩
  · rw [marksP_length] at hv hr hl
    subst hv
    refine heldPuts_walk w b off cap ns.length k ns u rfl hk0 hk (by unfold maxLen at hl; omega) fun i hi => ?_
    have := hr i hi
    rw [marksP_get _ _ _ hi] at this
    exact this


theorem markDisk_any (w : World) (va vc : Value) (bs : List (List Int)) (ps : List (Int × List Int)) (F G : Nat → Prop) (k : Int) (h1 : IntsSO w va bs F) (h2 : PutsO w vc ps G) (hd : ∀ b, F b → ¬ G b) (hk0 : 0 ≤ k) (hk : k + (dspan bs ps : Nat) ≤ 4611686018427387904) :
    Calls Tryz.prog 39 #[.agg #[va, vc], .int .i64 k] w fun e w' => e = .returned (.int .i64 (k + (dspan bs ps : Nat))) ∧ IntsSO w' va (marksS k (bs.map List.length)) F ∧ PutsO w' vc (marksP (k + ((bs.map List.length).sum : Nat)) (wlens ps)) G ∧ Chg (fun b => F b ∨ G b) w w' := by
  have H1 : Hid (IntsSO w va bs F) := h1
  have H2 : Hid (PutsO w vc ps G) := h2
  have HD : Hid (∀ b, F b → ¬ G b) := hd
  clear h1 h2 hd
  unfold dspan at hk ⊢
  have hk1 : k + ((bs.map List.length).sum : Nat) + (ps.length : Int) + ((wlens ps).sum : Nat) ≤ 4611686018427387904 := by omega
  have HE : Hid (k + (((bs.map List.length).sum + ps.length + (wlens ps).sum : Nat) : Int) = k + ((bs.map List.length).sum : Nat) + (ps.length : Int) + ((wlens ps).sum : Nat)) := by unfold Hid; omega
  rw [HE.out]
  go_enter Tryz.func39, Tryz.ntmps39
  go_wp2_with fail
  refine (markIntsS_any k (H1.out.bound.keep fun b hb hlt => (later1 _ _).block b hlt) hk0 (by omega)).mono ?_
  rintro e w1 ⟨rfl, hm, hc⟩
  have c1 : w1.cell? ⟨w.heap.size, 1, none⟩ = some vc := by
    rw [World.cell?_of_block (w := w.alloc (.cells #[va, vc] 33)) (box_later hc fun b hb => hb.2), new_cell]; rfl
  have HM : Hid (IntsSO w1 va (marksS k (bs.map List.length)) (fun b => F b ∧ b < w.heap.size)) := hm
  have HC : Hid (Chg (fun b => F b ∧ b < w.heap.size) (w.alloc (.cells #[va, vc] 33)) w1) := hc
  have H2' : Hid (PutsO w1 vc ps (fun b => G b ∧ b < w.heap.size)) := H2.out.bound.keep fun b hb hlt => (HC.out.block b (by simp; omega) (fun h => HD.out b h.1 hb.1)).trans ((later1 _ _).block b hlt)
  clear hm hc
  go_wp2_with fail
  refine (markPuts_any _ H2'.out (by omega) hk1).mono ?_
  rintro e w2 ⟨rfl, hm2, hc2⟩
  have HM2 : Hid (PutsO w2 vc (marksP (k + ((bs.map List.length).sum : Nat)) (wlens ps)) (fun b => G b ∧ b < w.heap.size)) := hm2
  have HC2 : Hid (Chg (fun b => G b ∧ b < w.heap.size) w1 w2) := hc2
  clear hm2 hc2
  go_wp2
  go_ret
  refine ⟨rfl, (HM.out.keep fun b hb hlt => HC2.out.block b hlt (fun h => HD.out b hb.1 h.1)).mono fun b hb => hb.1, HM2.out.mono fun b hb => hb.1, ?_⟩
  exact (Chg.of_below (later1 _ _)).trans ((HC.out.mono fun b hb => Or.inl hb.1).trans (HC2.out.mono fun b hb => Or.inr hb.1))

theorem heldDisk_any (w : World) (va vc : Value) (ns ms : List Nat) (k : Int) (h1 : IntsS w va (marksS k ns)) (h2 : Puts w vc (marksP (k + (ns.sum : Nat)) ms)) (hk0 : 0 ≤ k) (hk : k + (ns.sum : Nat) + (ms.length : Int) + (ms.sum : Nat) ≤ 4611686018427387904) :
    Calls Tryz.prog 43 #[.agg #[va, vc], .int .i64 k] w fun e w' => e = .returned (.int .i64 (k + (ns.sum : Nat) + (ms.length : Int) + (ms.sum : Nat))) ∧ Below w.heap.size w w' := by
  have H1 : Hid (IntsS w va (marksS k ns)) := h1
  have H2 : Hid (Puts w vc (marksP (k + (ns.sum : Nat)) ms)) := h2
  clear h1 h2
  have l1 : ¬ (k + (ns.sum : Nat) < 0) := by omega
  have l2 : ¬ (k + (ns.sum : Nat) + (ms.length : Int) + (ms.sum : Nat) < 0) := by omega
  go_enter Tryz.func43, Tryz.ntmps43
  go_wp2_with fail
  refine (heldIntsS_any k ns (H1.out.later (later1 _ _)) hk0 (by omega)).mono ?_
  rintro e w1 ⟨rfl, rfl⟩
  go_wp2_with fail
  refine (heldPuts_any _ ms (H2.out.later (later1 _ _)) (by omega) hk).mono ?_
  rintro e w1 ⟨rfl, rfl⟩
  go_wp2
  go_ret
  exact ⟨rfl, later1 _ _⟩

/-- Marked, a disk holds. -/
structure Marked (w : World) (vB vC : Value) (bs : List (List Int)) (ps : List (Int × List Int)) (k : Int) (F : Nat → Prop) : Prop where
  disk : DiskO w vB vC (marksS k (bs.map List.length)) (marksP (k + ((bs.map List.length).sum : Nat)) (wlens ps)) F
theorem Marked.later {w w' : World} {vB vC : Value} {bs : List (List Int)} {ps : List (Int × List Int)} {k : Int} {F : Nat → Prop} (h : Marked w vB vC bs ps k F) (hb : Below w.heap.size w w') : Marked w' vB vC bs ps k F := ⟨h.disk.later hb⟩

end Go.Proofs.YtlacppjlclfpmaaGreat

namespace Go.Proofs.YtlacppjlclfpmaaGreat
open Go.RowKit
set_option maxRecDepth 100000

theorem markDsk (w : World) (vB vC : Value) (bs : List (List Int)) (ps : List (Int × List Int)) (F : Nat → Prop) (k : Int) (h : DiskO w vB vC bs ps F) (hk0 : 0 ≤ k) (hk : k + (dspan bs ps : Nat) ≤ 4611686018427387904) :
    Calls Tryz.prog 39 #[.agg #[vB, vC], .int .i64 k] w fun e w' => e = .returned (.int .i64 (k + (dspan bs ps : Nat))) ∧ Chg F w w' := by
  obtain ⟨F1, G1, h1, h2, hd, hf⟩ := h
  exact (markDisk_any w vB vC bs ps F1 G1 k h1 h2 hd hk0 hk).mono fun e w' ⟨he, _, _, hc⟩ => ⟨he, hc.mono hf⟩

theorem Box2.chg {w w' : World} {b : Nat} {x y : Value} {F : Nat → Prop} (h : Box2 w b x y) (hc : Chg F w w') (hf : ¬ F b) : Box2 w' b x y := ⟨(hc.cell h.lt hf).trans h.1, (hc.cell h.lt hf).trans h.2⟩
theorem IntsO.later {w w' : World} {v : Value} {zs : List Int} {F : Nat → Prop} (h : IntsO w v zs F) (hb : Below w.heap.size w w') : IntsO w' v zs F := h.keep fun b _ hlt => hb.block b hlt
theorem IntsO.chg {w w' : World} {v : Value} {zs : List Int} {F G : Nat → Prop} (h : IntsO w v zs F) (hc : Chg G w w') (hd : ∀ b, F b → ¬ G b) : IntsO w' v zs F := h.keep fun b hb hlt => hc.block b hlt (hd b hb)
end Go.Proofs.YtlacppjlclfpmaaGreat

namespace Go.Proofs.YtlacppjlclfpmaaGreat
open Go.RowKit
set_option maxRecDepth 100000

/-- The cells of block b, from the first on. -/
def Bx (w : World) (b : Nat) (vs : List Value) : Prop := ∀ i v, vs[i]? = some v → w.cell? ⟨b, i, none⟩ = some v
theorem Bx.new (w : World) (vs : List Value) (t : TypeId) : Bx (w.alloc (.cells vs.toArray t)) w.heap.size vs := fun i v h => by rw [new_cell]; simpa using h
theorem Bx.later {w w' : World} {b : Nat} {vs : List Value} (h : Bx w b vs) (hb : Below w.heap.size w w') : Bx w' b vs := fun i v e => cell_later hb (h i v e)
theorem Bx.chg {w w' : World} {b : Nat} {vs : List Value} {F : Nat → Prop} (h : Bx w b vs) (hc : Chg F w w') (hf : ¬ F b) : Bx w' b vs := fun i v e => by
  have := h i v e
  exact (hc.cell (a := ⟨b, i, none⟩) (World.block_lt_of_cell? _ _ this) hf).trans this
theorem Bx.lt {w : World} {b : Nat} {v : Value} {vs : List Value} (h : Bx w b (v :: vs)) : b < w.heap.size := World.block_lt_of_cell? _ _ (h 0 v rfl)

/-- Lists of integers. -/
theorem IntsO.reads {w : World} {v : Value} {zs : List Int} {F : Nat → Prop} (h : IntsO w v zs F) : Ints w v zs := h.ints
theorem eqIntsU {w : World} {v v' : Value} {zs : List Int} (h : Ints w v zs) (h' : Ints w v' zs) : Calls Tryz.prog 84 #[v, v'] w fun e w' => e = .returned (.bool true) ∧ Below w.heap.size w w' :=
  (eqInts_any h h').mono fun _ _ ⟨h1, m, h2⟩ => ⟨by rw [h1, beq_self_eq_true], h2 ▸ below_drewN (Below.refl _ _) m⟩
theorem markIntsU {w : World} {v : Value} {zs : List Int} {F : Nat → Prop} (k : Int) (h : IntsO w v zs F) (hk0 : 0 ≤ k) (hk : k + (zs.length : Nat) ≤ 4611686018427387904) :
    Calls Tryz.prog 86 #[v, .int .i64 k] w fun e w' => e = .returned (.int .i64 (k + (zs.length : Nat))) ∧ Chg F w w' :=
  (markInts_any k h hk0 hk).mono fun _ _ ⟨h1, _, h2⟩ => ⟨h1, h2⟩

/-- Disks. -/
abbrev DK := List (List Int) × List (Int × List Int)
def DiskR (w : World) (vB vC : Value) (d : DK) : Prop := IntsS w vB d.1 ∧ Puts w vC d.2
theorem DiskR.later {w w' : World} {vB vC : Value} {d : DK} (h : DiskR w vB vC d) (hb : Below w.heap.size w w') : DiskR w' vB vC d := ⟨h.1.later hb, h.2.later hb⟩
def DiskU (w : World) (vB vC : Value) (d : DK) (F : Nat → Prop) : Prop := DiskO w vB vC d.1 d.2 F
theorem DiskU.reads {w : World} {vB vC : Value} {d : DK} {F : Nat → Prop} (h : DiskU w vB vC d F) : DiskR w vB vC d := ⟨DiskO.ints h, DiskO.puts h⟩
theorem DiskU.later {w w' : World} {vB vC : Value} {d : DK} {F : Nat → Prop} (h : DiskU w vB vC d F) (hb : Below w.heap.size w w') : DiskU w' vB vC d F := DiskO.later h hb
theorem DiskU.mono {w : World} {vB vC : Value} {d : DK} {F G : Nat → Prop} (h : DiskU w vB vC d F) (e : ∀ b, F b → G b) : DiskU w vB vC d G := DiskO.mono h e
theorem DiskU.chg {w w' : World} {vB vC : Value} {d : DK} {F G : Nat → Prop} (h : DiskU w vB vC d F) (hc : Chg G w w') (hd : ∀ b, F b → ¬ G b) : DiskU w' vB vC d F := DiskO.chg h hc hd
def sizeDisk (d : DK) : Nat := dsize d.1 d.2
theorem eqDiskU (w : World) (vB vC vB' vC' : Value) (d : DK) (h : DiskR w vB vC d) (h' : DiskR w vB' vC' d) : Calls Tryz.prog 35 #[.agg #[vB, vC], .agg #[vB', vC']] w fun e w' => e = .returned (.bool true) ∧ Below w.heap.size w w' :=
  eqDisk_true w vB vC vB' vC' d.1 d.2 h.1 h.2 h'.1 h'.2
def spanDisk (d : DK) : Nat := dspan d.1 d.2
theorem spanDisk_le (d : DK) : spanDisk d ≤ sizeDisk d := by unfold spanDisk sizeDisk dspan dsize; omega
theorem markDiskU (w : World) (vB vC : Value) (d : DK) (F : Nat → Prop) (k : Int) (h : DiskU w vB vC d F) (hk0 : 0 ≤ k) (hk : k + (spanDisk d : Nat) ≤ 4611686018427387904) :
    Calls Tryz.prog 39 #[.agg #[vB, vC], .int .i64 k] w fun e w' => e = .returned (.int .i64 (k + (spanDisk d : Nat))) ∧ Chg F w w' := markDsk w vB vC d.1 d.2 F k h hk0 hk

/-- Answers that are a code and a disk. -/
def AnsDR (w : World) (r : Int × DK) (e : Ending) (w' : World) : Prop := ∃ aB nB cB aC nC cC, e = .returned (.agg #[.int .i64 r.1, .slice aB nB cB, .slice aC nC cC]) ∧ Below w.heap.size w w' ∧ DiskU w' (.slice aB nB cB) (.slice aC nC cC) r.2 (fresh w w')
theorem AnsDisk.uni {w w' : World} {c : Int} {bs : List (List Int)} {ps : List (Int × List Int)} {e : Ending} (h : AnsDisk w c bs ps e w') : AnsDR w (c, bs, ps) e w' := by
  obtain ⟨aB, nB, cB, aC, nC, cC, h1, h2⟩ := h
  exact ⟨aB, nB, cB, aC, nC, cC, h1, h2.below, h2.disk⟩
def mkDisk (k : Int) (d : DK) : DK := (marksS k (d.1.map List.length), marksP (k + ((d.1.map List.length).sum : Nat)) (wlens d.2))
end Go.Proofs.YtlacppjlclfpmaaGreat
