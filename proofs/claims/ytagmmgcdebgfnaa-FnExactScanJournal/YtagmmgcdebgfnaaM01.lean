/- The walks of the marking and holding functions over puts and disks. Lists that a loop makes one behind the other, each in memory of its own. No program is named here. The walks of the comparing, marking and holding functions over an answer of a code and a list. The walks of the functions that tell how great an argument is. -/
import Derived.Test.YtagmmgcdebgfnaaM00
import Derived.Test.YtagmmgcdebgfnaaRows
namespace Go.Proofs.Ytagmmgcdebgfnaa
open Go.RowKit
set_option maxRecDepth 100000

set_option maxHeartbeats 400000 in
theorem markPuts_nil (w : World) (a : Option Addr) (cap : Nat) (k : Int) :
    Calls Try.prog 42 #[.slice a 0 cap, .int .i64 k] w fun e w' => e = .returned (.int .i64 k) ∧ w' = w := by
  go_enter Try.func42, Try.ntmps42
  go_wp2
  go_loop [1, 5] (fun q i => i = .int .i64 0 ∧ q = .int .i64 k) (fun _ _ => 0)
  case atStart => exact ⟨rfl, rfl⟩
  case round =>
    obtain ⟨rfl, rfl⟩ := hrel
    go_wp2
    go_ret
    exact ⟨rfl, rfl⟩

/-- The number that stands ahead of put i. -/
def pnum (k : Int) (ps : List (Int × List Int)) (i : Nat) : Int := k + i + (upto (wlens ps) i : Nat)
def halfA (k : Int) (ps : List (Int × List Int)) (j i : Nat) : Int := if i < j then pnum k ps i else (ps[i]?.getD (0, [])).1
def halfW (k : Int) (ps : List (Int × List Int)) (j i : Nat) : List Int := if i < j then marks (pnum k ps i + 1) (ps[i]?.getD (0, [])).2.length else (ps[i]?.getD (0, [])).2
def halfCell (k : Int) (ps : List (Int × List Int)) (u : Nat → Value) (j c : Nat) : Value := if c % 2 = 0 then .int .i64 (halfA k ps j (c / 2)) else u (c / 2)
theorem halfCell_at (k : Int) (ps : List (Int × List Int)) (u : Nat → Value) (j i : Nat) : halfCell k ps u j (i * 2) = .int .i64 (halfA k ps j i) := by
  unfold halfCell; rw [if_pos (by omega), show i * 2 / 2 = i by omega]
theorem halfCell_words (k : Int) (ps : List (Int × List Int)) (u : Nat → Value) (j i : Nat) : halfCell k ps u j (i * 2 + 1) = u i := by
  unfold halfCell; rw [if_neg (by omega), show (i * 2 + 1) / 2 = i by omega]
theorem halfCell_next (k : Int) (ps : List (Int × List Int)) (u : Nat → Value) (j c : Nat) : (if c = j * 2 then .int .i64 (pnum k ps j) else halfCell k ps u j c) = halfCell k ps u (j + 1) c := by
  by_cases e : c = j * 2
  · subst e; rw [if_pos rfl, halfCell_at]; simp [halfA]
  · rw [if_neg e]
    unfold halfCell halfA
    by_cases e2 : c % 2 = 0
    · rw [if_pos e2, if_pos e2]
      have hne : c / 2 ≠ j := by omega
      by_cases e3 : c / 2 < j
      · rw [if_pos e3, if_pos (by omega)]
      · rw [if_neg e3, if_neg (by omega)]
    · rw [if_neg e2, if_neg e2]

set_option maxHeartbeats 800000 in
theorem markPuts_walk (w : World) (b cap n : Nat) (k : Int) (F : Nat → Prop) (ps : List (Int × List Int)) (u : Nat → Value) (G : Nat → Nat → Prop) (hF : F b) (hG : ∀ i c, G i c → F c ∧ c ≠ b) (hGG : ∀ i j c, i ≠ j → G i c → ¬ G j c)
    (hn : ps.length = n) (hk0 : 0 ≤ k) (hk : k + (n : Int) + ((wlens ps).sum : Nat) ≤ 4611686018427387904) (hn2 : n ≤ 9223372036854775807) (hr : OwnRow w b (n * 2) (putCell ps u)) (hu : ∀ i, i < n → IntsO w (u i) (ps[i]?.getD (0, [])).2 (G i)) :
    Calls Try.prog 42 #[.slice (some ⟨b, 0, none⟩) n cap, .int .i64 k] w fun e w' => e = .returned (.int .i64 (k + (n : Int) + ((wlens ps).sum : Nat))) ∧ OwnRow w' b (n * 2) (halfCell k ps u n) ∧ (∀ i, i < n → IntsO w' (u i) (halfW k ps n i) (G i)) ∧ Chg F w w' := by
  have HR : Hid (OwnRow w b (n * 2) (putCell ps u)) := hr
  have HU : Hid (∀ i, i < n → IntsO w (u i) (ps[i]?.getD (0, [])).2 (G i)) := hu
  have HF : Hid (F b) := hF
  have HG : Hid (∀ i c, G i c → F c ∧ c ≠ b) := hG
  have HGG : Hid (∀ i j c, i ≠ j → G i c → ¬ G j c) := hGG
  have HN : Hid (ps.length = n) := hn
  clear hr hu hG hGG hn hF
  go_enter Try.func42, Try.ntmps42
  go_wp2
  go_loopw [1, 5] (fun q i wr => ∃ j : Nat, j ≤ n ∧ i = .int .i64 j ∧ q = .int .i64 (pnum k ps j) ∧ OwnRow wr b (n * 2) (halfCell k ps u j) ∧ (∀ i, i < n → IntsO wr (u i) (halfW k ps j i) (G i)) ∧ Chg F w wr) (fun _ i _ => n - (intOf i).toNat)
  case atStart => exact ⟨0, Nat.zero_le _, rfl, by simp [pnum, upto_zero], HR.out.congr fun i _ => by simp [putCell, halfCell, halfA], fun i hi => by simpa [halfW] using HU.out i hi, Chg.refl _ _⟩
  case round =>
    obtain ⟨j, hj, rfl, rfl, hrow, hin, hch⟩ := hrel
    by_cases hlt : j < n
    · have c1 := hrow.cell (i := j * 2) (by omega)
      have c2 := hrow.cell (i := j * 2 + 1) (by omega)
      have c3 := hrow.frozen (j * 2)
      rw [halfCell_at] at c1
      rw [halfCell_words] at c2
      have c1' : ∃ q, wr.cell? ⟨b, j * 2, none⟩ = some (.int .i64 q) := ⟨_, c1⟩
      clear c1
      obtain ⟨old, c1⟩ := c1'
      have HROW : Hid (OwnRow wr b (n * 2) (halfCell k ps u j)) := hrow
      have HIN : Hid (∀ i, i < n → IntsO wr (u i) (halfW k ps j i) (G i)) := hin
      have HCH : Hid (Chg F w wr) := hch
      clear hrow hin hch
      have hs := upto_succ (wlens ps) j (by rw [wlens_length, HN.out]; exact hlt)
      rw [wlens_get] at hs
      have hle := upto_le (wlens ps) (j + 1)
      have hp0 : 0 ≤ pnum k ps j := by unfold pnum; omega
      have hp1 : pnum k ps j + 1 + ((ps[j]?.getD (0, [])).2.length : Int) ≤ 4611686018427387904 := by unfold pnum; omega
      have HS : Hid (pnum k ps (j + 1) = pnum k ps j + 1 + ((ps[j]?.getD (0, [])).2.length : Int)) := by unfold Hid pnum; omega
      clear hs hle
      have HIJ : Hid (IntsO wr (u j) (ps[j]?.getD (0, [])).2 (G j)) := by have := HIN.out j hlt; unfold Hid; simpa [halfW] using this
      go_wp2_with fail
      refine (markInts_any (pnum k ps j + 1) (HIJ.out.keep (w' := wr.setCell ⟨b, j * 2, none⟩ (.int .i64 (pnum k ps j))) fun c hc _ => Below.heap_setCell _ _ _ _ (HG.out j c hc).2) (by omega) (by omega)).mono ?_
      rintro e w' ⟨rfl, hm, hc⟩
      have HM : Hid (IntsO w' (u j) (marks (pnum k ps j + 1) (ps[j]?.getD (0, [])).2.length) (G j)) := hm
      have HC : Hid (Chg (G j) (wr.setCell ⟨b, j * 2, none⟩ (.int .i64 (pnum k ps j))) w') := hc
      clear hm hc
      go_wp2
      go_roundw
      case rel =>
        refine ⟨j + 1, by omega, by go_num, by rw [HS.out], ?_, fun i hi => ?_, (HCH.out.set HF.out _ _).trans (HC.out.mono fun c hc => (HG.out j c hc).1)⟩
        · have h1 := (HROW.out.set (j * 2) (.int .i64 (pnum k ps j))).congr (g := halfCell k ps u (j + 1)) fun c _ => halfCell_next k ps u j c
          exact h1.block (HC.out.block b h1.lt (fun h => (HG.out j b h).2 rfl))
        · by_cases e : i = j
          · subst e
            have := HM.out
            simpa [halfW] using this
          · have h1 := (HIN.out i hi).keep (w' := w') fun c hc hlt => (HC.out.block c (by simpa [World.setCell] using hlt) (HGG.out i j c e hc)).trans (Below.heap_setCell _ _ _ _ (HG.out i c hc).2)
            have h2 : halfW k ps (j + 1) i = halfW k ps j i := by
              unfold halfW
              by_cases e2 : i < j
              · rw [if_pos e2, if_pos (by omega)]
              · rw [if_neg e2, if_neg (by omega)]
            rw [h2]; exact h1
      case measure => simp [intOf]; omega
    · go_wp2
      go_ret
      have e : j = n := by omega
      subst e
      exact ⟨ret_int (by have := upto_all (wlens ps); rw [wlens_length, HN.out] at this; unfold pnum; rw [this]), hrow, hin, hch⟩

theorem markPuts_any {w : World} {v : Value} {ps : List (Int × List Int)} {F : Nat → Prop} (k : Int) (h : PutsO w v ps F) (hk0 : 0 ≤ k) (hk : k + (ps.length : Int) + ((wlens ps).sum : Nat) ≤ 4611686018427387904) :
    Calls Try.prog 42 #[v, .int .i64 k] w fun e w' => e = .returned (.int .i64 (k + (ps.length : Int) + ((wlens ps).sum : Nat))) ∧ PutsO w' v (marksP k (wlens ps)) F ∧ Chg F w w' := by
  rcases h with ⟨rfl, a, cap, rfl⟩ | ⟨b, cap, u, G, hF, hG, hGG, rfl, hl, hr, hu⟩
  · exact (markPuts_nil w a cap k).mono fun e w' ⟨he, hw⟩ => ⟨by rw [he]; simp [wlens], Or.inl ⟨rfl, a, cap, rfl⟩, hw ▸ Chg.refl _ _⟩
  · refine (markPuts_walk w b cap ps.length k F ps u G hF hG hGG rfl hk0 hk (by unfold maxLen at hl; omega) hr hu).mono fun e w' ⟨he, hrow, hin, hch⟩ => ⟨he, Or.inr ⟨b, cap, u, G, hF, hG, hGG, ?_, ?_, ?_, ?_⟩, hch⟩
    · rw [marksP_length, wlens_length]
    · rw [marksP_length, wlens_length]; exact hl
    · rw [marksP_length, wlens_length]
      refine hrow.congr fun c hc => ?_
      unfold halfCell putCell halfA
      by_cases e2 : c % 2 = 0
      · rw [if_pos e2, if_pos e2, if_pos (by omega), marksP_get _ _ _ (by rw [wlens_length]; omega)]; rfl
      · rw [if_neg e2, if_neg e2]
    · intro i hi
      rw [marksP_length, wlens_length] at hi
      have := hin i hi
      rw [marksP_get _ _ _ (by rw [wlens_length]; exact hi), wlens_get]
      simpa [halfW, hi, pnum] using this

set_option maxHeartbeats 400000 in
theorem heldPuts_nil (w : World) (a : Option Addr) (cap : Nat) (k : Int) :
    Calls Try.prog 74 #[.slice a 0 cap, .int .i64 k] w fun e w' => e = .returned (.int .i64 k) ∧ w' = w := by
  go_enter Try.func74, Try.ntmps74
  go_wp2
  go_loop [1, 5] (fun q i => i = .int .i64 0 ∧ q = .int .i64 k) (fun _ _ => 0)
  case atStart => exact ⟨rfl, rfl⟩
  case round =>
    obtain ⟨rfl, rfl⟩ := hrel
    go_wp2
    go_ret
    exact ⟨rfl, rfl⟩

set_option maxHeartbeats 800000 in
theorem heldPuts_walk (w : World) (b off cap n : Nat) (k : Int) (ns : List Nat) (u : Nat → Value) (hns : ns.length = n) (hk0 : 0 ≤ k) (hk : k + (n : Int) + (ns.sum : Nat) ≤ 4611686018427387904) (hn2 : n ≤ 9223372036854775807)
    (hc : ∀ i : Nat, i < n → w.cell? ⟨b, off + i * 2, none⟩ = some (.int .i64 (k + i + (upto ns i : Nat))) ∧ w.cell? ⟨b, off + i * 2 + 1, none⟩ = some (u i) ∧ Ints w (u i) (marks (k + i + (upto ns i : Nat) + 1) (ns[i]?.getD 0))) :
    Calls Try.prog 74 #[.slice (some ⟨b, off, none⟩) n cap, .int .i64 k] w fun e w' => e = .returned (.int .i64 (k + (n : Int) + (ns.sum : Nat))) ∧ w' = w := by
  have HN : Hid (ns.length = n) := hns
  clear hns
  go_enter Try.func74, Try.ntmps74
  go_wp2
  go_loop [1, 5] (fun q i => ∃ j : Nat, j ≤ n ∧ i = .int .i64 j ∧ q = .int .i64 (k + j + (upto ns j : Nat))) (fun _ i => n - (intOf i).toNat)
  case atStart => exact ⟨0, Nat.zero_le _, rfl, by simp [upto_zero]⟩
  case round =>
    obtain ⟨j, hj, rfl, rfl⟩ := hrel
    by_cases hlt : j < n
    · obtain ⟨c1, c2, i1⟩ := hc j hlt
      clear hc
      have hs := upto_succ ns j (by rw [HN.out]; exact hlt)
      have hle := upto_le ns (j + 1)
      have hp0 : 0 ≤ k + j + (upto ns j : Nat) := by omega
      have hp1 : k + j + (upto ns j : Nat) + 1 + (ns[j]?.getD 0 : Nat) ≤ 4611686018427387904 := by omega
      have HS : Hid (k + ((j + 1 : Nat) : Int) + (upto ns (j + 1) : Nat) = k + j + (upto ns j : Nat) + 1 + (ns[j]?.getD 0 : Nat)) := by unfold Hid; omega
      clear hs hle
      generalize k + j + ((upto ns j : Nat) : Int) = U at *
      have HI : Hid (Ints w (u j) (marks (U + 1) (ns[j]?.getD 0))) := i1
      clear i1
      have hne : (U != U) = false := by simp
      have hlo : ¬ (U + 1 + ((ns[j]?.getD 0 : Nat) : Int)) < 0 := by omega
      go_wp2_with fail
      refine (heldInts_any (U + 1) (ns[j]?.getD 0) HI.out (by omega) (by omega)).mono ?_
      rintro e w' ⟨rfl, rfl⟩
      go_wp2
      go_round
      case rel => exact ⟨j + 1, by omega, by go_num, by rw [HS.out]⟩
      case measure => simp [intOf]; omega
    · go_wp2
      go_ret
      have e : j = n := by omega
      subst e
      exact ⟨ret_int (by have := upto_all ns; rw [HN.out] at this; rw [this]), rfl⟩

theorem heldPuts_any {w : World} {v : Value} (k : Int) (ns : List Nat) (h : Puts w v (marksP k ns)) (hk0 : 0 ≤ k) (hk : k + (ns.length : Int) + (ns.sum : Nat) ≤ 4611686018427387904) :
    Calls Try.prog 74 #[v, .int .i64 k] w fun e w' => e = .returned (.int .i64 (k + (ns.length : Int) + (ns.sum : Nat))) ∧ w' = w := by
  rcases h with ⟨h0, a, cap, rfl⟩ | ⟨b, off, cap, u, hv, hl, hr⟩
  · have : ns = [] := by have := marksP_length ns k; rw [h0] at this; cases ns <;> simp at this ⊢
    subst this
    exact (heldPuts_nil w a cap k).mono fun e w' ⟨he, hw⟩ => ⟨by rw [he]; simp, hw⟩
  · rw [marksP_length] at hv hr hl
    subst hv
    refine heldPuts_walk w b off cap ns.length k ns u rfl hk0 hk (by unfold maxLen at hl; omega) fun i hi => ?_
    have := hr i hi
    rw [marksP_get _ _ _ hi] at this
    exact this


theorem markDisk_any (w : World) (va vc : Value) (bs : List (List Int)) (ps : List (Int × List Int)) (F G : Nat → Prop) (k : Int) (h1 : IntsSO w va bs F) (h2 : PutsO w vc ps G) (hd : ∀ b, F b → ¬ G b) (hk0 : 0 ≤ k) (hk : k + (dspan bs ps : Nat) ≤ 4611686018427387904) :
    Calls Try.prog 28 #[.agg #[va, vc], .int .i64 k] w fun e w' => e = .returned (.int .i64 (k + (dspan bs ps : Nat))) ∧ IntsSO w' va (marksS k (bs.map List.length)) F ∧ PutsO w' vc (marksP (k + ((bs.map List.length).sum : Nat)) (wlens ps)) G ∧ Chg (fun b => F b ∨ G b) w w' := by
  have H1 : Hid (IntsSO w va bs F) := h1
  have H2 : Hid (PutsO w vc ps G) := h2
  have HD : Hid (∀ b, F b → ¬ G b) := hd
  clear h1 h2 hd
  unfold dspan at hk ⊢
  have hk1 : k + ((bs.map List.length).sum : Nat) + (ps.length : Int) + ((wlens ps).sum : Nat) ≤ 4611686018427387904 := by omega
  have HE : Hid (k + (((bs.map List.length).sum + ps.length + (wlens ps).sum : Nat) : Int) = k + ((bs.map List.length).sum : Nat) + (ps.length : Int) + ((wlens ps).sum : Nat)) := by unfold Hid; omega
  rw [HE.out]
  go_enter Try.func28, Try.ntmps28
  go_wp2_with fail
  refine (markIntsS_any k (H1.out.bound.keep fun b hb hlt => (later1 _ _).block b hlt) hk0 (by omega)).mono ?_
  rintro e w1 ⟨rfl, hm, hc⟩
  have c1 : w1.cell? ⟨w.heap.size, 1, none⟩ = some vc := by
    rw [World.cell?_of_block (w := w.alloc (.cells #[va, vc] 49)) (box_later hc fun b hb => hb.2), new_cell]; rfl
  have HM : Hid (IntsSO w1 va (marksS k (bs.map List.length)) (fun b => F b ∧ b < w.heap.size)) := hm
  have HC : Hid (Chg (fun b => F b ∧ b < w.heap.size) (w.alloc (.cells #[va, vc] 49)) w1) := hc
  have H2' : Hid (PutsO w1 vc ps (fun b => G b ∧ b < w.heap.size)) := H2.out.bound.keep fun b hb hlt => (HC.out.block b (by simp; omega) (fun h => HD.out b h.1 hb.1)).trans ((later1 _ _).block b hlt)
  clear hm hc
  go_wp2_with fail
  refine (markPuts_any _ H2'.out (by omega) hk1).mono ?_
  rintro e w2 ⟨rfl, hm2, hc2⟩
  have HM2 : Hid (PutsO w2 vc (marksP (k + ((bs.map List.length).sum : Nat)) (wlens ps)) (fun b => G b ∧ b < w.heap.size)) := hm2
  have HC2 : Hid (Chg (fun b => G b ∧ b < w.heap.size) w1 w2) := hc2
  clear hm2 hc2
  go_wp2
  go_ret
  refine ⟨rfl, (HM.out.keep fun b hb hlt => HC2.out.block b hlt (fun h => HD.out b hb.1 h.1)).mono fun b hb => hb.1, HM2.out.mono fun b hb => hb.1, ?_⟩
  exact (Chg.of_below (later1 _ _)).trans ((HC.out.mono fun b hb => Or.inl hb.1).trans (HC2.out.mono fun b hb => Or.inr hb.1))

/-- Marked, a disk holds. -/
structure Marked (w : World) (vB vC : Value) (bs : List (List Int)) (ps : List (Int × List Int)) (k : Int) (F : Nat → Prop) : Prop where
  disk : DiskO w vB vC (marksS k (bs.map List.length)) (marksP (k + ((bs.map List.length).sum : Nat)) (wlens ps)) F
theorem Marked.later {w w' : World} {vB vC : Value} {bs : List (List Int)} {ps : List (Int × List Int)} {k : Int} {F : Nat → Prop} (h : Marked w vB vC bs ps k F) (hb : Below w.heap.size w w') : Marked w' vB vC bs ps k F := ⟨h.disk.later hb⟩

end Go.Proofs.Ytagmmgcdebgfnaa

namespace Go.Proofs.Ytagmmgcdebgfnaa
open Go.RowKit
set_option maxRecDepth 100000

/-- What came between w and w'. -/
def fresh (w w' : World) (b : Nat) : Prop := w.heap.size ≤ b ∧ b < w'.heap.size

/-- The first j lists stand, list i in the blocks from s i up to s (i + 1), none below lo. -/
structure Built (w : World) (lo j : Nat) (u : Nat → Value) (f : Nat → List Int) (s : Nat → Nat) : Prop where
  lo : lo ≤ s 0
  mono : ∀ i, i < j → s i ≤ s (i + 1)
  hi : s j ≤ w.heap.size
  at' : ∀ i, i < j → IntsO w (u i) (f i) (fun b => s i ≤ b ∧ b < s (i + 1))

theorem Built.nil {w : World} {lo : Nat} (u : Nat → Value) (f : Nat → List Int) (h : lo ≤ w.heap.size) : Built w lo 0 u f (fun _ => w.heap.size) :=
  ⟨h, fun i hi => by omega, Nat.le_refl _, fun i hi => by omega⟩
theorem Built.le {w : World} {lo j : Nat} {u : Nat → Value} {f : Nat → List Int} {s : Nat → Nat} (h : Built w lo j u f s) : ∀ i k, i ≤ k → k ≤ j → s i ≤ s k := by
  intro i k hik
  induction k with
  | zero => intro _; have : i = 0 := by omega
            subst this; exact Nat.le_refl _
  | succ k ih =>
    intro hk
    by_cases e : i = k + 1
    · subst e; exact Nat.le_refl _
    · exact Nat.le_trans (ih (by omega) (by omega)) (h.mono k (by omega))
theorem Built.low {w : World} {lo j : Nat} {u : Nat → Value} {f : Nat → List Int} {s : Nat → Nat} (h : Built w lo j u f s) (i : Nat) (hi : i ≤ j) : lo ≤ s i := Nat.le_trans h.lo (h.le 0 i (Nat.zero_le _) hi)
theorem Built.keep {w w' : World} {lo j : Nat} {u : Nat → Value} {f : Nat → List Int} {s : Nat → Nat} (h : Built w lo j u f s) (hs : w.heap.size ≤ w'.heap.size) (e : ∀ b, lo ≤ b → b < w.heap.size → w'.heap[b]? = w.heap[b]?) : Built w' lo j u f s :=
  ⟨h.lo, h.mono, Nat.le_trans h.hi hs, fun i hi => (h.at' i hi).keep fun b hb hlt => e b (Nat.le_trans (h.low i (by omega)) hb.1) hlt⟩
theorem Built.later {w w' : World} {lo j : Nat} {u : Nat → Value} {f : Nat → List Int} {s : Nat → Nat} (h : Built w lo j u f s) (hb : Below w.heap.size w w') : Built w' lo j u f s := h.keep hb.size fun b _ hlt => hb.block b hlt
theorem Built.store {w : World} {lo j : Nat} {u : Nat → Value} {f : Nat → List Int} {s : Nat → Nat} (h : Built w lo j u f s) {p : Addr} (hp : p.block < lo) (v : Value) : Built (w.setCell p v) lo j u f s :=
  h.keep (by simp [World.setCell]) fun b hb _ => Below.heap_setCell _ _ _ _ (by omega)
theorem Built.next {w w' : World} {lo j : Nat} {u : Nat → Value} {f : Nat → List Int} {s : Nat → Nat} {v : Value} (h : Built w lo j u f s) (hb : Below w.heap.size w w') (hv : IntsO w' v (f j) (fresh w w')) :
    Built w' lo (j + 1) (fun i => if i = j then v else u i) f (fun i => if i ≤ j then s i else w'.heap.size) := by
  have h' := h.later hb
  have en : ∀ i : Nat, ¬ i + 1 ≤ i := fun i => by omega
  refine ⟨by simpa using h.lo, fun i hi => ?_, by simp [en], fun i hi => ?_⟩
  · by_cases e : i = j
    · subst e; simp [en]; exact h'.hi
    · simp [show i ≤ j by omega, show i + 1 ≤ j by omega]; exact h.mono i (by omega)
  · by_cases e : i = j
    · subst e
      simp [en]
      exact hv.mono fun b hb => ⟨Nat.le_trans h.hi hb.1, hb.2⟩
    · simp [e, show i ≤ j by omega, show i + 1 ≤ j by omega]
      exact h'.at' i (by omega)
theorem Built.apart {w : World} {lo n : Nat} {u : Nat → Value} {f : Nat → List Int} {s : Nat → Nat} (h : Built w lo n u f s) (i j c : Nat) (e : i ≠ j) (h1 : i < n ∧ s i ≤ c ∧ c < s (i + 1)) (h2 : j < n ∧ s j ≤ c ∧ c < s (j + 1)) : False := by
  rcases Nat.lt_or_gt_of_ne e with h3 | h3
  · have := h.le (i + 1) j (by omega) (by omega); omega
  · have := h.le (j + 1) i (by omega) (by omega); omega
theorem Built.ints {w : World} {lo n b cap : Nat} {u : Nat → Value} {f : Nat → List Int} {s : Nat → Nat} (h : Built w lo n u f s) (zss : List (List Int)) (hn : zss.length = n) (hf : ∀ i, i < n → f i = zss[i]?.getD []) (hm : n ≤ maxLen) (hb : b < lo) (hr : OwnRow w b n u) (F : Nat → Prop) (hF : F b) (hF' : ∀ c, lo ≤ c → c < w.heap.size → F c) :
    IntsSO w (.slice (some ⟨b, 0, none⟩) n cap) zss F := by
  subst hn
  refine Or.inr ⟨b, cap, u, fun i c => i < zss.length ∧ s i ≤ c ∧ c < s (i + 1), hF, fun i c hc => ?_, fun i j c e h1 h2 => h.apart i j c e h1 h2, rfl, hm, hr, fun i hi => ?_⟩
  · have h1 := h.low i (by omega)
    have h2 := h.le (i + 1) zss.length (by omega) (Nat.le_refl _)
    have h3 := h.hi
    exact ⟨hF' c (by omega) (by omega), by omega⟩
  · rw [← hf i hi]
    exact (h.at' i hi).mono fun c hc => ⟨hi, hc⟩
theorem Built.puts {w : World} {lo n b cap : Nat} {u : Nat → Value} {f : Nat → List Int} {s : Nat → Nat} (h : Built w lo n u f s) (ps : List (Int × List Int)) (hn : ps.length = n) (hf : ∀ i, i < n → f i = (ps[i]?.getD (0, [])).2) (hm : n ≤ maxLen) (hb : b < lo) (hr : OwnRow w b (n * 2) (putCell ps u)) (F : Nat → Prop) (hF : F b) (hF' : ∀ c, lo ≤ c → c < w.heap.size → F c) :
    PutsO w (.slice (some ⟨b, 0, none⟩) n cap) ps F := by
  subst hn
  refine Or.inr ⟨b, cap, u, fun i c => i < ps.length ∧ s i ≤ c ∧ c < s (i + 1), hF, fun i c hc => ?_, fun i j c e h1 h2 => h.apart i j c e h1 h2, rfl, hm, hr, fun i hi => ?_⟩
  · have h1 := h.low i (by omega)
    have h2 := h.le (i + 1) ps.length (by omega) (Nat.le_refl _)
    have h3 := h.hi
    exact ⟨hF' c (by omega) (by omega), by omega⟩
  · rw [← hf i hi]
    exact (h.at' i hi).mono fun c hc => ⟨hi, hc⟩

theorem OwnRow.made (w : World) (z : Value) (n : Nat) (t : TypeId) : OwnRow (w.alloc (.cells (madeCells #[z] n) t)) w.heap.size n (fun _ => z) := by
  obtain ⟨c, h1, h2, h3⟩ := World.rowIs_made w z n t
  exact ⟨c, t, h1, by omega, h3⟩
theorem bcell {W w1 : World} (hb : Below W.heap.size W w1) : (∀ b o, b < W.heap.size → w1.cell? ⟨b, o, none⟩ = W.cell? ⟨b, o, none⟩) ∧ (∀ b o, b < W.heap.size → w1.frozen? ⟨b, o, none⟩ = W.frozen? ⟨b, o, none⟩) :=
  ⟨fun b o h => hb.cell (p := ⟨b, o, none⟩) h, fun b o h => hb.frozen (p := ⟨b, o, none⟩) h⟩
theorem later3 (w : World) (o o' o'' : Obj) : Below w.heap.size w (((w.alloc o).alloc o').alloc o'') := (later2 w o o').alloc (by simp; omega) _

/-- 'make' of n pairs. -/
theorem run_make_pair {P : Program} (t e : TypeId) (x y : Value) (bytes : Nat) (ht : P.underlying t = some (.slice e)) (hinfo : (P.info? e).map (fun i => (i.zero, i.size, i.bytes)) = some (some (.agg #[x, y]), 2, bytes)) (hz : (Value.agg #[x, y]).cells = #[x, y])
    (kl kc : IntKind) (n : Nat) (hbytes : bytes * n ≤ 281474976710656) (h63 : n ≤ 9223372036854775807) (w : World) :
    (Instr.makeSlice t (.int kl (n : Int)) (.int kc (n : Int))).run P w = .ok (.slice (some ⟨w.heap.size, 0, none⟩) n n) (w.alloc (.cells (madeCells #[x, y] (n * 2)) e)) := by
  obtain ⟨i, hi, hzz⟩ := Option.map_eq_some_iff.1 hinfo
  simp only [Prod.mk.injEq] at hzz
  obtain ⟨h1, h2, h3⟩ := hzz
  have hb' : (i.bytes : Int) * (n : Int) ≤ 281474976710656 := by
    have h : ((i.bytes * n : Nat) : Int) ≤ 281474976710656 := by rw [h3]; omega
    rwa [Int.natCast_mul] at h
  have hr := run_make (P := P) w t e i _ ht hi h1 kl kc n n (by omega) (Int.le_refl _) hb' (by omega)
  simp only [Int.toNat_natCast, h2, hz] at hr
  exact hr
def pairCell (x y : Value) (j : Nat) : Value := if j % 2 = 0 then x else y
theorem OwnRow.madePair (w : World) (x y : Value) (n : Nat) (t : TypeId) : OwnRow (w.alloc (.cells (madeCells #[x, y] (n * 2)) t)) w.heap.size (n * 2) (pairCell x y) := by
  refine ⟨_, t, Go.Deep.blk_alloc_new _ _, by rw [size_madeCells]; exact Nat.le_refl _, fun i hi => ?_⟩
  unfold madeCells pairCell
  rw [Array.getElem?_map]
  have h1 : (Array.range (n * 2))[i]? = some i := by simp [hi]
  rw [h1]
  rcases Nat.mod_two_eq_zero_or_one i with h | h
  · simp [h]
  · simp [h]

theorem OwnRow.two (w : World) (x y : Value) (t : TypeId) : OwnRow (w.alloc (.cells #[x, y] t)) w.heap.size 2 (fun i => if i = 0 then x else y) := by
  refine ⟨_, t, Go.Deep.blk_alloc_new _ _, by simp, fun i hi => ?_⟩
  have : i = 0 ∨ i = 1 := by omega
  rcases this with rfl | rfl <;> simp
theorem OwnRow.later {w w' : World} {b n : Nat} {f : Nat → Value} (h : OwnRow w b n f) (hb : Below w.heap.size w w') : OwnRow w' b n f := h.block (hb.block b h.lt)

/-- Nothing but new memory has come, and in it an answer. -/
structure DiskNew (w : World) (bs : List (List Int)) (ps : List (Int × List Int)) (vB vC : Value) (w' : World) : Prop where
  below : Below w.heap.size w w'
  disk : DiskO w' vB vC bs ps (fun b => w.heap.size ≤ b ∧ b < w'.heap.size)

/-- An answer that is a disk: its code, its blocks and its cache, in new memory of its own. -/
def AnsDisk (w : World) (code : Int) (bs : List (List Int)) (ps : List (Int × List Int)) (e : Ending) (w' : World) : Prop :=
  ∃ aB nB cB aC nC cC, e = .returned (.agg #[.int .i64 code, .slice aB nB cB, .slice aC nC cC]) ∧ DiskNew w bs ps (.slice aB nB cB) (.slice aC nC cC) w'

theorem ans_bad {w w' : World} (hb : Below w.heap.size w w') (code : Int) : AnsDisk w code [] [] (.returned (.agg #[.int .i64 code, .slice none 0 0, .slice none 0 0])) w' :=
  ⟨none, 0, 0, none, 0, 0, rfl, hb, fun _ => False, fun _ => False, Or.inl ⟨rfl, none, 0, rfl⟩, Or.inl ⟨rfl, none, 0, rfl⟩, fun _ h => h.elim, fun _ h => h.elim False.elim False.elim⟩

end Go.Proofs.Ytagmmgcdebgfnaa

namespace Go.Proofs.Ytagmmgcdebgfnaa
open Go.RowKit
set_option maxRecDepth 100000

theorem markDsk (w : World) (vB vC : Value) (bs : List (List Int)) (ps : List (Int × List Int)) (F : Nat → Prop) (k : Int) (h : DiskO w vB vC bs ps F) (hk0 : 0 ≤ k) (hk : k + (dspan bs ps : Nat) ≤ 4611686018427387904) :
    Calls Try.prog 28 #[.agg #[vB, vC], .int .i64 k] w fun e w' => e = .returned (.int .i64 (k + (dspan bs ps : Nat))) ∧ Chg F w w' := by
  obtain ⟨F1, G1, h1, h2, hd, hf⟩ := h
  exact (markDisk_any w vB vC bs ps F1 G1 k h1 h2 hd hk0 hk).mono fun e w' ⟨he, _, _, hc⟩ => ⟨he, hc.mono hf⟩

theorem Box2.chg {w w' : World} {b : Nat} {x y : Value} {F : Nat → Prop} (h : Box2 w b x y) (hc : Chg F w w') (hf : ¬ F b) : Box2 w' b x y := ⟨(hc.cell h.lt hf).trans h.1, (hc.cell h.lt hf).trans h.2⟩
theorem IntsO.later {w w' : World} {v : Value} {zs : List Int} {F : Nat → Prop} (h : IntsO w v zs F) (hb : Below w.heap.size w w') : IntsO w' v zs F := h.keep fun b _ hlt => hb.block b hlt
theorem IntsO.chg {w w' : World} {v : Value} {zs : List Int} {F G : Nat → Prop} (h : IntsO w v zs F) (hc : Chg G w w') (hd : ∀ b, F b → ¬ G b) : IntsO w' v zs F := h.keep fun b hb hlt => hc.block b hlt (hd b hb)
end Go.Proofs.Ytagmmgcdebgfnaa

namespace Go.Proofs.Ytagmmgcdebgfnaa
open Go.RowKit
set_option maxRecDepth 100000

/-- What is left of 'left' behind n values: -1 if there are too many. -/
def szf (left : Int) (n : Nat) : Int := if left < (n : Int) then -1 else left - (n : Int)
theorem szf_no {left : Int} {n : Nat} (h : left < (n : Int)) : szf left n = -1 := by simp [szf, h]
theorem szf_yes {left : Int} {n : Nat} (h : ¬ left < (n : Int)) : szf left n = left - (n : Int) := by simp [szf, h]

theorem szInts_walk (w : World) (a : Option Addr) (n cap : Nat) (left : Int) (h0 : 0 ≤ left) (h1 : left ≤ 1048576) (hn : n ≤ maxLen) :
    Calls Try.prog 45 #[.slice a n cap, .int .i64 left] w fun e w' => e = .returned (.int .i64 (szf left n)) ∧ w' = w := by
  unfold maxLen at hn
  by_cases h : left < (n : Int)
  · rw [szf_no h]
    have h' : left - (n : Int) < 0 := by omega
    go_enter Try.func45, Try.ntmps45
    go_wp2
    go_ret
    exact ⟨rfl, rfl⟩
  · rw [szf_yes h]
    have h' : ¬ left - (n : Int) < 0 := by omega
    go_enter Try.func45, Try.ntmps45
    go_wp2
    go_ret
    exact ⟨rfl, rfl⟩

theorem szInts_any {w : World} {v : Value} {zs : List Int} (h : Ints w v zs) (left : Int) (h0 : 0 ≤ left) (h1 : left ≤ 1048576) :
    Calls Try.prog 45 #[v, .int .i64 left] w fun e w' => e = .returned (.int .i64 (szf left zs.length)) ∧ w' = w := by
  obtain ⟨a, cap, rfl, hn⟩ := h.shape
  exact szInts_walk w a _ cap left h0 h1 hn

set_option maxHeartbeats 400000 in
theorem szIntsS_many (w : World) (a : Option Addr) (n cap : Nat) (left : Int) (h0 : 0 ≤ left) (h1 : left ≤ 1048576) (hn : n ≤ maxLen) (h : left < (n : Int)) :
    Calls Try.prog 57 #[.slice a n cap, .int .i64 left] w fun e w' => e = .returned (.int .i64 (-1)) ∧ w' = w := by
  unfold maxLen at hn
  have h' : left - (n : Int) < 0 := by omega
  go_enter Try.func57, Try.ntmps57
  go_wp2
  go_ret
  exact ⟨rfl, rfl⟩

set_option maxHeartbeats 400000 in
theorem szIntsS_nil (w : World) (a : Option Addr) (cap : Nat) (left : Int) (h0 : 0 ≤ left) (h1 : left ≤ 1048576) :
    Calls Try.prog 57 #[.slice a 0 cap, .int .i64 left] w fun e w' => e = .returned (.int .i64 left) ∧ w' = w := by
  have h' : ¬ left < 0 := by omega
  go_enter Try.func57, Try.ntmps57
  go_wp2
  go_loop [1, 5] (fun q i => i = .int .i64 0 ∧ q = .int .i64 left) (fun _ _ => 0)
  case atStart => exact ⟨rfl, rfl⟩
  case round =>
    obtain ⟨rfl, rfl⟩ := hrel
    go_wp2
    go_ret
    exact ⟨rfl, rfl⟩

set_option maxHeartbeats 400000 in
theorem szIntsS_walk (w : World) (b off cap n : Nat) (left : Int) (zss : List (List Int)) (u : Nat → Value) (hzn : zss.length = n) (h0 : 0 ≤ left) (h1 : left ≤ 1048576) (h2 : ¬ left < (n : Int))
    (hc : ∀ k, k < n → w.cell? ⟨b, off + k, none⟩ = some (u k) ∧ Ints w (u k) (zss[k]?.getD [])) :
    Calls Try.prog 57 #[.slice (some ⟨b, off, none⟩) n cap, .int .i64 left] w fun e w' => e = .returned (.int .i64 (szf left (n + (zss.map List.length).sum))) ∧ w' = w := by
  have HN : Hid (zss.length = n) := hzn
  have h2' : ¬ left - (n : Int) < 0 := by omega
  clear hzn
  go_enter Try.func57, Try.ntmps57
  go_wp2
  go_loop [1, 5] (fun q i => ∃ j : Nat, j ≤ n ∧ i = .int .i64 j ∧ q = .int .i64 (left - (n : Int) - (upto (zss.map List.length) j : Nat)) ∧ 0 ≤ left - (n : Int) - (upto (zss.map List.length) j : Nat)) (fun _ i => n - (intOf i).toNat)
  case atStart => exact ⟨0, Nat.zero_le _, rfl, by simp [upto_zero], by simp [upto_zero]; omega⟩
  case round =>
    obtain ⟨j, hj, rfl, rfl, hq⟩ := hrel
    by_cases hlt : j < n
    · obtain ⟨c1, i1⟩ := hc j hlt
      clear hc
      have hs := upto_succ (zss.map List.length) j (by rw [List.length_map, HN.out]; exact hlt)
      rw [lens_get] at hs
      have hle := upto_le (zss.map List.length) (j + 1)
      have HS : Hid (upto (zss.map List.length) (j + 1) = upto (zss.map List.length) j + (zss[j]?.getD []).length) := hs
      clear hs
      generalize upto (zss.map List.length) j = U at *
      have HI : Hid (Ints w (u j) (zss[j]?.getD [])) := i1
      clear i1
      by_cases hm : left - (n : Int) - (U : Int) < ((zss[j]?.getD []).length : Int)
      · have HM : Hid (szf left (n + (zss.map List.length).sum) = -1) := szf_no (by have := HS.out; omega)
        have HR := szf_no hm
        have HR' : Hid (szf (left - (n : Int) - (U : Int)) (zss[j]?.getD []).length = -1) := HR
        clear HR
        go_wp2_with fail
        refine (szInts_any HI.out _ hq (by omega)).mono ?_
        rw [HR'.out]
        rintro e w' ⟨rfl, rfl⟩
        go_wp2
        go_ret
        exact ⟨ret_int HM.out.symm, rfl⟩
      · have HR := szf_yes hm
        have HR' : Hid (szf (left - (n : Int) - (U : Int)) (zss[j]?.getD []).length = left - (n : Int) - (U : Int) - ((zss[j]?.getD []).length : Int)) := HR
        clear HR
        have hpos : ¬ (left - (n : Int) - (U : Int) - ((zss[j]?.getD []).length : Int) < 0) := by omega
        go_wp2_with fail
        refine (szInts_any HI.out _ hq (by omega)).mono ?_
        rw [HR'.out]
        rintro e w' ⟨rfl, rfl⟩
        go_wp2
        go_round
        case rel => exact ⟨j + 1, by omega, by go_num, by rw [HS.out]; go_num, by rw [HS.out]; omega⟩
        case measure => simp [intOf]; omega
    · go_wp2
      go_ret
      have e : j = n := by omega
      subst e
      have ha := upto_all (zss.map List.length)
      rw [List.length_map, HN.out] at ha
      refine ⟨ret_int ?_, rfl⟩
      rw [ha] at hq ⊢
      rw [szf_yes (by omega)]
      omega

theorem szIntsS_any {w : World} {v : Value} {zss : List (List Int)} (h : IntsS w v zss) (left : Int) (h0 : 0 ≤ left) (h1 : left ≤ 1048576) :
    Calls Try.prog 57 #[v, .int .i64 left] w fun e w' => e = .returned (.int .i64 (szf left (zss.length + (zss.map List.length).sum))) ∧ w' = w := by
  rcases h with ⟨rfl, a, cap, rfl⟩ | ⟨b, off, cap, u, rfl, hl, hc⟩
  · refine (szIntsS_nil w a cap left h0 h1).mono fun e w' ⟨he, hw⟩ => ⟨he.trans (ret_int ?_), hw⟩
    simp [szf]; omega
  · by_cases h : left < (zss.length : Int)
    · refine (szIntsS_many w _ zss.length cap left h0 h1 hl h).mono fun e w' ⟨he, hw⟩ => ⟨he.trans (ret_int ?_), hw⟩
      rw [szf_no (by omega)]
    · exact szIntsS_walk w b off cap zss.length left zss u rfl h0 h1 h hc

theorem szPut_any (w : World) (v : Value) (a : Int) (zs : List Int) (h : Ints w v zs) (left : Int) (h0 : 0 ≤ left) (h1 : left ≤ 1048576) :
    Calls Try.prog 80 #[.agg #[.int .i64 a, v], .int .i64 left] w fun e w' => e = .returned (.int .i64 (szf left zs.length)) ∧ Below w.heap.size w w' := by
  have HI : Hid (Ints w v zs) := h
  clear h
  by_cases hm : left < (zs.length : Int)
  · have HR : Hid (szf left zs.length = -1) := szf_no hm
    rw [HR.out]
    go_enter Try.func80, Try.ntmps80
    go_wp2_with fail
    refine (szInts_any (HI.out.later (later1 _ _)) _ h0 h1).mono ?_
    rw [HR.out]
    rintro e w' ⟨rfl, rfl⟩
    go_wp2
    go_ret
    exact ⟨rfl, later1 _ _⟩
  · have HR : Hid (szf left zs.length = left - (zs.length : Int)) := szf_yes hm
    have hpos : ¬ left - (zs.length : Int) < 0 := by omega
    rw [HR.out]
    go_enter Try.func80, Try.ntmps80
    go_wp2_with fail
    refine (szInts_any (HI.out.later (later1 _ _)) _ h0 h1).mono ?_
    rw [HR.out]
    rintro e w' ⟨rfl, rfl⟩
    go_wp2
    go_ret
    exact ⟨rfl, later1 _ _⟩

set_option maxHeartbeats 400000 in
theorem szPuts_many (w : World) (a : Option Addr) (n cap : Nat) (left : Int) (h0 : 0 ≤ left) (h1 : left ≤ 1048576) (hn : n ≤ maxLen) (h : left < (n : Int)) :
    Calls Try.prog 36 #[.slice a n cap, .int .i64 left] w fun e w' => e = .returned (.int .i64 (-1)) ∧ w' = w := by
  unfold maxLen at hn
  have h' : left - (n : Int) < 0 := by omega
  go_enter Try.func36, Try.ntmps36
  go_wp2
  go_ret
  exact ⟨rfl, rfl⟩

set_option maxHeartbeats 400000 in
theorem szPuts_nil (w : World) (a : Option Addr) (cap : Nat) (left : Int) (h0 : 0 ≤ left) (h1 : left ≤ 1048576) :
    Calls Try.prog 36 #[.slice a 0 cap, .int .i64 left] w fun e w' => e = .returned (.int .i64 left) ∧ w' = w := by
  have h' : ¬ left < 0 := by omega
  go_enter Try.func36, Try.ntmps36
  go_wp2
  go_loop [1, 5] (fun q i => i = .int .i64 0 ∧ q = .int .i64 left) (fun _ _ => 0)
  case atStart => exact ⟨rfl, rfl⟩
  case round =>
    obtain ⟨rfl, rfl⟩ := hrel
    go_wp2
    go_ret
    exact ⟨rfl, rfl⟩

set_option maxHeartbeats 800000 in
theorem szPuts_walk (w : World) (b off cap n : Nat) (left : Int) (ps : List (Int × List Int)) (u : Nat → Value) (hzn : ps.length = n) (h0 : 0 ≤ left) (h1 : left ≤ 1048576) (h2 : ¬ left < (n : Int))
    (hc : ∀ k, k < n → w.cell? ⟨b, off + k * 2, none⟩ = some (.int .i64 (ps[k]?.getD (0, [])).1) ∧ w.cell? ⟨b, off + k * 2 + 1, none⟩ = some (u k) ∧ Ints w (u k) (ps[k]?.getD (0, [])).2) :
    Calls Try.prog 36 #[.slice (some ⟨b, off, none⟩) n cap, .int .i64 left] w fun e w' => e = .returned (.int .i64 (szf left (n + (wlens ps).sum))) ∧ Below w.heap.size w w' := by
  have HN : Hid (ps.length = n) := hzn
  have h2' : ¬ left - (n : Int) < 0 := by omega
  clear hzn
  go_enter Try.func36, Try.ntmps36
  go_wp2
  go_loopw [1, 5] (fun q i wr => ∃ j : Nat, j ≤ n ∧ i = .int .i64 j ∧ q = .int .i64 (left - (n : Int) - (upto (wlens ps) j : Nat)) ∧ 0 ≤ left - (n : Int) - (upto (wlens ps) j : Nat) ∧ Below w.heap.size w wr) (fun _ i _ => n - (intOf i).toNat)
  case atStart => exact ⟨0, Nat.zero_le _, rfl, by simp [upto_zero], by simp [upto_zero]; omega, Below.refl _ _⟩
  case round =>
    obtain ⟨j, hj, rfl, rfl, hq, hbl⟩ := hrel
    by_cases hlt : j < n
    · obtain ⟨c1, c2, i1⟩ := hc j hlt
      clear hc
      have hs := upto_succ (wlens ps) j (by rw [wlens_length, HN.out]; exact hlt)
      rw [wlens_get] at hs
      have hle := upto_le (wlens ps) (j + 1)
      have HS : Hid (upto (wlens ps) (j + 1) = upto (wlens ps) j + (ps[j]?.getD (0, [])).2.length) := hs
      clear hs
      generalize upto (wlens ps) j = U at *
      have HI : Hid (Ints wr (u j) (ps[j]?.getD (0, [])).2) := i1.later hbl
      replace c1 := cell_later hbl c1
      replace c2 := cell_later hbl c2
      have HBL : Hid (Below w.heap.size w wr) := hbl
      clear i1 hbl
      obtain ⟨ua, ucap, hu, _⟩ := HI.out.shape
      have HI' : Hid (Ints wr (.slice ua (ps[j]?.getD (0, [])).2.length ucap) (ps[j]?.getD (0, [])).2) := by rw [← hu]; exact HI.out
      rw [hu] at c2
      clear HI hu
      by_cases hm : left - (n : Int) - (U : Int) < ((ps[j]?.getD (0, [])).2.length : Int)
      · have HM : Hid (szf left (n + (wlens ps).sum) = -1) := szf_no (by have := HS.out; omega)
        have HR' : Hid (szf (left - (n : Int) - (U : Int)) (ps[j]?.getD (0, [])).2.length = -1) := szf_no hm
        go_wp2_with fail
        refine (szPut_any _ _ _ _ HI'.out _ hq (by omega)).mono ?_
        rw [HR'.out]
        rintro e w' ⟨rfl, hb⟩
        have HB : Hid (Below w.heap.size w w') := HBL.out.trans (hb.mono HBL.out.size)
        clear hb
        go_wp2
        go_ret
        exact ⟨ret_int HM.out.symm, HB.out⟩
      · have HR' : Hid (szf (left - (n : Int) - (U : Int)) (ps[j]?.getD (0, [])).2.length = left - (n : Int) - (U : Int) - ((ps[j]?.getD (0, [])).2.length : Int)) := szf_yes hm
        have hpos : ¬ (left - (n : Int) - (U : Int) - ((ps[j]?.getD (0, [])).2.length : Int) < 0) := by omega
        go_wp2_with fail
        refine (szPut_any _ _ _ _ HI'.out _ hq (by omega)).mono ?_
        rw [HR'.out]
        rintro e w' ⟨rfl, hb⟩
        have HB : Hid (Below w.heap.size w w') := HBL.out.trans (hb.mono HBL.out.size)
        clear hb
        go_wp2
        go_roundw
        case rel => exact ⟨j + 1, by omega, by go_num, by rw [HS.out]; go_num, by rw [HS.out]; omega, HB.out⟩
        case measure => simp [intOf]; omega
    · go_wp2
      go_ret
      have e : j = n := by omega
      subst e
      have ha := upto_all (wlens ps)
      rw [wlens_length, HN.out] at ha
      refine ⟨ret_int ?_, hbl⟩
      rw [ha] at hq ⊢
      rw [szf_yes (by omega)]
      omega

theorem szPuts_any {w : World} {v : Value} {ps : List (Int × List Int)} (h : Puts w v ps) (left : Int) (h0 : 0 ≤ left) (h1 : left ≤ 1048576) :
    Calls Try.prog 36 #[v, .int .i64 left] w fun e w' => e = .returned (.int .i64 (szf left (ps.length + (wlens ps).sum))) ∧ Below w.heap.size w w' := by
  rcases h with ⟨rfl, a, cap, rfl⟩ | ⟨b, off, cap, u, rfl, hl, hc⟩
  · refine (szPuts_nil w a cap left h0 h1).mono fun e w' ⟨he, hw⟩ => ⟨he.trans (ret_int ?_), hw ▸ Below.refl _ _⟩
    simp [szf, wlens]; omega
  · by_cases h : left < (ps.length : Int)
    · refine (szPuts_many w _ ps.length cap left h0 h1 hl h).mono fun e w' ⟨he, hw⟩ => ⟨he.trans (ret_int ?_), hw ▸ Below.refl _ _⟩
      rw [szf_no (by omega)]
    · exact szPuts_walk w b off cap ps.length left ps u rfl h0 h1 h hc

/-- How many values a disk holds. -/
def dsize (bs : List (List Int)) (ps : List (Int × List Int)) : Nat := bs.length + (bs.map List.length).sum + (ps.length + (wlens ps).sum)

theorem szDisk_any (w : World) (aB aC : Option Addr) (nB cB nC cC : Nat) (bs : List (List Int)) (ps : List (Int × List Int)) (h1 : IntsS w (.slice aB nB cB) bs) (h2 : Puts w (.slice aC nC cC) ps) (left : Int) (l0 : 0 ≤ left) (l1 : left ≤ 1048576) :
    Calls Try.prog 20 #[.agg #[.slice aB nB cB, .slice aC nC cC], .int .i64 left] w fun e w' => e = .returned (.int .i64 (szf left (dsize bs ps))) ∧ Below w.heap.size w w' := by
  have H1 : Hid (IntsS w (.slice aB nB cB) bs) := h1
  have H2 : Hid (Puts w (.slice aC nC cC) ps) := h2
  clear h1 h2
  by_cases hm : left < ((bs.length + (bs.map List.length).sum : Nat) : Int)
  · have HR : Hid (szf left (bs.length + (bs.map List.length).sum) = -1) := szf_no hm
    have HM : Hid (szf left (dsize bs ps) = -1) := szf_no (by unfold dsize; omega)
    rw [HM.out]
    go_enter Try.func20, Try.ntmps20
    go_wp2_with fail
    refine (szIntsS_any (H1.out.later (later1 _ _)) _ l0 l1).mono ?_
    rw [HR.out]
    rintro e w' ⟨rfl, rfl⟩
    go_wp2
    go_ret
    exact ⟨rfl, later1 _ _⟩
  · have HR : Hid (szf left (bs.length + (bs.map List.length).sum) = left - ((bs.length + (bs.map List.length).sum : Nat) : Int)) := szf_yes hm
    have hpos : ¬ left - ((bs.length + (bs.map List.length).sum : Nat) : Int) < 0 := by omega
    have HD : Hid (szf (left - ((bs.length + (bs.map List.length).sum : Nat) : Int)) (ps.length + (wlens ps).sum) = szf left (dsize bs ps)) := by
      unfold Hid szf dsize
      split <;> split <;> omega
    have hX0 : (0 : Int) ≤ ((bs.length + (bs.map List.length).sum : Nat) : Int) := by omega
    generalize ((bs.length + (bs.map List.length).sum : Nat) : Int) = X at *
    generalize hr : szf left (dsize bs ps) = r at *
    have HRR : Hid (szf left (dsize bs ps) = r) := hr
    clear hr
    by_cases hn : r < 0
    · have hr1 : r = -1 := by have := HRR.out; unfold szf at this; split at this <;> omega
      subst hr1
      go_enter Try.func20, Try.ntmps20
      go_wp2_with fail
      refine (szIntsS_any (H1.out.later (later1 _ _)) _ l0 l1).mono ?_
      rw [HR.out]
      rintro e w' ⟨rfl, rfl⟩
      go_wp2_with fail
      refine (szPuts_any (H2.out.later (later1 _ _)) _ (by omega) (by omega)).mono ?_
      rw [HD.out]
      rintro e w' ⟨rfl, hb⟩
      have HB : Hid (Below w.heap.size w w') := (later1 _ _).trans (hb.mono (by simp))
      clear hb
      go_wp2
      go_ret
      exact ⟨rfl, HB.out⟩
    · go_enter Try.func20, Try.ntmps20
      go_wp2_with fail
      refine (szIntsS_any (H1.out.later (later1 _ _)) _ l0 l1).mono ?_
      rw [HR.out]
      rintro e w' ⟨rfl, rfl⟩
      go_wp2_with fail
      refine (szPuts_any (H2.out.later (later1 _ _)) _ (by omega) (by omega)).mono ?_
      rw [HD.out]
      rintro e w' ⟨rfl, hb⟩
      have HB : Hid (Below w.heap.size w w') := (later1 _ _).trans (hb.mono (by simp))
      clear hb
      go_wp2
      go_ret
      exact ⟨rfl, HB.out⟩
end Go.Proofs.Ytagmmgcdebgfnaa
