/- The program's InodeFault. The program's InodeFault: its kinds. The program's InodeFault. PackInode, both sides. The specification's UsedBlocks, FreeBlocks, PickBlocks and FreeInode. The specification's LinksOf. The specification: are links and places right? -/
import Derived.Test.YtaibcofendjnnaaGreatDoorM06
import Derived.Laws.Cover1
import Derived.Test.YtaibcofendjnnaaGreatDoorM08
import Derived.Test.YtaibcofendjnnaaGreatDoorM07
namespace Go.Proofs.YtaibcofendjnnaaGreatDoor
open Go.RowKit
set_option maxRecDepth 100000

set_option maxHeartbeats 1600000 in
theorem hasFile_any (w : World) (k l s : Int) (a : Option Addr) (n c : Nat) (vE : Value) (a' : Option Addr) (n' c' : Nat) (hv : vE = .slice a' n' c') :
    Calls Tryz.prog 169 #[.agg #[.int .i64 k, .int .i64 l, .int .i64 s, .slice a n c, vE]] w fun e w' => e = .returned (.bool (decide (l ≠ 0) || decide (s ≠ 0) || decide (0 < n))) ∧ Below w.heap.size w w' := by
  subst hv
  by_cases hl : l = 0
  · subst hl
    by_cases hs : s = 0
    · subst hs
      by_cases hn : 0 < n
      · have hn' : decide ((0 : Int) < (n : Int)) = true := by simp; omega
        rw [show (decide ((0 : Int) ≠ 0) || decide ((0 : Int) ≠ 0) || decide (0 < n)) = true by simp; omega]
        go_enter Tryz.func169, Tryz.ntmps169
        go_wp2
        go_ret
        exact ⟨rfl, later1 _ _⟩
      · have hn' : decide ((0 : Int) < (n : Int)) = false := by simp; omega
        rw [show (decide ((0 : Int) ≠ 0) || decide ((0 : Int) ≠ 0) || decide (0 < n)) = false by simp; omega]
        go_enter Tryz.func169, Tryz.ntmps169
        go_wp2
        go_ret
        exact ⟨rfl, later1 _ _⟩
    · have hs' : (s != 0) = true := by simpa using hs
      rw [show (decide ((0 : Int) ≠ 0) || decide (s ≠ 0) || decide (0 < n)) = true by simp [hs]]
      go_enter Tryz.func169, Tryz.ntmps169
      go_wp2
      go_ret
      exact ⟨rfl, later1 _ _⟩
  · have hl' : (l != 0) = true := by simpa using hl
    rw [show (decide (l ≠ 0) || decide (s ≠ 0) || decide (0 < n)) = true by simp [hl]]
    go_enter Tryz.func169, Tryz.ntmps169
    go_wp2
    go_ret
    exact ⟨rfl, later1 _ _⟩
theorem hasDir_any (w : World) (k l s : Int) (a : Option Addr) (n c : Nat) (a' : Option Addr) (n' c' : Nat) :
    Calls Tryz.prog 170 #[.agg #[.int .i64 k, .int .i64 l, .int .i64 s, .slice a n c, .slice a' n' c']] w fun e w' => e = .returned (.bool (decide (0 < n'))) ∧ Below w.heap.size w w' := by
  by_cases hn : 0 < n'
  · have hn' : decide ((0 : Int) < (n' : Int)) = true := by simp; omega
    rw [show decide (0 < n') = true by simpa using hn]
    go_enter Tryz.func170, Tryz.ntmps170
    go_wp2
    go_ret
    exact ⟨rfl, later1 _ _⟩
  · have hn' : decide ((0 : Int) < (n' : Int)) = false := by simp; omega
    rw [show decide (0 < n') = false by simpa using hn]
    go_enter Tryz.func170, Tryz.ntmps170
    go_wp2
    go_ret
    exact ⟨rfl, later1 _ _⟩

/-- Whether one of the first n is x. -/
def hasI (bs : List Int) (n : Nat) (x : Int) : Bool := (List.range n).any fun k => bs[k]?.getD 0 == x
theorem hasI_yes {bs : List Int} {n k : Nat} {x : Int} (hk : k < n) (e : bs[k]?.getD 0 = x) : hasI bs n x = true := by
  unfold hasI; rw [List.any_eq_true]; exact ⟨k, by simpa using hk, by simp [e]⟩
theorem hasI_no {bs : List Int} {n : Nat} {x : Int} (h : ∀ k, k < n → ¬ bs[k]?.getD 0 = x) : hasI bs n x = false := by
  unfold hasI; rw [List.any_eq_false]; intro k hk; simp at hk; simp [h k hk]

set_option maxHeartbeats 1600000 in
theorem indexI_any (w : World) (a : Option Addr) (n c : Nat) (bs : List Int) (x : Int) (hn : n ≤ 1048576) (hc : At1 w a n (fun k => .int .i64 (bs[k]?.getD 0))) :
    Calls Tryz.prog 174 #[.slice a n c, .int .i64 x] w fun e w' => ∃ r : Int, e = .returned (.int .i64 r) ∧ decide (0 ≤ r) = hasI bs n x ∧ ∃ m, w' = w.drewN m := by
  have HC : Hid (At1 w a n (fun k => .int .i64 (bs[k]?.getD 0))) := hc
  clear hc
  go_enter Tryz.func174, Tryz.ntmps174
  go_wp2
  go_loopw [8] (fun i wr => ∃ j m : Nat, j ≤ n ∧ i = .int .i64 j ∧ wr = w.drewN m ∧ ∀ i : Nat, i < j → ¬ bs[i]?.getD 0 = x) (fun i _ => n - (intOf i).toNat)
  case atStart => exact ⟨0, 0, Nat.zero_le _, rfl, rfl, fun i hi => by omega⟩
  case round =>
    obtain ⟨j, m, hj, rfl, rfl, hall⟩ := hrel
    have HA : Hid (∀ i : Nat, i < j → ¬ bs[i]?.getD 0 = x) := hall
    clear hall
    by_cases hlt : j < n
    · obtain ⟨b1, off, rfl, e1⟩ := HC.out j hlt
      dsimp only at e1
      by_cases he : bs[j]?.getD 0 = x
      · have HH : Hid (hasI bs n x = true) := hasI_yes hlt he
        rw [he] at e1
        clear he
        go_wp2
        go_ret
        exact ⟨(j : Int), rfl, by rw [HH.out]; simp, m, rfl⟩
      · have HNE : Hid (∀ i : Nat, i < j + 1 → ¬ bs[i]?.getD 0 = x) := fun i hi => by
          by_cases e : i = j
          · rw [e]; exact he
          · exact HA.out i (by omega)
        have he' : (x == bs[j]?.getD 0) = false := by simp; exact fun h => he h.symm
        have he2 : (x = bs[j]?.getD 0) = False := by simp; exact fun h => he h.symm
        clear he
        generalize bs[j]?.getD 0 = y at *
        go_wp2
        go_roundw
        case rel => exact ⟨j + 1, m, by omega, by go_num, rfl, HNE.out⟩
        case measure => simp [intOf]; omega
    · have HH : Hid (hasI bs n x = false) := hasI_no fun k hk => HA.out k (by omega)
      go_wp2
      go_ret
      exact ⟨-1, rfl, by rw [HH.out]; rfl, m, rfl⟩

set_option maxHeartbeats 1600000 in
theorem containsI_any (w : World) (a : Option Addr) (n c : Nat) (bs : List Int) (x : Int) (hn : n ≤ 1048576) (hc : At1 w a n (fun k => .int .i64 (bs[k]?.getD 0))) :
    Calls Tryz.prog 173 #[.slice a n c, .int .i64 x] w fun e w' => e = .returned (.bool (hasI bs n x)) ∧ ∃ m, w' = w.drewN m := by
  have HC : Hid (At1 w a n (fun k => .int .i64 (bs[k]?.getD 0))) := hc
  clear hc
  go_enter Tryz.func173, Tryz.ntmps173
  go_wp2_with fail
  refine (indexI_any _ a n c bs x hn HC.out).mono ?_
  rintro e w1 ⟨r, rfl, hr, m, rfl⟩
  have HR : Hid (decide (0 ≤ r) = hasI bs n x) := hr
  clear hr
  go_wp2
  go_ret
  exact ⟨by rw [← HR.out]; rfl, m, rfl⟩

set_option maxHeartbeats 3200000 in
theorem blocksFault_any (w : World) (a : Option Addr) (n c : Nat) (bs : List Int) (hn : n ≤ 1048576) (hcap : n ≤ c) (hbn : bs.length = n) (hc : At1 w a n (fun k => .int .i64 (bs[k]?.getD 0))) :
    Calls Tryz.prog 172 #[.slice a n c] w fun e w' => e = .returned (.int .i64 (blkF bs)) ∧ ∃ m, w' = w.drewN m := by
  have HC : Hid (At1 w a n (fun k => .int .i64 (bs[k]?.getD 0))) := hc
  have HN : Hid (bs.length = n) := hbn
  clear hc hbn
  go_enter Tryz.func172, Tryz.ntmps172
  go_wp2
  go_loopw [9] (fun i wr => ∃ j m : Nat, j ≤ n ∧ i = .int .i64 j ∧ wr = w.drewN m ∧ ∀ i : Nat, i < j → rngF bs i = 0) (fun i _ => n - (intOf i).toNat)
  case atStart => exact ⟨0, 0, Nat.zero_le _, rfl, rfl, fun i hi => by omega⟩
  case round =>
    obtain ⟨j, m, hj, rfl, rfl, hall⟩ := hrel
    have HA : Hid (∀ i : Nat, i < j → rngF bs i = 0) := hall
    clear hall
    by_cases hlt : j < n
    · obtain ⟨b1, off, rfl, e1⟩ := HC.out j hlt
      dsimp only at e1
      have HRF : Hid (rngF bs j = if 0 ≤ bs[j]?.getD 0 ∧ bs[j]?.getD 0 ≤ 19 then 0 else 3) := rfl
      generalize bs[j]?.getD 0 = x at *
      have HB3 : Hid (rngF bs j = 3 → blkF bs = 3) := fun h => by
        have h3 : fstNZ (rngF bs) bs.length = 3 := by rw [fstNZ_at HA.out (by rw [h]; decide) (by rw [HN.out]; exact hlt), h]
        unfold blkF; rw [h3]; rfl
      by_cases h0 : x < 0
      · have HZ : Hid (blkF bs = 3) := HB3.out (by rw [HRF.out, if_neg (by omega)])
        go_wp2
        go_ret
        exact ⟨ret_int HZ.out.symm, m, rfl⟩
      · by_cases h1 : 20 ≤ x
        · have HZ : Hid (blkF bs = 3) := HB3.out (by rw [HRF.out, if_neg (by omega)])
          go_wp2
          go_ret
          exact ⟨ret_int HZ.out.symm, m, rfl⟩
        · have HZ : Hid (rngF bs j = 0) := by unfold Hid; rw [HRF.out, if_pos (by omega)]
          go_wp2
          go_roundw
          case rel =>
            refine ⟨j + 1, m, by omega, by go_num, rfl, fun i hi => ?_⟩
            by_cases e : i = j
            · subst e; exact HZ.out
            · exact HA.out i (by omega)
          case measure => simp [intOf]; omega
    · have HB : Hid (blkF bs = fstNZ (dupF bs) bs.length) := by
        unfold Hid blkF; rw [if_pos (fstNZ_zero fun i hi => HA.out i (by rw [HN.out] at hi; omega))]
      clear HA
      go_wp2
      go_loopw [22] (fun i wr => ∃ j m : Nat, j ≤ n ∧ i = .int .i64 j ∧ wr = w.drewN m ∧ ∀ i : Nat, i < j → dupF bs i = 0) (fun i _ => n - (intOf i).toNat)
      case atStart => exact ⟨0, m, Nat.zero_le _, rfl, rfl, fun i hi => by omega⟩
      case round =>
        obtain ⟨j2, m2, hj2, rfl, rfl, hall⟩ := hrel
        have HA : Hid (∀ i : Nat, i < j2 → dupF bs i = 0) := hall
        clear hall
        by_cases hlt2 : j2 < n
        · obtain ⟨b1, off, rfl, e1⟩ := HC.out j2 hlt2
          dsimp only at e1
          have HD : Hid (dupF bs j2 = if hasI bs j2 (bs[j2]?.getD 0) then 7 else 0) := rfl
          have HCN : Hid (∀ W : World, At1 W (some ⟨b1, off, none⟩) j2 (fun k => .int .i64 (bs[k]?.getD 0)) → ∀ cc, Calls Tryz.prog 173 #[.slice (some ⟨b1, off, none⟩) j2 cc, .int .i64 (bs[j2]?.getD 0)] W fun e w' => e = .returned (.bool (hasI bs j2 (bs[j2]?.getD 0))) ∧ ∃ m, w' = W.drewN m) := fun W hW cc => containsI_any W _ j2 cc bs _ (by omega) hW
          have HAT : Hid (At1 w (some ⟨b1, off, none⟩) j2 (fun k => .int .i64 (bs[k]?.getD 0))) := fun k hk => HC.out k (by omega)
          generalize hasI bs j2 (bs[j2]?.getD 0) = hh at *
          generalize bs[j2]?.getD 0 = x at *
          have hj2c : j2 ≤ c := by omega
          cases hh
          · have HZ : Hid (∀ i : Nat, i < j2 + 1 → dupF bs i = 0) := fun i hi => by
              by_cases e : i = j2
              · rw [e, HD.out]; rfl
              · exact HA.out i (by omega)
            go_wp2_with fail
            refine (HCN.out (w.drewN m2) HAT.out _).mono ?_
            rintro e w2 ⟨rfl, m3, rfl⟩
            go_wp2
            go_roundw
            case rel => exact ⟨j2 + 1, _, by omega, by go_num, by first | rfl | rw [World.drewN_drewN], HZ.out⟩
            case measure => simp [intOf]; omega
          · have HZ : Hid (blkF bs = 7) := by
              have h7 : dupF bs j2 = 7 := by rw [HD.out]; rfl
              unfold Hid; rw [HB.out, fstNZ_at HA.out (by rw [h7]; decide) (by rw [HN.out]; exact hlt2), h7]
            go_wp2_with fail
            refine (HCN.out (w.drewN m2) HAT.out _).mono ?_
            rintro e w2 ⟨rfl, m3, rfl⟩
            go_wp2
            go_ret
            exact ⟨ret_int HZ.out.symm, _, by first | rfl | rw [World.drewN_drewN]⟩
        · have HZ : Hid (blkF bs = 0) := by unfold Hid; rw [HB.out, fstNZ_zero fun i hi => HA.out i (by rw [HN.out] at hi; omega)]
          go_wp2
          go_ret
          exact ⟨ret_int HZ.out.symm, m2, rfl⟩
end Go.Proofs.YtaibcofendjnnaaGreatDoor

namespace Go.Proofs.YtaibcofendjnnaaGreatDoor
open Go.RowKit
set_option maxRecDepth 100000

set_option maxHeartbeats 1600000 in
theorem freeFault_any (w : World) (k l s : Int) (a : Option Addr) (n c : Nat) (a' : Option Addr) (n' c' : Nat) :
    Calls Tryz.prog 166 #[.agg #[.int .i64 k, .int .i64 l, .int .i64 s, .slice a n c, .slice a' n' c']] w fun e w' => e = .returned (.int .i64 (if (decide (l ≠ 0) || decide (s ≠ 0) || decide (0 < n)) || decide (0 < n') then 1 else 0)) ∧ Below w.heap.size w w' := by
  have HF := fun W => hasFile_any W k l s a n c (.slice a' n' c') a' n' c' rfl
  have HD := fun W => hasDir_any W k l s a n c a' n' c'
  generalize (decide (l ≠ 0) || decide (s ≠ 0) || decide (0 < n)) = f at *
  generalize decide (0 < n') = g at *
  have HHF : Hid (∀ W : World, _) := HF
  have HHD : Hid (∀ W : World, _) := HD
  clear HF HD
  cases f
  · have HG : Hid ((if (false || g) = true then (1 : Int) else 0) = if g = true then 1 else 0) := by unfold Hid; cases g <;> rfl
    rw [HG.out]
    go_enter Tryz.func166, Tryz.ntmps166
    go_wp2_with fail
    refine (HHF.out _).mono ?_
    rintro e w1 ⟨rfl, hb1⟩
    have HB1 : Hid (Below w.heap.size w w1) := (later1 _ _).trans (hb1.mono (by simp))
    have hx : Bx w1 w.heap.size [.int .i64 k, .int .i64 l, .int .i64 s, .slice a n c, .slice a' n' c'] := (Bx.new w _ _).later hb1
    have c0 := hx 0 _ rfl
    have c1 := hx 1 _ rfl
    have c2 := hx 2 _ rfl
    have c3 := hx 3 _ rfl
    have c4 := hx 4 _ rfl
    clear hb1 hx
    go_wp2_with fail
    refine (HHD.out _).mono ?_
    rintro e w2 ⟨rfl, hb2⟩
    have HB2 : Hid (Below w.heap.size w w2) := HB1.out.trans (hb2.mono HB1.out.size)
    clear hb2 c0 c1 c2 c3 c4
    cases g
    · go_wp2
      go_ret
      exact ⟨rfl, HB2.out⟩
    · go_wp2
      go_ret
      exact ⟨rfl, HB2.out⟩
  · go_enter Tryz.func166, Tryz.ntmps166
    go_wp2_with fail
    refine (HHF.out _).mono ?_
    rintro e w1 ⟨rfl, hb1⟩
    have HB1 : Hid (Below w.heap.size w w1) := (later1 _ _).trans (hb1.mono (by simp))
    clear hb1
    go_wp2
    go_ret
    exact ⟨rfl, HB1.out⟩

set_option maxHeartbeats 3200000 in
theorem fileFault_any (w : World) (k l s : Int) (a : Option Addr) (n c : Nat) (a' : Option Addr) (n' c' : Nat) (bs : List Int) (hn : n ≤ 1048576) (hcap : n ≤ c) (hbn : bs.length = n) (hc : At1 w a n (fun k => .int .i64 (bs[k]?.getD 0))) :
    Calls Tryz.prog 167 #[.agg #[.int .i64 k, .int .i64 l, .int .i64 s, .slice a n c, .slice a' n' c']] w fun e w' => e = .returned (.int .i64 (if decide (0 < n') then 1 else fileF l s bs)) ∧ Below w.heap.size w w' := by
  have HD := fun W => hasDir_any W k l s a n c a' n' c'
  generalize decide (0 < n') = g at *
  have HHD : Hid (∀ W : World, _) := HD
  have HC : Hid (At1 w a n (fun k => .int .i64 (bs[k]?.getD 0))) := hc
  have HN : Hid (bs.length = n) := hbn
  clear HD hc hbn
  cases g
  rotate_left
  · go_enter Tryz.func167, Tryz.ntmps167
    go_wp2_with fail
    refine (HHD.out _).mono ?_
    rintro e w1 ⟨rfl, hb1⟩
    have HB1 : Hid (Below w.heap.size w w1) := (later1 _ _).trans (hb1.mono (by simp))
    clear hb1
    go_wp2
    go_ret
    exact ⟨rfl, HB1.out⟩
  · have HFF : Hid (fileF l s bs = if linkB l = true ∧ sizeB s = true then (if (n : Int) = (s + 7) / 8 then blkF bs else 1) else 3) := by unfold Hid fileF; rw [HN.out]
    have HBF : Hid (bforR s = if sizeB s then (0, (s + 7) / 8) else (3, 0)) := rfl
    have HLK : Hid (linkB l = decide (1 ≤ l ∧ l ≤ 60)) := rfl
    go_enter Tryz.func167, Tryz.ntmps167
    go_wp2_with fail
    refine (HHD.out _).mono ?_
    rintro e w1 ⟨rfl, hb1⟩
    have HB1 : Hid (Below w.heap.size w w1) := (later1 _ _).trans (hb1.mono (by simp))
    have hx : Bx w1 w.heap.size [.int .i64 k, .int .i64 l, .int .i64 s, .slice a n c, .slice a' n' c'] := (Bx.new w _ _).later hb1
    have HX1 : Hid (Bx w1 w.heap.size [.int .i64 k, .int .i64 l, .int .i64 s, .slice a n c, .slice a' n' c']) := hx
    have c2 := hx 2 _ rfl
    clear hb1 hx
    go_wp2_with fail
    refine (implBFor_any _ s).mono ?_
    rw [HBF.out]
    rintro e w2 ⟨rfl, hb2⟩
    have HB2 : Hid (Below w.heap.size w w2) := HB1.out.trans (hb2.mono HB1.out.size)
    have hx : Bx w2 w.heap.size [.int .i64 k, .int .i64 l, .int .i64 s, .slice a n c, .slice a' n' c'] := HX1.out.later hb2
    have c1 := hx 1 _ rfl
    have c3 := hx 3 _ rfl
    have hlt := hx.lt
    clear hb2 hx c2 HX1 HB1
    by_cases hl1 : l < 1
    · have HR : Hid (fileF l s bs = 3) := by unfold Hid; rw [HFF.out, if_neg]; intro h; have := h.1; rw [HLK.out] at this; simp at this; omega
      go_wp2
      all_goals
        go_ret
        exact ⟨ret_int HR.out.symm, HB2.out.trans ((later1 _ _).mono HB2.out.size)⟩
    · by_cases hl2 : 60 < l
      · have HR : Hid (fileF l s bs = 3) := by unfold Hid; rw [HFF.out, if_neg]; intro h; have := h.1; rw [HLK.out] at this; simp at this; omega
        go_wp2
        all_goals
          go_ret
          exact ⟨ret_int HR.out.symm, HB2.out.trans ((later1 _ _).mono HB2.out.size)⟩
      · have hlk : linkB l = true := by rw [HLK.out]; simp; omega
        cases hsz : sizeB s
        · have HR : Hid (fileF l s bs = 3) := by unfold Hid; rw [HFF.out, if_neg]; intro h; rw [hsz] at h; exact absurd h.2 (by decide)
          clear hsz hlk
          go_wp2
          go_ret
          exact ⟨ret_int HR.out.symm, HB2.out.trans ((later1 _ _).mono HB2.out.size)⟩
        · by_cases hlen : (n : Int) = (s + 7) / 8
          · have HR : Hid (fileF l s bs = blkF bs) := by unfold Hid; rw [HFF.out, if_pos ⟨hlk, hsz⟩, if_pos hlen]
            have HBK : Hid (∀ W, Below w.heap.size w W → Calls Tryz.prog 172 #[.slice a n c] W fun e w' => e = .returned (.int .i64 (blkF bs)) ∧ ∃ m, w' = W.drewN m) := fun W hW => blocksFault_any W a n c bs hn hcap HN.out (fun k hk => by
              obtain ⟨b, off, e, h⟩ := HC.out k hk
              exact ⟨b, off, e, cell_later hW h⟩)
            have hnn : ((n : Int) != (n : Int)) = false := by simp
            have HLE : Hid ((n : Int) = (s + 7) / 8) := hlen
            rw [← hlen]
            clear hsz hlk hlen
            go_wp2_with fail
            refine (HBK.out _ (HB2.out.trans ((later1 _ _).mono HB2.out.size))).mono ?_
            rintro e w3 ⟨rfl, m, rfl⟩
            go_wp2
            go_ret
            exact ⟨ret_int HR.out.symm, below_drewN (HB2.out.trans ((later1 _ _).mono HB2.out.size)) m⟩
          · have HR : Hid (fileF l s bs = 1) := by unfold Hid; rw [HFF.out, if_pos ⟨hlk, hsz⟩, if_neg hlen]
            have hne : ((n : Int) != (s + 7) / 8) = true := by simpa using hlen
            clear hsz hlk hlen
            generalize (s + 7) / 8 = q at *
            go_wp2
            go_ret
            exact ⟨ret_int HR.out.symm, HB2.out.trans ((later1 _ _).mono HB2.out.size)⟩
end Go.Proofs.YtaibcofendjnnaaGreatDoor

namespace Go.Proofs.YtaibcofendjnnaaGreatDoor
open Go.RowKit
set_option maxRecDepth 100000

set_option maxHeartbeats 6400000 in
theorem dirFault_any (w : World) (k l s : Int) (a : Option Addr) (n c : Nat) (a' : Option Addr) (n' c' : Nat) (es : List EN) (hen : es.length = n') (_hm : n' ≤ maxLen) (hz : ∀ k : Nat, (es[k]?.getD en0).1.size ≤ maxLen) (hc : AtN w a' n' es) :
    Calls Tryz.prog 168 #[.agg #[.int .i64 k, .int .i64 l, .int .i64 s, .slice a n c, .slice a' n' c']] w fun e w' => e = .returned (.int .i64 (if decide (l ≠ 0) || decide (s ≠ 0) || decide (0 < n) then 1 else dirF es)) ∧ Below w.heap.size w w' := by
  have HF := fun W => hasFile_any W k l s a n c (.slice a' n' c') a' n' c' rfl
  generalize (decide (l ≠ 0) || decide (s ≠ 0) || decide (0 < n)) = f at *
  have HHF : Hid (∀ W : World, _) := HF
  have HC : Hid (AtN w a' n' es) := hc
  have HZ : Hid (∀ k : Nat, (es[k]?.getD en0).1.size ≤ maxLen) := hz
  have HN : Hid (es.length = n') := hen
  clear HF hc hz hen
  cases f
  rotate_left
  · go_enter Tryz.func168, Tryz.ntmps168
    go_wp2_with fail
    refine (HHF.out _).mono ?_
    rintro e w1 ⟨rfl, hb1⟩
    have HB1 : Hid (Below w.heap.size w w1) := (later1 _ _).trans (hb1.mono (by simp))
    clear hb1
    go_wp2
    go_ret
    exact ⟨rfl, HB1.out⟩
  · have HDF : Hid (dirF es = if 6 < n' then 2 else fstNZ (entF es) es.length) := by unfold Hid dirF; rw [HN.out]
    go_enter Tryz.func168, Tryz.ntmps168
    go_wp2_with fail
    refine (HHF.out _).mono ?_
    rintro e w1 ⟨rfl, hb1⟩
    have HB1 : Hid (Below w.heap.size w w1) := (later1 _ _).trans (hb1.mono (by simp))
    have hx : Bx w1 w.heap.size [.int .i64 k, .int .i64 l, .int .i64 s, .slice a n c, .slice a' n' c'] := (Bx.new w _ _).later hb1
    have c4 := hx 4 _ rfl
    have HX1 : Hid (Bx w1 w.heap.size [.int .i64 k, .int .i64 l, .int .i64 s, .slice a n c, .slice a' n' c']) := hx
    have hlt1 := hx.lt
    clear hb1 hx
    by_cases h6 : 6 < n'
    · have h6' : decide ((6 : Int) < (n' : Int)) = true := by simp; omega
      have HR : Hid (dirF es = 2) := by unfold Hid; rw [HDF.out, if_pos h6]
      go_wp2
      go_ret
      exact ⟨ret_int HR.out.symm, HB1.out⟩
    · have h6' : decide ((6 : Int) < (n' : Int)) = false := by simp; omega
      have HR : Hid (dirF es = fstNZ (entF es) es.length) := by unfold Hid; rw [HDF.out, if_neg h6]
      go_wp2
      go_loopw [15] (fun i wr => ∃ j : Nat, j ≤ n' ∧ i = .int .i64 j ∧ Below w1.heap.size w1 wr ∧ ∀ i : Nat, i < j → entF es i = 0) (fun i _ => n' - (intOf i).toNat)
      case atStart => exact ⟨0, Nat.zero_le _, rfl, Below.refl _ _, fun i hi => by omega⟩
      case round =>
        obtain ⟨j, hj, rfl, hbl, hall⟩ := hrel
        have HA : Hid (∀ i : Nat, i < j → entF es i = 0) := hall
        have HBL : Hid (Below w1.heap.size w1 wr) := hbl
        have HBW : Hid (Below w.heap.size w wr) := HB1.out.trans (hbl.mono HB1.out.size)
        have HBN : Hid (∀ o : Obj, Below w1.heap.size w1 (wr.alloc o)) := fun o => hbl.trans ((later1 _ _).mono hbl.size)
        have HBO : Hid (∀ o : Obj, Below w.heap.size w (wr.alloc o)) := fun o => HBW.out.trans ((later1 _ _).mono HBW.out.size)
        have c4' := cell_later hbl c4
        have hlw : w.heap.size < wr.heap.size := Nat.lt_of_lt_of_le hlt1 hbl.size
        clear hall hbl
        by_cases hlt : j < n'
        · obtain ⟨b1, off, rfl, e0, e1⟩ := HC.out j hlt
          have hb1l : b1 < wr.heap.size := Nat.lt_of_lt_of_le (World.block_lt_of_cell? _ _ e0) HBW.out.size
          replace e0 := cell_later HBW.out e0
          replace e1 := cell_later HBW.out e1
          have HSZ : Hid ((es[j]?.getD en0).1.size ≤ maxLen) := HZ.out j
          have HE : Hid (¬ entF es j = 0 → dirF es = entF es j) := fun h => HR.out.trans (fstNZ_at HA.out h (by rw [HN.out]; exact hlt))
          by_cases hnm : nameF (es[j]?.getD en0).1 = 0
          rotate_left
          · have HF : Hid (dirF es = nameF (es[j]?.getD en0).1) := by unfold Hid; rw [HE.out (by rw [entF_name hnm]; exact hnm), entF_name hnm]
            have HNM : Hid (¬ nameF (es[j]?.getD en0).1 = 0) := hnm
            clear hnm HE HA
            generalize (es[j]?.getD en0).1 = x at *
            generalize (es[j]?.getD en0).2 = y at *
            go_wp2_with fail
            refine (implName_any _ x HSZ.out).mono ?_
            generalize nameF x = q at *
            have hq : (q = 0) = False := by simpa using HNM.out
            have hq2 : (q == 0) = false := by simpa using HNM.out
            rintro e w2 ⟨rfl, rfl⟩
            go_wp2
            go_ret
            exact ⟨ret_int HF.out.symm, HBO.out _⟩
          · have HNM : Hid (nameF (es[j]?.getD en0).1 = 0) := hnm
            by_cases hy0 : (es[j]?.getD en0).2 < 0
            · have HF : Hid (dirF es = 3) := by unfold Hid; rw [HE.out (by rw [entF_rng hnm (by omega)]; decide), entF_rng hnm (by omega)]
              clear hnm HE HA
              generalize (es[j]?.getD en0).1 = x at *
              generalize (es[j]?.getD en0).2 = y at *
              go_wp2_with fail
              refine (implName_any _ x HSZ.out).mono ?_
              rw [HNM.out]
              rintro e w2 ⟨rfl, rfl⟩
              go_wp2
              go_ret
              exact ⟨ret_int HF.out.symm, HBO.out _⟩
            · by_cases hy9 : 10 ≤ (es[j]?.getD en0).2
              · have HF : Hid (dirF es = 3) := by unfold Hid; rw [HE.out (by rw [entF_rng hnm (by omega)]; decide), entF_rng hnm (by omega)]
                clear hnm HE HA
                generalize (es[j]?.getD en0).1 = x at *
                generalize (es[j]?.getD en0).2 = y at *
                go_wp2_with fail
                refine (implName_any _ x HSZ.out).mono ?_
                rw [HNM.out]
                rintro e w2 ⟨rfl, rfl⟩
                go_wp2
                go_ret
                exact ⟨ret_int HF.out.symm, HBO.out _⟩
              · have hr : 0 ≤ (es[j]?.getD en0).2 ∧ (es[j]?.getD en0).2 ≤ 9 := by omega
                by_cases h0 : j = 0
                · have HNX : Hid (∀ i : Nat, i < j + 1 → entF es i = 0) := fun i hi => by
                    have : i = j := by omega
                    rw [this]; exact entF_ok hnm hr (by omega)
                  clear hnm HE HA hr
                  generalize (es[j]?.getD en0).1 = x at *
                  generalize (es[j]?.getD en0).2 = y at *
                  subst h0
                  simp only [Nat.zero_mul, Nat.add_zero] at e0 e1
                  go_wp2_with fail
                  refine (implName_any _ x HSZ.out).mono ?_
                  rw [HNM.out]
                  rintro e w2 ⟨rfl, rfl⟩
                  go_wp2_with fail
                  go_quiet (fail)
                  go_wp2
                  go_roundw
                  case rel => exact ⟨1, by omega, by go_num, below_drewN (HBN.out _) nq, HNX.out⟩
                  case measure => simp [intOf]; omega
                · obtain ⟨i, hi⟩ : ∃ i, j = i + 1 := ⟨j - 1, by omega⟩
                  obtain ⟨b2, off2, h12, e2, _⟩ := HC.out i (by omega)
                  simp only [Option.some.injEq, Addr.mk.injEq, and_true] at h12
                  obtain ⟨rfl, rfl⟩ := h12
                  replace e2 := cell_later HBW.out e2
                  have hji : j - 1 = i := by omega
                  by_cases hle : strLe (es[j]?.getD en0).1 (es[i]?.getD en0).1 = true
                  · have HF : Hid (dirF es = 1) := by unfold Hid; rw [HE.out (by rw [entF_form hnm hr (by omega) (by rw [hji]; exact hle)]; decide), entF_form hnm hr (by omega) (by rw [hji]; exact hle)]
                    have hle2 := hle
                    unfold strLe at hle2
                    clear hnm HE HA hr hle
                    subst hi
                    generalize (es[i + 1]?.getD en0).1 = x at *
                    generalize (es[i + 1]?.getD en0).2 = y at *
                    generalize (es[i]?.getD en0).1 = x2 at *
                    have hpos : (0 : Int) < ((i + 1 : Nat) : Int) := by omega
                    go_wp2_with fail
                    refine (implName_any _ x HSZ.out).mono ?_
                    rw [HNM.out]
                    rintro e w2 ⟨rfl, rfl⟩
                    go_wp2_with fail
                    go_quiet (fail)
                    go_wp2
                    go_ret
                    exact ⟨ret_int HF.out.symm, below_drewN (HBO.out _) nq⟩
                  · have HNX : Hid (∀ q : Nat, q < j + 1 → entF es q = 0) := fun q hq => by
                      by_cases e : q = j
                      · rw [e]; exact entF_ok hnm hr (by rw [hji]; exact fun h => hle h.2)
                      · exact HA.out q (by omega)
                    have hle2 : strLe (es[j]?.getD en0).1 (es[i]?.getD en0).1 = false := by simpa using hle
                    unfold strLe at hle2
                    clear hnm HE HA hr hle
                    subst hi
                    generalize (es[i + 1]?.getD en0).1 = x at *
                    generalize (es[i + 1]?.getD en0).2 = y at *
                    generalize (es[i]?.getD en0).1 = x2 at *
                    have hpos : (0 : Int) < ((i + 1 : Nat) : Int) := by omega
                    go_wp2_with fail
                    refine (implName_any _ x HSZ.out).mono ?_
                    rw [HNM.out]
                    rintro e w2 ⟨rfl, rfl⟩
                    go_wp2_with fail
                    go_quiet (fail)
                    go_wp2
                    go_roundw
                    case rel => exact ⟨i + 1 + 1, by omega, by go_num, below_drewN (HBN.out _) nq, HNX.out⟩
                    case measure => simp [intOf]; omega
        · have HF : Hid (dirF es = 0) := by unfold Hid; rw [HR.out, fstNZ_zero fun i hi => HA.out i (by rw [HN.out] at hi; omega)]
          go_wp2
          go_ret
          exact ⟨ret_int HF.out.symm, HBW.out⟩

set_option maxHeartbeats 3200000 in
theorem implInoU (w : World) (z0 z1 z2 : Int) (aB : Option Addr) (nB cB : Nat) (aE : Option Addr) (nE cE : Nat) (d : ID) (h : InoR w (.int .i64 z0) (.int .i64 z1) (.int .i64 z2) (.slice aB nB cB) (.slice aE nE cE) d) (hs : sizeIno d ≤ 1048576) :
    Calls Tryz.prog 160 #[.agg #[.int .i64 z0, .int .i64 z1, .int .i64 z2, .slice aB nB cB, .slice aE nE cE]] w fun e w' => e = .returned (.int .i64 (inoF d)) ∧ Below w.heap.size w w' := by
  obtain ⟨⟨h0, h1, h2, hcap⟩, hi, he⟩ := h
  simp only [Value.int.injEq, true_and] at h0 h1 h2
  obtain ⟨_, _, _, ec, hcap⟩ := hcap
  simp only [Value.slice.injEq] at ec
  obtain ⟨rfl, rfl, rfl⟩ := ec
  obtain ⟨_, _, e1, hm1, hc1⟩ := hi.open'
  obtain ⟨_, _, e2, hm2, hz2, hc2⟩ := he.open'
  simp only [Value.slice.injEq] at e1 e2
  obtain ⟨rfl, e1n, rfl⟩ := e1
  obtain ⟨rfl, rfl, rfl⟩ := e2
  obtain ⟨k, l, s, bs, es⟩ := d
  dsimp only at *
  subst h0 h1 h2
  have hn1 : bs.length ≤ 1048576 := by unfold sizeIno at hs; dsimp only at hs; omega
  subst e1n
  have HFR : Hid (∀ W, Calls Tryz.prog 166 #[.agg #[.int .i64 z0, .int .i64 z1, .int .i64 z2, .slice aB bs.length cB, .slice aE es.length cE]] W fun e w' => e = .returned (.int .i64 (if (decide (z1 ≠ 0) || decide (z2 ≠ 0) || decide (0 < bs.length)) || decide (0 < es.length) then 1 else 0)) ∧ Below W.heap.size W w') := fun W => freeFault_any W z0 z1 z2 aB _ cB aE _ cE
  have HFI : Hid (∀ W, Below w.heap.size w W → Calls Tryz.prog 167 #[.agg #[.int .i64 z0, .int .i64 z1, .int .i64 z2, .slice aB bs.length cB, .slice aE es.length cE]] W fun e w' => e = .returned (.int .i64 (if decide (0 < es.length) then 1 else fileF z1 z2 bs)) ∧ Below W.heap.size W w') := fun W hW => fileFault_any W z0 z1 z2 aB _ cB aE _ cE bs hn1 hcap rfl (fun k hk => by
    obtain ⟨b, off, e, h⟩ := hc1 k hk
    exact ⟨b, off, e, cell_later hW h⟩)
  have HDI : Hid (∀ W, Below w.heap.size w W → Calls Tryz.prog 168 #[.agg #[.int .i64 z0, .int .i64 z1, .int .i64 z2, .slice aB bs.length cB, .slice aE es.length cE]] W fun e w' => e = .returned (.int .i64 (if decide (z1 ≠ 0) || decide (z2 ≠ 0) || decide (0 < bs.length) then 1 else dirF es)) ∧ Below W.heap.size W w') := fun W hW => dirFault_any W z0 z1 z2 aB _ cB aE _ cE es rfl hm2 hz2 (hc2.later hW)
  have HF : Hid (inoF (z0, z1, z2, bs, es) = if z0 = 0 then (if (decide (z1 ≠ 0) || decide (z2 ≠ 0) || decide (0 < bs.length)) || decide (0 < es.length) then 1 else 0) else if z0 = 1 then (if decide (0 < es.length) then 1 else fileF z1 z2 bs) else if z0 = 2 then (if (decide (z1 ≠ 0) || decide (z2 ≠ 0) || decide (0 < bs.length)) then 1 else dirF es) else 1) := rfl
  rw [HF.out]
  clear HF hi he hc1 hc2 hm1 hm2 hz2 hcap hs hn1
  generalize (if (decide (z1 ≠ 0) || decide (z2 ≠ 0) || decide (0 < bs.length)) || decide (0 < es.length) then (1 : Int) else 0) = r0 at *
  generalize (if decide (0 < es.length) then (1 : Int) else fileF z1 z2 bs) = r1 at *
  generalize (if (decide (z1 ≠ 0) || decide (z2 ≠ 0) || decide (0 < bs.length)) then (1 : Int) else dirF es) = r2 at *
  generalize bs.length = n1 at *
  generalize es.length = n2 at *
  by_cases h0 : z0 = 0
  · rw [if_pos h0]
    subst h0
    go_enter Tryz.func160, Tryz.ntmps160
    go_wp2_with fail
    refine (HFR.out _).mono ?_
    rintro e w1 ⟨rfl, hb1⟩
    have HB1 : Hid (Below w.heap.size w w1) := (later1 _ _).trans (hb1.mono (by simp))
    clear hb1
    go_wp2
    go_ret
    exact ⟨rfl, HB1.out⟩
  · rw [if_neg h0]
    by_cases h1 : z0 = 1
    · rw [if_pos h1]
      subst h1
      go_enter Tryz.func160, Tryz.ntmps160
      go_wp2_with fail
      refine (HFI.out _ (later1 _ _)).mono ?_
      rintro e w1 ⟨rfl, hb1⟩
      have HB1 : Hid (Below w.heap.size w w1) := (later1 _ _).trans (hb1.mono (by simp))
      clear hb1
      go_wp2
      go_ret
      exact ⟨rfl, HB1.out⟩
    · rw [if_neg h1]
      by_cases h2 : z0 = 2
      · rw [if_pos h2]
        subst h2
        go_enter Tryz.func160, Tryz.ntmps160
        go_wp2_with fail
        refine (HDI.out _ (later1 _ _)).mono ?_
        rintro e w1 ⟨rfl, hb1⟩
        have HB1 : Hid (Below w.heap.size w w1) := (later1 _ _).trans (hb1.mono (by simp))
        clear hb1
        go_wp2
        go_ret
        exact ⟨rfl, HB1.out⟩
      · rw [if_neg h2]
        have g0 : (z0 == 0) = false := by simpa using h0
        have g1 : (z0 == 1) = false := by simpa using h1
        have g2 : (z0 == 2) = false := by simpa using h2
        go_enter Tryz.func160, Tryz.ntmps160
        go_wp2
        go_ret
        exact ⟨rfl, later1 _ _⟩
end Go.Proofs.YtaibcofendjnnaaGreatDoor

namespace Go.Proofs.YtaibcofendjnnaaGreatDoor
open Go.RowKit
set_option maxRecDepth 100000

/-- Answers that are a code and words. -/
def AnsIR (w : World) (r : Int × List Int) (e : Ending) (w' : World) : Prop := ∃ a n c, e = .returned (.agg #[.int .i64 r.1, .slice a n c]) ∧ Below w.heap.size w w' ∧ IntsO w' (.slice a n c) r.2 (fresh w w')

end Go.Proofs.YtaibcofendjnnaaGreatDoor

namespace Go.Proofs.YtaibcofendjnnaaGreatDoor
open Go.RowKit
set_option maxRecDepth 100000

theorem AnsIR.box {w w2 : World} {a : Option Addr} {n c : Nat} {zs : List Int} (hb : Below w.heap.size w w2) (ho : IntsO w2 (.slice a n c) zs (fun b => w.heap.size + 1 ≤ b ∧ b < w2.heap.size)) (x y : Value) :
    AnsIR w (0, zs) (.returned (.agg #[.int .i64 0, .slice a n c])) ((w2.setCell ⟨w.heap.size, 0, none⟩ x).setCell ⟨w.heap.size, 1, none⟩ y) := by
  refine ⟨_, _, _, rfl, (hb.setCell (by simp) _).setCell (by simp) _, (ho.keep fun b hb hlt => ?_).mono fun b hb => ⟨by omega, by simp only [World.setCell, Array.size_modify]; exact hb.2⟩⟩
  rw [Below.heap_setCell _ _ _ _ (by simp; omega), Below.heap_setCell _ _ _ _ (by simp; omega)]
theorem AnsIR.bad {w w2 : World} (r : Int) (hb : Below w.heap.size w w2) (x y : Value) :
    AnsIR w (r, []) (.returned (.agg #[.int .i64 r, .slice none 0 0])) ((w2.setCell ⟨w.heap.size, 0, none⟩ x).setCell ⟨w.heap.size, 1, none⟩ y) :=
  ⟨_, _, _, rfl, (hb.setCell (by simp) _).setCell (by simp) _, Or.inl ⟨rfl, _, _, rfl⟩⟩
/-- The result's box, made first. -/
theorem box2 (w : World) (t : TypeId) : OwnRow (w.alloc (.cells #[.int .i64 0, .slice none 0 0] t)) w.heap.size 2 (fun i => if i = 0 then .int .i64 0 else .slice none 0 0) := OwnRow.newS w (.int .i64 0) (.slice none 0 0) t
theorem Wds.box {w W w2 : World} {a : Option Addr} {n c : Nat} {zs : List Int} (hW : W.heap.size = w.heap.size + 1) (h : Wds w2 W.heap.size (.slice a n c) zs) : IntsO w2 (.slice a n c) zs (fun b => w.heap.size + 1 ≤ b ∧ b < w2.heap.size) :=
  (h.own' (w0 := W) (Nat.le_refl _)).mono fun b hb => ⟨by have := hb.1; omega, hb.2⟩

end Go.Proofs.YtaibcofendjnnaaGreatDoor

namespace Go.Proofs.YtaibcofendjnnaaGreatDoor
open Go.RowKit
set_option maxRecDepth 100000

theorem entI_get (es : List EN) (k : Nat) : (entI es)[k]?.getD 0 = (es[k]?.getD en0).2 := by
  unfold entI; rw [List.getElem?_map]; cases es[k]? <;> rfl
theorem entI_len (es : List EN) : (entI es).length = es.length := by simp [entI]
theorem allE_bound (ds : List ID) (hs : sizeInos ds ≤ 1048576) (v : Int) : (allE ds).count v ≤ 1048576 := by
  have h2 := allE_len ds
  have h3 := List.count_le_length (a := v) (l := allE ds)
  unfold sizeInos at hs
  omega

set_option maxHeartbeats 1600000 in
theorem l5Links_walk (w : World) (a : Option Addr) (n c : Nat) (ds : List ID) (v : Int) (hn : n ≤ 1048576) (hdn : ds.length = n) (hs : (isz ds).sum ≤ 1048576) (hc : AtI w a n ds) :
    Calls Tryz.prog 92 #[.slice a n c, .int .i64 v] w fun e w' => e = .returned (.int .i64 (((allE ds).count v : Nat) : Int)) ∧ ∃ m, w' = w.drewN m := by
  have HC : Hid (AtI w a n ds) := hc
  have HN : Hid (ds.length = n) := hdn
  have HT : Hid ((allE ds).count v = (((ds.take n).flatMap fun d => entI d.2.2.2.2)).count v) := by unfold Hid allE; rw [List.take_of_length_le (by omega)]
  have HS : Hid (∀ j, (((ds.take j).flatMap fun d => entI d.2.2.2.2)).count v ≤ 1048576) := fun j => by
    have h1 := flat_take (fun d : ID => entI d.2.2.2.2) ds j
    have h2 := allE_len ds
    have h3 := List.count_le_length (a := v) (l := (ds.take j).flatMap fun d => entI d.2.2.2.2)
    unfold allE at h2
    omega
  have HX : Hid (∀ j, j < n → ((ds.take (j + 1)).flatMap fun d => entI d.2.2.2.2).count v = ((ds.take j).flatMap fun d => entI d.2.2.2.2).count v + (entI (ds[j]?.getD id0).2.2.2.2).count v) := fun j hj => by
    rw [flat_next (fun d : ID => entI d.2.2.2.2) ds id0 j (by omega), List.count_append]
  have HZ : Hid (∀ j, (ds[j]?.getD id0).2.2.2.2.length ≤ 1048576) := fun j => by
    have := isz_le ds j
    have hd : sizeIno (ds[j]?.getD id0) = (ds[j]?.getD id0).2.2.2.1.length + ((ds[j]?.getD id0).2.2.2.2.length + (nlens (ds[j]?.getD id0).2.2.2.2).sum) := rfl
    omega
  rw [HT.out]
  clear hc hdn hs HT
  generalize hG : (fun j => ((ds.take j).flatMap fun d => entI d.2.2.2.2).count v) = G at *
  have HG : Hid (∀ j, ((ds.take j).flatMap fun d => entI d.2.2.2.2).count v = G j) := fun j => congrFun hG j
  simp only [HG.out] at HS HX ⊢
  have HG0 : Hid (G 0 = 0) := by unfold Hid; rw [← HG.out 0]; simp
  clear hG HG
  go_enter Tryz.func92, Tryz.ntmps92
  go_wp2
  go_loopw [5, 6] (fun q i wr => ∃ j m : Nat, j ≤ n ∧ i = .int .i64 j ∧ q = .int .i64 ((G j : Nat) : Int) ∧ wr = w.drewN m) (fun _ i _ => n - (intOf i).toNat)
  case atStart => exact ⟨0, 0, Nat.zero_le _, rfl, by rw [HG0.out]; rfl, rfl⟩
  case round =>
    obtain ⟨j, m, hj, rfl, rfl, rfl⟩ := hrel
    by_cases hlt : j < n
    · obtain ⟨b, o, rfl, hI⟩ := HC.out j hlt
      obtain ⟨aB, cB, aE, cE, h0, h1, h2, h3, h4, h5⟩ := hI
      obtain ⟨_, _, e1, hm1, _, hc1⟩ := h5.2.2.open'
      simp only [Value.slice.injEq] at e1
      obtain ⟨rfl, _, rfl⟩ := e1
      have HZJ := HZ.out j
      have HSJ := HS.out (j + 1)
      have HXJ' : Hid (G (j + 1) = G j + (entI (ds[j]?.getD id0).2.2.2.2).count v) := HX.out j hlt
      clear h0 h1 h2 h3 h5 HC
      generalize (ds[j]?.getD id0).2.2.2.2 = es at *
      have HCB : Hid (AtN w aE es.length es) := hc1
      obtain ⟨nB, hnB⟩ : ∃ nB, nB = es.length := ⟨_, rfl⟩
      have HNB : Hid (nB = es.length) := hnB
      have HNI : Hid (nB = (entI es).length) := by unfold Hid; rw [entI_len]; exact hnB
      rw [← hnB] at h4 hm1 HZJ
      have hle : G j + (entI es).count v ≤ 1048576 := by have := HXJ'.out; omega
      have HEG : Hid (∀ k : Nat, (entI es)[k]?.getD 0 = (es[k]?.getD en0).2) := fun k => entI_get es k
      clear hc1 hnB HSJ
      generalize entI es = bs at *
      go_wp2
      go_loopw [5, 7] (fun q i wr => ∃ k m2 : Nat, k ≤ nB ∧ i = .int .i64 k ∧ q = .int .i64 (((G j + (bs.take k).count v : Nat)) : Int) ∧ wr = w.drewN m2) (fun _ i _ => nB - (intOf i).toNat)
      case atStart => exact ⟨0, m, Nat.zero_le _, rfl, by simp, rfl⟩
      case round =>
        obtain ⟨k, m2, hk, rfl, rfl, rfl⟩ := hrel
        by_cases hlk : k < nB
        · obtain ⟨b1, o1, rfl, _, d1⟩ := HCB.out k (by rw [← HNB.out]; exact hlk)
          rw [← HEG.out k] at d1
          have hcn := count_next bs v k (by rw [← HNI.out]; exact hlk)
          have HCN : Hid ((bs.take (k + 1)).count v = (bs.take k).count v + (if bs[k]?.getD 0 = v then 1 else 0)) := hcn
          have hct : (bs.take k).count v ≤ bs.count v := List.Sublist.count_le v (List.take_sublist k bs)
          generalize (bs.take k).count v = ck at *
          clear hcn HCB HEG
          generalize bs[k]?.getD 0 = x at *
          by_cases hxv : x = v
          · have hxb : (x == v) = true := by simpa using hxv
            have HCN' : Hid ((bs.take (k + 1)).count v = ck + 1) := by unfold Hid; rw [HCN.out, if_pos hxv]
            clear hxv HCN
            go_wp2
            go_roundw
            case rel => exact ⟨k + 1, _, by omega, by go_num, by rw [HCN'.out]; go_num, rfl⟩
            case measure => simp [intOf]; omega
          · have hxb : (x == v) = false := by simpa using hxv
            have HCN' : Hid ((bs.take (k + 1)).count v = ck) := by unfold Hid; rw [HCN.out, if_neg hxv, Nat.add_zero]
            clear hxv HCN
            go_wp2
            go_roundw
            case rel => exact ⟨k + 1, _, by omega, by go_num, by rw [HCN'.out], rfl⟩
            case measure => simp [intOf]; omega
        · have hkn : bs.take k = bs := List.take_of_length_le (by rw [← HNI.out]; omega)
          rw [hkn]
          clear hkn
          have HE : Hid (((G j + bs.count v : Nat) : Int) = ((G (j + 1) : Nat) : Int)) := by unfold Hid; rw [HXJ'.out]
          go_wp2
          go_roundw
          case rel => exact ⟨j + 1, _, by omega, by go_num, by rw [HE.out], rfl⟩
          case measure => simp [intOf]; omega
    · have HJ : Hid (G j = G n) := by unfold Hid; rw [show j = n by omega]
      go_wp2
      go_ret
      exact ⟨ret_int (by rw [HJ.out]), m, rfl⟩
theorem l5Links_any {w : World} {vv : Value} {ds : List ID} (h : Inos w vv ds) (hs : sizeInos ds ≤ 1048576) (v : Int) :
    Calls Tryz.prog 92 #[vv, .int .i64 v] w fun e w' => e = .returned (.int .i64 (((allE ds).count v : Nat) : Int)) ∧ ∃ m, w' = w.drewN m := by
  obtain ⟨a, cap, rfl, hm, hc⟩ := h.open'
  unfold sizeInos at hs
  exact l5Links_walk w a _ cap ds v (by omega) rfl (by omega) hc

end Go.Proofs.YtaibcofendjnnaaGreatDoor

namespace Go.Proofs.YtaibcofendjnnaaGreatDoor
open Go.RowKit
set_option maxRecDepth 100000

/-- How many entries have to name an inode. -/
def wantL (ds : List ID) (i : Nat) : Int := if kindAt ds i = 1 then (ds[i]?.getD id0).2.1 else if i = 0 then 0 else 1
def lnkOK (ds : List ID) (i : Nat) : Bool := decide (kindAt ds i = 0) || (decide ((((allE ds).count (i : Int) : Nat) : Int) = wantL ds i) && reachG ds ds.length i)
def linksB (ds : List ID) : Bool := (List.range ds.length).all (lnkOK ds)
theorem linksB_no {ds : List ID} {i : Nat} (hi : i < ds.length) (h : lnkOK ds i = false) : linksB ds = false := by
  unfold linksB
  rw [List.all_eq_false]
  exact ⟨i, by simpa using hi, by simp [h]⟩
theorem linksB_yes {ds : List ID} (h : ∀ i, i < ds.length → lnkOK ds i = true) : linksB ds = true := by
  unfold linksB
  rw [List.all_eq_true]
  intro i hi
  exact h i (by simpa using hi)
theorem selL_contains (p : Nat → Bool) {n i : Nat} (hi : i < n) : (selL p n).contains (i : Int) = p i := by
  cases hp : p i with
  | true =>
    rw [List.contains_iff_mem]
    unfold selL
    rw [List.mem_map]
    exact ⟨i, List.mem_filter.2 ⟨by simpa using hi, hp⟩, rfl⟩
  | false =>
    rw [Bool.eq_false_iff]
    intro hc
    rw [List.contains_iff_mem] at hc
    unfold selL at hc
    rw [List.mem_map] at hc
    obtain ⟨k, hk, e⟩ := hc
    have : k = i := by omega
    subst this
    rw [(List.mem_filter.1 hk).2] at hp
    cases hp

set_option maxHeartbeats 6400000 in
theorem l6Links_any (w : World) (b o : Nat) (d : FD) (aI : Option Addr) (cI : Nat) (aD : Option Addr) (cD : Nat) (h : FsX w b o d aI cI aD cD) (hs : sizeInos d.1 ≤ 1048576) (hn0 : ¬ d.1.length = 0) (hn : d.1.length ≤ 10)
    (hx : ∀ j, j < d.1.length → ∀ k, k < (d.1[j]?.getD id0).2.2.2.2.length → 0 ≤ ((d.1[j]?.getD id0).2.2.2.2[k]?.getD en0).2 ∧ ((d.1[j]?.getD id0).2.2.2.2[k]?.getD en0).2 < (d.1.length : Int)) :
    Calls Tryz.prog 55 #[.pointer (some ⟨b, o, none⟩)] w fun e w' => e = .returned (.bool (linksB d.1)) ∧ Below w.heap.size w w' := by
  have HRE : Hid (Calls Tryz.prog 91 #[.pointer (some ⟨b, o, none⟩)] w fun e w' => ∃ a c n₀, e = .returned (.slice a (selL (reachG d.1 d.1.length) d.1.length).length c) ∧ Below w.heap.size w w' ∧ w.heap.size ≤ n₀ ∧ Wds w' n₀ (.slice a (selL (reachG d.1 d.1.length) d.1.length).length c) (selL (reachG d.1 d.1.length) d.1.length)) := l6Reach_any w b o d aI cI aD cD h hn0 hn hx
  have HX : Hid (FsX w b o d aI cI aD cD) := h
  have HAM : Hid (∀ i : Nat, i < d.1.length → (selL (reachG d.1 d.1.length) d.1.length).contains (i : Int) = reachG d.1 d.1.length i) := fun i hi => selL_contains _ hi
  clear h hx
  generalize selL (reachG d.1 d.1.length) d.1.length = zs at *
  go_enter Tryz.func55, Tryz.ntmps55
  go_wp2_with fail
  refine HRE.out.mono ?_
  rintro e w1 ⟨ar, cr, n₀, rfl, hb1, hn1, hwd⟩
  have HB1 : Hid (Below w.heap.size w w1) := hb1
  have hX1 := HX.out.later hb1
  have HIN : Hid (Ints w1 (.slice ar zs.length cr) zs) := (hwd.own' hn1).reads
  have HAMO : Hid (∀ (m i : Nat), Calls Tryz.prog 93 #[.slice ar zs.length cr, .int .i64 (i : Int)] (w1.drewN m) fun e w' => e = .returned (.bool (zs.contains (i : Int))) ∧ ∃ m', w' = (w1.drewN m).drewN m') := fun m i => l5Among_any (HIN.out.drewN m) _
  have HLN : Hid (∀ (m i : Nat), Calls Tryz.prog 92 #[.slice aI d.1.length cI, .int .i64 (i : Int)] (w1.drewN m) fun e w' => e = .returned (.int .i64 (((allE d.1).count (i : Int) : Nat) : Int)) ∧ ∃ m', w' = (w1.drewN m).drewN m') := fun m i => l5Links_any (hX1.ins.later (below_drewN (Below.refl _ _) m)) hs _
  obtain ⟨_, _, e1, hm1, hAt⟩ := hX1.ins.open'
  simp only [Value.slice.injEq] at e1
  obtain ⟨rfl, -, rfl⟩ := e1
  have HAT : Hid (AtI w1 aI d.1.length d.1) := hAt
  have c0 := hX1.c0
  have HCL : Hid (∀ i, (allE d.1).count (i : Int) ≤ 1048576) := fun i => by
    have h1 := List.count_le_length (a := i) (l := allE d.1)
    have h2 := allE_len d.1
    unfold sizeInos at hs
    omega
  clear hb1 hwd HRE HX hX1 hAt hm1 hs
  obtain ⟨n, hnn⟩ : ∃ n, d.1.length = n := ⟨_, rfl⟩
  have HN : Hid (d.1.length = n) := hnn
  have HOK : Hid (∀ i : Nat, i < n → lnkOK d.1 i = (decide (kindAt d.1 i = 0) || (decide ((((allE d.1).count (i : Int) : Nat) : Int) = wantL d.1 i) && zs.contains (i : Int)))) := fun i hi => by
    rw [HAM.out i (by rw [hnn]; exact hi)]; rfl
  rw [hnn] at HLN HAT c0 hn0 hn
  clear hnn HAM
  generalize zs.length = nz at *
  go_wp2
  go_loopw [4] (fun i wr => ∃ j m : Nat, j ≤ n ∧ i = .int .i64 j ∧ wr = w1.drewN m ∧ ∀ k, k < j → lnkOK d.1 k = true) (fun i _ => n - (intOf i).toNat)
  case atStart => exact ⟨0, 0, Nat.zero_le _, rfl, rfl, fun k hk => by omega⟩
  case round =>
    obtain ⟨j, m, hj, rfl, rfl, hz⟩ := hrel
    have HZ : Hid (∀ k, k < j → lnkOK d.1 k = true) := hz
    clear hz
    by_cases hlt : j < n
    · obtain ⟨b0, o0, rfl, hI⟩ := HAT.out j hlt
      obtain ⟨_, _, _, _, k0, k1, _⟩ := hI
      have HL := HLN.out m j
      have HA := fun q => HAMO.out q j
      have hcl := HCL.out (j : Int)
      have HY : Hid (lnkOK d.1 j = true → ∀ k, k < j + 1 → lnkOK d.1 k = true) := fun hh k hk => by
        by_cases e : k = j
        · subst e; exact hh
        · exact HZ.out k (by omega)
      have HNO : Hid (lnkOK d.1 j = false → linksB d.1 = false) := fun hh => linksB_no (by rw [HN.out]; exact hlt) hh
      have HO : Hid (lnkOK d.1 j = (decide (kindAt d.1 j = 0) || (decide ((((allE d.1).count (j : Int) : Nat) : Int) = wantL d.1 j) && zs.contains (j : Int)))) := HOK.out j hlt
      have HW : Hid (wantL d.1 j = if (d.1[j]?.getD id0).1 = 1 then (d.1[j]?.getD id0).2.1 else if j = 0 then 0 else 1) := rfl
      have HK : Hid (kindAt d.1 j = (d.1[j]?.getD id0).1) := rfl
      have HL' : Hid (Calls Tryz.prog 92 _ _ _) := HL
      have HA' : Hid (∀ q, Calls Tryz.prog 93 _ (w1.drewN q) _) := HA
      clear HL HA
      generalize (d.1[j]?.getD id0).1 = kd at *
      generalize (d.1[j]?.getD id0).2.1 = lk at *
      generalize (allE d.1).count (j : Int) = cn at *
      generalize zs.contains (j : Int) = am at *
      by_cases hk0 : kd = 0
      · have hb0 : (kd == 0) = true := by simpa using hk0
        have HR : Hid (∀ k, k < j + 1 → lnkOK d.1 k = true) := HY.out (by rw [HO.out, HK.out]; simp [hk0])
        clear hk0 HO HW HK HY HNO
        go_wp2_with fail
        refine HL'.out.mono ?_
        rintro e w2 ⟨rfl, m', rfl⟩
        go_wp2
        go_roundw
        case rel => exact ⟨j + 1, _, by omega, by go_num, by first | rfl | rw [World.drewN_drewN], HR.out⟩
        case measure => simp [intOf]; omega
      · have hb0 : (kd == 0) = false := by simpa using hk0
        have HO2 : Hid (lnkOK d.1 j = (decide (((cn : Nat) : Int) = wantL d.1 j) && am)) := by unfold Hid; rw [HO.out, HK.out]; simp [hk0]
        clear hk0 HO HK
        by_cases hk1 : kd = 1
        · have hb1 : (kd == 1) = true := by simpa using hk1
          have HW2 : Hid (wantL d.1 j = lk) := by unfold Hid; rw [HW.out, if_pos hk1]
          clear hk1 HW
          have HW := HW2
          clear HW2
          by_cases hcw : ((cn : Nat) : Int) = lk
          rotate_left
          · have hbc : (((cn : Nat) : Int) != lk) = true := by simpa using hcw
            have HR : Hid (linksB d.1 = false) := HNO.out (by rw [HO2.out, HW.out, decide_eq_false hcw]; rfl)
            clear hcw HO2 HW HY HNO HA'
            go_wp2_with fail
            refine HL'.out.mono ?_
            rintro e w2 ⟨rfl, m', rfl⟩
            go_wp2
            go_ret
            exact ⟨ret_bool HR.out.symm, by first | exact below_drewN HB1.out _ | exact below_drewN (below_drewN HB1.out _) _⟩
          · have hbc : (((cn : Nat) : Int) != lk) = false := by simpa using hcw
            have HO3 : Hid (lnkOK d.1 j = am) := by unfold Hid; rw [HO2.out, HW.out, decide_eq_true hcw]; simp
            clear hcw HO2 HW
            cases am with
            | true =>
              have HR : Hid (∀ k, k < j + 1 → lnkOK d.1 k = true) := HY.out HO3.out
              clear HO3 HY HNO
              go_wp2_with fail
              refine HL'.out.mono ?_
              rintro e w2 ⟨rfl, m', rfl⟩
              rw [World.drewN_drewN]
              go_wp2_with fail
              refine (HA'.out _).mono ?_
              rintro e w3 ⟨rfl, m3, rfl⟩
              go_wp2
              go_roundw
              case rel => exact ⟨j + 1, _, by omega, by go_num, by first | rfl | rw [World.drewN_drewN], HR.out⟩
              case measure => simp [intOf]; omega
            | false =>
              have HR : Hid (linksB d.1 = false) := HNO.out HO3.out
              clear HO3 HY HNO
              go_wp2_with fail
              refine HL'.out.mono ?_
              rintro e w2 ⟨rfl, m', rfl⟩
              rw [World.drewN_drewN]
              go_wp2_with fail
              refine (HA'.out _).mono ?_
              rintro e w3 ⟨rfl, m3, rfl⟩
              go_wp2
              go_ret
              exact ⟨ret_bool HR.out.symm, by first | exact below_drewN HB1.out _ | exact below_drewN (below_drewN HB1.out _) _⟩
        · have hb1 : (kd == 1) = false := by simpa using hk1
          by_cases hj0 : j = 0
          · have hbj : ((j : Int) == 0) = true := by simp [hj0]
            have HW2 : Hid (wantL d.1 j = 0) := by unfold Hid; rw [HW.out, if_neg hk1, if_pos hj0]
            clear hk1 HW hj0
            have HW := HW2
            clear HW2
            by_cases hcw : ((cn : Nat) : Int) = 0
            rotate_left
            · have hbc : (((cn : Nat) : Int) != 0) = true := by simpa using hcw
              have HR : Hid (linksB d.1 = false) := HNO.out (by rw [HO2.out, HW.out, decide_eq_false hcw]; rfl)
              clear hcw HO2 HW HY HNO HA'
              go_wp2_with fail
              refine HL'.out.mono ?_
              rintro e w2 ⟨rfl, m', rfl⟩
              go_wp2
              go_ret
              exact ⟨ret_bool HR.out.symm, by first | exact below_drewN HB1.out _ | exact below_drewN (below_drewN HB1.out _) _⟩
            · have hbc : (((cn : Nat) : Int) != 0) = false := by simpa using hcw
              have HO3 : Hid (lnkOK d.1 j = am) := by unfold Hid; rw [HO2.out, HW.out, decide_eq_true hcw]; simp
              clear hcw HO2 HW
              cases am with
              | true =>
                have HR : Hid (∀ k, k < j + 1 → lnkOK d.1 k = true) := HY.out HO3.out
                clear HO3 HY HNO
                go_wp2_with fail
                refine HL'.out.mono ?_
                rintro e w2 ⟨rfl, m', rfl⟩
                rw [World.drewN_drewN]
                go_wp2_with fail
                refine (HA'.out _).mono ?_
                rintro e w3 ⟨rfl, m3, rfl⟩
                go_wp2
                go_roundw
                case rel => exact ⟨j + 1, _, by omega, by go_num, by first | rfl | rw [World.drewN_drewN], HR.out⟩
                case measure => simp [intOf]; omega
              | false =>
                have HR : Hid (linksB d.1 = false) := HNO.out HO3.out
                clear HO3 HY HNO
                go_wp2_with fail
                refine HL'.out.mono ?_
                rintro e w2 ⟨rfl, m', rfl⟩
                rw [World.drewN_drewN]
                go_wp2_with fail
                refine (HA'.out _).mono ?_
                rintro e w3 ⟨rfl, m3, rfl⟩
                go_wp2
                go_ret
                exact ⟨ret_bool HR.out.symm, by first | exact below_drewN HB1.out _ | exact below_drewN (below_drewN HB1.out _) _⟩
          · have hbj : ((j : Int) == 0) = false := by simp; omega
            have HW2 : Hid (wantL d.1 j = 1) := by unfold Hid; rw [HW.out, if_neg hk1, if_neg hj0]
            clear hk1 HW hj0
            have HW := HW2
            clear HW2
            by_cases hcw : ((cn : Nat) : Int) = 1
            rotate_left
            · have hbc : (((cn : Nat) : Int) != 1) = true := by simpa using hcw
              have HR : Hid (linksB d.1 = false) := HNO.out (by rw [HO2.out, HW.out, decide_eq_false hcw]; rfl)
              clear hcw HO2 HW HY HNO HA'
              go_wp2_with fail
              refine HL'.out.mono ?_
              rintro e w2 ⟨rfl, m', rfl⟩
              go_wp2
              go_ret
              exact ⟨ret_bool HR.out.symm, by first | exact below_drewN HB1.out _ | exact below_drewN (below_drewN HB1.out _) _⟩
            · have hbc : (((cn : Nat) : Int) != 1) = false := by simpa using hcw
              have HO3 : Hid (lnkOK d.1 j = am) := by unfold Hid; rw [HO2.out, HW.out, decide_eq_true hcw]; simp
              clear hcw HO2 HW
              cases am with
              | true =>
                have HR : Hid (∀ k, k < j + 1 → lnkOK d.1 k = true) := HY.out HO3.out
                clear HO3 HY HNO
                go_wp2_with fail
                refine HL'.out.mono ?_
                rintro e w2 ⟨rfl, m', rfl⟩
                rw [World.drewN_drewN]
                go_wp2_with fail
                refine (HA'.out _).mono ?_
                rintro e w3 ⟨rfl, m3, rfl⟩
                go_wp2
                go_roundw
                case rel => exact ⟨j + 1, _, by omega, by go_num, by first | rfl | rw [World.drewN_drewN], HR.out⟩
                case measure => simp [intOf]; omega
              | false =>
                have HR : Hid (linksB d.1 = false) := HNO.out HO3.out
                clear HO3 HY HNO
                go_wp2_with fail
                refine HL'.out.mono ?_
                rintro e w2 ⟨rfl, m', rfl⟩
                rw [World.drewN_drewN]
                go_wp2_with fail
                refine (HA'.out _).mono ?_
                rintro e w3 ⟨rfl, m3, rfl⟩
                go_wp2
                go_ret
                exact ⟨ret_bool HR.out.symm, by first | exact below_drewN HB1.out _ | exact below_drewN (below_drewN HB1.out _) _⟩
    · have HR : Hid (linksB d.1 = true) := linksB_yes fun i hi => HZ.out i (by rw [HN.out] at hi; omega)
      go_wp2
      go_ret
      exact ⟨ret_bool HR.out.symm, below_drewN HB1.out m⟩
end Go.Proofs.YtaibcofendjnnaaGreatDoor
