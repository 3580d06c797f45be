/- The program's InodeFault. The program's InodeFault: its kinds. The program's InodeFault. PackInode, both sides. The specification's UsedBlocks, FreeBlocks, PickBlocks and FreeInode. The specification's PickBlocks. The specification's copying of an inode and of a file system. -/
import Derived.Test.YtpfafcodihhdfaaGreatDoorM08
import Derived.Laws.Cover1
import Derived.Test.YtpfafcodihhdfaaGreatDoorM09
import Derived.Test.YtpfafcodihhdfaaGreatDoorM07
import Derived.Test.YtpfafcodihhdfaaGreatDoorM06
namespace Go.Proofs.YtpfafcodihhdfaaGreatDoor
open Go.RowKit
set_option maxRecDepth 100000

set_option maxHeartbeats 1600000 in
theorem hasFile_any (w : World) (k l s : Int) (a : Option Addr) (n c : Nat) (vE : Value) (a' : Option Addr) (n' c' : Nat) (hv : vE = .slice a' n' c') :
    Calls Tryz.prog 242 #[.agg #[.int .i64 k, .int .i64 l, .int .i64 s, .slice a n c, vE]] w fun e w' => e = .returned (.bool (decide (l ≠ 0) || decide (s ≠ 0) || decide (0 < n))) ∧ Below w.heap.size w w' := by
  subst hv
  by_cases hl : l = 0
  · subst hl
    by_cases hs : s = 0
    · subst hs
      by_cases hn : 0 < n
      · have hn' : decide ((0 : Int) < (n : Int)) = true := by simp; omega
        rw [show (decide ((0 : Int) ≠ 0) || decide ((0 : Int) ≠ 0) || decide (0 < n)) = true by simp; omega]
        go_enter Tryz.func242, Tryz.ntmps242
        go_wp2
        go_ret
        exact ⟨rfl, later1 _ _⟩
      · have hn' : decide ((0 : Int) < (n : Int)) = false := by simp; omega
        rw [show (decide ((0 : Int) ≠ 0) || decide ((0 : Int) ≠ 0) || decide (0 < n)) = false by simp; omega]
        go_enter Tryz.func242, Tryz.ntmps242
        go_wp2
        go_ret
        exact ⟨rfl, later1 _ _⟩
    · have hs' : (s != 0) = true := by simpa using hs
      rw [show (decide ((0 : Int) ≠ 0) || decide (s ≠ 0) || decide (0 < n)) = true by simp [hs]]
      go_enter Tryz.func242, Tryz.ntmps242
      go_wp2
      go_ret
      exact ⟨rfl, later1 _ _⟩
  · have hl' : (l != 0) = true := by simpa using hl
    rw [show (decide (l ≠ 0) || decide (s ≠ 0) || decide (0 < n)) = true by simp [hl]]
    go_enter Tryz.func242, Tryz.ntmps242
    go_wp2
    go_ret
    exact ⟨rfl, later1 _ _⟩
theorem hasDir_any (w : World) (k l s : Int) (a : Option Addr) (n c : Nat) (a' : Option Addr) (n' c' : Nat) :
    Calls Tryz.prog 106 #[.agg #[.int .i64 k, .int .i64 l, .int .i64 s, .slice a n c, .slice a' n' c']] w fun e w' => e = .returned (.bool (decide (0 < n'))) ∧ Below w.heap.size w w' := by
  by_cases hn : 0 < n'
  · have hn' : decide ((0 : Int) < (n' : Int)) = true := by simp; omega
    rw [show decide (0 < n') = true by simpa using hn]
    go_enter Tryz.func106, Tryz.ntmps106
    go_wp2
    go_ret
    exact ⟨rfl, later1 _ _⟩
  · have hn' : decide ((0 : Int) < (n' : Int)) = false := by simp; omega
    rw [show decide (0 < n') = false by simpa using hn]
    go_enter Tryz.func106, Tryz.ntmps106
    go_wp2
    go_ret
    exact ⟨rfl, later1 _ _⟩

/-- Whether one of the first n is x. -/
def hasI (bs : List Int) (n : Nat) (x : Int) : Bool := (List.range n).any fun k => bs[k]?.getD 0 == x
theorem hasI_yes {bs : List Int} {n k : Nat} {x : Int} (hk : k < n) (e : bs[k]?.getD 0 = x) : hasI bs n x = true := by
  unfold hasI; rw [List.any_eq_true]; exact ⟨k, by simpa using hk, by simp [e]⟩
theorem hasI_no {bs : List Int} {n : Nat} {x : Int} (h : ∀ k, k < n → ¬ bs[k]?.getD 0 = x) : hasI bs n x = false := by
  unfold hasI; rw [List.any_eq_false]; intro k hk; simp at hk; simp [h k hk]

set_option maxHeartbeats 1600000 in
theorem indexI_any (w : World) (a : Option Addr) (n c : Nat) (bs : List Int) (x : Int) (hn : n ≤ 1048576) (hc : At1 w a n (fun k => .int .i64 (bs[k]?.getD 0))) :
    Calls Tryz.prog 253 #[.slice a n c, .int .i64 x] w fun e w' => ∃ r : Int, e = .returned (.int .i64 r) ∧ decide (0 ≤ r) = hasI bs n x ∧ ∃ m, w' = w.drewN m := by
  have HC : Hid (At1 w a n (fun k => .int .i64 (bs[k]?.getD 0))) := hc
  clear hc
  go_enter Tryz.func253, Tryz.ntmps253
  go_wp2
  go_loopw [8] (fun i wr => ∃ j m : Nat, j ≤ n ∧ i = .int .i64 j ∧ wr = w.drewN m ∧ ∀ i : Nat, i < j → ¬ bs[i]?.getD 0 = x) (fun i _ => n - (intOf i).toNat)
  case atStart => exact ⟨0, 0, Nat.zero_le _, rfl, rfl, fun i hi => by omega⟩
  case round =>
    obtain ⟨j, m, hj, rfl, rfl, hall⟩ := hrel
    have HA : Hid (∀ i : Nat, i < j → ¬ bs[i]?.getD 0 = x) := hall
    clear hall
    by_cases hlt : j < n
    · obtain ⟨b1, off, rfl, e1⟩ := HC.out j hlt
      dsimp only at e1
      by_cases he : bs[j]?.getD 0 = x
      · have HH : Hid (hasI bs n x = true) := hasI_yes hlt he
        rw [he] at e1
        clear he
        go_wp2
        go_ret
        exact ⟨(j : Int), rfl, by rw [HH.out]; simp, m, rfl⟩
      · have HNE : Hid (∀ i : Nat, i < j + 1 → ¬ bs[i]?.getD 0 = x) := fun i hi => by
          by_cases e : i = j
          · rw [e]; exact he
          · exact HA.out i (by omega)
        have he' : (x == bs[j]?.getD 0) = false := by simp; exact fun h => he h.symm
        have he2 : (x = bs[j]?.getD 0) = False := by simp; exact fun h => he h.symm
        clear he
        generalize bs[j]?.getD 0 = y at *
        go_wp2
        go_roundw
        case rel => exact ⟨j + 1, m, by omega, by go_num, rfl, HNE.out⟩
        case measure => simp [intOf]; omega
    · have HH : Hid (hasI bs n x = false) := hasI_no fun k hk => HA.out k (by omega)
      go_wp2
      go_ret
      exact ⟨-1, rfl, by rw [HH.out]; rfl, m, rfl⟩

set_option maxHeartbeats 1600000 in
theorem containsI_any (w : World) (a : Option Addr) (n c : Nat) (bs : List Int) (x : Int) (hn : n ≤ 1048576) (hc : At1 w a n (fun k => .int .i64 (bs[k]?.getD 0))) :
    Calls Tryz.prog 249 #[.slice a n c, .int .i64 x] w fun e w' => e = .returned (.bool (hasI bs n x)) ∧ ∃ m, w' = w.drewN m := by
  have HC : Hid (At1 w a n (fun k => .int .i64 (bs[k]?.getD 0))) := hc
  clear hc
  go_enter Tryz.func249, Tryz.ntmps249
  go_wp2_with fail
  refine (indexI_any _ a n c bs x hn HC.out).mono ?_
  rintro e w1 ⟨r, rfl, hr, m, rfl⟩
  have HR : Hid (decide (0 ≤ r) = hasI bs n x) := hr
  clear hr
  go_wp2
  go_ret
  exact ⟨by rw [← HR.out]; rfl, m, rfl⟩

set_option maxHeartbeats 3200000 in
theorem blocksFault_any (w : World) (a : Option Addr) (n c : Nat) (bs : List Int) (hn : n ≤ 1048576) (hcap : n ≤ c) (hbn : bs.length = n) (hc : At1 w a n (fun k => .int .i64 (bs[k]?.getD 0))) :
    Calls Tryz.prog 244 #[.slice a n c] w fun e w' => e = .returned (.int .i64 (blkF bs)) ∧ ∃ m, w' = w.drewN m := by
  have HC : Hid (At1 w a n (fun k => .int .i64 (bs[k]?.getD 0))) := hc
  have HN : Hid (bs.length = n) := hbn
  clear hc hbn
  go_enter Tryz.func244, Tryz.ntmps244
  go_wp2
  go_loopw [9] (fun i wr => ∃ j m : Nat, j ≤ n ∧ i = .int .i64 j ∧ wr = w.drewN m ∧ ∀ i : Nat, i < j → rngF bs i = 0) (fun i _ => n - (intOf i).toNat)
  case atStart => exact ⟨0, 0, Nat.zero_le _, rfl, rfl, fun i hi => by omega⟩
  case round =>
    obtain ⟨j, m, hj, rfl, rfl, hall⟩ := hrel
    have HA : Hid (∀ i : Nat, i < j → rngF bs i = 0) := hall
    clear hall
    by_cases hlt : j < n
    · obtain ⟨b1, off, rfl, e1⟩ := HC.out j hlt
      dsimp only at e1
      have HRF : Hid (rngF bs j = if 0 ≤ bs[j]?.getD 0 ∧ bs[j]?.getD 0 ≤ 19 then 0 else 3) := rfl
      generalize bs[j]?.getD 0 = x at *
      have HB3 : Hid (rngF bs j = 3 → blkF bs = 3) := fun h => by
        have h3 : fstNZ (rngF bs) bs.length = 3 := by rw [fstNZ_at HA.out (by rw [h]; decide) (by rw [HN.out]; exact hlt), h]
        unfold blkF; rw [h3]; rfl
      by_cases h0 : x < 0
      · have HZ : Hid (blkF bs = 3) := HB3.out (by rw [HRF.out, if_neg (by omega)])
        go_wp2
        go_ret
        exact ⟨ret_int HZ.out.symm, m, rfl⟩
      · by_cases h1 : 20 ≤ x
        · have HZ : Hid (blkF bs = 3) := HB3.out (by rw [HRF.out, if_neg (by omega)])
          go_wp2
          go_ret
          exact ⟨ret_int HZ.out.symm, m, rfl⟩
        · have HZ : Hid (rngF bs j = 0) := by unfold Hid; rw [HRF.out, if_pos (by omega)]
          go_wp2
          go_roundw
          case rel =>
            refine ⟨j + 1, m, by omega, by go_num, rfl, fun i hi => ?_⟩
            by_cases e : i = j
            · subst e; exact HZ.out
            · exact HA.out i (by omega)
          case measure => simp [intOf]; omega
    · have HB : Hid (blkF bs = fstNZ (dupF bs) bs.length) := by
        unfold Hid blkF; rw [if_pos (fstNZ_zero fun i hi => HA.out i (by rw [HN.out] at hi; omega))]
      clear HA
      go_wp2
      go_loopw [22] (fun i wr => ∃ j m : Nat, j ≤ n ∧ i = .int .i64 j ∧ wr = w.drewN m ∧ ∀ i : Nat, i < j → dupF bs i = 0) (fun i _ => n - (intOf i).toNat)
      case atStart => exact ⟨0, m, Nat.zero_le _, rfl, rfl, fun i hi => by omega⟩
      case round =>
        obtain ⟨j2, m2, hj2, rfl, rfl, hall⟩ := hrel
        have HA : Hid (∀ i : Nat, i < j2 → dupF bs i = 0) := hall
        clear hall
        by_cases hlt2 : j2 < n
        · obtain ⟨b1, off, rfl, e1⟩ := HC.out j2 hlt2
          dsimp only at e1
          have HD : Hid (dupF bs j2 = if hasI bs j2 (bs[j2]?.getD 0) then 7 else 0) := rfl
          have HCN : Hid (∀ W : World, At1 W (some ⟨b1, off, none⟩) j2 (fun k => .int .i64 (bs[k]?.getD 0)) → ∀ cc, Calls Tryz.prog 249 #[.slice (some ⟨b1, off, none⟩) j2 cc, .int .i64 (bs[j2]?.getD 0)] W fun e w' => e = .returned (.bool (hasI bs j2 (bs[j2]?.getD 0))) ∧ ∃ m, w' = W.drewN m) := fun W hW cc => containsI_any W _ j2 cc bs _ (by omega) hW
          have HAT : Hid (At1 w (some ⟨b1, off, none⟩) j2 (fun k => .int .i64 (bs[k]?.getD 0))) := fun k hk => HC.out k (by omega)
          generalize hasI bs j2 (bs[j2]?.getD 0) = hh at *
          generalize bs[j2]?.getD 0 = x at *
          have hj2c : j2 ≤ c := by omega
          cases hh
          · have HZ : Hid (∀ i : Nat, i < j2 + 1 → dupF bs i = 0) := fun i hi => by
              by_cases e : i = j2
              · rw [e, HD.out]; rfl
              · exact HA.out i (by omega)
            go_wp2_with fail
            refine (HCN.out (w.drewN m2) HAT.out _).mono ?_
            rintro e w2 ⟨rfl, m3, rfl⟩
            go_wp2
            go_roundw
            case rel => exact ⟨j2 + 1, _, by omega, by go_num, by first | rfl | rw [World.drewN_drewN], HZ.out⟩
            case measure => simp [intOf]; omega
          · have HZ : Hid (blkF bs = 7) := by
              have h7 : dupF bs j2 = 7 := by rw [HD.out]; rfl
              unfold Hid; rw [HB.out, fstNZ_at HA.out (by rw [h7]; decide) (by rw [HN.out]; exact hlt2), h7]
            go_wp2_with fail
            refine (HCN.out (w.drewN m2) HAT.out _).mono ?_
            rintro e w2 ⟨rfl, m3, rfl⟩
            go_wp2
            go_ret
            exact ⟨ret_int HZ.out.symm, _, by first | rfl | rw [World.drewN_drewN]⟩
        · have HZ : Hid (blkF bs = 0) := by unfold Hid; rw [HB.out, fstNZ_zero fun i hi => HA.out i (by rw [HN.out] at hi; omega)]
          go_wp2
          go_ret
          exact ⟨ret_int HZ.out.symm, m2, rfl⟩
end Go.Proofs.YtpfafcodihhdfaaGreatDoor

namespace Go.Proofs.YtpfafcodihhdfaaGreatDoor
open Go.RowKit
set_option maxRecDepth 100000

set_option maxHeartbeats 1600000 in
theorem freeFault_any (w : World) (k l s : Int) (a : Option Addr) (n c : Nat) (a' : Option Addr) (n' c' : Nat) :
    Calls Tryz.prog 223 #[.agg #[.int .i64 k, .int .i64 l, .int .i64 s, .slice a n c, .slice a' n' c']] w fun e w' => e = .returned (.int .i64 (if (decide (l ≠ 0) || decide (s ≠ 0) || decide (0 < n)) || decide (0 < n') then 1 else 0)) ∧ Below w.heap.size w w' := by
  have HF := fun W => hasFile_any W k l s a n c (.slice a' n' c') a' n' c' rfl
  have HD := fun W => hasDir_any W k l s a n c a' n' c'
  generalize (decide (l ≠ 0) || decide (s ≠ 0) || decide (0 < n)) = f at *
  generalize decide (0 < n') = g at *
  have HHF : Hid (∀ W : World, _) := HF
  have HHD : Hid (∀ W : World, _) := HD
  clear HF HD
  cases f
  · have HG : Hid ((if (false || g) = true then (1 : Int) else 0) = if g = true then 1 else 0) := by unfold Hid; cases g <;> rfl
    rw [HG.out]
    go_enter Tryz.func223, Tryz.ntmps223
    go_wp2_with fail
    refine (HHF.out _).mono ?_
    rintro e w1 ⟨rfl, hb1⟩
    have HB1 : Hid (Below w.heap.size w w1) := (later1 _ _).trans (hb1.mono (by simp))
    have hx : Bx w1 w.heap.size [.int .i64 k, .int .i64 l, .int .i64 s, .slice a n c, .slice a' n' c'] := (Bx.new w _ _).later hb1
    have c0 := hx 0 _ rfl
    have c1 := hx 1 _ rfl
    have c2 := hx 2 _ rfl
    have c3 := hx 3 _ rfl
    have c4 := hx 4 _ rfl
    clear hb1 hx
    go_wp2_with fail
    refine (HHD.out _).mono ?_
    rintro e w2 ⟨rfl, hb2⟩
    have HB2 : Hid (Below w.heap.size w w2) := HB1.out.trans (hb2.mono HB1.out.size)
    clear hb2 c0 c1 c2 c3 c4
    cases g
    · go_wp2
      go_ret
      exact ⟨rfl, HB2.out⟩
    · go_wp2
      go_ret
      exact ⟨rfl, HB2.out⟩
  · go_enter Tryz.func223, Tryz.ntmps223
    go_wp2_with fail
    refine (HHF.out _).mono ?_
    rintro e w1 ⟨rfl, hb1⟩
    have HB1 : Hid (Below w.heap.size w w1) := (later1 _ _).trans (hb1.mono (by simp))
    clear hb1
    go_wp2
    go_ret
    exact ⟨rfl, HB1.out⟩

set_option maxHeartbeats 3200000 in
theorem fileFault_any (w : World) (k l s : Int) (a : Option Addr) (n c : Nat) (a' : Option Addr) (n' c' : Nat) (bs : List Int) (hn : n ≤ 1048576) (hcap : n ≤ c) (hbn : bs.length = n) (hc : At1 w a n (fun k => .int .i64 (bs[k]?.getD 0))) :
    Calls Tryz.prog 224 #[.agg #[.int .i64 k, .int .i64 l, .int .i64 s, .slice a n c, .slice a' n' c']] w fun e w' => e = .returned (.int .i64 (if decide (0 < n') then 1 else fileF l s bs)) ∧ Below w.heap.size w w' := by
  have HD := fun W => hasDir_any W k l s a n c a' n' c'
  generalize decide (0 < n') = g at *
  have HHD : Hid (∀ W : World, _) := HD
  have HC : Hid (At1 w a n (fun k => .int .i64 (bs[k]?.getD 0))) := hc
  have HN : Hid (bs.length = n) := hbn
  clear HD hc hbn
  cases g
  rotate_left
  · go_enter Tryz.func224, Tryz.ntmps224
    go_wp2_with fail
    refine (HHD.out _).mono ?_
    rintro e w1 ⟨rfl, hb1⟩
    have HB1 : Hid (Below w.heap.size w w1) := (later1 _ _).trans (hb1.mono (by simp))
    clear hb1
    go_wp2
    go_ret
    exact ⟨rfl, HB1.out⟩
  · have HFF : Hid (fileF l s bs = if linkB l = true ∧ sizeB s = true then (if (n : Int) = (s + 7) / 8 then blkF bs else 1) else 3) := by unfold Hid fileF; rw [HN.out]
    have HBF : Hid (bforR s = if sizeB s then (0, (s + 7) / 8) else (3, 0)) := rfl
    have HLK : Hid (linkB l = decide (1 ≤ l ∧ l ≤ 60)) := rfl
    go_enter Tryz.func224, Tryz.ntmps224
    go_wp2_with fail
    refine (HHD.out _).mono ?_
    rintro e w1 ⟨rfl, hb1⟩
    have HB1 : Hid (Below w.heap.size w w1) := (later1 _ _).trans (hb1.mono (by simp))
    have hx : Bx w1 w.heap.size [.int .i64 k, .int .i64 l, .int .i64 s, .slice a n c, .slice a' n' c'] := (Bx.new w _ _).later hb1
    have HX1 : Hid (Bx w1 w.heap.size [.int .i64 k, .int .i64 l, .int .i64 s, .slice a n c, .slice a' n' c']) := hx
    have c2 := hx 2 _ rfl
    clear hb1 hx
    go_wp2_with fail
    refine (implBFor_any _ s).mono ?_
    rw [HBF.out]
    rintro e w2 ⟨rfl, hb2⟩
    have HB2 : Hid (Below w.heap.size w w2) := HB1.out.trans (hb2.mono HB1.out.size)
    have hx : Bx w2 w.heap.size [.int .i64 k, .int .i64 l, .int .i64 s, .slice a n c, .slice a' n' c'] := HX1.out.later hb2
    have c1 := hx 1 _ rfl
    have c3 := hx 3 _ rfl
    have hlt := hx.lt
    clear hb2 hx c2 HX1 HB1
    by_cases hl1 : l < 1
    · have HR : Hid (fileF l s bs = 3) := by unfold Hid; rw [HFF.out, if_neg]; intro h; have := h.1; rw [HLK.out] at this; simp at this; omega
      go_wp2
      all_goals
        go_ret
        exact ⟨ret_int HR.out.symm, HB2.out.trans ((later1 _ _).mono HB2.out.size)⟩
    · by_cases hl2 : 60 < l
      · have HR : Hid (fileF l s bs = 3) := by unfold Hid; rw [HFF.out, if_neg]; intro h; have := h.1; rw [HLK.out] at this; simp at this; omega
        go_wp2
        all_goals
          go_ret
          exact ⟨ret_int HR.out.symm, HB2.out.trans ((later1 _ _).mono HB2.out.size)⟩
      · have hlk : linkB l = true := by rw [HLK.out]; simp; omega
        cases hsz : sizeB s
        · have HR : Hid (fileF l s bs = 3) := by unfold Hid; rw [HFF.out, if_neg]; intro h; rw [hsz] at h; exact absurd h.2 (by decide)
          clear hsz hlk
          go_wp2
          go_ret
          exact ⟨ret_int HR.out.symm, HB2.out.trans ((later1 _ _).mono HB2.out.size)⟩
        · by_cases hlen : (n : Int) = (s + 7) / 8
          · have HR : Hid (fileF l s bs = blkF bs) := by unfold Hid; rw [HFF.out, if_pos ⟨hlk, hsz⟩, if_pos hlen]
            have HBK : Hid (∀ W, Below w.heap.size w W → Calls Tryz.prog 244 #[.slice a n c] W fun e w' => e = .returned (.int .i64 (blkF bs)) ∧ ∃ m, w' = W.drewN m) := fun W hW => blocksFault_any W a n c bs hn hcap HN.out (fun k hk => by
              obtain ⟨b, off, e, h⟩ := HC.out k hk
              exact ⟨b, off, e, cell_later hW h⟩)
            have hnn : ((n : Int) != (n : Int)) = false := by simp
            have HLE : Hid ((n : Int) = (s + 7) / 8) := hlen
            rw [← hlen]
            clear hsz hlk hlen
            go_wp2_with fail
            refine (HBK.out _ (HB2.out.trans ((later1 _ _).mono HB2.out.size))).mono ?_
            rintro e w3 ⟨rfl, m, rfl⟩
            go_wp2
            go_ret
            exact ⟨ret_int HR.out.symm, below_drewN (HB2.out.trans ((later1 _ _).mono HB2.out.size)) m⟩
          · have HR : Hid (fileF l s bs = 1) := by unfold Hid; rw [HFF.out, if_pos ⟨hlk, hsz⟩, if_neg hlen]
            have hne : ((n : Int) != (s + 7) / 8) = true := by simpa using hlen
            clear hsz hlk hlen
            generalize (s + 7) / 8 = q at *
            go_wp2
            go_ret
            exact ⟨ret_int HR.out.symm, HB2.out.trans ((later1 _ _).mono HB2.out.size)⟩
end Go.Proofs.YtpfafcodihhdfaaGreatDoor

namespace Go.Proofs.YtpfafcodihhdfaaGreatDoor
open Go.RowKit
set_option maxRecDepth 100000

set_option maxHeartbeats 6400000 in
theorem dirFault_any (w : World) (k l s : Int) (a : Option Addr) (n c : Nat) (a' : Option Addr) (n' c' : Nat) (es : List EN) (hen : es.length = n') (_hm : n' ≤ maxLen) (hz : ∀ k : Nat, (es[k]?.getD en0).1.size ≤ maxLen) (hc : AtN w a' n' es) :
    Calls Tryz.prog 225 #[.agg #[.int .i64 k, .int .i64 l, .int .i64 s, .slice a n c, .slice a' n' c']] w fun e w' => e = .returned (.int .i64 (if decide (l ≠ 0) || decide (s ≠ 0) || decide (0 < n) then 1 else dirF es)) ∧ Below w.heap.size w w' := by
  have HF := fun W => hasFile_any W k l s a n c (.slice a' n' c') a' n' c' rfl
  generalize (decide (l ≠ 0) || decide (s ≠ 0) || decide (0 < n)) = f at *
  have HHF : Hid (∀ W : World, _) := HF
  have HC : Hid (AtN w a' n' es) := hc
  have HZ : Hid (∀ k : Nat, (es[k]?.getD en0).1.size ≤ maxLen) := hz
  have HN : Hid (es.length = n') := hen
  clear HF hc hz hen
  cases f
  rotate_left
  · go_enter Tryz.func225, Tryz.ntmps225
    go_wp2_with fail
    refine (HHF.out _).mono ?_
    rintro e w1 ⟨rfl, hb1⟩
    have HB1 : Hid (Below w.heap.size w w1) := (later1 _ _).trans (hb1.mono (by simp))
    clear hb1
    go_wp2
    go_ret
    exact ⟨rfl, HB1.out⟩
  · have HDF : Hid (dirF es = if 6 < n' then 2 else fstNZ (entF es) es.length) := by unfold Hid dirF; rw [HN.out]
    go_enter Tryz.func225, Tryz.ntmps225
    go_wp2_with fail
    refine (HHF.out _).mono ?_
    rintro e w1 ⟨rfl, hb1⟩
    have HB1 : Hid (Below w.heap.size w w1) := (later1 _ _).trans (hb1.mono (by simp))
    have hx : Bx w1 w.heap.size [.int .i64 k, .int .i64 l, .int .i64 s, .slice a n c, .slice a' n' c'] := (Bx.new w _ _).later hb1
    have c4 := hx 4 _ rfl
    have HX1 : Hid (Bx w1 w.heap.size [.int .i64 k, .int .i64 l, .int .i64 s, .slice a n c, .slice a' n' c']) := hx
    have hlt1 := hx.lt
    clear hb1 hx
    by_cases h6 : 6 < n'
    · have h6' : decide ((6 : Int) < (n' : Int)) = true := by simp; omega
      have HR : Hid (dirF es = 2) := by unfold Hid; rw [HDF.out, if_pos h6]
      go_wp2
      go_ret
      exact ⟨ret_int HR.out.symm, HB1.out⟩
    · have h6' : decide ((6 : Int) < (n' : Int)) = false := by simp; omega
      have HR : Hid (dirF es = fstNZ (entF es) es.length) := by unfold Hid; rw [HDF.out, if_neg h6]
      go_wp2
      go_loopw [15] (fun i wr => ∃ j : Nat, j ≤ n' ∧ i = .int .i64 j ∧ Below w1.heap.size w1 wr ∧ ∀ i : Nat, i < j → entF es i = 0) (fun i _ => n' - (intOf i).toNat)
      case atStart => exact ⟨0, Nat.zero_le _, rfl, Below.refl _ _, fun i hi => by omega⟩
      case round =>
        obtain ⟨j, hj, rfl, hbl, hall⟩ := hrel
        have HA : Hid (∀ i : Nat, i < j → entF es i = 0) := hall
        have HBL : Hid (Below w1.heap.size w1 wr) := hbl
        have HBW : Hid (Below w.heap.size w wr) := HB1.out.trans (hbl.mono HB1.out.size)
        have HBN : Hid (∀ o : Obj, Below w1.heap.size w1 (wr.alloc o)) := fun o => hbl.trans ((later1 _ _).mono hbl.size)
        have HBO : Hid (∀ o : Obj, Below w.heap.size w (wr.alloc o)) := fun o => HBW.out.trans ((later1 _ _).mono HBW.out.size)
        have c4' := cell_later hbl c4
        have hlw : w.heap.size < wr.heap.size := Nat.lt_of_lt_of_le hlt1 hbl.size
        clear hall hbl
        by_cases hlt : j < n'
        · obtain ⟨b1, off, rfl, e0, e1⟩ := HC.out j hlt
          have hb1l : b1 < wr.heap.size := Nat.lt_of_lt_of_le (World.block_lt_of_cell? _ _ e0) HBW.out.size
          replace e0 := cell_later HBW.out e0
          replace e1 := cell_later HBW.out e1
          have HSZ : Hid ((es[j]?.getD en0).1.size ≤ maxLen) := HZ.out j
          have HE : Hid (¬ entF es j = 0 → dirF es = entF es j) := fun h => HR.out.trans (fstNZ_at HA.out h (by rw [HN.out]; exact hlt))
          by_cases hnm : nameF (es[j]?.getD en0).1 = 0
          rotate_left
          · have HF : Hid (dirF es = nameF (es[j]?.getD en0).1) := by unfold Hid; rw [HE.out (by rw [entF_name hnm]; exact hnm), entF_name hnm]
            have HNM : Hid (¬ nameF (es[j]?.getD en0).1 = 0) := hnm
            clear hnm HE HA
            generalize (es[j]?.getD en0).1 = x at *
            generalize (es[j]?.getD en0).2 = y at *
            go_wp2_with fail
            refine (implName_any _ x HSZ.out).mono ?_
            generalize nameF x = q at *
            have hq : (q = 0) = False := by simpa using HNM.out
            have hq2 : (q == 0) = false := by simpa using HNM.out
            rintro e w2 ⟨rfl, rfl⟩
            go_wp2
            go_ret
            exact ⟨ret_int HF.out.symm, HBO.out _⟩
          · have HNM : Hid (nameF (es[j]?.getD en0).1 = 0) := hnm
            by_cases hy0 : (es[j]?.getD en0).2 < 0
            · have HF : Hid (dirF es = 3) := by unfold Hid; rw [HE.out (by rw [entF_rng hnm (by omega)]; decide), entF_rng hnm (by omega)]
              clear hnm HE HA
              generalize (es[j]?.getD en0).1 = x at *
              generalize (es[j]?.getD en0).2 = y at *
              go_wp2_with fail
              refine (implName_any _ x HSZ.out).mono ?_
              rw [HNM.out]
              rintro e w2 ⟨rfl, rfl⟩
              go_wp2
              go_ret
              exact ⟨ret_int HF.out.symm, HBO.out _⟩
            · by_cases hy9 : 10 ≤ (es[j]?.getD en0).2
              · have HF : Hid (dirF es = 3) := by unfold Hid; rw [HE.out (by rw [entF_rng hnm (by omega)]; decide), entF_rng hnm (by omega)]
                clear hnm HE HA
                generalize (es[j]?.getD en0).1 = x at *
                generalize (es[j]?.getD en0).2 = y at *
                go_wp2_with fail
                refine (implName_any _ x HSZ.out).mono ?_
                rw [HNM.out]
                rintro e w2 ⟨rfl, rfl⟩
                go_wp2
                go_ret
                exact ⟨ret_int HF.out.symm, HBO.out _⟩
              · have hr : 0 ≤ (es[j]?.getD en0).2 ∧ (es[j]?.getD en0).2 ≤ 9 := by omega
                by_cases h0 : j = 0
                · have HNX : Hid (∀ i : Nat, i < j + 1 → entF es i = 0) := fun i hi => by
                    have : i = j := by omega
                    rw [this]; exact entF_ok hnm hr (by omega)
                  clear hnm HE HA hr
                  generalize (es[j]?.getD en0).1 = x at *
                  generalize (es[j]?.getD en0).2 = y at *
                  subst h0
                  simp only [Nat.zero_mul, Nat.add_zero] at e0 e1
                  go_wp2_with fail
                  refine (implName_any _ x HSZ.out).mono ?_
                  rw [HNM.out]
                  rintro e w2 ⟨rfl, rfl⟩
                  go_wp2_with fail
                  go_quiet (fail)
                  go_wp2
                  go_roundw
                  case rel => exact ⟨1, by omega, by go_num, below_drewN (HBN.out _) nq, HNX.out⟩
                  case measure => simp [intOf]; omega
                · obtain ⟨i, hi⟩ : ∃ i, j = i + 1 := ⟨j - 1, by omega⟩
                  obtain ⟨b2, off2, h12, e2, _⟩ := HC.out i (by omega)
                  simp only [Option.some.injEq, Addr.mk.injEq, and_true] at h12
                  obtain ⟨rfl, rfl⟩ := h12
                  replace e2 := cell_later HBW.out e2
                  have hji : j - 1 = i := by omega
                  by_cases hle : strLe (es[j]?.getD en0).1 (es[i]?.getD en0).1 = true
                  · have HF : Hid (dirF es = 1) := by unfold Hid; rw [HE.out (by rw [entF_form hnm hr (by omega) (by rw [hji]; exact hle)]; decide), entF_form hnm hr (by omega) (by rw [hji]; exact hle)]
                    have hle2 := hle
                    unfold strLe at hle2
                    clear hnm HE HA hr hle
                    subst hi
                    generalize (es[i + 1]?.getD en0).1 = x at *
                    generalize (es[i + 1]?.getD en0).2 = y at *
                    generalize (es[i]?.getD en0).1 = x2 at *
                    have hpos : (0 : Int) < ((i + 1 : Nat) : Int) := by omega
                    go_wp2_with fail
                    refine (implName_any _ x HSZ.out).mono ?_
                    rw [HNM.out]
                    rintro e w2 ⟨rfl, rfl⟩
                    go_wp2_with fail
                    go_quiet (fail)
                    go_wp2
                    go_ret
                    exact ⟨ret_int HF.out.symm, below_drewN (HBO.out _) nq⟩
                  · have HNX : Hid (∀ q : Nat, q < j + 1 → entF es q = 0) := fun q hq => by
                      by_cases e : q = j
                      · rw [e]; exact entF_ok hnm hr (by rw [hji]; exact fun h => hle h.2)
                      · exact HA.out q (by omega)
                    have hle2 : strLe (es[j]?.getD en0).1 (es[i]?.getD en0).1 = false := by simpa using hle
                    unfold strLe at hle2
                    clear hnm HE HA hr hle
                    subst hi
                    generalize (es[i + 1]?.getD en0).1 = x at *
                    generalize (es[i + 1]?.getD en0).2 = y at *
                    generalize (es[i]?.getD en0).1 = x2 at *
                    have hpos : (0 : Int) < ((i + 1 : Nat) : Int) := by omega
                    go_wp2_with fail
                    refine (implName_any _ x HSZ.out).mono ?_
                    rw [HNM.out]
                    rintro e w2 ⟨rfl, rfl⟩
                    go_wp2_with fail
                    go_quiet (fail)
                    go_wp2
                    go_roundw
                    case rel => exact ⟨i + 1 + 1, by omega, by go_num, below_drewN (HBN.out _) nq, HNX.out⟩
                    case measure => simp [intOf]; omega
        · have HF : Hid (dirF es = 0) := by unfold Hid; rw [HR.out, fstNZ_zero fun i hi => HA.out i (by rw [HN.out] at hi; omega)]
          go_wp2
          go_ret
          exact ⟨ret_int HF.out.symm, HBW.out⟩

set_option maxHeartbeats 3200000 in
theorem implInoU (w : World) (z0 z1 z2 : Int) (aB : Option Addr) (nB cB : Nat) (aE : Option Addr) (nE cE : Nat) (d : ID) (h : InoR w (.int .i64 z0) (.int .i64 z1) (.int .i64 z2) (.slice aB nB cB) (.slice aE nE cE) d) (hs : sizeIno d ≤ 1048576) :
    Calls Tryz.prog 191 #[.agg #[.int .i64 z0, .int .i64 z1, .int .i64 z2, .slice aB nB cB, .slice aE nE cE]] w fun e w' => e = .returned (.int .i64 (inoF d)) ∧ Below w.heap.size w w' := by
  obtain ⟨⟨h0, h1, h2, hcap⟩, hi, he⟩ := h
  simp only [Value.int.injEq, true_and] at h0 h1 h2
  obtain ⟨_, _, _, ec, hcap⟩ := hcap
  simp only [Value.slice.injEq] at ec
  obtain ⟨rfl, rfl, rfl⟩ := ec
  obtain ⟨_, _, e1, hm1, hc1⟩ := hi.open'
  obtain ⟨_, _, e2, hm2, hz2, hc2⟩ := he.open'
  simp only [Value.slice.injEq] at e1 e2
  obtain ⟨rfl, e1n, rfl⟩ := e1
  obtain ⟨rfl, rfl, rfl⟩ := e2
  obtain ⟨k, l, s, bs, es⟩ := d
  dsimp only at *
  subst h0 h1 h2
  have hn1 : bs.length ≤ 1048576 := by unfold sizeIno at hs; dsimp only at hs; omega
  subst e1n
  have HFR : Hid (∀ W, Calls Tryz.prog 223 #[.agg #[.int .i64 z0, .int .i64 z1, .int .i64 z2, .slice aB bs.length cB, .slice aE es.length cE]] W fun e w' => e = .returned (.int .i64 (if (decide (z1 ≠ 0) || decide (z2 ≠ 0) || decide (0 < bs.length)) || decide (0 < es.length) then 1 else 0)) ∧ Below W.heap.size W w') := fun W => freeFault_any W z0 z1 z2 aB _ cB aE _ cE
  have HFI : Hid (∀ W, Below w.heap.size w W → Calls Tryz.prog 224 #[.agg #[.int .i64 z0, .int .i64 z1, .int .i64 z2, .slice aB bs.length cB, .slice aE es.length cE]] W fun e w' => e = .returned (.int .i64 (if decide (0 < es.length) then 1 else fileF z1 z2 bs)) ∧ Below W.heap.size W w') := fun W hW => fileFault_any W z0 z1 z2 aB _ cB aE _ cE bs hn1 hcap rfl (fun k hk => by
    obtain ⟨b, off, e, h⟩ := hc1 k hk
    exact ⟨b, off, e, cell_later hW h⟩)
  have HDI : Hid (∀ W, Below w.heap.size w W → Calls Tryz.prog 225 #[.agg #[.int .i64 z0, .int .i64 z1, .int .i64 z2, .slice aB bs.length cB, .slice aE es.length cE]] W fun e w' => e = .returned (.int .i64 (if decide (z1 ≠ 0) || decide (z2 ≠ 0) || decide (0 < bs.length) then 1 else dirF es)) ∧ Below W.heap.size W w') := fun W hW => dirFault_any W z0 z1 z2 aB _ cB aE _ cE es rfl hm2 hz2 (hc2.later hW)
  have HF : Hid (inoF (z0, z1, z2, bs, es) = if z0 = 0 then (if (decide (z1 ≠ 0) || decide (z2 ≠ 0) || decide (0 < bs.length)) || decide (0 < es.length) then 1 else 0) else if z0 = 1 then (if decide (0 < es.length) then 1 else fileF z1 z2 bs) else if z0 = 2 then (if (decide (z1 ≠ 0) || decide (z2 ≠ 0) || decide (0 < bs.length)) then 1 else dirF es) else 1) := rfl
  rw [HF.out]
  clear HF hi he hc1 hc2 hm1 hm2 hz2 hcap hs hn1
  generalize (if (decide (z1 ≠ 0) || decide (z2 ≠ 0) || decide (0 < bs.length)) || decide (0 < es.length) then (1 : Int) else 0) = r0 at *
  generalize (if decide (0 < es.length) then (1 : Int) else fileF z1 z2 bs) = r1 at *
  generalize (if (decide (z1 ≠ 0) || decide (z2 ≠ 0) || decide (0 < bs.length)) then (1 : Int) else dirF es) = r2 at *
  generalize bs.length = n1 at *
  generalize es.length = n2 at *
  by_cases h0 : z0 = 0
  · rw [if_pos h0]
    subst h0
    go_enter Tryz.func191, Tryz.ntmps191
    go_wp2_with fail
    refine (HFR.out _).mono ?_
    rintro e w1 ⟨rfl, hb1⟩
    have HB1 : Hid (Below w.heap.size w w1) := (later1 _ _).trans (hb1.mono (by simp))
    clear hb1
    go_wp2
    go_ret
    exact ⟨rfl, HB1.out⟩
  · rw [if_neg h0]
    by_cases h1 : z0 = 1
    · rw [if_pos h1]
      subst h1
      go_enter Tryz.func191, Tryz.ntmps191
      go_wp2_with fail
      refine (HFI.out _ (later1 _ _)).mono ?_
      rintro e w1 ⟨rfl, hb1⟩
      have HB1 : Hid (Below w.heap.size w w1) := (later1 _ _).trans (hb1.mono (by simp))
      clear hb1
      go_wp2
      go_ret
      exact ⟨rfl, HB1.out⟩
    · rw [if_neg h1]
      by_cases h2 : z0 = 2
      · rw [if_pos h2]
        subst h2
        go_enter Tryz.func191, Tryz.ntmps191
        go_wp2_with fail
        refine (HDI.out _ (later1 _ _)).mono ?_
        rintro e w1 ⟨rfl, hb1⟩
        have HB1 : Hid (Below w.heap.size w w1) := (later1 _ _).trans (hb1.mono (by simp))
        clear hb1
        go_wp2
        go_ret
        exact ⟨rfl, HB1.out⟩
      · rw [if_neg h2]
        have g0 : (z0 == 0) = false := by simpa using h0
        have g1 : (z0 == 1) = false := by simpa using h1
        have g2 : (z0 == 2) = false := by simpa using h2
        go_enter Tryz.func191, Tryz.ntmps191
        go_wp2
        go_ret
        exact ⟨rfl, later1 _ _⟩
end Go.Proofs.YtpfafcodihhdfaaGreatDoor

namespace Go.Proofs.YtpfafcodihhdfaaGreatDoor
open Go.RowKit
set_option maxRecDepth 100000

/-- Answers that are a code and words. -/
def AnsIR (w : World) (r : Int × List Int) (e : Ending) (w' : World) : Prop := ∃ a n c, e = .returned (.agg #[.int .i64 r.1, .slice a n c]) ∧ Below w.heap.size w w' ∧ IntsO w' (.slice a n c) r.2 (fresh w w')

end Go.Proofs.YtpfafcodihhdfaaGreatDoor

namespace Go.Proofs.YtpfafcodihhdfaaGreatDoor
open Go.RowKit
set_option maxRecDepth 100000

theorem AnsIR.box {w w2 : World} {a : Option Addr} {n c : Nat} {zs : List Int} (hb : Below w.heap.size w w2) (ho : IntsO w2 (.slice a n c) zs (fun b => w.heap.size + 1 ≤ b ∧ b < w2.heap.size)) (x y : Value) :
    AnsIR w (0, zs) (.returned (.agg #[.int .i64 0, .slice a n c])) ((w2.setCell ⟨w.heap.size, 0, none⟩ x).setCell ⟨w.heap.size, 1, none⟩ y) := by
  refine ⟨_, _, _, rfl, (hb.setCell (by simp) _).setCell (by simp) _, (ho.keep fun b hb hlt => ?_).mono fun b hb => ⟨by omega, by simp only [World.setCell, Array.size_modify]; exact hb.2⟩⟩
  rw [Below.heap_setCell _ _ _ _ (by simp; omega), Below.heap_setCell _ _ _ _ (by simp; omega)]
theorem AnsIR.bad {w w2 : World} (r : Int) (hb : Below w.heap.size w w2) (x y : Value) :
    AnsIR w (r, []) (.returned (.agg #[.int .i64 r, .slice none 0 0])) ((w2.setCell ⟨w.heap.size, 0, none⟩ x).setCell ⟨w.heap.size, 1, none⟩ y) :=
  ⟨_, _, _, rfl, (hb.setCell (by simp) _).setCell (by simp) _, Or.inl ⟨rfl, _, _, rfl⟩⟩
/-- The result's box, made first. -/
theorem box2 (w : World) (t : TypeId) : OwnRow (w.alloc (.cells #[.int .i64 0, .slice none 0 0] t)) w.heap.size 2 (fun i => if i = 0 then .int .i64 0 else .slice none 0 0) := OwnRow.newS w (.int .i64 0) (.slice none 0 0) t
theorem Wds.box {w W w2 : World} {a : Option Addr} {n c : Nat} {zs : List Int} (hW : W.heap.size = w.heap.size + 1) (h : Wds w2 W.heap.size (.slice a n c) zs) : IntsO w2 (.slice a n c) zs (fun b => w.heap.size + 1 ≤ b ∧ b < w2.heap.size) :=
  (h.own' (w0 := W) (Nat.le_refl _)).mono fun b hb => ⟨by have := hb.1; omega, hb.2⟩

end Go.Proofs.YtpfafcodihhdfaaGreatDoor

namespace Go.Proofs.YtpfafcodihhdfaaGreatDoor
open Go.RowKit
set_option maxRecDepth 100000

/-- The same, and the list is no longer than its room. -/
def AnsIC (w : World) (r : Int × List Int) (e : Ending) (w' : World) : Prop := AnsIR w r e w' ∧ ∀ x a n c, e = .returned (.agg #[x, .slice a n c]) → n ≤ c
theorem AnsIC.mk {w w' : World} {r : Int × List Int} {x : Value} {a : Option Addr} {n c : Nat} (h : AnsIR w r (.returned (.agg #[x, .slice a n c])) w') (hc : n ≤ c) : AnsIC w r (.returned (.agg #[x, .slice a n c])) w' :=
  ⟨h, fun x' a' n' c' e => by
    simp only [Ending.returned.injEq, Value.agg.injEq, Array.mk.injEq, List.cons.injEq, Value.slice.injEq, and_true] at e
    omega⟩
theorem slice_takeI (a : Option Addr) (n c j : Nat) (hj : j ≤ c) :
    ∃ A C, j ≤ C ∧ (∀ W : World, (Instr.slice 40 (.slice a n c) none (some (.int .i64 (j : Int))) none).run Tryz.prog W = .ok (.slice A j C) W) ∧ ∀ (W : World) (zs : List Int) (F : Nat → Prop), j ≤ zs.length → IntsO W (.slice a n c) zs F → IntsO W (.slice A j C) (zs.take j) F := by
  obtain ⟨i, hi, _⟩ := Tryz.infoInt'
  refine ⟨if c = 0 then a else a.map (·.add (0 * 1)), c - 0, by omega, fun W => ?_, fun W zs F hjn h => ?_⟩
  · simp [Instr.slice, Instr.sliceBounds, Instr.sliceBound, asIntOf, run_underlying Tryz.underlying40, sizeOf, typeInfo, hi, hj]
  · by_cases hj0 : j = 0
    · subst hj0
      exact Or.inl ⟨by simp, _, _, rfl⟩
    · rw [if_neg (by omega)]
      rcases h with ⟨h, _⟩ | ⟨b, cap, hF, h1, h2, h3⟩
      · subst h; simp at hjn; omega
      · simp only [Value.slice.injEq] at h1
        obtain ⟨rfl, rfl, rfl⟩ := h1
        have hl : (zs.take j).length = j := by rw [List.length_take]; omega
        refine Or.inr ⟨b, c - 0, hF, by rw [hl]; simp [Addr.add], by rw [hl]; omega, ?_⟩
        obtain ⟨cs, t, hb, hn, hc⟩ := h3
        refine ⟨cs, t, hb, by rw [hl]; omega, fun k hk => ?_⟩
        rw [hl] at hk
        rw [hc k (by omega)]
        dsimp only
        rw [List.getElem?_take, if_pos hk]
theorem Wds.cap {w : World} {n₀ : Nat} {a : Option Addr} {n c : Nat} {zs : List Int} (h : Wds w n₀ (.slice a n c) zs) : n ≤ c := by
  rcases h.2 with ⟨e, h0⟩ | ⟨g, cap, cur, e, _, _, hnc, _⟩
  · simp only [Value.slice.injEq] at e; omega
  · simp only [Value.slice.injEq] at e; omega

set_option maxHeartbeats 3200000 in
theorem specPickC (w : World) (a : Option Addr) (n c : Nat) (ds : List ID) (a' : Option Addr) (n' c' : Nat) (bs : List Int) (k : Int) (h : Inos w (.slice a n c) ds) (h' : Ints w (.slice a' n' c') bs) (hs : sizeInos ds ≤ 1048576) (_ : bs.length ≤ 1048576) :
    Calls Tryz.prog 221 #[.slice a n c, .slice a' n' c', .int .i64 k] w (AnsIC w (pickR ds bs k)) := by
  have HF : Hid (∀ W, Below w.heap.size w W → Calls Tryz.prog 240 #[.slice a n c, .slice a' n' c'] W fun e w' => e = .returned (.int .i64 (askF ds bs)) ∧ ∃ m, w' = W.drewN m) := fun W hW => l5Asked_any (h.later hW) (h'.later hW)
  have HU : Hid (∀ W, Below w.heap.size w W → Calls Tryz.prog 241 #[.slice a n c, .slice a' n' c'] W fun e w' => ∃ a c, e = .returned (.slice a (selL (freeP ds bs) 20).length c) ∧ Below W.heap.size W w' ∧ Wds w' W.heap.size (.slice a (selL (freeP ds bs) 20).length c) (selL (freeP ds bs) 20)) := fun W hW => l5Free_any (h.later hW) (h'.later hW) hs
  have HR : Hid (pickR ds bs k = if askF ds bs = 0 then (if 0 ≤ k ∧ k ≤ 4 then (if ((selL (freeP ds bs) 20).length : Int) < k then (8, []) else (0, (selL (freeP ds bs) 20).take k.toNat)) else (3, [])) else (askF ds bs, [])) := rfl
  rw [HR.out]
  have hl20 := selL_len (freeP ds bs) 20
  clear HR h hs h'
  generalize askF ds bs = r at *
  generalize selL (freeP ds bs) 20 = zs at *
  have HRB : Hid (OwnRow (w.alloc (.cells #[.int .i64 0, .slice none 0 0] 261)) w.heap.size 2 (fun i => if i = 0 then .int .i64 0 else .slice none 0 0)) := box2 w _
  have HB0 : Hid (Below w.heap.size w (w.alloc (.cells #[.int .i64 0, .slice none 0 0] 261))) := later1 _ _
  have hwz : (w.alloc (.cells #[.int .i64 0, .slice none 0 0] 261)).heap.size = w.heap.size + 1 := by simp
  by_cases hf : r = 0
  · rw [if_pos hf]
    subst hf
    by_cases hk : 0 ≤ k ∧ k ≤ 4
    · rw [if_pos hk]
      have HK : Hid (decide (0 ≤ k ∧ k ≤ 4) = true) := by unfold Hid; simpa using hk
      obtain ⟨j, hj⟩ := Int.eq_ofNat_of_zero_le hk.1
      subst hj
      have hj4 : j ≤ 4 := by omega
      clear hk
      by_cases hlt : ((zs.length : Nat) : Int) < (j : Int)
      · rw [if_pos hlt]
        have hltd : decide (((zs.length : Nat) : Int) < (j : Int)) = true := by simpa using hlt
        have hltd' : decide (zs.length < j) = true := by simpa using hlt
        clear hlt
        go_enter Tryz.func221, Tryz.ntmps221
        go_wp2_with fail
        generalize hW : w.alloc (Obj.cells #[.int .i64 0, .slice none 0 0] 261) = W at *
        clear hW
        refine (HF.out _ HB0.out).mono ?_
        rintro e w1 ⟨rfl, m, rfl⟩
        go_wp2_with fail
        refine (l1In_is HK.out).mono ?_
        rintro e w1 ⟨rfl, rfl⟩
        go_wp2_with fail
        refine (HU.out _ (below_drewN HB0.out m)).mono ?_
        rintro e w2 ⟨aV, cV, rfl, hb2, hw2⟩
        have HB2 : Hid (Below w.heap.size w w2) := (below_drewN HB0.out m).trans (hb2.mono (below_drewN HB0.out m).size)
        have hrow : OwnRow w2 w.heap.size 2 (fun i => if i = 0 then .int .i64 0 else .slice none 0 0) := OwnRow.later (w := W.drewN m) HRB.out hb2
        have t0 := hrow.cell (i := 0) (by omega)
        have t1 := hrow.cell (i := 1) (by omega)
        have s0 := hrow.frozen 0
        have s1 := hrow.frozen 1
        simp at t0 t1
        have hz2 := hrow.lt
        clear hb2 hw2 hrow
        go_wp2
        exact bodyPost_ret (v := .agg #[.int .i64 8, .slice none 0 0]) (by simp [results, Tryz.results221, go_sem, t0, t1]) rfl (AnsIC.mk (AnsIR.bad 8 HB2.out _ _) (Nat.le_refl _))
      · rw [if_neg hlt]
        have hltd : decide (((zs.length : Nat) : Int) < (j : Int)) = false := by simpa using hlt
        have hltd' : decide (zs.length < j) = false := by simpa using hlt
        have hjz : j ≤ zs.length := by omega
        rw [Int.toNat_natCast]
        clear hlt
        go_enter Tryz.func221, Tryz.ntmps221
        go_wp2_with fail
        generalize hW : w.alloc (Obj.cells #[.int .i64 0, .slice none 0 0] 261) = W at *
        clear hW
        refine (HF.out _ HB0.out).mono ?_
        rintro e w1 ⟨rfl, m, rfl⟩
        go_wp2_with fail
        refine (l1In_is HK.out).mono ?_
        rintro e w1 ⟨rfl, rfl⟩
        go_wp2_with fail
        refine (HU.out _ (below_drewN HB0.out m)).mono ?_
        rintro e w2 ⟨aV, cV, rfl, hb2, hw2⟩
        have HB2 : Hid (Below w.heap.size w w2) := (below_drewN HB0.out m).trans (hb2.mono (below_drewN HB0.out m).size)
        have hrow : OwnRow w2 w.heap.size 2 (fun i => if i = 0 then .int .i64 0 else .slice none 0 0) := OwnRow.later (w := W.drewN m) HRB.out hb2
        obtain ⟨A, C, hjC, hsl, hown⟩ := slice_takeI aV zs.length cV j (by have := hw2.cap; omega)
        have HI : Hid (IntsO w2 (.slice A j C) (zs.take j) (fun b => w.heap.size + 1 ≤ b ∧ b < w2.heap.size)) := hown w2 zs _ hjz (hw2.box (W := W.drewN m) hwz)
        have t0 := hrow.cell (i := 0) (by omega)
        have t1 := hrow.cell (i := 1) (by omega)
        have s0 := hrow.frozen 0
        have s1 := hrow.frozen 1
        simp at t0 t1
        have hz2 := hrow.lt
        have HJC : Hid (j ≤ C) := hjC
        clear hb2 hw2 hrow hown hjC
        go_wp2
        exact bodyPost_ret (v := .agg #[.int .i64 0, .slice A j C]) (by simp [results, Tryz.results221, go_sem, t0, t1]) rfl (AnsIC.mk (AnsIR.box HB2.out HI.out _ _) HJC.out)
    · rw [if_neg hk]
      have HK : Hid (decide (0 ≤ k ∧ k ≤ 4) = false) := by unfold Hid; simpa using hk
      clear hk
      go_enter Tryz.func221, Tryz.ntmps221
      go_wp2_with fail
      generalize hW : w.alloc (Obj.cells #[.int .i64 0, .slice none 0 0] 261) = W at *
      clear hW
      refine (HF.out _ HB0.out).mono ?_
      rintro e w1 ⟨rfl, m, rfl⟩
      go_wp2_with fail
      refine (l1In_is HK.out).mono ?_
      rintro e w1 ⟨rfl, rfl⟩
      have t0 := HRB.out.cell (i := 0) (by omega)
      have t1 := HRB.out.cell (i := 1) (by omega)
      have s0 := HRB.out.frozen 0
      have s1 := HRB.out.frozen 1
      simp at t0 t1
      go_wp2
      exact bodyPost_ret (v := .agg #[.int .i64 3, .slice none 0 0]) (by simp [results, Tryz.results221, go_sem, t0, t1]) rfl (AnsIC.mk (AnsIR.bad 3 (below_drewN HB0.out m) _ _) (Nat.le_refl _))
  · rw [if_neg hf]
    have hr : (r != 0) = true := by simpa using hf
    go_enter Tryz.func221, Tryz.ntmps221
    go_wp2_with fail
    generalize hW : w.alloc (Obj.cells #[.int .i64 0, .slice none 0 0] 261) = W at *
    clear hW
    refine (HF.out _ HB0.out).mono ?_
    rintro e w1 ⟨rfl, m, rfl⟩
    have t0 := HRB.out.cell (i := 0) (by omega)
    have t1 := HRB.out.cell (i := 1) (by omega)
    have s0 := HRB.out.frozen 0
    have s1 := HRB.out.frozen 1
    simp at t0 t1
    go_wp2
    exact bodyPost_ret (v := .agg #[.int .i64 r, .slice none 0 0]) (by simp [results, Tryz.results221, go_sem, t0, t1]) rfl (AnsIC.mk (AnsIR.bad r (below_drewN HB0.out m) _ _) (Nat.le_refl _))
theorem specPickU (w : World) (a : Option Addr) (n c : Nat) (ds : List ID) (a' : Option Addr) (n' c' : Nat) (bs : List Int) (k : Int) (h : Inos w (.slice a n c) ds) (h' : Ints w (.slice a' n' c') bs) (hs : sizeInos ds ≤ 1048576) (hbl : bs.length ≤ 1048576) :
    Calls Tryz.prog 221 #[.slice a n c, .slice a' n' c', .int .i64 k] w (AnsIR w (pickR ds bs k)) :=
  (specPickC w a n c ds a' n' c' bs k h h' hs hbl).mono fun _ _ h => h.1
end Go.Proofs.YtpfafcodihhdfaaGreatDoor

namespace Go.Proofs.YtpfafcodihhdfaaGreatDoor
open Go.RowKit
set_option maxRecDepth 100000

set_option maxHeartbeats 400000 in
theorem l1IntsC {w : World} {v : Value} {zs : List Int} (h : Ints w v zs) (hn : zs.length ≤ 1048576) :
    Calls Tryz.prog 200 #[v] w fun e w' => ∃ a c, e = .returned (.slice a zs.length c) ∧ Below w.heap.size w w' ∧ IntsO w' (.slice a zs.length c) zs (fresh w w') ∧ w.heap.size < w'.heap.size ∧ zs.length ≤ c := by
  obtain ⟨a, cap, rfl, hm, hc⟩ := h.open'
  clear h
  obtain ⟨v', X, hr, hw, hb, _⟩ := append_any (w.alloc (.cells #[] 2)) w.heap.size (.slice (some ⟨w.heap.size, 0, none⟩) 0 0) [] zs a zs.length cap (Wds.lit w w.heap.size (Nat.le_refl _) [] #[] rfl 0 rfl (by omega)) (by simp) rfl (by simp) hn (fun k hk => by
    obtain ⟨b, off, e, c⟩ := hc k hk
    exact ⟨b, off, e, cell_later (later1 _ _) c⟩) ⟨w.heap.size, 0, rfl, Nat.le_refl _⟩
  rw [List.nil_append] at hw
  obtain ⟨a', c', rfl⟩ := hw.shape
  have HR : Hid (_ = _) := hr
  have HB : Hid (Below w.heap.size w X) := (later1 _ _).trans hb
  have HO : Hid (IntsO X (.slice a' zs.length c') zs (fresh w X)) := hw.own' (Nat.le_refl _)
  have HS : Hid (w.heap.size < X.heap.size) := by have := hb.size; simp at this; unfold Hid; omega
  have HC : Hid (zs.length ≤ c') := hw.cap
  clear hb hc hr hw
  go_enter Tryz.func200, Tryz.ntmps200
  go_wp2_with (at_builtin; refine wpList_append_run rfl _ _ 40 rfl _ _ rfl rfl _ _ HR.out ?_)
  go_ret
  exact ⟨a', c', rfl, HB.out, HO.out, HS.out, HC.out⟩

/-- An answer that is an inode in memory of its own. -/
def AnsIno (w : World) (d : ID) (e : Ending) (w' : World) : Prop := ∃ a1 n1 c1 a2 n2 c2, e = .returned (.agg #[.int .i64 d.1, .int .i64 d.2.1, .int .i64 d.2.2.1, .slice a1 n1 c1, .slice a2 n2 c2]) ∧ Below w.heap.size w w' ∧ InoU w' (.int .i64 d.1) (.int .i64 d.2.1) (.int .i64 d.2.2.1) (.slice a1 n1 c1) (.slice a2 n2 c2) d (fresh w w')
/-- An answer that is a file system in memory of its own. -/
def AnsFs (w : World) (d : FD) (e : Ending) (w' : World) : Prop := ∃ a1 n1 c1 a2 n2 c2, e = .returned (.agg #[.slice a1 n1 c1, .slice a2 n2 c2]) ∧ Below w.heap.size w w' ∧ FsU w' (.slice a1 n1 c1) (.slice a2 n2 c2) d (fresh w w')
def zero5F : List Value := [.int .i64 0, .int .i64 0, .int .i64 0, .slice none 0 0, .slice none 0 0]
theorem rowVL (w : World) (vs : List Value) (t : TypeId) : OwnRow (w.alloc (.cells vs.toArray t)) w.heap.size vs.length (fun i => vs[i]?.getD (.int .i64 0)) := by
  refine ⟨_, t, Go.Deep.blk_alloc_new _ _, by simp, fun i hi => ?_⟩
  simp [hi]

set_option maxHeartbeats 3200000 in
theorem l4Copy_any (w : World) (aB : Option Addr) (nB cB : Nat) (aE : Option Addr) (nE cE : Nat) (d : ID) (h : InoR w (.int .i64 d.1) (.int .i64 d.2.1) (.int .i64 d.2.2.1) (.slice aB nB cB) (.slice aE nE cE) d) (hB : d.2.2.2.1.length ≤ 1048576) (hE : d.2.2.2.2.length ≤ 1048576) :
    Calls Tryz.prog 158 #[.agg #[.int .i64 d.1, .int .i64 d.2.1, .int .i64 d.2.2.1, .slice aB nB cB, .slice aE nE cE]] w (AnsIno w d) := by
  obtain ⟨k, l, s, bs, es⟩ := d
  dsimp only at h hB hE ⊢
  obtain ⟨-, hI, hN⟩ := h
  dsimp only at hI hN
  obtain ⟨aN, cN, eN, hmN, hzN, hatN⟩ := hN.open'
  simp only [Value.slice.injEq] at eN
  obtain ⟨rfl, rfl, rfl⟩ := eN
  have HI : Hid (Ints w (.slice aB nB cB) bs) := hI
  have HN : Hid (AtN w aE es.length es) := hatN
  have HZ : Hid (∀ k : Nat, (es[k]?.getD en0).1.size ≤ maxLen) := hzN
  have HBL : Hid (bs.length ≤ 1048576) := hB
  have HEL : Hid (es.length ≤ 1048576) := hE
  have HX0 : Hid (OwnRow ((w.alloc (.cells #[.int .i64 k, .int .i64 l, .int .i64 s, .slice aB nB cB, .slice aE es.length cE] 68)).alloc (.cells #[.int .i64 0, .int .i64 0, .int .i64 0, .slice none 0 0, .slice none 0 0] 68)) w.heap.size 5 (fun i => [Value.int .i64 k, .int .i64 l, .int .i64 s, .slice aB nB cB, .slice aE es.length cE][i]?.getD (.int .i64 0))) := (rowVL w [.int .i64 k, .int .i64 l, .int .i64 s, .slice aB nB cB, .slice aE es.length cE] _).later (later1 _ _)
  have HR0 : Hid (OwnRow ((w.alloc (.cells #[.int .i64 k, .int .i64 l, .int .i64 s, .slice aB nB cB, .slice aE es.length cE] 68)).alloc (.cells #[.int .i64 0, .int .i64 0, .int .i64 0, .slice none 0 0, .slice none 0 0] 68)) (w.heap.size + 1) 5 (fun i => zero5F[i]?.getD (.int .i64 0))) := by
    have := rowVL (w.alloc (.cells #[.int .i64 k, .int .i64 l, .int .i64 s, .slice aB nB cB, .slice aE es.length cE] 68)) zero5F 68
    rw [World.size_alloc] at this
    exact this
  have hz0 : ((w.alloc (.cells #[.int .i64 k, .int .i64 l, .int .i64 s, .slice aB nB cB, .slice aE es.length cE] 68)).alloc (.cells #[.int .i64 0, .int .i64 0, .int .i64 0, .slice none 0 0, .slice none 0 0] 68)).heap.size = w.heap.size + 2 := by simp
  have HB0 : Hid (Below w.heap.size w ((w.alloc (.cells #[.int .i64 k, .int .i64 l, .int .i64 s, .slice aB nB cB, .slice aE es.length cE] 68)).alloc (.cells #[.int .i64 0, .int .i64 0, .int .i64 0, .slice none 0 0, .slice none 0 0] 68))) := later2 _ _ _
  clear hI hN hatN hzN hmN hB hE
  go_enter Tryz.func158, Tryz.ntmps158
  go_wp2_with fail
  generalize ((w.alloc (.cells #[.int .i64 k, .int .i64 l, .int .i64 s, .slice aB nB cB, .slice aE es.length cE] 68)).alloc (.cells #[.int .i64 0, .int .i64 0, .int .i64 0, .slice none 0 0, .slice none 0 0] 68)) = W0 at *
  refine (l1IntsC (HI.out.later HB0.out) HBL.out).mono ?_
  rintro e w1 ⟨a1, c1, rfl, hb1, ho1, hs1, hc1⟩
  have HB1 : Hid (Below w.heap.size w w1) := HB0.out.trans (hb1.mono HB0.out.size)
  have hX1 := HX0.out.later hb1
  have hR1 := HR0.out.later hb1
  have HO1 : Hid (IntsO w1 (.slice a1 bs.length c1) bs (fun b => w.heap.size + 2 ≤ b ∧ b < w1.heap.size)) := ho1.mono fun b hb => ⟨by have := hb.1; omega, hb.2⟩
  have HC1 : Hid (bs.length ≤ c1) := hc1
  have hw1 : w.heap.size + 2 < w1.heap.size := by omega
  have q3 : w1.cell? ⟨w.heap.size, 3, none⟩ = some (.slice aB nB cB) := hX1.cell (i := 3) (by simp)
  have f3 := hX1.frozen 3
  have HX2 : Hid (OwnRow (w1.setCell ⟨w.heap.size, 3, none⟩ (.slice a1 bs.length c1)) w.heap.size 5 (fun i => [Value.int .i64 k, .int .i64 l, .int .i64 s, .slice a1 bs.length c1, .slice aE es.length cE][i]?.getD (.int .i64 0))) := (hX1.set 3 _).congr fun i hi => by
    match i, hi with
    | 0, _ => rfl
    | 1, _ => rfl
    | 2, _ => rfl
    | 3, _ => rfl
    | 4, _ => rfl
  have HR2 : Hid (OwnRow (w1.setCell ⟨w.heap.size, 3, none⟩ (.slice a1 bs.length c1)) (w.heap.size + 1) 5 (fun i => zero5F[i]?.getD (.int .i64 0))) := hR1.store (by simp) _
  have HO2 : Hid (IntsO (w1.setCell ⟨w.heap.size, 3, none⟩ (.slice a1 bs.length c1)) (.slice a1 bs.length c1) bs (fun b => w.heap.size + 2 ≤ b ∧ b < w1.heap.size)) := HO1.out.store (fun b hb => by show b ≠ w.heap.size; omega) _
  have HB2 : Hid (Below w.heap.size w (w1.setCell ⟨w.heap.size, 3, none⟩ (.slice a1 bs.length c1))) := HB1.out.setCell (Nat.le_refl _) _
  have hz2 : (w1.setCell ⟨w.heap.size, 3, none⟩ (.slice a1 bs.length c1)).heap.size = w1.heap.size := by simp [World.setCell]
  have q4 : w1.cell? ⟨w.heap.size, 4, none⟩ = some (.slice aE es.length cE) := hX1.cell (i := 4) (by simp)
  have hlt1 : w.heap.size < w1.heap.size := by omega
  obtain ⟨a2, c2, X, hr, hbX, hoX, hkX⟩ := append_ents ((w1.setCell ⟨w.heap.size, 3, none⟩ (.slice a1 bs.length c1)).alloc (.cells #[] 134)) 66 w1.heap.size w1.heap.size es (by have := Go.Deep.blk_alloc_new (w1.setCell ⟨w.heap.size, 3, none⟩ (.slice a1 bs.length c1)) (.cells #[] 134); rw [hz2] at this; exact this) (Nat.le_refl _) aE cE HEL.out HZ.out ((HN.out.later HB2.out).later (later1 _ _))
  have hbX' : Below w1.heap.size (w1.setCell ⟨w.heap.size, 3, none⟩ (.slice a1 bs.length c1)) X := by
    have := later1 (w1.setCell ⟨w.heap.size, 3, none⟩ (.slice a1 bs.length c1)) (.cells #[] 134)
    rw [hz2] at this
    exact this.trans hbX
  have HR : Hid (_ = _) := hr
  have HBX : Hid (Below w.heap.size w X) := HB2.out.trans (hbX'.mono (by omega))
  have hXX : OwnRow X w.heap.size 5 _ := HX2.out.block (hbX'.block _ (by omega))
  have hRX : OwnRow X (w.heap.size + 1) 5 _ := HR2.out.block (hbX'.block _ (by omega))
  have HOX : Hid (IntsO X (.slice a1 bs.length c1) bs (fun b => w.heap.size + 2 ≤ b ∧ b < w1.heap.size)) := HO2.out.keep fun b hb _ => hbX'.block b (by omega)
  have HEX : Hid (EntsO X (.slice a2 es.length c2) es (fun b => w1.heap.size ≤ b ∧ b < X.heap.size)) := hoX.mono fun b hb => ⟨by
    have := hb.1
    rw [World.size_alloc, hz2] at this
    omega, hb.2⟩
  have hsX : w1.heap.size ≤ X.heap.size := by have := hbX'.size; omega
  have x0 : X.cell? ⟨w.heap.size, 0, none⟩ = some (.int .i64 k) := hXX.cell (i := 0) (by simp)
  have x1 : X.cell? ⟨w.heap.size, 1, none⟩ = some (.int .i64 l) := hXX.cell (i := 1) (by simp)
  have x2 : X.cell? ⟨w.heap.size, 2, none⟩ = some (.int .i64 s) := hXX.cell (i := 2) (by simp)
  have x3 : X.cell? ⟨w.heap.size, 3, none⟩ = some (.slice a1 bs.length c1) := hXX.cell (i := 3) (by simp)
  have x4 : X.cell? ⟨w.heap.size, 4, none⟩ = some (.slice aE es.length cE) := hXX.cell (i := 4) (by simp)
  have y4 := hXX.frozen 4
  have r0 : X.cell? ⟨w.heap.size + 1, 0, none⟩ = some (.int .i64 0) := hRX.cell (i := 0) (by simp)
  have r1 : X.cell? ⟨w.heap.size + 1, 1, none⟩ = some (.int .i64 0) := hRX.cell (i := 1) (by simp)
  have r2 : X.cell? ⟨w.heap.size + 1, 2, none⟩ = some (.int .i64 0) := hRX.cell (i := 2) (by simp)
  have r3 : X.cell? ⟨w.heap.size + 1, 3, none⟩ = some (.slice none 0 0) := hRX.cell (i := 3) (by simp)
  have r4 : X.cell? ⟨w.heap.size + 1, 4, none⟩ = some (.slice none 0 0) := hRX.cell (i := 4) (by simp)
  have s0 := hRX.frozen 0
  have s1 := hRX.frozen 1
  have s2 := hRX.frozen 2
  have s3 := hRX.frozen 3
  have s4 := hRX.frozen 4
  clear hr hbX hoX hkX hbX' hXX hRX HO1 HO2 HX2 HR2 HX0 HR0 HB0 hb1 ho1 hs1 hc1 hX1 hR1 HI HN HB1 HB2
  go_wp2_with (at_builtin; refine wpList_append_run rfl _ _ 66 rfl _ _ rfl rfl _ _ HR.out ?_)
  refine bodyPost_ret (v := .agg #[.int .i64 k, .int .i64 l, .int .i64 s, .slice a1 bs.length c1, .slice a2 es.length c2]) (by simp [results, Tryz.results158, go_sem, r0, r1, r2, r3, r4]) rfl ⟨a1, bs.length, c1, a2, es.length, c2, rfl, (((((HBX.out.setCell (Nat.le_refl _) _).setCell (by simp) _).setCell (by simp) _).setCell (by simp) _).setCell (by simp) _).setCell (by simp) _, ⟨rfl, rfl, rfl, _, _, _, rfl, HC1.out⟩, (fun b => w.heap.size + 2 ≤ b ∧ b < w1.heap.size), (fun b => w1.heap.size ≤ b ∧ b < X.heap.size), HOX.out.keep fun b hb _ => ?_, HEX.out.keep fun b hb _ => ?_, fun b h1 h2 => by omega, fun b hb => ?_⟩
  · rw [Below.heap_setCell _ _ _ _ (by simp; omega), Below.heap_setCell _ _ _ _ (by simp; omega), Below.heap_setCell _ _ _ _ (by simp; omega), Below.heap_setCell _ _ _ _ (by simp; omega), Below.heap_setCell _ _ _ _ (by simp; omega), Below.heap_setCell _ _ _ _ (by simp; omega)]
  · rw [Below.heap_setCell _ _ _ _ (by simp; omega), Below.heap_setCell _ _ _ _ (by simp; omega), Below.heap_setCell _ _ _ _ (by simp; omega), Below.heap_setCell _ _ _ _ (by simp; omega), Below.heap_setCell _ _ _ _ (by simp; omega), Below.heap_setCell _ _ _ _ (by simp; omega)]
  · unfold fresh
    simp only [World.setCell, Array.size_modify]
    rcases hb with hb | hb <;> omega
end Go.Proofs.YtpfafcodihhdfaaGreatDoor
