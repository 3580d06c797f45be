/- The walks of the codes of words and disks, the program's and the specification's. When a kern has a fault: the model as a function of lists. No program is named here. The walks of the functions that tell how great an argument is. The walks of the laws' functions over lists of extents. The walks of the comparing functions over slices of integers and of slices. -/
import Derived.Test.YtomcejofhfngkaaRows
import Derived.Test.YtomcejofhfngkaaM00
import Derived.Deep.RegionWith
import Derived.Deep.RegionHeld3
namespace Go.Proofs.Ytomcejofhfngkaa
open Go.RowKit
set_option maxRecDepth 100000

theorem l1In_any (w : World) (v low high : Int) :
    Calls Try.prog 87 #[.int .i64 v, .int .i64 low, .int .i64 high] w fun e w' => e = .returned (.bool (decide (low ≤ v ∧ v ≤ high))) ∧ w' = w := by
  by_cases h1 : low ≤ v
  · by_cases h2 : v ≤ high
    · have e1 : decide (low ≤ v ∧ v ≤ high) = true := by simp [h1, h2]
      rw [e1]
      go_enter Try.func87, Try.ntmps87
      go_wp2
      go_ret
      exact ⟨rfl, rfl⟩
    · have e1 : decide (low ≤ v ∧ v ≤ high) = false := by simp [h2]
      rw [e1]
      go_enter Try.func87, Try.ntmps87
      go_wp2
      go_ret
      exact ⟨rfl, rfl⟩
  · have e1 : decide (low ≤ v ∧ v ≤ high) = false := by simp [h1]
    have hd : decide (low ≤ v) = false := by simpa using h1
    rw [e1]
    go_enter Try.func87, Try.ntmps87
    go_wp2
    go_ret
    exact ⟨rfl, rfl⟩

set_option maxHeartbeats 400000 in
theorem l1Words_walk (w : World) (a : Option Addr) (n cap : Nat) (ws : List Int) (hn : ws.length = n) (hm : n ≤ maxLen) (hc : At1 w a n (fun k => .int .i64 (ws[k]?.getD 0))) :
    Calls Try.prog 45 #[.slice a n cap] w fun e w' => e = .returned (.int .i64 (wordsF ws)) ∧ w' = w := by
  have HN : Hid (ws.length = n) := hn
  have HC : Hid (At1 w a n (fun k => .int .i64 (ws[k]?.getD 0))) := hc
  clear hn hc
  unfold maxLen at hm
  by_cases h : 64 < n
  · have h' : (64 : Int) < (n : Int) := by omega
    rw [wordsF_many (by rw [HN.out]; exact h)]
    go_enter Try.func45, Try.ntmps45
    go_wp2
    go_ret
    exact ⟨rfl, rfl⟩
  · have h' : ¬ (64 : Int) < (n : Int) := by omega
    go_enter Try.func45, Try.ntmps45
    go_wp2
    go_loop [3] (fun i => ∃ j : Nat, j ≤ n ∧ i = .int .i64 j ∧ ∀ i : Nat, i < j → okW (ws[i]?.getD 0) = true) (fun i => n - (intOf i).toNat)
    case atStart => exact ⟨0, Nat.zero_le _, rfl, fun i hi => by omega⟩
    case round =>
      obtain ⟨j, hj, rfl, hall⟩ := hrel
      have HA : Hid (∀ i : Nat, i < j → okW (ws[i]?.getD 0) = true) := hall
      clear hall
      by_cases hlt : j < n
      · obtain ⟨b, off, e, c1⟩ := HC.out j hlt
        clear HC
        subst e
        replace c1 : w.cell? ⟨b, off + j, none⟩ = some (.int .i64 (ws[j]?.getD 0)) := c1
        generalize hz : ws[j]?.getD 0 = z at *
        have HZ : Hid (ws[j]?.getD 0 = z) := hz
        clear hz
        cases hok : okW z
        · have HOK : Hid (decide (0 ≤ z ∧ z ≤ 65535) = false) := hok
          clear hok
          go_wp2_with fail
          refine (l1In_any _ _ _ _).mono ?_
          rw [HOK.out]
          rintro e w' ⟨rfl, rfl⟩
          go_wp2
          go_ret
          exact ⟨ret_int (wordsF_bad (by rw [HN.out]; exact h) (by rw [HN.out]; exact hlt) (by rw [HZ.out]; exact HOK.out)).symm, rfl⟩
        · have HOK : Hid (decide (0 ≤ z ∧ z ≤ 65535) = true) := hok
          clear hok
          go_wp2_with fail
          refine (l1In_any _ _ _ _).mono ?_
          rw [HOK.out]
          rintro e w' ⟨rfl, rfl⟩
          go_wp2
          go_round
          case rel =>
            refine ⟨j + 1, by omega, by go_num, fun i hi => ?_⟩
            by_cases e : i = j
            · subst e; rw [HZ.out]; exact HOK.out
            · exact HA.out i (by omega)
          case measure => simp [intOf]; omega
      · go_wp2
        go_ret
        exact ⟨ret_int (wordsF_ok (by rw [HN.out]; exact h) (fun i hi => HA.out i (by rw [HN.out] at hi; omega))).symm, rfl⟩
theorem l1Words_any {w : World} {v : Value} {ws : List Int} (h : Ints w v ws) : Calls Try.prog 45 #[v] w fun e w' => e = .returned (.int .i64 (wordsF ws)) ∧ w' = w := by
  obtain ⟨a, cap, rfl, hm, hc⟩ := h.open'
  exact l1Words_walk w a _ cap ws rfl hm hc

set_option maxHeartbeats 400000 in
theorem words_walk (w : World) (a : Option Addr) (n cap : Nat) (ws : List Int) (hn : ws.length = n) (hm : n ≤ maxLen) (hc : At1 w a n (fun k => .int .i64 (ws[k]?.getD 0))) :
    Calls Try.prog 51 #[.slice a n cap] w fun e w' => e = .returned (.int .i64 (wordsF ws)) ∧ w' = w := by
  have HN : Hid (ws.length = n) := hn
  have HC : Hid (At1 w a n (fun k => .int .i64 (ws[k]?.getD 0))) := hc
  clear hn hc
  unfold maxLen at hm
  by_cases h : 64 < n
  · have h' : (64 : Int) < (n : Int) := by omega
    rw [wordsF_many (by rw [HN.out]; exact h)]
    go_enter Try.func51, Try.ntmps51
    go_wp2
    go_ret
    exact ⟨rfl, rfl⟩
  · have h' : ¬ (64 : Int) < (n : Int) := by omega
    go_enter Try.func51, Try.ntmps51
    go_wp2
    go_loop [10] (fun i => ∃ j : Nat, j ≤ n ∧ i = .int .i64 j ∧ ∀ i : Nat, i < j → okW (ws[i]?.getD 0) = true) (fun i => n - (intOf i).toNat)
    case atStart => exact ⟨0, Nat.zero_le _, rfl, fun i hi => by omega⟩
    case round =>
      obtain ⟨j, hj, rfl, hall⟩ := hrel
      have HA : Hid (∀ i : Nat, i < j → okW (ws[i]?.getD 0) = true) := hall
      clear hall
      by_cases hlt : j < n
      · obtain ⟨b, off, e, c1⟩ := HC.out j hlt
        clear HC
        subst e
        replace c1 : w.cell? ⟨b, off + j, none⟩ = some (.int .i64 (ws[j]?.getD 0)) := c1
        generalize hz : ws[j]?.getD 0 = z at *
        have HZ : Hid (ws[j]?.getD 0 = z) := hz
        clear hz
        by_cases h1 : z < 0
        · go_wp2
          go_ret
          exact ⟨ret_int (wordsF_bad (by rw [HN.out]; exact h) (by rw [HN.out]; exact hlt) (by rw [HZ.out]; simp [okW]; omega)).symm, rfl⟩
        · have hd : decide (z < 0) = false := by simpa using h1
          by_cases h2 : 65535 < z
          · go_wp2
            go_ret
            exact ⟨ret_int (wordsF_bad (by rw [HN.out]; exact h) (by rw [HN.out]; exact hlt) (by rw [HZ.out]; simp [okW]; omega)).symm, rfl⟩
          · have hd2 : decide (65535 < z) = false := by simpa using h2
            go_wp2
            go_round
            case rel =>
              refine ⟨j + 1, by omega, by go_num, fun i hi => ?_⟩
              by_cases e : i = j
              · subst e; rw [HZ.out]; simp [okW]; omega
              · exact HA.out i (by omega)
            case measure => simp [intOf]; omega
      · go_wp2
        go_ret
        exact ⟨ret_int (wordsF_ok (by rw [HN.out]; exact h) (fun i hi => HA.out i (by rw [HN.out] at hi; omega))).symm, rfl⟩
theorem words_any {w : World} {v : Value} {ws : List Int} (h : Ints w v ws) : Calls Try.prog 51 #[v] w fun e w' => e = .returned (.int .i64 (wordsF ws)) ∧ w' = w := by
  obtain ⟨a, cap, rfl, hm, hc⟩ := h.open'
  exact words_walk w a _ cap ws rfl hm hc

theorem l1In_is {w : World} {v low high : Int} {r : Bool} (h : decide (low ≤ v ∧ v ≤ high) = r) :
    Calls Try.prog 87 #[.int .i64 v, .int .i64 low, .int .i64 high] w fun e w' => e = .returned (.bool r) ∧ w' = w := by
  subst h; exact l1In_any w v low high

theorem place_l1 (n : Nat) (x : Int) : decide (0 ≤ x ∧ x ≤ (n : Int) - 1) = placeB n x := by
  unfold placeB
  by_cases h : 0 ≤ x ∧ x < (n : Int)
  · simp [h]; omega
  · simp [h]; omega

theorem l1Fault_many (w : World) (bd : Nat) (aB aC : Option Addr) (nB cB nC cC : Nat) (h0 : w.cell? ⟨bd, 0, none⟩ = some (.slice aB nB cB)) (h1 : w.cell? ⟨bd, 1, none⟩ = some (.slice aC nC cC)) (h : 60 < nB ∨ 200 < nC) :
    Calls Try.prog 43 #[.pointer (some ⟨bd, 0, none⟩)] w fun e w' => e = .returned (.int .i64 2) ∧ w' = w := by
  by_cases g : 60 < nB
  · have g' : (60 : Int) < (nB : Int) := by omega
    clear h
    go_enter Try.func43, Try.ntmps43
    go_wp2
    go_ret
    exact ⟨rfl, rfl⟩
  · have hd : decide ((60 : Int) < (nB : Int)) = false := by simp; omega
    have g' : (200 : Int) < (nC : Int) := by omega
    clear h
    go_enter Try.func43, Try.ntmps43
    go_wp2
    go_ret
    exact ⟨rfl, rfl⟩

set_option maxHeartbeats 1600000 in
theorem l1Fault_walk (w : World) (bd : Nat) (aB aC : Option Addr) (nB cB nC cC : Nat) (bs : List (List Int)) (ps : List (Int × List Int)) (hbl : bs.length = nB) (hpl : ps.length = nC) (h0 : w.cell? ⟨bd, 0, none⟩ = some (.slice aB nB cB)) (h1 : w.cell? ⟨bd, 1, none⟩ = some (.slice aC nC cC))
    (g1 : nB ≤ 60) (g2 : nC ≤ 200) (hB : AtS w aB nB bs) (hP : AtP w aC nC ps) :
    Calls Try.prog 43 #[.pointer (some ⟨bd, 0, none⟩)] w fun e w' => e = .returned (.int .i64 (faultF bs ps)) ∧ ∃ m, w' = w.drewN m := by
  have HBL : Hid (bs.length = nB) := hbl
  have HPL : Hid (ps.length = nC) := hpl
  have HB : Hid (AtS w aB nB bs) := hB
  have HP : Hid (AtP w aC nC ps) := hP
  have HM : Hid (¬ (60 < bs.length ∨ 200 < ps.length)) := by unfold Hid; omega
  clear hbl hpl hB hP
  have hd : decide ((60 : Int) < (nB : Int)) = false := by simp; omega
  have hd2 : decide ((200 : Int) < (nC : Int)) = false := by simp; omega
  go_enter Try.func43, Try.ntmps43
  go_wp2
  go_loop [3] (fun i => ∃ j : Nat, j ≤ nB ∧ i = .int .i64 j ∧ ∀ i : Nat, i < j → wordsF (bs[i]?.getD []) = 0) (fun i => nB - (intOf i).toNat)
  case atStart => exact ⟨0, Nat.zero_le _, rfl, fun i hi => by omega⟩
  case round =>
    obtain ⟨j, hj, rfl, hall⟩ := hrel
    have HA : Hid (∀ i : Nat, i < j → wordsF (bs[i]?.getD []) = 0) := hall
    clear hall
    by_cases hlt : j < nB
    · obtain ⟨b, off, ua, ucap, e, c1, i1⟩ := HB.out j hlt
      clear HB
      subst e
      have HI : Hid (Ints w (.slice ua (bs[j]?.getD []).length ucap) (bs[j]?.getD [])) := i1
      clear i1
      generalize hc : wordsF (bs[j]?.getD []) = c
      have HC : Hid (wordsF (bs[j]?.getD []) = c) := hc
      clear hc
      by_cases hz : c = 0
      · subst hz
        go_wp2_with fail
        refine (l1Words_any HI.out).mono ?_
        rw [HC.out]
        rintro e w' ⟨rfl, rfl⟩
        go_wp2
        go_round
        case rel =>
          refine ⟨j + 1, by omega, by go_num, fun i hi => ?_⟩
          by_cases e : i = j
          · subst e; exact HC.out
          · exact HA.out i (by omega)
        case measure => simp [intOf]; omega
      · have hne : (c != 0) = true := by simpa using hz
        go_wp2_with fail
        refine (l1Words_any HI.out).mono ?_
        rw [HC.out]
        rintro e w' ⟨rfl, rfl⟩
        go_wp2
        go_ret
        exact ⟨ret_int (by rw [faultF_block HM.out (by rw [HBL.out]; exact hlt) HA.out (by rw [HC.out]; exact hz), HC.out]), 0, rfl⟩
    · have HA' : Hid (∀ i : Nat, i < bs.length → wordsF (bs[i]?.getD []) = 0) := fun i hi => HA.out i (by rw [HBL.out] at hi; omega)
      clear HA HB
      go_wp2
      go_loopw [5] (fun i wr => ∃ j m : Nat, j ≤ nC ∧ i = .int .i64 j ∧ wr = w.drewN m ∧ ∀ i : Nat, i < j → putF bs.length (ps[i]?.getD (0, [])) = 0) (fun i _ => nC - (intOf i).toNat)
      case atStart => exact ⟨0, 0, Nat.zero_le _, rfl, rfl, fun i hi => by omega⟩
      case round =>
        obtain ⟨k, m, hk, rfl, rfl, hall⟩ := hrel
        have HA : Hid (∀ i : Nat, i < k → putF bs.length (ps[i]?.getD (0, [])) = 0) := hall
        clear hall
        by_cases hlt2 : k < nC
        · obtain ⟨b, off, ua, ucap, e, c1, c2, i1⟩ := HP.out k hlt2
          clear HP
          subst e
          have HI : Hid (Ints w (.slice ua (ps[k]?.getD (0, [])).2.length ucap) (ps[k]?.getD (0, [])).2) := i1
          clear i1
          have hPF : putF bs.length (ps[k]?.getD (0, [])) = if placeB nB (ps[k]?.getD (0, [])).1 = true then wordsF (ps[k]?.getD (0, [])).2 else 3 := by rw [HBL.out]; rfl
          have HPF : Hid (putF bs.length (ps[k]?.getD (0, [])) = if placeB nB (ps[k]?.getD (0, [])).1 = true then wordsF (ps[k]?.getD (0, [])).2 else 3) := hPF
          clear hPF
          cases hpl : placeB nB (ps[k]?.getD (0, [])).1
          · have HQ : Hid (decide (0 ≤ (ps[k]?.getD (0, [])).1 ∧ (ps[k]?.getD (0, [])).1 ≤ (nB : Int) - 1) = false) := by unfold Hid; rw [place_l1]; exact hpl
            have HF : Hid (putF bs.length (ps[k]?.getD (0, [])) = 3) := by unfold Hid; rw [HPF.out, hpl]; rfl
            clear hpl
            go_wp2_with fail
            go_quiet ((go_at_call 87; refine quiet_same2 (l1In_is (r := false) ?_); exact HQ.out))
            go_wp2
            go_ret
            exact ⟨ret_int (by rw [faultF_put HM.out HA'.out (by rw [HPL.out]; exact hlt2) HA.out (by rw [HF.out]; decide), HF.out]), m + nq, by rw [World.drewN_drewN]⟩
          · have HQ : Hid (decide (0 ≤ (ps[k]?.getD (0, [])).1 ∧ (ps[k]?.getD (0, [])).1 ≤ (nB : Int) - 1) = true) := by unfold Hid; rw [place_l1]; exact hpl
            have HF : Hid (putF bs.length (ps[k]?.getD (0, [])) = wordsF (ps[k]?.getD (0, [])).2) := by unfold Hid; rw [HPF.out, hpl]; rfl
            clear hpl
            generalize hc : wordsF (ps[k]?.getD (0, [])).2 = c at *
            have HC : Hid (wordsF (ps[k]?.getD (0, [])).2 = c) := hc
            clear hc
            go_wp2_with fail
            go_quiet ((go_at_call 87; refine quiet_same2 (l1In_is (r := true) ?_); exact HQ.out))
            by_cases hz : c = 0
            · subst hz
              go_wp2_with fail
              refine (l1Words_any (HI.out.drewN _)).mono ?_
              rw [HC.out]
              rintro e w' ⟨rfl, rfl⟩
              go_wp2
              go_roundw
              case rel =>
                refine ⟨k + 1, m + nq, by omega, by go_num, by first | rfl | rw [World.drewN_drewN], fun i hi => ?_⟩
                by_cases e : i = k
                · subst e; exact HF.out
                · exact HA.out i (by omega)
              case measure => simp [intOf]; omega
            · have hne : (c != 0) = true := by simpa using hz
              go_wp2_with fail
              refine (l1Words_any (HI.out.drewN _)).mono ?_
              rw [HC.out]
              rintro e w' ⟨rfl, rfl⟩
              go_wp2
              go_ret
              exact ⟨ret_int (by rw [faultF_put HM.out HA'.out (by rw [HPL.out]; exact hlt2) HA.out (by rw [HF.out]; exact hz), HF.out]), m + nq, by first | rfl | rw [World.drewN_drewN]⟩
        · go_wp2
          go_ret
          exact ⟨ret_int (by rw [faultF_ok HM.out HA'.out (fun i hi => HA.out i (by rw [HPL.out] at hi; omega))]), m, rfl⟩
end Go.Proofs.Ytomcejofhfngkaa

namespace Go.Proofs.Ytomcejofhfngkaa
open Go.RowKit
set_option maxRecDepth 100000

/-- The first code that is not 0 of f 0, .., f (m - 1). -/
def firstNZ (f : Nat → Int) : Nat → Int
  | 0 => 0
  | m + 1 => if firstNZ f m = 0 then f m else firstNZ f m
theorem firstNZ_zero {f : Nat → Int} {m : Nat} (h : ∀ i, i < m → f i = 0) : firstNZ f m = 0 := by
  induction m with
  | zero => rfl
  | succ m ih => unfold firstNZ; rw [if_pos (ih fun i hi => h i (by omega))]; exact h m (by omega)
theorem firstNZ_at {f : Nat → Int} {m j : Nat} (h : ∀ i, i < j → f i = 0) (hj : j < m) (hf : ¬ f j = 0) : firstNZ f m = f j := by
  induction m with
  | zero => omega
  | succ m ih =>
    unfold firstNZ
    by_cases e : j = m
    · subst e; rw [if_pos (firstNZ_zero h)]
    · rw [ih (by omega), if_neg hf]
theorem firstNZ_all {f : Nat → Int} {m : Nat} (h : firstNZ f m = 0) : ∀ i, i < m → f i = 0 := by
  induction m with
  | zero => intro i hi; omega
  | succ m ih =>
    unfold firstNZ at h
    by_cases e : firstNZ f m = 0
    · rw [if_pos e] at h
      intro i hi
      by_cases e2 : i = m
      · subst e2; exact h
      · exact ih e i (by omega)
    · rw [if_neg e] at h; exact absurd h e

/-- An extent of a disk of n blocks is right. -/
def rightB (e : E3) (n : Nat) : Bool := decide (1 ≤ e.2.2 ∧ e.2.2 ≤ 9999) && (decide (0 ≤ e.1 ∧ e.1 ≤ (n : Int)) && (decide (1 ≤ e.2.1 ∧ e.2.1 ≤ (n : Int)) && decide (e.1 + e.2.1 ≤ (n : Int))))
theorem rightB_iff {e : E3} {n : Nat} : rightB e n = true ↔ (1 ≤ e.2.2 ∧ e.2.2 ≤ 9999) ∧ (0 ≤ e.1 ∧ e.1 ≤ (n : Int)) ∧ (1 ≤ e.2.1 ∧ e.2.1 ≤ (n : Int)) ∧ e.1 + e.2.1 ≤ (n : Int) := by simp [rightB]
def extAt (es : List E3) (i : Nat) : E3 := es[i]?.getD (0, 0, 0)
/-- The code of the extent at place i. -/
def extOne (es : List E3) (n i : Nat) : Int := if rightB (extAt es i) n = true then (if 0 < i ∧ (extAt es i).1 < (extAt es (i - 1)).1 + (extAt es (i - 1)).2.1 then 1 else 0) else 3
def kernF (d : (List (List Int) × List (Int × List Int)) × List E3) : Int := if faultF d.1.1 d.1.2 = 0 then (if 8 < d.2.length then 2 else firstNZ (extOne d.2 d.1.1.length) d.2.length) else faultF d.1.1 d.1.2
theorem kernF_disk {d : (List (List Int) × List (Int × List Int)) × List E3} (h : ¬ faultF d.1.1 d.1.2 = 0) : kernF d = faultF d.1.1 d.1.2 := by unfold kernF; rw [if_neg h]
theorem kernF_many {d : (List (List Int) × List (Int × List Int)) × List E3} (h : faultF d.1.1 d.1.2 = 0) (h8 : 8 < d.2.length) : kernF d = 2 := by unfold kernF; rw [if_pos h, if_pos h8]
theorem kernF_few {d : (List (List Int) × List (Int × List Int)) × List E3} (h : faultF d.1.1 d.1.2 = 0) (h8 : ¬ 8 < d.2.length) : kernF d = firstNZ (extOne d.2 d.1.1.length) d.2.length := by unfold kernF; rw [if_pos h, if_neg h8]
/-- Of a kern without a fault. -/
theorem kernF_ok {d : (List (List Int) × List (Int × List Int)) × List E3} (h : kernF d = 0) : faultF d.1.1 d.1.2 = 0 ∧ d.2.length ≤ 8 ∧ ∀ i, i < d.2.length → rightB (extAt d.2 i) d.1.1.length = true ∧ (0 < i → (extAt d.2 (i - 1)).1 + (extAt d.2 (i - 1)).2.1 ≤ (extAt d.2 i).1) := by
  by_cases h1 : faultF d.1.1 d.1.2 = 0
  · by_cases h2 : 8 < d.2.length
    · rw [kernF_many h1 h2] at h; omega
    · rw [kernF_few h1 h2] at h
      refine ⟨h1, by omega, fun i hi => ?_⟩
      have h3 := firstNZ_all h i hi
      unfold extOne at h3
      by_cases h4 : rightB (extAt d.2 i) d.1.1.length = true
      · rw [if_pos h4] at h3
        refine ⟨h4, fun h0 => ?_⟩
        by_cases h5 : 0 < i ∧ (extAt d.2 i).1 < (extAt d.2 (i - 1)).1 + (extAt d.2 (i - 1)).2.1
        · rw [if_pos h5] at h3; omega
        · omega
      · rw [if_neg h4] at h3; omega
  · rw [kernF_disk h1] at h; exact absurd h h1
end Go.Proofs.Ytomcejofhfngkaa

namespace Go.Proofs.Ytomcejofhfngkaa
open Go.RowKit
set_option maxRecDepth 100000

/-- What is left of 'left' behind n values: -1 if there are too many. -/
def szf (left : Int) (n : Nat) : Int := if left < (n : Int) then -1 else left - (n : Int)
theorem szf_no {left : Int} {n : Nat} (h : left < (n : Int)) : szf left n = -1 := by simp [szf, h]
theorem szf_yes {left : Int} {n : Nat} (h : ¬ left < (n : Int)) : szf left n = left - (n : Int) := by simp [szf, h]

theorem szInts_walk (w : World) (a : Option Addr) (n cap : Nat) (left : Int) (h0 : 0 ≤ left) (h1 : left ≤ 1048576) (hn : n ≤ maxLen) :
    Calls Try.prog 85 #[.slice a n cap, .int .i64 left] w fun e w' => e = .returned (.int .i64 (szf left n)) ∧ w' = w := by
  unfold maxLen at hn
  by_cases h : left < (n : Int)
  · rw [szf_no h]
    have h' : left - (n : Int) < 0 := by omega
    go_enter Try.func85, Try.ntmps85
    go_wp2
    go_ret
    exact ⟨rfl, rfl⟩
  · rw [szf_yes h]
    have h' : ¬ left - (n : Int) < 0 := by omega
    go_enter Try.func85, Try.ntmps85
    go_wp2
    go_ret
    exact ⟨rfl, rfl⟩

theorem szInts_any {w : World} {v : Value} {zs : List Int} (h : Ints w v zs) (left : Int) (h0 : 0 ≤ left) (h1 : left ≤ 1048576) :
    Calls Try.prog 85 #[v, .int .i64 left] w fun e w' => e = .returned (.int .i64 (szf left zs.length)) ∧ w' = w := by
  obtain ⟨a, cap, rfl, hn⟩ := h.shape
  exact szInts_walk w a _ cap left h0 h1 hn

set_option maxHeartbeats 400000 in
theorem szIntsS_many (w : World) (a : Option Addr) (n cap : Nat) (left : Int) (h0 : 0 ≤ left) (h1 : left ≤ 1048576) (hn : n ≤ maxLen) (h : left < (n : Int)) :
    Calls Try.prog 41 #[.slice a n cap, .int .i64 left] w fun e w' => e = .returned (.int .i64 (-1)) ∧ w' = w := by
  unfold maxLen at hn
  have h' : left - (n : Int) < 0 := by omega
  go_enter Try.func41, Try.ntmps41
  go_wp2
  go_ret
  exact ⟨rfl, rfl⟩

set_option maxHeartbeats 400000 in
theorem szIntsS_nil (w : World) (a : Option Addr) (cap : Nat) (left : Int) (h0 : 0 ≤ left) (h1 : left ≤ 1048576) :
    Calls Try.prog 41 #[.slice a 0 cap, .int .i64 left] w fun e w' => e = .returned (.int .i64 left) ∧ w' = w := by
  have h' : ¬ left < 0 := by omega
  go_enter Try.func41, Try.ntmps41
  go_wp2
  go_loop [1, 5] (fun q i => i = .int .i64 0 ∧ q = .int .i64 left) (fun _ _ => 0)
  case atStart => exact ⟨rfl, rfl⟩
  case round =>
    obtain ⟨rfl, rfl⟩ := hrel
    go_wp2
    go_ret
    exact ⟨rfl, rfl⟩

set_option maxHeartbeats 400000 in
theorem szIntsS_walk (w : World) (b off cap n : Nat) (left : Int) (zss : List (List Int)) (u : Nat → Value) (hzn : zss.length = n) (h0 : 0 ≤ left) (h1 : left ≤ 1048576) (h2 : ¬ left < (n : Int))
    (hc : ∀ k, k < n → w.cell? ⟨b, off + k, none⟩ = some (u k) ∧ Ints w (u k) (zss[k]?.getD [])) :
    Calls Try.prog 41 #[.slice (some ⟨b, off, none⟩) n cap, .int .i64 left] w fun e w' => e = .returned (.int .i64 (szf left (n + (zss.map List.length).sum))) ∧ w' = w := by
  have HN : Hid (zss.length = n) := hzn
  have h2' : ¬ left - (n : Int) < 0 := by omega
  clear hzn
  go_enter Try.func41, Try.ntmps41
  go_wp2
  go_loop [1, 5] (fun q i => ∃ j : Nat, j ≤ n ∧ i = .int .i64 j ∧ q = .int .i64 (left - (n : Int) - (upto (zss.map List.length) j : Nat)) ∧ 0 ≤ left - (n : Int) - (upto (zss.map List.length) j : Nat)) (fun _ i => n - (intOf i).toNat)
  case atStart => exact ⟨0, Nat.zero_le _, rfl, by simp [upto_zero], by simp [upto_zero]; omega⟩
  case round =>
    obtain ⟨j, hj, rfl, rfl, hq⟩ := hrel
    by_cases hlt : j < n
    · obtain ⟨c1, i1⟩ := hc j hlt
      clear hc
      have hs := upto_succ (zss.map List.length) j (by rw [List.length_map, HN.out]; exact hlt)
      rw [lens_get] at hs
      have hle := upto_le (zss.map List.length) (j + 1)
      have HS : Hid (upto (zss.map List.length) (j + 1) = upto (zss.map List.length) j + (zss[j]?.getD []).length) := hs
      clear hs
      generalize upto (zss.map List.length) j = U at *
      have HI : Hid (Ints w (u j) (zss[j]?.getD [])) := i1
      clear i1
      by_cases hm : left - (n : Int) - (U : Int) < ((zss[j]?.getD []).length : Int)
      · have HM : Hid (szf left (n + (zss.map List.length).sum) = -1) := szf_no (by have := HS.out; omega)
        have HR := szf_no hm
        have HR' : Hid (szf (left - (n : Int) - (U : Int)) (zss[j]?.getD []).length = -1) := HR
        clear HR
        go_wp2_with fail
        refine (szInts_any HI.out _ hq (by omega)).mono ?_
        rw [HR'.out]
        rintro e w' ⟨rfl, rfl⟩
        go_wp2
        go_ret
        exact ⟨ret_int HM.out.symm, rfl⟩
      · have HR := szf_yes hm
        have HR' : Hid (szf (left - (n : Int) - (U : Int)) (zss[j]?.getD []).length = left - (n : Int) - (U : Int) - ((zss[j]?.getD []).length : Int)) := HR
        clear HR
        have hpos : ¬ (left - (n : Int) - (U : Int) - ((zss[j]?.getD []).length : Int) < 0) := by omega
        go_wp2_with fail
        refine (szInts_any HI.out _ hq (by omega)).mono ?_
        rw [HR'.out]
        rintro e w' ⟨rfl, rfl⟩
        go_wp2
        go_round
        case rel => exact ⟨j + 1, by omega, by go_num, by rw [HS.out]; go_num, by rw [HS.out]; omega⟩
        case measure => simp [intOf]; omega
    · go_wp2
      go_ret
      have e : j = n := by omega
      subst e
      have ha := upto_all (zss.map List.length)
      rw [List.length_map, HN.out] at ha
      refine ⟨ret_int ?_, rfl⟩
      rw [ha] at hq ⊢
      rw [szf_yes (by omega)]
      omega

theorem szIntsS_any {w : World} {v : Value} {zss : List (List Int)} (h : IntsS w v zss) (left : Int) (h0 : 0 ≤ left) (h1 : left ≤ 1048576) :
    Calls Try.prog 41 #[v, .int .i64 left] w fun e w' => e = .returned (.int .i64 (szf left (zss.length + (zss.map List.length).sum))) ∧ w' = w := by
  rcases h with ⟨rfl, a, cap, rfl⟩ | ⟨b, off, cap, u, rfl, hl, hc⟩
  · refine (szIntsS_nil w a cap left h0 h1).mono fun e w' ⟨he, hw⟩ => ⟨he.trans (ret_int ?_), hw⟩
    simp [szf]; omega
  · by_cases h : left < (zss.length : Int)
    · refine (szIntsS_many w _ zss.length cap left h0 h1 hl h).mono fun e w' ⟨he, hw⟩ => ⟨he.trans (ret_int ?_), hw⟩
      rw [szf_no (by omega)]
    · exact szIntsS_walk w b off cap zss.length left zss u rfl h0 h1 h hc

theorem szPut_any (w : World) (v : Value) (a : Int) (zs : List Int) (h : Ints w v zs) (left : Int) (h0 : 0 ≤ left) (h1 : left ≤ 1048576) :
    Calls Try.prog 86 #[.agg #[.int .i64 a, v], .int .i64 left] w fun e w' => e = .returned (.int .i64 (szf left zs.length)) ∧ Below w.heap.size w w' := by
  have HI : Hid (Ints w v zs) := h
  clear h
  by_cases hm : left < (zs.length : Int)
  · have HR : Hid (szf left zs.length = -1) := szf_no hm
    rw [HR.out]
    go_enter Try.func86, Try.ntmps86
    go_wp2_with fail
    refine (szInts_any (HI.out.later (later1 _ _)) _ h0 h1).mono ?_
    rw [HR.out]
    rintro e w' ⟨rfl, rfl⟩
    go_wp2
    go_ret
    exact ⟨rfl, later1 _ _⟩
  · have HR : Hid (szf left zs.length = left - (zs.length : Int)) := szf_yes hm
    have hpos : ¬ left - (zs.length : Int) < 0 := by omega
    rw [HR.out]
    go_enter Try.func86, Try.ntmps86
    go_wp2_with fail
    refine (szInts_any (HI.out.later (later1 _ _)) _ h0 h1).mono ?_
    rw [HR.out]
    rintro e w' ⟨rfl, rfl⟩
    go_wp2
    go_ret
    exact ⟨rfl, later1 _ _⟩

set_option maxHeartbeats 400000 in
theorem szPuts_many (w : World) (a : Option Addr) (n cap : Nat) (left : Int) (h0 : 0 ≤ left) (h1 : left ≤ 1048576) (hn : n ≤ maxLen) (h : left < (n : Int)) :
    Calls Try.prog 42 #[.slice a n cap, .int .i64 left] w fun e w' => e = .returned (.int .i64 (-1)) ∧ w' = w := by
  unfold maxLen at hn
  have h' : left - (n : Int) < 0 := by omega
  go_enter Try.func42, Try.ntmps42
  go_wp2
  go_ret
  exact ⟨rfl, rfl⟩

set_option maxHeartbeats 400000 in
theorem szPuts_nil (w : World) (a : Option Addr) (cap : Nat) (left : Int) (h0 : 0 ≤ left) (h1 : left ≤ 1048576) :
    Calls Try.prog 42 #[.slice a 0 cap, .int .i64 left] w fun e w' => e = .returned (.int .i64 left) ∧ w' = w := by
  have h' : ¬ left < 0 := by omega
  go_enter Try.func42, Try.ntmps42
  go_wp2
  go_loop [1, 5] (fun q i => i = .int .i64 0 ∧ q = .int .i64 left) (fun _ _ => 0)
  case atStart => exact ⟨rfl, rfl⟩
  case round =>
    obtain ⟨rfl, rfl⟩ := hrel
    go_wp2
    go_ret
    exact ⟨rfl, rfl⟩

set_option maxHeartbeats 800000 in
theorem szPuts_walk (w : World) (b off cap n : Nat) (left : Int) (ps : List (Int × List Int)) (u : Nat → Value) (hzn : ps.length = n) (h0 : 0 ≤ left) (h1 : left ≤ 1048576) (h2 : ¬ left < (n : Int))
    (hc : ∀ k, k < n → w.cell? ⟨b, off + k * 2, none⟩ = some (.int .i64 (ps[k]?.getD (0, [])).1) ∧ w.cell? ⟨b, off + k * 2 + 1, none⟩ = some (u k) ∧ Ints w (u k) (ps[k]?.getD (0, [])).2) :
    Calls Try.prog 42 #[.slice (some ⟨b, off, none⟩) n cap, .int .i64 left] w fun e w' => e = .returned (.int .i64 (szf left (n + (wlens ps).sum))) ∧ Below w.heap.size w w' := by
  have HN : Hid (ps.length = n) := hzn
  have h2' : ¬ left - (n : Int) < 0 := by omega
  clear hzn
  go_enter Try.func42, Try.ntmps42
  go_wp2
  go_loopw [1, 5] (fun q i wr => ∃ j : Nat, j ≤ n ∧ i = .int .i64 j ∧ q = .int .i64 (left - (n : Int) - (upto (wlens ps) j : Nat)) ∧ 0 ≤ left - (n : Int) - (upto (wlens ps) j : Nat) ∧ Below w.heap.size w wr) (fun _ i _ => n - (intOf i).toNat)
  case atStart => exact ⟨0, Nat.zero_le _, rfl, by simp [upto_zero], by simp [upto_zero]; omega, Below.refl _ _⟩
  case round =>
    obtain ⟨j, hj, rfl, rfl, hq, hbl⟩ := hrel
    by_cases hlt : j < n
    · obtain ⟨c1, c2, i1⟩ := hc j hlt
      clear hc
      have hs := upto_succ (wlens ps) j (by rw [wlens_length, HN.out]; exact hlt)
      rw [wlens_get] at hs
      have hle := upto_le (wlens ps) (j + 1)
      have HS : Hid (upto (wlens ps) (j + 1) = upto (wlens ps) j + (ps[j]?.getD (0, [])).2.length) := hs
      clear hs
      generalize upto (wlens ps) j = U at *
      have HI : Hid (Ints wr (u j) (ps[j]?.getD (0, [])).2) := i1.later hbl
      replace c1 := cell_later hbl c1
      replace c2 := cell_later hbl c2
      have HBL : Hid (Below w.heap.size w wr) := hbl
      clear i1 hbl
      obtain ⟨ua, ucap, hu, _⟩ := HI.out.shape
      have HI' : Hid (Ints wr (.slice ua (ps[j]?.getD (0, [])).2.length ucap) (ps[j]?.getD (0, [])).2) := by rw [← hu]; exact HI.out
      rw [hu] at c2
      clear HI hu
      by_cases hm : left - (n : Int) - (U : Int) < ((ps[j]?.getD (0, [])).2.length : Int)
      · have HM : Hid (szf left (n + (wlens ps).sum) = -1) := szf_no (by have := HS.out; omega)
        have HR' : Hid (szf (left - (n : Int) - (U : Int)) (ps[j]?.getD (0, [])).2.length = -1) := szf_no hm
        go_wp2_with fail
        refine (szPut_any _ _ _ _ HI'.out _ hq (by omega)).mono ?_
        rw [HR'.out]
        rintro e w' ⟨rfl, hb⟩
        have HB : Hid (Below w.heap.size w w') := HBL.out.trans (hb.mono HBL.out.size)
        clear hb
        go_wp2
        go_ret
        exact ⟨ret_int HM.out.symm, HB.out⟩
      · have HR' : Hid (szf (left - (n : Int) - (U : Int)) (ps[j]?.getD (0, [])).2.length = left - (n : Int) - (U : Int) - ((ps[j]?.getD (0, [])).2.length : Int)) := szf_yes hm
        have hpos : ¬ (left - (n : Int) - (U : Int) - ((ps[j]?.getD (0, [])).2.length : Int) < 0) := by omega
        go_wp2_with fail
        refine (szPut_any _ _ _ _ HI'.out _ hq (by omega)).mono ?_
        rw [HR'.out]
        rintro e w' ⟨rfl, hb⟩
        have HB : Hid (Below w.heap.size w w') := HBL.out.trans (hb.mono HBL.out.size)
        clear hb
        go_wp2
        go_roundw
        case rel => exact ⟨j + 1, by omega, by go_num, by rw [HS.out]; go_num, by rw [HS.out]; omega, HB.out⟩
        case measure => simp [intOf]; omega
    · go_wp2
      go_ret
      have e : j = n := by omega
      subst e
      have ha := upto_all (wlens ps)
      rw [wlens_length, HN.out] at ha
      refine ⟨ret_int ?_, hbl⟩
      rw [ha] at hq ⊢
      rw [szf_yes (by omega)]
      omega

theorem szPuts_any {w : World} {v : Value} {ps : List (Int × List Int)} (h : Puts w v ps) (left : Int) (h0 : 0 ≤ left) (h1 : left ≤ 1048576) :
    Calls Try.prog 42 #[v, .int .i64 left] w fun e w' => e = .returned (.int .i64 (szf left (ps.length + (wlens ps).sum))) ∧ Below w.heap.size w w' := by
  rcases h with ⟨rfl, a, cap, rfl⟩ | ⟨b, off, cap, u, rfl, hl, hc⟩
  · refine (szPuts_nil w a cap left h0 h1).mono fun e w' ⟨he, hw⟩ => ⟨he.trans (ret_int ?_), hw ▸ Below.refl _ _⟩
    simp [szf, wlens]; omega
  · by_cases h : left < (ps.length : Int)
    · refine (szPuts_many w _ ps.length cap left h0 h1 hl h).mono fun e w' ⟨he, hw⟩ => ⟨he.trans (ret_int ?_), hw ▸ Below.refl _ _⟩
      rw [szf_no (by omega)]
    · exact szPuts_walk w b off cap ps.length left ps u rfl h0 h1 h hc

/-- How many values a disk holds. -/
def dsize (bs : List (List Int)) (ps : List (Int × List Int)) : Nat := bs.length + (bs.map List.length).sum + (ps.length + (wlens ps).sum)

theorem szDisk_any (w : World) (aB aC : Option Addr) (nB cB nC cC : Nat) (bs : List (List Int)) (ps : List (Int × List Int)) (h1 : IntsS w (.slice aB nB cB) bs) (h2 : Puts w (.slice aC nC cC) ps) (left : Int) (l0 : 0 ≤ left) (l1 : left ≤ 1048576) :
    Calls Try.prog 8 #[.agg #[.slice aB nB cB, .slice aC nC cC], .int .i64 left] w fun e w' => e = .returned (.int .i64 (szf left (dsize bs ps))) ∧ Below w.heap.size w w' := by
  have H1 : Hid (IntsS w (.slice aB nB cB) bs) := h1
  have H2 : Hid (Puts w (.slice aC nC cC) ps) := h2
  clear h1 h2
  by_cases hm : left < ((bs.length + (bs.map List.length).sum : Nat) : Int)
  · have HR : Hid (szf left (bs.length + (bs.map List.length).sum) = -1) := szf_no hm
    have HM : Hid (szf left (dsize bs ps) = -1) := szf_no (by unfold dsize; omega)
    rw [HM.out]
    go_enter Try.func8, Try.ntmps8
    go_wp2_with fail
    refine (szIntsS_any (H1.out.later (later1 _ _)) _ l0 l1).mono ?_
    rw [HR.out]
    rintro e w' ⟨rfl, rfl⟩
    go_wp2
    go_ret
    exact ⟨rfl, later1 _ _⟩
  · have HR : Hid (szf left (bs.length + (bs.map List.length).sum) = left - ((bs.length + (bs.map List.length).sum : Nat) : Int)) := szf_yes hm
    have hpos : ¬ left - ((bs.length + (bs.map List.length).sum : Nat) : Int) < 0 := by omega
    have HD : Hid (szf (left - ((bs.length + (bs.map List.length).sum : Nat) : Int)) (ps.length + (wlens ps).sum) = szf left (dsize bs ps)) := by
      unfold Hid szf dsize
      split <;> split <;> omega
    have hX0 : (0 : Int) ≤ ((bs.length + (bs.map List.length).sum : Nat) : Int) := by omega
    generalize ((bs.length + (bs.map List.length).sum : Nat) : Int) = X at *
    generalize hr : szf left (dsize bs ps) = r at *
    have HRR : Hid (szf left (dsize bs ps) = r) := hr
    clear hr
    by_cases hn : r < 0
    · have hr1 : r = -1 := by have := HRR.out; unfold szf at this; split at this <;> omega
      subst hr1
      go_enter Try.func8, Try.ntmps8
      go_wp2_with fail
      refine (szIntsS_any (H1.out.later (later1 _ _)) _ l0 l1).mono ?_
      rw [HR.out]
      rintro e w' ⟨rfl, rfl⟩
      go_wp2_with fail
      refine (szPuts_any (H2.out.later (later1 _ _)) _ (by omega) (by omega)).mono ?_
      rw [HD.out]
      rintro e w' ⟨rfl, hb⟩
      have HB : Hid (Below w.heap.size w w') := (later1 _ _).trans (hb.mono (by simp))
      clear hb
      go_wp2
      go_ret
      exact ⟨rfl, HB.out⟩
    · go_enter Try.func8, Try.ntmps8
      go_wp2_with fail
      refine (szIntsS_any (H1.out.later (later1 _ _)) _ l0 l1).mono ?_
      rw [HR.out]
      rintro e w' ⟨rfl, rfl⟩
      go_wp2_with fail
      refine (szPuts_any (H2.out.later (later1 _ _)) _ (by omega) (by omega)).mono ?_
      rw [HD.out]
      rintro e w' ⟨rfl, hb⟩
      have HB : Hid (Below w.heap.size w w') := (later1 _ _).trans (hb.mono (by simp))
      clear hb
      go_wp2
      go_ret
      exact ⟨rfl, HB.out⟩
end Go.Proofs.Ytomcejofhfngkaa

namespace Go.Proofs.Ytomcejofhfngkaa
open Go.RowKit
set_option maxRecDepth 100000

theorem Try.infoExt : (Try.prog.info? 104).map (fun i => (i.zero, i.size, i.bytes)) = some (some (.agg #[.int .i64 0, .int .i64 0, .int .i64 0]), 3, 24) := by kernel_rfl

theorem szExts_any {w : World} {v : Value} {es : List E3} (h : Exts w v es) (left : Int) (h0 : 0 ≤ left) (h1 : left ≤ 1048576) :
    Calls Try.prog 63 #[v, .int .i64 left] w fun e w' => e = .returned (.int .i64 (szf left es.length)) ∧ w' = w := by
  obtain ⟨a, cap, rfl, hn, _⟩ := h.open'
  unfold maxLen at hn
  generalize es.length = n at *
  by_cases h : left < (n : Int)
  · rw [szf_no h]
    have h' : left - (n : Int) < 0 := by omega
    go_enter Try.func63, Try.ntmps63
    go_wp2
    go_ret
    exact ⟨rfl, rfl⟩
  · rw [szf_yes h]
    have h' : ¬ left - (n : Int) < 0 := by omega
    go_enter Try.func63, Try.ntmps63
    go_wp2
    go_ret
    exact ⟨rfl, rfl⟩

theorem toExt_any (w : World) (x y z : Int) :
    Calls Try.prog 97 #[.agg #[.int .i64 x, .int .i64 y, .int .i64 z]] w fun e w' => e = .returned (.agg #[.int .i64 x, .int .i64 y, .int .i64 z]) ∧ Below w.heap.size w w' := by
  go_enter Try.func97, Try.ntmps97
  go_wp2
  exact bodyPost_ret (v := .agg #[.int .i64 x, .int .i64 y, .int .i64 z]) (by simp [results, Try.results97, go_sem]) rfl ⟨rfl, later3 _ _ _ _⟩

set_option maxHeartbeats 800000 in
theorem toExts_walk (w : World) (a : Option Addr) (cap n : Nat) (es : List E3) (hn : n ≤ 1048576) (hc : AtE w a n es) :
    Calls Try.prog 67 #[.slice a n cap] w fun e w' => e = .returned (.slice (some ⟨w.heap.size, 0, none⟩) n n) ∧ Below w.heap.size w w' ∧ OwnRow w' w.heap.size (n * 3) (exCell es) := by
  have hmk := fun w => run_make_trip (P := Try.prog) 49 104 (.int .i64 0) (.int .i64 0) (.int .i64 0) 24 Try.underlying49 Try.infoExt rfl .i64 .i64 n (by omega) (by omega) w
  have HC : Hid (AtE w a n es) := hc
  clear hc
  go_enter Try.func67, Try.ntmps67
  go_wp2
  clear hmk
  go_loopw [4] (fun i wr => ∃ j : Nat, j ≤ n ∧ i = .int .i64 j ∧ Below w.heap.size w wr ∧ OwnRow wr w.heap.size (n * 3) (partE es j)) (fun i _ => n - (intOf i).toNat)
  case atStart => exact ⟨0, Nat.zero_le _, rfl, later1 _ _, (OwnRow.madeTrip w n 104).congr fun i _ => by simp [partE]⟩
  case round =>
    obtain ⟨j, hj, rfl, hbl, hrow⟩ := hrel
    by_cases hlt : j < n
    · obtain ⟨b, off, rfl, c0, c1, c2⟩ := HC.out j hlt
      replace c0 := cell_later hbl c0
      replace c1 := cell_later hbl c1
      replace c2 := cell_later hbl c2
      have HBL : Hid (Below w.heap.size w wr) := hbl
      have HROW : Hid (OwnRow wr w.heap.size (n * 3) (partE es j)) := hrow
      have NX : ∀ c, (if c = j * 3 + 2 then .int .i64 (es[j]?.getD (0, 0, 0)).2.2 else (if c = j * 3 + 1 then .int .i64 (es[j]?.getD (0, 0, 0)).2.1 else (if c = j * 3 then .int .i64 (es[j]?.getD (0, 0, 0)).1 else partE es j c))) = partE es (j + 1) c := partE_next es j
      generalize (es[j]?.getD (0, 0, 0)).1 = x at c0 NX
      generalize (es[j]?.getD (0, 0, 0)).2.1 = y at c1 NX
      generalize (es[j]?.getD (0, 0, 0)).2.2 = z at c2 NX
      have HNX : Hid (∀ c, (if c = j * 3 + 2 then .int .i64 z else (if c = j * 3 + 1 then .int .i64 y else (if c = j * 3 then .int .i64 x else partE es j c))) = partE es (j + 1) c) := NX
      clear hbl hrow NX
      go_wp2_with fail
      refine (toExt_any _ x y z).mono ?_
      rintro e w1 ⟨rfl, hb1⟩
      have HB1 : Hid (Below wr.heap.size wr w1) := hb1
      have HROW1 : Hid (OwnRow w1 w.heap.size (n * 3) (partE es j)) := HROW.out.block (hb1.block _ HROW.out.lt)
      have d0 : w1.cell? ⟨w.heap.size, j * 3, none⟩ = some (.int .i64 0) := by rw [HROW1.out.cell (by omega)]; simp [partE]
      have d1 : w1.cell? ⟨w.heap.size, j * 3 + 1, none⟩ = some (.int .i64 0) := by rw [HROW1.out.cell (by omega)]; unfold partE; rw [if_neg (by omega)]
      have d2 : w1.cell? ⟨w.heap.size, j * 3 + 2, none⟩ = some (.int .i64 0) := by rw [HROW1.out.cell (by omega)]; unfold partE; rw [if_neg (by omega)]
      have f0 := HROW1.out.frozen (j * 3)
      have f1 := HROW1.out.frozen (j * 3 + 1)
      have f2 := HROW1.out.frozen (j * 3 + 2)
      clear hb1
      go_wp2
      go_roundw
      case rel =>
        refine ⟨j + 1, by omega, by go_num, (((HBL.out.trans (HB1.out.mono HBL.out.size)).setCell (Nat.le_refl _) _).setCell (Nat.le_refl _) _).setCell (Nat.le_refl _) _, (((HROW1.out.set (j * 3) _).set (j * 3 + 1) _).set (j * 3 + 2) _).congr fun c _ => HNX.out c⟩
      case measure => simp [intOf]; omega
    · go_wp2
      go_ret
      have e : j = n := by omega
      subst e
      exact ⟨rfl, hbl, hrow.congr fun i hi => by simp [partE, hi]⟩
theorem toExtsU {w : World} {v : Value} {es : List E3} (h : Exts w v es) (hn : es.length ≤ 1048576) :
    Calls Try.prog 67 #[v] w fun e w' => ∃ a n c, e = .returned (.slice a n c) ∧ Below w.heap.size w w' ∧ ExtsO w' (.slice a n c) es (fresh w w') := by
  obtain ⟨a, cap, rfl, hm, hc⟩ := h.open'
  exact (toExts_walk w a cap es.length es hn hc).mono fun e w' ⟨he, hb, hr⟩ => ⟨_, _, _, he, hb, Or.inr ⟨w.heap.size, _, ⟨Nat.le_refl _, hr.lt⟩, rfl, ⟨hm, Nat.le_refl _⟩, hr⟩⟩

theorem eqExt_true (w : World) (x y z : Int) :
    Calls Try.prog 101 #[.agg #[.int .i64 x, .int .i64 y, .int .i64 z], .agg #[.int .i64 x, .int .i64 y, .int .i64 z]] w fun e w' => e = .returned (.bool true) ∧ Below w.heap.size w w' := by
  have h0 : (x != x) = false := by simp
  have h1 : (y != y) = false := by simp
  have h2 : (z != z) = false := by simp
  go_enter Try.func101, Try.ntmps101
  go_wp2
  go_ret
  exact ⟨rfl, later2 _ _ _⟩

set_option maxHeartbeats 800000 in
theorem eqExts_walk (w : World) (a a' : Option Addr) (cap cap' n : Nat) (es : List E3) (hn : n ≤ maxLen) (hc : AtE w a n es) (hc' : AtE w a' n es) :
    Calls Try.prog 70 #[.slice a n cap, .slice a' n cap'] w fun e w' => e = .returned (.bool true) ∧ Below w.heap.size w w' := by
  unfold maxLen at hn
  have HC : Hid (AtE w a n es) := hc
  have HC' : Hid (AtE w a' n es) := hc'
  clear hc hc'
  go_enter Try.func70, Try.ntmps70
  go_wp2
  go_loopw [5] (fun i wr => ∃ k : Nat, k ≤ n ∧ i = .int .i64 k ∧ Below w.heap.size w wr) (fun i _ => n - (intOf i).toNat)
  case atStart => exact ⟨0, Nat.zero_le _, rfl, Below.refl _ _⟩
  case round =>
    obtain ⟨j, hj, rfl, hbl⟩ := hrel
    by_cases hlt : j < n
    · obtain ⟨b, off, rfl, c0, c1, c2⟩ := HC.out j hlt
      obtain ⟨b', off', rfl, d0, d1, d2⟩ := HC'.out j hlt
      replace c0 := cell_later hbl c0
      replace c1 := cell_later hbl c1
      replace c2 := cell_later hbl c2
      replace d0 := cell_later hbl d0
      replace d1 := cell_later hbl d1
      replace d2 := cell_later hbl d2
      generalize (es[j]?.getD (0, 0, 0)).1 = x at c0 d0
      generalize (es[j]?.getD (0, 0, 0)).2.1 = y at c1 d1
      generalize (es[j]?.getD (0, 0, 0)).2.2 = z at c2 d2
      have HBL : Hid (Below w.heap.size w wr) := hbl
      clear hbl
      go_wp2_with fail
      go_region_with ((go_at_call 101; refine (eqExt_true _ x y z).mono ?_; rintro e w' ⟨rfl, hb2⟩))
      all_goals
        go_wp2
        go_roundw
        case rel => exact ⟨j + 1, by omega, by go_num, (HBL.out.drew).trans (hb2.mono HBL.out.size)⟩
        case measure => simp [intOf]; omega
    · go_wp2
      go_ret
      exact ⟨rfl, hbl⟩
theorem eqExtsU {w : World} {v v' : Value} {es : List E3} (h : Exts w v es) (h' : Exts w v' es) : Calls Try.prog 70 #[v, v'] w fun e w' => e = .returned (.bool true) ∧ Below w.heap.size w w' := by
  obtain ⟨a, cap, rfl, hm, hc⟩ := h.open'
  obtain ⟨a', cap', rfl, _, hc'⟩ := h'
  exact eqExts_walk w a a' cap cap' es.length es hm hc hc'

set_option maxHeartbeats 400000 in
theorem markExts_nil (w : World) (a : Option Addr) (cap : Nat) (k : Int) :
    Calls Try.prog 71 #[.slice a 0 cap, .int .i64 k] w fun e w' => e = .returned (.int .i64 k) ∧ w' = w := by
  go_enter Try.func71, Try.ntmps71
  go_wp2
  go_loop [1, 5] (fun q i => i = .int .i64 0 ∧ q = .int .i64 k) (fun _ _ => 0)
  case atStart => exact ⟨rfl, rfl⟩
  case round =>
    obtain ⟨rfl, rfl⟩ := hrel
    go_wp2
    go_ret
    exact ⟨rfl, rfl⟩

set_option maxHeartbeats 1600000 in
theorem markExts_walk (w : World) (b cap n : Nat) (k : Int) (es : List E3) (hk0 : 0 ≤ k) (hk : k + 3 * (n : Int) ≤ 4611686018427387904) (hr : OwnRow w b (n * 3) (exCell es)) :
    Calls Try.prog 71 #[.slice (some ⟨b, 0, none⟩) n cap, .int .i64 k] w fun e w' => e = .returned (.int .i64 (k + 3 * (n : Int))) ∧ OwnRow w' b (n * 3) (fun c => .int .i64 (k + (c : Int))) ∧ Chg (fun c => c = b) w w' := by
  have HR : Hid (OwnRow w b (n * 3) (exCell es)) := hr
  clear hr
  go_enter Try.func71, Try.ntmps71
  go_wp2
  go_loopw [1, 5] (fun q i wr => ∃ j : Nat, j ≤ n ∧ i = .int .i64 j ∧ q = .int .i64 (k + 3 * (j : Int)) ∧ OwnRow wr b (n * 3) (fun c => if c < j * 3 then .int .i64 (k + (c : Int)) else exCell es c) ∧ Chg (fun c => c = b) w wr) (fun _ i _ => n - (intOf i).toNat)
  case atStart => exact ⟨0, Nat.zero_le _, rfl, by simp, HR.out.congr fun i _ => by simp, Chg.refl _ _⟩
  case round =>
    obtain ⟨j, hj, rfl, rfl, hrow, hch⟩ := hrel
    by_cases hlt : j < n
    · have d0 := hrow.cell (i := j * 3) (by omega)
      have d1 := hrow.cell (i := j * 3 + 1) (by omega)
      have d2 := hrow.cell (i := j * 3 + 2) (by omega)
      rw [if_neg (by omega), exCell_0] at d0
      rw [if_neg (by omega), exCell_1] at d1
      rw [if_neg (by omega), exCell_2] at d2
      have f0 := hrow.frozen (j * 3)
      have f1 := hrow.frozen (j * 3 + 1)
      have f2 := hrow.frozen (j * 3 + 2)
      generalize (es[j]?.getD (0, 0, 0)).1 = x at d0
      generalize (es[j]?.getD (0, 0, 0)).2.1 = y at d1
      generalize (es[j]?.getD (0, 0, 0)).2.2 = z at d2
      have HROW : Hid (OwnRow wr b (n * 3) (fun c => if c < j * 3 then .int .i64 (k + (c : Int)) else exCell es c)) := hrow
      have HCH : Hid (Chg (fun c => c = b) w wr) := hch
      have hU0 : 0 ≤ k + 3 * (j : Int) := by omega
      have hU1 : k + 3 * (j : Int) + 3 ≤ 4611686018427387904 := by omega
      have HU : Hid (k + 3 * ((j + 1 : Nat) : Int) = k + 3 * (j : Int) + 3) := by unfold Hid; omega
      have HV : Hid (∀ c : Nat, c < n * 3 → (if c = j * 3 + 2 then Value.int .i64 (k + 3 * (j : Int) + 2) else if c = j * 3 + 1 then .int .i64 (k + 3 * (j : Int) + 1) else if c = j * 3 then .int .i64 (k + 3 * (j : Int)) else if c < j * 3 then .int .i64 (k + (c : Int)) else exCell es c) = if c < (j + 1) * 3 then .int .i64 (k + (c : Int)) else exCell es c) := by
        intro c hc
        by_cases e2 : c = j * 3 + 2
        · subst e2; rw [if_pos rfl, if_pos (by omega)]; congr 1; omega
        · rw [if_neg e2]
          by_cases e1 : c = j * 3 + 1
          · subst e1; rw [if_pos rfl, if_pos (by omega)]; congr 1; omega
          · rw [if_neg e1]
            by_cases e0 : c = j * 3
            · subst e0; rw [if_pos rfl, if_pos (by omega)]; congr 1; omega
            · rw [if_neg e0]
              by_cases h : c < j * 3
              · rw [if_pos h, if_pos (by omega)]
              · rw [if_neg h, if_neg (by omega)]
      clear hrow hch
      generalize k + 3 * (j : Int) = U at *
      have hU2 : U + 1 + 1 = U + 2 := by omega
      have hU3 : U + 1 + 1 + 1 = U + 3 := by omega
      go_wp2
      go_roundw
      case rel =>
        refine ⟨j + 1, by omega, by go_num, by rw [HU.out]; go_num, (((HROW.out.set (j * 3) _).set (j * 3 + 1) _).set (j * 3 + 2) _).congr fun c hc => ?_, ((HCH.out.set rfl _ _).set rfl _ _).set rfl _ _⟩
        rw [← HV.out c hc]
      case measure => simp [intOf]; omega
    · go_wp2
      go_ret
      have e : j = n := by omega
      subst e
      exact ⟨rfl, hrow.congr fun i hi => by simp [hi], hch⟩
theorem markExtsU {w : World} {v : Value} {es : List E3} {F : Nat → Prop} (k : Int) (h : ExtsO w v es F) (hk0 : 0 ≤ k) (hk : k + 3 * (es.length : Int) ≤ 4611686018427387904) :
    Calls Try.prog 71 #[v, .int .i64 k] w fun e w' => e = .returned (.int .i64 (k + 3 * (es.length : Int))) ∧ ExtsO w' v (marksE k es.length) F ∧ Chg F w w' := by
  rcases h with ⟨rfl, a, cap, rfl⟩ | ⟨b, cap, hF, rfl, hl, hr⟩
  · exact (markExts_nil w a cap k).mono fun e w' ⟨he, hw⟩ => ⟨by rw [he]; simp, Or.inl ⟨rfl, a, cap, rfl⟩, hw ▸ Chg.refl _ _⟩
  · refine (markExts_walk w b cap es.length k es hk0 hk hr).mono fun e w' ⟨he, hrow, hc⟩ => ⟨he, Or.inr ⟨b, cap, hF, by rw [marksE_length], by rw [marksE_length]; exact hl, ?_⟩, hc.mono fun c hc => hc ▸ hF⟩
    rw [marksE_length]
    exact hrow.congr fun c hc => (exCell_marks k hc).symm

set_option maxHeartbeats 1600000 in
theorem heldExts_walk (w : World) (a : Option Addr) (cap n : Nat) (k : Int) (hk0 : 0 ≤ k) (hk : k + 3 * (n : Int) ≤ 4611686018427387904) (hn : n ≤ maxLen) (hc : AtE w a n (marksE k n)) :
    Calls Try.prog 102 #[.slice a n cap, .int .i64 k] w fun e w' => e = .returned (.int .i64 (k + 3 * (n : Int))) ∧ w' = w := by
  have HC : Hid (AtE w a n (marksE k n)) := hc
  unfold maxLen at hn
  clear hc
  go_enter Try.func102, Try.ntmps102
  go_wp2
  go_loop [1, 5] (fun q i => ∃ j : Nat, j ≤ n ∧ i = .int .i64 j ∧ q = .int .i64 (k + 3 * (j : Int))) (fun _ i => n - (intOf i).toNat)
  case atStart => exact ⟨0, Nat.zero_le _, rfl, by simp⟩
  case round =>
    obtain ⟨j, hj, rfl, rfl⟩ := hrel
    by_cases hlt : j < n
    · obtain ⟨b, off, rfl, c0, c1, c2⟩ := HC.out j hlt
      rw [marksE_get k hlt] at c0 c1 c2
      dsimp only at c0 c1 c2
      have hU0 : 0 ≤ k + 3 * (j : Int) := by omega
      have hU1 : k + 3 * (j : Int) + 3 ≤ 4611686018427387904 := by omega
      have HU : Hid (k + 3 * ((j + 1 : Nat) : Int) = k + 3 * (j : Int) + 3) := by unfold Hid; omega
      generalize k + 3 * (j : Int) = U at *
      have hU2 : U + 1 + 1 = U + 2 := by omega
      have h0 : (U != U) = false := by simp
      have h1 : (U + 1 != U + 1) = false := by simp
      have h2 : (U + 2 != U + 1 + 1) = false := by rw [hU2]; simp
      have h3 : (U + 2 != U + 2) = false := by simp
      go_wp2
      go_round
      case rel => exact ⟨j + 1, by omega, by go_num, by rw [HU.out]; go_num⟩
      case measure => simp [intOf]; omega
    · go_wp2
      go_ret
      have e : j = n := by omega
      subst e
      exact ⟨rfl, rfl⟩
theorem heldExtsU {w : World} {v : Value} (k : Int) (n : Nat) (h : Exts w v (marksE k n)) (hk0 : 0 ≤ k) (hk : k + 3 * (n : Int) ≤ 4611686018427387904) :
    Calls Try.prog 102 #[v, .int .i64 k] w fun e w' => e = .returned (.int .i64 (k + 3 * (n : Int))) ∧ w' = w := by
  obtain ⟨a, cap, rfl, hm, hc⟩ := h.open'
  rw [marksE_length] at hm hc ⊢
  exact heldExts_walk w a cap n k hk0 hk hm hc
end Go.Proofs.Ytomcejofhfngkaa

namespace Go.Proofs.Ytomcejofhfngkaa
open Go.RowKit
set_option maxRecDepth 100000

set_option maxHeartbeats 400000 in
theorem eqInts_len (w : World) (a a' : Option Addr) (cap cap' n n' : Nat) (hn : ¬ n = n') :
    Calls Try.prog 15 #[.slice a n cap, .slice a' n' cap'] w fun e w' => e = .returned (.bool false) ∧ w' = w := by
  have hb : ((n : Int) != (n' : Int)) = true := by simp; omega
  clear hn
  go_enter Try.func15, Try.ntmps15
  go_wp2
  go_ret
  exact ⟨rfl, rfl⟩

set_option maxHeartbeats 400000 in
theorem eqInts_nil (w : World) (a a' : Option Addr) (cap cap' : Nat) :
    Calls Try.prog 15 #[.slice a 0 cap, .slice a' 0 cap'] w fun e w' => e = .returned (.bool true) ∧ w' = w := by
  go_enter Try.func15, Try.ntmps15
  go_wp2
  go_loop [5] (fun i => i = .int .i64 0) (fun _ => 0)
  case atStart => rfl
  case round =>
    obtain rfl := hrel
    go_wp2
    go_ret
    exact ⟨rfl, rfl⟩

set_option maxHeartbeats 400000 in
theorem eqInts_walk (w : World) (b off cap b' off' cap' n : Nat) (xs ys : List Int) (hx : xs.length = n) (hy : ys.length = n) (hn : n ≤ maxLen)
    (cx : ∀ k, k < n → w.cell? ⟨b, off + k, none⟩ = some (.int .i64 (xs[k]?.getD 0)))
    (cy : ∀ k, k < n → w.cell? ⟨b', off' + k, none⟩ = some (.int .i64 (ys[k]?.getD 0))) :
    Calls Try.prog 15 #[.slice (some ⟨b, off, none⟩) n cap, .slice (some ⟨b', off', none⟩) n cap'] w fun e w' => e = .returned (.bool (xs == ys)) ∧ ∃ m, w' = w.drewN m := by
  unfold maxLen at hn
  have HX : Hid (xs.length = n) := hx
  have HY : Hid (ys.length = n) := hy
  clear hx hy
  go_enter Try.func15, Try.ntmps15
  go_wp2
  go_loopw [5] (fun i wr => ∃ k m : Nat, k ≤ n ∧ i = .int .i64 k ∧ wr = w.drewN m ∧ xs.take k = ys.take k) (fun i _ => n - (intOf i).toNat)
  case atStart => exact ⟨0, 0, Nat.zero_le _, rfl, rfl, rfl⟩
  case round =>
    obtain ⟨k, m, hk, rfl, rfl, ht⟩ := hrel
    by_cases hlt : k < n
    · have c1 := cx k hlt
      have c2 := cy k hlt
      clear cx cy
      have HT : Hid (xs.take k = ys.take k) := ht
      clear ht
      by_cases he : xs[k]?.getD 0 = ys[k]?.getD 0
      · have hb : (xs[k]?.getD 0 != ys[k]?.getD 0) = false := by simp [he]
        have HE : Hid (xs[k]?.getD 0 = ys[k]?.getD 0) := he
        clear he
        go_wp2_with fail
        go_quiet (fail)
        go_wp2
        go_roundw
        case rel => exact ⟨k + 1, m + nq, by omega, by go_num, rfl, take_more 0 HX.out HY.out hlt HT.out HE.out⟩
        case measure => simp [intOf]; omega
      · have hb : (xs[k]?.getD 0 != ys[k]?.getD 0) = true := by simp [he]
        go_wp2_with fail
        go_quiet (fail)
        go_wp2
        go_ret
        exact ⟨ret_bool (beq_at 0 he), m + nq, by rw [World.drewN_drewN]⟩
    · go_wp2
      go_ret
      exact ⟨ret_bool (beq_takes HX.out HY.out (by omega) ht), m, rfl⟩

theorem eqInts_any {w : World} {va vb : Value} {xs ys : List Int} (ha : Ints w va xs) (hb : Ints w vb ys) :
    Calls Try.prog 15 #[va, vb] w fun e w' => e = .returned (.bool (xs == ys)) ∧ ∃ m, w' = w.drewN m := by
  have base : ∀ a cap a' cap' (x y : List Int), x.length ≠ y.length ∨ (x = [] ∧ y = []) → Calls Try.prog 15 #[.slice a x.length cap, .slice a' y.length cap'] w fun e w' => e = .returned (.bool (x == y)) ∧ ∃ m, w' = w.drewN m := by
    intro a cap a' cap' x y h
    rcases h with h | ⟨rfl, rfl⟩
    · exact (eqInts_len w a a' cap cap' _ _ h).mono fun e w' ⟨he, hw⟩ => ⟨he.trans (ret_bool (beq_len h)), 0, hw⟩
    · exact (eqInts_nil w a a' cap cap').mono fun e w' ⟨he, hw⟩ => ⟨he, 0, hw⟩
  rcases ha with ⟨rfl, a, cap, rfl⟩ | ⟨b, off, cap, rfl, hl, hc⟩
  · rcases hb with ⟨rfl, a', cap', rfl⟩ | ⟨b', off', cap', rfl, hl', hc'⟩
    · exact base a cap a' cap' [] [] (Or.inr ⟨rfl, rfl⟩)
    · by_cases h : ys = []
      · subst h; exact base a cap _ cap' [] [] (Or.inr ⟨rfl, rfl⟩)
      · exact base a cap _ cap' [] ys (Or.inl (by cases ys <;> simp at h ⊢))
  · rcases hb with ⟨rfl, a', cap', rfl⟩ | ⟨b', off', cap', rfl, hl', hc'⟩
    · by_cases h : xs = []
      · subst h; exact base _ cap a' cap' [] [] (Or.inr ⟨rfl, rfl⟩)
      · exact base _ cap a' cap' xs [] (Or.inl (by cases xs <;> simp at h ⊢))
    · by_cases h : xs.length = ys.length
      · have := eqInts_walk w b off cap b' off' cap' ys.length xs ys h rfl hl' (fun k hk => hc k (by omega)) hc'
        rw [h]; exact this
      · exact base _ cap _ cap' xs ys (Or.inl h)

set_option maxHeartbeats 400000 in
theorem eqIntsS_len (w : World) (a a' : Option Addr) (cap cap' n n' : Nat) (hn : ¬ n = n') :
    Calls Try.prog 56 #[.slice a n cap, .slice a' n' cap'] w fun e w' => e = .returned (.bool false) ∧ w' = w := by
  have hb : ((n : Int) != (n' : Int)) = true := by simp; omega
  clear hn
  go_enter Try.func56, Try.ntmps56
  go_wp2
  go_ret
  exact ⟨rfl, rfl⟩

set_option maxHeartbeats 400000 in
theorem eqIntsS_nil (w : World) (a a' : Option Addr) (cap cap' : Nat) :
    Calls Try.prog 56 #[.slice a 0 cap, .slice a' 0 cap'] w fun e w' => e = .returned (.bool true) ∧ w' = w := by
  go_enter Try.func56, Try.ntmps56
  go_wp2
  go_loop [5] (fun i => i = .int .i64 0) (fun _ => 0)
  case atStart => rfl
  case round =>
    obtain rfl := hrel
    go_wp2
    go_ret
    exact ⟨rfl, rfl⟩

set_option maxHeartbeats 400000 in
theorem eqIntsS_walk (w : World) (b off cap b' off' cap' n : Nat) (xs ys : List (List Int)) (u u' : Nat → Value) (hx : xs.length = n) (hy : ys.length = n) (hn : n ≤ maxLen)
    (cx : ∀ k, k < n → w.cell? ⟨b, off + k, none⟩ = some (u k) ∧ Ints w (u k) (xs[k]?.getD []))
    (cy : ∀ k, k < n → w.cell? ⟨b', off' + k, none⟩ = some (u' k) ∧ Ints w (u' k) (ys[k]?.getD [])) :
    Calls Try.prog 56 #[.slice (some ⟨b, off, none⟩) n cap, .slice (some ⟨b', off', none⟩) n cap'] w fun e w' => e = .returned (.bool (xs == ys)) ∧ ∃ m, w' = w.drewN m := by
  unfold maxLen at hn
  have HX : Hid (xs.length = n) := hx
  have HY : Hid (ys.length = n) := hy
  clear hx hy
  go_enter Try.func56, Try.ntmps56
  go_wp2
  go_loopw [5] (fun i wr => ∃ k m : Nat, k ≤ n ∧ i = .int .i64 k ∧ wr = w.drewN m ∧ xs.take k = ys.take k) (fun i _ => n - (intOf i).toNat)
  case atStart => exact ⟨0, 0, Nat.zero_le _, rfl, rfl, rfl⟩
  case round =>
    obtain ⟨k, m, hk, rfl, rfl, ht⟩ := hrel
    by_cases hlt : k < n
    · obtain ⟨c1, i1⟩ := cx k hlt
      obtain ⟨c2, i2⟩ := cy k hlt
      clear cx cy
      have HT : Hid (xs.take k = ys.take k) := ht
      clear ht
      have I1 : Hid (Ints w (u k) (xs[k]?.getD [])) := i1
      have I2 : Hid (Ints w (u' k) (ys[k]?.getD [])) := i2
      clear i1 i2
      by_cases he : xs[k]?.getD [] = ys[k]?.getD []
      · have hb : (xs[k]?.getD [] == ys[k]?.getD []) = true := by simp [he]
        have HE : Hid (xs[k]?.getD [] = ys[k]?.getD []) := he
        clear he
        go_wp2_with fail
        go_quiet ((go_at_call 15; refine quiet_of2 (eqInts_any (xs := xs[k]?.getD []) (ys := ys[k]?.getD []) ?_ ?_) <;> first | exact I1.out | exact I2.out))
        go_wp2
        go_roundw
        case rel => exact ⟨k + 1, m + nq, by omega, by go_num, rfl, take_more [] HX.out HY.out hlt HT.out HE.out⟩
        case measure => simp [intOf]; omega
      · have hb : (xs[k]?.getD [] == ys[k]?.getD []) = false := by simp [he]
        go_wp2_with fail
        go_quiet ((go_at_call 15; refine quiet_of2 (eqInts_any (xs := xs[k]?.getD []) (ys := ys[k]?.getD []) ?_ ?_) <;> first | exact I1.out | exact I2.out))
        go_wp2
        go_ret
        exact ⟨ret_bool (beq_at [] he), m + nq, by rw [World.drewN_drewN]⟩
    · go_wp2
      go_ret
      exact ⟨ret_bool (beq_takes HX.out HY.out (by omega) ht), m, rfl⟩

theorem eqIntsS_any {w : World} {va vb : Value} {xs ys : List (List Int)} (ha : IntsS w va xs) (hb : IntsS w vb ys) :
    Calls Try.prog 56 #[va, vb] w fun e w' => e = .returned (.bool (xs == ys)) ∧ ∃ m, w' = w.drewN m := by
  have base : ∀ a cap a' cap' (x y : List (List Int)), x.length ≠ y.length ∨ (x = [] ∧ y = []) → Calls Try.prog 56 #[.slice a x.length cap, .slice a' y.length cap'] w fun e w' => e = .returned (.bool (x == y)) ∧ ∃ m, w' = w.drewN m := by
    intro a cap a' cap' x y h
    rcases h with h | ⟨rfl, rfl⟩
    · exact (eqIntsS_len w a a' cap cap' _ _ h).mono fun e w' ⟨he, hw⟩ => ⟨he.trans (ret_bool (beq_len h)), 0, hw⟩
    · exact (eqIntsS_nil w a a' cap cap').mono fun e w' ⟨he, hw⟩ => ⟨he, 0, hw⟩
  rcases ha with ⟨rfl, a, cap, rfl⟩ | ⟨b, off, cap, u, rfl, hl, hc⟩
  · rcases hb with ⟨rfl, a', cap', rfl⟩ | ⟨b', off', cap', u', rfl, hl', hc'⟩
    · exact base a cap a' cap' [] [] (Or.inr ⟨rfl, rfl⟩)
    · by_cases h : ys = []
      · subst h; exact base a cap _ cap' [] [] (Or.inr ⟨rfl, rfl⟩)
      · exact base a cap _ cap' [] ys (Or.inl (by cases ys <;> simp at h ⊢))
  · rcases hb with ⟨rfl, a', cap', rfl⟩ | ⟨b', off', cap', u', rfl, hl', hc'⟩
    · by_cases h : xs = []
      · subst h; exact base _ cap a' cap' [] [] (Or.inr ⟨rfl, rfl⟩)
      · exact base _ cap a' cap' xs [] (Or.inl (by cases xs <;> simp at h ⊢))
    · by_cases h : xs.length = ys.length
      · have := eqIntsS_walk w b off cap b' off' cap' ys.length xs ys u u' h rfl hl' (fun k hk => hc k (by omega)) hc'
        rw [h]; exact this
      · exact base _ cap _ cap' xs ys (Or.inl h)

end Go.Proofs.Ytomcejofhfngkaa
