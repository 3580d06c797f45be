/- The walks of the codes of words and disks, the program's and the specification's. The walks of NewDisk, the program's and the specification's. The walks of the program's rack: lists that are set one by one. The walks of the program's drive: a cache of pointers that grows. The walk of the program's drive.disk: the cache of pointers becomes a list of puts. The walk of the specification's copying of a disk. -/
import Derived.Test.YtpmndmkmfcoieaaRows
import Derived.Test.YtpmndmkmfcoieaaM00
import Derived.Test.YtpmndmkmfcoieaaM01
import Derived.Deep.RegionWith
import Derived.Deep.RegionLaw
import Derived.Deep.AppendLies
namespace Go.Proofs.Ytpmndmkmfcoieaa
open Go.RowKit
set_option maxRecDepth 100000

theorem l1In_any (w : World) (v low high : Int) :
    Calls Try.prog 31 #[.int .i64 v, .int .i64 low, .int .i64 high] w fun e w' => e = .returned (.bool (decide (low ≤ v ∧ v ≤ high))) ∧ w' = w := by
  by_cases h1 : low ≤ v
  · by_cases h2 : v ≤ high
    · have e1 : decide (low ≤ v ∧ v ≤ high) = true := by simp [h1, h2]
      rw [e1]
      go_enter Try.func31, Try.ntmps31
      go_wp2
      go_ret
      exact ⟨rfl, rfl⟩
    · have e1 : decide (low ≤ v ∧ v ≤ high) = false := by simp [h2]
      rw [e1]
      go_enter Try.func31, Try.ntmps31
      go_wp2
      go_ret
      exact ⟨rfl, rfl⟩
  · have e1 : decide (low ≤ v ∧ v ≤ high) = false := by simp [h1]
    have hd : decide (low ≤ v) = false := by simpa using h1
    rw [e1]
    go_enter Try.func31, Try.ntmps31
    go_wp2
    go_ret
    exact ⟨rfl, rfl⟩

set_option maxHeartbeats 400000 in
theorem l1Words_walk (w : World) (a : Option Addr) (n cap : Nat) (ws : List Int) (hn : ws.length = n) (hm : n ≤ maxLen) (hc : At1 w a n (fun k => .int .i64 (ws[k]?.getD 0))) :
    Calls Try.prog 78 #[.slice a n cap] w fun e w' => e = .returned (.int .i64 (wordsF ws)) ∧ w' = w := by
  have HN : Hid (ws.length = n) := hn
  have HC : Hid (At1 w a n (fun k => .int .i64 (ws[k]?.getD 0))) := hc
  clear hn hc
  unfold maxLen at hm
  by_cases h : 64 < n
  · have h' : (64 : Int) < (n : Int) := by omega
    rw [wordsF_many (by rw [HN.out]; exact h)]
    go_enter Try.func78, Try.ntmps78
    go_wp2
    go_ret
    exact ⟨rfl, rfl⟩
  · have h' : ¬ (64 : Int) < (n : Int) := by omega
    go_enter Try.func78, Try.ntmps78
    go_wp2
    go_loop [3] (fun i => ∃ j : Nat, j ≤ n ∧ i = .int .i64 j ∧ ∀ i : Nat, i < j → okW (ws[i]?.getD 0) = true) (fun i => n - (intOf i).toNat)
    case atStart => exact ⟨0, Nat.zero_le _, rfl, fun i hi => by omega⟩
    case round =>
      obtain ⟨j, hj, rfl, hall⟩ := hrel
      have HA : Hid (∀ i : Nat, i < j → okW (ws[i]?.getD 0) = true) := hall
      clear hall
      by_cases hlt : j < n
      · obtain ⟨b, off, e, c1⟩ := HC.out j hlt
        clear HC
        subst e
        replace c1 : w.cell? ⟨b, off + j, none⟩ = some (.int .i64 (ws[j]?.getD 0)) := c1
        generalize hz : ws[j]?.getD 0 = z at *
        have HZ : Hid (ws[j]?.getD 0 = z) := hz
        clear hz
        cases hok : okW z
        · have HOK : Hid (decide (0 ≤ z ∧ z ≤ 65535) = false) := hok
          clear hok
          go_wp2_with fail
          refine (l1In_any _ _ _ _).mono ?_
          rw [HOK.out]
          rintro e w' ⟨rfl, rfl⟩
          go_wp2
          go_ret
          exact ⟨ret_int (wordsF_bad (by rw [HN.out]; exact h) (by rw [HN.out]; exact hlt) (by rw [HZ.out]; exact HOK.out)).symm, rfl⟩
        · have HOK : Hid (decide (0 ≤ z ∧ z ≤ 65535) = true) := hok
          clear hok
          go_wp2_with fail
          refine (l1In_any _ _ _ _).mono ?_
          rw [HOK.out]
          rintro e w' ⟨rfl, rfl⟩
          go_wp2
          go_round
          case rel =>
            refine ⟨j + 1, by omega, by go_num, fun i hi => ?_⟩
            by_cases e : i = j
            · subst e; rw [HZ.out]; exact HOK.out
            · exact HA.out i (by omega)
          case measure => simp [intOf]; omega
      · go_wp2
        go_ret
        exact ⟨ret_int (wordsF_ok (by rw [HN.out]; exact h) (fun i hi => HA.out i (by rw [HN.out] at hi; omega))).symm, rfl⟩
theorem l1Words_any {w : World} {v : Value} {ws : List Int} (h : Ints w v ws) : Calls Try.prog 78 #[v] w fun e w' => e = .returned (.int .i64 (wordsF ws)) ∧ w' = w := by
  obtain ⟨a, cap, rfl, hm, hc⟩ := h.open'
  exact l1Words_walk w a _ cap ws rfl hm hc

set_option maxHeartbeats 400000 in
theorem words_walk (w : World) (a : Option Addr) (n cap : Nat) (ws : List Int) (hn : ws.length = n) (hm : n ≤ maxLen) (hc : At1 w a n (fun k => .int .i64 (ws[k]?.getD 0))) :
    Calls Try.prog 88 #[.slice a n cap] w fun e w' => e = .returned (.int .i64 (wordsF ws)) ∧ w' = w := by
  have HN : Hid (ws.length = n) := hn
  have HC : Hid (At1 w a n (fun k => .int .i64 (ws[k]?.getD 0))) := hc
  clear hn hc
  unfold maxLen at hm
  by_cases h : 64 < n
  · have h' : (64 : Int) < (n : Int) := by omega
    rw [wordsF_many (by rw [HN.out]; exact h)]
    go_enter Try.func88, Try.ntmps88
    go_wp2
    go_ret
    exact ⟨rfl, rfl⟩
  · have h' : ¬ (64 : Int) < (n : Int) := by omega
    go_enter Try.func88, Try.ntmps88
    go_wp2
    go_loop [10] (fun i => ∃ j : Nat, j ≤ n ∧ i = .int .i64 j ∧ ∀ i : Nat, i < j → okW (ws[i]?.getD 0) = true) (fun i => n - (intOf i).toNat)
    case atStart => exact ⟨0, Nat.zero_le _, rfl, fun i hi => by omega⟩
    case round =>
      obtain ⟨j, hj, rfl, hall⟩ := hrel
      have HA : Hid (∀ i : Nat, i < j → okW (ws[i]?.getD 0) = true) := hall
      clear hall
      by_cases hlt : j < n
      · obtain ⟨b, off, e, c1⟩ := HC.out j hlt
        clear HC
        subst e
        replace c1 : w.cell? ⟨b, off + j, none⟩ = some (.int .i64 (ws[j]?.getD 0)) := c1
        generalize hz : ws[j]?.getD 0 = z at *
        have HZ : Hid (ws[j]?.getD 0 = z) := hz
        clear hz
        by_cases h1 : z < 0
        · go_wp2
          go_ret
          exact ⟨ret_int (wordsF_bad (by rw [HN.out]; exact h) (by rw [HN.out]; exact hlt) (by rw [HZ.out]; simp [okW]; omega)).symm, rfl⟩
        · have hd : decide (z < 0) = false := by simpa using h1
          by_cases h2 : 65535 < z
          · go_wp2
            go_ret
            exact ⟨ret_int (wordsF_bad (by rw [HN.out]; exact h) (by rw [HN.out]; exact hlt) (by rw [HZ.out]; simp [okW]; omega)).symm, rfl⟩
          · have hd2 : decide (65535 < z) = false := by simpa using h2
            go_wp2
            go_round
            case rel =>
              refine ⟨j + 1, by omega, by go_num, fun i hi => ?_⟩
              by_cases e : i = j
              · subst e; rw [HZ.out]; simp [okW]; omega
              · exact HA.out i (by omega)
            case measure => simp [intOf]; omega
      · go_wp2
        go_ret
        exact ⟨ret_int (wordsF_ok (by rw [HN.out]; exact h) (fun i hi => HA.out i (by rw [HN.out] at hi; omega))).symm, rfl⟩
theorem words_any {w : World} {v : Value} {ws : List Int} (h : Ints w v ws) : Calls Try.prog 88 #[v] w fun e w' => e = .returned (.int .i64 (wordsF ws)) ∧ w' = w := by
  obtain ⟨a, cap, rfl, hm, hc⟩ := h.open'
  exact words_walk w a _ cap ws rfl hm hc

theorem l1In_is {w : World} {v low high : Int} {r : Bool} (h : decide (low ≤ v ∧ v ≤ high) = r) :
    Calls Try.prog 31 #[.int .i64 v, .int .i64 low, .int .i64 high] w fun e w' => e = .returned (.bool r) ∧ w' = w := by
  subst h; exact l1In_any w v low high

theorem place_l1 (n : Nat) (x : Int) : decide (0 ≤ x ∧ x ≤ (n : Int) - 1) = placeB n x := by
  unfold placeB
  by_cases h : 0 ≤ x ∧ x < (n : Int)
  · simp [h]; omega
  · simp [h]; omega

theorem l1Fault_many (w : World) (bd : Nat) (aB aC : Option Addr) (nB cB nC cC : Nat) (h0 : w.cell? ⟨bd, 0, none⟩ = some (.slice aB nB cB)) (h1 : w.cell? ⟨bd, 1, none⟩ = some (.slice aC nC cC)) (h : 60 < nB ∨ 200 < nC) :
    Calls Try.prog 50 #[.pointer (some ⟨bd, 0, none⟩)] w fun e w' => e = .returned (.int .i64 2) ∧ w' = w := by
  by_cases g : 60 < nB
  · have g' : (60 : Int) < (nB : Int) := by omega
    clear h
    go_enter Try.func50, Try.ntmps50
    go_wp2
    go_ret
    exact ⟨rfl, rfl⟩
  · have hd : decide ((60 : Int) < (nB : Int)) = false := by simp; omega
    have g' : (200 : Int) < (nC : Int) := by omega
    clear h
    go_enter Try.func50, Try.ntmps50
    go_wp2
    go_ret
    exact ⟨rfl, rfl⟩

set_option maxHeartbeats 1600000 in
theorem l1Fault_walk (w : World) (bd : Nat) (aB aC : Option Addr) (nB cB nC cC : Nat) (bs : List (List Int)) (ps : List (Int × List Int)) (hbl : bs.length = nB) (hpl : ps.length = nC) (h0 : w.cell? ⟨bd, 0, none⟩ = some (.slice aB nB cB)) (h1 : w.cell? ⟨bd, 1, none⟩ = some (.slice aC nC cC))
    (g1 : nB ≤ 60) (g2 : nC ≤ 200) (hB : AtS w aB nB bs) (hP : AtP w aC nC ps) :
    Calls Try.prog 50 #[.pointer (some ⟨bd, 0, none⟩)] w fun e w' => e = .returned (.int .i64 (faultF bs ps)) ∧ ∃ m, w' = w.drewN m := by
  have HBL : Hid (bs.length = nB) := hbl
  have HPL : Hid (ps.length = nC) := hpl
  have HB : Hid (AtS w aB nB bs) := hB
  have HP : Hid (AtP w aC nC ps) := hP
  have HM : Hid (¬ (60 < bs.length ∨ 200 < ps.length)) := by unfold Hid; omega
  clear hbl hpl hB hP
  have hd : decide ((60 : Int) < (nB : Int)) = false := by simp; omega
  have hd2 : decide ((200 : Int) < (nC : Int)) = false := by simp; omega
  go_enter Try.func50, Try.ntmps50
  go_wp2
  go_loop [3] (fun i => ∃ j : Nat, j ≤ nB ∧ i = .int .i64 j ∧ ∀ i : Nat, i < j → wordsF (bs[i]?.getD []) = 0) (fun i => nB - (intOf i).toNat)
  case atStart => exact ⟨0, Nat.zero_le _, rfl, fun i hi => by omega⟩
  case round =>
    obtain ⟨j, hj, rfl, hall⟩ := hrel
    have HA : Hid (∀ i : Nat, i < j → wordsF (bs[i]?.getD []) = 0) := hall
    clear hall
    by_cases hlt : j < nB
    · obtain ⟨b, off, ua, ucap, e, c1, i1⟩ := HB.out j hlt
      clear HB
      subst e
      have HI : Hid (Ints w (.slice ua (bs[j]?.getD []).length ucap) (bs[j]?.getD [])) := i1
      clear i1
      generalize hc : wordsF (bs[j]?.getD []) = c
      have HC : Hid (wordsF (bs[j]?.getD []) = c) := hc
      clear hc
      by_cases hz : c = 0
      · subst hz
        go_wp2_with fail
        refine (l1Words_any HI.out).mono ?_
        rw [HC.out]
        rintro e w' ⟨rfl, rfl⟩
        go_wp2
        go_round
        case rel =>
          refine ⟨j + 1, by omega, by go_num, fun i hi => ?_⟩
          by_cases e : i = j
          · subst e; exact HC.out
          · exact HA.out i (by omega)
        case measure => simp [intOf]; omega
      · have hne : (c != 0) = true := by simpa using hz
        go_wp2_with fail
        refine (l1Words_any HI.out).mono ?_
        rw [HC.out]
        rintro e w' ⟨rfl, rfl⟩
        go_wp2
        go_ret
        exact ⟨ret_int (by rw [faultF_block HM.out (by rw [HBL.out]; exact hlt) HA.out (by rw [HC.out]; exact hz), HC.out]), 0, rfl⟩
    · have HA' : Hid (∀ i : Nat, i < bs.length → wordsF (bs[i]?.getD []) = 0) := fun i hi => HA.out i (by rw [HBL.out] at hi; omega)
      clear HA HB
      go_wp2
      go_loopw [5] (fun i wr => ∃ j m : Nat, j ≤ nC ∧ i = .int .i64 j ∧ wr = w.drewN m ∧ ∀ i : Nat, i < j → putF bs.length (ps[i]?.getD (0, [])) = 0) (fun i _ => nC - (intOf i).toNat)
      case atStart => exact ⟨0, 0, Nat.zero_le _, rfl, rfl, fun i hi => by omega⟩
      case round =>
        obtain ⟨k, m, hk, rfl, rfl, hall⟩ := hrel
        have HA : Hid (∀ i : Nat, i < k → putF bs.length (ps[i]?.getD (0, [])) = 0) := hall
        clear hall
        by_cases hlt2 : k < nC
        · obtain ⟨b, off, ua, ucap, e, c1, c2, i1⟩ := HP.out k hlt2
          clear HP
          subst e
          have HI : Hid (Ints w (.slice ua (ps[k]?.getD (0, [])).2.length ucap) (ps[k]?.getD (0, [])).2) := i1
          clear i1
          have hPF : putF bs.length (ps[k]?.getD (0, [])) = if placeB nB (ps[k]?.getD (0, [])).1 = true then wordsF (ps[k]?.getD (0, [])).2 else 3 := by rw [HBL.out]; rfl
          have HPF : Hid (putF bs.length (ps[k]?.getD (0, [])) = if placeB nB (ps[k]?.getD (0, [])).1 = true then wordsF (ps[k]?.getD (0, [])).2 else 3) := hPF
          clear hPF
          cases hpl : placeB nB (ps[k]?.getD (0, [])).1
          · have HQ : Hid (decide (0 ≤ (ps[k]?.getD (0, [])).1 ∧ (ps[k]?.getD (0, [])).1 ≤ (nB : Int) - 1) = false) := by unfold Hid; rw [place_l1]; exact hpl
            have HF : Hid (putF bs.length (ps[k]?.getD (0, [])) = 3) := by unfold Hid; rw [HPF.out, hpl]; rfl
            clear hpl
            go_wp2_with fail
            go_quiet ((go_at_call 31; refine quiet_same2 (l1In_is (r := false) ?_); exact HQ.out))
            go_wp2
            go_ret
            exact ⟨ret_int (by rw [faultF_put HM.out HA'.out (by rw [HPL.out]; exact hlt2) HA.out (by rw [HF.out]; decide), HF.out]), m + nq, by rw [World.drewN_drewN]⟩
          · have HQ : Hid (decide (0 ≤ (ps[k]?.getD (0, [])).1 ∧ (ps[k]?.getD (0, [])).1 ≤ (nB : Int) - 1) = true) := by unfold Hid; rw [place_l1]; exact hpl
            have HF : Hid (putF bs.length (ps[k]?.getD (0, [])) = wordsF (ps[k]?.getD (0, [])).2) := by unfold Hid; rw [HPF.out, hpl]; rfl
            clear hpl
            generalize hc : wordsF (ps[k]?.getD (0, [])).2 = c at *
            have HC : Hid (wordsF (ps[k]?.getD (0, [])).2 = c) := hc
            clear hc
            go_wp2_with fail
            go_quiet ((go_at_call 31; refine quiet_same2 (l1In_is (r := true) ?_); exact HQ.out))
            by_cases hz : c = 0
            · subst hz
              go_wp2_with fail
              refine (l1Words_any (HI.out.drewN _)).mono ?_
              rw [HC.out]
              rintro e w' ⟨rfl, rfl⟩
              go_wp2
              go_roundw
              case rel =>
                refine ⟨k + 1, m + nq, by omega, by go_num, by first | rfl | rw [World.drewN_drewN], fun i hi => ?_⟩
                by_cases e : i = k
                · subst e; exact HF.out
                · exact HA.out i (by omega)
              case measure => simp [intOf]; omega
            · have hne : (c != 0) = true := by simpa using hz
              go_wp2_with fail
              refine (l1Words_any (HI.out.drewN _)).mono ?_
              rw [HC.out]
              rintro e w' ⟨rfl, rfl⟩
              go_wp2
              go_ret
              exact ⟨ret_int (by rw [faultF_put HM.out HA'.out (by rw [HPL.out]; exact hlt2) HA.out (by rw [HF.out]; exact hz), HF.out]), m + nq, by first | rfl | rw [World.drewN_drewN]⟩
        · go_wp2
          go_ret
          exact ⟨ret_int (by rw [faultF_ok HM.out HA'.out (fun i hi => HA.out i (by rw [HPL.out] at hi; omega))]), m, rfl⟩
end Go.Proofs.Ytpmndmkmfcoieaa

namespace Go.Proofs.Ytpmndmkmfcoieaa
open Go.RowKit
set_option maxRecDepth 100000

theorem newRack_any (w : World) (n : Nat) (hn : n ≤ 60) :
    Calls Try.prog 97 #[.int .i64 (n : Int)] w fun e w' => ∃ b, w.heap.size ≤ b ∧ e = .returned (.agg #[.slice (some ⟨b, 0, none⟩) n n]) ∧ Below w.heap.size w w' ∧ OwnRow w' b n (fun _ => .slice none 0 0) := by
  have hmk := fun w => run_make_row' (P := Try.prog) 22 56 (.slice none 0 0) 24 Try.underlying22 Try.infoInts rfl .i64 .i64 n (by omega) (by omega) w
  go_enter Try.func97, Try.ntmps97
  go_wp2
  refine bodyPost_ret (v := .agg #[.slice (some ⟨w.heap.size + 1, 0, none⟩) n n]) (by simp [results, Try.results97, go_sem]) rfl ⟨w.heap.size + 1, by omega, rfl, later2 _ _ _, ?_⟩
  have := OwnRow.made (w.alloc (Obj.cells #[Value.slice (some ⟨w.heap.size + 1, 0, none⟩) n n] 108)) (.slice none 0 0) n 56
  simpa using this

/-- n empty lists in one row that the call made. -/
theorem empties {w' : World} {b n : Nat} (F : Nat → Prop) (hF : F b) (hn : n ≤ 60) (h : OwnRow w' b n (fun _ => .slice none 0 0)) : IntsSO w' (.slice (some ⟨b, 0, none⟩) n n) (List.replicate n []) F := by
  refine Or.inr ⟨b, n, fun _ => .slice none 0 0, fun _ _ => False, hF, fun _ _ h => h.elim, fun _ _ _ _ h => h.elim, by simp, by unfold maxLen; simp; omega, by simpa using h, fun i hi => Or.inl ⟨?_, none, 0, rfl⟩⟩
  simp at hi
  simp [hi]

/-- The codes and the blocks of a new disk. -/
def newCode (size : Int) : Int := if 0 ≤ size ∧ size ≤ 60 then 0 else 3
def newBlocks (size : Int) : List (List Int) := if 0 ≤ size ∧ size ≤ 60 then List.replicate size.toNat [] else []

/-- A drive whose cache is empty. -/
theorem disk_nil (w : World) (bd off cap : Nat) (a ab : Option Addr) (nb cb : Nat) (h0 : w.cell? ⟨bd, off, none⟩ = some (.slice ab nb cb)) (h1 : w.cell? ⟨bd, off + 1, none⟩ = some (.slice a 0 cap)) :
    Calls Try.prog 61 #[.pointer (some ⟨bd, off, none⟩)] w fun e w' => e = .returned (.agg #[.slice ab nb cb, .slice none 0 0]) ∧ Below w.heap.size w w' := by
  have hlt := World.block_lt_of_cell? _ _ h0
  simp at hlt
  go_enter Try.func61, Try.ntmps61
  go_wp2
  go_loop [17] (fun i => i = .int .i64 0) (fun _ => 0)
  case atStart => rfl
  case round =>
    obtain rfl := hrel
    go_wp2
    exact bodyPost_ret (v := .agg #[.slice ab nb cb, .slice none 0 0]) (by simp [results, Try.results61, go_sem]) rfl ⟨rfl, later2 _ _ _⟩

theorem ans_new {w w' : World} {b n : Nat} (hn : n ≤ 60) (hb : w.heap.size ≤ b) (hbel : Below w.heap.size w w') (hr : OwnRow w' b n (fun _ => .slice none 0 0)) : AnsDisk w 0 (List.replicate n []) [] (.returned (.agg #[.int .i64 0, .slice (some ⟨b, 0, none⟩) n n, .slice none 0 0])) w' :=
  ⟨_, n, n, none, 0, 0, rfl, hbel, fun c => c = b, fun _ => False, empties _ rfl hn hr, Or.inl ⟨rfl, none, 0, rfl⟩, fun _ _ h => h.elim, fun c h => by have := hr.lt; exact h.elim (fun h => ⟨by omega, by omega⟩) False.elim⟩

end Go.Proofs.Ytpmndmkmfcoieaa

namespace Go.Proofs.Ytpmndmkmfcoieaa
open Go.RowKit
set_option maxRecDepth 100000

set_option maxHeartbeats 800000 in
theorem set_any (w : World) (br o g n cap x : Nat) (u : Nat → Value) (v : Value) (zs : List Int) (_hn : n ≤ 60) (hx : x < n) (h0 : w.cell? ⟨br, o, none⟩ = some (.slice (some ⟨g, 0, none⟩) n cap)) (hr : OwnRow w g n u) (hu : ∃ ua un uc, u x = .slice ua un uc) (hi : Ints w v zs) (hl : zs.length ≤ 1048576) :
    Calls Try.prog 90 #[.pointer (some ⟨br, o, none⟩), .int .i64 (x : Int), v] w fun e w' => e = .returned (.tuple #[]) ∧
      ∃ X, w' = X.setCell ⟨g, x, none⟩ (.slice (some ⟨w.heap.size, 0, none⟩) zs.length zs.length) ∧ Below w.heap.size w X ∧ IntsO X (.slice (some ⟨w.heap.size, 0, none⟩) zs.length zs.length) zs (fresh w X) := by
  obtain ⟨ua, un, uc, hux⟩ := hu
  have HI : Hid (Ints w v zs) := hi
  have HR : Hid (OwnRow w g n u) := hr
  have c1 := hr.cell hx
  rw [hux] at c1
  have c2 := hr.frozen x
  have HL : Hid (zs.length ≤ 1048576) := hl
  clear hi hr hl hux
  go_enter Try.func90, Try.ntmps90
  go_wp2_with fail
  go_region_with ((go_at_call 91; refine (copyOf_any ?_ HL.out).mono ?_; exact HI.out; rintro e w1 ⟨rfl, hb1, ho1⟩; have d0 := cell_later hb1 h0; have d1 := cell_later hb1 c1; have d2 := (hb1.frozen (p := ⟨g, x, none⟩) (World.block_lt_of_cell? _ _ c1)).trans c2; have HB1 : Hid (Below w.heap.size w w1) := (Below.refl _ _).drew.trans hb1; have HO1 : Hid (IntsO w1 (.slice (some ⟨w.heap.size, 0, none⟩) zs.length zs.length) zs (fresh w w1)) := ho1; clear hb1 ho1))
  all_goals
    go_wp2
    go_end0
    exact ⟨rfl, w1, rfl, HB1.out, HO1.out⟩

set_option maxHeartbeats 1600000 in
theorem rackOf_walk (w : World) (a : Option Addr) (n cap : Nat) (bs : List (List Int)) (hbl : bs.length = n) (hn : n ≤ 60) (hz : ∀ k, k < n → (bs[k]?.getD []).length ≤ 1048576) (hB : AtS w a n bs) :
    Calls Try.prog 82 #[.slice a n cap] w fun e w' => ∃ g, e = .returned (.agg #[.slice (some ⟨g, 0, none⟩) n n]) ∧ Below w.heap.size w w' ∧ IntsSO w' (.slice (some ⟨g, 0, none⟩) n n) bs (fresh w w') := by
  have HBL : Hid (bs.length = n) := hbl
  have HZ : Hid (∀ k, k < n → (bs[k]?.getD []).length ≤ 1048576) := hz
  have HB : Hid (AtS w a n bs) := hB
  clear hbl hz hB
  go_enter Try.func82, Try.ntmps82
  go_wp2_with fail
  refine (newRack_any _ n hn).mono ?_
  rintro e w1 ⟨g, hg, rfl, hb1, hr1⟩
  simp at hg
  have HB1 : Hid (Below w.heap.size w w1) := (later1 _ _).trans (hb1.mono (by simp))
  have hgl : g < w1.heap.size := hr1.lt
  have HR1 : Hid (OwnRow w1 g n (fun _ => .slice none 0 0)) := hr1
  have t0 := cell_later hb1 (show (w.alloc (Obj.cells #[Value.slice none 0 0] 108)).cell? ⟨w.heap.size, 0, none⟩ = some (.slice none 0 0) by rw [new_cell]; rfl)
  have t1 : w1.frozen? ⟨w.heap.size, 0, none⟩ = false := by rw [hb1.frozen (by simp)]; simp
  have hz1 : w.heap.size < w1.heap.size := World.block_lt_of_cell? _ _ t0
  clear hb1 hr1
  go_wp2_with fail
  go_loopw [11] (fun i wr => ∃ j : Nat, j ≤ n ∧ i = .int .i64 j ∧ Below w.heap.size w wr ∧ wr.cell? ⟨w.heap.size, 0, none⟩ = some (.slice none 0 0) ∧ wr.frozen? ⟨w.heap.size, 0, none⟩ = false ∧ wr.cell? ⟨w1.heap.size, 0, none⟩ = some (.slice (some ⟨g, 0, none⟩) n n) ∧
    ∃ u s, OwnRow wr g n (fun i => if i < j then u i else .slice none 0 0) ∧ (∀ i, i < j → ∃ ua un uc, u i = .slice ua un uc) ∧ Built wr (w1.heap.size + 1) j u (fun i => bs[i]?.getD []) s) (fun i _ => n - (intOf i).toNat)
  case atStart => exact ⟨0, Nat.zero_le _, rfl, HB1.out.trans ((later1 _ _).mono HB1.out.size), cell_later (later1 _ _) t0, by rw [(later1 w1 _).frozen (p := ⟨w.heap.size, 0, none⟩) hz1]; exact t1, by rw [new_cell]; rfl, fun _ => .slice none 0 0, _, (HR1.out.later (later1 _ _)).congr fun i _ => by simp, fun i hi => by omega, Built.nil _ _ (by simp)⟩
  case round =>
    obtain ⟨j, hj, rfl, hbl, q0, q1, q2, u, s, hrow, hsh, hbt⟩ := hrel
    have HBW : Hid (Below w.heap.size w wr) := hbl
    have HROW : Hid (OwnRow wr g n (fun i => if i < j then u i else .slice none 0 0)) := hrow
    have HBT : Hid (Built wr (w1.heap.size + 1) j u (fun i => bs[i]?.getD []) s) := hbt
    have HSH : Hid (∀ i, i < j → ∃ ua un uc, u i = .slice ua un uc) := hsh
    clear hbl hrow hbt hsh t0 t1
    by_cases hlt : j < n
    · obtain ⟨b, off, ua, ucap, e, c1, i1⟩ := HB.out j hlt
      clear HB
      subst e
      replace c1 := cell_later HBW.out c1
      have HI : Hid (Ints wr (.slice ua (bs[j]?.getD []).length ucap) (bs[j]?.getD [])) := i1.later HBW.out
      clear i1
      go_wp2_with fail
      refine (set_any wr w1.heap.size 0 g n n j _ _ (bs[j]?.getD []) hn hlt q2 HROW.out ⟨none, 0, 0, by simp⟩ HI.out (HZ.out j hlt)).mono ?_
      rintro e w2 ⟨rfl, X, rfl, hbX, hoX⟩
      have HX : Hid (Below wr.heap.size wr X) := hbX
      have HO : Hid (IntsO X (.slice (some ⟨wr.heap.size, 0, none⟩) (bs[j]?.getD []).length (bs[j]?.getD []).length) (bs[j]?.getD []) (fresh wr X)) := hoX
      clear hbX hoX
      go_wp2
      go_roundw
      case rel =>
        refine ⟨j + 1, by omega, by go_num, (HBW.out.trans (HX.out.mono HBW.out.size)).setCell (by simp; omega) _, ?_, ?_, ?_, _, _, ((HROW.out.later HX.out).set j _).congr fun i hi => ?_, fun i hi => ?_, (HBT.out.next HX.out HO.out).store (by simp; omega) _⟩
        · rw [World.cell?_of_block (w := X) (Below.heap_setCell _ _ _ _ (by simp; omega))]; exact cell_later HX.out q0
        · rw [World.frozen?_of_block (w := X) (Below.heap_setCell _ _ _ _ (by simp; omega)), HX.out.frozen (World.block_lt_of_cell? _ _ q0)]; exact q1
        · rw [World.cell?_of_block (w := X) (Below.heap_setCell _ _ _ _ (by simp; omega))]; exact cell_later HX.out q2
        · by_cases e : i = j
          · subst e; simp
          · by_cases e2 : i < j
            · simp [e, e2, show i < j + 1 by omega]
            · simp [e, e2, show ¬ i < j + 1 by omega]
        · by_cases e : i = j
          · subst e; exact ⟨_, _, _, by simp; exact ⟨rfl, rfl, rfl⟩⟩
          · obtain ⟨a1, a2, a3, h⟩ := HSH.out i (by omega)
            exact ⟨a1, a2, a3, by simp [e, h]⟩
      case measure => simp [intOf]; omega
    · go_wp2
      have e : j = n := by omega
      subst e
      refine bodyPost_ret (v := .agg #[.slice (some ⟨g, 0, none⟩) j j]) (by simp [results, Try.results82, go_sem, q0]) rfl ⟨g, rfl, HBW.out.setCell (Nat.le_refl _) _, ?_⟩
      have hB' := HBT.out.store (p := ⟨w.heap.size, 0, none⟩) (by simp; omega) (.slice (some ⟨g, 0, none⟩) j j)
      have hR' := (HROW.out.congr (g := u) fun i hi => by simp [hi]).store (p := ⟨w.heap.size, 0, none⟩) (by simp; omega) (.slice (some ⟨g, 0, none⟩) j j)
      exact hB'.ints bs HBL.out (fun _ _ => rfl) (by unfold maxLen; omega) (by omega) hR' _ ⟨by omega, hR'.lt⟩ (fun c h1 h2 => ⟨by omega, h2⟩)
end Go.Proofs.Ytpmndmkmfcoieaa

namespace Go.Proofs.Ytpmndmkmfcoieaa
open Go.RowKit
set_option maxRecDepth 100000

/-- The cache of a drive: a row of pointers to puts, each with a list of its own. -/
structure Cache (w : World) (base : Nat) (v : Value) (n : Nat) (f : Nat → Int × List Int) (pb k : Nat → Nat) (u : Nat → Value) : Prop where
  own : w.ownsRow base 116 1 v n ((List.range n).map fun i => Value.pointer (some ⟨pb i, 0, none⟩))
  lo : ∀ i, i < n → base ≤ pb i ∧ base ≤ k i ∧ k i < w.heap.size
  ne : ∀ i, i < n → v.ownBlock ≠ some (pb i) ∧ v.ownBlock ≠ some (k i)
  inj : ∀ i j, i < n → j < n → i ≠ j → k i ≠ k j
  box : ∀ i, i < n → OwnRow w (pb i) 2 (fun c => if c = 0 then .int .i64 (f i).1 else u i)
  sh : ∀ i, i < n → ∃ a c, u i = .slice a (f i).2.length c
  at' : ∀ i, i < n → IntsO w (u i) (f i).2 (fun c => c = k i)

theorem Cache.nil (w : World) (base : Nat) (f : Nat → Int × List Int) : Cache w base (.slice none 0 0) 0 f (fun _ => 0) (fun _ => 0) (fun _ => .slice none 0 0) :=
  ⟨World.ownsRow_nil _ _ _ _, fun i hi => by omega, fun i hi => by omega, fun i j hi => by omega, fun i hi => by omega, fun i hi => by omega, fun i hi => by omega⟩
/-- What turns no block from base on leaves the cache. -/
theorem Cache.keep {w w' : World} {base n : Nat} {v : Value} {f : Nat → Int × List Int} {pb k : Nat → Nat} {u : Nat → Value} (h : Cache w base v n f pb k u) (hs : w.heap.size ≤ w'.heap.size) (e : ∀ b, base ≤ b → b < w.heap.size → w'.heap[b]? = w.heap[b]?) : Cache w' base v n f pb k u := by
  refine ⟨?_, fun i hi => ⟨(h.lo i hi).1, (h.lo i hi).2.1, Nat.lt_of_lt_of_le (h.lo i hi).2.2 hs⟩, h.ne, h.inj, fun i hi => (h.box i hi).block (e _ (h.lo i hi).1 (h.box i hi).lt), h.sh, fun i hi => (h.at' i hi).keep fun b hb hlt => e b (by rw [hb]; exact (h.lo i hi).2.1) hlt⟩
  obtain ⟨h1, h2⟩ := h.own
  refine ⟨h1, ?_⟩
  rcases h2 with h2 | ⟨g, cap, cur, hv, hg, hh, r⟩
  · exact Or.inl h2
  · exact Or.inr ⟨g, cap, cur, hv, hg, by rw [e g hg (Array.getElem?_eq_some_iff.1 hh).1]; exact hh, r⟩
theorem Cache.later {w w' : World} {base n : Nat} {v : Value} {f : Nat → Int × List Int} {pb k : Nat → Nat} {u : Nat → Value} (h : Cache w base v n f pb k u) (hb : Below w.heap.size w w') : Cache w' base v n f pb k u :=
  h.keep hb.size fun b _ hlt => hb.block b hlt
theorem Cache.store {w : World} {base n : Nat} {v : Value} {f : Nat → Int × List Int} {pb k : Nat → Nat} {u : Nat → Value} (h : Cache w base v n f pb k u) {p : Addr} (hp : p.block < base) (x : Value) : Cache (w.setCell p x) base v n f pb k u :=
  h.keep (by simp [World.setCell]) fun b hb _ => Below.heap_setCell _ _ _ _ (by omega)
theorem Cache.shape {w : World} {base n : Nat} {v : Value} {f : Nat → Int × List Int} {pb k : Nat → Nat} {u : Nat → Value} (h : Cache w base v n f pb k u) : ∃ a c, v = .slice a n c := by
  rcases h.own.2 with ⟨rfl, rfl⟩ | ⟨g, c, cur, rfl, _⟩
  · exact ⟨_, _, rfl⟩
  · exact ⟨_, _, rfl⟩

theorem Try.infoPtr : (Try.prog.info? 116).map (fun i => (i.zero, i.size, i.bytes)) = some (some (.pointer none), 1, 8) := by kernel_rfl
theorem Try.infoPtr' : ∃ i, Try.prog.info? 116 = some i ∧ i.zero = some (.pointer none) ∧ i.size = 1 ∧ i.bytes = 8 := by
  obtain ⟨i, hi, h⟩ := Option.map_eq_some_iff.1 Try.infoPtr
  simp only [Prod.mk.injEq] at h
  exact ⟨i, hi, h.1, h.2.1, h.2.2⟩

/-- One put more, behind the cache: what 'append' comes to there. -/
theorem cache_append (w w1 : World) (ty : TypeId) (base n : Nat) (v : Value) (f : Nat → Int × List Int) (pb k : Nat → Nat) (u : Nat → Value) (h : Cache w base v n f pb k u) (hb : base ≤ w.heap.size) (hn : n ≤ 100000) (hb1 : Below w.heap.size w w1) (hlt : w.heap.size < w1.heap.size)
    (a : Option Addr) (c : Nat) (hf : IntsO w1 (.slice a (f n).2.length c) (f n).2 (fresh w w1)) :
    ∃ g cap X pb' k' u', (Builtin.append_ #[110, 110] ty #[v, .slice (some ⟨w1.heap.size + 1, 0, none⟩) 1 1]).run Try.prog ((w1.alloc (.cells #[.int .i64 (f n).1, .slice a (f n).2.length c] 72)).alloc (.cells #[.pointer (some ⟨w1.heap.size, 0, none⟩)] 116)) = .ok (.slice (some ⟨g, 0, none⟩) (n + 1) cap) X ∧
      Below base w X ∧ Cache X base (.slice (some ⟨g, 0, none⟩) (n + 1) cap) (n + 1) f pb' k' u' := by
  obtain ⟨i, hi, h1, h2, h3⟩ := Try.infoPtr'
  have hbW : Below w.heap.size w ((w1.alloc (.cells #[.int .i64 (f n).1, .slice a (f n).2.length c] 72)).alloc (.cells #[.pointer (some ⟨w1.heap.size, 0, none⟩)] 116)) := hb1.trans ((later2 _ _ _).mono hb1.size)
  have hW := h.later hbW
  obtain ⟨g, cap, X, hr, ho, hg, hat, hgX⟩ := run_append_lies (P := Try.prog) ((w1.alloc (.cells #[.int .i64 (f n).1, .slice a (f n).2.length c] 72)).alloc (.cells #[.pointer (some ⟨w1.heap.size, 0, none⟩)] 116)) 110 ty base 116 i (.pointer none) 1 8 Try.underlying110 hi h1 h2 h3 rfl (by decide) v n _ hW.own ⟨w1.heap.size + 1, 0, none⟩ 1 1 [.pointer (some ⟨w1.heap.size, 0, none⟩)] rfl
    (fun j x hx => by
      cases j with
      | zero =>
        simp at hx; subst hx
        simp [Addr.add]
      | succ j => simp at hx) (fun x hx => by simp at hx; subst hx; rfl) (by decide) (by unfold maxLen; omega) (by omega) (by have := hb1.size; simp; omega) (w1.heap.size + 2) (by simp)
  have hsz1 := hb1.size
  have hrow : ∀ g, v.ownBlock = some g → g < w.heap.size := fun g hg => (h.own.lt g hg).2
  have hrowb : ∀ g, v.ownBlock = some g → base ≤ g := fun g hg => (h.own.lt g hg).1
  have hXb : ∀ b, b < w1.heap.size + 2 → v.ownBlock ≠ some b → X.heap[b]? = ((w1.alloc (.cells #[.int .i64 (f n).1, .slice a (f n).2.length c] 72)).alloc (.cells #[.pointer (some ⟨w1.heap.size, 0, none⟩)] 116)).heap[b]? := fun b hb' hne => hg.block b (by simp; omega) (fun e => hne e.symm)
  have hXs : w1.heap.size + 2 ≤ X.heap.size := by have := hg.size; simp at this; omega
  have hBX : Below base w X := (hbW.mono hb).trans (below_grown hg (by simp; omega) (fun g hg' => hrowb g hg'))
  obtain ⟨kb, hkb1, hkb2, hkf⟩ : ∃ kb, w.heap.size ≤ kb ∧ kb < w1.heap.size ∧ IntsO w1 (.slice a (f n).2.length c) (f n).2 (fun c => c = kb) := by
    rcases hf with hf | ⟨b, cap, hF, r⟩
    · exact ⟨w.heap.size, Nat.le_refl _, hlt, Or.inl hf⟩
    · exact ⟨b, hF.1, hF.2, Or.inr ⟨b, cap, rfl, r⟩⟩
  -- g is the elder row, or a block behind all others
  have hne : ∀ b, b < w1.heap.size + 2 → v.ownBlock ≠ some b → g ≠ b := by
    intro b hb' hb2 e
    subst e
    rcases hat with h | h
    · exact hb2 h
    · omega
  have hfar : ∀ b, w.heap.size ≤ b → v.ownBlock ≠ some b := fun b hb' e => by have := hrow b e; omega
  have old : ∀ b, b < w.heap.size → v.ownBlock ≠ some b → X.heap[b]? = w.heap[b]? := fun b hb' hne => (hXb b (by omega) hne).trans (hbW.block b hb')
  refine ⟨g, cap, X, fun j => if j = n then w1.heap.size else pb j, fun j => if j = n then kb else k j, fun j => if j = n then .slice a (f n).2.length c else u j, hr, hBX, ⟨?_, fun j hj => ?_, fun j hj => ?_, fun j j' hj hj' e => ?_, fun j hj => ?_, fun j hj => ?_, fun j hj => ?_⟩⟩
  · rw [List.range_succ, List.map_append]
    have e1 : (List.range n).map (fun i => Value.pointer (some ⟨if i = n then w1.heap.size else pb i, 0, none⟩)) = (List.range n).map (fun i => Value.pointer (some ⟨pb i, 0, none⟩)) :=
      List.map_congr_left fun i hi => by simp [show i ≠ n by have := List.mem_range.1 hi; omega]
    rw [e1]
    simpa using ho
  · by_cases e : j = n
    · subst e; simp; omega
    · have := h.lo j (by omega); simp [e]; omega
  · by_cases e : j = n
    · subst e
      simp only [if_true]
      exact ⟨fun e => hne w1.heap.size (by omega) (hfar _ hsz1) (by simpa [Value.ownBlock] using e), fun e => hne kb (by omega) (hfar _ hkb1) (by simpa [Value.ownBlock] using e)⟩
    · have hj' : j < n := by omega
      have hl := h.lo j hj'
      have hb2 := (h.box j hj').lt
      simp only [e, if_false]
      exact ⟨fun e => hne (pb j) (by omega) (h.ne j hj').1 (by simpa [Value.ownBlock] using e), fun e => hne (k j) (by omega) (h.ne j hj').2 (by simpa [Value.ownBlock] using e)⟩
  · by_cases e1 : j = n
    · by_cases e2 : j' = n
      · omega
      · have := (h.lo j' (by omega)).2.2
        simp [e1, e2]; omega
    · by_cases e2 : j' = n
      · have := (h.lo j (by omega)).2.2
        simp [e1, e2]; omega
      · simp [e1, e2]; exact h.inj j j' (by omega) (by omega) e
  · by_cases e : j = n
    · subst e
      simp only [if_true]
      have hb2 := (OwnRow.two w1 (.int .i64 (f j).1) (.slice a (f j).2.length c) 72).later (later1 _ (.cells #[.pointer (some ⟨w1.heap.size, 0, none⟩)] 116))
      exact hb2.block (hXb _ (by omega) (hfar _ (by omega)))
    · have hj' : j < n := by omega
      simp only [e, if_false]
      exact (h.box j hj').block (old _ (h.box j hj').lt (h.ne j hj').1)
  · by_cases e : j = n
    · subst e; exact ⟨a, c, by simp⟩
    · simp only [e, if_false]; exact h.sh j (by omega)
  · by_cases e : j = n
    · subst e
      simp only [if_true]
      exact hkf.keep fun b hb' hlt' => by
        rw [hb', hXb kb (by omega) (hfar _ hkb1)]
        exact (later2 _ _ _).block kb hkb2
    · have hj' : j < n := by omega
      simp only [e, if_false]
      exact (h.at' j hj').keep fun b hb' hlt' => by rw [hb']; exact old _ (h.lo j hj').2.2 (h.ne j hj').2

set_option maxHeartbeats 1600000 in
theorem put_any (w : World) (bd base n : Nat) (vB : Value) (a : Option Addr) (cap : Nat) (f : Nat → Int × List Int) (pb k : Nat → Nat) (u : Nat → Value) (hbd : bd < base) (hb : base ≤ w.heap.size) (hn : n ≤ 100000) (hd : OwnRow w bd 2 (fun c => if c = 0 then vB else .slice a n cap)) (hc : Cache w base (.slice a n cap) n f pb k u)
    (v : Value) (hv : Ints w v (f n).2) (hl : (f n).2.length ≤ 1048576) :
    Calls Try.prog 83 #[.pointer (some ⟨bd, 0, none⟩), .int .i64 (f n).1, v] w fun e w' => e = .returned (.tuple #[]) ∧ ∃ X g c' pb' k' u', w' = X.setCell ⟨bd, 1, none⟩ (.slice (some ⟨g, 0, none⟩) (n + 1) c') ∧ Below base w X ∧ Cache X base (.slice (some ⟨g, 0, none⟩) (n + 1) c') (n + 1) f pb' k' u' := by
  have HV : Hid (Ints w v (f n).2) := hv
  have HL : Hid ((f n).2.length ≤ 1048576) := hl
  have HC : Hid (Cache w base (.slice a n cap) n f pb k u) := hc
  have d0 := hd.cell (i := 1) (by omega)
  have d1 := hd.frozen 1
  simp at d0
  have hlt : bd < w.heap.size := hd.lt
  clear hv hl hc hd
  go_enter Try.func83, Try.ntmps83
  go_wp2_with fail
  go_region_law (first
    | (refine step_append_run rfl _ _ 110 rfl _ _ rfl rfl _ _ HR.out ?_)
    | (go_simp; go_at_call 91; refine (copyOf_more ?_ HL.out).mono ?_; exact HV.out; rintro e w1 ⟨rfl, hb1, ho1, hs1⟩; obtain ⟨g, cap', X, pb', k', u', hr, hBX, hCX⟩ := cache_append w w1 110 base n _ f pb k u HC.out hb hn ((Below.refl _ _).drew.trans hb1) hs1 _ _ ho1; have y1 : ∀ o, (w1.alloc o).cell? ⟨bd, 1, none⟩ = some (.slice a n cap) := fun o => cell_later ((hb1.trans ((later1 w1 o).mono hb1.size))) d0; have y2 : ∀ o o', ((w1.alloc o).alloc o').cell? ⟨bd, 1, none⟩ = some (.slice a n cap) := fun o o' => cell_later ((hb1.trans ((later2 w1 o o').mono hb1.size))) d0; have z0 := cell_later hb1 d0; have z1 := (hb1.frozen (p := ⟨bd, 1, none⟩) hlt).trans d1; have HR : Hid (_ = _) := hr; have HBX : Hid (Below base w X) := hBX; have HCX : Hid (Cache X base (.slice (some ⟨g, 0, none⟩) (n + 1) cap') (n + 1) f pb' k' u') := hCX; have x0 : X.cell? ⟨bd, 1, none⟩ = some (.slice a n cap) := (hBX.cell (p := ⟨bd, 1, none⟩) hbd).trans d0; have x1 : X.frozen? ⟨bd, 1, none⟩ = false := (hBX.frozen (p := ⟨bd, 1, none⟩) hbd).trans d1; clear hr hBX hCX hb1 ho1 hs1))
  all_goals
    go_wp2
    go_end0
    exact ⟨rfl, X, g, cap', pb', k', u', rfl, HBX.out, HCX.out⟩

/-- A drive that was opened: its blocks and its cache in new memory, the cache behind the drive itself. -/
structure Drive (w w' : World) (bd : Nat) (aB : Option Addr) (nB cB : Nat) (aP : Option Addr) (nP cP : Nat) (bs : List (List Int)) (ps : List (Int × List Int)) (pb k : Nat → Nat) (u : Nat → Value) : Prop where
  below : Below w.heap.size w w'
  lo : w.heap.size ≤ bd
  row : OwnRow w' bd 2 (fun c => if c = 0 then .slice aB nB cB else .slice aP nP cP)
  blocks : IntsSO w' (.slice aB nB cB) bs (fun c => w.heap.size ≤ c ∧ c < bd)
  cache : Cache w' (bd + 1) (.slice aP nP cP) nP (fun i => ps[i]?.getD (0, [])) pb k u

set_option maxHeartbeats 1600000 in
theorem openDisk_walk (w : World) (aB aC : Option Addr) (nB cB nC cC : Nat) (bs : List (List Int)) (ps : List (Int × List Int)) (hbl : bs.length = nB) (hpl : ps.length = nC) (g1 : nB ≤ 60) (g2 : nC ≤ 200) (hz : ∀ k, k < nB → (bs[k]?.getD []).length ≤ 1048576) (hzp : ∀ k, k < nC → (ps[k]?.getD (0, [])).2.length ≤ 1048576) (hB : AtS w aB nB bs) (hP : AtP w aC nC ps) :
    Calls Try.prog 59 #[.agg #[.slice aB nB cB, .slice aC nC cC]] w fun e w' => ∃ bd g aP cP pb k u, e = .returned (.pointer (some ⟨bd, 0, none⟩)) ∧ Drive w w' bd (some ⟨g, 0, none⟩) nB nB aP nC cP bs ps pb k u := by
  have HBL : Hid (bs.length = nB) := hbl
  have HPL : Hid (ps.length = nC) := hpl
  have HZ : Hid (∀ k, k < nB → (bs[k]?.getD []).length ≤ 1048576) := hz
  have HZP : Hid (∀ k, k < nC → (ps[k]?.getD (0, [])).2.length ≤ 1048576) := hzp
  have HB : Hid (AtS w aB nB bs) := hB
  have HP : Hid (AtP w aC nC ps) := hP
  clear hbl hpl hz hzp hB hP
  go_enter Try.func59, Try.ntmps59
  go_wp2_with fail
  refine (rackOf_walk _ aB nB cB bs HBL.out g1 HZ.out (HB.out.later (later1 _ _))).mono ?_
  rintro e w1 ⟨g, rfl, hb1, ho1⟩
  have HW1 : Hid (Below w.heap.size w w1) := (later1 _ _).trans (hb1.mono (by simp))
  have HX1 : Hid (Box2 w1 w.heap.size (.slice aB nB cB) (.slice aC nC cC)) := (Box2.new _ _ _ _).later hb1
  have HO1 : Hid (IntsSO w1 (.slice (some ⟨g, 0, none⟩) nB nB) bs (fun c => w.heap.size ≤ c ∧ c < w1.heap.size)) := ho1.mono fun b hb => ⟨by have := hb.1; simp at this; omega, hb.2⟩
  have hz1 : w.heap.size < w1.heap.size := by have := hb1.size; simp at this; omega
  clear hb1 ho1
  obtain ⟨x0, x1⟩ := HX1.out
  go_wp2_with fail
  go_loopw [14] (fun i wr => ∃ j : Nat, j ≤ nC ∧ i = .int .i64 j ∧ Below w.heap.size w wr ∧ w1.heap.size + 1 ≤ wr.heap.size ∧ IntsSO wr (.slice (some ⟨g, 0, none⟩) nB nB) bs (fun c => w.heap.size ≤ c ∧ c < w1.heap.size) ∧
    ∃ aP cP pb k u, OwnRow wr w1.heap.size 2 (fun c => if c = 0 then .slice (some ⟨g, 0, none⟩) nB nB else .slice aP j cP) ∧ Cache wr (w1.heap.size + 1) (.slice aP j cP) j (fun i => ps[i]?.getD (0, [])) pb k u) (fun i _ => nC - (intOf i).toNat)
  case atStart =>
    refine ⟨0, Nat.zero_le _, rfl, HW1.out.trans ((later1 _ _).mono HW1.out.size), by simp, HO1.out.keep fun b hb hlt => (later1 _ _).block b hlt, none, 0, _, _, _, OwnRow.two _ _ _ _, Cache.nil _ _ _⟩
  case round =>
    obtain ⟨j, hj, rfl, hbw, hsz, hio, aP, cP, pb, k, u, hrow, hca⟩ := hrel
    have HBW : Hid (Below w.heap.size w wr) := hbw
    have HIO : Hid (IntsSO wr (.slice (some ⟨g, 0, none⟩) nB nB) bs (fun c => w.heap.size ≤ c ∧ c < w1.heap.size)) := hio
    have HROW : Hid (OwnRow wr w1.heap.size 2 (fun c => if c = 0 then .slice (some ⟨g, 0, none⟩) nB nB else .slice aP j cP)) := hrow
    have HCA : Hid (Cache wr (w1.heap.size + 1) (.slice aP j cP) j (fun i => ps[i]?.getD (0, [])) pb k u) := hca
    clear hbw hio hrow hca x0 x1
    by_cases hlt : j < nC
    · obtain ⟨b, off, ua, ucap, e, c1, c2, i1⟩ := HP.out j hlt
      clear HP
      subst e
      replace c1 := cell_later HBW.out c1
      replace c2 := cell_later HBW.out c2
      have HI : Hid (Ints wr (.slice ua (ps[j]?.getD (0, [])).2.length ucap) (ps[j]?.getD (0, [])).2) := i1.later HBW.out
      clear i1
      go_wp2_with fail
      refine (put_any _ w1.heap.size (w1.heap.size + 1) j _ aP cP (fun i => ps[i]?.getD (0, [])) pb k u (Nat.lt_succ_self _) (by simp; omega) (by omega) (HROW.out.later (later1 _ _)) (HCA.out.later (later1 _ _)) _ (HI.out.later (later1 _ _)) (HZP.out j hlt)).mono ?_
      rintro e w2 ⟨rfl, X, g2, c', pb', k', u', rfl, hbX, hcX⟩
      have HX : Hid (Below (w1.heap.size + 1) wr X) := ((later1 _ _).mono hsz).trans hbX
      have HCX : Hid (Cache X (w1.heap.size + 1) (.slice (some ⟨g2, 0, none⟩) (j + 1) c') (j + 1) (fun i => ps[i]?.getD (0, [])) pb' k' u') := hcX
      clear hbX hcX
      go_wp2
      go_roundw
      case rel =>
        refine ⟨j + 1, by omega, by go_num, (HBW.out.trans (HX.out.mono (by omega))).setCell (by simp; omega) _, ?_, ?_, some ⟨g2, 0, none⟩, c', pb', k', u', ?_, HCX.out.store (by simp) _⟩
        · have := HX.out.size; simp [World.setCell]; omega
        · exact (HIO.out.keep fun b hb hlt => HX.out.block b (by omega)).store (fun b hb => by simp; omega) _
        · refine ((HROW.out.block (HX.out.block _ (by omega))).set 1 _).congr fun c hc => ?_
          have : c = 0 ∨ c = 1 := by omega
          rcases this with rfl | rfl <;> simp
      case measure => simp [intOf]; omega
    · go_wp2
      go_ret
      have e : j = nC := by omega
      subst e
      exact ⟨w1.heap.size, g, aP, cP, pb, k, u, rfl, HBW.out, by omega, HROW.out, HIO.out, HCA.out⟩
end Go.Proofs.Ytpmndmkmfcoieaa

namespace Go.Proofs.Ytpmndmkmfcoieaa
open Go.RowKit
set_option maxRecDepth 100000

theorem Try.infoPut' : ∃ i, Try.prog.info? 72 = some i ∧ i.zero = some (.agg #[.int .i64 0, .slice none 0 0]) ∧ i.size = 2 ∧ i.bytes = 32 := by
  obtain ⟨i, hi, h⟩ := Option.map_eq_some_iff.1 Try.infoPut
  simp only [Prod.mk.injEq] at h
  exact ⟨i, hi, h.1, h.2.1, h.2.2⟩
theorem Try.infoInts' : ∃ i, Try.prog.info? 56 = some i ∧ i.zero = some (.slice none 0 0) ∧ i.size = 1 ∧ i.bytes = 24 := by
  obtain ⟨i, hi, h⟩ := Option.map_eq_some_iff.1 Try.infoInts
  simp only [Prod.mk.injEq] at h
  exact ⟨i, hi, h.1, h.2.1, h.2.2⟩
theorem upd_nat (k : Nat → Nat) (n : Nat) : (fun j => if j = n then k n else k j) = k := by
  funext j; by_cases h : j = n
  · simp [h]
  · simp [h]
theorem upd_val (k : Nat → Value) (n : Nat) : (fun j => if j = n then k n else k j) = k := by
  funext j; by_cases h : j = n
  · simp [h]
  · simp [h]

/-- Where the pointer to put i lies, and the put itself. -/
theorem Cache.ptr {w : World} {base n c : Nat} {a : Option Addr} {f : Nat → Int × List Int} {pb k : Nat → Nat} {u : Nat → Value} (h : Cache w base (.slice a n c) n f pb k u) {i : Nat} (hi : i < n) :
    ∃ g ua uc, a = some ⟨g, 0, none⟩ ∧ w.cell? ⟨g, i, none⟩ = some (.pointer (some ⟨pb i, 0, none⟩)) ∧ w.cell? ⟨pb i, 0, none⟩ = some (.int .i64 (f i).1) ∧ w.cell? ⟨pb i, 1, none⟩ = some (.slice ua (f i).2.length uc) ∧ u i = .slice ua (f i).2.length uc := by
  obtain ⟨g, cap, e, _, _, _, hrow⟩ := ownsRow_row h.own (by omega)
  simp only [Value.slice.injEq, true_and] at e
  obtain ⟨ua, uc, hu⟩ := h.sh i hi
  have hb := h.box i hi
  have b0 := hb.cell (i := 0) (by omega)
  have b1 := hb.cell (i := 1) (by omega)
  simp at b0 b1
  rw [hu] at b1
  refine ⟨g, ua, uc, e.1, ?_, b0, b1, hu⟩
  rw [hrow.cell hi]
  simp [hi]

theorem ownsRow_le {w : World} {base base' : Nat} {e : TypeId} {size : Nat} {v : Value} {n : Nat} {xs : List Value} (h : w.ownsRow base e size v n xs) (hb : base' ≤ base) : w.ownsRow base' e size v n xs := by
  obtain ⟨h1, h2⟩ := h
  refine ⟨h1, ?_⟩
  rcases h2 with h2 | ⟨g, cap, cur, hv, hg, r⟩
  · exact Or.inl h2
  · exact Or.inr ⟨g, cap, cur, hv, by omega, r⟩

set_option maxHeartbeats 3200000 in
theorem disk_any (w : World) (bd base n : Nat) (aB : Option Addr) (nB cB : Nat) (aP : Option Addr) (cP : Nat) (f : Nat → Int × List Int) (pb k : Nat → Nat) (u : Nat → Value) (hn : n ≤ 1000) (hd : OwnRow w bd 2 (fun c => if c = 0 then .slice aB nB cB else .slice aP n cP)) (hc : Cache w base (.slice aP n cP) n f pb k u) :
    Calls Try.prog 61 #[.pointer (some ⟨bd, 0, none⟩)] w fun e w' => ∃ aC cC, e = .returned (.agg #[.slice aB nB cB, .slice aC n cC]) ∧ Below w.heap.size w w' ∧ LRow (C2 fun i => (f i).1) w' w.heap.size base 72 2 (.slice aC n cC) n (fun i => (f i).2) k u := by
  have HC : Hid (Cache w base (.slice aP n cP) n f pb k u) := hc
  have d0 := hd.cell (i := 0) (by omega)
  have d1 := hd.cell (i := 1) (by omega)
  simp at d0 d1
  have hlt : bd < w.heap.size := hd.lt
  clear hd hc
  obtain ⟨ti, hi, h1, h2, h3⟩ := Try.infoPut'
  have HI : Hid (Try.prog.info? 72 = some ti ∧ ti.zero = some (.agg #[.int .i64 0, .slice none 0 0]) ∧ ti.size = 2 ∧ ti.bytes = 32) := ⟨hi, h1, h2, h3⟩
  clear hi h1 h2 h3
  go_enter Try.func61, Try.ntmps61
  go_wp2_with fail
  go_loopw [17] (fun i wr => ∃ j : Nat, j ≤ n ∧ i = .int .i64 j ∧ Below w.heap.size w wr ∧ w.heap.size + 2 ≤ wr.heap.size ∧ OwnRow wr w.heap.size 2 (fun c => if c = 0 then .slice none 0 0 else .slice none 0 0) ∧
    ∃ aC cC, OwnRow wr (w.heap.size + 1) 2 (fun c => if c = 0 then .slice aB nB cB else .slice aC j cC) ∧ LRow (C2 fun i => (f i).1) wr (w.heap.size + 2) base 72 2 (.slice aC j cC) j (fun i => (f i).2) k u) (fun i _ => n - (intOf i).toNat)
  case atStart =>
    refine ⟨0, Nat.zero_le _, rfl, later2 _ _ _, by simp, (OwnRow.two w _ _ _).later (later1 _ _), none, 0, by simpa using OwnRow.two (w.alloc (.cells #[.slice none 0 0, .slice none 0 0] 30)) (.slice aB nB cB) (.slice none 0 0) 30, ?_⟩
    exact ⟨World.ownsRow_nil _ _ _ _, fun i hi => by omega, fun i hi => by omega, fun i j hi => by omega, fun i hi => by omega, fun i hi => by omega⟩
  case round =>
    obtain ⟨j, hj, rfl, hbw, hsz, hres, aC, cC, hrow, hlr⟩ := hrel
    have HBW : Hid (Below w.heap.size w wr) := hbw
    have HRES : Hid (OwnRow wr w.heap.size 2 (fun c => if c = 0 then .slice none 0 0 else .slice none 0 0)) := hres
    have HROW : Hid (OwnRow wr (w.heap.size + 1) 2 (fun c => if c = 0 then .slice aB nB cB else .slice aC j cC)) := hrow
    have HLR : Hid (LRow (C2 fun i => (f i).1) wr (w.heap.size + 2) base 72 2 (.slice aC j cC) j (fun i => (f i).2) k u) := hlr
    clear hbw hres hrow hlr
    by_cases hjn : j < n
    · obtain ⟨g, ua, uc, e, p0, p1, p2, hu⟩ := HC.out.ptr hjn
      subst e
      replace p0 := cell_later HBW.out p0
      replace p1 := cell_later HBW.out p1
      replace p2 := cell_later HBW.out p2
      have hat := (HC.out.at' j hjn).keep (w' := wr.drew) fun b hb hl => by rw [hb]; exact HBW.out.block _ (HC.out.lo j hjn).2.2
      rw [hu] at hat
      obtain ⟨hi, h1, h2, h3⟩ := HI.out
      have hklt := (HC.out.lo j hjn).2.2
      have hap := LRow.append wr wr.drew 28 28 72 ti _ 2 32 Try.underlying28 hi h1 h2 h3 rfl (by decide) (by decide) (w.heap.size + 2) base j _ _ k u HLR.out hsz (by omega) (Below.refl _ _).drew ua uc rfl (fun x hx => by simp [C2] at hx; rcases hx with rfl | rfl <;> rfl) (k j) (HC.out.lo j hjn).2.1 (by show k j < wr.heap.size; have := HBW.out.size; omega)
        (fun e => by have := (HLR.out.own.lt _ e).1; omega) (fun i hi => HC.out.inj i j (by omega) hjn (by omega)) hat
      rw [← hu, upd_nat, upd_val] at hap
      obtain ⟨g2, cap2, X, hr, hXb, hBX, hXs, hLX⟩ := hap
      rw [hu] at hr
      have HR : Hid (_ = _) := hr
      have HBX : Hid (Below (w.heap.size + 2) wr X) := hBX
      have HLX : Hid (LRow (C2 fun i => (f i).1) X (w.heap.size + 2) base 72 2 (.slice (some ⟨g2, 0, none⟩) (j + 1) cap2) (j + 1) (fun i => (f i).2) k u) := hLX
      have HROWX : Hid (OwnRow X (w.heap.size + 1) 2 (fun c => if c = 0 then .slice aB nB cB else .slice aC j cC)) := HROW.out.block (hBX.block _ (by omega))
      have HRESX : Hid (OwnRow X w.heap.size 2 (fun c => if c = 0 then .slice none 0 0 else .slice none 0 0)) := HRES.out.block (hBX.block _ (by omega))
      have q1 := HROW.out.cell (i := 1) (by omega)
      have x1 := HROWX.out.cell (i := 1) (by omega)
      have x2 := HROWX.out.frozen 1
      have hbig : w.heap.size + 1 < wr.heap.size := by omega
      simp at q1 x1
      clear hr hXb hBX hLX hat hi h1 h2 h3 hu hXs
      go_wp2_with fail
      go_region_law (refine step_append_run rfl _ _ 28 rfl _ _ rfl rfl _ _ HR.out ?_)
      all_goals
        go_wp2
        go_roundw
        case rel =>
          refine ⟨j + 1, by omega, by go_num, (HBW.out.trans (HBX.out.mono (by omega))).setCell (by simp) _, ?_, HRESX.out.store (by simp) _, some ⟨g2, 0, none⟩, cap2, (HROWX.out.set 1 _).congr fun c hc => ?_, HLX.out.keep (by simp [World.setCell]) (fun g hg => Below.heap_setCell _ _ _ _ (by have := (HLX.out.own.lt g hg).1; simp; omega)) (fun i hi => Below.heap_setCell _ _ _ _ (by have := (HC.out.lo i (by omega)).2.2; simp; omega))⟩
          · have := HBX.out.size; simp [World.setCell]; omega
          · have : c = 0 ∨ c = 1 := by omega
            rcases this with rfl | rfl <;> simp
        case measure => simp [intOf]; omega
    · have q0 := HROW.out.cell (i := 0) (by omega)
      have q1 := HROW.out.cell (i := 1) (by omega)
      have r0 := HRES.out.cell (i := 0) (by omega)
      have r1 := HRES.out.cell (i := 1) (by omega)
      have r2 := HRES.out.frozen 0
      have r3 := HRES.out.frozen 1
      simp at q0 q1 r0 r1
      have e : j = n := by omega
      subst e
      go_wp2
      refine bodyPost_ret (v := .agg #[.slice aB nB cB, .slice aC j cC]) (by simp [results, Try.results61, go_sem, r0, r1]) rfl ⟨aC, cC, rfl, (HBW.out.setCell (Nat.le_refl _) _).setCell (Nat.le_refl _) _, ?_⟩
      have h := HLR.out.keep (w' := (wr.setCell ⟨w.heap.size, 0, none⟩ (.slice aB nB cB)).setCell ⟨w.heap.size, 1, none⟩ (.slice aC j cC)) (by simp [World.setCell]) (fun g hg => (Below.heap_setCell _ _ _ _ (by have := (HLR.out.own.lt g hg).1; simp; omega)).trans (Below.heap_setCell _ _ _ _ (by have := (HLR.out.own.lt g hg).1; simp; omega))) (fun i hi => (Below.heap_setCell _ _ _ _ (by have := (HC.out.lo i hi).2.2; simp; omega)).trans (Below.heap_setCell _ _ _ _ (by have := (HC.out.lo i hi).2.2; simp; omega)))
      exact ⟨ownsRow_le h.own (by omega), h.lo, h.ne, h.inj, h.sh, h.at'⟩
end Go.Proofs.Ytpmndmkmfcoieaa

namespace Go.Proofs.Ytpmndmkmfcoieaa
open Go.RowKit
set_option maxRecDepth 100000

/-- The copy of a put's words, and what appending that put comes to: in one contract. -/
theorem l1Ints_put (wr : World) (S q : Nat) (v uv : Value) (f : Nat → Int × List Int) (k : Nat → Nat) (u : Nat → Value) (hLR : LRow (C2 fun i => (f i).1) wr S S 72 2 v q (fun i => (f i).2) k u) (hsq : S ≤ wr.heap.size) (hq : q ≤ 100000) (hi : Ints wr uv (f q).2) (hl : (f q).2.length ≤ 1048576) :
    Calls Try.prog 57 #[uv] wr.drew fun e w1 => ∃ na nc g2 cap2 X k' u', e = .returned (.slice na (f q).2.length nc) ∧
      Hid ((Builtin.append_ #[28, 28] 28 #[v, .slice (some ⟨w1.heap.size, 0, none⟩) 1 1]).run Try.prog (w1.alloc (.cells #[.int .i64 (f q).1, .slice na (f q).2.length nc] 72)) = .ok (.slice (some ⟨g2, 0, none⟩) (q + 1) cap2) X) ∧
      Below wr.heap.size wr w1 ∧ Below S wr X ∧ Hid (LRow (C2 fun i => (f i).1) X S S 72 2 (.slice (some ⟨g2, 0, none⟩) (q + 1) cap2) (q + 1) (fun i => (f i).2) k' u') := by
  refine (l1Ints_more (w := wr.drew) hi hl).mono ?_
  rintro e w1 ⟨na, nc, rfl, hb1, ho1, hs1⟩
  obtain ⟨kb, hk1, hk2, hkf⟩ := ho1.one hs1
  obtain ⟨ti, hi, h1, h2, h3⟩ := Try.infoPut'
  have hk1' : wr.heap.size ≤ kb := hk1
  obtain ⟨g2, cap2, X, hr, _, hBX, _, hLX⟩ := LRow.append wr w1 28 28 72 ti _ 2 32 Try.underlying28 hi h1 h2 h3 rfl (by decide) (by decide) S S q _ _ k u hLR hsq hq ((Below.refl _ _).drew.trans hb1) na nc rfl (fun x hx => by simp [C2] at hx; rcases hx with rfl | rfl <;> rfl) kb (Nat.le_trans hsq hk1') hk2 (fun e => by have := (hLR.own.lt _ e).2; omega) (fun i hi e => by have := (hLR.lo i hi).2; omega) hkf
  exact ⟨na, nc, g2, cap2, X, _, _, rfl, hr, (Below.refl _ _).drew.trans hb1, hBX, hLX⟩

/-- What stands at the head of each round of the second loop. -/
def Copy2 (w : World) (S : Nat) (aB aC aX : Option Addr) (j cB nC cC cX : Nat) (bs : List (List Int)) (ps : List (Int × List Int)) (wq : World) (q : Nat) : Prop :=
  Below w.heap.size w wq ∧ S ≤ wq.heap.size ∧ Box2 wq w.heap.size (.slice aB j cB) (.slice aC nC cC) ∧ OwnRow wq (w.heap.size + 1) 2 (fun c => if c = 0 then .slice none 0 0 else .slice none 0 0) ∧ IntsSO wq (.slice aX j cX) bs (fun c => w.heap.size + 3 ≤ c ∧ c < S) ∧
    ∃ aY cY k u, OwnRow wq (w.heap.size + 2) 2 (fun c => if c = 0 then .slice aX j cX else .slice aY q cY) ∧ LRow (C2 fun i => (ps[i]?.getD (0, [])).1) wq S S 72 2 (.slice aY q cY) q (fun i => (ps[i]?.getD (0, [])).2) k u
theorem Copy2.next {w : World} {S : Nat} {aB aC aX : Option Addr} {j cB nC cC cX : Nat} {bs : List (List Int)} {ps : List (Int × List Int)} {wr X : World} {q g2 cap2 : Nat} {k' : Nat → Nat} {u' : Nat → Value} (hS : w.heap.size + 3 ≤ S)
    (h : Copy2 w S aB aC aX j cB nC cC cX bs ps wr q) (hX : Below S wr X) (hL : LRow (C2 fun i => (ps[i]?.getD (0, [])).1) X S S 72 2 (.slice (some ⟨g2, 0, none⟩) (q + 1) cap2) (q + 1) (fun i => (ps[i]?.getD (0, [])).2) k' u') :
    Copy2 w S aB aC aX j cB nC cC cX bs ps (X.setCell ⟨w.heap.size + 2, 1, none⟩ (.slice (some ⟨g2, 0, none⟩) (q + 1) cap2)) (q + 1) := by
  obtain ⟨h1, h2, h3, h4, h5, aY, cY, k, u, h6, h7⟩ := h
  refine ⟨(h1.trans (hX.mono (by omega))).setCell (by simp) _, ?_, ?_, (h4.block (hX.block _ (by omega))).store (by simp) _, (h5.keep fun b hb hlt => hX.block b (by omega)).store (fun b hb => by simp; omega) _, some ⟨g2, 0, none⟩, cap2, k', u', ((h6.block (hX.block _ (by omega))).set 1 _).congr fun c hc => ?_, hL.store (by simp; omega) (by simp; omega) _⟩
  · have := hX.size; simp [World.setCell]; omega
  · have hb := World.cell?_of_block (w := X) (a := ⟨w.heap.size, 0, none⟩) (Below.heap_setCell X ⟨w.heap.size + 2, 1, none⟩ (.slice (some ⟨g2, 0, none⟩) (q + 1) cap2) w.heap.size (by simp))
    have hb' := World.cell?_of_block (w := X) (a := ⟨w.heap.size, 1, none⟩) (Below.heap_setCell X ⟨w.heap.size + 2, 1, none⟩ (.slice (some ⟨g2, 0, none⟩) (q + 1) cap2) w.heap.size (by simp))
    exact ⟨hb.trans ((hX.cell (p := ⟨w.heap.size, 0, none⟩) (by simp; omega)).trans h3.1), hb'.trans ((hX.cell (p := ⟨w.heap.size, 1, none⟩) (by simp; omega)).trans h3.2)⟩
  · have : c = 0 ∨ c = 1 := by omega
    rcases this with rfl | rfl <;> simp

/-- What the specification's copying of a disk comes to. -/
def L1CopySaid : Prop := ∀ (w : World) (aB aC : Option Addr) (nB cB nC cC : Nat) (bs : List (List Int)) (ps : List (Int × List Int)) (_hbl : bs.length = nB) (_hpl : ps.length = nC) (_g1 : nB ≤ 60) (_g2 : nC ≤ 200) (_hz : ∀ k : Nat, (bs[k]?.getD []).length ≤ 1048576) (_hzp : ∀ k : Nat, (ps[k]?.getD (0, [])).2.length ≤ 1048576) (_hB : AtS w aB nB bs) (_hP : AtP w aC nC ps),
    Calls Try.prog 80 #[.agg #[.slice aB nB cB, .slice aC nC cC]] w fun e w' => ∃ S aX cX aY cY k u, e = .returned (.agg #[.slice aX nB cX, .slice aY nC cY]) ∧ Below w.heap.size w w' ∧ w.heap.size ≤ S ∧ S ≤ w'.heap.size ∧ IntsSO w' (.slice aX nB cX) bs (fun c => w.heap.size ≤ c ∧ c < S) ∧ LRow (C2 fun i => (ps[i]?.getD (0, [])).1) w' S S 72 2 (.slice aY nC cY) nC (fun i => (ps[i]?.getD (0, [])).2) k u

end Go.Proofs.Ytpmndmkmfcoieaa
