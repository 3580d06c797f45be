/- The specification's draws: a pick, words. The plain mathematics of chapter 1: the codes of words, puts and disks. No program, no world. The walks of the codes of words and disks, the program's and the specification's. The walks of NewDisk, the program's and the specification's. -/
import Derived.Test.YtmjdechoookpmaaM04
import Derived.Test.YtmjdechoookpmaaRows
import Derived.Test.YtmjdechoookpmaaM01
namespace Go.Proofs.Ytmjdechoookpmaa
open Go.RowKit
set_option maxRecDepth 100000

theorem DS.low {w0 w X : World} {sb lo : Nat} {a : Option Addr} {n c at' : Nat} (h : DS w0 w sb a n c at') (hb : Below lo w X) (hs : sb < lo) (h0 : w0.heap.size ≤ lo) : DS w0 X sb a n c at' :=
  ⟨OwnRow.block h.src (hb.block sb hs), h.below.trans (hb.mono h0), h.new, h.len, h.bytes⟩
theorem Chg.low {w wr X : World} {sb lo : Nat} (hc : Chg (fun b => b = sb) w wr) (hb : Below lo wr X) (hl : w.heap.size ≤ lo) : Chg (fun b => b = sb) w X :=
  ⟨hb.os.trans hc.os, hb.tape.trans hc.tape, hb.output.trans hc.output, Nat.le_trans hc.size hb.size, fun b hlt hne => (hb.block b (by omega)).trans (hc.block b hlt hne)⟩
theorem Wds.chg {w w' : World} {lo sb : Nat} {v : Value} {zs : List Int} (h : Wds w lo v zs) (hc : Chg (fun b => b = sb) w w') (hs : sb < lo) : Wds w' lo v zs := ownsRow_chg h hc hs

set_option maxHeartbeats 3200000 in
theorem pickN_ds (w0 w : World) (sb : Nat) (a : Option Addr) (n c at' : Nat) (lb m : Nat) (zs : List Int) (h : DS w0 w sb a n c at') (hat : at' ≤ 1000000) (hm1 : 1 ≤ m) (hm2 : m ≤ 200) (hl : ∀ i : Nat, i < m → w.cell? ⟨lb, i, none⟩ = some (.int .i64 (zs[i]?.getD 0))) (hne : lb ≠ sb) :
    Calls Try.prog 68 #[.pointer (some ⟨sb, 0, none⟩), .slice (some ⟨lb, 0, none⟩) m m] w fun e w' => ∃ r : Nat, r < m ∧ e = .returned (.int .i64 (zs[r]?.getD 0)) ∧ DS w0 w' sb a n c (at' + 1) ∧ Chg (fun b => b = sb) w w' := by
  have H : Hid (DS w0 w sb a n c at') := h
  have HL : Hid (∀ i : Nat, i < m → w.cell? ⟨lb, i, none⟩ = some (.int .i64 (zs[i]?.getD 0))) := hl
  clear h hl
  go_enter Try.func68, Try.ntmps68
  go_wp2_with fail
  refine (l1Next_ds w0 _ sb a n c at' m H.out hat hm1 hm2).mono ?_
  rintro e w1 ⟨r, rfl, hr, hd, hc⟩
  have c0 : w1.cell? ⟨lb, r, none⟩ = some (.int .i64 (zs[r]?.getD 0)) := by
    have h1 := HL.out r hr
    exact (hc.cell (a := ⟨lb, r, none⟩) (World.block_lt_of_cell? _ _ h1) hne).trans h1
  have HD : Hid (DS w0 w1 sb a n c (at' + 1)) := hd
  have HC : Hid (Chg (fun b => b = sb) w w1) := hc
  generalize hz : zs[r]?.getD 0 = z at *
  have HZ : Hid (zs[r]?.getD 0 = z) := hz
  clear hd hc hz
  go_wp2
  go_ret
  exact ⟨r, hr, by rw [HZ.out]; rfl, HD.out, HC.out⟩

set_option maxHeartbeats 6400000 in
theorem drawWords_ds (w0 w : World) (sb : Nat) (a : Option Addr) (n c at' : Nat) (h : DS w0 w sb a n c at') (hat : at' ≤ 900000) :
    Calls Try.prog 67 #[.pointer (some ⟨sb, 0, none⟩)] w fun e w' => ∃ v zs at2, e = .returned v ∧ IntsX w' w.heap.size v zs ∧ at2 ≤ at' + 8 ∧ DS w0 w' sb a n c at2 ∧ Chg (fun b => b = sb) w w' := by
  have H : Hid (DS w0 w sb a n c at') := h
  have hsb := h.lt
  have HB0 : Hid (w0.heap.size ≤ w.heap.size) := h.below.size
  have hmk : ∀ W : World, (Instr.makeSlice 36 (.int .i64 65) (.int .i64 65)).run Try.prog W = .ok (.slice (some ⟨W.heap.size, 0, none⟩) 65 65) (W.alloc (.cells (madeCells #[.int .i64 0] 65) 2)) := fun W => run_make_row' (P := Try.prog) 36 2 (.int .i64 0) 8 Try.underlying36 Try.infoInt rfl .i64 .i64 65 (by omega) (by omega) W
  clear h
  go_enter Try.func67, Try.ntmps67
  go_wp2_with fail
  refine (l1Next_ds w0 _ sb a n c at' 5 (H.out.later (later1 _ _)) (by omega) (by omega) (by omega)).mono ?_
  rintro e w1 ⟨k0, rfl, hk0, hd, hc⟩
  have HD : Hid (DS w0 w1 sb a n c (at' + 1)) := hd
  have HC : Hid (Chg (fun b => b = sb) w w1) := (Chg.of_below (later1 _ _)).trans hc
  have HW : Hid (Wds w1 w.heap.size (.slice (some ⟨w.heap.size, 0, none⟩) 0 0) []) := (Wds.lit w w.heap.size (Nat.le_refl _) [] #[] rfl 0 rfl (by omega)).chg hc hsb
  clear hd hc H
  go_wp2
  go_loopw [3, 4] (fun o i wr => ∃ (j : Nat) (v : Value) (zs : List Int), o = v ∧ i = .int .i64 (j : Int) ∧ j + zs.length = k0 ∧ DS w0 wr sb a n c (at' + 1 + zs.length) ∧ Chg (fun b => b = sb) w wr ∧ Wds wr w.heap.size v zs) (fun _ i _ => (intOf i).toNat)
  case atStart => exact ⟨k0, _, [], rfl, rfl, by simp, HD.out, HC.out, HW.out⟩
  case round =>
    clear HD HC HW
    obtain ⟨j, v, zs, rfl, rfl, hjk, hd, hc, hw⟩ := hrel
    obtain ⟨aV, cV, rfl⟩ := hw.shape
    have HD : Hid (DS w0 wr sb a n c (at' + 1 + zs.length)) := hd
    have HC : Hid (Chg (fun b => b = sb) w wr) := hc
    have HW : Hid (Wds wr w.heap.size (.slice aV zs.length cV) zs) := hw
    clear hd hc hw
    by_cases hj : 0 < j
    · have hj' : decide ((0 : Int) < (j : Int)) = true := by simp; omega
      clear hmk
      go_wp2_with fail
      refine (l1Next_ds w0 _ sb a n c _ 99 HD.out (by omega) (by omega) (by omega)).mono ?_
      rintro e w2 ⟨r, rfl, hr, hd, hc⟩
      have hs2 : w.heap.size ≤ w2.heap.size := (HC.out.trans hc).size
      obtain ⟨a', c', X, hrun, hwX, hbX, _⟩ := append_w1 w2 w.heap.size _ zs (r : Int) (HW.out.chg hc hsb) hs2 (by omega)
      have ez : (zs ++ [(r : Int)]).length = zs.length + 1 := by simp
      rw [ez] at hrun hwX
      clear ez
      have HR : Hid (_ = _) := hrun
      have HWX : Hid (Wds X w.heap.size _ (zs ++ [(r : Int)])) := hwX
      have HDX : Hid (DS w0 X sb a n c (at' + 1 + zs.length + 1)) := hd.low hbX hsb HB0.out
      have HCX : Hid (Chg (fun b => b = sb) w X) := (HC.out.trans hc).low hbX (Nat.le_refl _)
      clear hrun hwX hbX hd hc
      go_wp2_with (at_builtin; refine wpList_append_run rfl _ _ 36 rfl _ _ rfl rfl _ _ HR.out ?_)
      go_roundw
      case rel => exact ⟨j - 1, _, zs ++ [(r : Int)], rfl, by congr 1; omega, by simp; omega, by simpa [Nat.add_assoc] using HDX.out, HCX.out, HWX.out⟩
      case measure => simp [intOf]; omega
    · have hj' : decide ((0 : Int) < (j : Int)) = false := by simp; omega
      have hz4 : zs.length ≤ 4 := by omega
      go_wp2_with fail
      refine (l1Next_ds w0 _ sb a n c _ 30 HD.out (by omega) (by omega) (by omega)).mono ?_
      rintro e w2 ⟨r, rfl, hr, hd, hc⟩
      have hs2 : w.heap.size ≤ w2.heap.size := (HC.out.trans hc).size
      have HD2 : Hid (DS w0 w2 sb a n c (at' + 1 + zs.length + 1)) := hd
      have HC2 : Hid (Chg (fun b => b = sb) w w2) := HC.out.trans hc
      have HW2 : Hid (Wds w2 w.heap.size (.slice aV zs.length cV) zs) := HW.out.chg hc hsb
      clear hd hc HD HC HW
      by_cases h0 : r = 0
      · subst h0
        clear hmk
        go_wp2_with fail
        have HLR : Hid (∀ i : Nat, i < 3 → (w2.alloc (.cells #[.int .i64 (-1), .int .i64 65536, .int .i64 65535] 2)).cell? ⟨w2.heap.size, i, none⟩ = some (.int .i64 (([-1, 65536, 65535] : List Int)[i]?.getD 0))) := fun i hi => by
          rw [new_cell]
          match i, hi with
          | 0, _ => rfl
          | 1, _ => rfl
          | 2, _ => rfl
        refine (pickN_ds w0 _ sb a n c _ w2.heap.size 3 [-1, 65536, 65535] (HD2.out.later (later1 _ _)) (by omega) (by omega) (by omega) HLR.out (by omega)).mono ?_
        rintro e w3 ⟨q, hq, rfl, hd, hc⟩
        generalize ([-1, 65536, 65535] : List Int)[q]?.getD 0 = z at *
        have hc3 : Chg (fun b => b = sb) w2 w3 := (Chg.of_below (later1 _ _)).trans hc
        have hs3 : w.heap.size ≤ w3.heap.size := (HC2.out.trans hc3).size
        obtain ⟨a', c', X, hrun, hwX, hbX, _⟩ := append_w1 w3 w.heap.size _ zs z (HW2.out.chg hc3 hsb) hs3 (by omega)
        have ez : (zs ++ [z]).length = zs.length + 1 := by simp
        rw [ez] at hrun hwX
        have HR : Hid (_ = _) := hrun
        have HWX : Hid (IntsX X w.heap.size _ (zs ++ [z])) := hwX.x (by rw [ez]; omega)
        clear ez
        have HDX : Hid (DS w0 X sb a n c (at' + 1 + zs.length + 1 + 1)) := hd.low hbX hsb HB0.out
        have HCX : Hid (Chg (fun b => b = sb) w X) := (HC2.out.trans hc3).low hbX (Nat.le_refl _)
        clear hrun hwX hbX hd hc hc3 HLR
        go_wp2_with (at_builtin; refine wpList_append_run rfl _ _ 36 rfl _ _ rfl rfl _ _ HR.out ?_)
        go_ret
        exact ⟨_, _, _, rfl, HWX.out, by omega, HDX.out, HCX.out⟩
      · have hr0 : ((r : Int) == 0) = false := by rw [beq_eq_false_iff_ne]; omega
        by_cases h1 : r = 1
        · subst h1
          have HX : Hid (IntsX (w2.alloc (.cells (madeCells #[.int .i64 0] 65) 2)) w.heap.size (.slice (some ⟨w2.heap.size, 0, none⟩) 65 65) (List.replicate 65 0)) := by
            refine ⟨_, _, _, rfl, by simp, by omega, Or.inr ⟨w2.heap.size, _, _, rfl, hs2, Go.Deep.blk_alloc_new _ _, fun k hk => ?_⟩⟩
            obtain ⟨cc, h1, h2, h3⟩ := World.rowIs_made w2 (.int .i64 0) 65 2
            rw [Go.Deep.blk_alloc_new] at h1
            simp only [Option.some.injEq, Obj.cells.injEq] at h1
            rw [h1.1, h3 k hk, List.getElem?_replicate, if_pos hk]
            rfl
          have HDX : Hid (DS w0 (w2.alloc (.cells (madeCells #[.int .i64 0] 65) 2)) sb a n c (at' + 1 + zs.length + 1)) := HD2.out.later (later1 _ _)
          have HCX : Hid (Chg (fun b => b = sb) w (w2.alloc (.cells (madeCells #[.int .i64 0] 65) 2))) := HC2.out.trans (Chg.of_below (later1 _ _))
          go_wp2
          go_ret
          exact ⟨_, _, _, rfl, HX.out, by omega, HDX.out, HCX.out⟩
        · have hr1 : ((r : Int) == 1) = false := by rw [beq_eq_false_iff_ne]; omega
          clear hmk
          go_wp2
          go_ret
          exact ⟨_, zs, _, rfl, HW2.out.x (by omega), by omega, HD2.out, HC2.out⟩
end Go.Proofs.Ytmjdechoookpmaa

namespace Go.Proofs.Ytmjdechoookpmaa

def okW (z : Int) : Bool := decide (0 ≤ z ∧ z ≤ 65535)
def wordsF (ws : List Int) : Int := if 64 < ws.length then 2 else if ws.all okW then 0 else 3
/-- The first code that is not 0. -/
def firstF : List Int → Int
  | [] => 0
  | c :: cs => if c = 0 then firstF cs else c
def placeB (n : Nat) (x : Int) : Bool := decide (0 ≤ x ∧ x < (n : Int))
def putF (n : Nat) (p : Int × List Int) : Int := if placeB n p.1 = true then wordsF p.2 else 3
def faultF (bs : List (List Int)) (ps : List (Int × List Int)) : Int :=
  if 60 < bs.length ∨ 200 < ps.length then 2 else if firstF (bs.map wordsF) = 0 then firstF (ps.map (putF bs.length)) else firstF (bs.map wordsF)

theorem all_ok {ws : List Int} (h : ∀ i : Nat, i < ws.length → okW (ws[i]?.getD 0) = true) : ws.all okW = true := by
  rw [List.all_eq_true]
  intro x hx
  obtain ⟨i, hi, rfl⟩ := List.getElem_of_mem hx
  have := h i hi
  rwa [List.getElem?_eq_getElem hi, Option.getD_some] at this
theorem not_ok {ws : List Int} {i : Nat} (hi : i < ws.length) (h : okW (ws[i]?.getD 0) = false) : ws.all okW = false := by
  rw [List.getElem?_eq_getElem hi, Option.getD_some] at h
  rw [Bool.eq_false_iff]
  intro ha
  rw [List.all_eq_true] at ha
  have := ha _ (List.getElem_mem hi)
  rw [h] at this; cases this
theorem wordsF_many {ws : List Int} (h : 64 < ws.length) : wordsF ws = 2 := by simp [wordsF, h]
theorem wordsF_ok {ws : List Int} (h : ¬ 64 < ws.length) (ha : ∀ i : Nat, i < ws.length → okW (ws[i]?.getD 0) = true) : wordsF ws = 0 := by simp [wordsF, h, all_ok ha]
theorem wordsF_bad {ws : List Int} {i : Nat} (h : ¬ 64 < ws.length) (hi : i < ws.length) (ha : okW (ws[i]?.getD 0) = false) : wordsF ws = 3 := by simp [wordsF, h, not_ok hi ha]
theorem firstF_zero (l : List Int) : (∀ i : Nat, i < l.length → l[i]?.getD 0 = 0) → firstF l = 0 := by
  induction l with
  | nil => intro _; rfl
  | cons c cs ih =>
    intro h
    have h0 : c = 0 := by simpa using h 0 (by simp)
    have : firstF cs = 0 := ih fun i hi => by have := h (i + 1) (by simpa using hi); simpa using this
    simp [firstF, h0, this]
theorem firstF_at (l : List Int) : ∀ j : Nat, j < l.length → (∀ i : Nat, i < j → l[i]?.getD 0 = 0) → ¬ l[j]?.getD 0 = 0 → firstF l = l[j]?.getD 0 := by
  induction l with
  | nil => intro j hj; simp at hj
  | cons c cs ih =>
    intro j hj hz hn
    cases j with
    | zero => simp at hn; simp [firstF, hn]
    | succ j =>
      have h0 : c = 0 := by simpa using hz 0 (by omega)
      have := ih j (by simpa using hj) (fun i hi => by have := hz (i + 1) (by omega); simpa using this) (by simpa using hn)
      simp [firstF, h0, this]
theorem mapW_get (bs : List (List Int)) {i : Nat} (h : i < bs.length) : (bs.map wordsF)[i]?.getD 0 = wordsF (bs[i]?.getD []) := by
  rw [List.getElem?_map, List.getElem?_eq_getElem h]; rfl
theorem mapP_get (n : Nat) (ps : List (Int × List Int)) {i : Nat} (h : i < ps.length) : (ps.map (putF n))[i]?.getD 0 = putF n (ps[i]?.getD (0, [])) := by
  rw [List.getElem?_map, List.getElem?_eq_getElem h]; rfl
theorem faultF_many {bs : List (List Int)} {ps : List (Int × List Int)} (h : 60 < bs.length ∨ 200 < ps.length) : faultF bs ps = 2 := by simp [faultF, h]
theorem faultF_block {bs : List (List Int)} {ps : List (Int × List Int)} {j : Nat} (h : ¬ (60 < bs.length ∨ 200 < ps.length)) (hj : j < bs.length) (hz : ∀ i : Nat, i < j → wordsF (bs[i]?.getD []) = 0) (hn : ¬ wordsF (bs[j]?.getD []) = 0) : faultF bs ps = wordsF (bs[j]?.getD []) := by
  have e := firstF_at (bs.map wordsF) j (by simpa using hj) (fun i hi => by rw [mapW_get bs (by omega)]; exact hz i hi) (by rw [mapW_get bs hj]; exact hn)
  rw [mapW_get bs hj] at e
  simp [faultF, h, e, hn]
theorem faultF_put {bs : List (List Int)} {ps : List (Int × List Int)} {j : Nat} (h : ¬ (60 < bs.length ∨ 200 < ps.length)) (hb : ∀ i : Nat, i < bs.length → wordsF (bs[i]?.getD []) = 0) (hj : j < ps.length) (hz : ∀ i : Nat, i < j → putF bs.length (ps[i]?.getD (0, [])) = 0) (hn : ¬ putF bs.length (ps[j]?.getD (0, [])) = 0) : faultF bs ps = putF bs.length (ps[j]?.getD (0, [])) := by
  have e0 := firstF_zero (bs.map wordsF) (fun i hi => by rw [List.length_map] at hi; rw [mapW_get bs hi]; exact hb i hi)
  have e := firstF_at (ps.map (putF bs.length)) j (by simpa using hj) (fun i hi => by rw [mapP_get _ ps (by omega)]; exact hz i hi) (by rw [mapP_get _ ps hj]; exact hn)
  rw [mapP_get _ ps hj] at e
  simp [faultF, h, e0, e]
theorem faultF_ok {bs : List (List Int)} {ps : List (Int × List Int)} (h : ¬ (60 < bs.length ∨ 200 < ps.length)) (hb : ∀ i : Nat, i < bs.length → wordsF (bs[i]?.getD []) = 0) (hz : ∀ i : Nat, i < ps.length → putF bs.length (ps[i]?.getD (0, [])) = 0) : faultF bs ps = 0 := by
  have e0 := firstF_zero (bs.map wordsF) (fun i hi => by rw [List.length_map] at hi; rw [mapW_get bs hi]; exact hb i hi)
  have e := firstF_zero (ps.map (putF bs.length)) (fun i hi => by rw [List.length_map] at hi; rw [mapP_get _ ps hi]; exact hz i hi)
  simp [faultF, h, e0, e]

/-- The words that stand at place x while only the first k puts are looked at, the last one first. -/
def atK (bs : List (List Int)) (ps : List (Int × List Int)) (x : Int) : Nat → List Int
  | 0 => bs[x.toNat]?.getD []
  | k + 1 => if (ps[k]?.getD (0, [])).1 = x then (ps[k]?.getD (0, [])).2 else atK bs ps x k
def atF (bs : List (List Int)) (ps : List (Int × List Int)) (x : Int) : List Int := atK bs ps x ps.length
theorem atK_hit {bs : List (List Int)} {ps : List (Int × List Int)} {x : Int} {k : Nat} (h : (ps[k]?.getD (0, [])).1 = x) : atK bs ps x (k + 1) = (ps[k]?.getD (0, [])).2 := by simp [atK, h]
theorem atK_miss {bs : List (List Int)} {ps : List (Int × List Int)} {x : Int} {k : Nat} (h : ¬ (ps[k]?.getD (0, [])).1 = x) : atK bs ps x (k + 1) = atK bs ps x k := by simp [atK, h]
/-- The codes of PutBlock and of BlockAt. -/
def placeF (bs : List (List Int)) (ps : List (Int × List Int)) (x : Int) : Int := if faultF bs ps = 0 then (if placeB bs.length x = true then 0 else 3) else faultF bs ps

end Go.Proofs.Ytmjdechoookpmaa

namespace Go.Proofs.Ytmjdechoookpmaa
open Go.RowKit
set_option maxRecDepth 100000

theorem l1In_any (w : World) (v low high : Int) :
    Calls Try.prog 74 #[.int .i64 v, .int .i64 low, .int .i64 high] w fun e w' => e = .returned (.bool (decide (low ≤ v ∧ v ≤ high))) ∧ w' = w := by
  by_cases h1 : low ≤ v
  · by_cases h2 : v ≤ high
    · have e1 : decide (low ≤ v ∧ v ≤ high) = true := by simp [h1, h2]
      rw [e1]
      go_enter Try.func74, Try.ntmps74
      go_wp2
      go_ret
      exact ⟨rfl, rfl⟩
    · have e1 : decide (low ≤ v ∧ v ≤ high) = false := by simp [h2]
      rw [e1]
      go_enter Try.func74, Try.ntmps74
      go_wp2
      go_ret
      exact ⟨rfl, rfl⟩
  · have e1 : decide (low ≤ v ∧ v ≤ high) = false := by simp [h1]
    have hd : decide (low ≤ v) = false := by simpa using h1
    rw [e1]
    go_enter Try.func74, Try.ntmps74
    go_wp2
    go_ret
    exact ⟨rfl, rfl⟩

set_option maxHeartbeats 400000 in
theorem l1Words_walk (w : World) (a : Option Addr) (n cap : Nat) (ws : List Int) (hn : ws.length = n) (hm : n ≤ maxLen) (hc : At1 w a n (fun k => .int .i64 (ws[k]?.getD 0))) :
    Calls Try.prog 73 #[.slice a n cap] w fun e w' => e = .returned (.int .i64 (wordsF ws)) ∧ w' = w := by
  have HN : Hid (ws.length = n) := hn
  have HC : Hid (At1 w a n (fun k => .int .i64 (ws[k]?.getD 0))) := hc
  clear hn hc
  unfold maxLen at hm
  by_cases h : 64 < n
  · have h' : (64 : Int) < (n : Int) := by omega
    rw [wordsF_many (by rw [HN.out]; exact h)]
    go_enter Try.func73, Try.ntmps73
    go_wp2
    go_ret
    exact ⟨rfl, rfl⟩
  · have h' : ¬ (64 : Int) < (n : Int) := by omega
    go_enter Try.func73, Try.ntmps73
    go_wp2
    go_loop [3] (fun i => ∃ j : Nat, j ≤ n ∧ i = .int .i64 j ∧ ∀ i : Nat, i < j → okW (ws[i]?.getD 0) = true) (fun i => n - (intOf i).toNat)
    case atStart => exact ⟨0, Nat.zero_le _, rfl, fun i hi => by omega⟩
    case round =>
      obtain ⟨j, hj, rfl, hall⟩ := hrel
      have HA : Hid (∀ i : Nat, i < j → okW (ws[i]?.getD 0) = true) := hall
      clear hall
      by_cases hlt : j < n
      · obtain ⟨b, off, e, c1⟩ := HC.out j hlt
        clear HC
        subst e
        replace c1 : w.cell? ⟨b, off + j, none⟩ = some (.int .i64 (ws[j]?.getD 0)) := c1
        generalize hz : ws[j]?.getD 0 = z at *
        have HZ : Hid (ws[j]?.getD 0 = z) := hz
        clear hz
        cases hok : okW z
        · have HOK : Hid (decide (0 ≤ z ∧ z ≤ 65535) = false) := hok
          clear hok
          go_wp2_with fail
          refine (l1In_any _ _ _ _).mono ?_
          rw [HOK.out]
          rintro e w' ⟨rfl, rfl⟩
          go_wp2
          go_ret
          exact ⟨ret_int (wordsF_bad (by rw [HN.out]; exact h) (by rw [HN.out]; exact hlt) (by rw [HZ.out]; exact HOK.out)).symm, rfl⟩
        · have HOK : Hid (decide (0 ≤ z ∧ z ≤ 65535) = true) := hok
          clear hok
          go_wp2_with fail
          refine (l1In_any _ _ _ _).mono ?_
          rw [HOK.out]
          rintro e w' ⟨rfl, rfl⟩
          go_wp2
          go_round
          case rel =>
            refine ⟨j + 1, by omega, by go_num, fun i hi => ?_⟩
            by_cases e : i = j
            · subst e; rw [HZ.out]; exact HOK.out
            · exact HA.out i (by omega)
          case measure => simp [intOf]; omega
      · go_wp2
        go_ret
        exact ⟨ret_int (wordsF_ok (by rw [HN.out]; exact h) (fun i hi => HA.out i (by rw [HN.out] at hi; omega))).symm, rfl⟩
theorem l1Words_any {w : World} {v : Value} {ws : List Int} (h : Ints w v ws) : Calls Try.prog 73 #[v] w fun e w' => e = .returned (.int .i64 (wordsF ws)) ∧ w' = w := by
  obtain ⟨a, cap, rfl, hm, hc⟩ := h.open'
  exact l1Words_walk w a _ cap ws rfl hm hc

set_option maxHeartbeats 400000 in
theorem words_walk (w : World) (a : Option Addr) (n cap : Nat) (ws : List Int) (hn : ws.length = n) (hm : n ≤ maxLen) (hc : At1 w a n (fun k => .int .i64 (ws[k]?.getD 0))) :
    Calls Try.prog 39 #[.slice a n cap] w fun e w' => e = .returned (.int .i64 (wordsF ws)) ∧ w' = w := by
  have HN : Hid (ws.length = n) := hn
  have HC : Hid (At1 w a n (fun k => .int .i64 (ws[k]?.getD 0))) := hc
  clear hn hc
  unfold maxLen at hm
  by_cases h : 64 < n
  · have h' : (64 : Int) < (n : Int) := by omega
    rw [wordsF_many (by rw [HN.out]; exact h)]
    go_enter Try.func39, Try.ntmps39
    go_wp2
    go_ret
    exact ⟨rfl, rfl⟩
  · have h' : ¬ (64 : Int) < (n : Int) := by omega
    go_enter Try.func39, Try.ntmps39
    go_wp2
    go_loop [10] (fun i => ∃ j : Nat, j ≤ n ∧ i = .int .i64 j ∧ ∀ i : Nat, i < j → okW (ws[i]?.getD 0) = true) (fun i => n - (intOf i).toNat)
    case atStart => exact ⟨0, Nat.zero_le _, rfl, fun i hi => by omega⟩
    case round =>
      obtain ⟨j, hj, rfl, hall⟩ := hrel
      have HA : Hid (∀ i : Nat, i < j → okW (ws[i]?.getD 0) = true) := hall
      clear hall
      by_cases hlt : j < n
      · obtain ⟨b, off, e, c1⟩ := HC.out j hlt
        clear HC
        subst e
        replace c1 : w.cell? ⟨b, off + j, none⟩ = some (.int .i64 (ws[j]?.getD 0)) := c1
        generalize hz : ws[j]?.getD 0 = z at *
        have HZ : Hid (ws[j]?.getD 0 = z) := hz
        clear hz
        by_cases h1 : z < 0
        · go_wp2
          go_ret
          exact ⟨ret_int (wordsF_bad (by rw [HN.out]; exact h) (by rw [HN.out]; exact hlt) (by rw [HZ.out]; simp [okW]; omega)).symm, rfl⟩
        · have hd : decide (z < 0) = false := by simpa using h1
          by_cases h2 : 65535 < z
          · go_wp2
            go_ret
            exact ⟨ret_int (wordsF_bad (by rw [HN.out]; exact h) (by rw [HN.out]; exact hlt) (by rw [HZ.out]; simp [okW]; omega)).symm, rfl⟩
          · have hd2 : decide (65535 < z) = false := by simpa using h2
            go_wp2
            go_round
            case rel =>
              refine ⟨j + 1, by omega, by go_num, fun i hi => ?_⟩
              by_cases e : i = j
              · subst e; rw [HZ.out]; simp [okW]; omega
              · exact HA.out i (by omega)
            case measure => simp [intOf]; omega
      · go_wp2
        go_ret
        exact ⟨ret_int (wordsF_ok (by rw [HN.out]; exact h) (fun i hi => HA.out i (by rw [HN.out] at hi; omega))).symm, rfl⟩
theorem words_any {w : World} {v : Value} {ws : List Int} (h : Ints w v ws) : Calls Try.prog 39 #[v] w fun e w' => e = .returned (.int .i64 (wordsF ws)) ∧ w' = w := by
  obtain ⟨a, cap, rfl, hm, hc⟩ := h.open'
  exact words_walk w a _ cap ws rfl hm hc

theorem l1In_is {w : World} {v low high : Int} {r : Bool} (h : decide (low ≤ v ∧ v ≤ high) = r) :
    Calls Try.prog 74 #[.int .i64 v, .int .i64 low, .int .i64 high] w fun e w' => e = .returned (.bool r) ∧ w' = w := by
  subst h; exact l1In_any w v low high

theorem place_l1 (n : Nat) (x : Int) : decide (0 ≤ x ∧ x ≤ (n : Int) - 1) = placeB n x := by
  unfold placeB
  by_cases h : 0 ≤ x ∧ x < (n : Int)
  · simp [h]; omega
  · simp [h]; omega

theorem l1Fault_many (w : World) (bd : Nat) (aB aC : Option Addr) (nB cB nC cC : Nat) (h0 : w.cell? ⟨bd, 0, none⟩ = some (.slice aB nB cB)) (h1 : w.cell? ⟨bd, 1, none⟩ = some (.slice aC nC cC)) (h : 60 < nB ∨ 200 < nC) :
    Calls Try.prog 38 #[.pointer (some ⟨bd, 0, none⟩)] w fun e w' => e = .returned (.int .i64 2) ∧ w' = w := by
  by_cases g : 60 < nB
  · have g' : (60 : Int) < (nB : Int) := by omega
    clear h
    go_enter Try.func38, Try.ntmps38
    go_wp2
    go_ret
    exact ⟨rfl, rfl⟩
  · have hd : decide ((60 : Int) < (nB : Int)) = false := by simp; omega
    have g' : (200 : Int) < (nC : Int) := by omega
    clear h
    go_enter Try.func38, Try.ntmps38
    go_wp2
    go_ret
    exact ⟨rfl, rfl⟩

set_option maxHeartbeats 1600000 in
theorem l1Fault_walk (w : World) (bd : Nat) (aB aC : Option Addr) (nB cB nC cC : Nat) (bs : List (List Int)) (ps : List (Int × List Int)) (hbl : bs.length = nB) (hpl : ps.length = nC) (h0 : w.cell? ⟨bd, 0, none⟩ = some (.slice aB nB cB)) (h1 : w.cell? ⟨bd, 1, none⟩ = some (.slice aC nC cC))
    (g1 : nB ≤ 60) (g2 : nC ≤ 200) (hB : AtS w aB nB bs) (hP : AtP w aC nC ps) :
    Calls Try.prog 38 #[.pointer (some ⟨bd, 0, none⟩)] w fun e w' => e = .returned (.int .i64 (faultF bs ps)) ∧ ∃ m, w' = w.drewN m := by
  have HBL : Hid (bs.length = nB) := hbl
  have HPL : Hid (ps.length = nC) := hpl
  have HB : Hid (AtS w aB nB bs) := hB
  have HP : Hid (AtP w aC nC ps) := hP
  have HM : Hid (¬ (60 < bs.length ∨ 200 < ps.length)) := by unfold Hid; omega
  clear hbl hpl hB hP
  have hd : decide ((60 : Int) < (nB : Int)) = false := by simp; omega
  have hd2 : decide ((200 : Int) < (nC : Int)) = false := by simp; omega
  go_enter Try.func38, Try.ntmps38
  go_wp2
  go_loop [3] (fun i => ∃ j : Nat, j ≤ nB ∧ i = .int .i64 j ∧ ∀ i : Nat, i < j → wordsF (bs[i]?.getD []) = 0) (fun i => nB - (intOf i).toNat)
  case atStart => exact ⟨0, Nat.zero_le _, rfl, fun i hi => by omega⟩
  case round =>
    obtain ⟨j, hj, rfl, hall⟩ := hrel
    have HA : Hid (∀ i : Nat, i < j → wordsF (bs[i]?.getD []) = 0) := hall
    clear hall
    by_cases hlt : j < nB
    · obtain ⟨b, off, ua, ucap, e, c1, i1⟩ := HB.out j hlt
      clear HB
      subst e
      have HI : Hid (Ints w (.slice ua (bs[j]?.getD []).length ucap) (bs[j]?.getD [])) := i1
      clear i1
      generalize hc : wordsF (bs[j]?.getD []) = c
      have HC : Hid (wordsF (bs[j]?.getD []) = c) := hc
      clear hc
      by_cases hz : c = 0
      · subst hz
        go_wp2_with fail
        refine (l1Words_any HI.out).mono ?_
        rw [HC.out]
        rintro e w' ⟨rfl, rfl⟩
        go_wp2
        go_round
        case rel =>
          refine ⟨j + 1, by omega, by go_num, fun i hi => ?_⟩
          by_cases e : i = j
          · subst e; exact HC.out
          · exact HA.out i (by omega)
        case measure => simp [intOf]; omega
      · have hne : (c != 0) = true := by simpa using hz
        go_wp2_with fail
        refine (l1Words_any HI.out).mono ?_
        rw [HC.out]
        rintro e w' ⟨rfl, rfl⟩
        go_wp2
        go_ret
        exact ⟨ret_int (by rw [faultF_block HM.out (by rw [HBL.out]; exact hlt) HA.out (by rw [HC.out]; exact hz), HC.out]), 0, rfl⟩
    · have HA' : Hid (∀ i : Nat, i < bs.length → wordsF (bs[i]?.getD []) = 0) := fun i hi => HA.out i (by rw [HBL.out] at hi; omega)
      clear HA HB
      go_wp2
      go_loopw [5] (fun i wr => ∃ j m : Nat, j ≤ nC ∧ i = .int .i64 j ∧ wr = w.drewN m ∧ ∀ i : Nat, i < j → putF bs.length (ps[i]?.getD (0, [])) = 0) (fun i _ => nC - (intOf i).toNat)
      case atStart => exact ⟨0, 0, Nat.zero_le _, rfl, rfl, fun i hi => by omega⟩
      case round =>
        obtain ⟨k, m, hk, rfl, rfl, hall⟩ := hrel
        have HA : Hid (∀ i : Nat, i < k → putF bs.length (ps[i]?.getD (0, [])) = 0) := hall
        clear hall
        by_cases hlt2 : k < nC
        · obtain ⟨b, off, ua, ucap, e, c1, c2, i1⟩ := HP.out k hlt2
          clear HP
          subst e
          have HI : Hid (Ints w (.slice ua (ps[k]?.getD (0, [])).2.length ucap) (ps[k]?.getD (0, [])).2) := i1
          clear i1
          have hPF : putF bs.length (ps[k]?.getD (0, [])) = if placeB nB (ps[k]?.getD (0, [])).1 = true then wordsF (ps[k]?.getD (0, [])).2 else 3 := by rw [HBL.out]; rfl
          have HPF : Hid (putF bs.length (ps[k]?.getD (0, [])) = if placeB nB (ps[k]?.getD (0, [])).1 = true then wordsF (ps[k]?.getD (0, [])).2 else 3) := hPF
          clear hPF
          cases hpl : placeB nB (ps[k]?.getD (0, [])).1
          · have HQ : Hid (decide (0 ≤ (ps[k]?.getD (0, [])).1 ∧ (ps[k]?.getD (0, [])).1 ≤ (nB : Int) - 1) = false) := by unfold Hid; rw [place_l1]; exact hpl
            have HF : Hid (putF bs.length (ps[k]?.getD (0, [])) = 3) := by unfold Hid; rw [HPF.out, hpl]; rfl
            clear hpl
            go_wp2_with fail
            go_quiet ((go_at_call 74; refine quiet_same2 (l1In_is (r := false) ?_); exact HQ.out))
            go_wp2
            go_ret
            exact ⟨ret_int (by rw [faultF_put HM.out HA'.out (by rw [HPL.out]; exact hlt2) HA.out (by rw [HF.out]; decide), HF.out]), m + nq, by rw [World.drewN_drewN]⟩
          · have HQ : Hid (decide (0 ≤ (ps[k]?.getD (0, [])).1 ∧ (ps[k]?.getD (0, [])).1 ≤ (nB : Int) - 1) = true) := by unfold Hid; rw [place_l1]; exact hpl
            have HF : Hid (putF bs.length (ps[k]?.getD (0, [])) = wordsF (ps[k]?.getD (0, [])).2) := by unfold Hid; rw [HPF.out, hpl]; rfl
            clear hpl
            generalize hc : wordsF (ps[k]?.getD (0, [])).2 = c at *
            have HC : Hid (wordsF (ps[k]?.getD (0, [])).2 = c) := hc
            clear hc
            go_wp2_with fail
            go_quiet ((go_at_call 74; refine quiet_same2 (l1In_is (r := true) ?_); exact HQ.out))
            by_cases hz : c = 0
            · subst hz
              go_wp2_with fail
              refine (l1Words_any (HI.out.drewN _)).mono ?_
              rw [HC.out]
              rintro e w' ⟨rfl, rfl⟩
              go_wp2
              go_roundw
              case rel =>
                refine ⟨k + 1, m + nq, by omega, by go_num, by first | rfl | rw [World.drewN_drewN], fun i hi => ?_⟩
                by_cases e : i = k
                · subst e; exact HF.out
                · exact HA.out i (by omega)
              case measure => simp [intOf]; omega
            · have hne : (c != 0) = true := by simpa using hz
              go_wp2_with fail
              refine (l1Words_any (HI.out.drewN _)).mono ?_
              rw [HC.out]
              rintro e w' ⟨rfl, rfl⟩
              go_wp2
              go_ret
              exact ⟨ret_int (by rw [faultF_put HM.out HA'.out (by rw [HPL.out]; exact hlt2) HA.out (by rw [HF.out]; exact hz), HF.out]), m + nq, by first | rfl | rw [World.drewN_drewN]⟩
        · go_wp2
          go_ret
          exact ⟨ret_int (by rw [faultF_ok HM.out HA'.out (fun i hi => HA.out i (by rw [HPL.out] at hi; omega))]), m, rfl⟩
end Go.Proofs.Ytmjdechoookpmaa

namespace Go.Proofs.Ytmjdechoookpmaa
open Go.RowKit
set_option maxRecDepth 100000

theorem l1New_any (w : World) (n : Nat) (hn : n ≤ 60) :
    Calls Try.prog 66 #[.int .i64 (n : Int)] w fun e w' => ∃ b, w.heap.size ≤ b ∧ e = .returned (.agg #[.slice (some ⟨b, 0, none⟩) n n, .slice none 0 0]) ∧ Below w.heap.size w w' ∧ OwnRow w' b n (fun _ => .slice none 0 0) := by
  have hmk := fun w => run_make_row' (P := Try.prog) 24 36 (.slice none 0 0) 24 Try.underlying24 Try.infoInts rfl .i64 .i64 n (by omega) (by omega) w
  go_enter Try.func66, Try.ntmps66
  go_wp2
  refine bodyPost_ret (v := .agg #[.slice (some ⟨w.heap.size + 1, 0, none⟩) n n, .slice none 0 0]) (by simp [results, Try.results66, go_sem]) rfl ⟨w.heap.size + 1, by omega, rfl, later2 _ _ _, ?_⟩
  have := OwnRow.made (w.alloc (Obj.cells #[Value.slice (some ⟨w.heap.size + 1, 0, none⟩) n n, Value.slice none 0 0] 27)) (.slice none 0 0) n 36
  simpa using this

theorem newRack_any (w : World) (n : Nat) (hn : n ≤ 60) :
    Calls Try.prog 45 #[.int .i64 (n : Int)] w fun e w' => ∃ b, w.heap.size ≤ b ∧ e = .returned (.agg #[.slice (some ⟨b, 0, none⟩) n n]) ∧ Below w.heap.size w w' ∧ OwnRow w' b n (fun _ => .slice none 0 0) := by
  have hmk := fun w => run_make_row' (P := Try.prog) 24 36 (.slice none 0 0) 24 Try.underlying24 Try.infoInts rfl .i64 .i64 n (by omega) (by omega) w
  go_enter Try.func45, Try.ntmps45
  go_wp2
  refine bodyPost_ret (v := .agg #[.slice (some ⟨w.heap.size + 1, 0, none⟩) n n]) (by simp [results, Try.results45, go_sem]) rfl ⟨w.heap.size + 1, by omega, rfl, later2 _ _ _, ?_⟩
  have := OwnRow.made (w.alloc (Obj.cells #[Value.slice (some ⟨w.heap.size + 1, 0, none⟩) n n] 86)) (.slice none 0 0) n 36
  simpa using this

/-- n empty lists in one row that the call made. -/
theorem empties {w' : World} {b n : Nat} (F : Nat → Prop) (hF : F b) (hn : n ≤ 60) (h : OwnRow w' b n (fun _ => .slice none 0 0)) : IntsSO w' (.slice (some ⟨b, 0, none⟩) n n) (List.replicate n []) F := by
  refine Or.inr ⟨b, n, fun _ => .slice none 0 0, fun _ _ => False, hF, fun _ _ h => h.elim, fun _ _ _ _ h => h.elim, by simp, by unfold maxLen; simp; omega, by simpa using h, fun i hi => Or.inl ⟨?_, none, 0, rfl⟩⟩
  simp at hi
  simp [hi]

/-- The codes and the blocks of a new disk. -/
def newCode (size : Int) : Int := if 0 ≤ size ∧ size ≤ 60 then 0 else 3
def newBlocks (size : Int) : List (List Int) := if 0 ≤ size ∧ size ≤ 60 then List.replicate size.toNat [] else []

/-- A drive whose cache is empty. -/
theorem disk_nil (w : World) (bd off cap : Nat) (a ab : Option Addr) (nb cb : Nat) (h0 : w.cell? ⟨bd, off, none⟩ = some (.slice ab nb cb)) (h1 : w.cell? ⟨bd, off + 1, none⟩ = some (.slice a 0 cap)) :
    Calls Try.prog 36 #[.pointer (some ⟨bd, off, none⟩)] w fun e w' => e = .returned (.agg #[.slice ab nb cb, .slice none 0 0]) ∧ Below w.heap.size w w' := by
  have hlt := World.block_lt_of_cell? _ _ h0
  simp at hlt
  go_enter Try.func36, Try.ntmps36
  go_wp2
  go_loop [17] (fun i => i = .int .i64 0) (fun _ => 0)
  case atStart => rfl
  case round =>
    obtain rfl := hrel
    go_wp2
    exact bodyPost_ret (v := .agg #[.slice ab nb cb, .slice none 0 0]) (by simp [results, Try.results36, go_sem]) rfl ⟨rfl, later2 _ _ _⟩

theorem implNew_bad (w : World) (size : Int) (h : ¬ (0 ≤ size ∧ size ≤ 60)) :
    Calls Try.prog 15 #[.int .i64 size] w fun e w' => e = .returned (.agg #[.int .i64 3, .slice none 0 0, .slice none 0 0]) ∧ Below w.heap.size w w' := by
  by_cases h1 : size < 0
  · clear h
    go_enter Try.func15, Try.ntmps15
    go_wp2
    exact bodyPost_ret (v := .agg #[.int .i64 3, .slice none 0 0, .slice none 0 0]) (by simp [results, Try.results15, go_sem]) rfl ⟨rfl, later1 _ _⟩
  · have h2 : 60 < size := by omega
    have hd : decide (size < 0) = false := by simpa using h1
    clear h
    go_enter Try.func15, Try.ntmps15
    go_wp2
    exact bodyPost_ret (v := .agg #[.int .i64 3, .slice none 0 0, .slice none 0 0]) (by simp [results, Try.results15, go_sem]) rfl ⟨rfl, later1 _ _⟩

theorem implNew_ok (w : World) (n : Nat) (hn : n ≤ 60) :
    Calls Try.prog 15 #[.int .i64 (n : Int)] w fun e w' => ∃ b, w.heap.size ≤ b ∧ e = .returned (.agg #[.int .i64 0, .slice (some ⟨b, 0, none⟩) n n, .slice none 0 0]) ∧ Below w.heap.size w w' ∧ OwnRow w' b n (fun _ => .slice none 0 0) := by
  have hd : decide ((n : Int) < 0) = false := by simp
  have hd2 : decide (60 < (n : Int)) = false := by simp; omega
  go_enter Try.func15, Try.ntmps15
  go_wp2_with fail
  refine (newRack_any _ n hn).mono ?_
  rintro e w1 ⟨b, hb, rfl, hbel, hrow⟩
  have HB : Hid (Below _ _ w1) := hbel
  have HR : Hid (OwnRow w1 b n (fun _ => .slice none 0 0)) := hrow
  clear hbel hrow
  simp at hb
  go_wp2_with fail
  refine (disk_nil _ w1.heap.size 0 0 none (some ⟨b, 0, none⟩) n n (by rw [new_cell]; rfl) (by rw [new_cell]; rfl)).mono ?_
  rintro e w2 ⟨rfl, hb2⟩
  have HB2 : Hid (Below _ w1 w2) := (later1 _ _).trans (hb2.mono (by simp))
  clear hb2
  have hbel := HB.out.trans (HB2.out.mono HB.out.size)
  have HBA : Hid (Below _ _ w2) := hbel
  obtain ⟨hc, hf⟩ := bcell hbel
  have hz : w.heap.size < w2.heap.size := by have := hbel.size; simp at this; omega
  clear hbel
  go_wp2
  refine bodyPost_ret (v := .agg #[.int .i64 0, .slice (some ⟨b, 0, none⟩) n n, .slice none 0 0]) (by simp [results, Try.results15, go_sem, hc]) rfl ⟨b, by omega, rfl, ?_, ?_⟩
  · exact (((((later1 _ _).trans (HBA.out.mono (by simp))).setCell (Nat.le_refl _) _).setCell (Nat.le_refl _) _).setCell (Nat.le_refl _) _)
  · exact (((HR.out.block (HB2.out.block b HR.out.lt)).store (by simp; omega) _).store (by simp; omega) _).store (by simp; omega) _

theorem ans_new {w w' : World} {b n : Nat} (hn : n ≤ 60) (hb : w.heap.size ≤ b) (hbel : Below w.heap.size w w') (hr : OwnRow w' b n (fun _ => .slice none 0 0)) : AnsDisk w 0 (List.replicate n []) [] (.returned (.agg #[.int .i64 0, .slice (some ⟨b, 0, none⟩) n n, .slice none 0 0])) w' :=
  ⟨_, n, n, none, 0, 0, rfl, hbel, fun c => c = b, fun _ => False, empties _ rfl hn hr, Or.inl ⟨rfl, none, 0, rfl⟩, fun _ _ h => h.elim, fun c h => by have := hr.lt; exact h.elim (fun h => ⟨by omega, by omega⟩) False.elim⟩

theorem implNew_any (w : World) (size : Int) : Calls Try.prog 15 #[.int .i64 size] w (AnsDisk w (newCode size) (newBlocks size) []) := by
  by_cases h : 0 ≤ size ∧ size ≤ 60
  · obtain ⟨n, rfl⟩ := Int.eq_ofNat_of_zero_le h.1
    have e1 : newCode (n : Int) = 0 := by simp [newCode, h]
    have e2 : newBlocks (n : Int) = List.replicate n [] := by simp [newBlocks, h]
    rw [e1, e2]
    exact (implNew_ok w n (by omega)).mono fun e w' ⟨b, h1, he, h2, h3⟩ => he ▸ ans_new (by omega) h1 h2 h3
  · have e1 : newCode size = 3 := by simp [newCode, h]
    have e2 : newBlocks size = [] := by simp [newBlocks, h]
    rw [e1, e2]
    exact (implNew_bad w size h).mono fun e w' ⟨he, h2⟩ => he ▸ ans_bad h2 3

end Go.Proofs.Ytmjdechoookpmaa
