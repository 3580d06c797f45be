/- The walks of DiskFault, the specification's and the program's. The walks of the specification's look at a block. The walks of the program's look at a block. The walk of the specification's PutBlock. The walks of the specification's FlushDisk and CrashDisk. The walk of the specification's PutBlock where it puts. -/
import Derived.Test.YtmjdechoookpmaaM05
import Derived.Test.YtmjdechoookpmaaM01
import Derived.Test.YtmjdechoookpmaaM07
namespace Go.Proofs.Ytmjdechoookpmaa
open Go.RowKit
set_option maxRecDepth 100000

theorem l1Fault_any {w : World} {bd : Nat} {vB vC : Value} {bs : List (List Int)} {ps : List (Int × List Int)} (h0 : w.cell? ⟨bd, 0, none⟩ = some vB) (h1 : w.cell? ⟨bd, 1, none⟩ = some vC) (hB : IntsS w vB bs) (hP : Puts w vC ps) :
    Calls Try.prog 38 #[.pointer (some ⟨bd, 0, none⟩)] w fun e w' => e = .returned (.int .i64 (faultF bs ps)) ∧ ∃ m, w' = w.drewN m := by
  obtain ⟨aB, cB, rfl, _, aS⟩ := hB.open'
  obtain ⟨aC, cC, rfl, _, aP⟩ := hP.open'
  by_cases h : 60 < bs.length ∨ 200 < ps.length
  · exact (l1Fault_many w bd aB aC _ cB _ cC h0 h1 h).mono fun e w' ⟨he, hw⟩ => ⟨he.trans (ret_int (faultF_many h).symm), 0, hw⟩
  · exact l1Fault_walk w bd aB aC _ cB _ cC bs ps rfl rfl h0 h1 (by omega) (by omega) aS aP

theorem specFault_any (w : World) (vB vC : Value) (bs : List (List Int)) (ps : List (Int × List Int)) (hB : IntsS w vB bs) (hP : Puts w vC ps) :
    Calls Try.prog 10 #[.agg #[vB, vC]] w fun e w' => e = .returned (.int .i64 (faultF bs ps)) ∧ Below w.heap.size w w' := by
  have HB : Hid (IntsS w vB bs) := hB
  have HP : Hid (Puts w vC ps) := hP
  clear hB hP
  go_enter Try.func10, Try.ntmps10
  go_wp2_with fail
  refine (l1Fault_any (by rw [new_cell]; rfl) (by rw [new_cell]; rfl) (HB.out.later (later1 _ _)) (HP.out.later (later1 _ _))).mono ?_
  rintro e w' ⟨rfl, m, rfl⟩
  go_wp2
  go_ret
  exact ⟨rfl, below_drewN (later1 _ _) m⟩

theorem isPlace_any (w : World) (a : Option Addr) (n cap : Nat) (vC : Value) (x : Int) :
    Calls Try.prog 75 #[.agg #[.slice a n cap, vC], .int .i64 x] w fun e w' => e = .returned (.bool (placeB n x)) ∧ Below w.heap.size w w' := by
  by_cases h1 : 0 ≤ x
  · by_cases h2 : x < (n : Int)
    · have e1 : placeB n x = true := by simp [placeB, h1, h2]
      rw [e1]
      go_enter Try.func75, Try.ntmps75
      go_wp2
      go_ret
      exact ⟨rfl, later1 _ _⟩
    · have e1 : placeB n x = false := by simp [placeB, h2]
      rw [e1]
      go_enter Try.func75, Try.ntmps75
      go_wp2
      go_ret
      exact ⟨rfl, later1 _ _⟩
  · have e1 : placeB n x = false := by simp [placeB, h1]
    have hd : decide (0 ≤ x) = false := by simpa using h1
    rw [e1]
    go_enter Try.func75, Try.ntmps75
    go_wp2
    go_ret
    exact ⟨rfl, later1 _ _⟩

theorem putFault_any (w : World) (a : Option Addr) (n cap : Nat) (vC : Value) (x : Int) (ua : Option Addr) (un uc : Nat) (ws : List Int) (hw : Ints w (.slice ua un uc) ws) :
    Calls Try.prog 40 #[.agg #[.slice a n cap, vC], .agg #[.int .i64 x, .slice ua un uc]] w fun e w' => e = .returned (.int .i64 (putF n (x, ws))) ∧ Below w.heap.size w w' := by
  have HW : Hid (Ints w (.slice ua un uc) ws) := hw
  clear hw
  cases hp : placeB n x
  · have HP : Hid (placeB n x = false) := hp
    have e1 : putF n (x, ws) = 3 := by simp [putF, hp]
    rw [e1]
    clear hp e1
    go_enter Try.func40, Try.ntmps40
    go_wp2_with fail
    refine (isPlace_any _ _ _ _ _ _).mono ?_
    rw [HP.out]
    rintro e w1 ⟨rfl, hb⟩
    have HB : Hid (Below w.heap.size w w1) := (later2 _ _ _).trans (hb.mono (by simp; omega))
    clear hb
    go_wp2
    go_ret
    exact ⟨rfl, HB.out⟩
  · have HP : Hid (placeB n x = true) := hp
    have e1 : putF n (x, ws) = wordsF ws := by simp [putF, hp]
    rw [e1]
    clear hp e1
    go_enter Try.func40, Try.ntmps40
    go_wp2_with fail
    refine (isPlace_any _ _ _ _ _ _).mono ?_
    rw [HP.out]
    rintro e w1 ⟨rfl, hb⟩
    have c1 : w1.cell? ⟨w.heap.size + 1, 1, none⟩ = some (.slice ua un uc) := by
      rw [hb.cell (by simp)]
      simp
    have HB : Hid (Below w.heap.size w w1) := (later2 _ _ _).trans (hb.mono (by simp; omega))
    clear hb
    go_wp2_with fail
    refine (words_any (HW.out.later HB.out)).mono ?_
    rintro e w2 ⟨rfl, rfl⟩
    go_wp2
    go_ret
    exact ⟨rfl, HB.out⟩

theorem fault_many (w : World) (aB aC : Option Addr) (nB cB nC cC : Nat) (h : 60 < nB ∨ 200 < nC) :
    Calls Try.prog 11 #[.agg #[.slice aB nB cB, .slice aC nC cC]] w fun e w' => e = .returned (.int .i64 2) ∧ Below w.heap.size w w' := by
  by_cases g : 60 < nB
  · have g' : (60 : Int) < (nB : Int) := by omega
    clear h
    go_enter Try.func11, Try.ntmps11
    go_wp2
    go_ret
    exact ⟨rfl, later1 _ _⟩
  · have hd : decide ((60 : Int) < (nB : Int)) = false := by simp; omega
    have g' : (200 : Int) < (nC : Int) := by omega
    clear h
    go_enter Try.func11, Try.ntmps11
    go_wp2
    go_ret
    exact ⟨rfl, later1 _ _⟩

set_option maxHeartbeats 1600000 in
theorem fault_walk (w : World) (aB aC : Option Addr) (nB cB nC cC : Nat) (bs : List (List Int)) (ps : List (Int × List Int)) (hbl : bs.length = nB) (hpl : ps.length = nC)
    (g1 : nB ≤ 60) (g2 : nC ≤ 200) (hB : AtS w aB nB bs) (hP : AtP w aC nC ps) :
    Calls Try.prog 11 #[.agg #[.slice aB nB cB, .slice aC nC cC]] w fun e w' => e = .returned (.int .i64 (faultF bs ps)) ∧ Below w.heap.size w w' := by
  have HBL : Hid (bs.length = nB) := hbl
  have HPL : Hid (ps.length = nC) := hpl
  have HB : Hid (AtS w aB nB bs) := hB
  have HP : Hid (AtP w aC nC ps) := hP
  have HM : Hid (¬ (60 < bs.length ∨ 200 < ps.length)) := by unfold Hid; omega
  clear hbl hpl hB hP
  have hd : decide ((60 : Int) < (nB : Int)) = false := by simp; omega
  have hd2 : decide ((200 : Int) < (nC : Int)) = false := by simp; omega
  go_enter Try.func11, Try.ntmps11
  go_wp2
  go_loop [22] (fun i => ∃ j : Nat, j ≤ nB ∧ i = .int .i64 j ∧ ∀ i : Nat, i < j → wordsF (bs[i]?.getD []) = 0) (fun i => nB - (intOf i).toNat)
  case atStart => exact ⟨0, Nat.zero_le _, rfl, fun i hi => by omega⟩
  case round =>
    obtain ⟨j, hj, rfl, hall⟩ := hrel
    have HA : Hid (∀ i : Nat, i < j → wordsF (bs[i]?.getD []) = 0) := hall
    clear hall
    by_cases hlt : j < nB
    · obtain ⟨b, off, ua, ucap, e, c1, i1⟩ := HB.out j hlt
      clear HB
      have HI : Hid (Ints w (.slice ua (bs[j]?.getD []).length ucap) (bs[j]?.getD [])) := i1
      replace c1 := cell_later (later1 w (Obj.cells #[.slice aB nB cB, .slice aC nC cC] 27)) c1
      subst e
      clear i1
      generalize hc : wordsF (bs[j]?.getD []) = c
      have HC : Hid (wordsF (bs[j]?.getD []) = c) := hc
      clear hc
      by_cases hz : c = 0
      · subst hz
        go_wp2_with fail
        refine (words_any (HI.out.later (later1 _ _))).mono ?_
        rw [HC.out]
        rintro e w' ⟨rfl, rfl⟩
        go_wp2
        go_round
        case rel =>
          refine ⟨j + 1, by omega, by go_num, fun i hi => ?_⟩
          by_cases e : i = j
          · subst e; exact HC.out
          · exact HA.out i (by omega)
        case measure => simp [intOf]; omega
      · have hne : (c != 0) = true := by simpa using hz
        go_wp2_with fail
        refine (words_any (HI.out.later (later1 _ _))).mono ?_
        rw [HC.out]
        rintro e w' ⟨rfl, rfl⟩
        go_wp2
        go_ret
        exact ⟨ret_int (by rw [faultF_block HM.out (by rw [HBL.out]; exact hlt) HA.out (by rw [HC.out]; exact hz), HC.out]), later1 _ _⟩
    · have HA' : Hid (∀ i : Nat, i < bs.length → wordsF (bs[i]?.getD []) = 0) := fun i hi => HA.out i (by rw [HBL.out] at hi; omega)
      clear HA HB
      go_wp2
      go_loopw [35] (fun i wr => ∃ j : Nat, j ≤ nC ∧ i = .int .i64 j ∧ Below w.heap.size w wr ∧ wr.cell? ⟨w.heap.size, 0, none⟩ = some (.slice aB nB cB) ∧ wr.cell? ⟨w.heap.size, 1, none⟩ = some (.slice aC nC cC) ∧ ∀ i : Nat, i < j → putF bs.length (ps[i]?.getD (0, [])) = 0) (fun i _ => nC - (intOf i).toNat)
      case atStart => exact ⟨0, Nat.zero_le _, rfl, later1 _ _, by rw [new_cell]; rfl, by rw [new_cell]; rfl, fun i hi => by omega⟩
      case round =>
        obtain ⟨k, hk, rfl, hbl, p0, p1, hall⟩ := hrel
        have HA : Hid (∀ i : Nat, i < k → putF bs.length (ps[i]?.getD (0, [])) = 0) := hall
        clear hall
        by_cases hlt2 : k < nC
        · obtain ⟨b, off, ua, ucap, e, c1, c2, i1⟩ := HP.out k hlt2
          clear HP
          replace c1 := cell_later hbl c1
          replace c2 := cell_later hbl c2
          have HI : Hid (Ints wr (.slice ua (ps[k]?.getD (0, [])).2.length ucap) (ps[k]?.getD (0, [])).2) := i1.later hbl
          have HBEL : Hid (Below w.heap.size w wr) := hbl
          have hsz : w.heap.size < wr.heap.size := World.block_lt_of_cell? _ _ p0
          clear i1 hbl
          subst e
          generalize hc : putF nB (ps[k]?.getD (0, [])) = c
          have HC : Hid (putF nB ((ps[k]?.getD (0, [])).1, (ps[k]?.getD (0, [])).2) = c) := hc
          clear hc
          by_cases hz : c = 0
          · subst hz
            go_wp2_with fail
            refine (putFault_any _ _ _ _ _ _ _ _ _ (ps[k]?.getD (0, [])).2 (HI.out.later (later1 _ _))).mono ?_
            rw [HC.out]
            rintro e w1 ⟨rfl, hb1⟩
            have HB1 : Hid (Below wr.heap.size wr w1) := (later1 _ _).trans (hb1.mono (by simp))
            clear hb1
            go_wp2
            go_roundw
            case rel =>
              refine ⟨k + 1, by omega, by go_num, HBEL.out.trans (HB1.out.mono HBEL.out.size), cell_later HB1.out p0, cell_later HB1.out p1, fun i hi => ?_⟩
              by_cases e : i = k
              · subst e; rw [HBL.out]; exact HC.out
              · exact HA.out i (by omega)
            case measure => simp [intOf]; omega
          · have hne : (c != 0) = true := by simpa using hz
            go_wp2_with fail
            refine (putFault_any _ _ _ _ _ _ _ _ _ (ps[k]?.getD (0, [])).2 (HI.out.later (later1 _ _))).mono ?_
            rw [HC.out]
            rintro e w1 ⟨rfl, hb1⟩
            have HB1 : Hid (Below wr.heap.size wr w1) := (later1 _ _).trans (hb1.mono (by simp))
            clear hb1
            go_wp2
            go_ret
            have hF : putF bs.length (ps[k]?.getD (0, [])) = c := by rw [HBL.out]; exact HC.out
            exact ⟨ret_int (by rw [faultF_put HM.out HA'.out (by rw [HPL.out]; exact hlt2) HA.out (by rw [hF]; exact hz), hF]), HBEL.out.trans (HB1.out.mono HBEL.out.size)⟩
        · go_wp2
          go_ret
          exact ⟨ret_int (by rw [faultF_ok HM.out HA'.out (fun i hi => HA.out i (by rw [HPL.out] at hi; omega))]), hbl⟩

theorem fault_any (w : World) (vB vC : Value) (bs : List (List Int)) (ps : List (Int × List Int)) (hB : IntsS w vB bs) (hP : Puts w vC ps) :
    Calls Try.prog 11 #[.agg #[vB, vC]] w fun e w' => e = .returned (.int .i64 (faultF bs ps)) ∧ Below w.heap.size w w' := by
  obtain ⟨aB, cB, rfl, _, aS⟩ := hB.open'
  obtain ⟨aC, cC, rfl, _, aP⟩ := hP.open'
  by_cases h : 60 < bs.length ∨ 200 < ps.length
  · exact (fault_many w aB aC _ cB _ cC h).mono fun e w' ⟨he, hw⟩ => ⟨he.trans (ret_int (faultF_many h).symm), hw⟩
  · exact fault_walk w aB aC _ cB _ cC bs ps rfl rfl (by omega) (by omega) aS aP
end Go.Proofs.Ytmjdechoookpmaa

namespace Go.Proofs.Ytmjdechoookpmaa
open Go.RowKit
set_option maxRecDepth 100000

theorem l1Place_any (w : World) (bd : Nat) (a : Option Addr) (n cap : Nat) (x : Int) (hn : n ≤ maxLen) (h0 : w.cell? ⟨bd, 0, none⟩ = some (.slice a n cap)) :
    Calls Try.prog 81 #[.pointer (some ⟨bd, 0, none⟩), .int .i64 x] w fun e w' => e = .returned (.bool (placeB n x)) ∧ w' = w := by
  unfold maxLen at hn
  go_enter Try.func81, Try.ntmps81
  go_wp2_with fail
  refine (l1In_is (place_l1 n x)).mono ?_
  rintro e w' ⟨rfl, rfl⟩
  go_wp2
  go_ret
  exact ⟨rfl, rfl⟩

/-- An answer that is a code and a list. -/
def AnsInts (w : World) (code : Int) (zs : List Int) (e : Ending) (w' : World) : Prop :=
  ∃ a n c, e = .returned (.agg #[.int .i64 code, .slice a n c]) ∧ Below w.heap.size w w' ∧ IntsO w' (.slice a n c) zs (fresh w w')
theorem ansInts_bad {w w' : World} (hb : Below w.heap.size w w') (code : Int) : AnsInts w code [] (.returned (.agg #[.int .i64 code, .slice none 0 0])) w' := ⟨none, 0, 0, rfl, hb, Or.inl ⟨rfl, none, 0, rfl⟩⟩

def atCode (bs : List (List Int)) (ps : List (Int × List Int)) (x : Int) : Int := placeF bs ps x
def atList (bs : List (List Int)) (ps : List (Int × List Int)) (x : Int) : List Int := if placeF bs ps x = 0 then atF bs ps x else []

theorem faultF_lens {bs : List (List Int)} {ps : List (Int × List Int)} (h : faultF bs ps = 0) : bs.length ≤ 60 ∧ ps.length ≤ 200 := by
  by_cases g : 60 < bs.length ∨ 200 < ps.length
  · rw [faultF_many g] at h; omega
  · omega

end Go.Proofs.Ytmjdechoookpmaa

namespace Go.Proofs.Ytmjdechoookpmaa
open Go.RowKit
set_option maxRecDepth 100000

theorem placeF_fault {bs : List (List Int)} {ps : List (Int × List Int)} {x : Int} (h : ¬ faultF bs ps = 0) : placeF bs ps x = faultF bs ps := by simp [placeF, h]
theorem placeF_no {bs : List (List Int)} {ps : List (Int × List Int)} {x : Int} (h : faultF bs ps = 0) (h2 : placeB bs.length x = false) : placeF bs ps x = 3 := by simp [placeF, h, h2]
theorem placeF_ok {bs : List (List Int)} {ps : List (Int × List Int)} {x : Int} (h : faultF bs ps = 0) (h2 : placeB bs.length x = true) : placeF bs ps x = 0 := by simp [placeF, h, h2]

set_option maxHeartbeats 800000 in
theorem placeFault_any (w : World) (aB : Option Addr) (cB : Nat) (vC : Value) (bs : List (List Int)) (ps : List (Int × List Int)) (x : Int) (hB : IntsS w (.slice aB bs.length cB) bs) (hP : Puts w vC ps) :
    Calls Try.prog 41 #[.agg #[.slice aB bs.length cB, vC], .int .i64 x] w fun e w' => e = .returned (.int .i64 (placeF bs ps x)) ∧ Below w.heap.size w w' := by
  have HB : Hid (IntsS w (.slice aB bs.length cB) bs) := hB
  have HP : Hid (Puts w vC ps) := hP
  clear hB hP
  generalize hF : faultF bs ps = F
  have HF : Hid (faultF bs ps = F) := hF
  clear hF
  by_cases hz : F = 0
  · subst hz
    cases hpl : placeB bs.length x
    · have HPL : Hid (placeB bs.length x = false) := hpl
      rw [placeF_no HF.out hpl]
      clear hpl
      go_enter Try.func41, Try.ntmps41
      go_wp2_with fail
      refine (fault_any _ _ _ bs ps (HB.out.later (later1 _ _)) (HP.out.later (later1 _ _))).mono ?_
      rw [HF.out]
      rintro e w1 ⟨rfl, hb1⟩
      have HX : Hid (Box2 w1 w.heap.size (.slice aB bs.length cB) vC) := (Box2.new _ _ _ _).later hb1
      have HW1 : Hid (Below w.heap.size w w1) := (later1 _ _).trans (hb1.mono (by simp))
      clear hb1
      obtain ⟨x0, x1⟩ := HX.out
      obtain ⟨aC, cC, hvC, _⟩ := HP.out.open'
      rw [hvC] at x1
      go_wp2_with fail
      refine (isPlace_any _ _ _ _ _ _).mono ?_
      rw [HPL.out]
      rintro e w2 ⟨rfl, hb2⟩
      have HW2 : Hid (Below w.heap.size w w2) := HW1.out.trans (hb2.mono HW1.out.size)
      clear hb2
      go_wp2
      go_ret
      exact ⟨rfl, HW2.out⟩
    · have HPL : Hid (placeB bs.length x = true) := hpl
      rw [placeF_ok HF.out hpl]
      clear hpl
      go_enter Try.func41, Try.ntmps41
      go_wp2_with fail
      refine (fault_any _ _ _ bs ps (HB.out.later (later1 _ _)) (HP.out.later (later1 _ _))).mono ?_
      rw [HF.out]
      rintro e w1 ⟨rfl, hb1⟩
      have HX : Hid (Box2 w1 w.heap.size (.slice aB bs.length cB) vC) := (Box2.new _ _ _ _).later hb1
      have HW1 : Hid (Below w.heap.size w w1) := (later1 _ _).trans (hb1.mono (by simp))
      clear hb1
      obtain ⟨x0, x1⟩ := HX.out
      obtain ⟨aC, cC, hvC, _⟩ := HP.out.open'
      rw [hvC] at x1
      go_wp2_with fail
      refine (isPlace_any _ _ _ _ _ _).mono ?_
      rw [HPL.out]
      rintro e w2 ⟨rfl, hb2⟩
      have HW2 : Hid (Below w.heap.size w w2) := HW1.out.trans (hb2.mono HW1.out.size)
      clear hb2
      go_wp2
      go_ret
      exact ⟨rfl, HW2.out⟩
  · have hne : (F != 0) = true := by simpa using hz
    rw [placeF_fault (by rw [HF.out]; exact hz), HF.out]
    go_enter Try.func41, Try.ntmps41
    go_wp2_with fail
    refine (fault_any _ _ _ bs ps (HB.out.later (later1 _ _)) (HP.out.later (later1 _ _))).mono ?_
    rw [HF.out]
    rintro e w1 ⟨rfl, hb1⟩
    have HW1 : Hid (Below w.heap.size w w1) := (later1 _ _).trans (hb1.mono (by simp))
    clear hb1
    go_wp2
    go_ret
    exact ⟨rfl, HW1.out⟩

/-- How the cache of a drive is read. -/
def AtC (w : World) (a : Option Addr) (n : Nat) (ps : List (Int × List Int)) : Prop :=
  ∀ i, i < n → ∃ g pb ua uc, a = some ⟨g, 0, none⟩ ∧ w.cell? ⟨g, i, none⟩ = some (.pointer (some ⟨pb, 0, none⟩)) ∧ w.cell? ⟨pb, 0, none⟩ = some (.int .i64 (ps[i]?.getD (0, [])).1) ∧ w.cell? ⟨pb, 1, none⟩ = some (.slice ua (ps[i]?.getD (0, [])).2.length uc) ∧ Ints w (.slice ua (ps[i]?.getD (0, [])).2.length uc) (ps[i]?.getD (0, [])).2
theorem Cache.at {w : World} {base n c : Nat} {a : Option Addr} {ps : List (Int × List Int)} {pb k : Nat → Nat} {u : Nat → Value} (h : Cache w base (.slice a n c) n (fun i => ps[i]?.getD (0, [])) pb k u) : AtC w a n ps := by
  intro i hi
  obtain ⟨g, cap, e, _, _, _, hrow⟩ := ownsRow_row h.own (by omega)
  simp only [Value.slice.injEq, true_and] at e
  obtain ⟨ua, uc, hu⟩ := h.sh i hi
  have hb := h.box i hi
  have b0 := hb.cell (i := 0) (by omega)
  have b1 := hb.cell (i := 1) (by omega)
  simp at b0 b1
  rw [hu] at b1
  have hio := (h.at' i hi).ints
  rw [hu] at hio
  refine ⟨g, pb i, ua, uc, e.1, ?_, b0, b1, hio⟩
  have := hrow.cell hi
  rw [this]
  simp [hi]

set_option maxHeartbeats 800000 in
theorem get_any (w : World) (br o : Nat) (a : Option Addr) (n cap x : Nat) (bs : List (List Int)) (_hn : n ≤ 60) (hx : x < n) (h0 : w.cell? ⟨br, o, none⟩ = some (.slice a n cap)) (hB : AtS w a n bs) (hl : (bs[x]?.getD []).length ≤ 1048576) :
    Calls Try.prog 77 #[.pointer (some ⟨br, o, none⟩), .int .i64 (x : Int)] w fun e w' => e = .returned (.slice (some ⟨w.heap.size, 0, none⟩) (bs[x]?.getD []).length (bs[x]?.getD []).length) ∧ Below w.heap.size w w' ∧ IntsO w' (.slice (some ⟨w.heap.size, 0, none⟩) (bs[x]?.getD []).length (bs[x]?.getD []).length) (bs[x]?.getD []) (fresh w w') := by
  obtain ⟨b, off, ua, ucap, e, c1, i1⟩ := hB x hx
  subst e
  have HI : Hid (Ints w (.slice ua (bs[x]?.getD []).length ucap) (bs[x]?.getD [])) := i1
  have HL : Hid ((bs[x]?.getD []).length ≤ 1048576) := hl
  clear i1 hl hB
  go_enter Try.func77, Try.ntmps77
  go_wp2_with fail
  refine (copyOf_any HI.out HL.out).mono ?_
  rintro e w1 ⟨rfl, hb1, ho1⟩
  have HB1 : Hid (Below w.heap.size w w1) := hb1
  have HO1 : Hid (IntsO w1 _ (bs[x]?.getD []) (fresh w w1)) := ho1
  clear hb1 ho1
  go_wp2
  go_ret
  exact ⟨rfl, HB1.out, HO1.out⟩

set_option maxHeartbeats 1600000 in
theorem read_any (w : World) (bd : Nat) (aB aP : Option Addr) (nB cB nP cP : Nat) (bs : List (List Int)) (ps : List (Int × List Int)) (x : Nat) (hxl : x < nB) (hnB : nB ≤ 60) (hpl : ps.length = nP) (g2 : nP ≤ 200) (h0 : w.cell? ⟨bd, 0, none⟩ = some (.slice aB nB cB)) (h1 : w.cell? ⟨bd, 1, none⟩ = some (.slice aP nP cP))
    (hB : AtS w aB nB bs) (hP : AtC w aP nP ps) (hz : ∀ k : Nat, (bs[k]?.getD []).length ≤ 1048576) (hzp : ∀ k : Nat, (ps[k]?.getD (0, [])).2.length ≤ 1048576) :
    Calls Try.prog 42 #[.pointer (some ⟨bd, 0, none⟩), .int .i64 (x : Int)] w fun e w' => ∃ a n c, e = .returned (.slice a n c) ∧ Below w.heap.size w w' ∧ IntsO w' (.slice a n c) (atF bs ps x) (fresh w w') := by
  have HPL : Hid (ps.length = nP) := hpl
  have HB : Hid (AtS w aB nB bs) := hB
  have HP : Hid (AtC w aP nP ps) := hP
  have HZ : Hid (∀ k : Nat, (bs[k]?.getD []).length ≤ 1048576) := hz
  have HZP : Hid (∀ k : Nat, (ps[k]?.getD (0, [])).2.length ≤ 1048576) := hzp
  clear hpl hB hP hz hzp
  go_enter Try.func42, Try.ntmps42
  go_wp2
  go_loop [5] (fun i => ∃ k : Nat, k ≤ nP ∧ i = .int .i64 ((k : Int) - 1) ∧ atF bs ps x = atK bs ps x k) (fun i => (intOf i + 1).toNat)
  case atStart => exact ⟨nP, Nat.le_refl _, rfl, by unfold atF; rw [HPL.out]⟩
  case round =>
    obtain ⟨k, hk, rfl, hat⟩ := hrel
    have HA : Hid (atF bs ps x = atK bs ps x k) := hat
    clear hat
    cases k with
    | succ k =>
      have ek : (((k + 1 : Nat) : Int) - 1) = (k : Int) := by omega
      rw [ek]
      clear ek
      obtain ⟨g, pb, ua, uc, e, c0, c1, c2, i1⟩ := HP.out k (by omega)
      clear HP
      subst e
      have HI : Hid (Ints w (.slice ua (ps[k]?.getD (0, [])).2.length uc) (ps[k]?.getD (0, [])).2) := i1
      clear i1
      have hlt : k < nP := by omega
      by_cases he : (ps[k]?.getD (0, [])).1 = (x : Int)
      · have hb : ((ps[k]?.getD (0, [])).1 == (x : Int)) = true := by simpa using he
        have HE : Hid ((ps[k]?.getD (0, [])).1 = (x : Int)) := he
        clear he
        go_wp2_with fail
        refine (copyOf_any HI.out (HZP.out k)).mono ?_
        rintro e w1 ⟨rfl, hb1, ho1⟩
        have HB1 : Hid (Below w.heap.size w w1) := hb1
        have HO1 : Hid (IntsO w1 _ (ps[k]?.getD (0, [])).2 (fresh w w1)) := ho1
        clear hb1 ho1
        go_wp2
        go_ret
        exact ⟨_, _, _, rfl, HB1.out, by rw [HA.out, atK_hit HE.out]; exact HO1.out⟩
      · have hb : ((ps[k]?.getD (0, [])).1 == (x : Int)) = false := by simpa using he
        have HE : Hid (¬ (ps[k]?.getD (0, [])).1 = (x : Int)) := he
        clear he
        go_wp2
        go_round
        case rel => exact ⟨k, by omega, rfl, by rw [HA.out, atK_miss HE.out]⟩
        case measure => simp [intOf]
    | zero =>
      go_wp2_with fail
      refine (get_any _ bd 0 aB nB cB x bs hnB hxl h0 HB.out (HZ.out x)).mono ?_
      rintro e w1 ⟨rfl, hb1, ho1⟩
      have HB1 : Hid (Below w.heap.size w w1) := hb1
      have HO1 : Hid (IntsO w1 _ (bs[x]?.getD []) (fresh w w1)) := ho1
      clear hb1 ho1
      go_wp2
      go_ret
      exact ⟨_, _, _, rfl, HB1.out, by rw [HA.out]; simpa [atK] using HO1.out⟩

theorem atF_len {bs : List (List Int)} {ps : List (Int × List Int)} {x : Int} {M : Nat} (hz : ∀ k : Nat, (bs[k]?.getD []).length ≤ M) (hzp : ∀ k : Nat, (ps[k]?.getD (0, [])).2.length ≤ M) : (atF bs ps x).length ≤ M := by
  unfold atF
  generalize ps.length = n
  induction n with
  | zero => exact hz _
  | succ n ih =>
    by_cases h : (ps[n]?.getD (0, [])).1 = x
    · rw [atK_hit h]; exact hzp n
    · rw [atK_miss h]; exact ih

set_option maxHeartbeats 1600000 in
theorem implAt_bad (w : World) (aB : Option Addr) (cB : Nat) (aC : Option Addr) (nC cC : Nat) (bs : List (List Int)) (ps : List (Int × List Int)) (x : Int) (hB : IntsS w (.slice aB bs.length cB) bs) (hP : Puts w (.slice aC nC cC) ps) (hf : ¬ placeF bs ps x = 0) :
    Calls Try.prog 13 #[.agg #[.slice aB bs.length cB, .slice aC nC cC], .int .i64 x] w (AnsInts w (placeF bs ps x) []) := by
  have HB : Hid (IntsS w (.slice aB bs.length cB) bs) := hB
  have HP : Hid (Puts w (.slice aC nC cC) ps) := hP
  clear hB hP
  generalize hF : placeF bs ps x = F at *
  have HF : Hid (placeF bs ps x = F) := hF
  have hne : (F != 0) = true := by simpa using hf
  clear hF hf
  go_enter Try.func13, Try.ntmps13
  go_wp2_with fail
  refine (placeFault_any _ aB cB _ bs ps x (HB.out.later (later2 _ _ _)) (HP.out.later (later2 _ _ _))).mono ?_
  rw [HF.out]
  rintro e w1 ⟨rfl, hb1⟩
  have HW1 : Hid (Below w.heap.size w w1) := (later2 _ _ _).trans (hb1.mono (by simp; omega))
  have HR1 : OwnRow w1 (w.heap.size + 1) 2 (fun i => if i = 0 then .int .i64 0 else .slice none 0 0) := by
    have h := (OwnRow.two (w.alloc (Obj.cells #[Value.slice aB bs.length cB, Value.slice aC nC cC] 27)) (.int .i64 0) (.slice none 0 0) 41).later hb1
    simpa using h
  have t0 := HR1.cell (i := 0) (by omega)
  have t1 := HR1.cell (i := 1) (by omega)
  have t2 := HR1.frozen 0
  have t3 := HR1.frozen 1
  simp at t0 t1
  clear hb1 HR1
  go_wp2
  exact bodyPost_ret (v := .agg #[.int .i64 F, .slice none 0 0]) (by simp [results, Try.results13, go_sem, t0, t1]) rfl (ansInts_bad ((HW1.out.setCell (by simp) _).setCell (by simp) _) F)

set_option maxHeartbeats 1600000 in
theorem implAt_ok (w : World) (aB aC : Option Addr) (cB cC : Nat) (bs : List (List Int)) (ps : List (Int × List Int)) (x : Nat) (hB : IntsS w (.slice aB bs.length cB) bs) (hP : Puts w (.slice aC ps.length cC) ps) (sB : AtS w aB bs.length bs) (sP : AtP w aC ps.length ps) (hf : faultF bs ps = 0) (hx : x < bs.length)
    (hz : ∀ k : Nat, (bs[k]?.getD []).length ≤ 1048576) (hzp : ∀ k : Nat, (ps[k]?.getD (0, [])).2.length ≤ 1048576) :
    Calls Try.prog 13 #[.agg #[.slice aB bs.length cB, .slice aC ps.length cC], .int .i64 (x : Int)] w (AnsInts w 0 (atF bs ps x)) := by
  have HB : Hid (IntsS w (.slice aB bs.length cB) bs) := hB
  have HP : Hid (Puts w (.slice aC ps.length cC) ps) := hP
  have SB : Hid (AtS w aB bs.length bs) := sB
  have SP : Hid (AtP w aC ps.length ps) := sP
  obtain ⟨g1, g2⟩ := faultF_lens hf
  have HPL : Hid (placeF bs ps (x : Int) = 0) := placeF_ok hf (by unfold placeB; simp [hx])
  have HZ : Hid (∀ k : Nat, (bs[k]?.getD []).length ≤ 1048576) := hz
  have HZP : Hid (∀ k : Nat, (ps[k]?.getD (0, [])).2.length ≤ 1048576) := hzp
  clear hB hP sB sP hf hz hzp
  go_enter Try.func13, Try.ntmps13
  go_wp2_with fail
  refine (placeFault_any _ aB cB _ bs ps x (HB.out.later (later2 _ _ _)) (HP.out.later (later2 _ _ _))).mono ?_
  rw [HPL.out]
  rintro e w1 ⟨rfl, hb1⟩
  have HW1 : Hid (Below w.heap.size w w1) := (later2 _ _ _).trans (hb1.mono (by simp; omega))
  have HR1 : Hid (OwnRow w1 (w.heap.size + 1) 2 (fun i => if i = 0 then .int .i64 0 else .slice none 0 0)) := by
    have h := (OwnRow.two (w.alloc (Obj.cells #[Value.slice aB bs.length cB, Value.slice aC ps.length cC] 27)) (.int .i64 0) (.slice none 0 0) 41).later hb1
    unfold Hid
    simpa using h
  have HX1 : Hid (Box2 w1 w.heap.size (.slice aB bs.length cB) (.slice aC ps.length cC)) := ((Box2.new w _ _ 27).later (later1 _ _)).later hb1
  have hz1 : w.heap.size + 1 < w1.heap.size := HR1.out.lt
  clear hb1
  obtain ⟨x0, x1⟩ := HX1.out
  go_wp2_with fail
  clear x0 x1
  refine (openDisk_walk _ aB aC bs.length cB ps.length cC bs ps rfl rfl g1 g2 (fun k _ => HZ.out k) (fun k _ => HZP.out k) (SB.out.later HW1.out) (SP.out.later HW1.out)).mono ?_
  rintro e w2 ⟨bd, g, aP, cP, pb, k, u, rfl, hdr⟩
  have HDR : Hid (Drive w1 w2 bd (some ⟨g, 0, none⟩) bs.length bs.length aP ps.length cP bs ps pb k u) := hdr
  clear hdr
  go_wp2_with fail
  have hcell0 := HDR.out.row.cell (i := 0) (by omega)
  have hcell1 := HDR.out.row.cell (i := 1) (by omega)
  simp at hcell0 hcell1
  obtain ⟨aB', cB', hvB, _, hSB⟩ := HDR.out.blocks.ints.open'
  simp only [Value.slice.injEq] at hvB
  refine (read_any _ bd (some ⟨g, 0, none⟩) aP bs.length bs.length ps.length cP bs ps x hx g1 rfl g2 hcell0 hcell1 (by rw [hvB.1]; exact hSB) HDR.out.cache.at HZ.out HZP.out).mono ?_
  clear hcell0 hcell1 hvB hSB
  rintro e w3 ⟨ra, rn, rc, rfl, hb3, ho3⟩
  have HW3 : Hid (Below w.heap.size w w3) := (HW1.out.trans (HDR.out.below.mono HW1.out.size)).trans (hb3.mono (by have := HDR.out.below.size; have := HW1.out.size; omega))
  have HO3 : Hid (IntsO w3 (.slice ra rn rc) (atF bs ps x) (fun b => w1.heap.size ≤ b ∧ b < w3.heap.size)) := ho3.mono fun b hb => ⟨Nat.le_trans HDR.out.below.size hb.1, hb.2⟩
  have HR3 := (HR1.out.later HDR.out.below).later hb3
  have t0 := HR3.cell (i := 0) (by omega)
  have t1 := HR3.cell (i := 1) (by omega)
  have t2 := HR3.frozen 0
  have t3 := HR3.frozen 1
  simp at t0 t1
  clear hb3 ho3 HR3
  go_wp2
  refine bodyPost_ret (v := .agg #[.int .i64 0, .slice ra rn rc]) (by simp [results, Try.results13, go_sem, t0, t1]) rfl ⟨_, _, _, rfl, ?_, ?_⟩
  · exact (HW3.out.setCell (by simp) _).setCell (by simp) _
  · refine ((HO3.out.store (fun b hb => ?_) _).store (fun b hb => ?_) _).mono fun b hb => ?_
    · have := hb.1; simp; omega
    · have := hb.1; simp; omega
    · exact ⟨by have := hb.1; omega, by simpa [World.setCell] using hb.2⟩

theorem implAt_any (w : World) (vB vC : Value) (bs : List (List Int)) (ps : List (Int × List Int)) (x : Int) (hB : IntsS w vB bs) (hP : Puts w vC ps) (hz : ∀ k : Nat, (bs[k]?.getD []).length ≤ 1048576) (hzp : ∀ k : Nat, (ps[k]?.getD (0, [])).2.length ≤ 1048576) :
    Calls Try.prog 13 #[.agg #[vB, vC], .int .i64 x] w (AnsInts w (placeF bs ps x) (atList bs ps x)) := by
  obtain ⟨aB, cB, rfl, m1, sB⟩ := hB.open'
  obtain ⟨aC, cC, rfl, m2, sP⟩ := hP.open'
  by_cases h0 : placeF bs ps x = 0
  · have hf : faultF bs ps = 0 := by
      by_cases hf : faultF bs ps = 0
      · exact hf
      · rw [placeF_fault hf] at h0; exact h0
    have hp : placeB bs.length x = true := by
      cases hp : placeB bs.length x
      · rw [placeF_no hf hp] at h0; omega
      · rfl
    have e2 : atList bs ps x = atF bs ps x := by unfold atList; rw [h0]; simp
    rw [h0, e2]
    unfold placeB at hp
    simp at hp
    obtain ⟨n, rfl⟩ := Int.eq_ofNat_of_zero_le hp.1
    exact implAt_ok w aB aC cB cC bs ps n hB hP sB sP hf (by omega) hz hzp
  · have e2 : atList bs ps x = [] := by unfold atList; simp [h0]
    rw [e2]
    exact implAt_bad w aB cB aC _ cC bs ps x hB hP h0
end Go.Proofs.Ytmjdechoookpmaa

namespace Go.Proofs.Ytmjdechoookpmaa
open Go.RowKit
set_option maxRecDepth 100000

def putCode (bs : List (List Int)) (ps : List (Int × List Int)) (x : Int) (ws : List Int) : Int :=
  if placeF bs ps x = 0 then (if wordsF ws = 0 then (if 200 ≤ ps.length then 2 else 0) else wordsF ws) else placeF bs ps x
def putBlocks (bs : List (List Int)) (ps : List (Int × List Int)) (x : Int) (ws : List Int) : List (List Int) := if putCode bs ps x ws = 0 then bs else []
def putCache (bs : List (List Int)) (ps : List (Int × List Int)) (x : Int) (ws : List Int) : List (Int × List Int) := if putCode bs ps x ws = 0 then ps ++ [(x, ws)] else []

theorem three (w : World) (x y z : Value) (t : TypeId) : OwnRow (w.alloc (.cells #[x, y, z] t)) w.heap.size 3 (fun i => if i = 0 then x else if i = 1 then y else z) := by
  refine ⟨_, t, Go.Deep.blk_alloc_new _ _, by simp, fun i hi => ?_⟩
  have : i = 0 ∨ i = 1 ∨ i = 2 := by omega
  rcases this with rfl | rfl | rfl <;> simp

set_option maxHeartbeats 800000 in
theorem specPut_fault (w : World) (vB vC v : Value) (bs : List (List Int)) (ps : List (Int × List Int)) (x : Int) (hB : IntsS w vB bs) (hP : Puts w vC ps) (hf : ¬ faultF bs ps = 0) :
    Calls Try.prog 50 #[.agg #[vB, vC], .int .i64 x, v] w fun e w' => e = .returned (.agg #[.int .i64 (faultF bs ps), .slice none 0 0, .slice none 0 0]) ∧ Below w.heap.size w w' := by
  have HB : Hid (IntsS w vB bs) := hB
  have HP : Hid (Puts w vC ps) := hP
  generalize hc : faultF bs ps = c at *
  have HC : Hid (faultF bs ps = c) := hc
  have hne : (c != 0) = true := by simpa using hf
  clear hB hP hf hc
  go_enter Try.func50, Try.ntmps50
  go_wp2_with fail
  refine (l1Fault_any (vB := vB) (vC := vC) ?_ ?_ (HB.out.later (later2 _ _ _)) (HP.out.later (later2 _ _ _))).mono ?_
  · exact ((Box2.new w vB vC 27).later (later1 _ _)).1
  · exact ((Box2.new w vB vC 27).later (later1 _ _)).2
  rw [HC.out]
  rintro e w' ⟨rfl, m, rfl⟩
  go_wp2
  exact bodyPost_ret (v := .agg #[.int .i64 c, .slice none 0 0, .slice none 0 0]) (by simp [results, Try.results50, go_sem]) rfl ⟨rfl, (((below_drewN (later2 _ _ _) m).setCell (by simp) _).setCell (by simp) _).setCell (by simp) _⟩

set_option maxHeartbeats 800000 in
theorem specPut_place (w : World) (aB : Option Addr) (nB cB : Nat) (vC v : Value) (bs : List (List Int)) (ps : List (Int × List Int)) (x : Int) (hn : nB ≤ maxLen) (hB : IntsS w (.slice aB nB cB) bs) (hP : Puts w vC ps) (hf : faultF bs ps = 0) (hp : placeB nB x = false) :
    Calls Try.prog 50 #[.agg #[.slice aB nB cB, vC], .int .i64 x, v] w fun e w' => e = .returned (.agg #[.int .i64 3, .slice none 0 0, .slice none 0 0]) ∧ Below w.heap.size w w' := by
  have HB : Hid (IntsS w (.slice aB nB cB) bs) := hB
  have HP : Hid (Puts w vC ps) := hP
  have HF : Hid (faultF bs ps = 0) := hf
  have HPL : Hid (placeB nB x = false) := hp
  clear hB hP hf hp
  go_enter Try.func50, Try.ntmps50
  go_wp2_with fail
  refine (l1Fault_any (vB := .slice aB nB cB) (vC := vC) ?_ ?_ (HB.out.later (later2 _ _ _)) (HP.out.later (later2 _ _ _))).mono ?_
  · exact ((Box2.new w (.slice aB nB cB) vC 27).later (later1 _ _)).1
  · exact ((Box2.new w (.slice aB nB cB) vC 27).later (later1 _ _)).2
  rw [HF.out]
  rintro e w' ⟨rfl, m, rfl⟩
  go_wp2_with fail
  refine (l1Place_any _ _ aB nB cB x hn ?_).mono ?_
  · exact ((Box2.new w (.slice aB nB cB) vC 27).later (later1 _ _)).1
  rw [HPL.out]
  rintro e w' ⟨rfl, rfl⟩
  go_wp2
  exact bodyPost_ret (v := .agg #[.int .i64 3, .slice none 0 0, .slice none 0 0]) (by simp [results, Try.results50, go_sem]) rfl ⟨rfl, (((below_drewN (later2 _ _ _) m).setCell (by simp) _).setCell (by simp) _).setCell (by simp) _⟩

set_option maxHeartbeats 800000 in
theorem specPut_words (w : World) (aB : Option Addr) (nB cB : Nat) (vC v : Value) (bs : List (List Int)) (ps : List (Int × List Int)) (x : Int) (ws : List Int) (hn : nB ≤ maxLen) (hB : IntsS w (.slice aB nB cB) bs) (hP : Puts w vC ps) (hV : Ints w v ws) (hf : faultF bs ps = 0) (hp : placeB nB x = true) (hw : ¬ wordsF ws = 0) :
    Calls Try.prog 50 #[.agg #[.slice aB nB cB, vC], .int .i64 x, v] w fun e w' => e = .returned (.agg #[.int .i64 (wordsF ws), .slice none 0 0, .slice none 0 0]) ∧ Below w.heap.size w w' := by
  have HB : Hid (IntsS w (.slice aB nB cB) bs) := hB
  have HP : Hid (Puts w vC ps) := hP
  have HV : Hid (Ints w v ws) := hV
  have HF : Hid (faultF bs ps = 0) := hf
  have HPL : Hid (placeB nB x = true) := hp
  generalize hc : wordsF ws = c at *
  have HC : Hid (wordsF ws = c) := hc
  have hne : (c != 0) = true := by simpa using hw
  clear hB hP hf hp hV hc hw
  go_enter Try.func50, Try.ntmps50
  go_wp2_with fail
  refine (l1Fault_any (vB := .slice aB nB cB) (vC := vC) ?_ ?_ (HB.out.later (later2 _ _ _)) (HP.out.later (later2 _ _ _))).mono ?_
  · exact ((Box2.new w (.slice aB nB cB) vC 27).later (later1 _ _)).1
  · exact ((Box2.new w (.slice aB nB cB) vC 27).later (later1 _ _)).2
  rw [HF.out]
  rintro e w' ⟨rfl, m, rfl⟩
  go_wp2_with fail
  refine (l1Place_any _ _ aB nB cB x hn ?_).mono ?_
  · exact ((Box2.new w (.slice aB nB cB) vC 27).later (later1 _ _)).1
  rw [HPL.out]
  rintro e w' ⟨rfl, rfl⟩
  go_wp2_with fail
  refine (l1Words_any (HV.out.later (below_drewN (later2 _ _ _) m))).mono ?_
  rw [HC.out]
  rintro e w' ⟨rfl, rfl⟩
  go_wp2
  exact bodyPost_ret (v := .agg #[.int .i64 c, .slice none 0 0, .slice none 0 0]) (by simp [results, Try.results50, go_sem]) rfl ⟨rfl, (((below_drewN (later2 _ _ _) m).setCell (by simp) _).setCell (by simp) _).setCell (by simp) _⟩

set_option maxHeartbeats 800000 in
theorem specPut_full (w : World) (aB : Option Addr) (nB cB : Nat) (aC : Option Addr) (nC cC : Nat) (v : Value) (bs : List (List Int)) (ps : List (Int × List Int)) (x : Int) (ws : List Int) (hn : nB ≤ maxLen) (hB : IntsS w (.slice aB nB cB) bs) (hP : Puts w (.slice aC nC cC) ps) (hV : Ints w v ws) (hf : faultF bs ps = 0) (hp : placeB nB x = true) (hw : wordsF ws = 0) (hq : 200 ≤ nC) :
    Calls Try.prog 50 #[.agg #[.slice aB nB cB, .slice aC nC cC], .int .i64 x, v] w fun e w' => e = .returned (.agg #[.int .i64 2, .slice none 0 0, .slice none 0 0]) ∧ Below w.heap.size w w' := by
  have HB : Hid (IntsS w (.slice aB nB cB) bs) := hB
  have HP : Hid (Puts w (.slice aC nC cC) ps) := hP
  have HV : Hid (Ints w v ws) := hV
  have HF : Hid (faultF bs ps = 0) := hf
  have HPL : Hid (placeB nB x = true) := hp
  have HC : Hid (wordsF ws = 0) := hw
  have hq' : (200 : Int) ≤ (nC : Int) := by omega
  clear hB hP hf hp hV hw
  go_enter Try.func50, Try.ntmps50
  go_wp2_with fail
  refine (l1Fault_any (vB := .slice aB nB cB) (vC := .slice aC nC cC) ?_ ?_ (HB.out.later (later2 _ _ _)) (HP.out.later (later2 _ _ _))).mono ?_
  · exact ((Box2.new w (.slice aB nB cB) (.slice aC nC cC) 27).later (later1 _ _)).1
  · exact ((Box2.new w (.slice aB nB cB) (.slice aC nC cC) 27).later (later1 _ _)).2
  rw [HF.out]
  rintro e w' ⟨rfl, m, rfl⟩
  go_wp2_with fail
  refine (l1Place_any _ _ aB nB cB x hn ?_).mono ?_
  · exact ((Box2.new w (.slice aB nB cB) (.slice aC nC cC) 27).later (later1 _ _)).1
  rw [HPL.out]
  rintro e w' ⟨rfl, rfl⟩
  go_wp2_with fail
  refine (l1Words_any (HV.out.later (below_drewN (later2 _ _ _) m))).mono ?_
  rw [HC.out]
  rintro e w' ⟨rfl, rfl⟩
  go_wp2
  exact bodyPost_ret (v := .agg #[.int .i64 2, .slice none 0 0, .slice none 0 0]) (by simp [results, Try.results50, go_sem]) rfl ⟨rfl, (((below_drewN (later2 _ _ _) m).setCell (by simp) _).setCell (by simp) _).setCell (by simp) _⟩
end Go.Proofs.Ytmjdechoookpmaa

namespace Go.Proofs.Ytmjdechoookpmaa
open Go.RowKit
set_option maxRecDepth 100000

theorem faultF_places {bs : List (List Int)} {ps : List (Int × List Int)} (h : faultF bs ps = 0) : ∀ k, k < ps.length → ∃ x : Nat, (ps[k]?.getD (0, [])).1 = x ∧ x < bs.length := by
  have g := faultF_lens h
  have hb : ∀ n, ∀ i : Nat, i < n → i < bs.length → wordsF (bs[i]?.getD []) = 0 := by
    intro n
    induction n with
    | zero => intro i hi; omega
    | succ n ih =>
      intro i hi hl
      by_cases e : wordsF (bs[i]?.getD []) = 0
      · exact e
      · exact absurd (faultF_block (ps := ps) (by omega) hl (fun j hj => ih j (by omega) (by omega)) e) (by rw [h]; exact fun e' => e e'.symm)
  have hp : ∀ n, ∀ i : Nat, i < n → i < ps.length → putF bs.length (ps[i]?.getD (0, [])) = 0 := by
    intro n
    induction n with
    | zero => intro i hi; omega
    | succ n ih =>
      intro i hi hl
      by_cases e : putF bs.length (ps[i]?.getD (0, [])) = 0
      · exact e
      · exact absurd (faultF_put (by omega) (fun j hj => hb (j + 1) j (by omega) hj) hl (fun j hj => ih j (by omega) (by omega)) e) (by rw [h]; exact fun e' => e e'.symm)
  intro k hk
  have := hp (k + 1) k (by omega) hk
  unfold putF at this
  split at this
  · rename_i hq
    unfold placeB at hq
    simp only [decide_eq_true_eq] at hq
    exact ⟨(ps[k]?.getD (0, [])).1.toNat, by omega, by omega⟩
  · omega

/-- What a flush or a crash leaves in the blocks. -/
def keepBlocks (pk : Nat → Bool) (bs : List (List Int)) (ps : List (Int × List Int)) : List (List Int) := if faultF bs ps = 0 then keepTo pk bs ps ps.length else []

end Go.Proofs.Ytmjdechoookpmaa

namespace Go.Proofs.Ytmjdechoookpmaa
open Go.RowKit
set_option maxRecDepth 100000

theorem LRow.puts2 {w : World} {base lo : Nat} {e : TypeId} {v : Value} {n : Nat} {k : Nat → Nat} {u : Nat → Value} {ps : List (Int × List Int)} (h : LRow (C2 fun i => (ps[i]?.getD (0, [])).1) w base lo e 2 v n (fun i => (ps[i]?.getD (0, [])).2) k u) (hn : ps.length = n) (F : Nat → Prop) (hF : ∀ g, v.ownBlock = some g → F g) (hF' : ∀ i, i < n → F (k i)) : PutsO w v ps F := by
  subst hn
  by_cases h0 : ps.length = 0
  · obtain ⟨a, c, rfl⟩ := h.shape
    exact Or.inl ⟨List.eq_nil_of_length_eq_zero h0, a, c, by rw [h0]⟩
  · obtain ⟨g, cap, rfl, _, _, hm, hrow⟩ := h.cells (by decide) (fun _ => rfl) (by omega)
    refine Or.inr ⟨g, cap, u, fun i c => i < ps.length ∧ c = k i, hF g rfl, fun i c hc => ?_, fun i j c e h1 h2 => h.inj i j h1.1 h2.1 e (h1.2.symm.trans h2.2), rfl, hm, ?_, fun i hi => (h.at' i hi).mono fun c hc => ⟨hi, hc⟩⟩
    · have hne := h.ne i hc.1
      rw [hc.2]
      exact ⟨hF' i hc.1, fun e => hne (by simp [Value.ownBlock, e])⟩
    · refine hrow.congr fun c hc => ?_
      unfold putCell C2
      rcases Nat.mod_two_eq_zero_or_one c with h | h <;> simp [h]

/-- The puts, and one more. -/
def more (ps : List (Int × List Int)) (x : Int) (ws : List Int) (i : Nat) : Int × List Int := (ps ++ [(x, ws)])[i]?.getD (0, [])
theorem more_old {ps : List (Int × List Int)} {x : Int} {ws : List Int} {i : Nat} (h : i < ps.length) : more ps x ws i = ps[i]?.getD (0, []) := by unfold more; rw [List.getElem?_append_left h]
theorem more_new {ps : List (Int × List Int)} {x : Int} {ws : List Int} : more ps x ws ps.length = (x, ws) := by unfold more; simp

set_option maxHeartbeats 3200000 in
theorem specPut_ok (hcp : L1CopySaid) (w : World) (aB aC : Option Addr) (cB cC : Nat) (v : Value) (bs : List (List Int)) (ps : List (Int × List Int)) (x : Int) (ws : List Int) (hB : IntsS w (.slice aB bs.length cB) bs) (hP : Puts w (.slice aC ps.length cC) ps) (sB : AtS w aB bs.length bs) (sP : AtP w aC ps.length ps) (hV : Ints w v ws) (hf : faultF bs ps = 0) (hp : placeB bs.length x = true) (hw : wordsF ws = 0) (hq : ¬ 200 ≤ ps.length)
    (hz : ∀ k : Nat, (bs[k]?.getD []).length ≤ 1048576) (hzp : ∀ k : Nat, (ps[k]?.getD (0, [])).2.length ≤ 1048576) (hzw : ws.length ≤ 1048576) :
    Calls Try.prog 50 #[.agg #[.slice aB bs.length cB, .slice aC ps.length cC], .int .i64 x, v] w (AnsDisk w 0 bs (ps ++ [(x, ws)])) := by
  have HCP : Hid L1CopySaid := hcp
  have HB : Hid (IntsS w (.slice aB bs.length cB) bs) := hB
  have HP : Hid (Puts w (.slice aC ps.length cC) ps) := hP
  have SB : Hid (AtS w aB bs.length bs) := sB
  have SP : Hid (AtP w aC ps.length ps) := sP
  have HV : Hid (Ints w v ws) := hV
  have HF : Hid (faultF bs ps = 0) := hf
  obtain ⟨g1, g2⟩ := faultF_lens hf
  have HPL : Hid (placeB bs.length x = true) := hp
  have HC : Hid (wordsF ws = 0) := hw
  have HZ : Hid (∀ k : Nat, (bs[k]?.getD []).length ≤ 1048576) := hz
  have HZP : Hid (∀ k : Nat, (ps[k]?.getD (0, [])).2.length ≤ 1048576) := hzp
  have HZW : Hid (ws.length ≤ 1048576) := hzw
  have G1 : Hid (bs.length ≤ 60) := g1
  have G2 : Hid (ps.length ≤ 200) := g2
  have hd : decide ((200 : Int) ≤ (ps.length : Int)) = false := by simp; omega
  have HMX : Hid (bs.length ≤ maxLen) := by unfold Hid maxLen; omega
  clear hB hP hf hp hV hw sB sP hz hzp hzw hcp hq g1 g2
  go_enter Try.func50, Try.ntmps50
  go_wp2_with fail
  refine (l1Fault_any (vB := .slice aB bs.length cB) (vC := .slice aC ps.length cC) ?_ ?_ (HB.out.later (later2 _ _ _)) (HP.out.later (later2 _ _ _))).mono ?_
  · exact ((Box2.new w (.slice aB bs.length cB) (.slice aC ps.length cC) 27).later (later1 _ _)).1
  · exact ((Box2.new w (.slice aB bs.length cB) (.slice aC ps.length cC) 27).later (later1 _ _)).2
  rw [HF.out]
  rintro e w' ⟨rfl, m, rfl⟩
  go_wp2_with fail
  refine (l1Place_any _ _ aB bs.length cB x HMX.out ?_).mono ?_
  · exact ((Box2.new w (.slice aB bs.length cB) (.slice aC ps.length cC) 27).later (later1 _ _)).1
  rw [HPL.out]
  rintro e w' ⟨rfl, rfl⟩
  go_wp2_with fail
  refine (l1Words_any (HV.out.later (below_drewN (later2 _ _ _) m))).mono ?_
  rw [HC.out]
  rintro e w' ⟨rfl, rfl⟩
  go_wp2_with fail
  refine (HCP.out _ aB aC bs.length cB ps.length cC bs ps rfl rfl G1.out G2.out HZ.out HZP.out (SB.out.later (below_drewN (later2 _ _ _) m)) (SP.out.later (below_drewN (later2 _ _ _) m))).mono ?_
  rintro e w1 ⟨S, aX, cX, aY, cY, k, u, rfl, hb1, hS1, hS2, hio, hlr⟩
  have hS0 : w.heap.size + 1 + 1 ≤ S := by have := hS1; simp [World.drewN] at this; omega
  have HW1 : Hid (Below w.heap.size w w1) := (below_drewN (later2 _ _ _) m).trans (hb1.mono (by simp [World.drewN]; omega))
  have HR1 : Hid (OwnRow w1 (w.heap.size + 1) 3 (fun i => if i = 0 then .int .i64 0 else if i = 1 then .slice none 0 0 else .slice none 0 0)) := by
    have h := (three (w.alloc (Obj.cells #[Value.slice aB bs.length cB, Value.slice aC ps.length cC] 27)) (.int .i64 0) (.slice none 0 0) (.slice none 0 0) 32)
    have h2 := (h.later (below_drewN (Below.refl _ _) m)).later hb1
    unfold Hid
    simpa using h2
  have HIO : Hid (IntsSO w1 (.slice aX bs.length cX) bs (fun c => w.heap.size + 1 + 1 ≤ c ∧ c < S)) := hio.mono fun b hb => ⟨by have := hb.1; simp [World.drewN] at this; omega, hb.2⟩
  have HLR : Hid (LRow (C2 fun i => (more ps x ws i).1) w1 S S 38 2 (.slice aY ps.length cY) ps.length (fun i => (more ps x ws i).2) k u) := hlr.congr2 (fun i hi => by rw [more_old hi]) (fun i hi => by rw [more_old hi])
  have hS2' : S ≤ w1.heap.size := hS2
  have HVW : Hid (Ints (w1.alloc (.cells #[.slice aX bs.length cX, .slice aY ps.length cY] 27)) v (more ps x ws ps.length).2) := by unfold Hid; rw [more_new]; exact (HV.out.later HW1.out).later (later1 _ _)
  have HK : Hid (Calls _ _ _ _ _) := l1Ints_put2 (w1.alloc (.cells #[.slice aX bs.length cX, .slice aY ps.length cY] 27)) S ps.length _ _ (more ps x ws) k u (HLR.out.later (later1 _ _)) (by simp; omega) (by have := G2.out; omega) HVW.out (by rw [more_new]; exact HZW.out)
  have hrowlt : ∀ g, (Value.slice aY ps.length cY).ownBlock = some g → g < w1.heap.size := fun g hg => (HLR.out.own.lt g hg).2
  have HNE : Hid ((Value.slice aY ps.length cY).ownBlock ≠ some w1.heap.size) := fun e => by have := hrowlt _ e; omega
  rw [more_new] at HK
  clear hb1 hS1 hS2 hio hlr
  go_wp2_with fail
  go_region_law
    (first
      | (refine step_append_run rfl _ _ 25 rfl _ _ rfl rfl _ _ HR.out ?_)
      | (go_simp; go_at_call 83; refine HK.out.mono ?_; rintro e w2 ⟨na, nc, g2', cap2, X, k', u', rfl, HR, hb2, hXb, hXs, hat, hkk, hBX, HL⟩
         have HXB : Hid (∀ b, b < (w1.alloc (.cells #[.slice aX bs.length cX, .slice aY ps.length cY] 27)).heap.size → (Value.slice aY ps.length cY).ownBlock ≠ some b → X.heap[b]? = (w1.alloc (.cells #[.slice aX bs.length cX, .slice aY ps.length cY] 27)).heap[b]?) := hXb
         have HOUT : OwnRow X w1.heap.size 2 (fun i => if i = 0 then .slice aX bs.length cX else .slice aY ps.length cY) := (OwnRow.two w1 (.slice aX bs.length cX) (.slice aY ps.length cY) 27).block (hXb _ (by simp) HNE.out)
         have x0 := HOUT.cell (i := 0) (by omega)
         have x1 := HOUT.cell (i := 1) (by omega)
         have x2 := HOUT.frozen 1
         have o0 := cell_later hb2 (show (w1.alloc (.cells #[.slice aX bs.length cX, .slice aY ps.length cY] 27)).cell? ⟨w1.heap.size, 1, none⟩ = some (.slice aY ps.length cY) by rw [new_cell]; rfl)
         have hw2 : w1.heap.size < w2.heap.size := by have := hb2.size; simp at this; omega
         have HBX : Hid (Below S (w1.alloc (.cells #[.slice aX bs.length cX, .slice aY ps.length cY] 27)) X) := hBX
         have HAT : Hid ((Value.slice aY ps.length cY).ownBlock = some g2' ∨ (w1.alloc (.cells #[.slice aX bs.length cX, .slice aY ps.length cY] 27)).heap.size < g2') := hat
         have HKK : Hid (∀ i, i < ps.length + 1 → k' i = k i ∧ i < ps.length ∨ (w1.alloc (.cells #[.slice aX bs.length cX, .slice aY ps.length cY] 27)).heap.size ≤ k' i) := hkk
         simp at x0 x1
         clear hb2 hXb hXs hat hkk hBX HOUT))
  all_goals
    have hz1 : w.heap.size + 1 < w1.heap.size := by omega
    have hzz : w.heap.size + 1 ≠ w1.heap.size := by omega
    have HRX : OwnRow X (w.heap.size + 1) 3 (fun i => if i = 0 then .int .i64 0 else if i = 1 then .slice none 0 0 else .slice none 0 0) := (HR1.out.later (later1 _ _)).block (HXB.out _ (by simp; omega) (fun e => by have := (HLR.out.own.lt _ e).1; omega))
    have r0 := HRX.cell (i := 0) (by omega)
    have r1 := HRX.cell (i := 1) (by omega)
    have r2 := HRX.cell (i := 2) (by omega)
    have s0 := HRX.frozen 0
    have s1 := HRX.frozen 1
    have s2 := HRX.frozen 2
    simp at r0 r1 r2
    clear HRX
    go_wp2
    refine bodyPost_ret (v := .agg #[.int .i64 0, .slice aX bs.length cX, .slice (some ⟨g2', 0, none⟩) (ps.length + 1) cap2]) (by simp [results, Try.results50, go_sem, r0, r1, r2]) rfl ⟨_, _, _, _, _, _, rfl, ?_, ?_⟩
    · exact (((((HW1.out.trans ((later1 _ _).mono HW1.out.size)).trans (HBX.out.mono (by omega))).setCell (by simp; omega) _).setCell (by simp) _).setCell (by simp) _).setCell (by simp) _
    · have hg : g2' ≠ w1.heap.size ∧ S ≤ g2' ∧ g2' < X.heap.size := by
        have h1 := HL.out.own.lt g2' rfl
        refine ⟨?_, h1.1, h1.2⟩
        rcases HAT.out with h | h
        · have := hrowlt _ h; omega
        · simp at h; omega
      have hk : ∀ i, i < ps.length + 1 → k' i ≠ w1.heap.size ∧ S ≤ k' i ∧ k' i < X.heap.size := by
        intro i hi
        have h1 := HL.out.lo i hi
        refine ⟨?_, h1.1, h1.2⟩
        rcases HKK.out i hi with ⟨h, h2⟩ | h
        · have := (HLR.out.lo i h2).2; omega
        · simp at h; omega
      refine ⟨fun c => w.heap.size + 1 + 1 ≤ c ∧ c < S, fun c => S ≤ c ∧ c ≠ w1.heap.size ∧ c < X.heap.size, ?_, ?_, fun b h1 h2 => by omega, fun b hb => ?_⟩
      · have h1 := (HIO.out.keep (w' := X) fun b hb hlt => (HBX.out.block b (by omega)).trans ((later1 _ _).block b hlt))
        exact (((h1.store (fun b hb => by simp; omega) _).store (fun b hb => by simp; omega) _).store (fun b hb => by simp; omega) _).store (fun b hb => by simp; omega) _
      · have h1 : PutsO X (.slice (some ⟨g2', 0, none⟩) (ps.length + 1) cap2) (ps ++ [(x, ws)]) (fun c => S ≤ c ∧ c ≠ w1.heap.size ∧ c < X.heap.size) :=
          LRow.puts2 (ps := ps ++ [(x, ws)]) HL.out (by simp) _ (fun g hg' => by
            have e : g2' = g := by simpa [Value.ownBlock] using hg'
            subst e; exact ⟨hg.2.1, hg.1, hg.2.2⟩) (fun i hi => ⟨(hk i hi).2.1, (hk i hi).1, (hk i hi).2.2⟩)
        exact (((h1.store (fun b hb => by simp; omega) _).store (fun b hb => by simp; omega) _).store (fun b hb => by simp; omega) _).store (fun b hb => by simp; omega) _
      · simp only [World.setCell, Array.size_modify]
        have := HBX.out.size
        simp at this
        rcases hb with hb | hb <;> omega

theorem specPut_any (hcp : L1CopySaid) (w : World) (vB vC v : Value) (bs : List (List Int)) (ps : List (Int × List Int)) (x : Int) (ws : List Int) (hB : IntsS w vB bs) (hP : Puts w vC ps) (hV : Ints w v ws) (hz : ∀ k : Nat, (bs[k]?.getD []).length ≤ 1048576) (hzp : ∀ k : Nat, (ps[k]?.getD (0, [])).2.length ≤ 1048576) (hzw : ws.length ≤ 1048576) :
    Calls Try.prog 50 #[.agg #[vB, vC], .int .i64 x, v] w (AnsDisk w (putCode bs ps x ws) (putBlocks bs ps x ws) (putCache bs ps x ws)) := by
  obtain ⟨aB, cB, rfl, m1, sB⟩ := hB.open'
  obtain ⟨aC, cC, rfl, m2, sP⟩ := hP.open'
  have bad : ∀ c : Int, ¬ c = 0 → putCode bs ps x ws = c → (∀ e w', (e = .returned (.agg #[.int .i64 c, .slice none 0 0, .slice none 0 0]) ∧ Below w.heap.size w w') → AnsDisk w (putCode bs ps x ws) (putBlocks bs ps x ws) (putCache bs ps x ws) e w') := by
    intro c hc he e w' ⟨h1, h2⟩
    have e1 : putBlocks bs ps x ws = [] := by unfold putBlocks; rw [he]; simp [hc]
    have e2 : putCache bs ps x ws = [] := by unfold putCache; rw [he]; simp [hc]
    rw [he, e1, e2, h1]
    exact ans_bad h2 c
  by_cases hf : faultF bs ps = 0
  · cases hp : placeB bs.length x
    · have e0 := placeF_no hf hp
      exact (specPut_place w aB _ cB _ v bs ps x m1 hB hP hf hp).mono fun e w' h => bad 3 (by decide) (by unfold putCode; rw [e0]; simp) e w' h
    · have e0 := placeF_ok hf hp
      by_cases hw : wordsF ws = 0
      · by_cases hq : 200 ≤ ps.length
        · exact (specPut_full w aB _ cB aC _ cC v bs ps x ws m1 hB hP hV hf hp hw hq).mono fun e w' h => bad 2 (by decide) (by unfold putCode; simp [e0, hw, hq]) e w' h
        · have ec : putCode bs ps x ws = 0 := by unfold putCode; simp [e0, hw, hq]
          have e1 : putBlocks bs ps x ws = bs := by unfold putBlocks; simp [ec]
          have e2 : putCache bs ps x ws = ps ++ [(x, ws)] := by unfold putCache; simp [ec]
          rw [ec, e1, e2]
          exact specPut_ok hcp w aB aC cB cC v bs ps x ws hB hP sB sP hV hf hp hw hq hz hzp hzw
      · exact (specPut_words w aB _ cB _ v bs ps x ws m1 hB hP hV hf hp hw).mono fun e w' h => bad _ hw (by unfold putCode; simp [e0, hw]) e w' h
  · have e0 := placeF_fault (x := x) hf
    exact (specPut_fault w _ _ v bs ps x hB hP hf).mono fun e w' h => bad _ hf (by unfold putCode; rw [e0]; simp [hf]) e w' h
end Go.Proofs.Ytmjdechoookpmaa
