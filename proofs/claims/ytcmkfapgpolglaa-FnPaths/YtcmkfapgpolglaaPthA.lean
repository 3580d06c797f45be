
/- What of a path is wrong: the walk of the program's pathFault. -/
import Derived.Test.YtcmkfapgpolglaaItC
import Derived.Test.YtcmkfapgpolglaaShlS
namespace Go.Proofs.Ytcmkfapgpolglaa
open Go.RowKit
set_option maxRecDepth 100000

def preB (l : List UInt8) : Bool := l.head? == some 47
def sufB (l : List UInt8) : Bool := l.getLast? == some 47
def topB (l : List UInt8) : Bool := l == [47]
theorem pre_lib (l : List UInt8) : Lib.hasPrefix l [47] = preB l := by
  cases l with
  | nil => rfl
  | cons b t => simp [Lib.hasPrefix, preB, List.isPrefixOf]; exact BEq.comm
theorem suf_lib (l : List UInt8) : Lib.hasSuffix l [47] = sufB l := by
  unfold Lib.hasSuffix sufB
  cases h : l.reverse with
  | nil =>
    have : l = [] := by simpa using h
    subst this; rfl
  | cons b t =>
    have : l = t.reverse ++ [b] := by
      have := congrArg List.reverse h
      simpa using this
    subst this
    simp [List.isSuffixOf, List.isPrefixOf]; exact BEq.comm
def pathF (l : List UInt8) : Int :=
  if 30 < l.length then 2 else if preB l = true then (if sufB l = true ∧ topB l = false then 5 else if 6 < (namesL l).length then 2 else namesF (namesL l)) else 5

theorem hasPre_any (w : World) (l : List UInt8) : Calls Try.prog 108 #[.string (mkB l), .string ⟨#[47]⟩] w fun e w' => e = .returned (.bool (preB l)) ∧ w' = w := by
  have h := Try.strings_HasPrefix (mkB l) ⟨#[47]⟩ w
  rw [mkB_list] at h
  rw [← pre_lib]
  exact h
theorem hasSuf_any (w : World) (l : List UInt8) (hl : l.length ≤ 1048576) : Calls Try.prog 109 #[.string (mkB l), .string ⟨#[47]⟩] w fun e w' => e = .returned (.bool (sufB l)) ∧ w' = w := by
  have h := Try.strings_HasSuffix (mkB l) ⟨#[47]⟩ w (by rw [mkB_size]; omega)
  rw [mkB_list] at h
  rw [← suf_lib]
  exact h

set_option maxHeartbeats 1600000 in
theorem pathFault_any (w : World) (l : List UInt8) (hl : l.length ≤ 1048576) :
    Calls Try.prog 82 #[.string (mkB l)] w fun e w' => e = .returned (.int .i64 (pathF l)) ∧ Below w.heap.size w w' := by
  have hsz := mkB_size l
  have HP : Hid (pathF l = if 30 < l.length then 2 else if preB l = true then (if sufB l = true ∧ topB l = false then 5 else if 6 < (namesL l).length then 2 else namesF (namesL l)) else 5) := rfl
  rw [HP.out]
  by_cases h30 : 30 < l.length
  · rw [if_pos h30]
    have h30' : (30 : Int) < (l.length : Int) := by omega
    go_enter Try.func82, Try.ntmps82
    go_wp2
    go_ret
    exact ⟨rfl, Below.refl _ _⟩
  · rw [if_neg h30]
    have h30' : decide ((30 : Int) < (l.length : Int)) = false := by simp; omega
    have h30'' : decide (30 < l.length) = false := by simp; omega
    clear h30
    cases hpre : preB l
    · have HQ : Hid (preB l = false) := hpre
      rw [if_neg (by simp)]
      clear hpre
      go_enter Try.func82, Try.ntmps82
      go_wp2_with fail
      refine (hasPre_any _ l).mono ?_
      rw [HQ.out]
      rintro e w1 ⟨rfl, rfl⟩
      go_wp2
      go_ret
      exact ⟨rfl, Below.refl _ _⟩
    · have HQ : Hid (preB l = true) := hpre
      rw [if_pos rfl]
      clear hpre HP
      by_cases hbad : sufB l = true ∧ topB l = false
      · rw [if_pos hbad]
        have HS : Hid (sufB l = true) := hbad.1
        have ht : ((mkB l).toList == [47]) = false := by rw [mkB_toList]; exact hbad.2
        clear hbad
        go_enter Try.func82, Try.ntmps82
        go_wp2_with fail
        refine (hasPre_any _ l).mono ?_
        rw [HQ.out]
        rintro e w1 ⟨rfl, rfl⟩
        go_wp2_with fail
        refine (hasSuf_any _ l hl).mono ?_
        rw [HS.out]
        rintro e w1 ⟨rfl, rfl⟩
        go_wp2
        go_ret
        exact ⟨rfl, Below.refl _ _⟩
      · rw [if_neg hbad]
        cases hs : sufB l
        · have HS : Hid (sufB l = false) := hs
          clear hs hbad
          by_cases h6 : 6 < (namesL l).length
          · rw [if_pos h6]
            have h6' : (6 : Int) < ((namesL l).length : Int) := by omega
            go_enter Try.func82, Try.ntmps82
            go_wp2_with fail
            refine (hasPre_any _ l).mono ?_
            rw [HQ.out]
            rintro e w1 ⟨rfl, rfl⟩
            go_wp2_with fail
            refine (hasSuf_any _ l hl).mono ?_
            rw [HS.out]
            rintro e w1 ⟨rfl, rfl⟩
            go_wp2_with fail
            refine (namesOf_any _ l).mono ?_
            rintro e w2 ⟨rfl, rfl⟩
            go_wp2_with fail
            refine (howMany_any _ _ l hl (by simp) (cell_new_l w1 _ _).1).mono ?_
            rintro e w2 ⟨rfl, hb2⟩
            have HW2 : Hid (Below w1.heap.size w1 w2) := (later1 _ _).trans (hb2.mono (by simp))
            clear hb2
            go_wp2
            go_ret
            exact ⟨rfl, HW2.out⟩
          · rw [if_neg h6]
            have h6' : decide ((6 : Int) < ((namesL l).length : Int)) = false := by simp; omega
            have h6'' : decide (6 < (namesL l).length) = false := by simp; omega
            clear h6
            go_enter Try.func82, Try.ntmps82
            go_wp2_with fail
            refine (hasPre_any _ l).mono ?_
            rw [HQ.out]
            rintro e w1 ⟨rfl, rfl⟩
            go_wp2_with fail
            refine (hasSuf_any _ l hl).mono ?_
            rw [HS.out]
            rintro e w1 ⟨rfl, rfl⟩
            go_wp2_with fail
            refine (namesOf_any _ l).mono ?_
            rintro e w2 ⟨rfl, rfl⟩
            go_wp2_with fail
            refine (howMany_any _ _ l hl (by simp) (cell_new_l w1 _ _).1).mono ?_
            rintro e w2 ⟨rfl, hb2⟩
            have HW2 : Hid (Below w1.heap.size w1 w2) := (later1 _ _).trans (hb2.mono (by simp))
            clear hb2
            go_wp2_with fail
            refine (namesOf_any _ l).mono ?_
            rintro e w3 ⟨rfl, rfl⟩
            go_wp2_with fail
            refine (namesFault_any _ _ l hl (by simp) (cell_new_l w2 _ _).1).mono ?_
            rintro e w3 ⟨rfl, hb3⟩
            have HW3 : Hid (Below w1.heap.size w1 w3) := HW2.out.trans (((later1 _ _).trans (hb3.mono (by simp))).mono HW2.out.size)
            clear hb3
            go_wp2
            go_ret
            exact ⟨rfl, HW3.out⟩
        · have HS : Hid (sufB l = true) := hs
          have ht : ((mkB l).toList == [47]) = true := by
            rw [mkB_toList]
            cases h : topB l
            · exact absurd ⟨hs, h⟩ hbad
            · exact h
          clear hs hbad
          by_cases h6 : 6 < (namesL l).length
          · rw [if_pos h6]
            have h6' : (6 : Int) < ((namesL l).length : Int) := by omega
            go_enter Try.func82, Try.ntmps82
            go_wp2_with fail
            refine (hasPre_any _ l).mono ?_
            rw [HQ.out]
            rintro e w1 ⟨rfl, rfl⟩
            go_wp2_with fail
            refine (hasSuf_any _ l hl).mono ?_
            rw [HS.out]
            rintro e w1 ⟨rfl, rfl⟩
            go_wp2_with fail
            refine (namesOf_any _ l).mono ?_
            rintro e w2 ⟨rfl, rfl⟩
            go_wp2_with fail
            refine (howMany_any _ _ l hl (by simp) (cell_new_l w1 _ _).1).mono ?_
            rintro e w2 ⟨rfl, hb2⟩
            have HW2 : Hid (Below w1.heap.size w1 w2) := (later1 _ _).trans (hb2.mono (by simp))
            clear hb2
            go_wp2
            go_ret
            exact ⟨rfl, HW2.out⟩
          · rw [if_neg h6]
            have h6' : decide ((6 : Int) < ((namesL l).length : Int)) = false := by simp; omega
            have h6'' : decide (6 < (namesL l).length) = false := by simp; omega
            clear h6
            go_enter Try.func82, Try.ntmps82
            go_wp2_with fail
            refine (hasPre_any _ l).mono ?_
            rw [HQ.out]
            rintro e w1 ⟨rfl, rfl⟩
            go_wp2_with fail
            refine (hasSuf_any _ l hl).mono ?_
            rw [HS.out]
            rintro e w1 ⟨rfl, rfl⟩
            go_wp2_with fail
            refine (namesOf_any _ l).mono ?_
            rintro e w2 ⟨rfl, rfl⟩
            go_wp2_with fail
            refine (howMany_any _ _ l hl (by simp) (cell_new_l w1 _ _).1).mono ?_
            rintro e w2 ⟨rfl, hb2⟩
            have HW2 : Hid (Below w1.heap.size w1 w2) := (later1 _ _).trans (hb2.mono (by simp))
            clear hb2
            go_wp2_with fail
            refine (namesOf_any _ l).mono ?_
            rintro e w3 ⟨rfl, rfl⟩
            go_wp2_with fail
            refine (namesFault_any _ _ l hl (by simp) (cell_new_l w2 _ _).1).mono ?_
            rintro e w3 ⟨rfl, hb3⟩
            have HW3 : Hid (Below w1.heap.size w1 w3) := HW2.out.trans (((later1 _ _).trans (hb3.mono (by simp))).mono HW2.out.size)
            clear hb3
            go_wp2
            go_ret
            exact ⟨rfl, HW3.out⟩
end Go.Proofs.Ytcmkfapgpolglaa
