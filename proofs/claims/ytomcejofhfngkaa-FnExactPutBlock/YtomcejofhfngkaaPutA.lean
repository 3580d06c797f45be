
/- The walk of the specification's PutBlock. -/
import Derived.Test.YtomcejofhfngkaaRowM
import Derived.Test.YtomcejofhfngkaaAtB
namespace Go.Proofs.Ytomcejofhfngkaa
open Go.RowKit
set_option maxRecDepth 100000

def putCode (bs : List (List Int)) (ps : List (Int × List Int)) (x : Int) (ws : List Int) : Int :=
  if placeF bs ps x = 0 then (if wordsF ws = 0 then (if 200 ≤ ps.length then 2 else 0) else wordsF ws) else placeF bs ps x
def putBlocks (bs : List (List Int)) (ps : List (Int × List Int)) (x : Int) (ws : List Int) : List (List Int) := if putCode bs ps x ws = 0 then bs else []
def putCache (bs : List (List Int)) (ps : List (Int × List Int)) (x : Int) (ws : List Int) : List (Int × List Int) := if putCode bs ps x ws = 0 then ps ++ [(x, ws)] else []

theorem three (w : World) (x y z : Value) (t : TypeId) : OwnRow (w.alloc (.cells #[x, y, z] t)) w.heap.size 3 (fun i => if i = 0 then x else if i = 1 then y else z) := by
  refine ⟨_, t, Go.Deep.blk_alloc_new _ _, by simp, fun i hi => ?_⟩
  have : i = 0 ∨ i = 1 ∨ i = 2 := by omega
  rcases this with rfl | rfl | rfl <;> simp

set_option maxHeartbeats 800000 in
theorem specPut_fault (w : World) (vB vC v : Value) (bs : List (List Int)) (ps : List (Int × List Int)) (x : Int) (hB : IntsS w vB bs) (hP : Puts w vC ps) (hf : ¬ faultF bs ps = 0) :
    Calls Try.prog 9 #[.agg #[vB, vC], .int .i64 x, v] w fun e w' => e = .returned (.agg #[.int .i64 (faultF bs ps), .slice none 0 0, .slice none 0 0]) ∧ Below w.heap.size w w' := by
  have HB : Hid (IntsS w vB bs) := hB
  have HP : Hid (Puts w vC ps) := hP
  generalize hc : faultF bs ps = c at *
  have HC : Hid (faultF bs ps = c) := hc
  have hne : (c != 0) = true := by simpa using hf
  clear hB hP hf hc
  go_enter Try.func9, Try.ntmps9
  go_wp2_with fail
  refine (l1Fault_any (vB := vB) (vC := vC) ?_ ?_ (HB.out.later (later2 _ _ _)) (HP.out.later (later2 _ _ _))).mono ?_
  · exact ((Box2.new w vB vC 30).later (later1 _ _)).1
  · exact ((Box2.new w vB vC 30).later (later1 _ _)).2
  rw [HC.out]
  rintro e w' ⟨rfl, m, rfl⟩
  go_wp2
  exact bodyPost_ret (v := .agg #[.int .i64 c, .slice none 0 0, .slice none 0 0]) (by simp [results, Try.results9, go_sem]) rfl ⟨rfl, (((below_drewN (later2 _ _ _) m).setCell (by simp) _).setCell (by simp) _).setCell (by simp) _⟩

set_option maxHeartbeats 800000 in
theorem specPut_place (w : World) (aB : Option Addr) (nB cB : Nat) (vC v : Value) (bs : List (List Int)) (ps : List (Int × List Int)) (x : Int) (hn : nB ≤ maxLen) (hB : IntsS w (.slice aB nB cB) bs) (hP : Puts w vC ps) (hf : faultF bs ps = 0) (hp : placeB nB x = false) :
    Calls Try.prog 9 #[.agg #[.slice aB nB cB, vC], .int .i64 x, v] w fun e w' => e = .returned (.agg #[.int .i64 3, .slice none 0 0, .slice none 0 0]) ∧ Below w.heap.size w w' := by
  have HB : Hid (IntsS w (.slice aB nB cB) bs) := hB
  have HP : Hid (Puts w vC ps) := hP
  have HF : Hid (faultF bs ps = 0) := hf
  have HPL : Hid (placeB nB x = false) := hp
  clear hB hP hf hp
  go_enter Try.func9, Try.ntmps9
  go_wp2_with fail
  refine (l1Fault_any (vB := .slice aB nB cB) (vC := vC) ?_ ?_ (HB.out.later (later2 _ _ _)) (HP.out.later (later2 _ _ _))).mono ?_
  · exact ((Box2.new w (.slice aB nB cB) vC 30).later (later1 _ _)).1
  · exact ((Box2.new w (.slice aB nB cB) vC 30).later (later1 _ _)).2
  rw [HF.out]
  rintro e w' ⟨rfl, m, rfl⟩
  go_wp2_with fail
  refine (l1Place_any _ _ aB nB cB x hn ?_).mono ?_
  · exact ((Box2.new w (.slice aB nB cB) vC 30).later (later1 _ _)).1
  rw [HPL.out]
  rintro e w' ⟨rfl, rfl⟩
  go_wp2
  exact bodyPost_ret (v := .agg #[.int .i64 3, .slice none 0 0, .slice none 0 0]) (by simp [results, Try.results9, go_sem]) rfl ⟨rfl, (((below_drewN (later2 _ _ _) m).setCell (by simp) _).setCell (by simp) _).setCell (by simp) _⟩

set_option maxHeartbeats 800000 in
theorem specPut_words (w : World) (aB : Option Addr) (nB cB : Nat) (vC v : Value) (bs : List (List Int)) (ps : List (Int × List Int)) (x : Int) (ws : List Int) (hn : nB ≤ maxLen) (hB : IntsS w (.slice aB nB cB) bs) (hP : Puts w vC ps) (hV : Ints w v ws) (hf : faultF bs ps = 0) (hp : placeB nB x = true) (hw : ¬ wordsF ws = 0) :
    Calls Try.prog 9 #[.agg #[.slice aB nB cB, vC], .int .i64 x, v] w fun e w' => e = .returned (.agg #[.int .i64 (wordsF ws), .slice none 0 0, .slice none 0 0]) ∧ Below w.heap.size w w' := by
  have HB : Hid (IntsS w (.slice aB nB cB) bs) := hB
  have HP : Hid (Puts w vC ps) := hP
  have HV : Hid (Ints w v ws) := hV
  have HF : Hid (faultF bs ps = 0) := hf
  have HPL : Hid (placeB nB x = true) := hp
  generalize hc : wordsF ws = c at *
  have HC : Hid (wordsF ws = c) := hc
  have hne : (c != 0) = true := by simpa using hw
  clear hB hP hf hp hV hc hw
  go_enter Try.func9, Try.ntmps9
  go_wp2_with fail
  refine (l1Fault_any (vB := .slice aB nB cB) (vC := vC) ?_ ?_ (HB.out.later (later2 _ _ _)) (HP.out.later (later2 _ _ _))).mono ?_
  · exact ((Box2.new w (.slice aB nB cB) vC 30).later (later1 _ _)).1
  · exact ((Box2.new w (.slice aB nB cB) vC 30).later (later1 _ _)).2
  rw [HF.out]
  rintro e w' ⟨rfl, m, rfl⟩
  go_wp2_with fail
  refine (l1Place_any _ _ aB nB cB x hn ?_).mono ?_
  · exact ((Box2.new w (.slice aB nB cB) vC 30).later (later1 _ _)).1
  rw [HPL.out]
  rintro e w' ⟨rfl, rfl⟩
  go_wp2_with fail
  refine (l1Words_any (HV.out.later (below_drewN (later2 _ _ _) m))).mono ?_
  rw [HC.out]
  rintro e w' ⟨rfl, rfl⟩
  go_wp2
  exact bodyPost_ret (v := .agg #[.int .i64 c, .slice none 0 0, .slice none 0 0]) (by simp [results, Try.results9, go_sem]) rfl ⟨rfl, (((below_drewN (later2 _ _ _) m).setCell (by simp) _).setCell (by simp) _).setCell (by simp) _⟩

set_option maxHeartbeats 800000 in
theorem specPut_full (w : World) (aB : Option Addr) (nB cB : Nat) (aC : Option Addr) (nC cC : Nat) (v : Value) (bs : List (List Int)) (ps : List (Int × List Int)) (x : Int) (ws : List Int) (hn : nB ≤ maxLen) (hB : IntsS w (.slice aB nB cB) bs) (hP : Puts w (.slice aC nC cC) ps) (hV : Ints w v ws) (hf : faultF bs ps = 0) (hp : placeB nB x = true) (hw : wordsF ws = 0) (hq : 200 ≤ nC) :
    Calls Try.prog 9 #[.agg #[.slice aB nB cB, .slice aC nC cC], .int .i64 x, v] w fun e w' => e = .returned (.agg #[.int .i64 2, .slice none 0 0, .slice none 0 0]) ∧ Below w.heap.size w w' := by
  have HB : Hid (IntsS w (.slice aB nB cB) bs) := hB
  have HP : Hid (Puts w (.slice aC nC cC) ps) := hP
  have HV : Hid (Ints w v ws) := hV
  have HF : Hid (faultF bs ps = 0) := hf
  have HPL : Hid (placeB nB x = true) := hp
  have HC : Hid (wordsF ws = 0) := hw
  have hq' : (200 : Int) ≤ (nC : Int) := by omega
  clear hB hP hf hp hV hw
  go_enter Try.func9, Try.ntmps9
  go_wp2_with fail
  refine (l1Fault_any (vB := .slice aB nB cB) (vC := .slice aC nC cC) ?_ ?_ (HB.out.later (later2 _ _ _)) (HP.out.later (later2 _ _ _))).mono ?_
  · exact ((Box2.new w (.slice aB nB cB) (.slice aC nC cC) 30).later (later1 _ _)).1
  · exact ((Box2.new w (.slice aB nB cB) (.slice aC nC cC) 30).later (later1 _ _)).2
  rw [HF.out]
  rintro e w' ⟨rfl, m, rfl⟩
  go_wp2_with fail
  refine (l1Place_any _ _ aB nB cB x hn ?_).mono ?_
  · exact ((Box2.new w (.slice aB nB cB) (.slice aC nC cC) 30).later (later1 _ _)).1
  rw [HPL.out]
  rintro e w' ⟨rfl, rfl⟩
  go_wp2_with fail
  refine (l1Words_any (HV.out.later (below_drewN (later2 _ _ _) m))).mono ?_
  rw [HC.out]
  rintro e w' ⟨rfl, rfl⟩
  go_wp2
  exact bodyPost_ret (v := .agg #[.int .i64 2, .slice none 0 0, .slice none 0 0]) (by simp [results, Try.results9, go_sem]) rfl ⟨rfl, (((below_drewN (later2 _ _ _) m).setCell (by simp) _).setCell (by simp) _).setCell (by simp) _⟩
end Go.Proofs.Ytomcejofhfngkaa
