
/- The iterator that tells the names of a path: its contract. -/
import Derived.RangeFuncNested
import Derived.RangeFuncBound
import Derived.RangeFuncCalls
import Derived.RangeFuncLeaves
import Derived.RangeFuncFrom
import Derived.Shelf.Abstract
import Derived.Shelf.RegionOpen
import Derived.WalkKit
import Derived.OwnWalkIn
import Derived.TacticsInMore
import Derived.LoopNIn
import Derived.LoopIn
import Derived.Test.YtcmkfapgpolglaaIdxS
namespace Go.Proofs.Ytcmkfapgpolglaa
open Go.RowKit Go.Shelf
set_option maxRecDepth 100000
attribute [local go_sem] Oper.semAt_some

/-- A text that is no longer than a row takes. -/
abbrev BL := { l : List UInt8 // l.length ≤ 1048576 }
/-- A name as it is told. -/
abbrev encB (x : BL) : Array Value := #[.string (mkB x.1)]
abbrev txt (pre : List BL) : List (List UInt8) := pre.map (·.1)
theorem mkB_toList (l : List UInt8) : (mkB l).toList = l := by rw [ByteArray.toList_eq, mkB_list]
def strLen : Value → Nat
  | .string s => s.size
  | _ => 0

set_option maxRecDepth 100000 in
set_option maxHeartbeats 1600000 in
theorem names1_in (n : Nat) (hn : 2 ≤ n) (l Bn n₀ : Nat) (p : List UInt8) (hp : p.length ≤ 1048576) (J Jx : List BL → World → Prop)
    (hY : ∀ pre x W, J pre W → pre.length < (namesL p).length → YieldAt Fence.wide (n - 1) Try.prog l (encB x) W fun e W' =>
      (e = .returned (.bool true) ∧ J (pre ++ [x]) W' ∧ Below n₀ W W') ∨ (e = .returned (.bool false) ∧ Jx (pre ++ [x]) W'))
    (W : World) (hB : W.cell? ⟨Bn, 0, none⟩ = some (.string (mkB p))) (h0 : J [] W) :
    CallsIn Fence.wide n Try.prog 111 #[.func (.yield l) #[] #[], .pointer (some ⟨Bn, 0, none⟩)] W fun e W' => (∃ v, e = .returned v) ∧
      ((∃ ys, txt ys = namesL p ∧ J ys W') ∨ (∃ pre, txt pre <+: namesL p ∧ Jx pre W')) := by
  refine callsIn_of_wp Try.func111 rfl trivial ?_ rfl
  simp only [Try.ntmps111, List.size_toArray, List.length_cons, List.length_nil, Nat.reduceAdd, Nat.reduceSub, Array.replicate_succ, Array.replicate_zero, List.push_toArray, List.append_toArray, List.nil_append, List.cons_append]
  by_cases hp1 : p = [47]
  · have heq : ((mkB p).toList == [47]) = true := by rw [mkB_toList, hp1]; rfl
    have HN : Hid (namesL p = []) := by unfold Hid namesL; rw [if_pos hp1]
    clear hp1
    gi_wp2
    refine bodyPost_ret (results_none rfl _ _ _) rfl ?_
    exact ⟨⟨_, rfl⟩, .inl ⟨[], by rw [HN.out]; rfl, h0⟩⟩
  · have heq : ((mkB p).toList == [47]) = false := by rw [mkB_toList]; simpa using hp1
    have HN : Hid (namesL p = restN p) := by unfold Hid namesL; rw [if_neg hp1]
    clear hp1
    gi_wp2
    gi_loopw [3] (fun v wr => ∃ (pre : List BL) (r : List UInt8), v = .string (mkB r) ∧ namesL p = txt pre ++ restN r ∧ r.length ≤ 1048576 ∧ J pre wr) (fun v _ => strLen v)
    case atStart => exact ⟨[], p, rfl, by rw [HN.out]; rfl, hp, h0⟩
    case round =>
      obtain ⟨pre, r, rfl, hx, hr, hJs⟩ := hrel
      cases r with
      | nil =>
        have hem : (mkB []).toList.isEmpty = true := by rw [mkB_toList]; rfl
        gi_wp2
        go_end0
        exact ⟨⟨_, rfl⟩, .inl ⟨pre, by rw [hx]; simp [restN], hJs⟩⟩
      | cons b t =>
        have hem : (mkB (b :: t)).toList.isEmpty = false := by rw [mkB_toList]; rfl
        have HX : Hid (namesL p = txt pre ++ (takeTo t :: restN (dropTo t))) := by unfold Hid; rw [hx, restN_cons]
        have hs1 : ∀ W : World, (Instr.slice 9 (.string (mkB (b :: t))) (some (.int .i64 1)) none none).run Try.prog W = .ok (.string (mkB t)) W := fun W => run_from (b :: t) 1 (by simp) W
        have hdl := dropTo_le t
        have htl := takeTo_le t
        simp only [List.length_cons] at hr
        clear hx
        rcases idx_cases t with ⟨h1, h2, h3⟩ | ⟨o, h1, hol, h2, h3⟩
        · have hsz : (mkB t).size = t.length := mkB_size t
          have hs2 : ∀ W : World, (Instr.slice 9 (.string (mkB t)) none (some (.int .i64 (t.length : Int))) none).run Try.prog W = .ok (.string (mkB (takeTo t))) W := fun W => by rw [run_upto t t.length (Nat.le_refl _) W, h2, List.take_length]
          have hs3 : ∀ W : World, (Instr.slice 9 (.string (mkB t)) (some (.int .i64 (t.length : Int))) none none).run Try.prog W = .ok (.string (mkB (dropTo t))) W := fun W => by rw [run_from t t.length (Nat.le_refl _) W, h3, List.drop_length]
          clear h2 h3
          have hyl : (takeTo t).length ≤ 1048576 := by omega
          generalize takeTo t = y at *
          generalize dropTo t = z at *
          obtain ⟨fn, tmps, assign, body, hy, hR⟩ := hY pre ⟨y, hyl⟩ wr hJs (by rw [HX.out]; simp)
          dsimp only [encB] at hy
          gi_wp2
          refine ⟨trivial, fun _ => by omega, ?_⟩
          refine (callsIn_wide.2 (indexSlash t _)).mono ?_
          rintro e w' ⟨rfl, rfl⟩
          gi_wp2
          refine ⟨fun _ => by omega, hR.mono ?_⟩
          rintro e W3 (⟨rfl, hJ3, hk3⟩ | ⟨rfl, hJx3⟩)
          · gi_wp2
            go_roundw
            case rel => exact ⟨pre ++ [⟨y, hyl⟩], z, rfl, by rw [HX.out]; simp [txt], by omega, hJ3⟩
            case measure => simp only [strLen, mkB_size]; simp only [List.length_cons]; omega
          · gi_wp2
            refine bodyPost_ret (results_none rfl _ _ _) rfl ?_
            exact ⟨⟨_, rfl⟩, .inr ⟨pre ++ [⟨y, hyl⟩], ⟨restN (z), by rw [HX.out]; simp [txt]⟩, hJx3⟩⟩
        · have hs2 : ∀ W : World, (Instr.slice 9 (.string (mkB t)) none (some (.int .i64 (o : Int))) none).run Try.prog W = .ok (.string (mkB (takeTo t))) W := fun W => by rw [run_upto t o (by omega) W, h2]
          have hs3 : ∀ W : World, (Instr.slice 9 (.string (mkB t)) (some (.int .i64 (o : Int))) none none).run Try.prog W = .ok (.string (mkB (dropTo t))) W := fun W => by rw [run_from t o (by omega) W, h3]
          clear h2 h3
          have hyl : (takeTo t).length ≤ 1048576 := by omega
          generalize takeTo t = y at *
          generalize dropTo t = z at *
          obtain ⟨fn, tmps, assign, body, hy, hR⟩ := hY pre ⟨y, hyl⟩ wr hJs (by rw [HX.out]; simp)
          dsimp only [encB] at hy
          gi_wp2
          refine ⟨trivial, fun _ => by omega, ?_⟩
          refine (callsIn_wide.2 (indexSlash t _)).mono ?_
          rintro e w' ⟨rfl, rfl⟩
          gi_wp2
          refine ⟨fun _ => by omega, hR.mono ?_⟩
          rintro e W3 (⟨rfl, hJ3, hk3⟩ | ⟨rfl, hJx3⟩)
          · gi_wp2
            go_roundw
            case rel => exact ⟨pre ++ [⟨y, hyl⟩], z, rfl, by rw [HX.out]; simp [txt], by omega, hJ3⟩
            case measure => simp only [strLen, mkB_size]; simp only [List.length_cons]; omega
          · gi_wp2
            refine bodyPost_ret (results_none rfl _ _ _) rfl ?_
            exact ⟨⟨_, rfl⟩, .inr ⟨pre ++ [⟨y, hyl⟩], ⟨restN (z), by rw [HX.out]; simp [txt]⟩, hJx3⟩⟩
end Go.Proofs.Ytcmkfapgpolglaa
