
/- The marks of texts. -/
import Derived.Test.YtcmkfapgpolglaiItB
import Derived.Test.YtcmkfapgpolglaiOwn
import Derived.Laws.IdiomStrings
namespace Go.Proofs.Ytcmkfapgpolglai
open Go.RowKit
set_option maxRecDepth 100000

/-- The digits of a number ahead of what stands. -/
def dg (k : Nat) (acc : List UInt8) : List UInt8 := if h : k = 0 then acc else dg (k / 10) (UInt8.ofNat (48 + k % 10) :: acc)
termination_by k
decreasing_by omega

theorem mkB_app (a b : List UInt8) : mkB a ++ mkB b = mkB (a ++ b) := by
  have h : (mkB a ++ mkB b).data.toList = a ++ b := by simp [mkB]
  rw [← mkB_data (mkB a ++ mkB b), h]
theorem conv_one (w : World) (j : Nat) :
    (convert 109 9 (.slice (some ⟨w.heap.size, 0, none⟩) 1 1)).run Try.prog (w.alloc (.cells #[.int .u8 (48 + (j : Int) % 10)] 5)) = .ok (.string (mkB [UInt8.ofNat (48 + j % 10)])) (w.alloc (.cells #[.int .u8 (48 + (j : Int) % 10)] 5)) := by
  refine run_convert_bytes_back _ 109 9 5 ⟨w.heap.size, 0, none⟩ 1 [UInt8.ofNat (48 + j % 10)] Try.underlying109 Try.underlying5 Try.underlying9 (fun i hi => ?_)
  have hi0 : i = 0 := by simpa using hi
  subst hi0
  have h1 : (UInt8.ofNat (48 + j % 10)).toNat = 48 + j % 10 := by rw [UInt8.toNat_ofNat']; omega
  show (w.alloc (.cells #[.int .u8 (48 + (j : Int) % 10)] 5)).cell? ⟨w.heap.size, 0, none⟩ = some (.int .u8 ((UInt8.ofNat (48 + j % 10)).toNat : Int))
  rw [h1, (cell_new_l w _ _).1]
  congr 2

set_option maxHeartbeats 1600000 in
theorem markText_any (w : World) (k : Nat) (hk : 1 ≤ k) (hk2 : k ≤ 4294967296) :
    Calls Try.prog 112 #[.int .i64 (k : Int)] w fun e w' => e = .returned (.string (mkB (109 :: dg k []))) ∧ Below w.heap.size w w' := by
  have hk' : decide ((k : Int) ≤ 0) = false := by simp; omega
  go_enter Try.func112, Try.ntmps112
  go_wp2
  go_loopw [0, 3] (fun q o wr => ∃ (j : Nat) (acc : List UInt8), acc.length + j ≤ k ∧ q = .int .i64 (j : Int) ∧ o = .string (mkB acc) ∧ dg j acc = dg k [] ∧ Below w.heap.size w wr) (fun q _ _ => (intOf q).toNat)
  case atStart => exact ⟨k, [], by simp, rfl, rfl, rfl, Below.refl _ _⟩
  case round =>
    obtain ⟨j, acc, hj, rfl, rfl, hdg, hbl⟩ := hrel
    have HD : Hid (dg j acc = dg k []) := hdg
    have HB : Hid (Below w.heap.size w wr) := hbl
    have hkz : (k = 0) = False := by simp; omega
    clear hdg hbl
    by_cases h0 : j = 0
    · subst h0
      have HE : Hid (acc = dg k []) := by unfold Hid; rw [← HD.out]; unfold dg; simp
      have HE2 : Hid (mkB [109] ++ mkB acc = mkB (109 :: dg k [])) := by unfold Hid; rw [mkB_app, ← HE.out]; rfl
      have hm : (⟨#[109]⟩ : ByteArray) = mkB [109] := rfl
      have hsz : (9223372036854775807 < (mkB [109]).size + (mkB acc).size) = False := by rw [mkB_size, mkB_size]; simp; omega
      go_wp2
      go_ret
      exact ⟨by rw [← HE2.out]; rfl, HB.out⟩
    · have hp : (0 : Int) < (j : Int) := by omega
      have hcv := conv_one wr j
      have HAP : Hid (mkB [UInt8.ofNat (48 + j % 10)] ++ mkB acc = mkB (UInt8.ofNat (48 + j % 10) :: acc)) := mkB_app _ _
      have HDD : Hid (dg (j / 10) (UInt8.ofNat (48 + j % 10) :: acc) = dg k []) := by unfold Hid; rw [← HD.out]; conv => rhs; unfold dg; rw [dif_neg h0]
      have hsz : (9223372036854775807 < (mkB [UInt8.ofNat (48 + j % 10)]).size + (mkB acc).size) = False := by rw [mkB_size, mkB_size]; simp; omega
      generalize UInt8.ofNat (48 + j % 10) = b at *
      go_wp2
      go_roundw
      case rel => exact ⟨j / 10, b :: acc, by simp; omega, by go_num, by rw [HAP.out], HDD.out, HB.out.trans ((later1 _ _).mono HB.out.size)⟩
      case measure => simp [intOf]; omega
end Go.Proofs.Ytcmkfapgpolglai
