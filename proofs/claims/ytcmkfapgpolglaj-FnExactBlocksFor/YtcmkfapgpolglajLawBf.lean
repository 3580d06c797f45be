
/- The law of BlocksFor: at every argument the program answers as the specification, leaves its arguments as they were, and its answer owns its memory. -/
import Derived.Test.YtcmkfapgpolglajSpcI
import Derived.Test.YtcmkfapgpolglajKrnB
namespace Go.Proofs.Ytcmkfapgpolglaj
open Go.RowKit
set_option maxRecDepth 100000

set_option maxHeartbeats 12800000 in
theorem lawBlocksFor_small (w : World) (x0 : Int) :
    Calls Try.prog 7 #[.int .i64 x0] w fun e w' => e = .returned (.bool true) ∧ Below w.heap.size w w' := by
  generalize hr : bforR x0 = r at *
  have HR : Hid (bforR x0 = r) := hr
  obtain ⟨code, val⟩ := r
  clear hr
  go_enter Try.func7, Try.ntmps7
  go_wp2_with fail
  refine (specBFor_any _ x0  ).mono ?_
  rw [HR.out]
  rintro e w1 ⟨rfl, hb⟩
  have HL_w1 : Hid (Below w.heap.size w w1) := hb
  have HB_w1 : Hid (Below w.heap.size w w1) := HL_w1.out
  have z_w1 : w.heap.size ≤ w1.heap.size := HL_w1.out.size
  clear HL_w1
  clear hb
  go_wp2_with fail
  refine (implBFor_any _ x0  ).mono ?_
  rw [HR.out]
  rintro e w2 ⟨rfl, hb⟩
  have HL_w2 : Hid (Below w1.heap.size w1 w2) := (later1 _ _).trans (hb.mono (by simp))
  have HB_w2 : Hid (Below w.heap.size w w2) := HB_w1.out.trans (HL_w2.out.mono HB_w1.out.size)
  have z_w2 : w1.heap.size ≤ w2.heap.size := HL_w2.out.size
  have Bw_w2 : Hid (Bx w2 w1.heap.size [.int .i64 code, .int .i64 val]) := (Bx.new _ [.int .i64 code, .int .i64 val] _).later hb
  have y_Bw : w1.heap.size < w2.heap.size := Bw_w2.out.lt
  clear HB_w1 HL_w2
  clear hb
  have qBw0 := Bw_w2.out 0 _ rfl
  have qBw1 := Bw_w2.out 1 _ rfl
  have tBw := Bw_w2.out.lt
  go_wp2_with fail
  clear qBw0 qBw1 tBw
  refine (eqIntResultU _ code val).mono ?_
  rintro e w3 ⟨rfl, hb⟩
  have HL_w3 : Hid (Below w2.heap.size w2 w3) := (later1 _ _).trans (hb.mono (by simp))
  have HB_w3 : Hid (Below w.heap.size w w3) := HB_w2.out.trans (HL_w3.out.mono HB_w2.out.size)
  have z_w3 : w2.heap.size ≤ w3.heap.size := HL_w3.out.size
  have Bw_w3 : Hid (Bx w3 w1.heap.size [.int .i64 code, .int .i64 val]) := Bw_w2.out.later HL_w3.out
  have Bg_w3 : Hid (Bx w3 w2.heap.size [.int .i64 code, .int .i64 val]) := (Bx.new _ [.int .i64 code, .int .i64 val] _).later hb
  have y_Bg : w2.heap.size < w3.heap.size := Bg_w3.out.lt
  clear Bw_w2 HB_w2 HL_w3
  clear hb
  have qBw0 := Bw_w3.out 0 _ rfl
  have qBw1 := Bw_w3.out 1 _ rfl
  have tBw := Bw_w3.out.lt
  have qBg0 := Bg_w3.out 0 _ rfl
  have qBg1 := Bg_w3.out 1 _ rfl
  have tBg := Bg_w3.out.lt
  go_wp2
  go_ret
  exact ⟨rfl, HB_w3.out⟩

theorem lawBlocksFor_any (w : World) (x0 : Int) :
    Calls Try.prog 7 #[.int .i64 x0] w fun e w' => e = .returned (.bool true) ∧ Below w.heap.size w w' := by
  exact lawBlocksFor_small w x0   
end Go.Proofs.Ytcmkfapgpolglaj
