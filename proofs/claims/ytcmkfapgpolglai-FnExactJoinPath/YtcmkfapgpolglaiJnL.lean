
/- The law of JoinPath. -/
import Derived.Test.YtcmkfapgpolglaiJnC
namespace Go.Proofs.Ytcmkfapgpolglai
open Go.RowKit
set_option maxRecDepth 100000

set_option maxHeartbeats 6400000 in
theorem lawJoinPath_any (w : World) (v : Value) (xs : List (List UInt8)) (h : Strs w v xs) : Calls Try.prog 7 #[v] w fun e w' => e = .returned (.bool true) ∧ Below w.heap.size w w' := by
  obtain ⟨a, c, rfl, hm, hz, hat⟩ := h
  have HSZ : Hid (Calls Try.prog 27 #[.slice a xs.length c, .int .i64 1048576] w fun e w' => e = .returned (.int .i64 (szf 1048576 (sizeT xs))) ∧ Below w.heap.size w w') := szStr_walk w a xs.length c xs 1048576 (by omega) (by omega) rfl hm hz hat
  by_cases hs : 1048576 < sizeT xs
  · rw [szf_no (by omega)] at HSZ
    clear hm hz hat hs
    generalize xs.length = n at *
    go_enter Try.func7, Try.ntmps7
    go_wp2_with fail
    refine HSZ.out.mono ?_
    rintro e w1 ⟨rfl, hb1⟩
    have HB1 : Hid (Below w.heap.size w w1) := hb1
    clear hb1
    go_wp2
    go_ret
    exact ⟨rfl, HB1.out⟩
  · have hn : xs.length ≤ 1048576 := by unfold sizeT at hs; omega
    have hx : ∀ k : Nat, (xs[k]?.getD []).length ≤ 1048576 := fun k => by have := slens_le xs k; unfold sizeT at hs; omega
    rw [szf_yes (by omega)] at HSZ
    have HTO : Hid (∀ W, Below w.heap.size w W → Calls Try.prog 29 #[.slice a xs.length c] W fun e w' => ∃ A C, e = .returned (.slice A xs.length C) ∧ Below W.heap.size W w' ∧ AtT w' A xs.length xs) := fun W hW => toStr_walk W a c xs.length xs hn (hat.later hW)
    have HSP : Hid (∀ W A C, AtT W A xs.length xs → Calls Try.prog 28 #[.slice A xs.length C] W fun e w' => e = .returned (.agg #[.int .i64 (namesC xs), .string (mkB (joinX xs))]) ∧ Below W.heap.size W w') := fun W A C hA => specJoin_any W A _ C xs rfl (by omega) hx hA
    have HIM : Hid (∀ W A C, AtT W A xs.length xs → Calls Try.prog 30 #[.slice A xs.length C] W fun e w' => e = .returned (.agg #[.int .i64 (namesC xs), .string (mkB (joinX xs))]) ∧ Below W.heap.size W w') := fun W A C hA => implJoin_any W A _ C xs rfl hx hA
    have HEQ : Hid (∀ W A B C D, AtT W A xs.length xs → AtT W B xs.length xs → Calls Try.prog 32 #[.slice A xs.length C, .slice B xs.length D] W fun e w' => e = .returned (.bool true) ∧ ∃ m, w' = W.drewN m) := fun W A B C D h1 h2 => eqS_walk W A B _ C D xs (by omega) h1 h2
    have hpos : ¬ (1048576 - ((sizeT xs : Nat) : Int) < 0) := by omega
    clear hm hz hat hs hn hx
    generalize ((sizeT xs : Nat) : Int) = sz at *
    generalize namesC xs = z at *
    generalize mkB (joinX xs) = y at *
    generalize hN : xs.length = n at *
    clear hN
    go_enter Try.func7, Try.ntmps7
    go_wp2_with fail
    refine HSZ.out.mono ?_
    rintro e w1 ⟨rfl, hb1⟩
    have HB1 : Hid (Below w.heap.size w w1) := hb1
    clear hb1 HSZ
    go_wp2_with fail
    refine (HTO.out _ HB1.out).mono ?_
    rintro e w2 ⟨A1, C1, rfl, hb2, hat2⟩
    have HB2 : Hid (Below w.heap.size w w2) := HB1.out.trans (hb2.mono HB1.out.size)
    have HAT2 : Hid (AtT w2 A1 n xs) := hat2
    clear hb2 hat2 HB1
    go_wp2_with fail
    refine (HSP.out _ A1 C1 HAT2.out).mono ?_
    rintro e w3 ⟨rfl, hb3⟩
    have HB3 : Hid (Below w.heap.size w w3) := HB2.out.trans (hb3.mono HB2.out.size)
    clear hb3 HB2 HAT2 HSP
    go_wp2_with fail
    refine (HTO.out _ (HB3.out.trans ((later1 _ _).mono HB3.out.size))).mono ?_
    rintro e w4 ⟨A2, C2, rfl, hb4, hat4⟩
    have HL4 : Hid (Below w3.heap.size w3 w4) := (later1 _ _).trans (hb4.mono (by simp))
    have HR4 : Hid (OwnRow w4 w3.heap.size 2 (fun i => if i = 0 then .int .i64 z else .string y)) := (OwnRow.newS w3 (.int .i64 z) (.string y) 58).block (hb4.block w3.heap.size (by simp))
    have HAT4 : Hid (AtT w4 A2 n xs) := hat4
    clear hb4 hat4
    go_wp2_with fail
    refine (HIM.out _ A2 C2 HAT4.out).mono ?_
    rintro e w5 ⟨rfl, hb5⟩
    have HB5 : Hid (Below w.heap.size w w5) := HB3.out.trans ((HL4.out.trans (hb5.mono HL4.out.size)).mono HB3.out.size)
    have HR5 := HR4.out.later hb5
    have HAT5 : Hid (AtT w5 A2 n xs) := HAT4.out.later hb5
    have t0 := HR5.cell (i := 0) (by omega)
    have t1 := HR5.cell (i := 1) (by omega)
    have tl := HR5.lt
    simp at t0 t1
    clear hb5 HR5 HR4 HL4 HAT4 HB3 HIM
    go_wp2_with fail
    refine (eqTextResultU _ _ _).mono ?_
    rintro e w6 ⟨rfl, hb6⟩
    have HL6 : Hid (Below w5.heap.size w5 w6) := (later1 _ _).trans (hb6.mono (by simp))
    have HB6 : Hid (Below w.heap.size w w6) := HB5.out.trans (HL6.out.mono HB5.out.size)
    have HAT6 : Hid (AtT w6 A2 n xs) := HAT5.out.later HL6.out
    clear hb6 t0 t1 tl HAT5 HB5 HL6
    go_wp2_with fail
    refine (HTO.out _ HB6.out).mono ?_
    rintro e w7 ⟨A3, C3, rfl, hb7, hat7⟩
    have HB7 : Hid (Below w.heap.size w w7) := HB6.out.trans (hb7.mono HB6.out.size)
    have HAT7 : Hid (AtT w7 A3 n xs) := hat7
    have HAT8 : Hid (AtT w7 A2 n xs) := HAT6.out.later hb7
    clear hb7 hat7 HAT6 HB6
    go_wp2_with fail
    refine (HEQ.out _ A2 A3 C2 C3 HAT8.out HAT7.out).mono ?_
    rintro e w8 ⟨rfl, m, rfl⟩
    go_wp2
    go_ret
    exact ⟨rfl, below_drewN HB7.out m⟩
end Go.Proofs.Ytcmkfapgpolglai
