
/- The law FnPaths. -/
import Derived.Test.YtcmkfapgpolglaaPatP
import Derived.Test.YtcmkfapgpolglaaDrC
import Derived.Test.YtcmkfapgpolglaaBlwB
import Derived.Test.YtcmkfapgpolglaaSplB
import Derived.Test.YtcmkfapgpolglaaJnC
import Derived.Test.YtcmkfapgpolglaaUni
import Derived.Deep.RegionHeld3
namespace Go.Proofs.Ytcmkfapgpolglaa
open Go.RowKit
set_option maxRecDepth 100000

theorem lwBig_any (w : World) (a : Option Addr) (n c : Nat) (hn : n ≤ maxLen) :
    Calls Try.prog 7 #[.slice a n c] w fun e w' => e = .returned (.bool (decide (1048576 < n))) ∧ w' = w := by
  unfold maxLen at hn
  by_cases h : 1048576 < n
  · have h' : decide ((1048576 : Int) < (n : Int)) = true := by simp; omega
    rw [show decide (1048576 < n) = true by simpa using h]
    go_enter Try.func7, Try.ntmps7
    go_wp2
    go_ret
    exact ⟨rfl, rfl⟩
  · have h' : decide ((1048576 : Int) < (n : Int)) = false := by simp; omega
    rw [show decide (1048576 < n) = false by simpa using h]
    go_enter Try.func7, Try.ntmps7
    go_wp2
    go_ret
    exact ⟨rfl, rfl⟩
theorem field_names (z : Int) (a : Option Addr) (n c : Nat) (w : World) : (Instr.field 66 (.agg #[.int .i64 z, .slice a n c]) 0).run Try.prog w = .ok (.int .i64 z) w := by
  rfl
theorem field_names1 (z : Int) (a : Option Addr) (n c : Nat) (w : World) : (Instr.field 66 (.agg #[.int .i64 z, .slice a n c]) 1).run Try.prog w = .ok (.slice a n c) w := by
  rfl
theorem field_text (z : Int) (s : ByteArray) (w : World) : (Instr.field 69 (.agg #[.int .i64 z, .string s]) 0).run Try.prog w = .ok (.int .i64 z) w := by
  rfl
theorem field_text1 (z : Int) (s : ByteArray) (w : World) : (Instr.field 69 (.agg #[.int .i64 z, .string s]) 1).run Try.prog w = .ok (.string s) w := by
  rfl
theorem join_self {p : List UInt8} (h : pathF p = 0) : namesC (namesL p) = 0 ∧ joinX (namesL p) = p := by
  obtain ⟨h6, hf⟩ := path_ok h
  obtain ⟨⟨t, ht⟩, _⟩ := path_head h
  have hc : namesC (namesL p) = 0 := by unfold namesC; rw [if_neg (by omega), hf]
  exact ⟨hc, by unfold joinX; rw [if_pos hc]; exact (names_of p t ht).1⟩
theorem below_top {p : List UInt8} (h : ¬ pathF p = 0) : belowB p [47] = false := by unfold belowB; simp [h]

set_option maxHeartbeats 12800000 in
theorem lawPaths_any (w : World) (a : Option Addr) (n c : Nat) (hnm : n ≤ maxLen) (hb : AtB w a n) :
    Calls Try.prog 6 #[.slice a n c] w fun e w' => e = .returned (.bool true) ∧ Below w.heap.size w w' := by
  have HBG : Hid (∀ W, Calls Try.prog 7 #[.slice a n c] W fun e w' => e = .returned (.bool (decide (1048576 < n))) ∧ w' = W) := fun W => lwBig_any W a n c hnm
  by_cases hbig : 1048576 < n
  · rw [show decide (1048576 < n) = true by simpa using hbig] at HBG
    clear hb hnm hbig
    go_enter Try.func6, Try.ntmps6
    go_wp2_with fail
    refine (HBG.out _).mono ?_
    rintro e w1 ⟨rfl, rfl⟩
    go_wp2
    go_ret
    exact ⟨rfl, Below.refl _ _⟩
  · rw [show decide (1048576 < n) = false by simpa using hbig] at HBG
    have hn : n ≤ 1048576 := by omega
    have HDP : Hid (Calls Try.prog 30 #[.slice a n c] w fun e w' => ∃ y : List UInt8, e = .returned (.string (mkB y)) ∧ y.length ≤ 1048576 ∧ Below w.heap.size w w') := drawSplit_any w a n c hn hb
    have HDN : Hid (∀ W, Below w.heap.size w W → Calls Try.prog 37 #[.slice a n c] W fun e w' => ∃ y : List UInt8, e = .returned (.string (mkB y)) ∧ y.length ≤ 1048576 ∧ Below W.heap.size W w') := fun W hW => drawName_any W a n c hn (hb.later hW)
    clear hb hnm hbig hn
    go_enter Try.func6, Try.ntmps6
    go_wp2_with fail
    refine (HBG.out _).mono ?_
    rintro e w1 ⟨rfl, rfl⟩
    go_wp2_with fail
    refine HDP.out.mono ?_
    rintro e w2 ⟨p, rfl, hp, hb2⟩
    have HB2 : Hid (Below w1.heap.size w1 w2) := hb2
    clear hb2 HBG HDP
    by_cases hz : pathF p = 0
    rotate_left
    · have HSP : Hid (∀ W, Calls Try.prog 31 #[.string (mkB p)] W fun e w' => e = .returned (.agg #[.int .i64 (pathF p), .slice none 0 0]) ∧ Below W.heap.size W w') := fun W => implSplit_bad W p hp hz
      have HSS : Hid (∀ W, Calls Try.prog 32 #[.string (mkB p)] W fun e w' => ∃ a n c, e = .returned (.agg #[.int .i64 (pathF p), .slice a n c]) ∧ Below W.heap.size W w') := fun W => (specSplitP_any W p).mono (by rintro e w' ⟨a, c, h1, h2, _⟩; exact ⟨a, _, c, h1, h2⟩)
      have hlc : lastC p = pathF p := by unfold lastC; rw [if_neg hz]
      have HPA : Hid (∀ W, Calls Try.prog 33 #[.string (mkB p)] W fun e w' => e = .returned (.agg #[.int .i64 (pathF p), .string (mkB (parT p))]) ∧ Below W.heap.size W w') := fun W => by rw [← hlc]; exact implParent_any W p hp
      have HBE : Hid (∀ W, Calls Try.prog 34 #[.string (mkB p), .string ⟨#[47]⟩] W fun e w' => e = .returned (.bool false) ∧ Below W.heap.size W w') := fun W => by
        have := implBelow_any W p [47] hp (by simp)
        rw [below_top hz] at this
        exact this
      clear hlc
      generalize parT p = pt at *
      generalize pathF p = z at *
      have hz1 : (z != 0) = true := by simpa using hz
      have hzz : (z == z) = true := by simp
      go_wp2_with fail
      refine (HSP.out _).mono ?_
      rintro e w3 ⟨rfl, hb3⟩
      have HB3 : Hid (Below w1.heap.size w1 w3) := HB2.out.trans (hb3.mono HB2.out.size)
      clear hb3 HB2 HSP
      have hx : (w3.alloc (Obj.cells #[.int .i64 z, .slice none 0 0] 66)).cell? ⟨w3.heap.size, 0, none⟩ = some (.int .i64 z) := Bx.new w3 [.int .i64 z, .slice none 0 0] 66 0 _ rfl
      have HB4 : Hid (Below w1.heap.size w1 (w3.alloc (Obj.cells #[.int .i64 z, .slice none 0 0] 66))) := HB3.out.trans ((later1 _ _).mono HB3.out.size)
      have fn0 := field_names z
      have ft0 := field_text z
      go_wp2_with fail
      go_region_held3 (fun W => W.cell? ⟨w3.heap.size, 0, none⟩ = some (.int .i64 z)) (go_keep) (first
        | (go_at_call 32; refine (HSS.out _).mono ?_; rintro e u1 ⟨a1, n1, c1, rfl, hu1⟩; have HU1 : Hid (Below w1.heap.size w1 u1) := HB4.out.drew.trans (hu1.mono HB4.out.drew.size); have k0 := cell_later hu1 hx; clear hu1)
        | (go_at_call 33; refine (HPA.out _).mono ?_; rintro e u2 ⟨rfl, hu2⟩; have HU2 : Hid (Below w1.heap.size w1 u2) := HU1.out.trans (hu2.mono HU1.out.size); have k1 := cell_later hu2 k0; clear hu2)
        | (go_at_call 34; refine (HBE.out _).mono ?_; rintro e u3 ⟨rfl, hu3⟩; have HU3 : Hid (Below w1.heap.size w1 u3) := HU2.out.trans (hu3.mono HU2.out.size); have k2 := cell_later hu3 k1; clear hu3))
      all_goals
        go_wp2
        go_ret
        exact ⟨rfl, HU3.out⟩
    · have HSP : Hid (∀ W, Calls Try.prog 31 #[.string (mkB p)] W fun e w' => ∃ a c, e = .returned (.agg #[.int .i64 0, .slice a (namesL p).length c]) ∧ Below W.heap.size W w' ∧ AtT w' a (namesL p).length (namesL p)) := fun W => (implSplit_ok W p hp hz).mono (by rintro e w' ⟨a, c, h1, h2, h3⟩; exact ⟨a, c, h1, h2, (ownsRow_at h3).2⟩)
      have HPA : Hid (∀ W, Calls Try.prog 33 #[.string (mkB p)] W fun e w' => e = .returned (.agg #[.int .i64 (lastC p), .string (mkB (parT p))]) ∧ Below W.heap.size W w') := fun W => implParent_any W p hp
      have HLA : Hid (∀ W, Calls Try.prog 35 #[.string (mkB p)] W fun e w' => e = .returned (.agg #[.int .i64 (lastC p), .string (mkB (lastT p))]) ∧ Below W.heap.size W w') := fun W => implLast_any W p hp
      have HJN : Hid (∀ W A C, AtT W A (namesL p).length (namesL p) → Calls Try.prog 36 #[.slice A (namesL p).length C] W fun e w' => e = .returned (.agg #[.int .i64 0, .string (mkB p)]) ∧ Below W.heap.size W w') := fun W A C hA => by
        have := implJoin_any W A _ C (namesL p) rfl (fun k => namesL_mem p hp k) hA
        rw [(join_self hz).1, (join_self hz).2] at this
        exact this
      obtain ⟨⟨t, ht⟩, _⟩ := path_head hz
      have hiff := (names_of p t ht).2
      by_cases hN : (namesL p).length = 0
      · have hp47 : p = [47] := hiff.1 hN
        have hlc : lastC p = 4 := by unfold lastC; rw [if_pos hz, if_pos hN]
        rw [hN] at HSP HJN
        rw [hlc] at HPA HLA
        generalize namesL p = xs at *
        generalize mkB (parT p) = pt at *
        generalize mkB (lastT p) = lt at *
        have hmp : mkB p = ⟨#[47]⟩ := by rw [hp47]; rfl
        rw [hmp] at HSP HPA HLA HJN ⊢
        clear hiff hN hlc hz hp hp47 hmp ht
        go_wp2_with fail
        refine (HSP.out _).mono ?_
        rintro e w3 ⟨aS, cS, rfl, hb3, hat3⟩
        have HB3 : Hid (Below w1.heap.size w1 w3) := HB2.out.trans (hb3.mono HB2.out.size)
        have HAT3 : Hid (AtT w3 aS 0 xs) := hat3
        clear hb3 HB2 HSP hat3
        go_wp2_with fail
        refine (HPA.out _).mono ?_
        rintro e w4 ⟨rfl, hb4⟩
        have hS4 : Bx w4 w3.heap.size [.int .i64 0, .slice aS 0 cS] := (Bx.new w3 _ _).later hb4
        have HS4 : Hid (Bx w4 w3.heap.size [.int .i64 0, .slice aS 0 cS]) := hS4
        have HL4 : Hid (Below w3.heap.size w3 w4) := (later1 _ _).trans (hb4.mono (by simp))
        have s40 := hS4 0 _ rfl
        have s41 := hS4 1 _ rfl
        clear hb4 hS4 HPA
        go_wp2_with fail
        refine (HLA.out _).mono ?_
        rintro e w5 ⟨rfl, hb5⟩
        have HL5 : Hid (Below w4.heap.size w4 w5) := (later1 _ _).trans (hb5.mono (by simp))
        have hP5 : Bx w5 w4.heap.size [.int .i64 4, .string pt] := (Bx.new w4 _ _).later hb5
        have hS5 : Bx w5 w3.heap.size [.int .i64 0, .slice aS 0 cS] := HS4.out.later HL5.out
        clear hb5 HLA s40 s41
        have LB := later1 w5 (Obj.cells #[.int .i64 4, .string lt] 69)
        have hS6 := hS5.later LB
        have hP6 := hP5.later LB
        have hL6 := Bx.new w5 [.int .i64 4, .string lt] 69
        have HB6 : Hid (Below w1.heap.size w1 (w5.alloc (Obj.cells #[.int .i64 4, .string lt] 69))) := (HB3.out.trans ((HL4.out.trans (HL5.out.mono HL4.out.size)).mono HB3.out.size)).trans (LB.mono (HB3.out.trans ((HL4.out.trans (HL5.out.mono HL4.out.size)).mono HB3.out.size)).size)
        have HAT6 : Hid (AtT (w5.alloc (Obj.cells #[.int .i64 4, .string lt] 69)) aS 0 xs) := fun k hk => by omega
        have q0 := hS6 0 _ rfl
        have q1 := hS6 1 _ rfl
        have q2 := hP6 0 _ rfl
        have q3 := hP6 1 _ rfl
        have q4 : (w5.alloc (Obj.cells #[.int .i64 4, .string lt] 69)).cell? ⟨w5.heap.size, 0, none⟩ = some (.int .i64 4) := hL6 0 _ rfl
        have q5 : (w5.alloc (Obj.cells #[.int .i64 4, .string lt] 69)).cell? ⟨w5.heap.size, 1, none⟩ = some (.string lt) := hL6 1 _ rfl
        clear hS6 hP6 hL6 hS5 hP5 LB HL4 HL5 HB3 HAT3 HS4
        go_wp2_with fail
        refine (HJN.out _ aS cS HAT6.out).mono ?_
        rintro e w7 ⟨rfl, hb7⟩
        have HB7 : Hid (Below w1.heap.size w1 w7) := HB6.out.trans (hb7.mono HB6.out.size)
        replace q0 := cell_later hb7 q0
        replace q1 := cell_later hb7 q1
        replace q2 := cell_later hb7 q2
        replace q4 := cell_later hb7 q4
        have ft1 := field_text1 0 ⟨#[47]⟩
        have hne : ((⟨#[47]⟩ : ByteArray).toList != (⟨#[47]⟩ : ByteArray).toList) = false := by simp
        have heq : ((⟨#[47]⟩ : ByteArray).toList == (⟨#[47]⟩ : ByteArray).toList) = true := by simp
        clear hb7 HB6 HAT6 HJN q3 q5
        go_wp2_with fail
        refine (HDN.out _ HB7.out).mono ?_
        rintro e w8 ⟨y, rfl, hy, hb8⟩
        have HB8 : Hid (Below w1.heap.size w1 w8) := HB7.out.trans (hb8.mono HB7.out.size)
        replace q0 := cell_later hb8 q0
        replace q1 := cell_later hb8 q1
        replace q2 := cell_later hb8 q2
        replace q4 := cell_later hb8 q4
        have HSZ : Hid ((mkB y).size ≤ maxLen) := by unfold Hid maxLen; rw [mkB_size]; omega
        generalize mkB y = yy at *
        clear hb8 HB7 HDN hy
        go_wp2_with fail
        refine (implName_any _ yy HSZ.out).mono ?_
        rintro e w9 ⟨rfl, rfl⟩
        go_wp2_with fail
        refine (specName_any _ yy HSZ.out).mono ?_
        rintro e w10 ⟨rfl, rfl⟩
        have hqq : (nameF yy != nameF yy) = false := by simp
        go_wp2
        go_ret
        exact ⟨rfl, HB8.out⟩
      · obtain ⟨m, hm⟩ : ∃ m, (namesL p).length = m + 1 := ⟨(namesL p).length - 1, by omega⟩
        have hlc : lastC p = 0 := by unfold lastC; rw [if_pos hz, if_neg hN]
        have hpt : parT p = joinT ((namesL p).take m) := by unfold parT; rw [if_pos hlc, hm]; rfl
        have hlt : lastT p = (namesL p)[m]?.getD [] := by unfold lastT; rw [if_pos hz, hm]; rfl
        obtain ⟨hpz, hpn⟩ := par_ok hz m
        rw [← hpt] at hpz hpn
        have hpl := (path_head hpz).2
        have hs1 : splitL p = namesL p := if_pos hz
        have hs2 : splitL (parT p) = (namesL p).take m := by unfold splitL; rw [if_pos hpz, hpn]
        have htk : ((namesL p).take m).length = m := by rw [List.length_take]; omega
        have hb1 : belowB p (parT p) = true := by unfold belowB; rw [hs1, hs2, htk]; simp [hz, hpz]; omega
        have hb2 : belowB (parT p) p = false := by unfold belowB; rw [hs1, hs2, htk]; simp [hz, hpz]; omega
        have hnm : nameF (mkB (lastT p)) = 0 := by
          rw [hlt]
          have hmem : (namesL p)[m]?.getD [] ∈ namesL p := by rw [List.getElem?_eq_getElem (by omega)]; exact List.getElem_mem _
          exact names_all (path_ok hz).2 _ hmem
        have hll : (lastT p).length ≤ 1048576 := by rw [hlt]; exact namesL_mem p hp m
        have HE : Hid (∀ (W : World) (x y : ByteArray), x.size ≤ 1048576 → y.size ≤ 1048576 → Calls Try.prog 34 #[.string x, .string y] W fun e w' => e = .returned (.bool (belowB x.data.toList y.data.toList)) ∧ Below W.heap.size W w') := fun W x y h1 h2 => by
          have := implBelow_any W x.data.toList y.data.toList (by rw [Array.length_toList]; exact h1) (by rw [Array.length_toList]; exact h2)
          rwa [mkB_data, mkB_data] at this
        have hz1 : (mkB p).size ≤ 1048576 := by rw [mkB_size]; exact hp
        have hz2 : (mkB (parT p)).size ≤ 1048576 := by rw [mkB_size]; omega
        have hbb1 : belowB (mkB p).data.toList (mkB (parT p)).data.toList = true := by rw [mkB_list, mkB_list]; exact hb1
        have hbb2 : belowB (mkB (parT p)).data.toList (mkB p).data.toList = false := by rw [mkB_list, mkB_list]; exact hb2
        have HNM : Hid (∀ W, Calls Try.prog 38 #[.string (mkB (lastT p))] W fun e w' => e = .returned (.int .i64 0) ∧ w' = W) := fun W => by rw [← hnm]; exact implName_any W _ (by unfold maxLen; rw [mkB_size]; omega)
        have HS2 : Hid (∀ W, Calls Try.prog 31 #[.string (mkB (parT p))] W fun e w' => ∃ a c, e = .returned (.agg #[.int .i64 0, .slice a m c]) ∧ Below W.heap.size W w') := fun W => (implSplit_ok W (parT p) (by omega) hpz).mono (by
          rintro e w' ⟨a, c, h1, h2, _⟩
          rw [hpn, htk] at h1
          exact ⟨a, c, h1, h2⟩)
        have hml : m ≤ 5 := by have := (path_ok hz).1; omega
        have hne : ¬ p = [47] := fun e => hN (hiff.2 e)
        have htop : ((mkB p).toList == (⟨#[47]⟩ : ByteArray).toList) = false := by
          rw [beq_eq_false_iff_ne]
          intro e
          rw [ByteArray.toList_eq, ByteArray.toList_eq] at e
          rw [mkB_list] at e
          exact hne e
        have hpt0 : (mkB p).toList = p := by rw [ByteArray.toList_eq, mkB_list]
        have htop2 : ((mkB p).toList == [47]) = false := by rw [hpt0, beq_eq_false_iff_ne]; exact hne
        have htop3 : ((mkB p).toList = [47]) = False := by rw [hpt0]; simpa using hne
        have HLT : Hid (mkB ((namesL p)[m]?.getD []) = mkB (lastT p)) := by unfold Hid; rw [hlt]
        rw [hm] at HSP HJN
        rw [hlc] at HPA HLA
        generalize namesL p = xs at *
        generalize mkB (parT p) = pt at *
        generalize mkB (lastT p) = lt at *
        generalize mkB p = pp at *
        clear hiff hN hlc hz hp ht hm hpt hlt hpz hpn hpl hs1 hs2 htk hb1 hb2 hnm hll hne hpt0
        go_wp2_with fail
        refine (HSP.out _).mono ?_
        rintro e w3 ⟨aS, cS, rfl, hb3, hat3⟩
        have HB3 : Hid (Below w1.heap.size w1 w3) := HB2.out.trans (hb3.mono HB2.out.size)
        have HAT3 : Hid (AtT w3 aS (m + 1) xs) := hat3
        clear hb3 HB2 HSP hat3
        generalize hM : m + 1 = M at *
        go_wp2_with fail
        refine (HPA.out _).mono ?_
        rintro e w4 ⟨rfl, hb4⟩
        have hS4 : Bx w4 w3.heap.size [.int .i64 0, .slice aS M cS] := (Bx.new w3 _ _).later hb4
        have HS4 : Hid (Bx w4 w3.heap.size [.int .i64 0, .slice aS M cS]) := hS4
        have HL4 : Hid (Below w3.heap.size w3 w4) := (later1 _ _).trans (hb4.mono (by simp))
        have s40 := hS4 0 _ rfl
        have s41 := hS4 1 _ rfl
        clear hb4 hS4 HPA
        go_wp2_with fail
        refine (HLA.out _).mono ?_
        rintro e w5 ⟨rfl, hb5⟩
        have HL5 : Hid (Below w4.heap.size w4 w5) := (later1 _ _).trans (hb5.mono (by simp))
        have hP5 : Bx w5 w4.heap.size [.int .i64 0, .string pt] := (Bx.new w4 _ _).later hb5
        have hS5 : Bx w5 w3.heap.size [.int .i64 0, .slice aS M cS] := HS4.out.later HL5.out
        clear hb5 HLA s40 s41
        have LB := later1 w5 (Obj.cells #[.int .i64 0, .string lt] 69)
        have hS6 := hS5.later LB
        have hP6 := hP5.later LB
        have hL6 := Bx.new w5 [.int .i64 0, .string lt] 69
        have HB6 : Hid (Below w1.heap.size w1 (w5.alloc (Obj.cells #[.int .i64 0, .string lt] 69))) := (HB3.out.trans ((HL4.out.trans (HL5.out.mono HL4.out.size)).mono HB3.out.size)).trans (LB.mono (HB3.out.trans ((HL4.out.trans (HL5.out.mono HL4.out.size)).mono HB3.out.size)).size)
        have HAT6 : Hid (AtT (w5.alloc (Obj.cells #[.int .i64 0, .string lt] 69)) aS M xs) := HAT3.out.later ((HL4.out.trans (HL5.out.mono HL4.out.size)).trans (LB.mono (HL4.out.trans (HL5.out.mono HL4.out.size)).size))
        have q0 := hS6 0 _ rfl
        have q1 := hS6 1 _ rfl
        have q2 := hP6 0 _ rfl
        have q3 := hP6 1 _ rfl
        have q4 : (w5.alloc (Obj.cells #[.int .i64 0, .string lt] 69)).cell? ⟨w5.heap.size, 0, none⟩ = some (.int .i64 0) := hL6 0 _ rfl
        have q5 : (w5.alloc (Obj.cells #[.int .i64 0, .string lt] 69)).cell? ⟨w5.heap.size, 1, none⟩ = some (.string lt) := hL6 1 _ rfl
        obtain ⟨bS, oS, rfl, q6⟩ := HAT6.out m (by omega)
        rw [HLT.out] at q6
        clear hS6 hP6 hL6 hS5 hP5 LB HL4 HL5 HB3 HAT3 HS4 HLT
        go_wp2_with fail
        refine (HJN.out _ _ cS HAT6.out).mono ?_
        rintro e w7 ⟨rfl, hb7⟩
        have HB7 : Hid (Below w1.heap.size w1 w7) := HB6.out.trans (hb7.mono HB6.out.size)
        replace q0 := cell_later hb7 q0
        replace q1 := cell_later hb7 q1
        replace q2 := cell_later hb7 q2
        replace q3 := cell_later hb7 q3
        replace q4 := cell_later hb7 q4
        replace q5 := cell_later hb7 q5
        replace q6 := cell_later hb7 q6
        have ft1 := field_text1 0 pp
        have hne : (pp.toList != pp.toList) = false := by simp
        clear hb7 HB6 HAT6 HJN
        go_wp2_with fail
        refine (HDN.out _ HB7.out).mono ?_
        rintro e w8 ⟨y, rfl, hy, hb8⟩
        have HB8 : Hid (Below w1.heap.size w1 w8) := HB7.out.trans (hb8.mono HB7.out.size)
        replace q0 := cell_later hb8 q0
        replace q1 := cell_later hb8 q1
        replace q2 := cell_later hb8 q2
        replace q3 := cell_later hb8 q3
        replace q4 := cell_later hb8 q4
        replace q5 := cell_later hb8 q5
        replace q6 := cell_later hb8 q6
        have HSZ : Hid ((mkB y).size ≤ maxLen) := by unfold Hid maxLen; rw [mkB_size]; omega
        generalize mkB y = yy at *
        clear hb8 HB7 HDN hy ft1 hne
        go_wp2_with fail
        refine (implName_any _ yy HSZ.out).mono ?_
        rintro e w9 ⟨rfl, rfl⟩
        go_wp2_with fail
        refine (specName_any _ yy HSZ.out).mono ?_
        rintro e w10 ⟨rfl, rfl⟩
        have hqq : (nameF yy != nameF yy) = false := by simp
        have hnm : (M : Int) - 1 = (m : Int) := by omega
        have hwr : IntKind.i64.wrap (m : Int) = (m : Int) := by rw [IntKind.wrap_i64]; omega
        have hmM : m < M := by omega
        have heq : (lt.toList == lt.toList) = true := by simp
        have hmm : ((m : Int) == (m : Int)) = true := by simp
        have fn1 := field_names1 0
        have hm0 : (0 : Int) ≤ (m : Int) := by omega
        have hmM' : (m : Int) < (M : Int) := by omega
        have hdm : decide ((m : Int) < (M : Int)) = true := by simp; omega
        go_wp2_with fail
        clear hM q0 q2 q4 hml htop htop2 htop3 hqq HSZ
        go_region_held3 (fun W => W.cell? ⟨w3.heap.size, 1, none⟩ = some (.slice (some ⟨bS, oS, none⟩) M cS) ∧ W.cell? ⟨w4.heap.size, 1, none⟩ = some (.string pt) ∧ W.cell? ⟨w5.heap.size, 1, none⟩ = some (.string lt) ∧ W.cell? ⟨bS, oS + m, none⟩ = some (.string lt)) (go_keep) (first
          | (go_at_call 38; refine (HNM.out _).mono ?_; rintro e u3 ⟨rfl, rfl⟩)
          | (go_at_call 31; refine (HS2.out _).mono ?_; rintro e u4 ⟨a4, c4, rfl, hu4⟩; replace HB8 : Hid (Below w1.heap.size w1 u4) := HB8.out.trans (hu4.mono HB8.out.size); replace q1 := cell_later hu4 q1; replace q3 := cell_later hu4 q3; replace q5 := cell_later hu4 q5; replace q6 := cell_later hu4 q6; clear hu4)
          | (go_at_call 34; refine (HE.out _ _ _ ?_ ?_).mono ?_; assumption; assumption; rintro e u1 ⟨rfl, hu1⟩; replace HB8 : Hid (Below w1.heap.size w1 u1) := (by first | exact HB8.out.trans (hu1.mono HB8.out.size) | exact HB8.out.drew.trans (hu1.mono HB8.out.drew.size)); replace q1 := cell_later hu1 q1; replace q3 := cell_later hu1 q3; replace q5 := cell_later hu1 q5; replace q6 := cell_later hu1 q6; clear hu1))
        all_goals
          go_wp2
          go_ret
          exact ⟨rfl, HB8.out⟩
end Go.Proofs.Ytcmkfapgpolglaa
