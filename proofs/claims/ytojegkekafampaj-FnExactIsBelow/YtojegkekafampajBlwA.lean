
/- Whether a path lies below another one: the specification's side. -/
import Derived.Test.YtojegkekafampajLstA
namespace Go.Proofs.Ytojegkekafampaj
open Go.RowKit

/-- What splitting answers of a path: its code and its names. -/
def Spl (w w' : World) (p : List UInt8) (a : Option Addr) (c : Nat) : Prop := Below w.heap.size w w' ∧ AtT w' a (splitL p).length (splitL p) ∧ (splitL p).length ≤ c
theorem splitL_len (p : List UInt8) (hp : p.length ≤ 1048576) : (splitL p).length ≤ 1048577 := by
  unfold splitL
  split
  · have := namesL_len p; omega
  · simp
theorem specSplit_any (w : World) (p : List UInt8) :
    Calls Try.prog 12 #[.string (mkB p)] w fun e w' => ∃ a c, e = .returned (.tuple #[.slice a (splitL p).length c, .int .i64 (pathF p)]) ∧ Spl w w' p a c := by
  by_cases h : pathF p = 0
  · refine (specSplit_ok w p h).mono ?_
    rintro e w' ⟨a, c, rfl, hb, hr⟩
    have hs : splitL p = namesL p := if_pos h
    unfold Spl
    rw [hs, h]
    exact ⟨a, c, rfl, hb, (ownsRow_at hr).2, ownsRow_cap hr⟩
  · refine (specSplit_bad w p h).mono ?_
    rintro e w' ⟨rfl, hb⟩
    have hs : splitL p = [] := if_neg h
    unfold Spl
    rw [hs]
    exact ⟨none, 0, rfl, hb, fun k hk => by simp at hk, Nat.le_refl _⟩
theorem implSplit_any (w : World) (p : List UInt8) (hp : p.length ≤ 1048576) :
    Calls Try.prog 13 #[.string (mkB p)] w fun e w' => ∃ a c, e = .returned (.agg #[.int .i64 (pathF p), .slice a (splitL p).length c]) ∧ Spl w w' p a c := by
  by_cases h : pathF p = 0
  · refine (implSplit_ok w p hp h).mono ?_
    rintro e w' ⟨a, c, rfl, hb, hr⟩
    have hs : splitL p = namesL p := if_pos h
    unfold Spl
    rw [hs, h]
    exact ⟨a, c, rfl, hb, (ownsRow_at hr).2, ownsRow_cap hr⟩
  · refine (implSplit_bad w p hp h).mono ?_
    rintro e w' ⟨rfl, hb⟩
    have hs : splitL p = [] := if_neg h
    unfold Spl
    rw [hs]
    exact ⟨none, 0, rfl, hb, fun k hk => by simp at hk, Nat.le_refl _⟩
def belowB (p t : List UInt8) : Bool := decide (pathF p = 0) && (decide (pathF t = 0) && (decide ((splitL t).length < (splitL p).length) && decide ((splitL p).take (splitL t).length = splitL t)))
theorem take_no {xs ys : List (List UInt8)} {j : Nat} (hj : j < ys.length) (h : ¬ xs[j]?.getD [] = ys[j]?.getD []) : ¬ xs.take ys.length = ys := fun e => h (by
  have := congrArg (fun l => l[j]?.getD []) e
  simpa [List.getElem?_take, hj] using this)
theorem take_yes {xs ys : List (List UInt8)} (hl : ys.length < xs.length) (h : ∀ j, j < ys.length → xs[j]?.getD [] = ys[j]?.getD []) : xs.take ys.length = ys := by
  refine List.ext_getElem (by simp; omega) fun i h1 h2 => ?_
  have := h i h2
  rw [List.getElem?_eq_getElem (by omega), List.getElem?_eq_getElem h2] at this
  simpa using this

set_option maxHeartbeats 3200000 in
theorem specBelow_any (w : World) (p t : List UInt8) (hp : p.length ≤ 1048576) (ht : t.length ≤ 1048576) :
    Calls Try.prog 8 #[.string (mkB p), .string (mkB t)] w fun e w' => e = .returned (.bool (belowB p t)) ∧ Below w.heap.size w w' := by
  have HP : Hid (∀ W, Calls Try.prog 12 #[.string (mkB p)] W fun e w' => ∃ a c, e = .returned (.tuple #[.slice a (splitL p).length c, .int .i64 (pathF p)]) ∧ Spl W w' p a c) := fun W => specSplit_any W p
  have HT : Hid (∀ W, Calls Try.prog 12 #[.string (mkB t)] W fun e w' => ∃ a c, e = .returned (.tuple #[.slice a (splitL t).length c, .int .i64 (pathF t)]) ∧ Spl W w' t a c) := fun W => specSplit_any W t
  have hlp := splitL_len p hp
  have hlt := splitL_len t ht
  have HB : Hid (belowB p t = (decide (pathF p = 0) && (decide (pathF t = 0) && (decide ((splitL t).length < (splitL p).length) && decide ((splitL p).take (splitL t).length = splitL t))))) := rfl
  rw [HB.out]
  unfold Spl at HP HT
  clear HB hp ht
  generalize pathF p = cp at *
  generalize pathF t = ct at *
  generalize splitL p = xs at *
  generalize splitL t = ys at *
  by_cases h1 : cp = 0
  · subst h1
    by_cases h2 : ct = 0
    · subst h2
      by_cases h3 : ys.length < xs.length
      · have hd : (decide ((0 : Int) = 0) && (decide ((0 : Int) = 0) && (decide (ys.length < xs.length) && decide (xs.take ys.length = ys)))) = decide (xs.take ys.length = ys) := by simp [h3]
        rw [hd]
        have HL : Hid (ys.length < xs.length) := h3
        have h3' : decide ((xs.length : Int) ≤ (ys.length : Int)) = false := by simp; omega
        have h3'' : decide (xs.length ≤ ys.length) = false := by simp; omega
        generalize hm : ys.length = m at *
        generalize hn : xs.length = n at *
        have HM : Hid (ys.length = m) := hm
        have HN : Hid (xs.length = n) := hn
        clear hm hn hd
        go_enter Try.func8, Try.ntmps8
        go_wp2_with fail
        refine (HP.out _).mono ?_
        rintro e w1 ⟨a, c, rfl, hb1, hat1, _⟩
        have HW1 : Hid (Below w.heap.size w w1) := hb1
        have HA1 : Hid (AtT w1 a n xs) := hat1
        clear hb1 hat1 HP
        go_wp2_with fail
        refine (HT.out _).mono ?_
        rintro e w2 ⟨b, d, rfl, hb2, hat2, _⟩
        have HW2 : Hid (Below w.heap.size w w2) := HW1.out.trans (hb2.mono HW1.out.size)
        have HA2 : Hid (AtT w2 a n xs) := HA1.out.later hb2
        have HB2 : Hid (AtT w2 b m ys) := hat2
        clear hb2 hat2 HT HW1 HA1
        go_wp2
        go_loopw [9] (fun i wr => ∃ j q : Nat, j ≤ m ∧ i = .int .i64 j ∧ wr = w2.drewN q ∧ ∀ k, k < j → xs[k]?.getD [] = ys[k]?.getD []) (fun i _ => m - (intOf i).toNat)
        case atStart => exact ⟨0, 0, Nat.zero_le _, rfl, rfl, fun k hk => by omega⟩
        case round =>
          obtain ⟨j, q, hj, rfl, rfl, hall⟩ := hrel
          have HA : Hid (∀ k, k < j → xs[k]?.getD [] = ys[k]?.getD []) := hall
          clear hall
          by_cases hlt : j < m
          · obtain ⟨b1, o1, rfl, e1⟩ := HA2.out j (by have := HL.out; omega)
            obtain ⟨b2, o2, rfl, e2⟩ := HB2.out j hlt
            have hjn : j < n := by have := HL.out; omega
            by_cases he : xs[j]?.getD [] = ys[j]?.getD []
            · have HZ : Hid (∀ k, k < j + 1 → xs[k]?.getD [] = ys[k]?.getD []) := fun k hk => by
                by_cases e : k = j
                · rw [e]; exact he
                · exact HA.out k (by omega)
              rw [he] at e1
              generalize ys[j]?.getD [] = y at e1 e2
              clear he HA
              go_wp2_with fail
              go_quiet (fail)
              go_wp2
              go_roundw
              case rel => exact ⟨j + 1, q + nq, by omega, by go_num, rfl, HZ.out⟩
              case measure => simp [intOf]; omega
            · have HZ : Hid (decide (xs.take m = ys) = false) := by
                unfold Hid
                have := take_no (xs := xs) (by rw [HM.out]; exact hlt) he
                rw [HM.out] at this
                simpa using this
              generalize xs[j]?.getD [] = x at e1 he
              generalize ys[j]?.getD [] = y at e2 he
              have hne : ((mkB x).toList != (mkB y).toList) = true := by rw [mkB_toList, mkB_toList]; simpa using he
              have hne2 : ((mkB x).toList == (mkB y).toList) = false := by rw [mkB_toList, mkB_toList]; simpa using he
              clear he HA
              go_wp2_with fail
              go_quiet (fail)
              go_wp2
              go_ret
              exact ⟨by rw [HZ.out]; rfl, by rw [World.drewN_drewN]; exact below_drewN HW2.out _⟩
          · have HZ : Hid (decide (xs.take m = ys) = true) := by
              unfold Hid
              have := take_yes (xs := xs) (ys := ys) (by rw [HM.out, HN.out]; exact HL.out) fun i hi => HA.out i (by rw [HM.out] at hi; omega)
              rw [HM.out] at this
              simpa using this
            have hx' : decide ((j : Int) < (m : Int)) = false := by simp; omega
            have hx2 : decide (j < m) = false := by simp; omega
            go_wp2
            go_ret
            exact ⟨by rw [HZ.out]; rfl, below_drewN HW2.out _⟩
      · have hd : (decide ((0 : Int) = 0) && (decide ((0 : Int) = 0) && (decide (ys.length < xs.length) && decide (xs.take ys.length = ys)))) = false := by simp; omega
        rw [hd]
        have h3' : decide ((xs.length : Int) ≤ (ys.length : Int)) = true := by simp; omega
        have h3'' : decide (xs.length ≤ ys.length) = true := by simp; omega
        have h3e : (xs.length : Int) ≤ (ys.length : Int) := by omega
        generalize ys.length = m at *
        generalize xs.length = n at *
        clear hd h3
        go_enter Try.func8, Try.ntmps8
        go_wp2_with fail
        refine (HP.out _).mono ?_
        rintro e w1 ⟨a, c, rfl, hb1, _, _⟩
        have HW1 : Hid (Below w.heap.size w w1) := hb1
        clear hb1 HP
        go_wp2_with fail
        refine (HT.out _).mono ?_
        rintro e w2 ⟨b, d, rfl, hb2, _, _⟩
        have HW2 : Hid (Below w.heap.size w w2) := HW1.out.trans (hb2.mono HW1.out.size)
        clear hb2 HT HW1
        go_wp2
        go_ret
        exact ⟨rfl, HW2.out⟩
    · have hd : (decide ((0 : Int) = 0) && (decide (ct = 0) && (decide (ys.length < xs.length) && decide (xs.take ys.length = ys)))) = false := by simp [h2]
      rw [hd]
      have h2' : (ct != 0) = true := by simpa using h2
      generalize ys.length = m at *
      generalize xs.length = n at *
      clear hd h2
      go_enter Try.func8, Try.ntmps8
      go_wp2_with fail
      refine (HP.out _).mono ?_
      rintro e w1 ⟨a, c, rfl, hb1, _, _⟩
      have HW1 : Hid (Below w.heap.size w w1) := hb1
      clear hb1 HP
      go_wp2_with fail
      refine (HT.out _).mono ?_
      rintro e w2 ⟨b, d, rfl, hb2, _, _⟩
      have HW2 : Hid (Below w.heap.size w w2) := HW1.out.trans (hb2.mono HW1.out.size)
      clear hb2 HT HW1
      go_wp2
      go_ret
      exact ⟨rfl, HW2.out⟩
  · have hd : (decide (cp = 0) && (decide (ct = 0) && (decide (ys.length < xs.length) && decide (xs.take ys.length = ys)))) = false := by simp [h1]
    rw [hd]
    have h1' : (cp != 0) = true := by simpa using h1
    generalize ys.length = m at *
    generalize xs.length = n at *
    clear hd h1
    go_enter Try.func8, Try.ntmps8
    go_wp2_with fail
    refine (HP.out _).mono ?_
    rintro e w1 ⟨a, c, rfl, hb1, _, _⟩
    have HW1 : Hid (Below w.heap.size w w1) := hb1
    clear hb1 HP
    go_wp2_with fail
    refine (HT.out _).mono ?_
    rintro e w2 ⟨b, d, rfl, hb2, _, _⟩
    have HW2 : Hid (Below w.heap.size w w2) := HW1.out.trans (hb2.mono HW1.out.size)
    clear hb2 HT HW1
    go_wp2
    go_ret
    exact ⟨rfl, HW2.out⟩
end Go.Proofs.Ytojegkekafampaj
