
/- The specification's draws: a chance, a name, a pick. -/
import Derived.Test.YtcmkfapgpolglaaDrA
import Derived.Test.YtcmkfapgpolglaaJoinA
namespace Go.Proofs.Ytcmkfapgpolglaa
open Go.RowKit
set_option maxRecDepth 100000

/-- A source that a call made since w0, as it stands in w. -/
structure DS (w0 w : World) (sb : Nat) (a : Option Addr) (n c at' : Nat) : Prop where
  src : Src w sb a n c at'
  below : Below w0.heap.size w0 w
  new : w0.heap.size ≤ sb
  len : n ≤ 1048576
  bytes : AtB w0 a n
theorem DS.lt {w0 w : World} {sb : Nat} {a : Option Addr} {n c at' : Nat} (h : DS w0 w sb a n c at') : sb < w.heap.size := OwnRow.lt h.src
theorem DS.chg {w0 w w' : World} {sb : Nat} {a : Option Addr} {n c at' : Nat} {F : Nat → Prop} (h : DS w0 w sb a n c at') (hc : Chg F w w') (hF : ∀ b, F b → w0.heap.size ≤ b) (hn : ¬ F sb) : DS w0 w' sb a n c at' :=
  ⟨OwnRow.block h.src (hc.block sb h.lt hn), h.below.trans (hc.below h.below.size hF), h.new, h.len, h.bytes⟩
theorem DS.later {w0 w w' : World} {sb : Nat} {a : Option Addr} {n c at' : Nat} (h : DS w0 w sb a n c at') (hb : Below w.heap.size w w') : DS w0 w' sb a n c at' :=
  ⟨OwnRow.block h.src (hb.block sb h.lt), h.below.trans (hb.mono h.below.size), h.new, h.len, h.bytes⟩
theorem Chg.drewN {F : Nat → Prop} {w w' : World} (h : Chg F w w') (m : Nat) : Chg F w (w'.drewN m) := h.trans (Chg.of_below (below_drewN (Below.refl _ _) m))
theorem l1Next_ds (w0 w : World) (sb : Nat) (a : Option Addr) (n c at' k : Nat) (h : DS w0 w sb a n c at') (hat : at' ≤ 1000000) (hk0 : 1 ≤ k) (hk : k ≤ 200) :
    Calls Try.prog 43 #[.pointer (some ⟨sb, 0, none⟩), .int .i64 (k : Int)] w fun e w' => ∃ r : Nat, e = .returned (.int .i64 (r : Int)) ∧ r < k ∧ DS w0 w' sb a n c (at' + 1) ∧ Chg (fun b => b = sb) w w' := by
  have hfin : ∀ m, DS w0 ((stepW w sb at').drewN m) sb a n c (at' + 1) ∧ Chg (fun b => b = sb) w ((stepW w sb at').drewN m) := fun m => by
    have hc : Chg (fun b => b = sb) w (stepW w sb at') := Chg.set (F := fun b => b = sb) (Chg.refl _ w) rfl 1 _
    exact ⟨⟨h.src.step, h.below.trans ((hc.drewN m).below h.below.size fun b hb => hb ▸ h.new), h.new, h.len, h.bytes⟩, hc.drewN m⟩
  by_cases h0 : n = 0
  · subst h0
    refine (l1Next_none w sb a c at' k h.src hat hk0 hk).mono ?_
    rintro e w' ⟨r, he, hr, m, rfl⟩
    exact ⟨r, he, hr, hfin m⟩
  · refine (l1Next_some w sb a n c at' k h.src h.len (by omega) (h.bytes.later h.below) (fun b off e => ?_) hat hk0 hk).mono ?_
    · obtain ⟨b', off', e', z, _, hc⟩ := h.bytes 0 (by omega)
      rw [e] at e'
      simp only [Option.some.injEq, Addr.mk.injEq, and_true] at e'
      have := World.block_lt_of_cell? _ _ hc
      have h2 := h.new
      have h3 : b' < w0.heap.size := this
      omega
    · rintro e w' ⟨r, he, hr, m, rfl⟩
      exact ⟨r, he, hr, hfin m⟩

set_option maxHeartbeats 1600000 in
theorem l1Chance_ds (w0 w : World) (sb : Nat) (a : Option Addr) (n c at' k : Nat) (h : DS w0 w sb a n c at') (hat : at' ≤ 1000000) (hk0 : 1 ≤ k) (hk : k ≤ 200) :
    Calls Try.prog 95 #[.pointer (some ⟨sb, 0, none⟩), .int .i64 (k : Int)] w fun e w' => ∃ b : Bool, e = .returned (.bool b) ∧ DS w0 w' sb a n c (at' + 1) ∧ Chg (fun b => b = sb) w w' := by
  have H : Hid (DS w0 w sb a n c at') := h
  clear h
  go_enter Try.func95, Try.ntmps95
  go_wp2_with fail
  refine (l1Next_ds w0 _ sb a n c at' k H.out hat hk0 hk).mono ?_
  rintro e w1 ⟨r, rfl, hr, hd, hc⟩
  have HD : Hid (DS w0 w1 sb a n c (at' + 1)) := hd
  have HC : Hid (Chg (fun b => b = sb) w w1) := hc
  clear hd hc
  go_wp2
  go_ret
  exact ⟨_, rfl, HD.out, HC.out⟩

/-- A list of texts that is written out. -/
def litA (ys : List (List UInt8)) : Array Value := (ys.map strV).toArray
theorem litRow (w : World) (ys : List (List UInt8)) (arr : Array Value) (he : arr = litA ys) (t : TypeId) : OwnRow (w.alloc (.cells arr t)) w.heap.size ys.length (fun i => strV (ys[i]?.getD [])) := by
  subst he
  refine ⟨_, t, Go.Deep.blk_alloc_new _ _, by simp [litA], fun i hi => ?_⟩
  simp [litA, List.getElem?_eq_getElem hi]
def names6 : List (List UInt8) := [[97], [98], [99], [100], [97, 98], [104, 97, 108, 108]]
theorem names6_len (r : Nat) : (names6[r]?.getD []).length ≤ 4 := by
  match r with
  | 0 => decide
  | 1 => decide
  | 2 => decide
  | 3 => decide
  | 4 => decide
  | 5 => decide
  | _ + 6 => simp [names6]

set_option maxHeartbeats 3200000 in
theorem l3Name_ds (w0 w : World) (sb : Nat) (a : Option Addr) (n c at' : Nat) (h : DS w0 w sb a n c at') (hat : at' ≤ 1000000) :
    Calls Try.prog 118 #[.pointer (some ⟨sb, 0, none⟩)] w fun e w' => ∃ y : List UInt8, e = .returned (.string (mkB y)) ∧ y.length ≤ 4 ∧ DS w0 w' sb a n c (at' + 1) ∧ Chg (fun b => b = sb) w w' := by
  have H : Hid (DS w0 w sb a n c at') := h
  have hsb := h.lt
  clear h
  go_enter Try.func118, Try.ntmps118
  go_wp2_with fail
  refine (l1Next_ds w0 _ sb a n c at' 6 (H.out.later (later1 _ _)) hat (by omega) (by omega)).mono ?_
  rintro e w1 ⟨r, rfl, hr, hd, hc⟩
  have hrow : OwnRow w1 w.heap.size 6 (fun i => strV (names6[i]?.getD [])) := (litRow w names6 _ rfl 9).block (hc.block _ (by simp) (by omega))
  have c0 := hrow.cell hr
  unfold strV at c0
  have HD : Hid (DS w0 w1 sb a n c (at' + 1)) := hd
  have HC : Hid (Chg (fun b => b = sb) w w1) := (Chg.of_below (later1 _ _)).trans hc
  have HL : Hid ((names6[r]?.getD []).length ≤ 4) := names6_len r
  generalize names6[r]?.getD [] = y at *
  clear hd hc hrow
  go_wp2
  go_ret
  exact ⟨y, rfl, HL.out, HD.out, HC.out⟩
end Go.Proofs.Ytcmkfapgpolglaa
