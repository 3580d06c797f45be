
/- The walks of the specification's look at a block. -/
import Derived.Test.YtagmmgcdebgfnaaFaultB
import Derived.Test.YtagmmgcdebgfnaaAppA
namespace Go.Proofs.Ytagmmgcdebgfnaa
open Go.RowKit
set_option maxRecDepth 100000

theorem l1Place_any (w : World) (bd : Nat) (a : Option Addr) (n cap : Nat) (x : Int) (hn : n ≤ maxLen) (h0 : w.cell? ⟨bd, 0, none⟩ = some (.slice a n cap)) :
    Calls Try.prog 81 #[.pointer (some ⟨bd, 0, none⟩), .int .i64 x] w fun e w' => e = .returned (.bool (placeB n x)) ∧ w' = w := by
  unfold maxLen at hn
  go_enter Try.func81, Try.ntmps81
  go_wp2_with fail
  refine (l1In_is (place_l1 n x)).mono ?_
  rintro e w' ⟨rfl, rfl⟩
  go_wp2
  go_ret
  exact ⟨rfl, rfl⟩

set_option maxHeartbeats 1600000 in
theorem l1At_walk (w : World) (bd : Nat) (aB aC : Option Addr) (nB cB nC cC : Nat) (bs : List (List Int)) (ps : List (Int × List Int)) (x : Nat) (hxl : x < nB) (_hnB : nB ≤ 60) (hpl : ps.length = nC) (g2 : nC ≤ 200) (h0 : w.cell? ⟨bd, 0, none⟩ = some (.slice aB nB cB)) (h1 : w.cell? ⟨bd, 1, none⟩ = some (.slice aC nC cC))
    (hB : AtS w aB nB bs) (hP : AtP w aC nC ps) :
    Calls Try.prog 59 #[.pointer (some ⟨bd, 0, none⟩), .int .i64 (x : Int)] w fun e w' => ∃ ua un uc, e = .returned (.slice ua un uc) ∧ Ints w (.slice ua un uc) (atF bs ps x) ∧ w' = w := by
  have HPL : Hid (ps.length = nC) := hpl
  have HB : Hid (AtS w aB nB bs) := hB
  have HP : Hid (AtP w aC nC ps) := hP
  clear hpl hB hP
  go_enter Try.func59, Try.ntmps59
  go_wp2
  go_loop [5] (fun i => ∃ k : Nat, k ≤ nC ∧ i = .int .i64 ((k : Int) - 1) ∧ atF bs ps x = atK bs ps x k) (fun i => (intOf i + 1).toNat)
  case atStart => exact ⟨nC, Nat.le_refl _, rfl, by unfold atF; rw [HPL.out]⟩
  case round =>
    obtain ⟨k, hk, rfl, hat⟩ := hrel
    have HA : Hid (atF bs ps x = atK bs ps x k) := hat
    clear hat
    cases k with
    | succ k =>
      have ek : (((k + 1 : Nat) : Int) - 1) = (k : Int) := by omega
      rw [ek]
      clear ek
      obtain ⟨b, off, ua, ucap, e, c1, c2, i1⟩ := HP.out k (by omega)
      clear HP
      subst e
      have HI : Hid (Ints w (.slice ua (ps[k]?.getD (0, [])).2.length ucap) (ps[k]?.getD (0, [])).2) := i1
      clear i1
      have hlt : k < nC := by omega
      by_cases he : (ps[k]?.getD (0, [])).1 = (x : Int)
      · have hb : ((ps[k]?.getD (0, [])).1 == (x : Int)) = true := by simpa using he
        have HE : Hid ((ps[k]?.getD (0, [])).1 = (x : Int)) := he
        clear he
        go_wp2
        go_ret
        exact ⟨_, _, _, rfl, by rw [HA.out, atK_hit HE.out]; exact HI.out, rfl⟩
      · have hb : ((ps[k]?.getD (0, [])).1 == (x : Int)) = false := by simpa using he
        have HE : Hid (¬ (ps[k]?.getD (0, [])).1 = (x : Int)) := he
        clear he
        go_wp2
        go_round
        case rel => exact ⟨k, by omega, rfl, by rw [HA.out, atK_miss HE.out]⟩
        case measure => simp [intOf]
    | zero =>
      obtain ⟨b, off, ua, ucap, e, c1, i1⟩ := HB.out x hxl
      clear HB
      subst e
      have HI : Hid (Ints w (.slice ua (bs[x]?.getD []).length ucap) (bs[x]?.getD [])) := i1
      clear i1
      go_wp2
      go_ret
      exact ⟨_, _, _, rfl, by rw [HA.out]; simpa [atK] using HI.out, rfl⟩

/-- An answer that is a code and a list. -/
def AnsInts (w : World) (code : Int) (zs : List Int) (e : Ending) (w' : World) : Prop :=
  ∃ a n c, e = .returned (.agg #[.int .i64 code, .slice a n c]) ∧ Below w.heap.size w w' ∧ IntsO w' (.slice a n c) zs (fresh w w')
theorem ansInts_bad {w w' : World} (hb : Below w.heap.size w w') (code : Int) : AnsInts w code [] (.returned (.agg #[.int .i64 code, .slice none 0 0])) w' := ⟨none, 0, 0, rfl, hb, Or.inl ⟨rfl, none, 0, rfl⟩⟩

def atCode (bs : List (List Int)) (ps : List (Int × List Int)) (x : Int) : Int := placeF bs ps x
def atList (bs : List (List Int)) (ps : List (Int × List Int)) (x : Int) : List Int := if placeF bs ps x = 0 then atF bs ps x else []

theorem faultF_lens {bs : List (List Int)} {ps : List (Int × List Int)} (h : faultF bs ps = 0) : bs.length ≤ 60 ∧ ps.length ≤ 200 := by
  by_cases g : 60 < bs.length ∨ 200 < ps.length
  · rw [faultF_many g] at h; omega
  · omega

end Go.Proofs.Ytagmmgcdebgfnaa
