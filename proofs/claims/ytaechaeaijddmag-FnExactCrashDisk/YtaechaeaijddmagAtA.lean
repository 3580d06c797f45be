
/- The walks of the specification's look at a block. -/
import Derived.Test.YtaechaeaijddmagFaultB
import Derived.Test.YtaechaeaijddmagAppA
namespace Go.Proofs.Ytaechaeaijddmag
open Go.RowKit

theorem l1Place_any (w : World) (bd : Nat) (a : Option Addr) (n cap : Nat) (x : Int) (hn : n ≤ maxLen) (h0 : w.cell? ⟨bd, 0, none⟩ = some (.slice a n cap)) :
    Calls Try.prog 51 #[.pointer (some ⟨bd, 0, none⟩), .int .i64 x] w fun e w' => e = .returned (.bool (placeB n x)) ∧ w' = w := by
  unfold maxLen at hn
  go_enter Try.func51, Try.ntmps51
  go_wp2_with fail
  refine (l1In_is (place_l1 n x)).mono ?_
  rintro e w' ⟨rfl, rfl⟩
  go_wp2
  go_ret
  exact ⟨rfl, rfl⟩

set_option maxHeartbeats 1600000 in
theorem l1At_walk (w : World) (bd : Nat) (aB aC : Option Addr) (nB cB nC cC : Nat) (bs : List (List Int)) (ps : List (Int × List Int)) (x : Nat) (hxl : x < nB) (_hnB : nB ≤ 60) (hpl : ps.length = nC) (g2 : nC ≤ 200) (h0 : w.cell? ⟨bd, 0, none⟩ = some (.slice aB nB cB)) (h1 : w.cell? ⟨bd, 1, none⟩ = some (.slice aC nC cC))
    (hB : AtS w aB nB bs) (hP : AtP w aC nC ps) :
    Calls Try.prog 60 #[.pointer (some ⟨bd, 0, none⟩), .int .i64 (x : Int)] w fun e w' => ∃ ua un uc, e = .returned (.slice ua un uc) ∧ Ints w (.slice ua un uc) (atF bs ps x) ∧ w' = w := by
  have HPL : Hid (ps.length = nC) := hpl
  have HB : Hid (AtS w aB nB bs) := hB
  have HP : Hid (AtP w aC nC ps) := hP
  clear hpl hB hP
  go_enter Try.func60, Try.ntmps60
  go_wp2
  go_loop [5] (fun i => ∃ k : Nat, k ≤ nC ∧ i = .int .i64 ((k : Int) - 1) ∧ atF bs ps x = atK bs ps x k) (fun i => (intOf i + 1).toNat)
  case atStart => exact ⟨nC, Nat.le_refl _, rfl, by unfold atF; rw [HPL.out]⟩
  case round =>
    obtain ⟨k, hk, rfl, hat⟩ := hrel
    have HA : Hid (atF bs ps x = atK bs ps x k) := hat
    clear hat
    cases k with
    | succ k =>
      have ek : (((k + 1 : Nat) : Int) - 1) = (k : Int) := by omega
      rw [ek]
      clear ek
      obtain ⟨b, off, ua, ucap, e, c1, c2, i1⟩ := HP.out k (by omega)
      clear HP
      subst e
      have HI : Hid (Ints w (.slice ua (ps[k]?.getD (0, [])).2.length ucap) (ps[k]?.getD (0, [])).2) := i1
      clear i1
      have hlt : k < nC := by omega
      by_cases he : (ps[k]?.getD (0, [])).1 = (x : Int)
      · have hb : ((ps[k]?.getD (0, [])).1 == (x : Int)) = true := by simpa using he
        have HE : Hid ((ps[k]?.getD (0, [])).1 = (x : Int)) := he
        clear he
        go_wp2
        go_ret
        exact ⟨_, _, _, rfl, by rw [HA.out, atK_hit HE.out]; exact HI.out, rfl⟩
      · have hb : ((ps[k]?.getD (0, [])).1 == (x : Int)) = false := by simpa using he
        have HE : Hid (¬ (ps[k]?.getD (0, [])).1 = (x : Int)) := he
        clear he
        go_wp2
        go_round
        case rel => exact ⟨k, by omega, rfl, by rw [HA.out, atK_miss HE.out]⟩
        case measure => simp [intOf]
    | zero =>
      obtain ⟨b, off, ua, ucap, e, c1, i1⟩ := HB.out x hxl
      clear HB
      subst e
      have HI : Hid (Ints w (.slice ua (bs[x]?.getD []).length ucap) (bs[x]?.getD [])) := i1
      clear i1
      go_wp2
      go_ret
      exact ⟨_, _, _, rfl, by rw [HA.out]; simpa [atK] using HI.out, rfl⟩

/-- An answer that is a code and a list. -/
def AnsInts (w : World) (code : Int) (zs : List Int) (e : Ending) (w' : World) : Prop :=
  ∃ a n c, e = .returned (.agg #[.int .i64 code, .slice a n c]) ∧ Below w.heap.size w w' ∧ IntsO w' (.slice a n c) zs (fresh w w')
theorem ansInts_bad {w w' : World} (hb : Below w.heap.size w w') (code : Int) : AnsInts w code [] (.returned (.agg #[.int .i64 code, .slice none 0 0])) w' := ⟨none, 0, 0, rfl, hb, Or.inl ⟨rfl, none, 0, rfl⟩⟩

def atCode (bs : List (List Int)) (ps : List (Int × List Int)) (x : Int) : Int := placeF bs ps x
def atList (bs : List (List Int)) (ps : List (Int × List Int)) (x : Int) : List Int := if placeF bs ps x = 0 then atF bs ps x else []

theorem faultF_lens {bs : List (List Int)} {ps : List (Int × List Int)} (h : faultF bs ps = 0) : bs.length ≤ 60 ∧ ps.length ≤ 200 := by
  by_cases g : 60 < bs.length ∨ 200 < ps.length
  · rw [faultF_many g] at h; omega
  · omega

set_option maxHeartbeats 800000 in
theorem specAt_fault (w : World) (vB vC : Value) (bs : List (List Int)) (ps : List (Int × List Int)) (x : Int) (hB : IntsS w vB bs) (hP : Puts w vC ps) (hf : ¬ faultF bs ps = 0) :
    Calls Try.prog 25 #[.agg #[vB, vC], .int .i64 x] w fun e w' => e = .returned (.agg #[.int .i64 (faultF bs ps), .slice none 0 0]) ∧ Below w.heap.size w w' := by
  have HB : Hid (IntsS w vB bs) := hB
  have HP : Hid (Puts w vC ps) := hP
  generalize hc : faultF bs ps = c at *
  have HC : Hid (faultF bs ps = c) := hc
  have hne : (c != 0) = true := by simpa using hf
  clear hB hP hf hc
  go_enter Try.func25, Try.ntmps25
  go_wp2_with fail
  refine (l1Fault_any (vB := vB) (vC := vC) ?_ ?_ (HB.out.later (later2 _ _ _)) (HP.out.later (later2 _ _ _))).mono ?_
  · exact ((Box2.new w vB vC 30).later (later1 _ _)).1
  · exact ((Box2.new w vB vC 30).later (later1 _ _)).2
  rw [HC.out]
  rintro e w' ⟨rfl, m, rfl⟩
  go_wp2
  exact bodyPost_ret (v := .agg #[.int .i64 c, .slice none 0 0]) (by simp [results, Try.results25, go_sem]) rfl ⟨rfl, ((below_drewN (later2 _ _ _) m).setCell (by simp) _).setCell (by simp) _⟩

set_option maxHeartbeats 800000 in
theorem specAt_place (w : World) (aB : Option Addr) (nB cB : Nat) (vC : Value) (bs : List (List Int)) (ps : List (Int × List Int)) (x : Int) (hn : nB ≤ maxLen) (hB : IntsS w (.slice aB nB cB) bs) (hP : Puts w vC ps) (hf : faultF bs ps = 0) (hp : placeB nB x = false) :
    Calls Try.prog 25 #[.agg #[.slice aB nB cB, vC], .int .i64 x] w fun e w' => e = .returned (.agg #[.int .i64 3, .slice none 0 0]) ∧ Below w.heap.size w w' := by
  have HB : Hid (IntsS w (.slice aB nB cB) bs) := hB
  have HP : Hid (Puts w vC ps) := hP
  have HF : Hid (faultF bs ps = 0) := hf
  have HPL : Hid (placeB nB x = false) := hp
  clear hB hP hf hp
  go_enter Try.func25, Try.ntmps25
  go_wp2_with fail
  refine (l1Fault_any (vB := .slice aB nB cB) (vC := vC) ?_ ?_ (HB.out.later (later2 _ _ _)) (HP.out.later (later2 _ _ _))).mono ?_
  · exact ((Box2.new w (.slice aB nB cB) vC 30).later (later1 _ _)).1
  · exact ((Box2.new w (.slice aB nB cB) vC 30).later (later1 _ _)).2
  rw [HF.out]
  rintro e w' ⟨rfl, m, rfl⟩
  go_wp2_with fail
  refine (l1Place_any _ _ aB nB cB x hn ?_).mono ?_
  · exact ((Box2.new w (.slice aB nB cB) vC 30).later (later1 _ _)).1
  rw [HPL.out]
  rintro e w' ⟨rfl, rfl⟩
  go_wp2
  exact bodyPost_ret (v := .agg #[.int .i64 3, .slice none 0 0]) (by simp [results, Try.results25, go_sem]) rfl ⟨rfl, ((below_drewN (later2 _ _ _) m).setCell (by simp) _).setCell (by simp) _⟩

set_option maxHeartbeats 1600000 in
theorem specAt_ok (w : World) (aB aC : Option Addr) (cB cC : Nat) (bs : List (List Int)) (ps : List (Int × List Int)) (x : Nat) (hB : IntsS w (.slice aB bs.length cB) bs) (hP : Puts w (.slice aC ps.length cC) ps) (sB : AtS w aB bs.length bs) (sP : AtP w aC ps.length ps) (hf : faultF bs ps = 0) (hx : x < bs.length) (hlen : (atF bs ps x).length ≤ 1048576) :
    Calls Try.prog 25 #[.agg #[.slice aB bs.length cB, .slice aC ps.length cC], .int .i64 (x : Int)] w (AnsInts w 0 (atF bs ps x)) := by
  have HB : Hid (IntsS w (.slice aB bs.length cB) bs) := hB
  have HP : Hid (Puts w (.slice aC ps.length cC) ps) := hP
  have SB : Hid (AtS w aB bs.length bs) := sB
  have SP : Hid (AtP w aC ps.length ps) := sP
  have HF : Hid (faultF bs ps = 0) := hf
  obtain ⟨g1, g2⟩ := faultF_lens hf
  have HL : Hid ((atF bs ps x).length ≤ 1048576) := hlen
  have HPL : Hid (placeB bs.length (x : Int) = true) := by unfold Hid placeB; simp [hx]
  have hmax : bs.length ≤ maxLen := by unfold maxLen; omega
  have HMX : Hid (bs.length ≤ maxLen) := hmax
  clear hB hP hf sB sP hlen hmax
  go_enter Try.func25, Try.ntmps25
  go_wp2_with fail
  refine (l1Fault_any (vB := .slice aB bs.length cB) (vC := .slice aC ps.length cC) ?_ ?_ (HB.out.later (later2 _ _ _)) (HP.out.later (later2 _ _ _))).mono ?_
  · exact ((Box2.new w (.slice aB bs.length cB) (.slice aC ps.length cC) 30).later (later1 _ _)).1
  · exact ((Box2.new w (.slice aB bs.length cB) (.slice aC ps.length cC) 30).later (later1 _ _)).2
  rw [HF.out]
  rintro e w' ⟨rfl, m, rfl⟩
  go_wp2_with fail
  refine (l1Place_any _ _ aB bs.length cB _ HMX.out ?_).mono ?_
  · exact ((Box2.new w (.slice aB bs.length cB) (.slice aC ps.length cC) 30).later (later1 _ _)).1
  rw [HPL.out]
  rintro e w' ⟨rfl, rfl⟩
  go_wp2_with fail
  refine (l1At_walk _ _ aB aC bs.length cB ps.length cC bs ps x hx g1 rfl g2 ?_ ?_ ?_ ?_).mono ?_
  · exact ((Box2.new w (.slice aB bs.length cB) (.slice aC ps.length cC) 30).later (later1 _ _)).1
  · exact ((Box2.new w (.slice aB bs.length cB) (.slice aC ps.length cC) 30).later (later1 _ _)).2
  · exact SB.out.later (below_drewN (later2 _ _ _) m)
  · exact SP.out.later (below_drewN (later2 _ _ _) m)
  rintro e w' ⟨ua, un, uc, rfl, hi, rfl⟩
  have HI : Hid (Ints _ (.slice ua un uc) (atF bs ps x)) := hi
  clear hi
  go_wp2_with fail
  refine (l1Ints_any HI.out HL.out).mono ?_
  rintro e w1 ⟨ra, rc, rfl, hb1, ho1⟩
  have HB1 : Hid (Below w.heap.size w w1) := (below_drewN (later2 _ _ _) m).trans (hb1.mono (by simp [World.drewN]; omega))
  have HO1 : Hid (IntsO w1 (.slice ra (atF bs ps x).length rc) (atF bs ps x) (fun b => w.heap.size + 1 + 1 ≤ b ∧ b < w1.heap.size)) := ho1.mono fun b hb => ⟨by have := hb.1; simp [World.drewN] at this; omega, hb.2⟩
  have HR1 : OwnRow w1 (w.heap.size + 1) 2 (fun i => if i = 0 then .int .i64 0 else .slice none 0 0) := by
    have h := (OwnRow.two (w.alloc (Obj.cells #[Value.slice aB bs.length cB, Value.slice aC ps.length cC] 30)) (.int .i64 0) (.slice none 0 0) 48)
    have h2 := (h.later (below_drewN (Below.refl _ _) m)).later hb1
    simpa using h2
  have t0 := HR1.cell (i := 0) (by omega)
  have t1 := HR1.cell (i := 1) (by omega)
  have t2 := HR1.frozen 0
  have t3 := HR1.frozen 1
  simp at t0 t1
  clear hb1 ho1 HR1
  go_wp2
  refine bodyPost_ret (v := .agg #[.int .i64 0, .slice ra (atF bs ps x).length rc]) (by simp [results, Try.results25, go_sem, t0, t1]) rfl ⟨_, _, _, rfl, ?_, ?_⟩
  · exact (HB1.out.setCell (by simp) _).setCell (by simp) _
  · refine ((HO1.out.store (fun b hb => ?_) _).store (fun b hb => ?_) _).mono fun b hb => ?_
    · have := hb.1; simp; omega
    · have := hb.1; simp; omega
    · exact ⟨by have := hb.1; omega, by simpa [World.setCell] using hb.2⟩
end Go.Proofs.Ytaechaeaijddmag
