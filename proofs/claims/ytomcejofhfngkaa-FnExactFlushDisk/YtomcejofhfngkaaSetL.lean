
/- The walk of the program's settling of what is picked. -/
import Derived.Test.YtomcejofhfngkaaFluA
import Derived.Test.YtomcejofhfngkaaPutC
namespace Go.Proofs.Ytomcejofhfngkaa
open Go.RowKit
set_option maxRecDepth 100000

theorem IntsSO.row {w : World} {g n cap : Nat} {zss : List (List Int)} {F : Nat → Prop} (h : IntsSO w (.slice (some ⟨g, 0, none⟩) n cap) zss F) (h0 : 0 < zss.length) : ∃ u, OwnRow w g n u ∧ F g ∧ ∀ i, i < n → ∃ ua un uc, u i = .slice ua un uc := by
  rcases h with ⟨h, _⟩ | ⟨b, cap', u, G, hFb, _, _, h1, _, h3, h4⟩
  · subst h; simp at h0
  · simp only [Value.slice.injEq, Option.some.injEq, Addr.mk.injEq, and_true] at h1
    obtain ⟨rfl, rfl, rfl⟩ := h1
    refine ⟨u, h3, hFb, fun i hi => ?_⟩
    rcases h4 i hi with ⟨_, a, c, e⟩ | ⟨_, _, _, e, _⟩
    · exact ⟨_, _, _, e⟩
    · exact ⟨_, _, _, e⟩
theorem AtBs.set {w X : World} {a : Option Addr} {n g x : Nat} {v : Value} {pb : List Bool} (h : AtBs w a n pb) (hb : Below w.heap.size w X) (hg : ∀ b off, a = some ⟨b, off, none⟩ → b ≠ g) : AtBs (X.setCell ⟨g, x, none⟩ v) a n pb := fun k hk => by
  obtain ⟨b, off, e, c⟩ := h k hk
  exact ⟨b, off, e, (World.cell?_of_block (w := X) (Below.heap_setCell _ _ _ _ (hg b off e))).trans (cell_later hb c)⟩

set_option maxHeartbeats 3200000 in
theorem settle_any (w : World) (lo bd g nB n : Nat) (aP : Option Addr) (cP : Nat) (ap : Option Addr) (np cap : Nat) (bs : List (List Int)) (ps : List (Int × List Int)) (bb : List Bool) (pb k : Nat → Nat) (u : Nat → Value) (hlo : lo ≤ bd) (hbl : bs.length = nB) (hn : n ≤ 200) (hnB : nB ≤ 60) (hnp : bb.length = np) (hpl : ∀ i, i < n → ∃ x : Nat, (ps[i]?.getD (0, [])).1 = x ∧ x < nB) (hzp : ∀ k : Nat, (ps[k]?.getD (0, [])).2.length ≤ 1048576) (hA : AtBs w ap np bb) (hAg : 0 < nB → 0 < np → ∀ b off, ap = some ⟨b, off, none⟩ → b ≠ g)
    (hd : OwnRow w bd 2 (fun c => if c = 0 then .slice (some ⟨g, 0, none⟩) nB nB else .slice aP n cP)) (hc : Cache w (bd + 1) (.slice aP n cP) n (fun i => ps[i]?.getD (0, [])) pb k u) (hb : IntsSO w (.slice (some ⟨g, 0, none⟩) nB nB) bs (fun c => lo ≤ c ∧ c < bd)) :
    Calls Try.prog 81 #[.pointer (some ⟨bd, 0, none⟩), .slice ap np cap] w fun e w' => e = .returned (.tuple #[]) ∧ Below lo w w' ∧ OwnRow w' bd 2 (fun c => if c = 0 then .slice (some ⟨g, 0, none⟩) nB nB else .slice none 0 0) ∧ IntsSO w' (.slice (some ⟨g, 0, none⟩) nB nB) (keepTo (fun i => bb[i]?.getD false) bs ps n) (fun c => lo ≤ c ∧ c < w'.heap.size ∧ c ≠ bd) := by
  have HC : Hid (Cache w (bd + 1) (.slice aP n cP) n (fun i => ps[i]?.getD (0, [])) pb k u) := hc
  have HD : Hid (OwnRow w bd 2 (fun c => if c = 0 then .slice (some ⟨g, 0, none⟩) nB nB else .slice aP n cP)) := hd
  have HB : Hid (IntsSO w (.slice (some ⟨g, 0, none⟩) nB nB) bs (fun c => lo ≤ c ∧ c < bd)) := hb
  have HPL : Hid (∀ i, i < n → ∃ x : Nat, (ps[i]?.getD (0, [])).1 = x ∧ x < nB) := hpl
  have HZP : Hid (∀ k : Nat, (ps[k]?.getD (0, [])).2.length ≤ 1048576) := hzp
  have HA : Hid (AtBs w ap np bb) := hA
  have d0 := hd.cell (i := 0) (by omega)
  have d1 := hd.cell (i := 1) (by omega)
  simp at d0 d1
  have hlt : bd < w.heap.size := hd.lt
  have HAG : Hid (0 < nB → 0 < np → ∀ b off, ap = some ⟨b, off, none⟩ → b ≠ g) := hAg
  clear hc hd hb hpl hzp hA hAg
  go_enter Try.func81, Try.ntmps81
  go_wp2_with fail
  go_loopw [4, 5, 11] (fun _ _ i wr => ∃ j : Nat, j ≤ n ∧ i = .int .i64 j ∧ Below lo w wr ∧ OwnRow wr bd 2 (fun c => if c = 0 then .slice (some ⟨g, 0, none⟩) nB nB else .slice aP n cP) ∧ Cache wr (bd + 1) (.slice aP n cP) n (fun i => ps[i]?.getD (0, [])) pb k u ∧ AtBs wr ap np bb ∧
    IntsSO wr (.slice (some ⟨g, 0, none⟩) nB nB) (keepTo (fun i => bb[i]?.getD false) bs ps j) (fun c => lo ≤ c ∧ c < wr.heap.size ∧ (c < bd ∨ w.heap.size ≤ c))) (fun _ _ i _ => n - (intOf i).toNat)
  case atStart => exact ⟨0, Nat.zero_le _, rfl, Below.refl _ _, HD.out, HC.out, HA.out, HB.out.mono fun b hb => ⟨hb.1, by omega, Or.inl hb.2⟩⟩
  case round =>
    obtain ⟨j, hj, rfl, hbw, hrow, hca, hat, his⟩ := hrel
    have HBW : Hid (Below lo w wr) := hbw
    have HROW : Hid (OwnRow wr bd 2 (fun c => if c = 0 then .slice (some ⟨g, 0, none⟩) nB nB else .slice aP n cP)) := hrow
    have HCA : Hid (Cache wr (bd + 1) (.slice aP n cP) n (fun i => ps[i]?.getD (0, [])) pb k u) := hca
    have HAT : Hid (AtBs wr ap np bb) := hat
    have HIS : Hid (IntsSO wr (.slice (some ⟨g, 0, none⟩) nB nB) (keepTo (fun i => bb[i]?.getD false) bs ps j) (fun c => lo ≤ c ∧ c < wr.heap.size ∧ (c < bd ∨ w.heap.size ≤ c))) := his
    have hws : w.heap.size ≤ wr.heap.size := hbw.size
    clear hbw hrow hca hat his d0 d1
    have d0 := HROW.out.cell (i := 0) (by omega)
    have d1 := HROW.out.cell (i := 1) (by omega)
    have d2 := HROW.out.frozen 1
    simp at d0 d1
    by_cases hlt2 : j < n
    · obtain ⟨g', ua, uc, e, p0, p1, p2, hu⟩ := HCA.out.ptr hlt2
      subst e
      have HI0 := (HCA.out.at' j hlt2).ints
      rw [hu] at HI0
      obtain ⟨x, hx, hxl⟩ := HPL.out j hlt2
      simp only [hx] at p1
      generalize hwd : (ps[j]?.getD (0, [])).2 = wd at p2 HI0
      have HWD : Hid ((ps[j]?.getD (0, [])).2 = wd) := hwd
      have HLW : Hid (wd.length ≤ 1048576) := hwd ▸ HZP.out j
      have HXX : Hid ((ps[j]?.getD (0, [])).1 = (x : Int)) := hx
      have HI : Hid (Ints wr (.slice ua wd.length uc) wd) := HI0
      have HUU : Hid (u j = .slice ua wd.length uc) := by unfold Hid; rw [hu, hwd]
      clear HI0 hwd hx hu
      by_cases hqn : j < np
      · obtain ⟨b', off', e', c3⟩ := HAT.out j hqn
        subst e'
        cases hpk : bb[j]?.getD false
        · rw [hpk] at c3
          go_wp2
          go_roundw
          case rel => exact ⟨j + 1, by omega, by go_num, HBW.out, HROW.out, HCA.out, HAT.out, by rw [keepTo_skip (by simp [hpk])]; exact HIS.out⟩
          case measure => simp [intOf]; omega
        · rw [hpk] at c3
          obtain ⟨ur, hur, _, hsh⟩ := HIS.out.row (by rw [keepTo_length]; omega)
          have HUR : Hid (OwnRow wr g nB ur) := hur
          have HSX : Hid (∃ ua un uc, ur x = .slice ua un uc) := hsh x hxl
          have hgw : g < wr.heap.size := hur.lt
          have hgb : lo ≤ g ∧ g < bd := by
            obtain ⟨_, _, h, _⟩ := HB.out.row (by omega)
            exact h
          clear hur hsh
          go_wp2_with fail
          go_region_with ((go_at_call 110; refine (set_any _ bd 0 g nB nB x ur _ wd hnB hxl ?_ ?_ HSX.out ?_ HLW.out).mono ?_; exact d0; exact HUR.out; exact HI.out; rintro e w2 ⟨rfl, X, rfl, hbX, hoX⟩; have HX : Hid (Below wr.heap.size wr X) := (Below.refl _ _).drew.trans hbX; have HO : Hid (IntsO X (.slice (some ⟨wr.heap.size, 0, none⟩) wd.length wd.length) wd (fresh wr X)) := hoX; clear hbX hoX))
          all_goals
            go_wp2
            go_roundw
            case rel =>
              have hXs := HX.out.size
              refine ⟨j + 1, by omega, by go_num, (HBW.out.trans (HX.out.mono (by omega))).setCell (by simp; omega) _, (HROW.out.later HX.out).store (by simp; omega) _, (HCA.out.later HX.out).keep (by simp [World.setCell]) (fun b h1 _ => Below.heap_setCell _ _ _ _ (by simp; omega)), HAT.out.set HX.out (HAG.out (by omega) (by omega)), ?_⟩
              rw [keepTo_step (by simp [hpk]), HXX.out, HWD.out]
              refine (HIS.out.set (x := x) (by rw [keepTo_length]; omega) HX.out (fun b hb => hb.2.1) HO.out).mono fun c hc => ?_
              simp only [World.setCell, Array.size_modify]
              rcases hc with hc | hc
              · omega
              · have := hc.1; have := hc.2; omega
            case measure => simp [intOf]; omega
      · have hpk : bb[j]?.getD false = false := by rw [List.getElem?_eq_none (by omega)]; rfl
        go_wp2
        go_roundw
        case rel => exact ⟨j + 1, by omega, by go_num, HBW.out, HROW.out, HCA.out, HAT.out, by rw [keepTo_skip (by simp [hpk])]; exact HIS.out⟩
        case measure => simp [intOf]; omega
    · have e : j = n := by omega
      subst e
      go_wp2
      go_end0
      refine ⟨rfl, HBW.out.setCell hlo _, (HROW.out.set 1 _).congr fun c hc => ?_, (HIS.out.store (fun b hb => by simp; omega) _).mono fun b hb => ⟨hb.1, by simp [World.setCell]; omega, by omega⟩⟩
      have : c = 0 ∨ c = 1 := by omega
      rcases this with rfl | rfl <;> simp
end Go.Proofs.Ytomcejofhfngkaa
