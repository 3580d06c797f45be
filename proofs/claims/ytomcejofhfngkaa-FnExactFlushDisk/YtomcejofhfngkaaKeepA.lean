
/- The walk of the specification's keeping of what is picked. -/
import Derived.Test.YtomcejofhfngkaaSetA
import Derived.Test.YtomcejofhfngkaaCpyA
import Derived.Deep.RegionHeld3
namespace Go.Proofs.Ytomcejofhfngkaa
open Go.RowKit
set_option maxRecDepth 100000

/-- Where the bits of a list lie. -/
def AtBs (w : World) (a : Option Addr) (n : Nat) (pb : List Bool) : Prop := ∀ k, k < n → ∃ b off, a = some ⟨b, off, none⟩ ∧ w.cell? ⟨b, off + k, none⟩ = some (.bool (pb[k]?.getD false))
theorem AtBs.later {w w' : World} {a : Option Addr} {n : Nat} {pb : List Bool} (h : AtBs w a n pb) (hb : Below w.heap.size w w') : AtBs w' a n pb := fun k hk => by
  obtain ⟨b, off, e, c⟩ := h k hk
  exact ⟨b, off, e, cell_later hb c⟩

set_option maxHeartbeats 3200000 in
theorem l1Keep_any (hcp : L1CopySaid) (w : World) (aB aC ap : Option Addr) (cB cC np cap : Nat) (all : Bool) (bs : List (List Int)) (ps : List (Int × List Int)) (pb : List Bool) (g1 : bs.length ≤ 60) (g2 : ps.length ≤ 200) (hz : ∀ k : Nat, (bs[k]?.getD []).length ≤ 1048576) (hzp : ∀ k : Nat, (ps[k]?.getD (0, [])).2.length ≤ 1048576) (hB : AtS w aB bs.length bs) (hP : AtP w aC ps.length ps)
    (hpl : ∀ k, k < ps.length → ∃ x : Nat, (ps[k]?.getD (0, [])).1 = x ∧ x < bs.length) (hpb : pb.length = np) (hA : AtBs w ap np pb) :
    Calls Try.prog 61 #[.agg #[.slice aB bs.length cB, .slice aC ps.length cC], .slice ap np cap, .bool all] w fun e w' => ∃ aX cX, e = .returned (.agg #[.slice aX bs.length cX, .slice none 0 0]) ∧ Below w.heap.size w w' ∧ IntsSO w' (.slice aX bs.length cX) (keepTo (fun i => all || pb[i]?.getD false) bs ps ps.length) (fresh w w') := by
  have HCP : Hid L1CopySaid := hcp
  have HZP : Hid (∀ k : Nat, (ps[k]?.getD (0, [])).2.length ≤ 1048576) := hzp
  have HZ : Hid (∀ k : Nat, (bs[k]?.getD []).length ≤ 1048576) := hz
  have HB : Hid (AtS w aB bs.length bs) := hB
  have HP : Hid (AtP w aC ps.length ps) := hP
  have HPL : Hid (∀ k, k < ps.length → ∃ x : Nat, (ps[k]?.getD (0, [])).1 = x ∧ x < bs.length) := hpl
  have HA : Hid (AtBs w ap np pb) := hA
  clear hcp hzp hz hB hP hpl hA
  go_enter Try.func61, Try.ntmps61
  go_wp2_with fail
  refine (HCP.out _ aB aC bs.length cB ps.length cC bs ps rfl rfl g1 g2 HZ.out HZP.out (HB.out.later (later2 _ _ _)) (HP.out.later (later2 _ _ _))).mono ?_
  rintro e w1 ⟨S, aX, cX, aY, cY, k, u, rfl, hb1, hS1, hS2, hio, hlr⟩
  have HW1 : Hid (Below w.heap.size w w1) := (later2 _ _ _).trans (hb1.mono (by simp; omega))
  have HX1 : Hid (Box2 w1 w.heap.size (.slice aB bs.length cB) (.slice aC ps.length cC)) := ((Box2.new _ _ _ _).later (later1 _ _)).later hb1
  have HR1 : Hid (OwnRow w1 (w.heap.size + 1) 2 (fun c => if c = 0 then .slice none 0 0 else .slice none 0 0)) := by
    have h := (OwnRow.two (w.alloc (.cells #[.slice aB bs.length cB, .slice aC ps.length cC] 30)) (.slice none 0 0) (.slice none 0 0) 30).later hb1
    unfold Hid
    simpa using h
  have HIO : Hid (IntsSO w1 (.slice aX bs.length cX) bs (fun c => w.heap.size + 2 ≤ c ∧ c < w1.heap.size)) := hio.mono fun b hb => ⟨by have := hb.1; simp at this; omega, by have := hb.2; omega⟩
  have hz1 : w.heap.size + 1 < w1.heap.size := HR1.out.lt
  clear hb1 hS1 hS2 hio hlr
  go_wp2_with fail
  go_loopw [8] (fun i wr => ∃ q : Nat, q ≤ ps.length ∧ i = .int .i64 q ∧ Below w.heap.size w wr ∧ w1.heap.size < wr.heap.size ∧ Box2 wr w.heap.size (.slice aB bs.length cB) (.slice aC ps.length cC) ∧ OwnRow wr (w.heap.size + 1) 2 (fun c => if c = 0 then .slice none 0 0 else .slice none 0 0) ∧ OwnRow wr w1.heap.size 2 (fun c => if c = 0 then .slice aX bs.length cX else .slice none 0 0) ∧
    IntsSO wr (.slice aX bs.length cX) (keepTo (fun i => all || pb[i]?.getD false) bs ps q) (fun c => w.heap.size + 2 ≤ c ∧ c < wr.heap.size ∧ c ≠ w1.heap.size)) (fun i _ => ps.length - (intOf i).toNat)
  case atStart =>
    refine ⟨0, Nat.zero_le _, rfl, HW1.out.trans ((later1 _ _).mono HW1.out.size), by simp, HX1.out.later (later1 _ _), HR1.out.later (later1 _ _), OwnRow.two w1 _ _ _, (HIO.out.keep (fun b _ hlt => (later1 _ _).block b hlt)).mono fun b hb => ⟨hb.1, by simp; omega, by omega⟩⟩
  case round =>
    obtain ⟨q, hq, rfl, hbw, hsz, hbx, hres, hout, his⟩ := hrel
    have HBW : Hid (Below w.heap.size w wr) := hbw
    have HBX : Hid (Box2 wr w.heap.size (.slice aB bs.length cB) (.slice aC ps.length cC)) := hbx
    have HRES : Hid (OwnRow wr (w.heap.size + 1) 2 (fun c => if c = 0 then .slice none 0 0 else .slice none 0 0)) := hres
    have HOUT : Hid (OwnRow wr w1.heap.size 2 (fun c => if c = 0 then .slice aX bs.length cX else .slice none 0 0)) := hout
    have HIS : Hid (IntsSO wr (.slice aX bs.length cX) (keepTo (fun i => all || pb[i]?.getD false) bs ps q) (fun c => w.heap.size + 2 ≤ c ∧ c < wr.heap.size ∧ c ≠ w1.heap.size)) := his
    clear hbw hbx hres hout his
    obtain ⟨b0, b1⟩ := HBX.out
    by_cases hlt : q < ps.length
    · obtain ⟨b, off, ua, ucap, e, c1, c2, i1⟩ := HP.out q hlt
      subst e
      have c0 := c1
      replace c1 := cell_later HBW.out c1
      replace c2 := cell_later HBW.out c2
      obtain ⟨x, hx, hxl⟩ := HPL.out q hlt
      rw [hx] at c1
      generalize hwd : (ps[q]?.getD (0, [])).2 = wd at c2 i1
      have HWD : Hid ((ps[q]?.getD (0, [])).2 = wd) := hwd
      have HLW : Hid (wd.length ≤ 1048576) := hwd ▸ HZP.out q
      have HXX : Hid ((ps[q]?.getD (0, [])).1 = (x : Int)) := hx
      have HI : Hid (Ints wr _ wd) := i1.later HBW.out
      clear i1 hwd hx
      have o0 := HOUT.out.cell (i := 0) (by omega)
      simp at o0
      obtain ⟨g, va, vn, vc, rfl, hFg, hgl, g1', g2'⟩ := HIS.out.cell (x := x) (by rw [keepTo_length]; exact hxl)
      have ST : ∀ {X : World} {v : Value}, Below wr.heap.size wr X → IntsO X v wd (fresh wr X) → Below w.heap.size w (X.setCell ⟨g, x, none⟩ v) ∧ w1.heap.size < (X.setCell ⟨g, x, none⟩ v).heap.size ∧ Box2 (X.setCell ⟨g, x, none⟩ v) w.heap.size (.slice aB bs.length cB) (.slice (some ⟨b, off, none⟩) ps.length cC) ∧ OwnRow (X.setCell ⟨g, x, none⟩ v) (w.heap.size + 1) 2 (fun c => if c = 0 then .slice none 0 0 else .slice none 0 0) ∧ OwnRow (X.setCell ⟨g, x, none⟩ v) w1.heap.size 2 (fun c => if c = 0 then .slice (some ⟨g, 0, none⟩) bs.length cX else .slice none 0 0) ∧
          IntsSO (X.setCell ⟨g, x, none⟩ v) (.slice (some ⟨g, 0, none⟩) bs.length cX) ((keepTo (fun i => all || pb[i]?.getD false) bs ps q).set ((x : Int)).toNat wd) (fun c => w.heap.size + 2 ≤ c ∧ c < (X.setCell ⟨g, x, none⟩ v).heap.size ∧ c ≠ w1.heap.size) := by
        intro X v hX hv
        have hXs := hX.size
        refine ⟨(HBW.out.trans (hX.mono HBW.out.size)).setCell (by simp; omega) _, by simp [World.setCell]; omega, (HBX.out.later hX).store (by simp; omega) _, (HRES.out.later hX).store (by simp; omega) _, (HOUT.out.later hX).store (by simp; omega) _, ?_⟩
        refine (HIS.out.set (x := x) (by rw [keepTo_length]; exact hxl) hX (fun b hb => hb.2.1) hv).mono fun c hc => ?_
        simp only [World.setCell, Array.size_modify]
        rcases hc with hc | hc
        · omega
        · have := hc.1; have := hc.2; omega
      have n1 : g ≠ w1.heap.size := hFg.2.2
      have n2 : g ≠ w.heap.size := by omega
      have n3 : g ≠ b := by have := World.block_lt_of_cell? _ _ c0; simp at this; omega
      have x0 : (0 : Int) ≤ (x : Int) := by omega
      have x1 : (x : Int) < (bs.length : Int) := by omega
      clear c0
      cases all
      · by_cases hqn : q < np
        · obtain ⟨b', off', e', c3⟩ := HA.out q hqn
          replace c3 := cell_later HBW.out c3
          subst e'
          cases hpk : pb[q]?.getD false
          · rw [hpk] at c3
            go_wp2
            go_roundw
            case rel => exact ⟨q + 1, by omega, by go_num, HBW.out, hsz, HBX.out, HRES.out, HOUT.out, by rw [keepTo_skip (by simp [hpk])]; exact HIS.out⟩
            case measure => simp [intOf]; omega
          · rw [hpk] at c3
            go_wp2_with fail
            go_region_held3 (fun W => W.cell? ⟨w1.heap.size, 0, none⟩ = some (.slice (some ⟨g, 0, none⟩) bs.length cX) ∧ W.cell? ⟨w.heap.size, 1, none⟩ = some (.slice (some ⟨b, off, none⟩) ps.length cC) ∧ W.cell? ⟨b, off + q * 2, none⟩ = some (.int .i64 (x : Int)) ∧ W.cell? ⟨b, off + q * 2 + 1, none⟩ = some (.slice ua wd.length ucap)) (go_keep) (first | (go_at_call 47; refine (l1Ints_more ?_ HLW.out).mono ?_; exact HI.out; rintro e w2 ⟨na, nc, rfl, hb2, ho2, hs2⟩; have d0 := cell_later hb2 o0; have d1 := cell_later hb2 g1'; have d2 := (hb2.frozen (p := ⟨g, x, none⟩) hgl).trans g2'; have d3 := cell_later hb2 b1; have d4 := cell_later hb2 c1; have d5 := cell_later hb2 c2; have HB2 : Hid (Below wr.heap.size wr w2) := (Below.refl _ _).drew.trans hb2; have HO2 : Hid (IntsO w2 (.slice na wd.length nc) wd (fresh wr w2)) := ho2; clear hb2 ho2 hs2))
            all_goals
              go_wp2
              go_roundw
              case rel =>
                refine ⟨q + 1, by omega, by go_num, ?_⟩
                rw [keepTo_step (by simp [hpk]), HXX.out, HWD.out]
                exact ST HB2.out HO2.out
              case measure => simp [intOf]; omega
        · have hpk : pb[q]?.getD false = false := by rw [List.getElem?_eq_none (by omega)]; rfl
          go_wp2
          go_roundw
          case rel => exact ⟨q + 1, by omega, by go_num, HBW.out, hsz, HBX.out, HRES.out, HOUT.out, by rw [keepTo_skip (by simp [hpk])]; exact HIS.out⟩
          case measure => simp [intOf]; omega
      · go_wp2_with fail
        go_region_held3 (fun W => W.cell? ⟨w1.heap.size, 0, none⟩ = some (.slice (some ⟨g, 0, none⟩) bs.length cX) ∧ W.cell? ⟨w.heap.size, 1, none⟩ = some (.slice (some ⟨b, off, none⟩) ps.length cC) ∧ W.cell? ⟨b, off + q * 2, none⟩ = some (.int .i64 (x : Int)) ∧ W.cell? ⟨b, off + q * 2 + 1, none⟩ = some (.slice ua wd.length ucap)) (go_keep) (first | (go_at_call 47; refine (l1Ints_more ?_ HLW.out).mono ?_; exact HI.out; rintro e w2 ⟨na, nc, rfl, hb2, ho2, hs2⟩; have d0 := cell_later hb2 o0; have d1 := cell_later hb2 g1'; have d2 := (hb2.frozen (p := ⟨g, x, none⟩) hgl).trans g2'; have d3 := cell_later hb2 b1; have d4 := cell_later hb2 c1; have d5 := cell_later hb2 c2; have HB2 : Hid (Below wr.heap.size wr w2) := (Below.refl _ _).drew.trans hb2; have HO2 : Hid (IntsO w2 (.slice na wd.length nc) wd (fresh wr w2)) := ho2; clear hb2 ho2 hs2))
        all_goals
          go_wp2
          go_roundw
          case rel =>
            refine ⟨q + 1, by omega, by go_num, ?_⟩
            rw [keepTo_step (by simp []), HXX.out, HWD.out]
            exact ST HB2.out HO2.out
          case measure => simp [intOf]; omega
    · have e : q = ps.length := by omega
      subst e
      have o0 := HOUT.out.cell (i := 0) (by omega)
      have o1 := HOUT.out.cell (i := 1) (by omega)
      simp at o0 o1
      have r0 := HRES.out.cell (i := 0) (by omega)
      have r1 := HRES.out.cell (i := 1) (by omega)
      have s0 := HRES.out.frozen 0
      have s1 := HRES.out.frozen 1
      simp at r0 r1
      go_wp2
      refine bodyPost_ret (v := .agg #[.slice aX bs.length cX, .slice none 0 0]) (by simp [results, Try.results61, go_sem, r0, r1]) rfl ⟨_, _, rfl, (HBW.out.setCell (by simp) _).setCell (by simp) _, ?_⟩
      refine ((HIS.out.store (fun b hb => by simp; omega) _).store (fun b hb => by simp; omega) _).mono fun b hb => ⟨by omega, ?_⟩
      simp only [World.setCell, Array.size_modify]
      omega
end Go.Proofs.Ytomcejofhfngkaa
