/- The law of BlockAt: at every disk and place the program's BlockAt answers as the specification, leaves the disk as it was, and its answer owns its memory. -/
import Derived.Test.YtjliefpfbjkokagAtB
import Derived.Test.YtjliefpfbjkokagResI
import Derived.Test.YtjliefpfbjkokagSz
namespace Go.Proofs.Ytjliefpfbjkokag
open Go.RowKit

set_option maxHeartbeats 1600000 in
theorem lawAt_big (w : World) (aB aC : Option Addr) (nB cB nC cC : Nat) (bs : List (List Int)) (ps : List (Int × List Int)) (x : Int) (hB : IntsS w (.slice aB nB cB) bs) (hP : Puts w (.slice aC nC cC) ps) (hsz : 1048576 < dsize bs ps) :
    Calls Try.prog 6 #[.agg #[.slice aB nB cB, .slice aC nC cC], .int .i64 x] w fun e w' => e = .returned (.bool true) ∧ Below w.heap.size w w' := by
  have HB : Hid (IntsS w (.slice aB nB cB) bs) := hB
  have HP : Hid (Puts w (.slice aC nC cC) ps) := hP
  have HS : Hid (szf 1048576 (dsize bs ps) = -1) := szf_no (by omega)
  clear hB hP hsz
  go_enter Try.func6, Try.ntmps6
  go_wp2_with fail
  refine (szDisk_any _ _ _ _ _ _ _ bs ps (HB.out.later (later1 _ _)) (HP.out.later (later1 _ _)) 1048576 (by omega) (by omega)).mono ?_
  rw [HS.out]
  rintro e w1 ⟨rfl, hb1⟩
  have HB1 : Hid (Below w.heap.size w w1) := (later1 _ _).trans (hb1.mono (by simp))
  clear hb1
  go_wp2
  go_ret
  exact ⟨rfl, HB1.out⟩

/-- What stands while the law goes: the argument's box, the specification's answer, the program's. -/
structure StI (w W : World) (vB vC : Value) (β0 β2 : Nat) (code : Int) (vw vg : Value) (zs gs : List Int) (Fw Fg : Nat → Prop) : Prop where
  below : Below w.heap.size w W
  arg : Box2 W w.heap.size vB vC
  bw : Box2 W β0 (.int .i64 code) vw
  bg : Box2 W β2 (.int .i64 code) vg
  dw : IntsO W vw zs Fw
  dg : IntsO W vg gs Fg
theorem StI.later {w W W' : World} {vB vC : Value} {β0 β2 : Nat} {code : Int} {vw vg : Value} {zs gs : List Int} {Fw Fg : Nat → Prop} (h : StI w W vB vC β0 β2 code vw vg zs gs Fw Fg) (hb : Below W.heap.size W W') : StI w W' vB vC β0 β2 code vw vg zs gs Fw Fg :=
  ⟨h.below.trans (hb.mono h.below.size), h.arg.later hb, h.bw.later hb, h.bg.later hb, h.dw.later hb, h.dg.later hb⟩

set_option maxHeartbeats 3200000 in
theorem lawAt_small (w : World) (aB aC : Option Addr) (nB cB nC cC : Nat) (bs : List (List Int)) (ps : List (Int × List Int)) (x : Int) (hB : IntsS w (.slice aB nB cB) bs) (hP : Puts w (.slice aC nC cC) ps) (hsz : dsize bs ps ≤ 1048576) :
    Calls Try.prog 6 #[.agg #[.slice aB nB cB, .slice aC nC cC], .int .i64 x] w fun e w' => e = .returned (.bool true) ∧ Below w.heap.size w w' := by
  have HB : Hid (IntsS w (.slice aB nB cB) bs) := hB
  have HP : Hid (Puts w (.slice aC nC cC) ps) := hP
  have HS : Hid (szf 1048576 (dsize bs ps) = 1048576 - (dsize bs ps : Int)) := szf_yes (by omega)
  have hpos : ¬ (1048576 - (dsize bs ps : Int) < 0) := by omega
  have L1 : Hid (bs.length + (bs.map List.length).sum ≤ 1048576) := by unfold dsize at hsz; unfold Hid; omega
  have L2 : Hid (ps.length + (wlens ps).sum ≤ 1048576) := by unfold dsize at hsz; unfold Hid; omega
  have LD : Hid ((1 : Int) + (dspan bs ps : Nat) ≤ 4611686018427387904) := by unfold dsize at hsz; unfold Hid dspan; omega
  have LB : Hid (∀ k : Nat, (bs[k]?.getD []).length ≤ 1048576) := fun k => by have := len_le_sum bs k; have := L1.out; omega
  have LP : Hid (∀ k : Nat, (ps[k]?.getD (0, [])).2.length ≤ 1048576) := fun k => by have := wlen_le_sum ps k; have := L2.out; omega
  generalize hcode : placeF bs ps x = code
  generalize hzs : atList bs ps x = zs
  have HC : Hid (placeF bs ps x = code) := hcode
  have HZ : Hid (atList bs ps x = zs) := hzs
  have hlz : zs.length ≤ 1048576 := by
    rw [← hzs]; unfold atList
    split
    · exact atF_len LB.out LP.out
    · simp
  clear hB hP hsz hcode hzs
  go_enter Try.func6, Try.ntmps6
  go_wp2_with fail
  refine (szDisk_any _ _ _ _ _ _ _ bs ps (HB.out.later (later1 _ _)) (HP.out.later (later1 _ _)) 1048576 (by omega) (by omega)).mono ?_
  rw [HS.out]
  rintro e w1 ⟨rfl, hb1⟩
  have HX : Hid (Box2 w1 w.heap.size (.slice aB nB cB) (.slice aC nC cC)) := (Box2.new _ _ _ _).later hb1
  have HW : Hid (Below w.heap.size w w1) := (later1 _ _).trans (hb1.mono (by simp))
  clear hb1
  obtain ⟨x0, x1⟩ := HX.out
  go_wp2_with fail
  clear x0 x1
  -- the specification's answer
  refine (toDisk_any _ _ _ _ _ _ _ bs ps (HB.out.later HW.out) (HP.out.later HW.out) L1.out L2.out).mono ?_
  rintro e w2 ⟨dB, eB, fB, dC, eC, fC, rfl, hb2, hd2⟩
  have HX2 : Hid (Box2 w2 w.heap.size (.slice aB nB cB) (.slice aC nC cC)) := HX.out.later hb2
  have HW2 : Hid (Below w.heap.size w w2) := HW.out.trans (hb2.mono HW.out.size)
  have HI2 : Hid (IntsS w2 (.slice dB eB fB) bs) := hd2.ints
  have HJ2 : Hid (Puts w2 (.slice dC eC fC) ps) := hd2.puts
  clear hb2 hd2 HX HW
  go_wp2_with fail
  refine (specAt_any _ _ _ bs ps x HI2.out HJ2.out LB.out LP.out).mono ?_
  rw [HC.out, HZ.out]
  rintro e w3 ⟨rwa, rwn, rwc, rfl, hb3, ho3⟩
  have HX3 : Hid (Box2 w3 w.heap.size (.slice aB nB cB) (.slice aC nC cC)) := HX2.out.later hb3
  have HW3 : Hid (Below w.heap.size w w3) := HW2.out.trans (hb3.mono HW2.out.size)
  have HO3 : Hid (IntsO w3 (.slice rwa rwn rwc) zs (fun b => w.heap.size < b ∧ b < w3.heap.size)) := ho3.mono fun b hb => ⟨by have := hb.1; have := HX2.out.lt; omega, hb.2⟩
  clear hb3 ho3 HX2 HW2 HI2 HJ2
  have hz3 : w.heap.size < w3.heap.size := HX3.out.lt
  obtain ⟨x0, x1⟩ := HX3.out
  go_wp2_with fail
  clear x0 x1
  -- the program's argument
  refine (toDisk_any _ _ _ _ _ _ _ bs ps ((HB.out.later HW3.out).later (later1 _ _)) ((HP.out.later HW3.out).later (later1 _ _)) L1.out L2.out).mono ?_
  rintro e w4 ⟨dB, eB, fB, dC, eC, fC, rfl, hb4, hd4⟩
  have HL4 : Hid (Below w3.heap.size w3 w4) := (later1 _ _).trans (hb4.mono (by simp))
  have HX4 : Hid (Box2 w4 w.heap.size (.slice aB nB cB) (.slice aC nC cC)) := HX3.out.later HL4.out
  have HV4 : Hid (Box2 w4 w3.heap.size (.int .i64 code) (.slice rwa rwn rwc)) := (Box2.new _ _ _ _).later hb4
  have HO4 : Hid (IntsO w4 (.slice rwa rwn rwc) zs (fun b => w.heap.size < b ∧ b < w3.heap.size)) := HO3.out.later HL4.out
  have HW4 : Hid (Below w.heap.size w w4) := HW3.out.trans (HL4.out.mono HW3.out.size)
  have HD4 : Hid (DiskO w4 (.slice dB eB fB) (.slice dC eC fC) bs ps (fun b => w3.heap.size < b ∧ b < w4.heap.size)) := hd4.mono fun b hb => ⟨by have := hb.1; simp at this; omega, hb.2⟩
  have hz4 : w3.heap.size < w4.heap.size := by have := hb4.size; simp at this; omega
  clear hb4 hd4 HX3 HW3 HO3 HL4
  go_wp2_with fail
  -- the program's answer
  refine (implAt_any _ _ _ bs ps x (HD4.out.ints.later (later1 _ _)) (HD4.out.puts.later (later1 _ _)) LB.out LP.out).mono ?_
  rw [HC.out, HZ.out]
  rintro e w5 ⟨rga, rgn, rgc, rfl, hb5, ho5⟩
  have HL5 : Hid (Below w4.heap.size w4 w5) := (later1 _ _).trans (hb5.mono (by simp))
  have HY5 : Hid (Box2 w5 w4.heap.size (.slice dB eB fB) (.slice dC eC fC)) := (Box2.new _ _ _ _).later hb5
  have HD5 : Hid (DiskO w5 (.slice dB eB fB) (.slice dC eC fC) bs ps (fun b => w3.heap.size < b ∧ b < w4.heap.size)) := HD4.out.later HL5.out
  have HX5 : Hid (Box2 w5 w.heap.size (.slice aB nB cB) (.slice aC nC cC)) := HX4.out.later HL5.out
  have HV5 : Hid (Box2 w5 w3.heap.size (.int .i64 code) (.slice rwa rwn rwc)) := HV4.out.later HL5.out
  have HO5 : Hid (IntsO w5 (.slice rwa rwn rwc) zs (fun b => w.heap.size < b ∧ b < w3.heap.size)) := HO4.out.later HL5.out
  have HG5 : Hid (IntsO w5 (.slice rga rgn rgc) zs (fun b => w4.heap.size < b ∧ b < w5.heap.size)) := ho5.mono fun b hb => ⟨by have := hb.1; simp at this; omega, hb.2⟩
  have HW5 : Hid (Below w.heap.size w w5) := HW4.out.trans (HL5.out.mono HW4.out.size)
  have hz5 : w4.heap.size < w5.heap.size := by have := hb5.size; simp at this; omega
  clear hb5 ho5 HX4 HV4 HO4 HW4 HD4 HL5
  obtain ⟨v0, v1⟩ := HV5.out
  have hz35 : w3.heap.size < w5.heap.size := by omega
  go_wp2_with fail
  clear v0 v1
  refine (eqIntsResult_true _ code _ _ zs (HG5.out.ints.later (later1 _ _)) (HO5.out.ints.later (later1 _ _))).mono ?_
  rintro e w6 ⟨rfl, hb6⟩
  have HL6 : Hid (Below w5.heap.size w5 w6) := (later1 _ _).trans (hb6.mono (by simp))
  have HY6 : Hid (Box2 w6 w4.heap.size (.slice dB eB fB) (.slice dC eC fC)) := HY5.out.later HL6.out
  have HD6 : Hid (DiskO w6 (.slice dB eB fB) (.slice dC eC fC) bs ps (fun b => w3.heap.size < b ∧ b < w4.heap.size)) := HD5.out.later HL6.out
  have HS6 : Hid (StI w w6 (.slice aB nB cB) (.slice aC nC cC) w3.heap.size w5.heap.size code (.slice rwa rwn rwc) (.slice rga rgn rgc) zs zs (fun b => w.heap.size < b ∧ b < w3.heap.size) (fun b => w4.heap.size < b ∧ b < w5.heap.size)) :=
    ⟨HW5.out.trans (HL6.out.mono HW5.out.size), HX5.out.later HL6.out, HV5.out.later HL6.out, (Box2.new _ _ _ _).later hb6, HO5.out.later HL6.out, HG5.out.later HL6.out⟩
  clear hb6 HL6 HY5 HD5 HX5 HV5 HO5 HG5 HW5
  obtain ⟨x0, x1⟩ := HS6.out.arg
  obtain ⟨y0, y1⟩ := HY6.out
  go_wp2_with fail
  go_region_with (first
    | (go_at_call 11; refine (toDisk_any _ _ _ _ _ _ _ bs ps ?_ ?_ L1.out L2.out).mono ?_; exact HB.out.later HS6.out.below.drew; exact HP.out.later HS6.out.below.drew; rintro e w7 ⟨gB, iB, jB, gC, iC, jC, rfl, hb7, hd7⟩; have z0 := cell_later hb7 y0; have z1 := cell_later hb7 y1; have HB7 : Hid (Below w6.heap.size w6 w7) := (Below.refl _ _).drew.trans hb7; have HD7 : Hid (IntsS w7 (.slice gB iB jB) bs ∧ Puts w7 (.slice gC iC jC) ps) := ⟨hd7.ints, hd7.puts⟩; clear hb7 hd7)
    | (go_at_call 13; refine (eqDisk_true _ _ _ _ _ bs ps ?_ ?_ ?_ ?_).mono ?_; exact HD6.out.ints.later HB7.out; exact HD6.out.puts.later HB7.out; exact HD7.out.1; exact HD7.out.2; rintro e w8 ⟨rfl, hb8⟩; have HB8 : Hid (Below w7.heap.size w7 w8) := hb8; clear hb8))
  all_goals
    have HL8 : Hid (Below w6.heap.size w6 w8) := HB7.out.trans (HB8.out.mono HB7.out.size)
    have HY8 : Hid (Box2 w8 w4.heap.size (.slice dB eB fB) (.slice dC eC fC)) := HY6.out.later HL8.out
    have HD8 : Hid (DiskO w8 (.slice dB eB fB) (.slice dC eC fC) bs ps (fun b => w3.heap.size < b ∧ b < w4.heap.size)) := HD6.out.later HL8.out
    have HS8 := HS6.out.later HL8.out
    have HS8' : Hid (StI w w8 (.slice aB nB cB) (.slice aC nC cC) w3.heap.size w5.heap.size code (.slice rwa rwn rwc) (.slice rga rgn rgc) zs zs (fun b => w.heap.size < b ∧ b < w3.heap.size) (fun b => w4.heap.size < b ∧ b < w5.heap.size)) := HS8
    clear HS8 HB7 HB8 HL8 HY6 HD6 HS6 z0 z1 x0 x1 y0 y1 HD7
    obtain ⟨y0, y1⟩ := HY8.out
    go_wp2_with fail
    clear y0 y1
    refine (markDsk _ _ _ bs ps _ 1 HD8.out (by omega) LD.out).mono ?_
    rintro e w9 ⟨rfl, hc9⟩
    have HS9 : Hid (StI w w9 (.slice aB nB cB) (.slice aC nC cC) w3.heap.size w5.heap.size code (.slice rwa rwn rwc) (.slice rga rgn rgc) zs zs (fun b => w.heap.size < b ∧ b < w3.heap.size) (fun b => w4.heap.size < b ∧ b < w5.heap.size)) :=
      ⟨HS8'.out.below.trans (hc9.below HS8'.out.below.size (fun b h => by omega)), HS8'.out.arg.chg hc9 (by omega), HS8'.out.bw.chg hc9 (by omega), HS8'.out.bg.chg hc9 (by omega), HS8'.out.dw.chg hc9 (fun b h h' => by omega), HS8'.out.dg.chg hc9 (fun b h h' => by omega)⟩
    clear hc9 HS8' HD8 HY8
    have hk9 : decide ((1 : Int) + (dspan bs ps : Nat) < 0) = false := by simp; omega
    obtain ⟨v0, v1⟩ := HS9.out.bw
    obtain ⟨u0, u1⟩ := HS9.out.bg
    go_wp2_with fail
    clear v0 v1 u0 u1
    refine (eqIntsResult_true _ code _ _ zs HS9.out.dg.ints HS9.out.dw.ints).mono ?_
    rintro e w10 ⟨rfl, hb10⟩
    have HS10 : Hid (StI w w10 (.slice aB nB cB) (.slice aC nC cC) w3.heap.size w5.heap.size code (.slice rwa rwn rwc) (.slice rga rgn rgc) zs zs (fun b => w.heap.size < b ∧ b < w3.heap.size) (fun b => w4.heap.size < b ∧ b < w5.heap.size)) := HS9.out.later hb10
    clear hb10 HS9
    obtain ⟨u0, u1⟩ := HS10.out.bg
    go_wp2_with fail
    clear u0 u1
    refine (markIntsResult_any _ code _ zs _ 1 HS10.out.dg (by omega) (by omega)).mono ?_
    rintro e w11 ⟨rfl, hm11, hc11⟩
    have HS11 : Hid (StI w w11 (.slice aB nB cB) (.slice aC nC cC) w3.heap.size w5.heap.size code (.slice rwa rwn rwc) (.slice rga rgn rgc) zs (marks 1 zs.length) (fun b => w.heap.size < b ∧ b < w3.heap.size) (fun b => w4.heap.size < b ∧ b < w5.heap.size)) :=
      ⟨HS10.out.below.trans (hc11.below HS10.out.below.size (fun b h => by omega)), HS10.out.arg.chg hc11 (by omega), HS10.out.bw.chg hc11 (by omega), HS10.out.bg.chg hc11 (by omega), HS10.out.dw.chg hc11 (fun b h h' => by omega), hm11⟩
    clear hm11 hc11 HS10
    have hlo : ¬ ((1 : Int) + (zs.length : Int) < 0) := by omega
    obtain ⟨u0, u1⟩ := HS11.out.bg
    go_wp2_with fail
    clear u0 u1
    refine (heldIntsResult_any _ code _ zs.length 1 HS11.out.dg.ints (by omega) (by omega)).mono ?_
    rintro e w12 ⟨rfl, hb12⟩
    have HS12 : Hid (StI w w12 (.slice aB nB cB) (.slice aC nC cC) w3.heap.size w5.heap.size code (.slice rwa rwn rwc) (.slice rga rgn rgc) zs (marks 1 zs.length) (fun b => w.heap.size < b ∧ b < w3.heap.size) (fun b => w4.heap.size < b ∧ b < w5.heap.size)) := HS11.out.later hb12
    clear hb12 HS11
    obtain ⟨x0, x1⟩ := HS12.out.arg
    go_wp2_with fail
    clear x0 x1
    refine (toDisk_any _ _ _ _ _ _ _ bs ps (HB.out.later HS12.out.below) (HP.out.later HS12.out.below) L1.out L2.out).mono ?_
    rintro e w13 ⟨kB, lB, mB, kC, lC, mC, rfl, hb13, hd13⟩
    have HS13 : Hid (StI w w13 (.slice aB nB cB) (.slice aC nC cC) w3.heap.size w5.heap.size code (.slice rwa rwn rwc) (.slice rga rgn rgc) zs (marks 1 zs.length) (fun b => w.heap.size < b ∧ b < w3.heap.size) (fun b => w4.heap.size < b ∧ b < w5.heap.size)) := HS12.out.later hb13
    have HI13 : Hid (IntsS w13 (.slice kB lB mB) bs) := hd13.ints
    have HJ13 : Hid (Puts w13 (.slice kC lC mC) ps) := hd13.puts
    clear hb13 hd13 HS12
    go_wp2_with fail
    refine (implAt_any _ _ _ bs ps x HI13.out HJ13.out LB.out LP.out).mono ?_
    rw [HC.out, HZ.out]
    rintro e w14 ⟨rha, rhn, rhc, rfl, hb14, ho14⟩
    have HS14 : Hid (StI w w14 (.slice aB nB cB) (.slice aC nC cC) w3.heap.size w5.heap.size code (.slice rwa rwn rwc) (.slice rga rgn rgc) zs (marks 1 zs.length) (fun b => w.heap.size < b ∧ b < w3.heap.size) (fun b => w4.heap.size < b ∧ b < w5.heap.size)) := HS13.out.later hb14
    have HO14 : Hid (Ints w14 (.slice rha rhn rhc) zs) := ho14.ints
    clear hb14 ho14 HS13 HI13 HJ13
    obtain ⟨v0, v1⟩ := HS14.out.bw
    have hlt14 := HS14.out.bw.lt
    go_wp2_with fail
    clear v0 v1
    refine (eqIntsResult_true _ code _ _ zs (HO14.out.later (later1 _ _)) (HS14.out.dw.ints.later (later1 _ _))).mono ?_
    rintro e w15 ⟨rfl, hb15⟩
    have HS15 : Hid (StI w w15 (.slice aB nB cB) (.slice aC nC cC) w3.heap.size w5.heap.size code (.slice rwa rwn rwc) (.slice rga rgn rgc) zs (marks 1 zs.length) (fun b => w.heap.size < b ∧ b < w3.heap.size) (fun b => w4.heap.size < b ∧ b < w5.heap.size)) := (HS14.out.later (later1 _ _)).later hb15
    clear hb15 HS14 HO14
    obtain ⟨u0, u1⟩ := HS15.out.bg
    go_wp2_with fail
    clear u0 u1
    refine (heldIntsResult_any _ code _ zs.length 1 HS15.out.dg.ints (by omega) (by omega)).mono ?_
    rintro e w16 ⟨rfl, hb16⟩
    have HW16 : Hid (Below w.heap.size w w16) := (HS15.out.later hb16).below
    clear hb16 HS15
    go_wp2
    go_ret
    exact ⟨rfl, HW16.out⟩

theorem lawAt_any (w : World) (vB vC : Value) (bs : List (List Int)) (ps : List (Int × List Int)) (x : Int) (hB : IntsS w vB bs) (hP : Puts w vC ps) :
    Calls Try.prog 6 #[.agg #[vB, vC], .int .i64 x] w fun e w' => e = .returned (.bool true) ∧ Below w.heap.size w w' := by
  obtain ⟨aB, cB, rfl, _, _⟩ := hB.open'
  obtain ⟨aC, cC, rfl, _, _⟩ := hP.open'
  by_cases h : dsize bs ps ≤ 1048576
  · exact lawAt_small w aB aC _ cB _ cC bs ps x hB hP h
  · exact lawAt_big w aB aC _ cB _ cC bs ps x hB hP (by omega)
end Go.Proofs.Ytjliefpfbjkokag
