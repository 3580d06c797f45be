
/- The law of PutBlock: at every disk, place and list of words the program's PutBlock answers as the specification, leaves its arguments as they were, and its answer owns its memory. -/
import Derived.Test.YtomcejofhfngkaaPutC
import Derived.Test.YtomcejofhfngkaaCpyB
import Derived.Test.YtomcejofhfngkaaResI
import Derived.Test.YtomcejofhfngkaaSz
namespace Go.Proofs.Ytomcejofhfngkaa
open Go.RowKit
set_option maxRecDepth 100000

/-- What stands while such a law goes: the argument's box, the specification's answer, the program's. -/
structure StD (w W : World) (vB vC : Value) (β0 β2 : Nat) (code : Int) (wB wC gB gC : Value) (bs : List (List Int)) (ps : List (Int × List Int)) (bg : List (List Int)) (pg : List (Int × List Int)) (Fw Fg : Nat → Prop) : Prop where
  below : Below w.heap.size w W
  arg : Box2 W w.heap.size vB vC
  bw : Box3 W β0 code wB wC
  bx : Box3 W β2 code gB gC
  dw : DiskO W wB wC bs ps Fw
  dg : DiskO W gB gC bg pg Fg
theorem StD.later {w W W' : World} {vB vC : Value} {β0 β2 : Nat} {code : Int} {wB wC gB gC : Value} {bs : List (List Int)} {ps : List (Int × List Int)} {bg : List (List Int)} {pg : List (Int × List Int)} {Fw Fg : Nat → Prop} (h : StD w W vB vC β0 β2 code wB wC gB gC bs ps bg pg Fw Fg) (hb : Below W.heap.size W W') : StD w W' vB vC β0 β2 code wB wC gB gC bs ps bg pg Fw Fg :=
  ⟨h.below.trans (hb.mono h.below.size), h.arg.later hb, h.bw.later hb, h.bx.later hb, h.dw.later hb, h.dg.later hb⟩
theorem StD.chg {w W W' : World} {vB vC : Value} {β0 β2 : Nat} {code : Int} {wB wC gB gC : Value} {bs : List (List Int)} {ps : List (Int × List Int)} {bg : List (List Int)} {pg : List (Int × List Int)} {Fw Fg F : Nat → Prop} (h : StD w W vB vC β0 β2 code wB wC gB gC bs ps bg pg Fw Fg) (hc : Chg F W W') (h0 : ∀ b, F b → w.heap.size < b) (h1 : ¬ F β0) (h2 : ¬ F β2) (h3 : ∀ b, Fw b → ¬ F b) (h4 : ∀ b, Fg b → ¬ F b) : StD w W' vB vC β0 β2 code wB wC gB gC bs ps bg pg Fw Fg :=
  ⟨h.below.trans (hc.below h.below.size (fun b hb => by have := h0 b hb; omega)), h.arg.chg hc (fun hf => by have := h0 _ hf; omega), h.bw.chg hc h1, h.bx.chg hc h2, h.dw.chg hc h3, h.dg.chg hc h4⟩

theorem putSpan (bs : List (List Int)) (ps : List (Int × List Int)) (x : Int) (ws : List Int) : dspan (putBlocks bs ps x ws) (putCache bs ps x ws) ≤ dspan bs ps + 1 + ws.length := by
  unfold putBlocks putCache dspan
  split
  · simp [wlens]; omega
  · simp [wlens]

set_option maxHeartbeats 1600000 in
theorem lawPut_words (w : World) (vA : Value) (x : Int) (a : Option Addr) (n cap : Nat) (hs : ∃ p q, vA = .agg #[p, q]) (hn : 1048576 < n) :
    Calls Try.prog 3 #[vA, .int .i64 x, .slice a n cap] w fun e w' => e = .returned (.bool true) ∧ Below w.heap.size w w' := by
  obtain ⟨p, q, rfl⟩ := hs
  have hn' : (1048576 : Int) < (n : Int) := by omega
  go_enter Try.func3, Try.ntmps3
  go_wp2
  go_ret
  exact ⟨rfl, later1 _ _⟩

set_option maxHeartbeats 1600000 in
theorem lawPut_big (w : World) (aB aC : Option Addr) (nB cB nC cC : Nat) (bs : List (List Int)) (ps : List (Int × List Int)) (x : Int) (a : Option Addr) (n cap : Nat) (hB : IntsS w (.slice aB nB cB) bs) (hP : Puts w (.slice aC nC cC) ps) (hn : n ≤ 1048576) (hsz : 1048576 < dsize bs ps) :
    Calls Try.prog 3 #[.agg #[.slice aB nB cB, .slice aC nC cC], .int .i64 x, .slice a n cap] w fun e w' => e = .returned (.bool true) ∧ Below w.heap.size w w' := by
  have HB : Hid (IntsS w (.slice aB nB cB) bs) := hB
  have HP : Hid (Puts w (.slice aC nC cC) ps) := hP
  have HS : Hid (szf 1048576 (dsize bs ps) = -1) := szf_no (by omega)
  have hn' : decide ((1048576 : Int) < (n : Int)) = false := by simp; omega
  clear hB hP hsz hn
  go_enter Try.func3, Try.ntmps3
  go_wp2_with fail
  refine (szDisk_any _ _ _ _ _ _ _ bs ps (HB.out.later (later1 _ _)) (HP.out.later (later1 _ _)) 1048576 (by omega) (by omega)).mono ?_
  rw [HS.out]
  rintro e w1 ⟨rfl, hb1⟩
  have HB1 : Hid (Below w.heap.size w w1) := (later1 _ _).trans (hb1.mono (by simp))
  clear hb1
  go_wp2
  go_ret
  exact ⟨rfl, HB1.out⟩

set_option maxHeartbeats 6400000 in
theorem lawPut_small (w : World) (aB aC : Option Addr) (nB cB nC cC : Nat) (bs : List (List Int)) (ps : List (Int × List Int)) (x : Int) (a : Option Addr) (n cap : Nat) (ws : List Int) (hB : IntsS w (.slice aB nB cB) bs) (hP : Puts w (.slice aC nC cC) ps) (hV : Ints w (.slice a n cap) ws) (hwn : ws.length = n) (hn : n ≤ 1048576) (hsz : dsize bs ps ≤ 1048576) :
    Calls Try.prog 3 #[.agg #[.slice aB nB cB, .slice aC nC cC], .int .i64 x, .slice a n cap] w fun e w' => e = .returned (.bool true) ∧ Below w.heap.size w w' := by
  have HB : Hid (IntsS w (.slice aB nB cB) bs) := hB
  have HP : Hid (Puts w (.slice aC nC cC) ps) := hP
  have HV : Hid (Ints w (.slice a n cap) ws) := hV
  have LW : Hid (ws.length ≤ 1048576) := by unfold Hid; omega
  have HS : Hid (szf 1048576 (dsize bs ps) = 1048576 - (dsize bs ps : Int)) := szf_yes (by omega)
  have hpos : ¬ (1048576 - (dsize bs ps : Int) < 0) := by omega
  have hn' : decide ((1048576 : Int) < (n : Int)) = false := by simp; omega
  have L1 : Hid (bs.length + (bs.map List.length).sum ≤ 1048576) := by unfold dsize at hsz; unfold Hid; omega
  have L2 : Hid (ps.length + (wlens ps).sum ≤ 1048576) := by unfold dsize at hsz; unfold Hid; omega
  have LDN : dspan bs ps ≤ 1048576 := by unfold dsize at hsz; unfold dspan; omega
  have LB : Hid (∀ k : Nat, (bs[k]?.getD []).length ≤ 1048576) := fun k => by have := len_le_sum bs k; have := L1.out; omega
  have LP : Hid (∀ k : Nat, (ps[k]?.getD (0, [])).2.length ≤ 1048576) := fun k => by have := wlen_le_sum ps k; have := L2.out; omega
  have hspan := putSpan bs ps x ws
  generalize hcode : putCode bs ps x ws = code
  generalize hbs2 : putBlocks bs ps x ws = bs2 at *
  generalize hps2 : putCache bs ps x ws = ps2 at *
  have HC : Hid (putCode bs ps x ws = code) := hcode
  have HZ1 : Hid (putBlocks bs ps x ws = bs2) := hbs2
  have HZ2 : Hid (putCache bs ps x ws = ps2) := hps2
  have hsp2 : dspan bs2 ps2 ≤ 3000000 := by omega
  have hwl : (ws.length : Int) ≤ 1048576 := by omega
  have LDI : (dspan bs ps : Int) ≤ 1048576 := by omega
  clear hB hP hV hsz hcode hbs2 hps2 hspan hwn hn LDN
  go_enter Try.func3, Try.ntmps3
  go_wp2_with fail
  refine (szDisk_any _ _ _ _ _ _ _ bs ps (HB.out.later (later1 _ _)) (HP.out.later (later1 _ _)) 1048576 (by omega) (by omega)).mono ?_
  rw [HS.out]
  rintro e w1 ⟨rfl, hb1⟩
  have HX : Hid (Box2 w1 w.heap.size (.slice aB nB cB) (.slice aC nC cC)) := (Box2.new _ _ _ _).later hb1
  have HW : Hid (Below w.heap.size w w1) := (later1 _ _).trans (hb1.mono (by simp))
  clear hb1
  obtain ⟨x0, x1⟩ := HX.out
  go_wp2_with fail
  clear x0 x1
  -- the specification's answer
  refine (toDisk_any _ _ _ _ _ _ _ bs ps (HB.out.later HW.out) (HP.out.later HW.out) L1.out L2.out).mono ?_
  rintro e w2 ⟨dB, eB, fB, dC, eC, fC, rfl, hb2, hd2⟩
  have HX2 : Hid (Box2 w2 w.heap.size (.slice aB nB cB) (.slice aC nC cC)) := HX.out.later hb2
  have HW2 : Hid (Below w.heap.size w w2) := HW.out.trans (hb2.mono HW.out.size)
  have HI2 : Hid (IntsS w2 (.slice dB eB fB) bs) := hd2.ints
  have HJ2 : Hid (Puts w2 (.slice dC eC fC) ps) := hd2.puts
  clear hb2 hd2 HX HW
  go_wp2_with fail
  refine (toInts_any (HV.out.later HW2.out) LW.out).mono ?_
  rintro e w3 ⟨rfl, hb3, ho3⟩
  have HX3 : Hid (Box2 w3 w.heap.size (.slice aB nB cB) (.slice aC nC cC)) := HX2.out.later hb3
  have HW3 : Hid (Below w.heap.size w w3) := HW2.out.trans (hb3.mono HW2.out.size)
  have HI3 : Hid (IntsS w3 (.slice dB eB fB) bs) := HI2.out.later hb3
  have HJ3 : Hid (Puts w3 (.slice dC eC fC) ps) := HJ2.out.later hb3
  have HK3 : Hid (Ints w3 _ ws) := ho3.ints
  clear hb3 ho3 HX2 HW2 HI2 HJ2
  go_wp2_with fail
  refine (specPut_any l1Copy_said _ _ _ _ bs ps x ws HI3.out HJ3.out HK3.out LB.out LP.out LW.out).mono ?_
  rw [HC.out, HZ1.out, HZ2.out]
  rintro e w4 ⟨rB, rn1, rc1, rC, rn2, rc2, rfl, hd4⟩
  have HX4 : Hid (Box2 w4 w.heap.size (.slice aB nB cB) (.slice aC nC cC)) := HX3.out.later hd4.below
  have HW4 : Hid (Below w.heap.size w w4) := HW3.out.trans (hd4.below.mono HW3.out.size)
  have HO4 : Hid (DiskO w4 (.slice rB rn1 rc1) (.slice rC rn2 rc2) bs2 ps2 (fun b => w.heap.size < b ∧ b < w4.heap.size)) := hd4.disk.mono fun b hb => ⟨by have := hb.1; have := HX3.out.lt; omega, hb.2⟩
  clear hd4 HX3 HW3 HI3 HJ3 HK3
  have hz4 : w.heap.size < w4.heap.size := HX4.out.lt
  obtain ⟨x0, x1⟩ := HX4.out
  go_wp2_with fail
  clear x0 x1
  -- the program's arguments
  refine (toDisk_any _ _ _ _ _ _ _ bs ps ((HB.out.later HW4.out).later (later1 _ _)) ((HP.out.later HW4.out).later (later1 _ _)) L1.out L2.out).mono ?_
  rintro e w5 ⟨dB, eB, fB, dC, eC, fC, rfl, hb5, hd5⟩
  have HL5 : Hid (Below w4.heap.size w4 w5) := (later1 _ _).trans (hb5.mono (by simp))
  have HX5 : Hid (Box2 w5 w.heap.size (.slice aB nB cB) (.slice aC nC cC)) := HX4.out.later HL5.out
  have HV5 : Hid (Box3 w5 w4.heap.size code (.slice rB rn1 rc1) (.slice rC rn2 rc2)) := (Box3.new _ _ _ _ _).later hb5
  have HO5 : Hid (DiskO w5 (.slice rB rn1 rc1) (.slice rC rn2 rc2) bs2 ps2 (fun b => w.heap.size < b ∧ b < w4.heap.size)) := HO4.out.later HL5.out
  have HW5 : Hid (Below w.heap.size w w5) := HW4.out.trans (HL5.out.mono HW4.out.size)
  have HD5 : Hid (DiskO w5 (.slice dB eB fB) (.slice dC eC fC) bs ps (fun b => w4.heap.size < b ∧ b < w5.heap.size)) := hd5.mono fun b hb => ⟨by have := hb.1; simp at this; omega, hb.2⟩
  have hz5 : w4.heap.size < w5.heap.size := by have := hb5.size; simp at this; omega
  clear hb5 hd5 HX4 HW4 HO4 HL5
  go_wp2_with fail
  refine (toInts_any ((HV.out.later HW5.out).later (later1 _ _)) LW.out).mono ?_
  rintro e w6 ⟨rfl, hb6, ho6⟩
  have HL6 : Hid (Below w5.heap.size w5 w6) := (later1 _ _).trans (hb6.mono (by simp))
  have HX6 : Hid (Box2 w6 w.heap.size (.slice aB nB cB) (.slice aC nC cC)) := HX5.out.later HL6.out
  have HV6 : Hid (Box3 w6 w4.heap.size code (.slice rB rn1 rc1) (.slice rC rn2 rc2)) := HV5.out.later HL6.out
  have HO6 : Hid (DiskO w6 (.slice rB rn1 rc1) (.slice rC rn2 rc2) bs2 ps2 (fun b => w.heap.size < b ∧ b < w4.heap.size)) := HO5.out.later HL6.out
  have HW6 : Hid (Below w.heap.size w w6) := HW5.out.trans (HL6.out.mono HW5.out.size)
  have HY6 : Hid (Box2 w6 w5.heap.size (.slice dB eB fB) (.slice dC eC fC)) := (Box2.new _ _ _ _).later hb6
  have HD6 : Hid (DiskO w6 (.slice dB eB fB) (.slice dC eC fC) bs ps (fun b => w4.heap.size < b ∧ b < w5.heap.size)) := HD5.out.later HL6.out
  have HT6 : Hid (IntsO w6 (.slice (some ⟨w5.heap.size + 1, 0, none⟩) ws.length ws.length) ws (fun b => w5.heap.size < b ∧ b < w6.heap.size)) := by
    have h := ho6
    simp only [World.size_alloc] at h
    exact h.mono fun b hb => ⟨by have := hb.1; simp at this; omega, hb.2⟩
  have hz6 : w5.heap.size < w6.heap.size := by have := hb6.size; simp at this; omega
  clear hb6 ho6 HX5 HV5 HO5 HW5 HD5 HL6
  obtain ⟨y0, y1⟩ := HY6.out
  go_wp2_with fail
  clear y0 y1
  -- the program's answer
  refine (implPut_any _ _ _ _ bs ps x ws HD6.out.ints HD6.out.puts HT6.out.ints LB.out LP.out LW.out).mono ?_
  rw [HC.out, HZ1.out, HZ2.out]
  rintro e w7 ⟨gB, gn1, gc1, gC, gn2, gc2, rfl, hd7⟩
  have hz7 : w6.heap.size ≤ w7.heap.size := hd7.below.size
  have HY7 : Hid (Box2 w7 w5.heap.size (.slice dB eB fB) (.slice dC eC fC)) := HY6.out.later hd7.below
  have HD7 : Hid (DiskO w7 (.slice dB eB fB) (.slice dC eC fC) bs ps (fun b => w4.heap.size < b ∧ b < w5.heap.size)) := HD6.out.later hd7.below
  have HT7 : Hid (IntsO w7 (.slice (some ⟨w5.heap.size + 1, 0, none⟩) ws.length ws.length) ws (fun b => w5.heap.size < b ∧ b < w6.heap.size)) := HT6.out.later hd7.below
  have HV7 : Hid (Box3 w7 w4.heap.size code (.slice rB rn1 rc1) (.slice rC rn2 rc2)) := HV6.out.later hd7.below
  have HST7 : Hid (StD w (w7.alloc (.cells #[.int .i64 code, .slice gB gn1 gc1, .slice gC gn2 gc2] 32)) (.slice aB nB cB) (.slice aC nC cC) w4.heap.size w7.heap.size code (.slice rB rn1 rc1) (.slice rC rn2 rc2) (.slice gB gn1 gc1) (.slice gC gn2 gc2) bs2 ps2 bs2 ps2 (fun b => w.heap.size < b ∧ b < w4.heap.size) (fun b => w6.heap.size ≤ b ∧ b < w7.heap.size)) := ⟨(HW6.out.trans (hd7.below.mono HW6.out.size)).trans ((later1 _ _).mono (by have := HW6.out.size; omega)), (HX6.out.later hd7.below).later (later1 _ _), HV7.out.later (later1 _ _), Box3.new _ _ _ _ _, (HO6.out.later hd7.below).later (later1 _ _), hd7.disk.later (later1 _ _)⟩
  clear hd7 HX6 HV6 HO6 HW6 HY6 HD6 HT6
  obtain ⟨v0, v1, v2⟩ := HV7.out
  have hz47 : w4.heap.size < w7.heap.size := by omega
  go_wp2_with fail
  clear v0 v1 v2
  refine (eqDiskResult_true _ code _ _ _ _ bs2 ps2 HST7.out.dg.ints HST7.out.dg.puts HST7.out.dw.ints HST7.out.dw.puts).mono ?_
  rintro e w8 ⟨rfl, hb8⟩
  have HL8 : Hid (Below w7.heap.size w7 w8) := (later1 _ _).trans (hb8.mono (by simp))
  have HST8 : Hid (StD w w8 (.slice aB nB cB) (.slice aC nC cC) w4.heap.size w7.heap.size code (.slice rB rn1 rc1) (.slice rC rn2 rc2) (.slice gB gn1 gc1) (.slice gC gn2 gc2) bs2 ps2 bs2 ps2 (fun b => w.heap.size < b ∧ b < w4.heap.size) (fun b => w6.heap.size ≤ b ∧ b < w7.heap.size)) := HST7.out.later hb8
  have HY8 : Hid (Box2 w8 w5.heap.size (.slice dB eB fB) (.slice dC eC fC)) := HY7.out.later HL8.out
  have HD8 : Hid (DiskO w8 (.slice dB eB fB) (.slice dC eC fC) bs ps (fun b => w4.heap.size < b ∧ b < w5.heap.size)) := HD7.out.later HL8.out
  have HT8 : Hid (IntsO w8 (.slice (some ⟨w5.heap.size + 1, 0, none⟩) ws.length ws.length) ws (fun b => w5.heap.size < b ∧ b < w6.heap.size)) := HT7.out.later HL8.out
  clear hb8 HL8 HST7 HY7 HD7 HT7 HV7
  obtain ⟨x0, x1⟩ := HST8.out.arg
  obtain ⟨y0, y1⟩ := HY8.out
  go_wp2_with fail
  go_region_with (first
    | (go_at_call 10; refine (toDisk_any _ _ _ _ _ _ _ bs ps ?_ ?_ L1.out L2.out).mono ?_; exact HB.out.later HST8.out.below.drew; exact HP.out.later HST8.out.below.drew; rintro e w9 ⟨hB', iB, jB, hC', iC, jC, rfl, hb9, hd9⟩; have z0 := cell_later hb9 y0; have z1 := cell_later hb9 y1; have HB9 : Hid (Below w8.heap.size w8 w9) := (Below.refl _ _).drew.trans hb9; have HD9 : Hid (IntsS w9 (.slice hB' iB jB) bs ∧ Puts w9 (.slice hC' iC jC) ps) := ⟨hd9.ints, hd9.puts⟩; clear hb9 hd9)
    | (go_at_call 14; refine (eqDisk_true _ _ _ _ _ bs ps ?_ ?_ ?_ ?_).mono ?_; exact HD8.out.ints.later HB9.out; exact HD8.out.puts.later HB9.out; exact HD9.out.1; exact HD9.out.2; rintro e w10 ⟨rfl, hb10⟩; have HB10 : Hid (Below w9.heap.size w9 w10) := hb10; clear hb10))
  all_goals
    have HL10 : Hid (Below w8.heap.size w8 w10) := HB9.out.trans (HB10.out.mono HB9.out.size)
    have HST10 : Hid (StD w w10 (.slice aB nB cB) (.slice aC nC cC) w4.heap.size w7.heap.size code (.slice rB rn1 rc1) (.slice rC rn2 rc2) (.slice gB gn1 gc1) (.slice gC gn2 gc2) bs2 ps2 bs2 ps2 (fun b => w.heap.size < b ∧ b < w4.heap.size) (fun b => w6.heap.size ≤ b ∧ b < w7.heap.size)) := HST8.out.later HL10.out
    have HY10 : Hid (Box2 w10 w5.heap.size (.slice dB eB fB) (.slice dC eC fC)) := HY8.out.later HL10.out
    have HD10 : Hid (DiskO w10 (.slice dB eB fB) (.slice dC eC fC) bs ps (fun b => w4.heap.size < b ∧ b < w5.heap.size)) := HD8.out.later HL10.out
    have HT10 : Hid (IntsO w10 (.slice (some ⟨w5.heap.size + 1, 0, none⟩) ws.length ws.length) ws (fun b => w5.heap.size < b ∧ b < w6.heap.size)) := HT8.out.later HL10.out
    clear HL10 HB9 HB10 HST8 HY8 HD8 HT8 HD9 z0 z1 x0 x1 y0 y1
    go_wp2_with fail
    refine (toInts_any (HV.out.later HST10.out.below) LW.out).mono ?_
    rintro e w11 ⟨rfl, hb11, ho11⟩
    have HST11 : Hid (StD w w11 (.slice aB nB cB) (.slice aC nC cC) w4.heap.size w7.heap.size code (.slice rB rn1 rc1) (.slice rC rn2 rc2) (.slice gB gn1 gc1) (.slice gC gn2 gc2) bs2 ps2 bs2 ps2 (fun b => w.heap.size < b ∧ b < w4.heap.size) (fun b => w6.heap.size ≤ b ∧ b < w7.heap.size)) := HST10.out.later hb11
    have HY11 : Hid (Box2 w11 w5.heap.size (.slice dB eB fB) (.slice dC eC fC)) := HY10.out.later hb11
    have HD11 : Hid (DiskO w11 (.slice dB eB fB) (.slice dC eC fC) bs ps (fun b => w4.heap.size < b ∧ b < w5.heap.size)) := HD10.out.later hb11
    have HT11 : Hid (IntsO w11 (.slice (some ⟨w5.heap.size + 1, 0, none⟩) ws.length ws.length) ws (fun b => w5.heap.size < b ∧ b < w6.heap.size)) := HT10.out.later hb11
    have HO11 : Hid (Ints w11 _ ws) := ho11.ints
    clear hb11 ho11 HST10 HY10 HD10 HT10
    go_wp2_with fail
    refine (eqInts_any HT11.out.ints HO11.out).mono ?_
    rw [beq_self_eq_true]
    rintro e w12 ⟨rfl, m12, hw12⟩
    have hb12 : Below w11.heap.size w11 w12 := hw12 ▸ below_drewN (Below.refl _ _) m12
    have HST12 : Hid (StD w w12 (.slice aB nB cB) (.slice aC nC cC) w4.heap.size w7.heap.size code (.slice rB rn1 rc1) (.slice rC rn2 rc2) (.slice gB gn1 gc1) (.slice gC gn2 gc2) bs2 ps2 bs2 ps2 (fun b => w.heap.size < b ∧ b < w4.heap.size) (fun b => w6.heap.size ≤ b ∧ b < w7.heap.size)) := HST11.out.later hb12
    have HY12 : Hid (Box2 w12 w5.heap.size (.slice dB eB fB) (.slice dC eC fC)) := HY11.out.later hb12
    have HD12 : Hid (DiskO w12 (.slice dB eB fB) (.slice dC eC fC) bs ps (fun b => w4.heap.size < b ∧ b < w5.heap.size)) := HD11.out.later hb12
    have HT12 : Hid (IntsO w12 (.slice (some ⟨w5.heap.size + 1, 0, none⟩) ws.length ws.length) ws (fun b => w5.heap.size < b ∧ b < w6.heap.size)) := HT11.out.later hb12
    clear hb12 hw12 HST11 HY11 HD11 HT11 HO11
    obtain ⟨y0, y1⟩ := HY12.out
    go_wp2_with fail
    clear y0 y1
    refine (markDsk _ _ _ bs ps _ 1 HD12.out (by omega) (by omega)).mono ?_
    rintro e w13 ⟨rfl, hc13⟩
    have HST13 : Hid (StD w w13 (.slice aB nB cB) (.slice aC nC cC) w4.heap.size w7.heap.size code (.slice rB rn1 rc1) (.slice rC rn2 rc2) (.slice gB gn1 gc1) (.slice gC gn2 gc2) bs2 ps2 bs2 ps2 (fun b => w.heap.size < b ∧ b < w4.heap.size) (fun b => w6.heap.size ≤ b ∧ b < w7.heap.size)) := HST12.out.chg hc13 (fun b h => by omega) (by omega) (by omega) (fun b h h' => by omega) (fun b h h' => by omega)
    have HT13 : Hid (IntsO w13 (.slice (some ⟨w5.heap.size + 1, 0, none⟩) ws.length ws.length) ws (fun b => w5.heap.size < b ∧ b < w6.heap.size)) := HT12.out.chg hc13 (fun b h h' => by omega)
    clear hc13 HST12 HY12 HD12 HT12
    go_wp2_with fail
    refine (markInts_any _ HT13.out (by omega) (by omega)).mono ?_
    rintro e w14 ⟨rfl, _, hc14⟩
    have HST14 : Hid (StD w w14 (.slice aB nB cB) (.slice aC nC cC) w4.heap.size w7.heap.size code (.slice rB rn1 rc1) (.slice rC rn2 rc2) (.slice gB gn1 gc1) (.slice gC gn2 gc2) bs2 ps2 bs2 ps2 (fun b => w.heap.size < b ∧ b < w4.heap.size) (fun b => w6.heap.size ≤ b ∧ b < w7.heap.size)) := HST13.out.chg hc14 (fun b h => by omega) (by omega) (by omega) (fun b h h' => by omega) (fun b h h' => by omega)
    clear hc14 HST13 HT13
    have hk14 : decide ((1 : Int) + (dspan bs ps : Nat) + (ws.length : Int) < 0) = false := by simp; omega
    obtain ⟨v0, v1, v2⟩ := HST14.out.bw
    obtain ⟨u0, u1, u2⟩ := HST14.out.bx
    go_wp2_with fail
    clear v0 v1 v2 u0 u1 u2
    refine (eqDiskResult_true _ code _ _ _ _ bs2 ps2 HST14.out.dg.ints HST14.out.dg.puts HST14.out.dw.ints HST14.out.dw.puts).mono ?_
    rintro e w15 ⟨rfl, hb15⟩
    have HST15 : Hid (StD w w15 (.slice aB nB cB) (.slice aC nC cC) w4.heap.size w7.heap.size code (.slice rB rn1 rc1) (.slice rC rn2 rc2) (.slice gB gn1 gc1) (.slice gC gn2 gc2) bs2 ps2 bs2 ps2 (fun b => w.heap.size < b ∧ b < w4.heap.size) (fun b => w6.heap.size ≤ b ∧ b < w7.heap.size)) := HST14.out.later hb15
    clear hb15 HST14
    obtain ⟨u0, u1, u2⟩ := HST15.out.bx
    go_wp2_with fail
    clear u0 u1 u2
    refine (markRes _ code _ _ bs2 ps2 _ 1 HST15.out.dg (by omega) (by omega)).mono ?_
    rintro e w16 ⟨rfl, hm16, hc16⟩
    have HST16 : Hid (StD w w16 (.slice aB nB cB) (.slice aC nC cC) w4.heap.size w7.heap.size code (.slice rB rn1 rc1) (.slice rC rn2 rc2) (.slice gB gn1 gc1) (.slice gC gn2 gc2) bs2 ps2 (marksS 1 (bs2.map List.length)) (marksP (1 + ((bs2.map List.length).sum : Nat)) (wlens ps2)) (fun b => w.heap.size < b ∧ b < w4.heap.size) (fun b => w6.heap.size ≤ b ∧ b < w7.heap.size)) :=
      ⟨HST15.out.below.trans (hc16.below HST15.out.below.size (fun b h => by have := HST15.out.below.size; omega)), HST15.out.arg.chg hc16 (by omega), HST15.out.bw.chg hc16 (by omega), HST15.out.bx.chg hc16 (by omega), HST15.out.dw.chg hc16 (fun b h h' => by omega), hm16.disk⟩
    clear hm16 hc16 HST15
    have hsp : (1 : Int) + (dspan bs2 ps2 : Nat) ≤ 4611686018427387904 := by omega
    generalize hK : (1 : Int) + (dspan bs2 ps2 : Nat) = K at *
    have hKK : (K != K) = false := by simp
    have hK0 : ¬ K < 0 := by omega
    have HK : Hid ((1 : Int) + (dspan bs2 ps2 : Nat) = K) := hK
    clear hK
    obtain ⟨u0, u1, u2⟩ := HST16.out.bx
    go_wp2_with fail
    clear u0 u1 u2
    refine (heldRes _ code _ _ bs2 ps2 _ 1 ⟨HST16.out.dg⟩ (by omega) (by rw [HK.out]; exact hsp)).mono ?_
    rw [HK.out]
    rintro e w17 ⟨rfl, hb17⟩
    have HST17 : Hid (StD w w17 (.slice aB nB cB) (.slice aC nC cC) w4.heap.size w7.heap.size code (.slice rB rn1 rc1) (.slice rC rn2 rc2) (.slice gB gn1 gc1) (.slice gC gn2 gc2) bs2 ps2 (marksS 1 (bs2.map List.length)) (marksP (1 + ((bs2.map List.length).sum : Nat)) (wlens ps2)) (fun b => w.heap.size < b ∧ b < w4.heap.size) (fun b => w6.heap.size ≤ b ∧ b < w7.heap.size)) := HST16.out.later hb17
    clear hb17 HST16
    obtain ⟨x0, x1⟩ := HST17.out.arg
    go_wp2_with fail
    clear x0 x1
    refine (toDisk_any _ _ _ _ _ _ _ bs ps (HB.out.later HST17.out.below) (HP.out.later HST17.out.below) L1.out L2.out).mono ?_
    rintro e w18 ⟨kB, lB, mB, kC, lC, mC, rfl, hb18, hd18⟩
    have HST18 : Hid (StD w w18 (.slice aB nB cB) (.slice aC nC cC) w4.heap.size w7.heap.size code (.slice rB rn1 rc1) (.slice rC rn2 rc2) (.slice gB gn1 gc1) (.slice gC gn2 gc2) bs2 ps2 (marksS 1 (bs2.map List.length)) (marksP (1 + ((bs2.map List.length).sum : Nat)) (wlens ps2)) (fun b => w.heap.size < b ∧ b < w4.heap.size) (fun b => w6.heap.size ≤ b ∧ b < w7.heap.size)) := HST17.out.later hb18
    have HI18 : Hid (IntsS w18 (.slice kB lB mB) bs) := hd18.ints
    have HJ18 : Hid (Puts w18 (.slice kC lC mC) ps) := hd18.puts
    clear hb18 hd18 HST17
    go_wp2_with fail
    refine (toInts_any (HV.out.later HST18.out.below) LW.out).mono ?_
    rintro e w19 ⟨rfl, hb19, ho19⟩
    have HST19 : Hid (StD w w19 (.slice aB nB cB) (.slice aC nC cC) w4.heap.size w7.heap.size code (.slice rB rn1 rc1) (.slice rC rn2 rc2) (.slice gB gn1 gc1) (.slice gC gn2 gc2) bs2 ps2 (marksS 1 (bs2.map List.length)) (marksP (1 + ((bs2.map List.length).sum : Nat)) (wlens ps2)) (fun b => w.heap.size < b ∧ b < w4.heap.size) (fun b => w6.heap.size ≤ b ∧ b < w7.heap.size)) := HST18.out.later hb19
    have HI19 : Hid (IntsS w19 (.slice kB lB mB) bs) := HI18.out.later hb19
    have HJ19 : Hid (Puts w19 (.slice kC lC mC) ps) := HJ18.out.later hb19
    have HV19 : Hid (Ints w19 _ ws) := ho19.ints
    clear hb19 ho19 HST18 HI18 HJ18
    go_wp2_with fail
    refine (implPut_any _ _ _ _ bs ps x ws HI19.out HJ19.out HV19.out LB.out LP.out LW.out).mono ?_
    rw [HC.out, HZ1.out, HZ2.out]
    rintro e w20 ⟨hB, hn1, hc1, hC, hn2, hc2, rfl, hd20⟩
    have HST20 : Hid (StD w w20 (.slice aB nB cB) (.slice aC nC cC) w4.heap.size w7.heap.size code (.slice rB rn1 rc1) (.slice rC rn2 rc2) (.slice gB gn1 gc1) (.slice gC gn2 gc2) bs2 ps2 (marksS 1 (bs2.map List.length)) (marksP (1 + ((bs2.map List.length).sum : Nat)) (wlens ps2)) (fun b => w.heap.size < b ∧ b < w4.heap.size) (fun b => w6.heap.size ≤ b ∧ b < w7.heap.size)) := HST19.out.later hd20.below
    have HO20 : Hid (IntsS w20 (.slice hB hn1 hc1) bs2) := hd20.disk.ints
    have HQ20 : Hid (Puts w20 (.slice hC hn2 hc2) ps2) := hd20.disk.puts
    clear hd20 HST19 HI19 HJ19 HV19
    obtain ⟨v0, v1, v2⟩ := HST20.out.bw
    have hlt20 := HST20.out.bw.lt
    go_wp2_with fail
    clear v0 v1 v2
    refine (eqDiskResult_true _ code _ _ _ _ bs2 ps2 (HO20.out.later (later1 _ _)) (HQ20.out.later (later1 _ _)) (HST20.out.dw.ints.later (later1 _ _)) (HST20.out.dw.puts.later (later1 _ _))).mono ?_
    rintro e w21 ⟨rfl, hb21⟩
    have HST21 : Hid (StD w w21 (.slice aB nB cB) (.slice aC nC cC) w4.heap.size w7.heap.size code (.slice rB rn1 rc1) (.slice rC rn2 rc2) (.slice gB gn1 gc1) (.slice gC gn2 gc2) bs2 ps2 (marksS 1 (bs2.map List.length)) (marksP (1 + ((bs2.map List.length).sum : Nat)) (wlens ps2)) (fun b => w.heap.size < b ∧ b < w4.heap.size) (fun b => w6.heap.size ≤ b ∧ b < w7.heap.size)) := (HST20.out.later (later1 _ _)).later hb21
    clear hb21 HST20 HO20 HQ20
    obtain ⟨u0, u1, u2⟩ := HST21.out.bx
    go_wp2_with fail
    clear u0 u1 u2
    refine (heldRes _ code _ _ bs2 ps2 _ 1 ⟨HST21.out.dg⟩ (by omega) (by rw [HK.out]; exact hsp)).mono ?_
    rw [HK.out]
    rintro e w22 ⟨rfl, hb22⟩
    have HW22 : Hid (Below w.heap.size w w22) := (HST21.out.later hb22).below
    clear hb22 HST21
    go_wp2
    go_ret
    exact ⟨rfl, HW22.out⟩

theorem lawPut_any (w : World) (vB vC v : Value) (bs : List (List Int)) (ps : List (Int × List Int)) (x : Int) (ws : List Int) (hB : IntsS w vB bs) (hP : Puts w vC ps) (hV : Ints w v ws) :
    Calls Try.prog 3 #[.agg #[vB, vC], .int .i64 x, v] w fun e w' => e = .returned (.bool true) ∧ Below w.heap.size w w' := by
  obtain ⟨aB, cB, rfl, _, _⟩ := hB.open'
  obtain ⟨aC, cC, rfl, _, _⟩ := hP.open'
  obtain ⟨a, cap, rfl, _, _⟩ := hV.open'
  by_cases hn : ws.length ≤ 1048576
  · by_cases h : dsize bs ps ≤ 1048576
    · exact lawPut_small w aB aC _ cB _ cC bs ps x a _ cap ws hB hP hV rfl hn h
    · exact lawPut_big w aB aC _ cB _ cC bs ps x a _ cap hB hP hn (by omega)
  · exact lawPut_words w _ x a _ cap ⟨_, _, rfl⟩ (by omega)
end Go.Proofs.Ytomcejofhfngkaa
