/- PathsOf, of the specification. PathsOf, of the specification. From the reading of an argument to the lists that it holds. No program is named here. What the rows of this seat share: how a disk that came in is opened. How inodes that came in are opened. How lists of inodes that came in are opened. How file systems that came in are opened. -/
import Derived.Test.YtfdgfhcljjdcfaaM15
import Derived.Test.YtfdgfhcljjdcfaaM14
import Derived.Test.YtfdgfhcljjdcfaaM00
import Derived.ProofKit
import Derived.Deep.Slices
import Derived.Deep.SlicePairs
import Derived.Lib.SmallJoins
import Derived.Test.YtfdgfhcljjdcfaaRows
import Derived.Test.YtfdgfhcljjdcfaaM02
import Derived.Test.YtfdgfhcljjdcfaaM04
namespace Go.Proofs.Ytfdgfhcljjdcfaa
open Go.RowKit
set_option maxRecDepth 100000

set_option maxHeartbeats 6400000 in
theorem l9Below_any (b : Nat) (d : FD) (b0 o0 cI : Nat) (aD : Option Addr) (cD : Nat) (hok : FsOk d) :
    ∀ (k : Nat), k ≤ 6 → ∀ (t : Nat) (ah : List UInt8), t < d.1.length → ah.length + 5 * k ≤ 30 → ∀ (w : World), FsX w b 0 d (some ⟨b0, o0, none⟩) cI aD cD →
      Calls Try.prog 33 #[.pointer (some ⟨b, 0, none⟩), .int .i64 (t : Int), .string (mkB ah), .int .i64 (k : Int)] w fun e w' => ∃ v, e = .returned v ∧ v ≠ .slice none 0 0 ∧ Below w.heap.size w w' ∧ WdT w' w.heap.size v (belL d.1 k ah t) := by
  intro k
  induction k with
  | zero =>
    intro _ t ah ht _ w _
    have hg : decide ((0 : Int) < ((0 : Nat) : Int)) = false := by simp
    have HW : Hid (WdT (w.alloc (.cells #[] 9)) w.heap.size (.slice (some ⟨w.heap.size, 0, none⟩) 0 0) []) := World.ownsRow_lit w #[] 0 (Nat.le_refl _) (by simp) rfl
    have HL : Hid (belL d.1 0 ah t = []) := rfl
    rw [HL.out]
    go_enter Try.func33, Try.ntmps33
    go_wp2_with fail
    refine wp_loop_rounds 1 ?_
    rw [rounds_succ]
    go_wp2
    go_ret
    exact ⟨_, rfl, by simp, later1 _ _, HW.out⟩
  | succ k ih =>
    intro hk6 t ah ht hah w hx
    have HIH : Hid (∀ (W : World) (u : Nat) (p : List UInt8), Below w.heap.size w W → u < d.1.length → p.length + 5 * k ≤ 30 → Calls Try.prog 33 #[.pointer (some ⟨b, 0, none⟩), .int .i64 (u : Int), .string (mkB p), .int .i64 (k : Int)] W fun e w' => ∃ v, e = .returned v ∧ v ≠ .slice none 0 0 ∧ Below W.heap.size W w' ∧ WdT w' W.heap.size v (belL d.1 k p u)) := fun W u p hW hu hp => ih (by omega) u p hu hp W (hx.later hW)
    have HX : Hid (FsX w b 0 d (some ⟨b0, o0, none⟩) cI aD cD) := hx
    have HR : Hid (belL d.1 (k + 1) ah t = belK d.1 k ah t (d.1[t]?.getD id0).2.2.2.2.length) := (belK_all d.1 k ah t).symm
    rw [HR.out]
    have f0 := hx.c0
    obtain ⟨_, _, e1, -, hAt⟩ := hx.ins.open'
    simp only [Value.slice.injEq] at e1
    obtain ⟨rfl, -, rfl⟩ := e1
    have HAT : Hid (∀ W, Below w.heap.size w W → AtI W (some ⟨b0, o0, none⟩) d.1.length d.1) := fun W hW => AtI.later hAt hW
    obtain ⟨_, _, e2, hIt⟩ := hAt t ht
    simp only [Option.some.injEq, Addr.mk.injEq, and_true] at e2
    obtain ⟨rfl, rfl⟩ := e2
    obtain ⟨aB, cB, aE, cE, -, -, -, -, c4, h5⟩ := hIt
    obtain ⟨_, _, e3, -, -, hEt⟩ := h5.2.2.open'
    simp only [Value.slice.injEq] at e3
    obtain ⟨rfl, -, rfl⟩ := e3
    have HF0 : Hid (w.cell? ⟨b, 0, none⟩ = some (.slice (some ⟨b0, o0, none⟩) d.1.length cI)) := f0
    have HC4 : Hid (_ = _) := c4
    have HEN : Hid (∀ W, Below w.heap.size w W → AtN W aE (d.1[t]?.getD id0).2.2.2.2.length (d.1[t]?.getD id0).2.2.2.2) := fun W hW => AtN.later hEt hW
    have HRNG : Hid (∀ q, q < (d.1[t]?.getD id0).2.2.2.2.length → ∃ u : Nat, ((d.1[t]?.getD id0).2.2.2.2[q]?.getD en0).2 = (u : Int) ∧ u < d.1.length) := fun q hq => rng_nat hok.rng ht hq
    have h6 : ∀ i : Nat, (d.1[i]?.getD id0).2.2.2.2.length ≤ 6 := fun i => by have := hok.six i; rw [entsOf_len] at this; exact this
    have HFOUR : Hid (∀ q, q < (d.1[t]?.getD id0).2.2.2.2.length → ((d.1[t]?.getD id0).2.2.2.2[q]?.getD en0).1.toList.length ≤ 4) := fun q hq => ents_four hok.ins ht hq
    have HSUC : Hid (∀ q, q < (d.1[t]?.getD id0).2.2.2.2.length → ∀ y : Nat, ((d.1[t]?.getD id0).2.2.2.2[q]?.getD en0).2 = (y : Int) → belK d.1 k ah t (q + 1) = belK d.1 k ah t q ++ [ah ++ 47 :: ((d.1[t]?.getD id0).2.2.2.2[q]?.getD en0).1.toList] ++ belL d.1 k (ah ++ 47 :: ((d.1[t]?.getD id0).2.2.2.2[q]?.getD en0).1.toList) y) := fun q hq y hy => by
      rw [belK_succ hq, hy, Int.toNat_natCast, List.append_assoc]; rfl
    have HLEN : Hid (∀ q, (belK d.1 k ah t q).length ≤ 55986) := fun q => Nat.le_trans (belK_len h6 k ah t q) (belN_le hk6)
    have HZ : Hid (belK d.1 k ah t 0 = []) := belK_zero _ _ _ _
    have HNONE : Hid (∀ (u : Nat) (p : List UInt8), u < d.1.length → ¬ kindAt d.1 u = 2 → belL d.1 k p u = []) := fun u p hu hk => belL_none (ents_none hok.ins hu hk)
    have HLL : Hid (∀ (u : Nat) (p : List UInt8), (belL d.1 k p u).length ≤ 55986) := fun u p => Nat.le_trans (belL_len h6 k p u) (belN_le (by omega))
    have hE6 := h6 t
    have hten := hok.ten
    obtain ⟨K, hK⟩ : ∃ K, k + 1 = K := ⟨_, rfl⟩
    rw [hK]
    have hKm : (K : Int) - 1 = (k : Int) := by omega
    have hKp : decide (0 < (K : Int)) = true := decide_eq_true (by omega)
    have hK6 : (K : Int) ≤ 6 := by omega
    have htI : (t : Int) < ((d.1.length : Nat) : Int) := by omega
    have hah30 : ah.length ≤ 30 := by omega
    have HAH : Hid (ah.length + 5 * (k + 1) ≤ 30) := hah
    have HW0 : Hid (WdT (w.alloc (.cells #[] 9)) w.heap.size (.slice (some ⟨w.heap.size, 0, none⟩) 0 0) []) := World.ownsRow_lit w #[] 0 (Nat.le_refl _) (by simp) rfl
    clear ih hx hAt h5 hEt hok hK h6 HX hah hk6
    generalize (d.1[t]?.getD id0).2.2.2.2 = es at *
    generalize hnn : es.length = nE at *
    clear hnn
    have hs47 : (⟨#[47]⟩ : ByteArray) = mkB [47] := rfl
    go_enter Try.func33, Try.ntmps33
    go_wp2_with fail
    go_loopw [9, 10] (fun o i wr => ∃ q : Nat, q ≤ nE ∧ i = .int .i64 q ∧ o ≠ .slice none 0 0 ∧ Below w.heap.size w wr ∧ WdT wr w.heap.size o (belK d.1 k ah t q)) (fun _ i _ => nE - (intOf i).toNat)
    case atStart => exact ⟨0, Nat.zero_le _, rfl, by simp, later1 _ _, by rw [HZ.out]; exact HW0.out⟩
    case round =>
      obtain ⟨q, hq, rfl, hnn, hbl, hwd⟩ := hrel
      have HBL : Hid (Below w.heap.size w wr) := hbl
      have x0 := cell_later hbl HF0.out
      have x4 := cell_later hbl HC4.out
      have HWD : Hid (WdT wr w.heap.size _ (belK d.1 k ah t q)) := hwd
      have HNN : Hid (_ ≠ Value.slice none 0 0) := hnn
      obtain ⟨g, cg, rfl, hgg, hgl⟩ := hwd.some hnn
      have hlq := HLEN.out q
      clear hbl hwd hnn
      by_cases hlt : q < nE
      · obtain ⟨b1, o1, rfl, d0, d1⟩ := HEN.out wr HBL.out q hlt
        obtain ⟨u, hu, hul⟩ := HRNG.out q hlt
        have h4 := HFOUR.out q hlt
        have HS := HSUC.out q hlt u hu
        rw [hu] at d1
        have HMB : Hid (mkB (es[q]?.getD en0).1.toList = (es[q]?.getD en0).1) := mkB_of _
        rw [← HMB.out] at d0
        generalize (es[q]?.getD en0).1.toList = nm at *
        clear HMB hu
        obtain ⟨p, hp⟩ : ∃ p, ah ++ 47 :: nm = p := ⟨_, rfl⟩
        rw [hp] at HS
        have HSS : Hid (belK d.1 k ah t (q + 1) = belK d.1 k ah t q ++ [p] ++ belL d.1 k p u) := HS
        have hpl : p.length + 5 * k ≤ 30 := by rw [← hp]; have := HAH.out; simp; omega
        have z1 : (9223372036854775807 < (mkB ah).size + (mkB [47]).size) = False := by rw [mkB_size, mkB_size]; simp; omega
        have z2 : (9223372036854775807 < (mkB ah ++ mkB [47]).size + (mkB nm).size) = False := by rw [mkB_app, mkB_size, mkB_size]; simp; omega
        have z3 : (9223372036854775807 < (mkB ah).size + (mkB [47]).size + (mkB nm).size) = False := by rw [mkB_size, mkB_size, mkB_size]; simp; omega
        have hE : mkB ah ++ mkB [47] ++ mkB nm = mkB p := by rw [← hp, mkB_app, mkB_app, List.append_assoc]; rfl
        -- the box of the entry
        obtain ⟨W0, hW0⟩ : ∃ W0, W0 = wr.alloc (.cells #[.string (mkB nm), .int .i64 (u : Int)] 72) := ⟨_, rfl⟩
        have HBW : Hid (Below w.heap.size w W0) := by unfold Hid; rw [hW0]; exact HBL.out.trans ((later1 _ _).mono HBL.out.size)
        have HWD0 : Hid (WdT W0 w.heap.size (.slice (some ⟨g, 0, none⟩) (belK d.1 k ah t q).length cg) (belK d.1 k ah t q)) := by unfold Hid; rw [hW0]; exact HWD.out.later (later1 _ _)
        have hB0 : Bx W0 wr.heap.size [.string (mkB nm), .int .i64 (u : Int)] := by rw [hW0]; exact Bx.new wr [.string (mkB nm), .int .i64 (u : Int)] _
        have hsz0 : W0.heap.size = wr.heap.size + 1 := by rw [hW0]; simp
        obtain ⟨v', X, hr, hwx, hbx, hvx, hkp⟩ := WdT.push' W0 w.heap.size _ _ p HWD0.out HBW.out.size (by omega) (by simp)
        obtain ⟨g2, c2, rfl, hg2, hg2l⟩ := hwx.some hvx
        have hkX : X.heap[wr.heap.size]? = W0.heap[wr.heap.size]? := hkp _ (by omega) (by simp [Value.ownBlock]; omega)
        have e1 : X.cell? ⟨wr.heap.size, 1, none⟩ = some (.int .i64 (u : Int)) := (World.cell?_of_block (w := W0) hkX).trans (hB0 1 _ rfl)
        rw [hsz0] at hr
        have HRN : Hid (_ = _) := hr
        have HWX : Hid (WdT X w.heap.size (.slice (some ⟨g2, 0, none⟩) (belK d.1 k ah t q ++ [p]).length c2) (belK d.1 k ah t q ++ [p])) := hwx
        have HBX : Hid (Below w.heap.size w X) := HBW.out.trans hbx
        have hlX : (belK d.1 k ah t q ++ [p]).length ≤ 55987 := by simp; omega
        have y0 := cell_later HBX.out HF0.out
        obtain ⟨_, _, e2, hIu⟩ := HAT.out X HBX.out u hul
        simp only [Option.some.injEq, Addr.mk.injEq, and_true] at e2
        obtain ⟨rfl, rfl⟩ := e2
        obtain ⟨_, _, _, _, k0, -⟩ := hIu
        have HK : Hid (kindAt d.1 u = (d.1[u]?.getD id0).1) := rfl
        have HNO := HNONE.out u p hul
        have hll := HLL.out u p
        have hulI : (u : Int) < ((d.1.length : Nat) : Int) := by omega
        subst hW0
        clear hr hwx hbx HS hkp hkX hB0 hsz0 HWD HWD0 HBW HSUC HFOUR HRNG h4
        rw [HK.out] at HNO
        generalize (d.1[u]?.getD id0).1 = kd at *
        generalize d.1.length = n at *
        have HLXX : Hid ((belK d.1 k ah t q ++ [p]).length ≤ 55987) := hlX
        generalize hlxe : (belK d.1 k ah t q ++ [p]).length = lx at HRN HWX hlX
        clear hlxe
        by_cases hkd : kd = 2
        · have hkb : (kd == 2) = true := by simpa using hkd
          have HCALL : Hid (∀ W, Below w.heap.size w W → Calls Try.prog 33 #[.pointer (some ⟨b, 0, none⟩), .int .i64 (u : Int), .string (mkB p), .int .i64 (k : Int)] W fun e w' => ∃ v, e = .returned v ∧ v ≠ .slice none 0 0 ∧ Below W.heap.size W w' ∧ WdT w' W.heap.size v (belL d.1 k p u)) := fun W hW => HIH.out W u p hW hul hpl
          clear hkd HNO HK
          go_wp2_with (first | (at_builtin; refine wpList_append_run rfl _ _ 27 rfl _ _ rfl rfl _ _ HRN.out ?_) | fail)
          go_quiet (fail)
          go_wp2_with fail
          refine (HCALL.out _ (by first | exact HBX.out | exact below_drewN HBX.out _)).mono ?_
          rintro e w2 ⟨v, rfl, hv, hb2, hw2⟩
          obtain ⟨g3, c3, rfl, hg3, hg3l⟩ := hw2.some hv
          have HB2 : Hid (Below w.heap.size w w2) := by
            have h0 : Below w.heap.size w (X.drewN nq) := below_drewN HBX.out _
            exact h0.trans (hb2.mono h0.size)
          have HWX2 : Hid (WdT w2 w.heap.size (.slice (some ⟨g2, 0, none⟩) lx c2) (belK d.1 k ah t q ++ [p])) := (HWX.out.later (below_drewN (Below.refl _ _) nq)).later hb2
          obtain ⟨_, hat⟩ := ownsRow_at hw2
          have HLX := HLXX.out
          obtain ⟨v3, X3, hr3, hw3, hbx3, hv3, -⟩ := WdT.pushL w2 w.heap.size _ _ (belL d.1 k p u) ⟨g3, 0, none⟩ (belL d.1 k p u).length c3 HWX2.out HB2.out.size rfl hat (by omega)
          rw [← HSS.out] at hw3
          have HR3 : Hid (_ = _) := hr3
          have HW3 : Hid (WdT X3 w.heap.size v3 (belK d.1 k ah t (q + 1))) := hw3
          have HB3 : Hid (Below w.heap.size w X3) := HB2.out.trans hbx3
          have HV3 : Hid (v3 ≠ .slice none 0 0) := hv3 (by simp)
          clear hr3 hw3 hbx3 hv3 hat hw2 hb2 hv HLX
          generalize (belL d.1 k p u).length = lb at *
          go_wp2_with (first | (at_builtin; refine wpList_append_run rfl _ _ 27 rfl _ _ rfl rfl _ _ HR3.out ?_) | fail)
          go_roundw
          case rel => exact ⟨q + 1, by omega, by go_num, HV3.out, HB3.out, HW3.out⟩
          case measure => simp [intOf]; omega
        · have hkb : (kd == 2) = false := by simpa using hkd
          have HN := HNO hkd
          have HE1 : Hid (belK d.1 k ah t (q + 1) = belK d.1 k ah t q ++ [p]) := by unfold Hid; rw [HSS.out, HN, List.append_nil]
          have HV2 : Hid (Value.slice (some ⟨g2, 0, none⟩) lx c2 ≠ .slice none 0 0) := by unfold Hid; simp
          clear hkd HNO HK HN HSS
          go_wp2_with (first | (at_builtin; refine wpList_append_run rfl _ _ 27 rfl _ _ rfl rfl _ _ HRN.out ?_) | fail)
          go_quiet (fail)
          go_wp2
          go_roundw
          case rel => exact ⟨q + 1, by omega, by go_num, HV2.out, below_drewN HBX.out _, by rw [HE1.out]; exact HWX.out.later (below_drewN (Below.refl _ _) nq)⟩
          case measure => simp [intOf]; omega
      · go_wp2
        go_ret
        obtain rfl : q = nE := by omega
        exact ⟨_, rfl, HNN.out, HBL.out, HWD.out⟩
end Go.Proofs.Ytfdgfhcljjdcfaa

namespace Go.Proofs.Ytfdgfhcljjdcfaa
open Go.RowKit Go.Shelf
set_option maxRecDepth 100000
attribute [local go_sem] Oper.semAt_some

theorem slice_takeO (g n c j : Nat) (hj : j ≤ c) (hc : 0 < c) (W : World) : (Instr.slice 27 (.slice (some ⟨g, 0, none⟩) n c) none (some (.int .i64 (j : Int))) none).run Try.prog W = .ok (.slice (some ⟨g, 0, none⟩) j c) W := by
  obtain ⟨i, hi, _⟩ := info_parts Try.infoStr
  have hc0 : ¬ c = 0 := by omega
  simp [Instr.slice, Instr.sliceBounds, Instr.sliceBound, asIntOf, run_underlying Try.underlying27, sizeOf, typeInfo, hi, hj, Addr.add]
theorem OwnRow.few {w : World} {b n m : Nat} {f : Nat → Value} (h : OwnRow w b n f) (hm : m ≤ n) : OwnRow w b m f := by
  obtain ⟨c, t, h1, h2, h3⟩ := h
  exact ⟨c, t, h1, by omega, fun i hi => h3 i (by omega)⟩
theorem l9Paths_any (w : World) (b : Nat) (d : FD) (b0 o0 cI : Nat) (aD : Option Addr) (cD : Nat) (hok : FsOk d) (hx : FsX w b 0 d (some ⟨b0, o0, none⟩) cI aD cD) :
    Calls Try.prog 16 #[.pointer (some ⟨b, 0, none⟩)] w fun e w' => ∃ a n c, e = .returned (.slice a n c) ∧ Below w.heap.size w w' ∧ StrsO w' (.slice a n c) ((belL d.1 6 [] 0).take 60) (fun g => w.heap.size ≤ g ∧ g < w'.heap.size) := by
  have HC : Hid (Calls Try.prog 33 #[.pointer (some ⟨b, 0, none⟩), .int .i64 0, .string ⟨#[]⟩, .int .i64 6] w fun e w' => ∃ v, e = .returned v ∧ v ≠ .slice none 0 0 ∧ Below w.heap.size w w' ∧ WdT w' w.heap.size v (belL d.1 6 [] 0)) := l9Below_any b d b0 o0 cI aD cD hok 6 (by omega) 0 [] hok.pos (by simp) w hx
  clear hx hok
  generalize belL d.1 6 [] 0 = xs at *
  go_enter Try.func16, Try.ntmps16
  go_wp2_with fail
  refine HC.out.mono ?_
  rintro e w1 ⟨v, rfl, hv, hb, hw⟩
  obtain ⟨g, c, rfl, hg1, hg2⟩ := hw.some hv
  have hcap := ownsRow_cap hw
  have HW : Hid (WdT w1 w.heap.size (.slice (some ⟨g, 0, none⟩) xs.length c) xs) := hw
  have HB : Hid (Below w.heap.size w w1) := hb
  have HL : Hid (xs.length = xs.length) := rfl
  clear hw hb hv
  generalize hn : xs.length = n at *
  have HN : Hid (xs.length = n) := hn
  clear hn HL
  by_cases h60 : 60 < n
  · have hd : decide ((60 : Int) < (n : Int)) = true := decide_eq_true (by omega)
    have hd2 : decide ((n : Int) > (60 : Int)) = true := decide_eq_true (by omega)
    have hr : ∀ W, (Instr.slice 27 (.slice (some ⟨g, 0, none⟩) n c) none (some (.int .i64 60)) none).run Try.prog W = .ok (.slice (some ⟨g, 0, none⟩) 60 c) W := slice_takeO g n c 60 (by omega) (by omega)
    go_wp2
    go_ret
    refine ⟨_, _, _, rfl, HB.out, ?_⟩
    rcases ownT_row HW.out with h0 | ⟨g', e', h1, h2, h3⟩
    · omega
    · cases e'
      refine Or.inr ⟨g, c, ⟨h1, h2⟩, ?_, ?_, ?_⟩
      · rw [List.length_take, HN.out, Nat.min_eq_left (by omega)]
      · rw [List.length_take]; omega
      · rw [List.length_take, HN.out, Nat.min_eq_left (by omega)]
        exact (h3.few (by omega)).congr fun i hi => by rw [List.getElem?_take, if_pos hi]
  · have hd : decide ((60 : Int) < (n : Int)) = false := decide_eq_false (by omega)
    have hd2 : decide ((n : Int) > (60 : Int)) = false := decide_eq_false (by omega)
    go_wp2
    go_ret
    refine ⟨_, _, _, rfl, HB.out, ?_⟩
    rw [List.take_of_length_le (by rw [HN.out]; omega)]
    exact HW.out.own (by rw [HN.out]; omega)
set_option maxHeartbeats 1600000 in
theorem specPathsU (w : World) (a1 : Option Addr) (n1 c1 : Nat) (a2 : Option Addr) (n2 c2 : Nat) (d : FD) (h : FsR w (.slice a1 n1 c1) (.slice a2 n2 c2) d) (hs : sizeFs d ≤ 1048576) :
    Calls Try.prog 5 #[.agg #[.slice a1 n1 c1, .slice a2 n2 c2]] w (AnsNR w (pathsR d)) := by
  obtain ⟨hx0, rfl, rfl⟩ := FsX.box h 33
  have HB0 : Hid (Below w.heap.size w ((w.alloc (.cells #[.slice a1 d.1.length c1, .slice a2 d.2.length c2] 33)).alloc (.cells #[.int .i64 0, .slice none 0 0] 29))) := later2 _ _ _
  have HX : Hid (Bx ((w.alloc (.cells #[.slice a1 d.1.length c1, .slice a2 d.2.length c2] 33)).alloc (.cells #[.int .i64 0, .slice none 0 0] 29)) w.heap.size [.slice a1 d.1.length c1, .slice a2 d.2.length c2]) := (Bx.new w [.slice a1 d.1.length c1, .slice a2 d.2.length c2] _).later (later1 _ _)
  have HRB : Hid (OwnRow ((w.alloc (.cells #[.slice a1 d.1.length c1, .slice a2 d.2.length c2] 33)).alloc (.cells #[.int .i64 0, .slice none 0 0] 29)) (w.heap.size + 1) 2 (fun i => if i = 0 then .int .i64 0 else .slice none 0 0)) := by
    have := OwnRow.newS (w.alloc (.cells #[.slice a1 d.1.length c1, .slice a2 d.2.length c2] 33)) (.int .i64 0) (.slice none 0 0) 29
    rw [World.size_alloc] at this
    exact this
  have HXX : Hid (FsX ((w.alloc (.cells #[.slice a1 d.1.length c1, .slice a2 d.2.length c2] 33)).alloc (.cells #[.int .i64 0, .slice none 0 0] 29)) w.heap.size 0 d a1 c1 a2 c2) := hx0.later (later1 _ _)
  have HF : Hid (Calls Try.prog 15 #[.pointer (some ⟨w.heap.size, 0, none⟩)] ((w.alloc (.cells #[.slice a1 d.1.length c1, .slice a2 d.2.length c2] 33)).alloc (.cells #[.int .i64 0, .slice none 0 0] 29)) fun e w' => e = .returned (.int .i64 (fsF d)) ∧ Below ((w.alloc (.cells #[.slice a1 d.1.length c1, .slice a2 d.2.length c2] 33)).alloc (.cells #[.int .i64 0, .slice none 0 0] 29)).heap.size ((w.alloc (.cells #[.slice a1 d.1.length c1, .slice a2 d.2.length c2] 33)).alloc (.cells #[.int .i64 0, .slice none 0 0] 29)) w') := l6Fault_any _ _ _ d _ _ _ _ HXX.out (by unfold sizeFs at hs; omega)
  have HLT : Hid (0 < d.1.length → ∃ b0 o0, a1 = some ⟨b0, o0, none⟩) := fun hp => by
    obtain ⟨_, _, e1, -, hAI⟩ := h.1.open'
    simp only [Value.slice.injEq] at e1
    obtain ⟨b0, o0, e2, -⟩ := hAI 0 hp
    exact ⟨b0, o0, e1.1.trans e2⟩
  by_cases hf : fsF d = 0
  rotate_left
  · have HRR : Hid (pathsR d = (fsF d, [])) := by unfold Hid pathsR; rw [if_neg hf]
    rw [HRR.out]
    have hb : (fsF d != 0) = true := by simpa using hf
    clear hf HRR h hs hx0 HXX HLT
    generalize fsF d = r at *
    generalize d.1.length = n at *
    generalize d.2.length = m at *
    go_enter Try.func5, Try.ntmps5
    go_wp2_with fail
    generalize ((w.alloc (.cells #[.slice a1 n c1, .slice a2 m c2] 33)).alloc (.cells #[.int .i64 0, .slice none 0 0] 29)) = W0 at *
    refine HF.out.mono ?_
    rintro e w1 ⟨rfl, hb1⟩
    have HB1 : Hid (Below w.heap.size w w1) := HB0.out.trans (hb1.mono HB0.out.size)
    have hrow := HRB.out.later hb1
    have t0 := hrow.cell (i := 0) (by omega)
    have t1 := hrow.cell (i := 1) (by omega)
    have s0 := hrow.frozen 0
    have s1 := hrow.frozen 1
    simp at t0 t1
    clear hb1 hrow
    go_wp2
    exact bodyPost_ret (v := .agg #[.int .i64 r, .slice none 0 0]) (by simp [results, Try.results5, go_sem, t0, t1]) rfl (AnsNR.none' r HB1.out (by omega) _ _)
  · have hok := fsE_ok (fsF_E hf)
    have HRR : Hid (pathsR d = (0, (belL d.1 6 [] 0).take 60)) := by unfold Hid pathsR; rw [if_pos hf]
    rw [HRR.out]
    rw [hf] at HF
    obtain ⟨b0, o0, rfl⟩ := HLT.out hok.pos
    have HL : Hid (∀ W, Below ((w.alloc (.cells #[.slice (some ⟨b0, o0, none⟩) d.1.length c1, .slice a2 d.2.length c2] 33)).alloc (.cells #[.int .i64 0, .slice none 0 0] 29)).heap.size ((w.alloc (.cells #[.slice (some ⟨b0, o0, none⟩) d.1.length c1, .slice a2 d.2.length c2] 33)).alloc (.cells #[.int .i64 0, .slice none 0 0] 29)) W → Calls Try.prog 16 #[.pointer (some ⟨w.heap.size, 0, none⟩)] W fun e w' => ∃ a n c, e = .returned (.slice a n c) ∧ Below W.heap.size W w' ∧ StrsO w' (.slice a n c) ((belL d.1 6 [] 0).take 60) (fun g => W.heap.size ≤ g ∧ g < w'.heap.size)) := fun W hW => l9Paths_any W _ d b0 o0 c1 a2 c2 hok (HXX.out.later hW)
    clear hf HRR h hs hx0 HXX HLT hok
    generalize (belL d.1 6 [] 0).take 60 = ys at *
    generalize d.1.length = n at *
    generalize d.2.length = m at *
    go_enter Try.func5, Try.ntmps5
    go_wp2_with fail
    generalize ((w.alloc (.cells #[.slice (some ⟨b0, o0, none⟩) n c1, .slice a2 m c2] 33)).alloc (.cells #[.int .i64 0, .slice none 0 0] 29)) = W0 at *
    refine HF.out.mono ?_
    rintro e w1 ⟨rfl, hb1⟩
    have HB1 : Hid (Below w.heap.size w w1) := HB0.out.trans (hb1.mono HB0.out.size)
    have HR1 : Hid (OwnRow w1 (w.heap.size + 1) 2 (fun i => if i = 0 then .int .i64 0 else .slice none 0 0)) := HRB.out.later hb1
    have HL1 := HL.out w1 hb1
    have hlw : w.heap.size + 1 < w1.heap.size := HR1.out.lt
    clear hb1 HL HX HRB
    go_wp2_with fail
    refine HL1.mono ?_
    rintro e w2 ⟨a, n', c, rfl, hb2, hst⟩
    have HB2 : Hid (Below w.heap.size w w2) := HB1.out.trans (hb2.mono HB1.out.size)
    have hrow := HR1.out.later hb2
    have t0 := hrow.cell (i := 0) (by omega)
    have t1 := hrow.cell (i := 1) (by omega)
    have s0 := hrow.frozen 0
    have s1 := hrow.frozen 1
    simp at t0 t1
    have HST : Hid (StrsO w2 (.slice a n' c) ys (fun b => w.heap.size ≤ b ∧ b < w2.heap.size ∧ b ≠ w.heap.size + 1)) := hst.mono fun b hb => ⟨by omega, hb.2, by omega⟩
    clear hb2 hrow hst HL1
    go_wp2
    exact bodyPost_ret (v := .agg #[.int .i64 0, .slice a n' c]) (by simp [results, Try.results5, go_sem, t0, t1]) rfl (AnsNR.boxed HB2.out (by omega) HST.out _ _)
end Go.Proofs.Ytfdgfhcljjdcfaa

namespace Go.Proofs.Ytfdgfhcljjdcfaa
open Go.ChangeShapes Go.WideShapes Go.ChangeAt Go.RowKit Go.Deep
set_option maxRecDepth 100000

section
variable {H : Type} {enc : TypeId × Value → H} {P : Program} {w : World} {base : Nat} {held : Bool}

theorem addr_of {a : Addr} {v : Value} (h : w.cell? (a.add 0) = some v) : a = ⟨a.block, a.off, none⟩ := by
  obtain ⟨b, o, s⟩ := a
  have : s = none := by simpa [Addr.add] using World.cell?_spot h
  subst this; rfl
theorem add_plain (b off k : Nat) : (⟨b, off, none⟩ : Addr).add k = ⟨b, off + k, none⟩ := by
  by_cases h : k = 0
  · subst h; simp [Addr.add]
  · simp [Addr.add, h]

theorem open_Ints {t e : TypeId} {fuel : Nat} {v : Value} {x : DataW H × List MemPlace} (ht : P.underlying t = some (.slice e)) (he : P.underlying e = some (.int .i64)) (ce : P.cellsOf e = 1) (h : DataW.trod enc P w base (fun _ => true) held fuel t [v] = some x) :
    ∃ zs, Ints w v zs := by
  rcases open_ints ht he ce h with ⟨hcs, _⟩ | ⟨a, len, cap, zs, hcs, _, hl, hm, hz, _, hcell, _⟩
  · simp only [List.cons.injEq, and_true] at hcs
    exact ⟨[], Or.inl ⟨rfl, none, 0, hcs⟩⟩
  · simp only [List.cons.injEq, and_true] at hcs
    simp only [if_true] at hz
    by_cases h0 : len = 0
    · subst h0; exact ⟨[], Or.inl ⟨rfl, some a, cap, hcs⟩⟩
    · have ha := addr_of (hcell 0 (by omega))
      refine ⟨zs.take len, Or.inr ⟨a.block, a.off, cap, ?_, ?_, fun k hk => ?_⟩⟩
      · rw [hcs, List.length_take, Nat.min_eq_left (by omega), ← ha]
      · rw [List.length_take]; omega
      · rw [List.length_take] at hk
        have h1 := hcell k (by omega)
        rw [ha, add_plain] at h1
        rw [h1, List.getElem?_take, if_pos (by omega)]
        rfl

theorem open_IntsS {t e q : TypeId} {fuel : Nat} {v : Value} {x : DataW H × List MemPlace} (ht : P.underlying t = some (.slice e)) (he : P.underlying e = some (.slice q)) (hq : P.underlying q = some (.int .i64)) (ce : P.cellsOf e = 1) (cq : P.cellsOf q = 1)
    (h : DataW.trod enc P w base (fun _ => true) held fuel t [v] = some x) : ∃ zss, IntsS w v zss := by
  rcases open_slice1 ht ce h with ⟨hcs, _⟩ | ⟨a, len, cap, m, n, V, D, Pl, hcs, _, hl, hm, hmm, _, hx⟩
  · simp only [List.cons.injEq, and_true] at hcs
    exact ⟨[], Or.inl ⟨rfl, none, 0, hcs⟩⟩
  · simp only [List.cons.injEq, and_true] at hcs
    simp only [if_true] at hmm
    by_cases h0 : len = 0
    · subst h0; exact ⟨[], Or.inl ⟨rfl, some a, cap, hcs⟩⟩
    · have ha := addr_of (hx 0 (by omega)).1
      obtain ⟨Z, hZ⟩ := choose_lt (α := List Int) (n := m) (p := fun i zs => Ints w (V i) zs) fun i hi => open_Ints he hq cq (hx i hi).2
      refine ⟨(List.range len).map Z, Or.inr ⟨a.block, a.off, cap, V, ?_, ?_, fun k hk => ?_⟩⟩
      · simp only [List.length_map, List.length_range]; rw [hcs, ← ha]
      · simp only [List.length_map, List.length_range]; omega
      · simp only [List.length_map, List.length_range] at hk
        have h1 := (hx k (by omega)).1
        rw [ha, add_plain] at h1
        refine ⟨h1, ?_⟩
        have := hZ k (by omega)
        simpa [hk] using this

theorem open_Puts {t e q : TypeId} {f0 f1 : Field} {fuel : Nat} {v : Value} {x : DataW H × List MemPlace} (ht : P.underlying t = some (.slice e)) (he : P.underlying e = some (.struct #[f0, f1]))
    (ce : P.cellsOf e = 2) (o0 : f0.offset = 0) (o1 : f1.offset = 1) (c0 : P.cellsOf f0.type = 1) (c1 : P.cellsOf f1.type = 1) (h0 : P.underlying f0.type = some (.int .i64)) (h1 : P.underlying f1.type = some (.slice q)) (hq : P.underlying q = some (.int .i64)) (cq : P.cellsOf q = 1)
    (h : DataW.trod enc P w base (fun _ => true) held fuel t [v] = some x) : ∃ ps, Puts w v ps := by
  rcases open_slice_pairs ht he ce o0 o1 c0 c1 h with ⟨hcs, _⟩ | ⟨a, len, cap, m, n, V0, V1, D0, D1, P0, P1, hcs, _, hl, hm, hmm, _, hx⟩
  · simp only [List.cons.injEq, and_true] at hcs
    exact ⟨[], Or.inl ⟨rfl, none, 0, hcs⟩⟩
  · simp only [List.cons.injEq, and_true] at hcs
    simp only [if_true] at hmm
    by_cases hl0 : len = 0
    · subst hl0; exact ⟨[], Or.inl ⟨rfl, some a, cap, hcs⟩⟩
    · have ha := addr_of (by simpa using (hx 0 (by omega)).1)
      obtain ⟨Z, hZ⟩ := choose_lt (α := Int × List Int) (n := m) (p := fun i z => V0 i = .int .i64 z.1 ∧ Ints w (V1 i) z.2) fun i hi => by
        obtain ⟨_, _, g0, g1⟩ := hx i hi
        obtain ⟨zs, hzs⟩ := open_Ints h1 hq cq g1
        obtain ⟨y, hy, _⟩ := DataW.trod_int h0 g0
        simp only [List.cons.injEq, and_true] at hy
        exact ⟨(y, zs), hy, hzs⟩
      refine ⟨(List.range len).map Z, Or.inr ⟨a.block, a.off, cap, V1, ?_, ?_, fun k hk => ?_⟩⟩
      · simp only [List.length_map, List.length_range]; rw [hcs, ← ha]
      · simp only [List.length_map, List.length_range]; omega
      · simp only [List.length_map, List.length_range] at hk
        obtain ⟨e0, e1, _, _⟩ := hx k (by omega)
        rw [ha, add_plain] at e0 e1
        obtain ⟨g0, g1⟩ := hZ k (by omega)
        rw [g0] at e0
        have hg : ((List.range len).map Z)[k]?.getD (0, []) = Z k := by simp [hk]
        rw [hg]
        exact ⟨e0, e1, g1⟩
end

end Go.Proofs.Ytfdgfhcljjdcfaa

namespace Go.Proofs.Ytfdgfhcljjdcfaa
open Go.ChangeShapes Go.WideShapes Go.ChangeAt Go.RowKit Go.Joins
set_option maxRecDepth 100000

theorem Try.own : ownKnob Try.prog.godebug = none := by kernel_rfl
theorem Try.laidOut : laidOutB Try.prog = true := by kernel_rfl
theorem Try.cellsInt : Try.prog.cellsOf 2 = 1 := by kernel_rfl
theorem Try.cellsInts : Try.prog.cellsOf 57 = 1 := by kernel_rfl

end Go.Proofs.Ytfdgfhcljjdcfaa

namespace Go.Proofs.Ytfdgfhcljjdcfaa
open Go.ChangeShapes Go.WideShapes Go.ChangeAt Go.RowKit Go.Joins Go.Deep
set_option maxRecDepth 100000

theorem open_Ents {H : Type} {enc : TypeId × Value → H} {P : Program} {w : World} {base : Nat} {held : Bool} {t e : TypeId} {f0 f1 : Field} {fuel : Nat} {v : Value} {x : DataW H × List MemPlace} (ht : P.underlying t = some (.slice e)) (he : P.underlying e = some (.struct #[f0, f1]))
    (ce : P.cellsOf e = 2) (o0 : f0.offset = 0) (o1 : f1.offset = 1) (c0 : P.cellsOf f0.type = 1) (c1 : P.cellsOf f1.type = 1) (h0 : P.underlying f0.type = some .string) (h1 : P.underlying f1.type = some (.int .i64))
    (h : DataW.trod enc P w base (fun _ => true) held fuel t [v] = some x) : ∃ es, Ents w v es := by
  rcases open_slice ht h with ⟨hcs, _⟩ | ⟨a, len, cap, m, n, D, Pl, hcs, hb, hl, hm, hmm, _, hx⟩
  · simp only [List.cons.injEq, and_true] at hcs
    exact ⟨[], by rw [hcs]; exact Ents.nil w none 0⟩
  · simp only [List.cons.injEq, and_true] at hcs
    simp only [if_true] at hmm
    by_cases hl0 : len = 0
    · subst hl0; exact ⟨[], by rw [hcs]; exact Ents.nil w (some a) cap⟩
    · have each : ∀ i, i < m → ∃ q : EN, w.cell? (a.add (i * 2)) = some (.string q.1) ∧ w.cell? (a.add (i * 2 + 1)) = some (.int .i64 q.2) ∧ q.1.size ≤ maxLen := by
        intro i hi
        obtain ⟨cs', k1, k2⟩ := hx i hi
        rw [ce] at k1
        obtain ⟨_, hlen, hcell⟩ := World.cells?_some k1
        obtain ⟨xs, k, hk, hxy, _, hxl, hf⟩ := DataW.trod_struct he k2
        match xs, hxl, cs', hlen with
        | [y0, y1], _, [v0, v1], _ =>
          have g0 := hf 0 f0 rfl
          have g1 := hf 1 f1 rfl
          simp [o0, o1, c0, c1] at g0 g1
          have e0 := hcell 0 (by omega)
          have e1 := hcell 1 (by omega)
          rw [add_add] at e0 e1
          obtain ⟨z0, hz0, _, hs⟩ := DataW.trod_string h0 g0
          obtain ⟨z1, hz1, _⟩ := DataW.trod_int h1 g1
          simp only [List.cons.injEq, and_true] at hz0 hz1
          subst hz0 hz1
          exact ⟨(z0, z1), by simpa using e0, by simpa using e1, hs⟩
      obtain ⟨q, hq⟩ := choose_lt each
      have ha := addr_of (by simpa using (hq 0 (by omega)).1)
      refine ⟨(List.range len).map q, some a, cap, ?_, ?_, fun k hk => ?_⟩
      · simp only [List.length_map, List.length_range]; exact hcs
      · simp only [List.length_map, List.length_range]
        refine ⟨by omega, by omega, fun k => ?_⟩
        by_cases hk : k < len
        · have hg : ((List.range len).map q)[k]?.getD en0 = q k := by simp [hk]
          rw [hg]
          exact (hq k (by omega)).2.2
        · rw [List.getElem?_eq_none (by simpa using Nat.le_of_not_lt hk)]
          simp [en0, ByteArray.size]
      · simp only [List.length_map, List.length_range] at hk
        obtain ⟨e0, e1, _⟩ := hq k (by omega)
        rw [ha, add_plain] at e0 e1
        have hg : ((List.range len).map q)[k]?.getD en0 = q k := by simp [hk]
        rw [hg]
        exact ⟨a.block, a.off, by rw [← ha], e0, e1⟩

theorem open_cap {H : Type} {enc : TypeId × Value → H} {P : Program} {w : World} {base : Nat} {held : Bool} {t e : TypeId} {fuel : Nat} {v : Value} {x : DataW H × List MemPlace} (ht : P.underlying t = some (.slice e)) (h : DataW.trod enc P w base (fun _ => true) held fuel t [v] = some x) : capOK v := by
  rcases DataW.trod_slice ht h with ⟨hcs, _⟩ | ⟨a, len, cap, _, _, _, _, hcs, _, _, hl, _⟩
  · simp only [List.cons.injEq, and_true] at hcs
    exact ⟨none, 0, 0, hcs, Nat.le_refl _⟩
  · simp only [List.cons.injEq, and_true] at hcs
    exact ⟨some a, len, cap, hcs, hl⟩
theorem Try.cellsStr : Try.prog.cellsOf 9 = 1 := by kernel_rfl
theorem Try.cellsEnt : Try.prog.cellsOf 100 = 2 := by kernel_rfl
theorem Try.cellsEnts : Try.prog.cellsOf 58 = 1 := by kernel_rfl
theorem Try.cellsIno : Try.prog.cellsOf 60 = 5 := by kernel_rfl
theorem array5 {α : Type} {a : Array α} (h : a.size = 5) : ∃ x0 x1 x2 x3 x4, a = #[x0, x1, x2, x3, x4] := by
  obtain ⟨l⟩ := a
  match l, h with
  | [x0, x1, x2, x3, x4], _ => exact ⟨x0, x1, x2, x3, x4, rfl⟩
theorem open_InoU {H : Type} {enc : TypeId × Value → H} {W : World} {r : Reach} {b0 : Nat} {v : Value} {d : DataW H} {p : List MemPlace} (hv : Value.okWide Try.prog W r b0 60 v) (h : DataW.Trod enc Try.prog W 0 (fun _ => true) true 60 v d p) :
    ∃ v0 v1 v2 vB vE id, v = .agg #[v0, v1, v2, vB, vE] ∧ InoR W v0 v1 v2 vB vE id := by
  obtain ⟨cs, rfl, hsz⟩ := okWide_struct Try.underlying60 hv
  obtain ⟨c0, c1, c2, c3, c4, rfl⟩ := array5 (hsz.trans Try.cellsIno)
  obtain ⟨fuel, hf⟩ := h
  obtain ⟨xs, k, hk, hxy, _, hxl, hg⟩ := DataW.trod_struct Try.underlying60 hf
  match xs, hxl with
  | [y0, y1, y2, y3, y4], _ =>
    have g0 : DataW.trod enc Try.prog W 0 (fun _ => true) true k 2 [c0] = some y0 := by simpa [Value.cells, Try.cellsInt] using hg 0 _ rfl
    have g1 : DataW.trod enc Try.prog W 0 (fun _ => true) true k 2 [c1] = some y1 := by simpa [Value.cells, Try.cellsInt] using hg 1 _ rfl
    have g2 : DataW.trod enc Try.prog W 0 (fun _ => true) true k 2 [c2] = some y2 := by simpa [Value.cells, Try.cellsInt] using hg 2 _ rfl
    have g3 : DataW.trod enc Try.prog W 0 (fun _ => true) true k 57 [c3] = some y3 := by simpa [Value.cells, Try.cellsInts] using hg 3 _ rfl
    have g4 : DataW.trod enc Try.prog W 0 (fun _ => true) true k 58 [c4] = some y4 := by simpa [Value.cells, Try.cellsEnts] using hg 4 _ rfl
    obtain ⟨z0, hz0, _⟩ := DataW.trod_int Try.underlying2 g0
    obtain ⟨z1, hz1, _⟩ := DataW.trod_int Try.underlying2 g1
    obtain ⟨z2, hz2, _⟩ := DataW.trod_int Try.underlying2 g2
    simp only [List.cons.injEq, and_true] at hz0 hz1 hz2
    obtain ⟨bs, hbs⟩ := open_Ints Try.underlying57 Try.underlying2 Try.cellsInt g3
    obtain ⟨es, hes⟩ := open_Ents Try.underlying58 Try.underlying100 Try.cellsEnt rfl rfl Try.cellsStr Try.cellsInt Try.underlying9 Try.underlying2 g4
    exact ⟨c0, c1, c2, c3, c4, (z0, z1, z2, bs, es), rfl, ⟨hz0, hz1, hz2, open_cap Try.underlying57 g3⟩, hbs, hes⟩
end Go.Proofs.Ytfdgfhcljjdcfaa

namespace Go.Proofs.Ytfdgfhcljjdcfaa
open Go.ChangeShapes Go.WideShapes Go.ChangeAt Go.RowKit Go.Joins Go.Deep
set_option maxRecDepth 100000

theorem open_Inos {H : Type} {enc : TypeId × Value → H} {w : World} {base : Nat} {held : Bool} {fuel : Nat} {v : Value} {x : DataW H × List MemPlace}
    (h : DataW.trod enc Try.prog w base (fun _ => true) held fuel 22 [v] = some x) : ∃ ds, Inos w v ds := by
  rcases open_slice Try.underlying22 h with ⟨hcs, _⟩ | ⟨a, len, cap, m, n, D, Pl, hcs, hb, hl, hm, hmm, _, hx⟩
  · simp only [List.cons.injEq, and_true] at hcs
    exact ⟨[], by rw [hcs]; exact Inos.nil w none 0⟩
  · simp only [List.cons.injEq, and_true] at hcs
    simp only [if_true] at hmm
    by_cases hl0 : len = 0
    · subst hl0; exact ⟨[], by rw [hcs]; exact Inos.nil w (some a) cap⟩
    · have each : ∀ i, i < m → ∃ q : ID, ∃ vB vE, w.cell? (a.add (i * 5)) = some (.int .i64 q.1) ∧ w.cell? (a.add (i * 5 + 1)) = some (.int .i64 q.2.1) ∧ w.cell? (a.add (i * 5 + 2)) = some (.int .i64 q.2.2.1) ∧ w.cell? (a.add (i * 5 + 3)) = some vB ∧ w.cell? (a.add (i * 5 + 4)) = some vE ∧ InoR w (.int .i64 q.1) (.int .i64 q.2.1) (.int .i64 q.2.2.1) vB vE q := by
        intro i hi
        obtain ⟨cs', k1, k2⟩ := hx i hi
        rw [Try.cellsIno] at k1
        obtain ⟨_, hlen, hcell⟩ := World.cells?_some k1
        obtain ⟨xs, k, hk, hxy, _, hxl, hg⟩ := DataW.trod_struct Try.underlying60 k2
        match xs, hxl, cs', hlen with
        | [y0, y1, y2, y3, y4], _, [c0, c1, c2, c3, c4], _ =>
          have g0 : DataW.trod enc Try.prog w base (fun _ => true) held k 2 [c0] = some y0 := by simpa [Try.cellsInt] using hg 0 _ rfl
          have g1 : DataW.trod enc Try.prog w base (fun _ => true) held k 2 [c1] = some y1 := by simpa [Try.cellsInt] using hg 1 _ rfl
          have g2 : DataW.trod enc Try.prog w base (fun _ => true) held k 2 [c2] = some y2 := by simpa [Try.cellsInt] using hg 2 _ rfl
          have g3 : DataW.trod enc Try.prog w base (fun _ => true) held k 57 [c3] = some y3 := by simpa [Try.cellsInts] using hg 3 _ rfl
          have g4 : DataW.trod enc Try.prog w base (fun _ => true) held k 58 [c4] = some y4 := by simpa [Try.cellsEnts] using hg 4 _ rfl
          have e0 := hcell 0 (by omega)
          have e1 := hcell 1 (by omega)
          have e2 := hcell 2 (by omega)
          have e3 := hcell 3 (by omega)
          have e4 := hcell 4 (by omega)
          rw [add_add] at e0 e1 e2 e3 e4
          obtain ⟨z0, hz0, _⟩ := DataW.trod_int Try.underlying2 g0
          obtain ⟨z1, hz1, _⟩ := DataW.trod_int Try.underlying2 g1
          obtain ⟨z2, hz2, _⟩ := DataW.trod_int Try.underlying2 g2
          simp only [List.cons.injEq, and_true] at hz0 hz1 hz2
          subst hz0 hz1 hz2
          obtain ⟨bs, hbs⟩ := open_Ints Try.underlying57 Try.underlying2 Try.cellsInt g3
          obtain ⟨es, hes⟩ := open_Ents Try.underlying58 Try.underlying100 Try.cellsEnt rfl rfl Try.cellsStr Try.cellsInt Try.underlying9 Try.underlying2 g4
          exact ⟨(z0, z1, z2, bs, es), c3, c4, by simpa using e0, by simpa using e1, by simpa using e2, by simpa using e3, by simpa using e4, ⟨rfl, rfl, rfl, open_cap Try.underlying57 g3⟩, hbs, hes⟩
      obtain ⟨q, hq⟩ := choose_lt each
      obtain ⟨_, _, hq0, _⟩ := hq 0 (by omega)
      have ha := addr_of (by simpa using hq0)
      refine ⟨(List.range len).map q, some a, cap, ?_, ?_, fun k hk => ?_⟩
      · simp only [List.length_map, List.length_range]; exact hcs
      · simp only [List.length_map, List.length_range]
        exact ⟨by omega, by omega⟩
      · simp only [List.length_map, List.length_range] at hk
        obtain ⟨vB, vE, e0, e1, e2, e3, e4, hR⟩ := hq k (by omega)
        rw [ha, add_plain] at e0 e1 e2 e3 e4
        have hg : ((List.range len).map q)[k]?.getD id0 = q k := by simp [hk]
        rw [hg]
        exact ⟨a.block, a.off, by rw [← ha], InoAt.mk' e0 e1 e2 e3 e4 hR⟩
end Go.Proofs.Ytfdgfhcljjdcfaa

namespace Go.Proofs.Ytfdgfhcljjdcfaa
open Go.ChangeShapes Go.WideShapes Go.ChangeAt Go.RowKit Go.Joins Go.Deep
set_option maxRecDepth 100000

theorem Try.cellsByteF : Try.prog.cellsOf 5 = 1 := by kernel_rfl
theorem Try.cellsBytF : Try.prog.cellsOf 62 = 1 := by kernel_rfl
theorem Try.cellsBytsF : Try.prog.cellsOf 23 = 1 := by kernel_rfl
theorem Try.cellsInosF : Try.prog.cellsOf 22 = 1 := by kernel_rfl
theorem Try.cellsFsF : Try.prog.cellsOf 25 = 2 := by kernel_rfl
theorem open_Byt {H : Type} {enc : TypeId × Value → H} {P : Program} {w : World} {base : Nat} {held : Bool} {t e : TypeId} {fuel : Nat} {v : Value} {x : DataW H × List MemPlace} (ht : P.underlying t = some (.slice e)) (he : P.underlying e = some (.int .u8)) (ce : P.cellsOf e = 1) (h : DataW.trod enc P w base (fun _ => true) held fuel t [v] = some x) :
    ∃ zs, Byt w v zs := by
  rcases open_slice1 ht ce h with ⟨hcs, _⟩ | ⟨a, len, cap, m, n, V, D, Pl, hcs, _, hl, hm, hmm, _, hx⟩
  · simp only [List.cons.injEq, and_true] at hcs
    exact ⟨[], by rw [hcs]; exact Byt.nil w none 0⟩
  · simp only [List.cons.injEq, and_true] at hcs
    simp only [if_true] at hmm
    by_cases h0 : len = 0
    · subst h0; exact ⟨[], by rw [hcs]; exact Byt.nil w (some a) cap⟩
    · have ha := addr_of (hx 0 (by omega)).1
      obtain ⟨Z, hZ⟩ := choose_lt (α := UInt8) (n := m) (p := fun i b => V i = .int .u8 ((b.toNat : Nat) : Int)) fun i hi => by
        obtain ⟨z, h1, _, hw⟩ := DataW.trod_int he (hx i hi).2
        have hz0 : IntKind.u8.min ≤ z ∧ z ≤ IntKind.u8.max := by simpa [Lit.wf] using hw
        have hz : 0 ≤ z ∧ z ≤ 255 := hz0
        refine ⟨UInt8.ofNat z.toNat, ?_⟩
        simp only [List.cons.injEq, and_true] at h1
        rw [h1]
        congr 1
        have : (UInt8.ofNat z.toNat).toNat = z.toNat := by simp; omega
        rw [this]; omega
      refine ⟨(List.range len).map Z, some a, cap, ?_, ?_, fun k hk => ?_⟩
      · simp only [List.length_map, List.length_range]; exact hcs
      · simp only [List.length_map, List.length_range]; exact ⟨by omega, by omega⟩
      · simp only [List.length_map, List.length_range] at hk
        have h1 := (hx k (by omega)).1
        rw [ha, add_plain] at h1
        refine ⟨a.block, a.off, by rw [← ha], ?_⟩
        rw [h1, hZ k (by omega)]
        simp [hk]
theorem open_Byts {H : Type} {enc : TypeId × Value → H} {P : Program} {w : World} {base : Nat} {held : Bool} {t e q : TypeId} {fuel : Nat} {v : Value} {x : DataW H × List MemPlace} (ht : P.underlying t = some (.slice e)) (he : P.underlying e = some (.slice q)) (hq : P.underlying q = some (.int .u8)) (ce : P.cellsOf e = 1) (cq : P.cellsOf q = 1)
    (h : DataW.trod enc P w base (fun _ => true) held fuel t [v] = some x) : ∃ zss, Byts w v zss := by
  rcases open_slice1 ht ce h with ⟨hcs, _⟩ | ⟨a, len, cap, m, n, V, D, Pl, hcs, _, hl, hm, hmm, _, hx⟩
  · simp only [List.cons.injEq, and_true] at hcs
    exact ⟨[], by rw [hcs]; exact Byts.nil w none 0⟩
  · simp only [List.cons.injEq, and_true] at hcs
    simp only [if_true] at hmm
    by_cases h0 : len = 0
    · subst h0; exact ⟨[], by rw [hcs]; exact Byts.nil w (some a) cap⟩
    · have ha := addr_of (hx 0 (by omega)).1
      obtain ⟨Z, hZ⟩ := choose_lt (α := List UInt8) (n := m) (p := fun i zs => Byt w (V i) zs) fun i hi => open_Byt he hq cq (hx i hi).2
      refine ⟨(List.range len).map Z, some a, cap, ?_, ?_, fun k hk => ?_⟩
      · simp only [List.length_map, List.length_range]; exact hcs
      · simp only [List.length_map, List.length_range]; exact ⟨by omega, by omega⟩
      · simp only [List.length_map, List.length_range] at hk
        have h1 := (hx k (by omega)).1
        rw [ha, add_plain] at h1
        have hg : ((List.range len).map Z)[k]?.getD [] = Z k := by simp [hk]
        rw [hg]
        obtain ⟨ua, uc, e1, e2, e3⟩ := hZ k (by omega)
        rw [e1] at h1
        exact ⟨a.block, a.off, ua, uc, by rw [← ha], h1, ua, uc, rfl, e2, e3⟩
theorem open_FsU {H : Type} {enc : TypeId × Value → H} {W : World} {r : Reach} {b0 : Nat} {v : Value} {d : DataW H} {p : List MemPlace} (hv : Value.okWide Try.prog W r b0 25 v) (h : DataW.Trod enc Try.prog W 0 (fun _ => true) true 25 v d p) :
    ∃ v0 v1 fd, v = .agg #[v0, v1] ∧ FsR W v0 v1 fd := by
  obtain ⟨cs, rfl, hsz⟩ := okWide_struct Try.underlying25 hv
  obtain ⟨c0, c1, rfl⟩ := array2 (hsz.trans Try.cellsFsF)
  obtain ⟨fuel, hf⟩ := h
  obtain ⟨xs, k, hk, hxy, _, hxl, hg⟩ := DataW.trod_struct Try.underlying25 hf
  match xs, hxl with
  | [y0, y1], _ =>
    have g0 : DataW.trod enc Try.prog W 0 (fun _ => true) true k 22 [c0] = some y0 := by simpa [Value.cells, Try.cellsInosF] using hg 0 _ rfl
    have g1 : DataW.trod enc Try.prog W 0 (fun _ => true) true k 23 [c1] = some y1 := by simpa [Value.cells, Try.cellsBytsF] using hg 1 _ rfl
    obtain ⟨ds, hds⟩ := open_Inos g0
    obtain ⟨zss, hz⟩ := open_Byts Try.underlying23 Try.underlying62 Try.underlying5 Try.cellsBytF Try.cellsByteF g1
    exact ⟨c0, c1, (ds, zss), rfl, hds, hz⟩
end Go.Proofs.Ytfdgfhcljjdcfaa
