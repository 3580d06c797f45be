/- The puts of a file system's inodes: the specification. The puts of a file system's inodes: the specification's answer; the program's parts. Answers that are puts: held against one another, marked, held. InodePuts, both sides. FormatDisk, both sides. -/
import Derived.Test.YtlacppjlclfpmaaGreatM16
import Derived.Test.YtlacppjlclfpmaaGreatM09
import Derived.Test.YtlacppjlclfpmaaGreatM05
import Derived.Test.YtlacppjlclfpmaaGreatM15
import Derived.Test.YtlacppjlclfpmaaGreatM11
import Derived.Test.YtlacppjlclfpmaaGreatM07
import Derived.Test.YtlacppjlclfpmaaGreatM14
import Derived.Test.YtlacppjlclfpmaaGreatM02
namespace Go.Proofs.YtlacppjlclfpmaaGreat
open Go.RowKit
set_option maxRecDepth 100000

def inoW (ds : List ID) (i : Nat) : List Int := if i < ds.length then packL (ds[i]?.getD id0) else []
def inoPuts (ds : List ID) : List (Int × List Int) := (List.range 10).map fun i : Nat => (17 + (i : Int), inoW ds i)
theorem inoPuts_get (ds : List ID) {i : Nat} (hi : i < 10) : (inoPuts ds)[i]?.getD (0, []) = (17 + (i : Int), inoW ds i) := by
  unfold inoPuts
  rw [List.getElem?_map, List.getElem?_range hi]
  rfl
theorem inoPuts_len (ds : List ID) : (inoPuts ds).length = 10 := by simp [inoPuts]
/-- What 'append' of one put comes to. -/
theorem append_putG (w w1 : World) (base n : Nat) (v : Value) (x : Nat → Int × List Int) (u : Nat → List Value) (G : Nat → Nat → Prop) (h : GRow PutP w base 71 2 v n x u G) (hb : base ≤ w.heap.size) (hn : n ≤ 1048600) (hb1 : Below w.heap.size w w1)
    (at_ : Int) (a : Option Addr) (m c : Nat) (ws : List Int) (hx : x n = (at_, ws)) (F : Nat → Prop) (hF : ∀ c, F c → w.heap.size ≤ c ∧ c < w1.heap.size) (hm : m = ws.length) (hf : IntsO w1 (.slice a m c) ws F) (B : Nat) (hB : w1.heap.size = B) :
    ∃ g cap X u' G', (Builtin.append_ #[31, 31] 31 #[v, .slice (some ⟨B, 0, none⟩) 1 1]).run Tryz.prog (w1.alloc (.cells #[.int .i64 at_, .slice a m c] 71)) = .ok (.slice (some ⟨g, 0, none⟩) (n + 1) cap) X ∧
      Below base w X ∧ w1.heap.size < X.heap.size ∧ GRow PutP X base 71 2 (.slice (some ⟨g, 0, none⟩) (n + 1) cap) (n + 1) x u' G' ∧ (∀ b, b < w1.heap.size → v.ownBlock ≠ some b → X.heap[b]? = w1.heap[b]? ∧ g ≠ b) := by
  subst hm
  subst hB
  obtain ⟨i, hi, i1, i2, i3⟩ := Tryz.infoPut'
  exact GRow.append PutP.steady w w1 31 31 71 i _ 2 32 Tryz.underlying31 hi i1 i2 i3 rfl (by decide) (by decide) base n v x u G h hb hn hb1 [.int .i64 at_, .slice a ws.length c] rfl (fun y hy => by
    simp only [List.mem_cons, List.not_mem_nil, or_false] at hy
    rcases hy with rfl | rfl <;> rfl) F hF ⟨a, c, by rw [hx], by rw [hx]; exact hf⟩

end Go.Proofs.YtlacppjlclfpmaaGreat

namespace Go.Proofs.YtlacppjlclfpmaaGreat
open Go.RowKit
set_option maxRecDepth 100000

def inoPutsR (d : FD) : Int × List (Int × List Int) := if fsF d = 0 then (0, inoPuts d.1) else (fsF d, [])
/-- The numbers from 0 on. -/
def tens (k : Nat) : List Int := (List.range k).map fun i : Nat => (i : Int)
theorem tens_len (k : Nat) : (tens k).length = k := by simp [tens]
theorem tens_succ (k : Nat) : tens (k + 1) = tens k ++ [(k : Int)] := by unfold tens; rw [List.range_succ, List.map_append]; rfl
theorem tens_get {k i : Nat} (h : i < k) : (tens k)[i]?.getD 0 = (i : Int) := by unfold tens; rw [List.getElem?_map, List.getElem?_range h]; rfl

set_option maxHeartbeats 3200000 in
theorem inodePlaces_any (w : World) :
    Calls Tryz.prog 49 #[] w fun e w' => ∃ v, e = .returned v ∧ Below w.heap.size w w' ∧ Wds w' w.heap.size v (tens 10) := by
  go_enter Tryz.func49, Tryz.ntmps49
  go_wp2
  go_loopw [1, 3] (fun q i wr => ∃ j : Nat, j ≤ 10 ∧ i = .int .i64 j ∧ Below w.heap.size w wr ∧ Wds wr w.heap.size q (tens j)) (fun _ i _ => 10 - (intOf i).toNat)
  case atStart => exact ⟨0, Nat.zero_le _, rfl, Below.refl _ _, World.ownsRow_nil _ _ _ _⟩
  case round =>
    obtain ⟨j, hj, rfl, hbl, hw⟩ := hrel
    have HBL : Hid (Below w.heap.size w wr) := hbl
    have HW : Hid (Wds wr w.heap.size _ (tens j)) := hw
    by_cases hlt : j < 10
    · obtain ⟨a', c', X, hr, hx, hb, _⟩ := append_w1 wr w.heap.size _ (tens j) (j : Int) hw hbl.size (by rw [tens_len]; omega)
      rw [← tens_succ] at hr hx
      have HR : Hid (_ = _) := hr
      have HX : Hid (Wds X w.heap.size _ (tens (j + 1))) := hx
      have HB : Hid (Below w.heap.size w X) := hbl.trans hb
      clear hr hx hb hbl hw HW
      go_wp2_with (at_builtin; refine wpList_append_run rfl _ _ 55 rfl _ _ rfl rfl _ _ HR.out ?_)
      go_roundw
      case rel => exact ⟨j + 1, by omega, by go_num, HB.out, HX.out⟩
      case measure => simp [intOf]; omega
    · have e : j = 10 := by omega
      subst e
      clear hbl hw
      go_wp2
      go_ret
      exact ⟨_, rfl, HBL.out, HW.out⟩
end Go.Proofs.YtlacppjlclfpmaaGreat

namespace Go.Proofs.YtlacppjlclfpmaaGreat
open Go.RowKit
set_option maxRecDepth 100000

def spanPs (ps : List (Int × List Int)) : Nat := ps.length + (wlens ps).sum
def mkPs (k : Int) (ps : List (Int × List Int)) : List (Int × List Int) := marksP k (wlens ps)
end Go.Proofs.YtlacppjlclfpmaaGreat

namespace Go.Proofs.YtlacppjlclfpmaaGreat
open Go.RowKit
set_option maxRecDepth 100000

theorem field_inl (z : Int) (a : Option Addr) (n c : Nat) (w : World) : (Instr.field 112 (.agg #[.int .i64 z, .slice a n c]) 1).run Tryz.prog w = .ok (.slice a n c) w := by kernel_rfl
theorem packL_most (d : ID) : (packL d).length ≤ 4 + 2 * sizeIno d := by
  have h1 := entsW_len d.2.2.2.2
  have hd : sizeIno d = d.2.2.2.1.length + sizeN d.2.2.2.2 := rfl
  unfold packL
  rw [hd]
  by_cases h : d.1 = 2
  · rw [if_pos h]
    simp only [List.length_append, List.length_cons, List.length_nil]
    omega
  · rw [if_neg h]
    simp only [List.length_append, List.length_cons, List.length_nil]
    omega
theorem inoW_len {ds : List ID} (hs : sizeInos ds ≤ 1048576) (i : Nat) : (inoW ds i).length ≤ 2097156 := by
  unfold inoW
  by_cases h : i < ds.length
  · rw [if_pos h]
    have h1 := packL_most (ds[i]?.getD id0)
    have h2 := isz_le ds i
    unfold sizeInos at hs
    omega
  · rw [if_neg h]; simp
theorem inoPutsR_span (d : FD) (hs : sizeFs d ≤ 1048576) : spanPs (inoPutsR d).2 ≤ 30000000 := by
  have hsi : sizeInos d.1 ≤ 1048576 := by unfold sizeFs at hs; omega
  unfold inoPutsR
  by_cases h : fsF d = 0
  · rw [if_pos h]
    have h0 := inoW_len hsi 0
    have h1 := inoW_len hsi 1
    have h2 := inoW_len hsi 2
    have h3 := inoW_len hsi 3
    have h4 := inoW_len hsi 4
    have h5 := inoW_len hsi 5
    have h6 := inoW_len hsi 6
    have h7 := inoW_len hsi 7
    have h8 := inoW_len hsi 8
    have h9 := inoW_len hsi 9
    show spanPs (inoPuts d.1) ≤ 30000000
    simp only [spanPs, inoPuts, wlens, List.range, List.range.loop, List.map_cons, List.map_nil, List.length_cons, List.length_nil, List.sum_cons, List.sum_nil]
    omega
  · rw [if_neg h]
    simp [spanPs, wlens]

set_option maxHeartbeats 3200000 in
theorem inodeWords_any (w : World) (a1 : Option Addr) (n1 c1 : Nat) (a2 : Option Addr) (n2 c2 : Nat) (d : FD) (j : Nat) (h : FsR w (.slice a1 n1 c1) (.slice a2 n2 c2) d) (hs : sizeFs d ≤ 1048576) (hi : insF d.1 = 0) :
    Calls Tryz.prog 50 #[.agg #[.slice a1 n1 c1, .slice a2 n2 c2], .int .i64 (j : Int)] w fun e w' => ∃ a n c, e = .returned (.slice a n c) ∧ Below w.heap.size w w' ∧ IntsO w' (.slice a n c) (inoW d.1 j) (fresh w w') := by
  have hsi : sizeInos d.1 ≤ 1048576 := by unfold sizeFs at hs; omega
  have hss : (isz d.1).sum ≤ 1048576 ∧ d.1.length ≤ 1048576 := by unfold sizeInos at hsi; omega
  obtain ⟨_, _, e2, _, hc⟩ := h.1.open'
  simp only [Value.slice.injEq] at e2
  obtain ⟨rfl, rfl, rfl⟩ := e2
  have HB0 : Hid (Below w.heap.size w (w.alloc (.cells #[.slice a1 d.1.length c1, .slice a2 n2 c2] 27))) := later1 _ _
  have HX : Hid (Bx (w.alloc (.cells #[.slice a1 d.1.length c1, .slice a2 n2 c2] 27)) w.heap.size [.slice a1 d.1.length c1, .slice a2 n2 c2]) := Bx.new w [.slice a1 d.1.length c1, .slice a2 n2 c2] _
  have x0 := HX.out 0 _ rfl
  have x1 := HX.out 1 _ rfl
  have HQ : Hid (∀ W, Calls Tryz.prog 71 #[.agg #[.slice a1 d.1.length c1, .slice a2 n2 c2], .int .i64 (j : Int)] W fun e w' => e = .returned (.bool (decide (0 ≤ (j : Int) ∧ (j : Int) < (d.1.length : Int)))) ∧ Below W.heap.size W w') := fun W => isInode_any W _ _ _ _ _ _ _
  by_cases hj : j < d.1.length
  · have hd : decide (0 ≤ (j : Int) ∧ (j : Int) < (d.1.length : Int)) = true := by simp; omega
    rw [hd] at HQ
    obtain ⟨b1, o1, rfl, hI⟩ := hc j hj
    have HI : Hid (InoAt w b1 (o1 + j * 5) (d.1[j]?.getD id0)) := hI
    have hir := ins_ino hi j hj
    have HPK : Hid (∀ W aB nB cB aE nE cE, InoR W (.int .i64 (d.1[j]?.getD id0).1) (.int .i64 (d.1[j]?.getD id0).2.1) (.int .i64 (d.1[j]?.getD id0).2.2.1) (.slice aB nB cB) (.slice aE nE cE) (d.1[j]?.getD id0) → Calls Tryz.prog 72 #[.agg #[.int .i64 (d.1[j]?.getD id0).1, .int .i64 (d.1[j]?.getD id0).2.1, .int .i64 (d.1[j]?.getD id0).2.2.1, .slice aB nB cB, .slice aE nE cE]] W (AnsIR W (0, inoW d.1 j))) := fun W aB nB cB aE nE cE hW => by
      have := implPackU W _ _ _ aB nB cB aE nE cE (d.1[j]?.getD id0) hW (by have := isz_le d.1 j; omega)
      have e1 : packR (d.1[j]?.getD id0) = (0, inoW d.1 j) := by unfold packR inoW; rw [if_pos hir, if_pos hj]
      rw [e1] at this
      exact this
    clear hd h hc hs hsi hss hir hi hI
    generalize inoW d.1 j = WS at *
    generalize d.1[j]?.getD id0 = X at *
    generalize d.1.length = n at *
    go_enter Tryz.func50, Tryz.ntmps50
    go_wp2_with fail
    refine (HQ.out _).mono ?_
    rintro e w1 ⟨rfl, hb⟩
    have HB1 : Hid (Below w.heap.size w w1) := HB0.out.trans (hb.mono HB0.out.size)
    have y0 := (HX.out.later hb) 0 _ rfl
    obtain ⟨aB, cB, aE, cE, k0, k1, k2, k3, k4, k5⟩ := HI.out.later HB1.out
    have HK : Hid (InoR w1 _ _ _ _ _ X) := k5
    clear hb k5 x0 x1
    generalize X.2.2.2.1.length = lB at *
    generalize X.2.2.2.2.length = lE at *
    go_wp2_with fail
    refine (HPK.out _ _ _ _ _ _ _ HK.out).mono ?_
    rintro e w2 ⟨a, m, c, rfl, hb, ho⟩
    have HB2 : Hid (Below w.heap.size w w2) := HB1.out.trans (hb.mono HB1.out.size)
    have HO : Hid (IntsO w2 (.slice a m c) WS (fresh w w2)) := ho.mono fun b hb' => ⟨Nat.le_trans HB1.out.size hb'.1, hb'.2⟩
    have fl := field_inl 0 a m c w2
    clear hb ho
    go_wp2
    go_ret
    exact ⟨a, m, c, rfl, HB2.out, HO.out⟩
  · have hd : decide (0 ≤ (j : Int) ∧ (j : Int) < (d.1.length : Int)) = false := by simp; omega
    rw [hd] at HQ
    have HE : Hid (inoW d.1 j = []) := by unfold Hid inoW; rw [if_neg hj]
    clear hd h hc hs hsi hss hi hj
    generalize inoW d.1 j = WS at *
    generalize d.1.length = n at *
    go_enter Tryz.func50, Tryz.ntmps50
    go_wp2_with fail
    refine (HQ.out _).mono ?_
    rintro e w1 ⟨rfl, hb⟩
    have HB1 : Hid (Below w.heap.size w w1) := HB0.out.trans (hb.mono HB0.out.size)
    clear hb
    go_wp2
    go_ret
    exact ⟨none, 0, 0, rfl, HB1.out, by rw [HE.out]; exact Or.inl ⟨rfl, _, _, rfl⟩⟩

set_option maxHeartbeats 3200000 in
theorem putsFromI_any (w : World) (first : Int) (a : Option Addr) (c : Nat) (zs : List Int) (fv : Value) (T : Int → List Int) (hz : Ints w (.slice a zs.length c) zs) (hl : zs.length ≤ 1048576) (h0 : 0 ≤ first ∧ first ≤ 1000) (hr : ∀ k, k < zs.length → 0 ≤ zs[k]?.getD 0 ∧ zs[k]?.getD 0 ≤ 1000)
    (hT : ∀ W, Below w.heap.size w W → ∀ k, k < zs.length → Calls Tryz.prog 50 #[fv, .int .i64 (zs[k]?.getD 0)] W fun e w' => ∃ a n c, e = .returned (.slice a n c) ∧ Below W.heap.size W w' ∧ IntsO w' (.slice a n c) (T (zs[k]?.getD 0)) (fresh W w')) :
    Calls Tryz.prog 48 #[.int .i64 first, .slice a zs.length c, .func (.func 50) #[fv] #[]] w fun e w' => ∃ a n c, e = .returned (.slice a n c) ∧ Below w.heap.size w w' ∧ PutsO w' (.slice a n c) (zs.map fun z => (first + z, T z)) (fresh w w') := by
  obtain ⟨_, _, e2, _, hat⟩ := hz.open'
  simp only [Value.slice.injEq] at e2
  obtain ⟨rfl, -, rfl⟩ := e2
  have HAT : Hid (At1 w a zs.length (fun k => .int .i64 (zs[k]?.getD 0))) := hat
  have HTT : Hid (∀ W, Below w.heap.size w W → ∀ k, k < zs.length → Calls Tryz.prog 50 #[fv, .int .i64 (zs[k]?.getD 0)] W _) := hT
  have HG : Hid (∀ k, k < zs.length → (zs.map fun z => (first + z, T z))[k]?.getD (0, []) = (first + zs[k]?.getD 0, T (zs[k]?.getD 0))) := fun k hk => by
    rw [List.getElem?_map, List.getElem?_eq_getElem hk]; rfl
  have HRG : Hid (∀ k, k < zs.length → 0 ≤ zs[k]?.getD 0 ∧ zs[k]?.getD 0 ≤ 1000) := hr
  have HL : Hid ((zs.map fun z => (first + z, T z)).length = zs.length) := by unfold Hid; simp
  obtain ⟨h1, h2⟩ := h0
  clear hT hat hz hr
  generalize (zs.map fun z => (first + z, T z)) = PS at *
  generalize hn : zs.length = n at *
  clear hn
  go_enter Tryz.func48, Tryz.ntmps48
  go_wp2
  go_loopw [7, 12] (fun q i wr => ∃ (j : Nat) (u : Nat → List Value) (G : Nat → Nat → Prop), j ≤ n ∧ i = .int .i64 j ∧ Below w.heap.size w wr ∧ GRow PutP wr w.heap.size 71 2 q j (fun k => PS[k]?.getD (0, [])) u G) (fun _ i _ => n - (intOf i).toNat)
  case atStart => exact ⟨0, _, _, Nat.zero_le _, rfl, Below.refl _ _, GRow.nil w _ _ _ _⟩
  case round =>
    obtain ⟨j, u, G, hj, rfl, hbl, hrow⟩ := hrel
    obtain ⟨aQ, cQ, rfl⟩ := hrow.shape
    have HBL : Hid (Below w.heap.size w wr) := hbl
    have HRW : Hid (GRow PutP wr w.heap.size 71 2 (.slice aQ j cQ) j (fun k => PS[k]?.getD (0, [])) u G) := hrow
    clear hrow
    by_cases hlt : j < n
    · have HGJ : Hid (PS[j]?.getD (0, []) = (first + zs[j]?.getD 0, T (zs[j]?.getD 0))) := HG.out j hlt
      obtain ⟨q1, q2⟩ := HRG.out j hlt
      have HTJ := HTT.out wr hbl j hlt
      have HTJ' : Hid (Calls Tryz.prog 50 #[fv, .int .i64 (zs[j]?.getD 0)] wr _) := HTJ
      obtain ⟨b, off, rfl, k0⟩ := HAT.out j hlt
      replace k0 : wr.cell? ⟨b, off + j, none⟩ = some (.int .i64 (zs[j]?.getD 0)) := cell_later hbl k0
      clear HTJ hbl
      generalize zs[j]?.getD 0 = z at *
      go_wp2_with fail
      refine HTJ'.out.mono ?_
      rintro e w1 ⟨av, m, cv, rfl, hb1, ho⟩
      obtain ⟨_, _, ev, _⟩ := ho.reads.shape
      simp only [Value.slice.injEq] at ev
      obtain ⟨-, hm, -⟩ := ev
      obtain ⟨g, cap, X, u', G', hr, hbx, _, hgx, -⟩ := append_putG wr w1 w.heap.size j _ _ u G HRW.out HBL.out.size (by omega) hb1 (first + z) av m cv (T z) HGJ.out (fresh wr w1) (fun c hc => hc) hm ho w1.heap.size rfl
      have HR : Hid (_ = _) := hr
      have HBX : Hid (Below w.heap.size w X) := (HBL.out.trans hbx)
      have HGX : Hid (GRow PutP X w.heap.size 71 2 _ (j + 1) (fun k => PS[k]?.getD (0, [])) u' G') := hgx
      clear hr hbx hgx hb1 ho HRW HGJ HTJ' hm
      go_wp2_with (at_builtin; refine wpList_append_run rfl _ _ 31 rfl _ _ rfl rfl _ _ HR.out ?_)
      go_roundw
      case rel => exact ⟨j + 1, _, _, by omega, by go_num, HBX.out, HGX.out⟩
      case measure => simp [intOf]; omega
    · have e : j = n := by omega
      subst e
      have HF : Hid (PutsO wr (.slice aQ j cQ) PS (fresh w wr)) := HRW.out.puts HL.out _ fun c h1 h2 => ⟨h1, h2⟩
      clear HRW HAT HG HTT hbl
      go_wp2
      go_ret
      exact ⟨_, _, _, rfl, HBL.out, HF.out⟩

set_option maxHeartbeats 3200000 in
theorem implInoPutsU (w : World) (a1 : Option Addr) (n1 c1 : Nat) (a2 : Option Addr) (n2 c2 : Nat) (d : FD) (h : FsR w (.slice a1 n1 c1) (.slice a2 n2 c2) d) (hs : sizeFs d ≤ 1048576) :
    Calls Tryz.prog 26 #[.agg #[.slice a1 n1 c1, .slice a2 n2 c2]] w (AnsPR w (inoPutsR d)) := by
  have hsi : sizeInos d.1 ≤ 1048576 := by unfold sizeFs at hs; omega
  have HF : Hid (∀ W, Below w.heap.size w W → Calls Tryz.prog 29 #[.agg #[.slice a1 n1 c1, .slice a2 n2 c2]] W fun e w' => e = .returned (.int .i64 (fsF d)) ∧ Below W.heap.size W w') := fun W hW => implFsU W _ _ _ _ _ _ d (h.later hW) hs
  have HU : Hid (fsF d = 0 → ∀ W ap cp, Below w.heap.size w W → Ints W (.slice ap 10 cp) (tens 10) → Calls Tryz.prog 48 #[.int .i64 17, .slice ap 10 cp, .func (.func 50) #[.agg #[.slice a1 n1 c1, .slice a2 n2 c2]] #[]] W fun e w' => ∃ a n c, e = .returned (.slice a n c) ∧ Below W.heap.size W w' ∧ PutsO w' (.slice a n c) (inoPuts d.1) (fresh W w')) := fun hf W ap cp hW hi => by
    have hin : insF d.1 = 0 := (fsE_zero (fsF_zero hf)).1
    have e1 : (tens 10).map (fun z => ((17 : Int) + z, inoW d.1 z.toNat)) = inoPuts d.1 := rfl
    have := putsFromI_any W 17 ap cp (tens 10) (.agg #[.slice a1 n1 c1, .slice a2 n2 c2]) (fun z => inoW d.1 z.toNat) hi (by rw [tens_len]; omega) (by omega) (fun k hk => by rw [tens_len] at hk; rw [tens_get hk]; omega) (fun V hV k hk => by
      rw [tens_len] at hk
      rw [tens_get hk, Int.toNat_natCast]
      exact inodeWords_any V _ _ _ _ _ _ d k (h.later (hW.trans (hV.mono hW.size))) hs hin)
    rw [e1] at this
    exact this
  have HPL : Hid (∀ W, Calls Tryz.prog 49 #[] W fun e w' => ∃ v, e = .returned v ∧ Below W.heap.size W w' ∧ Wds w' W.heap.size v (tens 10)) := inodePlaces_any
  have HRA : Hid (fsF d = 0 → inoPutsR d = (0, inoPuts d.1)) := fun h1 => by unfold inoPutsR; rw [if_pos h1]
  have HRC : Hid (¬ fsF d = 0 → inoPutsR d = (fsF d, [])) := fun h1 => by unfold inoPutsR; rw [if_neg h1]
  clear h hs hsi
  generalize inoPuts d.1 = PS at *
  generalize fsF d = r at *
  generalize inoPutsR d = RES at *
  have HB0 : Hid (Below w.heap.size w ((w.alloc (.cells #[.slice a1 n1 c1, .slice a2 n2 c2] 27)).alloc (.cells #[.int .i64 0, .slice none 0 0] 68))) := later2 _ _ _
  have HX0 : Hid (Bx ((w.alloc (.cells #[.slice a1 n1 c1, .slice a2 n2 c2] 27)).alloc (.cells #[.int .i64 0, .slice none 0 0] 68)) (w.heap.size) [.slice a1 n1 c1, .slice a2 n2 c2]) := (Bx.new w [.slice a1 n1 c1, .slice a2 n2 c2] _).later (later1 _ _)
  have HR0 : Hid (OwnRow ((w.alloc (.cells #[.slice a1 n1 c1, .slice a2 n2 c2] 27)).alloc (.cells #[.int .i64 0, .slice none 0 0] 68)) (w.heap.size + 1) 2 (cel [.int .i64 0, .slice none 0 0])) := (show OwnRow ((w.alloc (.cells #[.slice a1 n1 c1, .slice a2 n2 c2] 27)).alloc (.cells #[.int .i64 0, .slice none 0 0] 68)) (w.heap.size + 1) 2 (cel [.int .i64 0, .slice none 0 0]) from by have := newCel (w.alloc (.cells #[.slice a1 n1 c1, .slice a2 n2 c2] 27)) [.int .i64 0, .slice none 0 0] 68; rw [World.size_alloc] at this; exact this)
  go_enter Tryz.func26, Tryz.ntmps26
  have xHX0 := HX0.out 0 _ rfl
  have xHX1 := HX0.out 1 _ rfl
  go_wp2_with fail
  clear xHX0 xHX1
  refine (HF.out _ HB0.out).mono ?_
  rintro e w1 ⟨rfl, hb⟩
  have HB1 : Hid (Below w.heap.size w w1) := HB0.out.trans (hb.mono HB0.out.size)
  have HX1 : Hid (Bx w1 (w.heap.size) [.slice a1 n1 c1, .slice a2 n2 c2]) := HX0.out.later hb
  have HR1 : Hid (OwnRow w1 (w.heap.size + 1) 2 (cel [.int .i64 0, .slice none 0 0])) := HR0.out.later hb
  clear hb
  by_cases hf : r = 0
  · skip
    have hfb : (r != 0) = false := by simpa using hf
    have HE : Hid (RES = (0, PS)) := HRA.out hf
    have HU2 : Hid (∀ W ap cp, Below w.heap.size w W → Ints W (.slice ap 10 cp) (tens 10) → Calls Tryz.prog 48 #[.int .i64 17, .slice ap 10 cp, .func (.func 50) #[.agg #[.slice a1 n1 c1, .slice a2 n2 c2]] #[]] W _) := HU.out hf
    have xHX0 := HX1.out 0 _ rfl
    have xHX1 := HX1.out 1 _ rfl
    go_wp2_with fail
    go_region_with (first
      | (go_at_call 49; refine (HPL.out _).mono ?_; rintro e w2 ⟨v, rfl, hb, hw⟩; obtain ⟨ap, cp, rfl⟩ := hw.shape; rw [tens_len] at hw ⊢
         have HT2 : Hid (Below w1.heap.size w1 w2) := (Below.refl _ _).drew.trans hb
         have HW2 : Hid (Ints w2 (.slice ap 10 cp) (tens 10)) := (hw.own' (w0 := w1.drew) (Nat.le_refl _)).reads
         have y0 := (HX1.out.later HT2.out) 0 _ rfl
         have y1 := (HX1.out.later HT2.out) 1 _ rfl
         clear hb hw)
      | (go_at_call 48; refine (HU2.out _ _ _ (HB1.out.trans (HT2.out.mono HB1.out.size)) HW2.out).mono ?_; rintro e w3 ⟨av, nv, cv, rfl, hb, ho⟩
         have HT3 : Hid (Below w1.heap.size w1 w3) := HT2.out.trans (hb.mono HT2.out.size)
         have HO3 : Hid (PutsO w3 (.slice av nv cv) PS (fun b => w1.heap.size ≤ b ∧ b < w3.heap.size)) := ho.mono fun b hb' => ⟨Nat.le_trans HT2.out.size hb'.1, hb'.2⟩
         have hrr := HR1.out.later HT3.out
         have t0 : w3.cell? ⟨w.heap.size + 1, 0, none⟩ = some (.int .i64 0) := hrr.cell (i := 0) (by omega)
         have t1 : w3.cell? ⟨w.heap.size + 1, 1, none⟩ = some (.slice none 0 0) := hrr.cell (i := 1) (by omega)
         have f0 := hrr.frozen 0
         have f1 := hrr.frozen 1
         clear hb ho hrr))
    all_goals
      have hlt := HR1.out.lt
      go_wp2
      exact bodyPost_ret (v := .agg #[.int .i64 0, .slice av nv cv]) (by simp [results, Tryz.results26, go_sem, t0, t1]) rfl (by rw [HE.out]; exact AnsPR.putB (HB1.out.trans (HT3.out.mono HB1.out.size)) (by omega) (HO3.out.mono fun b hb' => ⟨by have := hb'.1; omega, hb'.2⟩) _ _)
  · skip
    have hbb : (r != 0) = true := by simpa using hf
    have HE : Hid (RES = (r, [])) := HRC.out hf
    have hrr := HR1.out
    have t0 : w1.cell? ⟨w.heap.size + 1, 0, none⟩ = some (.int .i64 0) := hrr.cell (i := 0) (by omega)
    have t1 : w1.cell? ⟨w.heap.size + 1, 1, none⟩ = some (.slice none 0 0) := hrr.cell (i := 1) (by omega)
    have f0 := hrr.frozen 0
    have f1 := hrr.frozen 1
    have hlr := hrr.lt
    clear hrr
    go_wp2
    exact bodyPost_ret (v := .agg #[.int .i64 r, .slice none 0 0]) (by simp [results, Tryz.results26, go_sem, t0, t1]) rfl (by rw [HE.out]; exact AnsPR.badB r HB1.out (by omega) _ _)

end Go.Proofs.YtlacppjlclfpmaaGreat

namespace Go.Proofs.YtlacppjlclfpmaaGreat
open Go.RowKit
set_option maxRecDepth 100000

def fmt1 (seq : Int) : List (List Int) := (List.replicate 47 []).set 0 [7, seq]
def fmtB (seq : Int) : List (List Int) := (fmt1 seq).set 17 [2, 0, 0, 0]
def formR (seq : Int) : Int × DK := if seqB seq = true then (0, fmtB seq, []) else (3, [], [])
theorem fmt1_len (s : Int) : (fmt1 s).length = 47 := by simp [fmt1]
theorem fmtB_len (s : Int) : (fmtB s).length = 47 := by simp [fmtB, fmt1]
theorem packL_dir : packL dir0 = [2, 0, 0, 0] := rfl
/-- The blocks behind the first j inodes. -/
def fmtK (s : Int) (j : Nat) : List (List Int) := if j = 0 then fmt1 s else fmtB s
theorem fmtK_len (s : Int) (j : Nat) : (fmtK s j).length = 47 := by unfold fmtK; split; exact fmt1_len s; exact fmtB_len s
theorem set_same {α : Type} {l : List α} {i : Nat} {x : α} (h : l[i]? = some x) : l.set i x = l := by
  apply List.ext_getElem?
  intro k
  rw [List.getElem?_set]
  by_cases e : i = k
  · subst e
    have hl := (List.getElem?_eq_some_iff.1 h).1
    rw [if_pos rfl, if_pos hl, h]
  · rw [if_neg e]
theorem fmtK_next (s : Int) (j : Nat) (hj : j < 10) : (fmtK s j).set (17 + j) (inoW [dir0] j) = fmtK s (j + 1) := by
  unfold fmtK
  rw [if_neg (show ¬ j + 1 = 0 by omega)]
  by_cases h : j = 0
  · subst h
    rw [if_pos rfl]
    rfl
  · rw [if_neg h]
    have e : inoW [dir0] j = [] := by unfold inoW; rw [if_neg (by simp; omega)]
    rw [e]
    refine set_same ?_
    unfold fmtB fmt1
    rw [List.getElem?_set_ne (by omega), List.getElem?_set_ne (by omega), List.getElem?_replicate, if_pos (by omega)]
theorem newFd_zero : fsF (newFd []) = 0 := by decide +kernel
theorem inoPuts_new : inoPutsR (newFd []) = (0, inoPuts [dir0]) := by unfold inoPutsR; rw [if_pos newFd_zero]; rfl
theorem newFR_nil : newFR [] = (0, newFd []) := by unfold newFR; rw [if_pos newFd_zero]
theorem superWords_any (w : World) (s : Int) : Calls Tryz.prog 25 #[.int .i64 s] w fun e w' => ∃ a n c, e = .returned (.slice a n c) ∧ Below w.heap.size w w' ∧ IntsO w' (.slice a n c) [7, s] (fresh w w') := by
  go_enter Tryz.func25, Tryz.ntmps25
  go_wp2
  go_ret
  have hr := OwnRow.newS w (.int .i64 7) (.int .i64 s) 2
  refine ⟨_, _, _, rfl, later1 _ _, Or.inr ⟨w.heap.size, 2, ⟨Nat.le_refl _, hr.lt⟩, rfl, by unfold maxLen; simp, hr.congr fun i hi => ?_⟩⟩
  rcases (show i = 0 ∨ i = 1 by have hi' : i < 2 := hi; omega) with rfl | rfl <;> rfl
theorem ans_fmt {w W : World} {b rb : Nat} {s : Int} {F : Nat → Prop} (hB : Below w.heap.size w W) (hrb : w.heap.size ≤ rb) (hI : IntsSO W (.slice (some ⟨b, 0, none⟩) 47 47) (fmtB s) F) (hF : ∀ c, F c → w.heap.size ≤ c ∧ c < W.heap.size ∧ c ≠ rb) (x y z : Value) :
    AnsDR w (0, fmtB s, []) (.returned (.agg #[.int .i64 0, .slice (some ⟨b, 0, none⟩) 47 47, .slice none 0 0])) (((W.setCell ⟨rb, 0, none⟩ x).setCell ⟨rb, 1, none⟩ y).setCell ⟨rb, 2, none⟩ z) := by
  have hb3 := ((hB.setCell (p := ⟨rb, 0, none⟩) hrb x).setCell (p := ⟨rb, 1, none⟩) hrb y).setCell (p := ⟨rb, 2, none⟩) hrb z
  have hi3 : IntsSO (((W.setCell ⟨rb, 0, none⟩ x).setCell ⟨rb, 1, none⟩ y).setCell ⟨rb, 2, none⟩ z) (.slice (some ⟨b, 0, none⟩) 47 47) (fmtB s) F := hI.keep fun c hc _ => by
    have hne : c ≠ rb := (hF c hc).2.2
    rw [Below.heap_setCell _ _ _ _ hne, Below.heap_setCell _ _ _ _ hne, Below.heap_setCell _ _ _ _ hne]
  exact AnsDisk.uni ⟨_, 47, 47, none, 0, 0, rfl, hb3, F, fun _ => False, hi3, Or.inl ⟨rfl, none, 0, rfl⟩, fun _ _ h => h.elim, fun c h => h.elim (fun h => ⟨(hF c h).1, by have := (hF c h).2.1; simpa [World.setCell] using this⟩) False.elim⟩
theorem ans_fbad {w W : World} {rb : Nat} (hB : Below w.heap.size w W) (hrb : w.heap.size ≤ rb) (x y z : Value) :
    AnsDR w (3, [], []) (.returned (.agg #[.int .i64 3, .slice none 0 0, .slice none 0 0])) (((W.setCell ⟨rb, 0, none⟩ x).setCell ⟨rb, 1, none⟩ y).setCell ⟨rb, 2, none⟩ z) :=
  AnsDisk.uni (ans_bad (((hB.setCell (p := ⟨rb, 0, none⟩) hrb x).setCell (p := ⟨rb, 1, none⟩) hrb y).setCell (p := ⟨rb, 2, none⟩) hrb z) 3)
theorem empt47 {w : World} {b : Nat} (h : OwnRow w b 47 (fun _ => .slice none 0 0)) : IntsSO w (.slice (some ⟨b, 0, none⟩) 47 47) (List.replicate 47 []) (fun c => c = b) := empties _ rfl (by omega) h
theorem field_fsr (z : Int) (a1 : Option Addr) (n1 c1 : Nat) (a2 : Option Addr) (n2 c2 : Nat) (w : World) : (Instr.field 47 (.agg #[.int .i64 z, .slice a1 n1 c1, .slice a2 n2 c2]) 1).run Tryz.prog w = .ok (.agg #[.slice a1 n1 c1, .slice a2 n2 c2]) w := by kernel_rfl
theorem field_psr (z : Int) (a : Option Addr) (n c : Nat) (w : World) : (Instr.field 68 (.agg #[.int .i64 z, .slice a n c]) 1).run Tryz.prog w = .ok (.slice a n c) w := by kernel_rfl

set_option maxHeartbeats 6400000 in
theorem implFormU (w : World) (x : Int) :
    Calls Tryz.prog 11 #[.int .i64 x] w (AnsDR w (formR x)) := by
  have HRA : Hid (seqB x = true → formR x = (0, fmtB x, [])) := fun h => by unfold formR; rw [if_pos h]
  have HRB : Hid (seqB x = false → formR x = (3, [], [])) := fun h => by unfold formR; rw [if_neg (by rw [h]; simp)]
  have HSQ : Hid (∀ W, Calls Tryz.prog 22 #[.int .i64 x] W fun e w' => e = .returned (.bool (seqB x)) ∧ w' = W) := fun W => isSeq_any W x
  have HNF : Hid (∀ W, Calls Tryz.prog 12 #[.slice none 0 0] W (AnsFR W (0, newFd []))) := fun W => by rw [← newFR_nil]; exact implNewFsU W none 0 0 [] (Byts.nil _ _ _) (by simp [sizeByts, ylens])
  have HIP : Hid (∀ W a1 n1 c1 a2 n2 c2, FsR W (.slice a1 n1 c1) (.slice a2 n2 c2) (newFd []) → Calls Tryz.prog 26 #[.agg #[.slice a1 n1 c1, .slice a2 n2 c2]] W (AnsPR W (0, inoPuts [dir0]))) := fun W a1 n1 c1 a2 n2 c2 hW => by rw [← inoPuts_new]; exact implInoPutsU W _ _ _ _ _ _ _ hW (by decide +kernel)
  generalize formR x = RES at *
  generalize seqB x = sb at *
  have HB0 : Hid (Below w.heap.size w (w.alloc (.cells #[.int .i64 0, .slice none 0 0, .slice none 0 0] 43))) := later1 _ _
  have HR0 : Hid (OwnRow (w.alloc (.cells #[.int .i64 0, .slice none 0 0, .slice none 0 0] 43)) (w.heap.size) 3 (cel [.int .i64 0, .slice none 0 0, .slice none 0 0])) := newCel w [.int .i64 0, .slice none 0 0, .slice none 0 0] _
  go_enter Tryz.func11, Tryz.ntmps11
  go_wp2_with fail
  refine (HSQ.out _).mono ?_
  rintro e wq ⟨rfl, hq0⟩
  subst wq
  cases sb with
  | false =>
    have HE : Hid (RES = (3, [], [])) := HRB.out rfl
    have hrr := HR0.out
    have t0 : (w.alloc (.cells #[.int .i64 0, .slice none 0 0, .slice none 0 0] 43)).cell? ⟨w.heap.size, 0, none⟩ = some (.int .i64 0) := hrr.cell (i := 0) (by omega)
    have t1 : (w.alloc (.cells #[.int .i64 0, .slice none 0 0, .slice none 0 0] 43)).cell? ⟨w.heap.size, 1, none⟩ = some (.slice none 0 0) := hrr.cell (i := 1) (by omega)
    have t2 : (w.alloc (.cells #[.int .i64 0, .slice none 0 0, .slice none 0 0] 43)).cell? ⟨w.heap.size, 2, none⟩ = some (.slice none 0 0) := hrr.cell (i := 2) (by omega)
    have f0 := hrr.frozen 0
    have f1 := hrr.frozen 1
    have f2 := hrr.frozen 2
    have hlr := hrr.lt
    clear hrr
    go_wp2
    exact bodyPost_ret (v := .agg #[.int .i64 3, .slice none 0 0, .slice none 0 0]) (by simp [results, Tryz.results11, go_sem]) rfl (by rw [HE.out]; exact AnsDisk.uni (ans_bad (later1 _ _) 3))
  | true =>
    have HE : Hid (RES = (0, fmtB x, [])) := HRA.out rfl
    go_wp2_with fail
    refine (newRack_any _ 47 (by omega)).mono ?_
    rintro e w1 ⟨b, hbb, rfl, hb, hrow⟩
    have HS1 : Hid (IntsSO w1 (.slice (some ⟨b, 0, none⟩) 47 47) (List.replicate 47 []) (fun c => c = b)) := empt47 hrow
    have hbl := hrow.lt
    rw [World.size_alloc] at hbb
    clear hrow
    have HB1 : Hid (Below w.heap.size w w1) := HB0.out.trans (hb.mono HB0.out.size)
    have HR1 : Hid (OwnRow w1 (w.heap.size) 3 (cel [.int .i64 0, .slice none 0 0, .slice none 0 0])) := HR0.out.later hb
    clear hb
    have hb := later1 w1 (.cells #[.slice (some ⟨b, 0, none⟩) 47 47, .slice none 0 0] 64)
    have HS2 : Hid (IntsSO (w1.alloc (.cells #[.slice (some ⟨b, 0, none⟩) 47 47, .slice none 0 0] 64)) (.slice (some ⟨b, 0, none⟩) 47 47) (List.replicate 47 []) (fun c => c = b)) := HS1.out.keep fun c _ hlt => hb.block c hlt
    clear HS1
    have HB2 : Hid (Below w.heap.size w (w1.alloc (.cells #[.slice (some ⟨b, 0, none⟩) 47 47, .slice none 0 0] 64))) := HB1.out.trans (hb.mono HB1.out.size)
    have HR2 : Hid (OwnRow (w1.alloc (.cells #[.slice (some ⟨b, 0, none⟩) 47 47, .slice none 0 0] 64)) (w.heap.size) 3 (cel [.int .i64 0, .slice none 0 0, .slice none 0 0])) := HR1.out.later hb
    clear hb
    have HD2 : Hid (OwnRow (w1.alloc (.cells #[.slice (some ⟨b, 0, none⟩) 47 47, .slice none 0 0] 64)) w1.heap.size 2 (cel [.slice (some ⟨b, 0, none⟩) 47 47, .slice none 0 0])) := newCel w1 [.slice (some ⟨b, 0, none⟩) 47 47, .slice none 0 0] _
    have hd0 : (w1.alloc (.cells #[.slice (some ⟨b, 0, none⟩) 47 47, .slice none 0 0] 64)).cell? ⟨w1.heap.size, 0, none⟩ = some (.slice (some ⟨b, 0, none⟩) 47 47) := HD2.out.cell (i := 0) (by omega)
    go_wp2_with fail
    clear hd0
    refine (superWords_any _ x).mono ?_
    rintro e w2 ⟨aw, nw, cw, rfl, hb, ho⟩
    have HSW : Hid (Ints w2 (.slice aw nw cw) [7, x]) := ho.reads
    have HS3 : Hid (IntsSO w2 (.slice (some ⟨b, 0, none⟩) 47 47) (List.replicate 47 []) (fun c => c = b)) := HS2.out.keep fun c _ hlt => hb.block c hlt
    clear ho HS2
    have hw12 : w1.heap.size < w2.heap.size := by have := hb.size; simp at this; omega
    have HB3 : Hid (Below w.heap.size w w2) := HB2.out.trans (hb.mono HB2.out.size)
    have HR3 : Hid (OwnRow w2 (w.heap.size) 3 (cel [.int .i64 0, .slice none 0 0, .slice none 0 0])) := HR2.out.later hb
    have HD3 : Hid (OwnRow w2 w1.heap.size 2 (cel [.slice (some ⟨b, 0, none⟩) 47 47, .slice none 0 0])) := HD2.out.later hb
    clear hb
    obtain ⟨u, hru, hFu, hsu⟩ := IntsSO.row HS3.out (by simp)
    have HRU : Hid (OwnRow w2 b 47 u) := hru
    have HSU : Hid (∀ i, i < 47 → ∃ ua un uc, u i = .slice ua un uc) := hsu
    clear hru hsu hFu
    go_wp2_with fail
    refine (set_any _ w1.heap.size 0 b 47 47 0 u _ [7, x] (by omega) (by omega) (HD3.out.cell (i := 0) (by omega)) HRU.out (HSU.out 0 (by omega)) HSW.out (by simp)).mono ?_
    rintro e w3 ⟨rfl, X, rfl, hbx, hox⟩
    have HSX := IntsSO.set HS3.out (x := 0) (by simp) hbx (fun c hc => by subst hc; omega) hox
    have HS4 : Hid (IntsSO (X.setCell ⟨b, 0, none⟩ (.slice (some ⟨w2.heap.size, 0, none⟩) [7, x].length [7, x].length)) (.slice (some ⟨b, 0, none⟩) 47 47) (fmt1 x) (fun c => w.heap.size < c ∧ c < X.heap.size ∧ c ≠ w1.heap.size)) := HSX.mono fun c hc => by
      rcases hc with rfl | hc
      · have := hbx.size; omega
      · have := hc.1; have := hc.2; omega
    have hb : Below w.heap.size w2 (X.setCell ⟨b, 0, none⟩ (.slice (some ⟨w2.heap.size, 0, none⟩) [7, x].length [7, x].length)) := (hbx.mono HB3.out.size).setCell (by show w.heap.size ≤ b; omega) _
    have hrx := (HR3.out.later hbx).store (p := ⟨b, 0, none⟩) (by show w.heap.size ≠ b; omega) (.slice (some ⟨w2.heap.size, 0, none⟩) [7, x].length [7, x].length)
    have hdx := (HD3.out.later hbx).store (p := ⟨b, 0, none⟩) (by show w1.heap.size ≠ b; omega) (.slice (some ⟨w2.heap.size, 0, none⟩) [7, x].length [7, x].length)
    have hxs : w2.heap.size ≤ X.heap.size := hbx.size
    have hsz : (X.setCell ⟨b, 0, none⟩ (.slice (some ⟨w2.heap.size, 0, none⟩) [7, x].length [7, x].length)).heap.size = X.heap.size := by simp [World.setCell]
    rw [← hsz] at HS4 hxs
    clear hsz
    generalize X.setCell ⟨b, 0, none⟩ (.slice (some ⟨w2.heap.size, 0, none⟩) [7, x].length [7, x].length) = w3 at *
    have HB9 : Hid (Below w.heap.size w w3) := HB3.out.trans hb
    have HR9 : Hid (OwnRow w3 (w.heap.size) 3 (cel [.int .i64 0, .slice none 0 0, .slice none 0 0])) := hrx
    have HD9 : Hid (OwnRow w3 w1.heap.size 2 (cel [.slice (some ⟨b, 0, none⟩) 47 47, .slice none 0 0])) := hdx
    clear hbx hox HSX hb hrx hdx HS3 HRU HSU HSW
    go_wp2_with fail
    refine (HNF.out _).mono ?_
    rintro e w4 ⟨a1, n1, c1, a2, n2, c2, rfl, hb, ho⟩
    have HFS : Hid (FsR w4 (.slice a1 n1 c1) (.slice a2 n2 c2) (newFd [])) := ho.reads
    have HS5 : Hid (IntsSO w4 (.slice (some ⟨b, 0, none⟩) 47 47) (fmt1 x) (fun c => w.heap.size < c ∧ c < w4.heap.size ∧ c ≠ w1.heap.size)) := (HS4.out.keep fun c _ hlt => hb.block c hlt).mono fun c hc => ⟨hc.1, Nat.lt_of_lt_of_le hc.2.1 hb.size, hc.2.2⟩
    have h34 : w3.heap.size ≤ w4.heap.size := hb.size
    clear ho HS4
    have HB10 : Hid (Below w.heap.size w w4) := HB9.out.trans (hb.mono HB9.out.size)
    have HR10 : Hid (OwnRow w4 (w.heap.size) 3 (cel [.int .i64 0, .slice none 0 0, .slice none 0 0])) := HR9.out.later hb
    have HD10 : Hid (OwnRow w4 w1.heap.size 2 (cel [.slice (some ⟨b, 0, none⟩) 47 47, .slice none 0 0])) := HD9.out.later hb
    clear hb
    have hff := field_fsr
    go_wp2_with fail
    clear hff
    refine (HIP.out _ _ _ _ _ _ _ HFS.out).mono ?_
    rintro e w5 ⟨ap, np, cp, rfl, hb, ho⟩
    have HPO : Hid (PutsO w5 (.slice ap np cp) (inoPuts [dir0]) (fun c => w4.heap.size ≤ c)) := ho.mono fun c hc => hc.1
    have HS6 : Hid (IntsSO w5 (.slice (some ⟨b, 0, none⟩) 47 47) (fmtK x 0) (fun c => w.heap.size < c ∧ c < w5.heap.size ∧ c ≠ w1.heap.size)) := (HS5.out.keep fun c _ hlt => hb.block c hlt).mono fun c hc => ⟨hc.1, Nat.lt_of_lt_of_le hc.2.1 hb.size, hc.2.2⟩
    obtain ⟨_, _, ep, _, -⟩ := ho.reads.open'
    simp only [Value.slice.injEq] at ep
    obtain ⟨rfl, hnp, rfl⟩ := ep
    rw [inoPuts_len] at hnp
    subst hnp
    have h45 : w4.heap.size ≤ w5.heap.size := hb.size
    clear ho HS5 HFS HNF HIP
    have HB11 : Hid (Below w.heap.size w w5) := HB10.out.trans (hb.mono HB10.out.size)
    have HR11 : Hid (OwnRow w5 (w.heap.size) 3 (cel [.int .i64 0, .slice none 0 0, .slice none 0 0])) := HR10.out.later hb
    have HD11 : Hid (OwnRow w5 w1.heap.size 2 (cel [.slice (some ⟨b, 0, none⟩) 47 47, .slice none 0 0])) := HD10.out.later hb
    clear hb
    have hff := field_psr
    go_wp2
    clear hff
    have HG : Hid (∀ j : Nat, j < 10 → (inoPuts [dir0])[j]?.getD (0, []) = (17 + (j : Int), inoW [dir0] j)) := fun j hj => inoPuts_get [dir0] hj
    have HIL : Hid (∀ j : Nat, (inoW [dir0] j).length ≤ 1048576) := fun j => by
      unfold inoW
      by_cases h : j < [dir0].length
      · have : j = 0 := by simpa using h
        subst this
        rw [if_pos h]; decide
      · rw [if_neg h]; simp
    have HKN : Hid (∀ j : Nat, j < 10 → (fmtK x j).set (17 + j) (inoW [dir0] j) = fmtK x (j + 1)) := fmtK_next x
    have HKL : Hid (∀ j : Nat, (fmtK x j).length = 47) := fmtK_len x
    have HKE : Hid (fmtK x 10 = fmtB x) := rfl
    generalize inoW [dir0] = IW at *
    generalize inoPuts [dir0] = PS at *
    generalize fmtK x = FK at *
    go_loopw [21] (fun i wr => ∃ j : Nat, j ≤ 10 ∧ i = .int .i64 j ∧ Below w.heap.size w wr ∧ OwnRow wr w.heap.size 3 (cel [.int .i64 0, .slice none 0 0, .slice none 0 0]) ∧ OwnRow wr w1.heap.size 2 (cel [.slice (some ⟨b, 0, none⟩) 47 47, .slice none 0 0]) ∧ PutsO wr (.slice ap 10 cp) PS (fun c => w4.heap.size ≤ c) ∧ IntsSO wr (.slice (some ⟨b, 0, none⟩) 47 47) (FK j) (fun c => w.heap.size < c ∧ c < wr.heap.size ∧ c ≠ w1.heap.size) ∧ w5.heap.size ≤ wr.heap.size) (fun i _ => 10 - (intOf i).toNat)
    case atStart => exact ⟨0, Nat.zero_le _, rfl, HB11.out, HR11.out, HD11.out, HPO.out, HS6.out, Nat.le_refl _⟩
    case round =>
      obtain ⟨j, hj, rfl, hb0, hr0, hd0, hp0, hs0, hz0⟩ := hrel
      have HBR : Hid (Below w.heap.size w wr) := hb0
      have HRR : Hid (OwnRow wr w.heap.size 3 (cel [.int .i64 0, .slice none 0 0, .slice none 0 0])) := hr0
      have HDR : Hid (OwnRow wr w1.heap.size 2 (cel [.slice (some ⟨b, 0, none⟩) 47 47, .slice none 0 0])) := hd0
      have HPR : Hid (PutsO wr (.slice ap 10 cp) PS (fun c => w4.heap.size ≤ c)) := hp0
      have HSR : Hid (IntsSO wr (.slice (some ⟨b, 0, none⟩) 47 47) (FK j) (fun c => w.heap.size < c ∧ c < wr.heap.size ∧ c ≠ w1.heap.size)) := hs0
      clear hb0 hr0 hd0 hp0 hs0 HPO HS6
      by_cases hlt : j < 10
      · skip
        obtain ⟨_, _, eo, _, hpa⟩ := HPR.out.reads.open'
        simp only [Value.slice.injEq] at eo
        obtain ⟨rfl, hlp, rfl⟩ := eo
        obtain ⟨b6, o6, aw, cw, rfl, k0, k1, hiw⟩ := hpa j (by omega)
        clear hlp
        rw [HG.out j hlt] at k0 k1 hiw
        obtain ⟨nw, hnw⟩ : ∃ nw, (17 + (j : Int), IW j).2.length = nw := ⟨_, rfl⟩
        rw [hnw] at k1 hiw
        replace k0 : wr.cell? ⟨b6, o6 + j * 2, none⟩ = some (.int .i64 (17 + (j : Int))) := k0
        have hb6 := World.block_lt_of_cell? _ _ k0
        have HIW : Hid (Ints (wr.alloc (.cells #[.int .i64 (17 + (j : Int)), .slice aw nw cw] 71)) (.slice aw nw cw) (IW j)) := hiw.later (later1 _ _)
        have HRA2 : Hid (OwnRow (wr.alloc (.cells #[.int .i64 (17 + (j : Int)), .slice aw nw cw] 71)) w.heap.size 3 (cel [.int .i64 0, .slice none 0 0, .slice none 0 0])) := HRR.out.later (later1 _ _)
        have HDA2 : Hid (OwnRow (wr.alloc (.cells #[.int .i64 (17 + (j : Int)), .slice aw nw cw] 71)) w1.heap.size 2 (cel [.slice (some ⟨b, 0, none⟩) 47 47, .slice none 0 0])) := HDR.out.later (later1 _ _)
        have HSA2 : Hid (IntsSO (wr.alloc (.cells #[.int .i64 (17 + (j : Int)), .slice aw nw cw] 71)) (.slice (some ⟨b, 0, none⟩) 47 47) (FK j) (fun c => w.heap.size < c ∧ c < wr.heap.size ∧ c ≠ w1.heap.size)) := HSR.out.keep fun c _ hlt => (later1 _ _).block c hlt
        have HPA2 : Hid (PutsO (wr.alloc (.cells #[.int .i64 (17 + (j : Int)), .slice aw nw cw] 71)) (.slice (some ⟨b6, o6, none⟩) 10 cp) PS (fun c => w4.heap.size ≤ c)) := HPR.out.later (later1 _ _)
        have HBA2 : Hid (Below w.heap.size w (wr.alloc (.cells #[.int .i64 (17 + (j : Int)), .slice aw nw cw] 71))) := HBR.out.trans ((later1 _ _).mono HBR.out.size)
        have hjc : ((17 + j : Nat) : Int) = 17 + (j : Int) := by omega
        obtain ⟨u, hru, hFu, hsu⟩ := IntsSO.row HSA2.out (by rw [HKL.out]; omega)
        have HST := set_any (wr.alloc (.cells #[.int .i64 (17 + (j : Int)), .slice aw nw cw] 71)) w1.heap.size 0 b 47 47 (17 + j) u (.slice aw nw cw) (IW j) (by omega) (by omega) (HDA2.out.cell (i := 0) (by omega)) hru (hsu _ (by omega)) HIW.out (HIL.out j)
        rw [hjc] at HST
        have HST2 : Hid (Calls Tryz.prog 24 _ _ _) := HST
        clear HST hru hsu hjc hiw hpa hnw
        go_wp2_with fail
        refine HST2.out.mono ?_
        rintro e w7 ⟨rfl, X, rfl, hbx, hox⟩
        have hsz : (X.setCell ⟨b, 17 + j, none⟩ (.slice (some ⟨(wr.alloc (.cells #[.int .i64 (17 + (j : Int)), .slice aw nw cw] 71)).heap.size, 0, none⟩) (IW j).length (IW j).length)).heap.size = X.heap.size := by simp [World.setCell]
        have hxs := hbx.size
        rw [World.size_alloc] at hxs
        have HSX := IntsSO.set HSA2.out (x := 17 + j) (by rw [HKL.out]; omega) hbx (fun c hc => by have := hc.2.1; rw [World.size_alloc]; omega) hox
        rw [HKN.out j hlt] at HSX
        have HS8 : Hid (IntsSO (X.setCell ⟨b, 17 + j, none⟩ (.slice (some ⟨(wr.alloc (.cells #[.int .i64 (17 + (j : Int)), .slice aw nw cw] 71)).heap.size, 0, none⟩) (IW j).length (IW j).length)) (.slice (some ⟨b, 0, none⟩) 47 47) (FK (j + 1)) (fun c => w.heap.size < c ∧ c < X.heap.size ∧ c ≠ w1.heap.size)) := HSX.mono fun c hc => by
          rcases hc with hc | hc
          · exact ⟨hc.1, by have := hc.2.1; omega, hc.2.2⟩
          · have h1 := hc.1; have h2 := hc.2; rw [World.size_alloc] at h1; omega
        have HB8 : Hid (Below w.heap.size w (X.setCell ⟨b, 17 + j, none⟩ (.slice (some ⟨(wr.alloc (.cells #[.int .i64 (17 + (j : Int)), .slice aw nw cw] 71)).heap.size, 0, none⟩) (IW j).length (IW j).length))) := (HBA2.out.trans (hbx.mono HBA2.out.size)).setCell (by show w.heap.size ≤ b; omega) _
        have HR8 : Hid (OwnRow (X.setCell ⟨b, 17 + j, none⟩ (.slice (some ⟨(wr.alloc (.cells #[.int .i64 (17 + (j : Int)), .slice aw nw cw] 71)).heap.size, 0, none⟩) (IW j).length (IW j).length)) w.heap.size 3 (cel [.int .i64 0, .slice none 0 0, .slice none 0 0])) := (HRA2.out.later hbx).store (by show w.heap.size ≠ b; omega) _
        have HD8 : Hid (OwnRow (X.setCell ⟨b, 17 + j, none⟩ (.slice (some ⟨(wr.alloc (.cells #[.int .i64 (17 + (j : Int)), .slice aw nw cw] 71)).heap.size, 0, none⟩) (IW j).length (IW j).length)) w1.heap.size 2 (cel [.slice (some ⟨b, 0, none⟩) 47 47, .slice none 0 0])) := (HDA2.out.later hbx).store (by show w1.heap.size ≠ b; omega) _
        have HP8 : Hid (PutsO (X.setCell ⟨b, 17 + j, none⟩ (.slice (some ⟨(wr.alloc (.cells #[.int .i64 (17 + (j : Int)), .slice aw nw cw] 71)).heap.size, 0, none⟩) (IW j).length (IW j).length)) (.slice (some ⟨b6, o6, none⟩) 10 cp) PS (fun c => w4.heap.size ≤ c)) := (HPA2.out.later hbx).store (fun c hc => by show c ≠ b; have : w4.heap.size ≤ c := hc; omega) _
        rw [← hsz] at HS8 hxs
        clear hsz hbx hox HSX HST2 HIW HRA2 HDA2 HSA2 HPA2 HBA2 HBR HRR HDR HPR HSR k0 k1
        generalize X.setCell ⟨b, 17 + j, none⟩ (.slice (some ⟨(wr.alloc (.cells #[.int .i64 (17 + (j : Int)), .slice aw nw cw] 71)).heap.size, 0, none⟩) (IW j).length (IW j).length) = w8 at *
        go_wp2
        go_roundw
        case rel => exact ⟨j + 1, by omega, by go_num, HB8.out, HR8.out, HD8.out, HP8.out, HS8.out, by omega⟩
        case measure => simp [intOf]; omega
      · skip
        have e10 : j = 10 := by omega
        subst e10
        have HS9 : Hid (IntsSO wr (.slice (some ⟨b, 0, none⟩) 47 47) (fmtB x) (fun c => w.heap.size < c ∧ c < wr.heap.size ∧ c ≠ w1.heap.size)) := by have := HSR.out; rw [HKE.out] at this; exact this
        clear HSR HPR HG HIL HKN HKL HKE
        go_wp2_with fail
        refine (disk_nil _ w1.heap.size 0 0 none (some ⟨b, 0, none⟩) 47 47 (HDR.out.cell (i := 0) (by omega)) (HDR.out.cell (i := 1) (by omega))).mono ?_
        rintro e w9 ⟨rfl, hb⟩
        have HBX : Hid (Below w.heap.size w w9) := HBR.out.trans (hb.mono HBR.out.size)
        have HSY : Hid (IntsSO w9 (.slice (some ⟨b, 0, none⟩) 47 47) (fmtB x) (fun c => w.heap.size < c ∧ c < w9.heap.size ∧ c ≠ w1.heap.size)) := (HS9.out.keep fun c _ hlt => hb.block c hlt).mono fun c hc => ⟨hc.1, Nat.lt_of_lt_of_le hc.2.1 hb.size, hc.2.2⟩
        have hrr := HRR.out.later hb
        have t0 : w9.cell? ⟨w.heap.size, 0, none⟩ = some (.int .i64 0) := hrr.cell (i := 0) (by omega)
        have t1 : w9.cell? ⟨w.heap.size, 1, none⟩ = some (.slice none 0 0) := hrr.cell (i := 1) (by omega)
        have t2 : w9.cell? ⟨w.heap.size, 2, none⟩ = some (.slice none 0 0) := hrr.cell (i := 2) (by omega)
        have f0 := hrr.frozen 0
        have f1 := hrr.frozen 1
        have f2 := hrr.frozen 2
        clear hb hrr HRR HDR
        go_wp2
        exact bodyPost_ret (v := .agg #[.int .i64 0, .slice (some ⟨b, 0, none⟩) 47 47, .slice none 0 0]) (by simp [results, Tryz.results11, go_sem, t0, t1, t2]) rfl (by rw [HE.out]; exact ans_fmt HBX.out (Nat.le_refl _) HSY.out (fun c hc => ⟨by omega, hc.2.1, by omega⟩) _ _ _)

end Go.Proofs.YtlacppjlclfpmaaGreat
