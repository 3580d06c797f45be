/- The walks of the laws' functions over lists of inodes: how great they are, copied, held against each other. Lists of bytes and lists of these: how they read, what they own. No program is named here. The walks of the laws' functions over bytes and lists of bytes. File systems: a list of inodes and a list of lists of bytes; the walks of the laws' functions over them. What an inode's fault is. No program is named here. -/
import Derived.Test.YtlacppjlclfpmaaM03
import Derived.Test.YtlacppjlclfpmaaM00
import Derived.Test.YtlacppjlclfpmaaM01
namespace Go.Proofs.Ytlacppjlclfpmaa
open Go.RowKit
set_option maxRecDepth 100000

set_option maxHeartbeats 400000 in
theorem szInos_many (w : World) (a : Option Addr) (n cap : Nat) (left : Int) (h0 : 0 ≤ left) (h1 : left ≤ 1048576) (hn : n ≤ maxLen) (h : left < (n : Int)) :
    Calls Try.prog 31 #[.slice a n cap, .int .i64 left] w fun e w' => e = .returned (.int .i64 (-1)) ∧ w' = w := by
  unfold maxLen at hn
  have h' : left - (n : Int) < 0 := by omega
  go_enter Try.func31, Try.ntmps31
  go_wp2
  go_ret
  exact ⟨rfl, rfl⟩

set_option maxHeartbeats 1600000 in
theorem szInos_walk (w : World) (a : Option Addr) (cap n : Nat) (left : Int) (ds : List ID) (hzn : ds.length = n) (h0 : 0 ≤ left) (h1 : left ≤ 1048576) (h2 : ¬ left < (n : Int)) (hc : AtI w a n ds) :
    Calls Try.prog 31 #[.slice a n cap, .int .i64 left] w fun e w' => e = .returned (.int .i64 (szf left (n + (isz ds).sum))) ∧ Below w.heap.size w w' := by
  have HN : Hid (ds.length = n) := hzn
  have h2' : ¬ left - (n : Int) < 0 := by omega
  have HC : Hid (AtI w a n ds) := hc
  clear hzn hc
  go_enter Try.func31, Try.ntmps31
  go_wp2
  go_loopw [1, 5] (fun q i wr => ∃ j : Nat, j ≤ n ∧ i = .int .i64 j ∧ q = .int .i64 (left - (n : Int) - (upto (isz ds) j : Nat)) ∧ 0 ≤ left - (n : Int) - (upto (isz ds) j : Nat) ∧ Below w.heap.size w wr) (fun _ i _ => n - (intOf i).toNat)
  case atStart => exact ⟨0, Nat.zero_le _, rfl, by simp [upto_zero], by simp [upto_zero]; omega, Below.refl _ _⟩
  case round =>
    obtain ⟨j, hj, rfl, rfl, hq, hbl⟩ := hrel
    by_cases hlt : j < n
    · obtain ⟨b, o, rfl, hI⟩ := HC.out j hlt
      obtain ⟨aB, cB, aE, cE, c0, c1, c2, c3, c4, hR⟩ := hI.later hbl
      have hs := upto_succ (isz ds) j (by rw [isz_length, HN.out]; exact hlt)
      rw [isz_get] at hs
      have hle := upto_le (isz ds) (j + 1)
      have HS : Hid (upto (isz ds) (j + 1) = upto (isz ds) j + sizeIno (ds[j]?.getD id0)) := hs
      clear hs hI HC
      generalize upto (isz ds) j = U at *
      generalize ds[j]?.getD id0 = d at *
      have HI : Hid (InoR wr _ _ _ _ _ d) := hR
      have HBL : Hid (Below w.heap.size w wr) := hbl
      clear hR hbl
      by_cases hm : left - (n : Int) - (U : Int) < ((sizeIno d : Nat) : Int)
      · have HM : Hid (szf left (n + (isz ds).sum) = -1) := szf_no (by have := HS.out; omega)
        have HR' : Hid (szf (left - (n : Int) - (U : Int)) (sizeIno d) = -1) := szf_no hm
        go_wp2_with fail
        refine (szInodeU _ _ _ _ _ _ _ _ _ _ d HI.out _ hq (by omega)).mono ?_
        rw [HR'.out]
        rintro e w' ⟨rfl, hb⟩
        have HB : Hid (Below w.heap.size w w') := HBL.out.trans (hb.mono HBL.out.size)
        clear hb
        go_wp2
        go_ret
        exact ⟨ret_int HM.out.symm, HB.out⟩
      · have HR' : Hid (szf (left - (n : Int) - (U : Int)) (sizeIno d) = left - (n : Int) - (U : Int) - ((sizeIno d : Nat) : Int)) := szf_yes hm
        have hpos : ¬ (left - (n : Int) - (U : Int) - ((sizeIno d : Nat) : Int) < 0) := by omega
        go_wp2_with fail
        refine (szInodeU _ _ _ _ _ _ _ _ _ _ d HI.out _ hq (by omega)).mono ?_
        rw [HR'.out]
        rintro e w' ⟨rfl, hb⟩
        have HB : Hid (Below w.heap.size w w') := HBL.out.trans (hb.mono HBL.out.size)
        clear hb
        go_wp2
        go_roundw
        case rel => exact ⟨j + 1, by omega, by go_num, by rw [HS.out]; go_num, by rw [HS.out]; omega, HB.out⟩
        case measure => simp [intOf]; omega
    · go_wp2
      go_ret
      have e : j = n := by omega
      subst e
      have ha := upto_all (isz ds)
      rw [isz_length, HN.out] at ha
      refine ⟨ret_int ?_, hbl⟩
      rw [ha] at hq ⊢
      rw [szf_yes (by omega)]
      omega

theorem szInosU (w : World) (a : Option Addr) (n c : Nat) (d : List ID) (h : Inos w (.slice a n c) d) (left : Int) (l0 : 0 ≤ left) (l1 : left ≤ 1048576) :
    Calls Try.prog 31 #[.slice a n c, .int .i64 left] w fun e w' => e = .returned (.int .i64 (szf left (sizeInos d))) ∧ Below w.heap.size w w' := by
  obtain ⟨a', cap, e, hm, hc⟩ := h.open'
  simp only [Value.slice.injEq] at e
  obtain ⟨rfl, rfl, rfl⟩ := e
  by_cases h : left < (d.length : Int)
  · refine (szInos_many w _ d.length _ left l0 l1 hm.1 h).mono fun e w' ⟨he, hw⟩ => ⟨he.trans (ret_int ?_), hw ▸ Below.refl _ _⟩
    rw [szf_no (by unfold sizeInos; omega)]
  · exact szInos_walk w _ _ d.length left d rfl l0 l1 h hc

theorem toInodeV (w : World) (aB : Option Addr) (nB cB : Nat) (aE : Option Addr) (nE cE : Nat) (d : ID) (h : InoR w (.int .i64 d.1) (.int .i64 d.2.1) (.int .i64 d.2.2.1) (.slice aB nB cB) (.slice aE nE cE) d) (hs : sizeIno d ≤ 1048576) :
    Calls Try.prog 62 #[.agg #[.int .i64 d.1, .int .i64 d.2.1, .int .i64 d.2.2.1, .slice aB nB cB, .slice aE nE cE]] w fun e w' => ∃ dB eB fB dE eE fE, e = .returned (.agg #[.int .i64 d.1, .int .i64 d.2.1, .int .i64 d.2.2.1, .slice dB eB fB, .slice dE eE fE]) ∧ Below w.heap.size w w' ∧ InoU w' (.int .i64 d.1) (.int .i64 d.2.1) (.int .i64 d.2.2.1) (.slice dB eB fB) (.slice dE eE fE) d (fresh w w') := by
  refine (toInodeU w _ _ _ aB nB cB aE nE cE d h hs).mono ?_
  rintro e w' ⟨y0, y1, y2, dB, eB, fB, dE, eE, fE, rfl, hb, ⟨⟨e0, e1, e2, hcap⟩, hu⟩⟩
  simp only [Value.int.injEq, true_and] at e0 e1 e2
  subst e0 e1 e2
  exact ⟨dB, eB, fB, dE, eE, fE, rfl, hb, ⟨rfl, rfl, rfl, hcap⟩, hu⟩

theorem Try.infoIno : (Try.prog.info? 60).map (fun i => (i.zero, i.size, i.bytes)) = some (some (.agg #[.int .i64 0, .int .i64 0, .int .i64 0, .slice none 0 0, .slice none 0 0]), 5, 72) := by kernel_rfl

set_option maxHeartbeats 3200000 in
theorem toInos_walk (w : World) (a : Option Addr) (cap n : Nat) (ds : List ID) (hn : n ≤ 1048576) (hz : ∀ k : Nat, sizeIno (ds[k]?.getD id0) ≤ 1048576) (hc : AtI w a n ds) :
    Calls Try.prog 34 #[.slice a n cap] w fun e w' => e = .returned (.slice (some ⟨w.heap.size, 0, none⟩) n n) ∧ Below w.heap.size w w' ∧
      ∃ u s, OwnRow w' w.heap.size (n * 5) (inCell ds u) ∧ BuiltI w' (w.heap.size + 1) n u (fun i => ds[i]?.getD id0) s := by
  have hmk := fun w => run_make_five (P := Try.prog) 30 60 (.int .i64 0) (.int .i64 0) (.int .i64 0) (.slice none 0 0) (.slice none 0 0) 72 Try.underlying30 Try.infoIno rfl .i64 .i64 n (by omega) (by omega) w
  have HZ : Hid (∀ k : Nat, sizeIno (ds[k]?.getD id0) ≤ 1048576) := hz
  have HC : Hid (AtI w a n ds) := hc
  clear hz hc
  go_enter Try.func34, Try.ntmps34
  go_wp2
  clear hmk
  go_loopw [4] (fun i wr => ∃ j : Nat, j ≤ n ∧ i = .int .i64 j ∧ Below w.heap.size w wr ∧ ∃ u s, OwnRow wr w.heap.size (n * 5) (partI ds u j) ∧ BuiltI wr (w.heap.size + 1) j u (fun i => ds[i]?.getD id0) s) (fun i _ => n - (intOf i).toNat)
  case atStart => exact ⟨0, Nat.zero_le _, rfl, later1 _ _, fun _ => (.slice none 0 0, .slice none 0 0), _, (OwnRow.madeFive w n 60).congr fun i _ => by simp [partI], BuiltI.nil _ _ (by simp)⟩
  case round =>
    obtain ⟨j, hj, rfl, hbl, u, s, hrow, hbt⟩ := hrel
    by_cases hlt : j < n
    · obtain ⟨b, o, rfl, hI⟩ := HC.out j hlt
      obtain ⟨aB, cB, aE, cE, c0, c1, c2, c3, c4, hR⟩ := hI.later hbl
      have HI : Hid (InoR wr _ _ _ _ _ (ds[j]?.getD id0)) := hR
      have HBL : Hid (Below w.heap.size w wr) := hbl
      have HROW : Hid (OwnRow wr w.heap.size (n * 5) (partI ds u j)) := hrow
      have HBT : Hid (BuiltI wr (w.heap.size + 1) j u (fun i => ds[i]?.getD id0) s) := hbt
      clear hI hR hbl hrow hbt HC
      go_wp2_with fail
      refine (toInodeV _ _ _ _ _ _ _ _ HI.out (HZ.out j)).mono ?_
      rintro e w1 ⟨dB, eB, fB, dE, eE, fE, rfl, hb1, ho1⟩
      have HB1 : Hid (Below wr.heap.size wr w1) := hb1
      have HO1 : Hid (InoU w1 _ _ _ (.slice dB eB fB) (.slice dE eE fE) (ds[j]?.getD id0) (fresh wr w1)) := ho1
      have HROW1 : Hid (OwnRow w1 w.heap.size (n * 5) (partI ds u j)) := HROW.out.block (hb1.block _ HROW.out.lt)
      have zz : ∀ q, q < 5 → partI ds u j (j * 5 + q) = zeroI q := fun q hq => by unfold partI zeroI; rw [if_neg (by omega), show (j * 5 + q) % 5 = q % 5 by omega]
      have d0 : w1.cell? ⟨w.heap.size, j * 5, none⟩ = some (.int .i64 0) := by rw [HROW1.out.cell (by omega)]; exact congrArg some (zz 0 (by omega))
      have d1 : w1.cell? ⟨w.heap.size, j * 5 + 1, none⟩ = some (.int .i64 0) := by rw [HROW1.out.cell (by omega), zz 1 (by omega)]; rfl
      have d2 : w1.cell? ⟨w.heap.size, j * 5 + 2, none⟩ = some (.int .i64 0) := by rw [HROW1.out.cell (by omega), zz 2 (by omega)]; rfl
      have d3 : w1.cell? ⟨w.heap.size, j * 5 + 3, none⟩ = some (.slice none 0 0) := by rw [HROW1.out.cell (by omega), zz 3 (by omega)]; rfl
      have d4 : w1.cell? ⟨w.heap.size, j * 5 + 4, none⟩ = some (.slice none 0 0) := by rw [HROW1.out.cell (by omega), zz 4 (by omega)]; rfl
      have f0 := HROW1.out.frozen (j * 5)
      have f1 := HROW1.out.frozen (j * 5 + 1)
      have f2 := HROW1.out.frozen (j * 5 + 2)
      have f3 := HROW1.out.frozen (j * 5 + 3)
      have f4 := HROW1.out.frozen (j * 5 + 4)
      clear hb1 ho1 zz c0 c1 c2 c3 c4
      go_wp2
      go_roundw
      case rel =>
        refine ⟨j + 1, by omega, by go_num, (((((HBL.out.trans (HB1.out.mono HBL.out.size)).setCell (Nat.le_refl _) _).setCell (Nat.le_refl _) _).setCell (Nat.le_refl _) _).setCell (Nat.le_refl _) _).setCell (Nat.le_refl _) _, _, _, (((((HROW1.out.set (j * 5) _).set (j * 5 + 1) _).set (j * 5 + 2) _).set (j * 5 + 3) _).set (j * 5 + 4) _).congr fun c _ => partI_next ds u j c _ _, (((((HBT.out.next HB1.out HO1.out).store (by simp) _).store (by simp) _).store (by simp) _).store (by simp) _).store (by simp) _⟩
      case measure => simp [intOf]; omega
    · go_wp2
      go_ret
      have e : j = n := by omega
      subst e
      exact ⟨rfl, hbl, u, s, hrow.congr fun i hi => by simp [partI, hi], hbt⟩

theorem toInosU {w : World} {v : Value} {ds : List ID} (h : Inos w v ds) (hn : sizeInos ds ≤ 1048576) :
    Calls Try.prog 34 #[v] w fun e w' => ∃ a n c, e = .returned (.slice a n c) ∧ Below w.heap.size w w' ∧ InosO w' (.slice a n c) ds (fresh w w') := by
  obtain ⟨a, cap, rfl, hm, hc⟩ := h.open'
  unfold sizeInos at hn
  refine (toInos_walk w a cap ds.length ds (by omega) (fun k => by have := isz_le ds k; omega) hc).mono fun e w' ⟨he, hb, u, s, hr, hbt⟩ => ⟨_, _, _, he, hb, ?_⟩
  exact BuiltI.inos ds hbt rfl ⟨hm.1, Nat.le_refl _⟩ (Nat.lt_succ_self _) hr _ ⟨Nat.le_refl _, hr.lt⟩ (fun c h1 h2 => ⟨by omega, h2⟩)

set_option maxHeartbeats 3200000 in
theorem eqInos_walk (w : World) (a a' : Option Addr) (cap cap' n : Nat) (ds : List ID) (hn : n ≤ maxLen) (hc : AtI w a n ds) (hc' : AtI w a' n ds) :
    Calls Try.prog 37 #[.slice a n cap, .slice a' n cap'] w fun e w' => e = .returned (.bool true) ∧ Below w.heap.size w w' := by
  unfold maxLen at hn
  have HC : Hid (AtI w a n ds) := hc
  have HC' : Hid (AtI w a' n ds) := hc'
  clear hc hc'
  go_enter Try.func37, Try.ntmps37
  go_wp2
  go_loopw [5] (fun i wr => ∃ k : Nat, k ≤ n ∧ i = .int .i64 k ∧ Below w.heap.size w wr) (fun i _ => n - (intOf i).toNat)
  case atStart => exact ⟨0, Nat.zero_le _, rfl, Below.refl _ _⟩
  case round =>
    obtain ⟨j, hj, rfl, hbl⟩ := hrel
    by_cases hlt : j < n
    · obtain ⟨b, o, rfl, hI⟩ := HC.out j hlt
      obtain ⟨b', o', rfl, hI'⟩ := HC'.out j hlt
      obtain ⟨aB, cB, aE, cE, c0, c1, c2, c3, c4, hR⟩ := hI.later hbl
      obtain ⟨aB', cB', aE', cE', d0, d1, d2, d3, d4, hR'⟩ := hI'.later hbl
      clear hI hI' HC HC'
      have HI : Hid (InoR wr _ _ _ _ _ (ds[j]?.getD id0)) := hR
      have HI' : Hid (InoR wr _ _ _ _ _ (ds[j]?.getD id0)) := hR'
      have HBL : Hid (Below w.heap.size w wr) := hbl
      clear hbl hR hR'
      generalize ds[j]?.getD id0 = d at *
      have HEQ : Hid (∀ W, Below wr.heap.size wr W → Calls Try.prog 67 #[.agg #[.int .i64 d.1, .int .i64 d.2.1, .int .i64 d.2.2.1, .slice aB d.2.2.2.1.length cB, .slice aE d.2.2.2.2.length cE], .agg #[.int .i64 d.1, .int .i64 d.2.1, .int .i64 d.2.2.1, .slice aB' d.2.2.2.1.length cB', .slice aE' d.2.2.2.2.length cE']] W fun e w' => e = .returned (.bool true) ∧ Below W.heap.size W w') := fun W hW => eqInodeU W _ _ _ _ _ _ _ _ _ _ d (HI.out.later hW) (HI'.out.later hW)
      clear HI HI'
      generalize d.2.2.2.1.length = m1 at *
      generalize d.2.2.2.2.length = m2 at *
      generalize d.1 = z0 at *
      generalize d.2.1 = z1 at *
      generalize d.2.2.1 = z2 at *
      go_wp2_with fail
      go_region_with ((go_at_call 67; refine (HEQ.out _ (Below.refl _ _).drew).mono ?_; rintro e w' ⟨rfl, hb2⟩))
      all_goals
        go_wp2
        go_roundw
        case rel => exact ⟨j + 1, by omega, by go_num, (HBL.out.drew).trans (hb2.mono HBL.out.size)⟩
        case measure => simp [intOf]; omega
    · go_wp2
      go_ret
      exact ⟨rfl, hbl⟩
theorem eqInosU {w : World} {v v' : Value} {ds : List ID} (h : Inos w v ds) (h' : Inos w v' ds) : Calls Try.prog 37 #[v, v'] w fun e w' => e = .returned (.bool true) ∧ Below w.heap.size w w' := by
  obtain ⟨a, cap, rfl, hm, hc⟩ := h.open'
  obtain ⟨a', cap', rfl, _, hc'⟩ := h'.open'
  exact eqInos_walk w a a' cap cap' ds.length ds hm.1 hc hc'
end Go.Proofs.Ytlacppjlclfpmaa

namespace Go.Proofs.Ytlacppjlclfpmaa
open Go.RowKit
set_option maxRecDepth 100000

def byteV (b : UInt8) : Value := .int .u8 ((b.toNat : Nat) : Int)
def AtY (w : World) (a : Option Addr) (n : Nat) (zs : List UInt8) : Prop := ∀ k, k < n → ∃ b off, a = some ⟨b, off, none⟩ ∧ w.cell? ⟨b, off + k, none⟩ = some (.int .u8 (((zs[k]?.getD 0).toNat : Nat) : Int))
theorem AtY.later {w w' : World} {a : Option Addr} {n : Nat} {zs : List UInt8} (h : AtY w a n zs) (hb : Below w.heap.size w w') : AtY w' a n zs := fun k hk => by
  obtain ⟨b, off, e, c⟩ := h k hk
  exact ⟨b, off, e, cell_later hb c⟩
/-- The slice v reads as the bytes zs. -/
def Byt (w : World) (v : Value) (zs : List UInt8) : Prop := ∃ a cap, v = .slice a zs.length cap ∧ (zs.length ≤ maxLen ∧ zs.length ≤ cap) ∧ AtY w a zs.length zs
theorem Byt.later {w w' : World} {v : Value} {zs : List UInt8} (h : Byt w v zs) (hb : Below w.heap.size w w') : Byt w' v zs := by
  obtain ⟨a, cap, h1, h2, h3⟩ := h
  exact ⟨a, cap, h1, h2, h3.later hb⟩
theorem Byt.nil (w : World) (a : Option Addr) (cap : Nat) : Byt w (.slice a 0 cap) [] := ⟨a, cap, rfl, ⟨by simp, by simp⟩, fun k hk => by simp at hk⟩
/-- .. in one block of F. -/
def BytO (w : World) (v : Value) (zs : List UInt8) (F : Nat → Prop) : Prop :=
  (zs = [] ∧ ∃ a cap, v = .slice a 0 cap) ∨
  (∃ b cap, F b ∧ v = .slice (some ⟨b, 0, none⟩) zs.length cap ∧ (zs.length ≤ maxLen ∧ zs.length ≤ cap) ∧ OwnRow w b zs.length (fun i => .int .u8 (((zs[i]?.getD 0).toNat : Nat) : Int)))
theorem BytO.reads {w : World} {v : Value} {zs : List UInt8} {F : Nat → Prop} (h : BytO w v zs F) : Byt w v zs := by
  rcases h with ⟨rfl, a, cap, rfl⟩ | ⟨b, cap, _, h1, h2, h3⟩
  · exact Byt.nil w a cap
  · exact ⟨_, cap, h1, h2, fun k hk => ⟨b, 0, rfl, by rw [Nat.zero_add]; exact h3.cell hk⟩⟩
theorem BytO.keep {w w' : World} {v : Value} {zs : List UInt8} {F : Nat → Prop} (h : BytO w v zs F) (e : ∀ b, F b → b < w.heap.size → w'.heap[b]? = w.heap[b]?) : BytO w' v zs F := by
  rcases h with h | ⟨b, cap, hF, h1, h2, h3⟩
  · exact Or.inl h
  · exact Or.inr ⟨b, cap, hF, h1, h2, h3.block (e b hF h3.lt)⟩
theorem BytO.mono {w : World} {v : Value} {zs : List UInt8} {F G : Nat → Prop} (h : BytO w v zs F) (e : ∀ b, F b → G b) : BytO w v zs G := by
  rcases h with h | ⟨b, cap, hF, h1⟩
  · exact Or.inl h
  · exact Or.inr ⟨b, cap, e b hF, h1⟩
theorem BytO.bound {w : World} {v : Value} {zs : List UInt8} {F : Nat → Prop} (h : BytO w v zs F) : BytO w v zs (fun b => F b ∧ b < w.heap.size) := by
  rcases h with h | ⟨b, cap, hF, h1, h2, h3⟩
  · exact Or.inl h
  · exact Or.inr ⟨b, cap, ⟨hF, h3.lt⟩, h1, h2, h3⟩
theorem BytO.later {w w' : World} {v : Value} {zs : List UInt8} {F : Nat → Prop} (h : BytO w v zs F) (hb : Below w.heap.size w w') : BytO w' v zs F := h.keep fun b _ hlt => hb.block b hlt
theorem BytO.chg {w w' : World} {v : Value} {zs : List UInt8} {F G : Nat → Prop} (h : BytO w v zs F) (hc : Chg G w w') (hd : ∀ b, F b → ¬ G b) : BytO w' v zs F := h.keep fun b hb hlt => hc.block b hlt (hd b hb)

/-- Where lists of bytes lie. -/
def AtYs (w : World) (a : Option Addr) (n : Nat) (zss : List (List UInt8)) : Prop :=
  ∀ k, k < n → ∃ b off ua uc, a = some ⟨b, off, none⟩ ∧ w.cell? ⟨b, off + k, none⟩ = some (.slice ua (zss[k]?.getD []).length uc) ∧ Byt w (.slice ua (zss[k]?.getD []).length uc) (zss[k]?.getD [])
theorem AtYs.later {w w' : World} {a : Option Addr} {n : Nat} {zss : List (List UInt8)} (h : AtYs w a n zss) (hb : Below w.heap.size w w') : AtYs w' a n zss := fun k hk => by
  obtain ⟨b, off, ua, uc, e, c, r⟩ := h k hk
  exact ⟨b, off, ua, uc, e, cell_later hb c, r.later hb⟩
/-- The slice v reads as the lists of bytes zss. -/
def Byts (w : World) (v : Value) (zss : List (List UInt8)) : Prop := ∃ a cap, v = .slice a zss.length cap ∧ (zss.length ≤ maxLen ∧ zss.length ≤ cap) ∧ AtYs w a zss.length zss
theorem Byts.later {w w' : World} {v : Value} {zss : List (List UInt8)} (h : Byts w v zss) (hb : Below w.heap.size w w') : Byts w' v zss := by
  obtain ⟨a, cap, h1, h2, h3⟩ := h
  exact ⟨a, cap, h1, h2, h3.later hb⟩
theorem Byts.nil (w : World) (a : Option Addr) (cap : Nat) : Byts w (.slice a 0 cap) [] := ⟨a, cap, rfl, ⟨by simp, by simp⟩, fun k hk => by simp at hk⟩
theorem Byts.open' {w : World} {v : Value} {zss : List (List UInt8)} (h : Byts w v zss) : ∃ a cap, v = .slice a zss.length cap ∧ (zss.length ≤ maxLen ∧ zss.length ≤ cap) ∧ AtYs w a zss.length zss := h
/-- .. each in a block of its own. -/
def BytsO (w : World) (v : Value) (zss : List (List UInt8)) (F : Nat → Prop) : Prop :=
  (zss = [] ∧ ∃ a cap, v = .slice a 0 cap) ∨
  (∃ b cap, ∃ u : Nat → Value, ∃ G : Nat → Nat → Prop, F b ∧ (∀ i c, G i c → F c ∧ c ≠ b) ∧ (∀ i j c, i ≠ j → G i c → ¬ G j c) ∧
    v = .slice (some ⟨b, 0, none⟩) zss.length cap ∧ (zss.length ≤ maxLen ∧ zss.length ≤ cap) ∧ OwnRow w b zss.length u ∧ ∀ i, i < zss.length → BytO w (u i) (zss[i]?.getD []) (G i))
theorem BytsO.reads {w : World} {v : Value} {zss : List (List UInt8)} {F : Nat → Prop} (h : BytsO w v zss F) : Byts w v zss := by
  rcases h with ⟨rfl, a, cap, rfl⟩ | ⟨b, cap, u, G, _, _, _, h1, h2, h3, h4⟩
  · exact Byts.nil w a cap
  · refine ⟨_, cap, h1, h2, fun k hk => ?_⟩
    have hr := (h4 k hk).reads
    obtain ⟨ua, uc, e, h5, h6⟩ := hr
    have hc := h3.cell hk
    rw [e] at hc
    exact ⟨b, 0, ua, uc, rfl, by rw [Nat.zero_add]; exact hc, ua, uc, rfl, h5, h6⟩
theorem BytsO.keep {w w' : World} {v : Value} {zss : List (List UInt8)} {F : Nat → Prop} (h : BytsO w v zss F) (e : ∀ b, F b → b < w.heap.size → w'.heap[b]? = w.heap[b]?) : BytsO w' v zss F := by
  rcases h with h | ⟨b, cap, u, G, hF, hG, hGG, h1, h2, h3, h4⟩
  · exact Or.inl h
  · exact Or.inr ⟨b, cap, u, G, hF, hG, hGG, h1, h2, h3.block (e b hF h3.lt), fun i hi => (h4 i hi).keep fun c hc => e c (hG i c hc).1⟩
theorem BytsO.mono {w : World} {v : Value} {zss : List (List UInt8)} {F F' : Nat → Prop} (h : BytsO w v zss F) (e : ∀ b, F b → F' b) : BytsO w v zss F' := by
  rcases h with h | ⟨b, cap, u, G, hF, hG, h1⟩
  · exact Or.inl h
  · exact Or.inr ⟨b, cap, u, G, e b hF, fun i c hc => ⟨e c (hG i c hc).1, (hG i c hc).2⟩, h1⟩
theorem BytsO.bound {w : World} {v : Value} {zss : List (List UInt8)} {F : Nat → Prop} (h : BytsO w v zss F) : BytsO w v zss (fun b => F b ∧ b < w.heap.size) := by
  rcases h with h | ⟨b, cap, u, G, hF, hG, hGG, h1, h2, h3, h4⟩
  · exact Or.inl h
  · exact Or.inr ⟨b, cap, u, fun i c => G i c ∧ c < w.heap.size, ⟨hF, h3.lt⟩, fun i c hc => ⟨⟨(hG i c hc.1).1, hc.2⟩, (hG i c hc.1).2⟩, fun i j c e hc hc' => hGG i j c e hc.1 hc'.1, h1, h2, h3, fun i hi => (h4 i hi).bound⟩
theorem BytsO.later {w w' : World} {v : Value} {zss : List (List UInt8)} {F : Nat → Prop} (h : BytsO w v zss F) (hb : Below w.heap.size w w') : BytsO w' v zss F := h.keep fun b _ hlt => hb.block b hlt
theorem BytsO.chg {w w' : World} {v : Value} {zss : List (List UInt8)} {F G : Nat → Prop} (h : BytsO w v zss F) (hc : Chg G w w') (hd : ∀ b, F b → ¬ G b) : BytsO w' v zss F := h.keep fun b hb hlt => hc.block b hlt (hd b hb)
def ylens (zss : List (List UInt8)) : List Nat := zss.map List.length
theorem ylens_length (zss : List (List UInt8)) : (ylens zss).length = zss.length := by simp [ylens]
theorem ylens_get (zss : List (List UInt8)) (i : Nat) : (ylens zss)[i]?.getD 0 = (zss[i]?.getD []).length := by
  unfold ylens; rw [List.getElem?_map]; cases zss[i]? <;> rfl
def sizeByts (zss : List (List UInt8)) : Nat := zss.length + (ylens zss).sum
theorem ylens_le (zss : List (List UInt8)) (k : Nat) : (zss[k]?.getD []).length ≤ (ylens zss).sum := by
  by_cases h : k < zss.length
  · have h1 := upto_succ (ylens zss) k (by rw [ylens_length]; exact h)
    rw [ylens_get] at h1
    have h2 := upto_le (ylens zss) (k + 1)
    omega
  · rw [List.getElem?_eq_none (by omega)]; simp

/-- The first j lists stand, list i in the blocks from s i up to s (i + 1), none below lo. -/
structure BuiltY (w : World) (lo j : Nat) (u : Nat → Value) (f : Nat → List UInt8) (s : Nat → Nat) : Prop where
  lo : lo ≤ s 0
  mono : ∀ i, i < j → s i ≤ s (i + 1)
  hi : s j ≤ w.heap.size
  at' : ∀ i, i < j → BytO w (u i) (f i) (fun b => s i ≤ b ∧ b < s (i + 1))
theorem BuiltY.nil {w : World} {lo : Nat} (u : Nat → Value) (f : Nat → List UInt8) (h : lo ≤ w.heap.size) : BuiltY w lo 0 u f (fun _ => w.heap.size) :=
  ⟨h, fun i hi => by omega, Nat.le_refl _, fun i hi => by omega⟩
theorem BuiltY.le {w : World} {lo j : Nat} {u : Nat → Value} {f : Nat → List UInt8} {s : Nat → Nat} (h : BuiltY w lo j u f s) : ∀ i k, i ≤ k → k ≤ j → s i ≤ s k := by
  intro i k hik
  induction k with
  | zero => intro _; have : i = 0 := by omega
            subst this; exact Nat.le_refl _
  | succ k ih =>
    intro hk
    by_cases e : i = k + 1
    · subst e; exact Nat.le_refl _
    · exact Nat.le_trans (ih (by omega) (by omega)) (h.mono k (by omega))
theorem BuiltY.low {w : World} {lo j : Nat} {u : Nat → Value} {f : Nat → List UInt8} {s : Nat → Nat} (h : BuiltY w lo j u f s) (i : Nat) (hi : i ≤ j) : lo ≤ s i := Nat.le_trans h.lo (h.le 0 i (Nat.zero_le _) hi)
theorem BuiltY.keep {w w' : World} {lo j : Nat} {u : Nat → Value} {f : Nat → List UInt8} {s : Nat → Nat} (h : BuiltY w lo j u f s) (hs : w.heap.size ≤ w'.heap.size) (e : ∀ b, lo ≤ b → b < w.heap.size → w'.heap[b]? = w.heap[b]?) : BuiltY w' lo j u f s :=
  ⟨h.lo, h.mono, Nat.le_trans h.hi hs, fun i hi => (h.at' i hi).keep fun b hb hlt => e b (Nat.le_trans (h.low i (by omega)) hb.1) hlt⟩
theorem BuiltY.later {w w' : World} {lo j : Nat} {u : Nat → Value} {f : Nat → List UInt8} {s : Nat → Nat} (h : BuiltY w lo j u f s) (hb : Below w.heap.size w w') : BuiltY w' lo j u f s := h.keep hb.size fun b _ hlt => hb.block b hlt
theorem BuiltY.store {w : World} {lo j : Nat} {u : Nat → Value} {f : Nat → List UInt8} {s : Nat → Nat} (h : BuiltY w lo j u f s) {p : Addr} (hp : p.block < lo) (v : Value) : BuiltY (w.setCell p v) lo j u f s :=
  h.keep (by simp [World.setCell]) fun b hb _ => Below.heap_setCell _ _ _ _ (by omega)
theorem BuiltY.next {w w' : World} {lo j : Nat} {u : Nat → Value} {f : Nat → List UInt8} {s : Nat → Nat} {v : Value} (h : BuiltY w lo j u f s) (hb : Below w.heap.size w w') (hv : BytO w' v (f j) (fresh w w')) :
    BuiltY w' lo (j + 1) (fun i => if i = j then v else u i) f (fun i => if i ≤ j then s i else w'.heap.size) := by
  have h' := h.later hb
  have en : ∀ i : Nat, ¬ i + 1 ≤ i := fun i => by omega
  refine ⟨by simpa using h.lo, fun i hi => ?_, by simp [en], fun i hi => ?_⟩
  · by_cases e : i = j
    · subst e; simp [en]; exact h'.hi
    · simp [show i ≤ j by omega, show i + 1 ≤ j by omega]; exact h.mono i (by omega)
  · by_cases e : i = j
    · subst e
      simp [en]
      exact hv.mono fun b hb => ⟨Nat.le_trans h.hi hb.1, hb.2⟩
    · simp [e, show i ≤ j by omega, show i + 1 ≤ j by omega]
      exact h'.at' i (by omega)
theorem BuiltY.apart {w : World} {lo n : Nat} {u : Nat → Value} {f : Nat → List UInt8} {s : Nat → Nat} (h : BuiltY w lo n u f s) (i j c : Nat) (e : i ≠ j) (h1 : i < n ∧ s i ≤ c ∧ c < s (i + 1)) (h2 : j < n ∧ s j ≤ c ∧ c < s (j + 1)) : False := by
  rcases Nat.lt_or_gt_of_ne e with h3 | h3
  · have := h.le (i + 1) j (by omega) (by omega); omega
  · have := h.le (j + 1) i (by omega) (by omega); omega
theorem BuiltY.byts {w : World} {lo n b cap : Nat} {u : Nat → Value} {s : Nat → Nat} (zss : List (List UInt8)) (h : BuiltY w lo n u (fun i => zss[i]?.getD []) s) (hn : zss.length = n) (hm : n ≤ maxLen ∧ n ≤ cap) (hb : b < lo) (hr : OwnRow w b n u) (F : Nat → Prop) (hF : F b) (hF' : ∀ c, lo ≤ c → c < w.heap.size → F c) :
    BytsO w (.slice (some ⟨b, 0, none⟩) n cap) zss F := by
  subst hn
  refine Or.inr ⟨b, cap, u, fun i c => i < zss.length ∧ s i ≤ c ∧ c < s (i + 1), hF, fun i c hc => ?_, fun i j c e h1 h2 => h.apart i j c e h1 h2, rfl, hm, hr, fun i hi => ?_⟩
  · have h1 := h.low i (by omega)
    have h2 := h.le (i + 1) zss.length (by omega) (Nat.le_refl _)
    have h3 := h.hi
    exact ⟨hF' c (by omega) (by omega), by omega⟩
  · exact (h.at' i hi).mono fun c hc => ⟨hi, hc⟩
end Go.Proofs.Ytlacppjlclfpmaa

namespace Go.Proofs.Ytlacppjlclfpmaa
open Go.RowKit
set_option maxRecDepth 100000

theorem Try.infoU8 : (Try.prog.info? 5).map (fun i => (i.zero, i.size, i.bytes)) = some (some (.int .u8 0), 1, 1) := by kernel_rfl
theorem Try.infoU8s : (Try.prog.info? 85).map (fun i => (i.zero, i.size, i.bytes)) = some (some (.slice none 0 0), 1, 24) := by kernel_rfl

set_option maxHeartbeats 400000 in
theorem szByt_walk (w : World) (a : Option Addr) (n cap : Nat) (left : Int) (h0 : 0 ≤ left) (h1 : left ≤ 1048576) (hn : n ≤ maxLen) :
    Calls Try.prog 58 #[.slice a n cap, .int .i64 left] w fun e w' => e = .returned (.int .i64 (szf left n)) ∧ w' = w := by
  unfold maxLen at hn
  by_cases h : left < (n : Int)
  · rw [szf_no h]
    have h' : left - (n : Int) < 0 := by omega
    go_enter Try.func58, Try.ntmps58
    go_wp2
    go_ret
    exact ⟨rfl, rfl⟩
  · rw [szf_yes h]
    have h' : ¬ left - (n : Int) < 0 := by omega
    go_enter Try.func58, Try.ntmps58
    go_wp2
    go_ret
    exact ⟨rfl, rfl⟩
theorem szBytU {w : World} {v : Value} {zs : List UInt8} (h : Byt w v zs) (left : Int) (h0 : 0 ≤ left) (h1 : left ≤ 1048576) :
    Calls Try.prog 58 #[v, .int .i64 left] w fun e w' => e = .returned (.int .i64 (szf left zs.length)) ∧ w' = w := by
  obtain ⟨a, cap, rfl, hn, _⟩ := h
  exact szByt_walk w a _ cap left h0 h1 hn.1

set_option maxHeartbeats 400000 in
theorem szByts_many (w : World) (a : Option Addr) (n cap : Nat) (left : Int) (h0 : 0 ≤ left) (h1 : left ≤ 1048576) (hn : n ≤ maxLen) (h : left < (n : Int)) :
    Calls Try.prog 32 #[.slice a n cap, .int .i64 left] w fun e w' => e = .returned (.int .i64 (-1)) ∧ w' = w := by
  unfold maxLen at hn
  have h' : left - (n : Int) < 0 := by omega
  go_enter Try.func32, Try.ntmps32
  go_wp2
  go_ret
  exact ⟨rfl, rfl⟩
set_option maxHeartbeats 800000 in
theorem szByts_walk (w : World) (a : Option Addr) (cap n : Nat) (left : Int) (zss : List (List UInt8)) (hzn : zss.length = n) (h0 : 0 ≤ left) (h1 : left ≤ 1048576) (h2 : ¬ left < (n : Int)) (hc : AtYs w a n zss) :
    Calls Try.prog 32 #[.slice a n cap, .int .i64 left] w fun e w' => e = .returned (.int .i64 (szf left (n + (ylens zss).sum))) ∧ w' = w := by
  have HN : Hid (zss.length = n) := hzn
  have HC : Hid (AtYs w a n zss) := hc
  have h2' : ¬ left - (n : Int) < 0 := by omega
  clear hzn hc
  go_enter Try.func32, Try.ntmps32
  go_wp2
  go_loop [1, 5] (fun q i => ∃ j : Nat, j ≤ n ∧ i = .int .i64 j ∧ q = .int .i64 (left - (n : Int) - (upto (ylens zss) j : Nat)) ∧ 0 ≤ left - (n : Int) - (upto (ylens zss) j : Nat)) (fun _ i => n - (intOf i).toNat)
  case atStart => exact ⟨0, Nat.zero_le _, rfl, by simp [upto_zero], by simp [upto_zero]; omega⟩
  case round =>
    obtain ⟨j, hj, rfl, rfl, hq⟩ := hrel
    by_cases hlt : j < n
    · obtain ⟨b, off, ua, uc, rfl, c1, i1⟩ := HC.out j hlt
      clear HC
      have hs := upto_succ (ylens zss) j (by rw [ylens_length, HN.out]; exact hlt)
      rw [ylens_get] at hs
      have hle := upto_le (ylens zss) (j + 1)
      have HS : Hid (upto (ylens zss) (j + 1) = upto (ylens zss) j + (zss[j]?.getD []).length) := hs
      clear hs
      generalize upto (ylens zss) j = U at *
      have HI : Hid (Byt w (.slice ua (zss[j]?.getD []).length uc) (zss[j]?.getD [])) := i1
      clear i1
      by_cases hm : left - (n : Int) - (U : Int) < ((zss[j]?.getD []).length : Int)
      · have HM : Hid (szf left (n + (ylens zss).sum) = -1) := szf_no (by have := HS.out; omega)
        have HR' : Hid (szf (left - (n : Int) - (U : Int)) (zss[j]?.getD []).length = -1) := szf_no hm
        go_wp2_with fail
        refine (szBytU HI.out _ hq (by omega)).mono ?_
        rw [HR'.out]
        rintro e w' ⟨rfl, rfl⟩
        go_wp2
        go_ret
        exact ⟨ret_int HM.out.symm, rfl⟩
      · have HR' : Hid (szf (left - (n : Int) - (U : Int)) (zss[j]?.getD []).length = left - (n : Int) - (U : Int) - ((zss[j]?.getD []).length : Int)) := szf_yes hm
        have hpos : ¬ (left - (n : Int) - (U : Int) - ((zss[j]?.getD []).length : Int) < 0) := by omega
        go_wp2_with fail
        refine (szBytU HI.out _ hq (by omega)).mono ?_
        rw [HR'.out]
        rintro e w' ⟨rfl, rfl⟩
        go_wp2
        go_round
        case rel => exact ⟨j + 1, by omega, by go_num, by rw [HS.out]; go_num, by rw [HS.out]; omega⟩
        case measure => simp [intOf]; omega
    · go_wp2
      go_ret
      have e : j = n := by omega
      subst e
      have ha := upto_all (ylens zss)
      rw [ylens_length, HN.out] at ha
      refine ⟨ret_int ?_, rfl⟩
      rw [ha] at hq ⊢
      rw [szf_yes (by omega)]
      omega
theorem szBytsU (w : World) (a : Option Addr) (n c : Nat) (d : List (List UInt8)) (h : Byts w (.slice a n c) d) (left : Int) (l0 : 0 ≤ left) (l1 : left ≤ 1048576) :
    Calls Try.prog 32 #[.slice a n c, .int .i64 left] w fun e w' => e = .returned (.int .i64 (szf left (sizeByts d))) ∧ Below w.heap.size w w' := by
  obtain ⟨a', cap, e, hm, hc⟩ := h.open'
  simp only [Value.slice.injEq] at e
  obtain ⟨rfl, rfl, rfl⟩ := e
  by_cases h : left < (d.length : Int)
  · refine (szByts_many w _ d.length _ left l0 l1 hm.1 h).mono fun e w' ⟨he, hw⟩ => ⟨he.trans (ret_int ?_), hw ▸ Below.refl _ _⟩
    rw [szf_no (by unfold sizeByts; omega)]
  · exact (szByts_walk w _ _ d.length left d rfl l0 l1 h hc).mono fun e w' ⟨he, hw⟩ => ⟨he, hw ▸ Below.refl _ _⟩

set_option maxHeartbeats 400000 in
theorem toByt_walk (w : World) (a : Option Addr) (cap n : Nat) (zs : List UInt8) (hn : n ≤ 1048576) (hc : AtY w a n zs) :
    Calls Try.prog 63 #[.slice a n cap] w fun e w' => e = .returned (.slice (some ⟨w.heap.size, 0, none⟩) n n) ∧ Below w.heap.size w w' ∧ OwnRow w' w.heap.size n (fun i => .int .u8 (((zs[i]?.getD 0).toNat : Nat) : Int)) := by
  have hmk := fun w => run_make_row' (P := Try.prog) 85 5 (.int .u8 0) 1 Try.underlying85 Try.infoU8 rfl .i64 .i64 n (by omega) (by omega) w
  have HC : Hid (AtY w a n zs) := hc
  clear hc
  go_enter Try.func63, Try.ntmps63
  go_wp2
  clear hmk
  go_loopw [4] (fun i wr => ∃ j : Nat, j ≤ n ∧ i = .int .i64 j ∧ Below w.heap.size w wr ∧ OwnRow wr w.heap.size n (fun i => if i < j then .int .u8 (((zs[i]?.getD 0).toNat : Nat) : Int) else .int .u8 0)) (fun i _ => n - (intOf i).toNat)
  case atStart => exact ⟨0, Nat.zero_le _, rfl, later1 _ _, (OwnRow.made w (.int .u8 0) n 5).congr fun i _ => by simp⟩
  case round =>
    obtain ⟨j, hj, rfl, hbl, hrow⟩ := hrel
    by_cases hlt : j < n
    · obtain ⟨b, off, rfl, c0⟩ := HC.out j hlt
      have c1 := cell_later hbl c0
      have d1 := hrow.cell hlt
      have d2 := hrow.frozen j
      simp only [Nat.lt_irrefl, if_false] at d1
      have HBL : Hid (Below w.heap.size w wr) := hbl
      have HROW : Hid (OwnRow wr w.heap.size n (fun i => if i < j then .int .u8 (((zs[i]?.getD 0).toNat : Nat) : Int) else .int .u8 0)) := hrow
      clear hbl hrow c0 HC
      go_wp2
      go_roundw
      case rel =>
        refine ⟨j + 1, by omega, by go_num, HBL.out.setCell (Nat.le_refl _) _, (HROW.out.set j _).congr fun i hi => ?_⟩
        by_cases e : i = j
        · subst e; simp
        · by_cases e2 : i < j
          · simp [e, e2, show i < j + 1 by omega]
          · simp [e, e2, show ¬ i < j + 1 by omega]
      case measure => simp [intOf]; omega
    · go_wp2
      go_ret
      have e : j = n := by omega
      subst e
      exact ⟨rfl, hbl, hrow.congr fun i hi => by simp [hi]⟩
theorem toBytU {w : World} {v : Value} {zs : List UInt8} (h : Byt w v zs) (hn : zs.length ≤ 1048576) :
    Calls Try.prog 63 #[v] w fun e w' => ∃ a n c, e = .returned (.slice a n c) ∧ Below w.heap.size w w' ∧ BytO w' (.slice a n c) zs (fresh w w') := by
  obtain ⟨a, cap, rfl, hm, hc⟩ := h
  refine (toByt_walk w a cap zs.length zs hn hc).mono fun e w' ⟨he, hb, hr⟩ => ⟨_, _, _, he, hb, Or.inr ⟨w.heap.size, _, ⟨Nat.le_refl _, hr.lt⟩, rfl, ⟨hm.1, Nat.le_refl _⟩, hr⟩⟩

set_option maxHeartbeats 800000 in
theorem toByts_walk (w : World) (a : Option Addr) (cap n : Nat) (zss : List (List UInt8)) (hn : n ≤ 1048576) (hz : ∀ k : Nat, (zss[k]?.getD []).length ≤ 1048576) (hc : AtYs w a n zss) :
    Calls Try.prog 35 #[.slice a n cap] w fun e w' => e = .returned (.slice (some ⟨w.heap.size, 0, none⟩) n n) ∧ Below w.heap.size w w' ∧
      ∃ u s, OwnRow w' w.heap.size n u ∧ BuiltY w' (w.heap.size + 1) n u (fun i => zss[i]?.getD []) s := by
  have hmk := fun w => run_make_row' (P := Try.prog) 23 85 (.slice none 0 0) 24 Try.underlying23 Try.infoU8s rfl .i64 .i64 n (by omega) (by omega) w
  have HZ : Hid (∀ k : Nat, (zss[k]?.getD []).length ≤ 1048576) := hz
  have HC : Hid (AtYs w a n zss) := hc
  clear hz hc
  go_enter Try.func35, Try.ntmps35
  go_wp2
  clear hmk
  go_loopw [4] (fun i wr => ∃ j : Nat, j ≤ n ∧ i = .int .i64 j ∧ Below w.heap.size w wr ∧ ∃ u s, OwnRow wr w.heap.size n (fun i => if i < j then u i else .slice none 0 0) ∧ BuiltY wr (w.heap.size + 1) j u (fun i => zss[i]?.getD []) s) (fun i _ => n - (intOf i).toNat)
  case atStart => exact ⟨0, Nat.zero_le _, rfl, later1 _ _, fun _ => .slice none 0 0, _, (OwnRow.made w (.slice none 0 0) n 85).congr fun i _ => by simp, BuiltY.nil _ _ (by simp)⟩
  case round =>
    obtain ⟨j, hj, rfl, hbl, u, s, hrow, hbt⟩ := hrel
    by_cases hlt : j < n
    · obtain ⟨b, off, ua, uc, rfl, c0, i0⟩ := HC.out j hlt
      have c1 := cell_later hbl c0
      have HI : Hid (Byt wr (.slice ua (zss[j]?.getD []).length uc) (zss[j]?.getD [])) := i0.later hbl
      have HBL : Hid (Below w.heap.size w wr) := hbl
      have HROW : Hid (OwnRow wr w.heap.size n (fun i => if i < j then u i else .slice none 0 0)) := hrow
      have HBT : Hid (BuiltY wr (w.heap.size + 1) j u (fun i => zss[i]?.getD []) s) := hbt
      clear c0 i0 hbl hrow hbt HC
      go_wp2_with fail
      refine (toBytU HI.out (HZ.out j)).mono ?_
      rintro e w1 ⟨na, nn, nc, rfl, hb1, ho1⟩
      have HB1 : Hid (Below wr.heap.size wr w1) := hb1
      have HO1 : Hid (BytO w1 (.slice na nn nc) (zss[j]?.getD []) (fresh wr w1)) := ho1
      have HROW1 : Hid (OwnRow w1 w.heap.size n (fun i => if i < j then u i else .slice none 0 0)) := HROW.out.block (hb1.block _ HROW.out.lt)
      have d1 := HROW1.out.cell hlt
      have d2 := HROW1.out.frozen j
      simp only [Nat.lt_irrefl, if_false] at d1
      clear hb1 ho1
      go_wp2
      go_roundw
      case rel =>
        refine ⟨j + 1, by omega, by go_num, (HBL.out.trans (HB1.out.mono HBL.out.size)).setCell (Nat.le_refl _) _, _, _, (HROW1.out.set j _).congr fun i hi => ?_, (HBT.out.next HB1.out HO1.out).store (by simp) _⟩
        by_cases e : i = j
        · subst e; simp
        · by_cases e2 : i < j
          · simp [e, e2, show i < j + 1 by omega]
          · simp [e, e2, show ¬ i < j + 1 by omega]
      case measure => simp [intOf]; omega
    · go_wp2
      go_ret
      have e : j = n := by omega
      subst e
      exact ⟨rfl, hbl, u, s, hrow.congr fun i hi => by simp [hi], hbt⟩
theorem toBytsU {w : World} {v : Value} {zss : List (List UInt8)} (h : Byts w v zss) (hn : sizeByts zss ≤ 1048576) :
    Calls Try.prog 35 #[v] w fun e w' => ∃ a n c, e = .returned (.slice a n c) ∧ Below w.heap.size w w' ∧ BytsO w' (.slice a n c) zss (fresh w w') := by
  obtain ⟨a, cap, rfl, hm, hc⟩ := h.open'
  unfold sizeByts at hn
  refine (toByts_walk w a cap zss.length zss (by omega) (fun k => by have := ylens_le zss k; omega) hc).mono fun e w' ⟨he, hb, u, s, hr, hbt⟩ => ⟨_, _, _, he, hb, ?_⟩
  exact BuiltY.byts zss hbt rfl ⟨hm.1, Nat.le_refl _⟩ (Nat.lt_succ_self _) hr _ ⟨Nat.le_refl _, hr.lt⟩ (fun c h1 h2 => ⟨by omega, h2⟩)

set_option maxHeartbeats 800000 in
theorem eqByt_walk (w : World) (a a' : Option Addr) (cap cap' n : Nat) (zs : List UInt8) (hn : n ≤ maxLen) (hc : AtY w a n zs) (hc' : AtY w a' n zs) :
    Calls Try.prog 68 #[.slice a n cap, .slice a' n cap'] w fun e w' => e = .returned (.bool true) ∧ ∃ m, w' = w.drewN m := by
  unfold maxLen at hn
  have HC : Hid (AtY w a n zs) := hc
  have HC' : Hid (AtY w a' n zs) := hc'
  clear hc hc'
  go_enter Try.func68, Try.ntmps68
  go_wp2
  go_loopw [5] (fun i wr => ∃ j m : Nat, j ≤ n ∧ i = .int .i64 j ∧ wr = w.drewN m) (fun i _ => n - (intOf i).toNat)
  case atStart => exact ⟨0, 0, Nat.zero_le _, rfl, rfl⟩
  case round =>
    obtain ⟨j, m, hj, rfl, rfl⟩ := hrel
    by_cases hlt : j < n
    · obtain ⟨b, o, rfl, d0⟩ := HC.out j hlt
      obtain ⟨b', o', rfl, d1⟩ := HC'.out j hlt
      have hz : ((((zs[j]?.getD 0).toNat : Nat) : Int) != (((zs[j]?.getD 0).toNat : Nat) : Int)) = false := by simp
      generalize ((((zs[j]?.getD 0).toNat : Nat) : Int)) = z at *
      clear HC HC'
      go_wp2_with fail
      go_quiet (fail)
      go_wp2
      go_roundw
      case rel => exact ⟨j + 1, _, by omega, by go_num, rfl⟩
      case measure => simp [intOf]; omega
    · go_wp2
      go_ret
      exact ⟨rfl, m, rfl⟩
theorem eqBytU {w : World} {v v' : Value} {zs : List UInt8} (h : Byt w v zs) (h' : Byt w v' zs) : Calls Try.prog 68 #[v, v'] w fun e w' => e = .returned (.bool true) ∧ ∃ m, w' = w.drewN m := by
  obtain ⟨a, cap, rfl, hm, hc⟩ := h
  obtain ⟨a', cap', rfl, _, hc'⟩ := h'
  exact eqByt_walk w a a' cap cap' _ zs hm.1 hc hc'
end Go.Proofs.Ytlacppjlclfpmaa

namespace Go.Proofs.Ytlacppjlclfpmaa
open Go.RowKit
set_option maxRecDepth 100000

set_option maxHeartbeats 1600000 in
theorem eqByts_walk (w : World) (a a' : Option Addr) (cap cap' n : Nat) (zss : List (List UInt8)) (hn : n ≤ maxLen) (hc : AtYs w a n zss) (hc' : AtYs w a' n zss) :
    Calls Try.prog 38 #[.slice a n cap, .slice a' n cap'] w fun e w' => e = .returned (.bool true) ∧ Below w.heap.size w w' := by
  unfold maxLen at hn
  have HC : Hid (AtYs w a n zss) := hc
  have HC' : Hid (AtYs w a' n zss) := hc'
  clear hc hc'
  go_enter Try.func38, Try.ntmps38
  go_wp2
  go_loopw [5] (fun i wr => ∃ j m : Nat, j ≤ n ∧ i = .int .i64 j ∧ wr = w.drewN m) (fun i _ => n - (intOf i).toNat)
  case atStart => exact ⟨0, 0, Nat.zero_le _, rfl, rfl⟩
  case round =>
    obtain ⟨j, m, hj, rfl, rfl⟩ := hrel
    by_cases hlt : j < n
    · obtain ⟨b, o, ua, uc, rfl, d0, i0⟩ := HC.out j hlt
      obtain ⟨b', o', ua', uc', rfl, d1, i1⟩ := HC'.out j hlt
      have HEQ : Hid (∀ q, Calls Try.prog 68 #[.slice ua (zss[j]?.getD []).length uc, .slice ua' (zss[j]?.getD []).length uc'] (w.drewN q) fun e w' => e = .returned (.bool true) ∧ ∃ m', w' = (w.drewN q).drewN m') := fun q => eqBytU (w := w.drewN q) (i0.later (below_drewN (Below.refl _ _) q)) (i1.later (below_drewN (Below.refl _ _) q))
      clear i0 i1 HC HC'
      generalize (zss[j]?.getD []).length = ln at *
      go_wp2_with fail
      go_quiet ((go_at_call 68; exact quiet_of2 (HEQ.out _)))
      go_wp2
      go_roundw
      case rel => exact ⟨j + 1, _, by omega, by go_num, rfl⟩
      case measure => simp [intOf]; omega
    · go_wp2
      go_ret
      exact ⟨rfl, below_drewN (Below.refl _ _) m⟩
theorem eqBytsU {w : World} {v v' : Value} {zss : List (List UInt8)} (h : Byts w v zss) (h' : Byts w v' zss) : Calls Try.prog 38 #[v, v'] w fun e w' => e = .returned (.bool true) ∧ Below w.heap.size w w' := by
  obtain ⟨a, cap, rfl, hm, hc⟩ := h.open'
  obtain ⟨a', cap', rfl, _, hc'⟩ := h'.open'
  exact eqByts_walk w a a' cap cap' _ zss hm.1 hc hc'

/-- File systems. -/
abbrev FD := List ID × List (List UInt8)
def FsR (w : World) (v1 v2 : Value) (d : FD) : Prop := Inos w v1 d.1 ∧ Byts w v2 d.2
theorem FsR.later {w w' : World} {v1 v2 : Value} {d : FD} (h : FsR w v1 v2 d) (hb : Below w.heap.size w w') : FsR w' v1 v2 d := ⟨h.1.later hb, h.2.later hb⟩
def FsU (w : World) (v1 v2 : Value) (d : FD) (F : Nat → Prop) : Prop := ∃ F1 G1 : Nat → Prop, InosO w v1 d.1 F1 ∧ BytsO w v2 d.2 G1 ∧ (∀ b, F1 b → ¬ G1 b) ∧ ∀ b, F1 b ∨ G1 b → F b
theorem FsU.reads {w : World} {v1 v2 : Value} {d : FD} {F : Nat → Prop} (h : FsU w v1 v2 d F) : FsR w v1 v2 d := by
  obtain ⟨_, _, h1, h2, _⟩ := h
  exact ⟨h1.reads, h2.reads⟩
theorem FsU.keep {w w' : World} {v1 v2 : Value} {d : FD} {F : Nat → Prop} (h : FsU w v1 v2 d F) (e : ∀ b, F b → b < w.heap.size → w'.heap[b]? = w.heap[b]?) : FsU w' v1 v2 d F := by
  obtain ⟨F1, G1, h1, h2, hd, hf⟩ := h
  exact ⟨F1, G1, h1.keep fun b hb => e b (hf b (Or.inl hb)), h2.keep fun b hb => e b (hf b (Or.inr hb)), hd, hf⟩
theorem FsU.later {w w' : World} {v1 v2 : Value} {d : FD} {F : Nat → Prop} (h : FsU w v1 v2 d F) (hb : Below w.heap.size w w') : FsU w' v1 v2 d F := h.keep fun b _ hlt => hb.block b hlt
theorem FsU.mono {w : World} {v1 v2 : Value} {d : FD} {F G : Nat → Prop} (h : FsU w v1 v2 d F) (e : ∀ b, F b → G b) : FsU w v1 v2 d G := by
  obtain ⟨F1, G1, h1, h2, hd, hf⟩ := h
  exact ⟨F1, G1, h1, h2, hd, fun b hb => e b (hf b hb)⟩
theorem FsU.chg {w w' : World} {v1 v2 : Value} {d : FD} {F G : Nat → Prop} (h : FsU w v1 v2 d F) (hc : Chg G w w') (hd : ∀ b, F b → ¬ G b) : FsU w' v1 v2 d F := h.keep fun b hb hlt => hc.block b hlt (hd b hb)
def sizeFs (d : FD) : Nat := sizeInos d.1 + sizeByts d.2
def spanFs (d : FD) : Nat := spanInos d.1 + (ylens d.2).sum
theorem spanFs_le (d : FD) : spanFs d ≤ 3 * sizeFs d := by
  have := spanInos_le d.1
  unfold spanFs sizeFs sizeByts
  omega

set_option maxHeartbeats 800000 in
theorem szFsU (w : World) (a1 : Option Addr) (n1 c1 : Nat) (a2 : Option Addr) (n2 c2 : Nat) (d : FD) (h : FsR w (.slice a1 n1 c1) (.slice a2 n2 c2) d) (left : Int) (l0 : 0 ≤ left) (l1 : left ≤ 1048576) :
    Calls Try.prog 8 #[.agg #[.slice a1 n1 c1, .slice a2 n2 c2], .int .i64 left] w fun e w' => e = .returned (.int .i64 (szf left (sizeFs d))) ∧ Below w.heap.size w w' := by
  have H1 : Hid (Inos w (.slice a1 n1 c1) d.1) := h.1
  have H2 : Hid (Byts w (.slice a2 n2 c2) d.2) := h.2
  have HX : Hid (Bx (w.alloc (.cells #[.slice a1 n1 c1, .slice a2 n2 c2] 25)) w.heap.size [.slice a1 n1 c1, .slice a2 n2 c2]) := Bx.new w [.slice a1 n1 c1, .slice a2 n2 c2] _
  clear h
  by_cases hm : left < ((sizeInos d.1 : Nat) : Int)
  · have HR : Hid (szf left (sizeInos d.1) = -1) := szf_no hm
    have HM : Hid (szf left (sizeFs d) = -1) := szf_no (by unfold sizeFs; omega)
    rw [HM.out]
    go_enter Try.func8, Try.ntmps8
    go_wp2_with fail
    refine (szInosU _ _ _ _ d.1 (H1.out.later (later1 _ _)) _ l0 l1).mono ?_
    rw [HR.out]
    rintro e w1 ⟨rfl, hb1⟩
    have HB1 : Hid (Below w.heap.size w w1) := (later1 _ _).trans (hb1.mono (by simp))
    clear hb1
    go_wp2
    go_ret
    exact ⟨rfl, HB1.out⟩
  · have HR : Hid (szf left (sizeInos d.1) = left - ((sizeInos d.1 : Nat) : Int)) := szf_yes hm
    have hpos : ¬ left - ((sizeInos d.1 : Nat) : Int) < 0 := by omega
    have HD : Hid (szf (left - ((sizeInos d.1 : Nat) : Int)) (sizeByts d.2) = szf left (sizeFs d)) := by
      unfold Hid szf sizeFs
      split <;> split <;> omega
    have hx0 : (0 : Int) ≤ ((sizeInos d.1 : Nat) : Int) := by omega
    generalize ((sizeInos d.1 : Nat) : Int) = X at *
    have hrr : szf left (sizeFs d) = -1 ∨ 0 ≤ szf left (sizeFs d) := by unfold szf; split <;> omega
    generalize hr : szf left (sizeFs d) = r at *
    clear hr
    have step : ∀ (P : Prop), (r < 0 → r = -1 → P) → (¬ r < 0 → P) → P := fun P h1 h2 => hrr.elim (fun e => h1 (by omega) e) (fun e => h2 (by omega))
    apply step
    · intro hneg he
      subst he
      clear step hrr
      go_enter Try.func8, Try.ntmps8
      go_wp2_with fail
      refine (szInosU _ _ _ _ d.1 (H1.out.later (later1 _ _)) _ l0 l1).mono ?_
      rw [HR.out]
      rintro e w1 ⟨rfl, hb1⟩
      have HB1 : Hid (Below w.heap.size w w1) := (later1 _ _).trans (hb1.mono (by simp))
      have x1 := (HX.out.later hb1) 1 _ rfl
      clear hb1
      go_wp2_with fail
      refine (szBytsU _ _ _ _ d.2 (H2.out.later HB1.out) _ (by omega) (by omega)).mono ?_
      rw [HD.out]
      rintro e w2 ⟨rfl, hb2⟩
      have HB2 : Hid (Below w.heap.size w w2) := HB1.out.trans (hb2.mono HB1.out.size)
      clear hb2 x1
      go_wp2
      go_ret
      exact ⟨rfl, HB2.out⟩
    · intro hnn
      clear step hrr
      go_enter Try.func8, Try.ntmps8
      go_wp2_with fail
      refine (szInosU _ _ _ _ d.1 (H1.out.later (later1 _ _)) _ l0 l1).mono ?_
      rw [HR.out]
      rintro e w1 ⟨rfl, hb1⟩
      have HB1 : Hid (Below w.heap.size w w1) := (later1 _ _).trans (hb1.mono (by simp))
      have x1 := (HX.out.later hb1) 1 _ rfl
      clear hb1
      go_wp2_with fail
      refine (szBytsU _ _ _ _ d.2 (H2.out.later HB1.out) _ (by omega) (by omega)).mono ?_
      rw [HD.out]
      rintro e w2 ⟨rfl, hb2⟩
      have HB2 : Hid (Below w.heap.size w w2) := HB1.out.trans (hb2.mono HB1.out.size)
      clear hb2 x1
      go_wp2
      go_ret
      exact ⟨rfl, HB2.out⟩

set_option maxHeartbeats 1600000 in
theorem eqFsU (w : World) (v1 v2 v1' v2' : Value) (d : FD) (h : FsR w v1 v2 d) (h' : FsR w v1' v2' d) :
    Calls Try.prog 13 #[.agg #[v1, v2], .agg #[v1', v2']] w fun e w' => e = .returned (.bool true) ∧ Below w.heap.size w w' := by
  obtain ⟨a1, c1, rfl, _⟩ := h.1.open'
  obtain ⟨a2, c2, rfl, _⟩ := h.2.open'
  obtain ⟨b1, k1, rfl, _⟩ := h'.1.open'
  obtain ⟨b2, k2, rfl, _⟩ := h'.2.open'
  have H1 : Hid (Inos w _ d.1) := h.1
  have H2 : Hid (Byts w _ d.2) := h.2
  have H1' : Hid (Inos w _ d.1) := h'.1
  have H2' : Hid (Byts w _ d.2) := h'.2
  clear h h'
  generalize d.1.length = m1 at *
  generalize d.2.length = m2 at *
  have HX : Hid (Bx ((w.alloc (.cells #[.slice a1 m1 c1, .slice a2 m2 c2] 32)).alloc (.cells #[.slice b1 m1 k1, .slice b2 m2 k2] 32)) w.heap.size [.slice a1 m1 c1, .slice a2 m2 c2]) := (Bx.new w [.slice a1 m1 c1, .slice a2 m2 c2] _).later (later1 _ _)
  have HY : Hid (Bx ((w.alloc (.cells #[.slice a1 m1 c1, .slice a2 m2 c2] 32)).alloc (.cells #[.slice b1 m1 k1, .slice b2 m2 k2] 32)) (w.heap.size + 1) [.slice b1 m1 k1, .slice b2 m2 k2]) := by
    have := Bx.new (w.alloc (.cells #[.slice a1 m1 c1, .slice a2 m2 c2] 32)) [.slice b1 m1 k1, .slice b2 m2 k2] 32
    rw [World.size_alloc] at this
    exact this
  go_enter Try.func13, Try.ntmps13
  go_wp2_with fail
  refine (eqInosU (H1.out.later (later2 _ _ _)) (H1'.out.later (later2 _ _ _))).mono ?_
  rintro e w1 ⟨rfl, hb1⟩
  have HB1 : Hid (Below w.heap.size w w1) := (later2 _ _ _).trans (hb1.mono (by simp; omega))
  have x1 := (HX.out.later hb1) 1 _ rfl
  have y1 := (HY.out.later hb1) 1 _ rfl
  clear hb1
  go_wp2_with fail
  refine (eqBytsU (H2.out.later HB1.out) (H2'.out.later HB1.out)).mono ?_
  rintro e w2 ⟨rfl, hb2⟩
  have HB2 : Hid (Below w.heap.size w w2) := HB1.out.trans (hb2.mono HB1.out.size)
  clear hb2
  go_wp2
  go_ret
  exact ⟨rfl, HB2.out⟩
end Go.Proofs.Ytlacppjlclfpmaa

namespace Go.Proofs.Ytlacppjlclfpmaa
open Go.RowKit
set_option maxRecDepth 100000

/-- The first of f 0 .. f (n - 1) that is not 0, or 0. -/
def fstNZ (f : Nat → Int) : Nat → Int
  | 0 => 0
  | n + 1 => if fstNZ f n = 0 then f n else fstNZ f n
theorem fstNZ_zero {f : Nat → Int} : ∀ {n : Nat}, (∀ i, i < n → f i = 0) → fstNZ f n = 0
  | 0, _ => rfl
  | n + 1, h => by
    show (if fstNZ f n = 0 then f n else fstNZ f n) = 0
    rw [if_pos (fstNZ_zero fun i hi => h i (by omega))]
    exact h n (by omega)
theorem fstNZ_at {f : Nat → Int} {j : Nat} (h : ∀ i, i < j → f i = 0) (hj : ¬ f j = 0) : ∀ {n : Nat}, j < n → fstNZ f n = f j
  | 0, hn => by omega
  | n + 1, hn => by
    show (if fstNZ f n = 0 then f n else fstNZ f n) = f j
    by_cases e : j = n
    · subst e
      rw [if_pos (fstNZ_zero h)]
    · have := fstNZ_at h hj (n := n) (by omega)
      rw [this, if_neg hj]
theorem fstNZ_inv {f : Nat → Int} : ∀ {n : Nat}, fstNZ f n = 0 → ∀ i, i < n → f i = 0
  | 0, _, i, hi => by omega
  | n + 1, h, i, hi => by
    have h' : (if fstNZ f n = 0 then f n else fstNZ f n) = 0 := h
    by_cases e : fstNZ f n = 0
    · rw [if_pos e] at h'
      by_cases e2 : i = n
      · rw [e2]; exact h'
      · exact fstNZ_inv e i (by omega)
    · rw [if_neg e] at h'; exact absurd h' e

def rngF (bs : List Int) (i : Nat) : Int := if 0 ≤ bs[i]?.getD 0 ∧ bs[i]?.getD 0 ≤ 19 then 0 else 3
/-- Whether one ahead of i is the same. -/
def dupB (bs : List Int) (i : Nat) : Bool := (List.range i).any fun k => bs[k]?.getD 0 == bs[i]?.getD 0
def dupF (bs : List Int) (i : Nat) : Int := if dupB bs i then 7 else 0
theorem dupB_yes {bs : List Int} {i k : Nat} (hk : k < i) (e : bs[k]?.getD 0 = bs[i]?.getD 0) : dupB bs i = true := by
  unfold dupB; rw [List.any_eq_true]; exact ⟨k, by simpa using hk, by simp [e]⟩
theorem dupB_no {bs : List Int} {i : Nat} (h : ∀ k, k < i → ¬ bs[k]?.getD 0 = bs[i]?.getD 0) : dupB bs i = false := by
  unfold dupB; rw [List.any_eq_false]; intro k hk; simp at hk; simp [h k hk]
def blkF (bs : List Int) : Int := if fstNZ (rngF bs) bs.length = 0 then fstNZ (dupF bs) bs.length else fstNZ (rngF bs) bs.length
def linkB (x : Int) : Bool := decide (1 ≤ x ∧ x ≤ 60)
def sizeB (x : Int) : Bool := decide (0 ≤ x ∧ x ≤ 32)
/-- BlocksFor. -/
def bforR (x : Int) : Int × Int := if sizeB x then (0, (x + 7) / 8) else (3, 0)
def fileF (l s : Int) (bs : List Int) : Int := if linkB l = true ∧ sizeB s = true then (if (bs.length : Int) = (s + 7) / 8 then blkF bs else 1) else 3
/-- One text is not above another. -/
def strLe (a b : ByteArray) : Bool := Op.bytesLess a.toList b.toList || a.toList == b.toList
def entF (es : List EN) (i : Nat) : Int := if nameF (es[i]?.getD en0).1 = 0 then (if 0 ≤ (es[i]?.getD en0).2 ∧ (es[i]?.getD en0).2 ≤ 9 then (if 0 < i ∧ strLe (es[i]?.getD en0).1 (es[i - 1]?.getD en0).1 = true then 1 else 0) else 3) else nameF (es[i]?.getD en0).1
def dirF (es : List EN) : Int := if 6 < es.length then 2 else fstNZ (entF es) es.length
/-- What a file alone has, and what a directory alone has. -/
def fpB (d : ID) : Bool := decide (d.2.1 ≠ 0) || decide (d.2.2.1 ≠ 0) || decide (0 < d.2.2.2.1.length)
def dpB (d : ID) : Bool := decide (0 < d.2.2.2.2.length)
def inoF (d : ID) : Int := if d.1 = 0 then (if fpB d || dpB d then 1 else 0) else if d.1 = 1 then (if dpB d then 1 else fileF d.2.1 d.2.2.1 d.2.2.2.1) else if d.1 = 2 then (if fpB d then 1 else dirF d.2.2.2.2) else 1
end Go.Proofs.Ytlacppjlclfpmaa
