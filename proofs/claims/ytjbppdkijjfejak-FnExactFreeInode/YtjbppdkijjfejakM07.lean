/- Lists of inodes are marked. The program's PackInode. PackInode, and answers that are words, in the one form of the laws. Lists of extents: how they read, what they own. No program is named here. The walks of the laws' functions over lists of extents. Kerns: how they read, what they own, and the walks of the laws' functions over them. Answers with a kern: how they read, what they own, and the walks of the laws' functions over them. What the laws of chapter 5 ask: how long the answers are. The law of FreeInode: at every argument the program answers as the specification, leaves its arguments as they were, and its answer owns its memory. From the reading of an argument to the lists that it holds. No program is named here. What the rows of this seat share: how a disk that came in is opened. How inodes that came in are opened. How lists of inodes that came in are opened. -/
import Derived.Test.YtjbppdkijjfejakM06
import Derived.Test.YtjbppdkijjfejakM05
import Derived.Test.YtjbppdkijjfejakM01
import Derived.Test.YtjbppdkijjfejakRows
import Derived.Deep.RegionWith
import Derived.Deep.RegionHeld3
import Derived.Test.YtjbppdkijjfejakM00
import Derived.ProofKit
import Derived.Deep.Slices
import Derived.Deep.SlicePairs
import Derived.Lib.SmallJoins
import Derived.Test.YtjbppdkijjfejakM02
namespace Go.Proofs.Ytjbppdkijjfejak
open Go.RowKit
set_option maxRecDepth 100000

/-- Where the marks of inode j begin. -/
def inum (k : Nat) (ds : List ID) (j : Nat) : Nat := k + upto (isp ds) j
/-- What stands of a list of inodes of which the first j are marked. -/
structure HalfI (w : World) (b n j : Nat) (ds : List ID) (u : Nat → Value × Value) (F1 G1 : Nat → Nat → Prop) : Prop where
  row : ∃ f, OwnRow w b (n * 5) f ∧ (∀ i, i < n → f (i * 5 + 3) = (u i).1 ∧ f (i * 5 + 4) = (u i).2) ∧ ∀ i, i < n → ∀ q, q < 3 → ∃ z, f (i * 5 + q) = .int .i64 z
  ints : ∀ i, j ≤ i → i < n → IntsO w (u i).1 (ds[i]?.getD id0).2.2.2.1 (F1 i)
  ents : ∀ i, j ≤ i → i < n → EntsO w (u i).2 (ds[i]?.getD id0).2.2.2.2 (G1 i)
theorem HalfI.row_set {w : World} {b n j q : Nat} {ds : List ID} {u : Nat → Value × Value} {F1 G1 : Nat → Nat → Prop} (h : HalfI w b n j ds u F1 G1) (i : Nat) (hq : q < 3) (z : Int) (hF : ∀ i, ¬ F1 i b) (hG : ∀ i, ¬ G1 i b) : HalfI (w.setCell ⟨b, i * 5 + q, none⟩ (.int .i64 z)) b n j ds u F1 G1 := by
  obtain ⟨f, hr, h1, h2⟩ := h.row
  refine ⟨⟨_, hr.set (i * 5 + q) (.int .i64 z), fun k hk => ?_, fun k hk p hp => ?_⟩, fun k hj hk => (h.ints k hj hk).keep fun c hc _ => Below.heap_setCell _ _ _ _ (fun e => hF k (by have e' : c = b := e; rwa [e'] at hc)), fun k hj hk => (h.ents k hj hk).keep fun c hc _ => Below.heap_setCell _ _ _ _ (fun e => hG k (by have e' : c = b := e; rwa [e'] at hc))⟩
  · rw [if_neg (by omega), if_neg (by omega)]
    exact h1 k hk
  · by_cases e : k * 5 + p = i * 5 + q
    · exact ⟨z, by rw [if_pos e]⟩
    · rw [if_neg e]; exact h2 k hk p hp

set_option maxHeartbeats 6400000 in
theorem markInos_walk (w : World) (b cap n k : Nat) (F : Nat → Prop) (ds : List ID) (u : Nat → Value × Value) (F1 G1 : Nat → Nat → Prop) (hF : F b) (hFF : ∀ i c, F1 i c → F c ∧ c ≠ b) (hGF : ∀ i c, G1 i c → F c ∧ c ≠ b) (hFG : ∀ i j c, F1 i c → ¬ G1 j c) (hFd : ∀ i j c, i ≠ j → F1 i c → ¬ F1 j c) (hGd : ∀ i j c, i ≠ j → G1 i c → ¬ G1 j c)
    (hn : ds.length = n) (hk0 : 1 ≤ k) (hk : k + spanInos ds ≤ 4294967296) (hn2 : n ≤ 9223372036854775807) (h0 : HalfI w b n 0 ds u F1 G1) :
    Calls Try.prog 20 #[.slice (some ⟨b, 0, none⟩) n cap, .int .i64 (k : Int)] w fun e w' => e = .returned (.int .i64 ((k + spanInos ds : Nat) : Int)) ∧ Chg F w w' := by
  have H0 : Hid (HalfI w b n 0 ds u F1 G1) := h0
  have HF : Hid (F b) := hF
  have HFF : Hid (∀ i c, F1 i c → F c ∧ c ≠ b) := hFF
  have HGF : Hid (∀ i c, G1 i c → F c ∧ c ≠ b) := hGF
  have HFG : Hid (∀ i j c, F1 i c → ¬ G1 j c) := hFG
  have HFD : Hid (∀ i j c, i ≠ j → F1 i c → ¬ F1 j c) := hFd
  have HGD : Hid (∀ i j c, i ≠ j → G1 i c → ¬ G1 j c) := hGd
  have HN : Hid (ds.length = n) := hn
  have HE : Hid (inum k ds n = k + spanInos ds) := by
    have := upto_all (isp ds)
    rw [isp_length, hn] at this
    unfold Hid inum spanInos
    rw [this]
  have HBD : Hid (∀ j, j < n → inum k ds j + 3 + (ds[j]?.getD id0).2.2.2.1.length + 2 * (ds[j]?.getD id0).2.2.2.2.length = inum k ds (j + 1) ∧ inum k ds (j + 1) ≤ 4294967296) := fun j hj => by
    have h1 := upto_succ (isp ds) j (by rw [isp_length]; omega)
    rw [isp_get ds j (by omega)] at h1
    have h2 := upto_le (isp ds) (j + 1)
    have h3 : spanIno (ds[j]?.getD id0) = (ds[j]?.getD id0).2.2.2.1.length + 2 * (ds[j]?.getD id0).2.2.2.2.length := rfl
    have h4 : spanInos ds = (isp ds).sum := rfl
    unfold inum
    omega
  have HI0 : Hid (inum k ds 0 = k) := by unfold Hid inum; rw [upto_zero, Nat.add_zero]
  have HK1 : Hid (∀ j, 1 ≤ inum k ds j) := fun j => by unfold inum; omega
  rw [← HE.out]
  clear h0 hF hFF hGF hFG hFd hGd hn hk HE
  generalize inum k ds = N at *
  go_enter Try.func20, Try.ntmps20
  go_wp2
  go_loopw [1, 5] (fun q i wr => ∃ j : Nat, j ≤ n ∧ i = .int .i64 j ∧ q = .int .i64 ((N j : Nat) : Int) ∧ HalfI wr b n j ds u F1 G1 ∧ Chg F w wr) (fun _ i _ => n - (intOf i).toNat)
  case atStart => exact ⟨0, Nat.zero_le _, rfl, by rw [HI0.out], H0.out, Chg.refl _ _⟩
  case round =>
    obtain ⟨j, hj, rfl, rfl, hh, hch⟩ := hrel
    have HH : Hid (HalfI wr b n j ds u F1 G1) := hh
    have HCH : Hid (Chg F w wr) := hch
    clear hh hch H0
    by_cases hlt : j < n
    · obtain ⟨hs, hle⟩ := HBD.out j hlt
      have hN1 := HK1.out j
      have hNb : N j + 3 ≤ 4294967296 := by omega
      have HSN : Hid (N j + 3 + (ds[j]?.getD id0).2.2.2.1.length + 2 * (ds[j]?.getD id0).2.2.2.2.length = N (j + 1)) := hs
      obtain ⟨f, hr, hu, hz⟩ := HH.out.row
      obtain ⟨z0, e0⟩ := hz j hlt 0 (by omega)
      obtain ⟨z1, e1⟩ := hz j hlt 1 (by omega)
      obtain ⟨z2, e2⟩ := hz j hlt 2 (by omega)
      have c0 : wr.cell? ⟨b, j * 5, none⟩ = some (.int .i64 z0) := by rw [hr.cell (by omega)]; exact congrArg some e0
      have c1 : wr.cell? ⟨b, j * 5 + 1, none⟩ = some (.int .i64 z1) := by rw [hr.cell (by omega), e1]
      have c2 : wr.cell? ⟨b, j * 5 + 2, none⟩ = some (.int .i64 z2) := by rw [hr.cell (by omega), e2]
      have c3 : wr.cell? ⟨b, j * 5 + 3, none⟩ = some (u j).1 := by rw [hr.cell (by omega), (hu j hlt).1]
      have c4 : wr.cell? ⟨b, j * 5 + 4, none⟩ = some (u j).2 := by rw [hr.cell (by omega), (hu j hlt).2]
      have f0 := hr.frozen (j * 5)
      have f1 := hr.frozen (j * 5 + 1)
      have f2 := hr.frozen (j * 5 + 2)
      have hbw := hr.lt
      clear hr hu hz e0 e1 e2 f
      have nF : ∀ i, ¬ F1 i b := fun i h => (HFF.out i b h).2 rfl
      have nG : ∀ i, ¬ G1 i b := fun i h => (HGF.out i b h).2 rfl
      have HH3 : Hid (HalfI (((wr.setCell ⟨b, j * 5, none⟩ (.int .i64 ((N j : Nat) : Int))).setCell ⟨b, j * 5 + 1, none⟩ (.int .i64 (((N j : Nat) : Int) + 1))).setCell ⟨b, j * 5 + 2, none⟩ (.int .i64 (((N j : Nat) : Int) + 1 + 1))) b n j ds u F1 G1) :=
        ((HH.out.row_set (q := 0) j (by omega) _ nF nG).row_set (q := 1) j (by omega) _ nF nG).row_set (q := 2) j (by omega) _ nF nG
      have HCH3 : Hid (Chg F w (((wr.setCell ⟨b, j * 5, none⟩ (.int .i64 ((N j : Nat) : Int))).setCell ⟨b, j * 5 + 1, none⟩ (.int .i64 (((N j : Nat) : Int) + 1))).setCell ⟨b, j * 5 + 2, none⟩ (.int .i64 (((N j : Nat) : Int) + 1 + 1)))) := ((HCH.out.set HF.out _ _).set HF.out _ _).set HF.out _ _
      have HIJ := HH3.out.ints j (Nat.le_refl _) hlt
      have HEJ := HH3.out.ents j (Nat.le_refl _) hlt
      obtain ⟨aB, cB, eB, _⟩ := HIJ.ints.shape
      obtain ⟨aE, cE, eE, _⟩ := HEJ.reads.open'
      rw [eB] at c3 HIJ
      rw [eE] at c4 HEJ
      have HEE : Hid ((u j).2 = .slice aE (ds[j]?.getD id0).2.2.2.2.length cE) := eE
      have HIJ' : Hid (IntsO _ (.slice aB (ds[j]?.getD id0).2.2.2.1.length cB) (ds[j]?.getD id0).2.2.2.1 (F1 j)) := HIJ
      clear HIJ HEJ eB eE nF nG hs
      go_wp2_with fail
      clear c0 c1 c2 c3 c4 f0 f1 f2
      refine (markInts_any (((N j : Nat) : Int) + 1 + 1 + 1) HIJ'.out (by omega) (by have := HSN.out; omega)).mono ?_
      rintro e w1 ⟨rfl, -, hc1⟩
      obtain ⟨q, hq⟩ : ∃ q : Nat, ((N j : Nat) : Int) + 1 + 1 + 1 + ((ds[j]?.getD id0).2.2.2.1.length : Nat) = (q : Int) := ⟨N j + 3 + (ds[j]?.getD id0).2.2.2.1.length, by omega⟩
      rw [hq]
      have hqn : q + 2 * (ds[j]?.getD id0).2.2.2.2.length = N (j + 1) := by have := HSN.out; omega
      have HQN : Hid (((q + 2 * (ds[j]?.getD id0).2.2.2.2.length : Nat) : Int) = ((N (j + 1) : Nat) : Int)) := by unfold Hid; rw [hqn]
      have hq1 : 1 ≤ q := by omega
      have hH1 : HalfI w1 b n (j + 1) ds u F1 G1 := ⟨by
        obtain ⟨f, hr, h1, h2⟩ := HH3.out.row
        exact ⟨f, hr.block (hc1.block b hr.lt (fun h => (HFF.out j b h).2 rfl)), h1, h2⟩, fun i hi hin => (HH3.out.ints i (by omega) hin).keep fun c hc hl => hc1.block c hl (HFD.out i j c (by omega) hc), fun i hi hin => (HH3.out.ents i (by omega) hin).keep fun c hc hl => hc1.block c hl (fun h => HFG.out j i c h hc)⟩
      have HEJ1 : Hid (EntsO w1 (.slice aE (ds[j]?.getD id0).2.2.2.2.length cE) (ds[j]?.getD id0).2.2.2.2 (G1 j)) := by
        have := (HH3.out.ents j (Nat.le_refl _) hlt).keep (w' := w1) fun c hc hl => hc1.block c hl (fun h => HFG.out j j c h hc)
        rw [HEE.out] at this
        exact this
      obtain ⟨f, hr, hu, hz⟩ := hH1.row
      have c4 : w1.cell? ⟨b, j * 5 + 4, none⟩ = some (.slice aE (ds[j]?.getD id0).2.2.2.2.length cE) := by rw [hr.cell (by omega), (hu j hlt).2, HEE.out]
      have HH1 : Hid (HalfI w1 b n (j + 1) ds u F1 G1) := hH1
      have HCH1 : Hid (Chg F w w1) := HCH3.out.trans (hc1.mono fun c hc => (HFF.out j c hc).1)
      clear hz hc1 hH1 hr hu f HH3 HCH3 HIJ' hq
      go_wp2_with fail
      refine (markEntsU q HEJ1.out hq1 (by omega)).mono ?_
      rintro e w2 ⟨rfl, -, hc2⟩
      rw [HQN.out]
      have HH2 : Hid (HalfI w2 b n (j + 1) ds u F1 G1) := ⟨by
        obtain ⟨f, hr, h1, h2⟩ := HH1.out.row
        exact ⟨f, hr.block (hc2.block b hr.lt (fun h => (HGF.out j b h).2 rfl)), h1, h2⟩, fun i hi hin => (HH1.out.ints i hi hin).keep fun c hc hl => hc2.block c hl (fun h => HFG.out i j c hc h), fun i hi hin => (HH1.out.ents i hi hin).keep fun c hc hl => hc2.block c hl (HGD.out i j c (by omega) hc)⟩
      have HCH2 : Hid (Chg F w w2) := HCH1.out.trans (hc2.mono fun c hc => (HGF.out j c hc).1)
      clear hc2 c4 HH1 HCH1 HEJ1
      go_wp2
      go_roundw
      case rel => exact ⟨j + 1, by omega, by go_num, rfl, HH2.out, HCH2.out⟩
      case measure => simp [intOf]; omega
    · have HJ : Hid (N j = N n) := by unfold Hid; rw [show j = n by omega]
      go_wp2
      go_ret
      exact ⟨ret_int (by rw [HJ.out]), HCH.out⟩

set_option maxHeartbeats 800000 in
theorem markInos_nil (w : World) (a : Option Addr) (cap : Nat) (k : Int) :
    Calls Try.prog 20 #[.slice a 0 cap, .int .i64 k] w fun e w' => e = .returned (.int .i64 k) ∧ w' = w := by
  go_enter Try.func20, Try.ntmps20
  go_wp2
  go_loop [1, 5] (fun q i => i = .int .i64 0 ∧ q = .int .i64 k) (fun _ _ => 0)
  case atStart => exact ⟨rfl, rfl⟩
  case round =>
    obtain ⟨rfl, rfl⟩ := hrel
    go_wp2
    go_ret
    exact ⟨rfl, rfl⟩

theorem choose_fg {n : Nat} {P : Nat → (Nat → Prop) → (Nat → Prop) → Prop} (h : ∀ i, i < n → ∃ F G, P i F G) : ∃ (F G : Nat → Nat → Prop), ∀ i, i < n → P i (F i) (G i) := by
  have h' : ∀ i, ∃ FG : (Nat → Prop) × (Nat → Prop), i < n → P i FG.1 FG.2 := fun i => by
    by_cases hi : i < n
    · obtain ⟨F, G, hp⟩ := h i hi
      exact ⟨(F, G), fun _ => hp⟩
    · exact ⟨(fun _ => False, fun _ => False), fun h => absurd h hi⟩
  exact ⟨fun i => (Classical.choose (h' i)).1, fun i => (Classical.choose (h' i)).2, fun i hi => Classical.choose_spec (h' i) hi⟩

theorem markInosU {w : World} {v : Value} {ds : List ID} {F : Nat → Prop} (k : Int) (h : InosO w v ds F) (hk0 : 1 ≤ k) (hk : k + (spanInos ds : Nat) ≤ 4294967296) :
    Calls Try.prog 20 #[v, .int .i64 k] w fun e w' => e = .returned (.int .i64 (k + (spanInos ds : Nat))) ∧ Chg F w w' := by
  rcases h with ⟨rfl, a, cap, rfl⟩ | ⟨b, cap, u, G, hF, hG, hGG, rfl, hl, hr, hu⟩
  · exact (markInos_nil w a cap k).mono fun e w' ⟨he, hw⟩ => ⟨by rw [he]; simp [spanInos, isp], hw ▸ Chg.refl _ _⟩
  · obtain ⟨q, rfl⟩ := Int.eq_ofNat_of_zero_le (a := k) (by omega)
    obtain ⟨F1, G1, hfg⟩ := choose_fg (fun i hi => (hu i hi).2)
    have hm : ds.length ≤ 9223372036854775807 := by have := hl.1; unfold maxLen at this; omega
    have := markInos_walk w b cap ds.length q F ds u (fun i c => i < ds.length ∧ F1 i c) (fun i c => i < ds.length ∧ G1 i c) hF (fun i c hc => hG i c ((hfg i hc.1).2.2.2 c (Or.inl hc.2))) (fun i c hc => hG i c ((hfg i hc.1).2.2.2 c (Or.inr hc.2)))
      (fun i j c hc hc' => by
        by_cases e : i = j
        · subst e; exact (hfg i hc.1).2.2.1 c hc.2 hc'.2
        · exact hGG i j c e ((hfg i hc.1).2.2.2 c (Or.inl hc.2)) ((hfg j hc'.1).2.2.2 c (Or.inr hc'.2)))
      (fun i j c e hc hc' => hGG i j c e ((hfg i hc.1).2.2.2 c (Or.inl hc.2)) ((hfg j hc'.1).2.2.2 c (Or.inl hc'.2)))
      (fun i j c e hc hc' => hGG i j c e ((hfg i hc.1).2.2.2 c (Or.inr hc.2)) ((hfg j hc'.1).2.2.2 c (Or.inr hc'.2))) rfl (by omega) (by omega) hm
      ⟨⟨_, hr, fun i _ => ⟨inCell_3 ds u i, inCell_4 ds u i⟩, fun i _ p hp => by
        have : p = 0 ∨ p = 1 ∨ p = 2 := by omega
        rcases this with rfl | rfl | rfl
        · exact ⟨_, inCell_0 ds u i⟩
        · exact ⟨_, inCell_1 ds u i⟩
        · exact ⟨_, inCell_2 ds u i⟩⟩, fun i _ hi => (hfg i hi).1.mono fun c hc => ⟨hi, hc⟩, fun i _ hi => (hfg i hi).2.1.mono fun c hc => ⟨hi, hc⟩⟩
    exact this.mono fun e w' ⟨h1, h2⟩ => ⟨by rw [h1]; congr 2, h2⟩
end Go.Proofs.Ytjbppdkijjfejak

namespace Go.Proofs.Ytjbppdkijjfejak
open Go.RowKit
set_option maxRecDepth 100000

/-- Block b holds vs and is not frozen. -/
theorem Obx.row {w : World} {b : Nat} {x y : Value} {t : TypeId} (h : Obx w b [x, y] t) : OwnRow w b 2 (fun i => if i = 0 then x else y) := by
  refine ⟨_, _, h, by simp, fun i hi => ?_⟩
  have : i = 0 ∨ i = 1 := by omega
  rcases this with rfl | rfl <;> simp

end Go.Proofs.Ytjbppdkijjfejak

namespace Go.Proofs.Ytjbppdkijjfejak
open Go.RowKit
set_option maxRecDepth 100000

theorem eqIntsResultU (w : World) (c : Int) (va vb : Value) (zs : List Int) (h1 : Ints w va zs) (h2 : Ints w vb zs) :
    Calls Try.prog 18 #[.agg #[.int .i64 c, va], .agg #[.int .i64 c, vb]] w fun e w' => e = .returned (.bool true) ∧ Below w.heap.size w w' := eqIntsResult_true w c va vb zs h1 h2
def mkInts (k : Int) (zs : List Int) : List Int := marks k zs.length
theorem markIntsResultU (w : World) (c : Int) (v : Value) (zs : List Int) (F : Nat → Prop) (k : Int) (h : IntsO w v zs F) (hk0 : 0 ≤ k) (hk : k + (List.length zs : Nat) ≤ 4611686018427387904) :
    Calls Try.prog 21 #[.agg #[.int .i64 c, v], .int .i64 k] w fun e w' => e = .returned (.int .i64 (k + (List.length zs : Nat))) ∧ IntsO w' v (mkInts k zs) F ∧ Chg F w w' := markIntsResult_any w c v zs F k h hk0 hk
theorem heldIntsResultU (w : World) (c : Int) (v : Value) (zs : List Int) (F : Nat → Prop) (k : Int) (h : IntsO w v (mkInts k zs) F) (hk0 : 0 ≤ k) (hk : k + (List.length zs : Nat) ≤ 4611686018427387904) :
    Calls Try.prog 22 #[.agg #[.int .i64 c, v], .int .i64 k] w fun e w' => e = .returned (.int .i64 (k + (List.length zs : Nat))) ∧ Below w.heap.size w w' := heldIntsResult_any w c v zs.length k h.reads hk0 hk
end Go.Proofs.Ytjbppdkijjfejak

namespace Go.Proofs.Ytjbppdkijjfejak
open Go.RowKit
set_option maxRecDepth 100000

abbrev E3 := Int × Int × Int
/-- The cells of a row of extents. -/
def exCell (es : List E3) (j : Nat) : Value := .int .i64 (if j % 3 = 0 then (es[j / 3]?.getD (0, 0, 0)).1 else if j % 3 = 1 then (es[j / 3]?.getD (0, 0, 0)).2.1 else (es[j / 3]?.getD (0, 0, 0)).2.2)
theorem exCell_0 (es : List E3) (k : Nat) : exCell es (k * 3) = .int .i64 (es[k]?.getD (0, 0, 0)).1 := by
  unfold exCell; rw [if_pos (by omega), show k * 3 / 3 = k by omega]
theorem exCell_1 (es : List E3) (k : Nat) : exCell es (k * 3 + 1) = .int .i64 (es[k]?.getD (0, 0, 0)).2.1 := by
  unfold exCell; rw [if_neg (by omega), if_pos (by omega), show (k * 3 + 1) / 3 = k by omega]
theorem exCell_2 (es : List E3) (k : Nat) : exCell es (k * 3 + 2) = .int .i64 (es[k]?.getD (0, 0, 0)).2.2 := by
  unfold exCell; rw [if_neg (by omega), if_neg (by omega), show (k * 3 + 2) / 3 = k by omega]

/-- Where the extents of a list lie. -/
def AtE (w : World) (a : Option Addr) (n : Nat) (es : List E3) : Prop :=
  ∀ k, k < n → ∃ b off, a = some ⟨b, off, none⟩ ∧ w.cell? ⟨b, off + k * 3, none⟩ = some (.int .i64 (es[k]?.getD (0, 0, 0)).1) ∧ w.cell? ⟨b, off + k * 3 + 1, none⟩ = some (.int .i64 (es[k]?.getD (0, 0, 0)).2.1) ∧ w.cell? ⟨b, off + k * 3 + 2, none⟩ = some (.int .i64 (es[k]?.getD (0, 0, 0)).2.2)
theorem AtE.later {w w' : World} {a : Option Addr} {n : Nat} {es : List E3} (h : AtE w a n es) (hb : Below w.heap.size w w') : AtE w' a n es := fun k hk => by
  obtain ⟨b, off, e, c0, c1, c2⟩ := h k hk
  exact ⟨b, off, e, cell_later hb c0, cell_later hb c1, cell_later hb c2⟩
/-- The slice v reads as the extents es. -/
def Exts (w : World) (v : Value) (es : List E3) : Prop := ∃ a cap, v = .slice a es.length cap ∧ (es.length ≤ maxLen ∧ es.length ≤ cap) ∧ AtE w a es.length es
theorem Exts.later {w w' : World} {v : Value} {es : List E3} (h : Exts w v es) (hb : Below w.heap.size w w') : Exts w' v es := by
  obtain ⟨a, cap, h1, h2, h3⟩ := h
  exact ⟨a, cap, h1, h2, h3.later hb⟩
theorem Exts.open' {w : World} {v : Value} {es : List E3} (h : Exts w v es) : ∃ a cap, v = .slice a es.length cap ∧ es.length ≤ maxLen ∧ AtE w a es.length es := by
  obtain ⟨a, cap, h1, h2, h3⟩ := h
  exact ⟨a, cap, h1, h2.1, h3⟩
theorem Exts.cap {w : World} {a : Option Addr} {n c : Nat} {es : List E3} (h : Exts w (.slice a n c) es) : es.length ≤ c := by
  obtain ⟨a', c', h1, h2, _⟩ := h
  simp only [Value.slice.injEq] at h1
  rw [h1.2.2]
  exact h2.2
theorem Exts.nil (w : World) (a : Option Addr) (cap : Nat) : Exts w (.slice a 0 cap) [] := ⟨a, cap, rfl, by simp, fun k hk => by simp at hk⟩

/-- The slice v holds the extents es, in one block of F. -/
def ExtsO (w : World) (v : Value) (es : List E3) (F : Nat → Prop) : Prop :=
  (es = [] ∧ ∃ a cap, v = .slice a 0 cap) ∨
  (∃ b cap, F b ∧ v = .slice (some ⟨b, 0, none⟩) es.length cap ∧ (es.length ≤ maxLen ∧ es.length ≤ cap) ∧ OwnRow w b (es.length * 3) (exCell es))
theorem OwnRow.atE {w : World} {b n : Nat} {es : List E3} (h : OwnRow w b (n * 3) (exCell es)) : AtE w (some ⟨b, 0, none⟩) n es := fun k hk =>
  ⟨b, 0, rfl, by rw [Nat.zero_add, h.cell (by omega), exCell_0], by rw [Nat.zero_add, h.cell (by omega), exCell_1], by rw [Nat.zero_add, h.cell (by omega), exCell_2]⟩
theorem ExtsO.reads {w : World} {v : Value} {es : List E3} {F : Nat → Prop} (h : ExtsO w v es F) : Exts w v es := by
  rcases h with ⟨rfl, a, cap, rfl⟩ | ⟨b, cap, _, h1, h2, h3⟩
  · exact Exts.nil w a cap
  · exact ⟨_, cap, h1, h2, h3.atE⟩
theorem ExtsO.keep {w w' : World} {v : Value} {es : List E3} {F : Nat → Prop} (h : ExtsO w v es F) (e : ∀ b, F b → b < w.heap.size → w'.heap[b]? = w.heap[b]?) : ExtsO w' v es F := by
  rcases h with h | ⟨b, cap, hF, h1, h2, h3⟩
  · exact Or.inl h
  · exact Or.inr ⟨b, cap, hF, h1, h2, h3.block (e b hF h3.lt)⟩
theorem ExtsO.mono {w : World} {v : Value} {es : List E3} {F G : Nat → Prop} (h : ExtsO w v es F) (e : ∀ b, F b → G b) : ExtsO w v es G := by
  rcases h with h | ⟨b, cap, hF, h1⟩
  · exact Or.inl h
  · exact Or.inr ⟨b, cap, e b hF, h1⟩
theorem ExtsO.bound {w : World} {v : Value} {es : List E3} {F : Nat → Prop} (h : ExtsO w v es F) : ExtsO w v es (fun b => F b ∧ b < w.heap.size) := by
  rcases h with h | ⟨b, cap, hF, h1, h2, h3⟩
  · exact Or.inl h
  · exact Or.inr ⟨b, cap, ⟨hF, h3.lt⟩, h1, h2, h3⟩
theorem ExtsO.later {w w' : World} {v : Value} {es : List E3} {F : Nat → Prop} (h : ExtsO w v es F) (hb : Below w.heap.size w w') : ExtsO w' v es F := h.keep fun b _ hlt => hb.block b hlt
theorem ExtsO.store {w : World} {v : Value} {es : List E3} {F : Nat → Prop} (h : ExtsO w v es F) {p : Addr} (hp : ∀ b, F b → b ≠ p.block) (x : Value) : ExtsO (w.setCell p x) v es F := h.keep fun b hb _ => Below.heap_setCell _ _ _ _ (hp b hb)

/-- The marks of n extents, from k on. -/
def marksE (k : Int) (n : Nat) : List E3 := (List.range n).map fun i : Nat => (k + 3 * (i : Int), k + 3 * (i : Int) + 1, k + 3 * (i : Int) + 2)
theorem marksE_length (k : Int) (n : Nat) : (marksE k n).length = n := by simp [marksE]
theorem marksE_get (k : Int) {n i : Nat} (h : i < n) : (marksE k n)[i]?.getD (0, 0, 0) = (k + 3 * (i : Int), k + 3 * (i : Int) + 1, k + 3 * (i : Int) + 2) := by simp [marksE, h]
theorem exCell_marks (k : Int) {n c : Nat} (h : c < n * 3) : exCell (marksE k n) c = .int .i64 (k + (c : Int)) := by
  have h3 : c / 3 < n := by omega
  unfold exCell
  rw [marksE_get k h3]
  congr 1
  have : c % 3 = 0 ∨ c % 3 = 1 ∨ c % 3 = 2 := by omega
  rcases this with e | e | e
  · rw [if_pos e]; omega
  · rw [if_neg (by omega), if_pos e]; show k + 3 * ((c / 3 : Nat) : Int) + 1 = k + (c : Int); omega
  · rw [if_neg (by omega), if_neg (by omega)]; show k + 3 * ((c / 3 : Nat) : Int) + 2 = k + (c : Int); omega

/-- 'make' of n triples. -/
theorem run_make_trip {P : Program} (t e : TypeId) (x y z : Value) (bytes : Nat) (ht : P.underlying t = some (.slice e)) (hinfo : (P.info? e).map (fun i => (i.zero, i.size, i.bytes)) = some (some (.agg #[x, y, z]), 3, bytes)) (hz : (Value.agg #[x, y, z]).cells = #[x, y, z])
    (kl kc : IntKind) (n : Nat) (hbytes : bytes * n ≤ 281474976710656) (h63 : n ≤ 9223372036854775807) (w : World) :
    (Instr.makeSlice t (.int kl (n : Int)) (.int kc (n : Int))).run P w = .ok (.slice (some ⟨w.heap.size, 0, none⟩) n n) (w.alloc (.cells (madeCells #[x, y, z] (n * 3)) e)) := by
  obtain ⟨i, hi, hzz⟩ := Option.map_eq_some_iff.1 hinfo
  simp only [Prod.mk.injEq] at hzz
  obtain ⟨h1, h2, h3⟩ := hzz
  have hb' : (i.bytes : Int) * (n : Int) ≤ 281474976710656 := by
    have h : ((i.bytes * n : Nat) : Int) ≤ 281474976710656 := by rw [h3]; omega
    rwa [Int.natCast_mul] at h
  have hr := run_make (P := P) w t e i _ ht hi h1 kl kc n n (by omega) (Int.le_refl _) hb' (by omega)
  simp only [Int.toNat_natCast, h2, hz] at hr
  exact hr
theorem OwnRow.madeTrip (w : World) (n : Nat) (t : TypeId) : OwnRow (w.alloc (.cells (madeCells #[.int .i64 0, .int .i64 0, .int .i64 0] (n * 3)) t)) w.heap.size (n * 3) (fun _ => .int .i64 0) := by
  refine ⟨_, t, Go.Deep.blk_alloc_new _ _, by rw [size_madeCells]; exact Nat.le_refl _, fun i hi => ?_⟩
  unfold madeCells
  rw [Array.getElem?_map]
  have h1 : (Array.range (n * 3))[i]? = some i := by simp [hi]
  rw [h1]
  have : i % 3 = 0 ∨ i % 3 = 1 ∨ i % 3 = 2 := by omega
  rcases this with e | e | e <;> simp [e]
/-- The cells of a row of extents of which the first j stand. -/
def partE (es : List E3) (j c : Nat) : Value := if c < j * 3 then exCell es c else .int .i64 0
theorem partE_next (es : List E3) (j c : Nat) : (if c = j * 3 + 2 then .int .i64 (es[j]?.getD (0, 0, 0)).2.2 else (if c = j * 3 + 1 then .int .i64 (es[j]?.getD (0, 0, 0)).2.1 else (if c = j * 3 then .int .i64 (es[j]?.getD (0, 0, 0)).1 else partE es j c))) = partE es (j + 1) c := by
  unfold partE
  by_cases e2 : c = j * 3 + 2
  · subst e2; rw [if_pos rfl, if_pos (by omega), exCell_2]
  · rw [if_neg e2]
    by_cases e1 : c = j * 3 + 1
    · subst e1; rw [if_pos rfl, if_pos (by omega), exCell_1]
    · rw [if_neg e1]
      by_cases e0 : c = j * 3
      · subst e0; rw [if_pos rfl, if_pos (by omega), exCell_0]
      · rw [if_neg e0]
        by_cases h : c < j * 3
        · rw [if_pos h, if_pos (by omega)]
        · rw [if_neg h, if_neg (by omega)]
end Go.Proofs.Ytjbppdkijjfejak

namespace Go.Proofs.Ytjbppdkijjfejak
open Go.RowKit
set_option maxRecDepth 100000

abbrev KD := DK × List E3
def KernR (w : World) (vB vC vE : Value) (d : KD) : Prop := DiskR w vB vC d.1 ∧ Exts w vE d.2
theorem KernR.later {w w' : World} {vB vC vE : Value} {d : KD} (h : KernR w vB vC vE d) (hb : Below w.heap.size w w') : KernR w' vB vC vE d := ⟨h.1.later hb, h.2.later hb⟩
def KernU (w : World) (vB vC vE : Value) (d : KD) (F : Nat → Prop) : Prop := ∃ F1 G1 : Nat → Prop, DiskU w vB vC d.1 F1 ∧ ExtsO w vE d.2 G1 ∧ (∀ b, F1 b → ¬ G1 b) ∧ ∀ b, F1 b ∨ G1 b → F b
theorem DiskU.keep {w w' : World} {vB vC : Value} {d : DK} {F : Nat → Prop} (h : DiskU w vB vC d F) (e : ∀ b, F b → b < w.heap.size → w'.heap[b]? = w.heap[b]?) : DiskU w' vB vC d F := DiskO.keep h e
theorem KernU.reads {w : World} {vB vC vE : Value} {d : KD} {F : Nat → Prop} (h : KernU w vB vC vE d F) : KernR w vB vC vE d := by
  obtain ⟨_, _, h1, h2, _⟩ := h
  exact ⟨h1.reads, h2.reads⟩
theorem KernU.keep {w w' : World} {vB vC vE : Value} {d : KD} {F : Nat → Prop} (h : KernU w vB vC vE d F) (e : ∀ b, F b → b < w.heap.size → w'.heap[b]? = w.heap[b]?) : KernU w' vB vC vE d F := by
  obtain ⟨F1, G1, h1, h2, hd, hf⟩ := h
  exact ⟨F1, G1, h1.keep fun b hb => e b (hf b (Or.inl hb)), h2.keep fun b hb => e b (hf b (Or.inr hb)), hd, hf⟩
theorem KernU.later {w w' : World} {vB vC vE : Value} {d : KD} {F : Nat → Prop} (h : KernU w vB vC vE d F) (hb : Below w.heap.size w w') : KernU w' vB vC vE d F := h.keep fun b _ hlt => hb.block b hlt
theorem KernU.mono {w : World} {vB vC vE : Value} {d : KD} {F G : Nat → Prop} (h : KernU w vB vC vE d F) (e : ∀ b, F b → G b) : KernU w vB vC vE d G := by
  obtain ⟨F1, G1, h1, h2, hd, hf⟩ := h
  exact ⟨F1, G1, h1, h2, hd, fun b hb => e b (hf b hb)⟩
theorem KernU.chg {w w' : World} {vB vC vE : Value} {d : KD} {F G : Nat → Prop} (h : KernU w vB vC vE d F) (hc : Chg G w w') (hd : ∀ b, F b → ¬ G b) : KernU w' vB vC vE d F := h.keep fun b hb hlt => hc.block b hlt (hd b hb)
theorem DiskU.bound {w : World} {vB vC : Value} {d : DK} {F : Nat → Prop} (h : DiskU w vB vC d F) : DiskU w vB vC d (fun b => F b ∧ b < w.heap.size) := DiskO.bound h
theorem KernU.bound {w : World} {vB vC vE : Value} {d : KD} {F : Nat → Prop} (h : KernU w vB vC vE d F) : KernU w vB vC vE d (fun b => F b ∧ b < w.heap.size) := by
  obtain ⟨F1, G1, h1, h2, hd, hf⟩ := h
  exact ⟨_, _, h1.bound, h2.bound, fun b hb hb' => hd b hb.1 hb'.1, fun b hb => hb.elim (fun h => ⟨hf b (Or.inl h.1), h.2⟩) (fun h => ⟨hf b (Or.inr h.1), h.2⟩)⟩
def sizeKern (d : KD) : Nat := sizeDisk d.1 + d.2.length

theorem OwnRow.new3 (w : World) (x y z : Value) (t : TypeId) : OwnRow (w.alloc (.cells #[x, y, z] t)) w.heap.size 3 (fun i => if i = 0 then x else if i = 1 then y else z) := by
  refine ⟨_, t, Go.Deep.blk_alloc_new _ _, by simp, fun i hi => ?_⟩
  have : i = 0 ∨ i = 1 ∨ i = 2 := by omega
  rcases this with rfl | rfl | rfl <;> simp

def spanKern (d : KD) : Nat := spanDisk d.1 + 3 * d.2.length
theorem spanKern_le (d : KD) : spanKern d ≤ 3 * sizeKern d := by have := spanDisk_le d.1; unfold spanKern sizeKern; omega
def mkKern (k : Int) (d : KD) : KD := (mkDisk k d.1, marksE (k + (spanDisk d.1 : Nat)) d.2.length)
theorem mkDisk_len1 (k : Int) (d : DK) : (mkDisk k d).1.length = d.1.length := by simp [mkDisk, marksS_length]
theorem mkDisk_len2 (k : Int) (d : DK) : (mkDisk k d).2.length = d.2.length := by simp [mkDisk, marksP_length, wlens]

end Go.Proofs.Ytjbppdkijjfejak

namespace Go.Proofs.Ytjbppdkijjfejak
open Go.RowKit
set_option maxRecDepth 100000

abbrev KResD := List Int × KD
def KResR (w : World) (vW vB vC vE : Value) (d : KResD) : Prop := Ints w vW d.1 ∧ KernR w vB vC vE d.2
theorem KResR.later {w w' : World} {vW vB vC vE : Value} {d : KResD} (h : KResR w vW vB vC vE d) (hb : Below w.heap.size w w') : KResR w' vW vB vC vE d := ⟨h.1.later hb, h.2.later hb⟩
def KResU (w : World) (vW vB vC vE : Value) (d : KResD) (F : Nat → Prop) : Prop := ∃ F1 G1 : Nat → Prop, IntsO w vW d.1 F1 ∧ KernU w vB vC vE d.2 G1 ∧ (∀ b, F1 b → ¬ G1 b) ∧ ∀ b, F1 b ∨ G1 b → F b
theorem KResU.reads {w : World} {vW vB vC vE : Value} {d : KResD} {F : Nat → Prop} (h : KResU w vW vB vC vE d F) : KResR w vW vB vC vE d := by
  obtain ⟨_, _, h1, h2, _⟩ := h
  exact ⟨h1.reads, h2.reads⟩
theorem KResU.keep {w w' : World} {vW vB vC vE : Value} {d : KResD} {F : Nat → Prop} (h : KResU w vW vB vC vE d F) (e : ∀ b, F b → b < w.heap.size → w'.heap[b]? = w.heap[b]?) : KResU w' vW vB vC vE d F := by
  obtain ⟨F1, G1, h1, h2, hd, hf⟩ := h
  exact ⟨F1, G1, h1.keep fun b hb => e b (hf b (Or.inl hb)), h2.keep fun b hb => e b (hf b (Or.inr hb)), hd, hf⟩
theorem KResU.later {w w' : World} {vW vB vC vE : Value} {d : KResD} {F : Nat → Prop} (h : KResU w vW vB vC vE d F) (hb : Below w.heap.size w w') : KResU w' vW vB vC vE d F := h.keep fun b _ hlt => hb.block b hlt
theorem KResU.mono {w : World} {vW vB vC vE : Value} {d : KResD} {F G : Nat → Prop} (h : KResU w vW vB vC vE d F) (e : ∀ b, F b → G b) : KResU w vW vB vC vE d G := by
  obtain ⟨F1, G1, h1, h2, hd, hf⟩ := h
  exact ⟨F1, G1, h1, h2, hd, fun b hb => e b (hf b hb)⟩
theorem KResU.chg {w w' : World} {vW vB vC vE : Value} {d : KResD} {F G : Nat → Prop} (h : KResU w vW vB vC vE d F) (hc : Chg G w w') (hd : ∀ b, F b → ¬ G b) : KResU w' vW vB vC vE d F := h.keep fun b hb hlt => hc.block b hlt (hd b hb)

/-- An answer: a code, words and a kern, in new memory of its own. -/
def AnsKR (w : World) (r : Int × KResD) (e : Ending) (w' : World) : Prop := ∃ aW nW cW aB nB cB aC nC cC aE nE cE, e = .returned (.agg #[.int .i64 r.1, .slice aW nW cW, .slice aB nB cB, .slice aC nC cC, .slice aE nE cE]) ∧ Below w.heap.size w w' ∧ KResU w' (.slice aW nW cW) (.slice aB nB cB) (.slice aC nC cC) (.slice aE nE cE) r.2 (fresh w w')
theorem ansK_bad {w w' : World} (hb : Below w.heap.size w w') (c : Int) : AnsKR w (c, [], ([], []), []) (.returned (.agg #[.int .i64 c, .slice none 0 0, .slice none 0 0, .slice none 0 0, .slice none 0 0])) w' :=
  ⟨none, 0, 0, none, 0, 0, none, 0, 0, none, 0, 0, rfl, hb, fun _ => False, fun _ => False, Or.inl ⟨rfl, none, 0, rfl⟩, ⟨fun _ => False, fun _ => False, ⟨fun _ => False, fun _ => False, Or.inl ⟨rfl, none, 0, rfl⟩, Or.inl ⟨rfl, none, 0, rfl⟩, fun _ h => h.elim, fun _ h => h.elim id id⟩, Or.inl ⟨rfl, none, 0, rfl⟩, fun _ h => h.elim, fun _ h => h.elim id id⟩, fun _ h => h.elim, fun _ h => h.elim False.elim False.elim⟩

theorem Bx.new5 (w : World) (a b c d e : Value) (t : TypeId) (i : Nat) (v : Value) (h : [a, b, c, d, e][i]? = some v) : (w.alloc (.cells #[a, b, c, d, e] t)).cell? ⟨w.heap.size, i, none⟩ = some v := Bx.new w [a, b, c, d, e] t i v h

def spanKRes (d : KResD) : Nat := d.1.length + spanKern d.2
def mkKRes (k : Int) (d : KResD) : KResD := (marks k d.1.length, mkKern (k + (d.1.length : Nat)) d.2)
theorem IntsO.bound' {w : World} {v : Value} {zs : List Int} {F : Nat → Prop} (h : IntsO w v zs F) : IntsO w v zs (fun b => F b ∧ b < w.heap.size) := by
  rcases h with h | ⟨b, cap, hF, h1, h2, h3⟩
  · exact Or.inl h
  · exact Or.inr ⟨b, cap, ⟨hF, h3.lt⟩, h1, h2, h3⟩

theorem eqIntResultU (w : World) (c v : Int) :
    Calls Try.prog 32 #[.agg #[.int .i64 c, .int .i64 v], .agg #[.int .i64 c, .int .i64 v]] w fun e w' => e = .returned (.bool true) ∧ Below w.heap.size w w' := by
  have h0 : (c != c) = false := by simp
  have h1 : (v != v) = false := by simp
  go_enter Try.func32, Try.ntmps32
  go_wp2
  go_ret
  exact ⟨rfl, later2 _ _ _⟩
end Go.Proofs.Ytjbppdkijjfejak

namespace Go.Proofs.Ytjbppdkijjfejak
open Go.RowKit
set_option maxRecDepth 100000

theorem usedSpan (ds : List ID) : (usedR ds).2.length ≤ 20 := by
  have := selL_len (usedP ds) 20
  unfold usedR
  split
  · split
    · exact this
    · simp
  · simp
theorem freeSpan (ds : List ID) (bs : List Int) : (freeR ds bs).2.length ≤ 20 := by
  have := selL_len (freeP ds bs) 20
  unfold freeR
  split
  · exact this
  · simp
theorem pickSpan (ds : List ID) (bs : List Int) (k : Int) : (pickR ds bs k).2.length ≤ 20 := by
  have := selL_len (freeP ds bs) 20
  unfold pickR
  split
  · split
    · split
      · simp
      · show ((selL (freeP ds bs) 20).take k.toNat).length ≤ 20
        rw [List.length_take]
        omega
    · simp
  · simp
end Go.Proofs.Ytjbppdkijjfejak

namespace Go.Proofs.Ytjbppdkijjfejak
open Go.RowKit
set_option maxRecDepth 100000

set_option maxHeartbeats 1600000 in
theorem lawFreeInode_big (w : World) (a0x0 : Option Addr) (n0x0 c0x0 : Nat) (dx0 : List ID) (hx0 : Inos w (.slice a0x0 n0x0 c0x0) dx0) (hsz : 1048576 < sizeInos dx0) :
    Calls Try.prog 7 #[.slice a0x0 n0x0 c0x0] w fun e w' => e = .returned (.bool true) ∧ Below w.heap.size w w' := by
  have Hx0 : Hid (Inos w (.slice a0x0 n0x0 c0x0) dx0) := hx0
  have HS : Hid (szf 1048576 (sizeInos dx0) = -1) := szf_no (by omega)
  clear hx0 hsz
  go_enter Try.func7, Try.ntmps7
  go_wp2_with fail
  refine (szInosU _ _ _ _ dx0 (Hx0.out.later (Below.refl _ _)) 1048576 (by omega) (by omega)).mono ?_
  rw [HS.out]
  rintro e w1 ⟨rfl, hb1⟩
  have HBw1 : Hid (Below w.heap.size w w1) := (Below.refl _ _).trans (hb1.mono (by simp))
  clear hb1
  go_wp2
  go_ret
  exact ⟨rfl, HBw1.out⟩

set_option maxHeartbeats 12800000 in
theorem lawFreeInode_small (w : World) (a0x0 : Option Addr) (n0x0 c0x0 : Nat) (dx0 : List ID) (hx0 : Inos w (.slice a0x0 n0x0 c0x0) dx0) (sx0 : sizeInos dx0 ≤ 1048576) :
    Calls Try.prog 7 #[.slice a0x0 n0x0 c0x0] w fun e w' => e = .returned (.bool true) ∧ Below w.heap.size w w' := by
  have Hx0 : Hid (Inos w (.slice a0x0 n0x0 c0x0) dx0) := hx0
  have Sx0 : Hid (sizeInos dx0 ≤ 1048576) := sx0
  have HSx0 : Hid (szf 1048576 (sizeInos dx0) = 1048576 - (sizeInos dx0 : Nat)) := szf_yes (by omega)
  have hposx0 : ¬ (1048576 - ((sizeInos dx0 : Nat) : Int) < 0) := by omega
  have hspx0 : ((spanInos dx0 : Nat) : Int) ≤ 4194304 := by have := spanInos_le dx0; omega
  generalize hr : finR dx0 = r at *
  have HR : Hid (finR dx0 = r) := hr
  obtain ⟨code, val⟩ := r
  clear hr hx0 sx0
  go_enter Try.func7, Try.ntmps7
  go_wp2_with fail
  refine (szInosU _ _ _ _ dx0 Hx0.out 1048576 (by omega) (by omega)).mono ?_
  rw [HSx0.out]
  rintro e w1 ⟨rfl, hb⟩
  have HL_w1 : Hid (Below w.heap.size w w1) := hb
  have HB_w1 : Hid (Below w.heap.size w w1) := HL_w1.out
  have z_w1 : w.heap.size ≤ w1.heap.size := HL_w1.out.size
  clear HL_w1
  clear hb
  go_wp2_with fail
  refine (toInosU (Hx0.out.later HB_w1.out) Sx0.out).mono ?_
  rintro e w2 ⟨a0x0s, n0x0s, c0x0s, rfl, hb, ho⟩
  have HL_w2 : Hid (Below w1.heap.size w1 w2) := hb
  have HB_w2 : Hid (Below w.heap.size w w2) := HB_w1.out.trans (HL_w2.out.mono HB_w1.out.size)
  have z_w2 : w1.heap.size ≤ w2.heap.size := HL_w2.out.size
  have Tx0_w2 : Hid (InosO w2 (.slice a0x0s n0x0s c0x0s) dx0 (fun b => w1.heap.size ≤ b ∧ b < w2.heap.size)) := ho
  clear HB_w1 HL_w2
  clear hb ho
  go_wp2_with fail
  refine (specFinU _ _ _ _ dx0 Tx0_w2.out.reads Sx0.out).mono ?_
  rw [HR.out]
  rintro e w3 ⟨rfl, hb⟩
  have HL_w3 : Hid (Below w2.heap.size w2 w3) := hb
  have HB_w3 : Hid (Below w.heap.size w w3) := HB_w2.out.trans (HL_w3.out.mono HB_w2.out.size)
  have z_w3 : w2.heap.size ≤ w3.heap.size := HL_w3.out.size
  clear Tx0_w2 HB_w2 HL_w3
  clear hb
  go_wp2_with fail
  refine (toInosU ((Hx0.out.later HB_w3.out).later (later1 _ _)) Sx0.out).mono ?_
  rintro e w4 ⟨a0x0p, n0x0p, c0x0p, rfl, hb, ho⟩
  have HL_w4 : Hid (Below w3.heap.size w3 w4) := (later1 _ _).trans (hb.mono (by simp))
  have HB_w4 : Hid (Below w.heap.size w w4) := HB_w3.out.trans (HL_w4.out.mono HB_w3.out.size)
  have z_w4 : w3.heap.size ≤ w4.heap.size := HL_w4.out.size
  have Bw_w4 : Hid (Bx w4 w3.heap.size [.int .i64 code, .int .i64 val]) := (Bx.new _ [.int .i64 code, .int .i64 val] _).later hb
  have y_Bw : w3.heap.size < w4.heap.size := Bw_w4.out.lt
  have Px0_w4 : Hid (InosO w4 (.slice a0x0p n0x0p c0x0p) dx0 (fun b => w3.heap.size < b ∧ b < w4.heap.size)) := ho.mono fun b hb => ⟨by have := hb.1; simp at this; omega, hb.2⟩
  clear HB_w3 HL_w4
  clear hb ho
  have qBw0 := Bw_w4.out 0 _ rfl
  have qBw1 := Bw_w4.out 1 _ rfl
  have tBw := Bw_w4.out.lt
  go_wp2_with fail
  clear qBw0 qBw1 tBw
  refine (implFinU _ _ _ _ dx0 Px0_w4.out.reads Sx0.out).mono ?_
  rw [HR.out]
  rintro e w5 ⟨rfl, hb⟩
  have HL_w5 : Hid (Below w4.heap.size w4 w5) := hb
  have HB_w5 : Hid (Below w.heap.size w w5) := HB_w4.out.trans (HL_w5.out.mono HB_w4.out.size)
  have z_w5 : w4.heap.size ≤ w5.heap.size := HL_w5.out.size
  have Bw_w5 : Hid (Bx w5 w3.heap.size [.int .i64 code, .int .i64 val]) := Bw_w4.out.later HL_w5.out
  have Px0_w5 : Hid (InosO w5 (.slice a0x0p n0x0p c0x0p) dx0 (fun b => w3.heap.size < b ∧ b < w4.heap.size)) := Px0_w4.out.later HL_w5.out
  clear Bw_w4 Px0_w4 HB_w4 HL_w5
  clear hb
  have qBw0 := Bw_w5.out 0 _ rfl
  have qBw1 := Bw_w5.out 1 _ rfl
  have tBw := Bw_w5.out.lt
  go_wp2_with fail
  clear qBw0 qBw1 tBw
  refine (eqIntResultU _ code val).mono ?_
  rintro e w6 ⟨rfl, hb⟩
  have HL_w6 : Hid (Below w5.heap.size w5 w6) := (later1 _ _).trans (hb.mono (by simp))
  have HB_w6 : Hid (Below w.heap.size w w6) := HB_w5.out.trans (HL_w6.out.mono HB_w5.out.size)
  have z_w6 : w5.heap.size ≤ w6.heap.size := HL_w6.out.size
  have Bw_w6 : Hid (Bx w6 w3.heap.size [.int .i64 code, .int .i64 val]) := Bw_w5.out.later HL_w6.out
  have Px0_w6 : Hid (InosO w6 (.slice a0x0p n0x0p c0x0p) dx0 (fun b => w3.heap.size < b ∧ b < w4.heap.size)) := Px0_w5.out.later HL_w6.out
  have Bg_w6 : Hid (Bx w6 w5.heap.size [.int .i64 code, .int .i64 val]) := (Bx.new _ [.int .i64 code, .int .i64 val] _).later hb
  have y_Bg : w5.heap.size < w6.heap.size := Bg_w6.out.lt
  clear Bw_w5 Px0_w5 HB_w5 HL_w6
  clear hb
  have qBw0 := Bw_w6.out 0 _ rfl
  have qBw1 := Bw_w6.out 1 _ rfl
  have tBw := Bw_w6.out.lt
  have qBg0 := Bg_w6.out 0 _ rfl
  have qBg1 := Bg_w6.out 1 _ rfl
  have tBg := Bg_w6.out.lt
  go_wp2_with fail
  clear qBw0 qBw1 tBw qBg0 qBg1 tBg
  refine (toInosU (Hx0.out.later HB_w6.out) Sx0.out).mono ?_
  rintro e w7 ⟨a0x0q, n0x0q, c0x0q, rfl, hb, ho⟩
  have HL_w7 : Hid (Below w6.heap.size w6 w7) := hb
  have HB_w7 : Hid (Below w.heap.size w w7) := HB_w6.out.trans (HL_w7.out.mono HB_w6.out.size)
  have z_w7 : w6.heap.size ≤ w7.heap.size := HL_w7.out.size
  have Bw_w7 : Hid (Bx w7 w3.heap.size [.int .i64 code, .int .i64 val]) := Bw_w6.out.later HL_w7.out
  have Px0_w7 : Hid (InosO w7 (.slice a0x0p n0x0p c0x0p) dx0 (fun b => w3.heap.size < b ∧ b < w4.heap.size)) := Px0_w6.out.later HL_w7.out
  have Bg_w7 : Hid (Bx w7 w5.heap.size [.int .i64 code, .int .i64 val]) := Bg_w6.out.later HL_w7.out
  have Qx0_w7 : Hid (InosO w7 (.slice a0x0q n0x0q c0x0q) dx0 (fun b => w6.heap.size ≤ b ∧ b < w7.heap.size)) := ho
  clear Bw_w6 Px0_w6 Bg_w6 HB_w6 HL_w7
  clear hb ho
  have qBw0 := Bw_w7.out 0 _ rfl
  have qBw1 := Bw_w7.out 1 _ rfl
  have tBw := Bw_w7.out.lt
  have qBg0 := Bg_w7.out 0 _ rfl
  have qBg1 := Bg_w7.out 1 _ rfl
  have tBg := Bg_w7.out.lt
  go_wp2_with fail
  clear qBw0 qBw1 tBw qBg0 qBg1 tBg
  refine (eqInosU Px0_w7.out.reads Qx0_w7.out.reads).mono ?_
  rintro e w8 ⟨rfl, hb⟩
  have HL_w8 : Hid (Below w7.heap.size w7 w8) := hb
  have HB_w8 : Hid (Below w.heap.size w w8) := HB_w7.out.trans (HL_w8.out.mono HB_w7.out.size)
  have z_w8 : w7.heap.size ≤ w8.heap.size := HL_w8.out.size
  have Bw_w8 : Hid (Bx w8 w3.heap.size [.int .i64 code, .int .i64 val]) := Bw_w7.out.later HL_w8.out
  have Px0_w8 : Hid (InosO w8 (.slice a0x0p n0x0p c0x0p) dx0 (fun b => w3.heap.size < b ∧ b < w4.heap.size)) := Px0_w7.out.later HL_w8.out
  have Bg_w8 : Hid (Bx w8 w5.heap.size [.int .i64 code, .int .i64 val]) := Bg_w7.out.later HL_w8.out
  clear Bw_w7 Px0_w7 Bg_w7 Qx0_w7 HB_w7 HL_w8
  clear hb
  have qBw0 := Bw_w8.out 0 _ rfl
  have qBw1 := Bw_w8.out 1 _ rfl
  have tBw := Bw_w8.out.lt
  have qBg0 := Bg_w8.out 0 _ rfl
  have qBg1 := Bg_w8.out 1 _ rfl
  have tBg := Bg_w8.out.lt
  go_wp2
  go_ret
  exact ⟨rfl, HB_w8.out⟩

theorem lawFreeInode_any (w : World) (v0x0 : Value) (dx0 : List ID) (hx0 : Inos w v0x0 dx0) :
    Calls Try.prog 7 #[v0x0] w fun e w' => e = .returned (.bool true) ∧ Below w.heap.size w w' := by
  obtain ⟨_, _, rfl, _, _⟩ := hx0.open'
  by_cases kx0 : sizeInos dx0 ≤ 1048576
  rotate_left
  · exact lawFreeInode_big w _ _ _ dx0  hx0 (by omega)
  exact lawFreeInode_small w _ _ _ dx0 hx0  kx0
end Go.Proofs.Ytjbppdkijjfejak

namespace Go.Proofs.Ytjbppdkijjfejak
open Go.ChangeShapes Go.WideShapes Go.ChangeAt Go.RowKit Go.Deep
set_option maxRecDepth 100000

section
variable {H : Type} {enc : TypeId × Value → H} {P : Program} {w : World} {base : Nat} {held : Bool}

theorem addr_of {a : Addr} {v : Value} (h : w.cell? (a.add 0) = some v) : a = ⟨a.block, a.off, none⟩ := by
  obtain ⟨b, o, s⟩ := a
  have : s = none := by simpa [Addr.add] using World.cell?_spot h
  subst this; rfl
theorem add_plain (b off k : Nat) : (⟨b, off, none⟩ : Addr).add k = ⟨b, off + k, none⟩ := by
  by_cases h : k = 0
  · subst h; simp [Addr.add]
  · simp [Addr.add, h]

theorem open_Ints {t e : TypeId} {fuel : Nat} {v : Value} {x : DataW H × List MemPlace} (ht : P.underlying t = some (.slice e)) (he : P.underlying e = some (.int .i64)) (ce : P.cellsOf e = 1) (h : DataW.trod enc P w base (fun _ => true) held fuel t [v] = some x) :
    ∃ zs, Ints w v zs := by
  rcases open_ints ht he ce h with ⟨hcs, _⟩ | ⟨a, len, cap, zs, hcs, _, hl, hm, hz, _, hcell, _⟩
  · simp only [List.cons.injEq, and_true] at hcs
    exact ⟨[], Or.inl ⟨rfl, none, 0, hcs⟩⟩
  · simp only [List.cons.injEq, and_true] at hcs
    simp only [if_true] at hz
    by_cases h0 : len = 0
    · subst h0; exact ⟨[], Or.inl ⟨rfl, some a, cap, hcs⟩⟩
    · have ha := addr_of (hcell 0 (by omega))
      refine ⟨zs.take len, Or.inr ⟨a.block, a.off, cap, ?_, ?_, fun k hk => ?_⟩⟩
      · rw [hcs, List.length_take, Nat.min_eq_left (by omega), ← ha]
      · rw [List.length_take]; omega
      · rw [List.length_take] at hk
        have h1 := hcell k (by omega)
        rw [ha, add_plain] at h1
        rw [h1, List.getElem?_take, if_pos (by omega)]
        rfl

theorem open_IntsS {t e q : TypeId} {fuel : Nat} {v : Value} {x : DataW H × List MemPlace} (ht : P.underlying t = some (.slice e)) (he : P.underlying e = some (.slice q)) (hq : P.underlying q = some (.int .i64)) (ce : P.cellsOf e = 1) (cq : P.cellsOf q = 1)
    (h : DataW.trod enc P w base (fun _ => true) held fuel t [v] = some x) : ∃ zss, IntsS w v zss := by
  rcases open_slice1 ht ce h with ⟨hcs, _⟩ | ⟨a, len, cap, m, n, V, D, Pl, hcs, _, hl, hm, hmm, _, hx⟩
  · simp only [List.cons.injEq, and_true] at hcs
    exact ⟨[], Or.inl ⟨rfl, none, 0, hcs⟩⟩
  · simp only [List.cons.injEq, and_true] at hcs
    simp only [if_true] at hmm
    by_cases h0 : len = 0
    · subst h0; exact ⟨[], Or.inl ⟨rfl, some a, cap, hcs⟩⟩
    · have ha := addr_of (hx 0 (by omega)).1
      obtain ⟨Z, hZ⟩ := choose_lt (α := List Int) (n := m) (p := fun i zs => Ints w (V i) zs) fun i hi => open_Ints he hq cq (hx i hi).2
      refine ⟨(List.range len).map Z, Or.inr ⟨a.block, a.off, cap, V, ?_, ?_, fun k hk => ?_⟩⟩
      · simp only [List.length_map, List.length_range]; rw [hcs, ← ha]
      · simp only [List.length_map, List.length_range]; omega
      · simp only [List.length_map, List.length_range] at hk
        have h1 := (hx k (by omega)).1
        rw [ha, add_plain] at h1
        refine ⟨h1, ?_⟩
        have := hZ k (by omega)
        simpa [hk] using this

theorem open_Puts {t e q : TypeId} {f0 f1 : Field} {fuel : Nat} {v : Value} {x : DataW H × List MemPlace} (ht : P.underlying t = some (.slice e)) (he : P.underlying e = some (.struct #[f0, f1]))
    (ce : P.cellsOf e = 2) (o0 : f0.offset = 0) (o1 : f1.offset = 1) (c0 : P.cellsOf f0.type = 1) (c1 : P.cellsOf f1.type = 1) (h0 : P.underlying f0.type = some (.int .i64)) (h1 : P.underlying f1.type = some (.slice q)) (hq : P.underlying q = some (.int .i64)) (cq : P.cellsOf q = 1)
    (h : DataW.trod enc P w base (fun _ => true) held fuel t [v] = some x) : ∃ ps, Puts w v ps := by
  rcases open_slice_pairs ht he ce o0 o1 c0 c1 h with ⟨hcs, _⟩ | ⟨a, len, cap, m, n, V0, V1, D0, D1, P0, P1, hcs, _, hl, hm, hmm, _, hx⟩
  · simp only [List.cons.injEq, and_true] at hcs
    exact ⟨[], Or.inl ⟨rfl, none, 0, hcs⟩⟩
  · simp only [List.cons.injEq, and_true] at hcs
    simp only [if_true] at hmm
    by_cases hl0 : len = 0
    · subst hl0; exact ⟨[], Or.inl ⟨rfl, some a, cap, hcs⟩⟩
    · have ha := addr_of (by simpa using (hx 0 (by omega)).1)
      obtain ⟨Z, hZ⟩ := choose_lt (α := Int × List Int) (n := m) (p := fun i z => V0 i = .int .i64 z.1 ∧ Ints w (V1 i) z.2) fun i hi => by
        obtain ⟨_, _, g0, g1⟩ := hx i hi
        obtain ⟨zs, hzs⟩ := open_Ints h1 hq cq g1
        obtain ⟨y, hy, _⟩ := DataW.trod_int h0 g0
        simp only [List.cons.injEq, and_true] at hy
        exact ⟨(y, zs), hy, hzs⟩
      refine ⟨(List.range len).map Z, Or.inr ⟨a.block, a.off, cap, V1, ?_, ?_, fun k hk => ?_⟩⟩
      · simp only [List.length_map, List.length_range]; rw [hcs, ← ha]
      · simp only [List.length_map, List.length_range]; omega
      · simp only [List.length_map, List.length_range] at hk
        obtain ⟨e0, e1, _, _⟩ := hx k (by omega)
        rw [ha, add_plain] at e0 e1
        obtain ⟨g0, g1⟩ := hZ k (by omega)
        rw [g0] at e0
        have hg : ((List.range len).map Z)[k]?.getD (0, []) = Z k := by simp [hk]
        rw [hg]
        exact ⟨e0, e1, g1⟩
end

end Go.Proofs.Ytjbppdkijjfejak

namespace Go.Proofs.Ytjbppdkijjfejak
open Go.ChangeShapes Go.WideShapes Go.ChangeAt Go.RowKit Go.Joins
set_option maxRecDepth 100000

theorem Try.own : ownKnob Try.prog.godebug = none := by kernel_rfl
theorem Try.laidOut : laidOutB Try.prog = true := by kernel_rfl
theorem Try.cellsInt : Try.prog.cellsOf 2 = 1 := by kernel_rfl
theorem Try.cellsInts : Try.prog.cellsOf 22 = 1 := by kernel_rfl

end Go.Proofs.Ytjbppdkijjfejak

namespace Go.Proofs.Ytjbppdkijjfejak
open Go.ChangeShapes Go.WideShapes Go.ChangeAt Go.RowKit Go.Joins Go.Deep
set_option maxRecDepth 100000

theorem open_Ents {H : Type} {enc : TypeId × Value → H} {P : Program} {w : World} {base : Nat} {held : Bool} {t e : TypeId} {f0 f1 : Field} {fuel : Nat} {v : Value} {x : DataW H × List MemPlace} (ht : P.underlying t = some (.slice e)) (he : P.underlying e = some (.struct #[f0, f1]))
    (ce : P.cellsOf e = 2) (o0 : f0.offset = 0) (o1 : f1.offset = 1) (c0 : P.cellsOf f0.type = 1) (c1 : P.cellsOf f1.type = 1) (h0 : P.underlying f0.type = some .string) (h1 : P.underlying f1.type = some (.int .i64))
    (h : DataW.trod enc P w base (fun _ => true) held fuel t [v] = some x) : ∃ es, Ents w v es := by
  rcases open_slice ht h with ⟨hcs, _⟩ | ⟨a, len, cap, m, n, D, Pl, hcs, hb, hl, hm, hmm, _, hx⟩
  · simp only [List.cons.injEq, and_true] at hcs
    exact ⟨[], by rw [hcs]; exact Ents.nil w none 0⟩
  · simp only [List.cons.injEq, and_true] at hcs
    simp only [if_true] at hmm
    by_cases hl0 : len = 0
    · subst hl0; exact ⟨[], by rw [hcs]; exact Ents.nil w (some a) cap⟩
    · have each : ∀ i, i < m → ∃ q : EN, w.cell? (a.add (i * 2)) = some (.string q.1) ∧ w.cell? (a.add (i * 2 + 1)) = some (.int .i64 q.2) ∧ q.1.size ≤ maxLen := by
        intro i hi
        obtain ⟨cs', k1, k2⟩ := hx i hi
        rw [ce] at k1
        obtain ⟨_, hlen, hcell⟩ := World.cells?_some k1
        obtain ⟨xs, k, hk, hxy, _, hxl, hf⟩ := DataW.trod_struct he k2
        match xs, hxl, cs', hlen with
        | [y0, y1], _, [v0, v1], _ =>
          have g0 := hf 0 f0 rfl
          have g1 := hf 1 f1 rfl
          simp [o0, o1, c0, c1] at g0 g1
          have e0 := hcell 0 (by omega)
          have e1 := hcell 1 (by omega)
          rw [add_add] at e0 e1
          obtain ⟨z0, hz0, _, hs⟩ := DataW.trod_string h0 g0
          obtain ⟨z1, hz1, _⟩ := DataW.trod_int h1 g1
          simp only [List.cons.injEq, and_true] at hz0 hz1
          subst hz0 hz1
          exact ⟨(z0, z1), by simpa using e0, by simpa using e1, hs⟩
      obtain ⟨q, hq⟩ := choose_lt each
      have ha := addr_of (by simpa using (hq 0 (by omega)).1)
      refine ⟨(List.range len).map q, some a, cap, ?_, ?_, fun k hk => ?_⟩
      · simp only [List.length_map, List.length_range]; exact hcs
      · simp only [List.length_map, List.length_range]
        refine ⟨by omega, by omega, fun k => ?_⟩
        by_cases hk : k < len
        · have hg : ((List.range len).map q)[k]?.getD en0 = q k := by simp [hk]
          rw [hg]
          exact (hq k (by omega)).2.2
        · rw [List.getElem?_eq_none (by simpa using Nat.le_of_not_lt hk)]
          simp [en0, ByteArray.size]
      · simp only [List.length_map, List.length_range] at hk
        obtain ⟨e0, e1, _⟩ := hq k (by omega)
        rw [ha, add_plain] at e0 e1
        have hg : ((List.range len).map q)[k]?.getD en0 = q k := by simp [hk]
        rw [hg]
        exact ⟨a.block, a.off, by rw [← ha], e0, e1⟩

theorem open_cap {H : Type} {enc : TypeId × Value → H} {P : Program} {w : World} {base : Nat} {held : Bool} {t e : TypeId} {fuel : Nat} {v : Value} {x : DataW H × List MemPlace} (ht : P.underlying t = some (.slice e)) (h : DataW.trod enc P w base (fun _ => true) held fuel t [v] = some x) : capOK v := by
  rcases DataW.trod_slice ht h with ⟨hcs, _⟩ | ⟨a, len, cap, _, _, _, _, hcs, _, _, hl, _⟩
  · simp only [List.cons.injEq, and_true] at hcs
    exact ⟨none, 0, 0, hcs, Nat.le_refl _⟩
  · simp only [List.cons.injEq, and_true] at hcs
    exact ⟨some a, len, cap, hcs, hl⟩
theorem Try.cellsStr : Try.prog.cellsOf 9 = 1 := by kernel_rfl
theorem Try.cellsEnt : Try.prog.cellsOf 81 = 2 := by kernel_rfl
theorem Try.cellsEnts : Try.prog.cellsOf 23 = 1 := by kernel_rfl
theorem Try.cellsIno : Try.prog.cellsOf 25 = 5 := by kernel_rfl
theorem array5 {α : Type} {a : Array α} (h : a.size = 5) : ∃ x0 x1 x2 x3 x4, a = #[x0, x1, x2, x3, x4] := by
  obtain ⟨l⟩ := a
  match l, h with
  | [x0, x1, x2, x3, x4], _ => exact ⟨x0, x1, x2, x3, x4, rfl⟩
theorem open_InoU {H : Type} {enc : TypeId × Value → H} {W : World} {r : Reach} {b0 : Nat} {v : Value} {d : DataW H} {p : List MemPlace} (hv : Value.okWide Try.prog W r b0 25 v) (h : DataW.Trod enc Try.prog W 0 (fun _ => true) true 25 v d p) :
    ∃ v0 v1 v2 vB vE id, v = .agg #[v0, v1, v2, vB, vE] ∧ InoR W v0 v1 v2 vB vE id := by
  obtain ⟨cs, rfl, hsz⟩ := okWide_struct Try.underlying25 hv
  obtain ⟨c0, c1, c2, c3, c4, rfl⟩ := array5 (hsz.trans Try.cellsIno)
  obtain ⟨fuel, hf⟩ := h
  obtain ⟨xs, k, hk, hxy, _, hxl, hg⟩ := DataW.trod_struct Try.underlying25 hf
  match xs, hxl with
  | [y0, y1, y2, y3, y4], _ =>
    have g0 : DataW.trod enc Try.prog W 0 (fun _ => true) true k 2 [c0] = some y0 := by simpa [Value.cells, Try.cellsInt] using hg 0 _ rfl
    have g1 : DataW.trod enc Try.prog W 0 (fun _ => true) true k 2 [c1] = some y1 := by simpa [Value.cells, Try.cellsInt] using hg 1 _ rfl
    have g2 : DataW.trod enc Try.prog W 0 (fun _ => true) true k 2 [c2] = some y2 := by simpa [Value.cells, Try.cellsInt] using hg 2 _ rfl
    have g3 : DataW.trod enc Try.prog W 0 (fun _ => true) true k 22 [c3] = some y3 := by simpa [Value.cells, Try.cellsInts] using hg 3 _ rfl
    have g4 : DataW.trod enc Try.prog W 0 (fun _ => true) true k 23 [c4] = some y4 := by simpa [Value.cells, Try.cellsEnts] using hg 4 _ rfl
    obtain ⟨z0, hz0, _⟩ := DataW.trod_int Try.underlying2 g0
    obtain ⟨z1, hz1, _⟩ := DataW.trod_int Try.underlying2 g1
    obtain ⟨z2, hz2, _⟩ := DataW.trod_int Try.underlying2 g2
    simp only [List.cons.injEq, and_true] at hz0 hz1 hz2
    obtain ⟨bs, hbs⟩ := open_Ints Try.underlying22 Try.underlying2 Try.cellsInt g3
    obtain ⟨es, hes⟩ := open_Ents Try.underlying23 Try.underlying81 Try.cellsEnt rfl rfl Try.cellsStr Try.cellsInt Try.underlying9 Try.underlying2 g4
    exact ⟨c0, c1, c2, c3, c4, (z0, z1, z2, bs, es), rfl, ⟨hz0, hz1, hz2, open_cap Try.underlying22 g3⟩, hbs, hes⟩
end Go.Proofs.Ytjbppdkijjfejak

namespace Go.Proofs.Ytjbppdkijjfejak
open Go.ChangeShapes Go.WideShapes Go.ChangeAt Go.RowKit Go.Joins Go.Deep
set_option maxRecDepth 100000

theorem open_Inos {H : Type} {enc : TypeId × Value → H} {w : World} {base : Nat} {held : Bool} {fuel : Nat} {v : Value} {x : DataW H × List MemPlace}
    (h : DataW.trod enc Try.prog w base (fun _ => true) held fuel 33 [v] = some x) : ∃ ds, Inos w v ds := by
  rcases open_slice Try.underlying33 h with ⟨hcs, _⟩ | ⟨a, len, cap, m, n, D, Pl, hcs, hb, hl, hm, hmm, _, hx⟩
  · simp only [List.cons.injEq, and_true] at hcs
    exact ⟨[], by rw [hcs]; exact Inos.nil w none 0⟩
  · simp only [List.cons.injEq, and_true] at hcs
    simp only [if_true] at hmm
    by_cases hl0 : len = 0
    · subst hl0; exact ⟨[], by rw [hcs]; exact Inos.nil w (some a) cap⟩
    · have each : ∀ i, i < m → ∃ q : ID, ∃ vB vE, w.cell? (a.add (i * 5)) = some (.int .i64 q.1) ∧ w.cell? (a.add (i * 5 + 1)) = some (.int .i64 q.2.1) ∧ w.cell? (a.add (i * 5 + 2)) = some (.int .i64 q.2.2.1) ∧ w.cell? (a.add (i * 5 + 3)) = some vB ∧ w.cell? (a.add (i * 5 + 4)) = some vE ∧ InoR w (.int .i64 q.1) (.int .i64 q.2.1) (.int .i64 q.2.2.1) vB vE q := by
        intro i hi
        obtain ⟨cs', k1, k2⟩ := hx i hi
        rw [Try.cellsIno] at k1
        obtain ⟨_, hlen, hcell⟩ := World.cells?_some k1
        obtain ⟨xs, k, hk, hxy, _, hxl, hg⟩ := DataW.trod_struct Try.underlying25 k2
        match xs, hxl, cs', hlen with
        | [y0, y1, y2, y3, y4], _, [c0, c1, c2, c3, c4], _ =>
          have g0 : DataW.trod enc Try.prog w base (fun _ => true) held k 2 [c0] = some y0 := by simpa [Try.cellsInt] using hg 0 _ rfl
          have g1 : DataW.trod enc Try.prog w base (fun _ => true) held k 2 [c1] = some y1 := by simpa [Try.cellsInt] using hg 1 _ rfl
          have g2 : DataW.trod enc Try.prog w base (fun _ => true) held k 2 [c2] = some y2 := by simpa [Try.cellsInt] using hg 2 _ rfl
          have g3 : DataW.trod enc Try.prog w base (fun _ => true) held k 22 [c3] = some y3 := by simpa [Try.cellsInts] using hg 3 _ rfl
          have g4 : DataW.trod enc Try.prog w base (fun _ => true) held k 23 [c4] = some y4 := by simpa [Try.cellsEnts] using hg 4 _ rfl
          have e0 := hcell 0 (by omega)
          have e1 := hcell 1 (by omega)
          have e2 := hcell 2 (by omega)
          have e3 := hcell 3 (by omega)
          have e4 := hcell 4 (by omega)
          rw [add_add] at e0 e1 e2 e3 e4
          obtain ⟨z0, hz0, _⟩ := DataW.trod_int Try.underlying2 g0
          obtain ⟨z1, hz1, _⟩ := DataW.trod_int Try.underlying2 g1
          obtain ⟨z2, hz2, _⟩ := DataW.trod_int Try.underlying2 g2
          simp only [List.cons.injEq, and_true] at hz0 hz1 hz2
          subst hz0 hz1 hz2
          obtain ⟨bs, hbs⟩ := open_Ints Try.underlying22 Try.underlying2 Try.cellsInt g3
          obtain ⟨es, hes⟩ := open_Ents Try.underlying23 Try.underlying81 Try.cellsEnt rfl rfl Try.cellsStr Try.cellsInt Try.underlying9 Try.underlying2 g4
          exact ⟨(z0, z1, z2, bs, es), c3, c4, by simpa using e0, by simpa using e1, by simpa using e2, by simpa using e3, by simpa using e4, ⟨rfl, rfl, rfl, open_cap Try.underlying22 g3⟩, hbs, hes⟩
      obtain ⟨q, hq⟩ := choose_lt each
      obtain ⟨_, _, hq0, _⟩ := hq 0 (by omega)
      have ha := addr_of (by simpa using hq0)
      refine ⟨(List.range len).map q, some a, cap, ?_, ?_, fun k hk => ?_⟩
      · simp only [List.length_map, List.length_range]; exact hcs
      · simp only [List.length_map, List.length_range]
        exact ⟨by omega, by omega⟩
      · simp only [List.length_map, List.length_range] at hk
        obtain ⟨vB, vE, e0, e1, e2, e3, e4, hR⟩ := hq k (by omega)
        rw [ha, add_plain] at e0 e1 e2 e3 e4
        have hg : ((List.range len).map q)[k]?.getD id0 = q k := by simp [hk]
        rw [hg]
        exact ⟨a.block, a.off, by rw [← ha], InoAt.mk' e0 e1 e2 e3 e4 hR⟩
end Go.Proofs.Ytjbppdkijjfejak
