/- Lists of inodes are marked. File systems: a list of inodes and a list of lists of bytes; the walks of the laws' functions over them. A file system is copied. File systems are marked; answers that hold bytes. Rows of inodes that grow by append, each with lists of its own; rows of inodes copied. What an inode's fault is. No program is named here. -/
import Derived.Test.YtjabimfinanjoaaGreatM03
import Derived.Test.YtjabimfinanjoaaGreatM04
import Derived.Test.YtjabimfinanjoaaGreatM02
namespace Go.Proofs.YtjabimfinanjoaaGreat
open Go.RowKit
set_option maxRecDepth 100000

/-- Where the marks of inode j begin. -/
def inum (k : Nat) (ds : List ID) (j : Nat) : Nat := k + upto (isp ds) j
/-- What stands of a list of inodes of which the first j are marked. -/
structure HalfI (w : World) (b n j : Nat) (ds : List ID) (u : Nat → Value × Value) (F1 G1 : Nat → Nat → Prop) : Prop where
  row : ∃ f, OwnRow w b (n * 5) f ∧ (∀ i, i < n → f (i * 5 + 3) = (u i).1 ∧ f (i * 5 + 4) = (u i).2) ∧ ∀ i, i < n → ∀ q, q < 3 → ∃ z, f (i * 5 + q) = .int .i64 z
  ints : ∀ i, j ≤ i → i < n → IntsO w (u i).1 (ds[i]?.getD id0).2.2.2.1 (F1 i)
  ents : ∀ i, j ≤ i → i < n → EntsO w (u i).2 (ds[i]?.getD id0).2.2.2.2 (G1 i)
theorem HalfI.row_set {w : World} {b n j q : Nat} {ds : List ID} {u : Nat → Value × Value} {F1 G1 : Nat → Nat → Prop} (h : HalfI w b n j ds u F1 G1) (i : Nat) (hq : q < 3) (z : Int) (hF : ∀ i, ¬ F1 i b) (hG : ∀ i, ¬ G1 i b) : HalfI (w.setCell ⟨b, i * 5 + q, none⟩ (.int .i64 z)) b n j ds u F1 G1 := by
  obtain ⟨f, hr, h1, h2⟩ := h.row
  refine ⟨⟨_, hr.set (i * 5 + q) (.int .i64 z), fun k hk => ?_, fun k hk p hp => ?_⟩, fun k hj hk => (h.ints k hj hk).keep fun c hc _ => Below.heap_setCell _ _ _ _ (fun e => hF k (by have e' : c = b := e; rwa [e'] at hc)), fun k hj hk => (h.ents k hj hk).keep fun c hc _ => Below.heap_setCell _ _ _ _ (fun e => hG k (by have e' : c = b := e; rwa [e'] at hc))⟩
  · rw [if_neg (by omega), if_neg (by omega)]
    exact h1 k hk
  · by_cases e : k * 5 + p = i * 5 + q
    · exact ⟨z, by rw [if_pos e]⟩
    · rw [if_neg e]; exact h2 k hk p hp

set_option maxHeartbeats 6400000 in
theorem markInos_walk (w : World) (b cap n k : Nat) (F : Nat → Prop) (ds : List ID) (u : Nat → Value × Value) (F1 G1 : Nat → Nat → Prop) (hF : F b) (hFF : ∀ i c, F1 i c → F c ∧ c ≠ b) (hGF : ∀ i c, G1 i c → F c ∧ c ≠ b) (hFG : ∀ i j c, F1 i c → ¬ G1 j c) (hFd : ∀ i j c, i ≠ j → F1 i c → ¬ F1 j c) (hGd : ∀ i j c, i ≠ j → G1 i c → ¬ G1 j c)
    (hn : ds.length = n) (hk0 : 1 ≤ k) (hk : k + spanInos ds ≤ 4294967296) (hn2 : n ≤ 9223372036854775807) (h0 : HalfI w b n 0 ds u F1 G1) :
    Calls Tryz.prog 33 #[.slice (some ⟨b, 0, none⟩) n cap, .int .i64 (k : Int)] w fun e w' => e = .returned (.int .i64 ((k + spanInos ds : Nat) : Int)) ∧ Chg F w w' := by
  have H0 : Hid (HalfI w b n 0 ds u F1 G1) := h0
  have HF : Hid (F b) := hF
  have HFF : Hid (∀ i c, F1 i c → F c ∧ c ≠ b) := hFF
  have HGF : Hid (∀ i c, G1 i c → F c ∧ c ≠ b) := hGF
  have HFG : Hid (∀ i j c, F1 i c → ¬ G1 j c) := hFG
  have HFD : Hid (∀ i j c, i ≠ j → F1 i c → ¬ F1 j c) := hFd
  have HGD : Hid (∀ i j c, i ≠ j → G1 i c → ¬ G1 j c) := hGd
  have HN : Hid (ds.length = n) := hn
  have HE : Hid (inum k ds n = k + spanInos ds) := by
    have := upto_all (isp ds)
    rw [isp_length, hn] at this
    unfold Hid inum spanInos
    rw [this]
  have HBD : Hid (∀ j, j < n → inum k ds j + 3 + (ds[j]?.getD id0).2.2.2.1.length + 2 * (ds[j]?.getD id0).2.2.2.2.length = inum k ds (j + 1) ∧ inum k ds (j + 1) ≤ 4294967296) := fun j hj => by
    have h1 := upto_succ (isp ds) j (by rw [isp_length]; omega)
    rw [isp_get ds j (by omega)] at h1
    have h2 := upto_le (isp ds) (j + 1)
    have h3 : spanIno (ds[j]?.getD id0) = (ds[j]?.getD id0).2.2.2.1.length + 2 * (ds[j]?.getD id0).2.2.2.2.length := rfl
    have h4 : spanInos ds = (isp ds).sum := rfl
    unfold inum
    omega
  have HI0 : Hid (inum k ds 0 = k) := by unfold Hid inum; rw [upto_zero, Nat.add_zero]
  have HK1 : Hid (∀ j, 1 ≤ inum k ds j) := fun j => by unfold inum; omega
  rw [← HE.out]
  clear h0 hF hFF hGF hFG hFd hGd hn hk HE
  generalize inum k ds = N at *
  go_enter Tryz.func33, Tryz.ntmps33
  go_wp2
  go_loopw [1, 5] (fun q i wr => ∃ j : Nat, j ≤ n ∧ i = .int .i64 j ∧ q = .int .i64 ((N j : Nat) : Int) ∧ HalfI wr b n j ds u F1 G1 ∧ Chg F w wr) (fun _ i _ => n - (intOf i).toNat)
  case atStart => exact ⟨0, Nat.zero_le _, rfl, by rw [HI0.out], H0.out, Chg.refl _ _⟩
  case round =>
    obtain ⟨j, hj, rfl, rfl, hh, hch⟩ := hrel
    have HH : Hid (HalfI wr b n j ds u F1 G1) := hh
    have HCH : Hid (Chg F w wr) := hch
    clear hh hch H0
    by_cases hlt : j < n
    · obtain ⟨hs, hle⟩ := HBD.out j hlt
      have hN1 := HK1.out j
      have hNb : N j + 3 ≤ 4294967296 := by omega
      have HSN : Hid (N j + 3 + (ds[j]?.getD id0).2.2.2.1.length + 2 * (ds[j]?.getD id0).2.2.2.2.length = N (j + 1)) := hs
      obtain ⟨f, hr, hu, hz⟩ := HH.out.row
      obtain ⟨z0, e0⟩ := hz j hlt 0 (by omega)
      obtain ⟨z1, e1⟩ := hz j hlt 1 (by omega)
      obtain ⟨z2, e2⟩ := hz j hlt 2 (by omega)
      have c0 : wr.cell? ⟨b, j * 5, none⟩ = some (.int .i64 z0) := by rw [hr.cell (by omega)]; exact congrArg some e0
      have c1 : wr.cell? ⟨b, j * 5 + 1, none⟩ = some (.int .i64 z1) := by rw [hr.cell (by omega), e1]
      have c2 : wr.cell? ⟨b, j * 5 + 2, none⟩ = some (.int .i64 z2) := by rw [hr.cell (by omega), e2]
      have c3 : wr.cell? ⟨b, j * 5 + 3, none⟩ = some (u j).1 := by rw [hr.cell (by omega), (hu j hlt).1]
      have c4 : wr.cell? ⟨b, j * 5 + 4, none⟩ = some (u j).2 := by rw [hr.cell (by omega), (hu j hlt).2]
      have f0 := hr.frozen (j * 5)
      have f1 := hr.frozen (j * 5 + 1)
      have f2 := hr.frozen (j * 5 + 2)
      have hbw := hr.lt
      clear hr hu hz e0 e1 e2 f
      have nF : ∀ i, ¬ F1 i b := fun i h => (HFF.out i b h).2 rfl
      have nG : ∀ i, ¬ G1 i b := fun i h => (HGF.out i b h).2 rfl
      have HH3 : Hid (HalfI (((wr.setCell ⟨b, j * 5, none⟩ (.int .i64 ((N j : Nat) : Int))).setCell ⟨b, j * 5 + 1, none⟩ (.int .i64 (((N j : Nat) : Int) + 1))).setCell ⟨b, j * 5 + 2, none⟩ (.int .i64 (((N j : Nat) : Int) + 1 + 1))) b n j ds u F1 G1) :=
        ((HH.out.row_set (q := 0) j (by omega) _ nF nG).row_set (q := 1) j (by omega) _ nF nG).row_set (q := 2) j (by omega) _ nF nG
      have HCH3 : Hid (Chg F w (((wr.setCell ⟨b, j * 5, none⟩ (.int .i64 ((N j : Nat) : Int))).setCell ⟨b, j * 5 + 1, none⟩ (.int .i64 (((N j : Nat) : Int) + 1))).setCell ⟨b, j * 5 + 2, none⟩ (.int .i64 (((N j : Nat) : Int) + 1 + 1)))) := ((HCH.out.set HF.out _ _).set HF.out _ _).set HF.out _ _
      have HIJ := HH3.out.ints j (Nat.le_refl _) hlt
      have HEJ := HH3.out.ents j (Nat.le_refl _) hlt
      obtain ⟨aB, cB, eB, _⟩ := HIJ.ints.shape
      obtain ⟨aE, cE, eE, _⟩ := HEJ.reads.open'
      rw [eB] at c3 HIJ
      rw [eE] at c4 HEJ
      have HEE : Hid ((u j).2 = .slice aE (ds[j]?.getD id0).2.2.2.2.length cE) := eE
      have HIJ' : Hid (IntsO _ (.slice aB (ds[j]?.getD id0).2.2.2.1.length cB) (ds[j]?.getD id0).2.2.2.1 (F1 j)) := HIJ
      clear HIJ HEJ eB eE nF nG hs
      go_wp2_with fail
      clear c0 c1 c2 c3 c4 f0 f1 f2
      refine (markInts_any (((N j : Nat) : Int) + 1 + 1 + 1) HIJ'.out (by omega) (by have := HSN.out; omega)).mono ?_
      rintro e w1 ⟨rfl, -, hc1⟩
      obtain ⟨q, hq⟩ : ∃ q : Nat, ((N j : Nat) : Int) + 1 + 1 + 1 + ((ds[j]?.getD id0).2.2.2.1.length : Nat) = (q : Int) := ⟨N j + 3 + (ds[j]?.getD id0).2.2.2.1.length, by omega⟩
      rw [hq]
      have hqn : q + 2 * (ds[j]?.getD id0).2.2.2.2.length = N (j + 1) := by have := HSN.out; omega
      have HQN : Hid (((q + 2 * (ds[j]?.getD id0).2.2.2.2.length : Nat) : Int) = ((N (j + 1) : Nat) : Int)) := by unfold Hid; rw [hqn]
      have hq1 : 1 ≤ q := by omega
      have hH1 : HalfI w1 b n (j + 1) ds u F1 G1 := ⟨by
        obtain ⟨f, hr, h1, h2⟩ := HH3.out.row
        exact ⟨f, hr.block (hc1.block b hr.lt (fun h => (HFF.out j b h).2 rfl)), h1, h2⟩, fun i hi hin => (HH3.out.ints i (by omega) hin).keep fun c hc hl => hc1.block c hl (HFD.out i j c (by omega) hc), fun i hi hin => (HH3.out.ents i (by omega) hin).keep fun c hc hl => hc1.block c hl (fun h => HFG.out j i c h hc)⟩
      have HEJ1 : Hid (EntsO w1 (.slice aE (ds[j]?.getD id0).2.2.2.2.length cE) (ds[j]?.getD id0).2.2.2.2 (G1 j)) := by
        have := (HH3.out.ents j (Nat.le_refl _) hlt).keep (w' := w1) fun c hc hl => hc1.block c hl (fun h => HFG.out j j c h hc)
        rw [HEE.out] at this
        exact this
      obtain ⟨f, hr, hu, hz⟩ := hH1.row
      have c4 : w1.cell? ⟨b, j * 5 + 4, none⟩ = some (.slice aE (ds[j]?.getD id0).2.2.2.2.length cE) := by rw [hr.cell (by omega), (hu j hlt).2, HEE.out]
      have HH1 : Hid (HalfI w1 b n (j + 1) ds u F1 G1) := hH1
      have HCH1 : Hid (Chg F w w1) := HCH3.out.trans (hc1.mono fun c hc => (HFF.out j c hc).1)
      clear hz hc1 hH1 hr hu f HH3 HCH3 HIJ' hq
      go_wp2_with fail
      refine (markEntsU q HEJ1.out hq1 (by omega)).mono ?_
      rintro e w2 ⟨rfl, -, hc2⟩
      rw [HQN.out]
      have HH2 : Hid (HalfI w2 b n (j + 1) ds u F1 G1) := ⟨by
        obtain ⟨f, hr, h1, h2⟩ := HH1.out.row
        exact ⟨f, hr.block (hc2.block b hr.lt (fun h => (HGF.out j b h).2 rfl)), h1, h2⟩, fun i hi hin => (HH1.out.ints i hi hin).keep fun c hc hl => hc2.block c hl (fun h => HFG.out i j c hc h), fun i hi hin => (HH1.out.ents i hi hin).keep fun c hc hl => hc2.block c hl (HGD.out i j c (by omega) hc)⟩
      have HCH2 : Hid (Chg F w w2) := HCH1.out.trans (hc2.mono fun c hc => (HGF.out j c hc).1)
      clear hc2 c4 HH1 HCH1 HEJ1
      go_wp2
      go_roundw
      case rel => exact ⟨j + 1, by omega, by go_num, rfl, HH2.out, HCH2.out⟩
      case measure => simp [intOf]; omega
    · have HJ : Hid (N j = N n) := by unfold Hid; rw [show j = n by omega]
      go_wp2
      go_ret
      exact ⟨ret_int (by rw [HJ.out]), HCH.out⟩

set_option maxHeartbeats 800000 in
theorem markInos_nil (w : World) (a : Option Addr) (cap : Nat) (k : Int) :
    Calls Tryz.prog 33 #[.slice a 0 cap, .int .i64 k] w fun e w' => e = .returned (.int .i64 k) ∧ w' = w := by
  go_enter Tryz.func33, Tryz.ntmps33
  go_wp2
  go_loop [1, 5] (fun q i => i = .int .i64 0 ∧ q = .int .i64 k) (fun _ _ => 0)
  case atStart => exact ⟨rfl, rfl⟩
  case round =>
    obtain ⟨rfl, rfl⟩ := hrel
    go_wp2
    go_ret
    exact ⟨rfl, rfl⟩

theorem choose_fg {n : Nat} {P : Nat → (Nat → Prop) → (Nat → Prop) → Prop} (h : ∀ i, i < n → ∃ F G, P i F G) : ∃ (F G : Nat → Nat → Prop), ∀ i, i < n → P i (F i) (G i) := by
  have h' : ∀ i, ∃ FG : (Nat → Prop) × (Nat → Prop), i < n → P i FG.1 FG.2 := fun i => by
    by_cases hi : i < n
    · obtain ⟨F, G, hp⟩ := h i hi
      exact ⟨(F, G), fun _ => hp⟩
    · exact ⟨(fun _ => False, fun _ => False), fun h => absurd h hi⟩
  exact ⟨fun i => (Classical.choose (h' i)).1, fun i => (Classical.choose (h' i)).2, fun i hi => Classical.choose_spec (h' i) hi⟩

theorem markInosU {w : World} {v : Value} {ds : List ID} {F : Nat → Prop} (k : Int) (h : InosO w v ds F) (hk0 : 1 ≤ k) (hk : k + (spanInos ds : Nat) ≤ 4294967296) :
    Calls Tryz.prog 33 #[v, .int .i64 k] w fun e w' => e = .returned (.int .i64 (k + (spanInos ds : Nat))) ∧ Chg F w w' := by
  rcases h with ⟨rfl, a, cap, rfl⟩ | ⟨b, cap, u, G, hF, hG, hGG, rfl, hl, hr, hu⟩
  · exact (markInos_nil w a cap k).mono fun e w' ⟨he, hw⟩ => ⟨by rw [he]; simp [spanInos, isp], hw ▸ Chg.refl _ _⟩
  · obtain ⟨q, rfl⟩ := Int.eq_ofNat_of_zero_le (a := k) (by omega)
    obtain ⟨F1, G1, hfg⟩ := choose_fg (fun i hi => (hu i hi).2)
    have hm : ds.length ≤ 9223372036854775807 := by have := hl.1; unfold maxLen at this; omega
    have := markInos_walk w b cap ds.length q F ds u (fun i c => i < ds.length ∧ F1 i c) (fun i c => i < ds.length ∧ G1 i c) hF (fun i c hc => hG i c ((hfg i hc.1).2.2.2 c (Or.inl hc.2))) (fun i c hc => hG i c ((hfg i hc.1).2.2.2 c (Or.inr hc.2)))
      (fun i j c hc hc' => by
        by_cases e : i = j
        · subst e; exact (hfg i hc.1).2.2.1 c hc.2 hc'.2
        · exact hGG i j c e ((hfg i hc.1).2.2.2 c (Or.inl hc.2)) ((hfg j hc'.1).2.2.2 c (Or.inr hc'.2)))
      (fun i j c e hc hc' => hGG i j c e ((hfg i hc.1).2.2.2 c (Or.inl hc.2)) ((hfg j hc'.1).2.2.2 c (Or.inl hc'.2)))
      (fun i j c e hc hc' => hGG i j c e ((hfg i hc.1).2.2.2 c (Or.inr hc.2)) ((hfg j hc'.1).2.2.2 c (Or.inr hc'.2))) rfl (by omega) (by omega) hm
      ⟨⟨_, hr, fun i _ => ⟨inCell_3 ds u i, inCell_4 ds u i⟩, fun i _ p hp => by
        have : p = 0 ∨ p = 1 ∨ p = 2 := by omega
        rcases this with rfl | rfl | rfl
        · exact ⟨_, inCell_0 ds u i⟩
        · exact ⟨_, inCell_1 ds u i⟩
        · exact ⟨_, inCell_2 ds u i⟩⟩, fun i _ hi => (hfg i hi).1.mono fun c hc => ⟨hi, hc⟩, fun i _ hi => (hfg i hi).2.1.mono fun c hc => ⟨hi, hc⟩⟩
    exact this.mono fun e w' ⟨h1, h2⟩ => ⟨by rw [h1]; congr 2, h2⟩
end Go.Proofs.YtjabimfinanjoaaGreat

namespace Go.Proofs.YtjabimfinanjoaaGreat
open Go.RowKit
set_option maxRecDepth 100000

set_option maxHeartbeats 1600000 in
theorem eqByts_walk (w : World) (a a' : Option Addr) (cap cap' n : Nat) (zss : List (List UInt8)) (hn : n ≤ maxLen) (hc : AtYs w a n zss) (hc' : AtYs w a' n zss) :
    Calls Tryz.prog 32 #[.slice a n cap, .slice a' n cap'] w fun e w' => e = .returned (.bool true) ∧ Below w.heap.size w w' := by
  unfold maxLen at hn
  have HC : Hid (AtYs w a n zss) := hc
  have HC' : Hid (AtYs w a' n zss) := hc'
  clear hc hc'
  go_enter Tryz.func32, Tryz.ntmps32
  go_wp2
  go_loopw [5] (fun i wr => ∃ j m : Nat, j ≤ n ∧ i = .int .i64 j ∧ wr = w.drewN m) (fun i _ => n - (intOf i).toNat)
  case atStart => exact ⟨0, 0, Nat.zero_le _, rfl, rfl⟩
  case round =>
    obtain ⟨j, m, hj, rfl, rfl⟩ := hrel
    by_cases hlt : j < n
    · obtain ⟨b, o, ua, uc, rfl, d0, i0⟩ := HC.out j hlt
      obtain ⟨b', o', ua', uc', rfl, d1, i1⟩ := HC'.out j hlt
      have HEQ : Hid (∀ q, Calls Tryz.prog 12 #[.slice ua (zss[j]?.getD []).length uc, .slice ua' (zss[j]?.getD []).length uc'] (w.drewN q) fun e w' => e = .returned (.bool true) ∧ ∃ m', w' = (w.drewN q).drewN m') := fun q => eqBytU (w := w.drewN q) (i0.later (below_drewN (Below.refl _ _) q)) (i1.later (below_drewN (Below.refl _ _) q))
      clear i0 i1 HC HC'
      generalize (zss[j]?.getD []).length = ln at *
      go_wp2_with fail
      go_quiet ((go_at_call 12; exact quiet_of2 (HEQ.out _)))
      go_wp2
      go_roundw
      case rel => exact ⟨j + 1, _, by omega, by go_num, rfl⟩
      case measure => simp [intOf]; omega
    · go_wp2
      go_ret
      exact ⟨rfl, below_drewN (Below.refl _ _) m⟩
theorem eqBytsU {w : World} {v v' : Value} {zss : List (List UInt8)} (h : Byts w v zss) (h' : Byts w v' zss) : Calls Tryz.prog 32 #[v, v'] w fun e w' => e = .returned (.bool true) ∧ Below w.heap.size w w' := by
  obtain ⟨a, cap, rfl, hm, hc⟩ := h.open'
  obtain ⟨a', cap', rfl, _, hc'⟩ := h'.open'
  exact eqByts_walk w a a' cap cap' _ zss hm.1 hc hc'

/-- File systems. -/
abbrev FD := List ID × List (List UInt8)
def FsR (w : World) (v1 v2 : Value) (d : FD) : Prop := Inos w v1 d.1 ∧ Byts w v2 d.2
theorem FsR.later {w w' : World} {v1 v2 : Value} {d : FD} (h : FsR w v1 v2 d) (hb : Below w.heap.size w w') : FsR w' v1 v2 d := ⟨h.1.later hb, h.2.later hb⟩
def FsU (w : World) (v1 v2 : Value) (d : FD) (F : Nat → Prop) : Prop := ∃ F1 G1 : Nat → Prop, InosO w v1 d.1 F1 ∧ BytsO w v2 d.2 G1 ∧ (∀ b, F1 b → ¬ G1 b) ∧ ∀ b, F1 b ∨ G1 b → F b
theorem FsU.reads {w : World} {v1 v2 : Value} {d : FD} {F : Nat → Prop} (h : FsU w v1 v2 d F) : FsR w v1 v2 d := by
  obtain ⟨_, _, h1, h2, _⟩ := h
  exact ⟨h1.reads, h2.reads⟩
theorem FsU.keep {w w' : World} {v1 v2 : Value} {d : FD} {F : Nat → Prop} (h : FsU w v1 v2 d F) (e : ∀ b, F b → b < w.heap.size → w'.heap[b]? = w.heap[b]?) : FsU w' v1 v2 d F := by
  obtain ⟨F1, G1, h1, h2, hd, hf⟩ := h
  exact ⟨F1, G1, h1.keep fun b hb => e b (hf b (Or.inl hb)), h2.keep fun b hb => e b (hf b (Or.inr hb)), hd, hf⟩
theorem FsU.later {w w' : World} {v1 v2 : Value} {d : FD} {F : Nat → Prop} (h : FsU w v1 v2 d F) (hb : Below w.heap.size w w') : FsU w' v1 v2 d F := h.keep fun b _ hlt => hb.block b hlt
theorem FsU.mono {w : World} {v1 v2 : Value} {d : FD} {F G : Nat → Prop} (h : FsU w v1 v2 d F) (e : ∀ b, F b → G b) : FsU w v1 v2 d G := by
  obtain ⟨F1, G1, h1, h2, hd, hf⟩ := h
  exact ⟨F1, G1, h1, h2, hd, fun b hb => e b (hf b hb)⟩
theorem FsU.chg {w w' : World} {v1 v2 : Value} {d : FD} {F G : Nat → Prop} (h : FsU w v1 v2 d F) (hc : Chg G w w') (hd : ∀ b, F b → ¬ G b) : FsU w' v1 v2 d F := h.keep fun b hb hlt => hc.block b hlt (hd b hb)
def sizeFs (d : FD) : Nat := sizeInos d.1 + sizeByts d.2
def spanFs (d : FD) : Nat := spanInos d.1 + (ylens d.2).sum
theorem spanFs_le (d : FD) : spanFs d ≤ 3 * sizeFs d := by
  have := spanInos_le d.1
  unfold spanFs sizeFs sizeByts
  omega

set_option maxHeartbeats 800000 in
theorem szFsU (w : World) (a1 : Option Addr) (n1 c1 : Nat) (a2 : Option Addr) (n2 c2 : Nat) (d : FD) (h : FsR w (.slice a1 n1 c1) (.slice a2 n2 c2) d) (left : Int) (l0 : 0 ≤ left) (l1 : left ≤ 1048576) :
    Calls Tryz.prog 4 #[.agg #[.slice a1 n1 c1, .slice a2 n2 c2], .int .i64 left] w fun e w' => e = .returned (.int .i64 (szf left (sizeFs d))) ∧ Below w.heap.size w w' := by
  have H1 : Hid (Inos w (.slice a1 n1 c1) d.1) := h.1
  have H2 : Hid (Byts w (.slice a2 n2 c2) d.2) := h.2
  have HX : Hid (Bx (w.alloc (.cells #[.slice a1 n1 c1, .slice a2 n2 c2] 25)) w.heap.size [.slice a1 n1 c1, .slice a2 n2 c2]) := Bx.new w [.slice a1 n1 c1, .slice a2 n2 c2] _
  clear h
  by_cases hm : left < ((sizeInos d.1 : Nat) : Int)
  · have HR : Hid (szf left (sizeInos d.1) = -1) := szf_no hm
    have HM : Hid (szf left (sizeFs d) = -1) := szf_no (by unfold sizeFs; omega)
    rw [HM.out]
    go_enter Tryz.func4, Tryz.ntmps4
    go_wp2_with fail
    refine (szInosU _ _ _ _ d.1 (H1.out.later (later1 _ _)) _ l0 l1).mono ?_
    rw [HR.out]
    rintro e w1 ⟨rfl, hb1⟩
    have HB1 : Hid (Below w.heap.size w w1) := (later1 _ _).trans (hb1.mono (by simp))
    clear hb1
    go_wp2
    go_ret
    exact ⟨rfl, HB1.out⟩
  · have HR : Hid (szf left (sizeInos d.1) = left - ((sizeInos d.1 : Nat) : Int)) := szf_yes hm
    have hpos : ¬ left - ((sizeInos d.1 : Nat) : Int) < 0 := by omega
    have HD : Hid (szf (left - ((sizeInos d.1 : Nat) : Int)) (sizeByts d.2) = szf left (sizeFs d)) := by
      unfold Hid szf sizeFs
      split <;> split <;> omega
    have hx0 : (0 : Int) ≤ ((sizeInos d.1 : Nat) : Int) := by omega
    generalize ((sizeInos d.1 : Nat) : Int) = X at *
    have hrr : szf left (sizeFs d) = -1 ∨ 0 ≤ szf left (sizeFs d) := by unfold szf; split <;> omega
    generalize hr : szf left (sizeFs d) = r at *
    clear hr
    have step : ∀ (P : Prop), (r < 0 → r = -1 → P) → (¬ r < 0 → P) → P := fun P h1 h2 => hrr.elim (fun e => h1 (by omega) e) (fun e => h2 (by omega))
    apply step
    · intro hneg he
      subst he
      clear step hrr
      go_enter Tryz.func4, Tryz.ntmps4
      go_wp2_with fail
      refine (szInosU _ _ _ _ d.1 (H1.out.later (later1 _ _)) _ l0 l1).mono ?_
      rw [HR.out]
      rintro e w1 ⟨rfl, hb1⟩
      have HB1 : Hid (Below w.heap.size w w1) := (later1 _ _).trans (hb1.mono (by simp))
      have x1 := (HX.out.later hb1) 1 _ rfl
      clear hb1
      go_wp2_with fail
      refine (szBytsU _ _ _ _ d.2 (H2.out.later HB1.out) _ (by omega) (by omega)).mono ?_
      rw [HD.out]
      rintro e w2 ⟨rfl, hb2⟩
      have HB2 : Hid (Below w.heap.size w w2) := HB1.out.trans (hb2.mono HB1.out.size)
      clear hb2 x1
      go_wp2
      go_ret
      exact ⟨rfl, HB2.out⟩
    · intro hnn
      clear step hrr
      go_enter Tryz.func4, Tryz.ntmps4
      go_wp2_with fail
      refine (szInosU _ _ _ _ d.1 (H1.out.later (later1 _ _)) _ l0 l1).mono ?_
      rw [HR.out]
      rintro e w1 ⟨rfl, hb1⟩
      have HB1 : Hid (Below w.heap.size w w1) := (later1 _ _).trans (hb1.mono (by simp))
      have x1 := (HX.out.later hb1) 1 _ rfl
      clear hb1
      go_wp2_with fail
      refine (szBytsU _ _ _ _ d.2 (H2.out.later HB1.out) _ (by omega) (by omega)).mono ?_
      rw [HD.out]
      rintro e w2 ⟨rfl, hb2⟩
      have HB2 : Hid (Below w.heap.size w w2) := HB1.out.trans (hb2.mono HB1.out.size)
      clear hb2 x1
      go_wp2
      go_ret
      exact ⟨rfl, HB2.out⟩

set_option maxHeartbeats 1600000 in
theorem eqFsU (w : World) (v1 v2 v1' v2' : Value) (d : FD) (h : FsR w v1 v2 d) (h' : FsR w v1' v2' d) :
    Calls Tryz.prog 11 #[.agg #[v1, v2], .agg #[v1', v2']] w fun e w' => e = .returned (.bool true) ∧ Below w.heap.size w w' := by
  obtain ⟨a1, c1, rfl, _⟩ := h.1.open'
  obtain ⟨a2, c2, rfl, _⟩ := h.2.open'
  obtain ⟨b1, k1, rfl, _⟩ := h'.1.open'
  obtain ⟨b2, k2, rfl, _⟩ := h'.2.open'
  have H1 : Hid (Inos w _ d.1) := h.1
  have H2 : Hid (Byts w _ d.2) := h.2
  have H1' : Hid (Inos w _ d.1) := h'.1
  have H2' : Hid (Byts w _ d.2) := h'.2
  clear h h'
  generalize d.1.length = m1 at *
  generalize d.2.length = m2 at *
  have HX : Hid (Bx ((w.alloc (.cells #[.slice a1 m1 c1, .slice a2 m2 c2] 31)).alloc (.cells #[.slice b1 m1 k1, .slice b2 m2 k2] 31)) w.heap.size [.slice a1 m1 c1, .slice a2 m2 c2]) := (Bx.new w [.slice a1 m1 c1, .slice a2 m2 c2] _).later (later1 _ _)
  have HY : Hid (Bx ((w.alloc (.cells #[.slice a1 m1 c1, .slice a2 m2 c2] 31)).alloc (.cells #[.slice b1 m1 k1, .slice b2 m2 k2] 31)) (w.heap.size + 1) [.slice b1 m1 k1, .slice b2 m2 k2]) := by
    have := Bx.new (w.alloc (.cells #[.slice a1 m1 c1, .slice a2 m2 c2] 31)) [.slice b1 m1 k1, .slice b2 m2 k2] 31
    rw [World.size_alloc] at this
    exact this
  go_enter Tryz.func11, Tryz.ntmps11
  go_wp2_with fail
  refine (eqInosU (H1.out.later (later2 _ _ _)) (H1'.out.later (later2 _ _ _))).mono ?_
  rintro e w1 ⟨rfl, hb1⟩
  have HB1 : Hid (Below w.heap.size w w1) := (later2 _ _ _).trans (hb1.mono (by simp; omega))
  have x1 := (HX.out.later hb1) 1 _ rfl
  have y1 := (HY.out.later hb1) 1 _ rfl
  clear hb1
  go_wp2_with fail
  refine (eqBytsU (H2.out.later HB1.out) (H2'.out.later HB1.out)).mono ?_
  rintro e w2 ⟨rfl, hb2⟩
  have HB2 : Hid (Below w.heap.size w w2) := HB1.out.trans (hb2.mono HB1.out.size)
  clear hb2
  go_wp2
  go_ret
  exact ⟨rfl, HB2.out⟩
end Go.Proofs.YtjabimfinanjoaaGreat

namespace Go.Proofs.YtjabimfinanjoaaGreat
open Go.RowKit
set_option maxRecDepth 100000

set_option maxHeartbeats 3200000 in
theorem toFsU (w : World) (a1 : Option Addr) (n1 c1 : Nat) (a2 : Option Addr) (n2 c2 : Nat) (d : FD) (h : FsR w (.slice a1 n1 c1) (.slice a2 n2 c2) d) (hs : sizeFs d ≤ 1048576) :
    Calls Tryz.prog 6 #[.agg #[.slice a1 n1 c1, .slice a2 n2 c2]] w fun e w' => ∃ b1 m1 k1 b2 m2 k2, e = .returned (.agg #[.slice b1 m1 k1, .slice b2 m2 k2]) ∧ Below w.heap.size w w' ∧ FsU w' (.slice b1 m1 k1) (.slice b2 m2 k2) d (fresh w w') := by
  have H1 : Hid (Inos w (.slice a1 n1 c1) d.1) := h.1
  have H2 : Hid (Byts w (.slice a2 n2 c2) d.2) := h.2
  have L1 : Hid (sizeInos d.1 ≤ 1048576) := by unfold sizeFs at hs; unfold Hid; omega
  have L2 : Hid (sizeByts d.2 ≤ 1048576) := by unfold sizeFs at hs; unfold Hid; omega
  clear h hs
  go_enter Tryz.func6, Tryz.ntmps6
  go_wp2_with fail
  have O2 : OwnRow (((w.alloc (.cells #[.slice a1 n1 c1, .slice a2 n2 c2] 25)).alloc (.cells #[.slice none 0 0, .slice none 0 0] 31)).alloc (.cells #[.slice none 0 0, .slice none 0 0] 31)) (w.heap.size + 1 + 1) 2 (fun i => if i = 0 then .slice none 0 0 else .slice none 0 0) := by
    have := OwnRow.two ((w.alloc (.cells #[.slice a1 n1 c1, .slice a2 n2 c2] 25)).alloc (.cells #[.slice none 0 0, .slice none 0 0] 31)) (.slice none 0 0) (.slice none 0 0) 31
    simpa using this
  have O1 : OwnRow (((w.alloc (.cells #[.slice a1 n1 c1, .slice a2 n2 c2] 25)).alloc (.cells #[.slice none 0 0, .slice none 0 0] 31)).alloc (.cells #[.slice none 0 0, .slice none 0 0] 31)) (w.heap.size + 1) 2 (fun i => if i = 0 then .slice none 0 0 else .slice none 0 0) := by
    have := (OwnRow.two (w.alloc (.cells #[.slice a1 n1 c1, .slice a2 n2 c2] 25)) (.slice none 0 0) (.slice none 0 0) 31).later (later1 _ (.cells #[.slice none 0 0, .slice none 0 0] 31))
    simpa using this
  have O0 : OwnRow (((w.alloc (.cells #[.slice a1 n1 c1, .slice a2 n2 c2] 25)).alloc (.cells #[.slice none 0 0, .slice none 0 0] 31)).alloc (.cells #[.slice none 0 0, .slice none 0 0] 31)) w.heap.size 2 (fun i => if i = 0 then .slice a1 n1 c1 else .slice a2 n2 c2) := ((OwnRow.two w (.slice a1 n1 c1) (.slice a2 n2 c2) 25).later (later1 _ _)).later (later1 _ _)
  have HBA : Hid (Below w.heap.size w (((w.alloc (.cells #[.slice a1 n1 c1, .slice a2 n2 c2] 25)).alloc (.cells #[.slice none 0 0, .slice none 0 0] 31)).alloc (.cells #[.slice none 0 0, .slice none 0 0] 31))) := later3 _ _ _ _
  have hWs : (((w.alloc (.cells #[.slice a1 n1 c1, .slice a2 n2 c2] 25)).alloc (.cells #[.slice none 0 0, .slice none 0 0] 31)).alloc (.cells #[.slice none 0 0, .slice none 0 0] 31)).heap.size = w.heap.size + 3 := by simp
  generalize hW : (((w.alloc (.cells #[.slice a1 n1 c1, .slice a2 n2 c2] 25)).alloc (.cells #[.slice none 0 0, .slice none 0 0] 31)).alloc (.cells #[.slice none 0 0, .slice none 0 0] 31)) = W at *
  clear hW
  refine (toInosU (H1.out.later HBA.out) L1.out).mono ?_
  rintro e w1 ⟨b1, m1, k1, rfl, hb1, ho1⟩
  have HB1 : Hid (Below w.heap.size w w1) := HBA.out.trans (hb1.mono HBA.out.size)
  replace O2 := O2.later hb1
  replace O1 := O1.later hb1
  replace O0 := O0.later hb1
  have HO1 : Hid (InosO w1 (.slice b1 m1 k1) d.1 (fun b => w.heap.size + 3 ≤ b ∧ b < w1.heap.size)) := ho1.mono fun b hb => ⟨by have := hb.1; omega, hb.2⟩
  clear hb1 ho1
  have P0 := O0.cell (i := 1) (by omega)
  have d0 := O2.cell (i := 0) (by omega)
  have f0 := O2.frozen 0
  simp at P0 d0
  have HO2 : Hid (OwnRow w1 (w.heap.size + 1 + 1) 2 (fun i => if i = 0 then .slice none 0 0 else .slice none 0 0)) := O2
  have HR1 : Hid (OwnRow w1 (w.heap.size + 1) 2 (fun i => if i = 0 then .slice none 0 0 else .slice none 0 0)) := O1
  have hz1 : w.heap.size + 1 + 1 < w1.heap.size := O2.lt
  clear O0 O1 O2
  go_wp2_with fail
  clear d0 f0 P0
  have HBX : Hid (Below w.heap.size w (w1.setCell ⟨w.heap.size + 1 + 1, 0, none⟩ (.slice b1 m1 k1))) := HB1.out.setCell (by simp; omega) _
  refine (toBytsU (H2.out.later HBX.out) L2.out).mono ?_
  rintro e w2 ⟨b2, m2, k2, rfl, hb2, ho2⟩
  have HOX := (HO2.out.set 0 (.slice b1 m1 k1)).later hb2
  have HRX := (HR1.out.store (p := ⟨w.heap.size + 1 + 1, 0, none⟩) (by simp) (.slice b1 m1 k1)).later hb2
  have e1 : (w1.setCell ⟨w.heap.size + 1 + 1, 0, none⟩ (.slice b1 m1 k1)).heap.size = w1.heap.size := by simp [World.setCell]
  have HIX : Hid (InosO w2 (.slice b1 m1 k1) d.1 (fun b => w.heap.size + 3 ≤ b ∧ b < w1.heap.size)) := HO1.out.keep fun b hb hlt => by
    rw [hb2.block b (by rw [e1]; exact hlt), Below.heap_setCell _ _ _ _ (by simp; omega)]
  have HPX : Hid (BytsO w2 (.slice b2 m2 k2) d.2 (fun b => w1.heap.size ≤ b ∧ b < w2.heap.size)) := by
    unfold fresh at ho2
    rw [e1] at ho2
    exact ho2
  have HB2 : Hid (Below w.heap.size w w2) := HBX.out.trans (hb2.mono HBX.out.size)
  have e2 : w1.heap.size ≤ w2.heap.size := by have := hb2.size; rwa [e1] at this
  have q0 := HOX.cell (i := 0) (by omega)
  have q1 := HOX.cell (i := 1) (by omega)
  have qf := HOX.frozen 1
  have t0 := HRX.cell (i := 0) (by omega)
  have t1 := HRX.cell (i := 1) (by omega)
  have s0 := HRX.frozen 0
  have s1 := HRX.frozen 1
  simp at q0 q1 t0 t1
  clear HOX HRX hb2 ho2
  go_wp2
  refine bodyPost_ret (v := .agg #[.slice b1 m1 k1, .slice b2 m2 k2]) (by simp [results, Tryz.results6, go_sem, t0, t1]) rfl ⟨_, _, _, _, _, _, rfl, ?_, ?_⟩
  · exact ((HB2.out.setCell (by simp; omega) _).setCell (by simp) _).setCell (by simp) _
  · refine ⟨fun b => w.heap.size + 3 ≤ b ∧ b < w1.heap.size, fun b => w1.heap.size ≤ b ∧ b < w2.heap.size, HIX.out.keep fun b hb hlt => ?_, HPX.out.keep fun b hb hlt => ?_, fun b hb hb' => by omega, fun b hb => ?_⟩
    · rw [Below.heap_setCell _ _ _ _ (by simp; omega), Below.heap_setCell _ _ _ _ (by simp; omega), Below.heap_setCell _ _ _ _ (by simp; omega)]
    · rw [Below.heap_setCell _ _ _ _ (by simp; omega), Below.heap_setCell _ _ _ _ (by simp; omega), Below.heap_setCell _ _ _ _ (by simp; omega)]
    · unfold fresh
      simp only [World.setCell, Array.size_modify]
      rcases hb with hb | hb <;> omega
end Go.Proofs.YtjabimfinanjoaaGreat

namespace Go.Proofs.YtjabimfinanjoaaGreat
open Go.RowKit
set_option maxRecDepth 100000

theorem InoU.bound {w : World} {v0 v1 v2 vB vE : Value} {d : ID} {F : Nat → Prop} (h : InoU w v0 v1 v2 vB vE d F) : InoU w v0 v1 v2 vB vE d (fun b => F b ∧ b < w.heap.size) := by
  obtain ⟨h0, F1, G1, h1, h2, hd, hf⟩ := h
  exact ⟨h0, _, _, h1.bound, h2.bound, fun b hb hb' => hd b hb.1 hb'.1, fun b hb => by
    rcases hb with hb | hb
    · exact ⟨hf b (Or.inl hb.1), hb.2⟩
    · exact ⟨hf b (Or.inr hb.1), hb.2⟩⟩
theorem InosO.bound {w : World} {v : Value} {ds : List ID} {F : Nat → Prop} (h : InosO w v ds F) : InosO w v ds (fun b => F b ∧ b < w.heap.size) := by
  rcases h with h | ⟨b, cap, u, G, hF, hG, hGG, h1, h2, h3, h4⟩
  · exact Or.inl h
  · exact Or.inr ⟨b, cap, u, fun i c => G i c ∧ c < w.heap.size, ⟨hF, h3.lt⟩, fun i c hc => ⟨⟨(hG i c hc.1).1, hc.2⟩, (hG i c hc.1).2⟩, fun i j c e hc hc' => hGG i j c e hc.1 hc'.1, h1, h2, h3, fun i hi => (h4 i hi).bound⟩
set_option maxHeartbeats 800000 in
theorem markFsU (w : World) (v1 v2 : Value) (d : FD) (F : Nat → Prop) (k : Int) (h : FsU w v1 v2 d F) (hk0 : 1 ≤ k) (hk : k + (spanFs d : Nat) ≤ 4294967296) :
    Calls Tryz.prog 14 #[.agg #[v1, v2], .int .i64 k] w fun e w' => e = .returned (.int .i64 (k + (spanFs d : Nat))) ∧ Chg F w w' := by
  obtain ⟨F1, G1, h1, h2, hd, hf⟩ := h
  have H1 : Hid (InosO w v1 d.1 F1) := h1
  have H2 : Hid (BytsO w v2 d.2 G1) := h2
  have HD : Hid (∀ b, F1 b → ¬ G1 b) := hd
  have HF : Hid (∀ b, F1 b ∨ G1 b → F b) := hf
  have HE : Hid (k + (spanFs d : Nat) = k + (spanInos d.1 : Nat) + ((ylens d.2).sum : Nat)) := by unfold Hid spanFs; omega
  have hk2 : k + (spanInos d.1 : Nat) + ((ylens d.2).sum : Nat) ≤ 4294967296 := by unfold spanFs at hk; omega
  rw [HE.out]
  clear h1 h2 hd hf hk HE
  go_enter Tryz.func14, Tryz.ntmps14
  go_wp2_with fail
  refine (markInosU k (H1.out.bound.keep fun b hb hlt => (later1 _ _).block b hlt) hk0 (by omega)).mono ?_
  rintro e w1 ⟨rfl, hc⟩
  have c1 : w1.cell? ⟨w.heap.size, 1, none⟩ = some v2 := by
    rw [World.cell?_of_block (w := w.alloc (.cells #[v1, v2] 31)) (box_later hc fun b hb => hb.2), new_cell]; rfl
  have HC : Hid (Chg (fun b => F1 b ∧ b < w.heap.size) (w.alloc (.cells #[v1, v2] 31)) w1) := hc
  have H2' : Hid (BytsO w1 v2 d.2 (fun b => G1 b ∧ b < w.heap.size)) := H2.out.bound.keep fun b hb hlt => (HC.out.block b (by simp; omega) (fun h => HD.out b h.1 hb.1)).trans ((later1 _ _).block b hlt)
  clear hc
  go_wp2_with fail
  refine (markBytsU _ H2'.out (by omega) (by omega)).mono ?_
  rintro e w2 ⟨rfl, hc2⟩
  have HC2 : Hid (Chg (fun b => G1 b ∧ b < w.heap.size) w1 w2) := hc2
  clear hc2
  go_wp2
  go_ret
  exact ⟨rfl, (Chg.of_below (later1 _ _)).trans ((HC.out.mono fun b hb => HF.out b (Or.inl hb.1)).trans (HC2.out.mono fun b hb => HF.out b (Or.inr hb.1)))⟩

/-- Answers that are a code and bytes. -/
def AnsYR (w : World) (r : Int × List UInt8) (e : Ending) (w' : World) : Prop := ∃ a n c, e = .returned (.agg #[.int .i64 r.1, .slice a n c]) ∧ Below w.heap.size w w' ∧ BytO w' (.slice a n c) r.2 (fresh w w')
/-- Bytes in memory that the call made since n₀. -/
def WdY (w : World) (n₀ : Nat) (v : Value) (zs : List UInt8) : Prop := w.ownsRow n₀ 5 1 v zs.length (zs.map byteV)
theorem WdY.later {w w' : World} {n₀ : Nat} {v : Value} {zs : List UInt8} (h : WdY w n₀ v zs) (hb : Below w.heap.size w w') : WdY w' n₀ v zs := ownsRow_later h hb
theorem WdY.shape {w : World} {n₀ : Nat} {v : Value} {zs : List UInt8} (h : WdY w n₀ v zs) : ∃ a c, v = .slice a zs.length c := ownsRow_shape h
theorem WdY.nil (w : World) (n₀ : Nat) : WdY w n₀ (.slice none 0 0) [] := ⟨by simp, Or.inl ⟨rfl, rfl⟩⟩
theorem WdY.lit0 (w : World) (n₀ : Nat) (h : n₀ ≤ w.heap.size) : WdY (w.alloc (.cells #[] 5)) n₀ (.slice (some ⟨w.heap.size, 0, none⟩) 0 0) [] := by
  have := World.ownsRow_lit (e := 5) (size := 1) w (#[] : Array Value) 0 h (by unfold maxLen; omega) (by simp)
  simpa [WdY] using this
theorem WdY.own {w w0 : World} {n₀ : Nat} {v : Value} {zs : List UInt8} (h : WdY w n₀ v zs) (hn : w0.heap.size ≤ n₀) : BytO w v zs (fresh w0 w) := by
  obtain ⟨hl, h | ⟨g, cap, cur, rfl, hb, hh, hnc, hcm, hcs, htake⟩⟩ := h
  · exact Or.inl ⟨List.eq_nil_of_length_eq_zero h.2, _, _, by rw [h.1]⟩
  · refine Or.inr ⟨g, cap, ⟨by omega, (Array.getElem?_eq_some_iff.1 hh).1⟩, rfl, ⟨by omega, hnc⟩, cur, 5, hh, by omega, fun i hi => ?_⟩
    rw [Nat.mul_one] at htake
    have h1 : (zs.map byteV)[i]? = cur[i]? := by rw [← htake, List.getElem?_take, if_pos hi, Array.getElem?_toList]
    rw [← h1, List.getElem?_map, List.getElem?_eq_getElem hi]
    simp [List.getElem?_eq_getElem hi, byteV]
theorem Tryz.infoByte' : ∃ i, Tryz.prog.info? 5 = some i ∧ i.zero = some (.int .u8 0) ∧ i.size = 1 ∧ i.bytes = 1 := by
  have h : (Tryz.prog.info? 5).map (fun i => (i.zero, i.size, i.bytes)) = some (some (.int .u8 0), 1, 1) := by kernel_rfl
  obtain ⟨i, hi, h⟩ := Option.map_eq_some_iff.1 h
  simp only [Prod.mk.injEq] at h
  exact ⟨i, hi, h.1, h.2.1, h.2.2⟩
theorem append_y (w : World) (n₀ : Nat) (v : Value) (zs ys : List UInt8) (a : Option Addr) (m c : Nat) (hrow : WdY w n₀ v zs) (hn₀ : n₀ ≤ w.heap.size) (hz : zs.length ≤ 16777216) (hy : ys.length ≤ 1048576) (hc : Byt w (.slice a m c) ys) :
    ∃ v' X, (Builtin.append_ #[26, 26] 26 #[v, .slice a m c]).run Tryz.prog w = .ok v' X ∧ WdY X n₀ v' (zs ++ ys) ∧ Below n₀ w X := by
  obtain ⟨i, hi, h1, h2, h3⟩ := Tryz.infoByte'
  obtain ⟨a', cap', e, hm, hat⟩ := hc
  simp only [Value.slice.injEq] at e
  obtain ⟨rfl, rfl, rfl⟩ := e
  by_cases ha : a = none
  · subst ha
    have h0 : ys = [] := by
      by_cases h : ys.length = 0
      · exact List.eq_nil_of_length_eq_zero h
      · obtain ⟨_, _, e, _⟩ := hat 0 (by omega); cases e
    subst h0
    refine ⟨v, w, ?_, by rw [List.append_nil]; exact hrow, Below.refl _ _⟩
    rcases hrow.2 with ⟨rfl, _⟩ | ⟨g, cap, cur, rfl, _, _, hnc, _⟩
    · simp [Builtin.append_, run_underlying Tryz.underlying26, sizeOf, typeInfo, hi, Builtin.lenOf, Builtin.firstCells]
    · simp [Builtin.append_, run_underlying Tryz.underlying26, sizeOf, typeInfo, hi, Builtin.lenOf, Builtin.firstCells, storeCells, hnc]
  · obtain ⟨ad, rfl⟩ := Option.ne_none_iff_exists'.1 ha
    obtain ⟨v', X, hr, ho, hg, _⟩ := run_append_own (P := Tryz.prog) w n₀ 26 26 5 i (.int .u8 0) 1 1 Tryz.underlying26 hi h1 h2 h3 rfl (by decide) _ zs.length _ hrow ad ys.length c (ys.map byteV)
      (by simp) (fun j u hu => by
        rw [List.getElem?_map, Option.map_eq_some_iff] at hu
        obtain ⟨z, hz1, rfl⟩ := hu
        have hj : j < ys.length := (List.getElem?_eq_some_iff.1 hz1).1
        obtain ⟨b, off, e, h⟩ := hat j hj
        simp only [Option.some.injEq] at e
        rw [e, add_plain', h, hz1]
        rfl) (fun u hu => by
        obtain ⟨z, _, rfl⟩ := List.mem_map.1 hu
        rfl) (by unfold maxLen; omega) (by omega) hn₀
    refine ⟨v', X, hr, ?_, below_grown hg hn₀ (fun k hk => (hrow.lt k hk).1)⟩
    unfold WdY
    rw [List.length_append, List.map_append]
    exact ho
end Go.Proofs.YtjabimfinanjoaaGreat

namespace Go.Proofs.YtjabimfinanjoaaGreat
open Go.RowKit
set_option maxRecDepth 100000

/-- The cells of one inode. -/
def C5 (d : ID) (u : Value × Value) : List Value := [.int .i64 d.1, .int .i64 d.2.1, .int .i64 d.2.2.1, u.1, u.2]
def inCells (ds : Nat → ID) (u : Nat → Value × Value) (n : Nat) : List Value := (List.range n).flatMap fun i => C5 (ds i) (u i)
theorem inCells_length (ds : Nat → ID) (u : Nat → Value × Value) (n : Nat) : (inCells ds u n).length = n * 5 := by
  unfold inCells
  induction n with
  | zero => simp
  | succ n ih => rw [List.range_succ, List.flatMap_append, List.length_append, ih]; simp [C5, Nat.add_mul]
theorem inCells_succ (ds : Nat → ID) (u : Nat → Value × Value) (n : Nat) : inCells ds u (n + 1) = inCells ds u n ++ C5 (ds n) (u n) := by
  unfold inCells
  rw [List.range_succ, List.flatMap_append]
  simp
theorem inCells_congr {ds : Nat → ID} {u u' : Nat → Value × Value} {n : Nat} (h : ∀ i, i < n → u i = u' i) : inCells ds u n = inCells ds u' n := by
  unfold inCells
  have e0 : (List.range n).map (fun i => C5 (ds i) (u i)) = (List.range n).map (fun i => C5 (ds i) (u' i)) := List.map_congr_left fun i hi => by rw [h i (List.mem_range.1 hi)]
  rw [List.flatMap_def, List.flatMap_def, e0]
theorem inCells_get (l : List ID) (u : Nat → Value × Value) (n : Nat) : ∀ c, c < n * 5 → (inCells (fun i => l[i]?.getD id0) u n)[c]? = some (inCell l u c) := by
  induction n with
  | zero => intro c hc; omega
  | succ n ih =>
    intro c hc
    rw [inCells_succ]
    by_cases h : c < n * 5
    · rw [List.getElem?_append_left (by rw [inCells_length]; exact h)]
      exact ih c h
    · rw [List.getElem?_append_right (by rw [inCells_length]; omega), inCells_length]
      have : c = n * 5 ∨ c = n * 5 + 1 ∨ c = n * 5 + 2 ∨ c = n * 5 + 3 ∨ c = n * 5 + 4 := by omega
      rcases this with e | e | e | e | e
      · subst e; rw [Nat.sub_self, inCell_0]; rfl
      · subst e; rw [show n * 5 + 1 - n * 5 = 1 by omega, inCell_1]; rfl
      · subst e; rw [show n * 5 + 2 - n * 5 = 2 by omega, inCell_2]; rfl
      · subst e; rw [show n * 5 + 3 - n * 5 = 3 by omega, inCell_3]; rfl
      · subst e; rw [show n * 5 + 4 - n * 5 = 4 by omega, inCell_4]; rfl
theorem Tryz.infoIno' : ∃ i, Tryz.prog.info? 81 = some i ∧ i.zero = some (.agg #[.int .i64 0, .int .i64 0, .int .i64 0, .slice none 0 0, .slice none 0 0]) ∧ i.size = 5 ∧ i.bytes = 72 := by
  obtain ⟨i, hi, h⟩ := Option.map_eq_some_iff.1 Tryz.infoIno
  simp only [Prod.mk.injEq] at h
  exact ⟨i, hi, h.1, h.2.1, h.2.2⟩
theorem Tryz.sizeInoT : (Tryz.prog.info? 81).map (·.size) = some 5 := by kernel_rfl

/-- A row of n inodes that the call owns; inode i has its lists in blocks of G i. -/
structure IRow (w : World) (base : Nat) (v : Value) (n : Nat) (ds : Nat → ID) (u : Nat → Value × Value) (G : Nat → Nat → Prop) : Prop where
  own : w.ownsRow base 81 5 v n (inCells ds u n)
  lo : ∀ i c, i < n → G i c → base ≤ c ∧ c < w.heap.size
  ne : ∀ i c, i < n → G i c → v.ownBlock ≠ some c
  inj : ∀ i j c, i < n → j < n → i ≠ j → G i c → ¬ G j c
  at' : ∀ i, i < n → InoU w (.int .i64 (ds i).1) (.int .i64 (ds i).2.1) (.int .i64 (ds i).2.2.1) (u i).1 (u i).2 (ds i) (G i)
theorem IRow.nil (w : World) (base : Nat) (ds : Nat → ID) : IRow w base (.slice none 0 0) 0 ds (fun _ => (.slice none 0 0, .slice none 0 0)) (fun _ _ => False) :=
  ⟨World.ownsRow_nil _ _ _ _, fun i _ hi => by omega, fun i _ hi => by omega, fun i _ _ hi => by omega, fun i hi => by omega⟩
theorem IRow.keep {w w' : World} {base : Nat} {v : Value} {n : Nat} {ds : Nat → ID} {u : Nat → Value × Value} {G : Nat → Nat → Prop} (h : IRow w base v n ds u G) (hs : w.heap.size ≤ w'.heap.size) (e : ∀ c, base ≤ c → c < w.heap.size → w'.heap[c]? = w.heap[c]?) : IRow w' base v n ds u G := by
  refine ⟨?_, fun i c hi hc => ⟨(h.lo i c hi hc).1, Nat.lt_of_lt_of_le (h.lo i c hi hc).2 hs⟩, h.ne, h.inj, fun i hi => (h.at' i hi).keep fun c hc hlt => e c (h.lo i c hi hc).1 hlt⟩
  obtain ⟨h1, h2⟩ := h.own
  refine ⟨h1, ?_⟩
  rcases h2 with h2 | ⟨g, cap, cur, hv, hg, hh, r⟩
  · exact Or.inl h2
  · exact Or.inr ⟨g, cap, cur, hv, hg, by rw [e g hg (Array.getElem?_eq_some_iff.1 hh).1]; exact hh, r⟩
theorem IRow.later {w w' : World} {base : Nat} {v : Value} {n : Nat} {ds : Nat → ID} {u : Nat → Value × Value} {G : Nat → Nat → Prop} (h : IRow w base v n ds u G) (hb : Below w.heap.size w w') : IRow w' base v n ds u G := h.keep hb.size fun c _ hlt => hb.block c hlt
theorem IRow.store {w : World} {base : Nat} {v : Value} {n : Nat} {ds : Nat → ID} {u : Nat → Value × Value} {G : Nat → Nat → Prop} (h : IRow w base v n ds u G) {p : Addr} (hp : p.block < base) (x : Value) : IRow (w.setCell p x) base v n ds u G :=
  h.keep (by simp [World.setCell]) fun c hc _ => Below.heap_setCell _ _ _ _ (by omega)
theorem IRow.shape {w : World} {base : Nat} {v : Value} {n : Nat} {ds : Nat → ID} {u : Nat → Value × Value} {G : Nat → Nat → Prop} (h : IRow w base v n ds u G) : ∃ a c, v = .slice a n c := by
  rcases h.own.2 with ⟨rfl, rfl⟩ | ⟨g, c, cur, rfl, _⟩
  · exact ⟨_, _, rfl⟩
  · exact ⟨_, _, rfl⟩
/-- What 'append' of one inode comes to. -/
theorem IRow.append (w w1 : World) (ty : TypeId) (base n : Nat) (v : Value) (ds : Nat → ID) (u : Nat → Value × Value) (G : Nat → Nat → Prop) (h : IRow w base v n ds u G) (hb : base ≤ w.heap.size) (hn : n ≤ 1048600) (hb1 : Below w.heap.size w w1)
    (aB : Option Addr) (nB cB : Nat) (aE : Option Addr) (nE cE : Nat) (hf : InoU w1 (.int .i64 (ds n).1) (.int .i64 (ds n).2.1) (.int .i64 (ds n).2.2.1) (.slice aB nB cB) (.slice aE nE cE) (ds n) (fresh w w1)) :
    ∃ g cap X u' G', (Builtin.append_ #[29, 29] ty #[v, .slice (some ⟨w1.heap.size, 0, none⟩) 1 1]).run Tryz.prog (w1.alloc (.cells #[.int .i64 (ds n).1, .int .i64 (ds n).2.1, .int .i64 (ds n).2.2.1, .slice aB nB cB, .slice aE nE cE] 81)) = .ok (.slice (some ⟨g, 0, none⟩) (n + 1) cap) X ∧
      Below base w X ∧ w1.heap.size < X.heap.size ∧ IRow X base (.slice (some ⟨g, 0, none⟩) (n + 1) cap) (n + 1) ds u' G' := by
  obtain ⟨i, hi, i1, i2, i3⟩ := Tryz.infoIno'
  have hsz1 := hb1.size
  have hbW : Below w.heap.size w (w1.alloc (.cells #[.int .i64 (ds n).1, .int .i64 (ds n).2.1, .int .i64 (ds n).2.2.1, .slice aB nB cB, .slice aE nE cE] 81)) := hb1.trans ((later1 _ _).mono hb1.size)
  have hW := h.later hbW
  obtain ⟨g, cap, X, hr, ho, hg, hat, hgX⟩ := run_append_lies (P := Tryz.prog) (w1.alloc (.cells #[.int .i64 (ds n).1, .int .i64 (ds n).2.1, .int .i64 (ds n).2.2.1, .slice aB nB cB, .slice aE nE cE] 81)) 29 ty base 81 i _ 5 72 Tryz.underlying29 hi i1 i2 i3 rfl (by decide) v n _ hW.own ⟨w1.heap.size, 0, none⟩ 1 1 (C5 (ds n) (.slice aB nB cB, .slice aE nE cE)) (by simp [C5])
    (fun j x hx => by
      rw [add_plain', Nat.zero_add, new_cell]
      simpa [C5] using hx) (fun x hx => by
      simp only [C5, List.mem_cons, List.not_mem_nil, or_false] at hx
      rcases hx with rfl | rfl | rfl | rfl | rfl <;> rfl) (by decide) (by unfold maxLen; omega) (by omega) (by simp; omega) (w1.heap.size + 1) (by simp)
  have hrowb : ∀ g, v.ownBlock = some g → base ≤ g ∧ g < w.heap.size := fun g hg => h.own.lt g hg
  have hXb : ∀ b, b < w1.heap.size → v.ownBlock ≠ some b → X.heap[b]? = w1.heap[b]? := fun b hb' hne => (hg.block b (by simp; omega) (fun e => hne e.symm)).trans ((later1 _ _).block b hb')
  have hne : ∀ b, b ≤ w1.heap.size → v.ownBlock ≠ some b → g ≠ b := by
    intro b hb' hb2 e
    subst e
    rcases hat with h | h
    · exact hb2 h
    · omega
  have old : ∀ b, b < w.heap.size → v.ownBlock ≠ some b → X.heap[b]? = w.heap[b]? := fun b hb' hne => (hXb b (by omega) hne).trans (hb1.block b hb')
  have hXs : w1.heap.size < X.heap.size := by have := hg.size; simp at this; omega
  have hfr : ∀ c, fresh w w1 c → v.ownBlock ≠ some c := fun c hc e => by have := (hrowb c e).2; have := hc.1; omega
  refine ⟨g, cap, X, fun j => if j = n then (.slice aB nB cB, .slice aE nE cE) else u j, fun j c => if j = n then fresh w w1 c else G j c, hr, (hbW.mono hb).trans (below_grown hg (by simp; omega) (fun g hg' => (hrowb g hg').1)), hXs, ⟨?_, fun j c hj hc => ?_, fun j c hj hc => ?_, fun j j' c hj hj' e hc hc' => ?_, fun j hj => ?_⟩⟩
  · rw [inCells_succ, inCells_congr (u' := u) (fun i hi => by rw [if_neg (by omega)])]
    simp only [if_true]
    exact ho
  · by_cases e : j = n
    · simp only [e, if_true] at hc
      have := hc.1
      have := hc.2
      omega
    · simp only [e, if_false] at hc
      have := h.lo j c (by omega) hc
      omega
  · by_cases e : j = n
    · simp only [e, if_true] at hc
      exact fun e' => hne c (Nat.le_of_lt hc.2) (hfr c hc) (by simpa [Value.ownBlock] using e')
    · simp only [e, if_false] at hc
      have hl := h.lo j c (by omega) hc
      exact fun e' => hne c (by omega) (h.ne j c (by omega) hc) (by simpa [Value.ownBlock] using e')
  · by_cases e1 : j = n
    · by_cases e2 : j' = n
      · omega
      · simp only [e1, e2, if_true, if_false] at hc hc'
        have := (h.lo j' c (by omega) hc').2
        have := hc.1
        omega
    · by_cases e2 : j' = n
      · simp only [e1, e2, if_true, if_false] at hc hc'
        have := (h.lo j c (by omega) hc).2
        have := hc'.1
        omega
      · simp only [e1, e2, if_false] at hc hc'
        exact h.inj j j' c (by omega) (by omega) e hc hc'
  · by_cases e : j = n
    · subst e
      simp only [if_true]
      exact hf.keep fun c hc hlt => hXb c hlt (hfr c hc)
    · simp only [e, if_false]
      exact (h.at' j (by omega)).keep fun c hc hlt => old c hlt (h.ne j c (by omega) hc)
theorem IRow.inos {w : World} {base : Nat} {v : Value} {n : Nat} {u : Nat → Value × Value} {G : Nat → Nat → Prop} {l : List ID} (h : IRow w base v n (fun i => l[i]?.getD id0) u G) (hn : l.length = n) : InosO w v l (fun c => base ≤ c ∧ c < w.heap.size ∧ (v.ownBlock = some c ∨ ∃ i, i < n ∧ G i c)) := by
  subst hn
  obtain ⟨hl, h2 | ⟨g, cap, cur, rfl, hb, hh, hnc, hcm, hcs, htake⟩⟩ := h.own
  · obtain ⟨rfl, h0⟩ := h2
    exact Or.inl ⟨List.eq_nil_of_length_eq_zero h0, none, 0, rfl⟩
  · refine Or.inr ⟨g, cap, u, fun i c => i < l.length ∧ G i c, ⟨hb, (Array.getElem?_eq_some_iff.1 hh).1, Or.inl rfl⟩, fun i c hc => ⟨⟨(h.lo i c hc.1 hc.2).1, (h.lo i c hc.1 hc.2).2, Or.inr ⟨i, hc⟩⟩, fun e => h.ne i c hc.1 hc.2 (by simp [Value.ownBlock, e])⟩, fun i j c e h1 h2 => h.inj i j c h1.1 h2.1 e h1.2 h2.2, rfl, ⟨by omega, hnc⟩, ⟨cur, _, hh, by rw [hcs]; exact Nat.mul_le_mul_right 5 hnc, fun c hc => ?_⟩, fun i hi => (h.at' i hi).mono fun c hc => ⟨hi, hc⟩⟩
    have h1 := inCells_get l u l.length c hc
    rw [← htake, List.getElem?_take, if_pos hc, Array.getElem?_toList] at h1
    exact h1

/-- What 'copy' of inodes into a list that was just made comes to: their lists are those of the first ones. -/
theorem copy_inos (w : World) (a : Option Addr) (n cap : Nat) (l : List ID) (u : Nat → Value × Value) (hs : ∀ i, i < n → (u i).1.oneCell' = true ∧ (u i).2.oneCell' = true) (hc : ∀ c, c < n * 5 → ∃ b off, a = some ⟨b, off, none⟩ ∧ w.cell? ⟨b, off + c, none⟩ = some (inCell l u c)) :
    ∃ X, (Builtin.copy_ #[29, 29] 3 #[.slice (some ⟨w.heap.size, 0, none⟩) n n, .slice a n cap]).run Tryz.prog (w.alloc (.cells (madeCells #[.int .i64 0, .int .i64 0, .int .i64 0, .slice none 0 0, .slice none 0 0] (n * 5)) 81)) = .ok (goInt n) X ∧
      Below w.heap.size w X ∧ OwnRow X w.heap.size (n * 5) (inCell l u) := by
  by_cases h0 : n = 0
  · subst h0
    have hr := run_copy_zero (P := Tryz.prog) (w.alloc (.cells (madeCells #[.int .i64 0, .int .i64 0, .int .i64 0, .slice none 0 0, .slice none 0 0] (0 * 5)) 81)) 29 29 3 81 (some ⟨w.heap.size, 0, none⟩) a 0 cap 5 Tryz.underlying29 Tryz.sizeInoT
    exact ⟨_, hr, later1 _ _, (OwnRow.madeFive w 0 81).congr fun i hi => by omega⟩
  · obtain ⟨b, off, rfl, _⟩ := hc 0 (by omega)
    have hcp := run_copy_wide (P := Tryz.prog) (w.alloc (.cells (madeCells #[.int .i64 0, .int .i64 0, .int .i64 0, .slice none 0 0, .slice none 0 0] (n * 5)) 81)) 29 29 3 81 w.heap.size n n ⟨b, off, none⟩ cap 5 (madeCells #[.int .i64 0, .int .i64 0, .int .i64 0, .slice none 0 0, .slice none 0 0] (n * 5)) 81 (inCells (fun i => l[i]?.getD id0) u n) Tryz.underlying29 Tryz.sizeInoT
      (Go.Deep.blk_alloc_new _ _) (inCells_length _ _ _) (fun j v hv => by
        have hj : j < n * 5 := by rw [← inCells_length (fun i => l[i]?.getD id0) u n]; exact (List.getElem?_eq_some_iff.1 hv).1
        rw [inCells_get l u n j hj] at hv
        simp only [Option.some.injEq] at hv
        subst hv
        obtain ⟨b', off', e, h⟩ := hc j hj
        simp only [Option.some.injEq, Addr.mk.injEq, and_true] at e
        rw [add_plain', e.1, e.2]
        exact cell_later (later1 _ _) h) (by simp [size_madeCells, inCells_length]) (fun v hv => by
        obtain ⟨j, hj, e⟩ := List.mem_iff_getElem.1 hv
        have hj' : j < n * 5 := by rw [← inCells_length (fun i => l[i]?.getD id0) u n]; exact hj
        have h1 := inCells_get l u n j hj'
        rw [List.getElem?_eq_getElem hj, e] at h1
        simp only [Option.some.injEq] at h1
        subst h1
        have hd : j / 5 < n := by omega
        unfold inCell
        split
        · rfl
        · split
          · rfl
          · split
            · rfl
            · split
              · exact (hs _ hd).1
              · exact (hs _ hd).2)
    refine ⟨_, hcp, below_setRow (later1 _ _) (Nat.le_refl _) _, ?_⟩
    refine ⟨_, 81, setRow_heap _ _ _ _ _ _ (Go.Deep.blk_alloc_new _ _), ?_, fun i hi => ?_⟩
    · simp [inCells_length, size_madeCells]
    · have hlen : i < (inCells (fun i => l[i]?.getD id0) u n).length := by rw [inCells_length]; exact hi
      rw [List.getElem?_toArray, List.getElem?_append_left hlen, inCells_get l u n i hi]
end Go.Proofs.YtjabimfinanjoaaGreat

namespace Go.Proofs.YtjabimfinanjoaaGreat
open Go.RowKit
set_option maxRecDepth 100000

/-- The first of f 0 .. f (n - 1) that is not 0, or 0. -/
def fstNZ (f : Nat → Int) : Nat → Int
  | 0 => 0
  | n + 1 => if fstNZ f n = 0 then f n else fstNZ f n
theorem fstNZ_zero {f : Nat → Int} : ∀ {n : Nat}, (∀ i, i < n → f i = 0) → fstNZ f n = 0
  | 0, _ => rfl
  | n + 1, h => by
    show (if fstNZ f n = 0 then f n else fstNZ f n) = 0
    rw [if_pos (fstNZ_zero fun i hi => h i (by omega))]
    exact h n (by omega)
theorem fstNZ_at {f : Nat → Int} {j : Nat} (h : ∀ i, i < j → f i = 0) (hj : ¬ f j = 0) : ∀ {n : Nat}, j < n → fstNZ f n = f j
  | 0, hn => by omega
  | n + 1, hn => by
    show (if fstNZ f n = 0 then f n else fstNZ f n) = f j
    by_cases e : j = n
    · subst e
      rw [if_pos (fstNZ_zero h)]
    · have := fstNZ_at h hj (n := n) (by omega)
      rw [this, if_neg hj]
theorem fstNZ_inv {f : Nat → Int} : ∀ {n : Nat}, fstNZ f n = 0 → ∀ i, i < n → f i = 0
  | 0, _, i, hi => by omega
  | n + 1, h, i, hi => by
    have h' : (if fstNZ f n = 0 then f n else fstNZ f n) = 0 := h
    by_cases e : fstNZ f n = 0
    · rw [if_pos e] at h'
      by_cases e2 : i = n
      · rw [e2]; exact h'
      · exact fstNZ_inv e i (by omega)
    · rw [if_neg e] at h'; exact absurd h' e

def rngF (bs : List Int) (i : Nat) : Int := if 0 ≤ bs[i]?.getD 0 ∧ bs[i]?.getD 0 ≤ 19 then 0 else 3
/-- Whether one ahead of i is the same. -/
def dupB (bs : List Int) (i : Nat) : Bool := (List.range i).any fun k => bs[k]?.getD 0 == bs[i]?.getD 0
def dupF (bs : List Int) (i : Nat) : Int := if dupB bs i then 7 else 0
theorem dupB_yes {bs : List Int} {i k : Nat} (hk : k < i) (e : bs[k]?.getD 0 = bs[i]?.getD 0) : dupB bs i = true := by
  unfold dupB; rw [List.any_eq_true]; exact ⟨k, by simpa using hk, by simp [e]⟩
theorem dupB_no {bs : List Int} {i : Nat} (h : ∀ k, k < i → ¬ bs[k]?.getD 0 = bs[i]?.getD 0) : dupB bs i = false := by
  unfold dupB; rw [List.any_eq_false]; intro k hk; simp at hk; simp [h k hk]
def blkF (bs : List Int) : Int := if fstNZ (rngF bs) bs.length = 0 then fstNZ (dupF bs) bs.length else fstNZ (rngF bs) bs.length
def linkB (x : Int) : Bool := decide (1 ≤ x ∧ x ≤ 60)
def sizeB (x : Int) : Bool := decide (0 ≤ x ∧ x ≤ 32)
/-- BlocksFor. -/
def bforR (x : Int) : Int × Int := if sizeB x then (0, (x + 7) / 8) else (3, 0)
def fileF (l s : Int) (bs : List Int) : Int := if linkB l = true ∧ sizeB s = true then (if (bs.length : Int) = (s + 7) / 8 then blkF bs else 1) else 3
/-- One text is not above another. -/
def strLe (a b : ByteArray) : Bool := Op.bytesLess a.toList b.toList || a.toList == b.toList
def entF (es : List EN) (i : Nat) : Int := if nameF (es[i]?.getD en0).1 = 0 then (if 0 ≤ (es[i]?.getD en0).2 ∧ (es[i]?.getD en0).2 ≤ 9 then (if 0 < i ∧ strLe (es[i]?.getD en0).1 (es[i - 1]?.getD en0).1 = true then 1 else 0) else 3) else nameF (es[i]?.getD en0).1
def dirF (es : List EN) : Int := if 6 < es.length then 2 else fstNZ (entF es) es.length
/-- What a file alone has, and what a directory alone has. -/
def fpB (d : ID) : Bool := decide (d.2.1 ≠ 0) || decide (d.2.2.1 ≠ 0) || decide (0 < d.2.2.2.1.length)
def dpB (d : ID) : Bool := decide (0 < d.2.2.2.2.length)
def inoF (d : ID) : Int := if d.1 = 0 then (if fpB d || dpB d then 1 else 0) else if d.1 = 1 then (if dpB d then 1 else fileF d.2.1 d.2.2.1 d.2.2.2.1) else if d.1 = 2 then (if fpB d then 1 else dirF d.2.2.2.2) else 1
end Go.Proofs.YtjabimfinanjoaaGreat
