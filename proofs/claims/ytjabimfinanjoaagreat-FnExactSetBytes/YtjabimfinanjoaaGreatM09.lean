/- Answers that hold a file system: compared, marked, held. The specification's copying of an inode and of a file system. The walks of the program's rack of bytes: lists of bytes that are copied and set one by one. The program's copying of an inode and of a file system. -/
import Derived.Test.YtjabimfinanjoaaGreatM08
import Derived.Test.YtjabimfinanjoaaGreatM01
import Derived.Test.YtjabimfinanjoaaGreatM02
import Derived.Test.YtjabimfinanjoaaGreatM05
import Derived.Test.YtjabimfinanjoaaGreatM04
import Derived.Deep.RegionWith
import Derived.Deep.RegionLaw
import Derived.Deep.RegionHeld3
namespace Go.Proofs.YtjabimfinanjoaaGreat
open Go.RowKit
set_option maxRecDepth 100000

open Classical in
theorem pickQ {α : Type} [Inhabited α] {n : Nat} {P : Nat → α → Prop} (h : ∀ i, i < n → ∃ q, P i q) : ∃ f : Nat → α, ∀ i, i < n → P i (f i) :=
  ⟨fun i => if hi : i < n then Classical.choose (h i hi) else default, fun i hi => by dsimp only; rw [dif_pos hi]; exact Classical.choose_spec (h i hi)⟩
def mkFs (k : Int) (d : FD) : FD := (mkIns k.toNat d.1, mkYs (k.toNat + spanInos d.1) d.2)
theorem markInosM {w : World} {v : Value} {ds : List ID} {F : Nat → Prop} (k : Nat) (h : InosO w v ds F) (hk0 : 1 ≤ k) (hk : k + spanInos ds ≤ 4294967296) :
    Calls Tryz.prog 33 #[v, .int .i64 (k : Int)] w fun e w' => e = .returned (.int .i64 ((k + spanInos ds : Nat) : Int)) ∧ InosO w' v (mkIns k ds) F ∧ Chg F w w' := by
  rcases h with ⟨rfl, a, cap, rfl⟩ | ⟨b, cap, u, G, hF, hG, hGG, rfl, hl, hr, hu⟩
  · exact (markInos_nil w a cap _).mono fun e w' ⟨he, hw⟩ => ⟨by rw [he]; simp [spanInos, isp], Or.inl ⟨rfl, _, _, rfl⟩, hw ▸ Chg.refl _ _⟩
  · have hch : ∀ i, i < ds.length → ∃ q : (Nat → Prop) × (Nat → Prop), IntsO w (u i).1 (ds[i]?.getD id0).2.2.2.1 q.1 ∧ EntsO w (u i).2 (ds[i]?.getD id0).2.2.2.2 q.2 ∧ (∀ c, q.1 c → ¬ q.2 c) ∧ ∀ c, q.1 c ∨ q.2 c → G i c := fun i hi => by
      obtain ⟨_, F1, G1, h1, h2, h3, h4⟩ := hu i hi
      exact ⟨(F1, G1), h1, h2, h3, h4⟩
    obtain ⟨Q, hQ⟩ := pickQ hch
    have hcapu : ∀ i, i < ds.length → capOK (u i).1 := fun i hi => (hu i hi).1.2.2.2
    refine (markInosM_walk w b cap ds.length k F ds u (fun i c => i < ds.length ∧ (Q i).1 c) (fun i c => i < ds.length ∧ (Q i).2 c) hF (fun i c hc => hG i c ((hQ i hc.1).2.2.2 c (Or.inl hc.2))) (fun i c hc => hG i c ((hQ i hc.1).2.2.2 c (Or.inr hc.2))) (fun i j c hc hc' => ?_) (fun i j c e hc hc' => hGG i j c e ((hQ i hc.1).2.2.2 c (Or.inl hc.2)) ((hQ j hc'.1).2.2.2 c (Or.inl hc'.2))) (fun i j c e hc hc' => hGG i j c e ((hQ i hc.1).2.2.2 c (Or.inr hc.2)) ((hQ j hc'.1).2.2.2 c (Or.inr hc'.2))) rfl hk0 hk (by have := hl.1; unfold maxLen at this; omega)
      ⟨hr, fun i hi => (hQ i hi).1.mono fun c hc => ⟨hi, hc⟩, fun i hi => (hQ i hi).2.1.mono fun c hc => ⟨hi, hc⟩⟩).mono fun e w' ⟨he, hm, hc⟩ => ⟨he, Or.inr ⟨b, cap, u, G, hF, hG, hGG, by rw [mkIns_length], by rw [mkIns_length]; exact hl, by rw [mkIns_length]; exact hm.row, fun i hi => ?_⟩, hc⟩
    · by_cases e : i = j
      · subst e; exact (hQ i hc.1).2.2.1 c hc.2 hc'.2
      · exact hGG i j c e ((hQ i hc.1).2.2.2 c (Or.inl hc.2)) ((hQ j hc'.1).2.2.2 c (Or.inr hc'.2))
    · rw [mkIns_length] at hi
      exact ⟨⟨rfl, rfl, rfl, hcapu i hi⟩, _, _, hm.ints i hi, hm.ents i hi, fun c hc hc' => (hQ i hi).2.2.1 c hc.2 hc'.2, fun c hc => (hQ i hi).2.2.2 c (hc.imp (·.2) (·.2))⟩
theorem heldInosM {w : World} {v : Value} (k : Nat) (ds : List ID) (h : Inos w v (mkIns k ds)) (hk0 : 1 ≤ k) (hk : k + spanInos ds ≤ 4294967296) :
    Calls Tryz.prog 56 #[v, .int .i64 (k : Int)] w fun e w' => e = .returned (.int .i64 ((k + spanInos ds : Nat) : Int)) ∧ Below w.heap.size w w' := by
  obtain ⟨a, cap, rfl, hm, hc⟩ := h.open'
  rw [mkIns_length] at hm hc ⊢
  exact heldInos_walk w a cap ds.length k ds rfl hk0 hk (by have := hm.1; unfold maxLen at this; omega) hc

set_option maxHeartbeats 800000 in
theorem markFsM (w : World) (v1 v2 : Value) (d : FD) (F : Nat → Prop) (k : Int) (h : FsU w v1 v2 d F) (hk0 : 1 ≤ k) (hk : k + (spanFs d : Nat) ≤ 4294967296) :
    Calls Tryz.prog 14 #[.agg #[v1, v2], .int .i64 k] w fun e w' => e = .returned (.int .i64 (k + (spanFs d : Nat))) ∧ FsU w' v1 v2 (mkFs k d) F ∧ Chg F w w' := by
  obtain ⟨q, rfl⟩ := Int.eq_ofNat_of_zero_le (a := k) (by omega)
  obtain ⟨F1, G1, h1, h2, hd, hf⟩ := h
  have H1 : Hid (InosO w v1 d.1 F1) := h1
  have H2 : Hid (BytsO w v2 d.2 G1) := h2
  have HD : Hid (∀ b, F1 b → ¬ G1 b) := hd
  have HF : Hid (∀ b, F1 b ∨ G1 b → F b) := hf
  have HE : Hid (((q : Nat) : Int) + (spanFs d : Nat) = ((q + spanInos d.1 + (ylens d.2).sum : Nat) : Int)) := by unfold Hid spanFs; omega
  have HMK : Hid (mkFs ((q : Nat) : Int) d = (mkIns q d.1, mkYs (q + spanInos d.1) d.2)) := by unfold Hid mkFs; simp
  have hk2 : q + spanInos d.1 + (ylens d.2).sum ≤ 4294967296 := by unfold spanFs at hk; omega
  rw [HE.out, HMK.out]
  clear h1 h2 hd hf hk HE HMK
  go_enter Tryz.func14, Tryz.ntmps14
  go_wp2_with fail
  refine (markInosM q (H1.out.bound.keep fun b hb hlt => (later1 _ _).block b hlt) (by omega) (by omega)).mono ?_
  rintro e w1 ⟨rfl, hm, hc⟩
  have c1 : w1.cell? ⟨w.heap.size, 1, none⟩ = some v2 := by
    rw [World.cell?_of_block (w := w.alloc (.cells #[v1, v2] 31)) (box_later hc fun b hb => hb.2), new_cell]; rfl
  have HM : Hid (InosO w1 v1 (mkIns q d.1) (fun b => F1 b ∧ b < w.heap.size)) := hm
  have HC : Hid (Chg (fun b => F1 b ∧ b < w.heap.size) (w.alloc (.cells #[v1, v2] 31)) w1) := hc
  have H2' : Hid (BytsO w1 v2 d.2 (fun b => G1 b ∧ b < w.heap.size)) := H2.out.bound.keep fun b hb hlt => (HC.out.block b (by simp; omega) (fun h => HD.out b h.1 hb.1)).trans ((later1 _ _).block b hlt)
  clear hc hm
  go_wp2_with fail
  refine (markBytsM _ H2'.out (by omega)).mono ?_
  rintro e w2 ⟨rfl, hm2, hc2⟩
  have HM2 : Hid (BytsO w2 v2 (mkYs (q + spanInos d.1) d.2) (fun b => G1 b ∧ b < w.heap.size)) := hm2
  have HC2 : Hid (Chg (fun b => G1 b ∧ b < w.heap.size) w1 w2) := hc2
  clear hc2 hm2
  go_wp2
  go_ret
  exact ⟨rfl, ⟨_, _, HM.out.keep fun b hb hlt => HC2.out.block b hlt (fun h => HD.out b hb.1 h.1), HM2.out, fun b hb hb' => HD.out b hb.1 hb'.1, fun b hb => HF.out b (hb.imp (·.1) (·.1))⟩, (Chg.of_below (later1 _ _)).trans ((HC.out.mono fun b hb => HF.out b (Or.inl hb.1)).trans (HC2.out.mono fun b hb => HF.out b (Or.inr hb.1)))⟩
set_option maxHeartbeats 800000 in
theorem heldFsM (w : World) (v1 v2 : Value) (d : FD) (k : Int) (h : FsR w v1 v2 (mkFs k d)) (hk0 : 1 ≤ k) (hk : k + (spanFs d : Nat) ≤ 4294967296) :
    Calls Tryz.prog 35 #[.agg #[v1, v2], .int .i64 k] w fun e w' => e = .returned (.int .i64 (k + (spanFs d : Nat))) ∧ Below w.heap.size w w' := by
  obtain ⟨q, rfl⟩ := Int.eq_ofNat_of_zero_le (a := k) (by omega)
  have HMK : Hid (mkFs ((q : Nat) : Int) d = (mkIns q d.1, mkYs (q + spanInos d.1) d.2)) := by unfold Hid mkFs; simp
  rw [HMK.out] at h
  have H1 : Hid (Inos w v1 (mkIns q d.1)) := h.1
  have H2 : Hid (Byts w v2 (mkYs (q + spanInos d.1) d.2)) := h.2
  have HE : Hid (((q : Nat) : Int) + (spanFs d : Nat) = ((q + spanInos d.1 + (ylens d.2).sum : Nat) : Int)) := by unfold Hid spanFs; omega
  have hk2 : q + spanInos d.1 + (ylens d.2).sum ≤ 4294967296 := by unfold spanFs at hk; omega
  have HX : Hid (Bx (w.alloc (.cells #[v1, v2] 31)) w.heap.size [v1, v2]) := Bx.new w [v1, v2] _
  rw [HE.out]
  clear h hk HE HMK
  go_enter Tryz.func35, Tryz.ntmps35
  go_wp2_with fail
  refine (heldInosM q d.1 (H1.out.later (later1 _ _)) (by omega) (by omega)).mono ?_
  rintro e w1 ⟨rfl, hb1⟩
  have HB1 : Hid (Below w.heap.size w w1) := (later1 _ _).trans (hb1.mono (by simp))
  have x1 := (HX.out.later hb1) 1 _ rfl
  have hp : ¬ ((q + spanInos d.1 : Nat) : Int) < 0 := by omega
  clear hb1
  go_wp2_with fail
  refine (heldBytsM (q + spanInos d.1) d.2 (H2.out.later HB1.out) (by omega)).mono ?_
  rintro e w2 ⟨rfl, hb2⟩
  have HB2 : Hid (Below w.heap.size w w2) := HB1.out.trans (hb2.mono HB1.out.size)
  have hp2 : ¬ ((q + spanInos d.1 + (ylens d.2).sum : Nat) : Int) < 0 := by omega
  clear hb2 x1
  go_wp2
  go_ret
  exact ⟨rfl, HB2.out⟩

/-- Answers that are a code and a file system. -/
def AnsFR (w : World) (r : Int × FD) (e : Ending) (w' : World) : Prop := ∃ a1 n1 c1 a2 n2 c2, e = .returned (.agg #[.int .i64 r.1, .slice a1 n1 c1, .slice a2 n2 c2]) ∧ Below w.heap.size w w' ∧ FsU w' (.slice a1 n1 c1) (.slice a2 n2 c2) r.2 (fresh w w')
set_option maxHeartbeats 800000 in
theorem eqFsResultU (w : World) (c : Int) (v1 v2 v1' v2' : Value) (d : FD) (h : FsR w v1 v2 d) (h' : FsR w v1' v2' d) :
    Calls Tryz.prog 10 #[.agg #[.int .i64 c, v1, v2], .agg #[.int .i64 c, v1', v2']] w fun e w' => e = .returned (.bool true) ∧ Below w.heap.size w w' := by
  have H : Hid (FsR w v1 v2 d) := h
  have H' : Hid (FsR w v1' v2' d) := h'
  have hcc : (c != c) = false := by simp
  clear h h'
  go_enter Tryz.func10, Tryz.ntmps10
  go_wp2_with fail
  refine (eqFsU _ _ _ _ _ d (H.out.later (later2 _ _ _)) (H'.out.later (later2 _ _ _))).mono ?_
  rintro e w1 ⟨rfl, hb1⟩
  have HB1 : Hid (Below w.heap.size w w1) := (later2 _ _ _).trans (hb1.mono (by simp; omega))
  clear hb1
  go_wp2
  go_ret
  exact ⟨rfl, HB1.out⟩
set_option maxHeartbeats 800000 in
theorem markFsResultU (w : World) (c : Int) (v1 v2 : Value) (d : FD) (F : Nat → Prop) (k : Int) (h : FsU w v1 v2 d F) (hk0 : 1 ≤ k) (hk : k + (spanFs d : Nat) ≤ 4294967296) :
    Calls Tryz.prog 17 #[.agg #[.int .i64 c, v1, v2], .int .i64 k] w fun e w' => e = .returned (.int .i64 (k + (spanFs d : Nat))) ∧ FsU w' v1 v2 (mkFs k d) F ∧ Chg F w w' := by
  have H : Hid (FsU w v1 v2 d F) := h
  clear h
  go_enter Tryz.func17, Tryz.ntmps17
  go_wp2_with fail
  refine (markFsM _ _ _ d F k (H.out.keep fun b _ hlt => (later1 _ _).block b hlt) hk0 hk).mono ?_
  rintro e w1 ⟨rfl, hm, hc⟩
  have HM : Hid (FsU w1 v1 v2 (mkFs k d) F) := hm
  have HC : Hid (Chg F w w1) := (Chg.of_below (later1 _ _)).trans hc
  clear hm hc
  go_wp2
  go_ret
  exact ⟨rfl, HM.out, HC.out⟩
set_option maxHeartbeats 800000 in
theorem heldFsResultU (w : World) (c : Int) (v1 v2 : Value) (d : FD) (F : Nat → Prop) (k : Int) (h : FsU w v1 v2 (mkFs k d) F) (hk0 : 1 ≤ k) (hk : k + (spanFs d : Nat) ≤ 4294967296) :
    Calls Tryz.prog 18 #[.agg #[.int .i64 c, v1, v2], .int .i64 k] w fun e w' => e = .returned (.int .i64 (k + (spanFs d : Nat))) ∧ Below w.heap.size w w' := by
  have H : Hid (FsR w v1 v2 (mkFs k d)) := h.reads
  have l2 : ¬ (k + (spanFs d : Nat) < 0) := by omega
  clear h
  go_enter Tryz.func18, Tryz.ntmps18
  go_wp2_with fail
  refine (heldFsM _ _ _ d k (H.out.later (later1 _ _)) hk0 hk).mono ?_
  rintro e w1 ⟨rfl, hb⟩
  have HB : Hid (Below w.heap.size w w1) := (later1 _ _).trans (hb.mono (by simp))
  clear hb
  go_wp2
  go_ret
  exact ⟨rfl, HB.out⟩
end Go.Proofs.YtjabimfinanjoaaGreat

namespace Go.Proofs.YtjabimfinanjoaaGreat
open Go.RowKit
set_option maxRecDepth 100000

set_option maxHeartbeats 400000 in
theorem l1IntsC {w : World} {v : Value} {zs : List Int} (h : Ints w v zs) (hn : zs.length ≤ 1048576) :
    Calls Tryz.prog 88 #[v] w fun e w' => ∃ a c, e = .returned (.slice a zs.length c) ∧ Below w.heap.size w w' ∧ IntsO w' (.slice a zs.length c) zs (fresh w w') ∧ w.heap.size < w'.heap.size ∧ zs.length ≤ c := by
  obtain ⟨a, cap, rfl, hm, hc⟩ := h.open'
  clear h
  obtain ⟨v', X, hr, hw, hb, _⟩ := append_any (w.alloc (.cells #[] 2)) w.heap.size (.slice (some ⟨w.heap.size, 0, none⟩) 0 0) [] zs a zs.length cap (Wds.lit w w.heap.size (Nat.le_refl _) [] #[] rfl 0 rfl (by omega)) (by simp) rfl (by simp) hn (fun k hk => by
    obtain ⟨b, off, e, c⟩ := hc k hk
    exact ⟨b, off, e, cell_later (later1 _ _) c⟩) ⟨w.heap.size, 0, rfl, Nat.le_refl _⟩
  rw [List.nil_append] at hw
  obtain ⟨a', c', rfl⟩ := hw.shape
  have HR : Hid (_ = _) := hr
  have HB : Hid (Below w.heap.size w X) := (later1 _ _).trans hb
  have HO : Hid (IntsO X (.slice a' zs.length c') zs (fresh w X)) := hw.own' (Nat.le_refl _)
  have HS : Hid (w.heap.size < X.heap.size) := by have := hb.size; simp at this; unfold Hid; omega
  have HC : Hid (zs.length ≤ c') := hw.cap
  clear hb hc hr hw
  go_enter Tryz.func88, Tryz.ntmps88
  go_wp2_with (at_builtin; refine wpList_append_run rfl _ _ 27 rfl _ _ rfl rfl _ _ HR.out ?_)
  go_ret
  exact ⟨a', c', rfl, HB.out, HO.out, HS.out, HC.out⟩

/-- An answer that is an inode in memory of its own. -/
def AnsIno (w : World) (d : ID) (e : Ending) (w' : World) : Prop := ∃ a1 n1 c1 a2 n2 c2, e = .returned (.agg #[.int .i64 d.1, .int .i64 d.2.1, .int .i64 d.2.2.1, .slice a1 n1 c1, .slice a2 n2 c2]) ∧ Below w.heap.size w w' ∧ InoU w' (.int .i64 d.1) (.int .i64 d.2.1) (.int .i64 d.2.2.1) (.slice a1 n1 c1) (.slice a2 n2 c2) d (fresh w w')
/-- An answer that is a file system in memory of its own. -/
def AnsFs (w : World) (d : FD) (e : Ending) (w' : World) : Prop := ∃ a1 n1 c1 a2 n2 c2, e = .returned (.agg #[.slice a1 n1 c1, .slice a2 n2 c2]) ∧ Below w.heap.size w w' ∧ FsU w' (.slice a1 n1 c1) (.slice a2 n2 c2) d (fresh w w')
def zero5F : List Value := [.int .i64 0, .int .i64 0, .int .i64 0, .slice none 0 0, .slice none 0 0]
set_option maxHeartbeats 3200000 in
theorem l4Copy_any (w : World) (aB : Option Addr) (nB cB : Nat) (aE : Option Addr) (nE cE : Nat) (d : ID) (h : InoR w (.int .i64 d.1) (.int .i64 d.2.1) (.int .i64 d.2.2.1) (.slice aB nB cB) (.slice aE nE cE) d) (hB : d.2.2.2.1.length ≤ 1048576) (hE : d.2.2.2.2.length ≤ 1048576) :
    Calls Tryz.prog 64 #[.agg #[.int .i64 d.1, .int .i64 d.2.1, .int .i64 d.2.2.1, .slice aB nB cB, .slice aE nE cE]] w (AnsIno w d) := by
  obtain ⟨k, l, s, bs, es⟩ := d
  dsimp only at h hB hE ⊢
  obtain ⟨-, hI, hN⟩ := h
  dsimp only at hI hN
  obtain ⟨aN, cN, eN, hmN, hzN, hatN⟩ := hN.open'
  simp only [Value.slice.injEq] at eN
  obtain ⟨rfl, rfl, rfl⟩ := eN
  have HI : Hid (Ints w (.slice aB nB cB) bs) := hI
  have HN : Hid (AtN w aE es.length es) := hatN
  have HZ : Hid (∀ k : Nat, (es[k]?.getD en0).1.size ≤ maxLen) := hzN
  have HBL : Hid (bs.length ≤ 1048576) := hB
  have HEL : Hid (es.length ≤ 1048576) := hE
  have HX0 : Hid (OwnRow ((w.alloc (.cells #[.int .i64 k, .int .i64 l, .int .i64 s, .slice aB nB cB, .slice aE es.length cE] 81)).alloc (.cells #[.int .i64 0, .int .i64 0, .int .i64 0, .slice none 0 0, .slice none 0 0] 81)) w.heap.size 5 (fun i => [Value.int .i64 k, .int .i64 l, .int .i64 s, .slice aB nB cB, .slice aE es.length cE][i]?.getD (.int .i64 0))) := (rowVL w [.int .i64 k, .int .i64 l, .int .i64 s, .slice aB nB cB, .slice aE es.length cE] _).later (later1 _ _)
  have HR0 : Hid (OwnRow ((w.alloc (.cells #[.int .i64 k, .int .i64 l, .int .i64 s, .slice aB nB cB, .slice aE es.length cE] 81)).alloc (.cells #[.int .i64 0, .int .i64 0, .int .i64 0, .slice none 0 0, .slice none 0 0] 81)) (w.heap.size + 1) 5 (fun i => zero5F[i]?.getD (.int .i64 0))) := by
    have := rowVL (w.alloc (.cells #[.int .i64 k, .int .i64 l, .int .i64 s, .slice aB nB cB, .slice aE es.length cE] 81)) zero5F 81
    rw [World.size_alloc] at this
    exact this
  have hz0 : ((w.alloc (.cells #[.int .i64 k, .int .i64 l, .int .i64 s, .slice aB nB cB, .slice aE es.length cE] 81)).alloc (.cells #[.int .i64 0, .int .i64 0, .int .i64 0, .slice none 0 0, .slice none 0 0] 81)).heap.size = w.heap.size + 2 := by simp
  have HB0 : Hid (Below w.heap.size w ((w.alloc (.cells #[.int .i64 k, .int .i64 l, .int .i64 s, .slice aB nB cB, .slice aE es.length cE] 81)).alloc (.cells #[.int .i64 0, .int .i64 0, .int .i64 0, .slice none 0 0, .slice none 0 0] 81))) := later2 _ _ _
  clear hI hN hatN hzN hmN hB hE
  go_enter Tryz.func64, Tryz.ntmps64
  go_wp2_with fail
  generalize ((w.alloc (.cells #[.int .i64 k, .int .i64 l, .int .i64 s, .slice aB nB cB, .slice aE es.length cE] 81)).alloc (.cells #[.int .i64 0, .int .i64 0, .int .i64 0, .slice none 0 0, .slice none 0 0] 81)) = W0 at *
  refine (l1IntsC (HI.out.later HB0.out) HBL.out).mono ?_
  rintro e w1 ⟨a1, c1, rfl, hb1, ho1, hs1, hc1⟩
  have HB1 : Hid (Below w.heap.size w w1) := HB0.out.trans (hb1.mono HB0.out.size)
  have hX1 := HX0.out.later hb1
  have hR1 := HR0.out.later hb1
  have HO1 : Hid (IntsO w1 (.slice a1 bs.length c1) bs (fun b => w.heap.size + 2 ≤ b ∧ b < w1.heap.size)) := ho1.mono fun b hb => ⟨by have := hb.1; omega, hb.2⟩
  have HC1 : Hid (bs.length ≤ c1) := hc1
  have hw1 : w.heap.size + 2 < w1.heap.size := by omega
  have q3 : w1.cell? ⟨w.heap.size, 3, none⟩ = some (.slice aB nB cB) := hX1.cell (i := 3) (by simp)
  have f3 := hX1.frozen 3
  have HX2 : Hid (OwnRow (w1.setCell ⟨w.heap.size, 3, none⟩ (.slice a1 bs.length c1)) w.heap.size 5 (fun i => [Value.int .i64 k, .int .i64 l, .int .i64 s, .slice a1 bs.length c1, .slice aE es.length cE][i]?.getD (.int .i64 0))) := (hX1.set 3 _).congr fun i hi => by
    match i, hi with
    | 0, _ => rfl
    | 1, _ => rfl
    | 2, _ => rfl
    | 3, _ => rfl
    | 4, _ => rfl
  have HR2 : Hid (OwnRow (w1.setCell ⟨w.heap.size, 3, none⟩ (.slice a1 bs.length c1)) (w.heap.size + 1) 5 (fun i => zero5F[i]?.getD (.int .i64 0))) := hR1.store (by simp) _
  have HO2 : Hid (IntsO (w1.setCell ⟨w.heap.size, 3, none⟩ (.slice a1 bs.length c1)) (.slice a1 bs.length c1) bs (fun b => w.heap.size + 2 ≤ b ∧ b < w1.heap.size)) := HO1.out.store (fun b hb => by show b ≠ w.heap.size; omega) _
  have HB2 : Hid (Below w.heap.size w (w1.setCell ⟨w.heap.size, 3, none⟩ (.slice a1 bs.length c1))) := HB1.out.setCell (Nat.le_refl _) _
  have hz2 : (w1.setCell ⟨w.heap.size, 3, none⟩ (.slice a1 bs.length c1)).heap.size = w1.heap.size := by simp [World.setCell]
  have q4 : w1.cell? ⟨w.heap.size, 4, none⟩ = some (.slice aE es.length cE) := hX1.cell (i := 4) (by simp)
  have hlt1 : w.heap.size < w1.heap.size := by omega
  obtain ⟨a2, c2, X, hr, hbX, hoX, hkX⟩ := append_ents ((w1.setCell ⟨w.heap.size, 3, none⟩ (.slice a1 bs.length c1)).alloc (.cells #[] 115)) 79 w1.heap.size w1.heap.size es (by have := Go.Deep.blk_alloc_new (w1.setCell ⟨w.heap.size, 3, none⟩ (.slice a1 bs.length c1)) (.cells #[] 115); rw [hz2] at this; exact this) (Nat.le_refl _) aE cE HEL.out HZ.out ((HN.out.later HB2.out).later (later1 _ _))
  have hbX' : Below w1.heap.size (w1.setCell ⟨w.heap.size, 3, none⟩ (.slice a1 bs.length c1)) X := by
    have := later1 (w1.setCell ⟨w.heap.size, 3, none⟩ (.slice a1 bs.length c1)) (.cells #[] 115)
    rw [hz2] at this
    exact this.trans hbX
  have HR : Hid (_ = _) := hr
  have HBX : Hid (Below w.heap.size w X) := HB2.out.trans (hbX'.mono (by omega))
  have hXX : OwnRow X w.heap.size 5 _ := HX2.out.block (hbX'.block _ (by omega))
  have hRX : OwnRow X (w.heap.size + 1) 5 _ := HR2.out.block (hbX'.block _ (by omega))
  have HOX : Hid (IntsO X (.slice a1 bs.length c1) bs (fun b => w.heap.size + 2 ≤ b ∧ b < w1.heap.size)) := HO2.out.keep fun b hb _ => hbX'.block b (by omega)
  have HEX : Hid (EntsO X (.slice a2 es.length c2) es (fun b => w1.heap.size ≤ b ∧ b < X.heap.size)) := hoX.mono fun b hb => ⟨by
    have := hb.1
    rw [World.size_alloc, hz2] at this
    omega, hb.2⟩
  have hsX : w1.heap.size ≤ X.heap.size := by have := hbX'.size; omega
  have x0 : X.cell? ⟨w.heap.size, 0, none⟩ = some (.int .i64 k) := hXX.cell (i := 0) (by simp)
  have x1 : X.cell? ⟨w.heap.size, 1, none⟩ = some (.int .i64 l) := hXX.cell (i := 1) (by simp)
  have x2 : X.cell? ⟨w.heap.size, 2, none⟩ = some (.int .i64 s) := hXX.cell (i := 2) (by simp)
  have x3 : X.cell? ⟨w.heap.size, 3, none⟩ = some (.slice a1 bs.length c1) := hXX.cell (i := 3) (by simp)
  have x4 : X.cell? ⟨w.heap.size, 4, none⟩ = some (.slice aE es.length cE) := hXX.cell (i := 4) (by simp)
  have y4 := hXX.frozen 4
  have r0 : X.cell? ⟨w.heap.size + 1, 0, none⟩ = some (.int .i64 0) := hRX.cell (i := 0) (by simp)
  have r1 : X.cell? ⟨w.heap.size + 1, 1, none⟩ = some (.int .i64 0) := hRX.cell (i := 1) (by simp)
  have r2 : X.cell? ⟨w.heap.size + 1, 2, none⟩ = some (.int .i64 0) := hRX.cell (i := 2) (by simp)
  have r3 : X.cell? ⟨w.heap.size + 1, 3, none⟩ = some (.slice none 0 0) := hRX.cell (i := 3) (by simp)
  have r4 : X.cell? ⟨w.heap.size + 1, 4, none⟩ = some (.slice none 0 0) := hRX.cell (i := 4) (by simp)
  have s0 := hRX.frozen 0
  have s1 := hRX.frozen 1
  have s2 := hRX.frozen 2
  have s3 := hRX.frozen 3
  have s4 := hRX.frozen 4
  clear hr hbX hoX hkX hbX' hXX hRX HO1 HO2 HX2 HR2 HX0 HR0 HB0 hb1 ho1 hs1 hc1 hX1 hR1 HI HN HB1 HB2
  go_wp2_with (at_builtin; refine wpList_append_run rfl _ _ 79 rfl _ _ rfl rfl _ _ HR.out ?_)
  refine bodyPost_ret (v := .agg #[.int .i64 k, .int .i64 l, .int .i64 s, .slice a1 bs.length c1, .slice a2 es.length c2]) (by simp [results, Tryz.results64, go_sem, r0, r1, r2, r3, r4]) rfl ⟨a1, bs.length, c1, a2, es.length, c2, rfl, (((((HBX.out.setCell (Nat.le_refl _) _).setCell (by simp) _).setCell (by simp) _).setCell (by simp) _).setCell (by simp) _).setCell (by simp) _, ⟨rfl, rfl, rfl, _, _, _, rfl, HC1.out⟩, (fun b => w.heap.size + 2 ≤ b ∧ b < w1.heap.size), (fun b => w1.heap.size ≤ b ∧ b < X.heap.size), HOX.out.keep fun b hb _ => ?_, HEX.out.keep fun b hb _ => ?_, fun b h1 h2 => by omega, fun b hb => ?_⟩
  · rw [Below.heap_setCell _ _ _ _ (by simp; omega), Below.heap_setCell _ _ _ _ (by simp; omega), Below.heap_setCell _ _ _ _ (by simp; omega), Below.heap_setCell _ _ _ _ (by simp; omega), Below.heap_setCell _ _ _ _ (by simp; omega), Below.heap_setCell _ _ _ _ (by simp; omega)]
  · rw [Below.heap_setCell _ _ _ _ (by simp; omega), Below.heap_setCell _ _ _ _ (by simp; omega), Below.heap_setCell _ _ _ _ (by simp; omega), Below.heap_setCell _ _ _ _ (by simp; omega), Below.heap_setCell _ _ _ _ (by simp; omega), Below.heap_setCell _ _ _ _ (by simp; omega)]
  · unfold fresh
    simp only [World.setCell, Array.size_modify]
    rcases hb with hb | hb <;> omega
end Go.Proofs.YtjabimfinanjoaaGreat

namespace Go.Proofs.YtjabimfinanjoaaGreat
open Go.RowKit
set_option maxRecDepth 100000

theorem Tryz.sizeU8 : (Tryz.prog.info? 5).map (·.size) = some 1 := by kernel_rfl

/-- What 'copy' into a list that was just made comes to. -/
theorem copyY_made (w : World) (a : Option Addr) (n cap : Nat) (zs : List UInt8) (hz : zs.length = n) (hc : AtY w a n zs) :
    ∃ X, (Builtin.copy_ #[26, 26] 3 #[.slice (some ⟨w.heap.size, 0, none⟩) n n, .slice a n cap]).run Tryz.prog (w.alloc (.cells (madeCells #[.int .u8 0] n) 5)) = .ok (goInt n) X ∧
      Below w.heap.size w X ∧ OwnRow X w.heap.size n (fun i => .int .u8 (((zs[i]?.getD 0).toNat : Nat) : Int)) := by
  by_cases h0 : n = 0
  · subst h0
    have hr := run_copy_none (P := Tryz.prog) (w.alloc (.cells (madeCells #[.int .u8 0] 0) 5)) 26 26 3 5 (some ⟨w.heap.size, 0, none⟩) a 0 0 0 cap Tryz.underlying26 Tryz.sizeU8 (by simp)
    exact ⟨_, hr, later1 _ _, (OwnRow.made w (.int .u8 0) 0 5).congr fun i hi => by omega⟩
  · obtain ⟨b, off, rfl, _⟩ := hc 0 (by omega)
    have hc' : ∀ k, k < n → w.cell? ⟨b, off + k, none⟩ = some (.int .u8 (((zs[k]?.getD 0).toNat : Nat) : Int)) := by
      intro k hk
      obtain ⟨b', off', e, h⟩ := hc k hk
      simp only [Option.some.injEq, Addr.mk.injEq, and_true] at e
      rw [e.1, e.2]; exact h
    have hcp := run_copy_row (P := Tryz.prog) (w.alloc (.cells (madeCells #[.int .u8 0] n) 5)) 26 26 3 5 w.heap.size 0 n n ⟨b, off, none⟩ n cap (madeCells #[.int .u8 0] n) 5 (zs.map fun z => byteV z) Tryz.underlying26 Tryz.sizeU8
      (Go.Deep.blk_alloc_new _ _) (by simp [hz]) (fun j v hv => by
        rw [List.getElem?_map, Option.map_eq_some_iff] at hv
        obtain ⟨z, hz1, rfl⟩ := hv
        have hj : j < n := by rw [← hz]; exact (List.getElem?_eq_some_iff.1 hz1).1
        have h2 := hc' j hj
        rw [hz1, Option.getD_some] at h2
        have ha : (⟨b, off, none⟩ : Addr).add j = ⟨b, off + j, none⟩ := by
          by_cases hj0 : j = 0
          · subst hj0; simp [Addr.add]
          · simp [Addr.add, hj0]
        rw [ha]
        exact cell_later (later1 _ _) h2) (by simp [size_madeCells, hz]) (fun v hv => by
        obtain ⟨z, _, rfl⟩ := List.mem_map.1 hv
        rfl)
    refine ⟨_, by rw [hcp, List.length_map, hz], below_setRow (later1 _ _) (Nat.le_refl _) _, ?_⟩
    refine ⟨_, 5, setRow_heap _ _ _ _ _ _ (Go.Deep.blk_alloc_new _ _), ?_, fun i hi => ?_⟩
    · simp [hz]
    · have hlen : i < zs.length := by omega
      simp [List.getElem?_append_left, hlen, byteV]
set_option maxHeartbeats 400000 in
theorem copyOfY_more {w : World} {v : Value} {zs : List UInt8} (h : Byt w v zs) (hn : zs.length ≤ 1048576) :
    Calls Tryz.prog 53 #[v] w fun e w' => e = .returned (.slice (some ⟨w.heap.size, 0, none⟩) zs.length zs.length) ∧ Below w.heap.size w w' ∧ BytO w' (.slice (some ⟨w.heap.size, 0, none⟩) zs.length zs.length) zs (fresh w w') ∧ w.heap.size < w'.heap.size := by
  obtain ⟨a, cap, rfl, hm, hc⟩ := h
  obtain ⟨X, hcp, hbX, hrX⟩ := copyY_made w a zs.length cap zs rfl hc
  have hmk := fun w => run_make_row' (P := Tryz.prog) 26 5 (.int .u8 0) 1 Tryz.underlying26 Tryz.infoU8 rfl .i64 .i64 zs.length (by omega) (by omega) w
  have HB : Hid (Below w.heap.size w X) := hbX
  have HR : Hid (OwnRow X w.heap.size zs.length (fun i => .int .u8 (((zs[i]?.getD 0).toNat : Nat) : Int))) := hrX
  clear hbX hrX hc
  go_enter Tryz.func53, Tryz.ntmps53
  go_wp2
  go_ret
  exact ⟨rfl, HB.out, Or.inr ⟨w.heap.size, _, ⟨Nat.le_refl _, HR.out.lt⟩, rfl, ⟨hm.1, Nat.le_refl _⟩, HR.out⟩, HR.out.lt⟩
theorem copyOfY_any {w : World} {v : Value} {zs : List UInt8} (h : Byt w v zs) (hn : zs.length ≤ 1048576) :
    Calls Tryz.prog 53 #[v] w fun e w' => e = .returned (.slice (some ⟨w.heap.size, 0, none⟩) zs.length zs.length) ∧ Below w.heap.size w w' ∧ BytO w' (.slice (some ⟨w.heap.size, 0, none⟩) zs.length zs.length) zs (fresh w w') :=
  (copyOfY_more h hn).mono fun _ _ ⟨h1, h2, h3, _⟩ => ⟨h1, h2, h3⟩

theorem newRackY_any (w : World) (n : Nat) (hn : n ≤ 60) :
    Calls Tryz.prog 94 #[.int .i64 (n : Int)] w fun e w' => ∃ b, w.heap.size ≤ b ∧ e = .returned (.agg #[.slice (some ⟨b, 0, none⟩) n n]) ∧ Below w.heap.size w w' ∧ OwnRow w' b n (fun _ => .slice none 0 0) := by
  have hmk := fun w => run_make_row' (P := Tryz.prog) 23 26 (.slice none 0 0) 24 Tryz.underlying23 Tryz.infoU8s rfl .i64 .i64 n (by omega) (by omega) w
  go_enter Tryz.func94, Tryz.ntmps94
  go_wp2
  refine bodyPost_ret (v := .agg #[.slice (some ⟨w.heap.size + 1, 0, none⟩) n n]) (by simp [results, Tryz.results94, go_sem]) rfl ⟨w.heap.size + 1, by omega, rfl, later2 _ _ _, ?_⟩
  have := OwnRow.made (w.alloc (Obj.cells #[Value.slice (some ⟨w.heap.size + 1, 0, none⟩) n n] 110)) (.slice none 0 0) n 26
  simpa using this

set_option maxHeartbeats 800000 in
theorem setY_any (w : World) (br o g n cap x : Nat) (u : Nat → Value) (v : Value) (zs : List UInt8) (_hn : n ≤ 60) (hx : x < n) (h0 : w.cell? ⟨br, o, none⟩ = some (.slice (some ⟨g, 0, none⟩) n cap)) (hr : OwnRow w g n u) (hu : ∃ ua un uc, u x = .slice ua un uc) (hi : Byt w v zs) (hl : zs.length ≤ 1048576) :
    Calls Tryz.prog 95 #[.pointer (some ⟨br, o, none⟩), .int .i64 (x : Int), v] w fun e w' => e = .returned (.tuple #[]) ∧
      ∃ X, w' = X.setCell ⟨g, x, none⟩ (.slice (some ⟨w.heap.size, 0, none⟩) zs.length zs.length) ∧ Below w.heap.size w X ∧ BytO X (.slice (some ⟨w.heap.size, 0, none⟩) zs.length zs.length) zs (fresh w X) := by
  obtain ⟨ua, un, uc, hux⟩ := hu
  have HI : Hid (Byt w v zs) := hi
  have HR : Hid (OwnRow w g n u) := hr
  have c1 := hr.cell hx
  rw [hux] at c1
  have c2 := hr.frozen x
  have HL : Hid (zs.length ≤ 1048576) := hl
  clear hi hr hl hux
  go_enter Tryz.func95, Tryz.ntmps95
  go_wp2_with fail
  go_region_with ((go_at_call 53; refine (copyOfY_any ?_ HL.out).mono ?_; exact HI.out; rintro e w1 ⟨rfl, hb1, ho1⟩; have d0 := cell_later hb1 h0; have d1 := cell_later hb1 c1; have d2 := (hb1.frozen (p := ⟨g, x, none⟩) (World.block_lt_of_cell? _ _ c1)).trans c2; have HB1 : Hid (Below w.heap.size w w1) := (Below.refl _ _).drew.trans hb1; have HO1 : Hid (BytO w1 (.slice (some ⟨w.heap.size, 0, none⟩) zs.length zs.length) zs (fresh w w1)) := ho1; clear hb1 ho1))
  all_goals
    go_wp2
    go_end0
    exact ⟨rfl, w1, rfl, HB1.out, HO1.out⟩

set_option maxHeartbeats 1600000 in
theorem rackOfY_walk (w : World) (a : Option Addr) (n cap : Nat) (bs : List (List UInt8)) (hbl : bs.length = n) (hn : n ≤ 60) (hz : ∀ k, k < n → (bs[k]?.getD []).length ≤ 1048576) (hB : AtYs w a n bs) :
    Calls Tryz.prog 74 #[.slice a n cap] w fun e w' => ∃ g, e = .returned (.agg #[.slice (some ⟨g, 0, none⟩) n n]) ∧ Below w.heap.size w w' ∧ BytsO w' (.slice (some ⟨g, 0, none⟩) n n) bs (fresh w w') := by
  have HBL : Hid (bs.length = n) := hbl
  have HZ : Hid (∀ k, k < n → (bs[k]?.getD []).length ≤ 1048576) := hz
  have HB : Hid (AtYs w a n bs) := hB
  clear hbl hz hB
  go_enter Tryz.func74, Tryz.ntmps74
  go_wp2_with fail
  refine (newRackY_any _ n hn).mono ?_
  rintro e w1 ⟨g, hg, rfl, hb1, hr1⟩
  simp at hg
  have HB1 : Hid (Below w.heap.size w w1) := (later1 _ _).trans (hb1.mono (by simp))
  have hgl : g < w1.heap.size := hr1.lt
  have HR1 : Hid (OwnRow w1 g n (fun _ => .slice none 0 0)) := hr1
  have t0 := cell_later hb1 (show (w.alloc (Obj.cells #[Value.slice none 0 0] 110)).cell? ⟨w.heap.size, 0, none⟩ = some (.slice none 0 0) by rw [new_cell]; rfl)
  have t1 : w1.frozen? ⟨w.heap.size, 0, none⟩ = false := by rw [hb1.frozen (by simp)]; simp
  have hz1 : w.heap.size < w1.heap.size := World.block_lt_of_cell? _ _ t0
  clear hb1 hr1
  go_wp2_with fail
  go_loopw [11] (fun i wr => ∃ j : Nat, j ≤ n ∧ i = .int .i64 j ∧ Below w.heap.size w wr ∧ wr.cell? ⟨w.heap.size, 0, none⟩ = some (.slice none 0 0) ∧ wr.frozen? ⟨w.heap.size, 0, none⟩ = false ∧ wr.cell? ⟨w1.heap.size, 0, none⟩ = some (.slice (some ⟨g, 0, none⟩) n n) ∧
    ∃ u s, OwnRow wr g n (fun i => if i < j then u i else .slice none 0 0) ∧ (∀ i, i < j → ∃ ua un uc, u i = .slice ua un uc) ∧ BuiltY wr (w1.heap.size + 1) j u (fun i => bs[i]?.getD []) s) (fun i _ => n - (intOf i).toNat)
  case atStart => exact ⟨0, Nat.zero_le _, rfl, HB1.out.trans ((later1 _ _).mono HB1.out.size), cell_later (later1 _ _) t0, by rw [(later1 w1 _).frozen (p := ⟨w.heap.size, 0, none⟩) hz1]; exact t1, by rw [new_cell]; rfl, fun _ => .slice none 0 0, _, (HR1.out.later (later1 _ _)).congr fun i _ => by simp, fun i hi => by omega, BuiltY.nil _ _ (by simp)⟩
  case round =>
    obtain ⟨j, hj, rfl, hbl, q0, q1, q2, u, s, hrow, hsh, hbt⟩ := hrel
    have HBW : Hid (Below w.heap.size w wr) := hbl
    have HROW : Hid (OwnRow wr g n (fun i => if i < j then u i else .slice none 0 0)) := hrow
    have HBT : Hid (BuiltY wr (w1.heap.size + 1) j u (fun i => bs[i]?.getD []) s) := hbt
    have HSH : Hid (∀ i, i < j → ∃ ua un uc, u i = .slice ua un uc) := hsh
    clear hbl hrow hbt hsh t0 t1
    by_cases hlt : j < n
    · obtain ⟨b, off, ua, ucap, e, c1, i1⟩ := HB.out j hlt
      clear HB
      subst e
      replace c1 := cell_later HBW.out c1
      have HI : Hid (Byt wr (.slice ua (bs[j]?.getD []).length ucap) (bs[j]?.getD [])) := i1.later HBW.out
      clear i1
      go_wp2_with fail
      refine (setY_any wr w1.heap.size 0 g n n j _ _ (bs[j]?.getD []) hn hlt q2 HROW.out ⟨none, 0, 0, by simp⟩ HI.out (HZ.out j hlt)).mono ?_
      rintro e w2 ⟨rfl, X, rfl, hbX, hoX⟩
      have HX : Hid (Below wr.heap.size wr X) := hbX
      have HO : Hid (BytO X (.slice (some ⟨wr.heap.size, 0, none⟩) (bs[j]?.getD []).length (bs[j]?.getD []).length) (bs[j]?.getD []) (fresh wr X)) := hoX
      clear hbX hoX
      go_wp2
      go_roundw
      case rel =>
        refine ⟨j + 1, by omega, by go_num, (HBW.out.trans (HX.out.mono HBW.out.size)).setCell (by simp; omega) _, ?_, ?_, ?_, _, _, ((HROW.out.later HX.out).set j _).congr fun i hi => ?_, fun i hi => ?_, (HBT.out.next HX.out HO.out).store (by simp; omega) _⟩
        · rw [World.cell?_of_block (w := X) (Below.heap_setCell _ _ _ _ (by simp; omega))]; exact cell_later HX.out q0
        · rw [World.frozen?_of_block (w := X) (Below.heap_setCell _ _ _ _ (by simp; omega)), HX.out.frozen (World.block_lt_of_cell? _ _ q0)]; exact q1
        · rw [World.cell?_of_block (w := X) (Below.heap_setCell _ _ _ _ (by simp; omega))]; exact cell_later HX.out q2
        · by_cases e : i = j
          · subst e; simp
          · by_cases e2 : i < j
            · simp [e, e2, show i < j + 1 by omega]
            · simp [e, e2, show ¬ i < j + 1 by omega]
        · by_cases e : i = j
          · subst e; exact ⟨_, _, _, by simp; exact ⟨rfl, rfl, rfl⟩⟩
          · obtain ⟨a1, a2, a3, h⟩ := HSH.out i (by omega)
            exact ⟨a1, a2, a3, by simp [e, h]⟩
      case measure => simp [intOf]; omega
    · go_wp2
      have e : j = n := by omega
      subst e
      refine bodyPost_ret (v := .agg #[.slice (some ⟨g, 0, none⟩) j j]) (by simp [results, Tryz.results74, go_sem, q0]) rfl ⟨g, rfl, HBW.out.setCell (Nat.le_refl _) _, ?_⟩
      have hB' := HBT.out.store (p := ⟨w.heap.size, 0, none⟩) (by simp; omega) (.slice (some ⟨g, 0, none⟩) j j)
      have hR' := (HROW.out.congr (g := u) fun i hi => by simp [hi]).store (p := ⟨w.heap.size, 0, none⟩) (by simp; omega) (.slice (some ⟨g, 0, none⟩) j j)
      exact hB'.byts bs HBL.out ⟨by unfold maxLen; omega, Nat.le_refl _⟩ (by omega) hR' _ ⟨by omega, hR'.lt⟩ (fun c h1 h2 => ⟨by omega, h2⟩)
end Go.Proofs.YtjabimfinanjoaaGreat

namespace Go.Proofs.YtjabimfinanjoaaGreat
open Go.RowKit Go.Shelf
set_option maxRecDepth 100000
attribute [local go_sem] Oper.semAt_some

theorem cloneB_any (w : World) (x : ByteArray) (hl : x.size ≤ 1048576) : Calls Tryz.prog 98 #[.string x] w fun e w' => e = .returned (.string x) ∧ Below w.heap.size w w' := by
  have hl' : x.size ≤ 281474976710656 := by omega
  clear hl
  go_enter Tryz.func98, Tryz.ntmps98
  go_wp2_with fail
  refine (Tryz.stringslite_Clone x _ hl').mono ?_
  rintro e w1 ⟨rfl, hb1⟩
  go_wp2
  go_ret
  exact ⟨rfl, hb1⟩

set_option maxHeartbeats 400000 in
theorem copyOfN_any {w : World} {v : Value} {es : List EN} (h : Ents w v es) (hn : es.length ≤ 1048576) :
    Calls Tryz.prog 97 #[v] w fun e w' => e = .returned (.slice (some ⟨w.heap.size, 0, none⟩) es.length es.length) ∧ Below w.heap.size w w' ∧ OwnRow w' w.heap.size (es.length * 2) (enCell es) := by
  obtain ⟨a, cap, rfl, hm, hz, hc⟩ := h.open'
  obtain ⟨X, hcp, hbX, hrX⟩ := copy_ents w a es.length cap es rfl hc
  have hmk := fun w => run_make_pair (P := Tryz.prog) 79 115 (.string ⟨#[]⟩) (.int .i64 0) 24 Tryz.underlying79 Tryz.infoEnt rfl .i64 .i64 es.length (by omega) (by omega) w
  have HB : Hid (Below w.heap.size w X) := hbX
  have HR : Hid (OwnRow X w.heap.size (es.length * 2) (enCell es)) := hrX
  clear hbX hrX hc
  go_enter Tryz.func97, Tryz.ntmps97
  go_wp2
  go_ret
  exact ⟨rfl, HB.out, HR.out⟩

set_option maxHeartbeats 400000 in
theorem copyOfI_any {w : World} {a : Option Addr} {n cap : Nat} (l : List ID) (u : Nat → Value × Value) (hn : n ≤ 1048576) (hs : ∀ i, i < n → (u i).1.oneCell' = true ∧ (u i).2.oneCell' = true) (hc : ∀ c, c < n * 5 → ∃ b off, a = some ⟨b, off, none⟩ ∧ w.cell? ⟨b, off + c, none⟩ = some (inCell l u c)) :
    Calls Tryz.prog 73 #[.slice a n cap] w fun e w' => e = .returned (.slice (some ⟨w.heap.size, 0, none⟩) n n) ∧ Below w.heap.size w w' ∧ OwnRow w' w.heap.size (n * 5) (inCell l u) := by
  obtain ⟨X, hcp, hbX, hrX⟩ := copy_inos w a n cap l u hs hc
  have hmk := fun w => run_make_five (P := Tryz.prog) 29 81 (.int .i64 0) (.int .i64 0) (.int .i64 0) (.slice none 0 0) (.slice none 0 0) 72 Tryz.underlying29 Tryz.infoIno rfl .i64 .i64 n (by omega) (by omega) w
  have HB : Hid (Below w.heap.size w X) := hbX
  have HR : Hid (OwnRow X w.heap.size (n * 5) (inCell l u)) := hrX
  clear hbX hrX hc hs
  go_enter Tryz.func73, Tryz.ntmps73
  go_wp2
  go_ret
  exact ⟨rfl, HB.out, HR.out⟩
theorem name_le (es : List EN) (k : Nat) : (es[k]?.getD en0).1.size ≤ (nlens es).sum := by
  by_cases h : k < es.length
  · have h1 := upto_succ (nlens es) k (by rw [nlens_length]; exact h)
    rw [nlens_get] at h1
    have h2 := upto_le (nlens es) (k + 1)
    omega
  · rw [List.getElem?_eq_none (by omega)]; simp [en0, ByteArray.size]
theorem enCell_same (es : List EN) (j c : Nat) : (if c = j * 2 then Value.string (es[j]?.getD en0).1 else enCell es c) = enCell es c := by
  by_cases e : c = j * 2
  · subst e; rw [if_pos rfl, enCell_0]
  · rw [if_neg e]

set_option maxHeartbeats 6400000 in
theorem copyOfInode_any (w : World) (aB : Option Addr) (nB cB : Nat) (aE : Option Addr) (nE cE : Nat) (d : ID) (h : InoR w (.int .i64 d.1) (.int .i64 d.2.1) (.int .i64 d.2.2.1) (.slice aB nB cB) (.slice aE nE cE) d) (hsz : sizeIno d ≤ 1048576) :
    Calls Tryz.prog 75 #[.agg #[.int .i64 d.1, .int .i64 d.2.1, .int .i64 d.2.2.1, .slice aB nB cB, .slice aE nE cE]] w (AnsIno w d) := by
  obtain ⟨k, l, s, bs, es⟩ := d
  have hB : bs.length ≤ 1048576 := by unfold sizeIno at hsz; dsimp only at hsz; omega
  have hE : es.length ≤ 1048576 := by unfold sizeIno sizeN at hsz; dsimp only at hsz; omega
  have HNM : Hid (∀ k : Nat, (es[k]?.getD en0).1.size ≤ 1048576) := fun k => by
    have := name_le es k
    unfold sizeIno sizeN at hsz
    dsimp only at hsz
    omega
  dsimp only at h ⊢
  obtain ⟨-, hI, hN⟩ := h
  dsimp only at hI hN
  clear hsz
  obtain ⟨aN, cN, eN, hmN, hzN, hatN⟩ := hN.open'
  simp only [Value.slice.injEq] at eN
  obtain ⟨rfl, rfl, rfl⟩ := eN
  have HI : Hid (Ints w (.slice aB nB cB) bs) := hI
  have HN : Hid (Ents w (.slice aE es.length cE) es) := hN
  have HZ : Hid (∀ k : Nat, (es[k]?.getD en0).1.size ≤ maxLen) := hzN
  have HBL : Hid (bs.length ≤ 1048576) := hB
  have HEL : Hid (es.length ≤ 1048576) := hE
  have hE' := hE
  have HX0 : Hid (OwnRow ((w.alloc (.cells #[.int .i64 k, .int .i64 l, .int .i64 s, .slice aB nB cB, .slice aE es.length cE] 81)).alloc (.cells #[.int .i64 0, .int .i64 0, .int .i64 0, .slice none 0 0, .slice none 0 0] 81)) w.heap.size 5 (fun i => [Value.int .i64 k, .int .i64 l, .int .i64 s, .slice aB nB cB, .slice aE es.length cE][i]?.getD (.int .i64 0))) := (rowVL w [.int .i64 k, .int .i64 l, .int .i64 s, .slice aB nB cB, .slice aE es.length cE] _).later (later1 _ _)
  have HR0 : Hid (OwnRow ((w.alloc (.cells #[.int .i64 k, .int .i64 l, .int .i64 s, .slice aB nB cB, .slice aE es.length cE] 81)).alloc (.cells #[.int .i64 0, .int .i64 0, .int .i64 0, .slice none 0 0, .slice none 0 0] 81)) (w.heap.size + 1) 5 (fun i => zero5F[i]?.getD (.int .i64 0))) := by
    have := rowVL (w.alloc (.cells #[.int .i64 k, .int .i64 l, .int .i64 s, .slice aB nB cB, .slice aE es.length cE] 81)) zero5F 81
    rw [World.size_alloc] at this
    exact this
  have hz0 : ((w.alloc (.cells #[.int .i64 k, .int .i64 l, .int .i64 s, .slice aB nB cB, .slice aE es.length cE] 81)).alloc (.cells #[.int .i64 0, .int .i64 0, .int .i64 0, .slice none 0 0, .slice none 0 0] 81)).heap.size = w.heap.size + 2 := by simp
  have HB0 : Hid (Below w.heap.size w ((w.alloc (.cells #[.int .i64 k, .int .i64 l, .int .i64 s, .slice aB nB cB, .slice aE es.length cE] 81)).alloc (.cells #[.int .i64 0, .int .i64 0, .int .i64 0, .slice none 0 0, .slice none 0 0] 81))) := later2 _ _ _
  clear hI hN hatN hzN hmN hB hE
  go_enter Tryz.func75, Tryz.ntmps75
  go_wp2_with fail
  generalize ((w.alloc (.cells #[.int .i64 k, .int .i64 l, .int .i64 s, .slice aB nB cB, .slice aE es.length cE] 81)).alloc (.cells #[.int .i64 0, .int .i64 0, .int .i64 0, .slice none 0 0, .slice none 0 0] 81)) = W0 at *
  refine (copyOf_more (HI.out.later HB0.out) HBL.out).mono ?_
  rintro e w1 ⟨rfl, hb1, ho1, hs1⟩
  have HB1 : Hid (Below w.heap.size w w1) := HB0.out.trans (hb1.mono HB0.out.size)
  have hX1 := HX0.out.later hb1
  have hR1 := HR0.out.later hb1
  rw [hz0] at ho1 ⊢
  have HO1 : Hid (IntsO w1 (.slice (some ⟨w.heap.size + 2, 0, none⟩) bs.length bs.length) bs (fun b => w.heap.size + 2 ≤ b ∧ b < w1.heap.size)) := ho1.mono fun b hb => ⟨by have := hb.1; omega, hb.2⟩
  have hw1 : w.heap.size + 2 < w1.heap.size := by omega
  have hlt1 : w.heap.size < w1.heap.size := by omega
  have q3 : w1.cell? ⟨w.heap.size, 3, none⟩ = some (.slice aB nB cB) := hX1.cell (i := 3) (by simp)
  have q4 : w1.cell? ⟨w.heap.size, 4, none⟩ = some (.slice aE es.length cE) := hX1.cell (i := 4) (by simp)
  have f3 := hX1.frozen 3
  have HX2 : Hid (OwnRow (w1.setCell ⟨w.heap.size, 3, none⟩ (.slice (some ⟨w.heap.size + 2, 0, none⟩) bs.length bs.length)) w.heap.size 5 (fun i => [Value.int .i64 k, .int .i64 l, .int .i64 s, .slice (some ⟨w.heap.size + 2, 0, none⟩) bs.length bs.length, .slice aE es.length cE][i]?.getD (.int .i64 0))) := (hX1.set 3 _).congr fun i hi => by
    match i, hi with
    | 0, _ => rfl
    | 1, _ => rfl
    | 2, _ => rfl
    | 3, _ => rfl
    | 4, _ => rfl
  have HR2 : Hid (OwnRow (w1.setCell ⟨w.heap.size, 3, none⟩ (.slice (some ⟨w.heap.size + 2, 0, none⟩) bs.length bs.length)) (w.heap.size + 1) 5 (fun i => zero5F[i]?.getD (.int .i64 0))) := hR1.store (by simp) _
  have HO2 : Hid (IntsO (w1.setCell ⟨w.heap.size, 3, none⟩ (.slice (some ⟨w.heap.size + 2, 0, none⟩) bs.length bs.length)) (.slice (some ⟨w.heap.size + 2, 0, none⟩) bs.length bs.length) bs (fun b => w.heap.size + 2 ≤ b ∧ b < w1.heap.size)) := HO1.out.store (fun b hb => by show b ≠ w.heap.size; omega) _
  have HB2 : Hid (Below w.heap.size w (w1.setCell ⟨w.heap.size, 3, none⟩ (.slice (some ⟨w.heap.size + 2, 0, none⟩) bs.length bs.length))) := HB1.out.setCell (Nat.le_refl _) _
  have hz2 : (w1.setCell ⟨w.heap.size, 3, none⟩ (.slice (some ⟨w.heap.size + 2, 0, none⟩) bs.length bs.length)).heap.size = w1.heap.size := by simp [World.setCell]
  clear HO1 HX0 HR0 HB0 hb1 ho1 hs1 hX1 hR1 HI HB1
  go_wp2_with fail
  generalize w1.setCell ⟨w.heap.size, 3, none⟩ (.slice (some ⟨w.heap.size + 2, 0, none⟩) bs.length bs.length) = W2 at *
  clear q3 q4 f3
  refine (copyOfN_any (HN.out.later HB2.out) HEL.out).mono ?_
  rintro e w3 ⟨rfl, hb3, ho3⟩
  rw [hz2] at ho3 ⊢
  have HB3 : Hid (Below w.heap.size w w3) := HB2.out.trans (hb3.mono (by rw [hz2]; omega))
  have hX3 := HX2.out.later hb3
  have hR3 := HR2.out.later hb3
  have hw3 : w1.heap.size < w3.heap.size := ho3.lt
  have HO3 : Hid (IntsO w3 (.slice (some ⟨w.heap.size + 2, 0, none⟩) bs.length bs.length) bs (fun b => w.heap.size + 2 ≤ b ∧ b < w1.heap.size)) := HO2.out.keep fun b hb hlt => hb3.block b hlt
  have q4 : w3.cell? ⟨w.heap.size, 4, none⟩ = some (.slice aE es.length cE) := hX3.cell (i := 4) (by simp)
  have f4 := hX3.frozen 4
  have HX4 : Hid (OwnRow (w3.setCell ⟨w.heap.size, 4, none⟩ (.slice (some ⟨w1.heap.size, 0, none⟩) es.length es.length)) w.heap.size 5 (fun i => [Value.int .i64 k, .int .i64 l, .int .i64 s, .slice (some ⟨w.heap.size + 2, 0, none⟩) bs.length bs.length, .slice (some ⟨w1.heap.size, 0, none⟩) es.length es.length][i]?.getD (.int .i64 0))) := (hX3.set 4 _).congr fun i hi => by
    match i, hi with
    | 0, _ => rfl
    | 1, _ => rfl
    | 2, _ => rfl
    | 3, _ => rfl
    | 4, _ => rfl
  have HR4 : Hid (OwnRow (w3.setCell ⟨w.heap.size, 4, none⟩ (.slice (some ⟨w1.heap.size, 0, none⟩) es.length es.length)) (w.heap.size + 1) 5 (fun i => zero5F[i]?.getD (.int .i64 0))) := hR3.store (by simp) _
  have HO4 : Hid (IntsO (w3.setCell ⟨w.heap.size, 4, none⟩ (.slice (some ⟨w1.heap.size, 0, none⟩) es.length es.length)) (.slice (some ⟨w.heap.size + 2, 0, none⟩) bs.length bs.length) bs (fun b => w.heap.size + 2 ≤ b ∧ b < w1.heap.size)) := HO3.out.store (fun b hb => by show b ≠ w.heap.size; omega) _
  have HE4 : Hid (OwnRow (w3.setCell ⟨w.heap.size, 4, none⟩ (.slice (some ⟨w1.heap.size, 0, none⟩) es.length es.length)) w1.heap.size (es.length * 2) (enCell es)) := ho3.store (by simp; omega) _
  have HB4 : Hid (Below w.heap.size w (w3.setCell ⟨w.heap.size, 4, none⟩ (.slice (some ⟨w1.heap.size, 0, none⟩) es.length es.length))) := HB3.out.setCell (Nat.le_refl _) _
  have hz4 : (w3.setCell ⟨w.heap.size, 4, none⟩ (.slice (some ⟨w1.heap.size, 0, none⟩) es.length es.length)).heap.size = w3.heap.size := by simp [World.setCell]
  clear HO3 HX2 HR2 HB2 hb3 ho3 hX3 hR3 HN HB3 HO2
  go_wp2_with fail
  generalize w3.setCell ⟨w.heap.size, 4, none⟩ (.slice (some ⟨w1.heap.size, 0, none⟩) es.length es.length) = W4 at *
  clear q4 f4
  obtain ⟨nE, hnE⟩ : ∃ nE, es.length = nE := ⟨_, rfl⟩
  have HNE : Hid (es.length = nE) := hnE
  rw [hnE] at HX4 HE4 hE' ⊢
  clear hnE
  go_loopw [16] (fun i wr => ∃ j : Nat, j ≤ nE ∧ i = .int .i64 j ∧ Below w.heap.size w wr ∧ w3.heap.size ≤ wr.heap.size ∧ OwnRow wr w.heap.size 5 (fun i => [Value.int .i64 k, .int .i64 l, .int .i64 s, .slice (some ⟨w.heap.size + 2, 0, none⟩) bs.length bs.length, .slice (some ⟨w1.heap.size, 0, none⟩) nE nE][i]?.getD (.int .i64 0)) ∧ OwnRow wr (w.heap.size + 1) 5 (fun i => zero5F[i]?.getD (.int .i64 0)) ∧ OwnRow wr w1.heap.size (nE * 2) (enCell es) ∧ IntsO wr (.slice (some ⟨w.heap.size + 2, 0, none⟩) bs.length bs.length) bs (fun b => w.heap.size + 2 ≤ b ∧ b < w1.heap.size)) (fun i _ => nE - (intOf i).toNat)
  case atStart => exact ⟨0, Nat.zero_le _, rfl, HB4.out, by omega, HX4.out, HR4.out, HE4.out, HO4.out⟩
  case round =>
    clear HB4 HX4 HR4 HE4 HO4
    obtain ⟨j, hj, rfl, hbw, hsz, hx, hr, he, ho⟩ := hrel
    have HBW : Hid (Below w.heap.size w wr) := hbw
    have HX : Hid (OwnRow wr w.heap.size 5 _) := hx
    have HR : Hid (OwnRow wr (w.heap.size + 1) 5 _) := hr
    have HE : Hid (OwnRow wr w1.heap.size (nE * 2) (enCell es)) := he
    have HO : Hid (IntsO wr (.slice (some ⟨w.heap.size + 2, 0, none⟩) bs.length bs.length) bs (fun b => w.heap.size + 2 ≤ b ∧ b < w1.heap.size)) := ho
    have x4 : wr.cell? ⟨w.heap.size, 4, none⟩ = some (.slice (some ⟨w1.heap.size, 0, none⟩) nE nE) := hx.cell (i := 4) (by simp)
    have hl0 : w.heap.size < wr.heap.size := by omega
    have hl1 : w1.heap.size < wr.heap.size := by omega
    by_cases hlt : j < nE
    · have e0 : wr.cell? ⟨w1.heap.size, j * 2, none⟩ = some (.string (es[j]?.getD en0).1) := by rw [he.cell (by omega), enCell_0]
      have e1 : wr.cell? ⟨w1.heap.size, j * 2 + 1, none⟩ = some (.int .i64 (es[j]?.getD en0).2) := by rw [he.cell (by omega), enCell_1]
      have HSM : Hid (∀ c, (if c = j * 2 then Value.string (es[j]?.getD en0).1 else enCell es c) = enCell es c) := enCell_same es j
      have HZJ : Hid ((es[j]?.getD en0).1.size ≤ 1048576) := HNM.out j
      clear hbw hx hr he ho HZ HNM
      generalize (es[j]?.getD en0).1 = xs at *
      generalize (es[j]?.getD en0).2 = xi at *
      go_wp2_with fail
      have hne1 : w.heap.size ≠ w1.heap.size := by omega
      have hne2 : w1.heap.size ≠ w.heap.size := by omega
      have hne3 : wr.heap.size ≠ w1.heap.size := by omega
      have hne4 : w1.heap.size ≠ wr.heap.size := by omega
      go_region_held3 (fun W => W.cell? ⟨w.heap.size, 4, none⟩ = some (.slice (some ⟨w1.heap.size, 0, none⟩) nE nE) ∧ W.cell? ⟨wr.heap.size, 0, none⟩ = some (.string xs)) (go_keep) (first
        | (go_at_call 98; refine (cloneB_any _ xs HZJ.out).mono ?_; rintro e u1 ⟨rfl, hb⟩
           have HB1 : Hid (Below wr.heap.size wr u1) := ((later1 wr _).drew).trans (hb.mono (by simp [World.drew]))
           have y4 := cell_later HB1.out x4
           have d0 := cell_later HB1.out e0
           have d1 : u1.frozen? ⟨w1.heap.size, j * 2, none⟩ = false := (HE.out.later HB1.out).frozen _
           have y5 : u1.cell? ⟨wr.heap.size, 0, none⟩ = some (.string xs) := cell_later hb (by first | (rw [new_cell]; rfl) | exact cell_later (Below.refl _ _).drew (by rw [new_cell]; rfl)))
        | fail)
      all_goals
        have HSX : Hid (OwnRow (u1.setCell ⟨w1.heap.size, j * 2, none⟩ (.string xs)) w1.heap.size (nE * 2) (enCell es)) := ((HE.out.later HB1.out).set _ _).congr fun c _ => HSM.out c
        go_wp2
        go_roundw
        case rel => exact ⟨j + 1, by omega, by go_num, (HBW.out.trans (HB1.out.mono HBW.out.size)).setCell (by simp; omega) _, by have := HB1.out.size; simp [World.setCell]; omega, (HX.out.later HB1.out).store (by simp; omega) _, (HR.out.later HB1.out).store (by simp; omega) _, HSX.out, (HO.out.keep fun b hb hlt => HB1.out.block b hlt).store (fun b hb => by show b ≠ w1.heap.size; omega) _⟩
        case measure => simp [intOf]; omega
    · have x0 : wr.cell? ⟨w.heap.size, 0, none⟩ = some (.int .i64 k) := hx.cell (i := 0) (by simp)
      have x1 : wr.cell? ⟨w.heap.size, 1, none⟩ = some (.int .i64 l) := hx.cell (i := 1) (by simp)
      have x2 : wr.cell? ⟨w.heap.size, 2, none⟩ = some (.int .i64 s) := hx.cell (i := 2) (by simp)
      have x3 : wr.cell? ⟨w.heap.size, 3, none⟩ = some (.slice (some ⟨w.heap.size + 2, 0, none⟩) bs.length bs.length) := hx.cell (i := 3) (by simp)
      have r0 : wr.cell? ⟨w.heap.size + 1, 0, none⟩ = some (.int .i64 0) := hr.cell (i := 0) (by simp)
      have r1 : wr.cell? ⟨w.heap.size + 1, 1, none⟩ = some (.int .i64 0) := hr.cell (i := 1) (by simp)
      have r2 : wr.cell? ⟨w.heap.size + 1, 2, none⟩ = some (.int .i64 0) := hr.cell (i := 2) (by simp)
      have r3 : wr.cell? ⟨w.heap.size + 1, 3, none⟩ = some (.slice none 0 0) := hr.cell (i := 3) (by simp)
      have r4 : wr.cell? ⟨w.heap.size + 1, 4, none⟩ = some (.slice none 0 0) := hr.cell (i := 4) (by simp)
      have s0 := hr.frozen 0
      have s1 := hr.frozen 1
      have s2 := hr.frozen 2
      have s3 := hr.frozen 3
      have s4 := hr.frozen 4
      have HEO : Hid (EntsO wr (.slice (some ⟨w1.heap.size, 0, none⟩) nE nE) es (fun b => b = w1.heap.size)) := Or.inr ⟨w1.heap.size, nE, rfl, by rw [HNE.out], ⟨by rw [HNE.out]; unfold maxLen; omega, by rw [HNE.out]; exact Nat.le_refl _, HZ.out⟩, by rw [HNE.out]; exact he⟩
      clear hbw hx hr he ho
      go_wp2
      refine bodyPost_ret (v := .agg #[.int .i64 k, .int .i64 l, .int .i64 s, .slice (some ⟨w.heap.size + 2, 0, none⟩) bs.length bs.length, .slice (some ⟨w1.heap.size, 0, none⟩) nE nE]) (by simp [results, Tryz.results75, go_sem, r0, r1, r2, r3, r4]) rfl ⟨_, _, _, _, _, _, rfl, ((((HBW.out.setCell (by simp) _).setCell (by simp) _).setCell (by simp) _).setCell (by simp) _).setCell (by simp) _, ⟨rfl, rfl, rfl, _, _, _, rfl, Nat.le_refl _⟩, (fun b => w.heap.size + 2 ≤ b ∧ b < w1.heap.size), (fun b => b = w1.heap.size), HO.out.keep fun b hb _ => ?_, HEO.out.keep fun b hb _ => ?_, fun b h1 h2 => by omega, fun b hb => ?_⟩
      · rw [Below.heap_setCell _ _ _ _ (by simp; omega), Below.heap_setCell _ _ _ _ (by simp; omega), Below.heap_setCell _ _ _ _ (by simp; omega), Below.heap_setCell _ _ _ _ (by simp; omega), Below.heap_setCell _ _ _ _ (by simp; omega)]
      · rw [Below.heap_setCell _ _ _ _ (by simp; omega), Below.heap_setCell _ _ _ _ (by simp; omega), Below.heap_setCell _ _ _ _ (by simp; omega), Below.heap_setCell _ _ _ _ (by simp; omega), Below.heap_setCell _ _ _ _ (by simp; omega)]
      · unfold fresh
        simp only [World.setCell, Array.size_modify]
        rcases hb with hb | hb <;> omega
end Go.Proofs.YtjabimfinanjoaaGreat
