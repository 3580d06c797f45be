/- File systems: a list of inodes and a list of lists of bytes; the walks of the laws' functions over them. A file system is copied. File systems are marked; answers that hold bytes. Lists of inodes are marked, and the marks are held. Lists of lists of bytes, and file systems: the marks are held. Answers that hold a file system: compared, marked, held. strings.Builder: a byte and a text written. The library's iterator over a list of texts. slices.Values, and a builder's text. The specification's l3Split. The specification's l3Split, whole. The last name of a path: the specification's side. Joining names to a path: the specification's side. The program's JoinPath. -/
import Derived.Test.YtlacppjlclfpmaaGreatM03
import Derived.Test.YtlacppjlclfpmaaGreatM00
import Derived.Test.YtlacppjlclfpmaaGreatM01
import Derived.Test.YtlacppjlclfpmaaGreatM02
import Derived.Lib.Builder
import Derived.Lib.AppendStr
import Derived.Laws.Externs
import Derived.Lib.UnsafeStr
import Derived.Shelf.RegionOpenPlain
namespace Go.Proofs.YtlacppjlclfpmaaGreat
open Go.RowKit
set_option maxRecDepth 100000

set_option maxHeartbeats 1600000 in
theorem eqByts_walk (w : World) (a a' : Option Addr) (cap cap' n : Nat) (zss : List (List UInt8)) (hn : n ≤ maxLen) (hc : AtYs w a n zss) (hc' : AtYs w a' n zss) :
    Calls Tryz.prog 59 #[.slice a n cap, .slice a' n cap'] w fun e w' => e = .returned (.bool true) ∧ Below w.heap.size w w' := by
  unfold maxLen at hn
  have HC : Hid (AtYs w a n zss) := hc
  have HC' : Hid (AtYs w a' n zss) := hc'
  clear hc hc'
  go_enter Tryz.func59, Tryz.ntmps59
  go_wp2
  go_loopw [5] (fun i wr => ∃ j m : Nat, j ≤ n ∧ i = .int .i64 j ∧ wr = w.drewN m) (fun i _ => n - (intOf i).toNat)
  case atStart => exact ⟨0, 0, Nat.zero_le _, rfl, rfl⟩
  case round =>
    obtain ⟨j, m, hj, rfl, rfl⟩ := hrel
    by_cases hlt : j < n
    · obtain ⟨b, o, ua, uc, rfl, d0, i0⟩ := HC.out j hlt
      obtain ⟨b', o', ua', uc', rfl, d1, i1⟩ := HC'.out j hlt
      have HEQ : Hid (∀ q, Calls Tryz.prog 32 #[.slice ua (zss[j]?.getD []).length uc, .slice ua' (zss[j]?.getD []).length uc'] (w.drewN q) fun e w' => e = .returned (.bool true) ∧ ∃ m', w' = (w.drewN q).drewN m') := fun q => eqBytU (w := w.drewN q) (i0.later (below_drewN (Below.refl _ _) q)) (i1.later (below_drewN (Below.refl _ _) q))
      clear i0 i1 HC HC'
      generalize (zss[j]?.getD []).length = ln at *
      go_wp2_with fail
      go_quiet ((go_at_call 32; exact quiet_of2 (HEQ.out _)))
      go_wp2
      go_roundw
      case rel => exact ⟨j + 1, _, by omega, by go_num, rfl⟩
      case measure => simp [intOf]; omega
    · go_wp2
      go_ret
      exact ⟨rfl, below_drewN (Below.refl _ _) m⟩
theorem eqBytsU {w : World} {v v' : Value} {zss : List (List UInt8)} (h : Byts w v zss) (h' : Byts w v' zss) : Calls Tryz.prog 59 #[v, v'] w fun e w' => e = .returned (.bool true) ∧ Below w.heap.size w w' := by
  obtain ⟨a, cap, rfl, hm, hc⟩ := h.open'
  obtain ⟨a', cap', rfl, _, hc'⟩ := h'.open'
  exact eqByts_walk w a a' cap cap' _ zss hm.1 hc hc'

/-- File systems. -/
abbrev FD := List ID × List (List UInt8)
def FsR (w : World) (v1 v2 : Value) (d : FD) : Prop := Inos w v1 d.1 ∧ Byts w v2 d.2
theorem FsR.later {w w' : World} {v1 v2 : Value} {d : FD} (h : FsR w v1 v2 d) (hb : Below w.heap.size w w') : FsR w' v1 v2 d := ⟨h.1.later hb, h.2.later hb⟩
def FsU (w : World) (v1 v2 : Value) (d : FD) (F : Nat → Prop) : Prop := ∃ F1 G1 : Nat → Prop, InosO w v1 d.1 F1 ∧ BytsO w v2 d.2 G1 ∧ (∀ b, F1 b → ¬ G1 b) ∧ ∀ b, F1 b ∨ G1 b → F b
theorem FsU.reads {w : World} {v1 v2 : Value} {d : FD} {F : Nat → Prop} (h : FsU w v1 v2 d F) : FsR w v1 v2 d := by
  obtain ⟨_, _, h1, h2, _⟩ := h
  exact ⟨h1.reads, h2.reads⟩
theorem FsU.keep {w w' : World} {v1 v2 : Value} {d : FD} {F : Nat → Prop} (h : FsU w v1 v2 d F) (e : ∀ b, F b → b < w.heap.size → w'.heap[b]? = w.heap[b]?) : FsU w' v1 v2 d F := by
  obtain ⟨F1, G1, h1, h2, hd, hf⟩ := h
  exact ⟨F1, G1, h1.keep fun b hb => e b (hf b (Or.inl hb)), h2.keep fun b hb => e b (hf b (Or.inr hb)), hd, hf⟩
theorem FsU.later {w w' : World} {v1 v2 : Value} {d : FD} {F : Nat → Prop} (h : FsU w v1 v2 d F) (hb : Below w.heap.size w w') : FsU w' v1 v2 d F := h.keep fun b _ hlt => hb.block b hlt
theorem FsU.mono {w : World} {v1 v2 : Value} {d : FD} {F G : Nat → Prop} (h : FsU w v1 v2 d F) (e : ∀ b, F b → G b) : FsU w v1 v2 d G := by
  obtain ⟨F1, G1, h1, h2, hd, hf⟩ := h
  exact ⟨F1, G1, h1, h2, hd, fun b hb => e b (hf b hb)⟩
theorem FsU.chg {w w' : World} {v1 v2 : Value} {d : FD} {F G : Nat → Prop} (h : FsU w v1 v2 d F) (hc : Chg G w w') (hd : ∀ b, F b → ¬ G b) : FsU w' v1 v2 d F := h.keep fun b hb hlt => hc.block b hlt (hd b hb)
def sizeFs (d : FD) : Nat := sizeInos d.1 + sizeByts d.2
def spanFs (d : FD) : Nat := spanInos d.1 + (ylens d.2).sum
theorem spanFs_le (d : FD) : spanFs d ≤ 3 * sizeFs d := by
  have := spanInos_le d.1
  unfold spanFs sizeFs sizeByts
  omega

set_option maxHeartbeats 1600000 in
theorem eqFsU (w : World) (v1 v2 v1' v2' : Value) (d : FD) (h : FsR w v1 v2 d) (h' : FsR w v1' v2' d) :
    Calls Tryz.prog 34 #[.agg #[v1, v2], .agg #[v1', v2']] w fun e w' => e = .returned (.bool true) ∧ Below w.heap.size w w' := by
  obtain ⟨a1, c1, rfl, _⟩ := h.1.open'
  obtain ⟨a2, c2, rfl, _⟩ := h.2.open'
  obtain ⟨b1, k1, rfl, _⟩ := h'.1.open'
  obtain ⟨b2, k2, rfl, _⟩ := h'.2.open'
  have H1 : Hid (Inos w _ d.1) := h.1
  have H2 : Hid (Byts w _ d.2) := h.2
  have H1' : Hid (Inos w _ d.1) := h'.1
  have H2' : Hid (Byts w _ d.2) := h'.2
  clear h h'
  generalize d.1.length = m1 at *
  generalize d.2.length = m2 at *
  have HX : Hid (Bx ((w.alloc (.cells #[.slice a1 m1 c1, .slice a2 m2 c2] 27)).alloc (.cells #[.slice b1 m1 k1, .slice b2 m2 k2] 27)) w.heap.size [.slice a1 m1 c1, .slice a2 m2 c2]) := (Bx.new w [.slice a1 m1 c1, .slice a2 m2 c2] _).later (later1 _ _)
  have HY : Hid (Bx ((w.alloc (.cells #[.slice a1 m1 c1, .slice a2 m2 c2] 27)).alloc (.cells #[.slice b1 m1 k1, .slice b2 m2 k2] 27)) (w.heap.size + 1) [.slice b1 m1 k1, .slice b2 m2 k2]) := by
    have := Bx.new (w.alloc (.cells #[.slice a1 m1 c1, .slice a2 m2 c2] 27)) [.slice b1 m1 k1, .slice b2 m2 k2] 27
    rw [World.size_alloc] at this
    exact this
  go_enter Tryz.func34, Tryz.ntmps34
  go_wp2_with fail
  refine (eqInosU (H1.out.later (later2 _ _ _)) (H1'.out.later (later2 _ _ _))).mono ?_
  rintro e w1 ⟨rfl, hb1⟩
  have HB1 : Hid (Below w.heap.size w w1) := (later2 _ _ _).trans (hb1.mono (by simp; omega))
  have x1 := (HX.out.later hb1) 1 _ rfl
  have y1 := (HY.out.later hb1) 1 _ rfl
  clear hb1
  go_wp2_with fail
  refine (eqBytsU (H2.out.later HB1.out) (H2'.out.later HB1.out)).mono ?_
  rintro e w2 ⟨rfl, hb2⟩
  have HB2 : Hid (Below w.heap.size w w2) := HB1.out.trans (hb2.mono HB1.out.size)
  clear hb2
  go_wp2
  go_ret
  exact ⟨rfl, HB2.out⟩
end Go.Proofs.YtlacppjlclfpmaaGreat

namespace Go.Proofs.YtlacppjlclfpmaaGreat
open Go.RowKit
set_option maxRecDepth 100000

theorem InoU.bound {w : World} {v0 v1 v2 vB vE : Value} {d : ID} {F : Nat → Prop} (h : InoU w v0 v1 v2 vB vE d F) : InoU w v0 v1 v2 vB vE d (fun b => F b ∧ b < w.heap.size) := by
  obtain ⟨h0, F1, G1, h1, h2, hd, hf⟩ := h
  exact ⟨h0, _, _, h1.bound, h2.bound, fun b hb hb' => hd b hb.1 hb'.1, fun b hb => by
    rcases hb with hb | hb
    · exact ⟨hf b (Or.inl hb.1), hb.2⟩
    · exact ⟨hf b (Or.inr hb.1), hb.2⟩⟩
theorem InosO.bound {w : World} {v : Value} {ds : List ID} {F : Nat → Prop} (h : InosO w v ds F) : InosO w v ds (fun b => F b ∧ b < w.heap.size) := by
  rcases h with h | ⟨b, cap, u, G, hF, hG, hGG, h1, h2, h3, h4⟩
  · exact Or.inl h
  · exact Or.inr ⟨b, cap, u, fun i c => G i c ∧ c < w.heap.size, ⟨hF, h3.lt⟩, fun i c hc => ⟨⟨(hG i c hc.1).1, hc.2⟩, (hG i c hc.1).2⟩, fun i j c e hc hc' => hGG i j c e hc.1 hc'.1, h1, h2, h3, fun i hi => (h4 i hi).bound⟩
set_option maxHeartbeats 800000 in
theorem markFsU (w : World) (v1 v2 : Value) (d : FD) (F : Nat → Prop) (k : Int) (h : FsU w v1 v2 d F) (hk0 : 1 ≤ k) (hk : k + (spanFs d : Nat) ≤ 4294967296) :
    Calls Tryz.prog 38 #[.agg #[v1, v2], .int .i64 k] w fun e w' => e = .returned (.int .i64 (k + (spanFs d : Nat))) ∧ Chg F w w' := by
  obtain ⟨F1, G1, h1, h2, hd, hf⟩ := h
  have H1 : Hid (InosO w v1 d.1 F1) := h1
  have H2 : Hid (BytsO w v2 d.2 G1) := h2
  have HD : Hid (∀ b, F1 b → ¬ G1 b) := hd
  have HF : Hid (∀ b, F1 b ∨ G1 b → F b) := hf
  have HE : Hid (k + (spanFs d : Nat) = k + (spanInos d.1 : Nat) + ((ylens d.2).sum : Nat)) := by unfold Hid spanFs; omega
  have hk2 : k + (spanInos d.1 : Nat) + ((ylens d.2).sum : Nat) ≤ 4294967296 := by unfold spanFs at hk; omega
  rw [HE.out]
  clear h1 h2 hd hf hk HE
  go_enter Tryz.func38, Tryz.ntmps38
  go_wp2_with fail
  refine (markInosU k (H1.out.bound.keep fun b hb hlt => (later1 _ _).block b hlt) hk0 (by omega)).mono ?_
  rintro e w1 ⟨rfl, hc⟩
  have c1 : w1.cell? ⟨w.heap.size, 1, none⟩ = some v2 := by
    rw [World.cell?_of_block (w := w.alloc (.cells #[v1, v2] 27)) (box_later hc fun b hb => hb.2), new_cell]; rfl
  have HC : Hid (Chg (fun b => F1 b ∧ b < w.heap.size) (w.alloc (.cells #[v1, v2] 27)) w1) := hc
  have H2' : Hid (BytsO w1 v2 d.2 (fun b => G1 b ∧ b < w.heap.size)) := H2.out.bound.keep fun b hb hlt => (HC.out.block b (by simp; omega) (fun h => HD.out b h.1 hb.1)).trans ((later1 _ _).block b hlt)
  clear hc
  go_wp2_with fail
  refine (markBytsU _ H2'.out (by omega) (by omega)).mono ?_
  rintro e w2 ⟨rfl, hc2⟩
  have HC2 : Hid (Chg (fun b => G1 b ∧ b < w.heap.size) w1 w2) := hc2
  clear hc2
  go_wp2
  go_ret
  exact ⟨rfl, (Chg.of_below (later1 _ _)).trans ((HC.out.mono fun b hb => HF.out b (Or.inl hb.1)).trans (HC2.out.mono fun b hb => HF.out b (Or.inr hb.1)))⟩

/-- Answers that are a code and bytes. -/
def AnsYR (w : World) (r : Int × List UInt8) (e : Ending) (w' : World) : Prop := ∃ a n c, e = .returned (.agg #[.int .i64 r.1, .slice a n c]) ∧ Below w.heap.size w w' ∧ BytO w' (.slice a n c) r.2 (fresh w w')
/-- Bytes in memory that the call made since n₀. -/
def WdY (w : World) (n₀ : Nat) (v : Value) (zs : List UInt8) : Prop := w.ownsRow n₀ 5 1 v zs.length (zs.map byteV)
theorem WdY.later {w w' : World} {n₀ : Nat} {v : Value} {zs : List UInt8} (h : WdY w n₀ v zs) (hb : Below w.heap.size w w') : WdY w' n₀ v zs := ownsRow_later h hb
theorem WdY.shape {w : World} {n₀ : Nat} {v : Value} {zs : List UInt8} (h : WdY w n₀ v zs) : ∃ a c, v = .slice a zs.length c := ownsRow_shape h
theorem WdY.nil (w : World) (n₀ : Nat) : WdY w n₀ (.slice none 0 0) [] := ⟨by simp, Or.inl ⟨rfl, rfl⟩⟩
theorem WdY.lit0 (w : World) (n₀ : Nat) (h : n₀ ≤ w.heap.size) : WdY (w.alloc (.cells #[] 5)) n₀ (.slice (some ⟨w.heap.size, 0, none⟩) 0 0) [] := by
  have := World.ownsRow_lit (e := 5) (size := 1) w (#[] : Array Value) 0 h (by unfold maxLen; omega) (by simp)
  simpa [WdY] using this
theorem WdY.own {w w0 : World} {n₀ : Nat} {v : Value} {zs : List UInt8} (h : WdY w n₀ v zs) (hn : w0.heap.size ≤ n₀) : BytO w v zs (fresh w0 w) := by
  obtain ⟨hl, h | ⟨g, cap, cur, rfl, hb, hh, hnc, hcm, hcs, htake⟩⟩ := h
  · exact Or.inl ⟨List.eq_nil_of_length_eq_zero h.2, _, _, by rw [h.1]⟩
  · refine Or.inr ⟨g, cap, ⟨by omega, (Array.getElem?_eq_some_iff.1 hh).1⟩, rfl, ⟨by omega, hnc⟩, cur, 5, hh, by omega, fun i hi => ?_⟩
    rw [Nat.mul_one] at htake
    have h1 : (zs.map byteV)[i]? = cur[i]? := by rw [← htake, List.getElem?_take, if_pos hi, Array.getElem?_toList]
    rw [← h1, List.getElem?_map, List.getElem?_eq_getElem hi]
    simp [List.getElem?_eq_getElem hi, byteV]
theorem Tryz.infoByte' : ∃ i, Tryz.prog.info? 5 = some i ∧ i.zero = some (.int .u8 0) ∧ i.size = 1 ∧ i.bytes = 1 := by
  have h : (Tryz.prog.info? 5).map (fun i => (i.zero, i.size, i.bytes)) = some (some (.int .u8 0), 1, 1) := by kernel_rfl
  obtain ⟨i, hi, h⟩ := Option.map_eq_some_iff.1 h
  simp only [Prod.mk.injEq] at h
  exact ⟨i, hi, h.1, h.2.1, h.2.2⟩
theorem append_y (w : World) (n₀ : Nat) (v : Value) (zs ys : List UInt8) (a : Option Addr) (m c : Nat) (hrow : WdY w n₀ v zs) (hn₀ : n₀ ≤ w.heap.size) (hz : zs.length ≤ 16777216) (hy : ys.length ≤ 1048576) (hc : Byt w (.slice a m c) ys) :
    ∃ v' X, (Builtin.append_ #[22, 22] 22 #[v, .slice a m c]).run Tryz.prog w = .ok v' X ∧ WdY X n₀ v' (zs ++ ys) ∧ Below n₀ w X := by
  obtain ⟨i, hi, h1, h2, h3⟩ := Tryz.infoByte'
  obtain ⟨a', cap', e, hm, hat⟩ := hc
  simp only [Value.slice.injEq] at e
  obtain ⟨rfl, rfl, rfl⟩ := e
  by_cases ha : a = none
  · subst ha
    have h0 : ys = [] := by
      by_cases h : ys.length = 0
      · exact List.eq_nil_of_length_eq_zero h
      · obtain ⟨_, _, e, _⟩ := hat 0 (by omega); cases e
    subst h0
    refine ⟨v, w, ?_, by rw [List.append_nil]; exact hrow, Below.refl _ _⟩
    rcases hrow.2 with ⟨rfl, _⟩ | ⟨g, cap, cur, rfl, _, _, hnc, _⟩
    · simp [Builtin.append_, run_underlying Tryz.underlying22, sizeOf, typeInfo, hi, Builtin.lenOf, Builtin.firstCells]
    · simp [Builtin.append_, run_underlying Tryz.underlying22, sizeOf, typeInfo, hi, Builtin.lenOf, Builtin.firstCells, storeCells, hnc]
  · obtain ⟨ad, rfl⟩ := Option.ne_none_iff_exists'.1 ha
    obtain ⟨v', X, hr, ho, hg, _⟩ := run_append_own (P := Tryz.prog) w n₀ 22 22 5 i (.int .u8 0) 1 1 Tryz.underlying22 hi h1 h2 h3 rfl (by decide) _ zs.length _ hrow ad ys.length c (ys.map byteV)
      (by simp) (fun j u hu => by
        rw [List.getElem?_map, Option.map_eq_some_iff] at hu
        obtain ⟨z, hz1, rfl⟩ := hu
        have hj : j < ys.length := (List.getElem?_eq_some_iff.1 hz1).1
        obtain ⟨b, off, e, h⟩ := hat j hj
        simp only [Option.some.injEq] at e
        rw [e, add_plain', h, hz1]
        rfl) (fun u hu => by
        obtain ⟨z, _, rfl⟩ := List.mem_map.1 hu
        rfl) (by unfold maxLen; omega) (by omega) hn₀
    refine ⟨v', X, hr, ?_, below_grown hg hn₀ (fun k hk => (hrow.lt k hk).1)⟩
    unfold WdY
    rw [List.length_append, List.map_append]
    exact ho
end Go.Proofs.YtlacppjlclfpmaaGreat

namespace Go.Proofs.YtlacppjlclfpmaaGreat
open Go.RowKit
set_option maxRecDepth 100000

/-- An inode marked from N on. -/
def mkI (N : Nat) (d : ID) : ID := (((N : Nat) : Int), ((N : Nat) : Int) + 1, ((N : Nat) : Int) + 1 + 1, marks (((N : Nat) : Int) + 1 + 1 + 1) d.2.2.2.1.length, marksN (N + 3 + d.2.2.2.1.length) d.2.2.2.2.length)
def mkIns (k : Nat) (ds : List ID) : List ID := (List.range ds.length).map fun i => mkI (inum k ds i) (ds[i]?.getD id0)
theorem mkIns_length (k : Nat) (ds : List ID) : (mkIns k ds).length = ds.length := by simp [mkIns]
theorem mkIns_get (k : Nat) (ds : List ID) {i : Nat} (hi : i < ds.length) : (mkIns k ds)[i]?.getD id0 = mkI (inum k ds i) (ds[i]?.getD id0) := by
  unfold mkIns; rw [List.getElem?_map, List.getElem?_range hi]; rfl
theorem inum_next (k : Nat) (ds : List ID) (hk : k + spanInos ds ≤ 4294967296) (j : Nat) (hj : j < ds.length) : inum k ds j + 3 + (ds[j]?.getD id0).2.2.2.1.length + 2 * (ds[j]?.getD id0).2.2.2.2.length = inum k ds (j + 1) ∧ inum k ds (j + 1) ≤ 4294967296 := by
  have h1 := upto_succ (isp ds) j (by rw [isp_length]; omega)
  rw [isp_get ds j hj] at h1
  have h2 := upto_le (isp ds) (j + 1)
  have h3 : spanIno (ds[j]?.getD id0) = (ds[j]?.getD id0).2.2.2.1.length + 2 * (ds[j]?.getD id0).2.2.2.2.length := rfl
  have h4 : spanInos ds = (isp ds).sum := rfl
  unfold inum
  omega
theorem inum_all (k : Nat) (ds : List ID) : inum k ds ds.length = k + spanInos ds := by
  have := upto_all (isp ds)
  rw [isp_length] at this
  unfold inum spanInos
  rw [this]

set_option maxHeartbeats 3200000 in
theorem heldInos_walk (w : World) (a : Option Addr) (cap n k : Nat) (ds : List ID) (hn : ds.length = n) (hk0 : 1 ≤ k) (hk : k + spanInos ds ≤ 4294967296) (hn2 : n ≤ 9223372036854775807) (hc : AtI w a n (mkIns k ds)) :
    Calls Tryz.prog 67 #[.slice a n cap, .int .i64 (k : Int)] w fun e w' => e = .returned (.int .i64 ((k + spanInos ds : Nat) : Int)) ∧ Below w.heap.size w w' := by
  have HC : Hid (∀ j, j < n → ∃ b o, a = some ⟨b, o, none⟩ ∧ InoAt w b (o + j * 5) (mkI (inum k ds j) (ds[j]?.getD id0))) := fun j hj => by
    obtain ⟨b, o, e, h⟩ := hc j hj
    rw [mkIns_get k ds (by omega)] at h
    exact ⟨b, o, e, h⟩
  have HBD : Hid (∀ j, j < n → inum k ds j + 3 + (ds[j]?.getD id0).2.2.2.1.length + 2 * (ds[j]?.getD id0).2.2.2.2.length = inum k ds (j + 1) ∧ inum k ds (j + 1) ≤ 4294967296) := fun j hj => inum_next k ds hk j (by omega)
  have HE : Hid (inum k ds n = k + spanInos ds) := by unfold Hid; rw [← hn]; exact inum_all k ds
  have HI0 : Hid (inum k ds 0 = k) := by unfold Hid inum; rw [upto_zero, Nat.add_zero]
  have HK1 : Hid (∀ j, 1 ≤ inum k ds j) := fun j => by unfold inum; omega
  rw [← HE.out]
  clear hc hn hk HE
  generalize inum k ds = N at *
  go_enter Tryz.func67, Tryz.ntmps67
  go_wp2
  go_loopw [1, 5] (fun q i wr => ∃ j : Nat, j ≤ n ∧ i = .int .i64 j ∧ q = .int .i64 ((N j : Nat) : Int) ∧ Below w.heap.size w wr) (fun _ i _ => n - (intOf i).toNat)
  case atStart => exact ⟨0, Nat.zero_le _, rfl, by rw [HI0.out], Below.refl _ _⟩
  case round =>
    obtain ⟨j, hj, rfl, rfl, hbl⟩ := hrel
    have HBL : Hid (Below w.heap.size w wr) := hbl
    clear hbl
    by_cases hlt : j < n
    · obtain ⟨b, o, rfl, hI⟩ := HC.out j hlt
      obtain ⟨aB, cB, aE, cE, c0, c1, c2, c3, c4, h5⟩ := hI
      obtain ⟨hs, hle⟩ := HBD.out j hlt
      have hN1 := HK1.out j
      have HSN : Hid (N j + 3 + (ds[j]?.getD id0).2.2.2.1.length + 2 * (ds[j]?.getD id0).2.2.2.2.length = N (j + 1)) := hs
      have HI : Hid (Ints w (.slice aB (marks (((N j : Nat) : Int) + 1 + 1 + 1) (ds[j]?.getD id0).2.2.2.1.length).length cB) (marks (((N j : Nat) : Int) + 1 + 1 + 1) (ds[j]?.getD id0).2.2.2.1.length)) := h5.2.1
      have HEN : Hid (Ents w (.slice aE (marksN (N j + 3 + (ds[j]?.getD id0).2.2.2.1.length) (ds[j]?.getD id0).2.2.2.2.length).length cE) (marksN (N j + 3 + (ds[j]?.getD id0).2.2.2.1.length) (ds[j]?.getD id0).2.2.2.2.length)) := h5.2.2
      have g0 : wr.cell? ⟨b, o + j * 5, none⟩ = some (.int .i64 ((N j : Nat) : Int)) := cell_later HBL.out c0
      have g1 : wr.cell? ⟨b, o + j * 5 + 1, none⟩ = some (.int .i64 (((N j : Nat) : Int) + 1)) := cell_later HBL.out c1
      have g2 : wr.cell? ⟨b, o + j * 5 + 2, none⟩ = some (.int .i64 (((N j : Nat) : Int) + 1 + 1)) := cell_later HBL.out c2
      have g3 : wr.cell? ⟨b, o + j * 5 + 3, none⟩ = some (.slice aB (marks (((N j : Nat) : Int) + 1 + 1 + 1) (ds[j]?.getD id0).2.2.2.1.length).length cB) := cell_later HBL.out c3
      have g4 : w.cell? ⟨b, o + j * 5 + 4, none⟩ = some (.slice aE (marksN (N j + 3 + (ds[j]?.getD id0).2.2.2.1.length) (ds[j]?.getD id0).2.2.2.2.length).length cE) := c4
      clear h5 c0 c1 c2 c3 c4 hs
      generalize (ds[j]?.getD id0).2.2.2.1.length = lB at *
      generalize (ds[j]?.getD id0).2.2.2.2.length = lE at *
      have hx0 : (((N j : Nat) : Int) != ((N j : Nat) : Int)) = false := by simp
      have hx1 : (((N j : Nat) : Int) + 1 != ((N j : Nat) : Int) + 1) = false := by simp
      have hx2 : (((N j : Nat) : Int) + 1 + 1 != ((N j : Nat) : Int) + 1 + 1) = false := by simp
      have hNb : N j + 3 + lB + 2 * lE ≤ 4294967296 := by have := HSN.out; omega
      go_wp2_with fail
      refine (heldInts_any (((N j : Nat) : Int) + 1 + 1 + 1) lB (HI.out.later HBL.out) (by omega) (by omega)).mono ?_
      rintro e w1 ⟨rfl, hw1⟩
      have HB1 : Hid (Below w.heap.size w w1) := by first | (subst hw1; exact HBL.out) | exact HBL.out.trans (hw1.mono HBL.out.size)
      have hq : ((N j : Nat) : Int) + 1 + 1 + 1 + (lB : Int) = ((N j + 3 + lB : Nat) : Int) := by omega
      rw [hq]
      have g4' := cell_later HB1.out g4
      have hp : ¬ ((N j + 3 + lB : Nat) : Int) < 0 := by omega
      have hq1 : 1 ≤ N j + 3 + lB := by omega
      clear hq hw1 g0 g1 g2 g3
      generalize N j + 3 + lB = q at *
      go_wp2_with fail
      refine (heldEntsU q lE (HEN.out.later HB1.out) (by omega) (by omega)).mono ?_
      rintro e w2 ⟨rfl, hw2⟩
      have HB2 : Hid (Below w.heap.size w w2) := by first | (subst hw2; exact HB1.out) | exact HB1.out.trans (hw2.mono HB1.out.size)
      have HQ : Hid (((q + 2 * lE : Nat) : Int) = ((N (j + 1) : Nat) : Int)) := by unfold Hid; rw [HSN.out]
      have hp2 : ¬ ((q + 2 * lE : Nat) : Int) < 0 := by omega
      clear hw2 g4 g4'
      rw [HQ.out] at hp2 ⊢
      go_wp2
      go_roundw
      case rel => exact ⟨j + 1, by omega, by go_num, rfl, HB2.out⟩
      case measure => simp [intOf]; omega
    · have HJ : Hid (N j = N n) := by unfold Hid; rw [show j = n by omega]
      go_wp2
      go_ret
      exact ⟨ret_int (by rw [HJ.out]), HBL.out⟩

/-- The list of which the first j are marked. -/
def halfI (k : Nat) (ds : List ID) (j : Nat) : List ID := (List.range ds.length).map fun i => if i < j then mkI (inum k ds i) (ds[i]?.getD id0) else ds[i]?.getD id0
theorem halfI_length (k : Nat) (ds : List ID) (j : Nat) : (halfI k ds j).length = ds.length := by simp [halfI]
theorem halfI_get (k : Nat) (ds : List ID) (j : Nat) {i : Nat} (hi : i < ds.length) : (halfI k ds j)[i]?.getD id0 = if i < j then mkI (inum k ds i) (ds[i]?.getD id0) else ds[i]?.getD id0 := by
  unfold halfI; rw [List.getElem?_map, List.getElem?_range hi]; rfl
theorem halfI_zero (k : Nat) (ds : List ID) : halfI k ds 0 = ds := by
  apply List.ext_getElem?
  intro i
  unfold halfI
  rw [List.getElem?_map]
  by_cases hi : i < ds.length
  · rw [List.getElem?_range hi]; simp [List.getElem?_eq_getElem hi]
  · rw [List.getElem?_eq_none (by simpa using Nat.le_of_not_lt hi), List.getElem?_eq_none (by omega)]; rfl
theorem halfI_all (k : Nat) (ds : List ID) : halfI k ds ds.length = mkIns k ds := by
  unfold halfI mkIns
  apply List.map_congr_left
  intro i hi
  rw [if_pos (List.mem_range.1 hi)]
structure HalfM (w : World) (b n : Nat) (cs : List ID) (u : Nat → Value × Value) (F1 G1 : Nat → Nat → Prop) : Prop where
  row : OwnRow w b (n * 5) (inCell cs u)
  ints : ∀ i, i < n → IntsO w (u i).1 (cs[i]?.getD id0).2.2.2.1 (F1 i)
  ents : ∀ i, i < n → EntsO w (u i).2 (cs[i]?.getD id0).2.2.2.2 (G1 i)
/-- Three cells of one inode turned. -/
theorem inCell_three (cs cs' : List ID) (u : Nat → Value × Value) (j : Nat) (x0 x1 x2 : Int) (h0 : ∀ i, i ≠ j → (cs'[i]?.getD id0) = (cs[i]?.getD id0)) (e0 : (cs'[j]?.getD id0).1 = x0) (e1 : (cs'[j]?.getD id0).2.1 = x1) (e2 : (cs'[j]?.getD id0).2.2.1 = x2) (c : Nat) :
    (if c = j * 5 + 2 then .int .i64 x2 else if c = j * 5 + 1 then .int .i64 x1 else if c = j * 5 then .int .i64 x0 else inCell cs u c) = inCell cs' u c := by
  by_cases hj : c / 5 = j
  · unfold inCell
    rw [hj, e0, e1, e2]
    by_cases h0 : c % 5 = 0
    · rw [if_neg (by omega), if_neg (by omega), if_pos (by omega), if_pos h0]
    · by_cases h1 : c % 5 = 1
      · rw [if_neg (by omega), if_pos (by omega), if_neg h0, if_pos h1]
      · by_cases h2 : c % 5 = 2
        · rw [if_pos (by omega), if_neg h0, if_neg h1, if_pos h2]
        · rw [if_neg (by omega), if_neg (by omega), if_neg (by omega), if_neg h0, if_neg h1, if_neg h2, if_neg h0, if_neg h1, if_neg h2]
  · rw [if_neg (by omega), if_neg (by omega), if_neg (by omega)]
    unfold inCell
    rw [h0 _ hj]

set_option maxHeartbeats 6400000 in
theorem markInosM_walk (w : World) (b cap n k : Nat) (F : Nat → Prop) (ds : List ID) (u : Nat → Value × Value) (F1 G1 : Nat → Nat → Prop) (hF : F b) (hFF : ∀ i c, F1 i c → F c ∧ c ≠ b) (hGF : ∀ i c, G1 i c → F c ∧ c ≠ b) (hFG : ∀ i j c, F1 i c → ¬ G1 j c) (hFd : ∀ i j c, i ≠ j → F1 i c → ¬ F1 j c) (hGd : ∀ i j c, i ≠ j → G1 i c → ¬ G1 j c)
    (hn : ds.length = n) (hk0 : 1 ≤ k) (hk : k + spanInos ds ≤ 4294967296) (hn2 : n ≤ 9223372036854775807) (h0 : HalfM w b n ds u F1 G1) :
    Calls Tryz.prog 63 #[.slice (some ⟨b, 0, none⟩) n cap, .int .i64 (k : Int)] w fun e w' => e = .returned (.int .i64 ((k + spanInos ds : Nat) : Int)) ∧ HalfM w' b n (mkIns k ds) u F1 G1 ∧ Chg F w w' := by
  have H0 : Hid (HalfM w b n (halfI k ds 0) u F1 G1) := by unfold Hid; rw [halfI_zero]; exact h0
  have HF : Hid (F b) := hF
  have HFF : Hid (∀ i c, F1 i c → F c ∧ c ≠ b) := hFF
  have HGF : Hid (∀ i c, G1 i c → F c ∧ c ≠ b) := hGF
  have HFG : Hid (∀ i j c, F1 i c → ¬ G1 j c) := hFG
  have HFD : Hid (∀ i j c, i ≠ j → F1 i c → ¬ F1 j c) := hFd
  have HGD : Hid (∀ i j c, i ≠ j → G1 i c → ¬ G1 j c) := hGd
  have HBD : Hid (∀ j, j < n → inum k ds j + 3 + (ds[j]?.getD id0).2.2.2.1.length + 2 * (ds[j]?.getD id0).2.2.2.2.length = inum k ds (j + 1) ∧ inum k ds (j + 1) ≤ 4294967296) := fun j hj => inum_next k ds hk j (by omega)
  have HE : Hid (inum k ds n = k + spanInos ds) := by unfold Hid; rw [← hn]; exact inum_all k ds
  have HEL : Hid (halfI k ds n = mkIns k ds) := by unfold Hid; rw [← hn]; exact halfI_all k ds
  have HI0 : Hid (inum k ds 0 = k) := by unfold Hid inum; rw [upto_zero, Nat.add_zero]
  have HK1 : Hid (∀ j, 1 ≤ inum k ds j) := fun j => by unfold inum; omega
  have HGT : Hid (∀ j i, i < n → (halfI k ds j)[i]?.getD id0 = if i < j then mkI (inum k ds i) (ds[i]?.getD id0) else ds[i]?.getD id0) := fun j i hi => halfI_get k ds j (by omega)
  have HGO : Hid (∀ j i, i ≠ j → (halfI k ds (j + 1))[i]?.getD id0 = (halfI k ds j)[i]?.getD id0) := fun j i hij => by
    by_cases hi : i < ds.length
    · rw [halfI_get _ _ _ hi, halfI_get _ _ _ hi]
      by_cases e : i < j
      · rw [if_pos e, if_pos (by omega)]
      · rw [if_neg e, if_neg (by omega)]
    · rw [List.getElem?_eq_none (by rw [halfI_length]; omega), List.getElem?_eq_none (by rw [halfI_length]; omega)]
  rw [← HE.out, ← HEL.out]
  clear h0 hF hFF hGF hFG hFd hGd hn hk HE HEL
  generalize inum k ds = N at *
  generalize halfI k ds = CS at *
  go_enter Tryz.func63, Tryz.ntmps63
  go_wp2
  go_loopw [1, 5] (fun q i wr => ∃ j : Nat, j ≤ n ∧ i = .int .i64 j ∧ q = .int .i64 ((N j : Nat) : Int) ∧ HalfM wr b n (CS j) u F1 G1 ∧ Chg F w wr) (fun _ i _ => n - (intOf i).toNat)
  case atStart => exact ⟨0, Nat.zero_le _, rfl, by rw [HI0.out], H0.out, Chg.refl _ _⟩
  case round =>
    obtain ⟨j, hj, rfl, rfl, hh, hch⟩ := hrel
    have HH : Hid (HalfM wr b n (CS j) u F1 G1) := hh
    have HCH : Hid (Chg F w wr) := hch
    clear hh hch H0
    by_cases hlt : j < n
    · obtain ⟨hs, hle⟩ := HBD.out j hlt
      have hN1 := HK1.out j
      have hNb : N j + 3 ≤ 4294967296 := by omega
      have HSN : Hid (N j + 3 + (ds[j]?.getD id0).2.2.2.1.length + 2 * (ds[j]?.getD id0).2.2.2.2.length = N (j + 1)) := hs
      have hgj : (CS j)[j]?.getD id0 = ds[j]?.getD id0 := by rw [HGT.out j j hlt, if_neg (by omega)]
      have hgj' : (CS (j + 1))[j]?.getD id0 = mkI (N j) (ds[j]?.getD id0) := by rw [HGT.out (j + 1) j hlt, if_pos (by omega)]
      have HGJ : Hid ((CS (j + 1))[j]?.getD id0 = mkI (N j) (ds[j]?.getD id0)) := hgj'
      have hr := HH.out.row
      have c0 := hr.cell (i := j * 5) (by omega)
      have c1 := hr.cell (i := j * 5 + 1) (by omega)
      have c2 := hr.cell (i := j * 5 + 2) (by omega)
      have c3 := hr.cell (i := j * 5 + 3) (by omega)
      have c4 := hr.cell (i := j * 5 + 4) (by omega)
      rw [inCell_0] at c0
      rw [inCell_1] at c1
      rw [inCell_2] at c2
      rw [inCell_3] at c3
      rw [inCell_4] at c4
      have f0 := hr.frozen (j * 5)
      have f1 := hr.frozen (j * 5 + 1)
      have f2 := hr.frozen (j * 5 + 2)
      have hbw := hr.lt
      have HR3 : Hid (OwnRow (((wr.setCell ⟨b, j * 5, none⟩ (.int .i64 ((N j : Nat) : Int))).setCell ⟨b, j * 5 + 1, none⟩ (.int .i64 (((N j : Nat) : Int) + 1))).setCell ⟨b, j * 5 + 2, none⟩ (.int .i64 (((N j : Nat) : Int) + 1 + 1))) b (n * 5) (inCell (CS (j + 1)) u)) := by
        have := ((hr.set (j * 5) (.int .i64 ((N j : Nat) : Int))).set (j * 5 + 1) (.int .i64 (((N j : Nat) : Int) + 1))).set (j * 5 + 2) (.int .i64 (((N j : Nat) : Int) + 1 + 1))
        exact this.congr fun c _ => inCell_three (CS j) (CS (j + 1)) u j _ _ _ (HGO.out j) (by rw [hgj']; rfl) (by rw [hgj']; rfl) (by rw [hgj']; rfl) c
      have hset : ∀ c, c ≠ b → (((wr.setCell ⟨b, j * 5, none⟩ (.int .i64 ((N j : Nat) : Int))).setCell ⟨b, j * 5 + 1, none⟩ (.int .i64 (((N j : Nat) : Int) + 1))).setCell ⟨b, j * 5 + 2, none⟩ (.int .i64 (((N j : Nat) : Int) + 1 + 1))).heap[c]? = wr.heap[c]? := fun c hc => by
        rw [Below.heap_setCell _ _ _ _ hc, Below.heap_setCell _ _ _ _ hc, Below.heap_setCell _ _ _ _ hc]
      have HI3 : Hid (∀ i, i < n → IntsO (((wr.setCell ⟨b, j * 5, none⟩ (.int .i64 ((N j : Nat) : Int))).setCell ⟨b, j * 5 + 1, none⟩ (.int .i64 (((N j : Nat) : Int) + 1))).setCell ⟨b, j * 5 + 2, none⟩ (.int .i64 (((N j : Nat) : Int) + 1 + 1))) (u i).1 ((CS j)[i]?.getD id0).2.2.2.1 (F1 i)) := fun i hi => (HH.out.ints i hi).keep fun c hc _ => hset c (HFF.out i c hc).2
      have HE3 : Hid (∀ i, i < n → EntsO (((wr.setCell ⟨b, j * 5, none⟩ (.int .i64 ((N j : Nat) : Int))).setCell ⟨b, j * 5 + 1, none⟩ (.int .i64 (((N j : Nat) : Int) + 1))).setCell ⟨b, j * 5 + 2, none⟩ (.int .i64 (((N j : Nat) : Int) + 1 + 1))) (u i).2 ((CS j)[i]?.getD id0).2.2.2.2 (G1 i)) := fun i hi => (HH.out.ents i hi).keep fun c hc _ => hset c (HGF.out i c hc).2
      have HCH3 : Hid (Chg F w (((wr.setCell ⟨b, j * 5, none⟩ (.int .i64 ((N j : Nat) : Int))).setCell ⟨b, j * 5 + 1, none⟩ (.int .i64 (((N j : Nat) : Int) + 1))).setCell ⟨b, j * 5 + 2, none⟩ (.int .i64 (((N j : Nat) : Int) + 1 + 1)))) := ((HCH.out.set HF.out _ _).set HF.out _ _).set HF.out _ _
      have HIJ := HI3.out j hlt
      have HEJ := HE3.out j hlt
      rw [hgj] at HIJ HEJ c0 c1 c2
      obtain ⟨aB, cB, eB, _⟩ := HIJ.ints.shape
      obtain ⟨aE, cE, eE, _⟩ := HEJ.reads.open'
      have HEB : Hid ((u j).1 = .slice aB (ds[j]?.getD id0).2.2.2.1.length cB) := eB
      have HEE : Hid ((u j).2 = .slice aE (ds[j]?.getD id0).2.2.2.2.length cE) := eE
      rw [eB] at c3 HIJ
      rw [eE] at c4 HEJ
      have HIJ' : Hid (IntsO _ (.slice aB (ds[j]?.getD id0).2.2.2.1.length cB) (ds[j]?.getD id0).2.2.2.1 (F1 j)) := HIJ
      have HEJ' : Hid (EntsO _ (.slice aE (ds[j]?.getD id0).2.2.2.2.length cE) (ds[j]?.getD id0).2.2.2.2 (G1 j)) := HEJ
      clear HIJ HEJ eB eE hs hgj hgj' hset hr
      go_wp2_with fail
      clear c0 c1 c2 c3 c4 f0 f1 f2
      refine (markInts_any (((N j : Nat) : Int) + 1 + 1 + 1) HIJ'.out (by omega) (by have := HSN.out; omega)).mono ?_
      rintro e w1 ⟨rfl, hm1, hc1⟩
      have hr1 : OwnRow w1 b (n * 5) (inCell (CS (j + 1)) u) := HR3.out.block (hc1.block b HR3.out.lt (fun h => (HFF.out j b h).2 rfl))
      have c4 := hr1.cell (i := j * 5 + 4) (by omega)
      rw [inCell_4, HEE.out] at c4
      have HR1 : Hid (OwnRow w1 b (n * 5) (inCell (CS (j + 1)) u)) := hr1
      have HM1 : Hid (IntsO w1 (.slice aB (ds[j]?.getD id0).2.2.2.1.length cB) (marks (((N j : Nat) : Int) + 1 + 1 + 1) (ds[j]?.getD id0).2.2.2.1.length) (F1 j)) := hm1
      have HI1 : Hid (∀ i, i < n → i ≠ j → IntsO w1 (u i).1 ((CS j)[i]?.getD id0).2.2.2.1 (F1 i)) := fun i hi hij => (HI3.out i hi).keep fun c hc hl => hc1.block c hl (HFD.out i j c hij hc)
      have HE1 : Hid (∀ i, i < n → EntsO w1 (u i).2 ((CS j)[i]?.getD id0).2.2.2.2 (G1 i)) := fun i hi => (HE3.out i hi).keep fun c hc hl => hc1.block c hl (fun h => HFG.out j i c h hc)
      have HEJ1 : Hid (EntsO w1 (.slice aE (ds[j]?.getD id0).2.2.2.2.length cE) (ds[j]?.getD id0).2.2.2.2 (G1 j)) := HEJ'.out.keep fun c hc hl => hc1.block c hl (fun h => HFG.out j j c h hc)
      have HCH1 : Hid (Chg F w w1) := HCH3.out.trans (hc1.mono fun c hc => (HFF.out j c hc).1)
      have hq : ((N j : Nat) : Int) + 1 + 1 + 1 + ((ds[j]?.getD id0).2.2.2.1.length : Nat) = ((N j + 3 + (ds[j]?.getD id0).2.2.2.1.length : Nat) : Int) := by omega
      rw [hq]
      clear hq hm1 hc1 hr1 HI3 HE3 HCH3 HR3 HIJ' HEJ'
      go_wp2_with fail
      refine (markEntsU (N j + 3 + (ds[j]?.getD id0).2.2.2.1.length) HEJ1.out (by omega) (by have := HSN.out; omega)).mono ?_
      rintro e w2 ⟨rfl, hm2, hc2⟩
      have HQN : Hid (((N j + 3 + (ds[j]?.getD id0).2.2.2.1.length + 2 * (ds[j]?.getD id0).2.2.2.2.length : Nat) : Int) = ((N (j + 1) : Nat) : Int)) := by unfold Hid; rw [HSN.out]
      rw [HQN.out]
      have HH2 : Hid (HalfM w2 b n (CS (j + 1)) u F1 G1) := by
        refine ⟨HR1.out.block (hc2.block b HR1.out.lt (fun h => (HGF.out j b h).2 rfl)), fun i hi => ?_, fun i hi => ?_⟩
        · by_cases e : i = j
          · subst e
            rw [HGJ.out, HEB.out]
            exact HM1.out.keep fun c hc hl => hc2.block c hl (fun h => HFG.out i i c hc h)
          · rw [HGO.out j i e]
            exact (HI1.out i hi e).keep fun c hc hl => hc2.block c hl (fun h => HFG.out i j c hc h)
        · by_cases e : i = j
          · subst e
            rw [HGJ.out, HEE.out]
            exact hm2
          · rw [HGO.out j i e]
            exact (HE1.out i hi).keep fun c hc hl => hc2.block c hl (HGD.out i j c e hc)
      have HCH2 : Hid (Chg F w w2) := HCH1.out.trans (hc2.mono fun c hc => (HGF.out j c hc).1)
      clear hc2 hm2 c4 HR1 HM1 HI1 HE1 HEJ1 HCH1
      go_wp2
      go_roundw
      case rel => exact ⟨j + 1, by omega, by go_num, rfl, HH2.out, HCH2.out⟩
      case measure => simp [intOf]; omega
    · have HJ : Hid (j = n) := by unfold Hid; omega
      go_wp2
      go_ret
      exact ⟨ret_int (by rw [HJ.out]), by have := HH.out; rw [show CS j = CS n by rw [HJ.out]] at this; exact this, HCH.out⟩
end Go.Proofs.YtlacppjlclfpmaaGreat

namespace Go.Proofs.YtlacppjlclfpmaaGreat
open Go.RowKit
set_option maxRecDepth 100000

def ynum (k : Nat) (zss : List (List UInt8)) (j : Nat) : Nat := k + upto (ylens zss) j
def mkYs (k : Nat) (zss : List (List UInt8)) : List (List UInt8) := (List.range zss.length).map fun i => mkByt ((ynum k zss i : Nat) : Int) (zss[i]?.getD [])
theorem mkYs_length (k : Nat) (zss : List (List UInt8)) : (mkYs k zss).length = zss.length := by simp [mkYs]
theorem mkYs_get (k : Nat) (zss : List (List UInt8)) {i : Nat} (hi : i < zss.length) : (mkYs k zss)[i]?.getD [] = mkByt ((ynum k zss i : Nat) : Int) (zss[i]?.getD []) := by
  unfold mkYs; rw [List.getElem?_map, List.getElem?_range hi]; rfl
theorem ynum_next (k : Nat) (zss : List (List UInt8)) (j : Nat) (hj : j < zss.length) : ynum k zss (j + 1) = ynum k zss j + (zss[j]?.getD []).length ∧ ynum k zss (j + 1) ≤ k + (ylens zss).sum := by
  have h1 := upto_succ (ylens zss) j (by rw [ylens_length]; exact hj)
  rw [ylens_get] at h1
  have h2 := upto_le (ylens zss) (j + 1)
  unfold ynum
  omega
theorem ynum_all (k : Nat) (zss : List (List UInt8)) : ynum k zss zss.length = k + (ylens zss).sum := by
  have := upto_all (ylens zss)
  rw [ylens_length] at this
  unfold ynum
  rw [this]
set_option maxHeartbeats 800000 in
theorem heldByts_walk (w : World) (a : Option Addr) (cap n k : Nat) (zss : List (List UInt8)) (hn : zss.length = n) (hk : k + (ylens zss).sum ≤ 4294967296) (hn2 : n ≤ 9223372036854775807) (hc : AtYs w a n (mkYs k zss)) :
    Calls Tryz.prog 68 #[.slice a n cap, .int .i64 (k : Int)] w fun e w' => e = .returned (.int .i64 ((k + (ylens zss).sum : Nat) : Int)) ∧ Below w.heap.size w w' := by
  have HC : Hid (∀ j, j < n → ∃ b off ua uc, a = some ⟨b, off, none⟩ ∧ w.cell? ⟨b, off + j, none⟩ = some (.slice ua (zss[j]?.getD []).length uc) ∧ Byt w (.slice ua (zss[j]?.getD []).length uc) (mkByt ((ynum k zss j : Nat) : Int) (zss[j]?.getD []))) := fun j hj => by
    obtain ⟨b, o, ua, uc, e, h1, h2⟩ := hc j hj
    rw [mkYs_get k zss (by omega), mkByt_length] at h1 h2
    exact ⟨b, o, ua, uc, e, h1, h2⟩
  have HBD : Hid (∀ j, j < n → ynum k zss (j + 1) = ynum k zss j + (zss[j]?.getD []).length ∧ ynum k zss (j + 1) ≤ 4294967296) := fun j hj => by
    have := ynum_next k zss j (by omega)
    exact ⟨this.1, by omega⟩
  have HE : Hid (ynum k zss n = k + (ylens zss).sum) := by unfold Hid; rw [← hn]; exact ynum_all k zss
  have HI0 : Hid (ynum k zss 0 = k) := by unfold Hid ynum; rw [upto_zero, Nat.add_zero]
  rw [← HE.out]
  clear hc hn hk HE
  generalize ynum k zss = N at *
  go_enter Tryz.func68, Tryz.ntmps68
  go_wp2
  go_loopw [1, 5] (fun q i wr => ∃ j : Nat, j ≤ n ∧ i = .int .i64 j ∧ q = .int .i64 ((N j : Nat) : Int) ∧ Below w.heap.size w wr) (fun _ i _ => n - (intOf i).toNat)
  case atStart => exact ⟨0, Nat.zero_le _, rfl, by rw [HI0.out], Below.refl _ _⟩
  case round =>
    obtain ⟨j, hj, rfl, rfl, hbl⟩ := hrel
    have HBL : Hid (Below w.heap.size w wr) := hbl
    clear hbl
    by_cases hlt : j < n
    · obtain ⟨b, o, ua, uc, rfl, d0, hY⟩ := HC.out j hlt
      replace d0 := cell_later HBL.out d0
      obtain ⟨hs, hle⟩ := HBD.out j hlt
      have HY : Hid (Byt w (.slice ua (zss[j]?.getD []).length uc) (mkByt ((N j : Nat) : Int) (zss[j]?.getD []))) := hY
      have HS : Hid (((N j : Nat) : Int) + ((zss[j]?.getD []).length : Nat) = ((N (j + 1) : Nat) : Int)) := by unfold Hid; omega
      have hb : ((N j : Nat) : Int) + ((zss[j]?.getD []).length : Nat) ≤ 4611686018427387904 := by omega
      clear hY hs
      go_wp2_with fail
      refine (heldBytU ((N j : Nat) : Int) (HY.out.later HBL.out) (by omega) hb).mono ?_
      rintro e w1 ⟨rfl, hb1⟩
      have HB1 : Hid (Below w.heap.size w w1) := HBL.out.trans (hb1.mono HBL.out.size)
      rw [HS.out]
      have hp : ¬ ((N (j + 1) : Nat) : Int) < 0 := by omega
      clear hb1 d0 hb
      go_wp2
      go_roundw
      case rel => exact ⟨j + 1, by omega, by go_num, rfl, HB1.out⟩
      case measure => simp [intOf]; omega
    · have HJ : Hid (N j = N n) := by unfold Hid; rw [show j = n by omega]
      go_wp2
      go_ret
      exact ⟨ret_int (by rw [HJ.out]), HBL.out⟩

def halfY (k : Nat) (zss : List (List UInt8)) (j i : Nat) : List UInt8 := if i < j then mkByt ((ynum k zss i : Nat) : Int) (zss[i]?.getD []) else zss[i]?.getD []
set_option maxHeartbeats 1600000 in
theorem markBytsM_walk (w : World) (b cap n k : Nat) (F : Nat → Prop) (zss : List (List UInt8)) (u : Nat → Value) (G : Nat → Nat → Prop) (hG : ∀ i c, G i c → F c ∧ c ≠ b) (hGG : ∀ i j c, i ≠ j → G i c → ¬ G j c)
    (hn : zss.length = n) (hk : k + (ylens zss).sum ≤ 4294967296) (hn2 : n ≤ 9223372036854775807) (hr : OwnRow w b n u) (hu : ∀ i, i < n → BytO w (u i) (zss[i]?.getD []) (G i)) :
    Calls Tryz.prog 64 #[.slice (some ⟨b, 0, none⟩) n cap, .int .i64 (k : Int)] w fun e w' => e = .returned (.int .i64 ((k + (ylens zss).sum : Nat) : Int)) ∧ OwnRow w' b n u ∧ (∀ i, i < n → BytO w' (u i) ((mkYs k zss)[i]?.getD []) (G i)) ∧ Chg F w w' := by
  have HR : Hid (OwnRow w b n u) := hr
  have HU : Hid (∀ i, i < n → BytO w (u i) (halfY k zss 0 i) (G i)) := fun i hi => by unfold halfY; rw [if_neg (by omega)]; exact hu i hi
  have HG : Hid (∀ i c, G i c → F c ∧ c ≠ b) := hG
  have HGG : Hid (∀ i j c, i ≠ j → G i c → ¬ G j c) := hGG
  have HBD : Hid (∀ j, j < n → ynum k zss (j + 1) = ynum k zss j + (zss[j]?.getD []).length ∧ ynum k zss (j + 1) ≤ 4294967296) := fun j hj => by
    have := ynum_next k zss j (by omega)
    exact ⟨this.1, by omega⟩
  have HE : Hid (ynum k zss n = k + (ylens zss).sum) := by unfold Hid; rw [← hn]; exact ynum_all k zss
  have HI0 : Hid (ynum k zss 0 = k) := by unfold Hid ynum; rw [upto_zero, Nat.add_zero]
  have HHJ : Hid (∀ j, halfY k zss j j = zss[j]?.getD []) := fun j => by unfold halfY; rw [if_neg (by omega)]
  have HHN : Hid (∀ j, halfY k zss (j + 1) j = mkByt ((ynum k zss j : Nat) : Int) (zss[j]?.getD [])) := fun j => by unfold halfY; rw [if_pos (by omega)]
  have HHO : Hid (∀ j i, i ≠ j → halfY k zss (j + 1) i = halfY k zss j i) := fun j i e => by
    unfold halfY
    by_cases e2 : i < j
    · rw [if_pos e2, if_pos (by omega)]
    · rw [if_neg e2, if_neg (by omega)]
  have HHA : Hid (∀ i, i < n → halfY k zss n i = (mkYs k zss)[i]?.getD []) := fun i hi => by rw [mkYs_get k zss (by omega)]; unfold halfY; rw [if_pos hi]
  rw [← HE.out]
  clear hr hu hG hGG hn hk HE
  generalize ynum k zss = N at *
  generalize halfY k zss = HY at *
  go_enter Tryz.func64, Tryz.ntmps64
  go_wp2
  go_loopw [1, 5] (fun q i wr => ∃ j : Nat, j ≤ n ∧ i = .int .i64 j ∧ q = .int .i64 ((N j : Nat) : Int) ∧ OwnRow wr b n u ∧ (∀ i, i < n → BytO wr (u i) (HY j i) (G i)) ∧ Chg F w wr) (fun _ i _ => n - (intOf i).toNat)
  case atStart => exact ⟨0, Nat.zero_le _, rfl, by rw [HI0.out], HR.out, HU.out, Chg.refl _ _⟩
  case round =>
    obtain ⟨j, hj, rfl, rfl, hrow, hin, hch⟩ := hrel
    have HROW : Hid (OwnRow wr b n u) := hrow
    have HIN : Hid (∀ i, i < n → BytO wr (u i) (HY j i) (G i)) := hin
    have HCH : Hid (Chg F w wr) := hch
    by_cases hlt : j < n
    · have c1 := hrow.cell hlt
      clear hrow hin hch HU HR
      obtain ⟨hs, hle⟩ := HBD.out j hlt
      have HS : Hid (((N j : Nat) : Int) + ((zss[j]?.getD []).length : Nat) = ((N (j + 1) : Nat) : Int)) := by unfold Hid; omega
      have HIJ : Hid (BytO wr (u j) (zss[j]?.getD []) (G j)) := by have := HIN.out j hlt; rw [HHJ.out j] at this; exact this
      have hb : ((N j : Nat) : Int) + ((zss[j]?.getD []).length : Nat) ≤ 4611686018427387904 := by omega
      clear hs
      go_wp2_with fail
      refine (markBytU ((N j : Nat) : Int) HIJ.out (by omega) hb).mono ?_
      rintro e w' ⟨rfl, hm, hc⟩
      have HM : Hid (BytO w' (u j) (mkByt ((N j : Nat) : Int) (zss[j]?.getD [])) (G j)) := hm
      have HC : Hid (Chg (G j) wr w') := hc
      rw [HS.out]
      clear hm hc hb
      go_wp2
      go_roundw
      case rel =>
        refine ⟨j + 1, by omega, by go_num, rfl, HROW.out.block (HC.out.block b HROW.out.lt (fun h => (HG.out j b h).2 rfl)), fun i hi => ?_, HCH.out.trans (HC.out.mono fun c hc => (HG.out j c hc).1)⟩
        by_cases e : i = j
        · subst e
          rw [HHN.out]; exact HM.out
        · rw [HHO.out j i e]
          exact (HIN.out i hi).keep (w' := w') fun c hc hlt => HC.out.block c hlt (HGG.out i j c e hc)
      case measure => simp [intOf]; omega
    · have HJ : Hid (j = n) := by unfold Hid; omega
      clear hrow hin hch
      go_wp2
      go_ret
      exact ⟨ret_int (by rw [HJ.out]), HROW.out, fun i hi => by have := HIN.out i hi; rw [HJ.out, HHA.out i hi] at this; exact this, HCH.out⟩
theorem markBytsM {w : World} {v : Value} {zss : List (List UInt8)} {F : Nat → Prop} (k : Nat) (h : BytsO w v zss F) (hk : k + (ylens zss).sum ≤ 4294967296) :
    Calls Tryz.prog 64 #[v, .int .i64 (k : Int)] w fun e w' => e = .returned (.int .i64 ((k + (ylens zss).sum : Nat) : Int)) ∧ BytsO w' v (mkYs k zss) F ∧ Chg F w w' := by
  rcases h with ⟨rfl, a, cap, rfl⟩ | ⟨b, cap, u, G, hF, hG, hGG, rfl, hl, hr, hu⟩
  · exact (markByts_nil w a cap _).mono fun e w' ⟨he, hw⟩ => ⟨by rw [he]; simp [ylens], Or.inl ⟨rfl, _, _, rfl⟩, hw ▸ Chg.refl _ _⟩
  · refine (markBytsM_walk w b cap zss.length k F zss u G hG hGG rfl hk (by have := hl.1; unfold maxLen at this; omega) hr hu).mono fun e w' ⟨he, h1, h2, hc⟩ => ⟨he, Or.inr ⟨b, cap, u, G, hF, hG, hGG, by rw [mkYs_length], by rw [mkYs_length]; exact hl, by rw [mkYs_length]; exact h1, by rw [mkYs_length]; exact h2⟩, hc⟩
theorem heldBytsM {w : World} {v : Value} (k : Nat) (zss : List (List UInt8)) (h : Byts w v (mkYs k zss)) (hk : k + (ylens zss).sum ≤ 4294967296) :
    Calls Tryz.prog 68 #[v, .int .i64 (k : Int)] w fun e w' => e = .returned (.int .i64 ((k + (ylens zss).sum : Nat) : Int)) ∧ Below w.heap.size w w' := by
  obtain ⟨a, cap, rfl, hm, hc⟩ := h.open'
  rw [mkYs_length] at hm hc ⊢
  exact heldByts_walk w a cap zss.length k zss rfl hk (by have := hm.1; unfold maxLen at this; omega) hc
end Go.Proofs.YtlacppjlclfpmaaGreat

namespace Go.Proofs.YtlacppjlclfpmaaGreat
open Go.RowKit
set_option maxRecDepth 100000

open Classical in
theorem pickQ {α : Type} [Inhabited α] {n : Nat} {P : Nat → α → Prop} (h : ∀ i, i < n → ∃ q, P i q) : ∃ f : Nat → α, ∀ i, i < n → P i (f i) :=
  ⟨fun i => if hi : i < n then Classical.choose (h i hi) else default, fun i hi => by dsimp only; rw [dif_pos hi]; exact Classical.choose_spec (h i hi)⟩
def mkFs (k : Int) (d : FD) : FD := (mkIns k.toNat d.1, mkYs (k.toNat + spanInos d.1) d.2)
theorem markInosM {w : World} {v : Value} {ds : List ID} {F : Nat → Prop} (k : Nat) (h : InosO w v ds F) (hk0 : 1 ≤ k) (hk : k + spanInos ds ≤ 4294967296) :
    Calls Tryz.prog 63 #[v, .int .i64 (k : Int)] w fun e w' => e = .returned (.int .i64 ((k + spanInos ds : Nat) : Int)) ∧ InosO w' v (mkIns k ds) F ∧ Chg F w w' := by
  rcases h with ⟨rfl, a, cap, rfl⟩ | ⟨b, cap, u, G, hF, hG, hGG, rfl, hl, hr, hu⟩
  · exact (markInos_nil w a cap _).mono fun e w' ⟨he, hw⟩ => ⟨by rw [he]; simp [spanInos, isp], Or.inl ⟨rfl, _, _, rfl⟩, hw ▸ Chg.refl _ _⟩
  · have hch : ∀ i, i < ds.length → ∃ q : (Nat → Prop) × (Nat → Prop), IntsO w (u i).1 (ds[i]?.getD id0).2.2.2.1 q.1 ∧ EntsO w (u i).2 (ds[i]?.getD id0).2.2.2.2 q.2 ∧ (∀ c, q.1 c → ¬ q.2 c) ∧ ∀ c, q.1 c ∨ q.2 c → G i c := fun i hi => by
      obtain ⟨_, F1, G1, h1, h2, h3, h4⟩ := hu i hi
      exact ⟨(F1, G1), h1, h2, h3, h4⟩
    obtain ⟨Q, hQ⟩ := pickQ hch
    have hcapu : ∀ i, i < ds.length → capOK (u i).1 := fun i hi => (hu i hi).1.2.2.2
    refine (markInosM_walk w b cap ds.length k F ds u (fun i c => i < ds.length ∧ (Q i).1 c) (fun i c => i < ds.length ∧ (Q i).2 c) hF (fun i c hc => hG i c ((hQ i hc.1).2.2.2 c (Or.inl hc.2))) (fun i c hc => hG i c ((hQ i hc.1).2.2.2 c (Or.inr hc.2))) (fun i j c hc hc' => ?_) (fun i j c e hc hc' => hGG i j c e ((hQ i hc.1).2.2.2 c (Or.inl hc.2)) ((hQ j hc'.1).2.2.2 c (Or.inl hc'.2))) (fun i j c e hc hc' => hGG i j c e ((hQ i hc.1).2.2.2 c (Or.inr hc.2)) ((hQ j hc'.1).2.2.2 c (Or.inr hc'.2))) rfl hk0 hk (by have := hl.1; unfold maxLen at this; omega)
      ⟨hr, fun i hi => (hQ i hi).1.mono fun c hc => ⟨hi, hc⟩, fun i hi => (hQ i hi).2.1.mono fun c hc => ⟨hi, hc⟩⟩).mono fun e w' ⟨he, hm, hc⟩ => ⟨he, Or.inr ⟨b, cap, u, G, hF, hG, hGG, by rw [mkIns_length], by rw [mkIns_length]; exact hl, by rw [mkIns_length]; exact hm.row, fun i hi => ?_⟩, hc⟩
    · by_cases e : i = j
      · subst e; exact (hQ i hc.1).2.2.1 c hc.2 hc'.2
      · exact hGG i j c e ((hQ i hc.1).2.2.2 c (Or.inl hc.2)) ((hQ j hc'.1).2.2.2 c (Or.inr hc'.2))
    · rw [mkIns_length] at hi
      exact ⟨⟨rfl, rfl, rfl, hcapu i hi⟩, _, _, hm.ints i hi, hm.ents i hi, fun c hc hc' => (hQ i hi).2.2.1 c hc.2 hc'.2, fun c hc => (hQ i hi).2.2.2 c (hc.imp (·.2) (·.2))⟩
theorem heldInosM {w : World} {v : Value} (k : Nat) (ds : List ID) (h : Inos w v (mkIns k ds)) (hk0 : 1 ≤ k) (hk : k + spanInos ds ≤ 4294967296) :
    Calls Tryz.prog 67 #[v, .int .i64 (k : Int)] w fun e w' => e = .returned (.int .i64 ((k + spanInos ds : Nat) : Int)) ∧ Below w.heap.size w w' := by
  obtain ⟨a, cap, rfl, hm, hc⟩ := h.open'
  rw [mkIns_length] at hm hc ⊢
  exact heldInos_walk w a cap ds.length k ds rfl hk0 hk (by have := hm.1; unfold maxLen at this; omega) hc

set_option maxHeartbeats 800000 in
theorem markFsM (w : World) (v1 v2 : Value) (d : FD) (F : Nat → Prop) (k : Int) (h : FsU w v1 v2 d F) (hk0 : 1 ≤ k) (hk : k + (spanFs d : Nat) ≤ 4294967296) :
    Calls Tryz.prog 38 #[.agg #[v1, v2], .int .i64 k] w fun e w' => e = .returned (.int .i64 (k + (spanFs d : Nat))) ∧ FsU w' v1 v2 (mkFs k d) F ∧ Chg F w w' := by
  obtain ⟨q, rfl⟩ := Int.eq_ofNat_of_zero_le (a := k) (by omega)
  obtain ⟨F1, G1, h1, h2, hd, hf⟩ := h
  have H1 : Hid (InosO w v1 d.1 F1) := h1
  have H2 : Hid (BytsO w v2 d.2 G1) := h2
  have HD : Hid (∀ b, F1 b → ¬ G1 b) := hd
  have HF : Hid (∀ b, F1 b ∨ G1 b → F b) := hf
  have HE : Hid (((q : Nat) : Int) + (spanFs d : Nat) = ((q + spanInos d.1 + (ylens d.2).sum : Nat) : Int)) := by unfold Hid spanFs; omega
  have HMK : Hid (mkFs ((q : Nat) : Int) d = (mkIns q d.1, mkYs (q + spanInos d.1) d.2)) := by unfold Hid mkFs; simp
  have hk2 : q + spanInos d.1 + (ylens d.2).sum ≤ 4294967296 := by unfold spanFs at hk; omega
  rw [HE.out, HMK.out]
  clear h1 h2 hd hf hk HE HMK
  go_enter Tryz.func38, Tryz.ntmps38
  go_wp2_with fail
  refine (markInosM q (H1.out.bound.keep fun b hb hlt => (later1 _ _).block b hlt) (by omega) (by omega)).mono ?_
  rintro e w1 ⟨rfl, hm, hc⟩
  have c1 : w1.cell? ⟨w.heap.size, 1, none⟩ = some v2 := by
    rw [World.cell?_of_block (w := w.alloc (.cells #[v1, v2] 27)) (box_later hc fun b hb => hb.2), new_cell]; rfl
  have HM : Hid (InosO w1 v1 (mkIns q d.1) (fun b => F1 b ∧ b < w.heap.size)) := hm
  have HC : Hid (Chg (fun b => F1 b ∧ b < w.heap.size) (w.alloc (.cells #[v1, v2] 27)) w1) := hc
  have H2' : Hid (BytsO w1 v2 d.2 (fun b => G1 b ∧ b < w.heap.size)) := H2.out.bound.keep fun b hb hlt => (HC.out.block b (by simp; omega) (fun h => HD.out b h.1 hb.1)).trans ((later1 _ _).block b hlt)
  clear hc hm
  go_wp2_with fail
  refine (markBytsM _ H2'.out (by omega)).mono ?_
  rintro e w2 ⟨rfl, hm2, hc2⟩
  have HM2 : Hid (BytsO w2 v2 (mkYs (q + spanInos d.1) d.2) (fun b => G1 b ∧ b < w.heap.size)) := hm2
  have HC2 : Hid (Chg (fun b => G1 b ∧ b < w.heap.size) w1 w2) := hc2
  clear hc2 hm2
  go_wp2
  go_ret
  exact ⟨rfl, ⟨_, _, HM.out.keep fun b hb hlt => HC2.out.block b hlt (fun h => HD.out b hb.1 h.1), HM2.out, fun b hb hb' => HD.out b hb.1 hb'.1, fun b hb => HF.out b (hb.imp (·.1) (·.1))⟩, (Chg.of_below (later1 _ _)).trans ((HC.out.mono fun b hb => HF.out b (Or.inl hb.1)).trans (HC2.out.mono fun b hb => HF.out b (Or.inr hb.1)))⟩
set_option maxHeartbeats 800000 in
theorem heldFsM (w : World) (v1 v2 : Value) (d : FD) (k : Int) (h : FsR w v1 v2 (mkFs k d)) (hk0 : 1 ≤ k) (hk : k + (spanFs d : Nat) ≤ 4294967296) :
    Calls Tryz.prog 42 #[.agg #[v1, v2], .int .i64 k] w fun e w' => e = .returned (.int .i64 (k + (spanFs d : Nat))) ∧ Below w.heap.size w w' := by
  obtain ⟨q, rfl⟩ := Int.eq_ofNat_of_zero_le (a := k) (by omega)
  have HMK : Hid (mkFs ((q : Nat) : Int) d = (mkIns q d.1, mkYs (q + spanInos d.1) d.2)) := by unfold Hid mkFs; simp
  rw [HMK.out] at h
  have H1 : Hid (Inos w v1 (mkIns q d.1)) := h.1
  have H2 : Hid (Byts w v2 (mkYs (q + spanInos d.1) d.2)) := h.2
  have HE : Hid (((q : Nat) : Int) + (spanFs d : Nat) = ((q + spanInos d.1 + (ylens d.2).sum : Nat) : Int)) := by unfold Hid spanFs; omega
  have hk2 : q + spanInos d.1 + (ylens d.2).sum ≤ 4294967296 := by unfold spanFs at hk; omega
  have HX : Hid (Bx (w.alloc (.cells #[v1, v2] 27)) w.heap.size [v1, v2]) := Bx.new w [v1, v2] _
  rw [HE.out]
  clear h hk HE HMK
  go_enter Tryz.func42, Tryz.ntmps42
  go_wp2_with fail
  refine (heldInosM q d.1 (H1.out.later (later1 _ _)) (by omega) (by omega)).mono ?_
  rintro e w1 ⟨rfl, hb1⟩
  have HB1 : Hid (Below w.heap.size w w1) := (later1 _ _).trans (hb1.mono (by simp))
  have x1 := (HX.out.later hb1) 1 _ rfl
  have hp : ¬ ((q + spanInos d.1 : Nat) : Int) < 0 := by omega
  clear hb1
  go_wp2_with fail
  refine (heldBytsM (q + spanInos d.1) d.2 (H2.out.later HB1.out) (by omega)).mono ?_
  rintro e w2 ⟨rfl, hb2⟩
  have HB2 : Hid (Below w.heap.size w w2) := HB1.out.trans (hb2.mono HB1.out.size)
  have hp2 : ¬ ((q + spanInos d.1 + (ylens d.2).sum : Nat) : Int) < 0 := by omega
  clear hb2 x1
  go_wp2
  go_ret
  exact ⟨rfl, HB2.out⟩

/-- Answers that are a code and a file system. -/
def AnsFR (w : World) (r : Int × FD) (e : Ending) (w' : World) : Prop := ∃ a1 n1 c1 a2 n2 c2, e = .returned (.agg #[.int .i64 r.1, .slice a1 n1 c1, .slice a2 n2 c2]) ∧ Below w.heap.size w w' ∧ FsU w' (.slice a1 n1 c1) (.slice a2 n2 c2) r.2 (fresh w w')
end Go.Proofs.YtlacppjlclfpmaaGreat

namespace Go.Proofs.YtlacppjlclfpmaaGreat
open Go.RowKit
set_option maxRecDepth 100000

theorem Tryz.infoByte : (Tryz.prog.info? 5).map (fun i => (i.zero, i.size, i.bytes)) = some (some (.int .u8 0), 1, 1) := by kernel_rfl
end Go.Proofs.YtlacppjlclfpmaaGreat

namespace Go.Proofs.YtlacppjlclfpmaaGreat
open Go.RowKit
set_option maxRecDepth 100000

theorem Tryz.cellsByte : Tryz.prog.cellsOf 5 = 1 := by kernel_rfl
end Go.Proofs.YtlacppjlclfpmaaGreat

namespace Go.Proofs.YtlacppjlclfpmaaGreat
open Go.RowKit
set_option maxRecDepth 100000

theorem sufB_at {l : List UInt8} {m : Nat} (h : l.length = m + 1) : sufB l = (l[m]?.getD 0 == 47) := by
  unfold sufB
  rw [List.getLast?_eq_getElem?, h, Nat.add_sub_cancel, List.getElem?_eq_getElem (by omega)]
  rfl
theorem preB_at {l : List UInt8} (h : 0 < l.length) : preB l = (l[0]?.getD 0 == 47) := by
  cases l with
  | nil => simp at h
  | cons b t => rfl
theorem byte_eq (b : UInt8) : ((b.toNat : Int) == 47) = (b == 47) := by
  by_cases h : b = 47
  · subst h; rfl
  · have hne : b.toNat ≠ 47 := fun e => h (UInt8.toNat_inj.1 (by rw [e]; rfl))
    have h1 : (b == 47) = false := by simpa using h
    rw [h1]
    simp; omega
theorem namesL_cut {p : List UInt8} (h0 : topB p = false) (hp : 0 < p.length) : namesL p = cutB (p.drop 1) := by
  unfold namesL
  rw [if_neg (by simpa [topB] using h0)]
  cases p with
  | nil => simp at hp
  | cons b t => rfl
/-- Where the specification's split sees a fault of the path's form. -/
def formBad (p : List UInt8) : Prop := p.length = 0 ∨ ¬ p[0]?.getD 0 = 47 ∨ p[p.length - 1]?.getD 0 = 47
theorem pathF_form {p : List UInt8} (h30 : ¬ 30 < p.length) (ht : topB p = false) (hb : formBad p) : pathF p = 5 := by
  unfold pathF
  rw [if_neg h30]
  rcases Nat.eq_zero_or_pos p.length with h0 | h0
  · have : p = [] := List.length_eq_zero_iff.1 h0
    subst this; rfl
  · rcases hb with hb | hb | hb
    · omega
    · rw [preB_at h0, if_neg (by simpa using hb)]
    · have hs : sufB p = true := by rw [sufB_at (m := p.length - 1) (by omega), hb]; rfl
      split
      · rw [if_pos ⟨hs, ht⟩]
      · rfl
theorem pathF_good {p : List UInt8} (h30 : ¬ 30 < p.length) (ht : topB p = false) (hb : ¬ formBad p) : pathF p = namesC (cutB (p.drop 1)) := by
  unfold formBad at hb
  have h0 : 0 < p.length := by omega
  have h1 : p[0]?.getD 0 = 47 := by
    by_cases e : p[0]?.getD 0 = 47
    · exact e
    · exact absurd (Or.inr (Or.inl e)) hb
  have h2 : ¬ p[p.length - 1]?.getD 0 = 47 := fun e => hb (Or.inr (Or.inr e))
  unfold pathF namesC
  have hs : sufB p = false := by rw [sufB_at (m := p.length - 1) (by omega)]; simpa using h2
  have hq : preB p = true := by rw [preB_at h0, h1]; rfl
  rw [if_neg h30, if_pos hq, if_neg (by rw [hs]; simp), namesL_cut ht h0]

end Go.Proofs.YtlacppjlclfpmaaGreat

namespace Go.Proofs.YtlacppjlclfpmaaGreat
open Go.RowKit
set_option maxRecDepth 100000

theorem cutB_mem (t : List UInt8) (k : Nat) : ((cutB t)[k]?.getD []).length ≤ t.length := by
  induction t generalizing k with
  | nil => cases k <;> simp [cutB]
  | cons b l ih =>
    simp only [cutB]
    split
    · cases k with
      | zero => simp
      | succ k => have := ih k; simp at this ⊢; omega
    · cases h : cutB l with
      | nil => cases k <;> simp [cutHead]
      | cons x y =>
        have h1 := ih k
        rw [h] at h1
        cases k with
        | zero => simp [cutHead] at h1 ⊢; omega
        | succ k => simp [cutHead] at h1 ⊢; omega

end Go.Proofs.YtlacppjlclfpmaaGreat

namespace Go.Proofs.YtlacppjlclfpmaaGreat
open Go.RowKit
set_option maxRecDepth 100000

def lastC (p : List UInt8) : Int := if pathF p = 0 then (if (namesL p).length = 0 then 4 else 0) else pathF p
def lastT (p : List UInt8) : List UInt8 := if pathF p = 0 then (namesL p)[(namesL p).length - 1]?.getD [] else []

theorem ownsRow_cap {w : World} {B : Nat} {e : TypeId} {a : Option Addr} {n m c : Nat} {xs : List Value} (h : w.ownsRow B e 1 (.slice a n c) m xs) : n ≤ c := by
  rcases h.2 with ⟨h1, _⟩ | ⟨g, cap, cur, h1, _, _, h2, _⟩ <;> simp only [Value.slice.injEq] at h1 <;> omega
theorem slice_takeT (a : Option Addr) (n c j : Nat) (hj : j ≤ c) :
    ∃ A C, (∀ W : World, (Instr.slice 23 (.slice a n c) none (some (.int .i64 (j : Int))) none).run Tryz.prog W = .ok (.slice A j C) W) ∧ ∀ (W : World) (xs : List (List UInt8)), j ≤ n → AtT W a n xs → AtT W A j xs := by
  obtain ⟨i, hi, _⟩ := info_parts Tryz.infoStr
  refine ⟨if c = 0 then a else a.map (·.add (0 * 1)), c - 0, fun W => ?_, fun W xs hjn h => ?_⟩
  · simp [Instr.slice, Instr.sliceBounds, Instr.sliceBound, asIntOf, run_underlying Tryz.underlying23, sizeOf, typeInfo, hi, hj]
  · by_cases hc : c = 0
    · intro k hk; omega
    · rw [if_neg hc]
      intro k hk
      obtain ⟨b, off, e, r⟩ := h k (by omega)
      subst e
      exact ⟨b, off, by simp [Addr.add], r⟩

end Go.Proofs.YtlacppjlclfpmaaGreat

namespace Go.Proofs.YtlacppjlclfpmaaGreat
open Go.RowKit
set_option maxRecDepth 100000

def joinL (xs : List (List UInt8)) : List UInt8 := xs.flatMap (47 :: ·)
def joinT (xs : List (List UInt8)) : List UInt8 := if joinL xs = [] then [47] else joinL xs
theorem joinL_step {xs : List (List UInt8)} {j : Nat} (h : j < xs.length) : joinL (xs.take (j + 1)) = joinL (xs.take j) ++ (47 :: xs[j]?.getD []) := by
  unfold joinL
  rw [List.take_add_one, List.flatMap_append, List.getElem?_eq_getElem h]
  simp
theorem joinL_len {xs : List (List UInt8)} {j B : Nat} (h : ∀ k : Nat, (xs[k]?.getD []).length ≤ B) (hj : j ≤ xs.length) : (joinL (xs.take j)).length ≤ j * (B + 1) := by
  induction j with
  | zero => simp [joinL]
  | succ j ih =>
    rw [joinL_step (by omega), List.length_append, List.length_cons, Nat.succ_mul]
    have := ih (by omega)
    have := h j
    omega

end Go.Proofs.YtlacppjlclfpmaaGreat

namespace Go.Proofs.YtlacppjlclfpmaaGreat
open Go.RowKit
set_option maxRecDepth 100000

theorem str_bytes (x : List UInt8) : Lib.strCells (mkB x) = Lib.byteCells x := by unfold Lib.strCells Lib.byteCells; rw [mkB_list]
theorem join_cells {xs : List (List UInt8)} {j : Nat} (h : j < xs.length) : Lib.byteCells (joinL (xs.take j)) ++ [.int .u8 47] ++ Lib.strCells (mkB (xs[j]?.getD [])) = Lib.byteCells (joinL (xs.take (j + 1))) := by
  rw [joinL_step h, str_bytes, Lib.byteCells_append]
  simp [Lib.byteCells]

end Go.Proofs.YtlacppjlclfpmaaGreat
