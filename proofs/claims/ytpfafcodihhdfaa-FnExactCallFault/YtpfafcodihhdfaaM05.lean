/- File systems: a list of inodes and a list of lists of bytes; the walks of the laws' functions over them. How file systems that came in are opened. How calls that came in are opened. -/
import Derived.Test.YtpfafcodihhdfaaM04
import Derived.Test.YtpfafcodihhdfaaM03
namespace Go.Proofs.Ytpfafcodihhdfaa
open Go.RowKit
set_option maxRecDepth 100000

set_option maxHeartbeats 1600000 in
theorem eqByts_walk (w : World) (a a' : Option Addr) (cap cap' n : Nat) (zss : List (List UInt8)) (hn : n ≤ maxLen) (hc : AtYs w a n zss) (hc' : AtYs w a' n zss) :
    Calls Try.prog 29 #[.slice a n cap, .slice a' n cap'] w fun e w' => e = .returned (.bool true) ∧ Below w.heap.size w w' := by
  unfold maxLen at hn
  have HC : Hid (AtYs w a n zss) := hc
  have HC' : Hid (AtYs w a' n zss) := hc'
  clear hc hc'
  go_enter Try.func29, Try.ntmps29
  go_wp2
  go_loopw [5] (fun i wr => ∃ j m : Nat, j ≤ n ∧ i = .int .i64 j ∧ wr = w.drewN m) (fun i _ => n - (intOf i).toNat)
  case atStart => exact ⟨0, 0, Nat.zero_le _, rfl, rfl⟩
  case round =>
    obtain ⟨j, m, hj, rfl, rfl⟩ := hrel
    by_cases hlt : j < n
    · obtain ⟨b, o, ua, uc, rfl, d0, i0⟩ := HC.out j hlt
      obtain ⟨b', o', ua', uc', rfl, d1, i1⟩ := HC'.out j hlt
      have HEQ : Hid (∀ q, Calls Try.prog 40 #[.slice ua (zss[j]?.getD []).length uc, .slice ua' (zss[j]?.getD []).length uc'] (w.drewN q) fun e w' => e = .returned (.bool true) ∧ ∃ m', w' = (w.drewN q).drewN m') := fun q => eqBytU (w := w.drewN q) (i0.later (below_drewN (Below.refl _ _) q)) (i1.later (below_drewN (Below.refl _ _) q))
      clear i0 i1 HC HC'
      generalize (zss[j]?.getD []).length = ln at *
      go_wp2_with fail
      go_quiet ((go_at_call 40; exact quiet_of2 (HEQ.out _)))
      go_wp2
      go_roundw
      case rel => exact ⟨j + 1, _, by omega, by go_num, rfl⟩
      case measure => simp [intOf]; omega
    · go_wp2
      go_ret
      exact ⟨rfl, below_drewN (Below.refl _ _) m⟩
theorem eqBytsU {w : World} {v v' : Value} {zss : List (List UInt8)} (h : Byts w v zss) (h' : Byts w v' zss) : Calls Try.prog 29 #[v, v'] w fun e w' => e = .returned (.bool true) ∧ Below w.heap.size w w' := by
  obtain ⟨a, cap, rfl, hm, hc⟩ := h.open'
  obtain ⟨a', cap', rfl, _, hc'⟩ := h'.open'
  exact eqByts_walk w a a' cap cap' _ zss hm.1 hc hc'

/-- File systems. -/
abbrev FD := List ID × List (List UInt8)
def FsR (w : World) (v1 v2 : Value) (d : FD) : Prop := Inos w v1 d.1 ∧ Byts w v2 d.2
theorem FsR.later {w w' : World} {v1 v2 : Value} {d : FD} (h : FsR w v1 v2 d) (hb : Below w.heap.size w w') : FsR w' v1 v2 d := ⟨h.1.later hb, h.2.later hb⟩
def FsU (w : World) (v1 v2 : Value) (d : FD) (F : Nat → Prop) : Prop := ∃ F1 G1 : Nat → Prop, InosO w v1 d.1 F1 ∧ BytsO w v2 d.2 G1 ∧ (∀ b, F1 b → ¬ G1 b) ∧ ∀ b, F1 b ∨ G1 b → F b
theorem FsU.reads {w : World} {v1 v2 : Value} {d : FD} {F : Nat → Prop} (h : FsU w v1 v2 d F) : FsR w v1 v2 d := by
  obtain ⟨_, _, h1, h2, _⟩ := h
  exact ⟨h1.reads, h2.reads⟩
theorem FsU.keep {w w' : World} {v1 v2 : Value} {d : FD} {F : Nat → Prop} (h : FsU w v1 v2 d F) (e : ∀ b, F b → b < w.heap.size → w'.heap[b]? = w.heap[b]?) : FsU w' v1 v2 d F := by
  obtain ⟨F1, G1, h1, h2, hd, hf⟩ := h
  exact ⟨F1, G1, h1.keep fun b hb => e b (hf b (Or.inl hb)), h2.keep fun b hb => e b (hf b (Or.inr hb)), hd, hf⟩
theorem FsU.later {w w' : World} {v1 v2 : Value} {d : FD} {F : Nat → Prop} (h : FsU w v1 v2 d F) (hb : Below w.heap.size w w') : FsU w' v1 v2 d F := h.keep fun b _ hlt => hb.block b hlt
theorem FsU.mono {w : World} {v1 v2 : Value} {d : FD} {F G : Nat → Prop} (h : FsU w v1 v2 d F) (e : ∀ b, F b → G b) : FsU w v1 v2 d G := by
  obtain ⟨F1, G1, h1, h2, hd, hf⟩ := h
  exact ⟨F1, G1, h1, h2, hd, fun b hb => e b (hf b hb)⟩
theorem FsU.chg {w w' : World} {v1 v2 : Value} {d : FD} {F G : Nat → Prop} (h : FsU w v1 v2 d F) (hc : Chg G w w') (hd : ∀ b, F b → ¬ G b) : FsU w' v1 v2 d F := h.keep fun b hb hlt => hc.block b hlt (hd b hb)
def sizeFs (d : FD) : Nat := sizeInos d.1 + sizeByts d.2
def spanFs (d : FD) : Nat := spanInos d.1 + (ylens d.2).sum
theorem spanFs_le (d : FD) : spanFs d ≤ 3 * sizeFs d := by
  have := spanInos_le d.1
  unfold spanFs sizeFs sizeByts
  omega

set_option maxHeartbeats 800000 in
theorem szFsU (w : World) (a1 : Option Addr) (n1 c1 : Nat) (a2 : Option Addr) (n2 c2 : Nat) (d : FD) (h : FsR w (.slice a1 n1 c1) (.slice a2 n2 c2) d) (left : Int) (l0 : 0 ≤ left) (l1 : left ≤ 1048576) :
    Calls Try.prog 5 #[.agg #[.slice a1 n1 c1, .slice a2 n2 c2], .int .i64 left] w fun e w' => e = .returned (.int .i64 (szf left (sizeFs d))) ∧ Below w.heap.size w w' := by
  have H1 : Hid (Inos w (.slice a1 n1 c1) d.1) := h.1
  have H2 : Hid (Byts w (.slice a2 n2 c2) d.2) := h.2
  have HX : Hid (Bx (w.alloc (.cells #[.slice a1 n1 c1, .slice a2 n2 c2] 25)) w.heap.size [.slice a1 n1 c1, .slice a2 n2 c2]) := Bx.new w [.slice a1 n1 c1, .slice a2 n2 c2] _
  clear h
  by_cases hm : left < ((sizeInos d.1 : Nat) : Int)
  · have HR : Hid (szf left (sizeInos d.1) = -1) := szf_no hm
    have HM : Hid (szf left (sizeFs d) = -1) := szf_no (by unfold sizeFs; omega)
    rw [HM.out]
    go_enter Try.func5, Try.ntmps5
    go_wp2_with fail
    refine (szInosU _ _ _ _ d.1 (H1.out.later (later1 _ _)) _ l0 l1).mono ?_
    rw [HR.out]
    rintro e w1 ⟨rfl, hb1⟩
    have HB1 : Hid (Below w.heap.size w w1) := (later1 _ _).trans (hb1.mono (by simp))
    clear hb1
    go_wp2
    go_ret
    exact ⟨rfl, HB1.out⟩
  · have HR : Hid (szf left (sizeInos d.1) = left - ((sizeInos d.1 : Nat) : Int)) := szf_yes hm
    have hpos : ¬ left - ((sizeInos d.1 : Nat) : Int) < 0 := by omega
    have HD : Hid (szf (left - ((sizeInos d.1 : Nat) : Int)) (sizeByts d.2) = szf left (sizeFs d)) := by
      unfold Hid szf sizeFs
      split <;> split <;> omega
    have hx0 : (0 : Int) ≤ ((sizeInos d.1 : Nat) : Int) := by omega
    generalize ((sizeInos d.1 : Nat) : Int) = X at *
    have hrr : szf left (sizeFs d) = -1 ∨ 0 ≤ szf left (sizeFs d) := by unfold szf; split <;> omega
    generalize hr : szf left (sizeFs d) = r at *
    clear hr
    have step : ∀ (P : Prop), (r < 0 → r = -1 → P) → (¬ r < 0 → P) → P := fun P h1 h2 => hrr.elim (fun e => h1 (by omega) e) (fun e => h2 (by omega))
    apply step
    · intro hneg he
      subst he
      clear step hrr
      go_enter Try.func5, Try.ntmps5
      go_wp2_with fail
      refine (szInosU _ _ _ _ d.1 (H1.out.later (later1 _ _)) _ l0 l1).mono ?_
      rw [HR.out]
      rintro e w1 ⟨rfl, hb1⟩
      have HB1 : Hid (Below w.heap.size w w1) := (later1 _ _).trans (hb1.mono (by simp))
      have x1 := (HX.out.later hb1) 1 _ rfl
      clear hb1
      go_wp2_with fail
      refine (szBytsU _ _ _ _ d.2 (H2.out.later HB1.out) _ (by omega) (by omega)).mono ?_
      rw [HD.out]
      rintro e w2 ⟨rfl, hb2⟩
      have HB2 : Hid (Below w.heap.size w w2) := HB1.out.trans (hb2.mono HB1.out.size)
      clear hb2 x1
      go_wp2
      go_ret
      exact ⟨rfl, HB2.out⟩
    · intro hnn
      clear step hrr
      go_enter Try.func5, Try.ntmps5
      go_wp2_with fail
      refine (szInosU _ _ _ _ d.1 (H1.out.later (later1 _ _)) _ l0 l1).mono ?_
      rw [HR.out]
      rintro e w1 ⟨rfl, hb1⟩
      have HB1 : Hid (Below w.heap.size w w1) := (later1 _ _).trans (hb1.mono (by simp))
      have x1 := (HX.out.later hb1) 1 _ rfl
      clear hb1
      go_wp2_with fail
      refine (szBytsU _ _ _ _ d.2 (H2.out.later HB1.out) _ (by omega) (by omega)).mono ?_
      rw [HD.out]
      rintro e w2 ⟨rfl, hb2⟩
      have HB2 : Hid (Below w.heap.size w w2) := HB1.out.trans (hb2.mono HB1.out.size)
      clear hb2 x1
      go_wp2
      go_ret
      exact ⟨rfl, HB2.out⟩

set_option maxHeartbeats 1600000 in
theorem eqFsU (w : World) (v1 v2 v1' v2' : Value) (d : FD) (h : FsR w v1 v2 d) (h' : FsR w v1' v2' d) :
    Calls Try.prog 10 #[.agg #[v1, v2], .agg #[v1', v2']] w fun e w' => e = .returned (.bool true) ∧ Below w.heap.size w w' := by
  obtain ⟨a1, c1, rfl, _⟩ := h.1.open'
  obtain ⟨a2, c2, rfl, _⟩ := h.2.open'
  obtain ⟨b1, k1, rfl, _⟩ := h'.1.open'
  obtain ⟨b2, k2, rfl, _⟩ := h'.2.open'
  have H1 : Hid (Inos w _ d.1) := h.1
  have H2 : Hid (Byts w _ d.2) := h.2
  have H1' : Hid (Inos w _ d.1) := h'.1
  have H2' : Hid (Byts w _ d.2) := h'.2
  clear h h'
  generalize d.1.length = m1 at *
  generalize d.2.length = m2 at *
  have HX : Hid (Bx ((w.alloc (.cells #[.slice a1 m1 c1, .slice a2 m2 c2] 33)).alloc (.cells #[.slice b1 m1 k1, .slice b2 m2 k2] 33)) w.heap.size [.slice a1 m1 c1, .slice a2 m2 c2]) := (Bx.new w [.slice a1 m1 c1, .slice a2 m2 c2] _).later (later1 _ _)
  have HY : Hid (Bx ((w.alloc (.cells #[.slice a1 m1 c1, .slice a2 m2 c2] 33)).alloc (.cells #[.slice b1 m1 k1, .slice b2 m2 k2] 33)) (w.heap.size + 1) [.slice b1 m1 k1, .slice b2 m2 k2]) := by
    have := Bx.new (w.alloc (.cells #[.slice a1 m1 c1, .slice a2 m2 c2] 33)) [.slice b1 m1 k1, .slice b2 m2 k2] 33
    rw [World.size_alloc] at this
    exact this
  go_enter Try.func10, Try.ntmps10
  go_wp2_with fail
  refine (eqInosU (H1.out.later (later2 _ _ _)) (H1'.out.later (later2 _ _ _))).mono ?_
  rintro e w1 ⟨rfl, hb1⟩
  have HB1 : Hid (Below w.heap.size w w1) := (later2 _ _ _).trans (hb1.mono (by simp; omega))
  have x1 := (HX.out.later hb1) 1 _ rfl
  have y1 := (HY.out.later hb1) 1 _ rfl
  clear hb1
  go_wp2_with fail
  refine (eqBytsU (H2.out.later HB1.out) (H2'.out.later HB1.out)).mono ?_
  rintro e w2 ⟨rfl, hb2⟩
  have HB2 : Hid (Below w.heap.size w w2) := HB1.out.trans (hb2.mono HB1.out.size)
  clear hb2
  go_wp2
  go_ret
  exact ⟨rfl, HB2.out⟩
end Go.Proofs.Ytpfafcodihhdfaa

namespace Go.Proofs.Ytpfafcodihhdfaa
open Go.ChangeShapes Go.WideShapes Go.ChangeAt Go.RowKit Go.Joins Go.Deep
set_option maxRecDepth 100000

theorem Try.cellsByteF : Try.prog.cellsOf 5 = 1 := by kernel_rfl
theorem Try.cellsBytF : Try.prog.cellsOf 40 = 1 := by kernel_rfl
theorem Try.cellsBytsF : Try.prog.cellsOf 23 = 1 := by kernel_rfl
theorem Try.cellsInosF : Try.prog.cellsOf 22 = 1 := by kernel_rfl
theorem Try.cellsFsF : Try.prog.cellsOf 25 = 2 := by kernel_rfl
theorem open_Byt {H : Type} {enc : TypeId × Value → H} {P : Program} {w : World} {base : Nat} {held : Bool} {t e : TypeId} {fuel : Nat} {v : Value} {x : DataW H × List MemPlace} (ht : P.underlying t = some (.slice e)) (he : P.underlying e = some (.int .u8)) (ce : P.cellsOf e = 1) (h : DataW.trod enc P w base (fun _ => true) held fuel t [v] = some x) :
    ∃ zs, Byt w v zs := by
  rcases open_slice1 ht ce h with ⟨hcs, _⟩ | ⟨a, len, cap, m, n, V, D, Pl, hcs, _, hl, hm, hmm, _, hx⟩
  · simp only [List.cons.injEq, and_true] at hcs
    exact ⟨[], by rw [hcs]; exact Byt.nil w none 0⟩
  · simp only [List.cons.injEq, and_true] at hcs
    simp only [if_true] at hmm
    by_cases h0 : len = 0
    · subst h0; exact ⟨[], by rw [hcs]; exact Byt.nil w (some a) cap⟩
    · have ha := addr_of (hx 0 (by omega)).1
      obtain ⟨Z, hZ⟩ := choose_lt (α := UInt8) (n := m) (p := fun i b => V i = .int .u8 ((b.toNat : Nat) : Int)) fun i hi => by
        obtain ⟨z, h1, _, hw⟩ := DataW.trod_int he (hx i hi).2
        have hz0 : IntKind.u8.min ≤ z ∧ z ≤ IntKind.u8.max := by simpa [Lit.wf] using hw
        have hz : 0 ≤ z ∧ z ≤ 255 := hz0
        refine ⟨UInt8.ofNat z.toNat, ?_⟩
        simp only [List.cons.injEq, and_true] at h1
        rw [h1]
        congr 1
        have : (UInt8.ofNat z.toNat).toNat = z.toNat := by simp; omega
        rw [this]; omega
      refine ⟨(List.range len).map Z, some a, cap, ?_, ?_, fun k hk => ?_⟩
      · simp only [List.length_map, List.length_range]; exact hcs
      · simp only [List.length_map, List.length_range]; exact ⟨by omega, by omega⟩
      · simp only [List.length_map, List.length_range] at hk
        have h1 := (hx k (by omega)).1
        rw [ha, add_plain] at h1
        refine ⟨a.block, a.off, by rw [← ha], ?_⟩
        rw [h1, hZ k (by omega)]
        simp [hk]
theorem open_Byts {H : Type} {enc : TypeId × Value → H} {P : Program} {w : World} {base : Nat} {held : Bool} {t e q : TypeId} {fuel : Nat} {v : Value} {x : DataW H × List MemPlace} (ht : P.underlying t = some (.slice e)) (he : P.underlying e = some (.slice q)) (hq : P.underlying q = some (.int .u8)) (ce : P.cellsOf e = 1) (cq : P.cellsOf q = 1)
    (h : DataW.trod enc P w base (fun _ => true) held fuel t [v] = some x) : ∃ zss, Byts w v zss := by
  rcases open_slice1 ht ce h with ⟨hcs, _⟩ | ⟨a, len, cap, m, n, V, D, Pl, hcs, _, hl, hm, hmm, _, hx⟩
  · simp only [List.cons.injEq, and_true] at hcs
    exact ⟨[], by rw [hcs]; exact Byts.nil w none 0⟩
  · simp only [List.cons.injEq, and_true] at hcs
    simp only [if_true] at hmm
    by_cases h0 : len = 0
    · subst h0; exact ⟨[], by rw [hcs]; exact Byts.nil w (some a) cap⟩
    · have ha := addr_of (hx 0 (by omega)).1
      obtain ⟨Z, hZ⟩ := choose_lt (α := List UInt8) (n := m) (p := fun i zs => Byt w (V i) zs) fun i hi => open_Byt he hq cq (hx i hi).2
      refine ⟨(List.range len).map Z, some a, cap, ?_, ?_, fun k hk => ?_⟩
      · simp only [List.length_map, List.length_range]; exact hcs
      · simp only [List.length_map, List.length_range]; exact ⟨by omega, by omega⟩
      · simp only [List.length_map, List.length_range] at hk
        have h1 := (hx k (by omega)).1
        rw [ha, add_plain] at h1
        have hg : ((List.range len).map Z)[k]?.getD [] = Z k := by simp [hk]
        rw [hg]
        obtain ⟨ua, uc, e1, e2, e3⟩ := hZ k (by omega)
        rw [e1] at h1
        exact ⟨a.block, a.off, ua, uc, by rw [← ha], h1, ua, uc, rfl, e2, e3⟩
theorem open_FsU {H : Type} {enc : TypeId × Value → H} {W : World} {r : Reach} {b0 : Nat} {v : Value} {d : DataW H} {p : List MemPlace} (hv : Value.okWide Try.prog W r b0 25 v) (h : DataW.Trod enc Try.prog W 0 (fun _ => true) true 25 v d p) :
    ∃ v0 v1 fd, v = .agg #[v0, v1] ∧ FsR W v0 v1 fd := by
  obtain ⟨cs, rfl, hsz⟩ := okWide_struct Try.underlying25 hv
  obtain ⟨c0, c1, rfl⟩ := array2 (hsz.trans Try.cellsFsF)
  obtain ⟨fuel, hf⟩ := h
  obtain ⟨xs, k, hk, hxy, _, hxl, hg⟩ := DataW.trod_struct Try.underlying25 hf
  match xs, hxl with
  | [y0, y1], _ =>
    have g0 : DataW.trod enc Try.prog W 0 (fun _ => true) true k 22 [c0] = some y0 := by simpa [Value.cells, Try.cellsInosF] using hg 0 _ rfl
    have g1 : DataW.trod enc Try.prog W 0 (fun _ => true) true k 23 [c1] = some y1 := by simpa [Value.cells, Try.cellsBytsF] using hg 1 _ rfl
    obtain ⟨ds, hds⟩ := open_Inos g0
    obtain ⟨zss, hz⟩ := open_Byts Try.underlying23 Try.underlying40 Try.underlying5 Try.cellsBytF Try.cellsByteF g1
    exact ⟨c0, c1, (ds, zss), rfl, hds, hz⟩
end Go.Proofs.Ytpfafcodihhdfaa

namespace Go.Proofs.Ytpfafcodihhdfaa
open Go.ChangeShapes Go.WideShapes Go.ChangeAt Go.RowKit Go.Joins Go.Deep
set_option maxRecDepth 100000

theorem Try.cellsCal : Try.prog.cellsOf 42 = 6 := by kernel_rfl
theorem Try.cellsStrC : Try.prog.cellsOf 9 = 1 := by kernel_rfl
theorem Try.cellsU8sC : Try.prog.cellsOf 40 = 1 := by kernel_rfl
theorem Try.cellsU8C : Try.prog.cellsOf 5 = 1 := by kernel_rfl
theorem array6 {α : Type} {a : Array α} (h : a.size = 6) : ∃ x0 x1 x2 x3 x4 x5, a = #[x0, x1, x2, x3, x4, x5] := by
  obtain ⟨l⟩ := a
  match l, h with
  | [x0, x1, x2, x3, x4, x5], _ => exact ⟨x0, x1, x2, x3, x4, x5, rfl⟩
theorem open_CalU {H : Type} {enc : TypeId × Value → H} {W : World} {r : Reach} {b0 : Nat} {v : Value} {d : DataW H} {p : List MemPlace} (hv : Value.okWide Try.prog W r b0 42 v) (h : DataW.Trod enc Try.prog W 0 (fun _ => true) true 42 v d p) :
    ∃ v0 v1 v2 v3 v4 vD cd, v = .agg #[v0, v1, v2, v3, v4, vD] ∧ CalR W v0 v1 v2 v3 v4 vD cd := by
  obtain ⟨cs, rfl, hsz⟩ := okWide_struct Try.underlying42 hv
  obtain ⟨c0, c1, c2, c3, c4, c5, rfl⟩ := array6 (hsz.trans Try.cellsCal)
  obtain ⟨fuel, hf⟩ := h
  obtain ⟨xs, k, hk, hxy, _, hxl, hg⟩ := DataW.trod_struct Try.underlying42 hf
  match xs, hxl with
  | [y0, y1, y2, y3, y4, y5], _ =>
    have g0 : DataW.trod enc Try.prog W 0 (fun _ => true) true k 2 [c0] = some y0 := by simpa [Value.cells, Try.cellsInt] using hg 0 _ rfl
    have g1 : DataW.trod enc Try.prog W 0 (fun _ => true) true k 9 [c1] = some y1 := by simpa [Value.cells, Try.cellsStrC] using hg 1 _ rfl
    have g2 : DataW.trod enc Try.prog W 0 (fun _ => true) true k 9 [c2] = some y2 := by simpa [Value.cells, Try.cellsStrC] using hg 2 _ rfl
    have g3 : DataW.trod enc Try.prog W 0 (fun _ => true) true k 2 [c3] = some y3 := by simpa [Value.cells, Try.cellsInt] using hg 3 _ rfl
    have g4 : DataW.trod enc Try.prog W 0 (fun _ => true) true k 2 [c4] = some y4 := by simpa [Value.cells, Try.cellsInt] using hg 4 _ rfl
    have g5 : DataW.trod enc Try.prog W 0 (fun _ => true) true k 40 [c5] = some y5 := by simpa [Value.cells, Try.cellsU8sC] using hg 5 _ rfl
    obtain ⟨z0, hz0, _⟩ := DataW.trod_int Try.underlying2 g0
    obtain ⟨z1, hz1, _, hm1⟩ := DataW.trod_string Try.underlying9 g1
    obtain ⟨z2, hz2, _, hm2⟩ := DataW.trod_string Try.underlying9 g2
    obtain ⟨z3, hz3, _⟩ := DataW.trod_int Try.underlying2 g3
    obtain ⟨z4, hz4, _⟩ := DataW.trod_int Try.underlying2 g4
    simp only [List.cons.injEq, and_true] at hz0 hz1 hz2 hz3 hz4
    obtain ⟨bs, hbs⟩ := open_Byt Try.underlying40 Try.underlying5 Try.cellsU8C g5
    exact ⟨c0, c1, c2, c3, c4, c5, (z0, z1, z2, z3, z4, bs), rfl, ⟨hz0, hz1, hz2, hz3, hz4, hm1, hm2⟩, hbs⟩
end Go.Proofs.Ytpfafcodihhdfaa
