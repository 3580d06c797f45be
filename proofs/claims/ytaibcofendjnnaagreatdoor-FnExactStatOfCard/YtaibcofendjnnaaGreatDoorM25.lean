/- The program's LinkPath. The specification's DropFile. The specification's DropFile: the walk; how great what is answered is. AddName: how great what is answered is; append within a region, its answer told by a property. The specification's AddName: an entry put into its place. -/
import Derived.Test.YtaibcofendjnnaaGreatDoorM22
import Derived.Test.YtaibcofendjnnaaGreatDoorM23
import Derived.Test.YtaibcofendjnnaaGreatDoorM24
import Derived.Deep.RegionHeld3
import Derived.Test.YtaibcofendjnnaaGreatDoorM21
import Derived.BigQuiet
namespace Go.Proofs.YtaibcofendjnnaaGreatDoor
open Go.RowKit
set_option maxRecDepth 100000

theorem getD_mem {α : Type} {xs : List α} {i : Nat} (x : α) (h : i < xs.length) : xs[i]?.getD x ∈ xs := by
  rw [List.getElem?_eq_getElem h]
  exact List.getElem_mem h
theorem par_in {d : FD} {p : List UInt8} (hf : fsF d = 0) (h : (parR d p).1 = 0) : ∃ j : Nat, (parR d p).2 = (j : Int) ∧ dirQ d (j : Int) = 0 ∧ nameF (lnmP d p) = 0 ∧ lnmP d p = mkB (lastT p) := by
  have hok := fsE_ok (fsF_E hf)
  have hl : lnmP d p = mkB ((splitL p)[(splitL p).length - 1]?.getD []) := if_pos h
  unfold parR at h ⊢
  by_cases hp : pathF p = 0
  · rw [if_pos hp] at h ⊢
    have hs : splitL p = namesL p := if_pos hp
    by_cases h0 : (splitL p).length = 0
    · rw [if_pos h0] at h; exact absurd h (by decide)
    · rw [if_neg h0] at h ⊢
      generalize hr : wkR d.1 0 ((splitL p).take ((splitL p).length - 1)) = r at h ⊢
      unfold dirK at h ⊢
      by_cases hr0 : r.1 = 0
      · rw [if_pos hr0] at h ⊢
        by_cases hk : kindAt d.1 r.2.toNat = 2
        · rw [if_pos hk]
          obtain ⟨y, hy, hlt⟩ := wkR_lt hok.rng _ 0 hok.pos (by rw [hr]; exact hr0)
          rw [hr] at hy
          refine ⟨y, hy, ?_, ?_, ?_⟩
          · unfold dirQ
            rw [if_pos (fsF_E hf), if_pos ⟨by omega, by omega⟩, if_pos]
            rw [Int.toNat_natCast]; rw [hy, Int.toNat_natCast] at hk; exact hk
          · rw [hl, hs]; exact names_all (path_ok hp).2 _ (getD_mem _ (by rw [hs] at h0; omega))
          · rw [hl]; unfold lastT; rw [if_pos hp, hs]
        · rw [if_neg hk] at h; exact absurd h (by decide)
      · rw [if_neg hr0] at h; exact absurd h hr0
  · rw [if_neg hp] at h; exact absurd h hp
/-- LinkPath behind the FsFault; LinkPath. -/
def linkQ (d : FD) (s t : ByteArray) : Int × CRD := if (fileR d s).1 = 0 then (if (wparR d t).1 = 0 then (if (addR d (wparR d t).2 (mkB (lastT t.data.toList)) (fileR d s).2).1 = 0 then (0, 0, 0, [], [], (addR d (wparR d t).2 (mkB (lastT t.data.toList)) (fileR d s).2).2) else stayR d (addR d (wparR d t).2 (mkB (lastT t.data.toList)) (fileR d s).2).1) else stayR d (wparR d t).1) else stayR d (fileR d s).1
def linkR (d : FD) (s t : ByteArray) : Int × CRD := if fsF d = 0 then linkQ d s t else noCR (fsF d)
theorem lastT_size (p : List UInt8) (_hp : p.length ≤ 1048576) : (mkB (lastT p)).size ≤ 1048576 := by
  unfold lastT
  by_cases h : pathF p = 0
  · rw [if_pos h]
    by_cases h0 : (namesL p).length = 0
    · have : namesL p = [] := List.length_eq_zero_iff.1 h0
      rw [this]; simp [mkB, ByteArray.size]
    · have := (nameF_size (names_all (path_ok h).2 _ (getD_mem (i := (namesL p).length - 1) [] (by omega)))).1
      omega
  · rw [if_neg h]; simp [mkB, ByteArray.size]

theorem field_txt1 (z : Int) (s : ByteArray) (w : World) : (Instr.field 79 (.agg #[.int .i64 z, .string s]) 1).run Tryz.prog w = .ok (.string s) w := by kernel_rfl
/-- What a function that answers a code and a file system left in a box. -/
def AddedS (W wx : World) (r : Int × FD) (g : Nat) (a5 : Option Addr) (n5 c5 : Nat) (a6 : Option Addr) (n6 c6 : Nat) : Prop := Below W.heap.size W wx ∧ W.heap.size ≤ g ∧ Bx wx g [.int .i64 r.1, .slice a5 n5 c5, .slice a6 n6 c6] ∧ FsU wx (.slice a5 n5 c5) (.slice a6 n6 c6) r.2 (fun b => W.heap.size ≤ b ∧ b < wx.heap.size ∧ b ≠ g)
theorem AddedS.after {W W4 w5 : World} {r : Int × FD} {a5 : Option Addr} {n5 c5 : Nat} {a6 : Option Addr} {n6 c6 : Nat} (h4 : Below W.heap.size W W4) (h5 : Below W4.heap.size W4 w5) (hf : FsU w5 (.slice a5 n5 c5) (.slice a6 n6 c6) r.2 (fresh W4 w5)) (t : TypeId) : AddedS W (w5.alloc (.cells #[.int .i64 r.1, .slice a5 n5 c5, .slice a6 n6 c6] t)) r w5.heap.size a5 n5 c5 a6 n6 c6 :=
  have hb : Below W.heap.size W w5 := h4.trans (h5.mono h4.size)
  ⟨hb.trans ((later1 _ _).mono hb.size), hb.size, Bx.new w5 [.int .i64 r.1, .slice a5 n5 c5, .slice a6 n6 c6] t, (hf.later (later1 _ _)).mono fun b hh => ⟨by have := hh.1; have := h4.size; omega, by have := hh.2; simp; omega, by have := hh.2; omega⟩⟩
theorem AddedS.ahead {W W4 w5 : World} {r : Int × FD} {g : Nat} {a5 : Option Addr} {n5 c5 : Nat} {a6 : Option Addr} {n6 c6 : Nat} (h4 : Below W.heap.size W W4) (hg : W.heap.size ≤ g) (hr : OwnRow W4 g 3 (cel zero3)) (h5 : Below W4.heap.size W4 w5) (hf : FsU w5 (.slice a5 n5 c5) (.slice a6 n6 c6) r.2 (fresh W4 w5)) : AddedS W (((w5.setCell ⟨g, 0, none⟩ (.int .i64 r.1)).setCell ⟨g, 1, none⟩ (.slice a5 n5 c5)).setCell ⟨g, 2, none⟩ (.slice a6 n6 c6)) r g a5 n5 c5 a6 n6 c6 := by
  have hb : Below W.heap.size W w5 := h4.trans (h5.mono h4.size)
  have hlt := hr.lt
  have hrow := (((hr.later h5).set 0 (.int .i64 r.1)).set 1 (.slice a5 n5 c5)).set 2 (.slice a6 n6 c6)
  refine ⟨((hb.setCell hg _).setCell hg _).setCell hg _, hg, ?_, (hf.keep fun b hh _ => ?_).mono fun b hh => ⟨by have := hh.1; have := h4.size; omega, by have := hh.2; simp only [World.setCell, Array.size_modify]; omega, by have := hh.1; omega⟩⟩
  · intro i v hv
    match i, hv with
    | 0, hv => cases hv; exact hrow.cell (i := 0) (by omega)
    | 1, hv => cases hv; exact hrow.cell (i := 1) (by omega)
    | 2, hv => cases hv; exact hrow.cell (i := 2) (by omega)
  · have : b ≠ g := by have := hh.1; omega
    rw [Below.heap_setCell _ _ _ _ this, Below.heap_setCell _ _ _ _ this, Below.heap_setCell _ _ _ _ this]

set_option maxHeartbeats 12800000 in
theorem implLinkU (w : World) (a1 : Option Addr) (n1 c1 : Nat) (a2 : Option Addr) (n2 c2 : Nat) (d : FD) (s t : ByteArray) (h : FsR w (.slice a1 n1 c1) (.slice a2 n2 c2) d) (hs : sizeFs d ≤ 1048576) (hl : s.size ≤ 1048576) (ht : t.size ≤ 1048576) (hgl : Gl w) :
    Calls Tryz.prog 19 #[.agg #[.slice a1 n1 c1, .slice a2 n2 c2], .string s, .string t] w (AnsCR w (linkR d s t)) := by
  have HB0 : Hid (Below w.heap.size w ((w.alloc (.cells #[.slice a1 n1 c1, .slice a2 n2 c2] 32)).alloc (.cells #[.int .i64 0, .int .i64 0, .int .i64 0, .slice none 0 0, .slice none 0 0, .slice none 0 0, .slice none 0 0] 44))) := later2 _ _ _
  have HX0 : Hid (Bx ((w.alloc (.cells #[.slice a1 n1 c1, .slice a2 n2 c2] 32)).alloc (.cells #[.int .i64 0, .int .i64 0, .int .i64 0, .slice none 0 0, .slice none 0 0, .slice none 0 0, .slice none 0 0] 44)) w.heap.size [.slice a1 n1 c1, .slice a2 n2 c2]) := (Bx.new w [.slice a1 n1 c1, .slice a2 n2 c2] _).later (later1 _ _)
  have HR0 : Hid (OwnRow ((w.alloc (.cells #[.slice a1 n1 c1, .slice a2 n2 c2] 32)).alloc (.cells #[.int .i64 0, .int .i64 0, .int .i64 0, .slice none 0 0, .slice none 0 0, .slice none 0 0, .slice none 0 0] 44)) (w.heap.size + 1) 7 (cel zero7)) := by
    have p2 := row7 (w.alloc (.cells #[.slice a1 n1 c1, .slice a2 n2 c2] 32)) 44
    rw [World.size_alloc] at p2
    exact p2
  have hsp : t.data.toList.length = t.size := Array.length_toList
  have HF : Hid (∀ W, Below w.heap.size w W → Calls Tryz.prog 38 #[.agg #[.slice a1 n1 c1, .slice a2 n2 c2]] W fun e w' => e = .returned (.int .i64 (fsF d)) ∧ Below W.heap.size W w') := fun W hW => implFsU W _ _ _ _ _ _ d (h.later hW) hs
  have HFA : Hid (∀ W, Below w.heap.size w W → Calls Tryz.prog 39 #[.agg #[.slice a1 n1 c1, .slice a2 n2 c2], .string s] W fun e w' => e = .returned (.agg #[.int .i64 (fileR d s).1, .int .i64 (fileR d s).2]) ∧ Below W.heap.size W w') := fun W hW => fileAt_any W _ _ _ _ _ _ d s (h.later hW) hs hl (hgl.later hW)
  have HWP : Hid (∀ W, Below w.heap.size w W → Calls Tryz.prog 14 #[.agg #[.slice a1 n1 c1, .slice a2 n2 c2], .string t] W fun e w' => e = .returned (.agg #[.int .i64 (wparR d t).1, .int .i64 (wparR d t).2]) ∧ Below W.heap.size W w') := fun W hW => implParentU W _ _ _ _ _ _ d t (h.later hW) hs ht (hgl.later hW)
  have HLO : Hid (∀ W, Calls Tryz.prog 42 #[.string t] W fun e w' => e = .returned (.agg #[.int .i64 (lastC t.data.toList), .string (mkB (lastT t.data.toList))]) ∧ Below W.heap.size W w') := fun W => by
    have := implLast_any W t.data.toList (by omega)
    rw [mkB_data] at this
    exact this
  have HAD : Hid (∀ W x y, Below w.heap.size w W → Calls Tryz.prog 41 #[.agg #[.slice a1 n1 c1, .slice a2 n2 c2], .int .i64 x, .string (mkB (lastT t.data.toList)), .int .i64 y] W (AnsFR W (addR d x (mkB (lastT t.data.toList)) y))) := fun W x y hW => implAddU W _ _ _ _ _ _ d x _ y (h.later hW) hs (lastT_size _ (by omega))
  have HSD : Hid (fsF d = 0 → ∀ W c, Below w.heap.size w W → Calls Tryz.prog 40 #[.agg #[.slice a1 n1 c1, .slice a2 n2 c2], .int .i64 c] W (AnsCR W (stayR d c))) := fun hf W c hW => stayed_any W _ _ _ _ _ _ d c (h.later hW) hs (by have := (fsE_ok (fsF_E hf)).dat; omega)
  have HRR : Hid (linkR d s t = if fsF d = 0 then linkQ d s t else noCR (fsF d)) := rfl
  have HRQ : Hid (linkQ d s t = if (fileR d s).1 = 0 then (if (wparR d t).1 = 0 then (if (addR d (wparR d t).2 (mkB (lastT t.data.toList)) (fileR d s).2).1 = 0 then (0, 0, 0, [], [], (addR d (wparR d t).2 (mkB (lastT t.data.toList)) (fileR d s).2).2) else stayR d (addR d (wparR d t).2 (mkB (lastT t.data.toList)) (fileR d s).2).1) else stayR d (wparR d t).1) else stayR d (fileR d s).1) := rfl
  obtain ⟨RES, hRES⟩ : ∃ r, linkR d s t = r := ⟨_, rfl⟩
  have HRES : Hid (linkR d s t = RES) := hRES
  rw [hRES]
  clear hRES h hs hl ht hgl hsp
  generalize fileR d s = fr at *
  generalize wparR d t = pr at *
  generalize mkB (lastT t.data.toList) = nm at *
  generalize lastC t.data.toList = lc at *
  obtain ⟨fc, fv⟩ := fr
  obtain ⟨pc, pv⟩ := pr
  dsimp only at HFA HWP HRQ
  by_cases hf : fsF d = 0
  rotate_left
  · have HE : Hid (RES = noCR (fsF d)) := by unfold Hid; rw [← HRES.out, HRR.out, if_neg hf]
    have hfb : (fsF d != 0) = true := by simpa using hf
    clear HRR HRES HRQ HSD hf
    generalize fsF d = r at *
    go_enter Tryz.func19, Tryz.ntmps19
    go_wp2_with fail
    generalize ((w.alloc (.cells #[.slice a1 n1 c1, .slice a2 n2 c2] 32)).alloc (.cells #[.int .i64 0, .int .i64 0, .int .i64 0, .slice none 0 0, .slice none 0 0, .slice none 0 0, .slice none 0 0] 44)) = W0 at *
    refine (HF.out _ HB0.out).mono ?_
    rintro e w1 ⟨rfl, hb1⟩
    have HB1 : Hid (Below w.heap.size w w1) := HB0.out.trans (hb1.mono HB0.out.size)
    have hrr := HR0.out.later hb1
    have hlw : w.heap.size + 1 < w1.heap.size := hrr.lt
    have t0 : w1.cell? ⟨w.heap.size + 1, 0, none⟩ = some (.int .i64 0) := hrr.cell (i := 0) (by omega)
    have t1 : w1.cell? ⟨w.heap.size + 1, 1, none⟩ = some (.int .i64 0) := hrr.cell (i := 1) (by omega)
    have t2 : w1.cell? ⟨w.heap.size + 1, 2, none⟩ = some (.int .i64 0) := hrr.cell (i := 2) (by omega)
    have t3 : w1.cell? ⟨w.heap.size + 1, 3, none⟩ = some (.slice none 0 0) := hrr.cell (i := 3) (by omega)
    have t4 : w1.cell? ⟨w.heap.size + 1, 4, none⟩ = some (.slice none 0 0) := hrr.cell (i := 4) (by omega)
    have t5 : w1.cell? ⟨w.heap.size + 1, 5, none⟩ = some (.slice none 0 0) := hrr.cell (i := 5) (by omega)
    have t6 : w1.cell? ⟨w.heap.size + 1, 6, none⟩ = some (.slice none 0 0) := hrr.cell (i := 6) (by omega)
    have s0 := hrr.frozen 0
    have s1 := hrr.frozen 1
    have s2 := hrr.frozen 2
    have s3 := hrr.frozen 3
    have s4 := hrr.frozen 4
    have s5 := hrr.frozen 5
    have s6 := hrr.frozen 6
    clear hb1 hrr
    go_wp2
    exact bodyPost_ret (v := .agg #[.int .i64 r, .int .i64 0, .int .i64 0, .slice none 0 0, .slice none 0 0, .slice none 0 0, .slice none 0 0]) (by simp [results, Tryz.results19, go_sem, t0, t1, t2, t3, t4, t5, t6]) rfl (by rw [HE.out]; exact AnsCR.no r HB1.out (by omega) _ _ _ _ _ _ _)
  · have HEQ : Hid (RES = linkQ d s t) := by unfold Hid; rw [← HRES.out, HRR.out, if_pos hf]
    have HST : Hid (∀ W c, Below w.heap.size w W → Calls Tryz.prog 40 #[.agg #[.slice a1 n1 c1, .slice a2 n2 c2], .int .i64 c] W (AnsCR W (stayR d c))) := HSD.out hf
    rw [HRQ.out] at HEQ
    rw [hf] at HF
    clear HRR HRES HRQ HSD hf
    go_enter Tryz.func19, Tryz.ntmps19
    go_wp2_with fail
    generalize ((w.alloc (.cells #[.slice a1 n1 c1, .slice a2 n2 c2] 32)).alloc (.cells #[.int .i64 0, .int .i64 0, .int .i64 0, .slice none 0 0, .slice none 0 0, .slice none 0 0, .slice none 0 0] 44)) = W0 at *
    refine (HF.out _ HB0.out).mono ?_
    rintro e w1 ⟨rfl, hb⟩
    have HB1 : Hid (Below w.heap.size w w1) := HB0.out.trans (hb.mono HB0.out.size)
    have HR1 : Hid (OwnRow w1 (w.heap.size + 1) 7 (cel zero7)) := HR0.out.later hb
    have HX1 : Hid (Bx w1 w.heap.size [.slice a1 n1 c1, .slice a2 n2 c2]) := HX0.out.later hb
    clear hb
    have x0 := HX1.out 0 _ rfl
    have x1 := HX1.out 1 _ rfl
    go_wp2_with fail
    clear x0 x1 
    refine (HFA.out _ HB1.out).mono ?_
    rintro e w2 ⟨rfl, hb⟩
    have hb' : Below w1.heap.size w1 (w2.alloc (.cells #[.int .i64 fc, .int .i64 fv] 28)) := hb.trans ((later1 _ _).mono hb.size)
    have HB2 : Hid (Below w.heap.size w (w2.alloc (.cells #[.int .i64 fc, .int .i64 fv] 28))) := HB1.out.trans (hb'.mono HB1.out.size)
    have HR2 : Hid (OwnRow (w2.alloc (.cells #[.int .i64 fc, .int .i64 fv] 28)) (w.heap.size + 1) 7 (cel zero7)) := HR1.out.later hb'
    have HX2 : Hid (Bx (w2.alloc (.cells #[.int .i64 fc, .int .i64 fv] 28)) w.heap.size [.slice a1 n1 c1, .slice a2 n2 c2]) := HX1.out.later hb'
    have HP2 : Hid (Bx (w2.alloc (.cells #[.int .i64 fc, .int .i64 fv] 28)) w2.heap.size [.int .i64 fc, .int .i64 fv]) := Bx.new w2 [.int .i64 fc, .int .i64 fv] _
    have hz2 : w.heap.size + 1 < w2.heap.size := (HR1.out.later hb).lt
    clear hb hb'
    have x0 := HX2.out 0 _ rfl
    have x1 := HX2.out 1 _ rfl
    have qHP0 := HP2.out 0 _ rfl
    have qHP1 := HP2.out 1 _ rfl
    by_cases hfc : fc = 0
    rotate_left
    · have hfb : (fc != 0) = true := by simpa using hfc
      have HE : Hid (RES = stayR d fc) := by unfold Hid; rw [HEQ.out, if_neg hfc]
      clear hfc
      clear x0 x1 qHP0 qHP1
      have x0 := HX2.out 0 _ rfl
      have x1 := HX2.out 1 _ rfl
      have qHP0 := HP2.out 0 _ rfl
      have qHP1 := HP2.out 1 _ rfl
      go_wp2_with fail
      clear x0 x1 qHP0 qHP1
      refine (HST.out _ fc HB2.out).mono ?_
      rintro e u ⟨y1, y2, b3, m3, k3, b4, m4, k4, b5, m5, k5, b6, m6, k6, rfl, hb, hu⟩
      have hrr := HR2.out.later hb
      have hlr : w.heap.size + 1 < (w2.alloc (.cells #[.int .i64 fc, .int .i64 fv] 28)).heap.size := HR2.out.lt
      have HBU : Hid (Below (w2.alloc (.cells #[.int .i64 fc, .int .i64 fv] 28)).heap.size (w2.alloc (.cells #[.int .i64 fc, .int .i64 fv] 28)) u) := hb
      have HCU : Hid (CResU u (.int .i64 y1) (.int .i64 y2) (.slice b3 m3 k3) (.slice b4 m4 k4) (.slice b5 m5 k5) (.slice b6 m6 k6) (stayR d fc).2 (fresh (w2.alloc (.cells #[.int .i64 fc, .int .i64 fv] 28)) u)) := hu
      have t0 : u.cell? ⟨w.heap.size + 1, 0, none⟩ = some (.int .i64 0) := hrr.cell (i := 0) (by omega)
      have t1 : u.cell? ⟨w.heap.size + 1, 1, none⟩ = some (.int .i64 0) := hrr.cell (i := 1) (by omega)
      have t2 : u.cell? ⟨w.heap.size + 1, 2, none⟩ = some (.int .i64 0) := hrr.cell (i := 2) (by omega)
      have t3 : u.cell? ⟨w.heap.size + 1, 3, none⟩ = some (.slice none 0 0) := hrr.cell (i := 3) (by omega)
      have t4 : u.cell? ⟨w.heap.size + 1, 4, none⟩ = some (.slice none 0 0) := hrr.cell (i := 4) (by omega)
      have t5 : u.cell? ⟨w.heap.size + 1, 5, none⟩ = some (.slice none 0 0) := hrr.cell (i := 5) (by omega)
      have t6 : u.cell? ⟨w.heap.size + 1, 6, none⟩ = some (.slice none 0 0) := hrr.cell (i := 6) (by omega)
      have s0 := hrr.frozen 0
      have s1 := hrr.frozen 1
      have s2 := hrr.frozen 2
      have s3 := hrr.frozen 3
      have s4 := hrr.frozen 4
      have s5 := hrr.frozen 5
      have s6 := hrr.frozen 6
      clear hb hu hrr
      go_wp2
      exact bodyPost_ret (v := .agg #[.int .i64 (stayR d fc).1, .int .i64 y1, .int .i64 y2, .slice b3 m3 k3, .slice b4 m4 k4, .slice b5 m5 k5, .slice b6 m6 k6]) (by simp [results, Tryz.results19, go_sem, t0, t1, t2, t3, t4, t5, t6]) rfl (by rw [HE.out]; exact AnsCR.pass HB2.out (by omega) hlr HBU.out HCU.out _ _ _ _ _ _ _)
    · have hfb : (fc != 0) = false := by simpa using hfc
      rw [if_pos hfc] at HEQ
      clear hfc
      go_wp2_with fail
      generalize (w2.alloc (.cells #[.int .i64 fc, .int .i64 fv] 28)) = W2 at *
      clear x0 x1 qHP0 qHP1 hfb
      refine (HWP.out _ HB2.out).mono ?_
      rintro e w3 ⟨rfl, hb⟩
      have hb' : Below W2.heap.size W2 (w3.alloc (.cells #[.int .i64 pc, .int .i64 pv] 28)) := hb.trans ((later1 _ _).mono hb.size)
      have HB3 : Hid (Below w.heap.size w (w3.alloc (.cells #[.int .i64 pc, .int .i64 pv] 28))) := HB2.out.trans (hb'.mono HB2.out.size)
      have HR3 : Hid (OwnRow (w3.alloc (.cells #[.int .i64 pc, .int .i64 pv] 28)) (w.heap.size + 1) 7 (cel zero7)) := HR2.out.later hb'
      have HX3 : Hid (Bx (w3.alloc (.cells #[.int .i64 pc, .int .i64 pv] 28)) w.heap.size [.slice a1 n1 c1, .slice a2 n2 c2]) := HX2.out.later hb'
      have HP3 : Hid (Bx (w3.alloc (.cells #[.int .i64 pc, .int .i64 pv] 28)) w2.heap.size [.int .i64 fc, .int .i64 fv]) := HP2.out.later hb'
      have HQ3 : Hid (Bx (w3.alloc (.cells #[.int .i64 pc, .int .i64 pv] 28)) w3.heap.size [.int .i64 pc, .int .i64 pv]) := Bx.new w3 [.int .i64 pc, .int .i64 pv] _
      have hz3 : w.heap.size + 1 < w3.heap.size := (HR2.out.later hb).lt
      clear hb hb'
      have x0 := HX3.out 0 _ rfl
      have x1 := HX3.out 1 _ rfl
      have qHP0 := HP3.out 0 _ rfl
      have qHP1 := HP3.out 1 _ rfl
      have qHQ0 := HQ3.out 0 _ rfl
      have qHQ1 := HQ3.out 1 _ rfl
      by_cases hpc : pc = 0
      rotate_left
      · have hpb : (pc != 0) = true := by simpa using hpc
        have HE : Hid (RES = stayR d pc) := by unfold Hid; rw [HEQ.out, if_neg hpc]
        clear hpc
        clear x0 x1 qHP0 qHP1 qHQ0 qHQ1
        have x0 := HX3.out 0 _ rfl
        have x1 := HX3.out 1 _ rfl
        have qHP0 := HP3.out 0 _ rfl
        have qHP1 := HP3.out 1 _ rfl
        have qHQ0 := HQ3.out 0 _ rfl
        have qHQ1 := HQ3.out 1 _ rfl
        go_wp2_with fail
        clear x0 x1 qHP0 qHP1 qHQ0 qHQ1
        refine (HST.out _ pc HB3.out).mono ?_
        rintro e u ⟨y1, y2, b3, m3, k3, b4, m4, k4, b5, m5, k5, b6, m6, k6, rfl, hb, hu⟩
        have hrr := HR3.out.later hb
        have hlr : w.heap.size + 1 < (w3.alloc (.cells #[.int .i64 pc, .int .i64 pv] 28)).heap.size := HR3.out.lt
        have HBU : Hid (Below (w3.alloc (.cells #[.int .i64 pc, .int .i64 pv] 28)).heap.size (w3.alloc (.cells #[.int .i64 pc, .int .i64 pv] 28)) u) := hb
        have HCU : Hid (CResU u (.int .i64 y1) (.int .i64 y2) (.slice b3 m3 k3) (.slice b4 m4 k4) (.slice b5 m5 k5) (.slice b6 m6 k6) (stayR d pc).2 (fresh (w3.alloc (.cells #[.int .i64 pc, .int .i64 pv] 28)) u)) := hu
        have t0 : u.cell? ⟨w.heap.size + 1, 0, none⟩ = some (.int .i64 0) := hrr.cell (i := 0) (by omega)
        have t1 : u.cell? ⟨w.heap.size + 1, 1, none⟩ = some (.int .i64 0) := hrr.cell (i := 1) (by omega)
        have t2 : u.cell? ⟨w.heap.size + 1, 2, none⟩ = some (.int .i64 0) := hrr.cell (i := 2) (by omega)
        have t3 : u.cell? ⟨w.heap.size + 1, 3, none⟩ = some (.slice none 0 0) := hrr.cell (i := 3) (by omega)
        have t4 : u.cell? ⟨w.heap.size + 1, 4, none⟩ = some (.slice none 0 0) := hrr.cell (i := 4) (by omega)
        have t5 : u.cell? ⟨w.heap.size + 1, 5, none⟩ = some (.slice none 0 0) := hrr.cell (i := 5) (by omega)
        have t6 : u.cell? ⟨w.heap.size + 1, 6, none⟩ = some (.slice none 0 0) := hrr.cell (i := 6) (by omega)
        have s0 := hrr.frozen 0
        have s1 := hrr.frozen 1
        have s2 := hrr.frozen 2
        have s3 := hrr.frozen 3
        have s4 := hrr.frozen 4
        have s5 := hrr.frozen 5
        have s6 := hrr.frozen 6
        clear hb hu hrr
        go_wp2
        exact bodyPost_ret (v := .agg #[.int .i64 (stayR d pc).1, .int .i64 y1, .int .i64 y2, .slice b3 m3 k3, .slice b4 m4 k4, .slice b5 m5 k5, .slice b6 m6 k6]) (by simp [results, Tryz.results19, go_sem, t0, t1, t2, t3, t4, t5, t6]) rfl (by rw [HE.out]; exact AnsCR.pass HB3.out (by omega) hlr HBU.out HCU.out _ _ _ _ _ _ _)
      · have hpb : (pc != 0) = false := by simpa using hpc
        rw [if_pos hpc] at HEQ
        clear hpc
        go_wp2_with fail
        generalize (w3.alloc (.cells #[.int .i64 pc, .int .i64 pv] 28)) = W3 at *
        have HAN : Hid (∀ W, Below W3.heap.size W3 W → Calls Tryz.prog 41 #[.agg #[.slice a1 n1 c1, .slice a2 n2 c2], .int .i64 pv, .string nm, .int .i64 fv] W (AnsFR W (addR d pv nm fv))) := fun W hW => HAD.out W pv fv (HB3.out.trans (hW.mono HB3.out.size))
        obtain ⟨ar, har⟩ : ∃ r, addR d pv nm fv = r := ⟨_, rfl⟩
        rw [har] at HAN HEQ
        clear har HAD hpb
        clear x0 x1 qHP0 qHP1 qHQ0 qHQ1
        have HA1 : Hid (Below W3.heap.size W3 W3.drew) := (Below.refl _ _).drew
        have HA2 : Hid (Below W3.heap.size W3 (W3.drew.alloc (.cells #[.int .i64 0, .slice none 0 0, .slice none 0 0] 76))) := (Below.refl _ _).drew.trans (later1 W3.drew _)
        have HZ2 : Hid (OwnRow (W3.drew.alloc (.cells #[.int .i64 0, .slice none 0 0, .slice none 0 0] 76)) W3.heap.size 3 (cel zero3)) := row3 W3.drew _
        have HLX : Hid (∀ W, Below W3.heap.size W3 W → W.cell? ⟨w.heap.size, 0, none⟩ = some (.slice a1 n1 c1) ∧ W.cell? ⟨w.heap.size, 1, none⟩ = some (.slice a2 n2 c2) ∧ W.cell? ⟨w3.heap.size, 1, none⟩ = some (.int .i64 pv) ∧ W.cell? ⟨w2.heap.size, 1, none⟩ = some (.int .i64 fv)) := fun W hW => ⟨(HX3.out.later hW) 0 _ rfl, (HX3.out.later hW) 1 _ rfl, (HQ3.out.later hW) 1 _ rfl, (HP3.out.later hW) 1 _ rfl⟩
        have hq3 : w3.heap.size < W3.heap.size := HQ3.out.lt
        have hp3 : w2.heap.size < W3.heap.size := HP3.out.lt
        have hx3 : w.heap.size < W3.heap.size := HX3.out.lt
        obtain ⟨l0, l1, l2, l3⟩ := HLX.out W3 (Below.refl _ _)
        have mq0 : w.heap.size ≠ W3.heap.size := by omega
        have mp0 : W3.heap.size ≠ w.heap.size := by omega
        have mq2 : w2.heap.size ≠ W3.heap.size := by omega
        have mp2 : W3.heap.size ≠ w2.heap.size := by omega
        have mq3 : w3.heap.size ≠ W3.heap.size := by omega
        have mp3 : W3.heap.size ≠ w3.heap.size := by omega
        go_cut [10] from 37 (fun s10 wx => ∃ g a5 n5 c5 a6 n6 c6, s10 = .pointer (some ⟨g, 0, none⟩) ∧ AddedS W3 wx ar g a5 n5 c5 a6 n6 c6)
        case first =>
          have hft := field_txt1
          go_wp2_with fail
          go_region_held3 (fun W => W.cell? ⟨w.heap.size, 0, none⟩ = some (.slice a1 n1 c1) ∧ W.cell? ⟨w.heap.size, 1, none⟩ = some (.slice a2 n2 c2) ∧ W.cell? ⟨w3.heap.size, 1, none⟩ = some (.int .i64 pv) ∧ W.cell? ⟨w2.heap.size, 1, none⟩ = some (.int .i64 fv)) (go_keep) (first
            | (go_at_call 42; refine (HLO.out W3.drew).mono ?_; rintro e w4 ⟨rfl, hb4⟩
               have HB4 : Hid (Below W3.heap.size W3 w4) := HA1.out.trans (hb4.mono HA1.out.size)
               obtain ⟨k0, k1, k2, k3⟩ := HLX.out w4 HB4.out
               clear hb4)
            | (go_at_call 42; refine (HLO.out (W3.drew.alloc (.cells #[.int .i64 0, .slice none 0 0, .slice none 0 0] 76))).mono ?_; rintro e w4 ⟨rfl, hb4⟩
               have HB4 : Hid (Below W3.heap.size W3 w4) := HA2.out.trans (hb4.mono HA2.out.size)
               have HRZ : Hid (OwnRow w4 W3.heap.size 3 (cel zero3)) := HZ2.out.later hb4
               obtain ⟨k0, k1, k2, k3⟩ := HLX.out w4 HB4.out
               clear hb4)
            | (go_at_call 41; refine (HAN.out w4 HB4.out).mono ?_; rintro e w5 ⟨a5, n5, c5, a6, n6, c6, rfl, hb5, hf5⟩
               obtain ⟨j0, j1, j2, j3⟩ := HLX.out w5 (HB4.out.trans (hb5.mono HB4.out.size))
               have HPA : Hid (∀ t, AddedS W3 (w5.alloc (.cells #[.int .i64 ar.1, .slice a5 n5 c5, .slice a6 n6 c6] t)) ar w5.heap.size a5 n5 c5 a6 n6 c6) := fun t => AddedS.after HB4.out hb5 hf5 t
               try have HPB : Hid (AddedS W3 (((w5.setCell ⟨W3.heap.size, 0, none⟩ (.int .i64 ar.1)).setCell ⟨W3.heap.size, 1, none⟩ (.slice a5 n5 c5)).setCell ⟨W3.heap.size, 2, none⟩ (.slice a6 n6 c6)) ar W3.heap.size a5 n5 c5 a6 n6 c6) := AddedS.ahead HB4.out (Nat.le_refl _) HRZ.out hb5 hf5
               try have hrz := HRZ.out.later hb5
               try have u0 : w5.cell? ⟨W3.heap.size, 0, none⟩ = some (.int .i64 0) := hrz.cell (i := 0) (by omega)
               try have u1 : w5.cell? ⟨W3.heap.size, 1, none⟩ = some (.slice none 0 0) := hrz.cell (i := 1) (by omega)
               try have u2 : w5.cell? ⟨W3.heap.size, 2, none⟩ = some (.slice none 0 0) := hrz.cell (i := 2) (by omega)
               try have uf0 := hrz.frozen 0
               try have uf1 := hrz.frozen 1
               try have uf2 := hrz.frozen 2
               try clear hrz
               clear hb5 hf5)
            | (go_at_call 41; refine (HAN.out (w4.alloc (.cells #[.int .i64 0, .slice none 0 0, .slice none 0 0] 76)) (HB4.out.trans ((later1 _ _).mono HB4.out.size))).mono ?_; rintro e w5 ⟨a5, n5, c5, a6, n6, c6, rfl, hb5, hf5⟩
               obtain ⟨j0, j1, j2, j3⟩ := HLX.out w5 ((HB4.out.trans ((later1 _ _).mono HB4.out.size)).trans (hb5.mono (HB4.out.trans ((later1 _ _).mono HB4.out.size)).size))
               have nq0 : w.heap.size ≠ w4.heap.size := by have := HB4.out.size; omega
               have np0 : w4.heap.size ≠ w.heap.size := by have := HB4.out.size; omega
               have nq2 : w2.heap.size ≠ w4.heap.size := by have := HB4.out.size; omega
               have np2 : w4.heap.size ≠ w2.heap.size := by have := HB4.out.size; omega
               have nq3 : w3.heap.size ≠ w4.heap.size := by have := HB4.out.size; omega
               have np3 : w4.heap.size ≠ w3.heap.size := by have := HB4.out.size; omega
               have HPC : Hid (AddedS W3 (((w5.setCell ⟨w4.heap.size, 0, none⟩ (.int .i64 ar.1)).setCell ⟨w4.heap.size, 1, none⟩ (.slice a5 n5 c5)).setCell ⟨w4.heap.size, 2, none⟩ (.slice a6 n6 c6)) ar w4.heap.size a5 n5 c5 a6 n6 c6) := AddedS.ahead (HB4.out.trans ((later1 _ _).mono HB4.out.size)) HB4.out.size (row3 w4 _) hb5 hf5
               have hrz := (row3 w4 76).later hb5
               have u0 : w5.cell? ⟨w4.heap.size, 0, none⟩ = some (.int .i64 0) := hrz.cell (i := 0) (by omega)
               have u1 : w5.cell? ⟨w4.heap.size, 1, none⟩ = some (.slice none 0 0) := hrz.cell (i := 1) (by omega)
               have u2 : w5.cell? ⟨w4.heap.size, 2, none⟩ = some (.slice none 0 0) := hrz.cell (i := 2) (by omega)
               have uf0 := hrz.frozen 0
               have uf1 := hrz.frozen 1
               have uf2 := hrz.frozen 2
               clear hrz hb5 hf5)
            | fail)
          all_goals
            go_wp2
            go_meet
            case rel => first
              | exact ⟨_, a5, n5, c5, a6, n6, c6, rfl, HPA.out _⟩
              | exact ⟨_, a5, n5, c5, a6, n6, c6, rfl, HPB.out⟩
              | exact ⟨_, a5, n5, c5, a6, n6, c6, rfl, HPC.out⟩
        case rest =>
          obtain ⟨g, a5, n5, c5, a6, n6, c6, rfl, hbw, hg, hbx, hfu⟩ := hcut
          have HB4 : Hid (Below w.heap.size w wc) := HB3.out.trans (hbw.mono HB3.out.size)
          have HR4 : Hid (OwnRow wc (w.heap.size + 1) 7 (cel zero7)) := HR3.out.later hbw
          have HX4 : Hid (Bx wc w.heap.size [.slice a1 n1 c1, .slice a2 n2 c2]) := HX3.out.later hbw
          have HG4 : Hid (Bx wc g [.int .i64 ar.1, .slice a5 n5 c5, .slice a6 n6 c6]) := hbx
          have HFU : Hid (FsU wc (.slice a5 n5 c5) (.slice a6 n6 c6) ar.2 (fun b => W3.heap.size ≤ b ∧ b < wc.heap.size ∧ b ≠ g)) := hfu
          have hz4 : w.heap.size + 1 < W3.heap.size := HR3.out.lt
          clear hbw hbx hfu HLX HAN HLO l0 l1 l2 l3
          obtain ⟨rc, rd⟩ := ar
          dsimp only at HEQ HG4 HFU
          by_cases hrc : rc = 0
          rotate_left
          · have hrb : (rc != 0) = true := by simpa using hrc
            have HE : Hid (RES = stayR d rc) := by unfold Hid; rw [HEQ.out, if_neg hrc]
            clear hrc
            have x0 := HX4.out 0 _ rfl
            have x1 := HX4.out 1 _ rfl
            have qHG0 := HG4.out 0 _ rfl
            have qHG1 := HG4.out 1 _ rfl
            have qHG2 := HG4.out 2 _ rfl
            go_wp2_with fail
            clear x0 x1 qHG0 qHG1 qHG2
            refine (HST.out _ rc HB4.out).mono ?_
            rintro e u ⟨y1, y2, b3, m3, k3, b4, m4, k4, b5, m5, k5, b6, m6, k6, rfl, hb, hu⟩
            have hrr := HR4.out.later hb
            have hlr : w.heap.size + 1 < wc.heap.size := HR4.out.lt
            have HBU : Hid (Below wc.heap.size wc u) := hb
            have HCU : Hid (CResU u (.int .i64 y1) (.int .i64 y2) (.slice b3 m3 k3) (.slice b4 m4 k4) (.slice b5 m5 k5) (.slice b6 m6 k6) (stayR d rc).2 (fresh wc u)) := hu
            have t0 : u.cell? ⟨w.heap.size + 1, 0, none⟩ = some (.int .i64 0) := hrr.cell (i := 0) (by omega)
            have t1 : u.cell? ⟨w.heap.size + 1, 1, none⟩ = some (.int .i64 0) := hrr.cell (i := 1) (by omega)
            have t2 : u.cell? ⟨w.heap.size + 1, 2, none⟩ = some (.int .i64 0) := hrr.cell (i := 2) (by omega)
            have t3 : u.cell? ⟨w.heap.size + 1, 3, none⟩ = some (.slice none 0 0) := hrr.cell (i := 3) (by omega)
            have t4 : u.cell? ⟨w.heap.size + 1, 4, none⟩ = some (.slice none 0 0) := hrr.cell (i := 4) (by omega)
            have t5 : u.cell? ⟨w.heap.size + 1, 5, none⟩ = some (.slice none 0 0) := hrr.cell (i := 5) (by omega)
            have t6 : u.cell? ⟨w.heap.size + 1, 6, none⟩ = some (.slice none 0 0) := hrr.cell (i := 6) (by omega)
            have s0 := hrr.frozen 0
            have s1 := hrr.frozen 1
            have s2 := hrr.frozen 2
            have s3 := hrr.frozen 3
            have s4 := hrr.frozen 4
            have s5 := hrr.frozen 5
            have s6 := hrr.frozen 6
            clear hb hu hrr
            go_wp2
            exact bodyPost_ret (v := .agg #[.int .i64 (stayR d rc).1, .int .i64 y1, .int .i64 y2, .slice b3 m3 k3, .slice b4 m4 k4, .slice b5 m5 k5, .slice b6 m6 k6]) (by simp [results, Tryz.results19, go_sem, t0, t1, t2, t3, t4, t5, t6]) rfl (by rw [HE.out]; exact AnsCR.pass HB4.out (by omega) hlr HBU.out HCU.out _ _ _ _ _ _ _)
          · have hrb : (rc != 0) = false := by simpa using hrc
            have HE : Hid (RES = (0, 0, 0, [], [], rd)) := by unfold Hid; rw [HEQ.out, if_pos hrc]
            clear hrc
            have hrr := HR4.out
            have t0 : wc.cell? ⟨w.heap.size + 1, 0, none⟩ = some (.int .i64 0) := hrr.cell (i := 0) (by omega)
            have t1 : wc.cell? ⟨w.heap.size + 1, 1, none⟩ = some (.int .i64 0) := hrr.cell (i := 1) (by omega)
            have t2 : wc.cell? ⟨w.heap.size + 1, 2, none⟩ = some (.int .i64 0) := hrr.cell (i := 2) (by omega)
            have t3 : wc.cell? ⟨w.heap.size + 1, 3, none⟩ = some (.slice none 0 0) := hrr.cell (i := 3) (by omega)
            have t4 : wc.cell? ⟨w.heap.size + 1, 4, none⟩ = some (.slice none 0 0) := hrr.cell (i := 4) (by omega)
            have t5 : wc.cell? ⟨w.heap.size + 1, 5, none⟩ = some (.slice none 0 0) := hrr.cell (i := 5) (by omega)
            have t6 : wc.cell? ⟨w.heap.size + 1, 6, none⟩ = some (.slice none 0 0) := hrr.cell (i := 6) (by omega)
            have s0 := hrr.frozen 0
            have s1 := hrr.frozen 1
            have s2 := hrr.frozen 2
            have s3 := hrr.frozen 3
            have s4 := hrr.frozen 4
            have s5 := hrr.frozen 5
            have s6 := hrr.frozen 6
            have x0 := HX4.out 0 _ rfl
            have x1 := HX4.out 1 _ rfl
            have qHG0 := HG4.out 0 _ rfl
            have qHG1 := HG4.out 1 _ rfl
            have qHG2 := HG4.out 2 _ rfl
            clear hrr
            go_wp2
            exact bodyPost_ret (v := .agg #[.int .i64 0, .int .i64 0, .int .i64 0, .slice none 0 0, .slice none 0 0, .slice a5 n5 c5, .slice a6 n6 c6]) (by simp [results, Tryz.results19, go_sem, t0, t1, t2, t3, t4, t5, t6]) rfl (by rw [HE.out]; exact AnsCR.put HB4.out (by omega) (CResU.fs 0 0 (HFU.out.mono fun b hh => ⟨by omega, hh.2.1, by omega⟩)) _ _ _ _ _ _ _)
end Go.Proofs.YtaibcofendjnnaaGreatDoor

namespace Go.Proofs.YtaibcofendjnnaaGreatDoor
open Go.RowKit
set_option maxRecDepth 100000

theorem s5_chg (w : World) (b k : Nat) (x0 x1 x2 x3 x4 : Value) : Chg (fun c => c = b) w (set5F w b k x0 x1 x2 x3 x4) := by
  have h0 : Chg (fun c => c = b) w w := Chg.refl _ _
  have h1 := Chg.set (F := fun c => c = b) h0 rfl k x0
  have h2 := Chg.set (F := fun c => c = b) h1 rfl (k + 1) x1
  have h3 := Chg.set (F := fun c => c = b) h2 rfl (k + 2) x2
  have h4 := Chg.set (F := fun c => c = b) h3 rfl (k + 3) x3
  exact Chg.set (F := fun c => c = b) h4 rfl (k + 4) x4
theorem s5_fs {w : World} {bI n cI bD cD : Nat} {d : FD} {F G : Nat → Prop} (hfs : FsS w bI n cI bD 20 cD d F) (j : Nat) (hj : j < n) (x : ID) (vB vE : Value) (hv : InoU w (.int .i64 x.1) (.int .i64 x.2.1) (.int .i64 x.2.2.1) vB vE x G) (hG : ∀ c, G c → ¬ F c ∧ c < w.heap.size) : FsS (set5F w bI (j * 5) (.int .i64 x.1) (.int .i64 x.2.1) (.int .i64 x.2.2.1) vB vE) bI n cI bD 20 cD (d.1.set j x, d.2) (fun c => F c ∨ G c) := by
  have hne := hfs.ne
  have hl := hfs.len.1
  refine hfs.putI j hj x vB vE (fun u hu => ?_) (s5_chg w bI (j * 5) _ _ _ _ _) (hv.keep fun c hc hlt => (s5_chg w bI (j * 5) _ _ _ _ _).block c hlt fun e => (hG c hc).1 (e ▸ hne.2.1.1)) (fun c hc => ⟨(hG c hc).1, by rw [set5_size]; exact (hG c hc).2⟩)
  exact (hu.five (j * 5) _ _ _ _ _).congr fun c _ => (inCell_set d.1 u j (by omega) x vB vE c).symm

end Go.Proofs.YtaibcofendjnnaaGreatDoor

namespace Go.Proofs.YtaibcofendjnnaaGreatDoor
open Go.RowKit
set_option maxRecDepth 100000

theorem spanInos_each {ds : List ID} {m : Nat} (h : ∀ i : Nat, spanIno (ds[i]?.getD id0) ≤ m) : spanInos ds ≤ (3 + m) * ds.length := by
  unfold spanInos isp
  induction ds with
  | nil => simp
  | cons x ds ih =>
    have h0 := h 0
    have := ih fun i => by have := h (i + 1); simpa using this
    simp at h0
    simp only [List.map_cons, List.sum_cons, List.length_cons, Nat.mul_add, Nat.mul_one]
    omega
theorem fsF_spans {d : FD} (h : fsF d = 0) (i : Nat) : spanIno (d.1[i]?.getD id0) ≤ 16 := by
  obtain ⟨h1, _, _, _, _⟩ := fsE_zero (fsF_zero h)
  by_cases hi : i < d.1.length
  · have hz := ino_size (ins_ino h1 i hi)
    have h6 := ino_six (ins_ino h1 i hi)
    unfold spanIno
    omega
  · rw [List.getElem?_eq_none (by omega)]
    simp [spanIno, id0]
theorem set_span {ds : List ID} {m : Nat} (h : ∀ i : Nat, spanIno (ds[i]?.getD id0) ≤ m) (j : Nat) (x : ID) (hx : spanIno x ≤ m) (i : Nat) : spanIno ((ds.set j x)[i]?.getD id0) ≤ m := by
  rw [List.getElem?_set]
  by_cases e : j = i
  · rw [if_pos e]
    by_cases hl : j < ds.length
    · rw [if_pos hl]; exact hx
    · rw [if_neg hl]; simp [spanIno, id0]
  · rw [if_neg e]; exact h i
theorem noFs_span (c : Int) : spanFs (noFs c).2 = 0 := by simp [noFs, spanFs, spanInos, isp, ylens]
theorem dropR_span (d : FD) (x : Int) : spanFs (dropR d x).2 ≤ 1000 := by
  unfold dropR
  by_cases hc : (bytR d x).1 = 0
  · rw [if_pos hc]
    have hs := sound hc
    show spanFs (dropD d x.toNat) ≤ 1000
    unfold spanFs dropD
    have e1 := spanInos_each (set_span (fsF_spans hs.fs) x.toNat id0 (by simp [spanIno, id0]))
    have e2 := ylens_eight (clrK_le hs.eight (blkA d x.toNat) (blkA d x.toNat).length)
    rw [clrK_length, hs.dat] at e2
    rw [List.length_set] at e1
    have := hs.ten
    dsimp only
    omega
  · rw [if_neg hc, noFs_span]; omega
end Go.Proofs.YtaibcofendjnnaaGreatDoor

namespace Go.Proofs.YtaibcofendjnnaaGreatDoor
open Go.RowKit
set_option maxRecDepth 100000

theorem ins_spans {ds : List ID} (h1 : insF ds = 0) (i : Nat) : spanIno (ds[i]?.getD id0) ≤ 16 := by
  by_cases hi : i < ds.length
  · have hz := ino_size (ins_ino h1 i hi)
    have h6 := ino_six (ins_ino h1 i hi)
    unfold spanIno
    omega
  · rw [List.getElem?_eq_none (by omega)]
    simp [spanIno, id0]
theorem insE_len (es : List EN) (k : Nat) (e : EN) : (insE es k e).length = es.length + 1 := by
  unfold insE
  rw [List.length_append, List.length_append, List.length_take, List.length_drop]
  simp
  omega
theorem addR_span (d : FD) (x : Int) (s : ByteArray) (y : Int) : spanFs (addR d x s y).2 ≤ 1000 := by
  unfold addR
  by_cases hc : dirN d x s = 0
  · rw [if_pos hc]
    have hs := dirS (dirN_in hc)
    generalize x.toNat = j at *
    unfold addQ
    by_cases h1 : idxE (entA d j) s < (entA d j).length
    · rw [if_pos h1, noFs_span]; omega
    · rw [if_neg h1]
      by_cases h2 : 0 ≤ y ∧ y < (d.1.length : Int) ∧ ¬ kindAt d.1 y.toNat = 0
      · rw [if_pos h2]
        by_cases h3 : (entA d j).length = 6 ∨ (kindAt d.1 y.toNat = 1 ∧ 60 ≤ (d.1[y.toNat]?.getD id0).2.1)
        · rw [if_pos h3, noFs_span]; omega
        · rw [if_neg h3]
          show spanFs (addD d j s y.toNat) ≤ 1000
          have hl := insE_len (entA d j) (plcE (entA d j) s) (s, ((y.toNat : Nat) : Int))
          have h6 := hs.six
          have e1 := set_span (ins_spans hs.ins) j ((d.1[j]?.getD id0).1, (d.1[j]?.getD id0).2.1, (d.1[j]?.getD id0).2.2.1, [], insE (entA d j) (plcE (entA d j) s) (s, ((y.toNat : Nat) : Int))) (by unfold spanIno; simp only [List.length_nil]; rw [hl]; omega)
          have e2 := ylens_eight hs.eight
          have hd := hs.dat
          have ht := hs.ten
          unfold addD
          by_cases h4 : kindAt d.1 y.toNat = 1
          · rw [if_pos h4]
            unfold lnkD entD spanFs
            dsimp only
            have e3 := spanInos_each (set_span e1 y.toNat (((d.1.set j ((d.1[j]?.getD id0).1, (d.1[j]?.getD id0).2.1, (d.1[j]?.getD id0).2.2.1, [], insE (entA d j) (plcE (entA d j) s) (s, ((y.toNat : Nat) : Int))))[y.toNat]?.getD id0).1, (d.1[y.toNat]?.getD id0).2.1 + 1, ((d.1.set j ((d.1[j]?.getD id0).1, (d.1[j]?.getD id0).2.1, (d.1[j]?.getD id0).2.2.1, [], insE (entA d j) (plcE (entA d j) s) (s, ((y.toNat : Nat) : Int))))[y.toNat]?.getD id0).2.2) (by have := e1 y.toNat; unfold spanIno at this ⊢; exact this))
            rw [List.length_set, List.length_set] at e3
            omega
          · rw [if_neg h4]
            unfold entD spanFs
            dsimp only
            have e3 := spanInos_each e1
            rw [List.length_set] at e3
            omega
      · rw [if_neg h2, noFs_span]; omega
  · rw [if_neg hc, noFs_span]; omega
section
variable {P : Program} {w : World}
/-- append within a region that draws its order: what it comes to is told by a property. -/
theorem step_append_ex {ops : Array Oper} {o : Oper} {a : Act} {K : Act → World → Prop} {Q : Exit → Act → World → Prop} {E : Prop} (hgd : o.guard = none) (s x : Operand) (t : TypeId)
    (ho : o.op = .call { callee := .builtin .append, args := #[s, x], argTypes := #[t, t] }) (v y : Value) (hs : a.eval s = v) (hx : a.eval x = y) (R : Value → World → Prop)
    (hr : ∃ v' w', (Builtin.append_ #[t, t] o.type #[v, y]).run P w = .ok v' w' ∧ R v' w') (h : ∀ v' w', R v' w' → K (a.put o.dst v') w') : if Region.wanted o (yielded ops a.tmps) = true then Oper.wp P o a w K Q else E := by
  obtain ⟨v', w', h1, h2⟩ := hr
  exact step_append_run hgd s x t ho v y hs hx v' w' h1 (h v' w' h2)
end
end Go.Proofs.YtaibcofendjnnaaGreatDoor

namespace Go.Proofs.YtaibcofendjnnaaGreatDoor
open Go.RowKit
set_option maxRecDepth 100000

theorem AtN.keepB {w X : World} {b n : Nat} {es : List EN} (h : AtN w (some ⟨b, 0, none⟩) n es) (e : X.heap[b]? = w.heap[b]?) : AtN X (some ⟨b, 0, none⟩) n es := fun k hk => by
  obtain ⟨b', off, e1, c0, c1⟩ := h k hk
  simp only [Option.some.injEq, Addr.mk.injEq, and_true] at e1
  obtain ⟨rfl, rfl⟩ := e1
  exact ⟨b, 0, rfl, (World.cell?_of_block (w := w) e).trans c0, (World.cell?_of_block (w := w) e).trans c1⟩
/-- Entries behind those that are there; all other blocks are as they were. -/
theorem WdE.pushO (w : World) (ty : TypeId) (n₀ : Nat) (v : Value) (es fs : List EN) (h : WdE w n₀ v es) (hn₀ : n₀ ≤ w.heap.size) (a : Option Addr) (m c : Nat) (hm : fs.length = m) (hc : AtN w a m fs) (hl : es.length + m ≤ 1048576) :
    ∃ v' X, (Builtin.append_ #[68, 68] ty #[v, .slice a m c]).run Tryz.prog w = .ok v' X ∧ (WdE X n₀ v' (es ++ fs) ∧ Below n₀ w X ∧ ∀ b, b < w.heap.size → ¬ v.ownBlock = some b → X.heap[b]? = w.heap[b]?) := by
  subst hm
  obtain ⟨i, hi, h1, h2, h3⟩ := Tryz.infoEnt'
  by_cases h0 : fs.length = 0
  · have hfs : fs = [] := List.eq_nil_of_length_eq_zero h0
    subst hfs
    obtain ⟨av, cv, rfl⟩ := h.shape
    refine ⟨_, w, ?_, by rw [List.append_nil]; exact h, Below.refl _ _, fun _ _ _ => rfl⟩
    have hcv : es.length ≤ cv := by
      obtain ⟨_, h | ⟨g, cap, cur, e, hb, hh, hnc, _⟩⟩ := h
      · have := h.2; omega
      · simp only [Value.slice.injEq] at e; omega
    cases a <;> cases av <;> simp [Builtin.append_, run_underlying Tryz.underlying68, sizeOf, typeInfo, hi, Builtin.lenOf, Builtin.firstCells, storeCells, loadCells, loadCellsFrom, hcv]
  · obtain ⟨b, off, rfl, _⟩ := hc 0 (by omega)
    obtain ⟨v', X, hr, ho, hg, _⟩ := run_append_own_wide (P := Tryz.prog) w n₀ 68 ty 128 i _ 2 24 Tryz.underlying68 hi h1 h2 h3 rfl (by decide) v es.length (enCells es) h ⟨b, off, none⟩ fs.length c (enCells fs) (enCells_length fs) (fun j u hu => hc.cells rfl j u hu) (enCells_one fs) (by unfold maxLen; omega) (by omega) hn₀
    refine ⟨v', X, hr, ?_, below_grown hg hn₀ (fun k hk => ?_), fun b hb hne => hg.block b hb (fun e => hne e.symm)⟩
    · unfold WdE
      rw [List.length_append, enCells_append]
      exact ho
    · rcases h.2 with ⟨rfl, _⟩ | ⟨g, cap, cur, rfl, hb, _⟩
      · simp [Value.ownBlock] at hk
      · simp [Value.ownBlock] at hk; omega

set_option maxHeartbeats 6400000 in
theorem l8Put_any (w : World) (aE : Option Addr) (n cE : Nat) (es : List EN) (s : ByteArray) (y : Int) (hn : es.length = n) (hc : n ≤ cE) (h6 : n ≤ 6) (hat : AtN w aE n es) :
    Calls Tryz.prog 111 #[.slice aE n cE, .agg #[.string s, .int .i64 y]] w fun e w' => ∃ v, e = .returned v ∧ WdE w' w.heap.size v (insE es (plcE es s) (s, y)) ∧ Below w.heap.size w w' := by
  have HAT : Hid (AtN w aE n es) := hat
  have HN : Hid (es.length = n) := hn
  have bx0 : (w.alloc (.cells #[.string s, .int .i64 y] 128)).cell? ⟨w.heap.size, 0, none⟩ = some (.string s) := by rw [new_cell]; rfl
  have bx1 : (w.alloc (.cells #[.string s, .int .i64 y] 128)).cell? ⟨w.heap.size, 1, none⟩ = some (.int .i64 y) := by rw [new_cell]; rfl
  clear hat hn
  go_enter Tryz.func111, Tryz.ntmps111
  go_wp2_with fail
  go_loopw [5] (fun i wr => ∃ k q : Nat, k ≤ n ∧ i = .int .i64 k ∧ wr = (w.alloc (.cells #[.string s, .int .i64 y] 128)).drewN q ∧ ∀ j, j < k → geE s (es[j]?.getD en0) = false) (fun i _ => n - (intOf i).toNat)
  case atStart => exact ⟨0, 0, Nat.zero_le _, rfl, rfl, fun j hj => by omega⟩
  case round =>
    obtain ⟨k, q, hk, rfl, rfl, hz⟩ := hrel
    have HZ : Hid (∀ j, j < k → geE s (es[j]?.getD en0) = false) := hz
    clear hz
    by_cases hlt : k < n
    · obtain ⟨b, off, rfl, c0, _⟩ := HAT.out k hlt
      replace c0 := cell_later (later1 w (.cells #[.string s, .int .i64 y] 128)) c0
      have hd : decide ((k : Int) < (n : Int)) = true := by simpa using hlt
      cases hge : geE s (es[k]?.getD en0) with
      | false =>
        have HNX : Hid (∀ j, j < k + 1 → geE s (es[j]?.getD en0) = false) := fun j hj => by
          by_cases e : j = k
          · rw [e]; exact hge
          · exact HZ.out j (by omega)
        have hlt2 : Op.bytesLess (es[k]?.getD en0).1.toList s.toList = true := by unfold geE at hge; simpa using hge
        clear hge HZ
        generalize (es[k]?.getD en0).1 = x at *
        go_wp2_with fail
        go_quiet (fail)
        go_wp2
        go_roundw
        case rel => exact ⟨k + 1, _, by omega, by go_num, by first | rfl | rw [World.drewN_drewN], HNX.out⟩
        case measure => simp [intOf]; omega
      | true =>
        have HP : Hid (plcE es s = k) := findIdx_is (by rw [HN.out]; exact hlt) hge HZ.out
        have hlt2 : Op.bytesLess (es[k]?.getD en0).1.toList s.toList = false := by unfold geE at hge; simpa using hge
        clear hge HZ
        generalize (es[k]?.getD en0).1 = x at *
        go_wp2_with fail
        go_quiet (fail)
        go_wp2_with fail
        have hlt1 : (es.take k).length = k := by rw [List.length_take, HN.out]; omega
        have HL1 : Hid ((es.take k).length = k) := hlt1
        have HL2 : Hid ((es.take k ++ [(s, y)]).length = k + 1) := by unfold Hid; rw [List.length_append, hlt1]; rfl
        have HTK : Hid (∀ W, Below w.heap.size w W → AtN W (some ⟨b, off, none⟩) k (es.take k)) := fun W hW => ((HAT.out.take k hk).later hW)
        have HTL : Hid (∀ W, Below w.heap.size w W → AtN W (some ⟨b, off + k * 2, none⟩) (n - k) (es.drop k)) := fun W hW => (HAT.out.drop k).later hW
        have HDL : Hid ((es.drop k).length = n - k) := by unfold Hid; rw [List.length_drop, HN.out]
        have HWB : Hid (Below w.heap.size w (((w.alloc (.cells #[.string s, .int .i64 y] 128)).drewN q).drewN nq)) := below_drewN (below_drewN (later1 _ _) q) nq
        have HSB : Hid (w.heap.size ≤ ((((w.alloc (.cells #[.string s, .int .i64 y] 128)).drewN q).drewN nq)).heap.size) := HWB.out.size
        have bw0 : ((((w.alloc (.cells #[.string s, .int .i64 y] 128)).drewN q).drewN nq)).cell? ⟨w.heap.size, 0, none⟩ = some (.string s) := bx0
        have bw1 : ((((w.alloc (.cells #[.string s, .int .i64 y] 128)).drewN q).drewN nq)).cell? ⟨w.heap.size, 1, none⟩ = some (.int .i64 y) := bx1
        have hkc : k ≤ cE := by omega
        have hcne : ¬ cE = k := by omega
        have hkI : (k : Int) ≤ (n : Int) := by omega
        have HF1 : Hid True := trivial
        clear hlt1 bx0 bx1
        generalize (((w.alloc (.cells #[.string s, .int .i64 y] 128)).drewN q).drewN nq) = WB at *
        have hlw : w.heap.size < WB.heap.size := World.block_lt_of_cell? _ _ bw0
        have HA1 : Hid (WdE (WB.drew.alloc (.cells #[] 128)) WB.heap.size (.slice (some ⟨WB.heap.size, 0, none⟩) 0 0) []) := WdE.lit0 WB.drew WB.heap.size (Nat.le_refl _)
        have HA2 : Hid (WdE ((WB.drew.alloc (.cells #[.string s, .int .i64 y] 128)).alloc (.cells #[] 128)) WB.heap.size (.slice (some ⟨WB.heap.size + 1, 0, none⟩) 0 0) []) := by
          have := WdE.lit0 (WB.drew.alloc (.cells #[.string s, .int .i64 y] 128)) WB.heap.size (by simp)
          rw [show (WB.drew.alloc (.cells #[.string s, .int .i64 y] 128)).heap.size = WB.heap.size + 1 by simp] at this
          exact this
        have HC1 : Hid (AtN ((WB.drew.alloc (.cells #[] 128)).alloc (.cells #[.string s, .int .i64 y] 128)) (some ⟨WB.heap.size + 1, 0, none⟩) 1 [(s, y)]) := by
          have := lit1_E (WB.drew.alloc (.cells #[] 128)) s y
          rw [show (WB.drew.alloc (.cells #[] 128)).heap.size = WB.heap.size + 1 by simp] at this
          exact this
        have HC2 : Hid (AtN ((WB.drew.alloc (.cells #[.string s, .int .i64 y] 128)).alloc (.cells #[] 128)) (some ⟨WB.heap.size, 0, none⟩) 1 [(s, y)]) := (lit1_E WB.drew s y).later (later1 _ _)
        go_region_law (first
          | (have f1 := HF1.out; clear HF1 f1
             refine step_append_ex rfl _ _ 68 rfl _ _ rfl rfl _ (WdE.pushO _ 68 WB.heap.size _ [] (es.take k) (by first | exact HA1.out | exact HA1.out.later (later1 _ _) | exact HA2.out) (by first | (simp; done) | (simp; omega)) _ _ _ HL1.out (HTK.out _ (by first | exact HWB.out.drew.trans ((later1 _ _).mono HSB.out) | exact HWB.out.drew.trans ((later2 _ _ _).mono HSB.out))) (by simp; omega)) ?_
             rintro v1 X1 ⟨hw1, hb1, ho1⟩
             rw [List.nil_append] at hw1
             obtain ⟨p1, c1, e1⟩ := hw1.shape
             rw [HL1.out] at e1
             subst e1
             have HW1 : Hid (WdE X1 WB.heap.size (.slice p1 k c1) (es.take k)) := hw1
             have HX1 : Hid (Below WB.heap.size WB X1) := by first | exact (Below.refl _ _).drew.trans (((later1 WB.drew _).mono (Nat.le_refl _)).trans hb1) | exact (Below.refl _ _).drew.trans (((later2 WB.drew _ _).mono (Nat.le_refl _)).trans hb1)
             try (have HBB : Hid (AtN X1 (some ⟨WB.heap.size + 1, 0, none⟩) 1 [(s, y)]) := HC1.out.keepB (ho1 (WB.heap.size + 1) (by first | (simp; done) | (simp; omega)) (show ¬ (some WB.heap.size = some (WB.heap.size + 1)) by simp)))
             try (have HBB : Hid (AtN X1 (some ⟨WB.heap.size, 0, none⟩) 1 [(s, y)]) := HC2.out.keepB (ho1 WB.heap.size (by first | (simp; done) | (simp; omega)) (show ¬ (some (WB.heap.size + 1) = some WB.heap.size) by simp)))
             have cb0 := (World.cell?_of_block (w := WB) (HX1.out.block w.heap.size hlw)).trans bw0
             have cb1 := (World.cell?_of_block (w := WB) (HX1.out.block w.heap.size hlw)).trans bw1
             have hlx : w.heap.size < X1.heap.size := Nat.lt_of_lt_of_le hlw HX1.out.size
             clear hw1 hb1 ho1)
          | (have f2 := HW1.out; clear HW1
             refine step_append_ex rfl _ _ 68 rfl _ _ rfl rfl _ (WdE.pushO _ 68 WB.heap.size _ (es.take k) [(s, y)] (by first | exact f2 | exact f2.later (later1 _ _)) (by have := HX1.out.size; first | exact this | (simp; omega)) _ 1 1 rfl (by first | exact HBB.out | exact lit1_E _ s y) (by rw [HL1.out]; omega)) ?_
             rintro v2 X2 ⟨hw2, hb2, _⟩
             obtain ⟨p2, c2, e2⟩ := hw2.shape
             rw [HL2.out] at e2
             subst e2
             have HW2 : Hid (WdE X2 WB.heap.size (.slice p2 (k + 1) c2) (es.take k ++ [(s, y)])) := hw2
             have HX2 : Hid (Below WB.heap.size WB X2) := by first | exact HX1.out.trans hb2 | exact HX1.out.trans (((later1 _ _).mono HX1.out.size).trans hb2)
             clear hw2 hb2 f2)
          | (have f3 := HW2.out; clear HW2
             refine step_append_ex rfl _ _ 68 rfl _ _ rfl rfl _ (WdE.pushO _ 68 WB.heap.size _ (es.take k ++ [(s, y)]) (es.drop k) f3 HX2.out.size _ _ _ HDL.out (HTL.out _ (HWB.out.trans (HX2.out.mono HSB.out))) (by rw [HL2.out]; omega)) ?_
             rintro v3 X3 ⟨hw3, hb3, _⟩
             have HW3 : Hid (WdE X3 w.heap.size v3 (insE es (plcE es s) (s, y))) := by
               unfold Hid insE
               rw [HP.out]
               exact ownsRow_base hw3 HSB.out
             have HX3 : Hid (Below w.heap.size w X3) := HWB.out.trans ((HX2.out.trans hb3).mono HSB.out)
             clear hw3 hb3 f3)
          | fail)
        all_goals
          go_wp2
          all_goals
            go_ret
            exact ⟨_, rfl, HW3.out, HX3.out⟩
    · have e : n = k := by omega
      subst e
      have hd : decide ((n : Int) < (n : Int)) = false := by simp
      have HP : Hid (plcE es s = n) := by
        have := findIdx_no (p := geE s) (es := es) fun j hj => HZ.out j (by rw [HN.out] at hj; omega)
        rw [HN.out] at this
        exact this
      clear HZ hlt
      go_wp2_with fail
      go_quiet (fail)
      go_wp2_with fail
      have hlt1 : (es.take n).length = n := by rw [List.length_take, HN.out]; omega
      have HL1 : Hid ((es.take n).length = n) := hlt1
      have HL2 : Hid ((es.take n ++ [(s, y)]).length = n + 1) := by unfold Hid; rw [List.length_append, hlt1]; rfl
      have HTK : Hid (∀ W, Below w.heap.size w W → AtN W aE n (es.take n)) := fun W hW => ((HAT.out.take n hk).later hW)
      have HTL : Hid (∀ W, Below w.heap.size w W → ∀ A, AtN W A 0 (es.drop n)) := fun W _ A i hi => by omega
      have HDL : Hid ((es.drop n).length = 0) := by unfold Hid; rw [List.length_drop, HN.out]; omega
      have HWB : Hid (Below w.heap.size w (((w.alloc (.cells #[.string s, .int .i64 y] 128)).drewN q).drewN nq)) := below_drewN (below_drewN (later1 _ _) q) nq
      have HSB : Hid (w.heap.size ≤ ((((w.alloc (.cells #[.string s, .int .i64 y] 128)).drewN q).drewN nq)).heap.size) := HWB.out.size
      have bw0 : ((((w.alloc (.cells #[.string s, .int .i64 y] 128)).drewN q).drewN nq)).cell? ⟨w.heap.size, 0, none⟩ = some (.string s) := bx0
      have bw1 : ((((w.alloc (.cells #[.string s, .int .i64 y] 128)).drewN q).drewN nq)).cell? ⟨w.heap.size, 1, none⟩ = some (.int .i64 y) := bx1
      have hkc : n ≤ cE := by omega
      have hkI : (n : Int) ≤ (n : Int) := by omega
      have HF1 : Hid True := trivial
      clear hlt1 bx0 bx1
      generalize (((w.alloc (.cells #[.string s, .int .i64 y] 128)).drewN q).drewN nq) = WB at *
      have hlw : w.heap.size < WB.heap.size := World.block_lt_of_cell? _ _ bw0
      have HA1 : Hid (WdE (WB.drew.alloc (.cells #[] 128)) WB.heap.size (.slice (some ⟨WB.heap.size, 0, none⟩) 0 0) []) := WdE.lit0 WB.drew WB.heap.size (Nat.le_refl _)
      have HA2 : Hid (WdE ((WB.drew.alloc (.cells #[.string s, .int .i64 y] 128)).alloc (.cells #[] 128)) WB.heap.size (.slice (some ⟨WB.heap.size + 1, 0, none⟩) 0 0) []) := by
        have := WdE.lit0 (WB.drew.alloc (.cells #[.string s, .int .i64 y] 128)) WB.heap.size (by simp)
        rw [show (WB.drew.alloc (.cells #[.string s, .int .i64 y] 128)).heap.size = WB.heap.size + 1 by simp] at this
        exact this
      have HC1 : Hid (AtN ((WB.drew.alloc (.cells #[] 128)).alloc (.cells #[.string s, .int .i64 y] 128)) (some ⟨WB.heap.size + 1, 0, none⟩) 1 [(s, y)]) := by
        have := lit1_E (WB.drew.alloc (.cells #[] 128)) s y
        rw [show (WB.drew.alloc (.cells #[] 128)).heap.size = WB.heap.size + 1 by simp] at this
        exact this
      have HC2 : Hid (AtN ((WB.drew.alloc (.cells #[.string s, .int .i64 y] 128)).alloc (.cells #[] 128)) (some ⟨WB.heap.size, 0, none⟩) 1 [(s, y)]) := (lit1_E WB.drew s y).later (later1 _ _)
      go_region_law (first
        | (have f1 := HF1.out; clear HF1 f1
           refine step_append_ex rfl _ _ 68 rfl _ _ rfl rfl _ (WdE.pushO _ 68 WB.heap.size _ [] (es.take n) (by first | exact HA1.out | exact HA1.out.later (later1 _ _) | exact HA2.out) (by first | (simp; done) | (simp; omega)) _ _ _ HL1.out (HTK.out _ (by first | exact HWB.out.drew.trans ((later1 _ _).mono HSB.out) | exact HWB.out.drew.trans ((later2 _ _ _).mono HSB.out))) (by simp; omega)) ?_
           rintro v1 X1 ⟨hw1, hb1, ho1⟩
           rw [List.nil_append] at hw1
           obtain ⟨p1, c1, e1⟩ := hw1.shape
           rw [HL1.out] at e1
           subst e1
           have HW1 : Hid (WdE X1 WB.heap.size (.slice p1 n c1) (es.take n)) := hw1
           have HX1 : Hid (Below WB.heap.size WB X1) := by first | exact (Below.refl _ _).drew.trans (((later1 WB.drew _).mono (Nat.le_refl _)).trans hb1) | exact (Below.refl _ _).drew.trans (((later2 WB.drew _ _).mono (Nat.le_refl _)).trans hb1)
           try (have HBB : Hid (AtN X1 (some ⟨WB.heap.size + 1, 0, none⟩) 1 [(s, y)]) := HC1.out.keepB (ho1 (WB.heap.size + 1) (by first | (simp; done) | (simp; omega)) (show ¬ (some WB.heap.size = some (WB.heap.size + 1)) by simp)))
           try (have HBB : Hid (AtN X1 (some ⟨WB.heap.size, 0, none⟩) 1 [(s, y)]) := HC2.out.keepB (ho1 WB.heap.size (by first | (simp; done) | (simp; omega)) (show ¬ (some (WB.heap.size + 1) = some WB.heap.size) by simp)))
           have cb0 := (World.cell?_of_block (w := WB) (HX1.out.block w.heap.size hlw)).trans bw0
           have cb1 := (World.cell?_of_block (w := WB) (HX1.out.block w.heap.size hlw)).trans bw1
           have hlx : w.heap.size < X1.heap.size := Nat.lt_of_lt_of_le hlw HX1.out.size
           clear hw1 hb1 ho1)
        | (have f2 := HW1.out; clear HW1
           refine step_append_ex rfl _ _ 68 rfl _ _ rfl rfl _ (WdE.pushO _ 68 WB.heap.size _ (es.take n) [(s, y)] (by first | exact f2 | exact f2.later (later1 _ _)) (by have := HX1.out.size; first | exact this | (simp; omega)) _ 1 1 rfl (by first | exact HBB.out | exact lit1_E _ s y) (by rw [HL1.out]; omega)) ?_
           rintro v2 X2 ⟨hw2, hb2, _⟩
           obtain ⟨p2, c2, e2⟩ := hw2.shape
           rw [HL2.out] at e2
           subst e2
           have HW2 : Hid (WdE X2 WB.heap.size (.slice p2 (n + 1) c2) (es.take n ++ [(s, y)])) := hw2
           have HX2 : Hid (Below WB.heap.size WB X2) := by first | exact HX1.out.trans hb2 | exact HX1.out.trans (((later1 _ _).mono HX1.out.size).trans hb2)
           clear hw2 hb2 f2)
        | (have f3 := HW2.out; clear HW2
           refine step_append_ex rfl _ _ 68 rfl _ _ rfl rfl _ (WdE.pushO _ 68 WB.heap.size _ (es.take n ++ [(s, y)]) (es.drop n) f3 HX2.out.size _ _ _ HDL.out (HTL.out _ (HWB.out.trans (HX2.out.mono HSB.out)) _) (by rw [HL2.out]; omega)) ?_
           rintro v3 X3 ⟨hw3, hb3, _⟩
           have HW3 : Hid (WdE X3 w.heap.size v3 (insE es (plcE es s) (s, y))) := by
             unfold Hid insE
             rw [HP.out]
             exact ownsRow_base hw3 HSB.out
           have HX3 : Hid (Below w.heap.size w X3) := HWB.out.trans ((HX2.out.trans hb3).mono HSB.out)
           clear hw3 hb3 f3)
        | fail)
      all_goals
        go_wp2
        all_goals
          go_ret
          exact ⟨_, rfl, HW3.out, HX3.out⟩
end Go.Proofs.YtaibcofendjnnaaGreatDoor
