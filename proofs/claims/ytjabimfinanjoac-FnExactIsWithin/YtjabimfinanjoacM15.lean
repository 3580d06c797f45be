/- Directories: NamesIn, of the program and of the specification. From the reading of an argument to the lists that it holds. No program is named here. What the rows of this seat share: how a disk that came in is opened. How inodes that came in are opened. How lists of inodes that came in are opened. How file systems that came in are opened. What is within what: by steps so many at most, and by any way. IsWithin, of the program. -/
import Derived.Test.YtjabimfinanjoacM14
import Derived.Test.YtjabimfinanjoacM02
import Derived.Deep.RegionLaw
import Derived.Test.YtjabimfinanjoacM00
import Derived.ProofKit
import Derived.Deep.Slices
import Derived.Deep.SlicePairs
import Derived.Lib.SmallJoins
import Derived.Test.YtjabimfinanjoacRows
import Derived.Test.YtjabimfinanjoacM03
import Derived.Test.YtjabimfinanjoacM04
import Derived.Test.YtjabimfinanjoacM12
import Derived.Test.YtjabimfinanjoacM13
namespace Go.Proofs.Ytjabimfinanjoac
open Go.RowKit
set_option maxRecDepth 100000

theorem mkB_of (x : ByteArray) : mkB x.toList = x := by rw [ByteArray.toList_eq]; exact mkB_data x
theorem nameF_four {s : ByteArray} (h : nameF s = 0) : s.size ≤ 4 := by
  by_cases h4 : 4 < s.size
  · exfalso
    unfold nameF at h
    rw [if_neg (by omega)] at h
    by_cases ha : s.data.toList.all byB = true
    · rw [if_pos ha, if_pos h4] at h; omega
    · rw [if_neg ha] at h; omega
  · omega
/-- Texts in memory that the call made since n₀. -/
def WdT (w : World) (n₀ : Nat) (v : Value) (xs : List (List UInt8)) : Prop := w.ownsRow n₀ 9 1 v xs.length (xs.map strV)
theorem WdT.later {w w' : World} {n₀ : Nat} {v : Value} {xs : List (List UInt8)} (h : WdT w n₀ v xs) (hb : Below w.heap.size w w') : WdT w' n₀ v xs := ownsRow_later h hb
theorem WdT.shape {w : World} {n₀ : Nat} {v : Value} {xs : List (List UInt8)} (h : WdT w n₀ v xs) : ∃ a c, v = .slice a xs.length c := ownsRow_shape h
theorem WdT.nil (w : World) (n₀ : Nat) : WdT w n₀ (.slice none 0 0) [] := ⟨by simp, Or.inl ⟨rfl, rfl⟩⟩
theorem WdT.own {w : World} {n₀ : Nat} {v : Value} {xs : List (List UInt8)} (h : WdT w n₀ v xs) (hl : xs.length ≤ 1048577) : StrsO w v xs (fun b => n₀ ≤ b ∧ b < w.heap.size) := by
  obtain ⟨a, c, rfl⟩ := h.shape
  rcases ownT_row h with h0 | ⟨g, rfl, h1, h2, h3⟩
  · have : xs = [] := List.length_eq_zero_iff.1 h0
    subst this
    exact Or.inl ⟨rfl, a, c, rfl⟩
  · exact Or.inr ⟨g, c, ⟨h1, h2⟩, rfl, hl, h3⟩
theorem WdT.push (w : World) (n₀ : Nat) (v : Value) (xs : List (List UInt8)) (y : List UInt8) (h : WdT w n₀ v xs) (hn₀ : n₀ ≤ w.heap.size) (hn : xs.length ≤ 1048577) :
    ∃ v' X, (Builtin.append_ #[27, 27] 27 #[v, .slice (some ⟨w.heap.size, 0, none⟩) 1 1]).run Try.prog (w.alloc (.cells #[.string (mkB y)] 9)) = .ok v' X ∧ WdT X n₀ v' (xs ++ [y]) ∧ Below n₀ w X := by
  obtain ⟨v', X, h1, h2, h3⟩ := append_strN w n₀ v xs.length (xs.map strV) y (by simp) h hn₀ hn
  refine ⟨v', X, h1, ?_, h3⟩
  unfold WdT
  rw [List.length_append, List.map_append]
  exact h2
def nmsK (es : List EN) (k : Nat) : List (List UInt8) := (es.take k).map fun e => e.1.toList
theorem nmsK_len (es : List EN) {k : Nat} (h : k ≤ es.length) : (nmsK es k).length = k := by simp [nmsK]; omega
theorem nmsK_succ (es : List EN) {k : Nat} (h : k < es.length) : nmsK es k ++ [(es[k]?.getD en0).1.toList] = nmsK es (k + 1) := by
  unfold nmsK
  rw [List.take_add_one, List.getElem?_eq_getElem h, List.map_append]
  rfl
theorem nmsK_all (es : List EN) : nmsK es es.length = es.map fun e => e.1.toList := by unfold nmsK; rw [List.take_length]
theorem namesD_len (d : FD) (x : Int) : (namesD d x).2.length ≤ 6 := by
  unfold namesD
  by_cases h : dirQ d x = 0
  · rw [if_pos h]
    have := (dirS h).six
    simpa using this
  · rw [if_neg h]; simp

set_option maxHeartbeats 3200000 in
theorem implNamesU (w : World) (a1 : Option Addr) (n1 c1 : Nat) (a2 : Option Addr) (n2 c2 : Nat) (d : FD) (x : Int) (h : FsR w (.slice a1 n1 c1) (.slice a2 n2 c2) d) (hs : sizeFs d ≤ 1048576) :
    Calls Try.prog 9 #[.agg #[.slice a1 n1 c1, .slice a2 n2 c2], .int .i64 x] w (AnsNR w (namesD d x)) := by
  have HB0 : Hid (Below w.heap.size w ((w.alloc (.cells #[.slice a1 n1 c1, .slice a2 n2 c2] 33)).alloc (.cells #[.int .i64 0, .slice none 0 0] 29))) := later2 _ _ _
  have HX : Hid (Bx ((w.alloc (.cells #[.slice a1 n1 c1, .slice a2 n2 c2] 33)).alloc (.cells #[.int .i64 0, .slice none 0 0] 29)) w.heap.size [.slice a1 n1 c1, .slice a2 n2 c2]) := (Bx.new w [.slice a1 n1 c1, .slice a2 n2 c2] _).later (later1 _ _)
  have HRB : Hid (OwnRow ((w.alloc (.cells #[.slice a1 n1 c1, .slice a2 n2 c2] 33)).alloc (.cells #[.int .i64 0, .slice none 0 0] 29)) (w.heap.size + 1) 2 (fun i => if i = 0 then .int .i64 0 else .slice none 0 0)) := by
    have := OwnRow.newS (w.alloc (.cells #[.slice a1 n1 c1, .slice a2 n2 c2] 33)) (.int .i64 0) (.slice none 0 0) 29
    rw [World.size_alloc] at this
    exact this
  have HF : Hid (∀ W, Below w.heap.size w W → Calls Try.prog 24 #[.agg #[.slice a1 n1 c1, .slice a2 n2 c2], .int .i64 x] W fun e w' => e = .returned (.int .i64 (dirQ d x)) ∧ Below W.heap.size W w') := fun W hW => dirPlaceFault_any W _ _ _ _ _ _ d x (h.later hW) (by unfold sizeFs at hs; omega)
  have HRR : Hid (namesD d x = if dirQ d x = 0 then (0, (entA d x.toNat).map fun e => e.1.toList) else (dirQ d x, [])) := rfl
  rw [HRR.out]
  clear HRR
  by_cases hq : dirQ d x = 0
  rotate_left
  · rw [if_neg hq]
    have hb : (dirQ d x != 0) = true := by simpa using hq
    clear hq h hs
    generalize dirQ d x = r at *
    go_enter Try.func9, Try.ntmps9
    go_wp2_with fail
    generalize ((w.alloc (.cells #[.slice a1 n1 c1, .slice a2 n2 c2] 33)).alloc (.cells #[.int .i64 0, .slice none 0 0] 29)) = W0 at *
    refine (HF.out _ HB0.out).mono ?_
    rintro e w1 ⟨rfl, hb1⟩
    have HB1 : Hid (Below w.heap.size w w1) := HB0.out.trans (hb1.mono HB0.out.size)
    have hrow := HRB.out.later hb1
    have t0 := hrow.cell (i := 0) (by omega)
    have t1 := hrow.cell (i := 1) (by omega)
    have s0 := hrow.frozen 0
    have s1 := hrow.frozen 1
    simp at t0 t1
    clear hb1 hrow
    go_wp2
    exact bodyPost_ret (v := .agg #[.int .i64 r, .slice none 0 0]) (by simp [results, Try.results9, go_sem, t0, t1]) rfl (AnsNR.none' r HB1.out (by omega) _ _)
  · rw [if_pos hq]
    have hds := dirS hq
    obtain ⟨_, hp, _⟩ := dirQ_in hq
    obtain ⟨j, rfl⟩ : ∃ j : Nat, x = (j : Int) := ⟨x.toNat, by omega⟩
    rw [Int.toNat_natCast] at hds ⊢
    obtain ⟨b0, o0, aE, cE, rfl, rfl, k4, hE⟩ := h.dir hds.lt
    have HK4 : Hid (_ = _) := k4
    have hjn : (j : Int) < ((d.1.length : Nat) : Int) := by omega
    have hlt := hds.lt
    have h6 := hds.six
    have HNM : Hid (∀ k : Nat, k < (entA d j).length → ((entA d j)[k]?.getD en0).1.size ≤ 4) := fun k hk => nameF_four (hds.names k hk)
    obtain ⟨_, _, eE, _, _, hAt⟩ := hE.open'
    simp only [Value.slice.injEq] at eE
    obtain ⟨rfl, -, rfl⟩ := eE
    rw [hq] at HF
    have HAT : Hid (AtN w aE (entA d j).length (entA d j)) := hAt
    rw [← nmsK_all]
    clear hq hds hp hE k4 h hAt
    generalize entA d j = es at *
    obtain ⟨m, hm⟩ : ∃ m, es.length = m := ⟨_, rfl⟩
    have HM : Hid (es.length = m) := hm
    rw [hm] at HK4 HNM HAT h6 ⊢
    clear hm
    generalize d.1.length = n at *
    go_enter Try.func9, Try.ntmps9
    go_wp2_with fail
    generalize ((w.alloc (.cells #[.slice (some ⟨b0, o0, none⟩) n c1, .slice a2 n2 c2] 33)).alloc (.cells #[.int .i64 0, .slice none 0 0] 29)) = W0 at *
    refine (HF.out _ HB0.out).mono ?_
    rintro e w1 ⟨rfl, hb1⟩
    have HB1 : Hid (Below w.heap.size w w1) := HB0.out.trans (hb1.mono HB0.out.size)
    have HR1 : Hid (OwnRow w1 (w.heap.size + 1) 2 (fun i => if i = 0 then .int .i64 0 else .slice none 0 0)) := HRB.out.later hb1
    have y0 := (HX.out.later hb1) 0 _ rfl
    have y1 := (HX.out.later hb1) 1 _ rfl
    have k1 := cell_later HB1.out HK4.out
    have hlw : w.heap.size + 1 < w1.heap.size := HR1.out.lt
    have HN0 : Hid ([] = nmsK es 0) := rfl
    clear hb1
    go_wp2_with fail
    clear y0 y1 k1
    go_loopw [6, 23] (fun vv i wr => ∃ k : Nat, k ≤ m ∧ i = .int .i64 k ∧ Below w1.heap.size w1 wr ∧ WdT wr w1.heap.size vv (nmsK es k)) (fun _ i _ => m - (intOf i).toNat)
    case atStart => exact ⟨0, Nat.zero_le _, rfl, Below.refl _ _, HN0.out ▸ WdT.nil _ _⟩
    case round =>
      obtain ⟨k, hk, rfl, hbl, hwd⟩ := hrel
      obtain ⟨av, cv, rfl⟩ := hwd.shape
      have HBL : Hid (Below w1.heap.size w1 wr) := hbl
      have HWD : Hid (WdT wr w1.heap.size (.slice av (nmsK es k).length cv) (nmsK es k)) := hwd
      have HBW : Hid (Below w.heap.size w wr) := HB1.out.trans (hbl.mono HB1.out.size)
      have HLK : Hid ((nmsK es k).length = k) := nmsK_len es (by rw [HM.out]; exact hk)
      clear hbl hwd
      by_cases hlk : k < m
      · obtain ⟨b, off, rfl, e0, e1⟩ := HAT.out k hlk
        replace e0 := cell_later HBW.out e0
        replace e1 := cell_later HBW.out e1
        have hsz := HNM.out k hlk
        have HNX : Hid (nmsK es k ++ [(es[k]?.getD en0).1.toList] = nmsK es (k + 1)) := nmsK_succ es (by rw [HM.out]; exact hlk)
        have HCL : Hid (∀ W, Calls Try.prog 25 #[.string (es[k]?.getD en0).1] W fun e w' => e = .returned (.string (es[k]?.getD en0).1) ∧ Below W.heap.size W w') := fun W => by
          have := clone_any W (es[k]?.getD en0).1.toList (by
            have h1 : (es[k]?.getD en0).1.toList.length = (es[k]?.getD en0).1.size := by rw [ByteArray.toList_eq]; exact Array.length_toList
            omega)
          rw [mkB_of] at this
          exact this
        have HMB : Hid (mkB (es[k]?.getD en0).1.toList = (es[k]?.getD en0).1) := mkB_of _
        generalize (es[k]?.getD en0).1 = nm at *
        generalize (es[k]?.getD en0).2 = ni at *
        go_wp2_with fail
        refine (HCL.out _).mono ?_
        rintro e w3 ⟨rfl, hb3⟩
        have hb3' : Below wr.heap.size wr w3 := (later1 _ _).trans (hb3.mono (by simp))
        obtain ⟨v', X, hr, hwx, hbx⟩ := WdT.push w3 w1.heap.size _ _ nm.toList (HWD.out.later hb3') (by have := HBL.out.size; have := hb3'.size; omega) (by rw [HLK.out]; omega)
        rw [HNX.out] at hwx
        rw [HMB.out] at hr
        have HRN : Hid (_ = _) := hr
        have HWX : Hid (WdT X w1.heap.size v' (nmsK es (k + 1))) := hwx
        have HBX2 : Hid (Below w1.heap.size w1 X) := (HBL.out.trans (hb3'.mono HBL.out.size)).trans hbx
        clear hr hwx hbx hb3 hb3' HWD HNX HCL HMB
        go_wp2_with (first | refine wpList_append_run rfl _ _ 27 rfl _ _ rfl rfl _ _ HRN.out ?_ | fail)
        go_roundw
        case rel => exact ⟨k + 1, by omega, by go_num, HBX2.out, HWX.out⟩
        case measure => simp [intOf]; omega
      · have e : m = k := by omega
        subst e
        have HST : Hid (StrsO wr (.slice av (nmsK es m).length cv) (nmsK es m) (fun b => w.heap.size ≤ b ∧ b < wr.heap.size ∧ b ≠ w.heap.size + 1)) := (HWD.out.own (by rw [HLK.out]; omega)).mono fun b hb => ⟨by omega, hb.2, by omega⟩
        have hrow := HR1.out.later HBL.out
        have t0 := hrow.cell (i := 0) (by omega)
        have t1 := hrow.cell (i := 1) (by omega)
        have s0 := hrow.frozen 0
        have s1 := hrow.frozen 1
        simp at t0 t1
        clear hrow HWD HLK
        generalize (nmsK es m).length = ln at *
        go_wp2
        exact bodyPost_ret (v := .agg #[.int .i64 0, .slice av ln cv]) (by simp [results, Try.results9, go_sem, t0, t1]) rfl (AnsNR.boxed HBW.out (by omega) HST.out _ _)

set_option maxHeartbeats 6400000 in
theorem specNamesU (w : World) (a1 : Option Addr) (n1 c1 : Nat) (a2 : Option Addr) (n2 c2 : Nat) (d : FD) (x : Int) (h : FsR w (.slice a1 n1 c1) (.slice a2 n2 c2) d) (hs : sizeFs d ≤ 1048576) :
    Calls Try.prog 7 #[.agg #[.slice a1 n1 c1, .slice a2 n2 c2], .int .i64 x] w (AnsNR w (namesD d x)) := by
  obtain ⟨hx0, -, -⟩ := FsX.box h 33
  have HB0 : Hid (Below w.heap.size w ((w.alloc (.cells #[.slice a1 n1 c1, .slice a2 n2 c2] 33)).alloc (.cells #[.int .i64 0, .slice none 0 0] 29))) := later2 _ _ _
  have HX : Hid (Bx ((w.alloc (.cells #[.slice a1 n1 c1, .slice a2 n2 c2] 33)).alloc (.cells #[.int .i64 0, .slice none 0 0] 29)) w.heap.size [.slice a1 n1 c1, .slice a2 n2 c2]) := (Bx.new w [.slice a1 n1 c1, .slice a2 n2 c2] _).later (later1 _ _)
  have HRB : Hid (OwnRow ((w.alloc (.cells #[.slice a1 n1 c1, .slice a2 n2 c2] 33)).alloc (.cells #[.int .i64 0, .slice none 0 0] 29)) (w.heap.size + 1) 2 (fun i => if i = 0 then .int .i64 0 else .slice none 0 0)) := by
    have := OwnRow.newS (w.alloc (.cells #[.slice a1 n1 c1, .slice a2 n2 c2] 33)) (.int .i64 0) (.slice none 0 0) 29
    rw [World.size_alloc] at this
    exact this
  have HF : Hid (∀ W, Below ((w.alloc (.cells #[.slice a1 n1 c1, .slice a2 n2 c2] 33)).alloc (.cells #[.int .i64 0, .slice none 0 0] 29)).heap.size ((w.alloc (.cells #[.slice a1 n1 c1, .slice a2 n2 c2] 33)).alloc (.cells #[.int .i64 0, .slice none 0 0] 29)) W → Calls Try.prog 21 #[.pointer (some ⟨w.heap.size, 0, none⟩), .int .i64 x] W fun e w' => e = .returned (.int .i64 (dirQ d x)) ∧ Below W.heap.size W w') := fun W hW => l8Asked_any W _ _ d _ _ _ _ x ((hx0.later (later1 _ _)).later hW) (by unfold sizeFs at hs; omega)
  have HRR : Hid (namesD d x = if dirQ d x = 0 then (0, (entA d x.toNat).map fun e => e.1.toList) else (dirQ d x, [])) := rfl
  rw [HRR.out]
  clear HRR hx0
  by_cases hq : dirQ d x = 0
  rotate_left
  · rw [if_neg hq]
    have hb : (dirQ d x != 0) = true := by simpa using hq
    clear hq h hs
    generalize dirQ d x = r at *
    go_enter Try.func7, Try.ntmps7
    go_wp2_with fail
    generalize ((w.alloc (.cells #[.slice a1 n1 c1, .slice a2 n2 c2] 33)).alloc (.cells #[.int .i64 0, .slice none 0 0] 29)) = W0 at *
    refine (HF.out _ (Below.refl _ _)).mono ?_
    rintro e w1 ⟨rfl, hb1⟩
    have HB1 : Hid (Below w.heap.size w w1) := HB0.out.trans (hb1.mono HB0.out.size)
    have hrow := HRB.out.later hb1
    have t0 := hrow.cell (i := 0) (by omega)
    have t1 := hrow.cell (i := 1) (by omega)
    have s0 := hrow.frozen 0
    have s1 := hrow.frozen 1
    simp at t0 t1
    clear hb1 hrow
    go_wp2
    exact bodyPost_ret (v := .agg #[.int .i64 r, .slice none 0 0]) (by simp [results, Try.results7, go_sem, t0, t1]) rfl (AnsNR.none' r HB1.out (by omega) _ _)
  · rw [if_pos hq]
    have hds := dirS hq
    obtain ⟨_, hp, _⟩ := dirQ_in hq
    obtain ⟨j, rfl⟩ : ∃ j : Nat, x = (j : Int) := ⟨x.toNat, by omega⟩
    rw [Int.toNat_natCast] at hds ⊢
    obtain ⟨b0, o0, aE, cE, rfl, rfl, k4, hE⟩ := h.dir hds.lt
    have HK4 : Hid (_ = _) := k4
    have hjn : (j : Int) < ((d.1.length : Nat) : Int) := by omega
    have hlt := hds.lt
    have h6 := hds.six
    obtain ⟨_, _, eE, _, _, hAt⟩ := hE.open'
    simp only [Value.slice.injEq] at eE
    obtain ⟨rfl, -, rfl⟩ := eE
    rw [hq] at HF
    have HAT : Hid (AtN w aE (entA d j).length (entA d j)) := hAt
    rw [← nmsK_all]
    clear hq hds hp hE k4 h hAt
    generalize entA d j = es at *
    obtain ⟨m, hm⟩ : ∃ m, es.length = m := ⟨_, rfl⟩
    have HM : Hid (es.length = m) := hm
    rw [hm] at HK4 HAT h6 ⊢
    clear hm
    generalize d.1.length = n at *
    go_enter Try.func7, Try.ntmps7
    go_wp2_with fail
    generalize ((w.alloc (.cells #[.slice (some ⟨b0, o0, none⟩) n c1, .slice a2 n2 c2] 33)).alloc (.cells #[.int .i64 0, .slice none 0 0] 29)) = W0 at *
    refine (HF.out _ (Below.refl _ _)).mono ?_
    rintro e w1 ⟨rfl, hb1⟩
    have HB1 : Hid (Below w.heap.size w w1) := HB0.out.trans (hb1.mono HB0.out.size)
    have HR1 : Hid (OwnRow w1 (w.heap.size + 1) 2 (fun i => if i = 0 then .int .i64 0 else .slice none 0 0)) := HRB.out.later hb1
    have HX1 : Hid (Bx w1 w.heap.size [.slice (some ⟨b0, o0, none⟩) n c1, .slice a2 n2 c2]) := HX.out.later hb1
    have hlw : w.heap.size + 1 < w1.heap.size := HR1.out.lt
    have HN0 : Hid ([] = nmsK es 0) := rfl
    have HG0 : Hid (OwnRow (w1.alloc (.cells #[.int .i64 0, .slice none 0 0] 29)) w1.heap.size 2 (fun i => if i = 0 then .int .i64 0 else .slice none 0 0)) := OwnRow.newS w1 (.int .i64 0) (.slice none 0 0) _
    clear hb1
    go_wp2_with fail
    go_loopw [7] (fun i wr => ∃ k : Nat, ∃ vv : Value, k ≤ m ∧ i = .int .i64 k ∧ Below w1.heap.size w1 wr ∧ OwnRow wr w1.heap.size 2 (fun i => if i = 0 then .int .i64 0 else vv) ∧ w1.heap.size + 1 ≤ wr.heap.size ∧ WdT wr (w1.heap.size + 1) vv (nmsK es k)) (fun i _ => m - (intOf i).toNat)
    case atStart => exact ⟨0, _, Nat.zero_le _, rfl, later1 _ _, HG0.out, by simp, HN0.out ▸ WdT.nil _ _⟩
    case round =>
      obtain ⟨k, vv, hk, rfl, hbl, hgo, hsz, hwd⟩ := hrel
      obtain ⟨av, cv, rfl⟩ := hwd.shape
      have HBL : Hid (Below w1.heap.size w1 wr) := hbl
      have HGO : Hid (OwnRow wr w1.heap.size 2 (fun i => if i = 0 then .int .i64 0 else .slice av (nmsK es k).length cv)) := hgo
      have HWD : Hid (WdT wr (w1.heap.size + 1) (.slice av (nmsK es k).length cv) (nmsK es k)) := hwd
      have HBW : Hid (Below w.heap.size w wr) := HB1.out.trans (hbl.mono HB1.out.size)
      have HLK : Hid ((nmsK es k).length = k) := nmsK_len es (by rw [HM.out]; exact hk)
      have HSZ : Hid (w1.heap.size + 1 ≤ wr.heap.size) := hsz
      have x0 := (HX1.out.later hbl) 0 _ rfl
      have x1 := (HX1.out.later hbl) 1 _ rfl
      have k1 := cell_later HBW.out HK4.out
      have g0 : wr.cell? ⟨w1.heap.size, 0, none⟩ = some (.int .i64 0) := hgo.cell (i := 0) (by omega)
      have g1 : wr.cell? ⟨w1.heap.size, 1, none⟩ = some (.slice av (nmsK es k).length cv) := hgo.cell (i := 1) (by omega)
      have gf := hgo.frozen 1
      clear hbl hwd hgo hsz
      by_cases hlk : k < m
      · obtain ⟨b, off, rfl, e0, _⟩ := HAT.out k hlk
        replace e0 := cell_later HBW.out e0
        have HNX : Hid (nmsK es k ++ [(es[k]?.getD en0).1.toList] = nmsK es (k + 1)) := nmsK_succ es (by rw [HM.out]; exact hlk)
        have HMB : Hid (mkB (es[k]?.getD en0).1.toList = (es[k]?.getD en0).1) := mkB_of _
        generalize (es[k]?.getD en0).1 = nm at *
        obtain ⟨v', X, hr, hwx, hbx⟩ := WdT.push wr.drew (w1.heap.size + 1) _ _ nm.toList (HWD.out.later (Below.refl _ _).drew) (by have := HSZ.out; simpa using this) (by rw [HLK.out]; omega)
        rw [HNX.out] at hwx
        rw [HMB.out] at hr
        obtain ⟨aw, cw, rfl⟩ := hwx.shape
        have HLK2 : Hid ((nmsK es (k + 1)).length = k + 1) := nmsK_len es (by rw [HM.out]; omega)
        have HRN : Hid (_ = _) := hr
        have hbX : Below (w1.heap.size + 1) wr X := (Below.refl _ _).drew.trans hbx
        have ce0 : X.cell? ⟨w1.heap.size, 0, none⟩ = some (.int .i64 0) := (World.cell?_of_block (w := wr) (hbX.block w1.heap.size (by omega))).trans g0
        have ce1 : X.cell? ⟨w1.heap.size, 1, none⟩ = some (.slice av (nmsK es k).length cv) := (World.cell?_of_block (w := wr) (hbX.block w1.heap.size (by omega))).trans g1
        have hgX : OwnRow X w1.heap.size 2 (fun i => if i = 0 then .int .i64 0 else .slice av (nmsK es k).length cv) := HGO.out.block (hbX.block w1.heap.size (by omega))
        have cf := hgX.frozen 1
        have HGX : Hid (OwnRow (X.setCell ⟨w1.heap.size, 1, none⟩ (.slice aw (nmsK es (k + 1)).length cw)) w1.heap.size 2 (fun i => if i = 0 then .int .i64 0 else .slice aw (nmsK es (k + 1)).length cw)) := (hgX.set 1 _).congr fun i hi => by
          rcases (show i = 0 ∨ i = 1 by omega) with rfl | rfl
          · simp
          · simp
        have HWX : Hid (WdT (X.setCell ⟨w1.heap.size, 1, none⟩ (.slice aw (nmsK es (k + 1)).length cw)) (w1.heap.size + 1) (.slice aw (nmsK es (k + 1)).length cw) (nmsK es (k + 1))) := ownsRow_store hwx (by simp) _
        have HBX2 : Hid (Below w1.heap.size w1 (X.setCell ⟨w1.heap.size, 1, none⟩ (.slice aw (nmsK es (k + 1)).length cw))) := (HBL.out.trans (hbX.mono (by omega))).setCell (Nat.le_refl _) _
        have HSX : Hid (w1.heap.size + 1 ≤ (X.setCell ⟨w1.heap.size, 1, none⟩ (.slice aw (nmsK es (k + 1)).length cw)).heap.size) := by
          unfold Hid
          have := hbX.size
          have := HSZ.out
          simp only [World.setCell, Array.size_modify]
          omega
        rw [HLK2.out] at HRN HGX HWX HBX2 HSX
        rw [HLK.out] at HRN g1 ce1
        have hgl : w1.heap.size < wr.heap.size := by have := HSZ.out; omega
        clear hr hwx hbx hbX HWD HNX HMB hgX HGO
        go_wp2_with fail
        go_region_law (first
          | (refine step_append_run rfl _ _ 27 rfl _ _ rfl rfl _ _ HRN.out ?_)
          | fail)
        all_goals
          go_wp2
          go_roundw
          case rel => exact ⟨k + 1, _, by omega, by go_num, HBX2.out, HGX.out, HSX.out, HWX.out⟩
          case measure => simp [intOf]; omega
      · have e : m = k := by omega
        subst e
        have HST : Hid (StrsO wr (.slice av (nmsK es m).length cv) (nmsK es m) (fun b => w.heap.size ≤ b ∧ b < wr.heap.size ∧ b ≠ w.heap.size + 1)) := (HWD.out.own (by rw [HLK.out]; omega)).mono fun b hb => ⟨by omega, hb.2, by omega⟩
        have hrow := HR1.out.later HBL.out
        have t0 := hrow.cell (i := 0) (by omega)
        have t1 := hrow.cell (i := 1) (by omega)
        have s0 := hrow.frozen 0
        have s1 := hrow.frozen 1
        simp at t0 t1
        clear hrow HWD HLK HGO
        generalize (nmsK es m).length = ln at *
        go_wp2
        exact bodyPost_ret (v := .agg #[.int .i64 0, .slice av ln cv]) (by simp [results, Try.results7, go_sem, t0, t1]) rfl (AnsNR.boxed HBW.out (by omega) HST.out _ _)
end Go.Proofs.Ytjabimfinanjoac

namespace Go.Proofs.Ytjabimfinanjoac
open Go.ChangeShapes Go.WideShapes Go.ChangeAt Go.RowKit Go.Deep
set_option maxRecDepth 100000

section
variable {H : Type} {enc : TypeId × Value → H} {P : Program} {w : World} {base : Nat} {held : Bool}

theorem addr_of {a : Addr} {v : Value} (h : w.cell? (a.add 0) = some v) : a = ⟨a.block, a.off, none⟩ := by
  obtain ⟨b, o, s⟩ := a
  have : s = none := by simpa [Addr.add] using World.cell?_spot h
  subst this; rfl
theorem add_plain (b off k : Nat) : (⟨b, off, none⟩ : Addr).add k = ⟨b, off + k, none⟩ := by
  by_cases h : k = 0
  · subst h; simp [Addr.add]
  · simp [Addr.add, h]

theorem open_Ints {t e : TypeId} {fuel : Nat} {v : Value} {x : DataW H × List MemPlace} (ht : P.underlying t = some (.slice e)) (he : P.underlying e = some (.int .i64)) (ce : P.cellsOf e = 1) (h : DataW.trod enc P w base (fun _ => true) held fuel t [v] = some x) :
    ∃ zs, Ints w v zs := by
  rcases open_ints ht he ce h with ⟨hcs, _⟩ | ⟨a, len, cap, zs, hcs, _, hl, hm, hz, _, hcell, _⟩
  · simp only [List.cons.injEq, and_true] at hcs
    exact ⟨[], Or.inl ⟨rfl, none, 0, hcs⟩⟩
  · simp only [List.cons.injEq, and_true] at hcs
    simp only [if_true] at hz
    by_cases h0 : len = 0
    · subst h0; exact ⟨[], Or.inl ⟨rfl, some a, cap, hcs⟩⟩
    · have ha := addr_of (hcell 0 (by omega))
      refine ⟨zs.take len, Or.inr ⟨a.block, a.off, cap, ?_, ?_, fun k hk => ?_⟩⟩
      · rw [hcs, List.length_take, Nat.min_eq_left (by omega), ← ha]
      · rw [List.length_take]; omega
      · rw [List.length_take] at hk
        have h1 := hcell k (by omega)
        rw [ha, add_plain] at h1
        rw [h1, List.getElem?_take, if_pos (by omega)]
        rfl

theorem open_IntsS {t e q : TypeId} {fuel : Nat} {v : Value} {x : DataW H × List MemPlace} (ht : P.underlying t = some (.slice e)) (he : P.underlying e = some (.slice q)) (hq : P.underlying q = some (.int .i64)) (ce : P.cellsOf e = 1) (cq : P.cellsOf q = 1)
    (h : DataW.trod enc P w base (fun _ => true) held fuel t [v] = some x) : ∃ zss, IntsS w v zss := by
  rcases open_slice1 ht ce h with ⟨hcs, _⟩ | ⟨a, len, cap, m, n, V, D, Pl, hcs, _, hl, hm, hmm, _, hx⟩
  · simp only [List.cons.injEq, and_true] at hcs
    exact ⟨[], Or.inl ⟨rfl, none, 0, hcs⟩⟩
  · simp only [List.cons.injEq, and_true] at hcs
    simp only [if_true] at hmm
    by_cases h0 : len = 0
    · subst h0; exact ⟨[], Or.inl ⟨rfl, some a, cap, hcs⟩⟩
    · have ha := addr_of (hx 0 (by omega)).1
      obtain ⟨Z, hZ⟩ := choose_lt (α := List Int) (n := m) (p := fun i zs => Ints w (V i) zs) fun i hi => open_Ints he hq cq (hx i hi).2
      refine ⟨(List.range len).map Z, Or.inr ⟨a.block, a.off, cap, V, ?_, ?_, fun k hk => ?_⟩⟩
      · simp only [List.length_map, List.length_range]; rw [hcs, ← ha]
      · simp only [List.length_map, List.length_range]; omega
      · simp only [List.length_map, List.length_range] at hk
        have h1 := (hx k (by omega)).1
        rw [ha, add_plain] at h1
        refine ⟨h1, ?_⟩
        have := hZ k (by omega)
        simpa [hk] using this

theorem open_Puts {t e q : TypeId} {f0 f1 : Field} {fuel : Nat} {v : Value} {x : DataW H × List MemPlace} (ht : P.underlying t = some (.slice e)) (he : P.underlying e = some (.struct #[f0, f1]))
    (ce : P.cellsOf e = 2) (o0 : f0.offset = 0) (o1 : f1.offset = 1) (c0 : P.cellsOf f0.type = 1) (c1 : P.cellsOf f1.type = 1) (h0 : P.underlying f0.type = some (.int .i64)) (h1 : P.underlying f1.type = some (.slice q)) (hq : P.underlying q = some (.int .i64)) (cq : P.cellsOf q = 1)
    (h : DataW.trod enc P w base (fun _ => true) held fuel t [v] = some x) : ∃ ps, Puts w v ps := by
  rcases open_slice_pairs ht he ce o0 o1 c0 c1 h with ⟨hcs, _⟩ | ⟨a, len, cap, m, n, V0, V1, D0, D1, P0, P1, hcs, _, hl, hm, hmm, _, hx⟩
  · simp only [List.cons.injEq, and_true] at hcs
    exact ⟨[], Or.inl ⟨rfl, none, 0, hcs⟩⟩
  · simp only [List.cons.injEq, and_true] at hcs
    simp only [if_true] at hmm
    by_cases hl0 : len = 0
    · subst hl0; exact ⟨[], Or.inl ⟨rfl, some a, cap, hcs⟩⟩
    · have ha := addr_of (by simpa using (hx 0 (by omega)).1)
      obtain ⟨Z, hZ⟩ := choose_lt (α := Int × List Int) (n := m) (p := fun i z => V0 i = .int .i64 z.1 ∧ Ints w (V1 i) z.2) fun i hi => by
        obtain ⟨_, _, g0, g1⟩ := hx i hi
        obtain ⟨zs, hzs⟩ := open_Ints h1 hq cq g1
        obtain ⟨y, hy, _⟩ := DataW.trod_int h0 g0
        simp only [List.cons.injEq, and_true] at hy
        exact ⟨(y, zs), hy, hzs⟩
      refine ⟨(List.range len).map Z, Or.inr ⟨a.block, a.off, cap, V1, ?_, ?_, fun k hk => ?_⟩⟩
      · simp only [List.length_map, List.length_range]; rw [hcs, ← ha]
      · simp only [List.length_map, List.length_range]; omega
      · simp only [List.length_map, List.length_range] at hk
        obtain ⟨e0, e1, _, _⟩ := hx k (by omega)
        rw [ha, add_plain] at e0 e1
        obtain ⟨g0, g1⟩ := hZ k (by omega)
        rw [g0] at e0
        have hg : ((List.range len).map Z)[k]?.getD (0, []) = Z k := by simp [hk]
        rw [hg]
        exact ⟨e0, e1, g1⟩
end

end Go.Proofs.Ytjabimfinanjoac

namespace Go.Proofs.Ytjabimfinanjoac
open Go.ChangeShapes Go.WideShapes Go.ChangeAt Go.RowKit Go.Joins
set_option maxRecDepth 100000

theorem Try.own : ownKnob Try.prog.godebug = none := by kernel_rfl
theorem Try.laidOut : laidOutB Try.prog = true := by kernel_rfl
theorem Try.cellsInt : Try.prog.cellsOf 2 = 1 := by kernel_rfl
theorem Try.cellsInts : Try.prog.cellsOf 47 = 1 := by kernel_rfl

end Go.Proofs.Ytjabimfinanjoac

namespace Go.Proofs.Ytjabimfinanjoac
open Go.ChangeShapes Go.WideShapes Go.ChangeAt Go.RowKit Go.Joins Go.Deep
set_option maxRecDepth 100000

theorem open_Ents {H : Type} {enc : TypeId × Value → H} {P : Program} {w : World} {base : Nat} {held : Bool} {t e : TypeId} {f0 f1 : Field} {fuel : Nat} {v : Value} {x : DataW H × List MemPlace} (ht : P.underlying t = some (.slice e)) (he : P.underlying e = some (.struct #[f0, f1]))
    (ce : P.cellsOf e = 2) (o0 : f0.offset = 0) (o1 : f1.offset = 1) (c0 : P.cellsOf f0.type = 1) (c1 : P.cellsOf f1.type = 1) (h0 : P.underlying f0.type = some .string) (h1 : P.underlying f1.type = some (.int .i64))
    (h : DataW.trod enc P w base (fun _ => true) held fuel t [v] = some x) : ∃ es, Ents w v es := by
  rcases open_slice ht h with ⟨hcs, _⟩ | ⟨a, len, cap, m, n, D, Pl, hcs, hb, hl, hm, hmm, _, hx⟩
  · simp only [List.cons.injEq, and_true] at hcs
    exact ⟨[], by rw [hcs]; exact Ents.nil w none 0⟩
  · simp only [List.cons.injEq, and_true] at hcs
    simp only [if_true] at hmm
    by_cases hl0 : len = 0
    · subst hl0; exact ⟨[], by rw [hcs]; exact Ents.nil w (some a) cap⟩
    · have each : ∀ i, i < m → ∃ q : EN, w.cell? (a.add (i * 2)) = some (.string q.1) ∧ w.cell? (a.add (i * 2 + 1)) = some (.int .i64 q.2) ∧ q.1.size ≤ maxLen := by
        intro i hi
        obtain ⟨cs', k1, k2⟩ := hx i hi
        rw [ce] at k1
        obtain ⟨_, hlen, hcell⟩ := World.cells?_some k1
        obtain ⟨xs, k, hk, hxy, _, hxl, hf⟩ := DataW.trod_struct he k2
        match xs, hxl, cs', hlen with
        | [y0, y1], _, [v0, v1], _ =>
          have g0 := hf 0 f0 rfl
          have g1 := hf 1 f1 rfl
          simp [o0, o1, c0, c1] at g0 g1
          have e0 := hcell 0 (by omega)
          have e1 := hcell 1 (by omega)
          rw [add_add] at e0 e1
          obtain ⟨z0, hz0, _, hs⟩ := DataW.trod_string h0 g0
          obtain ⟨z1, hz1, _⟩ := DataW.trod_int h1 g1
          simp only [List.cons.injEq, and_true] at hz0 hz1
          subst hz0 hz1
          exact ⟨(z0, z1), by simpa using e0, by simpa using e1, hs⟩
      obtain ⟨q, hq⟩ := choose_lt each
      have ha := addr_of (by simpa using (hq 0 (by omega)).1)
      refine ⟨(List.range len).map q, some a, cap, ?_, ?_, fun k hk => ?_⟩
      · simp only [List.length_map, List.length_range]; exact hcs
      · simp only [List.length_map, List.length_range]
        refine ⟨by omega, by omega, fun k => ?_⟩
        by_cases hk : k < len
        · have hg : ((List.range len).map q)[k]?.getD en0 = q k := by simp [hk]
          rw [hg]
          exact (hq k (by omega)).2.2
        · rw [List.getElem?_eq_none (by simpa using Nat.le_of_not_lt hk)]
          simp [en0, ByteArray.size]
      · simp only [List.length_map, List.length_range] at hk
        obtain ⟨e0, e1, _⟩ := hq k (by omega)
        rw [ha, add_plain] at e0 e1
        have hg : ((List.range len).map q)[k]?.getD en0 = q k := by simp [hk]
        rw [hg]
        exact ⟨a.block, a.off, by rw [← ha], e0, e1⟩

theorem open_cap {H : Type} {enc : TypeId × Value → H} {P : Program} {w : World} {base : Nat} {held : Bool} {t e : TypeId} {fuel : Nat} {v : Value} {x : DataW H × List MemPlace} (ht : P.underlying t = some (.slice e)) (h : DataW.trod enc P w base (fun _ => true) held fuel t [v] = some x) : capOK v := by
  rcases DataW.trod_slice ht h with ⟨hcs, _⟩ | ⟨a, len, cap, _, _, _, _, hcs, _, _, hl, _⟩
  · simp only [List.cons.injEq, and_true] at hcs
    exact ⟨none, 0, 0, hcs, Nat.le_refl _⟩
  · simp only [List.cons.injEq, and_true] at hcs
    exact ⟨some a, len, cap, hcs, hl⟩
theorem Try.cellsStr : Try.prog.cellsOf 9 = 1 := by kernel_rfl
theorem Try.cellsEnt : Try.prog.cellsOf 103 = 2 := by kernel_rfl
theorem Try.cellsEnts : Try.prog.cellsOf 69 = 1 := by kernel_rfl
theorem Try.cellsIno : Try.prog.cellsOf 71 = 5 := by kernel_rfl
theorem array5 {α : Type} {a : Array α} (h : a.size = 5) : ∃ x0 x1 x2 x3 x4, a = #[x0, x1, x2, x3, x4] := by
  obtain ⟨l⟩ := a
  match l, h with
  | [x0, x1, x2, x3, x4], _ => exact ⟨x0, x1, x2, x3, x4, rfl⟩
theorem open_InoU {H : Type} {enc : TypeId × Value → H} {W : World} {r : Reach} {b0 : Nat} {v : Value} {d : DataW H} {p : List MemPlace} (hv : Value.okWide Try.prog W r b0 71 v) (h : DataW.Trod enc Try.prog W 0 (fun _ => true) true 71 v d p) :
    ∃ v0 v1 v2 vB vE id, v = .agg #[v0, v1, v2, vB, vE] ∧ InoR W v0 v1 v2 vB vE id := by
  obtain ⟨cs, rfl, hsz⟩ := okWide_struct Try.underlying71 hv
  obtain ⟨c0, c1, c2, c3, c4, rfl⟩ := array5 (hsz.trans Try.cellsIno)
  obtain ⟨fuel, hf⟩ := h
  obtain ⟨xs, k, hk, hxy, _, hxl, hg⟩ := DataW.trod_struct Try.underlying71 hf
  match xs, hxl with
  | [y0, y1, y2, y3, y4], _ =>
    have g0 : DataW.trod enc Try.prog W 0 (fun _ => true) true k 2 [c0] = some y0 := by simpa [Value.cells, Try.cellsInt] using hg 0 _ rfl
    have g1 : DataW.trod enc Try.prog W 0 (fun _ => true) true k 2 [c1] = some y1 := by simpa [Value.cells, Try.cellsInt] using hg 1 _ rfl
    have g2 : DataW.trod enc Try.prog W 0 (fun _ => true) true k 2 [c2] = some y2 := by simpa [Value.cells, Try.cellsInt] using hg 2 _ rfl
    have g3 : DataW.trod enc Try.prog W 0 (fun _ => true) true k 47 [c3] = some y3 := by simpa [Value.cells, Try.cellsInts] using hg 3 _ rfl
    have g4 : DataW.trod enc Try.prog W 0 (fun _ => true) true k 69 [c4] = some y4 := by simpa [Value.cells, Try.cellsEnts] using hg 4 _ rfl
    obtain ⟨z0, hz0, _⟩ := DataW.trod_int Try.underlying2 g0
    obtain ⟨z1, hz1, _⟩ := DataW.trod_int Try.underlying2 g1
    obtain ⟨z2, hz2, _⟩ := DataW.trod_int Try.underlying2 g2
    simp only [List.cons.injEq, and_true] at hz0 hz1 hz2
    obtain ⟨bs, hbs⟩ := open_Ints Try.underlying47 Try.underlying2 Try.cellsInt g3
    obtain ⟨es, hes⟩ := open_Ents Try.underlying69 Try.underlying103 Try.cellsEnt rfl rfl Try.cellsStr Try.cellsInt Try.underlying9 Try.underlying2 g4
    exact ⟨c0, c1, c2, c3, c4, (z0, z1, z2, bs, es), rfl, ⟨hz0, hz1, hz2, open_cap Try.underlying47 g3⟩, hbs, hes⟩
end Go.Proofs.Ytjabimfinanjoac

namespace Go.Proofs.Ytjabimfinanjoac
open Go.ChangeShapes Go.WideShapes Go.ChangeAt Go.RowKit Go.Joins Go.Deep
set_option maxRecDepth 100000

theorem open_Inos {H : Type} {enc : TypeId × Value → H} {w : World} {base : Nat} {held : Bool} {fuel : Nat} {v : Value} {x : DataW H × List MemPlace}
    (h : DataW.trod enc Try.prog w base (fun _ => true) held fuel 22 [v] = some x) : ∃ ds, Inos w v ds := by
  rcases open_slice Try.underlying22 h with ⟨hcs, _⟩ | ⟨a, len, cap, m, n, D, Pl, hcs, hb, hl, hm, hmm, _, hx⟩
  · simp only [List.cons.injEq, and_true] at hcs
    exact ⟨[], by rw [hcs]; exact Inos.nil w none 0⟩
  · simp only [List.cons.injEq, and_true] at hcs
    simp only [if_true] at hmm
    by_cases hl0 : len = 0
    · subst hl0; exact ⟨[], by rw [hcs]; exact Inos.nil w (some a) cap⟩
    · have each : ∀ i, i < m → ∃ q : ID, ∃ vB vE, w.cell? (a.add (i * 5)) = some (.int .i64 q.1) ∧ w.cell? (a.add (i * 5 + 1)) = some (.int .i64 q.2.1) ∧ w.cell? (a.add (i * 5 + 2)) = some (.int .i64 q.2.2.1) ∧ w.cell? (a.add (i * 5 + 3)) = some vB ∧ w.cell? (a.add (i * 5 + 4)) = some vE ∧ InoR w (.int .i64 q.1) (.int .i64 q.2.1) (.int .i64 q.2.2.1) vB vE q := by
        intro i hi
        obtain ⟨cs', k1, k2⟩ := hx i hi
        rw [Try.cellsIno] at k1
        obtain ⟨_, hlen, hcell⟩ := World.cells?_some k1
        obtain ⟨xs, k, hk, hxy, _, hxl, hg⟩ := DataW.trod_struct Try.underlying71 k2
        match xs, hxl, cs', hlen with
        | [y0, y1, y2, y3, y4], _, [c0, c1, c2, c3, c4], _ =>
          have g0 : DataW.trod enc Try.prog w base (fun _ => true) held k 2 [c0] = some y0 := by simpa [Try.cellsInt] using hg 0 _ rfl
          have g1 : DataW.trod enc Try.prog w base (fun _ => true) held k 2 [c1] = some y1 := by simpa [Try.cellsInt] using hg 1 _ rfl
          have g2 : DataW.trod enc Try.prog w base (fun _ => true) held k 2 [c2] = some y2 := by simpa [Try.cellsInt] using hg 2 _ rfl
          have g3 : DataW.trod enc Try.prog w base (fun _ => true) held k 47 [c3] = some y3 := by simpa [Try.cellsInts] using hg 3 _ rfl
          have g4 : DataW.trod enc Try.prog w base (fun _ => true) held k 69 [c4] = some y4 := by simpa [Try.cellsEnts] using hg 4 _ rfl
          have e0 := hcell 0 (by omega)
          have e1 := hcell 1 (by omega)
          have e2 := hcell 2 (by omega)
          have e3 := hcell 3 (by omega)
          have e4 := hcell 4 (by omega)
          rw [add_add] at e0 e1 e2 e3 e4
          obtain ⟨z0, hz0, _⟩ := DataW.trod_int Try.underlying2 g0
          obtain ⟨z1, hz1, _⟩ := DataW.trod_int Try.underlying2 g1
          obtain ⟨z2, hz2, _⟩ := DataW.trod_int Try.underlying2 g2
          simp only [List.cons.injEq, and_true] at hz0 hz1 hz2
          subst hz0 hz1 hz2
          obtain ⟨bs, hbs⟩ := open_Ints Try.underlying47 Try.underlying2 Try.cellsInt g3
          obtain ⟨es, hes⟩ := open_Ents Try.underlying69 Try.underlying103 Try.cellsEnt rfl rfl Try.cellsStr Try.cellsInt Try.underlying9 Try.underlying2 g4
          exact ⟨(z0, z1, z2, bs, es), c3, c4, by simpa using e0, by simpa using e1, by simpa using e2, by simpa using e3, by simpa using e4, ⟨rfl, rfl, rfl, open_cap Try.underlying47 g3⟩, hbs, hes⟩
      obtain ⟨q, hq⟩ := choose_lt each
      obtain ⟨_, _, hq0, _⟩ := hq 0 (by omega)
      have ha := addr_of (by simpa using hq0)
      refine ⟨(List.range len).map q, some a, cap, ?_, ?_, fun k hk => ?_⟩
      · simp only [List.length_map, List.length_range]; exact hcs
      · simp only [List.length_map, List.length_range]
        exact ⟨by omega, by omega⟩
      · simp only [List.length_map, List.length_range] at hk
        obtain ⟨vB, vE, e0, e1, e2, e3, e4, hR⟩ := hq k (by omega)
        rw [ha, add_plain] at e0 e1 e2 e3 e4
        have hg : ((List.range len).map q)[k]?.getD id0 = q k := by simp [hk]
        rw [hg]
        exact ⟨a.block, a.off, by rw [← ha], InoAt.mk' e0 e1 e2 e3 e4 hR⟩
end Go.Proofs.Ytjabimfinanjoac

namespace Go.Proofs.Ytjabimfinanjoac
open Go.ChangeShapes Go.WideShapes Go.ChangeAt Go.RowKit Go.Joins Go.Deep
set_option maxRecDepth 100000

theorem Try.cellsByteF : Try.prog.cellsOf 5 = 1 := by kernel_rfl
theorem Try.cellsBytF : Try.prog.cellsOf 73 = 1 := by kernel_rfl
theorem Try.cellsBytsF : Try.prog.cellsOf 23 = 1 := by kernel_rfl
theorem Try.cellsInosF : Try.prog.cellsOf 22 = 1 := by kernel_rfl
theorem Try.cellsFsF : Try.prog.cellsOf 25 = 2 := by kernel_rfl
theorem open_Byt {H : Type} {enc : TypeId × Value → H} {P : Program} {w : World} {base : Nat} {held : Bool} {t e : TypeId} {fuel : Nat} {v : Value} {x : DataW H × List MemPlace} (ht : P.underlying t = some (.slice e)) (he : P.underlying e = some (.int .u8)) (ce : P.cellsOf e = 1) (h : DataW.trod enc P w base (fun _ => true) held fuel t [v] = some x) :
    ∃ zs, Byt w v zs := by
  rcases open_slice1 ht ce h with ⟨hcs, _⟩ | ⟨a, len, cap, m, n, V, D, Pl, hcs, _, hl, hm, hmm, _, hx⟩
  · simp only [List.cons.injEq, and_true] at hcs
    exact ⟨[], by rw [hcs]; exact Byt.nil w none 0⟩
  · simp only [List.cons.injEq, and_true] at hcs
    simp only [if_true] at hmm
    by_cases h0 : len = 0
    · subst h0; exact ⟨[], by rw [hcs]; exact Byt.nil w (some a) cap⟩
    · have ha := addr_of (hx 0 (by omega)).1
      obtain ⟨Z, hZ⟩ := choose_lt (α := UInt8) (n := m) (p := fun i b => V i = .int .u8 ((b.toNat : Nat) : Int)) fun i hi => by
        obtain ⟨z, h1, _, hw⟩ := DataW.trod_int he (hx i hi).2
        have hz0 : IntKind.u8.min ≤ z ∧ z ≤ IntKind.u8.max := by simpa [Lit.wf] using hw
        have hz : 0 ≤ z ∧ z ≤ 255 := hz0
        refine ⟨UInt8.ofNat z.toNat, ?_⟩
        simp only [List.cons.injEq, and_true] at h1
        rw [h1]
        congr 1
        have : (UInt8.ofNat z.toNat).toNat = z.toNat := by simp; omega
        rw [this]; omega
      refine ⟨(List.range len).map Z, some a, cap, ?_, ?_, fun k hk => ?_⟩
      · simp only [List.length_map, List.length_range]; exact hcs
      · simp only [List.length_map, List.length_range]; exact ⟨by omega, by omega⟩
      · simp only [List.length_map, List.length_range] at hk
        have h1 := (hx k (by omega)).1
        rw [ha, add_plain] at h1
        refine ⟨a.block, a.off, by rw [← ha], ?_⟩
        rw [h1, hZ k (by omega)]
        simp [hk]
theorem open_Byts {H : Type} {enc : TypeId × Value → H} {P : Program} {w : World} {base : Nat} {held : Bool} {t e q : TypeId} {fuel : Nat} {v : Value} {x : DataW H × List MemPlace} (ht : P.underlying t = some (.slice e)) (he : P.underlying e = some (.slice q)) (hq : P.underlying q = some (.int .u8)) (ce : P.cellsOf e = 1) (cq : P.cellsOf q = 1)
    (h : DataW.trod enc P w base (fun _ => true) held fuel t [v] = some x) : ∃ zss, Byts w v zss := by
  rcases open_slice1 ht ce h with ⟨hcs, _⟩ | ⟨a, len, cap, m, n, V, D, Pl, hcs, _, hl, hm, hmm, _, hx⟩
  · simp only [List.cons.injEq, and_true] at hcs
    exact ⟨[], by rw [hcs]; exact Byts.nil w none 0⟩
  · simp only [List.cons.injEq, and_true] at hcs
    simp only [if_true] at hmm
    by_cases h0 : len = 0
    · subst h0; exact ⟨[], by rw [hcs]; exact Byts.nil w (some a) cap⟩
    · have ha := addr_of (hx 0 (by omega)).1
      obtain ⟨Z, hZ⟩ := choose_lt (α := List UInt8) (n := m) (p := fun i zs => Byt w (V i) zs) fun i hi => open_Byt he hq cq (hx i hi).2
      refine ⟨(List.range len).map Z, some a, cap, ?_, ?_, fun k hk => ?_⟩
      · simp only [List.length_map, List.length_range]; exact hcs
      · simp only [List.length_map, List.length_range]; exact ⟨by omega, by omega⟩
      · simp only [List.length_map, List.length_range] at hk
        have h1 := (hx k (by omega)).1
        rw [ha, add_plain] at h1
        have hg : ((List.range len).map Z)[k]?.getD [] = Z k := by simp [hk]
        rw [hg]
        obtain ⟨ua, uc, e1, e2, e3⟩ := hZ k (by omega)
        rw [e1] at h1
        exact ⟨a.block, a.off, ua, uc, by rw [← ha], h1, ua, uc, rfl, e2, e3⟩
theorem open_FsU {H : Type} {enc : TypeId × Value → H} {W : World} {r : Reach} {b0 : Nat} {v : Value} {d : DataW H} {p : List MemPlace} (hv : Value.okWide Try.prog W r b0 25 v) (h : DataW.Trod enc Try.prog W 0 (fun _ => true) true 25 v d p) :
    ∃ v0 v1 fd, v = .agg #[v0, v1] ∧ FsR W v0 v1 fd := by
  obtain ⟨cs, rfl, hsz⟩ := okWide_struct Try.underlying25 hv
  obtain ⟨c0, c1, rfl⟩ := array2 (hsz.trans Try.cellsFsF)
  obtain ⟨fuel, hf⟩ := h
  obtain ⟨xs, k, hk, hxy, _, hxl, hg⟩ := DataW.trod_struct Try.underlying25 hf
  match xs, hxl with
  | [y0, y1], _ =>
    have g0 : DataW.trod enc Try.prog W 0 (fun _ => true) true k 22 [c0] = some y0 := by simpa [Value.cells, Try.cellsInosF] using hg 0 _ rfl
    have g1 : DataW.trod enc Try.prog W 0 (fun _ => true) true k 23 [c1] = some y1 := by simpa [Value.cells, Try.cellsBytsF] using hg 1 _ rfl
    obtain ⟨ds, hds⟩ := open_Inos g0
    obtain ⟨zss, hz⟩ := open_Byts Try.underlying23 Try.underlying73 Try.underlying5 Try.cellsBytF Try.cellsByteF g1
    exact ⟨c0, c1, (ds, zss), rfl, hds, hz⟩
end Go.Proofs.Ytjabimfinanjoac

namespace Go.Proofs.Ytjabimfinanjoac
open Go.RowKit
set_option maxRecDepth 100000

/-- Can a be reached from t by k steps at most? -/
def witB (E : Nat → List Int) (a : Int) : Nat → Int → Bool
  | 0, t => decide (a = t)
  | k + 1, t => decide (a = t) || (E t.toNat).any fun x => witB E a k x
theorem RT.head {E : Nat → List Int} {t i : Nat} {x : Int} (hx : x ∈ E t) (h : RT E x.toNat i) : RT E t i := by
  induction h with
  | zero => exact .step .zero hx
  | step _ hy ih => exact .step ih hy
theorem witB_sound {E : Nat → List Int} {a : Int} : ∀ (k : Nat) (t : Int), witB E a k t = true → RT E t.toNat a.toNat
  | 0, t, h => by
    have : a = t := by simpa [witB] using h
    rw [this]; exact .zero
  | k + 1, t, h => by
    unfold witB at h
    rw [Bool.or_eq_true] at h
    rcases h with h | h
    · have : a = t := by simpa using h
      rw [this]; exact .zero
    · obtain ⟨x, hx, hw⟩ := List.any_eq_true.1 h
      exact RT.head hx (witB_sound k x hw)
theorem witB_self (E : Nat → List Int) (a : Int) : ∀ k, witB E a k a = true
  | 0 => by simp [witB]
  | k + 1 => by simp [witB]
theorem witB_up {E : Nat → List Int} {a : Int} : ∀ (k : Nat) (t : Int), witB E a k t = true → witB E a (k + 1) t = true
  | 0, t, h => by
    have : a = t := by simpa [witB] using h
    rw [this]; exact witB_self _ _ _
  | k + 1, t, h => by
    unfold witB at h ⊢
    rw [Bool.or_eq_true] at h ⊢
    rcases h with h | h
    · exact Or.inl h
    · obtain ⟨x, hx, hw⟩ := List.any_eq_true.1 h
      exact Or.inr (List.any_eq_true.2 ⟨x, hx, witB_up k x hw⟩)
/-- One step more behind a way. -/
theorem witB_tail {E : Nat → List Int} {a x : Int} (hx : x ∈ E a.toNat) : ∀ (k : Nat) (t : Int), witB E a k t = true → witB E x (k + 1) t = true
  | 0, t, h => by
    have : a = t := by simpa [witB] using h
    subst this
    unfold witB
    rw [Bool.or_eq_true]
    exact Or.inr (List.any_eq_true.2 ⟨x, hx, witB_self _ _ _⟩)
  | k + 1, t, h => by
    unfold witB at h
    rw [Bool.or_eq_true] at h
    rcases h with h | h
    · have : a = t := by simpa using h
      subst this
      unfold witB
      rw [Bool.or_eq_true]
      exact Or.inr (List.any_eq_true.2 ⟨x, hx, witB_self _ _ _⟩)
    · obtain ⟨y, hy, hw⟩ := List.any_eq_true.1 h
      unfold witB
      rw [Bool.or_eq_true]
      exact Or.inr (List.any_eq_true.2 ⟨y, hy, witB_tail hx k y hw⟩)
/-- No more is reached by one step more. -/
def shutB (E : Nat → List Int) (n : Nat) (t : Int) (k : Nat) : Prop := ∀ i : Nat, i < n → witB E (i : Int) (k + 1) t = true → witB E (i : Int) k t = true
theorem shut_or (E : Nat → List Int) (n : Nat) (t : Nat) (ht : t < n) : ∀ k, (∃ q, q ≤ k ∧ shutB E n (t : Int) q) ∨ k + 1 ≤ cntG (fun i => witB E (i : Int) k (t : Int)) n
  | 0 => by
    right
    have := cntG_lt (g := fun _ => false) (g' := fun i => witB E (i : Int) 0 (t : Int)) (by simp) (j := t) (by simp [witB]) (by simp) n ht
    omega
  | k + 1 => by
    rcases shut_or E n t ht k with ⟨q, hq, hc⟩ | h
    · exact Or.inl ⟨q, by omega, hc⟩
    · by_cases hc : shutB E n (t : Int) k
      · exact Or.inl ⟨k, by omega, hc⟩
      · right
        have : ∃ j, j < n ∧ witB E (j : Int) (k + 1) (t : Int) = true ∧ ¬ witB E (j : Int) k (t : Int) = true := by
          apply Classical.byContradiction
          intro hno
          apply hc
          intro i hi hw
          apply Classical.byContradiction
          intro hn
          exact hno ⟨i, hi, hw, hn⟩
        obtain ⟨j, hj, h1, h2⟩ := this
        have := cntG_lt (g := fun i => witB E (i : Int) k (t : Int)) (g' := fun i => witB E (i : Int) (k + 1) (t : Int)) (fun i hi => witB_up k _ hi) h1 h2 n hj
        omega
theorem witB_mono {E : Nat → List Int} {a t : Int} {k : Nat} (h : witB E a k t = true) : ∀ q, witB E a (k + q) t = true
  | 0 => h
  | q + 1 => witB_up _ _ (witB_mono h q)
theorem wit_iff {ds : List ID} (hr : inRange ds) {n a t : Nat} (hn : ds.length = n) (h10 : n ≤ 10) (ht : t < n) : witB (entsOf ds) (a : Int) 10 (t : Int) = true ↔ RT (entsOf ds) t a := by
  subst hn
  refine ⟨fun h => by have := witB_sound _ _ h; simpa using this, fun h => ?_⟩
  rcases shut_or (entsOf ds) ds.length t ht ds.length with ⟨q, hq, hc⟩ | hbig
  · have key : a < ds.length ∧ witB (entsOf ds) (a : Int) q (t : Int) = true := by
      induction h with
      | zero => exact ⟨ht, witB_self _ _ _⟩
      | @step j x _ hx ih =>
        have hxr := hr j ih.1 x hx
        have he : ((x.toNat : Nat) : Int) = x := by omega
        refine ⟨by omega, hc _ (by omega) ?_⟩
        rw [he]
        exact witB_tail (a := (j : Int)) (by simpa using hx) q _ ih.2
    have := witB_mono key.2 (10 - q)
    rwa [show q + (10 - q) = 10 by omega] at this
  · have := cntG_le (fun i => witB (entsOf ds) (i : Int) ds.length (t : Int)) ds.length
    omega
/-- IsWithin. -/
def withinB (d : FD) (x y : Int) : Bool := decide (0 ≤ x ∧ x < (d.1.length : Int)) && !decide (kindAt d.1 x.toNat = 0) && (decide (0 ≤ y ∧ y < (d.1.length : Int)) && !decide (kindAt d.1 y.toNat = 0)) && witB (entsOf d.1) x 10 y
end Go.Proofs.Ytjabimfinanjoac

namespace Go.Proofs.Ytjabimfinanjoac
open Go.RowKit
set_option maxRecDepth 100000

/-- IsWithin. -/
def winB (d : FD) (x y : Int) : Bool := decide (fsF d = 0) && (thB d x && (thB d y && witB (entsOf d.1) x 10 y))
/-- What stands where nothing is wrong of a file system. -/
structure FsOk (d : FD) : Prop where
  ins : insF d.1 = 0
  pos : 0 < d.1.length
  ten : d.1.length ≤ 10
  rng : inRange d.1
  six : ∀ i, (entsOf d.1 i).length ≤ 6
  dat : d.2.length = 20
  top : kindAt d.1 0 = 2
theorem fsE_ok {d : FD} (h : fsE d = 0) : FsOk d := by
  obtain ⟨h1, g2, _, _, h5⟩ := fsE_zero h
  obtain ⟨g4, g5, g3⟩ := formB_no g2
  exact ⟨h1, by omega, insF_ten h1, range_of h1 h5, six_of h1, g3, g5⟩
theorem fsF_E {d : FD} (h : fsF d = 0) : fsE d = 0 := by
  unfold fsF at h
  by_cases e : fsE d = 0
  · exact e
  · rw [if_neg e] at h; exact absurd h e
theorem thB_in {d : FD} {x : Int} (h : thB d x = true) : ∃ j : Nat, x = (j : Int) ∧ j < d.1.length ∧ ¬ kindAt d.1 j = 0 := by
  unfold thB at h
  rw [Bool.and_eq_true] at h
  have h1 : 0 ≤ x ∧ x < (d.1.length : Int) := by simpa using h.1
  exact ⟨x.toNat, by omega, by omega, by simpa using h.2⟩

set_option maxHeartbeats 3200000 in
theorem implWithinU (w : World) (a1 : Option Addr) (n1 c1 : Nat) (a2 : Option Addr) (n2 c2 : Nat) (d : FD) (x y : Int) (h : FsR w (.slice a1 n1 c1) (.slice a2 n2 c2) d) (hs : sizeFs d ≤ 1048576) :
    Calls Try.prog 18 #[.agg #[.slice a1 n1 c1, .slice a2 n2 c2], .int .i64 x, .int .i64 y] w fun e w' => e = .returned (.bool (winB d x y)) ∧ Below w.heap.size w w' := by
  have HF : Hid (∀ W, Below w.heap.size w W → Calls Try.prog 36 #[.agg #[.slice a1 n1 c1, .slice a2 n2 c2]] W fun e w' => e = .returned (.int .i64 (fsF d)) ∧ Below W.heap.size W w') := fun W hW => implFsU W _ _ _ _ _ _ d (h.later hW) hs
  have HTX : Hid (∀ W, Below w.heap.size w W → Calls Try.prog 37 #[.agg #[.slice a1 n1 c1, .slice a2 n2 c2], .int .i64 x] W fun e w' => e = .returned (.bool (thB d x)) ∧ Below W.heap.size W w') := fun W hW => isThere_any W _ _ _ _ _ _ d x (h.later hW)
  have HTY : Hid (∀ W, Below w.heap.size w W → Calls Try.prog 37 #[.agg #[.slice a1 n1 c1, .slice a2 n2 c2], .int .i64 y] W fun e w' => e = .returned (.bool (thB d y)) ∧ Below W.heap.size W w') := fun W hW => isThere_any W _ _ _ _ _ _ d y (h.later hW)
  have HX : Hid (Bx (w.alloc (.cells #[.slice a1 n1 c1, .slice a2 n2 c2] 33)) w.heap.size [.slice a1 n1 c1, .slice a2 n2 c2]) := Bx.new w [.slice a1 n1 c1, .slice a2 n2 c2] _
  have HB0 : Hid (Below w.heap.size w (w.alloc (.cells #[.slice a1 n1 c1, .slice a2 n2 c2] 33))) := later1 _ _
  by_cases hf : fsF d = 0
  rotate_left
  · have HR : Hid (winB d x y = false) := by unfold Hid winB; rw [decide_eq_false hf]; rfl
    rw [HR.out]
    have hb : (fsF d != 0) = true := by simpa using hf
    clear hf HR h hs
    generalize fsF d = r at *
    go_enter Try.func18, Try.ntmps18
    go_wp2_with fail
    generalize (w.alloc (.cells #[.slice a1 n1 c1, .slice a2 n2 c2] 33)) = W0 at *
    refine (HF.out _ HB0.out).mono ?_
    rintro e w1 ⟨rfl, hb1⟩
    have HB1 : Hid (Below w.heap.size w w1) := HB0.out.trans (hb1.mono HB0.out.size)
    clear hb1
    go_wp2
    go_ret
    exact ⟨rfl, HB1.out⟩
  · have hok := fsE_ok (fsF_E hf)
    rw [hf] at HF
    cases htx : thB d x with
    | false =>
      have HR : Hid (winB d x y = false) := by unfold Hid winB; rw [htx, decide_eq_true hf]; rfl
      rw [HR.out]
      rw [htx] at HTX
      clear hf HR h hs htx hok
      go_enter Try.func18, Try.ntmps18
      go_wp2_with fail
      generalize (w.alloc (.cells #[.slice a1 n1 c1, .slice a2 n2 c2] 33)) = W0 at *
      refine (HF.out _ HB0.out).mono ?_
      rintro e w1 ⟨rfl, hb1⟩
      have HB1 : Hid (Below w.heap.size w w1) := HB0.out.trans (hb1.mono HB0.out.size)
      have x0 := (HX.out.later hb1) 0 _ rfl
      have x1 := (HX.out.later hb1) 1 _ rfl
      clear hb1
      go_wp2_with fail
      refine (HTX.out _ HB1.out).mono ?_
      rintro e w2 ⟨rfl, hb2⟩
      have HB2 : Hid (Below w.heap.size w w2) := HB1.out.trans (hb2.mono HB1.out.size)
      clear hb2 x0 x1
      go_wp2
      go_ret
      exact ⟨rfl, HB2.out⟩
    | true =>
      rw [htx] at HTX
      cases hty : thB d y with
      | false =>
        have HR : Hid (winB d x y = false) := by unfold Hid winB; rw [htx, hty, decide_eq_true hf]; rfl
        rw [HR.out]
        rw [hty] at HTY
        clear hf HR h hs htx hty hok
        go_enter Try.func18, Try.ntmps18
        go_wp2_with fail
        generalize (w.alloc (.cells #[.slice a1 n1 c1, .slice a2 n2 c2] 33)) = W0 at *
        refine (HF.out _ HB0.out).mono ?_
        rintro e w1 ⟨rfl, hb1⟩
        have HB1 : Hid (Below w.heap.size w w1) := HB0.out.trans (hb1.mono HB0.out.size)
        have HX1 : Hid (Bx w1 w.heap.size _) := HX.out.later hb1
        have x0 := HX1.out 0 _ rfl
        have x1 := HX1.out 1 _ rfl
        clear hb1
        go_wp2_with fail
        refine (HTX.out _ HB1.out).mono ?_
        rintro e w2 ⟨rfl, hb2⟩
        have HB2 : Hid (Below w.heap.size w w2) := HB1.out.trans (hb2.mono HB1.out.size)
        clear x0 x1
        have x0 := (HX1.out.later hb2) 0 _ rfl
        have x1 := (HX1.out.later hb2) 1 _ rfl
        clear hb2
        go_wp2_with fail
        refine (HTY.out _ HB2.out).mono ?_
        rintro e w3 ⟨rfl, hb3⟩
        have HB3 : Hid (Below w.heap.size w w3) := HB2.out.trans (hb3.mono HB2.out.size)
        clear hb3 x0 x1
        go_wp2
        go_ret
        exact ⟨rfl, HB3.out⟩
      | true =>
        obtain ⟨i, rfl, hi, -⟩ := thB_in htx
        obtain ⟨t, rfl, ht, -⟩ := thB_in hty
        rw [hty] at HTY
        obtain ⟨_, _, e1, hm1, hAt⟩ := h.1.open'
        simp only [Value.slice.injEq] at e1
        obtain ⟨rfl, rfl, rfl⟩ := e1
        have hten := hok.ten
        have HRF : Hid (∀ W, Below w.heap.size w W → Calls Try.prog 38 #[.slice a1 d.1.length c1, .int .i64 (t : Int)] W fun e w' => ∃ b m, e = .returned (.map (some b)) ∧ Below W.heap.size W w' ∧ (Instr.lookup 66 (.map (some b)) (.int .i64 (i : Int)) false).run Try.prog w' = .ok (.int .i64 m) w' ∧ decide (0 < m) = winB d (i : Int) (t : Int)) := fun W hW => by
          refine (reachFrom_top W a1 _ c1 t d.1 rfl ht hten (hAt.later hW) hok.rng hok.six).mono ?_
          rintro e w' ⟨b, N, m, rfl, hb, _, hmp, hrp, _⟩
          refine ⟨b, m (i : Int), rfl, hb, hmp.look (wf64_of (by omega) (by omega)), ?_⟩
          unfold winB
          rw [htx, hty, decide_eq_true hf, Bool.true_and, Bool.true_and, Bool.true_and]
          rw [Bool.eq_iff_iff, decide_eq_true_eq]
          exact (hrp i).trans (wit_iff hok.rng rfl hten ht).symm
        clear hf h hs htx hty hok hAt hm1
        generalize winB d (i : Int) (t : Int) = R at *
        generalize d.1.length = n at *
        go_enter Try.func18, Try.ntmps18
        go_wp2_with fail
        generalize (w.alloc (.cells #[.slice a1 n c1, .slice a2 n2 c2] 33)) = W0 at *
        refine (HF.out _ HB0.out).mono ?_
        rintro e w1 ⟨rfl, hb1⟩
        have HB1 : Hid (Below w.heap.size w w1) := HB0.out.trans (hb1.mono HB0.out.size)
        have HX1 : Hid (Bx w1 w.heap.size _) := HX.out.later hb1
        have x0 := HX1.out 0 _ rfl
        have x1 := HX1.out 1 _ rfl
        clear hb1
        go_wp2_with fail
        refine (HTX.out _ HB1.out).mono ?_
        rintro e w2 ⟨rfl, hb2⟩
        have HB2 : Hid (Below w.heap.size w w2) := HB1.out.trans (hb2.mono HB1.out.size)
        have HX2 : Hid (Bx w2 w.heap.size _) := HX1.out.later hb2
        clear x0 x1
        have x0 := HX2.out 0 _ rfl
        have x1 := HX2.out 1 _ rfl
        clear hb2
        go_wp2_with fail
        refine (HTY.out _ HB2.out).mono ?_
        rintro e w3 ⟨rfl, hb3⟩
        have HB3 : Hid (Below w.heap.size w w3) := HB2.out.trans (hb3.mono HB2.out.size)
        clear x0 x1
        have x0 := (HX2.out.later hb3) 0 _ rfl
        have x1 := (HX2.out.later hb3) 1 _ rfl
        clear hb3
        go_wp2_with fail
        refine (HRF.out _ HB3.out).mono ?_
        rintro e w4 ⟨b, m, rfl, hb4, hlk, hR⟩
        have HB4 : Hid (Below w.heap.size w w4) := HB3.out.trans (hb4.mono HB3.out.size)
        have HLK : Hid (_ = _) := hlk
        have HRR : Hid (decide (0 < m) = R) := hR
        clear hb4 hlk hR x0 x1
        go_wp2_with (first | (at_lookup; refine wpList_lookup_run rfl _ _ _ rfl _ _ rfl rfl _ HLK.out ?_) | fail)
        go_ret
        exact ⟨ret_bool HRR.out, HB4.out⟩
end Go.Proofs.Ytjabimfinanjoac
