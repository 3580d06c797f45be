/- The program's AddName. Rows that grow by append, each element with bytes of its own. -/
import Derived.Test.YtedpooagalmgdamGreatM19
import Derived.Test.YtedpooagalmgdamGreatM04
namespace Go.Proofs.YtedpooagalmgdamGreat
open Go.RowKit
set_option maxRecDepth 100000

theorem cloneS_any (w : World) (s : ByteArray) (hs : s.size ≤ 1048576) : Calls Tryz.prog 66 #[.string s] w fun e w' => e = .returned (.string s) ∧ Below w.heap.size w w' := by
  have := clone_any w s.data.toList (by have : s.data.toList.length = s.size := Array.length_toList; omega)
  rw [mkB_data] at this
  exact this
set_option maxHeartbeats 800000 in
theorem takesLink_any (w : World) (x0 x1 x2 : Int) (v3 v4 : Value) : Calls Tryz.prog 64 #[.agg #[.int .i64 x0, .int .i64 x1, .int .i64 x2, v3, v4]] w fun e w' => e = .returned (.bool (decide (¬ (x0 = 1 ∧ 60 ≤ x1)))) ∧ Below w.heap.size w w' := by
  by_cases h1 : x0 = 1
  · have hb : (x0 != 1) = false := by simpa using h1
    have HE : Hid (decide (x1 < 60) = decide (¬ (x0 = 1 ∧ 60 ≤ x1))) := by
      unfold Hid
      by_cases h2 : x1 < 60
      · rw [decide_eq_true h2, decide_eq_true (by omega)]
      · rw [decide_eq_false h2, decide_eq_false (by omega)]
    clear h1
    go_enter Tryz.func64, Tryz.ntmps64
    go_wp2
    go_ret
    exact ⟨ret_bool HE.out, later1 _ _⟩
  · have hb : (x0 != 1) = true := by simpa using h1
    have HE : Hid (decide (¬ (x0 = 1 ∧ 60 ≤ x1)) = true) := by unfold Hid; exact decide_eq_true (by omega)
    clear h1
    go_enter Tryz.func64, Tryz.ntmps64
    go_wp2
    go_ret
    exact ⟨ret_bool HE.out.symm, later1 _ _⟩
/-- What lies at a place. -/
theorem FsR.five {w : World} {b0 o0 n1 c1 : Nat} {v2 : Value} {d : FD} (h : FsR w (.slice (some ⟨b0, o0, none⟩) n1 c1) v2 d) {j : Nat} (hj : j < d.1.length) : ∃ aB cB aE cE, w.cell? ⟨b0, o0 + j * 5, none⟩ = some (.int .i64 (d.1[j]?.getD id0).1) ∧ w.cell? ⟨b0, o0 + j * 5 + 1, none⟩ = some (.int .i64 (d.1[j]?.getD id0).2.1) ∧ w.cell? ⟨b0, o0 + j * 5 + 2, none⟩ = some (.int .i64 (d.1[j]?.getD id0).2.2.1) ∧ w.cell? ⟨b0, o0 + j * 5 + 3, none⟩ = some (.slice aB (d.1[j]?.getD id0).2.2.2.1.length cB) ∧ w.cell? ⟨b0, o0 + j * 5 + 4, none⟩ = some (.slice aE (entA d j).length cE) ∧ Ents w (.slice aE (entA d j).length cE) (entA d j) := by
  obtain ⟨_, _, e1, _, hAt⟩ := h.1.open'
  simp only [Value.slice.injEq] at e1
  obtain ⟨rfl, rfl, rfl⟩ := e1
  obtain ⟨b, o, e, hI⟩ := hAt j hj
  simp only [Option.some.injEq, Addr.mk.injEq, and_true] at e
  obtain ⟨rfl, rfl⟩ := e
  obtain ⟨aB, cB, aE, cE, k0, k1, k2, k3, k4, hR⟩ := hI
  exact ⟨aB, cB, aE, cE, k0, k1, k2, k3, k4, hR.2.2⟩
theorem Ents.cap {w : World} {a : Option Addr} {n c : Nat} {es : List EN} (h : Ents w (.slice a n c) es) : es.length = n ∧ n ≤ c ∧ AtN w a n es ∧ (a = none → n = 0) ∧ ∀ k : Nat, (es[k]?.getD en0).1.size ≤ maxLen := by
  obtain ⟨a', c', e, ⟨_, h2, h3⟩, h4⟩ := h
  simp only [Value.slice.injEq] at e
  obtain ⟨rfl, rfl, rfl⟩ := e
  refine ⟨rfl, h2, h4, fun e => ?_, h3⟩
  by_cases h0 : es.length = 0
  · exact h0
  · obtain ⟨b, off, e2, _⟩ := h4 0 (by omega)
    rw [e] at e2
    simp at e2
theorem dir_blk {x : ID} (h : inoF x = 0) (hk : x.1 = 2) : x.2.2.2.1 = [] := by
  unfold inoF at h
  rw [if_neg (by omega), if_neg (by omega), if_pos hk] at h
  by_cases hd : fpB x = true
  · rw [if_pos hd] at h; omega
  · unfold fpB at hd
    simp at hd
    exact hd.2
theorem insE_size {es : List EN} {k : Nat} {s : ByteArray} {y : Int} (hz : ∀ k : Nat, (es[k]?.getD en0).1.size ≤ maxLen) (hs : s.size ≤ maxLen) (i : Nat) : ((insE es k (s, y))[i]?.getD en0).1.size ≤ maxLen := by
  have h0 : (en0 : EN).1.size ≤ maxLen := by simp [en0, ByteArray.size]
  have hm : ∀ e ∈ insE es k (s, y), e.1.size ≤ maxLen := fun e he => by
    unfold insE at he
    have hall : ∀ e ∈ es, e.1.size ≤ maxLen := fun e he => by
      obtain ⟨i, hi, rfl⟩ := List.mem_iff_getElem.1 he
      have := hz i
      rw [List.getElem?_eq_getElem hi] at this
      exact this
    rcases List.mem_append.1 he with he | he
    · rcases List.mem_append.1 he with he | he
      · exact hall e (List.mem_of_mem_take he)
      · simp at he; rw [he]; exact hs
    · exact hall e (List.mem_of_mem_drop he)
  cases hq : (insE es k (s, y))[i]? with
  | none => exact h0
  | some e => exact hm e (List.mem_of_getElem? hq)

theorem ino_lnk {x : ID} (h : inoF x = 0) (hk : x.1 = 1) : 1 ≤ x.2.1 ∧ x.2.1 ≤ 60 := by
  unfold inoF at h
  rw [if_neg (by omega), if_pos hk] at h
  by_cases hd : dpB x = true
  · rw [if_pos hd] at h; omega
  · rw [if_neg hd] at h
    unfold fileF at h
    by_cases hl : linkB x.2.1 = true ∧ sizeB x.2.2.1 = true
    · have := hl.1
      unfold linkB at this
      simpa using this
    · rw [if_neg hl] at h; omega
theorem entD_kind (d : FD) (j z : Nat) (es : List EN) (hj : j < d.1.length) : ((entD d j es).1[z]?.getD id0).1 = (d.1[z]?.getD id0).1 ∧ ((entD d j es).1[z]?.getD id0).2.1 = (d.1[z]?.getD id0).2.1 := by
  unfold entD
  dsimp only
  rw [set_getD _ _ _ _ _ hj]
  by_cases e : z = j
  · rw [if_pos e, e]; exact ⟨rfl, rfl⟩
  · rw [if_neg e]; exact ⟨rfl, rfl⟩
/-- What is answered where a file system in own memory is in a box. -/
theorem AnsFR.box {w W : World} {bI n cI bD cD rb : Nat} {d : FD} {F : Nat → Prop} (hB : Below w.heap.size w W) (hrb : w.heap.size ≤ rb) (h : FsS W bI n cI bD 20 cD d F) (hF : ∀ c, F c → w.heap.size ≤ c ∧ c ≠ rb) (x y z : Value) : AnsFR w (0, d) (.returned (.agg #[.int .i64 0, .slice (some ⟨bI, 0, none⟩) n cI, .slice (some ⟨bD, 0, none⟩) 20 cD])) (((W.setCell ⟨rb, 0, none⟩ x).setCell ⟨rb, 1, none⟩ y).setCell ⟨rb, 2, none⟩ z) :=
  AnsFR.put hB hrb (h.fsB.mono fun b hb => ⟨(hF b hb.1).1, hb.2, (hF b hb.1).2⟩) x y z

set_option maxHeartbeats 12800000 in
theorem implAddU (w : World) (a1 : Option Addr) (n1 c1 : Nat) (a2 : Option Addr) (n2 c2 : Nat) (d : FD) (x : Int) (s : ByteArray) (y : Int) (h : FsR w (.slice a1 n1 c1) (.slice a2 n2 c2) d) (hs : sizeFs d ≤ 1048576) (hl : s.size ≤ 1048576) :
    Calls Tryz.prog 30 #[.agg #[.slice a1 n1 c1, .slice a2 n2 c2], .int .i64 x, .string s, .int .i64 y] w (AnsFR w (addR d x s y)) := by
  have hml : s.size ≤ maxLen := by unfold maxLen; omega
  have HB0 : Hid (Below w.heap.size w ((w.alloc (.cells #[.slice a1 n1 c1, .slice a2 n2 c2] 31)).alloc (.cells #[.int .i64 0, .slice none 0 0, .slice none 0 0] 33))) := later2 _ _ _
  have HBX : Hid (Bx ((w.alloc (.cells #[.slice a1 n1 c1, .slice a2 n2 c2] 31)).alloc (.cells #[.int .i64 0, .slice none 0 0, .slice none 0 0] 33)) w.heap.size [.slice a1 n1 c1, .slice a2 n2 c2]) := (Bx.new w [.slice a1 n1 c1, .slice a2 n2 c2] _).later (later1 _ _)
  have HRS : Hid (OwnRow ((w.alloc (.cells #[.slice a1 n1 c1, .slice a2 n2 c2] 31)).alloc (.cells #[.int .i64 0, .slice none 0 0, .slice none 0 0] 33)) (w.heap.size + 1) 3 (cel zero3)) := by
    have p2 := row3 (w.alloc (.cells #[.slice a1 n1 c1, .slice a2 n2 c2] 31)) 33
    rw [World.size_alloc] at p2
    exact p2
  have HF : Hid (∀ W, Below w.heap.size w W → Calls Tryz.prog 61 #[.agg #[.slice a1 n1 c1, .slice a2 n2 c2], .int .i64 x, .string s] W fun e w' => e = .returned (.int .i64 (dirN d x s)) ∧ Below W.heap.size W w') := fun W hW => dirNameFault_any W _ _ _ _ _ _ d x s (h.later hW) (by unfold sizeFs at hs; omega) hml
  have HRR : Hid (addR d x s y = if dirN d x s = 0 then addQ d x.toNat s y else noFs (dirN d x s)) := rfl
  rw [HRR.out]
  clear HRR
  by_cases hq : dirN d x s = 0
  rotate_left
  · rw [if_neg hq]
    have hb : (dirN d x s != 0) = true := by simpa using hq
    clear hq h hs
    generalize dirN d x s = r at *
    go_enter Tryz.func30, Tryz.ntmps30
    go_wp2_with fail
    generalize ((w.alloc (.cells #[.slice a1 n1 c1, .slice a2 n2 c2] 31)).alloc (.cells #[.int .i64 0, .slice none 0 0, .slice none 0 0] 33)) = W0 at *
    refine (HF.out _ HB0.out).mono ?_
    rintro e w1 ⟨rfl, hb1⟩
    have HB1 : Hid (Below w.heap.size w w1) := HB0.out.trans (hb1.mono HB0.out.size)
    have hrr := HRS.out.later hb1
    have t0 : w1.cell? ⟨w.heap.size + 1, 0, none⟩ = some (.int .i64 0) := hrr.cell (i := 0) (by omega)
    have t1 : w1.cell? ⟨w.heap.size + 1, 1, none⟩ = some (.slice none 0 0) := hrr.cell (i := 1) (by omega)
    have t2 : w1.cell? ⟨w.heap.size + 1, 2, none⟩ = some (.slice none 0 0) := hrr.cell (i := 2) (by omega)
    have s0 := hrr.frozen 0
    have s1 := hrr.frozen 1
    have s2 := hrr.frozen 2
    clear hb1 hrr
    go_wp2
    exact bodyPost_ret (v := .agg #[.int .i64 r, .slice none 0 0, .slice none 0 0]) (by simp [results, Tryz.results30, go_sem, t0, t1, t2]) rfl (AnsFR.none' r HB1.out (by omega) _ _ _)
  · rw [if_pos hq]
    have hq0 : dirQ d x = 0 := dirN_in hq
    have hds := dirS hq0
    obtain ⟨-, hp, -⟩ := dirQ_in hq0
    obtain ⟨j, rfl⟩ : ∃ j : Nat, x = (j : Int) := ⟨x.toNat, by omega⟩
    rw [Int.toNat_natCast] at hds ⊢
    obtain ⟨b0, o0, _, _, rfl, rfl, -, -⟩ := h.dir hds.lt
    obtain ⟨aB, cB, aE, cE, -, -, -, -, k4, hE⟩ := h.five hds.lt
    obtain ⟨-, -, hAt, -, -⟩ := hE.cap
    have HK4 : Hid (_ = _) := k4
    have HDS : Hid (DirS d j) := hds
    have hjn : (j : Int) < ((d.1.length : Nat) : Int) := by omega
    have hlt := hds.lt
    have h6 := hds.six
    have hten := hds.ten
    rw [hq] at HF
    have HPL : Hid (∀ W, Below w.heap.size w W → Calls Tryz.prog 62 #[.slice aE (entA d j).length cE, .string s] W fun e w' => e = .returned (.tuple #[.int .i64 ((plcE (entA d j) s : Nat) : Int), .bool (decide (idxE (entA d j) s < (entA d j).length))]) ∧ Below W.heap.size W w') := fun W hW => by
      have := placeOf_any W aE _ cE (entA d j) s rfl (by omega) (hAt.later hW)
      rw [fnd_iff hds.rises] at this
      exact this
    have HIN : Hid (∀ W, Calls Tryz.prog 63 #[.agg #[.slice (some ⟨b0, o0, none⟩) d.1.length c1, .slice a2 n2 c2], .int .i64 y] W fun e w' => e = .returned (.bool (decide (0 ≤ y ∧ y < (d.1.length : Int)))) ∧ Below W.heap.size W w') := fun W => isInode_any W _ _ _ _ _ _ y
    have HAQ : Hid (addQ d j s y = if idxE (entA d j) s < (entA d j).length then noFs 7 else if 0 ≤ y ∧ y < (d.1.length : Int) ∧ ¬ kindAt d.1 y.toNat = 0 then (if (entA d j).length = 6 ∨ (kindAt d.1 y.toNat = 1 ∧ 60 ≤ (d.1[y.toNat]?.getD id0).2.1) then noFs 2 else (0, addD d j s y.toNat)) else noFs 4) := rfl
    rw [HAQ.out]
    clear HAQ k4 hE hq hq0 hp hAt
    obtain ⟨n, hn⟩ : ∃ n, d.1.length = n := ⟨_, rfl⟩
    have HN : Hid (d.1.length = n) := hn
    by_cases hi : idxE (entA d j) s < (entA d j).length
    · rw [if_pos hi]
      rw [decide_eq_true hi] at HPL
      rw [hn] at hjn hlt HF HBX HRS HB0 h HIN hten ⊢
      clear hi h HIN hn hds
      generalize plcE (entA d j) s = pl at *
      generalize (entA d j).length = m at *
      go_enter Tryz.func30, Tryz.ntmps30
      go_wp2_with fail
      generalize ((w.alloc (.cells #[.slice (some ⟨b0, o0, none⟩) n c1, .slice a2 n2 c2] 31)).alloc (.cells #[.int .i64 0, .slice none 0 0, .slice none 0 0] 33)) = W0 at *
      refine (HF.out _ HB0.out).mono ?_
      rintro e w1 ⟨rfl, hb⟩
      have HB1 : Hid (Below w.heap.size w w1) := HB0.out.trans (hb.mono HB0.out.size)
      have HR1 : Hid (OwnRow w1 (w.heap.size + 1) 3 (cel zero3)) := HRS.out.later hb
      have HX1 : Hid (Bx w1 w.heap.size [.slice (some ⟨b0, o0, none⟩) n c1, .slice a2 n2 c2]) := HBX.out.later hb
      clear hb
      have k1 := cell_later HB1.out HK4.out
      have x0 := HX1.out 0 _ rfl
      have x1 := HX1.out 1 _ rfl
      have hlw : w.heap.size + 1 < w1.heap.size := HR1.out.lt
      go_wp2_with fail
      refine (HPL.out _ HB1.out).mono ?_
      rintro e w2 ⟨rfl, hb⟩
      have HB2 : Hid (Below w.heap.size w w2) := HB1.out.trans (hb.mono HB1.out.size)
      have hrr := HR1.out.later hb
      have t0 : w2.cell? ⟨w.heap.size + 1, 0, none⟩ = some (.int .i64 0) := hrr.cell (i := 0) (by omega)
      have t1 : w2.cell? ⟨w.heap.size + 1, 1, none⟩ = some (.slice none 0 0) := hrr.cell (i := 1) (by omega)
      have t2 : w2.cell? ⟨w.heap.size + 1, 2, none⟩ = some (.slice none 0 0) := hrr.cell (i := 2) (by omega)
      have s0 := hrr.frozen 0
      have s1 := hrr.frozen 1
      have s2 := hrr.frozen 2
      clear hb hrr k1 x0 x1
      go_wp2
      exact bodyPost_ret (v := .agg #[.int .i64 7, .slice none 0 0, .slice none 0 0]) (by simp [results, Tryz.results30, go_sem, t0, t1, t2]) rfl (AnsFR.none' 7 HB2.out (by omega) _ _ _)
    · rw [if_neg hi]
      rw [decide_eq_false hi] at HPL
      by_cases hy : 0 ≤ y ∧ y < (d.1.length : Int)
      rotate_left
      · rw [if_neg (fun hh => hy ⟨hh.1, hh.2.1⟩)]
        rw [decide_eq_false hy] at HIN
        rw [hn] at hjn hlt HF HBX HRS HB0 h HIN hten ⊢
        clear hi h hn hds hy
        generalize plcE (entA d j) s = pl at *
        generalize (entA d j).length = m at *
        go_enter Tryz.func30, Tryz.ntmps30
        go_wp2_with fail
        generalize ((w.alloc (.cells #[.slice (some ⟨b0, o0, none⟩) n c1, .slice a2 n2 c2] 31)).alloc (.cells #[.int .i64 0, .slice none 0 0, .slice none 0 0] 33)) = W0 at *
        refine (HF.out _ HB0.out).mono ?_
        rintro e w1 ⟨rfl, hb⟩
        have HB1 : Hid (Below w.heap.size w w1) := HB0.out.trans (hb.mono HB0.out.size)
        have HR1 : Hid (OwnRow w1 (w.heap.size + 1) 3 (cel zero3)) := HRS.out.later hb
        have HX1 : Hid (Bx w1 w.heap.size [.slice (some ⟨b0, o0, none⟩) n c1, .slice a2 n2 c2]) := HBX.out.later hb
        clear hb
        have k1 := cell_later HB1.out HK4.out
        have x0 := HX1.out 0 _ rfl
        have x1 := HX1.out 1 _ rfl
        have hlw : w.heap.size + 1 < w1.heap.size := HR1.out.lt
        go_wp2_with fail
        clear k1 x0 x1 hlw
        refine (HPL.out _ HB1.out).mono ?_
        rintro e w2 ⟨rfl, hb⟩
        have HB2 : Hid (Below w.heap.size w w2) := HB1.out.trans (hb.mono HB1.out.size)
        have HR2 : Hid (OwnRow w2 (w.heap.size + 1) 3 (cel zero3)) := HR1.out.later hb
        have HX2 : Hid (Bx w2 w.heap.size [.slice (some ⟨b0, o0, none⟩) n c1, .slice a2 n2 c2]) := HX1.out.later hb
        clear hb
        have x0 := HX2.out 0 _ rfl
        have x1 := HX2.out 1 _ rfl
        go_wp2_with fail
        refine (HIN.out _).mono ?_
        rintro e w3 ⟨rfl, hb⟩
        have HB3 : Hid (Below w.heap.size w w3) := HB2.out.trans (hb.mono HB2.out.size)
        have hrr := HR2.out.later hb
        have t0 : w3.cell? ⟨w.heap.size + 1, 0, none⟩ = some (.int .i64 0) := hrr.cell (i := 0) (by omega)
        have t1 : w3.cell? ⟨w.heap.size + 1, 1, none⟩ = some (.slice none 0 0) := hrr.cell (i := 1) (by omega)
        have t2 : w3.cell? ⟨w.heap.size + 1, 2, none⟩ = some (.slice none 0 0) := hrr.cell (i := 2) (by omega)
        have s0 := hrr.frozen 0
        have s1 := hrr.frozen 1
        have s2 := hrr.frozen 2
        clear hb hrr x0 x1
        go_wp2
        exact bodyPost_ret (v := .agg #[.int .i64 4, .slice none 0 0, .slice none 0 0]) (by simp [results, Tryz.results30, go_sem, t0, t1, t2]) rfl (AnsFR.none' 4 HB3.out (by omega) _ _ _)
      · rw [decide_eq_true hy] at HIN
        obtain ⟨z, rfl⟩ : ∃ z : Nat, y = (z : Int) := ⟨y.toNat, by omega⟩
        rw [Int.toNat_natCast]
        have hzn : z < d.1.length := by omega
        have hzI : (z : Int) < ((d.1.length : Nat) : Int) := by omega
        obtain ⟨aB', cB', aE', cE', g0, g1, g2, g3, g4, -⟩ := h.five hzn
        have HG0 : Hid (_ = _) := g0
        have HG1 : Hid (_ = _) := g1
        have HG2 : Hid (_ = _) := g2
        have HG3 : Hid (_ = _) := g3
        have HG4 : Hid (_ = _) := g4
        clear g0 g1 g2 g3 g4
        by_cases hk0 : kindAt d.1 z = 0
        · rw [if_neg (fun hh => hh.2.2 hk0)]
          have hkb : ((d.1[z]?.getD id0).1 == 0) = true := beq_iff_eq.2 hk0
          rw [hn] at hjn hlt HF HBX HRS HB0 h HIN hten hzn hzI ⊢
          clear hi h hn hds hy hk0 HG1 HG2 HG3 HG4
          generalize plcE (entA d j) s = pl at *
          generalize (entA d j).length = m at *
          generalize (d.1[z]?.getD id0).1 = kd at *
          go_enter Tryz.func30, Tryz.ntmps30
          go_wp2_with fail
          generalize ((w.alloc (.cells #[.slice (some ⟨b0, o0, none⟩) n c1, .slice a2 n2 c2] 31)).alloc (.cells #[.int .i64 0, .slice none 0 0, .slice none 0 0] 33)) = W0 at *
          refine (HF.out _ HB0.out).mono ?_
          rintro e w1 ⟨rfl, hb⟩
          have HB1 : Hid (Below w.heap.size w w1) := HB0.out.trans (hb.mono HB0.out.size)
          have HR1 : Hid (OwnRow w1 (w.heap.size + 1) 3 (cel zero3)) := HRS.out.later hb
          have HX1 : Hid (Bx w1 w.heap.size [.slice (some ⟨b0, o0, none⟩) n c1, .slice a2 n2 c2]) := HBX.out.later hb
          clear hb
          have k1 := cell_later HB1.out HK4.out
          have x0 := HX1.out 0 _ rfl
          have x1 := HX1.out 1 _ rfl
          have hlw : w.heap.size + 1 < w1.heap.size := HR1.out.lt
          go_wp2_with fail
          clear k1 x0 x1 hlw
          refine (HPL.out _ HB1.out).mono ?_
          rintro e w2 ⟨rfl, hb⟩
          have HB2 : Hid (Below w.heap.size w w2) := HB1.out.trans (hb.mono HB1.out.size)
          have HR2 : Hid (OwnRow w2 (w.heap.size + 1) 3 (cel zero3)) := HR1.out.later hb
          have HX2 : Hid (Bx w2 w.heap.size [.slice (some ⟨b0, o0, none⟩) n c1, .slice a2 n2 c2]) := HX1.out.later hb
          clear hb
          have x0 := HX2.out 0 _ rfl
          have x1 := HX2.out 1 _ rfl
          go_wp2_with fail
          clear x0 x1
          refine (HIN.out _).mono ?_
          rintro e w3 ⟨rfl, hb⟩
          have HB3 : Hid (Below w.heap.size w w3) := HB2.out.trans (hb.mono HB2.out.size)
          have HR3 : Hid (OwnRow w3 (w.heap.size + 1) 3 (cel zero3)) := HR2.out.later hb
          have HX3 : Hid (Bx w3 w.heap.size [.slice (some ⟨b0, o0, none⟩) n c1, .slice a2 n2 c2]) := HX2.out.later hb
          clear hb
          have x0 := HX3.out 0 _ rfl
          have x1 := HX3.out 1 _ rfl
          have g03 := cell_later HB3.out HG0.out
          have hrr := HR3.out
          have t0 : w3.cell? ⟨w.heap.size + 1, 0, none⟩ = some (.int .i64 0) := hrr.cell (i := 0) (by omega)
          have t1 : w3.cell? ⟨w.heap.size + 1, 1, none⟩ = some (.slice none 0 0) := hrr.cell (i := 1) (by omega)
          have t2 : w3.cell? ⟨w.heap.size + 1, 2, none⟩ = some (.slice none 0 0) := hrr.cell (i := 2) (by omega)
          have s0 := hrr.frozen 0
          have s1 := hrr.frozen 1
          have s2 := hrr.frozen 2
          clear hrr
          go_wp2
          exact bodyPost_ret (v := .agg #[.int .i64 4, .slice none 0 0, .slice none 0 0]) (by simp [results, Tryz.results30, go_sem, t0, t1, t2]) rfl (AnsFR.none' 4 HB3.out (by omega) _ _ _)
        · rw [if_pos ⟨by omega, by omega, hk0⟩]
          have hkb : ((d.1[z]?.getD id0).1 == 0) = false := beq_eq_false_iff_ne.2 hk0
          have HTL : Hid (∀ W, Calls Tryz.prog 64 #[.agg #[.int .i64 (d.1[z]?.getD id0).1, .int .i64 (d.1[z]?.getD id0).2.1, .int .i64 (d.1[z]?.getD id0).2.2.1, .slice aB' (d.1[z]?.getD id0).2.2.2.1.length cB', .slice aE' (entA d z).length cE']] W fun e w' => e = .returned (.bool (decide (¬ ((d.1[z]?.getD id0).1 = 1 ∧ 60 ≤ (d.1[z]?.getD id0).2.1)))) ∧ Below W.heap.size W w') := fun W => takesLink_any W _ _ _ _ _
          by_cases hmany : (entA d j).length = 6 ∨ (kindAt d.1 z = 1 ∧ 60 ≤ (d.1[z]?.getD id0).2.1)
          · rw [if_pos hmany]
            by_cases hm6 : (entA d j).length = 6
            · rw [hm6] at HK4 HPL
              rw [hn] at hjn hlt HF HBX HRS HB0 h HIN hten hzn hzI ⊢
              clear hi h hn hds hy hk0 HG1 HG2 HG3 HG4 HTL hmany hm6
              generalize plcE (entA d j) s = pl at *
              generalize (d.1[z]?.getD id0).1 = kd at *
              go_enter Tryz.func30, Tryz.ntmps30
              go_wp2_with fail
              generalize ((w.alloc (.cells #[.slice (some ⟨b0, o0, none⟩) n c1, .slice a2 n2 c2] 31)).alloc (.cells #[.int .i64 0, .slice none 0 0, .slice none 0 0] 33)) = W0 at *
              refine (HF.out _ HB0.out).mono ?_
              rintro e w1 ⟨rfl, hb⟩
              have HB1 : Hid (Below w.heap.size w w1) := HB0.out.trans (hb.mono HB0.out.size)
              have HR1 : Hid (OwnRow w1 (w.heap.size + 1) 3 (cel zero3)) := HRS.out.later hb
              have HX1 : Hid (Bx w1 w.heap.size [.slice (some ⟨b0, o0, none⟩) n c1, .slice a2 n2 c2]) := HBX.out.later hb
              clear hb
              have k1 := cell_later HB1.out HK4.out
              have x0 := HX1.out 0 _ rfl
              have x1 := HX1.out 1 _ rfl
              have hlw : w.heap.size + 1 < w1.heap.size := HR1.out.lt
              go_wp2_with fail
              clear k1 x0 x1 hlw
              refine (HPL.out _ HB1.out).mono ?_
              rintro e w2 ⟨rfl, hb⟩
              have HB2 : Hid (Below w.heap.size w w2) := HB1.out.trans (hb.mono HB1.out.size)
              have HR2 : Hid (OwnRow w2 (w.heap.size + 1) 3 (cel zero3)) := HR1.out.later hb
              have HX2 : Hid (Bx w2 w.heap.size [.slice (some ⟨b0, o0, none⟩) n c1, .slice a2 n2 c2]) := HX1.out.later hb
              clear hb
              have x0 := HX2.out 0 _ rfl
              have x1 := HX2.out 1 _ rfl
              go_wp2_with fail
              clear x0 x1
              refine (HIN.out _).mono ?_
              rintro e w3 ⟨rfl, hb⟩
              have HB3 : Hid (Below w.heap.size w w3) := HB2.out.trans (hb.mono HB2.out.size)
              have HR3 : Hid (OwnRow w3 (w.heap.size + 1) 3 (cel zero3)) := HR2.out.later hb
              have HX3 : Hid (Bx w3 w.heap.size [.slice (some ⟨b0, o0, none⟩) n c1, .slice a2 n2 c2]) := HX2.out.later hb
              clear hb
              have x0 := HX3.out 0 _ rfl
              have x1 := HX3.out 1 _ rfl
              have g03 := cell_later HB3.out HG0.out
              have k3 := cell_later HB3.out HK4.out
              have hrr := HR3.out
              have t0 : w3.cell? ⟨w.heap.size + 1, 0, none⟩ = some (.int .i64 0) := hrr.cell (i := 0) (by omega)
              have t1 : w3.cell? ⟨w.heap.size + 1, 1, none⟩ = some (.slice none 0 0) := hrr.cell (i := 1) (by omega)
              have t2 : w3.cell? ⟨w.heap.size + 1, 2, none⟩ = some (.slice none 0 0) := hrr.cell (i := 2) (by omega)
              have s0 := hrr.frozen 0
              have s1 := hrr.frozen 1
              have s2 := hrr.frozen 2
              clear hrr
              go_wp2
              exact bodyPost_ret (v := .agg #[.int .i64 2, .slice none 0 0, .slice none 0 0]) (by simp [results, Tryz.results30, go_sem, t0, t1, t2]) rfl (AnsFR.none' 2 HB3.out (by omega) _ _ _)
            · have hmb : ((((entA d j).length : Nat) : Int) == 6) = false := beq_eq_false_iff_ne.2 (by omega)
              have htl : decide (¬ ((d.1[z]?.getD id0).1 = 1 ∧ 60 ≤ (d.1[z]?.getD id0).2.1)) = false := decide_eq_false (fun hh => hh (hmany.resolve_left hm6))
              rw [htl] at HTL
              rw [hn] at hjn hlt HF HBX HRS HB0 h HIN hten hzn hzI ⊢
              clear hi h hn hds hy hk0 hmany hm6 htl
              generalize plcE (entA d j) s = pl at *
              generalize (entA d j).length = m at *
              generalize (entA d z).length = mz at *
              generalize (d.1[z]?.getD id0).1 = kd at *
              generalize (d.1[z]?.getD id0).2.1 = kl at *
              generalize (d.1[z]?.getD id0).2.2.1 = ks at *
              generalize (d.1[z]?.getD id0).2.2.2.1.length = kb at *
              go_enter Tryz.func30, Tryz.ntmps30
              go_wp2_with fail
              generalize ((w.alloc (.cells #[.slice (some ⟨b0, o0, none⟩) n c1, .slice a2 n2 c2] 31)).alloc (.cells #[.int .i64 0, .slice none 0 0, .slice none 0 0] 33)) = W0 at *
              refine (HF.out _ HB0.out).mono ?_
              rintro e w1 ⟨rfl, hb⟩
              have HB1 : Hid (Below w.heap.size w w1) := HB0.out.trans (hb.mono HB0.out.size)
              have HR1 : Hid (OwnRow w1 (w.heap.size + 1) 3 (cel zero3)) := HRS.out.later hb
              have HX1 : Hid (Bx w1 w.heap.size [.slice (some ⟨b0, o0, none⟩) n c1, .slice a2 n2 c2]) := HBX.out.later hb
              clear hb
              have k1 := cell_later HB1.out HK4.out
              have x0 := HX1.out 0 _ rfl
              have x1 := HX1.out 1 _ rfl
              have hlw : w.heap.size + 1 < w1.heap.size := HR1.out.lt
              go_wp2_with fail
              clear k1 x0 x1 hlw
              refine (HPL.out _ HB1.out).mono ?_
              rintro e w2 ⟨rfl, hb⟩
              have HB2 : Hid (Below w.heap.size w w2) := HB1.out.trans (hb.mono HB1.out.size)
              have HR2 : Hid (OwnRow w2 (w.heap.size + 1) 3 (cel zero3)) := HR1.out.later hb
              have HX2 : Hid (Bx w2 w.heap.size [.slice (some ⟨b0, o0, none⟩) n c1, .slice a2 n2 c2]) := HX1.out.later hb
              clear hb
              have x0 := HX2.out 0 _ rfl
              have x1 := HX2.out 1 _ rfl
              go_wp2_with fail
              clear x0 x1
              refine (HIN.out _).mono ?_
              rintro e w3 ⟨rfl, hb⟩
              have HB3 : Hid (Below w.heap.size w w3) := HB2.out.trans (hb.mono HB2.out.size)
              have HR3 : Hid (OwnRow w3 (w.heap.size + 1) 3 (cel zero3)) := HR2.out.later hb
              have HX3 : Hid (Bx w3 w.heap.size [.slice (some ⟨b0, o0, none⟩) n c1, .slice a2 n2 c2]) := HX2.out.later hb
              clear hb
              have x0 := HX3.out 0 _ rfl
              have x1 := HX3.out 1 _ rfl
              have g03 := cell_later HB3.out HG0.out
              have g13 := cell_later HB3.out HG1.out
              have g23 := cell_later HB3.out HG2.out
              have g33 := cell_later HB3.out HG3.out
              have g43 := cell_later HB3.out HG4.out
              have k3 := cell_later HB3.out HK4.out
              go_wp2_with fail
              refine (HTL.out _).mono ?_
              rintro e w4 ⟨rfl, hb⟩
              have HB4 : Hid (Below w.heap.size w w4) := HB3.out.trans (hb.mono HB3.out.size)
              have hrr := HR3.out.later hb
              have t0 : w4.cell? ⟨w.heap.size + 1, 0, none⟩ = some (.int .i64 0) := hrr.cell (i := 0) (by omega)
              have t1 : w4.cell? ⟨w.heap.size + 1, 1, none⟩ = some (.slice none 0 0) := hrr.cell (i := 1) (by omega)
              have t2 : w4.cell? ⟨w.heap.size + 1, 2, none⟩ = some (.slice none 0 0) := hrr.cell (i := 2) (by omega)
              have s0 := hrr.frozen 0
              have s1 := hrr.frozen 1
              have s2 := hrr.frozen 2
              clear hb hrr x0 x1 g03 g13 g23 g33 g43 k3
              go_wp2
              exact bodyPost_ret (v := .agg #[.int .i64 2, .slice none 0 0, .slice none 0 0]) (by simp [results, Tryz.results30, go_sem, t0, t1, t2]) rfl (AnsFR.none' 2 HB4.out (by omega) _ _ _)
          · rw [if_neg hmany]
            have hm6 : ¬ (entA d j).length = 6 := fun e => hmany (Or.inl e)
            have hmb : ((((entA d j).length : Nat) : Int) == 6) = false := beq_eq_false_iff_ne.2 (by omega)
            have htl : decide (¬ ((d.1[z]?.getD id0).1 = 1 ∧ 60 ≤ (d.1[z]?.getD id0).2.1)) = true := decide_eq_true (fun hh => hmany (Or.inr hh))
            rw [htl] at HTL
            have HCF : Hid (∀ W, Below w.heap.size w W → Calls Tryz.prog 52 #[.agg #[.slice (some ⟨b0, o0, none⟩) d.1.length c1, .slice a2 n2 c2]] W (AnsFs W d)) := fun W hW => copyOfFs_any W _ _ _ _ _ _ d (h.later hW) hs (by have := hds.dat; omega)
            have HCL : Hid (∀ W, Calls Tryz.prog 66 #[.string s] W fun e w' => e = .returned (.string s) ∧ Below W.heap.size W w') := fun W => cloneS_any W s hl
            have HWE : Hid (∀ (W : World) (aH : Option Addr) (cH : Nat), Ents W (.slice aH (entA d j).length cH) (entA d j) → Calls Tryz.prog 65 #[.slice aH (entA d j).length cH, .int .i64 ((plcE (entA d j) s : Nat) : Int), .agg #[.string s, .int .i64 (z : Int)]] W fun e w' => ∃ v, e = .returned v ∧ WdE w' W.heap.size v (insE (entA d j) (plcE (entA d j) s) (s, (z : Int))) ∧ Below W.heap.size W w') := fun W aH cH hh => by
              obtain ⟨_, h2, h3, h4, _⟩ := hh.cap
              exact withEntry_any W aH _ cH _ (entA d j) s (z : Int) rfl h2 (findIdx_le _) (by omega) h3 h4
            have HEZ : Hid (∀ i : Nat, ((insE (entA d j) (plcE (entA d j) s) (s, (z : Int)))[i]?.getD en0).1.size ≤ maxLen) := insE_size (by
              obtain ⟨_, _, _, _, _, _, _, _, _, hh⟩ := h.five hds.lt
              exact hh.cap.2.2.2.2) hml
            have HBK : Hid ((d.1[j]?.getD id0).2.2.2.1 = []) := dir_blk (ins_ino hds.ins j hds.lt) hds.kind
            have HLN : Hid ((d.1[z]?.getD id0).1 = 1 → 1 ≤ (d.1[z]?.getD id0).2.1 ∧ (d.1[z]?.getD id0).2.1 ≤ 60) := fun e => ino_lnk (ins_ino hds.ins z hzn) e
            have HAD : Hid (addD d j s z = if (d.1[z]?.getD id0).1 = 1 then lnkD (entD d j (insE (entA d j) (plcE (entA d j) s) (s, (z : Int)))) z ((d.1[z]?.getD id0).2.1 + 1) else entD d j (insE (entA d j) (plcE (entA d j) s) (s, (z : Int)))) := rfl
            rw [HAD.out]
            have HEK := entD_kind d j z (insE (entA d j) (plcE (entA d j) s) (s, (z : Int))) hds.lt
            have HEK1 : Hid (((entD d j (insE (entA d j) (plcE (entA d j) s) (s, (z : Int)))).1[z]?.getD id0).1 = (d.1[z]?.getD id0).1) := HEK.1
            have HEK2 : Hid (((entD d j (insE (entA d j) (plcE (entA d j) s) (s, (z : Int)))).1[z]?.getD id0).2.1 = (d.1[z]?.getD id0).2.1) := HEK.2
            have HED : Hid (∀ es, entD d j es = (d.1.set j ((d.1[j]?.getD id0).1, (d.1[j]?.getD id0).2.1, (d.1[j]?.getD id0).2.2.1, [], es), d.2)) := fun _ => rfl
            generalize insE (entA d j) (plcE (entA d j) s) (s, (z : Int)) = nes at *
            generalize hent : entD d j nes = dn at *
            have HDN : Hid (entD d j nes = dn) := hent
            rw [hn] at hjn hlt HF HBX HRS HB0 h HIN hten hzn hzI HCF ⊢
            clear hi h hn hds hy hk0 hmany hm6 htl HAD HEK hent
            obtain ⟨ee, hee⟩ : ∃ ee, entA d j = ee := ⟨_, rfl⟩
            have HEE : Hid (entA d j = ee) := hee
            rw [hee] at HK4 hmb h6 HPL HWE
            clear hee
            generalize plcE ee s = pl at *
            obtain ⟨m, hm⟩ : ∃ m, ee.length = m := ⟨_, rfl⟩
            rw [hm] at HK4 hmb h6 HPL HWE
            have HM : Hid (ee.length = m) := hm
            clear hm
            generalize (entA d z).length = mz at *
            generalize (d.1[z]?.getD id0).2.2.1 = ks at *
            generalize (d.1[z]?.getD id0).2.2.2.1.length = kb at *
            generalize (d.1[z]?.getD id0).1 = kd at *
            generalize (d.1[z]?.getD id0).2.1 = kl at *
            generalize hRES : (if kd = 1 then lnkD dn z (kl + 1) else dn) = RES
            have HRES : Hid ((if kd = 1 then lnkD dn z (kl + 1) else dn) = RES) := hRES
            clear hRES
            go_enter Tryz.func30, Tryz.ntmps30
            go_wp2_with fail
            generalize ((w.alloc (.cells #[.slice (some ⟨b0, o0, none⟩) n c1, .slice a2 n2 c2] 31)).alloc (.cells #[.int .i64 0, .slice none 0 0, .slice none 0 0] 33)) = W0 at *
            refine (HF.out _ HB0.out).mono ?_
            rintro e w1 ⟨rfl, hb⟩
            have HB1 : Hid (Below w.heap.size w w1) := HB0.out.trans (hb.mono HB0.out.size)
            have HR1 : Hid (OwnRow w1 (w.heap.size + 1) 3 (cel zero3)) := HRS.out.later hb
            have HX1 : Hid (Bx w1 w.heap.size [.slice (some ⟨b0, o0, none⟩) n c1, .slice a2 n2 c2]) := HBX.out.later hb
            clear hb
            have k1 := cell_later HB1.out HK4.out
            have x0 := HX1.out 0 _ rfl
            have x1 := HX1.out 1 _ rfl
            have hlw : w.heap.size + 1 < w1.heap.size := HR1.out.lt
            go_wp2_with fail
            clear k1 x0 x1 hlw
            refine (HPL.out _ HB1.out).mono ?_
            rintro e w2 ⟨rfl, hb⟩
            have HB2 : Hid (Below w.heap.size w w2) := HB1.out.trans (hb.mono HB1.out.size)
            have HR2 : Hid (OwnRow w2 (w.heap.size + 1) 3 (cel zero3)) := HR1.out.later hb
            have HX2 : Hid (Bx w2 w.heap.size [.slice (some ⟨b0, o0, none⟩) n c1, .slice a2 n2 c2]) := HX1.out.later hb
            clear hb
            have x0 := HX2.out 0 _ rfl
            have x1 := HX2.out 1 _ rfl
            go_wp2_with fail
            clear x0 x1
            refine (HIN.out _).mono ?_
            rintro e w3 ⟨rfl, hb⟩
            have HB3 : Hid (Below w.heap.size w w3) := HB2.out.trans (hb.mono HB2.out.size)
            have HR3 : Hid (OwnRow w3 (w.heap.size + 1) 3 (cel zero3)) := HR2.out.later hb
            have HX3 : Hid (Bx w3 w.heap.size [.slice (some ⟨b0, o0, none⟩) n c1, .slice a2 n2 c2]) := HX2.out.later hb
            clear hb
            have x0 := HX3.out 0 _ rfl
            have x1 := HX3.out 1 _ rfl
            have g03 := cell_later HB3.out HG0.out
            have g13 := cell_later HB3.out HG1.out
            have g23 := cell_later HB3.out HG2.out
            have g33 := cell_later HB3.out HG3.out
            have g43 := cell_later HB3.out HG4.out
            have k3 := cell_later HB3.out HK4.out
            go_wp2_with fail
            clear x0 x1 g03 g13 g23 g33 g43 k3
            refine (HTL.out _).mono ?_
            rintro e w4 ⟨rfl, hb⟩
            have HB4 : Hid (Below w.heap.size w w4) := HB3.out.trans (hb.mono HB3.out.size)
            have HR4 : Hid (OwnRow w4 (w.heap.size + 1) 3 (cel zero3)) := HR3.out.later hb
            have HX4 : Hid (Bx w4 w.heap.size [.slice (some ⟨b0, o0, none⟩) n c1, .slice a2 n2 c2]) := HX3.out.later hb
            clear hb
            have x0 := HX4.out 0 _ rfl
            have x1 := HX4.out 1 _ rfl
            have hlw4 : w.heap.size + 1 < w4.heap.size := HR4.out.lt
            go_wp2_with fail
            clear x0 x1
            refine (HCF.out _ HB4.out).mono ?_
            rintro e w5 ⟨q1, m1, cI, q2, m2, cD, rfl, hb5, hf5⟩
            obtain ⟨bI, e1, bD, e2, eI, eD, hfs⟩ := FsS.of hf5 (by have := HN.out; omega) (by have := HDS.out.dat; omega)
            simp only [Value.slice.injEq] at eI eD
            obtain ⟨rfl, rfl, rfl⟩ := eI
            obtain ⟨rfl, rfl, rfl⟩ := eD
            rw [HDS.out.dat, HN.out] at hfs
            rw [HDS.out.dat, HN.out]
            have HL6 : Hid (Below w4.heap.size w4 (w5.alloc (.cells #[.slice (some ⟨bI, 0, none⟩) n cI, .slice (some ⟨bD, 0, none⟩) 20 cD] 31))) := hb5.trans ((later1 _ _).mono hb5.size)
            have HF6 : Hid (FsS (w5.alloc (.cells #[.slice (some ⟨bI, 0, none⟩) n cI, .slice (some ⟨bD, 0, none⟩) 20 cD] 31)) bI n cI bD 20 cD d (fun c => w4.heap.size ≤ c ∧ c < w5.heap.size)) := hfs.later (later1 _ _)
            have HO6 : Hid (Bx (w5.alloc (.cells #[.slice (some ⟨bI, 0, none⟩) n cI, .slice (some ⟨bD, 0, none⟩) 20 cD] 31)) w5.heap.size [.slice (some ⟨bI, 0, none⟩) n cI, .slice (some ⟨bD, 0, none⟩) 20 cD]) := Bx.new w5 [.slice (some ⟨bI, 0, none⟩) n cI, .slice (some ⟨bD, 0, none⟩) 20 cD] _
            have HS6 : Hid (w4.heap.size ≤ w5.heap.size ∧ (w5.alloc (.cells #[.slice (some ⟨bI, 0, none⟩) n cI, .slice (some ⟨bD, 0, none⟩) 20 cD] 31)).heap.size = w5.heap.size + 1) := ⟨hb5.size, by simp⟩
            clear hb5 hf5 hfs
            go_wp2_with fail
            generalize (w5.alloc (.cells #[.slice (some ⟨bI, 0, none⟩) n cI, .slice (some ⟨bD, 0, none⟩) 20 cD] 31)) = W6 at *
            have hne := HF6.out.ne
            have hoI : w5.heap.size ≠ bI := fun e => by have := hne.2.1.1.2; omega
            have hlI : bI < W6.heap.size := hne.2.1.2
            obtain ⟨aH', cH', aH, cH, _, _, _, _, c4, hEn⟩ := FsR.five HF6.out.fs.reads (j := j) (by have := HN.out; omega)
            rw [HEE.out, HM.out] at c4 hEn
            rw [Nat.zero_add] at c4
            have HEN : Hid (Ents W6 (.slice aH m cH) ee) := hEn
            obtain ⟨_, _, _, _, _, _, _, _, _, _, i6, _⟩ := HF6.out.ino j hlt
            have c4f := i6 (j * 5 + 4)
            clear hEn i6
            go_region_law (first
              | (try go_simp; go_at_call 66; refine (HCL.out W6.drew).mono ?_; rintro e w7 ⟨rfl, hb7⟩
                 have HB7 : Hid (Below W6.heap.size W6 w7) := (Below.refl _ _).drew.trans hb7
                 have c47 := cell_later HB7.out c4
                 clear hb7)
              | (try go_simp; go_at_call 65; refine (HWE.out w7 aH cH (HEN.out.later HB7.out)).mono ?_; rintro e w8 ⟨v, rfl, hw8, hb8⟩
                 obtain ⟨av, cv, rfl⟩ := hw8.shape
                 have HB8 : Hid (Below W6.heap.size W6 w8) := HB7.out.trans (hb8.mono HB7.out.size)
                 have HW8 : Hid (WdE w8 w7.heap.size (.slice av nes.length cv) nes) := hw8
                 have c48 := cell_later HB8.out c4
                 have c48f := (HB8.out.frozen (p := ⟨bI, j * 5 + 4, none⟩) hlI).trans c4f
                 clear hb8 hw8)
              | fail)
            all_goals
              have hS6 := HS6.out
              have h7 := HB7.out.size
              have HF9 : Hid (FsS (w8.setCell ⟨bI, j * 5 + 4, none⟩ (.slice av nes.length cv)) bI n cI bD 20 cD dn (fun c => w4.heap.size ≤ c ∧ c ≠ w5.heap.size)) := by
                have := ((HF6.out.later HB8.out).entS j hlt HBK.out nes _ (HW8.out.own HEZ.out) (fun c hc => ⟨fun hh => by have := hh.2; have := hc.1; omega, hc.2⟩)).mono (F' := fun c => w4.heap.size ≤ c ∧ c ≠ w5.heap.size) fun c hh => by
                  rcases hh with hh | hh
                  · exact ⟨hh.1, by omega⟩
                  · exact ⟨by have := hh.1; omega, by have := hh.1; omega⟩
                rw [← HDN.out]
                exact this
              have hC9 : Chg (fun c => c = bI) w8 (w8.setCell ⟨bI, j * 5 + 4, none⟩ (.slice av nes.length cv)) := Chg.set (F := fun c => c = bI) (Chg.refl _ w8) rfl _ _
              have p0 := hC9.cellOf ((HO6.out.later HB8.out) 0 _ rfl) hoI
              have p1 := hC9.cellOf ((HO6.out.later HB8.out) 1 _ rfl) hoI
              have hL9 : Below w4.heap.size w4 (w8.setCell ⟨bI, j * 5 + 4, none⟩ (.slice av nes.length cv)) := (HL6.out.trans (HB8.out.mono HL6.out.size)).setCell (by have := hne.2.1.1.1; exact this) _
              have HL9 : Hid (Below w4.heap.size w4 (w8.setCell ⟨bI, j * 5 + 4, none⟩ (.slice av nes.length cv))) := hL9
              obtain ⟨_, _, _, _, z0, z1, -, -, -, -, zf, -⟩ := HF9.out.ino z hzn
              rw [HEK1.out] at z0
              rw [HEK2.out] at z1
              have z1f := zf (z * 5 + 1)
              clear hC9 hL9 zf h7 hS6
              generalize (w8.setCell ⟨bI, j * 5 + 4, none⟩ (.slice av nes.length cv)) = W9 at *
              by_cases hk1 : kd = 1
              · have hkb1 : (kd == 1) = true := by simpa using hk1
                have hln := HLN.out hk1
                have HR : Hid (RES = lnkD dn z (kl + 1)) := by unfold Hid; rw [← HRES.out, if_pos hk1]
                have HF10 : Hid (FsS (W9.setCell ⟨bI, z * 5 + 1, none⟩ (.int .i64 (kl + 1))) bI n cI bD 20 cD (lnkD dn z (kl + 1)) (fun c => w4.heap.size ≤ c ∧ c ≠ w5.heap.size)) := HF9.out.lnkS z hzn (kl + 1)
                have hC10 : Chg (fun c => c = bI) W9 (W9.setCell ⟨bI, z * 5 + 1, none⟩ (.int .i64 (kl + 1))) := Chg.set (F := fun c => c = bI) (Chg.refl _ W9) rfl _ _
                have r0 := hC10.cellOf p0 hoI
                have r1 := hC10.cellOf p1 hoI
                have HL10 : Hid (Below w4.heap.size w4 (W9.setCell ⟨bI, z * 5 + 1, none⟩ (.int .i64 (kl + 1)))) := HL9.out.setCell (by have := hne.2.1.1.1; exact this) _
                have hrr := HR4.out.later HL10.out
                have t0 : (W9.setCell ⟨bI, z * 5 + 1, none⟩ (.int .i64 (kl + 1))).cell? ⟨w.heap.size + 1, 0, none⟩ = some (.int .i64 0) := hrr.cell (i := 0) (by omega)
                have t1 : (W9.setCell ⟨bI, z * 5 + 1, none⟩ (.int .i64 (kl + 1))).cell? ⟨w.heap.size + 1, 1, none⟩ = some (.slice none 0 0) := hrr.cell (i := 1) (by omega)
                have t2 : (W9.setCell ⟨bI, z * 5 + 1, none⟩ (.int .i64 (kl + 1))).cell? ⟨w.heap.size + 1, 2, none⟩ = some (.slice none 0 0) := hrr.cell (i := 2) (by omega)
                have s0 := hrr.frozen 0
                have s1 := hrr.frozen 1
                have s2 := hrr.frozen 2
                clear hC10 hrr hk1
                go_wp2
                exact bodyPost_ret (v := .agg #[.int .i64 0, .slice (some ⟨bI, 0, none⟩) n cI, .slice (some ⟨bD, 0, none⟩) 20 cD]) (by simp [results, Tryz.results30, go_sem, t0, t1, t2]) rfl (by rw [HR.out]; exact AnsFR.box (HB4.out.trans (HL10.out.mono HB4.out.size)) (by omega) HF10.out (fun c hc => ⟨by omega, by omega⟩) _ _ _)
              · have hkb1 : (kd == 1) = false := by simpa using hk1
                have HR : Hid (RES = dn) := by unfold Hid; rw [← HRES.out, if_neg hk1]
                have hrr := HR4.out.later HL9.out
                have t0 : W9.cell? ⟨w.heap.size + 1, 0, none⟩ = some (.int .i64 0) := hrr.cell (i := 0) (by omega)
                have t1 : W9.cell? ⟨w.heap.size + 1, 1, none⟩ = some (.slice none 0 0) := hrr.cell (i := 1) (by omega)
                have t2 : W9.cell? ⟨w.heap.size + 1, 2, none⟩ = some (.slice none 0 0) := hrr.cell (i := 2) (by omega)
                have s0 := hrr.frozen 0
                have s1 := hrr.frozen 1
                have s2 := hrr.frozen 2
                clear hrr hk1
                go_wp2
                exact bodyPost_ret (v := .agg #[.int .i64 0, .slice (some ⟨bI, 0, none⟩) n cI, .slice (some ⟨bD, 0, none⟩) 20 cD]) (by simp [results, Tryz.results30, go_sem, t0, t1, t2]) rfl (by rw [HR.out]; exact AnsFR.box (HB4.out.trans (HL9.out.mono HB4.out.size)) (by omega) HF9.out (fun c hc => ⟨by omega, by omega⟩) _ _ _)

end Go.Proofs.YtedpooagalmgdamGreat

namespace Go.Proofs.YtedpooagalmgdamGreat
open Go.RowKit
set_option maxRecDepth 100000

/-- A row of n elements that the call owns; element i is told by C i (u i), where u i is a list of its own in block k i. -/
structure YRow (C : Nat → Value → List Value) (w : World) (base lo : Nat) (e : TypeId) (size : Nat) (v : Value) (n : Nat) (f : Nat → List UInt8) (k : Nat → Nat) (u : Nat → Value) : Prop where
  own : w.ownsRow base e size v n ((List.range n).flatMap fun i => C i (u i))
  lo : ∀ i, i < n → lo ≤ k i ∧ k i < w.heap.size
  ne : ∀ i, i < n → v.ownBlock ≠ some (k i)
  inj : ∀ i j, i < n → j < n → i ≠ j → k i ≠ k j
  sh : ∀ i, i < n → ∃ a c, u i = .slice a (f i).length c
  at' : ∀ i, i < n → BytO w (u i) (f i) (fun c => c = k i)

theorem YRow.nil {C : Nat → Value → List Value} (w : World) (base lo : Nat) (e : TypeId) (size : Nat) (f : Nat → List UInt8) : YRow C w base lo e size (.slice none 0 0) 0 f (fun _ => 0) (fun _ => .slice none 0 0) :=
  ⟨World.ownsRow_nil _ _ _ _, fun i hi => by omega, fun i hi => by omega, fun i j hi => by omega, fun i hi => by omega, fun i hi => by omega⟩
theorem YRow.keep {C : Nat → Value → List Value} {w w' : World} {base lo : Nat} {e : TypeId} {size : Nat} {v : Value} {n : Nat} {f : Nat → List UInt8} {k : Nat → Nat} {u : Nat → Value} (h : YRow C w base lo e size v n f k u) (hs : w.heap.size ≤ w'.heap.size)
    (hrow : ∀ g, v.ownBlock = some g → w'.heap[g]? = w.heap[g]?) (hk : ∀ i, i < n → w'.heap[k i]? = w.heap[k i]?) : YRow C w' base lo e size v n f k u := by
  refine ⟨?_, fun i hi => ⟨(h.lo i hi).1, Nat.lt_of_lt_of_le (h.lo i hi).2 hs⟩, h.ne, h.inj, h.sh, fun i hi => (h.at' i hi).keep fun b hb _ => by rw [hb]; exact hk i hi⟩
  obtain ⟨h1, h2⟩ := h.own
  refine ⟨h1, ?_⟩
  rcases h2 with h2 | ⟨g, cap, cur, hv, hg, hh, r⟩
  · exact Or.inl h2
  · exact Or.inr ⟨g, cap, cur, hv, hg, by rw [hrow g (by rw [hv]; rfl)]; exact hh, r⟩
theorem YRow.later {C : Nat → Value → List Value} {w w' : World} {base lo : Nat} {e : TypeId} {size : Nat} {v : Value} {n : Nat} {f : Nat → List UInt8} {k : Nat → Nat} {u : Nat → Value} (h : YRow C w base lo e size v n f k u) (hb : Below w.heap.size w w') : YRow C w' base lo e size v n f k u :=
  h.keep hb.size (fun g hg => hb.block g (h.own.lt g hg).2) (fun i hi => hb.block _ (h.lo i hi).2)
theorem YRow.store {C : Nat → Value → List Value} {w : World} {base lo : Nat} {e : TypeId} {size : Nat} {v : Value} {n : Nat} {f : Nat → List UInt8} {k : Nat → Nat} {u : Nat → Value} (h : YRow C w base lo e size v n f k u) {p : Addr} (h1 : p.block < base) (h2 : p.block < lo) (x : Value) : YRow C (w.setCell p x) base lo e size v n f k u :=
  h.keep (by simp [World.setCell]) (fun g hg => Below.heap_setCell _ _ _ _ (by have := (h.own.lt g hg).1; omega)) (fun i hi => Below.heap_setCell _ _ _ _ (by have := (h.lo i hi).1; omega))
theorem YRow.shape {C : Nat → Value → List Value} {w : World} {base lo : Nat} {e : TypeId} {size : Nat} {v : Value} {n : Nat} {f : Nat → List UInt8} {k : Nat → Nat} {u : Nat → Value} (h : YRow C w base lo e size v n f k u) : ∃ a c, v = .slice a n c := by
  rcases h.own.2 with ⟨rfl, rfl⟩ | ⟨g, c, cur, rfl, _⟩
  · exact ⟨_, _, rfl⟩
  · exact ⟨_, _, rfl⟩

/-- What 'append' of one element comes to. -/
theorem YRow.append {C : Nat → Value → List Value} (w w1 : World) (t ty e : TypeId) (i : TypeInfo) (z : Value) (size bytes : Nat) (ht : Tryz.prog.underlying t = some (.slice e)) (hi : Tryz.prog.info? e = some i) (hz : i.zero = some z) (hsize : i.size = size) (hby : i.bytes = bytes) (hzs : z.cells.size = size) (hsz : 0 < size) (hbb : bytes ≤ 1000)
    (base lo n : Nat) (v : Value) (f : Nat → List UInt8) (k : Nat → Nat) (u : Nat → Value) (h : YRow C w base lo e size v n f k u) (hb : base ≤ w.heap.size) (hn : n ≤ 1048600) (hb1 : Below w.heap.size w w1)
    (a : Option Addr) (c : Nat) (hlen : (C n (.slice a (f n).length c)).length = size) (hone : ∀ x ∈ C n (.slice a (f n).length c), x.oneCell' = true) (kb : Nat) (hk1 : lo ≤ kb) (hk2 : kb ≤ w1.heap.size) (hk3 : v.ownBlock ≠ some kb) (hk4 : ∀ i, i < n → k i ≠ kb) (hf : BytO w1 (.slice a (f n).length c) (f n) (fun x => x = kb)) :
    ∃ g cap X, (Builtin.append_ #[t, t] ty #[v, .slice (some ⟨w1.heap.size, 0, none⟩) 1 1]).run Tryz.prog (w1.alloc (.cells (C n (.slice a (f n).length c)).toArray e)) = .ok (.slice (some ⟨g, 0, none⟩) (n + 1) cap) X ∧
      (∀ b, b < w1.heap.size → v.ownBlock ≠ some b → X.heap[b]? = w1.heap[b]?) ∧ Below base w X ∧ w1.heap.size < X.heap.size ∧
      YRow C X base lo e size (.slice (some ⟨g, 0, none⟩) (n + 1) cap) (n + 1) f (fun j => if j = n then kb else k j) (fun j => if j = n then .slice a (f n).length c else u j) := by
  have hsz1 := hb1.size
  have hbW : Below w.heap.size w (w1.alloc (.cells (C n (.slice a (f n).length c)).toArray e)) := hb1.trans ((later1 _ _).mono hb1.size)
  have hW := h.later hbW
  obtain ⟨g, cap, X, hr, ho, hg, hat, hgX⟩ := run_append_lies (P := Tryz.prog) (w1.alloc (.cells (C n (.slice a (f n).length c)).toArray e)) t ty base e i z size bytes ht hi hz hsize hby hzs hsz v n _ hW.own ⟨w1.heap.size, 0, none⟩ 1 1 (C n (.slice a (f n).length c)) (by rw [hlen, Nat.one_mul])
    (fun j x hx => by
      rw [add_plain', Nat.zero_add, new_cell]
      simpa using hx) hone (by decide) (by unfold maxLen; omega) (by have : (n + 1) * bytes ≤ 1048601 * 1000 := Nat.mul_le_mul (by omega) hbb; omega) (by simp; omega) (w1.heap.size + 1) (by simp)
  have hrow : ∀ g, v.ownBlock = some g → g < w.heap.size := fun g hg => (h.own.lt g hg).2
  have hrowb : ∀ g, v.ownBlock = some g → base ≤ g := fun g hg => (h.own.lt g hg).1
  have hXb : ∀ b, b < w1.heap.size → v.ownBlock ≠ some b → X.heap[b]? = w1.heap[b]? := fun b hb' hne => (hg.block b (by simp; omega) (fun e => hne e.symm)).trans ((later1 _ _).block b hb')
  have hne : ∀ b, b ≤ w1.heap.size → v.ownBlock ≠ some b → g ≠ b := by
    intro b hb' hb2 e
    subst e
    rcases hat with h | h
    · exact hb2 h
    · omega
  have old : ∀ b, b < w.heap.size → v.ownBlock ≠ some b → X.heap[b]? = w.heap[b]? := fun b hb' hne => (hXb b (by omega) hne).trans (hb1.block b hb')
  have hXs : w1.heap.size < X.heap.size := by have := hg.size; simp at this; omega
  refine ⟨g, cap, X, hr, hXb, (hbW.mono hb).trans (below_grown hg (by simp; omega) (fun g hg' => hrowb g hg')), hXs, ⟨?_, fun j hj => ?_, fun j hj => ?_, fun j j' hj hj' e => ?_, fun j hj => ?_, fun j hj => ?_⟩⟩
  · rw [List.range_succ, List.flatMap_append]
    have e1 : (List.range n).flatMap (fun i => C i (if i = n then .slice a (f n).length c else u i)) = (List.range n).flatMap (fun i => C i (u i)) := by
      have e0 : (List.range n).map (fun i => C i (if i = n then .slice a (f n).length c else u i)) = (List.range n).map (fun i => C i (u i)) := List.map_congr_left fun i hi => by rw [if_neg (by have := List.mem_range.1 hi; omega)]
      rw [List.flatMap_def, List.flatMap_def, e0]
    have e2 : [n].flatMap (fun i => C i (if i = n then .slice a (f n).length c else u i)) = C n (.slice a (f n).length c) := by simp only [List.flatMap_cons, List.flatMap_nil, List.append_nil, if_true]
    rw [e1, e2]
    exact ho
  · by_cases e : j = n
    · subst e; simp; omega
    · have := h.lo j (by omega); simp [e]; omega
  · by_cases e : j = n
    · subst e
      simp only [if_true]
      exact fun e => hne kb hk2 hk3 (by simpa [Value.ownBlock] using e)
    · have hj' : j < n := by omega
      have hl := h.lo j hj'
      simp only [e, if_false]
      exact fun e => hne (k j) (by omega) (h.ne j hj') (by simpa [Value.ownBlock] using e)
  · by_cases e1 : j = n
    · by_cases e2 : j' = n
      · omega
      · simp [e1, e2]; exact fun e => hk4 j' (by omega) e.symm
    · by_cases e2 : j' = n
      · simp [e1, e2]; exact hk4 j (by omega)
      · simp [e1, e2]; exact h.inj j j' (by omega) (by omega) e
  · by_cases e : j = n
    · subst e; exact ⟨a, c, by simp⟩
    · simp only [e, if_false]; exact h.sh j (by omega)
  · by_cases e : j = n
    · subst e
      simp only [if_true]
      exact hf.keep fun b hb' hlt' => by subst hb'; exact hXb _ hlt' hk3
    · have hj' : j < n := by omega
      simp only [e, if_false]
      exact (h.at' j hj').keep fun b hb' hlt' => by rw [hb']; exact old _ (h.lo j hj').2 (h.ne j hj')

/-- The one block of a list that is fresh. -/
theorem BytO.one {w w1 : World} {v : Value} {zs : List UInt8} (h : BytO w1 v zs (fresh w w1)) (hlt : w.heap.size < w1.heap.size) : ∃ kb, w.heap.size ≤ kb ∧ kb < w1.heap.size ∧ BytO w1 v zs (fun c => c = kb) := by
  rcases h with h | ⟨b, cap, hF, r⟩
  · exact ⟨w.heap.size, Nat.le_refl _, hlt, Or.inl h⟩
  · exact ⟨b, hF.1, hF.2, Or.inr ⟨b, cap, rfl, r⟩⟩

/-- The cells of such a row. -/
theorem YRow.cells {C : Nat → Value → List Value} {w : World} {base lo : Nat} {e : TypeId} {size : Nat} {v : Value} {n : Nat} {f : Nat → List UInt8} {k : Nat → Nat} {u : Nat → Value} (h : YRow C w base lo e size v n f k u) (hsz : 0 < size) (hC : ∀ i, (C i (u i)).length = size) (hn : 0 < n) :
    ∃ g cap, v = .slice (some ⟨g, 0, none⟩) n cap ∧ base ≤ g ∧ g < w.heap.size ∧ n ≤ maxLen ∧ n ≤ cap ∧ OwnRow w g (n * size) (fun c => (C (c / size) (u (c / size)))[c % size]?.getD undef) := by
  obtain ⟨hl, h2 | ⟨g, cap, cur, rfl, hb, hh, hnc, hcm, hcs, htake⟩⟩ := h.own
  · omega
  · have hle : n * size ≤ cap * size := Nat.mul_le_mul_right _ hnc
    refine ⟨g, cap, rfl, hb, (Array.getElem?_eq_some_iff.1 hh).1, by omega, hnc, cur, e, hh, by omega, fun c hc => ?_⟩
    have hd : c / size < n := by rw [Nat.div_lt_iff_lt_mul hsz]; exact hc
    have hm : c % size < size := Nat.mod_lt _ hsz
    have hg := flat_get hsz u hC n (c / size) (c % size) hd hm
    rw [Nat.div_add_mod'] at hg
    have h1 : ((List.range n).flatMap fun i => C i (u i))[c]? = cur[c]? := by rw [← htake, List.getElem?_take, if_pos hc, Array.getElem?_toList]
    rw [h1] at hg
    have hlt : c < cur.size := by omega
    show cur[c]? = some ((C (c / size) (u (c / size)))[c % size]?.getD undef)
    rw [← hg, Array.getElem?_eq_getElem hlt]; rfl

theorem YRow.byts {w : World} {base lo : Nat} {e : TypeId} {v : Value} {n : Nat} {k : Nat → Nat} {u : Nat → Value} {zss : List (List UInt8)} (h : YRow C1 w base lo e 1 v n (fun i => zss[i]?.getD []) k u) (hn : zss.length = n) (F : Nat → Prop) (hF : ∀ c, base ≤ c → c < w.heap.size → F c) (hF' : ∀ c, lo ≤ c → c < w.heap.size → F c) : BytsO w v zss F := by
  subst hn
  by_cases h0 : zss.length = 0
  · obtain ⟨a, c, rfl⟩ := h.shape
    exact Or.inl ⟨List.eq_nil_of_length_eq_zero h0, a, c, by rw [h0]⟩
  · obtain ⟨g, cap, rfl, hb, hg, hm, hnc, hrow⟩ := h.cells (by decide) (fun _ => rfl) (by omega)
    refine Or.inr ⟨g, cap, u, fun i c => i < zss.length ∧ c = k i, hF g hb hg, fun i c hc => ?_, fun i j c e h1 h2 => h.inj i j h1.1 h2.1 e (h1.2.symm.trans h2.2), rfl, ⟨hm, hnc⟩, ?_, fun i hi => (h.at' i hi).mono fun c hc => ⟨hi, hc⟩⟩
    · have hl := h.lo i hc.1
      have hne := h.ne i hc.1
      rw [hc.2]
      exact ⟨hF' _ hl.1 hl.2, fun e => hne (by simp [Value.ownBlock, e])⟩
    · rw [Nat.mul_one] at hrow
      exact hrow.congr fun i hi => by simp [C1, Nat.mod_one]
end Go.Proofs.YtedpooagalmgdamGreat
