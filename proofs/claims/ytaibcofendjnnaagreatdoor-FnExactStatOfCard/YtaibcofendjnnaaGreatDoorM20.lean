/- The program's WalkPath. The bytes of a place, whatever is there. The bytes of a file: the program. Directories: what their functions ask alike, of the program and of the specification. Directories: where a name stands; IsEmptyDir and LookName, of the program and of the specification. The specification's walk: where names lead (l9Walk, l9Path). The specification's WalkPath. -/
import Derived.Test.YtaibcofendjnnaaGreatDoorM19
import Derived.Test.YtaibcofendjnnaaGreatDoorM07
import Derived.Test.YtaibcofendjnnaaGreatDoorM15
import Derived.Test.YtaibcofendjnnaaGreatDoorM18
import Derived.BigQuiet
import Derived.Test.YtaibcofendjnnaaGreatDoorM14
namespace Go.Proofs.YtaibcofendjnnaaGreatDoor
open Go.RowKit
set_option maxRecDepth 100000

/-- A list of texts in memory from a block on. -/
def TxF (w : World) (B : Nat) (a : Option Addr) (n c : Nat) (xs : List (List UInt8)) : Prop := AtT w a n xs ∧ xs.length = n ∧ n ≤ c ∧ ∀ b off, a = some ⟨b, off, none⟩ → 0 < n → B ≤ b
theorem TxF.of_row {w : World} {B : Nat} {a : Option Addr} {n c : Nat} {xs : List (List UInt8)} (h : w.ownsRow B 9 1 (.slice a n c) xs.length (xs.map strV)) : TxF w B a n c xs := by
  have h1 := ownsRow_at h
  have h2 : n ≤ c := by
    have h3 := h
    rw [← h1.1] at h3
    exact ownsRow_cap h3
  refine ⟨h1.2, h1.1.symm, h2, fun b off e hn => ?_⟩
  obtain ⟨_, h | ⟨g, cap, cur, e2, hb, _⟩⟩ := h
  · simp only [Value.slice.injEq] at h; omega
  · simp only [Value.slice.injEq] at e2
    rw [e2.1] at e
    simp only [Option.some.injEq, Addr.mk.injEq] at e
    omega
theorem TxF.nil (w : World) (B : Nat) : TxF w B none 0 0 [] := ⟨fun k hk => by omega, rfl, Nat.le_refl _, fun _ _ e => by cases e⟩
theorem TxF.set {w : World} {B : Nat} {a : Option Addr} {n c : Nat} {xs : List (List UInt8)} (h : TxF w B a n c xs) {g : Nat} (hg : g < B) (o : Nat) (v : Value) : TxF (w.setCell ⟨g, o, none⟩ v) B a n c xs := by
  refine ⟨fun k hk => ?_, h.2.1, h.2.2.1, h.2.2.2⟩
  obtain ⟨b, off, e, hc⟩ := h.1 k hk
  have := h.2.2.2 b off e (by omega)
  exact ⟨b, off, e, (World.cell?_of_block (w := w) (Below.heap_setCell _ _ _ _ (show b ≠ g by omega))).trans hc⟩
/-- The codes that are asked first; what names there are. -/
def ntwC (d : FD) (p : List UInt8) : Int := if fsF d = 0 then pathF p else fsF d
def ntwL (d : FD) (p : List UInt8) : List (List UInt8) := if fsF d = 0 then splitL p else []
theorem rowN (w : World) (t : TypeId) : OwnRow (w.alloc (.cells #[.int .i64 0, .slice none 0 0] t)) w.heap.size 2 (fun i => if i = 0 then .int .i64 0 else .slice none 0 0) :=
  ⟨_, t, World.alloc_heap_new w _, by simp, fun i hi => by
    match i, hi with
    | 0, _ => rfl
    | 1, _ => rfl⟩
theorem implSplit_tx (w : World) (p : List UInt8) (hp : p.length ≤ 1048576) :
    Calls Tryz.prog 61 #[.string (mkB p)] w fun e w' => ∃ a n c, e = .returned (.agg #[.int .i64 (pathF p), .slice a n c]) ∧ Below w.heap.size w w' ∧ TxF w' w.heap.size a n c (splitL p) := by
  by_cases h : pathF p = 0
  · refine (implSplit_ok w p hp h).mono ?_
    rintro e w' ⟨a, c, rfl, hb, hr⟩
    have hs : splitL p = namesL p := if_pos h
    rw [hs, h]
    exact ⟨a, _, c, rfl, hb, TxF.of_row hr⟩
  · refine (implSplit_bad w p hp h).mono ?_
    rintro e w' ⟨rfl, hb⟩
    have hs : splitL p = [] := if_neg h
    rw [hs]
    exact ⟨none, 0, 0, rfl, hb, TxF.nil _ _⟩
set_option maxHeartbeats 3200000 in
theorem namesToWalk_any (w : World) (a1 : Option Addr) (n1 c1 : Nat) (a2 : Option Addr) (n2 c2 : Nat) (d : FD) (p : List UInt8) (h : FsR w (.slice a1 n1 c1) (.slice a2 n2 c2) d) (hs : sizeFs d ≤ 1048576) (hp : p.length ≤ 1048576) :
    Calls Tryz.prog 31 #[.agg #[.slice a1 n1 c1, .slice a2 n2 c2], .string (mkB p)] w fun e w' => ∃ a n c, e = .returned (.agg #[.int .i64 (ntwC d p), .slice a n c]) ∧ Below w.heap.size w w' ∧ TxF w' w.heap.size a n c (ntwL d p) := by
  have HB0 : Hid (Below w.heap.size w ((w.alloc (.cells #[.slice a1 n1 c1, .slice a2 n2 c2] 32)).alloc (.cells #[.int .i64 0, .slice none 0 0] 60))) := later2 _ _ _
  have HX : Hid (Bx ((w.alloc (.cells #[.slice a1 n1 c1, .slice a2 n2 c2] 32)).alloc (.cells #[.int .i64 0, .slice none 0 0] 60)) w.heap.size [.slice a1 n1 c1, .slice a2 n2 c2]) := (Bx.new w [.slice a1 n1 c1, .slice a2 n2 c2] _).later (later1 _ _)
  have HRS : Hid (OwnRow ((w.alloc (.cells #[.slice a1 n1 c1, .slice a2 n2 c2] 32)).alloc (.cells #[.int .i64 0, .slice none 0 0] 60)) (w.heap.size + 1) 2 (fun i => if i = 0 then .int .i64 0 else .slice none 0 0)) := by
    have p2 := rowN (w.alloc (.cells #[.slice a1 n1 c1, .slice a2 n2 c2] 32)) 60
    rw [World.size_alloc] at p2
    exact p2
  have HF : Hid (∀ W, Below w.heap.size w W → Calls Tryz.prog 38 #[.agg #[.slice a1 n1 c1, .slice a2 n2 c2]] W fun e w' => e = .returned (.int .i64 (fsF d)) ∧ Below W.heap.size W w') := fun W hW => implFsU W _ _ _ _ _ _ d (h.later hW) hs
  have HSP : Hid (∀ W, Calls Tryz.prog 61 #[.string (mkB p)] W fun e w' => ∃ a n c, e = .returned (.agg #[.int .i64 (pathF p), .slice a n c]) ∧ Below W.heap.size W w' ∧ TxF w' W.heap.size a n c (splitL p)) := fun W => implSplit_tx W p hp
  have HC : Hid (ntwC d p = if fsF d = 0 then pathF p else fsF d) := rfl
  have HL : Hid (ntwL d p = if fsF d = 0 then splitL p else []) := rfl
  rw [HC.out, HL.out]
  clear h hs hp HC HL
  generalize mkB p = s at *
  generalize pathF p = pc at *
  generalize splitL p = xs at *
  generalize fsF d = r at *
  have hz0 : ((w.alloc (.cells #[.slice a1 n1 c1, .slice a2 n2 c2] 32)).alloc (.cells #[.int .i64 0, .slice none 0 0] 60)).heap.size = w.heap.size + 2 := by simp
  by_cases hf : r = 0
  rotate_left
  · rw [if_neg hf, if_neg hf]
    have hb : (r != 0) = true := by simpa using hf
    clear hf
    have x0 := HX.out 0 _ rfl
    have x1 := HX.out 1 _ rfl
    go_enter Tryz.func31, Tryz.ntmps31
    go_wp2_with fail
    generalize ((w.alloc (.cells #[.slice a1 n1 c1, .slice a2 n2 c2] 32)).alloc (.cells #[.int .i64 0, .slice none 0 0] 60)) = W0 at *
    refine (HF.out _ HB0.out).mono ?_
    rintro e w1 ⟨rfl, hb1⟩
    have HB1 : Hid (Below w.heap.size w w1) := HB0.out.trans (hb1.mono HB0.out.size)
    have hrr := HRS.out.later hb1
    have t0 : w1.cell? ⟨w.heap.size + 1, 0, none⟩ = some (.int .i64 0) := hrr.cell (i := 0) (by omega)
    have t1 : w1.cell? ⟨w.heap.size + 1, 1, none⟩ = some (.slice none 0 0) := hrr.cell (i := 1) (by omega)
    have s0 := hrr.frozen 0
    have s1 := hrr.frozen 1
    clear hb1 hrr x0 x1
    go_wp2
    exact bodyPost_ret (v := .agg #[.int .i64 r, .slice none 0 0]) (by simp [results, Tryz.results31, go_sem, t0, t1]) rfl ⟨none, 0, 0, rfl, (HB1.out.setCell (p := ⟨w.heap.size + 1, 0, none⟩) (by show w.heap.size ≤ w.heap.size + 1; omega) _).setCell (p := ⟨w.heap.size + 1, 1, none⟩) (by show w.heap.size ≤ w.heap.size + 1; omega) _, TxF.nil _ _⟩
  · rw [if_pos hf, if_pos hf]
    have hb : (r != 0) = false := by simpa using hf
    clear hf
    have x0 := HX.out 0 _ rfl
    have x1 := HX.out 1 _ rfl
    go_enter Tryz.func31, Tryz.ntmps31
    go_wp2_with fail
    generalize ((w.alloc (.cells #[.slice a1 n1 c1, .slice a2 n2 c2] 32)).alloc (.cells #[.int .i64 0, .slice none 0 0] 60)) = W0 at *
    refine (HF.out _ HB0.out).mono ?_
    rintro e w1 ⟨rfl, hb1⟩
    have HB1 : Hid (Below w.heap.size w w1) := HB0.out.trans (hb1.mono HB0.out.size)
    have HR1 : Hid (OwnRow w1 (w.heap.size + 1) 2 (fun i => if i = 0 then .int .i64 0 else .slice none 0 0)) := HRS.out.later hb1
    have hs1 : w.heap.size + 2 ≤ w1.heap.size := by have := hb1.size; omega
    clear hb1 x0 x1
    go_wp2_with fail
    refine (HSP.out _).mono ?_
    rintro e w2 ⟨a, n, c, rfl, hb2, htx⟩
    have HB2 : Hid (Below w.heap.size w w2) := HB1.out.trans (hb2.mono HB1.out.size)
    have hrr := HR1.out.later hb2
    have t0 : w2.cell? ⟨w.heap.size + 1, 0, none⟩ = some (.int .i64 0) := hrr.cell (i := 0) (by omega)
    have t1 : w2.cell? ⟨w.heap.size + 1, 1, none⟩ = some (.slice none 0 0) := hrr.cell (i := 1) (by omega)
    have s0 := hrr.frozen 0
    have s1 := hrr.frozen 1
    have HTX : Hid (TxF ((w2.setCell ⟨w.heap.size + 1, 0, none⟩ (.int .i64 pc)).setCell ⟨w.heap.size + 1, 1, none⟩ (.slice a n c)) w.heap.size a n c xs) := by
      have h2 := (htx.set (g := w.heap.size + 1) (by omega) 0 (.int .i64 pc)).set (g := w.heap.size + 1) (by omega) 1 (.slice a n c)
      exact ⟨h2.1, h2.2.1, h2.2.2.1, fun b off e hn => by have := h2.2.2.2 b off e hn; omega⟩
    clear hb2 hrr htx
    go_wp2
    exact bodyPost_ret (v := .agg #[.int .i64 pc, .slice a n c]) (by simp [results, Tryz.results31, go_sem, t0, t1]) rfl ⟨a, n, c, rfl, (HB2.out.setCell (p := ⟨w.heap.size + 1, 0, none⟩) (by show w.heap.size ≤ w.heap.size + 1; omega) _).setCell (p := ⟨w.heap.size + 1, 1, none⟩) (by show w.heap.size ≤ w.heap.size + 1; omega) _, HTX.out⟩
/-- WalkPath. -/
def walkR (d : FD) (s : ByteArray) : Int × Int := if ntwC d s.data.toList = 0 then wkR d.1 0 (splitL s.data.toList) else (ntwC d s.data.toList, 0)
theorem TxF.later {w w' : World} {B : Nat} {a : Option Addr} {n c : Nat} {xs : List (List UInt8)} (h : TxF w B a n c xs) (hb : Below w.heap.size w w') : TxF w' B a n c xs := ⟨h.1.later hb, h.2⟩
theorem ents_six {d : FD} (h : FsOk d) (i : Nat) : (d.1[i]?.getD id0).2.2.2.2.length ≤ 6 := by have := h.six i; rw [entsOf_len] at this; exact this
theorem ntw_ok {d : FD} {p : List UInt8} (h : ntwC d p = 0) : fsF d = 0 ∧ pathF p = 0 := by
  unfold ntwC at h
  by_cases hf : fsF d = 0
  · rw [if_pos hf] at h; exact ⟨hf, h⟩
  · rw [if_neg hf] at h; exact absurd h hf
theorem walkNamesU (w : World) (a1 : Option Addr) (n1 c1 : Nat) (a2 : Option Addr) (n2 c2 : Nat) (d : FD) (h : FsR w (.slice a1 n1 c1) (.slice a2 n2 c2) d) (hok : FsOk d) (hgl : Gl w) (aN : Option Addr) (mN cN : Nat) (xs : List (List UInt8)) (hmN : xs.length = mN) (hmx : mN ≤ 1048577) (hat : AtT w aN mN xs) :
    Calls Tryz.prog 32 #[.agg #[.slice a1 n1 c1, .slice a2 n2 c2], .slice aN mN cN] w fun e w' => e = .returned (intRV (wkR d.1 0 xs)) ∧ Below w.heap.size w w' := by
  obtain ⟨_, _, e1, -, hAt⟩ := h.1.open'
  simp only [Value.slice.injEq] at e1
  obtain ⟨rfl, rfl, rfl⟩ := e1
  exact walkNames_any w a1 _ c1 _ a2 n2 c2 rfl aN mN cN xs hmN hmx d.1 rfl hok.ten hok.pos hok.rng (ents_six hok) hgl hat hAt
set_option maxHeartbeats 3200000 in
theorem implWalkU (w : World) (a1 : Option Addr) (n1 c1 : Nat) (a2 : Option Addr) (n2 c2 : Nat) (d : FD) (s : ByteArray) (h : FsR w (.slice a1 n1 c1) (.slice a2 n2 c2) d) (hs : sizeFs d ≤ 1048576) (hl : s.size ≤ 1048576) (hgl : Gl w) :
    Calls Tryz.prog 10 #[.agg #[.slice a1 n1 c1, .slice a2 n2 c2], .string s] w fun e w' => e = .returned (intRV (walkR d s)) ∧ Below w.heap.size w w' := by
  have HB0 : Hid (Below w.heap.size w ((w.alloc (.cells #[.slice a1 n1 c1, .slice a2 n2 c2] 32)).alloc (.cells #[.int .i64 0, .int .i64 0] 28))) := later2 _ _ _
  have HX : Hid (Bx ((w.alloc (.cells #[.slice a1 n1 c1, .slice a2 n2 c2] 32)).alloc (.cells #[.int .i64 0, .int .i64 0] 28)) w.heap.size [.slice a1 n1 c1, .slice a2 n2 c2]) := (Bx.new w [.slice a1 n1 c1, .slice a2 n2 c2] _).later (later1 _ _)
  have HRS : Hid (OwnRow ((w.alloc (.cells #[.slice a1 n1 c1, .slice a2 n2 c2] 32)).alloc (.cells #[.int .i64 0, .int .i64 0] 28)) (w.heap.size + 1) 2 (fun _ => .int .i64 0)) := by
    have p2 := zeros2 (w.alloc (.cells #[.slice a1 n1 c1, .slice a2 n2 c2] 32)) 28
    rw [World.size_alloc] at p2
    exact p2
  have hsp : s.data.toList.length = s.size := Array.length_toList
  have HN : Hid (∀ W, Below w.heap.size w W → Calls Tryz.prog 31 #[.agg #[.slice a1 n1 c1, .slice a2 n2 c2], .string s] W fun e w' => ∃ a n c, e = .returned (.agg #[.int .i64 (ntwC d s.data.toList), .slice a n c]) ∧ Below W.heap.size W w' ∧ TxF w' W.heap.size a n c (ntwL d s.data.toList)) := fun W hW => by
    have := namesToWalk_any W a1 n1 c1 a2 n2 c2 d s.data.toList (h.later hW) hs (by omega)
    rw [mkB_data] at this
    exact this
  have HW : Hid (ntwC d s.data.toList = 0 → ∀ (W : World) (a : Option Addr) (n c : Nat), Below w.heap.size w W → TxF W w.heap.size a n c (ntwL d s.data.toList) → Calls Tryz.prog 32 #[.agg #[.slice a1 n1 c1, .slice a2 n2 c2], .slice a n c] W fun e w' => e = .returned (intRV (wkR d.1 0 (splitL s.data.toList))) ∧ Below W.heap.size W w') := fun h0 W a n c hW htx => by
    obtain ⟨hf, _⟩ := ntw_ok h0
    have hL : ntwL d s.data.toList = splitL s.data.toList := if_pos hf
    rw [hL] at htx
    have := splitL_len s.data.toList (by omega)
    have e := htx.2.1
    exact walkNamesU W a1 n1 c1 a2 n2 c2 d (h.later hW) (fsE_ok (fsF_E hf)) (hgl.later hW) a n c (splitL s.data.toList) e (by omega) htx.1
  have HR : Hid (walkR d s = if ntwC d s.data.toList = 0 then wkR d.1 0 (splitL s.data.toList) else (ntwC d s.data.toList, 0)) := rfl
  rw [HR.out]
  clear h hs hl hsp hgl HR
  generalize ntwC d s.data.toList = r at *
  generalize wkR d.1 0 (splitL s.data.toList) = wr at *
  by_cases hf : r = 0
  rotate_left
  · rw [if_neg hf]
    have hb : (r != 0) = true := by simpa using hf
    clear hf HW
    have x0 := HX.out 0 _ rfl
    have x1 := HX.out 1 _ rfl
    go_enter Tryz.func10, Tryz.ntmps10
    go_wp2_with fail
    generalize ((w.alloc (.cells #[.slice a1 n1 c1, .slice a2 n2 c2] 32)).alloc (.cells #[.int .i64 0, .int .i64 0] 28)) = W0 at *
    refine (HN.out _ HB0.out).mono ?_
    rintro e w1 ⟨a, n, c, rfl, hb1, -⟩
    have HB1 : Hid (Below w.heap.size w w1) := HB0.out.trans (hb1.mono HB0.out.size)
    have hrr := HRS.out.later hb1
    have hz1 : w.heap.size + 1 < w1.heap.size := hrr.lt
    have t0 : w1.cell? ⟨w.heap.size + 1, 0, none⟩ = some (.int .i64 0) := hrr.cell (i := 0) (by omega)
    have t1 : w1.cell? ⟨w.heap.size + 1, 1, none⟩ = some (.int .i64 0) := hrr.cell (i := 1) (by omega)
    have s0 := hrr.frozen 0
    have s1 := hrr.frozen 1
    clear hb1 hrr x0 x1
    go_wp2
    exact bodyPost_ret (v := intRV (r, 0)) (by simp [results, Tryz.results10, go_sem, t0, t1, hz1]) rfl ⟨rfl, ((HB1.out.setCell (p := ⟨w.heap.size + 1, 0, none⟩) (by show w.heap.size ≤ w.heap.size + 1; omega) _).setCell (p := ⟨w.heap.size + 1, 1, none⟩) (by show w.heap.size ≤ w.heap.size + 1; omega) _).alloc (by have := HB1.out.size; simpa [World.setCell] using this) _⟩
  · rw [if_pos hf]
    have hb : (r != 0) = false := by simpa using hf
    have HW2 : Hid (∀ (W : World) (a : Option Addr) (n c : Nat), Below w.heap.size w W → TxF W w.heap.size a n c (ntwL d s.data.toList) → Calls Tryz.prog 32 #[.agg #[.slice a1 n1 c1, .slice a2 n2 c2], .slice a n c] W fun e w' => e = .returned (intRV wr) ∧ Below W.heap.size W w') := HW.out hf
    clear hf HW
    obtain ⟨wc, wv⟩ := wr
    have x0 := HX.out 0 _ rfl
    have x1 := HX.out 1 _ rfl
    go_enter Tryz.func10, Tryz.ntmps10
    go_wp2_with fail
    generalize ((w.alloc (.cells #[.slice a1 n1 c1, .slice a2 n2 c2] 32)).alloc (.cells #[.int .i64 0, .int .i64 0] 28)) = W0 at *
    refine (HN.out _ HB0.out).mono ?_
    rintro e w1 ⟨a, n, c, rfl, hb1, htx⟩
    have HB1 : Hid (Below w.heap.size w w1) := HB0.out.trans (hb1.mono HB0.out.size)
    have HB1' : Hid (Below w.heap.size w (w1.alloc (.cells #[.int .i64 r, .slice a n c] 60))) := HB1.out.trans ((later1 _ _).mono HB1.out.size)
    have HR1 : Hid (OwnRow (w1.alloc (.cells #[.int .i64 r, .slice a n c] 60)) (w.heap.size + 1) 2 (fun _ => .int .i64 0)) := (HRS.out.later hb1).later (later1 _ _)
    have HTX : Hid (TxF (w1.alloc (.cells #[.int .i64 r, .slice a n c] 60)) w.heap.size a n c (ntwL d s.data.toList)) := by
      have h2 := htx.later (later1 w1 (.cells #[.int .i64 r, .slice a n c] 60))
      exact ⟨h2.1, h2.2.1, h2.2.2.1, fun b off e hn => Nat.le_trans HB0.out.size (h2.2.2.2 b off e hn)⟩
    have y0 := (HX.out.later hb1) 0 _ rfl
    have y1 := (HX.out.later hb1) 1 _ rfl
    have hz1 : w.heap.size + 1 < w1.heap.size := (HRS.out.later hb1).lt
    have hz2 : w.heap.size < w1.heap.size := by omega
    clear hb1 htx x0 x1
    go_wp2_with fail
    refine (HW2.out _ a n c HB1'.out HTX.out).mono ?_
    rintro e w3 ⟨rfl, hb3⟩
    have hrr := HR1.out.later hb3
    have t0 : w3.cell? ⟨w.heap.size + 1, 0, none⟩ = some (.int .i64 0) := hrr.cell (i := 0) (by omega)
    have t1 : w3.cell? ⟨w.heap.size + 1, 1, none⟩ = some (.int .i64 0) := hrr.cell (i := 1) (by omega)
    have s0 := hrr.frozen 0
    have s1 := hrr.frozen 1
    have HB3 : Hid (Below w.heap.size w w3) := HB1'.out.trans (hb3.mono HB1'.out.size)
    clear hb3 hrr y0 y1
    go_wp2
    exact bodyPost_ret (v := intRV (wc, wv)) (by simp [results, Tryz.results10, go_sem, t0, t1]) rfl ⟨rfl, (HB3.out.setCell (p := ⟨w.heap.size + 1, 0, none⟩) (by show w.heap.size ≤ w.heap.size + 1; omega) _).setCell (p := ⟨w.heap.size + 1, 1, none⟩) (by show w.heap.size ≤ w.heap.size + 1; omega) _⟩
end Go.Proofs.YtaibcofendjnnaaGreatDoor

namespace Go.Proofs.YtaibcofendjnnaaGreatDoor
open Go.RowKit
set_option maxRecDepth 100000

theorem WdY.down {w : World} {n₀ m₀ : Nat} {v : Value} {zs : List UInt8} (h : WdY w n₀ v zs) (hm : m₀ ≤ n₀) : WdY w m₀ v zs := by
  obtain ⟨h1, h2⟩ := h
  refine ⟨h1, ?_⟩
  rcases h2 with h2 | ⟨g, cap, cur, h3, h4, h5⟩
  · exact Or.inl h2
  · exact Or.inr ⟨g, cap, cur, h3, Nat.le_trans hm h4, h5⟩
end Go.Proofs.YtaibcofendjnnaaGreatDoor

namespace Go.Proofs.YtaibcofendjnnaaGreatDoor
open Go.RowKit
set_option maxRecDepth 100000

theorem bytR_len (d : FD) (x : Int) : (bytR d x).2.length ≤ 32 := by
  unfold bytR
  by_cases hf : fsF d = 0
  · rw [if_pos hf]
    by_cases hp : 0 ≤ x ∧ x < (d.1.length : Int)
    · rw [if_pos hp]
      by_cases h2 : kindAt d.1 x.toNat = 2
      · rw [if_pos h2]; simp
      · rw [if_neg h2]
        by_cases h0 : kindAt d.1 x.toNat = 0
        · rw [if_pos h0]; simp
        · rw [if_neg h0]
          obtain ⟨h1, _, h3, _, _⟩ := fsE_zero (fsF_zero hf)
          have hsz := ino_size (ins_ino h1 x.toNat (by omega))
          have := bytK_len d (d.1[x.toNat]?.getD id0).2.2.2.1 (many_eight h3) _ (Nat.le_refl _)
          show (bytL d x.toNat).length ≤ 32
          unfold bytL
          omega
    · rw [if_neg hp]; simp
  · rw [if_neg hf]; simp
end Go.Proofs.YtaibcofendjnnaaGreatDoor

namespace Go.Proofs.YtaibcofendjnnaaGreatDoor
open Go.RowKit
set_option maxRecDepth 100000

set_option maxHeartbeats 3200000 in
theorem dirPlaceFault_any (w : World) (a1 : Option Addr) (n1 c1 : Nat) (a2 : Option Addr) (n2 c2 : Nat) (d : FD) (x : Int) (h : FsR w (.slice a1 n1 c1) (.slice a2 n2 c2) d) (hsi : sizeInos d.1 ≤ 1048576) :
    Calls Tryz.prog 122 #[.agg #[.slice a1 n1 c1, .slice a2 n2 c2], .int .i64 x] w fun e w' => e = .returned (.int .i64 (dirQ d x)) ∧ Below w.heap.size w w' := by
  have HF : Hid (∀ W, Below w.heap.size w W → Calls Tryz.prog 70 #[.agg #[.slice a1 n1 c1, .slice a2 n2 c2]] W fun e w' => e = .returned (.int .i64 (fsE d)) ∧ Below W.heap.size W w') := fun W hW => reachFault_any W _ _ _ _ _ _ d (h.later hW) hsi
  have HX : Hid (Bx (w.alloc (.cells #[.slice a1 n1 c1, .slice a2 n2 c2] 32)) w.heap.size [.slice a1 n1 c1, .slice a2 n2 c2]) := Bx.new w [.slice a1 n1 c1, .slice a2 n2 c2] _
  have HR : Hid (dirQ d x = if fsE d = 0 then (if 0 ≤ x ∧ x < (d.1.length : Int) then (if kindAt d.1 x.toNat = 2 then 0 else 9) else 3) else fsE d) := rfl
  obtain ⟨_, _, e1, hm1, hAt⟩ := h.1.open'
  obtain ⟨_, _, e2, hm2, hBt⟩ := h.2.open'
  simp only [Value.slice.injEq] at e1 e2
  obtain ⟨rfl, rfl, rfl⟩ := e1
  obtain ⟨rfl, rfl, rfl⟩ := e2
  have HIN : Hid (∀ W, Calls Tryz.prog 124 #[.agg #[.slice a1 d.1.length c1, .slice a2 d.2.length c2], .int .i64 x] W fun e w' => e = .returned (.bool (decide (0 ≤ x ∧ x < (d.1.length : Int)))) ∧ Below W.heap.size W w') := fun W => isInode_any W _ _ _ _ _ _ x
  clear h hm1 hm2 hBt
  by_cases hf : fsE d = 0
  rotate_left
  · have HQ : Hid (dirQ d x = fsE d) := by unfold Hid; rw [HR.out, if_neg hf]
    rw [HQ.out]
    have hb : (fsE d != 0) = true := by simpa using hf
    clear hf hAt HR HQ HIN
    generalize fsE d = r at *
    generalize d.1.length = n at *
    generalize d.2.length = m at *
    go_enter Tryz.func122, Tryz.ntmps122
    go_wp2_with fail
    refine (HF.out _ (later1 _ _)).mono ?_
    rintro e w1 ⟨rfl, hb1⟩
    have HB1 : Hid (Below w.heap.size w w1) := (later1 _ _).trans (hb1.mono (by simp))
    clear hb1
    go_wp2
    go_ret
    exact ⟨rfl, HB1.out⟩
  · rw [hf] at HF
    by_cases hpl : 0 ≤ x ∧ x < (d.1.length : Int)
    rotate_left
    · have HQ : Hid (dirQ d x = 3) := by unfold Hid; rw [HR.out, if_pos hf, if_neg hpl]
      rw [HQ.out]
      rw [decide_eq_false hpl] at HIN
      clear hf hAt HR HQ hpl
      generalize d.1.length = n at *
      generalize d.2.length = m at *
      go_enter Tryz.func122, Tryz.ntmps122
      go_wp2_with fail
      refine (HF.out _ (later1 _ _)).mono ?_
      rintro e w1 ⟨rfl, hb1⟩
      have HB1 : Hid (Below w.heap.size w w1) := (later1 _ _).trans (hb1.mono (by simp))
      have y0 := (HX.out.later hb1) 0 _ rfl
      have y1 := (HX.out.later hb1) 1 _ rfl
      clear hb1
      go_wp2_with fail
      refine (HIN.out _).mono ?_
      rintro e w2 ⟨rfl, hb2⟩
      have HB2 : Hid (Below w.heap.size w w2) := HB1.out.trans (hb2.mono HB1.out.size)
      clear hb2 y0 y1
      go_wp2
      go_ret
      exact ⟨rfl, HB2.out⟩
    · rw [decide_eq_true hpl] at HIN
      obtain ⟨j, rfl⟩ : ∃ j : Nat, x = (j : Int) := ⟨x.toNat, by omega⟩
      have hj : j < d.1.length := by omega
      have HQ : Hid (dirQ d (j : Int) = if (d.1[j]?.getD id0).1 = 2 then 0 else 9) := by unfold Hid; rw [HR.out, if_pos hf, if_pos hpl]; rfl
      rw [HQ.out]
      have hjn : (j : Int) < ((d.1.length : Nat) : Int) := by omega
      obtain ⟨b0, o0, rfl, hI⟩ := hAt j hj
      obtain ⟨aB, cB, _, _, kc, _⟩ := hI
      have HKC : Hid (_ = some (Value.int .i64 (d.1[j]?.getD id0).1)) := kc
      clear kc hAt HR HQ hpl hf
      generalize (d.1[j]?.getD id0).1 = kd at *
      generalize d.1.length = n at *
      generalize d.2.length = m at *
      by_cases hk : kd = 2
      · rw [if_pos hk]
        have hb2 : (kd != 2) = false := by simpa using hk
        clear hk
        go_enter Tryz.func122, Tryz.ntmps122
        go_wp2_with fail
        refine (HF.out _ (later1 _ _)).mono ?_
        rintro e w1 ⟨rfl, hb1⟩
        have HB1 : Hid (Below w.heap.size w w1) := (later1 _ _).trans (hb1.mono (by simp))
        have HX1 : Hid (Bx w1 w.heap.size _) := HX.out.later hb1
        have y0 := HX1.out 0 _ rfl
        have y1 := HX1.out 1 _ rfl
        clear hb1
        go_wp2_with fail
        refine (HIN.out _).mono ?_
        rintro e w2 ⟨rfl, hb2⟩
        have HB2 : Hid (Below w.heap.size w w2) := HB1.out.trans (hb2.mono HB1.out.size)
        have z0 := (HX1.out.later hb2) 0 _ rfl
        have z1 := (HX1.out.later hb2) 1 _ rfl
        have kc2 := cell_later HB2.out HKC.out
        clear hb2 y0 y1
        go_wp2
        go_ret
        exact ⟨rfl, HB2.out⟩
      · rw [if_neg hk]
        have hb2 : (kd != 2) = true := by simpa using hk
        clear hk
        go_enter Tryz.func122, Tryz.ntmps122
        go_wp2_with fail
        refine (HF.out _ (later1 _ _)).mono ?_
        rintro e w1 ⟨rfl, hb1⟩
        have HB1 : Hid (Below w.heap.size w w1) := (later1 _ _).trans (hb1.mono (by simp))
        have HX1 : Hid (Bx w1 w.heap.size _) := HX.out.later hb1
        have y0 := HX1.out 0 _ rfl
        have y1 := HX1.out 1 _ rfl
        clear hb1
        go_wp2_with fail
        refine (HIN.out _).mono ?_
        rintro e w2 ⟨rfl, hb2⟩
        have HB2 : Hid (Below w.heap.size w w2) := HB1.out.trans (hb2.mono HB1.out.size)
        have z0 := (HX1.out.later hb2) 0 _ rfl
        have z1 := (HX1.out.later hb2) 1 _ rfl
        have kc2 := cell_later HB2.out HKC.out
        clear hb2 y0 y1
        go_wp2
        go_ret
        exact ⟨rfl, HB2.out⟩

set_option maxHeartbeats 1600000 in
theorem dirNameFault_any (w : World) (a1 : Option Addr) (n1 c1 : Nat) (a2 : Option Addr) (n2 c2 : Nat) (d : FD) (x : Int) (s : ByteArray) (h : FsR w (.slice a1 n1 c1) (.slice a2 n2 c2) d) (hsi : sizeInos d.1 ≤ 1048576) (hs : s.size ≤ maxLen) :
    Calls Tryz.prog 74 #[.agg #[.slice a1 n1 c1, .slice a2 n2 c2], .int .i64 x, .string s] w fun e w' => e = .returned (.int .i64 (dirN d x s)) ∧ Below w.heap.size w w' := by
  have HF : Hid (∀ W, Below w.heap.size w W → Calls Tryz.prog 122 #[.agg #[.slice a1 n1 c1, .slice a2 n2 c2], .int .i64 x] W fun e w' => e = .returned (.int .i64 (dirQ d x)) ∧ Below W.heap.size W w') := fun W hW => dirPlaceFault_any W _ _ _ _ _ _ d x (h.later hW) hsi
  have HN : Hid (∀ W, Calls Tryz.prog 123 #[.string s] W fun e w' => e = .returned (.int .i64 (nameF s)) ∧ w' = W) := fun W => implName_any W s hs
  have HR : Hid (dirN d x s = if dirQ d x = 0 then nameF s else dirQ d x) := rfl
  rw [HR.out]
  clear h hsi hs HR
  generalize dirQ d x = r at *
  generalize nameF s = q at *
  by_cases hr : r = 0
  · rw [if_pos hr]
    subst hr
    go_enter Tryz.func74, Tryz.ntmps74
    go_wp2_with fail
    first
      | refine (HF.out _ (later1 _ _)).mono ?_
      | refine (HF.out _ (Below.refl _ _)).mono ?_
    rintro e w1 ⟨rfl, hb1⟩
    have HB1 : Hid (Below w.heap.size w w1) := by first | exact (later1 _ _).trans (hb1.mono (by simp)) | exact hb1
    clear hb1
    go_wp2_with fail
    refine (HN.out _).mono ?_
    rintro e w2 ⟨rfl, rfl⟩
    go_wp2
    go_ret
    exact ⟨rfl, HB1.out⟩
  · rw [if_neg hr]
    have hb : (r != 0) = true := by simpa using hr
    clear hr
    go_enter Tryz.func74, Tryz.ntmps74
    go_wp2_with fail
    first
      | refine (HF.out _ (later1 _ _)).mono ?_
      | refine (HF.out _ (Below.refl _ _)).mono ?_
    rintro e w1 ⟨rfl, hb1⟩
    have HB1 : Hid (Below w.heap.size w w1) := by first | exact (later1 _ _).trans (hb1.mono (by simp)) | exact hb1
    clear hb1
    go_wp2
    go_ret
    exact ⟨rfl, HB1.out⟩

end Go.Proofs.YtaibcofendjnnaaGreatDoor

namespace Go.Proofs.YtaibcofendjnnaaGreatDoor
open Go.RowKit
set_option maxRecDepth 100000

set_option maxHeartbeats 1600000 in
theorem placeOf_any (w : World) (a : Option Addr) (n c : Nat) (es : List EN) (s : ByteArray) (hn : es.length = n) (hm : n ≤ 4294967296) (hat : AtN w a n es) :
    Calls Tryz.prog 75 #[.slice a n c, .string s] w fun e w' => e = .returned (.tuple #[.int .i64 ((plcE es s : Nat) : Int), .bool (fndB es s)]) ∧ Below w.heap.size w w' := by
  have HAT : Hid (AtN w a n es) := hat
  have HN : Hid (es.length = n) := hn
  clear hat hn
  go_enter Tryz.func75, Tryz.ntmps75
  go_wp2
  go_loopw [10] (fun i wr => ∃ k : Nat, k ≤ n ∧ i = .int .i64 k ∧ Below w.heap.size w wr ∧ ∀ j, j < k → geE s (es[j]?.getD en0) = false) (fun i _ => n - (intOf i).toNat)
  case atStart => exact ⟨0, Nat.zero_le _, rfl, Below.refl _ _, fun j hj => by omega⟩
  case round =>
    obtain ⟨k, hk, rfl, hbl, hz⟩ := hrel
    have HBL : Hid (Below w.heap.size w wr) := hbl
    have HZ : Hid (∀ j, j < k → geE s (es[j]?.getD en0) = false) := hz
    clear hbl hz
    by_cases hlt : k < n
    · obtain ⟨b, off, rfl, c0, c1⟩ := HAT.out k hlt
      replace c0 := cell_later HBL.out c0
      replace c1 := cell_later HBL.out c1
      have HBX : Hid (∀ o : Obj, Below w.heap.size w (wr.alloc o)) := fun o => HBL.out.trans ((later1 _ _).mono HBL.out.size)
      cases hge : geE s (es[k]?.getD en0) with
      | false =>
        have HNX : Hid (∀ j, j < k + 1 → geE s (es[j]?.getD en0) = false) := fun j hj => by
          by_cases e : j = k
          · rw [e]; exact hge
          · exact HZ.out j (by omega)
        have hlt2 : Op.bytesLess (es[k]?.getD en0).1.toList s.toList = true := by unfold geE at hge; simpa using hge
        clear hge HZ
        generalize (es[k]?.getD en0).1 = x at *
        generalize (es[k]?.getD en0).2 = y at *
        go_wp2
        go_roundw
        case rel => exact ⟨k + 1, by omega, by go_num, HBX.out _, HNX.out⟩
        case measure => simp [intOf]; omega
      | true =>
        have HP : Hid (plcE es s = k) := findIdx_is (by rw [HN.out]; exact hlt) hge HZ.out
        have HF : Hid (fndB es s = ((es[k]?.getD en0).1.toList == s.toList)) := by
          unfold Hid fndB
          rw [HP.out, decide_eq_true (by rw [HN.out]; exact hlt), Bool.true_and]
          rfl
        have hlt2 : Op.bytesLess (es[k]?.getD en0).1.toList s.toList = false := by unfold geE at hge; simpa using hge
        clear hge HZ
        generalize (es[k]?.getD en0).1 = x at *
        generalize (es[k]?.getD en0).2 = y at *
        go_wp2_with fail
        go_quiet (fail)
        go_wp2
        go_ret2
        exact ⟨by rw [HP.out, HF.out]; rfl, below_drewN (HBX.out _) _⟩
    · have e : k = n := by omega
      have HP : Hid (plcE es s = n) := by
        have := findIdx_no (p := geE s) (es := es) fun j hj => HZ.out j (by rw [HN.out] at hj; omega)
        rw [HN.out] at this
        exact this
      have HF : Hid (fndB es s = false) := by unfold Hid fndB; rw [HP.out, decide_eq_false (by rw [HN.out]; omega)]; rfl
      subst e
      clear HZ
      go_wp2
      go_ret2
      exact ⟨by rw [HP.out, HF.out]; rfl, HBL.out⟩

/-- Where a name stands among entries, or -1. -/
def at8 (es : List EN) (s : ByteArray) : Int := if idxE es s < es.length then ((idxE es s : Nat) : Int) else -1
set_option maxHeartbeats 1600000 in
theorem l8At_any (w : World) (a : Option Addr) (n c : Nat) (es : List EN) (s : ByteArray) (hn : es.length = n) (hm : n ≤ 4294967296) (hat : AtN w a n es) :
    Calls Tryz.prog 97 #[.slice a n c, .string s] w fun e w' => e = .returned (.int .i64 (at8 es s)) ∧ w' = w := by
  have HAT : Hid (AtN w a n es) := hat
  have HN : Hid (es.length = n) := hn
  clear hat hn
  go_enter Tryz.func97, Tryz.ntmps97
  go_wp2
  go_loop [5] (fun i => ∃ k : Nat, k ≤ n ∧ i = .int .i64 k ∧ ∀ j, j < k → eqE s (es[j]?.getD en0) = false) (fun i => n - (intOf i).toNat)
  case atStart => exact ⟨0, Nat.zero_le _, rfl, fun j hj => by omega⟩
  case round =>
    obtain ⟨k, hk, rfl, hz⟩ := hrel
    have HZ : Hid (∀ j, j < k → eqE s (es[j]?.getD en0) = false) := hz
    clear hz
    by_cases hlt : k < n
    · obtain ⟨b, off, rfl, c0, c1⟩ := HAT.out k hlt
      cases hge : eqE s (es[k]?.getD en0) with
      | false =>
        have HNX : Hid (∀ j, j < k + 1 → eqE s (es[j]?.getD en0) = false) := fun j hj => by
          by_cases e : j = k
          · rw [e]; exact hge
          · exact HZ.out j (by omega)
        have hlt2 : ((es[k]?.getD en0).1.toList == s.toList) = false := hge
        clear hge HZ c1
        generalize (es[k]?.getD en0).1 = x at *
        go_wp2
        go_round
        case rel => exact ⟨k + 1, by omega, by go_num, HNX.out⟩
        case measure => simp [intOf]; omega
      | true =>
        have HP : Hid (at8 es s = (k : Int)) := by
          have h1 : idxE es s = k := findIdx_is (by rw [HN.out]; exact hlt) hge HZ.out
          unfold Hid at8
          rw [h1, if_pos (by rw [HN.out]; exact hlt)]
        have hlt2 : ((es[k]?.getD en0).1.toList == s.toList) = true := hge
        clear hge HZ c1
        generalize (es[k]?.getD en0).1 = x at *
        go_wp2
        go_ret
        exact ⟨ret_int HP.out.symm, rfl⟩
    · have HP : Hid (at8 es s = -1) := by
        have h1 : idxE es s = es.length := findIdx_no (p := eqE s) (es := es) fun j hj => HZ.out j (by rw [HN.out] at hj; omega)
        unfold Hid at8
        rw [h1, if_neg (by omega)]
      clear HZ
      go_wp2
      go_ret
      exact ⟨ret_int HP.out.symm, rfl⟩

/-- What lies at the place of a directory: its entries. -/
theorem FsR.dir {w : World} {a1 : Option Addr} {n1 c1 : Nat} {v2 : Value} {d : FD} (h : FsR w (.slice a1 n1 c1) v2 d) {j : Nat} (hj : j < d.1.length) : ∃ b0 o0 aE cE, a1 = some ⟨b0, o0, none⟩ ∧ n1 = d.1.length ∧ w.cell? ⟨b0, o0 + j * 5 + 4, none⟩ = some (.slice aE (entA d j).length cE) ∧ Ents w (.slice aE (entA d j).length cE) (entA d j) := by
  obtain ⟨_, _, e1, _, hAt⟩ := h.1.open'
  simp only [Value.slice.injEq] at e1
  obtain ⟨rfl, rfl, rfl⟩ := e1
  obtain ⟨b0, o0, rfl, hI⟩ := hAt j hj
  obtain ⟨aB, cB, aE, cE, _, _, _, _, k4, hR⟩ := hI
  exact ⟨b0, o0, aE, cE, rfl, rfl, k4, hR.2.2⟩

end Go.Proofs.YtaibcofendjnnaaGreatDoor

namespace Go.Proofs.YtaibcofendjnnaaGreatDoor
open Go.RowKit
set_option maxRecDepth 100000

set_option maxHeartbeats 3200000 in
theorem l9Walk_any (w : World) (b : Nat) (d : FD) (aI : Option Addr) (cI : Nat) (aD : Option Addr) (cD : Nat) (hx : FsX w b 0 d aI cI aD cD) (hok : FsOk d) (aN : Option Addr) (mN cN : Nat) (xs : List (List UInt8)) (hmN : xs.length = mN) (hmx : mN ≤ 1048577) (hat : AtT w aN mN xs) :
    Calls Tryz.prog 58 #[.pointer (some ⟨b, 0, none⟩), .slice aN mN cN] w fun e w' => e = .returned (.tuple #[.int .i64 (wkR d.1 0 xs).2, .int .i64 (wkR d.1 0 xs).1]) ∧ ∃ q, w' = w.drewN q := by
  obtain ⟨f0, -, hI, -⟩ := hx
  obtain ⟨_, _, e1, -, hAt⟩ := hI.open'
  simp only [Value.slice.injEq] at e1
  obtain ⟨rfl, -, rfl⟩ := e1
  have HAI : Hid (AtI w aI d.1.length d.1) := hAt
  have HAT : Hid (AtT w aN mN xs) := hat
  have HM : Hid (xs.length = mN) := hmN
  have HR : Hid (inRange d.1) := hok.rng
  have H6 : Hid (∀ i : Nat, (d.1[i]?.getD id0).2.2.2.2.length ≤ 6) := ents_six hok
  have hpos := hok.pos
  have hten := hok.ten
  obtain ⟨RES, hRES⟩ : ∃ RES, wkR d.1 0 xs = RES := ⟨_, rfl⟩
  have HRES : Hid (wkR d.1 0 xs = RES) := hRES
  rw [hRES]
  clear hRES hI hAt hat hmN hok
  obtain ⟨n, hn⟩ : ∃ n, d.1.length = n := ⟨_, rfl⟩
  have HN : Hid (d.1.length = n) := hn
  rw [hn] at f0 HAI hpos hten
  clear hn
  go_enter Tryz.func58, Tryz.ntmps58
  go_wp2_with fail
  go_loopw [6, 7] (fun va vi wr => ∃ q t m : Nat, q ≤ mN ∧ t < n ∧ va = .int .i64 (t : Int) ∧ vi = .int .i64 (q : Int) ∧ wr = w.drewN m ∧ wkR d.1 t (xs.drop q) = RES) (fun _ vi _ => mN - (intOf vi).toNat)
  case atStart => exact ⟨0, 0, 0, Nat.zero_le _, hpos, rfl, rfl, rfl, HRES.out⟩
  case round =>
    obtain ⟨q, t, m, hq, ht, rfl, rfl, rfl, hz⟩ := hrel
    have HZ : Hid (wkR d.1 t (xs.drop q) = RES) := hz
    clear hz
    by_cases hlt : q < mN
    · have HDC : Hid (xs.drop q = xs[q]?.getD [] :: xs.drop (q + 1)) := drop_cons (by rw [HM.out]; exact hlt)
      obtain ⟨bn, on, rfl, c0⟩ := HAT.out q hlt
      obtain ⟨bI, oI, rfl, hIt⟩ := HAI.out t ht
      obtain ⟨aB, cB, aE, cE, k0, -, -, -, k4, h5⟩ := hIt
      obtain ⟨_, _, e3, -, -, hEt⟩ := h5.2.2.open'
      simp only [Value.slice.injEq] at e3
      obtain ⟨rfl, -, rfl⟩ := e3
      generalize hs : xs[q]?.getD [] = s at *
      clear hs
      have htI : (t : Int) < (n : Int) := by omega
      have hqI : (q : Int) < (mN : Int) := by omega
      have hE6 := H6.out t
      have HST : Hid (RES = if (d.1[t]?.getD id0).1 = 2 then (if idxE (d.1[t]?.getD id0).2.2.2.2 (mkB s) < (d.1[t]?.getD id0).2.2.2.2.length then wkR d.1 ((d.1[t]?.getD id0).2.2.2.2[idxE (d.1[t]?.getD id0).2.2.2.2 (mkB s)]?.getD en0).2.toNat (xs.drop (q + 1)) else (4, 0)) else (9, 0)) := by
        unfold Hid
        rw [← HZ.out, HDC.out]; rfl
      by_cases hk : (d.1[t]?.getD id0).1 = 2
      rotate_left
      · have hkb : ((d.1[t]?.getD id0).1 != 2) = true := by simpa using hk
        have HRR : Hid (RES = (9, 0)) := by unfold Hid; rw [HST.out, if_neg hk]
        clear HST hk
        generalize (d.1[t]?.getD id0).1 = kd at *
        go_wp2
        go_ret2
        exact ⟨by rw [HRR.out]; rfl, _, rfl⟩
      · have hkb : ((d.1[t]?.getD id0).1 != 2) = false := by simpa using hk
        rw [if_pos hk] at HST
        have HL8 : Hid (∀ m, Calls Tryz.prog 97 #[.slice aE (d.1[t]?.getD id0).2.2.2.2.length cE, .string (mkB s)] (w.drewN m) fun e w' => e = .returned (.int .i64 (at8 (d.1[t]?.getD id0).2.2.2.2 (mkB s))) ∧ w' = w.drewN m) := fun m => l8At_any (w.drewN m) aE _ cE _ (mkB s) rfl (by omega) (hEt.later (below_drewN (Below.refl _ _) m))
        have HEN : Hid (AtN w aE (d.1[t]?.getD id0).2.2.2.2.length (d.1[t]?.getD id0).2.2.2.2) := hEt
        by_cases hi : idxE (d.1[t]?.getD id0).2.2.2.2 (mkB s) < (d.1[t]?.getD id0).2.2.2.2.length
        · have ha8 : at8 (d.1[t]?.getD id0).2.2.2.2 (mkB s) = ((idxE (d.1[t]?.getD id0).2.2.2.2 (mkB s) : Nat) : Int) := by unfold at8; rw [if_pos hi]
          rw [ha8] at HL8
          rw [if_pos hi] at HST
          obtain ⟨y, hy, hyn⟩ := rng_nat HR.out (by rw [HN.out]; exact ht) hi
          obtain ⟨b1, o1, rfl, -, d1⟩ := HEN.out _ hi
          rw [hy] at d1 HST
          rw [Int.toNat_natCast] at HST
          rw [HN.out] at hyn
          clear hk hy ha8 hEt h5 HZ
          generalize idxE (d.1[t]?.getD id0).2.2.2.2 (mkB s) = k at *
          generalize (d.1[t]?.getD id0).2.2.2.2.length = nE at *
          generalize (d.1[t]?.getD id0).1 = kd at *
          go_wp2_with fail
          go_quiet ((go_at_call 97; exact quiet_same2 (HL8.out _)))
          go_wp2
          go_roundw
          case rel => exact ⟨q + 1, y, _, by omega, hyn, rfl, by go_num, by first | rfl | rw [World.drewN_drewN], HST.out.symm⟩
          case measure => simp [intOf]; omega
        · have ha8 : at8 (d.1[t]?.getD id0).2.2.2.2 (mkB s) = -1 := by unfold at8; rw [if_neg hi]
          rw [ha8] at HL8
          have HRR : Hid (RES = (4, 0)) := by unfold Hid; rw [HST.out, if_neg hi]
          clear HST hk ha8 hEt h5 HZ hi
          generalize (d.1[t]?.getD id0).2.2.2.2.length = nE at *
          generalize (d.1[t]?.getD id0).1 = kd at *
          go_wp2_with fail
          go_quiet ((go_at_call 97; exact quiet_same2 (HL8.out _)))
          go_wp2
          go_ret2
          exact ⟨by rw [HRR.out]; rfl, _, by first | rfl | rw [World.drewN_drewN]⟩
    · have HRR : Hid (RES = (0, (t : Int))) := by
        unfold Hid
        rw [← HZ.out, List.drop_of_length_le (by rw [HM.out]; omega)]; rfl
      go_wp2
      go_ret2
      exact ⟨by rw [HRR.out]; rfl, _, rfl⟩
end Go.Proofs.YtaibcofendjnnaaGreatDoor

namespace Go.Proofs.YtaibcofendjnnaaGreatDoor
open Go.RowKit
set_option maxRecDepth 100000

/-- Where a path leads: a code, or a place. -/
def pthR (d : FD) (p : List UInt8) : Int × Int := if pathF p = 0 then wkR d.1 0 (splitL p) else (pathF p, 0)
set_option maxHeartbeats 3200000 in
theorem l9Path_any (w : World) (b : Nat) (d : FD) (aI : Option Addr) (cI : Nat) (aD : Option Addr) (cD : Nat) (hx : FsX w b 0 d aI cI aD cD) (hok : FsOk d) (p : List UInt8) (hp : p.length ≤ 1048576) :
    Calls Tryz.prog 27 #[.pointer (some ⟨b, 0, none⟩), .string (mkB p)] w fun e w' => e = .returned (.tuple #[.int .i64 (pthR d p).2, .int .i64 (pthR d p).1]) ∧ Below w.heap.size w w' := by
  have HS : Hid (Calls Tryz.prog 57 #[.string (mkB p)] w fun e w' => ∃ a c, e = .returned (.tuple #[.slice a (splitL p).length c, .int .i64 (pathF p)]) ∧ Spl w w' p a c) := specSplit_any w p
  have HW : Hid (∀ (W : World) (a : Option Addr) (c : Nat), Spl w W p a c → Calls Tryz.prog 58 #[.pointer (some ⟨b, 0, none⟩), .slice a (splitL p).length c] W fun e w' => e = .returned (.tuple #[.int .i64 (wkR d.1 0 (splitL p)).2, .int .i64 (wkR d.1 0 (splitL p)).1]) ∧ Below W.heap.size W w') := fun W a c hsp => by
    have := splitL_len p hp
    refine (l9Walk_any W b d aI cI aD cD (hx.later hsp.1) hok a _ c (splitL p) rfl (by omega) hsp.2.1).mono ?_
    rintro e w' ⟨rfl, q, rfl⟩
    exact ⟨rfl, below_drewN (Below.refl _ _) q⟩
  have HR : Hid (pthR d p = if pathF p = 0 then wkR d.1 0 (splitL p) else (pathF p, 0)) := rfl
  rw [HR.out]
  clear HR hx hok hp
  generalize hsz : (splitL p).length = n at *
  clear hsz
  generalize mkB p = s at *
  generalize wkR d.1 0 (splitL p) = wr at *
  by_cases h0 : pathF p = 0
  · rw [if_pos h0]
    have hb : (pathF p != 0) = false := by simpa using h0
    clear h0
    generalize pathF p = pc at *
    obtain ⟨wc, wv⟩ := wr
    go_enter Tryz.func27, Tryz.ntmps27
    go_wp2_with fail
    refine HS.out.mono ?_
    rintro e w1 ⟨a, c, rfl, hsp⟩
    have HSP : Hid (Spl w w1 p a c) := hsp
    clear hsp
    go_wp2_with fail
    refine (HW.out _ a c HSP.out).mono ?_
    rintro e w2 ⟨rfl, hb2⟩
    have HB2 : Hid (Below w.heap.size w w2) := HSP.out.1.trans (hb2.mono HSP.out.1.size)
    clear hb2
    go_wp2
    go_ret2
    exact ⟨rfl, HB2.out⟩
  · rw [if_neg h0]
    have hb : (pathF p != 0) = true := by simpa using h0
    clear h0 HW
    generalize pathF p = pc at *
    go_enter Tryz.func27, Tryz.ntmps27
    go_wp2_with fail
    refine HS.out.mono ?_
    rintro e w1 ⟨a, c, rfl, hsp⟩
    have HB1 : Hid (Below w.heap.size w w1) := hsp.1
    clear hsp
    go_wp2
    go_ret2
    exact ⟨rfl, HB1.out⟩
set_option maxHeartbeats 1600000 in
theorem l9Int_any (w : World) (c v : Int) : Calls Tryz.prog 28 #[.int .i64 v, .int .i64 c] w fun e w' => e = .returned (intRV (if c = 0 then (0, v) else (c, 0))) ∧ Below w.heap.size w w' := by
  have hrr := zeros2 w 28
  have t0 : (w.alloc (.cells #[.int .i64 0, .int .i64 0] 28)).cell? ⟨w.heap.size, 0, none⟩ = some (.int .i64 0) := hrr.cell (i := 0) (by omega)
  have t1 : (w.alloc (.cells #[.int .i64 0, .int .i64 0] 28)).cell? ⟨w.heap.size, 1, none⟩ = some (.int .i64 0) := hrr.cell (i := 1) (by omega)
  have s0 := hrr.frozen 0
  have s1 := hrr.frozen 1
  have HB : Hid (Below w.heap.size w (w.alloc (.cells #[.int .i64 0, .int .i64 0] 28))) := later1 _ _
  clear hrr
  by_cases h0 : c = 0
  · rw [if_pos h0]
    have hb : (c != 0) = false := by simpa using h0
    clear h0
    go_enter Tryz.func28, Tryz.ntmps28
    go_wp2
    exact bodyPost_ret (v := intRV (0, v)) (by simp [results, Tryz.results28, go_sem]) rfl ⟨rfl, by first | exact (HB.out.setCell (p := ⟨w.heap.size, 0, none⟩) (Nat.le_refl _) _).setCell (p := ⟨w.heap.size, 1, none⟩) (Nat.le_refl _) _ | exact later1 _ _⟩
  · rw [if_neg h0]
    have hb : (c != 0) = true := by simpa using h0
    clear h0
    go_enter Tryz.func28, Tryz.ntmps28
    go_wp2
    exact bodyPost_ret (v := intRV (c, 0)) (by simp [results, Tryz.results28, go_sem]) rfl ⟨rfl, by first | exact (HB.out.setCell (p := ⟨w.heap.size, 0, none⟩) (Nat.le_refl _) _).setCell (p := ⟨w.heap.size, 1, none⟩) (Nat.le_refl _) _ | exact later1 _ _⟩
theorem wkR_two {ds : List ID} : ∀ (xs : List (List UInt8)) (t : Nat), ¬ (wkR ds t xs).1 = 0 → (wkR ds t xs).2 = 0
  | [], _, h => absurd rfl h
  | s :: ns, t, h => by
    unfold wkR at h ⊢
    split
    · rename_i hk
      rw [if_pos hk] at h
      split
      · rename_i hi
        rw [if_pos hi] at h
        exact wkR_two ns _ h
      · rfl
    · rfl
theorem pth_int (d : FD) (p : List UInt8) : (if (pthR d p).1 = 0 then (0, (pthR d p).2) else ((pthR d p).1, 0)) = pthR d p := by
  unfold pthR
  by_cases h0 : pathF p = 0
  · rw [if_pos h0]
    by_cases h1 : (wkR d.1 0 (splitL p)).1 = 0
    · rw [if_pos h1]; exact Prod.ext h1.symm rfl
    · rw [if_neg h1]; exact Prod.ext rfl (wkR_two _ _ h1).symm
  · rw [if_neg h0, if_neg h0]
theorem walk_pth (d : FD) (s : ByteArray) : walkR d s = if fsF d = 0 then pthR d s.data.toList else (fsF d, 0) := by
  unfold walkR ntwC pthR
  by_cases h0 : fsF d = 0
  · rw [if_pos h0, if_pos h0]
  · rw [if_neg h0, if_neg h0, if_neg h0]
set_option maxHeartbeats 3200000 in
theorem specWalkU (w : World) (a1 : Option Addr) (n1 c1 : Nat) (a2 : Option Addr) (n2 c2 : Nat) (d : FD) (s : ByteArray) (h : FsR w (.slice a1 n1 c1) (.slice a2 n2 c2) d) (hs : sizeFs d ≤ 1048576) (hl : s.size ≤ 1048576) :
    Calls Tryz.prog 8 #[.agg #[.slice a1 n1 c1, .slice a2 n2 c2], .string s] w fun e w' => e = .returned (intRV (walkR d s)) ∧ Below w.heap.size w w' := by
  obtain ⟨hx0, -, -⟩ := FsX.box h 32
  have HB0 : Hid (Below w.heap.size w ((w.alloc (.cells #[.slice a1 n1 c1, .slice a2 n2 c2] 32)).alloc (.cells #[.int .i64 0, .int .i64 0] 28))) := later2 _ _ _
  have HRS : Hid (OwnRow ((w.alloc (.cells #[.slice a1 n1 c1, .slice a2 n2 c2] 32)).alloc (.cells #[.int .i64 0, .int .i64 0] 28)) (w.heap.size + 1) 2 (fun _ => .int .i64 0)) := by
    have p2 := zeros2 (w.alloc (.cells #[.slice a1 n1 c1, .slice a2 n2 c2] 32)) 28
    rw [World.size_alloc] at p2
    exact p2
  have hsp : s.data.toList.length = s.size := Array.length_toList
  have HF : Hid (Calls Tryz.prog 26 #[.pointer (some ⟨w.heap.size, 0, none⟩)] ((w.alloc (.cells #[.slice a1 n1 c1, .slice a2 n2 c2] 32)).alloc (.cells #[.int .i64 0, .int .i64 0] 28)) fun e w' => e = .returned (.int .i64 (fsF d)) ∧ Below ((w.alloc (.cells #[.slice a1 n1 c1, .slice a2 n2 c2] 32)).alloc (.cells #[.int .i64 0, .int .i64 0] 28)).heap.size ((w.alloc (.cells #[.slice a1 n1 c1, .slice a2 n2 c2] 32)).alloc (.cells #[.int .i64 0, .int .i64 0] 28)) w') := l6Fault_any _ _ _ d _ _ _ _ (hx0.later (later1 _ _)) (by unfold sizeFs at hs; omega)
  have HP : Hid (fsF d = 0 → ∀ W, Below ((w.alloc (.cells #[.slice a1 n1 c1, .slice a2 n2 c2] 32)).alloc (.cells #[.int .i64 0, .int .i64 0] 28)).heap.size ((w.alloc (.cells #[.slice a1 n1 c1, .slice a2 n2 c2] 32)).alloc (.cells #[.int .i64 0, .int .i64 0] 28)) W → Calls Tryz.prog 27 #[.pointer (some ⟨w.heap.size, 0, none⟩), .string s] W fun e w' => e = .returned (.tuple #[.int .i64 (pthR d s.data.toList).2, .int .i64 (pthR d s.data.toList).1]) ∧ Below W.heap.size W w') := fun hf W hW => by
    have := l9Path_any W w.heap.size d _ _ _ _ ((hx0.later (later1 _ _)).later hW) (fsE_ok (fsF_E hf)) s.data.toList (by omega)
    rw [mkB_data] at this
    exact this
  have HI : Hid (∀ W, Calls Tryz.prog 28 #[.int .i64 (pthR d s.data.toList).2, .int .i64 (pthR d s.data.toList).1] W fun e w' => e = .returned (intRV (pthR d s.data.toList)) ∧ Below W.heap.size W w') := fun W => by
    have := l9Int_any W (pthR d s.data.toList).1 (pthR d s.data.toList).2
    rw [pth_int] at this
    exact this
  rw [walk_pth]
  clear h hs hl hsp hx0
  generalize pthR d s.data.toList = pr at *
  generalize fsF d = r at *
  by_cases hf : r = 0
  rotate_left
  · rw [if_neg hf]
    have hb : (r != 0) = true := by simpa using hf
    clear hf HP HI
    go_enter Tryz.func8, Tryz.ntmps8
    go_wp2_with fail
    generalize ((w.alloc (.cells #[.slice a1 n1 c1, .slice a2 n2 c2] 32)).alloc (.cells #[.int .i64 0, .int .i64 0] 28)) = W0 at *
    refine HF.out.mono ?_
    rintro e w1 ⟨rfl, hb1⟩
    have HB1 : Hid (Below w.heap.size w w1) := HB0.out.trans (hb1.mono HB0.out.size)
    have hrr := HRS.out.later hb1
    have t0 : w1.cell? ⟨w.heap.size + 1, 0, none⟩ = some (.int .i64 0) := hrr.cell (i := 0) (by omega)
    have t1 : w1.cell? ⟨w.heap.size + 1, 1, none⟩ = some (.int .i64 0) := hrr.cell (i := 1) (by omega)
    have s0 := hrr.frozen 0
    have s1 := hrr.frozen 1
    clear hb1 hrr
    go_wp2
    exact bodyPost_ret (v := intRV (r, 0)) (by simp [results, Tryz.results8, go_sem, t0, t1]) rfl ⟨rfl, (HB1.out.setCell (p := ⟨w.heap.size + 1, 0, none⟩) (by show w.heap.size ≤ w.heap.size + 1; omega) _).setCell (p := ⟨w.heap.size + 1, 1, none⟩) (by show w.heap.size ≤ w.heap.size + 1; omega) _⟩
  · rw [if_pos hf]
    have hb : (r != 0) = false := by simpa using hf
    have HP2 := HP.out hf
    have HPP : Hid (∀ W, Below ((w.alloc (.cells #[.slice a1 n1 c1, .slice a2 n2 c2] 32)).alloc (.cells #[.int .i64 0, .int .i64 0] 28)).heap.size ((w.alloc (.cells #[.slice a1 n1 c1, .slice a2 n2 c2] 32)).alloc (.cells #[.int .i64 0, .int .i64 0] 28)) W → Calls Tryz.prog 27 #[.pointer (some ⟨w.heap.size, 0, none⟩), .string s] W fun e w' => e = .returned (.tuple #[.int .i64 pr.2, .int .i64 pr.1]) ∧ Below W.heap.size W w') := HP2
    clear hf HP HP2
    obtain ⟨pc, pv⟩ := pr
    dsimp only at HPP HI
    go_enter Tryz.func8, Tryz.ntmps8
    go_wp2_with fail
    generalize ((w.alloc (.cells #[.slice a1 n1 c1, .slice a2 n2 c2] 32)).alloc (.cells #[.int .i64 0, .int .i64 0] 28)) = W0 at *
    refine HF.out.mono ?_
    rintro e w1 ⟨rfl, hb1⟩
    have HBW : Hid (Below W0.heap.size W0 w1) := hb1
    clear hb1
    go_wp2_with fail
    refine (HPP.out _ HBW.out).mono ?_
    rintro e w2 ⟨rfl, hb2⟩
    have HB2 : Hid (Below W0.heap.size W0 w2) := HBW.out.trans (hb2.mono HBW.out.size)
    clear hb2
    go_wp2_with fail
    refine (HI.out _).mono ?_
    rintro e w3 ⟨rfl, hb3⟩
    have HB3 : Hid (Below W0.heap.size W0 w3) := HB2.out.trans (hb3.mono HB2.out.size)
    have hrr := HRS.out.later HB3.out
    have t0 : w3.cell? ⟨w.heap.size + 1, 0, none⟩ = some (.int .i64 0) := hrr.cell (i := 0) (by omega)
    have t1 : w3.cell? ⟨w.heap.size + 1, 1, none⟩ = some (.int .i64 0) := hrr.cell (i := 1) (by omega)
    have s0 := hrr.frozen 0
    have s1 := hrr.frozen 1
    have HBF : Hid (Below w.heap.size w w3) := HB0.out.trans (HB3.out.mono HB0.out.size)
    clear hb3 hrr
    go_wp2
    exact bodyPost_ret (v := intRV (pc, pv)) (by simp [results, Tryz.results8, go_sem, t0, t1]) rfl ⟨rfl, (HBF.out.setCell (p := ⟨w.heap.size + 1, 0, none⟩) (by show w.heap.size ≤ w.heap.size + 1; omega) _).setCell (p := ⟨w.heap.size + 1, 1, none⟩) (by show w.heap.size ≤ w.heap.size + 1; omega) _⟩
theorem implWalkV (w : World) (a1 : Option Addr) (n1 c1 : Nat) (a2 : Option Addr) (n2 c2 : Nat) (d : FD) (s : ByteArray) (h : FsR w (.slice a1 n1 c1) (.slice a2 n2 c2) d) (hs : sizeFs d ≤ 1048576) (hl : s.size ≤ 1048576) (hgl : Gl w) :
    Calls Tryz.prog 10 #[.agg #[.slice a1 n1 c1, .slice a2 n2 c2], .string s] w fun e w' => e = .returned (.agg #[.int .i64 (walkR d s).1, .int .i64 (walkR d s).2]) ∧ Below w.heap.size w w' := implWalkU w a1 n1 c1 a2 n2 c2 d s h hs hl hgl
theorem specWalkV (w : World) (a1 : Option Addr) (n1 c1 : Nat) (a2 : Option Addr) (n2 c2 : Nat) (d : FD) (s : ByteArray) (h : FsR w (.slice a1 n1 c1) (.slice a2 n2 c2) d) (hs : sizeFs d ≤ 1048576) (hl : s.size ≤ 1048576) :
    Calls Tryz.prog 8 #[.agg #[.slice a1 n1 c1, .slice a2 n2 c2], .string s] w fun e w' => e = .returned (.agg #[.int .i64 (walkR d s).1, .int .i64 (walkR d s).2]) ∧ Below w.heap.size w w' := specWalkU w a1 n1 c1 a2 n2 c2 d s h hs hl
end Go.Proofs.YtaibcofendjnnaaGreatDoor
