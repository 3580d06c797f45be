/- Paths and their names: joined again, cut again. No program is named here. The program's LinkPath. The specification's DropFile. The specification's DropFile: the walk; how great what is answered is. AddName: how great what is answered is; append within a region, its answer told by a property. -/
import Derived.Test.YtpfafcodihhdfaaGreatDoorM25
import Derived.Test.YtpfafcodihhdfaaGreatDoorM23
import Derived.Deep.RegionHeld3
import Derived.Test.YtpfafcodihhdfaaGreatDoorM22
import Derived.Test.YtpfafcodihhdfaaGreatDoorM24
namespace Go.Proofs.YtpfafcodihhdfaaGreatDoor
open Go.RowKit
set_option maxRecDepth 100000

theorem take_drop47 (t : List UInt8) : takeTo t ++ dropTo t = t := List.takeWhile_append_dropWhile
theorem drop47 (t : List UInt8) : dropTo t = [] ∨ ∃ r, dropTo t = 47 :: r := by
  unfold dropTo
  induction t with
  | nil => exact Or.inl rfl
  | cons b l ih =>
    by_cases h : b = 47
    · rw [List.dropWhile_cons, if_neg (by simp [h])]; exact Or.inr ⟨l, by rw [h]⟩
    · rw [List.dropWhile_cons, if_pos (by simpa using h)]; exact ih
/-- What is cut is joined again. -/
theorem join_rest (n : Nat) : ∀ l : List UInt8, l.length ≤ n → (l = [] ∨ ∃ r, l = 47 :: r) → joinL (restN l) = l := by
  induction n with
  | zero => intro l h _; have : l = [] := List.eq_nil_of_length_eq_zero (by omega); subst this; rfl
  | succ n ih =>
    intro l hl h
    rcases h with rfl | ⟨t, rfl⟩
    · rfl
    · rw [restN_cons]
      have h1 := ih (dropTo t) (by have := dropTo_le t; simp at hl; omega) (drop47 t)
      show (47 :: takeTo t) ++ joinL (restN (dropTo t)) = 47 :: t
      rw [h1, List.cons_append, take_drop47]
/-- Names that have no slash. -/
def noSlash (y : List UInt8) : Prop := ∀ b ∈ y, b ≠ 47
theorem takeTo_app {y l : List UInt8} (hy : noSlash y) (hl : l = [] ∨ ∃ r, l = 47 :: r) : takeTo (y ++ l) = y ∧ dropTo (y ++ l) = l := by
  unfold takeTo dropTo
  induction y with
  | nil =>
    rcases hl with rfl | ⟨r, rfl⟩
    · exact ⟨rfl, rfl⟩
    · simp
  | cons b t ih =>
    have hb : b ≠ 47 := hy b (by simp)
    have := ih fun c hc => hy c (by simp [hc])
    rw [List.cons_append, List.takeWhile_cons, List.dropWhile_cons, if_pos (by simpa using hb), if_pos (by simpa using hb), this.1, this.2]
    exact ⟨rfl, rfl⟩
theorem joinL_head (ys : List (List UInt8)) : joinL ys = [] ∨ ∃ r, joinL ys = 47 :: r := by
  cases ys with
  | nil => exact Or.inl rfl
  | cons y r => exact Or.inr ⟨_, rfl⟩
theorem joinL_cons (y : List UInt8) (ys : List (List UInt8)) : joinL (y :: ys) = 47 :: (y ++ joinL ys) := rfl
/-- What is joined is cut again. -/
theorem rest_join (ys : List (List UInt8)) (h : ∀ y ∈ ys, noSlash y) : restN (joinL ys) = ys := by
  induction ys with
  | nil => rfl
  | cons y r ih =>
    have h1 := takeTo_app (h y (by simp)) (joinL_head r)
    rw [joinL_cons, restN_cons, h1.1, h1.2, ih fun z hz => h z (by simp [hz])]
theorem joinT_ne {ys : List (List UInt8)} (h : ys ≠ []) : joinT ys = joinL ys := by
  cases ys with
  | nil => exact absurd rfl h
  | cons y r => unfold joinT; rw [if_neg (by rw [joinL_cons]; simp)]
theorem names_join (ys : List (List UInt8)) (h : ∀ y ∈ ys, noSlash y ∧ y ≠ []) : namesL (joinT ys) = ys := by
  cases ys with
  | nil => rfl
  | cons y r =>
    rw [joinT_ne (by simp)]
    unfold namesL
    have hy := (h y (by simp)).2
    rw [if_neg (by rw [joinL_cons]; intro e; simp at e; exact hy e.1), rest_join _ fun z hz => (h z hz).1]
theorem names_of (p : List UInt8) (t : List UInt8) (h : p = 47 :: t) : joinT (namesL p) = p ∧ ((namesL p).length = 0 ↔ p = [47]) := by
  unfold namesL
  by_cases hp : p = [47]
  · rw [if_pos hp, hp]; exact ⟨rfl, by simp⟩
  · rw [if_neg hp]
    have h1 := join_rest p.length p (Nat.le_refl _) (Or.inr ⟨t, h⟩)
    have h2 : restN p ≠ [] := by rw [h]; exact cutB_ne t
    refine ⟨by rw [joinT_ne h2, h1], ?_⟩
    constructor
    · intro h3; exact absurd (List.eq_nil_of_length_eq_zero h3) h2
    · intro h3; exact absurd h3 hp

theorem name_ok {y : List UInt8} (h : nameF (mkB y) = 0) : noSlash y ∧ y ≠ [] := by
  unfold nameF at h
  rw [mkB_size, mkB_list] at h
  by_cases h0 : y.length = 0
  · rw [if_pos h0] at h; simp at h
  · rw [if_neg h0] at h
    by_cases ha : y.all byB = true
    · refine ⟨fun b hb e => ?_, fun e => h0 (by rw [e]; rfl)⟩
      have h1 := List.all_eq_true.1 ha b hb
      rw [e] at h1
      exact absurd h1 (by decide)
    · rw [if_neg ha] at h; simp at h
theorem names_all {xs : List (List UInt8)} (h : namesF xs = 0) : ∀ y ∈ xs, nameF (mkB y) = 0 := by
  induction xs with
  | nil => intro y hy; simp at hy
  | cons x t ih =>
    intro y hy
    unfold namesF at h
    by_cases h0 : nameF (mkB x) = 0
    · rw [if_pos h0] at h
      rcases List.mem_cons.1 hy with rfl | hy
      · exact h0
      · exact ih h y hy
    · rw [if_neg h0] at h; exact absurd h h0
theorem path_head {p : List UInt8} (h : pathF p = 0) : (∃ t, p = 47 :: t) ∧ p.length ≤ 30 := by
  unfold pathF at h
  split at h
  · simp at h
  · rename_i h30
    split at h
    · rename_i hp
      cases p with
      | nil => simp [preB] at hp
      | cons b t =>
        have hb : b = 47 := by simpa [preB] using hp
        exact ⟨⟨t, by rw [hb]⟩, by omega⟩
    · simp at h
theorem join_last : ∀ ys : List (List UInt8), ys ≠ [] → (∀ y ∈ ys, noSlash y ∧ y ≠ []) → ∃ b, (joinL ys).getLast? = some b ∧ b ≠ 47
  | [], h, _ => absurd rfl h
  | [y], _, hy => by
    obtain ⟨h1, h2⟩ := hy y (by simp)
    have h3 : joinL [y] = 47 :: y := by rw [joinL_cons]; simp [joinL]
    rw [h3]
    refine ⟨y.getLast h2, ?_, h1 _ (List.getLast_mem h2)⟩
    cases y with
    | nil => exact absurd rfl h2
    | cons b t => simp [List.getLast?_eq_some_getLast]
  | y :: z :: r, _, hy => by
    obtain ⟨b, hb, hn⟩ := join_last (z :: r) (by simp) fun q hq => hy q (by simp at hq ⊢; exact Or.inr hq)
    refine ⟨b, ?_, hn⟩
    have h3 : joinL (y :: z :: r) = (47 :: y) ++ joinL (z :: r) := rfl
    rw [h3, List.getLast?_append, hb]
    rfl
theorem joinL_take (xs : List (List UInt8)) (m : Nat) : (joinL (xs.take m)).length ≤ (joinL xs).length := by
  have h : joinL xs = joinL (xs.take m) ++ joinL (xs.drop m) := by
    conv => lhs; rw [← List.take_append_drop m xs]
    unfold joinL
    rw [List.flatMap_append]
  rw [h, List.length_append]
  omega
/-- The parent's text is a path, and its names are those ahead of the last. -/
theorem par_ok {p : List UInt8} (h : pathF p = 0) (m : Nat) : pathF (joinT ((namesL p).take m)) = 0 ∧ namesL (joinT ((namesL p).take m)) = (namesL p).take m := by
  obtain ⟨⟨t, ht⟩, h30⟩ := path_head h
  obtain ⟨h6, hnf⟩ := path_ok h
  have hj := (names_of p t ht).1
  have hall : ∀ y ∈ (namesL p).take m, noSlash y ∧ y ≠ [] := fun y hy => name_ok (names_all hnf y (List.mem_of_mem_take hy))
  have hN := names_join _ hall
  refine ⟨?_, hN⟩
  have hnt := names_take hnf m
  have hlt : ((namesL p).take m).length ≤ 6 := by rw [List.length_take]; omega
  have h1 : (joinT ((namesL p).take m)).length ≤ 30 ∧ preB (joinT ((namesL p).take m)) = true ∧ ¬ (sufB (joinT ((namesL p).take m)) = true ∧ topB (joinT ((namesL p).take m)) = false) := by
    by_cases he : (namesL p).take m = []
    · rw [he]; exact ⟨by decide, by decide, by decide⟩
    · have hpn : namesL p ≠ [] := fun e => he (by rw [e]; simp)
      rw [joinT_ne he]
      rw [joinT_ne hpn] at hj
      refine ⟨?_, ?_, ?_⟩
      · have := joinL_take (namesL p) m; rw [hj] at this; omega
      · rcases joinL_head ((namesL p).take m) with e | ⟨r, e⟩
        · cases hq : (namesL p).take m with
          | nil => exact absurd hq he
          | cons y ys => rw [hq, joinL_cons] at e; simp at e
        · rw [e]; simp [preB]
      · rintro ⟨hs, _⟩
        obtain ⟨b, hb, hne⟩ := join_last _ he hall
        unfold sufB at hs
        rw [hb] at hs
        exact hne (by simpa using hs)
  unfold pathF
  rw [if_neg (by omega), if_pos h1.2.1, if_neg h1.2.2, hN, if_neg (by omega)]
  exact hnt
end Go.Proofs.YtpfafcodihhdfaaGreatDoor

namespace Go.Proofs.YtpfafcodihhdfaaGreatDoor
open Go.RowKit
set_option maxRecDepth 100000

theorem getD_mem {α : Type} {xs : List α} {i : Nat} (x : α) (h : i < xs.length) : xs[i]?.getD x ∈ xs := by
  rw [List.getElem?_eq_getElem h]
  exact List.getElem_mem h
theorem par_in {d : FD} {p : List UInt8} (hf : fsF d = 0) (h : (parR d p).1 = 0) : ∃ j : Nat, (parR d p).2 = (j : Int) ∧ dirQ d (j : Int) = 0 ∧ nameF (lnmP d p) = 0 ∧ lnmP d p = mkB (lastT p) := by
  have hok := fsE_ok (fsF_E hf)
  have hl : lnmP d p = mkB ((splitL p)[(splitL p).length - 1]?.getD []) := if_pos h
  unfold parR at h ⊢
  by_cases hp : pathF p = 0
  · rw [if_pos hp] at h ⊢
    have hs : splitL p = namesL p := if_pos hp
    by_cases h0 : (splitL p).length = 0
    · rw [if_pos h0] at h; exact absurd h (by decide)
    · rw [if_neg h0] at h ⊢
      generalize hr : wkR d.1 0 ((splitL p).take ((splitL p).length - 1)) = r at h ⊢
      unfold dirK at h ⊢
      by_cases hr0 : r.1 = 0
      · rw [if_pos hr0] at h ⊢
        by_cases hk : kindAt d.1 r.2.toNat = 2
        · rw [if_pos hk]
          obtain ⟨y, hy, hlt⟩ := wkR_lt hok.rng _ 0 hok.pos (by rw [hr]; exact hr0)
          rw [hr] at hy
          refine ⟨y, hy, ?_, ?_, ?_⟩
          · unfold dirQ
            rw [if_pos (fsF_E hf), if_pos ⟨by omega, by omega⟩, if_pos]
            rw [Int.toNat_natCast]; rw [hy, Int.toNat_natCast] at hk; exact hk
          · rw [hl, hs]; exact names_all (path_ok hp).2 _ (getD_mem _ (by rw [hs] at h0; omega))
          · rw [hl]; unfold lastT; rw [if_pos hp, hs]
        · rw [if_neg hk] at h; exact absurd h (by decide)
      · rw [if_neg hr0] at h; exact absurd h hr0
  · rw [if_neg hp] at h; exact absurd h hp
/-- LinkPath behind the FsFault; LinkPath. -/
def linkQ (d : FD) (s t : ByteArray) : Int × CRD := if (fileR d s).1 = 0 then (if (wparR d t).1 = 0 then (if (addR d (wparR d t).2 (mkB (lastT t.data.toList)) (fileR d s).2).1 = 0 then (0, 0, 0, [], [], (addR d (wparR d t).2 (mkB (lastT t.data.toList)) (fileR d s).2).2) else stayR d (addR d (wparR d t).2 (mkB (lastT t.data.toList)) (fileR d s).2).1) else stayR d (wparR d t).1) else stayR d (fileR d s).1
def linkR (d : FD) (s t : ByteArray) : Int × CRD := if fsF d = 0 then linkQ d s t else noCR (fsF d)
theorem lastT_size (p : List UInt8) (_hp : p.length ≤ 1048576) : (mkB (lastT p)).size ≤ 1048576 := by
  unfold lastT
  by_cases h : pathF p = 0
  · rw [if_pos h]
    by_cases h0 : (namesL p).length = 0
    · have : namesL p = [] := List.length_eq_zero_iff.1 h0
      rw [this]; simp [mkB, ByteArray.size]
    · have := (nameF_size (names_all (path_ok h).2 _ (getD_mem (i := (namesL p).length - 1) [] (by omega)))).1
      omega
  · rw [if_neg h]; simp [mkB, ByteArray.size]

theorem field_txt1 (z : Int) (s : ByteArray) (w : World) : (Instr.field 97 (.agg #[.int .i64 z, .string s]) 1).run Tryz.prog w = .ok (.string s) w := by kernel_rfl
/-- What a function that answers a code and a file system left in a box. -/
def AddedS (W wx : World) (r : Int × FD) (g : Nat) (a5 : Option Addr) (n5 c5 : Nat) (a6 : Option Addr) (n6 c6 : Nat) : Prop := Below W.heap.size W wx ∧ W.heap.size ≤ g ∧ Bx wx g [.int .i64 r.1, .slice a5 n5 c5, .slice a6 n6 c6] ∧ FsU wx (.slice a5 n5 c5) (.slice a6 n6 c6) r.2 (fun b => W.heap.size ≤ b ∧ b < wx.heap.size ∧ b ≠ g)
theorem AddedS.after {W W4 w5 : World} {r : Int × FD} {a5 : Option Addr} {n5 c5 : Nat} {a6 : Option Addr} {n6 c6 : Nat} (h4 : Below W.heap.size W W4) (h5 : Below W4.heap.size W4 w5) (hf : FsU w5 (.slice a5 n5 c5) (.slice a6 n6 c6) r.2 (fresh W4 w5)) (t : TypeId) : AddedS W (w5.alloc (.cells #[.int .i64 r.1, .slice a5 n5 c5, .slice a6 n6 c6] t)) r w5.heap.size a5 n5 c5 a6 n6 c6 :=
  have hb : Below W.heap.size W w5 := h4.trans (h5.mono h4.size)
  ⟨hb.trans ((later1 _ _).mono hb.size), hb.size, Bx.new w5 [.int .i64 r.1, .slice a5 n5 c5, .slice a6 n6 c6] t, (hf.later (later1 _ _)).mono fun b hh => ⟨by have := hh.1; have := h4.size; omega, by have := hh.2; simp; omega, by have := hh.2; omega⟩⟩
theorem AddedS.ahead {W W4 w5 : World} {r : Int × FD} {g : Nat} {a5 : Option Addr} {n5 c5 : Nat} {a6 : Option Addr} {n6 c6 : Nat} (h4 : Below W.heap.size W W4) (hg : W.heap.size ≤ g) (hr : OwnRow W4 g 3 (cel zero3)) (h5 : Below W4.heap.size W4 w5) (hf : FsU w5 (.slice a5 n5 c5) (.slice a6 n6 c6) r.2 (fresh W4 w5)) : AddedS W (((w5.setCell ⟨g, 0, none⟩ (.int .i64 r.1)).setCell ⟨g, 1, none⟩ (.slice a5 n5 c5)).setCell ⟨g, 2, none⟩ (.slice a6 n6 c6)) r g a5 n5 c5 a6 n6 c6 := by
  have hb : Below W.heap.size W w5 := h4.trans (h5.mono h4.size)
  have hlt := hr.lt
  have hrow := (((hr.later h5).set 0 (.int .i64 r.1)).set 1 (.slice a5 n5 c5)).set 2 (.slice a6 n6 c6)
  refine ⟨((hb.setCell hg _).setCell hg _).setCell hg _, hg, ?_, (hf.keep fun b hh _ => ?_).mono fun b hh => ⟨by have := hh.1; have := h4.size; omega, by have := hh.2; simp only [World.setCell, Array.size_modify]; omega, by have := hh.1; omega⟩⟩
  · intro i v hv
    match i, hv with
    | 0, hv => cases hv; exact hrow.cell (i := 0) (by omega)
    | 1, hv => cases hv; exact hrow.cell (i := 1) (by omega)
    | 2, hv => cases hv; exact hrow.cell (i := 2) (by omega)
  · have : b ≠ g := by have := hh.1; omega
    rw [Below.heap_setCell _ _ _ _ this, Below.heap_setCell _ _ _ _ this, Below.heap_setCell _ _ _ _ this]

set_option maxHeartbeats 12800000 in
theorem implLinkU (w : World) (a1 : Option Addr) (n1 c1 : Nat) (a2 : Option Addr) (n2 c2 : Nat) (d : FD) (s t : ByteArray) (h : FsR w (.slice a1 n1 c1) (.slice a2 n2 c2) d) (hs : sizeFs d ≤ 1048576) (hl : s.size ≤ 1048576) (ht : t.size ≤ 1048576) (hgl : Gl w) :
    Calls Tryz.prog 29 #[.agg #[.slice a1 n1 c1, .slice a2 n2 c2], .string s, .string t] w (AnsCR w (linkR d s t)) := by
  have HB0 : Hid (Below w.heap.size w ((w.alloc (.cells #[.slice a1 n1 c1, .slice a2 n2 c2] 32)).alloc (.cells #[.int .i64 0, .int .i64 0, .int .i64 0, .slice none 0 0, .slice none 0 0, .slice none 0 0, .slice none 0 0] 44))) := later2 _ _ _
  have HX0 : Hid (Bx ((w.alloc (.cells #[.slice a1 n1 c1, .slice a2 n2 c2] 32)).alloc (.cells #[.int .i64 0, .int .i64 0, .int .i64 0, .slice none 0 0, .slice none 0 0, .slice none 0 0, .slice none 0 0] 44)) w.heap.size [.slice a1 n1 c1, .slice a2 n2 c2]) := (Bx.new w [.slice a1 n1 c1, .slice a2 n2 c2] _).later (later1 _ _)
  have HR0 : Hid (OwnRow ((w.alloc (.cells #[.slice a1 n1 c1, .slice a2 n2 c2] 32)).alloc (.cells #[.int .i64 0, .int .i64 0, .int .i64 0, .slice none 0 0, .slice none 0 0, .slice none 0 0, .slice none 0 0] 44)) (w.heap.size + 1) 7 (cel zero7)) := by
    have p2 := row7 (w.alloc (.cells #[.slice a1 n1 c1, .slice a2 n2 c2] 32)) 44
    rw [World.size_alloc] at p2
    exact p2
  have hsp : t.data.toList.length = t.size := Array.length_toList
  have HF : Hid (∀ W, Below w.heap.size w W → Calls Tryz.prog 44 #[.agg #[.slice a1 n1 c1, .slice a2 n2 c2]] W fun e w' => e = .returned (.int .i64 (fsF d)) ∧ Below W.heap.size W w') := fun W hW => implFsU W _ _ _ _ _ _ d (h.later hW) hs
  have HFA : Hid (∀ W, Below w.heap.size w W → Calls Tryz.prog 64 #[.agg #[.slice a1 n1 c1, .slice a2 n2 c2], .string s] W fun e w' => e = .returned (.agg #[.int .i64 (fileR d s).1, .int .i64 (fileR d s).2]) ∧ Below W.heap.size W w') := fun W hW => fileAt_any W _ _ _ _ _ _ d s (h.later hW) hs hl (hgl.later hW)
  have HWP : Hid (∀ W, Below w.heap.size w W → Calls Tryz.prog 65 #[.agg #[.slice a1 n1 c1, .slice a2 n2 c2], .string t] W fun e w' => e = .returned (.agg #[.int .i64 (wparR d t).1, .int .i64 (wparR d t).2]) ∧ Below W.heap.size W w') := fun W hW => implParentU W _ _ _ _ _ _ d t (h.later hW) hs ht (hgl.later hW)
  have HLO : Hid (∀ W, Calls Tryz.prog 67 #[.string t] W fun e w' => e = .returned (.agg #[.int .i64 (lastC t.data.toList), .string (mkB (lastT t.data.toList))]) ∧ Below W.heap.size W w') := fun W => by
    have := implLast_any W t.data.toList (by omega)
    rw [mkB_data] at this
    exact this
  have HAD : Hid (∀ W x y, Below w.heap.size w W → Calls Tryz.prog 66 #[.agg #[.slice a1 n1 c1, .slice a2 n2 c2], .int .i64 x, .string (mkB (lastT t.data.toList)), .int .i64 y] W (AnsFR W (addR d x (mkB (lastT t.data.toList)) y))) := fun W x y hW => implAddU W _ _ _ _ _ _ d x _ y (h.later hW) hs (lastT_size _ (by omega))
  have HSD : Hid (fsF d = 0 → ∀ W c, Below w.heap.size w W → Calls Tryz.prog 59 #[.agg #[.slice a1 n1 c1, .slice a2 n2 c2], .int .i64 c] W (AnsCR W (stayR d c))) := fun hf W c hW => stayed_any W _ _ _ _ _ _ d c (h.later hW) hs (by have := (fsE_ok (fsF_E hf)).dat; omega)
  have HRR : Hid (linkR d s t = if fsF d = 0 then linkQ d s t else noCR (fsF d)) := rfl
  have HRQ : Hid (linkQ d s t = if (fileR d s).1 = 0 then (if (wparR d t).1 = 0 then (if (addR d (wparR d t).2 (mkB (lastT t.data.toList)) (fileR d s).2).1 = 0 then (0, 0, 0, [], [], (addR d (wparR d t).2 (mkB (lastT t.data.toList)) (fileR d s).2).2) else stayR d (addR d (wparR d t).2 (mkB (lastT t.data.toList)) (fileR d s).2).1) else stayR d (wparR d t).1) else stayR d (fileR d s).1) := rfl
  obtain ⟨RES, hRES⟩ : ∃ r, linkR d s t = r := ⟨_, rfl⟩
  have HRES : Hid (linkR d s t = RES) := hRES
  rw [hRES]
  clear hRES h hs hl ht hgl hsp
  generalize fileR d s = fr at *
  generalize wparR d t = pr at *
  generalize mkB (lastT t.data.toList) = nm at *
  generalize lastC t.data.toList = lc at *
  obtain ⟨fc, fv⟩ := fr
  obtain ⟨pc, pv⟩ := pr
  dsimp only at HFA HWP HRQ
  by_cases hf : fsF d = 0
  rotate_left
  · have HE : Hid (RES = noCR (fsF d)) := by unfold Hid; rw [← HRES.out, HRR.out, if_neg hf]
    have hfb : (fsF d != 0) = true := by simpa using hf
    clear HRR HRES HRQ HSD hf
    generalize fsF d = r at *
    go_enter Tryz.func29, Tryz.ntmps29
    go_wp2_with fail
    generalize ((w.alloc (.cells #[.slice a1 n1 c1, .slice a2 n2 c2] 32)).alloc (.cells #[.int .i64 0, .int .i64 0, .int .i64 0, .slice none 0 0, .slice none 0 0, .slice none 0 0, .slice none 0 0] 44)) = W0 at *
    refine (HF.out _ HB0.out).mono ?_
    rintro e w1 ⟨rfl, hb1⟩
    have HB1 : Hid (Below w.heap.size w w1) := HB0.out.trans (hb1.mono HB0.out.size)
    have hrr := HR0.out.later hb1
    have hlw : w.heap.size + 1 < w1.heap.size := hrr.lt
    have t0 : w1.cell? ⟨w.heap.size + 1, 0, none⟩ = some (.int .i64 0) := hrr.cell (i := 0) (by omega)
    have t1 : w1.cell? ⟨w.heap.size + 1, 1, none⟩ = some (.int .i64 0) := hrr.cell (i := 1) (by omega)
    have t2 : w1.cell? ⟨w.heap.size + 1, 2, none⟩ = some (.int .i64 0) := hrr.cell (i := 2) (by omega)
    have t3 : w1.cell? ⟨w.heap.size + 1, 3, none⟩ = some (.slice none 0 0) := hrr.cell (i := 3) (by omega)
    have t4 : w1.cell? ⟨w.heap.size + 1, 4, none⟩ = some (.slice none 0 0) := hrr.cell (i := 4) (by omega)
    have t5 : w1.cell? ⟨w.heap.size + 1, 5, none⟩ = some (.slice none 0 0) := hrr.cell (i := 5) (by omega)
    have t6 : w1.cell? ⟨w.heap.size + 1, 6, none⟩ = some (.slice none 0 0) := hrr.cell (i := 6) (by omega)
    have s0 := hrr.frozen 0
    have s1 := hrr.frozen 1
    have s2 := hrr.frozen 2
    have s3 := hrr.frozen 3
    have s4 := hrr.frozen 4
    have s5 := hrr.frozen 5
    have s6 := hrr.frozen 6
    clear hb1 hrr
    go_wp2
    exact bodyPost_ret (v := .agg #[.int .i64 r, .int .i64 0, .int .i64 0, .slice none 0 0, .slice none 0 0, .slice none 0 0, .slice none 0 0]) (by simp [results, Tryz.results29, go_sem, t0, t1, t2, t3, t4, t5, t6]) rfl (by rw [HE.out]; exact AnsCR.no r HB1.out (by omega) _ _ _ _ _ _ _)
  · have HEQ : Hid (RES = linkQ d s t) := by unfold Hid; rw [← HRES.out, HRR.out, if_pos hf]
    have HST : Hid (∀ W c, Below w.heap.size w W → Calls Tryz.prog 59 #[.agg #[.slice a1 n1 c1, .slice a2 n2 c2], .int .i64 c] W (AnsCR W (stayR d c))) := HSD.out hf
    rw [HRQ.out] at HEQ
    rw [hf] at HF
    clear HRR HRES HRQ HSD hf
    go_enter Tryz.func29, Tryz.ntmps29
    go_wp2_with fail
    generalize ((w.alloc (.cells #[.slice a1 n1 c1, .slice a2 n2 c2] 32)).alloc (.cells #[.int .i64 0, .int .i64 0, .int .i64 0, .slice none 0 0, .slice none 0 0, .slice none 0 0, .slice none 0 0] 44)) = W0 at *
    refine (HF.out _ HB0.out).mono ?_
    rintro e w1 ⟨rfl, hb⟩
    have HB1 : Hid (Below w.heap.size w w1) := HB0.out.trans (hb.mono HB0.out.size)
    have HR1 : Hid (OwnRow w1 (w.heap.size + 1) 7 (cel zero7)) := HR0.out.later hb
    have HX1 : Hid (Bx w1 w.heap.size [.slice a1 n1 c1, .slice a2 n2 c2]) := HX0.out.later hb
    clear hb
    have x0 := HX1.out 0 _ rfl
    have x1 := HX1.out 1 _ rfl
    go_wp2_with fail
    clear x0 x1 
    refine (HFA.out _ HB1.out).mono ?_
    rintro e w2 ⟨rfl, hb⟩
    have hb' : Below w1.heap.size w1 (w2.alloc (.cells #[.int .i64 fc, .int .i64 fv] 72)) := hb.trans ((later1 _ _).mono hb.size)
    have HB2 : Hid (Below w.heap.size w (w2.alloc (.cells #[.int .i64 fc, .int .i64 fv] 72))) := HB1.out.trans (hb'.mono HB1.out.size)
    have HR2 : Hid (OwnRow (w2.alloc (.cells #[.int .i64 fc, .int .i64 fv] 72)) (w.heap.size + 1) 7 (cel zero7)) := HR1.out.later hb'
    have HX2 : Hid (Bx (w2.alloc (.cells #[.int .i64 fc, .int .i64 fv] 72)) w.heap.size [.slice a1 n1 c1, .slice a2 n2 c2]) := HX1.out.later hb'
    have HP2 : Hid (Bx (w2.alloc (.cells #[.int .i64 fc, .int .i64 fv] 72)) w2.heap.size [.int .i64 fc, .int .i64 fv]) := Bx.new w2 [.int .i64 fc, .int .i64 fv] _
    have hz2 : w.heap.size + 1 < w2.heap.size := (HR1.out.later hb).lt
    clear hb hb'
    have x0 := HX2.out 0 _ rfl
    have x1 := HX2.out 1 _ rfl
    have qHP0 := HP2.out 0 _ rfl
    have qHP1 := HP2.out 1 _ rfl
    by_cases hfc : fc = 0
    rotate_left
    · have hfb : (fc != 0) = true := by simpa using hfc
      have HE : Hid (RES = stayR d fc) := by unfold Hid; rw [HEQ.out, if_neg hfc]
      clear hfc
      clear x0 x1 qHP0 qHP1
      have x0 := HX2.out 0 _ rfl
      have x1 := HX2.out 1 _ rfl
      have qHP0 := HP2.out 0 _ rfl
      have qHP1 := HP2.out 1 _ rfl
      go_wp2_with fail
      clear x0 x1 qHP0 qHP1
      refine (HST.out _ fc HB2.out).mono ?_
      rintro e u ⟨y1, y2, b3, m3, k3, b4, m4, k4, b5, m5, k5, b6, m6, k6, rfl, hb, hu⟩
      have hrr := HR2.out.later hb
      have hlr : w.heap.size + 1 < (w2.alloc (.cells #[.int .i64 fc, .int .i64 fv] 72)).heap.size := HR2.out.lt
      have HBU : Hid (Below (w2.alloc (.cells #[.int .i64 fc, .int .i64 fv] 72)).heap.size (w2.alloc (.cells #[.int .i64 fc, .int .i64 fv] 72)) u) := hb
      have HCU : Hid (CResU u (.int .i64 y1) (.int .i64 y2) (.slice b3 m3 k3) (.slice b4 m4 k4) (.slice b5 m5 k5) (.slice b6 m6 k6) (stayR d fc).2 (fresh (w2.alloc (.cells #[.int .i64 fc, .int .i64 fv] 72)) u)) := hu
      have t0 : u.cell? ⟨w.heap.size + 1, 0, none⟩ = some (.int .i64 0) := hrr.cell (i := 0) (by omega)
      have t1 : u.cell? ⟨w.heap.size + 1, 1, none⟩ = some (.int .i64 0) := hrr.cell (i := 1) (by omega)
      have t2 : u.cell? ⟨w.heap.size + 1, 2, none⟩ = some (.int .i64 0) := hrr.cell (i := 2) (by omega)
      have t3 : u.cell? ⟨w.heap.size + 1, 3, none⟩ = some (.slice none 0 0) := hrr.cell (i := 3) (by omega)
      have t4 : u.cell? ⟨w.heap.size + 1, 4, none⟩ = some (.slice none 0 0) := hrr.cell (i := 4) (by omega)
      have t5 : u.cell? ⟨w.heap.size + 1, 5, none⟩ = some (.slice none 0 0) := hrr.cell (i := 5) (by omega)
      have t6 : u.cell? ⟨w.heap.size + 1, 6, none⟩ = some (.slice none 0 0) := hrr.cell (i := 6) (by omega)
      have s0 := hrr.frozen 0
      have s1 := hrr.frozen 1
      have s2 := hrr.frozen 2
      have s3 := hrr.frozen 3
      have s4 := hrr.frozen 4
      have s5 := hrr.frozen 5
      have s6 := hrr.frozen 6
      clear hb hu hrr
      go_wp2
      exact bodyPost_ret (v := .agg #[.int .i64 (stayR d fc).1, .int .i64 y1, .int .i64 y2, .slice b3 m3 k3, .slice b4 m4 k4, .slice b5 m5 k5, .slice b6 m6 k6]) (by simp [results, Tryz.results29, go_sem, t0, t1, t2, t3, t4, t5, t6]) rfl (by rw [HE.out]; exact AnsCR.pass HB2.out (by omega) hlr HBU.out HCU.out _ _ _ _ _ _ _)
    · have hfb : (fc != 0) = false := by simpa using hfc
      rw [if_pos hfc] at HEQ
      clear hfc
      go_wp2_with fail
      generalize (w2.alloc (.cells #[.int .i64 fc, .int .i64 fv] 72)) = W2 at *
      clear x0 x1 qHP0 qHP1 hfb
      refine (HWP.out _ HB2.out).mono ?_
      rintro e w3 ⟨rfl, hb⟩
      have hb' : Below W2.heap.size W2 (w3.alloc (.cells #[.int .i64 pc, .int .i64 pv] 72)) := hb.trans ((later1 _ _).mono hb.size)
      have HB3 : Hid (Below w.heap.size w (w3.alloc (.cells #[.int .i64 pc, .int .i64 pv] 72))) := HB2.out.trans (hb'.mono HB2.out.size)
      have HR3 : Hid (OwnRow (w3.alloc (.cells #[.int .i64 pc, .int .i64 pv] 72)) (w.heap.size + 1) 7 (cel zero7)) := HR2.out.later hb'
      have HX3 : Hid (Bx (w3.alloc (.cells #[.int .i64 pc, .int .i64 pv] 72)) w.heap.size [.slice a1 n1 c1, .slice a2 n2 c2]) := HX2.out.later hb'
      have HP3 : Hid (Bx (w3.alloc (.cells #[.int .i64 pc, .int .i64 pv] 72)) w2.heap.size [.int .i64 fc, .int .i64 fv]) := HP2.out.later hb'
      have HQ3 : Hid (Bx (w3.alloc (.cells #[.int .i64 pc, .int .i64 pv] 72)) w3.heap.size [.int .i64 pc, .int .i64 pv]) := Bx.new w3 [.int .i64 pc, .int .i64 pv] _
      have hz3 : w.heap.size + 1 < w3.heap.size := (HR2.out.later hb).lt
      clear hb hb'
      have x0 := HX3.out 0 _ rfl
      have x1 := HX3.out 1 _ rfl
      have qHP0 := HP3.out 0 _ rfl
      have qHP1 := HP3.out 1 _ rfl
      have qHQ0 := HQ3.out 0 _ rfl
      have qHQ1 := HQ3.out 1 _ rfl
      by_cases hpc : pc = 0
      rotate_left
      · have hpb : (pc != 0) = true := by simpa using hpc
        have HE : Hid (RES = stayR d pc) := by unfold Hid; rw [HEQ.out, if_neg hpc]
        clear hpc
        clear x0 x1 qHP0 qHP1 qHQ0 qHQ1
        have x0 := HX3.out 0 _ rfl
        have x1 := HX3.out 1 _ rfl
        have qHP0 := HP3.out 0 _ rfl
        have qHP1 := HP3.out 1 _ rfl
        have qHQ0 := HQ3.out 0 _ rfl
        have qHQ1 := HQ3.out 1 _ rfl
        go_wp2_with fail
        clear x0 x1 qHP0 qHP1 qHQ0 qHQ1
        refine (HST.out _ pc HB3.out).mono ?_
        rintro e u ⟨y1, y2, b3, m3, k3, b4, m4, k4, b5, m5, k5, b6, m6, k6, rfl, hb, hu⟩
        have hrr := HR3.out.later hb
        have hlr : w.heap.size + 1 < (w3.alloc (.cells #[.int .i64 pc, .int .i64 pv] 72)).heap.size := HR3.out.lt
        have HBU : Hid (Below (w3.alloc (.cells #[.int .i64 pc, .int .i64 pv] 72)).heap.size (w3.alloc (.cells #[.int .i64 pc, .int .i64 pv] 72)) u) := hb
        have HCU : Hid (CResU u (.int .i64 y1) (.int .i64 y2) (.slice b3 m3 k3) (.slice b4 m4 k4) (.slice b5 m5 k5) (.slice b6 m6 k6) (stayR d pc).2 (fresh (w3.alloc (.cells #[.int .i64 pc, .int .i64 pv] 72)) u)) := hu
        have t0 : u.cell? ⟨w.heap.size + 1, 0, none⟩ = some (.int .i64 0) := hrr.cell (i := 0) (by omega)
        have t1 : u.cell? ⟨w.heap.size + 1, 1, none⟩ = some (.int .i64 0) := hrr.cell (i := 1) (by omega)
        have t2 : u.cell? ⟨w.heap.size + 1, 2, none⟩ = some (.int .i64 0) := hrr.cell (i := 2) (by omega)
        have t3 : u.cell? ⟨w.heap.size + 1, 3, none⟩ = some (.slice none 0 0) := hrr.cell (i := 3) (by omega)
        have t4 : u.cell? ⟨w.heap.size + 1, 4, none⟩ = some (.slice none 0 0) := hrr.cell (i := 4) (by omega)
        have t5 : u.cell? ⟨w.heap.size + 1, 5, none⟩ = some (.slice none 0 0) := hrr.cell (i := 5) (by omega)
        have t6 : u.cell? ⟨w.heap.size + 1, 6, none⟩ = some (.slice none 0 0) := hrr.cell (i := 6) (by omega)
        have s0 := hrr.frozen 0
        have s1 := hrr.frozen 1
        have s2 := hrr.frozen 2
        have s3 := hrr.frozen 3
        have s4 := hrr.frozen 4
        have s5 := hrr.frozen 5
        have s6 := hrr.frozen 6
        clear hb hu hrr
        go_wp2
        exact bodyPost_ret (v := .agg #[.int .i64 (stayR d pc).1, .int .i64 y1, .int .i64 y2, .slice b3 m3 k3, .slice b4 m4 k4, .slice b5 m5 k5, .slice b6 m6 k6]) (by simp [results, Tryz.results29, go_sem, t0, t1, t2, t3, t4, t5, t6]) rfl (by rw [HE.out]; exact AnsCR.pass HB3.out (by omega) hlr HBU.out HCU.out _ _ _ _ _ _ _)
      · have hpb : (pc != 0) = false := by simpa using hpc
        rw [if_pos hpc] at HEQ
        clear hpc
        go_wp2_with fail
        generalize (w3.alloc (.cells #[.int .i64 pc, .int .i64 pv] 72)) = W3 at *
        have HAN : Hid (∀ W, Below W3.heap.size W3 W → Calls Tryz.prog 66 #[.agg #[.slice a1 n1 c1, .slice a2 n2 c2], .int .i64 pv, .string nm, .int .i64 fv] W (AnsFR W (addR d pv nm fv))) := fun W hW => HAD.out W pv fv (HB3.out.trans (hW.mono HB3.out.size))
        obtain ⟨ar, har⟩ : ∃ r, addR d pv nm fv = r := ⟨_, rfl⟩
        rw [har] at HAN HEQ
        clear har HAD hpb
        clear x0 x1 qHP0 qHP1 qHQ0 qHQ1
        have HA1 : Hid (Below W3.heap.size W3 W3.drew) := (Below.refl _ _).drew
        have HA2 : Hid (Below W3.heap.size W3 (W3.drew.alloc (.cells #[.int .i64 0, .slice none 0 0, .slice none 0 0] 94))) := (Below.refl _ _).drew.trans (later1 W3.drew _)
        have HZ2 : Hid (OwnRow (W3.drew.alloc (.cells #[.int .i64 0, .slice none 0 0, .slice none 0 0] 94)) W3.heap.size 3 (cel zero3)) := row3 W3.drew _
        have HLX : Hid (∀ W, Below W3.heap.size W3 W → W.cell? ⟨w.heap.size, 0, none⟩ = some (.slice a1 n1 c1) ∧ W.cell? ⟨w.heap.size, 1, none⟩ = some (.slice a2 n2 c2) ∧ W.cell? ⟨w3.heap.size, 1, none⟩ = some (.int .i64 pv) ∧ W.cell? ⟨w2.heap.size, 1, none⟩ = some (.int .i64 fv)) := fun W hW => ⟨(HX3.out.later hW) 0 _ rfl, (HX3.out.later hW) 1 _ rfl, (HQ3.out.later hW) 1 _ rfl, (HP3.out.later hW) 1 _ rfl⟩
        have hq3 : w3.heap.size < W3.heap.size := HQ3.out.lt
        have hp3 : w2.heap.size < W3.heap.size := HP3.out.lt
        have hx3 : w.heap.size < W3.heap.size := HX3.out.lt
        obtain ⟨l0, l1, l2, l3⟩ := HLX.out W3 (Below.refl _ _)
        have mq0 : w.heap.size ≠ W3.heap.size := by omega
        have mp0 : W3.heap.size ≠ w.heap.size := by omega
        have mq2 : w2.heap.size ≠ W3.heap.size := by omega
        have mp2 : W3.heap.size ≠ w2.heap.size := by omega
        have mq3 : w3.heap.size ≠ W3.heap.size := by omega
        have mp3 : W3.heap.size ≠ w3.heap.size := by omega
        go_cut [10] from 37 (fun s10 wx => ∃ g a5 n5 c5 a6 n6 c6, s10 = .pointer (some ⟨g, 0, none⟩) ∧ AddedS W3 wx ar g a5 n5 c5 a6 n6 c6)
        case first =>
          have hft := field_txt1
          go_wp2_with fail
          go_region_held3 (fun W => W.cell? ⟨w.heap.size, 0, none⟩ = some (.slice a1 n1 c1) ∧ W.cell? ⟨w.heap.size, 1, none⟩ = some (.slice a2 n2 c2) ∧ W.cell? ⟨w3.heap.size, 1, none⟩ = some (.int .i64 pv) ∧ W.cell? ⟨w2.heap.size, 1, none⟩ = some (.int .i64 fv)) (go_keep) (first
            | (go_at_call 67; refine (HLO.out W3.drew).mono ?_; rintro e w4 ⟨rfl, hb4⟩
               have HB4 : Hid (Below W3.heap.size W3 w4) := HA1.out.trans (hb4.mono HA1.out.size)
               obtain ⟨k0, k1, k2, k3⟩ := HLX.out w4 HB4.out
               clear hb4)
            | (go_at_call 67; refine (HLO.out (W3.drew.alloc (.cells #[.int .i64 0, .slice none 0 0, .slice none 0 0] 94))).mono ?_; rintro e w4 ⟨rfl, hb4⟩
               have HB4 : Hid (Below W3.heap.size W3 w4) := HA2.out.trans (hb4.mono HA2.out.size)
               have HRZ : Hid (OwnRow w4 W3.heap.size 3 (cel zero3)) := HZ2.out.later hb4
               obtain ⟨k0, k1, k2, k3⟩ := HLX.out w4 HB4.out
               clear hb4)
            | (go_at_call 66; refine (HAN.out w4 HB4.out).mono ?_; rintro e w5 ⟨a5, n5, c5, a6, n6, c6, rfl, hb5, hf5⟩
               obtain ⟨j0, j1, j2, j3⟩ := HLX.out w5 (HB4.out.trans (hb5.mono HB4.out.size))
               have HPA : Hid (∀ t, AddedS W3 (w5.alloc (.cells #[.int .i64 ar.1, .slice a5 n5 c5, .slice a6 n6 c6] t)) ar w5.heap.size a5 n5 c5 a6 n6 c6) := fun t => AddedS.after HB4.out hb5 hf5 t
               try have HPB : Hid (AddedS W3 (((w5.setCell ⟨W3.heap.size, 0, none⟩ (.int .i64 ar.1)).setCell ⟨W3.heap.size, 1, none⟩ (.slice a5 n5 c5)).setCell ⟨W3.heap.size, 2, none⟩ (.slice a6 n6 c6)) ar W3.heap.size a5 n5 c5 a6 n6 c6) := AddedS.ahead HB4.out (Nat.le_refl _) HRZ.out hb5 hf5
               try have hrz := HRZ.out.later hb5
               try have u0 : w5.cell? ⟨W3.heap.size, 0, none⟩ = some (.int .i64 0) := hrz.cell (i := 0) (by omega)
               try have u1 : w5.cell? ⟨W3.heap.size, 1, none⟩ = some (.slice none 0 0) := hrz.cell (i := 1) (by omega)
               try have u2 : w5.cell? ⟨W3.heap.size, 2, none⟩ = some (.slice none 0 0) := hrz.cell (i := 2) (by omega)
               try have uf0 := hrz.frozen 0
               try have uf1 := hrz.frozen 1
               try have uf2 := hrz.frozen 2
               try clear hrz
               clear hb5 hf5)
            | (go_at_call 66; refine (HAN.out (w4.alloc (.cells #[.int .i64 0, .slice none 0 0, .slice none 0 0] 94)) (HB4.out.trans ((later1 _ _).mono HB4.out.size))).mono ?_; rintro e w5 ⟨a5, n5, c5, a6, n6, c6, rfl, hb5, hf5⟩
               obtain ⟨j0, j1, j2, j3⟩ := HLX.out w5 ((HB4.out.trans ((later1 _ _).mono HB4.out.size)).trans (hb5.mono (HB4.out.trans ((later1 _ _).mono HB4.out.size)).size))
               have nq0 : w.heap.size ≠ w4.heap.size := by have := HB4.out.size; omega
               have np0 : w4.heap.size ≠ w.heap.size := by have := HB4.out.size; omega
               have nq2 : w2.heap.size ≠ w4.heap.size := by have := HB4.out.size; omega
               have np2 : w4.heap.size ≠ w2.heap.size := by have := HB4.out.size; omega
               have nq3 : w3.heap.size ≠ w4.heap.size := by have := HB4.out.size; omega
               have np3 : w4.heap.size ≠ w3.heap.size := by have := HB4.out.size; omega
               have HPC : Hid (AddedS W3 (((w5.setCell ⟨w4.heap.size, 0, none⟩ (.int .i64 ar.1)).setCell ⟨w4.heap.size, 1, none⟩ (.slice a5 n5 c5)).setCell ⟨w4.heap.size, 2, none⟩ (.slice a6 n6 c6)) ar w4.heap.size a5 n5 c5 a6 n6 c6) := AddedS.ahead (HB4.out.trans ((later1 _ _).mono HB4.out.size)) HB4.out.size (row3 w4 _) hb5 hf5
               have hrz := (row3 w4 94).later hb5
               have u0 : w5.cell? ⟨w4.heap.size, 0, none⟩ = some (.int .i64 0) := hrz.cell (i := 0) (by omega)
               have u1 : w5.cell? ⟨w4.heap.size, 1, none⟩ = some (.slice none 0 0) := hrz.cell (i := 1) (by omega)
               have u2 : w5.cell? ⟨w4.heap.size, 2, none⟩ = some (.slice none 0 0) := hrz.cell (i := 2) (by omega)
               have uf0 := hrz.frozen 0
               have uf1 := hrz.frozen 1
               have uf2 := hrz.frozen 2
               clear hrz hb5 hf5)
            | fail)
          all_goals
            go_wp2
            go_meet
            case rel => first
              | exact ⟨_, a5, n5, c5, a6, n6, c6, rfl, HPA.out _⟩
              | exact ⟨_, a5, n5, c5, a6, n6, c6, rfl, HPB.out⟩
              | exact ⟨_, a5, n5, c5, a6, n6, c6, rfl, HPC.out⟩
        case rest =>
          obtain ⟨g, a5, n5, c5, a6, n6, c6, rfl, hbw, hg, hbx, hfu⟩ := hcut
          have HB4 : Hid (Below w.heap.size w wc) := HB3.out.trans (hbw.mono HB3.out.size)
          have HR4 : Hid (OwnRow wc (w.heap.size + 1) 7 (cel zero7)) := HR3.out.later hbw
          have HX4 : Hid (Bx wc w.heap.size [.slice a1 n1 c1, .slice a2 n2 c2]) := HX3.out.later hbw
          have HG4 : Hid (Bx wc g [.int .i64 ar.1, .slice a5 n5 c5, .slice a6 n6 c6]) := hbx
          have HFU : Hid (FsU wc (.slice a5 n5 c5) (.slice a6 n6 c6) ar.2 (fun b => W3.heap.size ≤ b ∧ b < wc.heap.size ∧ b ≠ g)) := hfu
          have hz4 : w.heap.size + 1 < W3.heap.size := HR3.out.lt
          clear hbw hbx hfu HLX HAN HLO l0 l1 l2 l3
          obtain ⟨rc, rd⟩ := ar
          dsimp only at HEQ HG4 HFU
          by_cases hrc : rc = 0
          rotate_left
          · have hrb : (rc != 0) = true := by simpa using hrc
            have HE : Hid (RES = stayR d rc) := by unfold Hid; rw [HEQ.out, if_neg hrc]
            clear hrc
            have x0 := HX4.out 0 _ rfl
            have x1 := HX4.out 1 _ rfl
            have qHG0 := HG4.out 0 _ rfl
            have qHG1 := HG4.out 1 _ rfl
            have qHG2 := HG4.out 2 _ rfl
            go_wp2_with fail
            clear x0 x1 qHG0 qHG1 qHG2
            refine (HST.out _ rc HB4.out).mono ?_
            rintro e u ⟨y1, y2, b3, m3, k3, b4, m4, k4, b5, m5, k5, b6, m6, k6, rfl, hb, hu⟩
            have hrr := HR4.out.later hb
            have hlr : w.heap.size + 1 < wc.heap.size := HR4.out.lt
            have HBU : Hid (Below wc.heap.size wc u) := hb
            have HCU : Hid (CResU u (.int .i64 y1) (.int .i64 y2) (.slice b3 m3 k3) (.slice b4 m4 k4) (.slice b5 m5 k5) (.slice b6 m6 k6) (stayR d rc).2 (fresh wc u)) := hu
            have t0 : u.cell? ⟨w.heap.size + 1, 0, none⟩ = some (.int .i64 0) := hrr.cell (i := 0) (by omega)
            have t1 : u.cell? ⟨w.heap.size + 1, 1, none⟩ = some (.int .i64 0) := hrr.cell (i := 1) (by omega)
            have t2 : u.cell? ⟨w.heap.size + 1, 2, none⟩ = some (.int .i64 0) := hrr.cell (i := 2) (by omega)
            have t3 : u.cell? ⟨w.heap.size + 1, 3, none⟩ = some (.slice none 0 0) := hrr.cell (i := 3) (by omega)
            have t4 : u.cell? ⟨w.heap.size + 1, 4, none⟩ = some (.slice none 0 0) := hrr.cell (i := 4) (by omega)
            have t5 : u.cell? ⟨w.heap.size + 1, 5, none⟩ = some (.slice none 0 0) := hrr.cell (i := 5) (by omega)
            have t6 : u.cell? ⟨w.heap.size + 1, 6, none⟩ = some (.slice none 0 0) := hrr.cell (i := 6) (by omega)
            have s0 := hrr.frozen 0
            have s1 := hrr.frozen 1
            have s2 := hrr.frozen 2
            have s3 := hrr.frozen 3
            have s4 := hrr.frozen 4
            have s5 := hrr.frozen 5
            have s6 := hrr.frozen 6
            clear hb hu hrr
            go_wp2
            exact bodyPost_ret (v := .agg #[.int .i64 (stayR d rc).1, .int .i64 y1, .int .i64 y2, .slice b3 m3 k3, .slice b4 m4 k4, .slice b5 m5 k5, .slice b6 m6 k6]) (by simp [results, Tryz.results29, go_sem, t0, t1, t2, t3, t4, t5, t6]) rfl (by rw [HE.out]; exact AnsCR.pass HB4.out (by omega) hlr HBU.out HCU.out _ _ _ _ _ _ _)
          · have hrb : (rc != 0) = false := by simpa using hrc
            have HE : Hid (RES = (0, 0, 0, [], [], rd)) := by unfold Hid; rw [HEQ.out, if_pos hrc]
            clear hrc
            have hrr := HR4.out
            have t0 : wc.cell? ⟨w.heap.size + 1, 0, none⟩ = some (.int .i64 0) := hrr.cell (i := 0) (by omega)
            have t1 : wc.cell? ⟨w.heap.size + 1, 1, none⟩ = some (.int .i64 0) := hrr.cell (i := 1) (by omega)
            have t2 : wc.cell? ⟨w.heap.size + 1, 2, none⟩ = some (.int .i64 0) := hrr.cell (i := 2) (by omega)
            have t3 : wc.cell? ⟨w.heap.size + 1, 3, none⟩ = some (.slice none 0 0) := hrr.cell (i := 3) (by omega)
            have t4 : wc.cell? ⟨w.heap.size + 1, 4, none⟩ = some (.slice none 0 0) := hrr.cell (i := 4) (by omega)
            have t5 : wc.cell? ⟨w.heap.size + 1, 5, none⟩ = some (.slice none 0 0) := hrr.cell (i := 5) (by omega)
            have t6 : wc.cell? ⟨w.heap.size + 1, 6, none⟩ = some (.slice none 0 0) := hrr.cell (i := 6) (by omega)
            have s0 := hrr.frozen 0
            have s1 := hrr.frozen 1
            have s2 := hrr.frozen 2
            have s3 := hrr.frozen 3
            have s4 := hrr.frozen 4
            have s5 := hrr.frozen 5
            have s6 := hrr.frozen 6
            have x0 := HX4.out 0 _ rfl
            have x1 := HX4.out 1 _ rfl
            have qHG0 := HG4.out 0 _ rfl
            have qHG1 := HG4.out 1 _ rfl
            have qHG2 := HG4.out 2 _ rfl
            clear hrr
            go_wp2
            exact bodyPost_ret (v := .agg #[.int .i64 0, .int .i64 0, .int .i64 0, .slice none 0 0, .slice none 0 0, .slice a5 n5 c5, .slice a6 n6 c6]) (by simp [results, Tryz.results29, go_sem, t0, t1, t2, t3, t4, t5, t6]) rfl (by rw [HE.out]; exact AnsCR.put HB4.out (by omega) (CResU.fs 0 0 (HFU.out.mono fun b hh => ⟨by omega, hh.2.1, by omega⟩)) _ _ _ _ _ _ _)
end Go.Proofs.YtpfafcodihhdfaaGreatDoor

namespace Go.Proofs.YtpfafcodihhdfaaGreatDoor
open Go.RowKit
set_option maxRecDepth 100000

theorem field_byt (c : Int) (a : Option Addr) (n k : Nat) (w : World) : (Instr.field 178 (.agg #[.int .i64 c, .slice a n k]) 0).run Tryz.prog w = .ok (.int .i64 c) w := by kernel_rfl
set_option maxHeartbeats 800000 in
theorem l7Asked_any (w : World) (b : Nat) (d : FD) (a1 : Option Addr) (n1 c1 : Nat) (a2 : Option Addr) (n2 c2 : Nat) (x : Int) (h0 : w.cell? ⟨b, 0, none⟩ = some (.slice a1 n1 c1)) (h1 : w.cell? ⟨b, 1, none⟩ = some (.slice a2 n2 c2)) (h : FsR w (.slice a1 n1 c1) (.slice a2 n2 c2) d) (hs : sizeFs d ≤ 1048576) :
    Calls Tryz.prog 220 #[.pointer (some ⟨b, 0, none⟩), .int .i64 x] w fun e w' => e = .returned (.int .i64 (bytR d x).1) ∧ Below w.heap.size w w' := by
  have HBY : Hid (Calls Tryz.prog 185 #[.agg #[.slice a1 n1 c1, .slice a2 n2 c2], .int .i64 x] w (AnsYR w (bytR d x))) := specBytU w a1 n1 c1 a2 n2 c2 d x h hs
  have hf := fun c a n k w => field_byt c a n k w
  clear h hs
  go_enter Tryz.func220, Tryz.ntmps220
  go_wp2_with fail
  refine HBY.out.mono ?_
  rintro e w1 ⟨ay, ny, cy, rfl, hb1, _⟩
  go_wp2
  go_ret
  exact ⟨rfl, hb1⟩
theorem s5_chg (w : World) (b k : Nat) (x0 x1 x2 x3 x4 : Value) : Chg (fun c => c = b) w (set5F w b k x0 x1 x2 x3 x4) := by
  have h0 : Chg (fun c => c = b) w w := Chg.refl _ _
  have h1 := Chg.set (F := fun c => c = b) h0 rfl k x0
  have h2 := Chg.set (F := fun c => c = b) h1 rfl (k + 1) x1
  have h3 := Chg.set (F := fun c => c = b) h2 rfl (k + 2) x2
  have h4 := Chg.set (F := fun c => c = b) h3 rfl (k + 3) x3
  exact Chg.set (F := fun c => c = b) h4 rfl (k + 4) x4
theorem s5_fs {w : World} {bI n cI bD cD : Nat} {d : FD} {F G : Nat → Prop} (hfs : FsS w bI n cI bD 20 cD d F) (j : Nat) (hj : j < n) (x : ID) (vB vE : Value) (hv : InoU w (.int .i64 x.1) (.int .i64 x.2.1) (.int .i64 x.2.2.1) vB vE x G) (hG : ∀ c, G c → ¬ F c ∧ c < w.heap.size) : FsS (set5F w bI (j * 5) (.int .i64 x.1) (.int .i64 x.2.1) (.int .i64 x.2.2.1) vB vE) bI n cI bD 20 cD (d.1.set j x, d.2) (fun c => F c ∨ G c) := by
  have hne := hfs.ne
  have hl := hfs.len.1
  refine hfs.putI j hj x vB vE (fun u hu => ?_) (s5_chg w bI (j * 5) _ _ _ _ _) (hv.keep fun c hc hlt => (s5_chg w bI (j * 5) _ _ _ _ _).block c hlt fun e => (hG c hc).1 (e ▸ hne.2.1.1)) (fun c hc => ⟨(hG c hc).1, by rw [set5_size]; exact (hG c hc).2⟩)
  exact (hu.five (j * 5) _ _ _ _ _).congr fun c _ => (inCell_set d.1 u j (by omega) x vB vE c).symm

set_option maxHeartbeats 3200000 in
theorem l7Drop_raw (w : World) (bo bI n cI bD cD : Nat) (d : FD) (F : Nat → Prop) (j : Nat) (h0 : w.cell? ⟨bo, 0, none⟩ = some (.slice (some ⟨bI, 0, none⟩) n cI)) (h1 : w.cell? ⟨bo, 1, none⟩ = some (.slice (some ⟨bD, 0, none⟩) 20 cD)) (hfs : FsS w bI n cI bD 20 cD d F) (hFo : ¬ F bo) (hjn : j < n) (_hn10 : n ≤ 10) (hblk : ∀ k : Nat, k < (blkA d j).length → 0 ≤ (blkA d j)[k]?.getD 0 ∧ (blkA d j)[k]?.getD 0 < 20) (h4 : (blkA d j).length ≤ 4) :
    Calls Tryz.prog 201 #[.pointer (some ⟨bo, 0, none⟩), .int .i64 (j : Int)] w fun e w' => e = .returned (.tuple #[]) ∧ Chg (fun c => c = bI ∨ c = bD) w w' ∧ FsS w' bI n cI bD 20 cD (dropD d j) F := by
  obtain ⟨aB, cB, aE, cE, i0, i1, i2, i3, i4, _, i6, i7⟩ := hfs.ino j hjn
  have hne := hfs.ne
  have hoI : bo ≠ bI := fun e => hFo (e ▸ hne.2.1.1)
  have hoD : bo ≠ bD := fun e => hFo (e ▸ hne.2.2.1)
  have hID : bI ≠ bD := hne.1
  have HFS : Hid (FsS w bI n cI bD 20 cD d F) := hfs
  have HBS : Hid (BlkR w bD aB (blkA d j)) := fun k hk => by
    obtain ⟨b, f1, _, _, f4, f5, f6⟩ := i7 k hk
    exact ⟨b, f1, f4, f5, f6⟩
  have HRG : Hid (∀ k : Nat, k < (blkA d j).length → 0 ≤ (blkA d j)[k]?.getD 0 ∧ (blkA d j)[k]?.getD 0 < 20) := hblk
  have HDD : Hid (dropD d j = (d.1.set j id0, clrK d.2 (blkA d j) (blkA d j).length)) := rfl
  replace i3 : w.cell? ⟨bI, j * 5 + 3, none⟩ = some (.slice aB (blkA d j).length cB) := i3
  rw [HDD.out]
  generalize blkA d j = bs at *
  obtain ⟨nB, hnB⟩ : ∃ nB, bs.length = nB := ⟨_, rfl⟩
  have HNB : Hid (bs.length = nB) := hnB
  rw [hnB] at i3 HRG h4 ⊢
  have hjI : (j : Int) < (n : Int) := by omega
  clear hfs i7 hblk hnB HDD i0 i1 i2 i4 i6 hne
  go_enter Tryz.func201, Tryz.ntmps201
  go_wp2_with fail
  go_loopw [4] (fun i wr => ∃ k : Nat, k ≤ nB ∧ i = .int .i64 k ∧ Chg (fun c => c = bD) w wr ∧ FsS wr bI n cI bD 20 cD (d.1, clrK d.2 bs k) F) (fun i _ => nB - (intOf i).toNat)
  case atStart => exact ⟨0, Nat.zero_le _, rfl, Chg.refl _ _, HFS.out⟩
  case round =>
    obtain ⟨k, hk, rfl, hc, hf⟩ := hrel
    have HC : Hid (Chg (fun c => c = bD) w wr) := hc
    have HF : Hid (FsS wr bI n cI bD 20 cD (d.1, clrK d.2 bs k) F) := hf
    have r0 := hc.cellOf h0 hoD
    have r1 := hc.cellOf h1 hoD
    have r3 := hc.cellOf i3 hID
    clear hc hf
    by_cases hlt : k < nB
    · obtain ⟨b1, rfl, hb1, _, c1⟩ := HBS.out k (by rw [HNB.out]; exact hlt)
      have c1r := HC.out.cellOf c1 hb1
      have hrg := HRG.out k hlt
      have HCL : Hid (∀ y : Nat, y < 20 → bs[k]?.getD 0 = (y : Int) → FsS (wr.setCell ⟨bD, y, none⟩ (.slice none 0 0)) bI n cI bD 20 cD (d.1, clrK d.2 bs (k + 1)) F) := fun y hy e => HF.out.clr hy e
      generalize bs[k]?.getD 0 = x at *
      obtain ⟨y, rfl⟩ : ∃ y : Nat, x = (y : Int) := ⟨x.toNat, by omega⟩
      have hy : y < 20 := by omega
      have hyI : (y : Int) < 20 := by omega
      obtain ⟨ua, uc, d0, d1, _⟩ := HF.out.data y hy
      have HN : Hid (FsS (wr.setCell ⟨bD, y, none⟩ (.slice none 0 0)) bI n cI bD 20 cD (d.1, clrK d.2 bs (k + 1)) F) := HCL.out y hy rfl
      have hDb : bD ≠ b1 := fun e => hb1 e.symm
      have hDo : bD ≠ bo := fun e => hoD e.symm
      have hDI : bD ≠ bI := fun e => hID e.symm
      clear HCL hrg c1
      go_wp2_with fail
      go_region_held3 (fun W => W.cell? ⟨bo, 0, none⟩ = some (.slice (some ⟨bI, 0, none⟩) n cI) ∧ W.cell? ⟨bo, 1, none⟩ = some (.slice (some ⟨bD, 0, none⟩) 20 cD) ∧ W.cell? ⟨bI, j * 5 + 3, none⟩ = some (.slice (some ⟨b1, 0, none⟩) nB cB) ∧ W.cell? ⟨b1, k, none⟩ = some (.int .i64 (y : Int))) (go_keep) (fail)
      all_goals
        go_wp2
        go_roundw
        case rel => exact ⟨k + 1, by omega, by go_num, by first | exact HC.out.set rfl _ _ | exact (HC.out.set rfl _ _).trans (Chg.of_below (Below.refl _ _).drew) | exact (HC.out.trans (Chg.of_below (Below.refl _ _).drew)).set rfl _ _, by first | exact HN.out | exact HN.out.later (Below.refl _ _).drew⟩
        case measure => simp [intOf]; omega
    · have e : k = nB := by omega
      subst e
      obtain ⟨_, _, _, _, z0, z1, z2, z3, z4, _, z6, _⟩ := HF.out.ino j hjn
      have z50 := z6 (j * 5)
      have z51 := z6 (j * 5 + 1)
      have z52 := z6 (j * 5 + 2)
      have z53 := z6 (j * 5 + 3)
      have z54 := z6 (j * 5 + 4)
      have HN : Hid (FsS (set5F wr bI (j * 5) (.int .i64 0) (.int .i64 0) (.int .i64 0) (.slice none 0 0) (.slice none 0 0)) bI n cI bD 20 cD (d.1.set j id0, clrK d.2 bs k) F) := (s5_fs (G := fun _ => False) HF.out j hjn id0 (.slice none 0 0) (.slice none 0 0) (setZ_ino _ _) (fun c hc => hc.elim)).mono fun c hc => hc.elim id False.elim
      have HC2 : Hid (Chg (fun c => c = bI ∨ c = bD) w (set5F wr bI (j * 5) (.int .i64 0) (.int .i64 0) (.int .i64 0) (.slice none 0 0) (.slice none 0 0))) := (HC.out.mono fun b hb => Or.inr hb).trans ((s5_chg wr bI (j * 5) _ _ _ _ _).mono fun b hb => Or.inl hb)
      clear z6
      dsimp only at z0 z1 z2 z3 z4
      generalize (d.1[j]?.getD id0).2.2.2.2.length = l2 at *
      generalize (d.1[j]?.getD id0).1 = y0 at *
      generalize (d.1[j]?.getD id0).2.1 = y1 at *
      generalize (d.1[j]?.getD id0).2.2.1 = y2 at *
      generalize (d.1[j]?.getD id0).2.2.2.1.length = l3 at *
      go_wp2
      go_end0
      exact ⟨rfl, HC2.out, HN.out⟩
theorem l7Drop_any (w : World) (bo bI n cI bD cD : Nat) (d : FD) (F : Nat → Prop) (j : Nat) (h0 : w.cell? ⟨bo, 0, none⟩ = some (.slice (some ⟨bI, 0, none⟩) n cI)) (h1 : w.cell? ⟨bo, 1, none⟩ = some (.slice (some ⟨bD, 0, none⟩) 20 cD)) (hfs : FsS w bI n cI bD 20 cD d F) (hFo : ¬ F bo) (hn : d.1.length = n) (hsd : Sound d j) :
    Calls Tryz.prog 201 #[.pointer (some ⟨bo, 0, none⟩), .int .i64 (j : Int)] w fun e w' => e = .returned (.tuple #[]) ∧ Chg (fun c => c = bI ∨ c = bD) w w' ∧ FsS w' bI n cI bD 20 cD (dropD d j) F :=
  l7Drop_raw w bo bI n cI bD cD d F j h0 h1 hfs hFo (by have := hsd.lt; omega) (by have := hsd.ten; omega) hsd.blk hsd.four
end Go.Proofs.YtpfafcodihhdfaaGreatDoor

namespace Go.Proofs.YtpfafcodihhdfaaGreatDoor
open Go.RowKit
set_option maxRecDepth 100000

theorem spanInos_each {ds : List ID} {m : Nat} (h : ∀ i : Nat, spanIno (ds[i]?.getD id0) ≤ m) : spanInos ds ≤ (3 + m) * ds.length := by
  unfold spanInos isp
  induction ds with
  | nil => simp
  | cons x ds ih =>
    have h0 := h 0
    have := ih fun i => by have := h (i + 1); simpa using this
    simp at h0
    simp only [List.map_cons, List.sum_cons, List.length_cons, Nat.mul_add, Nat.mul_one]
    omega
theorem fsF_spans {d : FD} (h : fsF d = 0) (i : Nat) : spanIno (d.1[i]?.getD id0) ≤ 16 := by
  obtain ⟨h1, _, _, _, _⟩ := fsE_zero (fsF_zero h)
  by_cases hi : i < d.1.length
  · have hz := ino_size (ins_ino h1 i hi)
    have h6 := ino_six (ins_ino h1 i hi)
    unfold spanIno
    omega
  · rw [List.getElem?_eq_none (by omega)]
    simp [spanIno, id0]
theorem set_span {ds : List ID} {m : Nat} (h : ∀ i : Nat, spanIno (ds[i]?.getD id0) ≤ m) (j : Nat) (x : ID) (hx : spanIno x ≤ m) (i : Nat) : spanIno ((ds.set j x)[i]?.getD id0) ≤ m := by
  rw [List.getElem?_set]
  by_cases e : j = i
  · rw [if_pos e]
    by_cases hl : j < ds.length
    · rw [if_pos hl]; exact hx
    · rw [if_neg hl]; simp [spanIno, id0]
  · rw [if_neg e]; exact h i
theorem noFs_span (c : Int) : spanFs (noFs c).2 = 0 := by simp [noFs, spanFs, spanInos, isp, ylens]
theorem dropR_span (d : FD) (x : Int) : spanFs (dropR d x).2 ≤ 1000 := by
  unfold dropR
  by_cases hc : (bytR d x).1 = 0
  · rw [if_pos hc]
    have hs := sound hc
    show spanFs (dropD d x.toNat) ≤ 1000
    unfold spanFs dropD
    have e1 := spanInos_each (set_span (fsF_spans hs.fs) x.toNat id0 (by simp [spanIno, id0]))
    have e2 := ylens_eight (clrK_le hs.eight (blkA d x.toNat) (blkA d x.toNat).length)
    rw [clrK_length, hs.dat] at e2
    rw [List.length_set] at e1
    have := hs.ten
    dsimp only
    omega
  · rw [if_neg hc, noFs_span]; omega
end Go.Proofs.YtpfafcodihhdfaaGreatDoor

namespace Go.Proofs.YtpfafcodihhdfaaGreatDoor
open Go.RowKit
set_option maxRecDepth 100000

theorem ins_spans {ds : List ID} (h1 : insF ds = 0) (i : Nat) : spanIno (ds[i]?.getD id0) ≤ 16 := by
  by_cases hi : i < ds.length
  · have hz := ino_size (ins_ino h1 i hi)
    have h6 := ino_six (ins_ino h1 i hi)
    unfold spanIno
    omega
  · rw [List.getElem?_eq_none (by omega)]
    simp [spanIno, id0]
theorem insE_len (es : List EN) (k : Nat) (e : EN) : (insE es k e).length = es.length + 1 := by
  unfold insE
  rw [List.length_append, List.length_append, List.length_take, List.length_drop]
  simp
  omega
theorem addR_span (d : FD) (x : Int) (s : ByteArray) (y : Int) : spanFs (addR d x s y).2 ≤ 1000 := by
  unfold addR
  by_cases hc : dirN d x s = 0
  · rw [if_pos hc]
    have hs := dirS (dirN_in hc)
    generalize x.toNat = j at *
    unfold addQ
    by_cases h1 : idxE (entA d j) s < (entA d j).length
    · rw [if_pos h1, noFs_span]; omega
    · rw [if_neg h1]
      by_cases h2 : 0 ≤ y ∧ y < (d.1.length : Int) ∧ ¬ kindAt d.1 y.toNat = 0
      · rw [if_pos h2]
        by_cases h3 : (entA d j).length = 6 ∨ (kindAt d.1 y.toNat = 1 ∧ 60 ≤ (d.1[y.toNat]?.getD id0).2.1)
        · rw [if_pos h3, noFs_span]; omega
        · rw [if_neg h3]
          show spanFs (addD d j s y.toNat) ≤ 1000
          have hl := insE_len (entA d j) (plcE (entA d j) s) (s, ((y.toNat : Nat) : Int))
          have h6 := hs.six
          have e1 := set_span (ins_spans hs.ins) j ((d.1[j]?.getD id0).1, (d.1[j]?.getD id0).2.1, (d.1[j]?.getD id0).2.2.1, [], insE (entA d j) (plcE (entA d j) s) (s, ((y.toNat : Nat) : Int))) (by unfold spanIno; simp only [List.length_nil]; rw [hl]; omega)
          have e2 := ylens_eight hs.eight
          have hd := hs.dat
          have ht := hs.ten
          unfold addD
          by_cases h4 : kindAt d.1 y.toNat = 1
          · rw [if_pos h4]
            unfold lnkD entD spanFs
            dsimp only
            have e3 := spanInos_each (set_span e1 y.toNat (((d.1.set j ((d.1[j]?.getD id0).1, (d.1[j]?.getD id0).2.1, (d.1[j]?.getD id0).2.2.1, [], insE (entA d j) (plcE (entA d j) s) (s, ((y.toNat : Nat) : Int))))[y.toNat]?.getD id0).1, (d.1[y.toNat]?.getD id0).2.1 + 1, ((d.1.set j ((d.1[j]?.getD id0).1, (d.1[j]?.getD id0).2.1, (d.1[j]?.getD id0).2.2.1, [], insE (entA d j) (plcE (entA d j) s) (s, ((y.toNat : Nat) : Int))))[y.toNat]?.getD id0).2.2) (by have := e1 y.toNat; unfold spanIno at this ⊢; exact this))
            rw [List.length_set, List.length_set] at e3
            omega
          · rw [if_neg h4]
            unfold entD spanFs
            dsimp only
            have e3 := spanInos_each e1
            rw [List.length_set] at e3
            omega
      · rw [if_neg h2, noFs_span]; omega
  · rw [if_neg hc, noFs_span]; omega
section
variable {P : Program} {w : World}
/-- append within a region that draws its order: what it comes to is told by a property. -/
theorem step_append_ex {ops : Array Oper} {o : Oper} {a : Act} {K : Act → World → Prop} {Q : Exit → Act → World → Prop} {E : Prop} (hgd : o.guard = none) (s x : Operand) (t : TypeId)
    (ho : o.op = .call { callee := .builtin .append, args := #[s, x], argTypes := #[t, t] }) (v y : Value) (hs : a.eval s = v) (hx : a.eval x = y) (R : Value → World → Prop)
    (hr : ∃ v' w', (Builtin.append_ #[t, t] o.type #[v, y]).run P w = .ok v' w' ∧ R v' w') (h : ∀ v' w', R v' w' → K (a.put o.dst v') w') : if Region.wanted o (yielded ops a.tmps) = true then Oper.wp P o a w K Q else E := by
  obtain ⟨v', w', h1, h2⟩ := hr
  exact step_append_run hgd s x t ho v y hs hx v' w' h1 (h v' w' h2)
end
end Go.Proofs.YtpfafcodihhdfaaGreatDoor
