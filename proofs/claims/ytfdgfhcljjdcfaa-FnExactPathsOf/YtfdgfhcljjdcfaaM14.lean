/- Lists of texts in own memory; answers that hold one, in the one form. Directories: NamesIn, of the program and of the specification. Directories: what stays right where an entry goes; how great right inodes are. No program is named here. PathsOf: the paths of all that is below a place. No program is named here. A range over an iterator whose rounds own blocks: the iterator may range over itself. -/
import Derived.Test.YtfdgfhcljjdcfaaM13
import Derived.Test.YtfdgfhcljjdcfaaM02
import Derived.Deep.RegionLaw
import Derived.Test.YtfdgfhcljjdcfaaM10
import Derived.Test.YtfdgfhcljjdcfaaM01
import Derived.Test.YtfdgfhcljjdcfaaM00
namespace Go.Proofs.Ytfdgfhcljjdcfaa
open Go.RowKit
set_option maxRecDepth 100000

def StrR (w : World) (v : Value) (xs : List (List UInt8)) : Prop := ∃ a c, v = .slice a xs.length c ∧ xs.length ≤ 1048577 ∧ AtT w a xs.length xs
theorem StrR.later {w w' : World} {v : Value} {xs : List (List UInt8)} (h : StrR w v xs) (hb : Below w.heap.size w w') : StrR w' v xs := by
  obtain ⟨a, c, h1, h2, h3⟩ := h
  exact ⟨a, c, h1, h2, h3.later hb⟩
/-- The slice v holds the texts xs, in one block of F. -/
def StrsO (w : World) (v : Value) (xs : List (List UInt8)) (F : Nat → Prop) : Prop :=
  (xs = [] ∧ ∃ a cap, v = .slice a 0 cap) ∨ (∃ b cap, F b ∧ v = .slice (some ⟨b, 0, none⟩) xs.length cap ∧ xs.length ≤ 1048577 ∧ OwnRow w b xs.length (fun i => strV (xs[i]?.getD [])))
theorem StrsO.reads {w : World} {v : Value} {xs : List (List UInt8)} {F : Nat → Prop} (h : StrsO w v xs F) : StrR w v xs := by
  rcases h with ⟨rfl, a, cap, rfl⟩ | ⟨b, cap, _, h1, h2, h3⟩
  · exact ⟨a, cap, rfl, by simp, fun k hk => by simp at hk⟩
  · exact ⟨_, cap, h1, h2, fun k hk => ⟨b, 0, rfl, by rw [Nat.zero_add]; exact h3.cell hk⟩⟩
theorem StrsO.keep {w w' : World} {v : Value} {xs : List (List UInt8)} {F : Nat → Prop} (h : StrsO w v xs F) (e : ∀ b, F b → b < w.heap.size → w'.heap[b]? = w.heap[b]?) : StrsO w' v xs F := by
  rcases h with h | ⟨b, cap, hF, h1, h2, h3⟩
  · exact Or.inl h
  · exact Or.inr ⟨b, cap, hF, h1, h2, h3.block (e b hF h3.lt)⟩
theorem StrsO.mono {w : World} {v : Value} {xs : List (List UInt8)} {F G : Nat → Prop} (h : StrsO w v xs F) (e : ∀ b, F b → G b) : StrsO w v xs G := by
  rcases h with h | ⟨b, cap, hF, h1⟩
  · exact Or.inl h
  · exact Or.inr ⟨b, cap, e b hF, h1⟩
theorem StrsO.later {w w' : World} {v : Value} {xs : List (List UInt8)} {F : Nat → Prop} (h : StrsO w v xs F) (hb : Below w.heap.size w w') : StrsO w' v xs F := h.keep fun b _ hlt => hb.block b hlt
theorem StrsO.chg {w w' : World} {v : Value} {xs : List (List UInt8)} {F G : Nat → Prop} (h : StrsO w v xs F) (hc : Chg G w w') (hd : ∀ b, F b → ¬ G b) : StrsO w' v xs F := h.keep fun b hb hlt => hc.block b hlt (hd b hb)
def AnsNR (w : World) (r : Int × List (List UInt8)) (e : Ending) (w' : World) : Prop := ∃ a n c, e = .returned (.agg #[.int .i64 r.1, .slice a n c]) ∧ Below w.heap.size w w' ∧ StrsO w' (.slice a n c) r.2 (fresh w w')
theorem AnsNR.later {w w2 w3 : World} {r : Int × List (List UInt8)} {e : Ending} (h : AnsNR w r e w2) (hb : Below w2.heap.size w2 w3) : AnsNR w r e w3 := by
  obtain ⟨a, n, c, h1, h2, h3⟩ := h
  exact ⟨a, n, c, h1, h2.trans (hb.mono h2.size), (h3.later hb).mono fun b hh => ⟨hh.1, Nat.lt_of_lt_of_le hh.2 hb.size⟩⟩
theorem AnsNR.boxed {w W : World} {rb : Nat} {r : Int} {xs : List (List UInt8)} {a : Option Addr} {n c : Nat} (hB : Below w.heap.size w W) (hrb : w.heap.size ≤ rb) (hY : StrsO W (.slice a n c) xs (fun b => w.heap.size ≤ b ∧ b < W.heap.size ∧ b ≠ rb)) (x y : Value) : AnsNR w (r, xs) (.returned (.agg #[.int .i64 r, .slice a n c])) ((W.setCell ⟨rb, 0, none⟩ x).setCell ⟨rb, 1, none⟩ y) := by
  refine ⟨a, n, c, rfl, (hB.setCell hrb _).setCell hrb _, (hY.keep fun b hb _ => ?_).mono fun b hb => ?_⟩
  · rw [Below.heap_setCell _ _ _ _ hb.2.2, Below.heap_setCell _ _ _ _ hb.2.2]
  · unfold fresh
    simp only [World.setCell, Array.size_modify]
    exact ⟨hb.1, hb.2.1⟩
theorem AnsNR.none' {w W : World} {rb : Nat} (r : Int) (hB : Below w.heap.size w W) (hrb : w.heap.size ≤ rb) (x y : Value) : AnsNR w (r, []) (.returned (.agg #[.int .i64 r, .slice none 0 0])) ((W.setCell ⟨rb, 0, none⟩ x).setCell ⟨rb, 1, none⟩ y) := AnsNR.boxed hB hrb (Or.inl ⟨rfl, _, _, rfl⟩) x y

theorem eqNamesResultU (w : World) (c : Int) (va vb : Value) (xs : List (List UInt8)) (h1 : StrR w va xs) (h2 : StrR w vb xs) :
    Calls Try.prog 8 #[.agg #[.int .i64 c, va], .agg #[.int .i64 c, vb]] w fun e w' => e = .returned (.bool true) ∧ Below w.heap.size w w' := by
  obtain ⟨a, ca, rfl, hn, ha⟩ := h1
  obtain ⟨b, cb, rfl, _, hb⟩ := h2
  exact eqNamesU w c a b _ ca cb xs hn ha hb
def mkStrs (k : Int) (xs : List (List UInt8)) : List (List UInt8) := (List.range xs.length).map fun i => 109 :: dg (k.toNat + i) []
theorem mkStrs_length (k : Int) (xs : List (List UInt8)) : (mkStrs k xs).length = xs.length := by simp [mkStrs]
theorem mkStrs_get (k : Int) (xs : List (List UInt8)) {i : Nat} (h : i < xs.length) : strV ((mkStrs k xs)[i]?.getD []) = mkT (k.toNat + i) := by
  simp [mkStrs, h, strV, mkT]
theorem markNamesResultU (w : World) (c : Int) (v : Value) (xs : List (List UInt8)) (F : Nat → Prop) (k : Int) (h : StrsO w v xs F) (hk0 : 1 ≤ k) (hk : k + (List.length xs : Nat) ≤ 4294967296) :
    Calls Try.prog 11 #[.agg #[.int .i64 c, v], .int .i64 k] w fun e w' => e = .returned (.int .i64 (k + (List.length xs : Nat))) ∧ StrsO w' v (mkStrs k xs) F ∧ Chg F w w' := by
  obtain ⟨q, rfl⟩ : ∃ q : Nat, k = (q : Int) := ⟨k.toNat, by omega⟩
  rcases h with ⟨rfl, a, cap, rfl⟩ | ⟨b, cap, hF, rfl, h2, h3⟩
  · refine (markNamesU w c a 0 cap q (fun _ => .int .i64 0) 0 0 (by omega) (by simp at hk; omega) (Or.inl rfl)).mono ?_
    rintro e w' ⟨rfl, _, hc⟩
    exact ⟨by simp, Or.inl ⟨rfl, a, cap, rfl⟩, hc.mono fun b hb => by have := hb.2; omega⟩
  · by_cases hne : xs.length = 0
    · have hx : xs = [] := List.length_eq_zero_iff.1 hne
      subst hx
      refine (markNamesU w c (some ⟨b, 0, none⟩) 0 cap q (fun _ => .int .i64 0) 0 0 (by omega) (by simp at hk; omega) (Or.inl rfl)).mono ?_
      rintro e w' ⟨rfl, _, hc⟩
      exact ⟨by simp, Or.inl ⟨rfl, _, cap, rfl⟩, hc.mono fun b hb => by have := hb.2; omega⟩
    refine (markNamesU w c (some ⟨b, 0, none⟩) xs.length cap q _ b (b + 1) (by omega) (by omega) (Or.inr ⟨b, rfl, Nat.le_refl _, by omega, h3⟩)).mono ?_
    rintro e w' ⟨rfl, ho, hc⟩
    refine ⟨by simp, Or.inr ⟨b, cap, hF, by rw [mkStrs_length], by rw [mkStrs_length]; exact h2, ?_⟩, hc.mono fun b' hb => ?_⟩
    · rw [mkStrs_length]
      rcases ho with h0 | ⟨g, e1, _, _, hr⟩
      · exact absurd h0 hne
      · simp only [Option.some.injEq, Addr.mk.injEq, and_true] at e1
        subst e1
        exact hr.congr fun i hi => (mkStrs_get (q : Int) xs hi).symm
    · obtain ⟨e1, _⟩ := hb
      simp only [Option.some.injEq, Addr.mk.injEq, and_true] at e1
      subst e1
      exact hF
theorem heldNamesResultU (w : World) (c : Int) (v : Value) (xs : List (List UInt8)) (F : Nat → Prop) (k : Int) (h : StrsO w v (mkStrs k xs) F) (hk0 : 1 ≤ k) (hk : k + (List.length xs : Nat) ≤ 4294967296) :
    Calls Try.prog 12 #[.agg #[.int .i64 c, v], .int .i64 k] w fun e w' => e = .returned (.int .i64 (k + (List.length xs : Nat))) ∧ Below w.heap.size w w' := by
  obtain ⟨q, rfl⟩ : ∃ q : Nat, k = (q : Int) := ⟨k.toNat, by omega⟩
  rcases h with ⟨h0, a, cap, rfl⟩ | ⟨b, cap, hF, rfl, h2, h3⟩
  · have hx : xs.length = 0 := by have := mkStrs_length (q : Int) xs; rw [h0] at this; simpa using this.symm
    rw [hx] at hk ⊢
    refine (heldNamesU w c a 0 cap q 0 0 (by omega) (by omega) (Or.inl rfl)).mono ?_
    rintro e w' ⟨rfl, hb⟩
    exact ⟨by simp, hb⟩
  · rw [mkStrs_length] at h3 ⊢
    refine (heldNamesU w c (some ⟨b, 0, none⟩) xs.length cap q b (b + 1) (by omega) (by omega) (Or.inr ⟨b, rfl, Nat.le_refl _, by omega, h3.congr fun i hi => mkStrs_get (q : Int) xs hi⟩)).mono ?_
    rintro e w' ⟨rfl, hb⟩
    exact ⟨by simp, hb⟩
end Go.Proofs.Ytfdgfhcljjdcfaa

namespace Go.Proofs.Ytfdgfhcljjdcfaa
open Go.RowKit
set_option maxRecDepth 100000

theorem mkB_of (x : ByteArray) : mkB x.toList = x := by rw [ByteArray.toList_eq]; exact mkB_data x
theorem nameF_four {s : ByteArray} (h : nameF s = 0) : s.size ≤ 4 := by
  by_cases h4 : 4 < s.size
  · exfalso
    unfold nameF at h
    rw [if_neg (by omega)] at h
    by_cases ha : s.data.toList.all byB = true
    · rw [if_pos ha, if_pos h4] at h; omega
    · rw [if_neg ha] at h; omega
  · omega
/-- Texts in memory that the call made since n₀. -/
def WdT (w : World) (n₀ : Nat) (v : Value) (xs : List (List UInt8)) : Prop := w.ownsRow n₀ 9 1 v xs.length (xs.map strV)
theorem WdT.later {w w' : World} {n₀ : Nat} {v : Value} {xs : List (List UInt8)} (h : WdT w n₀ v xs) (hb : Below w.heap.size w w') : WdT w' n₀ v xs := ownsRow_later h hb
theorem WdT.shape {w : World} {n₀ : Nat} {v : Value} {xs : List (List UInt8)} (h : WdT w n₀ v xs) : ∃ a c, v = .slice a xs.length c := ownsRow_shape h
theorem WdT.nil (w : World) (n₀ : Nat) : WdT w n₀ (.slice none 0 0) [] := ⟨by simp, Or.inl ⟨rfl, rfl⟩⟩
theorem WdT.own {w : World} {n₀ : Nat} {v : Value} {xs : List (List UInt8)} (h : WdT w n₀ v xs) (hl : xs.length ≤ 1048577) : StrsO w v xs (fun b => n₀ ≤ b ∧ b < w.heap.size) := by
  obtain ⟨a, c, rfl⟩ := h.shape
  rcases ownT_row h with h0 | ⟨g, rfl, h1, h2, h3⟩
  · have : xs = [] := List.length_eq_zero_iff.1 h0
    subst this
    exact Or.inl ⟨rfl, a, c, rfl⟩
  · exact Or.inr ⟨g, c, ⟨h1, h2⟩, rfl, hl, h3⟩
theorem WdT.push (w : World) (n₀ : Nat) (v : Value) (xs : List (List UInt8)) (y : List UInt8) (h : WdT w n₀ v xs) (hn₀ : n₀ ≤ w.heap.size) (hn : xs.length ≤ 1048577) :
    ∃ v' X, (Builtin.append_ #[27, 27] 27 #[v, .slice (some ⟨w.heap.size, 0, none⟩) 1 1]).run Try.prog (w.alloc (.cells #[.string (mkB y)] 9)) = .ok v' X ∧ WdT X n₀ v' (xs ++ [y]) ∧ Below n₀ w X := by
  obtain ⟨v', X, h1, h2, h3⟩ := append_strN w n₀ v xs.length (xs.map strV) y (by simp) h hn₀ hn
  refine ⟨v', X, h1, ?_, h3⟩
  unfold WdT
  rw [List.length_append, List.map_append]
  exact h2
def nmsK (es : List EN) (k : Nat) : List (List UInt8) := (es.take k).map fun e => e.1.toList
theorem nmsK_len (es : List EN) {k : Nat} (h : k ≤ es.length) : (nmsK es k).length = k := by simp [nmsK]; omega
theorem nmsK_succ (es : List EN) {k : Nat} (h : k < es.length) : nmsK es k ++ [(es[k]?.getD en0).1.toList] = nmsK es (k + 1) := by
  unfold nmsK
  rw [List.take_add_one, List.getElem?_eq_getElem h, List.map_append]
  rfl
theorem nmsK_all (es : List EN) : nmsK es es.length = es.map fun e => e.1.toList := by unfold nmsK; rw [List.take_length]
theorem namesD_len (d : FD) (x : Int) : (namesD d x).2.length ≤ 6 := by
  unfold namesD
  by_cases h : dirQ d x = 0
  · rw [if_pos h]
    have := (dirS h).six
    simpa using this
  · rw [if_neg h]; simp

end Go.Proofs.Ytfdgfhcljjdcfaa

namespace Go.Proofs.Ytfdgfhcljjdcfaa
open Go.RowKit
set_option maxRecDepth 100000

/-- The entries without the one at a place. -/
def delE (es : List EN) (k : Nat) : List EN := es.take k ++ es.drop (k + 1)
theorem delE_len {es : List EN} {k : Nat} (h : k < es.length) : (delE es k).length = es.length - 1 := by
  unfold delE
  rw [List.length_append, List.length_take, List.length_drop]; omega
theorem delE_last {es : List EN} {k : Nat} (h : k + 1 = es.length) : delE es k = es.take k := by
  unfold delE
  rw [List.drop_of_length_le (by omega), List.append_nil]
theorem delE_get {es : List EN} {k : Nat} (h : k < es.length) (i : Nat) : (delE es k)[i]?.getD en0 = es[if i < k then i else i + 1]?.getD en0 := by
  unfold delE
  by_cases hi : i < k
  · rw [if_pos hi, List.getElem?_append_left (by rw [List.length_take]; omega), List.getElem?_take, if_pos hi]
  · rw [if_neg hi, List.getElem?_append_right (by rw [List.length_take]; omega), List.length_take, List.getElem?_drop, show k + 1 + (i - min k es.length) = i + 1 by omega]
theorem delE_size {es : List EN} {k : Nat} (h : k < es.length) (hz : ∀ k : Nat, (es[k]?.getD en0).1.size ≤ maxLen) (i : Nat) : ((delE es k)[i]?.getD en0).1.size ≤ maxLen := by
  rw [delE_get h]; exact hz _
/-- Entries of a directory that are right. -/
structure DirE (es : List EN) : Prop where
  six : es.length ≤ 6
  names : ∀ i, i < es.length → nameF (es[i]?.getD en0).1 = 0
  nums : ∀ i, i < es.length → 0 ≤ (es[i]?.getD en0).2 ∧ (es[i]?.getD en0).2 ≤ 9
  rises : Rises es
theorem dirF_E {es : List EN} (h : dirF es = 0) : DirE es := by
  obtain ⟨h1, h2, h3⟩ := dir_rises h
  refine ⟨h3, h2, fun i hi => ?_, h1⟩
  unfold dirF at h
  rw [if_neg (by omega)] at h
  have := fstNZ_inv h i hi
  unfold entF at this
  rw [if_pos (h2 i hi)] at this
  by_cases e : 0 ≤ (es[i]?.getD en0).2 ∧ (es[i]?.getD en0).2 ≤ 9
  · exact e
  · rw [if_neg e] at this; omega
theorem DirE.fault {es : List EN} (h : DirE es) : dirF es = 0 := by
  unfold dirF
  rw [if_neg (by have := h.six; omega)]
  refine fstNZ_zero fun i hi => ?_
  unfold entF
  rw [if_pos (h.names i hi), if_pos (h.nums i hi), if_neg]
  rintro ⟨h0, hs⟩
  have hr := h.rises (i - 1) (by omega)
  rw [show i - 1 + 1 = i by omega] at hr
  unfold strLe at hs
  rw [Bool.or_eq_true] at hs
  rcases hs with hs | hs
  · have := bl_trans hr hs
    rw [bl_irr] at this; exact absurd this (by decide)
  · have e : (es[i]?.getD en0).1.toList = (es[i - 1]?.getD en0).1.toList := by simpa using hs
    rw [e, bl_irr] at hr; exact absurd hr (by decide)
theorem DirE.del {es : List EN} (h : DirE es) {k : Nat} (hk : k < es.length) : DirE (delE es k) := by
  have hl := delE_len hk
  refine ⟨by have := h.six; omega, fun i hi => ?_, fun i hi => ?_, fun i hi => ?_⟩
  · rw [delE_get hk]; exact h.names _ (by split <;> omega)
  · rw [delE_get hk]; exact h.nums _ (by split <;> omega)
  · rw [delE_get hk, delE_get hk]
    by_cases h1 : i + 1 < k
    · rw [if_pos h1, if_pos (by omega)]; exact h.rises i (by omega)
    · rw [if_neg h1]
      by_cases h2 : i < k
      · rw [if_pos h2]; exact h.rises.lt (by omega) (by omega)
      · rw [if_neg h2]; exact h.rises (i + 1) (by omega)
/-- The list stays right where one inode turns to a right one. -/
theorem insF_set {ds : List ID} (h : insF ds = 0) (j : Nat) (x : ID) (hx : inoF x = 0) : insF (ds.set j x) = 0 := by
  have ht := insF_ten h
  unfold insF
  rw [List.length_set, if_neg (by omega)]
  refine fstNZ_zero fun i hi => ?_
  rw [List.getElem?_set]
  by_cases e : j = i
  · rw [if_pos e]
    by_cases hl : j < ds.length
    · rw [if_pos (by omega)]; exact hx
    · omega
  · rw [if_neg e]; exact ins_ino h i hi
theorem inoF_dir {x : ID} (hk : x.1 = 2) (h : inoF x = 0) {es : List EN} (he : DirE es) : inoF (x.1, x.2.1, x.2.2.1, [], es) = 0 := by
  unfold inoF at h ⊢
  rw [if_neg (by omega), if_neg (by omega), if_pos hk] at h
  dsimp only
  rw [if_neg (by omega), if_neg (by omega), if_pos hk]
  by_cases hf : fpB x = true
  · rw [if_pos hf] at h; omega
  · have hf2 : fpB (x.1, x.2.1, x.2.2.1, [], es) = false := by
      unfold fpB at hf ⊢
      simp at hf ⊢
      exact hf.1
    rw [hf2]
    exact he.fault
theorem nameF_size {s : ByteArray} (h : nameF s = 0) : s.size ≤ 4 ∧ 1 ≤ s.size := by
  unfold nameF at h
  by_cases h0 : s.size = 0
  · rw [if_pos h0] at h; omega
  · rw [if_neg h0] at h
    by_cases h1 : s.data.toList.all byB = true
    · rw [if_pos h1] at h
      by_cases h2 : 4 < s.size
      · rw [if_pos h2] at h; omega
      · omega
    · rw [if_neg h1] at h; omega
theorem nlens_four {es : List EN} (h : ∀ i, i < es.length → (es[i]?.getD en0).1.size ≤ 4) : (nlens es).sum ≤ 4 * es.length := by
  unfold nlens
  induction es with
  | nil => simp
  | cons x es ih =>
    have h0 := h 0 (by simp)
    have := ih fun i hi => by have := h (i + 1) (by simpa using hi); simpa using this
    simp at h0
    simp only [List.map_cons, List.sum_cons, List.length_cons, Nat.mul_add, Nat.mul_one]
    omega
theorem ino_small {x : ID} (h : inoF x = 0) : sizeIno x ≤ 40 := by
  have h1 := ino_size h
  have h6 := ino_six h
  have h4 : (nlens x.2.2.2.2).sum ≤ 4 * x.2.2.2.2.length := by
    by_cases hk : x.1 = 2
    · exact nlens_four fun i hi => (nameF_size ((dirF_E (ino_dir h hk)).names i hi)).1
    · have he : x.2.2.2.2.length = 0 := by
        unfold inoF at h
        have dp : dpB x = false → x.2.2.2.2.length = 0 := fun hd => by unfold dpB at hd; simp at hd; rw [hd]; rfl
        by_cases h0 : x.1 = 0
        · rw [if_pos h0] at h
          by_cases hd : dpB x = true
          · rw [hd, Bool.or_true, if_pos rfl] at h; omega
          · exact dp (by simpa using hd)
        · rw [if_neg h0] at h
          by_cases h1 : x.1 = 1
          · rw [if_pos h1] at h
            by_cases hd : dpB x = true
            · rw [if_pos hd] at h; omega
            · exact dp (by simpa using hd)
          · rw [if_neg h1, if_neg hk] at h; omega
      rw [List.eq_nil_of_length_eq_zero he]; simp [nlens]
  unfold sizeIno sizeN
  omega
theorem isz_each {ds : List ID} {m : Nat} (h : ∀ i : Nat, i < ds.length → sizeIno (ds[i]?.getD id0) ≤ m) : (isz ds).sum ≤ m * ds.length := by
  unfold isz
  induction ds with
  | nil => simp
  | cons x ds ih =>
    have h0 := h 0 (by simp)
    have := ih fun i hi => by have := h (i + 1) (by simpa using hi); simpa using this
    simp at h0
    simp only [List.map_cons, List.sum_cons, List.length_cons, Nat.mul_add, Nat.mul_one]
    omega
/-- Right inodes are small. -/
theorem ins_small {ds : List ID} (h : insF ds = 0) : sizeInos ds ≤ 410 := by
  have h1 := isz_each fun i hi => ino_small (ins_ino h i hi)
  have h2 := insF_ten h
  unfold sizeInos
  omega
theorem fs_small {d : FD} (h : insF d.1 = 0) (h20 : d.2.length = 20) (h8 : ∀ i : Nat, (d.2[i]?.getD []).length ≤ 8) : sizeFs d ≤ 1000 := by
  have h1 := ins_small h
  have h2 := ylens_eight h8
  unfold sizeFs sizeByts
  omega
end Go.Proofs.Ytfdgfhcljjdcfaa

namespace Go.Proofs.Ytfdgfhcljjdcfaa
open Go.RowKit
set_option maxRecDepth 100000

/-- All that is below a place, so deep at most. -/
def belL (ds : List ID) : Nat → List UInt8 → Nat → List (List UInt8)
  | 0, _, _ => []
  | k + 1, ah, t => (ds[t]?.getD id0).2.2.2.2.flatMap fun e => (ah ++ 47 :: e.1.toList) :: belL ds k (ah ++ 47 :: e.1.toList) e.2.toNat
/-- What the first q entries of a place tell. -/
def belK (ds : List ID) (k : Nat) (ah : List UInt8) (t q : Nat) : List (List UInt8) := ((ds[t]?.getD id0).2.2.2.2.take q).flatMap fun e => (ah ++ 47 :: e.1.toList) :: belL ds k (ah ++ 47 :: e.1.toList) e.2.toNat
theorem belK_zero (ds : List ID) (k : Nat) (ah : List UInt8) (t : Nat) : belK ds k ah t 0 = [] := by simp [belK]
theorem belK_succ {ds : List ID} {k : Nat} {ah : List UInt8} {t q : Nat} (h : q < (ds[t]?.getD id0).2.2.2.2.length) :
    belK ds k ah t (q + 1) = belK ds k ah t q ++ ((ah ++ 47 :: ((ds[t]?.getD id0).2.2.2.2[q]?.getD en0).1.toList) :: belL ds k (ah ++ 47 :: ((ds[t]?.getD id0).2.2.2.2[q]?.getD en0).1.toList) ((ds[t]?.getD id0).2.2.2.2[q]?.getD en0).2.toNat) := by
  unfold belK
  rw [List.take_add_one, List.getElem?_eq_getElem h, List.flatMap_append]
  simp
theorem belK_all (ds : List ID) (k : Nat) (ah : List UInt8) (t : Nat) : belK ds k ah t (ds[t]?.getD id0).2.2.2.2.length = belL ds (k + 1) ah t := by
  unfold belK
  rw [List.take_length]
  rfl
theorem belK_pre {ds : List ID} {k : Nat} {ah : List UInt8} {t q : Nat} : belK ds k ah t q <+: belL ds (k + 1) ah t := by
  rw [← belK_all]
  unfold belK
  rw [List.take_length]
  obtain ⟨r, hr⟩ := List.take_prefix q (ds[t]?.getD id0).2.2.2.2
  refine ⟨r.flatMap fun e => (ah ++ 47 :: e.1.toList) :: belL ds k (ah ++ 47 :: e.1.toList) e.2.toNat, ?_⟩
  rw [← List.flatMap_append, hr]
theorem belL_none {ds : List ID} {k : Nat} {ah : List UInt8} {t : Nat} (h : (ds[t]?.getD id0).2.2.2.2 = []) : belL ds k ah t = [] := by
  cases k with
  | zero => rfl
  | succ k => rw [belL, h]; rfl
/-- How many there are at most. -/
def belN : Nat → Nat
  | 0 => 0
  | k + 1 => 6 * (1 + belN k)
theorem flatM_len {α β : Type} {f : α → List β} {m : Nat} : ∀ (l : List α), (∀ x ∈ l, (f x).length ≤ m) → (l.flatMap f).length ≤ l.length * m
  | [], _ => by simp
  | x :: l, h => by
    rw [List.flatMap_cons, List.length_append, List.length_cons, Nat.add_mul, Nat.one_mul]
    have h1 := h x (by simp)
    have h2 := flatM_len l (fun y hy => h y (by simp [hy]))
    omega
theorem belL_len {ds : List ID} (h6 : ∀ i : Nat, (ds[i]?.getD id0).2.2.2.2.length ≤ 6) : ∀ (k : Nat) (ah : List UInt8) (t : Nat), (belL ds k ah t).length ≤ belN k
  | 0, _, _ => Nat.le_refl _
  | k + 1, ah, t => by
    have h1 := flatM_len (m := 1 + belN k) (f := fun e : EN => (ah ++ 47 :: e.1.toList) :: belL ds k (ah ++ 47 :: e.1.toList) e.2.toNat) (ds[t]?.getD id0).2.2.2.2 (fun e _ => by
      have := belL_len h6 k (ah ++ 47 :: e.1.toList) e.2.toNat
      simp only [List.length_cons]
      omega)
    have h2 := Nat.mul_le_mul_right (1 + belN k) (h6 t)
    exact Nat.le_trans h1 h2
theorem belK_len {ds : List ID} (h6 : ∀ i : Nat, (ds[i]?.getD id0).2.2.2.2.length ≤ 6) (k : Nat) (ah : List UInt8) (t q : Nat) : (belK ds k ah t q).length ≤ belN (k + 1) := Nat.le_trans belK_pre.length_le (belL_len h6 (k + 1) ah t)
theorem belN_le : ∀ {k : Nat}, k ≤ 6 → belN k ≤ 55986 := by
  intro k hk
  have : k = 0 ∨ k = 1 ∨ k = 2 ∨ k = 3 ∨ k = 4 ∨ k = 5 ∨ k = 6 := by omega
  rcases this with rfl | rfl | rfl | rfl | rfl | rfl | rfl <;> decide
/-- What is no directory has no entries, and names are short. -/
theorem ents_none {ds : List ID} (h : insF ds = 0) {t : Nat} (ht : t < ds.length) (hk : ¬ kindAt ds t = 2) : (ds[t]?.getD id0).2.2.2.2 = [] := by
  have hi := insF_each h t ht
  have hk' : ¬ (ds[t]?.getD id0).1 = 2 := hk
  generalize ds[t]?.getD id0 = x at *
  have hd : dpB x = true → inoF x = 1 := fun hd => by
    unfold inoF
    by_cases h0 : x.1 = 0
    · rw [if_pos h0, hd, Bool.or_true, if_pos rfl]
    · rw [if_neg h0]
      by_cases h1 : x.1 = 1
      · rw [if_pos h1, hd, if_pos rfl]
      · rw [if_neg h1, if_neg hk']
  cases hb : dpB x with
  | true => rw [hd hb] at hi; cases hi
  | false =>
    have : ¬ 0 < x.2.2.2.2.length := by simpa [dpB] using hb
    exact List.length_eq_zero_iff.1 (by omega)
theorem ents_four {ds : List ID} (h : insF ds = 0) {t q : Nat} (ht : t < ds.length) (hq : q < (ds[t]?.getD id0).2.2.2.2.length) : ((ds[t]?.getD id0).2.2.2.2[q]?.getD en0).1.toList.length ≤ 4 := by
  have hi := insF_each h t ht
  have hk : (ds[t]?.getD id0).1 = 2 := by
    by_cases hk : kindAt ds t = 2
    · exact hk
    · rw [ents_none h ht hk] at hq; simp at hq
  generalize ds[t]?.getD id0 = x at *
  have hd : dirF x.2.2.2.2 = 0 := by
    unfold inoF at hi
    rw [if_neg (by omega), if_neg (by omega), if_pos hk] at hi
    cases hf : fpB x with
    | true => rw [hf] at hi; simp at hi
    | false => rw [hf] at hi; simpa using hi
  have := nameF_four ((dir_rises hd).2.1 q hq)
  rw [ByteArray.toList_eq]
  simpa using this
/-- What PathsOf answers. -/
def pathsR (d : FD) : Int × List (List UInt8) := if fsF d = 0 then (0, (belL d.1 6 [] 0).take 60) else (fsF d, [])
theorem pathsR_len (d : FD) : (pathsR d).2.length ≤ 60 := by
  unfold pathsR
  split
  · simp only [List.length_take]; omega
  · simp
end Go.Proofs.Ytfdgfhcljjdcfaa

namespace Go.Proofs.Ytfdgfhcljjdcfaa
open Go.RowKit Go.Shelf
set_option maxRecDepth 100000

/-- What a caller owns between two rounds hangs on its own blocks alone. -/
def Stab {β : Type} (J : β → (Nat → Prop) → World → Prop) : Prop := ∀ s F W W', J s F W → Chg (fun b => ¬ F b) W W' → J s F W'
def Lts {β : Type} (J : β → (Nat → Prop) → World → Prop) : Prop := ∀ s F W, J s F W → ∀ b, F b → b < W.heap.size
/-- What is owned later was owned, or is new. -/
def NewF (F F' : Nat → Prop) (n : Nat) : Prop := ∀ b, F' b → F b ∨ n ≤ b
theorem NewF.refl (F : Nat → Prop) (n : Nat) : NewF F F n := fun _ h => Or.inl h
theorem NewF.trans {F G H : Nat → Prop} {n m : Nat} (h : NewF F G n) (k : NewF G H m) (hnm : n ≤ m) : NewF F H n := fun b hb => by
  rcases k b hb with h1 | h1
  · exact h b h1
  · exact Or.inr (Nat.le_trans hnm h1)
theorem Chg.step {F F' : Nat → Prop} {a b c : World} (h : Chg F a b) (hn : NewF F F' a.heap.size) (k : Chg F' b c) : Chg F a c :=
  ⟨k.os.trans h.os, k.tape.trans h.tape, k.output.trans h.output, Nat.le_trans h.size k.size, fun i hi hf => (k.block i (Nat.lt_of_lt_of_le hi h.size) (fun hg => by
    rcases hn i hg with h1 | h1
    · exact hf h1
    · omega)).trans (h.block i hi hf)⟩
theorem Chg.putObj {F : Nat → Prop} {w : World} {l : Nat} (h : F l) (o : Obj) : Chg F w (w.putObj l o) :=
  ⟨rfl, rfl, rfl, by simp, fun k _ hk => World.putObj_heap_other (fun e => hk (e ▸ h))⟩
theorem Chg.put1 (w : World) (l : Nat) (o : Obj) : Chg (fun b => b = l) w (w.putObj l o) := Chg.putObj (F := fun b => b = l) rfl o
/-- An iterator that tells xs, one behind the other, as long as it is let; it changes nothing but what is new. -/
def TellsP {α : Type} (P : Program) (g : Nat) (lb : Array Value) (encs : α → Array Value) (xs : List α) (F0 : Nat → Prop) (W : World) : Prop :=
  ∀ (l : Nat) (J Jx : List α → (Nat → Prop) → World → Prop), Stab J → Lts J → Stab Jx → Lts Jx → J [] F0 W →
    (∀ pre x F W1, J pre F W1 → Chg F0 W W1 → NewF F0 F W.heap.size → (pre ++ [x]) <+: xs → YieldAt Fence.wide 0 P l (encs x) W1 fun e W' => ∃ F', Chg F W1 W' ∧ NewF F F' W1.heap.size ∧
      ((e = .returned (.bool true) ∧ J (pre ++ [x]) F' W') ∨ (e = .returned (.bool false) ∧ Jx (pre ++ [x]) F' W'))) →
    CallsIn Fence.wide 0 P g (#[.func (.yield l) #[] #[]] ++ lb) W fun e W' => (∃ v, e = .returned v) ∧ ∃ F', Chg F0 W W' ∧ NewF F0 F' W.heap.size ∧ (J xs F' W' ∨ ∃ pre, pre <+: xs ∧ Jx pre F' W')
theorem RoundIn.wide {n m : Nat} {P : Program} {l k : Nat} {f : FuncId} {tmps : Array Value} {assign body : Code} {w : World} {R : Ending → World → Prop} (h : RoundIn Fence.wide n P l f tmps assign body w R) : RoundIn (Fence.wide.inRound k) m P l f tmps assign body w R :=
  ⟨trivial, fun c cs _ => h.2 c cs (room_wide _)⟩
theorem RoundIn.wide' {n m : Nat} {P : Program} {l : Nat} {f : FuncId} {tmps : Array Value} {assign body : Code} {w : World} {R : Ending → World → Prop} (h : RoundIn Fence.wide n P l f tmps assign body w R) : RoundIn Fence.wide m P l f tmps assign body w R :=
  ⟨trivial, fun c cs _ => h.2 c cs (room_wide _)⟩
/-- How a round may be left. -/
def ownPostT {α : Type} (I : List α → (Nat → Prop) → World → Prop) (Ix : Code → List α → (Nat → Prop) → World → Prop) (xs : List α) (F : Nat → Prop) (W : World) : Exit → Act → World → Prop
  | .normal, _, W' => ∃ F', Chg F W W' ∧ NewF F F' W.heap.size ∧ I xs F' W'
  | .ret, _, W' => ∃ F', Chg F W W' ∧ NewF F F' W.heap.size ∧ Ix .ret xs F' W'
  | .exit id, _, W' => ∃ F', Chg F W W' ∧ NewF F F' W.heap.size ∧ Ix (.exit id) xs F' W'
  | .goto t, _, W' => ∃ F', Chg F W W' ∧ NewF F F' W.heap.size ∧ Ix (.goto t) xs F' W'
  | .panic _, _, _ => False
  | .outgrown, _, _ => False
set_option maxHeartbeats 1600000 in
theorem wpIn_range_tells {P : Program} {α : Type} {g : Operand} {ps : Array Tmp} {assign body : Code} {Q : Exit → Act → World → Prop} {a : Act} {w : World} {n : Nat}
    {gf : Nat} {lb : Array Value} (hg : a.eval g = .func (.func gf) #[] lb) (eg : ∀ args w, (callFunc gf args).run P w = .ok (.enter gf args) w)
    {encs : α → Array Value} {xs : List α} (hps : ∀ x, (encs x).size = ps.size) (F0 : Nat → Prop)
    (hseq : ∀ W F1, Below w.heap.size w W → w.heap.size + 2 ≤ W.heap.size → (∀ b, F1 b ↔ F0 b ∨ b = w.heap.size ∨ b = w.heap.size + 1) → TellsP P gf lb encs xs F1 W)
    (I : List α → (Nat → Prop) → World → Prop) (Ix : Code → List α → (Nat → Prop) → World → Prop) (hI : Stab I) (hIl : Lts I) (hIx : ∀ c, Stab (Ix c)) (hIxl : ∀ c, Lts (Ix c)) (h0 : I [] F0 w) (a₁ : α → Act)
    (hassign : ∀ (l : Nat) (x : α) (W : World) (K : Act → World → Prop), K (a₁ x) W →
      assign.wpIn (Fence.wide.inRound l) 0 P (Exit.then K (fun _ _ _ => False)) { tmps := (ps.zip (encs x)).foldl (fun t (p, v) => t.setIfInBounds p v) a.tmps, defers := [] } W)
    (hbody : ∀ (l : Nat) (pre : List α) (x : α) (F : Nat → Prop) (W : World), I pre F W → Chg F0 w W → NewF F0 F w.heap.size → w.heap.size ≤ W.heap.size → (pre ++ [x]) <+: xs → body.wpIn (Fence.wide.inRound l) 0 P (ownPostT I Ix (pre ++ [x]) F W) (a₁ x) W)
    (hdone : ∀ (F : Nat → Prop) (W : World), I xs F W → Chg F0 w W → NewF F0 F w.heap.size → ¬ F w.heap.size → W.heap[w.heap.size]? = some (.deferred (some [])) → Q .normal { a with defers := { target := .collected w.heap.size, args := #[] } :: a.defers } W)
    (hstop : ∀ (c : Code) (pre : List α) (F : Nat → Prop) (W : World), pre <+: xs → Ix c pre F W → Chg F0 w W → NewF F0 F w.heap.size → ¬ F w.heap.size → W.heap[w.heap.size]? = some (.deferred (some [])) → c.wpIn Fence.wide n P Q { a with defers := { target := .collected w.heap.size, args := #[] } :: a.defers } W) :
    (Code.rangeFunc g ps assign body).wpIn Fence.wide n P Q a w := by
  refine wpIn_rangeFunc ?_
  intro fn hfn
  obtain ⟨rec, hrec⟩ : ∃ rec : LoopState → Option Code → Loop, rec = fun st pe => { state := st, pending := pe, fn, tmps := a.tmps, params := ps, assign, body, defers := w.heap.size } := ⟨_, rfl⟩
  obtain ⟨W1, hW1⟩ : ∃ W1, (w.alloc (.deferred (some []))).alloc (.loop (rec .ready none)) = W1 := ⟨_, rfl⟩
  have hL1 : W1.heap[w.heap.size + 1]? = some (.loop (rec .ready none)) := by
    rw [← hW1]; have := World.alloc_heap_new (w.alloc (.deferred (some []))) (.loop (rec .ready none)); rwa [World.size_alloc] at this
  have hK1 : W1.heap[w.heap.size]? = some (.deferred (some [])) := by
    rw [← hW1]; exact (Below.heap_alloc _ _ _ (by simp)).trans (World.alloc_heap_new w _)
  have hb1 : Below w.heap.size w W1 := by
    rw [← hW1]; exact ((Below.refl _ w).alloc (Nat.le_refl _) _).alloc (by simp) _
  have hsz1 : W1.heap.size = w.heap.size + 2 := by rw [← hW1]; simp
  have hF0 : ∀ b, F0 b → b < w.heap.size := hIl _ _ _ h0
  refine ⟨w.heap.size + 1, [{ target := .collected w.heap.size, args := #[] }], W1, { target := .fn (.func gf) lb, args := #[.func (.yield (w.heap.size + 1)) #[] #[]] }, W1, gf,
    #[.func (.yield (w.heap.size + 1)) #[] #[]] ++ lb, W1, ?_, ?_, ?_, ?_, fun h => by simp [Fence.wide] at h, ?_⟩
  · rw [← hW1, hrec]; exact run_enterLoop_outer _ _ _ _ _
  · simp only [resolve, hg]
    simp [go_sem]
  · intro f' _; trivial
  · simp [invoke, go_sem, eg]
  -- the caller's own blocks, with those of the loop
  obtain ⟨U, hU⟩ : ∃ U : (Nat → Prop) → Nat → Prop, U = fun F b => F b ∨ b = w.heap.size ∨ b = w.heap.size + 1 := ⟨_, rfl⟩
  have hUm : ∀ F b, F b → U F b := fun F b h => by rw [hU]; exact Or.inl h
  have hUd : ∀ F, U F w.heap.size := fun F => by rw [hU]; exact Or.inr (Or.inl rfl)
  have hUl : ∀ F, U F (w.heap.size + 1) := fun F => by rw [hU]; exact Or.inr (Or.inr rfl)
  have hUe : ∀ F b, U F b → F b ∨ b = w.heap.size ∨ b = w.heap.size + 1 := fun F b h => by rw [hU] at h; exact h
  have hUn : ∀ F F' m, w.heap.size + 2 ≤ m → NewF F F' m → NewF (U F) (U F') m := fun F F' m hm h b hb => by
    rcases hUe _ _ hb with h1 | h1 | h1
    · rcases h b h1 with h2 | h2
      · exact Or.inl (hUm _ _ h2)
      · exact Or.inr h2
    · subst h1; exact Or.inl (hUd _)
    · subst h1; exact Or.inl (hUl _)
  have call := hseq W1 (U F0) hb1 (by omega) (fun b => by rw [hU]) (w.heap.size + 1)
    (fun pre G W => ∃ F, G = U F ∧ ¬ F w.heap.size ∧ ¬ F (w.heap.size + 1) ∧ w.heap.size + 2 ≤ W.heap.size ∧ I pre F W ∧ W.heap[w.heap.size + 1]? = some (.loop (rec .ready none)) ∧ W.heap[w.heap.size]? = some (.deferred (some [])))
    (fun pre G W => ∃ F c, G = U F ∧ ¬ F w.heap.size ∧ ¬ F (w.heap.size + 1) ∧ w.heap.size + 2 ≤ W.heap.size ∧ Ix c pre F W ∧ W.heap[w.heap.size + 1]? = some (.loop (rec .done (some c))) ∧ W.heap[w.heap.size]? = some (.deferred (some [])))
    (fun s G W W' hs hc => by
      obtain ⟨F, rfl, h1, h2, h3, h4, h5, h6⟩ := hs
      exact ⟨F, rfl, h1, h2, Nat.le_trans h3 hc.size, hI _ _ _ _ h4 (hc.mono fun b hb hf => hb (hUm _ _ hf)), (hc.block _ (by omega) (fun hh => hh (hUl _))).trans h5, (hc.block _ (by omega) (fun hh => hh (hUd _))).trans h6⟩)
    (fun s G W hs b hb => by
      obtain ⟨F, rfl, h1, h2, h3, h4, h5, h6⟩ := hs
      rcases hUe _ _ hb with e | e | e
      · exact hIl _ _ _ h4 b e
      · omega
      · omega)
    (fun s G W W' hs hc => by
      obtain ⟨F, c, rfl, h1, h2, h3, h4, h5, h6⟩ := hs
      exact ⟨F, c, rfl, h1, h2, Nat.le_trans h3 hc.size, hIx _ _ _ _ _ h4 (hc.mono fun b hb hf => hb (hUm _ _ hf)), (hc.block _ (by omega) (fun hh => hh (hUl _))).trans h5, (hc.block _ (by omega) (fun hh => hh (hUd _))).trans h6⟩)
    (fun s G W hs b hb => by
      obtain ⟨F, c, rfl, h1, h2, h3, h4, h5, h6⟩ := hs
      rcases hUe _ _ hb with e | e | e
      · exact hIxl _ _ _ _ h4 b e
      · omega
      · omega)
    ⟨F0, rfl, fun h => by have := hF0 _ h; omega, fun h => by have := hF0 _ h; omega, by omega, hI _ _ _ _ h0 (Chg.of_below hb1), hL1, hK1⟩
    (by
      rintro pre x G W ⟨F, rfl, h1, h2, h3, h4, hl, hk⟩ hcG hnG hpre
      have hy := run_yield (P := P) (args := encs x) hl (by rw [hrec]; exact hps x)
      rw [hrec] at hy
      refine ⟨fn, _, assign, body, hy, roundIn_of_wpIn hfn (hassign _ x W _ ?_)⟩
      refine ⟨_, run_beginRound hl (by rw [hrec]), ?_⟩
      have hlt : w.heap.size + 1 < W.heap.size := by omega
      obtain ⟨W2, hW2⟩ : ∃ W2, W.putObj (w.heap.size + 1) (.loop { rec .ready none with state := .busy }) = W2 := ⟨_, rfl⟩
      have hc12 : Chg (fun b => b = w.heap.size + 1) W W2 := by rw [← hW2]; exact Chg.put1 _ _ _
      have hsz2 : W2.heap.size = W.heap.size := by rw [← hW2]; simp
      have hl2 : W2.heap[w.heap.size + 1]? = some (.loop { rec .ready none with state := .busy }) := by rw [← hW2]; exact World.putObj_heap_same hlt
      have hk2 : W2.heap[w.heap.size]? = some (.deferred (some [])) := (hc12.block _ (by omega) (by omega)).trans hk
      have hI2 : I pre F W2 := hI _ _ _ _ h4 (hc12.mono fun b hb hf => by subst hb; exact h2 hf)
      have hcW : Chg F0 w W := ⟨hcG.os.trans hb1.os, hcG.tape.trans hb1.tape, hcG.output.trans hb1.output, by have := hcG.size; omega, fun b hb hf => (hcG.block b (by omega) (fun hh => by
        rcases hUe _ _ hh with e | e | e
        · exact hf e
        · omega
        · omega)).trans (hb1.block b hb)⟩
      have hcW2 : Chg F0 w W2 := ⟨hc12.os.trans hcW.os, hc12.tape.trans hcW.tape, hc12.output.trans hcW.output, by have := hcW.size; omega, fun b hb hf => (hc12.block b (by omega) (by omega)).trans (hcW.block b hb hf)⟩
      have hnF : NewF F0 F w.heap.size := fun b hb => by
        rcases hnG b (hUm _ _ hb) with e | e
        · rcases hUe _ _ e with e | e | e
          · exact Or.inl e
          · exact Or.inr (by omega)
          · exact Or.inr (by omega)
        · exact Or.inr (by omega)
      rw [hW2]
      refine wpIn_mono (hbody _ pre x F W2 hI2 hcW2 hnF (by omega) hpre) ?_
      -- how the record stands behind the round
      have fin : ∀ (jump : Option Code) (F' : Nat → Prop) (W3 : World), Chg F W2 W3 → NewF F F' W2.heap.size →
          ∃ W4, (Instr.endRound (w.heap.size + 1) jump).run P W3 = .ok (.bool jump.isNone) W4 ∧ Chg (fun b => b = w.heap.size + 1) W3 W4 ∧
          ¬ F' w.heap.size ∧ ¬ F' (w.heap.size + 1) ∧ w.heap.size + 2 ≤ W4.heap.size ∧ Chg (U F) W W4 ∧ NewF (U F) (U F') W.heap.size ∧
          W4.heap[w.heap.size + 1]? = some (.loop (rec (if jump.isNone then .ready else .done) jump)) ∧ W4.heap[w.heap.size]? = some (.deferred (some [])) := fun jump F' W3 hc3 hn3 => by
        have hl3 : W3.heap[w.heap.size + 1]? = some (.loop { rec .ready none with state := .busy }) := (hc3.block _ (by omega) h2).trans hl2
        have hk3 : W3.heap[w.heap.size]? = some (.deferred (some [])) := (hc3.block _ (by omega) h1).trans hk2
        have hs3 := hc3.size
        have hr := run_endRound (P := P) jump hl3
        have hc34 : Chg (fun b => b = w.heap.size + 1) W3 (W3.putObj (w.heap.size + 1) (.loop (rec (if jump.isNone then .ready else .done) jump))) := Chg.put1 _ _ _
        refine ⟨_, by rw [hrec] at hr ⊢; exact hr, hc34, fun h => ?_, fun h => ?_, by simp; omega, ?_, ?_, World.putObj_heap_same (by omega), (hc34.block _ (by omega) (by omega)).trans hk3⟩
        · rcases hn3 _ h with e | e
          · exact h1 e
          · omega
        · rcases hn3 _ h with e | e
          · exact h2 e
          · omega
        · exact ((hc12.mono fun b hb => by subst hb; exact hUl _).trans (hc3.mono fun b hb => hUm _ _ hb)).trans (hc34.mono fun b hb => by subst hb; exact hUl _)
        · exact hUn _ _ _ (by omega) (by rw [hsz2] at hn3; exact hn3)
      rintro e a3 W3 hp
      cases e with
      | normal =>
        obtain ⟨F', hc3, hn3, hi3⟩ := hp
        obtain ⟨W4, hr, hc34, q1, q2, q3, q4, q5, q6, q7⟩ := fin none F' W3 hc3 hn3
        exact ⟨_, _, hr, U F', q4, q5, Or.inl ⟨rfl, F', rfl, q1, q2, q3, hI _ _ _ _ hi3 (hc34.mono fun b hb hf => by subst hb; exact q2 hf), q6, q7⟩⟩
      | ret =>
        obtain ⟨F', hc3, hn3, hi3⟩ := hp
        obtain ⟨W4, hr, hc34, q1, q2, q3, q4, q5, q6, q7⟩ := fin (some .ret) F' W3 hc3 hn3
        exact ⟨_, _, hr, U F', q4, q5, Or.inr ⟨rfl, F', _, rfl, q1, q2, q3, hIx _ _ _ _ _ hi3 (hc34.mono fun b hb hf => by subst hb; exact q2 hf), q6, q7⟩⟩
      | exit id =>
        obtain ⟨F', hc3, hn3, hi3⟩ := hp
        obtain ⟨W4, hr, hc34, q1, q2, q3, q4, q5, q6, q7⟩ := fin (some (.exit id)) F' W3 hc3 hn3
        exact ⟨_, _, hr, U F', q4, q5, Or.inr ⟨rfl, F', _, rfl, q1, q2, q3, hIx _ _ _ _ _ hi3 (hc34.mono fun b hb hf => by subst hb; exact q2 hf), q6, q7⟩⟩
      | goto t =>
        obtain ⟨F', hc3, hn3, hi3⟩ := hp
        obtain ⟨W4, hr, hc34, q1, q2, q3, q4, q5, q6, q7⟩ := fin (some (.goto t)) F' W3 hc3 hn3
        exact ⟨_, _, hr, U F', q4, q5, Or.inr ⟨rfl, F', _, rfl, q1, q2, q3, hIx _ _ _ _ _ hi3 (hc34.mono fun b hb hf => by subst hb; exact q2 hf), q6, q7⟩⟩
      | panic ch => exact hp.elim
      | outgrown => exact hp.elim)
  refine callsIn_wide.2 ((callsIn_wide.1 call).mono ?_)
  have leave : ∀ (G : Nat → Prop) (W2 : World), Chg (U F0) W1 W2 → Chg F0 w W2 := fun G W2 hc => ⟨hc.os.trans hb1.os, hc.tape.trans hb1.tape, hc.output.trans hb1.output, by have := hc.size; omega, fun b hb hf => (hc.block b (by omega) (fun hh => by
        rcases hUe _ _ hh with e | e | e
        · exact hf e
        · omega
        · omega)).trans (hb1.block b hb)⟩
  have newer : ∀ (F : Nat → Prop), NewF (U F0) (U F) W1.heap.size → NewF F0 F w.heap.size := fun F h b hb => by
    rcases h b (hUm _ _ hb) with e | e
    · rcases hUe _ _ e with e | e | e
      · exact Or.inl e
      · exact Or.inr (by omega)
      · exact Or.inr (by omega)
    · exact Or.inr (by omega)
  rintro e W2 ⟨⟨v, rfl⟩, G, hc, hn, (⟨F, rfl, q1, q2, q3, hi, hl, hk⟩ | ⟨pre, hpre, F, c, rfl, q1, q2, q3, hi, hl, hk⟩)⟩
  · have hr := run_endLoop (P := P) hl (by rw [hrec]; simp)
    have hce : Chg (fun b => b = w.heap.size + 1) W2 (W2.putObj (w.heap.size + 1) (.loop { rec .ready none with state := .exhausted })) := Chg.put1 _ _ _
    refine ⟨none, _, by rw [hrec] at hr; exact hr, ?_⟩
    have hcw := leave (U F) W2 hc
    have := hdone F _ (hI _ _ _ _ hi (hce.mono fun b hb hf => by subst hb; exact q2 hf)) ⟨hce.os.trans hcw.os, hce.tape.trans hcw.tape, hce.output.trans hcw.output, Nat.le_trans hcw.size hce.size, fun b hb hf => (hce.block b (by have := hcw.size; omega) (by omega)).trans (hcw.block b hb hf)⟩ (newer F hn) q1 ((hce.block _ (by omega) (by omega)).trans hk)
    rw [hrec] at this
    exact this
  · have hr := run_endLoop (P := P) hl (by rw [hrec]; simp)
    have hce : Chg (fun b => b = w.heap.size + 1) W2 (W2.putObj (w.heap.size + 1) (.loop { rec .done (some c) with state := .exhausted })) := Chg.put1 _ _ _
    refine ⟨some c, _, by rw [hrec] at hr; exact hr, ?_⟩
    have hcw := leave (U F) W2 hc
    have := hstop c pre F _ hpre (hIx _ _ _ _ _ hi (hce.mono fun b hb hf => by subst hb; exact q2 hf)) ⟨hce.os.trans hcw.os, hce.tape.trans hcw.tape, hce.output.trans hcw.output, Nat.le_trans hcw.size hce.size, fun b hb hf => (hce.block b (by have := hcw.size; omega) (by omega)).trans (hcw.block b hb hf)⟩ (newer F hn) q1 ((hce.block _ (by omega) (by omega)).trans hk)
    rw [hrec] at this
    exact this
abbrev markOf (D : Nat) : Deferred := { target := .collected D, args := #[] }
/-- A function leaves over the marks of its loops. -/
theorem leaves_marks {P : Program} {F : Fence} {n : Nat} {fn : Func} {tmps : Array Value} {R : Ending → World → Prop} : ∀ (ms : List Nat) (W : World), ms.Nodup → (∀ D ∈ ms, W.heap[D]? = some (.deferred (some []))) → (∀ W', Chg (fun b => b ∈ ms) W W' → LeavesIn F n P fn tmps R [] .returning W') → LeavesInM F n P fn tmps R (ms.map markOf) .returning W
  | [], W, _, _, h => h W (Chg.refl _ _)
  | D :: ms, W, hn, hd, h => by
    obtain ⟨h1, h2⟩ := List.nodup_cons.1 hn
    refine ⟨by simp, .inl ⟨D, _, rfl, run_takeDeferred (hd D (by simp)), leaves_marks ms _ h2 (fun E hE => ?_) (fun W' hc => h W' ?_)⟩⟩
    · exact (World.putObj_heap_other (k := E) (fun e => h1 (by subst e; exact hE))).trans (hd E (by simp [hE]))
    · exact ((Chg.put1 _ _ _).mono fun b hb => by subst hb; simp).trans (hc.mono fun b hb => by simp [hb])
end Go.Proofs.Ytfdgfhcljjdcfaa
