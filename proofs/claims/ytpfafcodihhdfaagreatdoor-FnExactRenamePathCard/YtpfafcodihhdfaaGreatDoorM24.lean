/- The program's AddName: an entry put into its place. Directories: what stays right where an entry goes; how great right inodes are. No program is named here. The program's DropName: an entry taken out of its place. The program's AddName: what it asks; places of a file system that are told. A directory's entry that is entered or struck where it lies. -/
import Derived.Test.YtpfafcodihhdfaaGreatDoorM23
import Derived.Test.YtpfafcodihhdfaaGreatDoorM16
namespace Go.Proofs.YtpfafcodihhdfaaGreatDoor
open Go.RowKit
set_option maxRecDepth 100000

/-- An entry in its place; entries and links of an inode turned. -/
def insE (es : List EN) (k : Nat) (e : EN) : List EN := es.take k ++ [e] ++ es.drop k
def entD (d : FD) (j : Nat) (es : List EN) : FD := (d.1.set j ((d.1[j]?.getD id0).1, (d.1[j]?.getD id0).2.1, (d.1[j]?.getD id0).2.2.1, [], es), d.2)
def lnkD (d : FD) (j : Nat) (l : Int) : FD := (d.1.set j ((d.1[j]?.getD id0).1, l, (d.1[j]?.getD id0).2.2), d.2)
def addD (d : FD) (j : Nat) (s : ByteArray) (y : Nat) : FD := if kindAt d.1 y = 1 then lnkD (entD d j (insE (entA d j) (plcE (entA d j) s) (s, (y : Int)))) y ((d.1[y]?.getD id0).2.1 + 1) else entD d j (insE (entA d j) (plcE (entA d j) s) (s, (y : Int)))
/-- AddName behind its first codes; AddName. -/
def addQ (d : FD) (j : Nat) (s : ByteArray) (y : Int) : Int × FD :=
  if idxE (entA d j) s < (entA d j).length then noFs 7 else if 0 ≤ y ∧ y < (d.1.length : Int) ∧ ¬ kindAt d.1 y.toNat = 0 then (if (entA d j).length = 6 ∨ (kindAt d.1 y.toNat = 1 ∧ 60 ≤ (d.1[y.toNat]?.getD id0).2.1) then noFs 2 else (0, addD d j s y.toNat)) else noFs 4
def addR (d : FD) (x : Int) (s : ByteArray) (y : Int) : Int × FD := if dirN d x s = 0 then addQ d x.toNat s y else noFs (dirN d x s)

set_option maxHeartbeats 800000 in
theorem entriesAhead_any (w : World) (aE : Option Addr) (n cE k : Nat) (hk : k ≤ n) (hc : n ≤ cE) (_hn : n ≤ 1048576) :
    Calls Tryz.prog 207 #[.slice aE n cE, .int .i64 (k : Int)] w fun e w' => e = .returned (.slice aE k k) ∧ w' = w := by
  have hkc : k ≤ cE := by omega
  go_enter Tryz.func207, Tryz.ntmps207
  go_wp2
  go_ret
  exact ⟨rfl, rfl⟩

/-- Where the entries from a place on lie, as the walk has it. -/
def tailE (aE : Option Addr) (cE k : Nat) : Option Addr := if cE = k then aE else Option.map (fun x => x.add (k * 2)) aE
theorem AtN.tail {w : World} {aE : Option Addr} {n cE k : Nat} {es : List EN} (h : AtN w aE n es) (hc : n ≤ cE) : AtN w (tailE aE cE k) (n - k) (es.drop k) := fun i hi => by
  obtain ⟨b, off, rfl, _⟩ := h 0 (by omega)
  unfold tailE
  rw [if_neg (by omega), Option.map_some, add_plain']
  exact h.drop k i hi
set_option maxHeartbeats 3200000 in
theorem withEntry_any (w : World) (aE : Option Addr) (n cE k : Nat) (es : List EN) (s : ByteArray) (y : Int) (hn : es.length = n) (hc : n ≤ cE) (hk : k ≤ n) (h6 : n ≤ 6) (hat : AtN w aE n es) (ha : aE = none → n = 0) :
    Calls Tryz.prog 166 #[.slice aE n cE, .int .i64 (k : Int), .agg #[.string s, .int .i64 y]] w fun e w' => ∃ v, e = .returned v ∧ WdE w' w.heap.size v (insE es k (s, y)) ∧ Below w.heap.size w w' := by
  have HEA : Hid (∀ W, Calls Tryz.prog 207 #[.slice aE n cE, .int .i64 (k : Int)] W fun e w' => e = .returned (.slice aE k k) ∧ w' = W) := fun W => entriesAhead_any W aE n cE k hk hc (by omega)
  have hb1 : Below w.heap.size w (((w.alloc (.cells #[.string s, .int .i64 y] 134)).drew).alloc (.cells #[.string s, .int .i64 y] 134)) := ((later1 _ _).drew).trans ((later1 _ _).mono (by simp))
  have hlit := lit1_E (w.alloc (.cells #[.string s, .int .i64 y] 134)).drew s y
  obtain ⟨v1, X1, hr1, hw1, hbx1⟩ := push_ahead _ 66 (es.take k) [(s, y)] aE k (by rw [List.length_take]; omega) ((hat.take k hk).later hb1) (fun e => by have := ha e; omega) _ 1 1 rfl (by omega) hlit (by omega)
  have hbx1' : Below w.heap.size w X1 := hb1.trans (hbx1.mono hb1.size)
  obtain ⟨v2, X2, hr2, hw2, hbx2⟩ := WdE.push X1 66 _ v1 _ (es.drop k) hw1 hbx1.size (tailE aE cE k) (n - k) (cE - k) (by rw [List.length_drop]; omega) ((hat.tail hc).later hbx1') (by rw [List.length_append, List.length_take]; simp; omega)
  rw [show (w.alloc (.cells #[.string s, .int .i64 y] 134)).drew.heap.size = w.heap.size + 1 by simp] at hr1
  have HR1 : Hid ((Builtin.append_ #[66, 66] 66 #[.slice aE k k, .slice (some ⟨w.heap.size + 1, 0, none⟩) 1 1]).run Tryz.prog (((w.alloc (.cells #[.string s, .int .i64 y] 134)).alloc (.cells #[.string s, .int .i64 y] 134)).drew) = .ok v1 X1) := hr1
  unfold tailE at hr2
  have HR2 : Hid (_ = _) := hr2
  obtain ⟨a1', c1', rfl⟩ := hw1.shape
  have hlen : (es.take k ++ [(s, y)]).length = k + 1 := by rw [List.length_append, List.length_take]; simp; omega
  rw [hlen] at HR1 HR2
  have HW2 : Hid (WdE X2 w.heap.size v2 (insE es k (s, y))) := by
    unfold Hid insE
    exact ownsRow_base hw2 hb1.size
  have HB2 : Hid (Below w.heap.size w X2) := hbx1'.trans (hbx2.mono hb1.size)
  have hkI : (k : Int) ≤ (n : Int) := by omega
  clear hb1 hlit hr1 hr2 hw1 hbx1 hbx1' hw2 hbx2 hat ha hn hlen
  go_enter Tryz.func166, Tryz.ntmps166
  go_wp2_with fail
  go_region_law (first
    | (refine step_append_run rfl _ _ 66 rfl _ _ rfl rfl _ _ HR1.out ?_; clear HR1)
    | (refine step_append_run rfl _ _ 66 rfl _ _ rfl rfl _ _ HR2.out ?_; clear HR2)
    | (try go_simp; go_at_call 207; refine (HEA.out _).mono ?_; rintro e w2 ⟨rfl, rfl⟩)
    | fail)
  all_goals
    go_wp2
    all_goals
      go_ret
      exact ⟨_, rfl, HW2.out, HB2.out⟩
end Go.Proofs.YtpfafcodihhdfaaGreatDoor

namespace Go.Proofs.YtpfafcodihhdfaaGreatDoor
open Go.RowKit
set_option maxRecDepth 100000

/-- The entries without the one at a place. -/
def delE (es : List EN) (k : Nat) : List EN := es.take k ++ es.drop (k + 1)
theorem delE_len {es : List EN} {k : Nat} (h : k < es.length) : (delE es k).length = es.length - 1 := by
  unfold delE
  rw [List.length_append, List.length_take, List.length_drop]; omega
theorem delE_last {es : List EN} {k : Nat} (h : k + 1 = es.length) : delE es k = es.take k := by
  unfold delE
  rw [List.drop_of_length_le (by omega), List.append_nil]
theorem delE_get {es : List EN} {k : Nat} (h : k < es.length) (i : Nat) : (delE es k)[i]?.getD en0 = es[if i < k then i else i + 1]?.getD en0 := by
  unfold delE
  by_cases hi : i < k
  · rw [if_pos hi, List.getElem?_append_left (by rw [List.length_take]; omega), List.getElem?_take, if_pos hi]
  · rw [if_neg hi, List.getElem?_append_right (by rw [List.length_take]; omega), List.length_take, List.getElem?_drop, show k + 1 + (i - min k es.length) = i + 1 by omega]
theorem delE_size {es : List EN} {k : Nat} (h : k < es.length) (hz : ∀ k : Nat, (es[k]?.getD en0).1.size ≤ maxLen) (i : Nat) : ((delE es k)[i]?.getD en0).1.size ≤ maxLen := by
  rw [delE_get h]; exact hz _
/-- Entries of a directory that are right. -/
structure DirE (es : List EN) : Prop where
  six : es.length ≤ 6
  names : ∀ i, i < es.length → nameF (es[i]?.getD en0).1 = 0
  nums : ∀ i, i < es.length → 0 ≤ (es[i]?.getD en0).2 ∧ (es[i]?.getD en0).2 ≤ 9
  rises : Rises es
theorem dirF_E {es : List EN} (h : dirF es = 0) : DirE es := by
  obtain ⟨h1, h2, h3⟩ := dir_rises h
  refine ⟨h3, h2, fun i hi => ?_, h1⟩
  unfold dirF at h
  rw [if_neg (by omega)] at h
  have := fstNZ_inv h i hi
  unfold entF at this
  rw [if_pos (h2 i hi)] at this
  by_cases e : 0 ≤ (es[i]?.getD en0).2 ∧ (es[i]?.getD en0).2 ≤ 9
  · exact e
  · rw [if_neg e] at this; omega
theorem DirE.fault {es : List EN} (h : DirE es) : dirF es = 0 := by
  unfold dirF
  rw [if_neg (by have := h.six; omega)]
  refine fstNZ_zero fun i hi => ?_
  unfold entF
  rw [if_pos (h.names i hi), if_pos (h.nums i hi), if_neg]
  rintro ⟨h0, hs⟩
  have hr := h.rises (i - 1) (by omega)
  rw [show i - 1 + 1 = i by omega] at hr
  unfold strLe at hs
  rw [Bool.or_eq_true] at hs
  rcases hs with hs | hs
  · have := bl_trans hr hs
    rw [bl_irr] at this; exact absurd this (by decide)
  · have e : (es[i]?.getD en0).1.toList = (es[i - 1]?.getD en0).1.toList := by simpa using hs
    rw [e, bl_irr] at hr; exact absurd hr (by decide)
theorem DirE.del {es : List EN} (h : DirE es) {k : Nat} (hk : k < es.length) : DirE (delE es k) := by
  have hl := delE_len hk
  refine ⟨by have := h.six; omega, fun i hi => ?_, fun i hi => ?_, fun i hi => ?_⟩
  · rw [delE_get hk]; exact h.names _ (by split <;> omega)
  · rw [delE_get hk]; exact h.nums _ (by split <;> omega)
  · rw [delE_get hk, delE_get hk]
    by_cases h1 : i + 1 < k
    · rw [if_pos h1, if_pos (by omega)]; exact h.rises i (by omega)
    · rw [if_neg h1]
      by_cases h2 : i < k
      · rw [if_pos h2]; exact h.rises.lt (by omega) (by omega)
      · rw [if_neg h2]; exact h.rises (i + 1) (by omega)
/-- The list stays right where one inode turns to a right one. -/
theorem insF_set {ds : List ID} (h : insF ds = 0) (j : Nat) (x : ID) (hx : inoF x = 0) : insF (ds.set j x) = 0 := by
  have ht := insF_ten h
  unfold insF
  rw [List.length_set, if_neg (by omega)]
  refine fstNZ_zero fun i hi => ?_
  rw [List.getElem?_set]
  by_cases e : j = i
  · rw [if_pos e]
    by_cases hl : j < ds.length
    · rw [if_pos (by omega)]; exact hx
    · omega
  · rw [if_neg e]; exact ins_ino h i hi
theorem inoF_dir {x : ID} (hk : x.1 = 2) (h : inoF x = 0) {es : List EN} (he : DirE es) : inoF (x.1, x.2.1, x.2.2.1, [], es) = 0 := by
  unfold inoF at h ⊢
  rw [if_neg (by omega), if_neg (by omega), if_pos hk] at h
  dsimp only
  rw [if_neg (by omega), if_neg (by omega), if_pos hk]
  by_cases hf : fpB x = true
  · rw [if_pos hf] at h; omega
  · have hf2 : fpB (x.1, x.2.1, x.2.2.1, [], es) = false := by
      unfold fpB at hf ⊢
      simp at hf ⊢
      exact hf.1
    rw [hf2]
    exact he.fault
theorem nameF_size {s : ByteArray} (h : nameF s = 0) : s.size ≤ 4 ∧ 1 ≤ s.size := by
  unfold nameF at h
  by_cases h0 : s.size = 0
  · rw [if_pos h0] at h; omega
  · rw [if_neg h0] at h
    by_cases h1 : s.data.toList.all byB = true
    · rw [if_pos h1] at h
      by_cases h2 : 4 < s.size
      · rw [if_pos h2] at h; omega
      · omega
    · rw [if_neg h1] at h; omega
theorem nlens_four {es : List EN} (h : ∀ i, i < es.length → (es[i]?.getD en0).1.size ≤ 4) : (nlens es).sum ≤ 4 * es.length := by
  unfold nlens
  induction es with
  | nil => simp
  | cons x es ih =>
    have h0 := h 0 (by simp)
    have := ih fun i hi => by have := h (i + 1) (by simpa using hi); simpa using this
    simp at h0
    simp only [List.map_cons, List.sum_cons, List.length_cons, Nat.mul_add, Nat.mul_one]
    omega
theorem ino_small {x : ID} (h : inoF x = 0) : sizeIno x ≤ 40 := by
  have h1 := ino_size h
  have h6 := ino_six h
  have h4 : (nlens x.2.2.2.2).sum ≤ 4 * x.2.2.2.2.length := by
    by_cases hk : x.1 = 2
    · exact nlens_four fun i hi => (nameF_size ((dirF_E (ino_dir h hk)).names i hi)).1
    · have he : x.2.2.2.2.length = 0 := by
        unfold inoF at h
        have dp : dpB x = false → x.2.2.2.2.length = 0 := fun hd => by unfold dpB at hd; simp at hd; rw [hd]; rfl
        by_cases h0 : x.1 = 0
        · rw [if_pos h0] at h
          by_cases hd : dpB x = true
          · rw [hd, Bool.or_true, if_pos rfl] at h; omega
          · exact dp (by simpa using hd)
        · rw [if_neg h0] at h
          by_cases h1 : x.1 = 1
          · rw [if_pos h1] at h
            by_cases hd : dpB x = true
            · rw [if_pos hd] at h; omega
            · exact dp (by simpa using hd)
          · rw [if_neg h1, if_neg hk] at h; omega
      rw [List.eq_nil_of_length_eq_zero he]; simp [nlens]
  unfold sizeIno sizeN
  omega
theorem isz_each {ds : List ID} {m : Nat} (h : ∀ i : Nat, i < ds.length → sizeIno (ds[i]?.getD id0) ≤ m) : (isz ds).sum ≤ m * ds.length := by
  unfold isz
  induction ds with
  | nil => simp
  | cons x ds ih =>
    have h0 := h 0 (by simp)
    have := ih fun i hi => by have := h (i + 1) (by simpa using hi); simpa using this
    simp at h0
    simp only [List.map_cons, List.sum_cons, List.length_cons, Nat.mul_add, Nat.mul_one]
    omega
/-- Right inodes are small. -/
theorem ins_small {ds : List ID} (h : insF ds = 0) : sizeInos ds ≤ 410 := by
  have h1 := isz_each fun i hi => ino_small (ins_ino h i hi)
  have h2 := insF_ten h
  unfold sizeInos
  omega
theorem fs_small {d : FD} (h : insF d.1 = 0) (h20 : d.2.length = 20) (h8 : ∀ i : Nat, (d.2[i]?.getD []).length ≤ 8) : sizeFs d ≤ 1000 := by
  have h1 := ins_small h
  have h2 := ylens_eight h8
  unfold sizeFs sizeByts
  omega
end Go.Proofs.YtpfafcodihhdfaaGreatDoor

namespace Go.Proofs.YtpfafcodihhdfaaGreatDoor
open Go.RowKit
set_option maxRecDepth 100000

theorem OwnRow.less {w : World} {b n m : Nat} {f : Nat → Value} (h : OwnRow w b n f) (hm : m ≤ n) : OwnRow w b m f := by
  obtain ⟨cur, t, h1, h2, h3⟩ := h
  exact ⟨cur, t, h1, by omega, fun i hi => h3 i (by omega)⟩
/-- A beginning of entries in own memory. -/
theorem EntsO.take {w : World} {a : Option Addr} {n c : Nat} {es : List EN} {F : Nat → Prop} (h : EntsO w (.slice a n c) es F) (k : Nat) (hk : k ≤ n) : EntsO w (.slice a k k) (es.take k) F := by
  rcases h with ⟨rfl, _, _, e⟩ | ⟨b, cap, hF, e, ⟨h1, h2, h3⟩, h4⟩
  · simp only [Value.slice.injEq] at e
    obtain ⟨rfl, rfl, rfl⟩ := e
    have : k = 0 := by omega
    subst this
    exact Or.inl ⟨rfl, _, _, rfl⟩
  · simp only [Value.slice.injEq] at e
    obtain ⟨rfl, rfl, rfl⟩ := e
    have hl : (es.take k).length = k := by rw [List.length_take]; omega
    have hg : ∀ i : Nat, i < k → (es.take k)[i]?.getD en0 = es[i]?.getD en0 := fun i hi => by rw [List.getElem?_take, if_pos hi]
    refine Or.inr ⟨b, k, hF, by rw [hl], ⟨by omega, by omega, fun i => ?_⟩, ?_⟩
    · by_cases hi : i < k
      · rw [hg i hi]; exact h3 i
      · rw [List.getElem?_take, if_neg hi]; simp [en0, ByteArray.size]
    · rw [hl]
      refine (h4.less (by omega)).congr fun i hi => ?_
      unfold enCell
      rw [hg _ (by omega)]
theorem append_none (w : World) (ty : TypeId) (av : Option Addr) (k : Nat) (a : Option Addr) (c : Nat) : (Builtin.append_ #[66, 66] ty #[.slice av k k, .slice a 0 c]).run Tryz.prog w = .ok (.slice av k k) w := by
  obtain ⟨i, hi, _, _, _⟩ := Tryz.infoEnt'
  cases a <;> cases av <;> simp [Builtin.append_, run_underlying Tryz.underlying66, sizeOf, typeInfo, hi, Builtin.lenOf, Builtin.firstCells, storeCells, loadCells, loadCellsFrom]
set_option maxHeartbeats 3200000 in
theorem withoutEntry_any (w : World) (aE : Option Addr) (n cE k : Nat) (es : List EN) (hn : es.length = n) (hc : n ≤ cE) (hk : k < n) (h6 : n ≤ 6) (hat : AtN w aE n es) (ha : aE = none → n = 0) :
    Calls Tryz.prog 165 #[.slice aE n cE, .int .i64 (k : Int)] w fun e w' => ∃ v, e = .returned v ∧ Below w.heap.size w w' ∧ ((k + 1 < n ∧ WdE w' w.heap.size v (delE es k)) ∨ (k + 1 = n ∧ v = .slice aE k k)) := by
  have HEA : Hid (∀ W, Calls Tryz.prog 207 #[.slice aE n cE, .int .i64 (k : Int)] W fun e w' => e = .returned (.slice aE k k) ∧ w' = W) := fun W => entriesAhead_any W aE n cE k (by omega) hc (by omega)
  obtain ⟨v1, X1, hr1, hfin⟩ : ∃ v1 X1, (Builtin.append_ #[66, 66] 66 #[.slice aE k k, .slice (tailE aE cE (k + 1)) (n - (k + 1)) (cE - (k + 1))]).run Tryz.prog w.drew = .ok v1 X1 ∧ (Below w.heap.size w X1 ∧ ((k + 1 < n ∧ WdE X1 w.heap.size v1 (delE es k)) ∨ (k + 1 = n ∧ v1 = .slice aE k k))) := by
    by_cases hl : k + 1 = n
    · have e0 : n - (k + 1) = 0 := by omega
      rw [e0]
      exact ⟨_, w.drew, append_none w.drew _ aE k _ _, (Below.refl _ _).drew, Or.inr ⟨hl, rfl⟩⟩
    · obtain ⟨v1, X1, hr1, hw1, hbx1⟩ := push_ahead w.drew 66 (es.take k) (es.drop (k + 1)) aE k (by rw [List.length_take]; omega) ((hat.take k (by omega)).later (Below.refl _ _).drew) (fun e => by have := ha e; omega) (tailE aE cE (k + 1)) (n - (k + 1)) (cE - (k + 1)) (by rw [List.length_drop]; omega) (by omega) ((hat.tail hc).later (Below.refl _ _).drew) (by omega)
      exact ⟨v1, X1, hr1, (Below.refl _ _).drew.trans hbx1, Or.inl ⟨by omega, hw1⟩⟩
  unfold tailE at hr1
  have HR1 : Hid (_ = _) := hr1
  have HFIN : Hid (Below w.heap.size w X1 ∧ ((k + 1 < n ∧ WdE X1 w.heap.size v1 (delE es k)) ∨ (k + 1 = n ∧ v1 = .slice aE k k))) := hfin
  obtain ⟨k1, hk1⟩ : ∃ k1, k + 1 = k1 := ⟨_, rfl⟩
  have hwr : IntKind.i64.wrap ((k : Int) + 1) = (k1 : Int) := by
    rw [show (k : Int) + 1 = (k1 : Int) by omega]
    exact wrap_in _ (by omega) (by omega)
  have hkI : (k1 : Int) ≤ (n : Int) := by omega
  have hkN : k1 ≤ n := by omega
  rw [hk1] at HR1
  clear hr1 hfin hat ha hn hk1
  go_enter Tryz.func165, Tryz.ntmps165
  go_wp2_with fail
  go_region_law (first
    | (refine step_append_run rfl _ _ 66 rfl _ _ rfl rfl _ _ HR1.out ?_; clear HR1)
    | (try go_simp; go_at_call 207; refine (HEA.out _).mono ?_; rintro e w2 ⟨rfl, rfl⟩)
    | fail)
  all_goals
    go_wp2
    all_goals
      go_ret
      exact ⟨_, rfl, HFIN.out⟩
/-- The entries of an inode cut to a beginning of them, where they lie. -/
theorem FsS.entCut {w : World} {bI n cI bD cD : Nat} {d : FD} {F : Nat → Prop} (hfs : FsS w bI n cI bD 20 cD d F) (j : Nat) (hj : j < n) (hblk : (d.1[j]?.getD id0).2.2.2.1 = []) {aE : Option Addr} {m cE : Nat} (hc4 : w.cell? ⟨bI, j * 5 + 4, none⟩ = some (.slice aE m cE)) (k : Nat) (hk : k ≤ m) :
    FsS (w.setCell ⟨bI, j * 5 + 4, none⟩ (.slice aE k k)) bI n cI bD 20 cD (entD d j ((entA d j).take k)) F := by
  have h1 : Chg (fun c => c = bI) w (w.setCell ⟨bI, j * 5 + 4, none⟩ (.slice aE k k)) := Chg.set (F := fun c => c = bI) (Chg.refl _ w) rfl (j * 5 + 4) _
  obtain ⟨F1, G1, ⟨g0, gm, u, G, g1, g2, g3, g4, g5⟩, h2, h3, h4⟩ := hfs
  have e4 : (u j).2 = .slice aE m cE := by
    have := g4.cell (i := j * 5 + 4) (by omega)
    rw [hc4, inCell_4] at this
    exact (Option.some.inj this).symm
  unfold entD
  refine ⟨F1, G1, ⟨by simpa using g0, gm, fun i => if i = j then ((u j).1, .slice aE k k) else u i, G, g1, g2, g3, ?_, fun i hi => ?_⟩, h2.keep fun c hc hlt => h1.block c hlt fun e => h3 bI g1 (e ▸ hc), h3, fun b hb => ⟨(h4 b hb).1, by simpa [World.setCell] using (h4 b hb).2⟩⟩
  · refine (g4.set (j * 5 + 4) _).congr fun c _ => ?_
    rw [inCell_set d.1 u j (by omega)]
    by_cases q4 : c = j * 5 + 4
    · rw [if_pos q4, if_neg (by omega), if_neg (by omega), if_neg (by omega), if_neg (by omega)]
    · rw [if_neg q4]
      by_cases q0 : c = j * 5
      · rw [if_pos q0, q0, inCell_0]
      · rw [if_neg q0]
        by_cases q1 : c = j * 5 + 1
        · rw [if_pos q1, q1, inCell_1]
        · rw [if_neg q1]
          by_cases q2 : c = j * 5 + 2
          · rw [if_pos q2, q2, inCell_2]
          · rw [if_neg q2]
            by_cases q3 : c = j * 5 + 3
            · rw [if_pos q3, q3, inCell_3]
            · rw [if_neg q3]
  · dsimp only
    rw [set_getD _ _ _ _ _ (by omega)]
    have hk2 : ∀ c, G i c → c < w.heap.size → (w.setCell ⟨bI, j * 5 + 4, none⟩ (.slice aE k k)).heap[c]? = w.heap[c]? := fun c hc hlt => h1.block c hlt fun e => (g2 i c hc).2 e
    by_cases e : i = j
    · rw [if_pos e]
      simp only [e, if_true]
      have hv := (g5 i hi).keep hk2
      rw [e] at hv
      obtain ⟨⟨_, _, _, hcap⟩, P, Q, p1, p2, p3, p4⟩ := hv
      rw [e4] at p2
      rw [hblk] at p1
      exact ⟨⟨rfl, rfl, rfl, hcap⟩, P, Q, p1, p2.take k hk, p3, by rw [e] at *; exact p4⟩
    · rw [if_neg e]
      simp only [e, if_false]
      exact (g5 i hi).keep hk2
end Go.Proofs.YtpfafcodihhdfaaGreatDoor

namespace Go.Proofs.YtpfafcodihhdfaaGreatDoor
open Go.RowKit
set_option maxRecDepth 100000

theorem cloneS_any (w : World) (s : ByteArray) (hs : s.size ≤ 1048576) : Calls Tryz.prog 116 #[.string s] w fun e w' => e = .returned (.string s) ∧ Below w.heap.size w w' := by
  have := clone_any w s.data.toList (by have : s.data.toList.length = s.size := Array.length_toList; omega)
  rw [mkB_data] at this
  exact this
set_option maxHeartbeats 800000 in
theorem takesLink_any (w : World) (x0 x1 x2 : Int) (v3 v4 : Value) : Calls Tryz.prog 115 #[.agg #[.int .i64 x0, .int .i64 x1, .int .i64 x2, v3, v4]] w fun e w' => e = .returned (.bool (decide (¬ (x0 = 1 ∧ 60 ≤ x1)))) ∧ Below w.heap.size w w' := by
  by_cases h1 : x0 = 1
  · have hb : (x0 != 1) = false := by simpa using h1
    have HE : Hid (decide (x1 < 60) = decide (¬ (x0 = 1 ∧ 60 ≤ x1))) := by
      unfold Hid
      by_cases h2 : x1 < 60
      · rw [decide_eq_true h2, decide_eq_true (by omega)]
      · rw [decide_eq_false h2, decide_eq_false (by omega)]
    clear h1
    go_enter Tryz.func115, Tryz.ntmps115
    go_wp2
    go_ret
    exact ⟨ret_bool HE.out, later1 _ _⟩
  · have hb : (x0 != 1) = true := by simpa using h1
    have HE : Hid (decide (¬ (x0 = 1 ∧ 60 ≤ x1)) = true) := by unfold Hid; exact decide_eq_true (by omega)
    clear h1
    go_enter Tryz.func115, Tryz.ntmps115
    go_wp2
    go_ret
    exact ⟨ret_bool HE.out.symm, later1 _ _⟩
/-- What lies at a place. -/
theorem FsR.five {w : World} {b0 o0 n1 c1 : Nat} {v2 : Value} {d : FD} (h : FsR w (.slice (some ⟨b0, o0, none⟩) n1 c1) v2 d) {j : Nat} (hj : j < d.1.length) : ∃ aB cB aE cE, w.cell? ⟨b0, o0 + j * 5, none⟩ = some (.int .i64 (d.1[j]?.getD id0).1) ∧ w.cell? ⟨b0, o0 + j * 5 + 1, none⟩ = some (.int .i64 (d.1[j]?.getD id0).2.1) ∧ w.cell? ⟨b0, o0 + j * 5 + 2, none⟩ = some (.int .i64 (d.1[j]?.getD id0).2.2.1) ∧ w.cell? ⟨b0, o0 + j * 5 + 3, none⟩ = some (.slice aB (d.1[j]?.getD id0).2.2.2.1.length cB) ∧ w.cell? ⟨b0, o0 + j * 5 + 4, none⟩ = some (.slice aE (entA d j).length cE) ∧ Ents w (.slice aE (entA d j).length cE) (entA d j) := by
  obtain ⟨_, _, e1, _, hAt⟩ := h.1.open'
  simp only [Value.slice.injEq] at e1
  obtain ⟨rfl, rfl, rfl⟩ := e1
  obtain ⟨b, o, e, hI⟩ := hAt j hj
  simp only [Option.some.injEq, Addr.mk.injEq, and_true] at e
  obtain ⟨rfl, rfl⟩ := e
  obtain ⟨aB, cB, aE, cE, k0, k1, k2, k3, k4, hR⟩ := hI
  exact ⟨aB, cB, aE, cE, k0, k1, k2, k3, k4, hR.2.2⟩
theorem Ents.cap {w : World} {a : Option Addr} {n c : Nat} {es : List EN} (h : Ents w (.slice a n c) es) : es.length = n ∧ n ≤ c ∧ AtN w a n es ∧ (a = none → n = 0) ∧ ∀ k : Nat, (es[k]?.getD en0).1.size ≤ maxLen := by
  obtain ⟨a', c', e, ⟨_, h2, h3⟩, h4⟩ := h
  simp only [Value.slice.injEq] at e
  obtain ⟨rfl, rfl, rfl⟩ := e
  refine ⟨rfl, h2, h4, fun e => ?_, h3⟩
  by_cases h0 : es.length = 0
  · exact h0
  · obtain ⟨b, off, e2, _⟩ := h4 0 (by omega)
    rw [e] at e2
    simp at e2
theorem dir_blk {x : ID} (h : inoF x = 0) (hk : x.1 = 2) : x.2.2.2.1 = [] := by
  unfold inoF at h
  rw [if_neg (by omega), if_neg (by omega), if_pos hk] at h
  by_cases hd : fpB x = true
  · rw [if_pos hd] at h; omega
  · unfold fpB at hd
    simp at hd
    exact hd.2
theorem insE_size {es : List EN} {k : Nat} {s : ByteArray} {y : Int} (hz : ∀ k : Nat, (es[k]?.getD en0).1.size ≤ maxLen) (hs : s.size ≤ maxLen) (i : Nat) : ((insE es k (s, y))[i]?.getD en0).1.size ≤ maxLen := by
  have h0 : (en0 : EN).1.size ≤ maxLen := by simp [en0, ByteArray.size]
  have hm : ∀ e ∈ insE es k (s, y), e.1.size ≤ maxLen := fun e he => by
    unfold insE at he
    have hall : ∀ e ∈ es, e.1.size ≤ maxLen := fun e he => by
      obtain ⟨i, hi, rfl⟩ := List.mem_iff_getElem.1 he
      have := hz i
      rw [List.getElem?_eq_getElem hi] at this
      exact this
    rcases List.mem_append.1 he with he | he
    · rcases List.mem_append.1 he with he | he
      · exact hall e (List.mem_of_mem_take he)
      · simp at he; rw [he]; exact hs
    · exact hall e (List.mem_of_mem_drop he)
  cases hq : (insE es k (s, y))[i]? with
  | none => exact h0
  | some e => exact hm e (List.mem_of_getElem? hq)

theorem ino_lnk {x : ID} (h : inoF x = 0) (hk : x.1 = 1) : 1 ≤ x.2.1 ∧ x.2.1 ≤ 60 := by
  unfold inoF at h
  rw [if_neg (by omega), if_pos hk] at h
  by_cases hd : dpB x = true
  · rw [if_pos hd] at h; omega
  · rw [if_neg hd] at h
    unfold fileF at h
    by_cases hl : linkB x.2.1 = true ∧ sizeB x.2.2.1 = true
    · have := hl.1
      unfold linkB at this
      simpa using this
    · rw [if_neg hl] at h; omega
theorem entD_kind (d : FD) (j z : Nat) (es : List EN) (hj : j < d.1.length) : ((entD d j es).1[z]?.getD id0).1 = (d.1[z]?.getD id0).1 ∧ ((entD d j es).1[z]?.getD id0).2.1 = (d.1[z]?.getD id0).2.1 := by
  unfold entD
  dsimp only
  rw [set_getD _ _ _ _ _ hj]
  by_cases e : z = j
  · rw [if_pos e, e]; exact ⟨rfl, rfl⟩
  · rw [if_neg e]; exact ⟨rfl, rfl⟩
/-- What is answered where a file system in own memory is in a box. -/
theorem AnsFR.box {w W : World} {bI n cI bD cD rb : Nat} {d : FD} {F : Nat → Prop} (hB : Below w.heap.size w W) (hrb : w.heap.size ≤ rb) (h : FsS W bI n cI bD 20 cD d F) (hF : ∀ c, F c → w.heap.size ≤ c ∧ c ≠ rb) (x y z : Value) : AnsFR w (0, d) (.returned (.agg #[.int .i64 0, .slice (some ⟨bI, 0, none⟩) n cI, .slice (some ⟨bD, 0, none⟩) 20 cD])) (((W.setCell ⟨rb, 0, none⟩ x).setCell ⟨rb, 1, none⟩ y).setCell ⟨rb, 2, none⟩ z) :=
  AnsFR.put hB hrb (h.fsB.mono fun b hb => ⟨(hF b hb.1).1, hb.2, (hF b hb.1).2⟩) x y z
end Go.Proofs.YtpfafcodihhdfaaGreatDoor

namespace Go.Proofs.YtpfafcodihhdfaaGreatDoor
open Go.RowKit
set_option maxRecDepth 100000

set_option maxHeartbeats 800000 in
theorem hasMax_any (w : World) (x0 x1 x2 : Int) (v3 : Value) (a : Option Addr) (n c : Nat) (hn : n ≤ 1048576) : Calls Tryz.prog 107 #[.agg #[.int .i64 x0, .int .i64 x1, .int .i64 x2, v3, .slice a n c]] w fun e w' => e = .returned (.bool (decide (n = 6))) ∧ Below w.heap.size w w' := by
  have hd : decide (n = 6) = ((n : Int) == 6) := by
    by_cases h : n = 6
    · subst h; rfl
    · rw [decide_eq_false h]; exact (beq_eq_false_iff_ne.2 (by omega)).symm
  rw [hd]
  clear hd
  go_enter Tryz.func107, Tryz.ntmps107
  go_wp2
  go_ret
  exact ⟨rfl, later1 _ _⟩

set_option maxHeartbeats 3200000 in
theorem strike_any (w : World) (bI n cI bD cD : Nat) (d : FD) (F : Nat → Prop) (j : Nat) (s : ByteArray) (hfs : FsS w bI n cI bD 20 cD d F) (hj : j < n) (hri : Rises (entA d j)) (h6 : (entA d j).length ≤ 6) (hk : idxE (entA d j) s < (entA d j).length) (hblk : (d.1[j]?.getD id0).2.2.2.1 = []) :
    Calls Tryz.prog 109 #[.pointer (some ⟨bI, j * 5, none⟩), .string s] w fun e w' => e = .returned (.tuple #[]) ∧ FsS w' bI n cI bD 20 cD (entD d j (delE (entA d j) (idxE (entA d j) s))) (fun c => F c ∨ w.heap.size ≤ c) ∧ Chg (fun c => c = bI) w w' := by
  obtain ⟨hlen, -⟩ := hfs.len
  obtain ⟨aB', cB', aE, cE, -, -, -, -, c4, hEn⟩ := FsR.five hfs.fs.reads (j := j) (by omega)
  rw [Nat.zero_add] at c4
  have HEN : Hid (Ents w (.slice aE (entA d j).length cE) (entA d j)) := hEn
  obtain ⟨_, _, _, _, -, -, -, -, -, -, i6, -⟩ := hfs.ino j hj
  have HC4 : Hid (w.cell? ⟨bI, j * 5 + 4, none⟩ = some (Value.slice aE (entA d j).length cE)) := c4
  have HC4F : Hid (w.frozen? ⟨bI, j * 5 + 4, none⟩ = false) := i6 (j * 5 + 4)
  have hbI : bI < w.heap.size := hfs.ne.2.1.2
  have hplc := idx_plc hri hk
  have HPL : Hid (Calls Tryz.prog 113 #[.slice aE (entA d j).length cE, .string s] w fun e w' => e = .returned (.tuple #[.int .i64 ((idxE (entA d j) s : Nat) : Int), .bool true]) ∧ Below w.heap.size w w') := by
    have := placeOf_any w aE _ cE (entA d j) s rfl (by omega) HEN.out.cap.2.2.1
    rw [fnd_iff hri, hplc, decide_eq_true hk] at this
    exact this
  have HWE : Hid (∀ W, Below w.heap.size w W → Calls Tryz.prog 165 #[.slice aE (entA d j).length cE, .int .i64 ((idxE (entA d j) s : Nat) : Int)] W fun e w' => ∃ a m c, e = .returned (.slice a m c) ∧ Below W.heap.size W w' ∧ ((idxE (entA d j) s + 1 < (entA d j).length ∧ WdE w' W.heap.size (.slice a m c) (delE (entA d j) (idxE (entA d j) s))) ∨ (idxE (entA d j) s + 1 = (entA d j).length ∧ (.slice a m c : Value) = .slice aE (idxE (entA d j) s) (idxE (entA d j) s)))) := fun W hW => by
    obtain ⟨_, h2, h3, h4, _⟩ := (HEN.out.later hW).cap
    refine (withoutEntry_any W aE _ cE (idxE (entA d j) s) (entA d j) rfl h2 hk h6 h3 h4).mono ?_
    rintro e w' ⟨v, rfl, hb, hv⟩
    rcases hv with ⟨hv1, hv2⟩ | ⟨hv1, rfl⟩
    · obtain ⟨a, c, rfl⟩ := hv2.shape
      exact ⟨_, _, _, rfl, hb, Or.inl ⟨hv1, hv2⟩⟩
    · exact ⟨_, _, _, rfl, hb, Or.inr ⟨hv1, rfl⟩⟩
  have HEZ : Hid (∀ i : Nat, ((delE (entA d j) (idxE (entA d j) s))[i]?.getD en0).1.size ≤ maxLen) := delE_size hk HEN.out.cap.2.2.2.2
  have HBK : Hid ((d.1[j]?.getD id0).2.2.2.1 = []) := hblk
  have HDL : Hid (idxE (entA d j) s + 1 = (entA d j).length → delE (entA d j) (idxE (entA d j) s) = (entA d j).take (idxE (entA d j) s)) := fun e => delE_last e
  have HFS : Hid (FsS w bI n cI bD 20 cD d F) := hfs
  clear hfs hEn i6 hplc hblk hri hlen c4
  obtain ⟨nes, hnes⟩ : ∃ nes, delE (entA d j) (idxE (entA d j) s) = nes := ⟨_, rfl⟩
  rw [hnes] at HWE HEZ HDL ⊢
  obtain ⟨dn, hdn⟩ : ∃ dn, entD d j nes = dn := ⟨_, rfl⟩
  have HDN : Hid (entD d j nes = dn) := hdn
  have HDT : Hid (idxE (entA d j) s + 1 = (entA d j).length → entD d j ((entA d j).take (idxE (entA d j) s)) = dn) := fun e => by rw [← HDL.out e]; exact hdn
  rw [hdn]
  clear hnes hdn HDL
  generalize idxE (entA d j) s = k at *
  obtain ⟨m, hm⟩ : ∃ m, (entA d j).length = m := ⟨_, rfl⟩
  rw [hm] at HPL HWE HC4 HEN HDT
  have c4 := HC4.out
  clear hm h6 hk
  go_enter Tryz.func109, Tryz.ntmps109
  go_wp2_with fail
  refine HPL.out.mono ?_
  rintro e w1 ⟨rfl, hb1⟩
  have HB1 : Hid (Below w.heap.size w w1) := hb1
  clear c4
  have c4 := cell_later hb1 HC4.out
  clear hb1
  go_wp2_with fail
  refine (HWE.out _ HB1.out).mono ?_
  rintro e w2 ⟨av, mv, cv, rfl, hb2, hv2⟩
  have HB2 : Hid (Below w.heap.size w w2) := HB1.out.trans (hb2.mono HB1.out.size)
  clear c4
  have c4 := cell_later HB2.out HC4.out
  have c4f := (HB2.out.frozen (p := ⟨bI, j * 5 + 4, none⟩) hbI).trans HC4F.out
  have hs1 := HB1.out.size
  have hs2 := HB2.out.size
  have HF3 : Hid (FsS (w2.setCell ⟨bI, j * 5 + 4, none⟩ (.slice av mv cv)) bI n cI bD 20 cD dn (fun c => F c ∨ w.heap.size ≤ c)) := by
    unfold Hid
    have hbd : FsS w2 bI n cI bD 20 cD d (fun c => F c ∧ c < w.heap.size) := (HFS.out.boundF).later HB2.out
    rcases hv2 with ⟨_, hw⟩ | ⟨hk1, e⟩
    · have := (hbd.entS j hj HBK.out nes _ (hw.own HEZ.out) (fun c hc => ⟨fun hh => by have := hh.2; have := hc.1; omega, hc.2⟩)).mono (F' := fun c => F c ∨ w.heap.size ≤ c) fun c hh => by
        rcases hh with hh | hh
        · exact Or.inl hh.1
        · exact Or.inr (by have := hh.1; omega)
      rw [← HDN.out]
      exact this
    · simp only [Value.slice.injEq] at e
      obtain ⟨rfl, rfl, rfl⟩ := e
      have := (hbd.entCut j hj HBK.out c4 cv (by omega)).mono (F' := fun c => F c ∨ w.heap.size ≤ c) fun c hh => Or.inl hh.1
      rw [HDT.out hk1] at this
      exact this
  have HC3 : Hid (Chg (fun c => c = bI) w (w2.setCell ⟨bI, j * 5 + 4, none⟩ (.slice av mv cv))) := (Chg.of_below HB2.out).trans (Chg.set (F := fun c => c = bI) (Chg.refl _ w2) rfl _ _)
  clear hb2 hv2 hs1 hs2
  go_wp2
  first
    | exact bodyPost_ret (results_none rfl _ _ _) rfl ⟨rfl, HF3.out, HC3.out⟩
    | (go_end0; exact ⟨rfl, HF3.out, HC3.out⟩)

set_option maxHeartbeats 3200000 in
theorem enter_any (w : World) (bI n cI bD cD : Nat) (d : FD) (F : Nat → Prop) (j : Nat) (s : ByteArray) (y : Int) (hfs : FsS w bI n cI bD 20 cD d F) (hj : j < n) (h6 : (entA d j).length ≤ 6) (hs : s.size ≤ maxLen) (hblk : (d.1[j]?.getD id0).2.2.2.1 = []) :
    Calls Tryz.prog 110 #[.pointer (some ⟨bI, j * 5, none⟩), .string s, .int .i64 y] w fun e w' => e = .returned (.tuple #[]) ∧ FsS w' bI n cI bD 20 cD (entD d j (insE (entA d j) (plcE (entA d j) s) (s, y))) (fun c => F c ∨ w.heap.size ≤ c) ∧ Chg (fun c => c = bI) w w' := by
  obtain ⟨hlen, -⟩ := hfs.len
  obtain ⟨aB', cB', aE, cE, -, -, -, -, c4, hEn⟩ := FsR.five hfs.fs.reads (j := j) (by omega)
  rw [Nat.zero_add] at c4
  have HEN : Hid (Ents w (.slice aE (entA d j).length cE) (entA d j)) := hEn
  obtain ⟨_, _, _, _, -, -, -, -, -, -, i6, -⟩ := hfs.ino j hj
  have HC4 : Hid (w.cell? ⟨bI, j * 5 + 4, none⟩ = some (Value.slice aE (entA d j).length cE)) := c4
  have HC4F : Hid (w.frozen? ⟨bI, j * 5 + 4, none⟩ = false) := i6 (j * 5 + 4)
  have hbI : bI < w.heap.size := hfs.ne.2.1.2
  have HPL : Hid (Calls Tryz.prog 113 #[.slice aE (entA d j).length cE, .string s] w fun e w' => e = .returned (.tuple #[.int .i64 ((plcE (entA d j) s : Nat) : Int), .bool (fndB (entA d j) s)]) ∧ Below w.heap.size w w') := placeOf_any w aE _ cE (entA d j) s rfl (by omega) HEN.out.cap.2.2.1
  have HWE : Hid (∀ W, Below w.heap.size w W → Calls Tryz.prog 166 #[.slice aE (entA d j).length cE, .int .i64 ((plcE (entA d j) s : Nat) : Int), .agg #[.string s, .int .i64 y]] W fun e w' => ∃ v, e = .returned v ∧ WdE w' W.heap.size v (insE (entA d j) (plcE (entA d j) s) (s, y)) ∧ Below W.heap.size W w') := fun W hW => by
    obtain ⟨_, h2, h3, h4, _⟩ := (HEN.out.later hW).cap
    exact withEntry_any W aE _ cE _ (entA d j) s y rfl h2 (findIdx_le _) h6 h3 h4
  have HEZ : Hid (∀ i : Nat, ((insE (entA d j) (plcE (entA d j) s) (s, y))[i]?.getD en0).1.size ≤ maxLen) := insE_size HEN.out.cap.2.2.2.2 hs
  have HBK : Hid ((d.1[j]?.getD id0).2.2.2.1 = []) := hblk
  have HFS : Hid (FsS w bI n cI bD 20 cD d F) := hfs
  clear hfs hEn i6 hblk hlen c4 hs
  generalize insE (entA d j) (plcE (entA d j) s) (s, y) = nes at *
  obtain ⟨dn, hdn⟩ : ∃ dn, entD d j nes = dn := ⟨_, rfl⟩
  have HDN : Hid (entD d j nes = dn) := hdn
  rw [hdn]
  clear hdn
  generalize plcE (entA d j) s = k at *
  generalize fndB (entA d j) s = fb at *
  obtain ⟨m, hm⟩ : ∃ m, (entA d j).length = m := ⟨_, rfl⟩
  rw [hm] at HPL HWE HC4 HEN
  have c4 := HC4.out
  clear hm h6
  go_enter Tryz.func110, Tryz.ntmps110
  go_wp2_with fail
  refine HPL.out.mono ?_
  rintro e w1 ⟨rfl, hb1⟩
  have HB1 : Hid (Below w.heap.size w w1) := hb1
  clear c4
  have c4 := cell_later hb1 HC4.out
  clear hb1
  go_wp2_with fail
  refine (HWE.out _ HB1.out).mono ?_
  rintro e w2 ⟨v, rfl, hw2, hb2⟩
  obtain ⟨av, cv, rfl⟩ := hw2.shape
  have HB2 : Hid (Below w.heap.size w w2) := HB1.out.trans (hb2.mono HB1.out.size)
  clear c4
  have c4 := cell_later HB2.out HC4.out
  have c4f := (HB2.out.frozen (p := ⟨bI, j * 5 + 4, none⟩) hbI).trans HC4F.out
  have hs1 := HB1.out.size
  have HF3 : Hid (FsS (w2.setCell ⟨bI, j * 5 + 4, none⟩ (.slice av nes.length cv)) bI n cI bD 20 cD dn (fun c => F c ∨ w.heap.size ≤ c)) := by
    unfold Hid
    have hbd : FsS w2 bI n cI bD 20 cD d (fun c => F c ∧ c < w.heap.size) := (HFS.out.boundF).later HB2.out
    have := (hbd.entS j hj HBK.out nes _ (hw2.own HEZ.out) (fun c hc => ⟨fun hh => by have := hh.2; have := hc.1; omega, hc.2⟩)).mono (F' := fun c => F c ∨ w.heap.size ≤ c) fun c hh => by
      rcases hh with hh | hh
      · exact Or.inl hh.1
      · exact Or.inr (by have := hh.1; omega)
    rw [← HDN.out]
    exact this
  have HC3 : Hid (Chg (fun c => c = bI) w (w2.setCell ⟨bI, j * 5 + 4, none⟩ (.slice av nes.length cv))) := (Chg.of_below HB2.out).trans (Chg.set (F := fun c => c = bI) (Chg.refl _ w2) rfl _ _)
  clear hb2 hw2 hs1
  go_wp2
  first
    | exact bodyPost_ret (results_none rfl _ _ _) rfl ⟨rfl, HF3.out, HC3.out⟩
    | (go_end0; exact ⟨rfl, HF3.out, HC3.out⟩)
end Go.Proofs.YtpfafcodihhdfaaGreatDoor
