/- Steps done one by one: what a disk comes to. No program is named here. What is kept of a cache, and a put: blocks and cache part anywhere behind the drive, and what stays is told. Rows that grow by append, of elements of any kind, each with memory of its own. The walks of the laws' functions over lists of steps: how great they are, copied, held against each other. The walks of the laws' functions over lists of entries. Marks of lists of entries. The walks of the laws' functions over inodes. The law's copy of an inode. The walks of the laws' functions over lists of inodes: how great they are, copied, held against each other. -/
import Derived.Test.YtpmndmkmfcoieaaM07
import Derived.Test.YtpmndmkmfcoieaaM04
import Derived.Test.YtpmndmkmfcoieaaM01
import Derived.Test.YtpmndmkmfcoieaaM05
import Derived.Test.YtpmndmkmfcoieaaRows
import Derived.Test.YtpmndmkmfcoieaaM06
import Derived.Deep.RegionWith
import Derived.Deep.RegionHeld3
namespace Go.Proofs.Ytpmndmkmfcoieaa
open Go.RowKit
set_option maxRecDepth 100000

def keepD (d : DK) : DK := (keepTo (fun _ => true) d.1 d.2 d.2.length, [])
def stepD (s : SD) (d : DK) : Int × DK := if s.1 = true then (0, keepD d) else if 200 ≤ d.2.length then (2, [], []) else (0, d.1, d.2 ++ [(s.2.1, s.2.2)])
def runJ (l : List SD) (d : DK) : Nat → Int × DK
  | 0 => (0, d)
  | j + 1 => if (runJ l d j).1 = 0 then stepD (l[j]?.getD sd0) (runJ l d j).2 else runJ l d j
def runD (l : List SD) (d : DK) : Int × DK := runJ l d l.length
theorem runJ_next {l : List SD} {d : DK} {j : Nat} (h : (runJ l d j).1 = 0) : runJ l d (j + 1) = stepD (l[j]?.getD sd0) (runJ l d j).2 := if_pos h
theorem runJ_stop {l : List SD} {d : DK} {j : Nat} (h : ¬ (runJ l d j).1 = 0) (k : Nat) : runJ l d (j + k) = runJ l d j := by
  induction k with
  | zero => rfl
  | succ k ih =>
    show (if (runJ l d (j + k)).1 = 0 then stepD (l[j + k]?.getD sd0) (runJ l d (j + k)).2 else runJ l d (j + k)) = runJ l d j
    rw [ih, if_neg h]
theorem runD_stop {l : List SD} {d : DK} {j : Nat} (hj : j ≤ l.length) (h : ¬ (runJ l d j).1 = 0) : runD l d = runJ l d j := by
  have := runJ_stop h (l.length - j)
  rw [show j + (l.length - j) = l.length by omega] at this
  exact this
theorem stepD_code (s : SD) (d : DK) (h : ¬ (stepD s d).1 = 0) : stepD s d = (2, [], []) := by
  unfold stepD at h ⊢
  by_cases h1 : s.1 = true
  · rw [if_pos h1] at h; exact absurd rfl h
  · rw [if_neg h1] at h ⊢
    by_cases h2 : 200 ≤ d.2.length
    · rw [if_pos h2]
    · rw [if_neg h2] at h; exact absurd rfl h
/-- A disk without a fault that is to have a file system. -/
structure GoodD (d : DK) : Prop where
  few : d.2.length ≤ 200
  n47 : d.1.length = 47
  blocks : ∀ k : Nat, wordsF (d.1[k]?.getD []) = 0
  puts : ∀ k : Nat, k < d.2.length → placeB 47 (d.2[k]?.getD (0, [])).1 = true ∧ wordsF (d.2[k]?.getD (0, [])).2 = 0
theorem firstF_all {l : List Int} (h : firstF l = 0) (k : Nat) : l[k]?.getD 0 = 0 := by
  induction l generalizing k with
  | nil => rfl
  | cons c l ih =>
    have h' : (if c = 0 then firstF l else c) = 0 := h
    by_cases e : c = 0
    · rw [if_pos e] at h'
      cases k with
      | zero => exact e
      | succ k => exact ih h' k
    · rw [if_neg e] at h'; exact absurd h' e
theorem GoodD.of {d : DK} (h : sizF d = 0) : GoodD d := by
  obtain ⟨hf, h47⟩ := sizF_zero h
  obtain ⟨_, h2⟩ := faultF_lens hf
  have hb : firstF (d.1.map wordsF) = 0 := by
    unfold faultF at hf
    by_cases e : 60 < d.1.length ∨ 200 < d.2.length
    · rw [if_pos e] at hf; omega
    · rw [if_neg e] at hf
      by_cases e2 : firstF (d.1.map wordsF) = 0
      · exact e2
      · rw [if_neg e2] at hf; exact absurd hf e2
  have hp : firstF (d.2.map (putF d.1.length)) = 0 := by
    unfold faultF at hf
    rw [if_neg (by omega), if_pos hb] at hf
    exact hf
  refine ⟨h2, h47, fun k => ?_, fun k hk => ?_⟩
  · by_cases hk : k < d.1.length
    · have := firstF_all hb k
      rw [List.getElem?_map, List.getElem?_eq_getElem hk] at this
      rw [List.getElem?_eq_getElem hk]
      exact this
    · rw [List.getElem?_eq_none (by omega)]; rfl
  · have := firstF_all hp k
    rw [List.getElem?_map, List.getElem?_eq_getElem hk, h47] at this
    rw [List.getElem?_eq_getElem hk]
    have e : putF 47 d.2[k] = 0 := this
    unfold putF at e
    by_cases e1 : placeB 47 d.2[k].1 = true
    · rw [if_pos e1] at e; exact ⟨e1, e⟩
    · rw [if_neg e1] at e; omega
theorem GoodD.fault {d : DK} (h : GoodD d) : faultF d.1 d.2 = 0 := by
  refine faultF_ok (by have := h.few; have := h.n47; omega) (fun i _ => h.blocks i) fun i hi => ?_
  obtain ⟨h1, h2⟩ := h.puts i hi
  rw [h.n47]
  unfold putF
  rw [if_pos h1, h2]
theorem wordsF_small {ws : List Int} (h : wordsF ws = 0) : ws.length ≤ 64 := by
  unfold wordsF at h
  by_cases e : 64 < ws.length
  · rw [if_pos e] at h; omega
  · omega
theorem GoodD.hz {d : DK} (h : GoodD d) (k : Nat) : (d.1[k]?.getD []).length ≤ 1048576 := by have := wordsF_small (h.blocks k); omega
theorem GoodD.hzp {d : DK} (h : GoodD d) (k : Nat) : (d.2[k]?.getD (0, [])).2.length ≤ 1048576 := by
  by_cases hk : k < d.2.length
  · have := wordsF_small (h.puts k hk).2; omega
  · rw [List.getElem?_eq_none (by omega)]; simp
theorem GoodD.size {d : DK} (h : GoodD d) : sizeDisk d ≤ 1048576 := by
  have h1 := sum_le_mul (zss := d.1) (M := 64) fun i => wordsF_small (h.blocks i)
  have h2 := sum_le_mul (zss := d.2.map (·.2)) (M := 64) fun i => by
    by_cases hi : i < d.2.length
    · have := wordsF_small (h.puts i hi).2
      rw [List.getElem?_eq_getElem hi] at this
      rw [List.getElem?_map, List.getElem?_eq_getElem hi]
      exact this
    · rw [List.getElem?_map, List.getElem?_eq_none (by omega)]; simp
  rw [List.length_map] at h2
  have h3 := h.few
  have h4 := h.n47
  have h5 : ((d.2.map (·.2)).map List.length).sum = (wlens d.2).sum := by unfold wlens; rw [List.map_map]; rfl
  have h6 := Nat.mul_le_mul_right 64 h3
  rw [h5] at h2
  rw [h4] at h1
  unfold sizeDisk dsize
  omega
theorem keepTo_good {d : DK} (h : GoodD d) (n : Nat) (hn : n ≤ d.2.length) (k : Nat) : wordsF ((keepTo (fun _ => true) d.1 d.2 n)[k]?.getD []) = 0 := by
  induction n generalizing k with
  | zero => exact h.blocks k
  | succ n ih =>
    rw [keepTo_step rfl]
    by_cases e : (d.2[n]?.getD (0, [])).1.toNat = k
    · subst e
      rw [List.getElem?_set]
      rw [if_pos rfl]
      split
      · exact (h.puts n (by omega)).2
      · rfl
    · rw [List.getElem?_set_ne e]
      exact ih (by omega) k
theorem good_step {s : SD} {d : DK} (h : GoodD d) (hs : stepF s = 0) (h0 : (stepD s d).1 = 0) : GoodD (stepD s d).2 := by
  unfold stepD at h0 ⊢
  unfold stepF at hs
  by_cases h1 : s.1 = true
  · rw [if_pos h1]
    exact ⟨by show (0 : Nat) ≤ 200; omega, by show (keepTo _ _ _ _).length = 47; rw [keepTo_length]; exact h.n47, fun k => keepTo_good h _ (Nat.le_refl _) k, fun k hk => absurd hk (by show ¬ k < 0; omega)⟩
  · rw [if_neg h1] at h0 hs ⊢
    by_cases h2 : 200 ≤ d.2.length
    · rw [if_pos h2] at h0; exact absurd h0 (by decide)
    · rw [if_neg h2]
      by_cases h3 : s.2.1 < 0 ∨ 47 ≤ s.2.1
      · rw [if_pos h3] at hs; omega
      · rw [if_neg h3] at hs
        refine ⟨by show (d.2 ++ [(s.2.1, s.2.2)]).length ≤ 200; rw [List.length_append]; show _ + 1 ≤ 200; omega, h.n47, h.blocks, fun k hk => ?_⟩
        have hk' : k < d.2.length + 1 := by have : k < (d.2 ++ [(s.2.1, s.2.2)]).length := hk; rw [List.length_append] at this; exact this
        show placeB 47 ((d.2 ++ [(s.2.1, s.2.2)])[k]?.getD (0, [])).1 = true ∧ wordsF ((d.2 ++ [(s.2.1, s.2.2)])[k]?.getD (0, [])).2 = 0
        by_cases e : k < d.2.length
        · rw [List.getElem?_append_left e]; exact h.puts k e
        · rw [List.getElem?_append_right (by omega), show k - d.2.length = 0 by omega]
          exact ⟨decide_eq_true (p := 0 ≤ s.2.1 ∧ s.2.1 < ((47 : Nat) : Int)) ⟨by omega, by omega⟩, hs⟩
theorem good_run {l : List SD} {d : DK} (h : GoodD d) (hl : ∀ i, i < l.length → stepF (l[i]?.getD sd0) = 0) (j : Nat) (hj : j ≤ l.length) (h0 : (runJ l d j).1 = 0) : GoodD (runJ l d j).2 := by
  induction j with
  | zero => exact h
  | succ j ih =>
    by_cases e : (runJ l d j).1 = 0
    · rw [runJ_next e] at h0 ⊢
      exact good_step (ih (by omega) e) (hl j (by omega)) h0
    · have := runJ_stop e 1
      rw [this] at h0; exact absurd h0 e
theorem runJ_code {l : List SD} {d : DK} (j : Nat) (h : ¬ (runJ l d j).1 = 0) : runJ l d j = (2, [], []) := by
  induction j with
  | zero => exact absurd rfl h
  | succ j ih =>
    by_cases e : (runJ l d j).1 = 0
    · rw [runJ_next e] at h ⊢
      exact stepD_code _ _ h
    · have e1 : runJ l d (j + 1) = runJ l d j := runJ_stop e 1
      rw [e1] at h ⊢
      exact ih h
end Go.Proofs.Ytpmndmkmfcoieaa

namespace Go.Proofs.Ytpmndmkmfcoieaa
open Go.RowKit
set_option maxRecDepth 100000

theorem cacheK_append (w w1 : World) (ty : TypeId) (base n : Nat) (v : Value) (f : Nat → Int × List Int) (pb k : Nat → Nat) (u : Nat → Value) (h : Cache w base v n f pb k u) (hb : base ≤ w.heap.size) (hn : n ≤ 100000) (hb1 : Below w.heap.size w w1) (hlt : w.heap.size < w1.heap.size)
    (a : Option Addr) (c : Nat) (hf : IntsO w1 (.slice a (f n).2.length c) (f n).2 (fresh w w1)) :
    ∃ g cap X pb' k' u', (Builtin.append_ #[110, 110] ty #[v, .slice (some ⟨w1.heap.size + 1, 0, none⟩) 1 1]).run Try.prog ((w1.alloc (.cells #[.int .i64 (f n).1, .slice a (f n).2.length c] 72)).alloc (.cells #[.pointer (some ⟨w1.heap.size, 0, none⟩)] 116)) = .ok (.slice (some ⟨g, 0, none⟩) (n + 1) cap) X ∧
      Below base w X ∧ Cache X base (.slice (some ⟨g, 0, none⟩) (n + 1) cap) (n + 1) f pb' k' u' ∧ (∀ b, b < w.heap.size → v.ownBlock ≠ some b → X.heap[b]? = w.heap[b]? ∧ g ≠ b) ∧ (∀ j, j < n → pb' j = pb j ∧ k' j = k j) ∧ w.heap.size ≤ pb' n ∧ w.heap.size ≤ k' n := by
  obtain ⟨i, hi, h1, h2, h3⟩ := Try.infoPtr'
  have hbW : Below w.heap.size w ((w1.alloc (.cells #[.int .i64 (f n).1, .slice a (f n).2.length c] 72)).alloc (.cells #[.pointer (some ⟨w1.heap.size, 0, none⟩)] 116)) := hb1.trans ((later2 _ _ _).mono hb1.size)
  have hW := h.later hbW
  obtain ⟨g, cap, X, hr, ho, hg, hat, hgX⟩ := run_append_lies (P := Try.prog) ((w1.alloc (.cells #[.int .i64 (f n).1, .slice a (f n).2.length c] 72)).alloc (.cells #[.pointer (some ⟨w1.heap.size, 0, none⟩)] 116)) 110 ty base 116 i (.pointer none) 1 8 Try.underlying110 hi h1 h2 h3 rfl (by decide) v n _ hW.own ⟨w1.heap.size + 1, 0, none⟩ 1 1 [.pointer (some ⟨w1.heap.size, 0, none⟩)] rfl
    (fun j x hx => by
      cases j with
      | zero =>
        simp at hx; subst hx
        simp [Addr.add]
      | succ j => simp at hx) (fun x hx => by simp at hx; subst hx; rfl) (by decide) (by unfold maxLen; omega) (by omega) (by have := hb1.size; simp; omega) (w1.heap.size + 2) (by simp)
  have hsz1 := hb1.size
  have hrow : ∀ g, v.ownBlock = some g → g < w.heap.size := fun g hg => (h.own.lt g hg).2
  have hrowb : ∀ g, v.ownBlock = some g → base ≤ g := fun g hg => (h.own.lt g hg).1
  have hXb : ∀ b, b < w1.heap.size + 2 → v.ownBlock ≠ some b → X.heap[b]? = ((w1.alloc (.cells #[.int .i64 (f n).1, .slice a (f n).2.length c] 72)).alloc (.cells #[.pointer (some ⟨w1.heap.size, 0, none⟩)] 116)).heap[b]? := fun b hb' hne => hg.block b (by simp; omega) (fun e => hne e.symm)
  have hXs : w1.heap.size + 2 ≤ X.heap.size := by have := hg.size; simp at this; omega
  have hBX : Below base w X := (hbW.mono hb).trans (below_grown hg (by simp; omega) (fun g hg' => hrowb g hg'))
  obtain ⟨kb, hkb1, hkb2, hkf⟩ : ∃ kb, w.heap.size ≤ kb ∧ kb < w1.heap.size ∧ IntsO w1 (.slice a (f n).2.length c) (f n).2 (fun c => c = kb) := by
    rcases hf with hf | ⟨b, cap, hF, r⟩
    · exact ⟨w.heap.size, Nat.le_refl _, hlt, Or.inl hf⟩
    · exact ⟨b, hF.1, hF.2, Or.inr ⟨b, cap, rfl, r⟩⟩
  -- g is the elder row, or a block behind all others
  have hne : ∀ b, b < w1.heap.size + 2 → v.ownBlock ≠ some b → g ≠ b := by
    intro b hb' hb2 e
    subst e
    rcases hat with h | h
    · exact hb2 h
    · omega
  have hfar : ∀ b, w.heap.size ≤ b → v.ownBlock ≠ some b := fun b hb' e => by have := hrow b e; omega
  have old : ∀ b, b < w.heap.size → v.ownBlock ≠ some b → X.heap[b]? = w.heap[b]? := fun b hb' hne => (hXb b (by omega) hne).trans (hbW.block b hb')
  refine ⟨g, cap, X, fun j => if j = n then w1.heap.size else pb j, fun j => if j = n then kb else k j, fun j => if j = n then .slice a (f n).2.length c else u j, hr, hBX, ⟨?_, fun j hj => ?_, fun j hj => ?_, fun j j' hj hj' e => ?_, fun j hj => ?_, fun j hj => ?_, fun j hj => ?_⟩, fun b h1 h2 => ⟨old b h1 h2, hne b (by omega) h2⟩, fun j hj => ⟨if_neg (by omega), if_neg (by omega)⟩, by simp; omega, by simp; exact hkb1⟩
  · rw [List.range_succ, List.map_append]
    have e1 : (List.range n).map (fun i => Value.pointer (some ⟨if i = n then w1.heap.size else pb i, 0, none⟩)) = (List.range n).map (fun i => Value.pointer (some ⟨pb i, 0, none⟩)) :=
      List.map_congr_left fun i hi => by simp [show i ≠ n by have := List.mem_range.1 hi; omega]
    rw [e1]
    simpa using ho
  · by_cases e : j = n
    · subst e; simp; omega
    · have := h.lo j (by omega); simp [e]; omega
  · by_cases e : j = n
    · subst e
      simp only [if_true]
      exact ⟨fun e => hne w1.heap.size (by omega) (hfar _ hsz1) (by simpa [Value.ownBlock] using e), fun e => hne kb (by omega) (hfar _ hkb1) (by simpa [Value.ownBlock] using e)⟩
    · have hj' : j < n := by omega
      have hl := h.lo j hj'
      have hb2 := (h.box j hj').lt
      simp only [e, if_false]
      exact ⟨fun e => hne (pb j) (by omega) (h.ne j hj').1 (by simpa [Value.ownBlock] using e), fun e => hne (k j) (by omega) (h.ne j hj').2 (by simpa [Value.ownBlock] using e)⟩
  · by_cases e1 : j = n
    · by_cases e2 : j' = n
      · omega
      · have := (h.lo j' (by omega)).2.2
        simp [e1, e2]; omega
    · by_cases e2 : j' = n
      · have := (h.lo j (by omega)).2.2
        simp [e1, e2]; omega
      · simp [e1, e2]; exact h.inj j j' (by omega) (by omega) e
  · by_cases e : j = n
    · subst e
      simp only [if_true]
      have hb2 := (OwnRow.two w1 (.int .i64 (f j).1) (.slice a (f j).2.length c) 72).later (later1 _ (.cells #[.pointer (some ⟨w1.heap.size, 0, none⟩)] 116))
      exact hb2.block (hXb _ (by omega) (hfar _ (by omega)))
    · have hj' : j < n := by omega
      simp only [e, if_false]
      exact (h.box j hj').block (old _ (h.box j hj').lt (h.ne j hj').1)
  · by_cases e : j = n
    · subst e; exact ⟨a, c, by simp⟩
    · simp only [e, if_false]; exact h.sh j (by omega)
  · by_cases e : j = n
    · subst e
      simp only [if_true]
      exact hkf.keep fun b hb' hlt' => by
        rw [hb', hXb kb (by omega) (hfar _ hkb1)]
        exact (later2 _ _ _).block kb hkb2
    · have hj' : j < n := by omega
      simp only [e, if_false]
      exact (h.at' j hj').keep fun b hb' hlt' => by rw [hb']; exact old _ (h.lo j hj').2.2 (h.ne j hj').2

set_option maxHeartbeats 1600000 in
theorem putK_any (w : World) (bd base n : Nat) (vB : Value) (a : Option Addr) (cap : Nat) (f : Nat → Int × List Int) (pb k : Nat → Nat) (u : Nat → Value) (hbd : bd < base) (hb : base ≤ w.heap.size) (hn : n ≤ 100000) (hd : OwnRow w bd 2 (fun c => if c = 0 then vB else .slice a n cap)) (hc : Cache w base (.slice a n cap) n f pb k u)
    (v : Value) (hv : Ints w v (f n).2) (hl : (f n).2.length ≤ 1048576) :
    Calls Try.prog 83 #[.pointer (some ⟨bd, 0, none⟩), .int .i64 (f n).1, v] w fun e w' => e = .returned (.tuple #[]) ∧ ∃ X g c' pb' k' u', w' = X.setCell ⟨bd, 1, none⟩ (.slice (some ⟨g, 0, none⟩) (n + 1) c') ∧ Below base w X ∧ Cache X base (.slice (some ⟨g, 0, none⟩) (n + 1) c') (n + 1) f pb' k' u' ∧ (∀ b, b < w.heap.size → (Value.slice a n cap).ownBlock ≠ some b → X.heap[b]? = w.heap[b]? ∧ g ≠ b) ∧ (∀ j, j < n → pb' j = pb j ∧ k' j = k j) ∧ w.heap.size ≤ pb' n ∧ w.heap.size ≤ k' n := by
  have HV : Hid (Ints w v (f n).2) := hv
  have HL : Hid ((f n).2.length ≤ 1048576) := hl
  have HC : Hid (Cache w base (.slice a n cap) n f pb k u) := hc
  have d0 := hd.cell (i := 1) (by omega)
  have d1 := hd.frozen 1
  simp at d0
  have hlt : bd < w.heap.size := hd.lt
  clear hv hl hc hd
  go_enter Try.func83, Try.ntmps83
  go_wp2_with fail
  go_region_law (first
    | (refine step_append_run rfl _ _ 110 rfl _ _ rfl rfl _ _ HR.out ?_)
    | (go_simp; go_at_call 91; refine (copyOf_more ?_ HL.out).mono ?_; exact HV.out; rintro e w1 ⟨rfl, hb1, ho1, hs1⟩; obtain ⟨g, cap', X, pb', k', u', hr, hBX, hCX, hKP, hK2⟩ := cacheK_append w w1 110 base n _ f pb k u HC.out hb hn ((Below.refl _ _).drew.trans hb1) hs1 _ _ ho1; have y1 : ∀ o, (w1.alloc o).cell? ⟨bd, 1, none⟩ = some (.slice a n cap) := fun o => cell_later ((hb1.trans ((later1 w1 o).mono hb1.size))) d0; have y2 : ∀ o o', ((w1.alloc o).alloc o').cell? ⟨bd, 1, none⟩ = some (.slice a n cap) := fun o o' => cell_later ((hb1.trans ((later2 w1 o o').mono hb1.size))) d0; have z0 := cell_later hb1 d0; have z1 := (hb1.frozen (p := ⟨bd, 1, none⟩) hlt).trans d1; have HR : Hid (_ = _) := hr; have HKP : Hid (∀ b, b < w.heap.size → (Value.slice a n cap).ownBlock ≠ some b → X.heap[b]? = w.heap[b]? ∧ g ≠ b) := hKP; have HK2 : Hid (_ ∧ _ ∧ _) := hK2; have HBX : Hid (Below base w X) := hBX; have HCX : Hid (Cache X base (.slice (some ⟨g, 0, none⟩) (n + 1) cap') (n + 1) f pb' k' u') := hCX; have x0 : X.cell? ⟨bd, 1, none⟩ = some (.slice a n cap) := (hBX.cell (p := ⟨bd, 1, none⟩) hbd).trans d0; have x1 : X.frozen? ⟨bd, 1, none⟩ = false := (hBX.frozen (p := ⟨bd, 1, none⟩) hbd).trans d1; clear hr hBX hCX hKP hK2 hb1 ho1 hs1))
  all_goals
    go_wp2
    go_end0
    exact ⟨rfl, X, g, cap', pb', k', u', rfl, HBX.out, HCX.out, HKP.out, HK2.out⟩


set_option maxHeartbeats 3200000 in
theorem settleC_any (w : World) (lo bd cb g nB n : Nat) (aP : Option Addr) (cP : Nat) (ap : Option Addr) (np cap : Nat) (bs : List (List Int)) (ps : List (Int × List Int)) (bb : List Bool) (pb k : Nat → Nat) (u : Nat → Value) (hlo : lo ≤ bd) (_hcb : bd < cb) (hcw : cb ≤ w.heap.size) (bx : Nat) (hbx : bx < w.heap.size) (hbl : bs.length = nB) (hn : n ≤ 200) (hnB : nB ≤ 60) (hnp : bb.length = np) (hpl : ∀ i, i < n → ∃ x : Nat, (ps[i]?.getD (0, [])).1 = x ∧ x < nB) (hzp : ∀ k : Nat, (ps[k]?.getD (0, [])).2.length ≤ 1048576) (hA : AtBs w ap np bb) (hAg : 0 < nB → 0 < np → ∀ b off, ap = some ⟨b, off, none⟩ → b ≠ g)
    (hd : OwnRow w bd 2 (fun c => if c = 0 then .slice (some ⟨g, 0, none⟩) nB nB else .slice aP n cP)) (hc : Cache w cb (.slice aP n cP) n (fun i => ps[i]?.getD (0, [])) pb k u) (hb : IntsSO w (.slice (some ⟨g, 0, none⟩) nB nB) bs (fun c => lo ≤ c ∧ c < cb ∧ c ≠ bd ∧ c ≠ bx)) :
    Calls Try.prog 63 #[.pointer (some ⟨bd, 0, none⟩), .slice ap np cap] w fun e w' => e = .returned (.tuple #[]) ∧ Below lo w w' ∧ OwnRow w' bd 2 (fun c => if c = 0 then .slice (some ⟨g, 0, none⟩) nB nB else .slice none 0 0) ∧ IntsSO w' (.slice (some ⟨g, 0, none⟩) nB nB) (keepTo (fun i => bb[i]?.getD false) bs ps n) (fun c => lo ≤ c ∧ c < w'.heap.size ∧ c ≠ bd ∧ c ≠ bx) ∧ (∀ b, b < w.heap.size → b ≠ g → b ≠ bd → w'.heap[b]? = w.heap[b]?) := by
  have HC : Hid (Cache w cb (.slice aP n cP) n (fun i => ps[i]?.getD (0, [])) pb k u) := hc
  have HD : Hid (OwnRow w bd 2 (fun c => if c = 0 then .slice (some ⟨g, 0, none⟩) nB nB else .slice aP n cP)) := hd
  have HB : Hid (IntsSO w (.slice (some ⟨g, 0, none⟩) nB nB) bs (fun c => lo ≤ c ∧ c < cb ∧ c ≠ bd ∧ c ≠ bx)) := hb
  have HPL : Hid (∀ i, i < n → ∃ x : Nat, (ps[i]?.getD (0, [])).1 = x ∧ x < nB) := hpl
  have HZP : Hid (∀ k : Nat, (ps[k]?.getD (0, [])).2.length ≤ 1048576) := hzp
  have HA : Hid (AtBs w ap np bb) := hA
  have d0 := hd.cell (i := 0) (by omega)
  have d1 := hd.cell (i := 1) (by omega)
  simp at d0 d1
  have hlt : bd < w.heap.size := hd.lt
  have HAG : Hid (0 < nB → 0 < np → ∀ b off, ap = some ⟨b, off, none⟩ → b ≠ g) := hAg
  clear hc hd hb hpl hzp hA hAg
  go_enter Try.func63, Try.ntmps63
  go_wp2_with fail
  go_loopw [4, 5, 11] (fun _ _ i wr => ∃ j : Nat, j ≤ n ∧ i = .int .i64 j ∧ Below lo w wr ∧ OwnRow wr bd 2 (fun c => if c = 0 then .slice (some ⟨g, 0, none⟩) nB nB else .slice aP n cP) ∧ Cache wr cb (.slice aP n cP) n (fun i => ps[i]?.getD (0, [])) pb k u ∧ AtBs wr ap np bb ∧
    IntsSO wr (.slice (some ⟨g, 0, none⟩) nB nB) (keepTo (fun i => bb[i]?.getD false) bs ps j) (fun c => lo ≤ c ∧ c < wr.heap.size ∧ ((c < cb ∧ c ≠ bd ∧ c ≠ bx) ∨ w.heap.size ≤ c)) ∧ (∀ b, b < w.heap.size → b ≠ g → wr.heap[b]? = w.heap[b]?)) (fun _ _ i _ => n - (intOf i).toNat)
  case atStart => exact ⟨0, Nat.zero_le _, rfl, Below.refl _ _, HD.out, HC.out, HA.out, HB.out.mono fun b hb => ⟨hb.1, by omega, Or.inl hb.2⟩, fun _ _ _ => rfl⟩
  case round =>
    obtain ⟨j, hj, rfl, hbw, hrow, hca, hat, his, hkp⟩ := hrel
    have HKP : Hid (∀ b, b < w.heap.size → b ≠ g → wr.heap[b]? = w.heap[b]?) := hkp
    have HBW : Hid (Below lo w wr) := hbw
    have HROW : Hid (OwnRow wr bd 2 (fun c => if c = 0 then .slice (some ⟨g, 0, none⟩) nB nB else .slice aP n cP)) := hrow
    have HCA : Hid (Cache wr cb (.slice aP n cP) n (fun i => ps[i]?.getD (0, [])) pb k u) := hca
    have HAT : Hid (AtBs wr ap np bb) := hat
    have HIS : Hid (IntsSO wr (.slice (some ⟨g, 0, none⟩) nB nB) (keepTo (fun i => bb[i]?.getD false) bs ps j) (fun c => lo ≤ c ∧ c < wr.heap.size ∧ ((c < cb ∧ c ≠ bd ∧ c ≠ bx) ∨ w.heap.size ≤ c))) := his
    have hws : w.heap.size ≤ wr.heap.size := hbw.size
    clear hbw hrow hca hat his hkp d0 d1
    have d0 := HROW.out.cell (i := 0) (by omega)
    have d1 := HROW.out.cell (i := 1) (by omega)
    have d2 := HROW.out.frozen 1
    simp at d0 d1
    by_cases hlt2 : j < n
    · obtain ⟨g', ua, uc, e, p0, p1, p2, hu⟩ := HCA.out.ptr hlt2
      subst e
      have HI0 := (HCA.out.at' j hlt2).ints
      rw [hu] at HI0
      obtain ⟨x, hx, hxl⟩ := HPL.out j hlt2
      simp only [hx] at p1
      generalize hwd : (ps[j]?.getD (0, [])).2 = wd at p2 HI0
      have HWD : Hid ((ps[j]?.getD (0, [])).2 = wd) := hwd
      have HLW : Hid (wd.length ≤ 1048576) := hwd ▸ HZP.out j
      have HXX : Hid ((ps[j]?.getD (0, [])).1 = (x : Int)) := hx
      have HI : Hid (Ints wr (.slice ua wd.length uc) wd) := HI0
      have HUU : Hid (u j = .slice ua wd.length uc) := by unfold Hid; rw [hu, hwd]
      clear HI0 hwd hx hu
      by_cases hqn : j < np
      · obtain ⟨b', off', e', c3⟩ := HAT.out j hqn
        subst e'
        cases hpk : bb[j]?.getD false
        · rw [hpk] at c3
          go_wp2
          go_roundw
          case rel => exact ⟨j + 1, by omega, by go_num, HBW.out, HROW.out, HCA.out, HAT.out, by rw [keepTo_skip (by simp [hpk])]; exact HIS.out, HKP.out⟩
          case measure => simp [intOf]; omega
        · rw [hpk] at c3
          obtain ⟨ur, hur, _, hsh⟩ := HIS.out.row (by rw [keepTo_length]; omega)
          have HUR : Hid (OwnRow wr g nB ur) := hur
          have HSX : Hid (∃ ua un uc, ur x = .slice ua un uc) := hsh x hxl
          have hgw : g < wr.heap.size := hur.lt
          have hgb : lo ≤ g ∧ g < cb ∧ g ≠ bd ∧ g ≠ bx := by
            obtain ⟨_, _, h, _⟩ := HB.out.row (by omega)
            exact h
          clear hur hsh
          go_wp2_with fail
          go_region_with ((go_at_call 90; refine (set_any _ bd 0 g nB nB x ur _ wd hnB hxl ?_ ?_ HSX.out ?_ HLW.out).mono ?_; exact d0; exact HUR.out; exact HI.out; rintro e w2 ⟨rfl, X, rfl, hbX, hoX⟩; have HX : Hid (Below wr.heap.size wr X) := (Below.refl _ _).drew.trans hbX; have HO : Hid (IntsO X (.slice (some ⟨wr.heap.size, 0, none⟩) wd.length wd.length) wd (fresh wr X)) := hoX; clear hbX hoX))
          all_goals
            go_wp2
            go_roundw
            case rel =>
              have hXs := HX.out.size
              refine ⟨j + 1, by omega, by go_num, (HBW.out.trans (HX.out.mono (by omega))).setCell (by simp; omega) _, (HROW.out.later HX.out).store (by simp; omega) _, (HCA.out.later HX.out).keep (by simp [World.setCell]) (fun b h1 _ => Below.heap_setCell _ _ _ _ (by simp; omega)), HAT.out.set HX.out (HAG.out (by omega) (by omega)), ?_, fun b h1 h2 => (Below.heap_setCell _ _ _ _ (by show b ≠ g; omega)).trans ((HX.out.block b (by omega)).trans (HKP.out b h1 h2))⟩
              rw [keepTo_step (by simp [hpk]), HXX.out, HWD.out]
              refine (HIS.out.set (x := x) (by rw [keepTo_length]; omega) HX.out (fun b hb => hb.2.1) HO.out).mono fun c hc => ?_
              simp only [World.setCell, Array.size_modify]
              rcases hc with hc | hc
              · omega
              · have := hc.1; have := hc.2; omega
            case measure => simp [intOf]; omega
      · have hpk : bb[j]?.getD false = false := by rw [List.getElem?_eq_none (by omega)]; rfl
        go_wp2
        go_roundw
        case rel => exact ⟨j + 1, by omega, by go_num, HBW.out, HROW.out, HCA.out, HAT.out, by rw [keepTo_skip (by simp [hpk])]; exact HIS.out, HKP.out⟩
        case measure => simp [intOf]; omega
    · have e : j = n := by omega
      subst e
      go_wp2
      go_end0
      refine ⟨rfl, HBW.out.setCell hlo _, (HROW.out.set 1 _).congr fun c hc => ?_, (HIS.out.store (fun b hb => by simp; omega) _).mono fun b hb => ⟨hb.1, by simp [World.setCell]; omega, by omega, by omega⟩, fun b h1 h2 h3 => (Below.heap_setCell _ _ _ _ (by show b ≠ bd; omega)).trans (HKP.out b h1 h2)⟩
      have : c = 0 ∨ c = 1 := by omega
      rcases this with rfl | rfl <;> simp
set_option maxHeartbeats 1600000 in
theorem flushC_any (w : World) (lo bd cb g nB n : Nat) (aP : Option Addr) (cP : Nat) (bs : List (List Int)) (ps : List (Int × List Int)) (pb k : Nat → Nat) (u : Nat → Value) (hlo : lo ≤ bd) (hcb : bd < cb) (hcw : cb ≤ w.heap.size) (bx : Nat) (hbx : bx < w.heap.size) (hbl : bs.length = nB) (hn : n ≤ 200) (hnB : nB ≤ 60) (hpl : ∀ i, i < n → ∃ x : Nat, (ps[i]?.getD (0, [])).1 = x ∧ x < nB) (hzp : ∀ k : Nat, (ps[k]?.getD (0, [])).2.length ≤ 1048576)
    (hd : OwnRow w bd 2 (fun c => if c = 0 then .slice (some ⟨g, 0, none⟩) nB nB else .slice aP n cP)) (hc : Cache w cb (.slice aP n cP) n (fun i => ps[i]?.getD (0, [])) pb k u) (hb : IntsSO w (.slice (some ⟨g, 0, none⟩) nB nB) bs (fun c => lo ≤ c ∧ c < cb ∧ c ≠ bd ∧ c ≠ bx)) :
    Calls Try.prog 87 #[.pointer (some ⟨bd, 0, none⟩)] w fun e w' => e = .returned (.tuple #[]) ∧ Below lo w w' ∧ OwnRow w' bd 2 (fun c => if c = 0 then .slice (some ⟨g, 0, none⟩) nB nB else .slice none 0 0) ∧ IntsSO w' (.slice (some ⟨g, 0, none⟩) nB nB) (keepTo (fun i => (List.replicate n true)[i]?.getD false) bs ps n) (fun c => lo ≤ c ∧ c < w'.heap.size ∧ c ≠ bd ∧ c ≠ bx) ∧ (∀ b, b < w.heap.size → b ≠ g → b ≠ bd → w'.heap[b]? = w.heap[b]?) := by
  have hlt := hd.lt
  have HSET : Hid (∀ w2p, Below w.heap.size w w2p → OwnRow w2p w.heap.size n (fun _ => .bool true) → Calls Try.prog 63 #[.pointer (some ⟨bd, 0, none⟩), .slice (some ⟨w.heap.size, 0, none⟩) n n] w2p fun e w' => e = .returned (.tuple #[]) ∧ Below lo w2p w' ∧ OwnRow w' bd 2 (fun c => if c = 0 then .slice (some ⟨g, 0, none⟩) nB nB else .slice none 0 0) ∧ IntsSO w' (.slice (some ⟨g, 0, none⟩) nB nB) (keepTo (fun i => (List.replicate n true)[i]?.getD false) bs ps n) (fun c => lo ≤ c ∧ c < w'.heap.size ∧ c ≠ bd ∧ c ≠ bx) ∧ (∀ b, b < w2p.heap.size → b ≠ g → b ≠ bd → w'.heap[b]? = w2p.heap[b]?)) := fun w2p hbp hop =>
    settleC_any w2p lo bd cb g nB n aP cP (some ⟨w.heap.size, 0, none⟩) n n bs ps (List.replicate n true) pb k u hlo hcb (Nat.le_trans hcw hbp.size) bx (Nat.lt_of_lt_of_le hbx hbp.size) hbl hn hnB (by simp) hpl hzp (fun k hk => ⟨w.heap.size, 0, rfl, by rw [Nat.zero_add, hop.cell hk]; simp [hk]⟩) (fun h0 h1 b off e e2 => by
      obtain ⟨_, h, _, _⟩ := hb.row (by omega)
      have h := h.lt
      simp only [Option.some.injEq, Addr.mk.injEq, and_true] at e
      omega) (hd.later hbp) (hc.later hbp) (hb.keep fun b _ hlt => hbp.block b hlt)
  have hlo2 : lo ≤ w.heap.size := by omega
  have e1 := hd.cell (i := 1) (by omega)
  simp at e1
  clear hd hc hb hpl hzp
  go_enter Try.func87, Try.ntmps87
  go_wp2_with fail
  clear e1
  refine (allPicked_any _ n (by omega)).mono ?_
  rintro e w2p ⟨rfl, hbp, hop⟩
  have HP := HSET.out w2p hbp hop
  have HBP : Hid (Below w.heap.size w w2p) := hbp
  clear HSET hbp hop
  go_wp2_with fail
  refine HP.mono ?_
  rintro e w3 ⟨rfl, hb3, hr3, hi3, hk3⟩
  have HK3 : Hid (∀ b, b < w.heap.size → b ≠ g → b ≠ bd → w3.heap[b]? = w.heap[b]?) := fun b h1 h2 h3 => (hk3 b (Nat.lt_of_lt_of_le h1 HBP.out.size) h2 h3).trans (HBP.out.block b h1)
  have HB3 : Hid (Below lo w w3) := (HBP.out.mono hlo2).trans hb3
  have HR3 : Hid (OwnRow w3 bd 2 (fun c => if c = 0 then .slice (some ⟨g, 0, none⟩) nB nB else .slice none 0 0)) := hr3
  have HI3 : Hid (IntsSO w3 (.slice (some ⟨g, 0, none⟩) nB nB) (keepTo (fun i => (List.replicate n true)[i]?.getD false) bs ps n) (fun c => lo ≤ c ∧ c < w3.heap.size ∧ c ≠ bd ∧ c ≠ bx)) := hi3
  clear hb3 hr3 hi3 hk3
  go_wp2
  go_end0
  exact ⟨rfl, HB3.out, HR3.out, HI3.out, HK3.out⟩

/-- A scope with more labels than one: what holds at every jump, a measure. -/
def jumpM (J : Nat → Act → World → Prop) (Q : Exit → Act → World → Prop) : Exit → Act → World → Prop
  | .goto l, a, w => J l a w
  | e, a, w => Q e a w
theorem wp_scope_many {P : Program} {a : Act} {w : World} {Q : Exit → Act → World → Prop} {c : Code} (rest : Nat → Code) (J : Nat → Act → World → Prop) (μ : Nat → Act → World → Nat) (hf : ∀ l a w, J l a w → findLabel c l = some (rest l))
    (first : c.wp P (jumpM J Q) a w)
    (pass : ∀ l a w, J l a w → (rest l).wp P (jumpM (fun l' a' w' => J l' a' w' ∧ μ l' a' w' < μ l a w) Q) a w) : (Code.scope c).wp P Q a w := by
  intro b k cs
  have hg : ∀ l a w, J l a w → gotoIn l (.inScope c :: k) = some (.code (rest l) :: .inScope c :: k) := fun l a w h => by simp [gotoIn, hf l a w h]
  have key : ∀ n l a w, μ l a w = n → J l a w → ∃ e a' w', Q e a' w' ∧ Arrives P (lone (b.at a (.code (rest l) :: .inScope c :: k)) cs w) b k cs e a' w' := by
    intro n
    induction n using Nat.strongRecOn with
    | _ n ih =>
      intro l a w hn hJ
      obtain ⟨e, a₁, w₁, hq, harr⟩ := pass l a w hJ b (.inScope c :: k) cs
      cases e with
      | normal => exact ⟨.normal, a₁, w₁, hq, Steps.trans harr (.one step_inScope)⟩
      | exit id => exact ⟨.exit id, a₁, w₁, hq, fun k' hk => harr k' (by simp [exitTo, hk])⟩
      | goto l' =>
        obtain ⟨hJ', hlt⟩ := hq
        obtain ⟨e₂, a₂, w₂, hq₂, harr₂⟩ := ih _ (by omega) l' a₁ w₁ rfl hJ'
        exact ⟨e₂, a₂, w₂, hq₂, .of_steps (harr _ (hg l' a₁ w₁ hJ')) harr₂⟩
      | ret => exact ⟨_, a₁, w₁, hq, harr⟩
      | panic ch => exact ⟨_, a₁, w₁, hq, harr⟩
      | outgrown => exact ⟨_, a₁, w₁, hq, harr⟩
  obtain ⟨e, a₁, w₁, hq, harr⟩ := first b (.inScope c :: k) cs
  cases e with
  | normal => exact ⟨.normal, a₁, w₁, hq, .head step_scope (Steps.trans harr (.one step_inScope))⟩
  | exit id => exact ⟨.exit id, a₁, w₁, hq, fun k' hk => .head step_scope (harr k' (by simp [exitTo, hk]))⟩
  | goto l' =>
    obtain ⟨e₂, a₂, w₂, hq₂, harr₂⟩ := key _ l' a₁ w₁ rfl hq
    exact ⟨e₂, a₂, w₂, hq₂, .of_steps (.head step_scope (harr _ (hg l' a₁ w₁ hq))) harr₂⟩
  | ret => exact ⟨_, a₁, w₁, hq, .of_steps (.one step_scope) harr⟩
  | panic ch => exact ⟨_, a₁, w₁, hq, .of_steps (.one step_scope) harr⟩
  | outgrown => exact ⟨_, a₁, w₁, hq, .of_steps (.one step_scope) harr⟩
end Go.Proofs.Ytpmndmkmfcoieaa

namespace Go.Proofs.Ytpmndmkmfcoieaa
open Go.RowKit
set_option maxRecDepth 100000

/-- What an element's cells u own (the blocks F) and tell (x) stays as long as these blocks do. -/
def StP {α : Type} (P : World → List Value → α → (Nat → Prop) → Prop) : Prop :=
  ∀ (w w' : World) (u : List Value) (x : α) (F : Nat → Prop), P w u x F → (∀ b, F b → b < w.heap.size → w'.heap[b]? = w.heap[b]?) → P w' u x F
/-- A row of n elements that the call owns; element i is told by its cells u i, which own the blocks G i. -/
structure GRow {α : Type} (P : World → List Value → α → (Nat → Prop) → Prop) (w : World) (base : Nat) (e : TypeId) (size : Nat) (v : Value) (n : Nat) (x : Nat → α) (u : Nat → List Value) (G : Nat → Nat → Prop) : Prop where
  own : w.ownsRow base e size v n ((List.range n).flatMap u)
  len : ∀ i, i < n → (u i).length = size
  lo : ∀ i c, i < n → G i c → base ≤ c ∧ c < w.heap.size
  ne : ∀ i c, i < n → G i c → v.ownBlock ≠ some c
  inj : ∀ i j c, i < n → j < n → i ≠ j → G i c → ¬ G j c
  at' : ∀ i, i < n → P w (u i) (x i) (G i)
section
variable {α : Type} {P : World → List Value → α → (Nat → Prop) → Prop}
theorem GRow.nil (w : World) (base : Nat) (e : TypeId) (size : Nat) (x : Nat → α) : GRow P w base e size (.slice none 0 0) 0 x (fun _ => []) (fun _ _ => False) :=
  ⟨World.ownsRow_nil _ _ _ _, fun i hi => by omega, fun i _ hi => by omega, fun i _ hi => by omega, fun i _ _ hi => by omega, fun i hi => by omega⟩
theorem GRow.lit0 (w : World) (base : Nat) (hb : base ≤ w.heap.size) (e : TypeId) (size : Nat) (x : Nat → α) : GRow P (w.alloc (.cells #[] e)) base e size (.slice (some ⟨w.heap.size, 0, none⟩) 0 0) 0 x (fun _ => []) (fun _ _ => False) :=
  ⟨by simpa using World.ownsRow_lit (e := e) (size := size) w #[] 0 hb (by unfold maxLen; omega) (by simp), fun i hi => by omega, fun i _ hi => by omega, fun i _ hi => by omega, fun i _ _ hi => by omega, fun i hi => by omega⟩
theorem GRow.keep (hP : StP P) {w w' : World} {base : Nat} {e : TypeId} {size : Nat} {v : Value} {n : Nat} {x : Nat → α} {u : Nat → List Value} {G : Nat → Nat → Prop} (h : GRow P w base e size v n x u G) (hs : w.heap.size ≤ w'.heap.size) (k : ∀ c, base ≤ c → c < w.heap.size → w'.heap[c]? = w.heap[c]?) : GRow P w' base e size v n x u G := by
  refine ⟨?_, h.len, fun i c hi hc => ⟨(h.lo i c hi hc).1, Nat.lt_of_lt_of_le (h.lo i c hi hc).2 hs⟩, h.ne, h.inj, fun i hi => hP _ _ _ _ _ (h.at' i hi) fun c hc hlt => k c (h.lo i c hi hc).1 hlt⟩
  obtain ⟨h1, h2⟩ := h.own
  refine ⟨h1, ?_⟩
  rcases h2 with h2 | ⟨g, cap, cur, hv, hg, hh, r⟩
  · exact Or.inl h2
  · exact Or.inr ⟨g, cap, cur, hv, hg, by rw [k g hg (Array.getElem?_eq_some_iff.1 hh).1]; exact hh, r⟩
theorem GRow.later (hP : StP P) {w w' : World} {base : Nat} {e : TypeId} {size : Nat} {v : Value} {n : Nat} {x : Nat → α} {u : Nat → List Value} {G : Nat → Nat → Prop} (h : GRow P w base e size v n x u G) (hb : Below w.heap.size w w') : GRow P w' base e size v n x u G := h.keep hP hb.size fun c _ hlt => hb.block c hlt
theorem GRow.shape {w : World} {base : Nat} {e : TypeId} {size : Nat} {v : Value} {n : Nat} {x : Nat → α} {u : Nat → List Value} {G : Nat → Nat → Prop} (h : GRow P w base e size v n x u G) : ∃ a c, v = .slice a n c := by
  rcases h.own.2 with ⟨rfl, rfl⟩ | ⟨g, c, cur, rfl, _⟩
  · exact ⟨_, _, rfl⟩
  · exact ⟨_, _, rfl⟩
/-- What 'append' of one element comes to. -/
theorem GRow.append (hP : StP P) (w w1 : World) (t ty e : TypeId) (i : TypeInfo) (z : Value) (size bytes : Nat) (ht : Try.prog.underlying t = some (.slice e)) (hi : Try.prog.info? e = some i) (hz : i.zero = some z) (hsize : i.size = size) (hby : i.bytes = bytes) (hzs : z.cells.size = size) (hsz : 0 < size) (hbb : bytes ≤ 1000)
    (base n : Nat) (v : Value) (x : Nat → α) (u : Nat → List Value) (G : Nat → Nat → Prop) (h : GRow P w base e size v n x u G) (hb : base ≤ w.heap.size) (hn : n ≤ 1048600) (hb1 : Below w.heap.size w w1)
    (cs : List Value) (hlen : cs.length = size) (hone : ∀ y ∈ cs, y.oneCell' = true) (F : Nat → Prop) (hF : ∀ c, F c → w.heap.size ≤ c ∧ c < w1.heap.size) (hf : P w1 cs (x n) F) :
    ∃ g cap X u' G', (Builtin.append_ #[t, t] ty #[v, .slice (some ⟨w1.heap.size, 0, none⟩) 1 1]).run Try.prog (w1.alloc (.cells cs.toArray e)) = .ok (.slice (some ⟨g, 0, none⟩) (n + 1) cap) X ∧
      Below base w X ∧ w1.heap.size < X.heap.size ∧ GRow P X base e size (.slice (some ⟨g, 0, none⟩) (n + 1) cap) (n + 1) x u' G' ∧ (∀ b, b < w1.heap.size → v.ownBlock ≠ some b → X.heap[b]? = w1.heap[b]? ∧ g ≠ b) := by
  have hsz1 := hb1.size
  have hbW : Below w.heap.size w (w1.alloc (.cells cs.toArray e)) := hb1.trans ((later1 _ _).mono hb1.size)
  have hW := h.later hP hbW
  obtain ⟨g, cap, X, hr, ho, hg, hat, hgX⟩ := run_append_lies (P := Try.prog) (w1.alloc (.cells cs.toArray e)) t ty base e i z size bytes ht hi hz hsize hby hzs hsz v n _ hW.own ⟨w1.heap.size, 0, none⟩ 1 1 cs (by rw [hlen, Nat.one_mul])
    (fun j y hy => by
      rw [add_plain', Nat.zero_add, new_cell]
      simpa using hy) hone (by decide) (by unfold maxLen; omega) (by have : (n + 1) * bytes ≤ 1048601 * 1000 := Nat.mul_le_mul (by omega) hbb; omega) (by simp; omega) (w1.heap.size + 1) (by simp)
  have hrowb : ∀ g, v.ownBlock = some g → base ≤ g ∧ g < w.heap.size := fun g hg => h.own.lt g hg
  have hXb : ∀ b, b < w1.heap.size → v.ownBlock ≠ some b → X.heap[b]? = w1.heap[b]? := fun b hb' hne => (hg.block b (by simp; omega) (fun e => hne e.symm)).trans ((later1 _ _).block b hb')
  have hne : ∀ b, b ≤ w1.heap.size → v.ownBlock ≠ some b → g ≠ b := by
    intro b hb' hb2 e
    subst e
    rcases hat with h | h
    · exact hb2 h
    · omega
  have old : ∀ b, b < w.heap.size → v.ownBlock ≠ some b → X.heap[b]? = w.heap[b]? := fun b hb' hne => (hXb b (by omega) hne).trans (hb1.block b hb')
  have hXs : w1.heap.size < X.heap.size := by have := hg.size; simp at this; omega
  have hfr : ∀ c, F c → v.ownBlock ≠ some c := fun c hc e => by have := (hrowb c e).2; have := (hF c hc).1; omega
  refine ⟨g, cap, X, fun j => if j = n then cs else u j, fun j c => if j = n then F c else G j c, hr, (hbW.mono hb).trans (below_grown hg (by simp; omega) (fun g hg' => (hrowb g hg').1)), hXs, ⟨?_, fun j hj => ?_, fun j c hj hc => ?_, fun j c hj hc => ?_, fun j j' c hj hj' e hc hc' => ?_, fun j hj => ?_⟩, fun b hb hn => ⟨hXb b hb hn, hne b (Nat.le_of_lt hb) hn⟩⟩
  · rw [List.range_succ, List.flatMap_append]
    have e1 : (List.range n).flatMap (fun i => if i = n then cs else u i) = (List.range n).flatMap u := by
      have e0 : (List.range n).map (fun i => if i = n then cs else u i) = (List.range n).map u := List.map_congr_left fun i hi => by rw [if_neg (by have := List.mem_range.1 hi; omega)]
      rw [List.flatMap_def, List.flatMap_def, e0]
    have e2 : [n].flatMap (fun i => if i = n then cs else u i) = cs := by simp only [List.flatMap_cons, List.flatMap_nil, List.append_nil, if_true]
    rw [e1, e2]
    exact ho
  · by_cases e : j = n
    · simp only [e, if_true]; exact hlen
    · simp only [e, if_false]; exact h.len j (by omega)
  · by_cases e : j = n
    · simp only [e, if_true] at hc
      have := hF c hc
      omega
    · simp only [e, if_false] at hc
      have := h.lo j c (by omega) hc
      omega
  · by_cases e : j = n
    · simp only [e, if_true] at hc
      exact fun e' => hne c (Nat.le_of_lt (hF c hc).2) (hfr c hc) (by simpa [Value.ownBlock] using e')
    · simp only [e, if_false] at hc
      have hl := h.lo j c (by omega) hc
      exact fun e' => hne c (by omega) (h.ne j c (by omega) hc) (by simpa [Value.ownBlock] using e')
  · by_cases e1 : j = n
    · by_cases e2 : j' = n
      · omega
      · simp only [e1, e2, if_true, if_false] at hc hc'
        have := (h.lo j' c (by omega) hc').2
        have := (hF c hc).1
        omega
    · by_cases e2 : j' = n
      · simp only [e1, e2, if_true, if_false] at hc hc'
        have := (h.lo j c (by omega) hc).2
        have := (hF c hc').1
        omega
      · simp only [e1, e2, if_false] at hc hc'
        exact h.inj j j' c (by omega) (by omega) e hc hc'
  · by_cases e : j = n
    · subst e
      simp only [if_true]
      exact hP _ _ _ _ _ hf fun c hc hlt => hXb c hlt (hfr c hc)
    · simp only [e, if_false]
      exact hP _ _ _ _ _ (h.at' j (by omega)) fun c hc hlt => old c hlt (h.ne j c (by omega) hc)
/-- The cells of such a row. -/
def rowCell (u : Nat → List Value) (size c : Nat) : Value := (u (c / size))[c % size]?.getD undef
theorem GRow.cells {w : World} {base : Nat} {e : TypeId} {size : Nat} {v : Value} {n : Nat} {x : Nat → α} {u : Nat → List Value} {G : Nat → Nat → Prop} (h : GRow P w base e size v n x u G) (hsz : 0 < size) (hn : 0 < n) :
    ∃ g cap, v = .slice (some ⟨g, 0, none⟩) n cap ∧ base ≤ g ∧ g < w.heap.size ∧ n ≤ maxLen ∧ n ≤ cap ∧ OwnRow w g (n * size) (rowCell u size) := by
  obtain ⟨hl, h2 | ⟨g, cap, cur, rfl, hb, hh, hnc, hcm, hcs, htake⟩⟩ := h.own
  · omega
  · have hle : n * size ≤ cap * size := Nat.mul_le_mul_right _ hnc
    refine ⟨g, cap, rfl, hb, (Array.getElem?_eq_some_iff.1 hh).1, by omega, hnc, cur, e, hh, by omega, fun c hc => ?_⟩
    have hd : c / size < n := by rw [Nat.div_lt_iff_lt_mul hsz]; exact hc
    have hm : c % size < size := Nat.mod_lt _ hsz
    have hu : ∀ i, (if i < n then u i else List.replicate size undef).length = size := fun i => by
      by_cases hi : i < n
      · rw [if_pos hi]; exact h.len i hi
      · rw [if_neg hi]; simp
    have e0 : (List.range n).flatMap u = (List.range n).flatMap (fun i => if i < n then u i else List.replicate size undef) := by
      have : (List.range n).map u = (List.range n).map (fun i => if i < n then u i else List.replicate size undef) := List.map_congr_left fun i hi => by rw [if_pos (List.mem_range.1 hi)]
      rw [List.flatMap_def, List.flatMap_def, this]
    have hg := flat_get (C := fun i _ => if i < n then u i else List.replicate size undef) hsz (fun _ => undef) hu n (c / size) (c % size) hd hm
    rw [Nat.div_add_mod', ← e0, if_pos hd] at hg
    have h1 : ((List.range n).flatMap u)[c]? = cur[c]? := by rw [← htake, List.getElem?_take, if_pos hc, Array.getElem?_toList]
    rw [h1] at hg
    have hlt : c < cur.size := by omega
    show cur[c]? = some (rowCell u size c)
    unfold rowCell
    rw [← hg, Array.getElem?_eq_getElem hlt]; rfl
end

/-- A put, in two cells. -/
def PutP (w : World) (u : List Value) (p : Int × List Int) (F : Nat → Prop) : Prop := ∃ a c, u = [.int .i64 p.1, .slice a p.2.length c] ∧ IntsO w (.slice a p.2.length c) p.2 F
theorem PutP.steady : StP PutP := fun w w' u x F h k => by
  obtain ⟨a, c, h1, h2⟩ := h
  exact ⟨a, c, h1, h2.keep k⟩
theorem PutsO.reads {w : World} {v : Value} {ps : List (Int × List Int)} {F : Nat → Prop} (h : PutsO w v ps F) : Puts w v ps := h.puts
theorem PutsO.later {w w' : World} {v : Value} {ps : List (Int × List Int)} {F : Nat → Prop} (h : PutsO w v ps F) (hb : Below w.heap.size w w') : PutsO w' v ps F := h.keep fun b _ hlt => hb.block b hlt
theorem PutsO.chg {w w' : World} {v : Value} {ps : List (Int × List Int)} {F G : Nat → Prop} (h : PutsO w v ps F) (hc : Chg G w w') (hd : ∀ b, F b → ¬ G b) : PutsO w' v ps F := h.keep fun b hb hlt => hc.block b hlt (hd b hb)
theorem GRow.puts {w : World} {base : Nat} {e : TypeId} {v : Value} {n : Nat} {u : Nat → List Value} {G : Nat → Nat → Prop} {ps : List (Int × List Int)} (h : GRow PutP w base e 2 v n (fun i => ps[i]?.getD (0, [])) u G) (hn : ps.length = n) (F : Nat → Prop) (hF : ∀ c, base ≤ c → c < w.heap.size → F c) : PutsO w v ps F := by
  subst hn
  by_cases h0 : ps.length = 0
  · obtain ⟨a, c, e⟩ := h.shape
    exact Or.inl ⟨List.eq_nil_of_length_eq_zero h0, a, c, by rw [e, h0]⟩
  · obtain ⟨g, cap, rfl, hb, hg, hl, hc, hr⟩ := h.cells (by decide) (by omega)
    refine Or.inr ⟨g, cap, fun i => (u i)[1]?.getD undef, fun i c => i < ps.length ∧ G i c, hF g hb hg, fun i c hc => ⟨hF c (h.lo i c hc.1 hc.2).1 (h.lo i c hc.1 hc.2).2, fun e => h.ne i c hc.1 hc.2 (by simp [Value.ownBlock, e])⟩, fun i j c e h1 h2 => h.inj i j c h1.1 h2.1 e h1.2 h2.2, rfl, hl, hr.congr fun c hc => ?_, fun i hi => ?_⟩
    · obtain ⟨a, c', e1, _⟩ := h.at' (c / 2) (by omega)
      unfold rowCell putCell
      rw [e1]
      have : c % 2 = 0 ∨ c % 2 = 1 := by omega
      rcases this with e | e <;> simp [e, e1]
    · obtain ⟨a, c', e1, e2⟩ := h.at' i hi
      show IntsO w ((u i)[1]?.getD undef) _ _
      rw [e1]
      exact e2.mono fun c hc => ⟨hi, hc⟩

/-- Answers that are puts, in the one form. -/
def AnsPR (w : World) (r : Int × List (Int × List Int)) (e : Ending) (w' : World) : Prop := ∃ a n c, e = .returned (.agg #[.int .i64 r.1, .slice a n c]) ∧ Below w.heap.size w w' ∧ PutsO w' (.slice a n c) r.2 (fresh w w')
theorem AnsPR.putB {w W : World} {rb : Nat} {r : Int} {zs : List (Int × List Int)} {a : Option Addr} {n c : Nat} (hB : Below w.heap.size w W) (hrb : w.heap.size ≤ rb) (hY : PutsO W (.slice a n c) zs (fun b => rb < b ∧ b < W.heap.size)) (x y : Value) : AnsPR w (r, zs) (.returned (.agg #[.int .i64 r, .slice a n c])) ((W.setCell ⟨rb, 0, none⟩ x).setCell ⟨rb, 1, none⟩ y) := by
  refine ⟨a, n, c, rfl, (hB.setCell hrb _).setCell hrb _, ?_⟩
  refine ((hY.store (fun b hb => by have := hb.1; show b ≠ rb; omega) x).store (fun b hb => by have := hb.1; show b ≠ rb; omega) y).mono fun b hb => ⟨by omega, ?_⟩
  simpa [World.setCell] using hb.2
theorem AnsPR.badB {w W : World} {rb : Nat} (r : Int) (hB : Below w.heap.size w W) (hrb : w.heap.size ≤ rb) (x y : Value) : AnsPR w (r, []) (.returned (.agg #[.int .i64 r, .slice none 0 0])) ((W.setCell ⟨rb, 0, none⟩ x).setCell ⟨rb, 1, none⟩ y) := AnsPR.putB hB hrb (Or.inl ⟨rfl, _, _, rfl⟩) x y
end Go.Proofs.Ytpmndmkmfcoieaa

namespace Go.Proofs.Ytpmndmkmfcoieaa
open Go.RowKit
set_option maxRecDepth 100000

theorem Try.infoSte : (Try.prog.info? 86).map (fun i => (i.zero, i.size, i.bytes)) = some (some (.agg #[.bool false, .int .i64 0, .slice none 0 0]), 3, 40) := by kernel_rfl

end Go.Proofs.Ytpmndmkmfcoieaa

namespace Go.Proofs.Ytpmndmkmfcoieaa
open Go.RowKit
set_option maxRecDepth 100000

theorem markCell_0 (k j : Nat) : markCell k (j * 2) = mkT (k + 2 * j) := by unfold markCell; rw [if_pos (by omega), show k + j * 2 = k + 2 * j by omega]
theorem markCell_1 (k j : Nat) : markCell k (j * 2 + 1) = .int .i64 ((k + 2 * j : Nat) + 1 : Int) := by unfold markCell; rw [if_neg (by omega)]; congr 1; omega

end Go.Proofs.Ytpmndmkmfcoieaa

namespace Go.Proofs.Ytpmndmkmfcoieaa
open Go.RowKit
set_option maxRecDepth 100000

theorem OwnRow.newV (w : World) (vs : List Value) (t : TypeId) : OwnRow (w.alloc (.cells vs.toArray t)) w.heap.size vs.length (fun i => vs[i]?.getD (.int .i64 0)) := by
  refine ⟨_, t, Go.Deep.blk_alloc_new _ _, by simp, fun i hi => ?_⟩
  simp [List.getElem?_eq_getElem hi]

/-- An inode whose lists are marked from k on. -/
def mkIno (k : Int) (d : ID) : ID := (d.1, d.2.1, d.2.2.1, marks k d.2.2.2.1.length, marksN (k + (d.2.2.2.1.length : Nat)).toNat d.2.2.2.2.length)

end Go.Proofs.Ytpmndmkmfcoieaa

namespace Go.Proofs.Ytpmndmkmfcoieaa
open Go.RowKit
set_option maxRecDepth 100000

def z5 : List Value := [.int .i64 0, .int .i64 0, .int .i64 0, .slice none 0 0, .slice none 0 0]
theorem box5 (w : World) (o1 o2 : Obj) (t : TypeId) (z0 z1 z2 : Value) :
    OwnRow (((w.alloc o1).alloc o2).alloc (.cells #[z0, z1, z2, .slice none 0 0, .slice none 0 0] t)) (w.heap.size + 1 + 1) 5 (fun i => if i = 0 then z0 else if i = 1 then z1 else if i = 2 then z2 else .slice none 0 0) := by
  have h := OwnRow.newV ((w.alloc o1).alloc o2) [z0, z1, z2, .slice none 0 0, .slice none 0 0] t
  simp only [World.size_alloc] at h
  refine OwnRow.congr (n := 5) h fun i hi => ?_
  have : i = 0 ∨ i = 1 ∨ i = 2 ∨ i = 3 ∨ i = 4 := by omega
  rcases this with rfl | rfl | rfl | rfl | rfl <;> simp
theorem box5' (w : World) (o1 o3 : Obj) (t : TypeId) :
    OwnRow (((w.alloc o1).alloc (.cells #[.int .i64 0, .int .i64 0, .int .i64 0, .slice none 0 0, .slice none 0 0] t)).alloc o3) (w.heap.size + 1) 5 (fun i => if i < 3 then .int .i64 0 else .slice none 0 0) := by
  have h := (OwnRow.newV (w.alloc o1) z5 t).later (later1 _ o3)
  simp only [World.size_alloc] at h
  refine OwnRow.congr (n := 5) h fun i hi => ?_
  have : i = 0 ∨ i = 1 ∨ i = 2 ∨ i = 3 ∨ i = 4 := by omega
  rcases this with rfl | rfl | rfl | rfl | rfl <;> simp [z5]
theorem box5p (w : World) (x0 x1 x2 x3 x4 : Value) (o2 o3 : Obj) (t : TypeId) :
    OwnRow (((w.alloc (.cells #[x0, x1, x2, x3, x4] t)).alloc o2).alloc o3) w.heap.size 5 (fun i => [x0, x1, x2, x3, x4][i]?.getD (.int .i64 0)) :=
  ((OwnRow.newV w [x0, x1, x2, x3, x4] t).later (later1 _ o2)).later (later1 _ o3)

theorem toIntsC {w : World} {v : Value} {zs : List Int} (h : Ints w v zs) (hn : zs.length ≤ 1048576) :
    Calls Try.prog 38 #[v] w fun e w' => ∃ a n c, e = .returned (.slice a n c) ∧ Below w.heap.size w w' ∧ IntsO w' (.slice a n c) zs (fresh w w') ∧ n ≤ c :=
  (toInts_any h hn).mono fun _ _ ⟨h1, h2, h3⟩ => ⟨_, _, _, h1, h2, h3, Nat.le_refl _⟩

end Go.Proofs.Ytpmndmkmfcoieaa
