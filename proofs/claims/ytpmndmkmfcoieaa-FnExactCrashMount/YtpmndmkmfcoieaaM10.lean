/- Lists of steps marked with what they hold, and held. Rows that grow by append of many elements at once; rows of steps. What a journal has: no program is named here. The heads and ends of a journal: the program's words. What compares lists of integers and of entries: the specification's and slices.Equal. The places in a head: the program. -/
import Derived.Test.YtpmndmkmfcoieaaM08
import Derived.Test.YtpmndmkmfcoieaaM05
import Derived.Test.YtpmndmkmfcoieaaM09
import Derived.Test.YtpmndmkmfcoieaaM02
import Derived.Test.YtpmndmkmfcoieaaM07
import Derived.Test.YtpmndmkmfcoieaaRows
import Derived.Laws.StructEq
namespace Go.Proofs.Ytpmndmkmfcoieaa
open Go.RowKit
set_option maxRecDepth 100000

/-- What marking lays into a step of n words, from number k on. -/
def mkS (k : Int) (n : Nat) : SD := (k % 3 == 0, k + 1, marks (k + 1 + 1) n)
def snum (k : Int) (ds : List SD) (i : Nat) : Int := k + (upto (stp ds) i : Nat)
def halfS (k : Int) (ds : List SD) (j : Nat) : List SD := (List.range ds.length).map fun i => if i < j then mkS (snum k ds i) (ds[i]?.getD sd0).2.2.length else ds[i]?.getD sd0
def mkStps (k : Int) (ds : List SD) : List SD := (List.range ds.length).map fun i => mkS (snum k ds i) (ds[i]?.getD sd0).2.2.length
theorem mkStps_length (k : Int) (ds : List SD) : (mkStps k ds).length = ds.length := by simp [mkStps]
theorem mkStps_get (k : Int) (ds : List SD) {i : Nat} (hi : i < ds.length) : (mkStps k ds)[i]?.getD sd0 = mkS (snum k ds i) (ds[i]?.getD sd0).2.2.length := by
  unfold mkStps; rw [List.getElem?_map, List.getElem?_range hi]; rfl
theorem halfS_length (k : Int) (ds : List SD) (j : Nat) : (halfS k ds j).length = ds.length := by simp [halfS]
theorem halfS_get (k : Int) (ds : List SD) (j : Nat) {i : Nat} (hi : i < ds.length) : (halfS k ds j)[i]?.getD sd0 = if i < j then mkS (snum k ds i) (ds[i]?.getD sd0).2.2.length else ds[i]?.getD sd0 := by
  unfold halfS; rw [List.getElem?_map, List.getElem?_range hi]; rfl
theorem halfS_zero (k : Int) (ds : List SD) : halfS k ds 0 = ds := by
  refine List.ext_getElem (halfS_length k ds 0) fun i h1 h2 => ?_
  have := halfS_get k ds 0 h2
  rw [if_neg (by omega), List.getElem?_eq_getElem h1, List.getElem?_eq_getElem h2] at this
  exact this
theorem halfS_all (k : Int) (ds : List SD) : halfS k ds ds.length = mkStps k ds := by
  refine List.ext_getElem (by rw [halfS_length, mkStps_length]) fun i h1 h2 => ?_
  have hi : i < ds.length := by rw [halfS_length] at h1; exact h1
  have e1 := halfS_get k ds ds.length hi
  have e2 := mkStps_get k ds hi
  rw [if_pos hi, List.getElem?_eq_getElem h1] at e1
  rw [List.getElem?_eq_getElem h2] at e2
  exact e1.trans e2.symm
theorem stCell_next (k : Int) (ds : List SD) (u : Nat → Value) (j c : Nat) (hj : j < ds.length) (hc : c < ds.length * 3) :
    (if c = j * 3 + 1 then .int .i64 (snum k ds j + 1) else if c = j * 3 then .bool (snum k ds j % 3 == 0) else stCell (halfS k ds j) u c) = stCell (halfS k ds (j + 1)) u c := by
  have hi : c / 3 < ds.length := by omega
  by_cases e1 : c = j * 3 + 1
  · subst e1
    rw [if_pos rfl, stCell_1, halfS_get _ _ _ hj, if_pos (by omega)]; rfl
  · rw [if_neg e1]
    by_cases e0 : c = j * 3
    · subst e0
      rw [if_pos rfl, stCell_0, halfS_get _ _ _ hj, if_pos (by omega)]; rfl
    · rw [if_neg e0]
      unfold stCell
      rw [halfS_get _ _ _ hi, halfS_get _ _ _ hi]
      by_cases e2 : c % 3 = 2
      · rw [if_neg (by omega), if_neg (by omega), if_neg (by omega), if_neg (by omega)]
      · have hne : c / 3 ≠ j := by omega
        have : (c / 3 < j) = (c / 3 < j + 1) := by apply propext; omega
        simp only [this]
theorem snum_next (k : Int) (ds : List SD) (j : Nat) (hj : j < ds.length) : snum k ds (j + 1) = snum k ds j + 1 + 1 + ((ds[j]?.getD sd0).2.2.length : Int) ∧ snum k ds (j + 1) ≤ k + (spanStps ds : Nat) := by
  have hs := upto_succ (stp ds) j (by rw [stp_length]; exact hj)
  rw [stp_get ds j hj] at hs
  have hle := upto_le (stp ds) (j + 1)
  unfold spanSte at hs
  unfold snum spanStps
  constructor <;> omega

end Go.Proofs.Ytpmndmkmfcoieaa

namespace Go.Proofs.Ytpmndmkmfcoieaa
open Go.RowKit
set_option maxRecDepth 100000

section
variable {α : Type} {P : World → List Value → α → (Nat → Prop) → Prop}
theorem GRow.congr {w : World} {base : Nat} {e : TypeId} {size : Nat} {v : Value} {n : Nat} {x x' : Nat → α} {u : Nat → List Value} {G : Nat → Nat → Prop} (h : GRow P w base e size v n x u G) (hx : ∀ i, i < n → x i = x' i) : GRow P w base e size v n x' u G :=
  ⟨h.own, h.len, h.lo, h.ne, h.inj, fun i hi => by rw [← hx i hi]; exact h.at' i hi⟩
theorem GRow.low {w : World} {base base' : Nat} {e : TypeId} {size : Nat} {v : Value} {n : Nat} {x : Nat → α} {u : Nat → List Value} {G : Nat → Nat → Prop} (h : GRow P w base e size v n x u G) (hb : base' ≤ base) : GRow P w base' e size v n x u G :=
  ⟨ownsRow_le h.own hb, h.len, fun i c hi hc => ⟨Nat.le_trans hb (h.lo i c hi hc).1, (h.lo i c hi hc).2⟩, h.ne, h.inj, h.at'⟩
theorem flat_at {size n : Nat} (hsz : 0 < size) (u : Nat → List Value) (hu : ∀ i, i < n → (u i).length = size) (i q : Nat) (hi : i < n) (hq : q < size) : ((List.range n).flatMap u)[i * size + q]? = (u i)[q]? := by
  have e0 : (List.range n).flatMap u = (List.range n).flatMap (fun i => if i < n then u i else List.replicate size undef) := by
    have : (List.range n).map u = (List.range n).map (fun i => if i < n then u i else List.replicate size undef) := List.map_congr_left fun i hi => by rw [if_pos (List.mem_range.1 hi)]
    rw [List.flatMap_def, List.flatMap_def, this]
  have hg := flat_get (C := fun i _ => if i < n then u i else List.replicate size undef) hsz (fun _ => undef) (fun i => by
    by_cases hi : i < n
    · simp only [if_pos hi]; exact hu i hi
    · simp only [if_neg hi]; simp) n i q hi hq
  rw [e0, hg, if_pos hi]
theorem flat_size {size : Nat} (u : Nat → List Value) (n : Nat) (hu : ∀ i, i < n → (u i).length = size) : ((List.range n).flatMap u).length = n * size := by
  induction n with
  | zero => simp
  | succ n ih =>
    rw [List.range_succ, List.flatMap_append, List.length_append, ih fun i hi => hu i (by omega)]
    simp only [List.flatMap_cons, List.flatMap_nil, List.append_nil]
    rw [hu n (by omega), Nat.succ_mul]
theorem flat_two (u u2 : Nat → List Value) (n m : Nat) : (List.range (n + m)).flatMap (fun i => if i < n then u i else u2 (i - n)) = (List.range n).flatMap u ++ (List.range m).flatMap u2 := by
  induction m with
  | zero =>
    simp only [Nat.add_zero, List.range_zero, List.flatMap_nil, List.append_nil]
    have : (List.range n).map (fun i => if i < n then u i else u2 (i - n)) = (List.range n).map u := List.map_congr_left fun i hi => by rw [if_pos (List.mem_range.1 hi)]
    rw [List.flatMap_def, List.flatMap_def, this]
  | succ m ih =>
    rw [← Nat.add_assoc, List.range_succ, List.flatMap_append, ih, List.range_succ, List.flatMap_append, List.append_assoc]
    simp only [List.flatMap_cons, List.flatMap_nil, List.append_nil]
    rw [if_neg (by omega), Nat.add_sub_cancel_left]
/-- What 'append' of many elements comes to. -/
theorem GRow.many (hP : StP P) (w : World) (t ty e : TypeId) (i : TypeInfo) (z : Value) (size bytes : Nat) (ht : Try.prog.underlying t = some (.slice e)) (hi : Try.prog.info? e = some i) (hz : i.zero = some z) (hsize : i.size = size) (hby : i.bytes = bytes) (hzs : z.cells.size = size) (hsz : 0 < size) (hbb : bytes ≤ 1000)
    (base n : Nat) (v : Value) (x : Nat → α) (u : Nat → List Value) (G : Nat → Nat → Prop) (h : GRow P w base e size v n x u G) (hb : base ≤ w.heap.size)
    (b2 m c : Nat) (hm : 0 < m) (hnm : n + m ≤ 1048600) (x2 : Nat → α) (u2 : Nat → List Value) (G2 : Nat → Nat → Prop) (hl2 : ∀ j, j < m → (u2 j).length = size) (hc2 : ∀ j q y, j < m → q < size → (u2 j)[q]? = some y → w.cell? ⟨b2, j * size + q, none⟩ = some y) (hone : ∀ j y, j < m → y ∈ u2 j → y.oneCell' = true)
    (hlo2 : ∀ j c, j < m → G2 j c → base ≤ c ∧ c < w.heap.size) (hne2 : ∀ j c, j < m → G2 j c → v.ownBlock ≠ some c) (hinj2 : ∀ i j c, i < m → j < m → i ≠ j → G2 i c → ¬ G2 j c) (hd : ∀ i j c, i < n → j < m → G i c → ¬ G2 j c) (hat2 : ∀ j, j < m → P w (u2 j) (x2 j) (G2 j)) :
    ∃ g cap X u' G', (Builtin.append_ #[t, t] ty #[v, .slice (some ⟨b2, 0, none⟩) m c]).run Try.prog w = .ok (.slice (some ⟨g, 0, none⟩) (n + m) cap) X ∧
      (∀ B, B ≤ w.heap.size → (∀ g, v.ownBlock = some g → B ≤ g) → Below B w X) ∧ GRow P X base e size (.slice (some ⟨g, 0, none⟩) (n + m) cap) (n + m) (fun i => if i < n then x i else x2 (i - n)) u' G' ∧ (∀ b, b < w.heap.size → v.ownBlock ≠ some b → X.heap[b]? = w.heap[b]? ∧ g ≠ b) ∧
      (∀ i, i < n + m → u' i = if i < n then u i else u2 (i - n)) ∧ (∀ i c, i < n + m → (G' i c ↔ if i < n then G i c else G2 (i - n) c)) := by
  have hfl := flat_size u2 m hl2
  obtain ⟨g, cap, X, hr, ho, hg, hat, hgX⟩ := run_append_lies (P := Try.prog) w t ty base e i z size bytes ht hi hz hsize hby hzs hsz v n _ h.own ⟨b2, 0, none⟩ m c ((List.range m).flatMap u2) hfl
    (fun j y hy => by
      have hj : j < m * size := by rw [← hfl]; exact (List.getElem?_eq_some_iff.1 hy).1
      have hd : j / size < m := by rw [Nat.div_lt_iff_lt_mul hsz]; exact hj
      have hq : j % size < size := Nat.mod_lt _ hsz
      have e1 := flat_at hsz u2 hl2 (j / size) (j % size) hd hq
      rw [Nat.div_add_mod'] at e1
      rw [e1] at hy
      have := hc2 _ _ _ hd hq hy
      rw [Nat.div_add_mod'] at this
      rw [add_plain', Nat.zero_add]
      exact this)
    (fun y hy => by
      rw [List.mem_flatMap] at hy
      obtain ⟨j, hj, hy⟩ := hy
      exact hone j y (List.mem_range.1 hj) hy) hm (by unfold maxLen; omega) (by have : (n + m) * bytes ≤ 1048600 * 1000 := Nat.mul_le_mul (by omega) hbb; omega) hb w.heap.size rfl
  have hrowb : ∀ g, v.ownBlock = some g → base ≤ g ∧ g < w.heap.size := fun g hg => h.own.lt g hg
  have hXb : ∀ b, b < w.heap.size → v.ownBlock ≠ some b → X.heap[b]? = w.heap[b]? := fun b hb' hne => hg.block b hb' (fun e => hne e.symm)
  have hne : ∀ b, b < w.heap.size → v.ownBlock ≠ some b → g ≠ b := by
    intro b hb' hb2 e
    subst e
    rcases hat with h | h
    · exact hb2 h
    · omega
  have hXs : w.heap.size ≤ X.heap.size := hg.size
  refine ⟨g, cap, X, _, _, hr, fun B h1 h2 => below_grown hg h1 h2, ⟨(flat_two u u2 n m).symm ▸ ho, fun j hj => ?_, fun j c hj hc => ?_, fun j c hj hc => ?_, fun j j' c hj hj' e hc hc' => ?_, fun j hj => ?_⟩, fun b hb hn => ⟨hXb b hb hn, hne b hb hn⟩, fun i _ => rfl, fun i c _ => (Iff.rfl : (if i < n then G i c else G2 (i - n) c) ↔ _)⟩
  · by_cases e : j < n
    · simp only [if_pos e]; exact h.len j e
    · simp only [if_neg e]; exact hl2 _ (by omega)
  · by_cases e : j < n
    · simp only [if_pos e] at hc
      have := h.lo j c e hc
      omega
    · simp only [if_neg e] at hc
      have := hlo2 _ c (by omega) hc
      omega
  · by_cases e : j < n
    · simp only [if_pos e] at hc
      exact fun e' => hne c (h.lo j c e hc).2 (h.ne j c e hc) (by simpa [Value.ownBlock] using e')
    · simp only [if_neg e] at hc
      exact fun e' => hne c (hlo2 _ c (by omega) hc).2 (hne2 _ c (by omega) hc) (by simpa [Value.ownBlock] using e')
  · by_cases e1 : j < n
    · by_cases e2 : j' < n
      · simp only [if_pos e1] at hc
        simp only [if_pos e2] at hc'
        exact h.inj j j' c e1 e2 e hc hc'
      · simp only [if_pos e1] at hc
        simp only [if_neg e2] at hc'
        exact hd j _ c e1 (by omega) hc hc'
    · by_cases e2 : j' < n
      · simp only [if_neg e1] at hc
        simp only [if_pos e2] at hc'
        exact hd j' _ c e2 (by omega) hc' hc
      · simp only [if_neg e1] at hc
        simp only [if_neg e2] at hc'
        exact hinj2 _ _ c (by omega) (by omega) (by omega) hc hc'
  · by_cases e : j < n
    · simp only [if_pos e]
      exact hP _ _ _ _ _ (h.at' j e) fun c hc hlt => hXb c hlt (h.ne j c e hc)
    · simp only [if_neg e]
      exact hP _ _ _ _ _ (hat2 _ (by omega)) fun c hc hlt => hXb c hlt (hne2 _ c (by omega) hc)
/-- The cells of such a row, one by one. -/
theorem GRow.cellAt {w : World} {base : Nat} {e : TypeId} {size : Nat} {b n cap : Nat} {x : Nat → α} {u : Nat → List Value} {G : Nat → Nat → Prop} (h : GRow P w base e size (.slice (some ⟨b, 0, none⟩) n cap) n x u G) (hsz : 0 < size) (j q : Nat) (y : Value) (hj : j < n) (hq : q < size) (hy : (u j)[q]? = some y) : w.cell? ⟨b, j * size + q, none⟩ = some y := by
  have hlt : j * size + q < n * size := by
    have : (j + 1) * size ≤ n * size := Nat.mul_le_mul_right _ (by omega)
    rw [Nat.succ_mul] at this
    omega
  rw [h.own.cellAt _ hlt, flat_at hsz u h.len j q hj hq, hy]
end

/-- A step, in three cells. -/
def StpP (w : World) (u : List Value) (p : SD) (F : Nat → Prop) : Prop := ∃ a c, u = [.bool p.1, .int .i64 p.2.1, .slice a p.2.2.length c] ∧ IntsO w (.slice a p.2.2.length c) p.2.2 F
theorem StpP.steady : StP StpP := fun w w' u x F h k => by
  obtain ⟨a, c, h1, h2⟩ := h
  exact ⟨a, c, h1, h2.keep k⟩
theorem Try.infoStp' : ∃ i, Try.prog.info? 86 = some i ∧ i.zero = some (.agg #[.bool false, .int .i64 0, .slice none 0 0]) ∧ i.size = 3 ∧ i.bytes = 40 := by
  obtain ⟨i, hi, h⟩ := Option.map_eq_some_iff.1 Try.infoSte
  simp only [Prod.mk.injEq] at h
  exact ⟨i, hi, h.1, h.2.1, h.2.2⟩
theorem StpP.one {w : World} {u : List Value} {p : SD} {F : Nat → Prop} (h : StpP w u p F) : ∀ y ∈ u, y.oneCell' = true := fun y hy => by
  obtain ⟨a, c, rfl, _⟩ := h
  simp only [List.mem_cons, List.not_mem_nil, or_false] at hy
  rcases hy with rfl | rfl | rfl <;> rfl
theorem GRow.stps {w : World} {base : Nat} {e : TypeId} {v : Value} {n : Nat} {u : Nat → List Value} {G : Nat → Nat → Prop} {ds : List SD} (h : GRow StpP w base e 3 v n (fun i => ds[i]?.getD sd0) u G) (hn : ds.length = n) (F : Nat → Prop) (hF : ∀ c, base ≤ c → c < w.heap.size → F c) : StpsO w v ds F := by
  subst hn
  by_cases h0 : ds.length = 0
  · obtain ⟨a, c, e⟩ := h.shape
    exact Or.inl ⟨List.eq_nil_of_length_eq_zero h0, a, c, by rw [e, h0]⟩
  · obtain ⟨g, cap, rfl, hb, hg, hl, hc, hr⟩ := h.cells (by decide) (by omega)
    refine Or.inr ⟨g, cap, fun i => (u i)[2]?.getD undef, fun i c => i < ds.length ∧ G i c, hF g hb hg, fun i c hc => ⟨hF c (h.lo i c hc.1 hc.2).1 (h.lo i c hc.1 hc.2).2, fun e => h.ne i c hc.1 hc.2 (by simp [Value.ownBlock, e])⟩, fun i j c e h1 h2 => h.inj i j c h1.1 h2.1 e h1.2 h2.2, rfl, ⟨hl, hc⟩, hr.congr fun c hc => ?_, fun i hi => ⟨⟨rfl, rfl⟩, ?_⟩⟩
    · obtain ⟨a, c', e1, _⟩ := h.at' (c / 3) (by omega)
      unfold rowCell stCell
      rw [e1]
      have : c % 3 = 0 ∨ c % 3 = 1 ∨ c % 3 = 2 := by omega
      rcases this with e | e | e <;> simp [e, e1]
    · obtain ⟨a, c', e1, e2⟩ := h.at' i hi
      show IntsO w ((u i)[2]?.getD undef) _ _
      rw [e1]
      exact e2.mono fun c hc => ⟨hi, hc⟩
/-- A step whose words lie in blocks of T. -/
def StpT (T : Nat → Prop) (w : World) (u : List Value) (p : SD) (F : Nat → Prop) : Prop := StpP w u p F ∧ ∀ c, F c → T c
theorem StpT.steady (T : Nat → Prop) : StP (StpT T) := fun _ _ _ _ _ h k => ⟨StpP.steady _ _ _ _ _ h.1 k, h.2⟩
theorem GRow.imp {α : Type} {P P' : World → List Value → α → (Nat → Prop) → Prop} {w : World} {base : Nat} {e : TypeId} {size : Nat} {v : Value} {n : Nat} {x : Nat → α} {u : Nat → List Value} {G : Nat → Nat → Prop} (h : GRow P w base e size v n x u G) (hp : ∀ i, i < n → P w (u i) (x i) (G i) → P' w (u i) (x i) (G i)) : GRow P' w base e size v n x u G :=
  ⟨h.own, h.len, h.lo, h.ne, h.inj, fun i hi => hp i hi (h.at' i hi)⟩
/-- What 'append' of one step comes to. -/
theorem append_stpT (T : Nat → Prop) (w w1 : World) (base n : Nat) (v : Value) (x : Nat → SD) (u : Nat → List Value) (G : Nat → Nat → Prop) (h : GRow (StpT T) w base 86 3 v n x u G) (hb : base ≤ w.heap.size) (hn : n ≤ 1048600) (hb1 : Below w.heap.size w w1)
    (fl : Bool) (at_ : Int) (a : Option Addr) (m c : Nat) (ws : List Int) (hx : x n = (fl, at_, ws)) (F : Nat → Prop) (hF : ∀ c, F c → w.heap.size ≤ c ∧ c < w1.heap.size) (hT : ∀ c, F c → T c) (hm : m = ws.length) (hf : IntsO w1 (.slice a m c) ws F) (B : Nat) (hB : w1.heap.size = B) :
    ∃ g cap X u' G', (Builtin.append_ #[46, 46] 46 #[v, .slice (some ⟨B, 0, none⟩) 1 1]).run Try.prog (w1.alloc (.cells #[.bool fl, .int .i64 at_, .slice a m c] 86)) = .ok (.slice (some ⟨g, 0, none⟩) (n + 1) cap) X ∧
      Below base w X ∧ w1.heap.size < X.heap.size ∧ GRow (StpT T) X base 86 3 (.slice (some ⟨g, 0, none⟩) (n + 1) cap) (n + 1) x u' G' ∧ (∀ b, b < w1.heap.size → v.ownBlock ≠ some b → X.heap[b]? = w1.heap[b]? ∧ g ≠ b) := by
  subst hm
  subst hB
  obtain ⟨i, hi, i1, i2, i3⟩ := Try.infoStp'
  exact GRow.append (StpT.steady T) w w1 46 46 86 i _ 3 40 Try.underlying46 hi i1 i2 i3 rfl (by decide) (by decide) base n v x u G h hb hn hb1 [.bool fl, .int .i64 at_, .slice a ws.length c] rfl (fun y hy => by
    simp only [List.mem_cons, List.not_mem_nil, or_false] at hy
    rcases hy with rfl | rfl | rfl <;> rfl) F hF ⟨⟨a, c, by rw [hx], by rw [hx]; exact hf⟩, hT⟩
/-- What 'append' of one step comes to. -/
theorem append_stpG (w w1 : World) (base n : Nat) (v : Value) (x : Nat → SD) (u : Nat → List Value) (G : Nat → Nat → Prop) (h : GRow StpP w base 86 3 v n x u G) (hb : base ≤ w.heap.size) (hn : n ≤ 1048600) (hb1 : Below w.heap.size w w1)
    (fl : Bool) (at_ : Int) (a : Option Addr) (m c : Nat) (ws : List Int) (hx : x n = (fl, at_, ws)) (F : Nat → Prop) (hF : ∀ c, F c → w.heap.size ≤ c ∧ c < w1.heap.size) (hm : m = ws.length) (hf : IntsO w1 (.slice a m c) ws F) (B : Nat) (hB : w1.heap.size = B) :
    ∃ g cap X u' G', (Builtin.append_ #[46, 46] 46 #[v, .slice (some ⟨B, 0, none⟩) 1 1]).run Try.prog (w1.alloc (.cells #[.bool fl, .int .i64 at_, .slice a m c] 86)) = .ok (.slice (some ⟨g, 0, none⟩) (n + 1) cap) X ∧
      Below base w X ∧ w1.heap.size < X.heap.size ∧ GRow StpP X base 86 3 (.slice (some ⟨g, 0, none⟩) (n + 1) cap) (n + 1) x u' G' ∧ (∀ b, b < w1.heap.size → v.ownBlock ≠ some b → X.heap[b]? = w1.heap[b]? ∧ g ≠ b) := by
  subst hm
  subst hB
  obtain ⟨i, hi, i1, i2, i3⟩ := Try.infoStp'
  exact GRow.append StpP.steady w w1 46 46 86 i _ 3 40 Try.underlying46 hi i1 i2 i3 rfl (by decide) (by decide) base n v x u G h hb hn hb1 [.bool fl, .int .i64 at_, .slice a ws.length c] rfl (fun y hy => by
    simp only [List.mem_cons, List.not_mem_nil, or_false] at hy
    rcases hy with rfl | rfl | rfl <;> rfl) F hF ⟨a, c, by rw [hx], by rw [hx]; exact hf⟩
/-- A row of steps behind a row of steps: what 'append(a, b...)' comes to. -/
theorem append_stpsG (w : World) (base n m : Nat) (v v2 : Value) (x x2 : Nat → SD) (u u2 : Nat → List Value) (G G2 : Nat → Nat → Prop) (h : GRow StpP w base 86 3 v n x u G) (h2 : GRow StpP w base 86 3 v2 m x2 u2 G2) (hb : base ≤ w.heap.size) (hm : 0 < m) (hnm : n + m ≤ 1048600) (hne : ∀ j c, j < m → G2 j c → v.ownBlock ≠ some c) (hd : ∀ i j c, i < n → j < m → G i c → ¬ G2 j c) :
    ∃ g cap X u' G', (Builtin.append_ #[46, 46] 46 #[v, v2]).run Try.prog w = .ok (.slice (some ⟨g, 0, none⟩) (n + m) cap) X ∧
      (∀ B, B ≤ w.heap.size → (∀ g, v.ownBlock = some g → B ≤ g) → Below B w X) ∧ GRow StpP X base 86 3 (.slice (some ⟨g, 0, none⟩) (n + m) cap) (n + m) (fun i => if i < n then x i else x2 (i - n)) u' G' ∧ (∀ b, b < w.heap.size → v.ownBlock ≠ some b → X.heap[b]? = w.heap[b]? ∧ g ≠ b) ∧ (∀ i c, i < n + m → (G' i c ↔ if i < n then G i c else G2 (i - n) c)) := by
  obtain ⟨i, hi, i1, i2, i3⟩ := Try.infoStp'
  obtain ⟨b2, cap2, rfl, _, _⟩ := h2.cells (by decide) hm
  obtain ⟨g, cap, X, u', G', r1, r2, r3, r4, _, r6⟩ := GRow.many StpP.steady w 46 46 86 i _ 3 40 Try.underlying46 hi i1 i2 i3 rfl (by decide) (by decide) base n v x u G h hb b2 m cap2 hm hnm x2 u2 G2 h2.len (fun j q y hj hq hy => h2.cellAt (by decide) j q y hj hq hy) (fun j y hj hy => (h2.at' j hj).one y hy) h2.lo hne h2.inj hd h2.at'
  exact ⟨g, cap, X, u', G', r1, r2, r3, r4, r6⟩
/-- What 'append' of one step whose words stand already comes to. -/
theorem append_stpO (T : Nat → Prop) (w : World) (base n : Nat) (v : Value) (x : Nat → SD) (u : Nat → List Value) (G : Nat → Nat → Prop) (h : GRow (StpT T) w base 86 3 v n x u G) (hb : base ≤ w.heap.size) (hn : n + 1 ≤ 1048600)
    (fl : Bool) (at_ : Int) (a : Option Addr) (m c : Nat) (ws : List Int) (hx : x n = (fl, at_, ws)) (F : Nat → Prop) (hF : ∀ c, F c → base ≤ c ∧ c < w.heap.size) (hT : ∀ c, F c → T c) (hne : ∀ c, F c → v.ownBlock ≠ some c) (hd : ∀ i c, i < n → G i c → ¬ F c) (hm : m = ws.length) (hf : IntsO w (.slice a m c) ws F) (B : Nat) (hB : w.heap.size = B) :
    ∃ g cap X u' G', (Builtin.append_ #[46, 46] 46 #[v, .slice (some ⟨B, 0, none⟩) 1 1]).run Try.prog (w.alloc (.cells #[.bool fl, .int .i64 at_, .slice a m c] 86)) = .ok (.slice (some ⟨g, 0, none⟩) (n + 1) cap) X ∧
      (∀ B, B ≤ w.heap.size → (∀ g, v.ownBlock = some g → B ≤ g) → Below B w X) ∧ GRow (StpT T) X base 86 3 (.slice (some ⟨g, 0, none⟩) (n + 1) cap) (n + 1) x u' G' ∧ (∀ b, b < w.heap.size → v.ownBlock ≠ some b → X.heap[b]? = w.heap[b]? ∧ g ≠ b) ∧ (∀ i c, i < n + 1 → (G' i c ↔ if i < n then G i c else F c)) := by
  subst hm
  subst hB
  obtain ⟨i, hi, i1, i2, i3⟩ := Try.infoStp'
  have hla := later1 w (.cells #[.bool fl, .int .i64 at_, .slice a ws.length c] 86)
  obtain ⟨g, cap, X, u', G', r1, r2, r3, r4, _, r6⟩ := GRow.many (StpT.steady T) (w.alloc (.cells #[.bool fl, .int .i64 at_, .slice a ws.length c] 86)) 46 46 86 i _ 3 40 Try.underlying46 hi i1 i2 i3 rfl (by decide) (by decide) base n v x u G (h.later (StpT.steady T) hla) (by simp; omega) w.heap.size 1 1 (by decide) hn (fun _ => (fl, at_, ws)) (fun _ => [.bool fl, .int .i64 at_, .slice a ws.length c]) (fun _ => F) (fun _ _ => rfl) (fun j q y hj _ hy => by
      obtain rfl : j = 0 := by omega
      rw [Nat.zero_mul, Nat.zero_add, new_cell]
      simpa using hy) (fun _ y _ hy => by
      simp only [List.mem_cons, List.not_mem_nil, or_false] at hy
      rcases hy with rfl | rfl | rfl <;> rfl) (fun _ c _ hc => ⟨(hF c hc).1, by simp; have := (hF c hc).2; omega⟩) (fun _ c _ hc => hne c hc) (fun i j c hi hj e => by omega) (fun i _ c hi _ h1 h2 => hd i c hi h1 h2) (fun _ _ => ⟨⟨a, c, rfl, hf.keep fun b _ hlt => hla.block b hlt⟩, hT⟩)
  refine ⟨g, cap, X, u', G', r1, fun B h1 h2 => (hla.mono h1).trans (r2 B (by simp; omega) h2), r3.congr fun i hi => ?_, fun b hb hn => ?_, r6⟩
  · by_cases e : i < n
    · rw [if_pos e]
    · rw [if_neg e, show i = n by omega, hx]
  · obtain ⟨k1, k2⟩ := r4 b (by simp; omega) hn
    exact ⟨k1.trans (hla.block b hb), k2⟩
end Go.Proofs.Ytpmndmkmfcoieaa

namespace Go.Proofs.Ytpmndmkmfcoieaa
open Go.RowKit
set_option maxRecDepth 100000

/-- The words of a head. -/
def headZ (q : Int) (ps : List Int) : List Int := [1, q, (ps.length : Int)] ++ ps
/-- Is it a head of number q? -/
def headB (q : Int) (zs : List Int) : Bool := decide (3 ≤ zs.length ∧ zs[0]?.getD 0 = (1 : Int) ∧ zs[1]?.getD 0 = q ∧ ((0 : Int) ≤ zs[2]?.getD 0 ∧ zs[2]?.getD 0 ≤ (10 : Int)) ∧ (zs.length : Int) = 3 + zs[2]?.getD 0)
theorem headB_len {q : Int} {zs : List Int} (h : headB q zs = true) : 3 ≤ zs.length ∧ ((zs.drop 3).length : Int) = zs[2]?.getD 0 ∧ (zs.drop 3).length ≤ 10 := by
  unfold headB at h
  obtain ⟨h1, _, _, h4, h5⟩ := of_decide_eq_true h
  rw [List.length_drop]
  exact ⟨h1, by omega, by omega⟩
/-- The program's way of asking. -/
theorem head_yes {q : Int} {zs : List Int} (h3 : 3 ≤ zs.length) (h10 : (zs.drop 3).length ≤ 10) (he : zs = headZ q (zs.drop 3)) : headB q zs = true := by
  match zs, h3 with
  | a :: b :: c :: ps, _ =>
    unfold headZ at he
    simp only [List.drop_succ_cons, List.drop_zero, List.cons_append, List.nil_append, List.cons.injEq, and_true] at he h10
    obtain ⟨rfl, rfl, rfl⟩ := he
    unfold headB
    refine decide_eq_true ⟨by simp, rfl, rfl, ⟨?_, ?_⟩, ?_⟩
    · show (0 : Int) ≤ (ps.length : Int); omega
    · show (ps.length : Int) ≤ 10; omega
    · show ((ps.length + 1 + 1 + 1 : Nat) : Int) = 3 + (ps.length : Int); omega
theorem head_eq {q : Int} {zs : List Int} (h : headB q zs = true) : zs = headZ q (zs.drop 3) := by
  obtain ⟨h3, hn, _⟩ := headB_len h
  unfold headB at h
  obtain ⟨_, h0, h1, _, _⟩ := of_decide_eq_true h
  match zs, h3 with
  | a :: b :: c :: ps, _ =>
    have e0 : a = 1 := h0
    have e1 : b = q := h1
    have e2 : (ps.length : Int) = c := hn
    unfold headZ
    simp only [List.drop_succ_cons, List.drop_zero, List.cons_append, List.nil_append]
    rw [e0, e1, ← e2]
theorem head_no {q : Int} {zs : List Int} (h : ¬ (3 ≤ zs.length ∧ (zs.drop 3).length ≤ 10 ∧ zs = headZ q (zs.drop 3))) : headB q zs = false := by
  cases hb : headB q zs with
  | false => rfl
  | true => exact absurd ⟨(headB_len hb).1, (headB_len hb).2.2, head_eq hb⟩ h
/-- A list of fewer than three words is no head. -/
theorem head_few {q : Int} {zs : List Int} (h : ¬ 3 ≤ zs.length) : headB q zs = false := head_no fun e => h e.1
theorem headZ_len (q : Int) (ps : List Int) : (headZ q ps).length = ps.length + 3 := by unfold headZ; simp
def plcB (x : Int) : Bool := decide (17 ≤ x ∧ x ≤ 26)
/-- Are all of them places of inodes? -/
def plcsB (ps : List Int) : Bool := ps.all plcB
theorem plcsB_no {ps : List Int} {k : Nat} (hk : k < ps.length) (h : plcB (ps[k]?.getD 0) = false) : plcsB ps = false := by
  unfold plcsB
  rw [List.all_eq_false]
  exact ⟨ps[k]?.getD 0, by rw [List.getElem?_eq_getElem hk]; exact List.getElem_mem hk, by rw [h]; simp⟩
theorem plcsB_yes {ps : List Int} (h : ∀ k, k < ps.length → plcB (ps[k]?.getD 0) = true) : plcsB ps = true := by
  unfold plcsB
  rw [List.all_eq_true]
  intro x hx
  obtain ⟨k, hk, rfl⟩ := List.getElem_of_mem hx
  have := h k hk
  rwa [List.getElem?_eq_getElem hk] at this
/-- What the journal of a drive has: f tells what it reads. -/
def foundB (f : Nat → List Int) (q : Int) : Bool :=
  headB q (f 1) && (decide (f (2 + ((f 1).drop 3).length) = [2, q, (((f 1).drop 3).length : Int)]) && plcsB ((f 1).drop 3))
def putsJ (f : Nat → List Int) : List (Int × List Int) := (List.range ((f 1).drop 3).length).map fun i => (((f 1).drop 3)[i]?.getD 0, f (2 + i))
theorem putsJ_len (f : Nat → List Int) : (putsJ f).length = ((f 1).drop 3).length := by unfold putsJ; simp
theorem putsJ_get (f : Nat → List Int) (i : Nat) (h : i < ((f 1).drop 3).length) : (putsJ f)[i]?.getD (0, []) = (((f 1).drop 3)[i]?.getD 0, f (2 + i)) := by
  unfold putsJ
  rw [List.getElem?_map, List.getElem?_range h]
  rfl
/-- ScanJournal: its code, whether a journal was found, what it has. -/
def scanR (d : DK) : Int × Bool × List (Int × List Int) :=
  if (seqR d).1 = 0 then (if foundB (fun k => atF d.1 d.2 k) (seqR d).2 = true then (0, true, putsJ fun k => atF d.1 d.2 k) else (0, false, [])) else ((seqR d).1, false, [])
theorem scanR_bad {d : DK} (h : ¬ (seqR d).1 = 0) : scanR d = ((seqR d).1, false, []) := by unfold scanR; rw [if_neg h]
theorem scanR_no {d : DK} (h : (seqR d).1 = 0) (hf : foundB (fun k => atF d.1 d.2 k) (seqR d).2 = false) : scanR d = (0, false, []) := by unfold scanR; rw [if_pos h, hf, if_neg (by simp)]
theorem scanR_yes {d : DK} (h : (seqR d).1 = 0) (hf : foundB (fun k => atF d.1 d.2 k) (seqR d).2 = true) : scanR d = (0, true, putsJ fun k => atF d.1 d.2 k) := by unfold scanR; rw [if_pos h, if_pos hf]
end Go.Proofs.Ytpmndmkmfcoieaa

namespace Go.Proofs.Ytpmndmkmfcoieaa
open Go.RowKit
set_option maxRecDepth 100000

theorem journalRow_any (w : World) (k : Nat) (hk : k ≤ 1048576) : Calls Try.prog 69 #[.int .i64 (k : Int)] w fun e w' => e = .returned (.int .i64 ((1 + k : Nat) : Int)) ∧ w' = w := by
  go_enter Try.func69, Try.ntmps69
  go_wp2
  go_ret
  exact ⟨ret_int (by go_num), rfl⟩
theorem commitRow_any (w : World) (k : Nat) (hk : k ≤ 1048575) : Calls Try.prog 67 #[.int .i64 (k : Int)] w fun e w' => e = .returned (.int .i64 ((2 + k : Nat) : Int)) ∧ w' = w := by
  have HJ : Hid (∀ W, Calls Try.prog 69 #[.int .i64 ((k : Int) + 1)] W fun e w' => e = .returned (.int .i64 ((2 + k : Nat) : Int)) ∧ w' = W) := fun W => by
    have h := journalRow_any W (k + 1) (by omega)
    rw [show 1 + (k + 1) = 2 + k by omega, Int.natCast_add k 1] at h
    exact h
  go_enter Try.func67, Try.ntmps67
  go_wp2_with fail
  refine (HJ.out _).mono ?_
  rintro e w1 ⟨rfl, rfl⟩
  go_wp2
  go_ret
  exact ⟨rfl, rfl⟩
theorem commitWords_any (w : World) (q : Int) (k : Nat) : Calls Try.prog 68 #[.int .i64 q, .int .i64 (k : Int)] w fun e w' => e = .returned (.slice (some ⟨w.heap.size, 0, none⟩) 3 3) ∧ w' = w.alloc (.cells #[.int .i64 2, .int .i64 q, .int .i64 (k : Int)] 2) := by
  go_enter Try.func68, Try.ntmps68
  go_wp2
  go_ret
  exact ⟨rfl, rfl⟩
set_option maxHeartbeats 1600000 in
theorem headWords_any (w : World) (q : Int) (a : Option Addr) (n c : Nat) (ps : List Int) (hl : ps.length = n) (hn : n ≤ 1048576) (hA : At1 w a n (fun k => .int .i64 (ps[k]?.getD 0))) :
    Calls Try.prog 93 #[.int .i64 q, .slice a n c] w fun e w' => ∃ a' c', e = .returned (.slice a' (headZ q ps).length c') ∧ Below w.heap.size w w' ∧ IntsO w' (.slice a' (headZ q ps).length c') (headZ q ps) (fresh w w') := by
  obtain ⟨v', X, hr, hw, hb, hk⟩ := append_first w w (Below.refl _ _) 1 q (n : Int) a n c ps hn hl hA
  have HR : Hid ((Builtin.append_ #[56, 56] 56 #[.slice (some ⟨w.heap.size, 0, none⟩) 3 3, .slice a n c]).run Try.prog (w.alloc (.cells #[.int .i64 1, .int .i64 q, .int .i64 (n : Int)] 2)) = .ok v' X) := hr
  have he : [1, q, (n : Int)] ++ ps = headZ q ps := by unfold headZ; rw [hl]
  rw [he] at hw
  have HW : Hid (Wds X w.heap.size v' (headZ q ps)) := hw
  have HB : Hid (Below w.heap.size w X) := hb
  have HL : Hid (0 < (headZ q ps).length) := by unfold Hid headZ; simp
  clear hr hw hb hk he hA
  go_enter Try.func93, Try.ntmps93
  go_wp2_with (at_builtin; refine wpList_append_run rfl _ _ 56 rfl _ _ rfl rfl _ _ HR.out ?_)
  go_ret
  obtain ⟨a', c', ev⟩ := HW.out.shape
  subst ev
  exact ⟨a', c', rfl, HB.out, HW.out.own HL.out (Nat.le_refl _)⟩
/-- What a drive reads has room for itself. -/
theorem read_drvC {w : World} {bd : Nat} {d : DK} (h : DrvK w bd d) (x : Nat) (hx : x < d.1.length) :
    Calls Try.prog 64 #[.pointer (some ⟨bd, 0, none⟩), .int .i64 (x : Int)] w fun e w' => ∃ a c, e = .returned (.slice a (atF d.1 d.2 x).length c) ∧ Below w.heap.size w w' ∧ IntsO w' (.slice a (atF d.1 d.2 x).length c) (atF d.1 d.2 x) (fresh w w') ∧ (atF d.1 d.2 x).length ≤ c := by
  obtain ⟨aB, cB, aP, cP, c0, c1, h1, h2⟩ := h.at'
  refine (read_cap w bd aB aP d.1.length cB d.2.length cP d.1 d.2 x hx h.g1 rfl h.g2 c0 c1 h1 h2 h.hz h.hzp).mono ?_
  rintro e w' ⟨a, n, c, rfl, hb, ho, hc⟩
  obtain ⟨_, _, ev, _⟩ := ho.reads.shape
  simp only [Value.slice.injEq] at ev
  obtain ⟨rfl, rfl, rfl⟩ := ev
  exact ⟨a, c, rfl, hb, ho, hc⟩
/-- Words from place m on. -/
theorem slice_dropZ (b o n c m : Nat) (hm : m ≤ n) (hc : n ≤ c) :
    ∃ o', (∀ W : World, (Instr.slice 56 (.slice (some ⟨b, o, none⟩) n c) (some (.int .i64 (m : Int))) none none).run Try.prog W = .ok (.slice (some ⟨b, o', none⟩) (n - m) (c - m)) W) ∧ (m < n → o' = o + m) := by
  obtain ⟨i, hi, _, h2, _⟩ := Try.infoInt'
  refine ⟨if c = m then o else o + m, fun W => ?_, fun h => by rw [if_neg (by omega)]⟩
  simp [Instr.slice, Instr.sliceBounds, Instr.sliceBound, asIntOf, run_underlying Try.underlying56, sizeOf, typeInfo, hi, h2]
  rw [if_pos hm]
  split <;> simp [Addr.add]
theorem At1.dropZ {w : World} {b o o' n m : Nat} {zs : List Int} (h : At1 w (some ⟨b, o, none⟩) n (fun k => .int .i64 (zs[k]?.getD 0))) (ho : m < n → o' = o + m) : At1 w (some ⟨b, o', none⟩) (n - m) (fun k => .int .i64 ((zs.drop m)[k]?.getD 0)) := fun k hk => by
  have e := ho (by omega)
  subst e
  obtain ⟨b', o', e, h1⟩ := h (m + k) (by omega)
  simp only [Option.some.injEq, Addr.mk.injEq, and_true] at e
  obtain ⟨rfl, rfl⟩ := e
  refine ⟨b, o + m, rfl, ?_⟩
  dsimp only at h1 ⊢
  rw [List.getElem?_drop, Nat.add_assoc]
  exact h1
end Go.Proofs.Ytpmndmkmfcoieaa

namespace Go.Proofs.Ytpmndmkmfcoieaa
open Go.RowKit
set_option maxRecDepth 100000

set_option maxHeartbeats 400000 in
theorem l4Ints_len (w : World) (a a' : Option Addr) (cap cap' n n' : Nat) (hn : ¬ n = n') :
    Calls Try.prog 56 #[.slice a n cap, .slice a' n' cap'] w fun e w' => e = .returned (.bool false) ∧ w' = w := by
  have hb : ((n : Int) != (n' : Int)) = true := by simp; omega
  clear hn
  go_enter Try.func56, Try.ntmps56
  go_wp2
  go_ret
  exact ⟨rfl, rfl⟩
set_option maxHeartbeats 1600000 in
theorem l4Ints_walk (w : World) (a a' : Option Addr) (cap cap' n : Nat) (xs ys : List Int) (hx : xs.length = n) (hy : ys.length = n) (hn : n ≤ maxLen)
    (cx : At1 w a n (fun k => .int .i64 (xs[k]?.getD 0))) (cy : At1 w a' n (fun k => .int .i64 (ys[k]?.getD 0))) :
    Calls Try.prog 56 #[.slice a n cap, .slice a' n cap'] w fun e w' => e = .returned (.bool (decide (xs = ys))) ∧ ∃ m, w' = w.drewN m := by
  unfold maxLen at hn
  have HX : Hid (xs.length = n) := hx
  have HY : Hid (ys.length = n) := hy
  have HCX : Hid (At1 w a n (fun k => .int .i64 (xs[k]?.getD 0))) := cx
  have HCY : Hid (At1 w a' n (fun k => .int .i64 (ys[k]?.getD 0))) := cy
  have hnn : ((n : Int) != (n : Int)) = false := by simp
  clear hx hy cx cy
  go_enter Try.func56, Try.ntmps56
  go_wp2
  go_loopw [5] (fun i wr => ∃ k m : Nat, k ≤ n ∧ i = .int .i64 k ∧ wr = w.drewN m ∧ xs.take k = ys.take k) (fun i _ => n - (intOf i).toNat)
  case atStart => exact ⟨0, 0, Nat.zero_le _, rfl, rfl, rfl⟩
  case round =>
    obtain ⟨k, m, hk, rfl, rfl, ht⟩ := hrel
    have HT : Hid (xs.take k = ys.take k) := ht
    clear ht
    by_cases hlt : k < n
    · obtain ⟨b, off, rfl, c1⟩ := HCX.out k hlt
      obtain ⟨b', off', rfl, c2⟩ := HCY.out k hlt
      dsimp only at c1 c2
      by_cases he : xs[k]?.getD 0 = ys[k]?.getD 0
      · have HTT : Hid (xs.take (k + 1) = ys.take (k + 1)) := take_more 0 HX.out HY.out hlt HT.out he
        rw [← he] at c2
        generalize xs[k]?.getD 0 = x at *
        have hb : (x != x) = false := by simp
        clear he
        go_wp2_with fail
        go_quiet (fail)
        go_wp2
        go_roundw
        case rel => exact ⟨k + 1, m + nq, by omega, by go_num, by first | rfl | rw [World.drewN_drewN], HTT.out⟩
        case measure => simp [intOf]; omega
      · have HR : Hid (decide (xs = ys) = false) := by unfold Hid; simp; intro h; rw [h] at he; exact he rfl
        have hb : (xs[k]?.getD 0 != ys[k]?.getD 0) = true := by simpa using he
        clear he
        generalize xs[k]?.getD 0 = x at *
        generalize ys[k]?.getD 0 = y at *
        go_wp2_with fail
        go_quiet (fail)
        go_wp2
        go_ret
        exact ⟨ret_bool HR.out.symm, m + nq, by first | rfl | rw [World.drewN_drewN]⟩
    · have HR : Hid (decide (xs = ys) = true) := by
        have h := HT.out
        rw [List.take_of_length_le (by rw [HX.out]; omega), List.take_of_length_le (by rw [HY.out]; omega)] at h
        unfold Hid; simp [h]
      go_wp2
      go_ret
      exact ⟨ret_bool HR.out.symm, m, rfl⟩
theorem l4Ints_any {w : World} {va vb : Value} {xs ys : List Int} (ha : Ints w va xs) (hb : Ints w vb ys) :
    Calls Try.prog 56 #[va, vb] w fun e w' => e = .returned (.bool (decide (xs = ys))) ∧ ∃ m, w' = w.drewN m := by
  obtain ⟨a, cap, rfl, hm, hc⟩ := ha.open'
  obtain ⟨a', cap', rfl, hm', hc'⟩ := hb.open'
  by_cases h : xs.length = ys.length
  · rw [h] at hc ⊢
    exact l4Ints_walk w a a' cap cap' ys.length xs ys h rfl hm' hc hc'
  · have hd : decide (xs = ys) = false := by simp; intro e; exact h (by rw [e])
    rw [hd]
    exact (l4Ints_len w a a' cap cap' _ _ h).mono fun e w' ⟨h1, h2⟩ => ⟨h1, 0, h2⟩

set_option maxHeartbeats 400000 in
theorem equalI_len (w : World) (a a' : Option Addr) (cap cap' n n' : Nat) (hn : ¬ n = n') :
    Calls Try.prog 66 #[.slice a n cap, .slice a' n' cap'] w fun e w' => e = .returned (.bool false) ∧ w' = w := by
  have hb : ((n : Int) != (n' : Int)) = true := by simp; omega
  clear hn
  go_enter Try.func66, Try.ntmps66
  go_wp2
  go_ret
  exact ⟨rfl, rfl⟩
set_option maxHeartbeats 1600000 in
theorem equalI_walk (w : World) (a a' : Option Addr) (cap cap' n : Nat) (xs ys : List Int) (hx : xs.length = n) (hy : ys.length = n) (hn : n ≤ maxLen)
    (cx : At1 w a n (fun k => .int .i64 (xs[k]?.getD 0))) (cy : At1 w a' n (fun k => .int .i64 (ys[k]?.getD 0))) :
    Calls Try.prog 66 #[.slice a n cap, .slice a' n cap'] w fun e w' => e = .returned (.bool (decide (xs = ys))) ∧ ∃ m, w' = w.drewN m := by
  unfold maxLen at hn
  have HX : Hid (xs.length = n) := hx
  have HY : Hid (ys.length = n) := hy
  have HCX : Hid (At1 w a n (fun k => .int .i64 (xs[k]?.getD 0))) := cx
  have HCY : Hid (At1 w a' n (fun k => .int .i64 (ys[k]?.getD 0))) := cy
  have hnn : ((n : Int) != (n : Int)) = false := by simp
  clear hx hy cx cy
  go_enter Try.func66, Try.ntmps66
  go_wp2
  go_loopw [13] (fun i wr => ∃ k m : Nat, k ≤ n ∧ i = .int .i64 k ∧ wr = w.drewN m ∧ xs.take k = ys.take k) (fun i _ => n - (intOf i).toNat)
  case atStart => exact ⟨0, 0, Nat.zero_le _, rfl, rfl, rfl⟩
  case round =>
    obtain ⟨k, m, hk, rfl, rfl, ht⟩ := hrel
    have HT : Hid (xs.take k = ys.take k) := ht
    clear ht
    by_cases hlt : k < n
    · obtain ⟨b, off, rfl, c1⟩ := HCX.out k hlt
      obtain ⟨b', off', rfl, c2⟩ := HCY.out k hlt
      dsimp only at c1 c2
      by_cases he : xs[k]?.getD 0 = ys[k]?.getD 0
      · have HTT : Hid (xs.take (k + 1) = ys.take (k + 1)) := take_more 0 HX.out HY.out hlt HT.out he
        rw [← he] at c2
        generalize xs[k]?.getD 0 = x at *
        have hb : (x != x) = false := by simp
        clear he
        go_wp2_with fail
        go_quiet (fail)
        go_wp2
        go_roundw
        case rel => exact ⟨k + 1, m + nq, by omega, by go_num, by first | rfl | rw [World.drewN_drewN], HTT.out⟩
        case measure => simp [intOf]; omega
      · have HR : Hid (decide (xs = ys) = false) := by unfold Hid; simp; intro h; rw [h] at he; exact he rfl
        have hb : (xs[k]?.getD 0 != ys[k]?.getD 0) = true := by simpa using he
        clear he
        generalize xs[k]?.getD 0 = x at *
        generalize ys[k]?.getD 0 = y at *
        go_wp2_with fail
        go_quiet (fail)
        go_wp2
        go_ret
        exact ⟨ret_bool HR.out.symm, m + nq, by first | rfl | rw [World.drewN_drewN]⟩
    · have HR : Hid (decide (xs = ys) = true) := by
        have h := HT.out
        rw [List.take_of_length_le (by rw [HX.out]; omega), List.take_of_length_le (by rw [HY.out]; omega)] at h
        unfold Hid; simp [h]
      go_wp2
      go_ret
      exact ⟨ret_bool HR.out.symm, m, rfl⟩
theorem equalI_any {w : World} {va vb : Value} {xs ys : List Int} (ha : Ints w va xs) (hb : Ints w vb ys) :
    Calls Try.prog 66 #[va, vb] w fun e w' => e = .returned (.bool (decide (xs = ys))) ∧ ∃ m, w' = w.drewN m := by
  obtain ⟨a, cap, rfl, hm, hc⟩ := ha.open'
  obtain ⟨a', cap', rfl, hm', hc'⟩ := hb.open'
  by_cases h : xs.length = ys.length
  · rw [h] at hc ⊢
    exact equalI_walk w a a' cap cap' ys.length xs ys h rfl hm' hc hc'
  · have hd : decide (xs = ys) = false := by simp; intro e; exact h (by rw [e])
    rw [hd]
    exact (equalI_len w a a' cap cap' _ _ h).mono fun e w' ⟨h1, h2⟩ => ⟨h1, 0, h2⟩

theorem bytes_eq {a b : ByteArray} (h : a.toList = b.toList) : a = b := by
  rw [ByteArray.toList_eq, ByteArray.toList_eq] at h
  cases a; cases b
  simp at h
  rw [h]

end Go.Proofs.Ytpmndmkmfcoieaa

namespace Go.Proofs.Ytpmndmkmfcoieaa
open Go.RowKit
set_option maxRecDepth 100000

theorem slice_dropA (a : Option Addr) (n c m : Nat) (hm : m ≤ n) :
    ∃ A, ∀ W : World, (Instr.slice 56 (.slice a n c) (some (.int .i64 (m : Int))) none none).run Try.prog W = .ok (.slice A (n - m) (c - m)) W := by
  obtain ⟨i, hi, _, h2, _⟩ := Try.infoInt'
  refine ⟨if c = m then a else a.map (·.add m), fun W => ?_⟩
  simp [Instr.slice, Instr.sliceBounds, Instr.sliceBound, asIntOf, run_underlying Try.underlying56, sizeOf, typeInfo, hi, h2]
  intro h
  omega
def jrnB (q : Int) (zs : List Int) : Bool := headB q zs && plcsB (zs.drop 3)
theorem jrnB_no {q : Int} {zs : List Int} (h : ¬ (3 ≤ zs.length ∧ (zs.drop 3).length ≤ 10 ∧ zs = headZ q (zs.drop 3))) : jrnB q zs = false := by unfold jrnB; rw [head_no h]; rfl
set_option maxHeartbeats 3200000 in
theorem placesIn_few (w : World) (a : Option Addr) (n c : Nat) (q : Int) (zs : List Int) (hl : zs.length = n) (hn : n < 3) (h : Ints w (.slice a n c) zs) :
    Calls Try.prog 65 #[.slice a n c, .int .i64 q] w fun e w' => e = .returned (.tuple #[.slice none 0 0, .bool false]) ∧ Below w.heap.size w w' := by
  obtain ⟨A, hsl⟩ := slice_dropA a n c n (Nat.le_refl _)
  have hmin : min (3 : Int) (n : Int) = (n : Int) := by omega
  rw [Nat.sub_self] at hsl
  have HH : Hid (∀ W, Below w.heap.size w W → Calls Try.prog 93 #[.int .i64 q, .slice A 0 (c - n)] W fun e w' => ∃ a' c', e = .returned (.slice a' 3 c') ∧ Below W.heap.size W w' ∧ IntsO w' (.slice a' 3 c') (headZ q []) (fresh W w')) := fun W _ => headWords_any W q A 0 (c - n) [] rfl (by omega) (fun k hk => by omega)
  have HQ : Hid (∀ W v, Below w.heap.size w W → Ints W v (headZ q []) → Calls Try.prog 66 #[.slice a n c, v] W fun e w' => e = .returned (.bool false) ∧ ∃ m, w' = W.drewN m) := fun W v hW hv => by
    have h1 := equalI_any (h.later hW) hv
    rw [decide_eq_false (fun e => by have := congrArg List.length e; rw [headZ_len] at this; simp at this; omega)] at h1
    exact h1
  clear h
  go_enter Try.func65, Try.ntmps65
  go_wp2_with fail
  refine (HH.out _ (Below.refl _ _)).mono ?_
  rintro e w1 ⟨a1, c1, rfl, hb1, ho1⟩
  go_wp2_with fail
  refine (HQ.out _ _ hb1 ho1.reads).mono ?_
  rintro e w2 ⟨rfl, m, rfl⟩
  have HB2 : Hid (Below w.heap.size w (w1.drewN m)) := below_drewN hb1 m
  clear hb1 ho1
  go_wp2
  go_ret2
  exact ⟨rfl, HB2.out⟩
set_option maxHeartbeats 3200000 in
theorem placesIn_many (w : World) (a : Option Addr) (n c : Nat) (q : Int) (zs : List Int) (hl : zs.length = n) (hn : 3 ≤ n) (hm : n ≤ 1048576) (hc : n ≤ c) (h : Ints w (.slice a n c) zs) :
    Calls Try.prog 65 #[.slice a n c, .int .i64 q] w fun e w' => Below w.heap.size w w' ∧
      ((jrnB q zs = false ∧ e = .returned (.tuple #[.slice none 0 0, .bool false])) ∨
       (jrnB q zs = true ∧ ∃ b o' c', e = .returned (.tuple #[.slice (some ⟨b, o', none⟩) (n - 3) c', .bool true]) ∧ At1 w (some ⟨b, o', none⟩) (n - 3) (fun k => .int .i64 ((zs.drop 3)[k]?.getD 0)))) := by
  obtain ⟨_, _, ev, _, hA⟩ := h.open'
  rw [hl] at ev hA
  simp only [Value.slice.injEq, true_and] at ev
  obtain ⟨rfl, rfl⟩ := ev
  obtain ⟨b, o, rfl, _⟩ := hA 0 (by omega)
  obtain ⟨o', hsl0, ho'⟩ := slice_dropZ b o n c 3 hn hc
  have hsl : ∀ W : World, (Instr.slice 56 (.slice (some ⟨b, o, none⟩) n c) (some (.int .i64 3)) none none).run Try.prog W = .ok (.slice (some ⟨b, o', none⟩) (n - 3) (c - 3)) W := hsl0
  have HP : Hid (At1 w (some ⟨b, o', none⟩) (n - 3) (fun k => .int .i64 ((zs.drop 3)[k]?.getD 0))) := hA.dropZ ho'
  have hmin : min (3 : Int) (n : Int) = 3 := by omega
  have hlp : (zs.drop 3).length = n - 3 := by rw [List.length_drop, hl]
  have HNO : Hid (¬ (n - 3 ≤ 10 ∧ zs = headZ q (zs.drop 3)) → jrnB q zs = false) := fun h1 => jrnB_no fun h2 => h1 ⟨by rw [← hlp]; exact h2.2.1, h2.2.2⟩
  have HYES : Hid (n - 3 ≤ 10 → zs = headZ q (zs.drop 3) → jrnB q zs = plcsB (zs.drop 3)) := fun h1 h2 => by unfold jrnB; rw [head_yes (by omega) (by omega) h2]; rfl
  have HH : Hid (∀ W, Below w.heap.size w W → Calls Try.prog 93 #[.int .i64 q, .slice (some ⟨b, o', none⟩) (n - 3) (c - 3)] W fun e w' => ∃ a' m' c', e = .returned (.slice a' m' c') ∧ Below W.heap.size W w' ∧ IntsO w' (.slice a' m' c') (headZ q (zs.drop 3)) (fresh W w')) := fun W hW => by
    refine (headWords_any W q (some ⟨b, o', none⟩) (n - 3) (c - 3) (zs.drop 3) hlp (by omega) fun k hk => ?_).mono fun e w' ⟨a', c', h1, h2, h3⟩ => ⟨a', _, c', h1, h2, h3⟩
    obtain ⟨b1, o1, e1, h1⟩ := HP.out k hk
    exact ⟨b1, o1, e1, cell_later hW h1⟩
  have HQ : Hid (∀ W v, Below w.heap.size w W → Ints W v (headZ q (zs.drop 3)) → Calls Try.prog 66 #[.slice (some ⟨b, o, none⟩) n c, v] W fun e w' => e = .returned (.bool (decide (zs = headZ q (zs.drop 3)))) ∧ ∃ m, w' = W.drewN m) := fun W v hW hv => equalI_any (h.later hW) hv
  have HAT : Hid (∀ k, k < n - 3 → plcB ((zs.drop 3)[k]?.getD 0) = false → plcsB (zs.drop 3) = false) := fun k hk h1 => plcsB_no (by omega) h1
  have HALL : Hid ((∀ k, k < n - 3 → plcB ((zs.drop 3)[k]?.getD 0) = true) → plcsB (zs.drop 3) = true) := fun h1 => plcsB_yes fun k hk => h1 k (by omega)
  clear h hA hsl0 ho' hl hlp hn
  have hN : ((n - 3 : Nat) : Int) ≤ 1048576 := by omega
  generalize hPS : zs.drop 3 = ps at *
  clear hPS
  generalize n - 3 = m at *
  generalize jrnB q zs = RES at *
  by_cases h10 : m ≤ 10
  · have h10' : ¬ (10 < (m : Int)) := by omega
    by_cases he : zs = headZ q ps
    · have HE : Hid (RES = plcsB ps) := HYES.out h10 he
      rw [decide_eq_true he] at HQ
      clear HYES HNO he
      generalize plcsB ps = PB at *
      go_enter Try.func65, Try.ntmps65
      go_wp2_with fail
      refine (HH.out _ (Below.refl _ _)).mono ?_
      rintro e w1 ⟨a1, m1, c1, rfl, hb1, ho1⟩
      go_wp2_with fail
      refine (HQ.out _ _ hb1 ho1.reads).mono ?_
      rintro e w2 ⟨rfl, mm, rfl⟩
      have HB2 : Hid (Below w.heap.size w (w1.drewN mm)) := below_drewN hb1 mm
      clear hb1 ho1 HH HQ
      go_wp2
      generalize w1.drewN mm = w2 at *
      go_loopw [27] (fun i wr => ∃ k : Nat, k ≤ m ∧ i = .int .i64 k ∧ Below w.heap.size w wr ∧ ∀ i, i < k → plcB (ps[i]?.getD 0) = true) (fun i _ => m - (intOf i).toNat)
      case atStart => exact ⟨0, Nat.zero_le _, rfl, HB2.out, fun i hi => by omega⟩
      case round =>
        obtain ⟨k, hk, rfl, hbl, ht⟩ := hrel
        have HT : Hid (∀ i, i < k → plcB (ps[i]?.getD 0) = true) := ht
        have HBL : Hid (Below w.heap.size w wr) := hbl
        clear ht hbl
        by_cases hlt : k < m
        · obtain ⟨bb, oo, eb, k0⟩ := HP.out k hlt
          simp only [Option.some.injEq, Addr.mk.injEq, and_true] at eb
          obtain ⟨rfl, rfl⟩ := eb
          replace k0 := cell_later HBL.out k0
          dsimp only at k0
          have HMO : Hid (plcB (ps[k]?.getD 0) = true → ∀ i, i < k + 1 → plcB (ps[i]?.getD 0) = true) := fun h i hi => by
            by_cases e : i = k
            · rw [e]; exact h
            · exact HT.out i (by omega)
          have HBA : Hid (plcB (ps[k]?.getD 0) = false → RES = false) := fun h1 => by rw [HE.out]; exact HAT.out k hlt h1
          clear HT
          generalize ps[k]?.getD 0 = x at *
          by_cases h1 : x < 17
          · have HR : Hid (RES = false) := HBA.out (decide_eq_false (by omega))
            clear HBA HMO
            go_wp2
            go_ret2
            exact ⟨HBL.out, Or.inl ⟨HR.out, rfl⟩⟩
          · by_cases h2 : 27 ≤ x
            · have HR : Hid (RES = false) := HBA.out (decide_eq_false (by omega))
              have h1' : decide (x < 17) = false := by simpa using h1
              clear HBA HMO
              go_wp2
              go_ret2
              exact ⟨HBL.out, Or.inl ⟨HR.out, rfl⟩⟩
            · have HM : Hid (∀ i, i < k + 1 → plcB (ps[i]?.getD 0) = true) := HMO.out (decide_eq_true ⟨by omega, by omega⟩)
              have h1' : decide (x < 17) = false := by simpa using h1
              have h2' : decide (27 ≤ x) = false := by simpa using h2
              clear HBA HMO
              go_wp2
              go_roundw
              case rel => exact ⟨k + 1, by omega, by go_num, HBL.out, HM.out⟩
              case measure => simp [intOf]; omega
        · have e : k = m := by omega
          subst e
          have HR : Hid (RES = true) := by unfold Hid; rw [HE.out]; exact HALL.out HT.out
          clear HT
          go_wp2
          go_ret2
          exact ⟨HBL.out, Or.inr ⟨HR.out, b, o', _, rfl, HP.out⟩⟩
    · have HE : Hid (RES = false) := HNO.out fun h1 => he h1.2
      rw [decide_eq_false he] at HQ
      clear HYES HNO he HAT HALL
      go_enter Try.func65, Try.ntmps65
      go_wp2_with fail
      refine (HH.out _ (Below.refl _ _)).mono ?_
      rintro e w1 ⟨a1, m1, c1, rfl, hb1, ho1⟩
      go_wp2_with fail
      refine (HQ.out _ _ hb1 ho1.reads).mono ?_
      rintro e w2 ⟨rfl, mm, rfl⟩
      have HB2 : Hid (Below w.heap.size w (w1.drewN mm)) := below_drewN hb1 mm
      clear hb1 ho1 HH HQ
      go_wp2
      go_ret2
      exact ⟨HB2.out, Or.inl ⟨HE.out, rfl⟩⟩
  · have h10' : 10 < (m : Int) := by omega
    have HE : Hid (RES = false) := HNO.out fun h1 => h10 h1.1
    clear HYES HNO HAT HALL HH HQ
    go_enter Try.func65, Try.ntmps65
    go_wp2
    go_ret2
    exact ⟨Below.refl _ _, Or.inl ⟨HE.out, rfl⟩⟩
theorem placesIn_any (w : World) (a : Option Addr) (c : Nat) (q : Int) (zs : List Int) (hm : zs.length ≤ 1048576) (hc : zs.length ≤ c) (h : Ints w (.slice a zs.length c) zs) :
    Calls Try.prog 65 #[.slice a zs.length c, .int .i64 q] w fun e w' => Below w.heap.size w w' ∧
      ((jrnB q zs = false ∧ e = .returned (.tuple #[.slice none 0 0, .bool false])) ∨
       (jrnB q zs = true ∧ ∃ b o' c', e = .returned (.tuple #[.slice (some ⟨b, o', none⟩) (zs.length - 3) c', .bool true]) ∧ At1 w (some ⟨b, o', none⟩) (zs.length - 3) (fun k => .int .i64 ((zs.drop 3)[k]?.getD 0)))) := by
  by_cases hn : zs.length < 3
  · exact (placesIn_few w a zs.length c q zs rfl hn h).mono fun e w' ⟨h1, h2⟩ => ⟨h2, Or.inl ⟨jrnB_no fun h3 => by omega, h1⟩⟩
  · exact placesIn_many w a zs.length c q zs rfl (by omega) hm hc h
end Go.Proofs.Ytpmndmkmfcoieaa
