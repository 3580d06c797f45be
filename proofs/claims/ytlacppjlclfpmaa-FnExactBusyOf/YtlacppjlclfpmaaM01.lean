/- Rows that grow by append, each element with a list of its own. The walks of the comparing functions over slices of integers and of slices. The walks of the comparing functions over puts and disks. The walks of the marking and holding functions over slices. The walks of the marking and holding functions over puts and disks. The walks of the comparing, marking and holding functions over an answer of a code and a list. The walks of the functions that tell how great an argument is. One form for the contracts of the laws' own functions, type by type: what a value reads as, what it owns, how great it is. -/
import Derived.Test.YtlacppjlclfpmaaM00
import Derived.Deep.AppendLies
import Derived.Test.YtlacppjlclfpmaaRows
import Derived.Deep.RegionWith
import Derived.Deep.RegionHeld3
namespace Go.Proofs.Ytlacppjlclfpmaa
open Go.RowKit
set_option maxRecDepth 100000

/-- A row of n elements that the call owns; element i is told by C i (u i), where u i is a list of its own in block k i. -/
structure LRow (C : Nat → Value → List Value) (w : World) (base lo : Nat) (e : TypeId) (size : Nat) (v : Value) (n : Nat) (f : Nat → List Int) (k : Nat → Nat) (u : Nat → Value) : Prop where
  own : w.ownsRow base e size v n ((List.range n).flatMap fun i => C i (u i))
  lo : ∀ i, i < n → lo ≤ k i ∧ k i < w.heap.size
  ne : ∀ i, i < n → v.ownBlock ≠ some (k i)
  inj : ∀ i j, i < n → j < n → i ≠ j → k i ≠ k j
  sh : ∀ i, i < n → ∃ a c, u i = .slice a (f i).length c
  at' : ∀ i, i < n → IntsO w (u i) (f i) (fun c => c = k i)

theorem LRow.nil {C : Nat → Value → List Value} (w : World) (base lo : Nat) (e : TypeId) (size : Nat) (f : Nat → List Int) : LRow C w base lo e size (.slice none 0 0) 0 f (fun _ => 0) (fun _ => .slice none 0 0) :=
  ⟨World.ownsRow_nil _ _ _ _, fun i hi => by omega, fun i hi => by omega, fun i j hi => by omega, fun i hi => by omega, fun i hi => by omega⟩
theorem LRow.keep {C : Nat → Value → List Value} {w w' : World} {base lo : Nat} {e : TypeId} {size : Nat} {v : Value} {n : Nat} {f : Nat → List Int} {k : Nat → Nat} {u : Nat → Value} (h : LRow C w base lo e size v n f k u) (hs : w.heap.size ≤ w'.heap.size)
    (hrow : ∀ g, v.ownBlock = some g → w'.heap[g]? = w.heap[g]?) (hk : ∀ i, i < n → w'.heap[k i]? = w.heap[k i]?) : LRow C w' base lo e size v n f k u := by
  refine ⟨?_, fun i hi => ⟨(h.lo i hi).1, Nat.lt_of_lt_of_le (h.lo i hi).2 hs⟩, h.ne, h.inj, h.sh, fun i hi => (h.at' i hi).keep fun b hb _ => by rw [hb]; exact hk i hi⟩
  obtain ⟨h1, h2⟩ := h.own
  refine ⟨h1, ?_⟩
  rcases h2 with h2 | ⟨g, cap, cur, hv, hg, hh, r⟩
  · exact Or.inl h2
  · exact Or.inr ⟨g, cap, cur, hv, hg, by rw [hrow g (by rw [hv]; rfl)]; exact hh, r⟩
theorem LRow.later {C : Nat → Value → List Value} {w w' : World} {base lo : Nat} {e : TypeId} {size : Nat} {v : Value} {n : Nat} {f : Nat → List Int} {k : Nat → Nat} {u : Nat → Value} (h : LRow C w base lo e size v n f k u) (hb : Below w.heap.size w w') : LRow C w' base lo e size v n f k u :=
  h.keep hb.size (fun g hg => hb.block g (h.own.lt g hg).2) (fun i hi => hb.block _ (h.lo i hi).2)
theorem LRow.store {C : Nat → Value → List Value} {w : World} {base lo : Nat} {e : TypeId} {size : Nat} {v : Value} {n : Nat} {f : Nat → List Int} {k : Nat → Nat} {u : Nat → Value} (h : LRow C w base lo e size v n f k u) {p : Addr} (h1 : p.block < base) (h2 : p.block < lo) (x : Value) : LRow C (w.setCell p x) base lo e size v n f k u :=
  h.keep (by simp [World.setCell]) (fun g hg => Below.heap_setCell _ _ _ _ (by have := (h.own.lt g hg).1; omega)) (fun i hi => Below.heap_setCell _ _ _ _ (by have := (h.lo i hi).1; omega))
theorem LRow.shape {C : Nat → Value → List Value} {w : World} {base lo : Nat} {e : TypeId} {size : Nat} {v : Value} {n : Nat} {f : Nat → List Int} {k : Nat → Nat} {u : Nat → Value} (h : LRow C w base lo e size v n f k u) : ∃ a c, v = .slice a n c := by
  rcases h.own.2 with ⟨rfl, rfl⟩ | ⟨g, c, cur, rfl, _⟩
  · exact ⟨_, _, rfl⟩
  · exact ⟨_, _, rfl⟩

/-- What 'append' of one element comes to. -/
theorem LRow.append {C : Nat → Value → List Value} (w w1 : World) (t ty e : TypeId) (i : TypeInfo) (z : Value) (size bytes : Nat) (ht : Try.prog.underlying t = some (.slice e)) (hi : Try.prog.info? e = some i) (hz : i.zero = some z) (hsize : i.size = size) (hby : i.bytes = bytes) (hzs : z.cells.size = size) (hsz : 0 < size) (hbb : bytes ≤ 1000)
    (base lo n : Nat) (v : Value) (f : Nat → List Int) (k : Nat → Nat) (u : Nat → Value) (h : LRow C w base lo e size v n f k u) (hb : base ≤ w.heap.size) (hn : n ≤ 100000) (hb1 : Below w.heap.size w w1)
    (a : Option Addr) (c : Nat) (hlen : (C n (.slice a (f n).length c)).length = size) (hone : ∀ x ∈ C n (.slice a (f n).length c), x.oneCell' = true) (kb : Nat) (hk1 : lo ≤ kb) (hk2 : kb < w1.heap.size) (hk3 : v.ownBlock ≠ some kb) (hk4 : ∀ i, i < n → k i ≠ kb) (hf : IntsO w1 (.slice a (f n).length c) (f n) (fun x => x = kb)) :
    ∃ g cap X, (Builtin.append_ #[t, t] ty #[v, .slice (some ⟨w1.heap.size, 0, none⟩) 1 1]).run Try.prog (w1.alloc (.cells (C n (.slice a (f n).length c)).toArray e)) = .ok (.slice (some ⟨g, 0, none⟩) (n + 1) cap) X ∧
      (∀ b, b < w1.heap.size → v.ownBlock ≠ some b → X.heap[b]? = w1.heap[b]?) ∧ Below base w X ∧ w1.heap.size < X.heap.size ∧
      LRow C X base lo e size (.slice (some ⟨g, 0, none⟩) (n + 1) cap) (n + 1) f (fun j => if j = n then kb else k j) (fun j => if j = n then .slice a (f n).length c else u j) := by
  have hsz1 := hb1.size
  have hbW : Below w.heap.size w (w1.alloc (.cells (C n (.slice a (f n).length c)).toArray e)) := hb1.trans ((later1 _ _).mono hb1.size)
  have hW := h.later hbW
  obtain ⟨g, cap, X, hr, ho, hg, hat, hgX⟩ := run_append_lies (P := Try.prog) (w1.alloc (.cells (C n (.slice a (f n).length c)).toArray e)) t ty base e i z size bytes ht hi hz hsize hby hzs hsz v n _ hW.own ⟨w1.heap.size, 0, none⟩ 1 1 (C n (.slice a (f n).length c)) (by rw [hlen, Nat.one_mul])
    (fun j x hx => by
      rw [add_plain', Nat.zero_add, new_cell]
      simpa using hx) hone (by decide) (by unfold maxLen; omega) (by have : (n + 1) * bytes ≤ 100001 * 1000 := Nat.mul_le_mul (by omega) hbb; omega) (by simp; omega) (w1.heap.size + 1) (by simp)
  have hrow : ∀ g, v.ownBlock = some g → g < w.heap.size := fun g hg => (h.own.lt g hg).2
  have hrowb : ∀ g, v.ownBlock = some g → base ≤ g := fun g hg => (h.own.lt g hg).1
  have hXb : ∀ b, b < w1.heap.size → v.ownBlock ≠ some b → X.heap[b]? = w1.heap[b]? := fun b hb' hne => (hg.block b (by simp; omega) (fun e => hne e.symm)).trans ((later1 _ _).block b hb')
  have hne : ∀ b, b < w1.heap.size → v.ownBlock ≠ some b → g ≠ b := by
    intro b hb' hb2 e
    subst e
    rcases hat with h | h
    · exact hb2 h
    · omega
  have old : ∀ b, b < w.heap.size → v.ownBlock ≠ some b → X.heap[b]? = w.heap[b]? := fun b hb' hne => (hXb b (by omega) hne).trans (hb1.block b hb')
  have hXs : w1.heap.size < X.heap.size := by have := hg.size; simp at this; omega
  refine ⟨g, cap, X, hr, hXb, (hbW.mono hb).trans (below_grown hg (by simp; omega) (fun g hg' => hrowb g hg')), hXs, ⟨?_, fun j hj => ?_, fun j hj => ?_, fun j j' hj hj' e => ?_, fun j hj => ?_, fun j hj => ?_⟩⟩
  · rw [List.range_succ, List.flatMap_append]
    have e1 : (List.range n).flatMap (fun i => C i (if i = n then .slice a (f n).length c else u i)) = (List.range n).flatMap (fun i => C i (u i)) := by
      have e0 : (List.range n).map (fun i => C i (if i = n then .slice a (f n).length c else u i)) = (List.range n).map (fun i => C i (u i)) := List.map_congr_left fun i hi => by rw [if_neg (by have := List.mem_range.1 hi; omega)]
      rw [List.flatMap_def, List.flatMap_def, e0]
    have e2 : [n].flatMap (fun i => C i (if i = n then .slice a (f n).length c else u i)) = C n (.slice a (f n).length c) := by simp only [List.flatMap_cons, List.flatMap_nil, List.append_nil, if_true]
    rw [e1, e2]
    exact ho
  · by_cases e : j = n
    · subst e; simp; omega
    · have := h.lo j (by omega); simp [e]; omega
  · by_cases e : j = n
    · subst e
      simp only [if_true]
      exact fun e => hne kb hk2 hk3 (by simpa [Value.ownBlock] using e)
    · have hj' : j < n := by omega
      have hl := h.lo j hj'
      simp only [e, if_false]
      exact fun e => hne (k j) (by omega) (h.ne j hj') (by simpa [Value.ownBlock] using e)
  · by_cases e1 : j = n
    · by_cases e2 : j' = n
      · omega
      · simp [e1, e2]; exact fun e => hk4 j' (by omega) e.symm
    · by_cases e2 : j' = n
      · simp [e1, e2]; exact hk4 j (by omega)
      · simp [e1, e2]; exact h.inj j j' (by omega) (by omega) e
  · by_cases e : j = n
    · subst e; exact ⟨a, c, by simp⟩
    · simp only [e, if_false]; exact h.sh j (by omega)
  · by_cases e : j = n
    · subst e
      simp only [if_true]
      exact hf.keep fun b hb' hlt' => by rw [hb']; exact hXb kb hk2 hk3
    · have hj' : j < n := by omega
      simp only [e, if_false]
      exact (h.at' j hj').keep fun b hb' hlt' => by rw [hb']; exact old _ (h.lo j hj').2 (h.ne j hj')

/-- The one block of a list that is fresh. -/
theorem IntsO.one {w w1 : World} {v : Value} {zs : List Int} (h : IntsO w1 v zs (fresh w w1)) (hlt : w.heap.size < w1.heap.size) : ∃ kb, w.heap.size ≤ kb ∧ kb < w1.heap.size ∧ IntsO w1 v zs (fun c => c = kb) := by
  rcases h with h | ⟨b, cap, hF, r⟩
  · exact ⟨w.heap.size, Nat.le_refl _, hlt, Or.inl h⟩
  · exact ⟨b, hF.1, hF.2, Or.inr ⟨b, cap, rfl, r⟩⟩

/-- A row of lists. -/
def C1 : Nat → Value → List Value := fun _ v => [v]
/-- A row of puts. -/
def C2 (f : Nat → Int) : Nat → Value → List Value := fun i v => [.int .i64 (f i), v]

theorem flat_len {C : Nat → Value → List Value} {size : Nat} (u : Nat → Value) (hC : ∀ i, (C i (u i)).length = size) (n : Nat) : ((List.range n).flatMap fun i => C i (u i)).length = n * size := by
  induction n with
  | zero => simp
  | succ n ih => rw [List.range_succ, List.flatMap_append, List.length_append, ih]; simp [hC, Nat.add_mul]
theorem flat_get {C : Nat → Value → List Value} {size : Nat} (_hsz : 0 < size) (u : Nat → Value) (hC : ∀ i, (C i (u i)).length = size) (n : Nat) : ∀ i j, i < n → j < size → ((List.range n).flatMap fun i => C i (u i))[i * size + j]? = (C i (u i))[j]? := by
  induction n with
  | zero => intro i j hi; omega
  | succ n ih =>
    intro i j hi hj
    have hl := flat_len u hC n
    rw [List.range_succ, List.flatMap_append]
    by_cases e : i = n
    · subst e
      rw [List.getElem?_append_right (by rw [hl]; omega), hl]
      simp
    · rw [List.getElem?_append_left (by rw [hl]; have : (i + 1) * size ≤ n * size := Nat.mul_le_mul_right _ (by omega); rw [Nat.add_mul] at this; omega)]
      exact ih i j (by omega) hj

/-- The cells of such a row. -/
theorem LRow.cells {C : Nat → Value → List Value} {w : World} {base lo : Nat} {e : TypeId} {size : Nat} {v : Value} {n : Nat} {f : Nat → List Int} {k : Nat → Nat} {u : Nat → Value} (h : LRow C w base lo e size v n f k u) (hsz : 0 < size) (hC : ∀ i, (C i (u i)).length = size) (hn : 0 < n) :
    ∃ g cap, v = .slice (some ⟨g, 0, none⟩) n cap ∧ base ≤ g ∧ g < w.heap.size ∧ n ≤ maxLen ∧ OwnRow w g (n * size) (fun c => (C (c / size) (u (c / size)))[c % size]?.getD undef) := by
  obtain ⟨hl, h2 | ⟨g, cap, cur, rfl, hb, hh, hnc, hcm, hcs, htake⟩⟩ := h.own
  · omega
  · have hle : n * size ≤ cap * size := Nat.mul_le_mul_right _ hnc
    refine ⟨g, cap, rfl, hb, (Array.getElem?_eq_some_iff.1 hh).1, by omega, cur, e, hh, by omega, fun c hc => ?_⟩
    have hd : c / size < n := by rw [Nat.div_lt_iff_lt_mul hsz]; exact hc
    have hm : c % size < size := Nat.mod_lt _ hsz
    have hg := flat_get hsz u hC n (c / size) (c % size) hd hm
    rw [Nat.div_add_mod'] at hg
    have h1 : ((List.range n).flatMap fun i => C i (u i))[c]? = cur[c]? := by rw [← htake, List.getElem?_take, if_pos hc, Array.getElem?_toList]
    rw [h1] at hg
    have hlt : c < cur.size := by omega
    show cur[c]? = some ((C (c / size) (u (c / size)))[c % size]?.getD undef)
    rw [← hg, Array.getElem?_eq_getElem hlt]; rfl

theorem LRow.intsS {w : World} {base lo : Nat} {e : TypeId} {v : Value} {n : Nat} {k : Nat → Nat} {u : Nat → Value} {zss : List (List Int)} (h : LRow C1 w base lo e 1 v n (fun i => zss[i]?.getD []) k u) (hn : zss.length = n) (F : Nat → Prop) (hF : ∀ c, base ≤ c → c < w.heap.size → F c) (hF' : ∀ c, lo ≤ c → c < w.heap.size → F c) : IntsSO w v zss F := by
  subst hn
  by_cases h0 : zss.length = 0
  · obtain ⟨a, c, rfl⟩ := h.shape
    exact Or.inl ⟨List.eq_nil_of_length_eq_zero h0, a, c, by rw [h0]⟩
  · obtain ⟨g, cap, rfl, hb, hg, hm, hrow⟩ := h.cells (by decide) (fun _ => rfl) (by omega)
    refine Or.inr ⟨g, cap, u, fun i c => i < zss.length ∧ c = k i, hF g hb hg, fun i c hc => ?_, fun i j c e h1 h2 => h.inj i j h1.1 h2.1 e (h1.2.symm.trans h2.2), rfl, hm, ?_, fun i hi => (h.at' i hi).mono fun c hc => ⟨hi, hc⟩⟩
    · have hl := h.lo i hc.1
      have hne := h.ne i hc.1
      rw [hc.2]
      exact ⟨hF' _ hl.1 hl.2, fun e => hne (by simp [Value.ownBlock, e])⟩
    · rw [Nat.mul_one] at hrow
      exact hrow.congr fun i hi => by simp [C1, Nat.mod_one]
theorem LRow.puts {w : World} {base lo : Nat} {e : TypeId} {v : Value} {n : Nat} {k : Nat → Nat} {u : Nat → Value} {ps : List (Int × List Int)} (h : LRow (C2 fun i => (ps[i]?.getD (0, [])).1) w base lo e 2 v n (fun i => (ps[i]?.getD (0, [])).2) k u) (hn : ps.length = n) (F : Nat → Prop) (hF : ∀ c, base ≤ c → c < w.heap.size → F c) (hF' : ∀ i, i < n → F (k i)) : PutsO w v ps F := by
  subst hn
  by_cases h0 : ps.length = 0
  · obtain ⟨a, c, rfl⟩ := h.shape
    exact Or.inl ⟨List.eq_nil_of_length_eq_zero h0, a, c, by rw [h0]⟩
  · obtain ⟨g, cap, rfl, hb, hg, hm, hrow⟩ := h.cells (by decide) (fun _ => rfl) (by omega)
    refine Or.inr ⟨g, cap, u, fun i c => i < ps.length ∧ c = k i, hF g hb hg, fun i c hc => ?_, fun i j c e h1 h2 => h.inj i j h1.1 h2.1 e (h1.2.symm.trans h2.2), rfl, hm, ?_, fun i hi => (h.at' i hi).mono fun c hc => ⟨hi, hc⟩⟩
    · have hne := h.ne i hc.1
      rw [hc.2]
      exact ⟨hF' i hc.1, fun e => hne (by simp [Value.ownBlock, e])⟩
    · refine hrow.congr fun c hc => ?_
      unfold putCell C2
      rcases Nat.mod_two_eq_zero_or_one c with h | h <;> simp [h]
end Go.Proofs.Ytlacppjlclfpmaa

namespace Go.Proofs.Ytlacppjlclfpmaa
open Go.RowKit
set_option maxRecDepth 100000

set_option maxHeartbeats 400000 in
theorem eqInts_len (w : World) (a a' : Option Addr) (cap cap' n n' : Nat) (hn : ¬ n = n') :
    Calls Try.prog 17 #[.slice a n cap, .slice a' n' cap'] w fun e w' => e = .returned (.bool false) ∧ w' = w := by
  have hb : ((n : Int) != (n' : Int)) = true := by simp; omega
  clear hn
  go_enter Try.func17, Try.ntmps17
  go_wp2
  go_ret
  exact ⟨rfl, rfl⟩

set_option maxHeartbeats 400000 in
theorem eqInts_nil (w : World) (a a' : Option Addr) (cap cap' : Nat) :
    Calls Try.prog 17 #[.slice a 0 cap, .slice a' 0 cap'] w fun e w' => e = .returned (.bool true) ∧ w' = w := by
  go_enter Try.func17, Try.ntmps17
  go_wp2
  go_loop [5] (fun i => i = .int .i64 0) (fun _ => 0)
  case atStart => rfl
  case round =>
    obtain rfl := hrel
    go_wp2
    go_ret
    exact ⟨rfl, rfl⟩

set_option maxHeartbeats 400000 in
theorem eqInts_walk (w : World) (b off cap b' off' cap' n : Nat) (xs ys : List Int) (hx : xs.length = n) (hy : ys.length = n) (hn : n ≤ maxLen)
    (cx : ∀ k, k < n → w.cell? ⟨b, off + k, none⟩ = some (.int .i64 (xs[k]?.getD 0)))
    (cy : ∀ k, k < n → w.cell? ⟨b', off' + k, none⟩ = some (.int .i64 (ys[k]?.getD 0))) :
    Calls Try.prog 17 #[.slice (some ⟨b, off, none⟩) n cap, .slice (some ⟨b', off', none⟩) n cap'] w fun e w' => e = .returned (.bool (xs == ys)) ∧ ∃ m, w' = w.drewN m := by
  unfold maxLen at hn
  have HX : Hid (xs.length = n) := hx
  have HY : Hid (ys.length = n) := hy
  clear hx hy
  go_enter Try.func17, Try.ntmps17
  go_wp2
  go_loopw [5] (fun i wr => ∃ k m : Nat, k ≤ n ∧ i = .int .i64 k ∧ wr = w.drewN m ∧ xs.take k = ys.take k) (fun i _ => n - (intOf i).toNat)
  case atStart => exact ⟨0, 0, Nat.zero_le _, rfl, rfl, rfl⟩
  case round =>
    obtain ⟨k, m, hk, rfl, rfl, ht⟩ := hrel
    by_cases hlt : k < n
    · have c1 := cx k hlt
      have c2 := cy k hlt
      clear cx cy
      have HT : Hid (xs.take k = ys.take k) := ht
      clear ht
      by_cases he : xs[k]?.getD 0 = ys[k]?.getD 0
      · have hb : (xs[k]?.getD 0 != ys[k]?.getD 0) = false := by simp [he]
        have HE : Hid (xs[k]?.getD 0 = ys[k]?.getD 0) := he
        clear he
        go_wp2_with fail
        go_quiet (fail)
        go_wp2
        go_roundw
        case rel => exact ⟨k + 1, m + nq, by omega, by go_num, rfl, take_more 0 HX.out HY.out hlt HT.out HE.out⟩
        case measure => simp [intOf]; omega
      · have hb : (xs[k]?.getD 0 != ys[k]?.getD 0) = true := by simp [he]
        go_wp2_with fail
        go_quiet (fail)
        go_wp2
        go_ret
        exact ⟨ret_bool (beq_at 0 he), m + nq, by rw [World.drewN_drewN]⟩
    · go_wp2
      go_ret
      exact ⟨ret_bool (beq_takes HX.out HY.out (by omega) ht), m, rfl⟩

theorem eqInts_any {w : World} {va vb : Value} {xs ys : List Int} (ha : Ints w va xs) (hb : Ints w vb ys) :
    Calls Try.prog 17 #[va, vb] w fun e w' => e = .returned (.bool (xs == ys)) ∧ ∃ m, w' = w.drewN m := by
  have base : ∀ a cap a' cap' (x y : List Int), x.length ≠ y.length ∨ (x = [] ∧ y = []) → Calls Try.prog 17 #[.slice a x.length cap, .slice a' y.length cap'] w fun e w' => e = .returned (.bool (x == y)) ∧ ∃ m, w' = w.drewN m := by
    intro a cap a' cap' x y h
    rcases h with h | ⟨rfl, rfl⟩
    · exact (eqInts_len w a a' cap cap' _ _ h).mono fun e w' ⟨he, hw⟩ => ⟨he.trans (ret_bool (beq_len h)), 0, hw⟩
    · exact (eqInts_nil w a a' cap cap').mono fun e w' ⟨he, hw⟩ => ⟨he, 0, hw⟩
  rcases ha with ⟨rfl, a, cap, rfl⟩ | ⟨b, off, cap, rfl, hl, hc⟩
  · rcases hb with ⟨rfl, a', cap', rfl⟩ | ⟨b', off', cap', rfl, hl', hc'⟩
    · exact base a cap a' cap' [] [] (Or.inr ⟨rfl, rfl⟩)
    · by_cases h : ys = []
      · subst h; exact base a cap _ cap' [] [] (Or.inr ⟨rfl, rfl⟩)
      · exact base a cap _ cap' [] ys (Or.inl (by cases ys <;> simp at h ⊢))
  · rcases hb with ⟨rfl, a', cap', rfl⟩ | ⟨b', off', cap', rfl, hl', hc'⟩
    · by_cases h : xs = []
      · subst h; exact base _ cap a' cap' [] [] (Or.inr ⟨rfl, rfl⟩)
      · exact base _ cap a' cap' xs [] (Or.inl (by cases xs <;> simp at h ⊢))
    · by_cases h : xs.length = ys.length
      · have := eqInts_walk w b off cap b' off' cap' ys.length xs ys h rfl hl' (fun k hk => hc k (by omega)) hc'
        rw [h]; exact this
      · exact base _ cap _ cap' xs ys (Or.inl h)

end Go.Proofs.Ytlacppjlclfpmaa

namespace Go.Proofs.Ytlacppjlclfpmaa
open Go.RowKit
set_option maxRecDepth 100000

theorem beq_pair1 {a b : Int} (xs ys : List Int) (h : (a != b) = true) : false = ((a, xs) == (b, ys)) := by
  symm; rw [Bool.eq_false_iff]; intro e; simp at h; have := eq_of_beq e; simp at this; exact h this.1
theorem beq_pair2 {a b : Int} {xs ys : List Int} {r : Bool} (h : (a != b) = false) (hr : (xs == ys) = r) : r = ((a, xs) == (b, ys)) := by
  simp at h; subst h; rw [← hr]
  by_cases e : xs = ys
  · simp [e]
  · have h1 : (xs == ys) = false := by simp [e]
    rw [h1]; symm; rw [Bool.eq_false_iff]; intro h2; have := eq_of_beq h2; simp at this; exact e this

set_option maxHeartbeats 400000 in
theorem eqPut_any (w : World) (va vb : Value) (a b : Int) (xs ys : List Int) (ha : Ints w va xs) (hb : Ints w vb ys) :
    Calls Try.prog 77 #[.agg #[.int .i64 a, va], .agg #[.int .i64 b, vb]] w fun e w' => e = .returned (.bool ((a, xs) == (b, ys))) ∧ Below w.heap.size w w' := by
  have HA : Hid (Ints w va xs) := ha
  have HB : Hid (Ints w vb ys) := hb
  clear ha hb
  generalize hr : (xs == ys) = r
  have HR : Hid ((xs == ys) = r) := hr
  clear hr
  by_cases hab : (a != b) = true
  · go_enter Try.func77, Try.ntmps77
    go_wp2_with fail
    go_ret
    exact ⟨ret_bool (beq_pair1 xs ys hab), later2 _ _ _⟩
  · have hab' : (a != b) = false := by simpa using hab
    clear hab
    go_enter Try.func77, Try.ntmps77
    go_wp2_with fail
    refine (eqInts_any (HA.out.later (later2 _ _ _)) (HB.out.later (later2 _ _ _))).mono ?_
    rw [HR.out]
    rintro e w' ⟨rfl, m, rfl⟩
    cases r
    all_goals
      go_wp2
      go_ret
      exact ⟨ret_bool (beq_pair2 hab' HR.out), below_drewN (later2 _ _ _) m⟩

set_option maxHeartbeats 400000 in
theorem eqPuts_len (w : World) (a a' : Option Addr) (cap cap' n n' : Nat) (hn : ¬ n = n') :
    Calls Try.prog 45 #[.slice a n cap, .slice a' n' cap'] w fun e w' => e = .returned (.bool false) ∧ w' = w := by
  have hb : ((n : Int) != (n' : Int)) = true := by simp; omega
  clear hn
  go_enter Try.func45, Try.ntmps45
  go_wp2
  go_ret
  exact ⟨rfl, rfl⟩

set_option maxHeartbeats 400000 in
theorem eqPuts_nil (w : World) (a a' : Option Addr) (cap cap' : Nat) :
    Calls Try.prog 45 #[.slice a 0 cap, .slice a' 0 cap'] w fun e w' => e = .returned (.bool true) ∧ w' = w := by
  go_enter Try.func45, Try.ntmps45
  go_wp2
  go_loop [5] (fun i => i = .int .i64 0) (fun _ => 0)
  case atStart => rfl
  case round =>
    obtain rfl := hrel
    go_wp2
    go_ret
    exact ⟨rfl, rfl⟩

set_option maxHeartbeats 800000 in
theorem eqPuts_walk (w : World) (b off cap b' off' cap' n : Nat) (xs ys : List (Int × List Int)) (u u' : Nat → Value) (hx : xs.length = n) (hy : ys.length = n) (hn : n ≤ maxLen)
    (cx : ∀ k, k < n → w.cell? ⟨b, off + k * 2, none⟩ = some (.int .i64 (xs[k]?.getD (0, [])).1) ∧ w.cell? ⟨b, off + k * 2 + 1, none⟩ = some (u k) ∧ Ints w (u k) (xs[k]?.getD (0, [])).2)
    (cy : ∀ k, k < n → w.cell? ⟨b', off' + k * 2, none⟩ = some (.int .i64 (ys[k]?.getD (0, [])).1) ∧ w.cell? ⟨b', off' + k * 2 + 1, none⟩ = some (u' k) ∧ Ints w (u' k) (ys[k]?.getD (0, [])).2) :
    Calls Try.prog 45 #[.slice (some ⟨b, off, none⟩) n cap, .slice (some ⟨b', off', none⟩) n cap'] w fun e w' => e = .returned (.bool (xs == ys)) ∧ Below w.heap.size w w' := by
  unfold maxLen at hn
  have HX : Hid (xs.length = n) := hx
  have HY : Hid (ys.length = n) := hy
  clear hx hy
  go_enter Try.func45, Try.ntmps45
  go_wp2
  go_loopw [5] (fun i wr => ∃ k : Nat, k ≤ n ∧ i = .int .i64 k ∧ Below w.heap.size w wr ∧ xs.take k = ys.take k) (fun i _ => n - (intOf i).toNat)
  case atStart => exact ⟨0, Nat.zero_le _, rfl, Below.refl _ _, rfl⟩
  case round =>
    obtain ⟨k, hk, rfl, hbl, ht⟩ := hrel
    by_cases hlt : k < n
    · obtain ⟨c1, c2, i1⟩ := cx k hlt
      obtain ⟨d1, d2, i2⟩ := cy k hlt
      clear cx cy
      have HT : Hid (xs.take k = ys.take k) := ht
      clear ht
      replace c1 := cell_later hbl c1
      replace c2 := cell_later hbl c2
      replace d1 := cell_later hbl d1
      replace d2 := cell_later hbl d2
      replace i1 := i1.later hbl
      replace i2 := i2.later hbl
      have HBL : Hid (Below w.heap.size w wr) := hbl
      clear hbl
      have HI1 : Hid (Ints wr (u k) (xs[k]?.getD (0, [])).2) := i1
      have HI2 : Hid (Ints wr (u' k) (ys[k]?.getD (0, [])).2) := i2
      clear i1 i2
      by_cases he : xs[k]?.getD (0, []) = ys[k]?.getD (0, [])
      · have HE : Hid (xs[k]?.getD (0, []) = ys[k]?.getD (0, [])) := he
        have HB : Hid (((xs[k]?.getD (0, [])) == (ys[k]?.getD (0, []))) = true) := by simp [he, Hid]
        clear he
        go_wp2_with fail
        go_region_with ((go_at_call 77; refine (eqPut_any _ _ _ _ _ (xs[k]?.getD (0, [])).2 (ys[k]?.getD (0, [])).2 ?_ ?_).mono ?_; exact HI1.out; exact HI2.out; rw [show (((xs[k]?.getD (0, [])).1, (xs[k]?.getD (0, [])).2) == ((ys[k]?.getD (0, [])).1, (ys[k]?.getD (0, [])).2)) = true from HB.out]; rintro e w' ⟨rfl, hb2⟩))
        all_goals
          go_wp2
          go_roundw
          case rel => exact ⟨k + 1, by omega, by go_num, (HBL.out.drew).trans (hb2.mono HBL.out.size), take_more (0, []) HX.out HY.out hlt HT.out HE.out⟩
          case measure => simp [intOf]; omega
      · have HB : Hid (((xs[k]?.getD (0, [])) == (ys[k]?.getD (0, []))) = false) := by unfold Hid; rw [Bool.eq_false_iff]; intro h; exact he (eq_of_beq h)
        have HE : Hid (¬ xs[k]?.getD (0, []) = ys[k]?.getD (0, [])) := he
        clear he
        go_wp2_with fail
        go_region_with ((go_at_call 77; refine (eqPut_any _ _ _ _ _ (xs[k]?.getD (0, [])).2 (ys[k]?.getD (0, [])).2 ?_ ?_).mono ?_; exact HI1.out; exact HI2.out; rw [show (((xs[k]?.getD (0, [])).1, (xs[k]?.getD (0, [])).2) == ((ys[k]?.getD (0, [])).1, (ys[k]?.getD (0, [])).2)) = false from HB.out]; rintro e w' ⟨rfl, hb2⟩))
        all_goals
          go_wp2
          go_ret
          exact ⟨ret_bool (beq_at (0, []) HE.out), (HBL.out.drew).trans (hb2.mono HBL.out.size)⟩
    · go_wp2
      go_ret
      exact ⟨ret_bool (beq_takes HX.out HY.out (by omega) ht), hbl⟩

theorem eqPuts_any {w : World} {va vb : Value} {xs ys : List (Int × List Int)} (ha : Puts w va xs) (hb : Puts w vb ys) :
    Calls Try.prog 45 #[va, vb] w fun e w' => e = .returned (.bool (xs == ys)) ∧ Below w.heap.size w w' := by
  have base : ∀ a cap a' cap' (x y : List (Int × List Int)), x.length ≠ y.length ∨ (x = [] ∧ y = []) → Calls Try.prog 45 #[.slice a x.length cap, .slice a' y.length cap'] w fun e w' => e = .returned (.bool (x == y)) ∧ Below w.heap.size w w' := by
    intro a cap a' cap' x y h
    rcases h with h | ⟨rfl, rfl⟩
    · exact (eqPuts_len w a a' cap cap' _ _ h).mono fun e w' ⟨he, hw⟩ => ⟨he.trans (ret_bool (beq_len h)), hw ▸ Below.refl _ _⟩
    · exact (eqPuts_nil w a a' cap cap').mono fun e w' ⟨he, hw⟩ => ⟨he, hw ▸ Below.refl _ _⟩
  rcases ha with ⟨rfl, a, cap, rfl⟩ | ⟨b, off, cap, u, rfl, hl, hc⟩
  · rcases hb with ⟨rfl, a', cap', rfl⟩ | ⟨b', off', cap', u', rfl, hl', hc'⟩
    · exact base a cap a' cap' [] [] (Or.inr ⟨rfl, rfl⟩)
    · by_cases h : ys = []
      · subst h; exact base a cap _ cap' [] [] (Or.inr ⟨rfl, rfl⟩)
      · exact base a cap _ cap' [] ys (Or.inl (by cases ys <;> simp at h ⊢))
  · rcases hb with ⟨rfl, a', cap', rfl⟩ | ⟨b', off', cap', u', rfl, hl', hc'⟩
    · by_cases h : xs = []
      · subst h; exact base _ cap a' cap' [] [] (Or.inr ⟨rfl, rfl⟩)
      · exact base _ cap a' cap' xs [] (Or.inl (by cases xs <;> simp at h ⊢))
    · by_cases h : xs.length = ys.length
      · have := eqPuts_walk w b off cap b' off' cap' ys.length xs ys u u' h rfl hl' (fun k hk => hc k (by omega)) hc'
        rw [h]; exact this
      · exact base _ cap _ cap' xs ys (Or.inl h)

end Go.Proofs.Ytlacppjlclfpmaa

namespace Go.Proofs.Ytlacppjlclfpmaa
open Go.RowKit
set_option maxRecDepth 100000

set_option maxHeartbeats 400000 in
theorem markInts_nil (w : World) (a : Option Addr) (cap : Nat) (k : Int) :
    Calls Try.prog 55 #[.slice a 0 cap, .int .i64 k] w fun e w' => e = .returned (.int .i64 k) ∧ w' = w := by
  go_enter Try.func55, Try.ntmps55
  go_wp2
  go_loop [1, 5] (fun q i => i = .int .i64 0 ∧ q = .int .i64 k) (fun _ _ => 0)
  case atStart => exact ⟨rfl, rfl⟩
  case round =>
    obtain ⟨rfl, rfl⟩ := hrel
    go_wp2
    go_ret
    exact ⟨rfl, rfl⟩

set_option maxHeartbeats 400000 in
theorem markInts_walk (w : World) (b cap n : Nat) (k : Int) (F : Nat → Prop) (f : Nat → Value) (hF : F b) (hk0 : 0 ≤ k) (hk : k + (n : Int) ≤ 4611686018427387904) (hr : OwnRow w b n f) :
    Calls Try.prog 55 #[.slice (some ⟨b, 0, none⟩) n cap, .int .i64 k] w fun e w' => e = .returned (.int .i64 (k + (n : Int))) ∧ OwnRow w' b n (fun i => .int .i64 (k + (i : Int))) ∧ Chg F w w' := by
  have HR : Hid (OwnRow w b n f) := hr
  have HF : Hid (F b) := hF
  clear hr hF
  go_enter Try.func55, Try.ntmps55
  go_wp2
  go_loopw [1, 5] (fun q i wr => ∃ j : Nat, j ≤ n ∧ i = .int .i64 j ∧ q = .int .i64 (k + (j : Int)) ∧ OwnRow wr b n (fun i => if i < j then .int .i64 (k + (i : Int)) else f i) ∧ Chg F w wr) (fun _ i _ => n - (intOf i).toNat)
  case atStart => exact ⟨0, Nat.zero_le _, rfl, by simp, HR.out.congr fun i _ => by simp, Chg.refl _ _⟩
  case round =>
    obtain ⟨j, hj, rfl, rfl, hrow, hch⟩ := hrel
    by_cases hlt : j < n
    · have c1 := hrow.cell hlt
      have c2 := hrow.frozen j
      have HROW : Hid (OwnRow wr b n (fun i => if i < j then .int .i64 (k + (i : Int)) else f i)) := hrow
      have HCH : Hid (Chg F w wr) := hch
      clear hrow hch
      simp only [Nat.lt_irrefl, if_false] at c1
      go_wp2
      go_roundw
      case rel =>
        refine ⟨j + 1, by omega, by go_num, by go_num, (HROW.out.set j _).congr fun i hi => ?_, HCH.out.set HF.out _ _⟩
        by_cases e : i = j
        · subst e; simp
        · by_cases e2 : i < j
          · simp [e, e2, show i < j + 1 by omega]
          · simp [e, e2, show ¬ i < j + 1 by omega]
      case measure => simp [intOf]; omega
    · go_wp2
      go_ret
      have e : j = n := by omega
      subst e
      exact ⟨rfl, hrow.congr fun i hi => by simp [hi], hch⟩

theorem markInts_any {w : World} {v : Value} {zs : List Int} {F : Nat → Prop} (k : Int) (h : IntsO w v zs F) (hk0 : 0 ≤ k) (hk : k + (zs.length : Int) ≤ 4611686018427387904) :
    Calls Try.prog 55 #[v, .int .i64 k] w fun e w' => e = .returned (.int .i64 (k + (zs.length : Int))) ∧ IntsO w' v (marks k zs.length) F ∧ Chg F w w' := by
  rcases h with ⟨rfl, a, cap, rfl⟩ | ⟨b, cap, hF, rfl, hl, hr⟩
  · exact (markInts_nil w a cap k).mono fun e w' ⟨he, hw⟩ => ⟨by rw [he]; simp, Or.inl ⟨by simp [marks], a, cap, rfl⟩, hw ▸ Chg.refl _ _⟩
  · refine (markInts_walk w b cap zs.length k F _ hF hk0 hk hr).mono fun e w' ⟨he, hrow, hch⟩ => ⟨he, Or.inr ⟨b, cap, hF, by rw [marks_length], by rw [marks_length]; exact hl, ?_⟩, hch⟩
    rw [marks_length]
    exact hrow.congr fun i hi => by rw [marks_get k hi]

set_option maxHeartbeats 400000 in
theorem heldInts_nil (w : World) (a : Option Addr) (cap : Nat) (k : Int) :
    Calls Try.prog 56 #[.slice a 0 cap, .int .i64 k] w fun e w' => e = .returned (.int .i64 k) ∧ w' = w := by
  go_enter Try.func56, Try.ntmps56
  go_wp2
  go_loop [1, 5] (fun q i => i = .int .i64 0 ∧ q = .int .i64 k) (fun _ _ => 0)
  case atStart => exact ⟨rfl, rfl⟩
  case round =>
    obtain ⟨rfl, rfl⟩ := hrel
    go_wp2
    go_ret
    exact ⟨rfl, rfl⟩

set_option maxHeartbeats 400000 in
theorem heldInts_walk (w : World) (b off cap n : Nat) (k : Int) (hk0 : 0 ≤ k) (hk : k + (n : Int) ≤ 4611686018427387904) (hc : ∀ i : Nat, i < n → w.cell? ⟨b, off + i, none⟩ = some (.int .i64 (k + (i : Int)))) :
    Calls Try.prog 56 #[.slice (some ⟨b, off, none⟩) n cap, .int .i64 k] w fun e w' => e = .returned (.int .i64 (k + (n : Int))) ∧ w' = w := by
  go_enter Try.func56, Try.ntmps56
  go_wp2
  go_loop [1, 5] (fun q i => ∃ j : Nat, j ≤ n ∧ i = .int .i64 j ∧ q = .int .i64 (k + (j : Int))) (fun _ i => n - (intOf i).toNat)
  case atStart => exact ⟨0, Nat.zero_le _, rfl, by simp⟩
  case round =>
    obtain ⟨j, hj, rfl, rfl⟩ := hrel
    by_cases hlt : j < n
    · have c1 := hc j hlt
      have hne : ((k + (j : Int)) != (k + (j : Int))) = false := by simp
      clear hc
      go_wp2
      go_round
      case rel => exact ⟨j + 1, by omega, by go_num, by go_num⟩
      case measure => simp [intOf]; omega
    · go_wp2
      go_ret
      have e : j = n := by omega
      subst e
      exact ⟨rfl, rfl⟩

theorem heldInts_any {w : World} {v : Value} (k : Int) (n : Nat) (h : Ints w v (marks k n)) (hk0 : 0 ≤ k) (hk : k + (n : Int) ≤ 4611686018427387904) :
    Calls Try.prog 56 #[v, .int .i64 k] w fun e w' => e = .returned (.int .i64 (k + (n : Int))) ∧ w' = w := by
  rcases h with ⟨h0, a, cap, rfl⟩ | ⟨b, off, cap, hv, hl, hr⟩
  · have : n = 0 := by have := marks_length k n; rw [h0] at this; simpa using this.symm
    subst this
    exact (heldInts_nil w a cap k).mono fun e w' ⟨he, hw⟩ => ⟨by rw [he]; simp, hw⟩
  · rw [marks_length] at hv hr
    subst hv
    exact heldInts_walk w b off cap n k hk0 hk fun i hi => by rw [hr i hi, marks_get k hi]

/-- What stands in the inner list i while the first j are marked. -/
def half (k : Int) (zss : List (List Int)) (j i : Nat) : List Int := if i < j then marks (k + (upto (zss.map List.length) i : Nat)) (zss[i]?.getD []).length else zss[i]?.getD []

end Go.Proofs.Ytlacppjlclfpmaa

namespace Go.Proofs.Ytlacppjlclfpmaa
open Go.RowKit
set_option maxRecDepth 100000

set_option maxHeartbeats 400000 in
theorem markPuts_nil (w : World) (a : Option Addr) (cap : Nat) (k : Int) :
    Calls Try.prog 48 #[.slice a 0 cap, .int .i64 k] w fun e w' => e = .returned (.int .i64 k) ∧ w' = w := by
  go_enter Try.func48, Try.ntmps48
  go_wp2
  go_loop [1, 5] (fun q i => i = .int .i64 0 ∧ q = .int .i64 k) (fun _ _ => 0)
  case atStart => exact ⟨rfl, rfl⟩
  case round =>
    obtain ⟨rfl, rfl⟩ := hrel
    go_wp2
    go_ret
    exact ⟨rfl, rfl⟩

/-- The number that stands ahead of put i. -/
def pnum (k : Int) (ps : List (Int × List Int)) (i : Nat) : Int := k + i + (upto (wlens ps) i : Nat)
def halfA (k : Int) (ps : List (Int × List Int)) (j i : Nat) : Int := if i < j then pnum k ps i else (ps[i]?.getD (0, [])).1
def halfW (k : Int) (ps : List (Int × List Int)) (j i : Nat) : List Int := if i < j then marks (pnum k ps i + 1) (ps[i]?.getD (0, [])).2.length else (ps[i]?.getD (0, [])).2
def halfCell (k : Int) (ps : List (Int × List Int)) (u : Nat → Value) (j c : Nat) : Value := if c % 2 = 0 then .int .i64 (halfA k ps j (c / 2)) else u (c / 2)
theorem halfCell_at (k : Int) (ps : List (Int × List Int)) (u : Nat → Value) (j i : Nat) : halfCell k ps u j (i * 2) = .int .i64 (halfA k ps j i) := by
  unfold halfCell; rw [if_pos (by omega), show i * 2 / 2 = i by omega]
theorem halfCell_words (k : Int) (ps : List (Int × List Int)) (u : Nat → Value) (j i : Nat) : halfCell k ps u j (i * 2 + 1) = u i := by
  unfold halfCell; rw [if_neg (by omega), show (i * 2 + 1) / 2 = i by omega]
theorem halfCell_next (k : Int) (ps : List (Int × List Int)) (u : Nat → Value) (j c : Nat) : (if c = j * 2 then .int .i64 (pnum k ps j) else halfCell k ps u j c) = halfCell k ps u (j + 1) c := by
  by_cases e : c = j * 2
  · subst e; rw [if_pos rfl, halfCell_at]; simp [halfA]
  · rw [if_neg e]
    unfold halfCell halfA
    by_cases e2 : c % 2 = 0
    · rw [if_pos e2, if_pos e2]
      have hne : c / 2 ≠ j := by omega
      by_cases e3 : c / 2 < j
      · rw [if_pos e3, if_pos (by omega)]
      · rw [if_neg e3, if_neg (by omega)]
    · rw [if_neg e2, if_neg e2]

set_option maxHeartbeats 800000 in
theorem markPuts_walk (w : World) (b cap n : Nat) (k : Int) (F : Nat → Prop) (ps : List (Int × List Int)) (u : Nat → Value) (G : Nat → Nat → Prop) (hF : F b) (hG : ∀ i c, G i c → F c ∧ c ≠ b) (hGG : ∀ i j c, i ≠ j → G i c → ¬ G j c)
    (hn : ps.length = n) (hk0 : 0 ≤ k) (hk : k + (n : Int) + ((wlens ps).sum : Nat) ≤ 4611686018427387904) (hn2 : n ≤ 9223372036854775807) (hr : OwnRow w b (n * 2) (putCell ps u)) (hu : ∀ i, i < n → IntsO w (u i) (ps[i]?.getD (0, [])).2 (G i)) :
    Calls Try.prog 48 #[.slice (some ⟨b, 0, none⟩) n cap, .int .i64 k] w fun e w' => e = .returned (.int .i64 (k + (n : Int) + ((wlens ps).sum : Nat))) ∧ OwnRow w' b (n * 2) (halfCell k ps u n) ∧ (∀ i, i < n → IntsO w' (u i) (halfW k ps n i) (G i)) ∧ Chg F w w' := by
  have HR : Hid (OwnRow w b (n * 2) (putCell ps u)) := hr
  have HU : Hid (∀ i, i < n → IntsO w (u i) (ps[i]?.getD (0, [])).2 (G i)) := hu
  have HF : Hid (F b) := hF
  have HG : Hid (∀ i c, G i c → F c ∧ c ≠ b) := hG
  have HGG : Hid (∀ i j c, i ≠ j → G i c → ¬ G j c) := hGG
  have HN : Hid (ps.length = n) := hn
  clear hr hu hG hGG hn hF
  go_enter Try.func48, Try.ntmps48
  go_wp2
  go_loopw [1, 5] (fun q i wr => ∃ j : Nat, j ≤ n ∧ i = .int .i64 j ∧ q = .int .i64 (pnum k ps j) ∧ OwnRow wr b (n * 2) (halfCell k ps u j) ∧ (∀ i, i < n → IntsO wr (u i) (halfW k ps j i) (G i)) ∧ Chg F w wr) (fun _ i _ => n - (intOf i).toNat)
  case atStart => exact ⟨0, Nat.zero_le _, rfl, by simp [pnum, upto_zero], HR.out.congr fun i _ => by simp [putCell, halfCell, halfA], fun i hi => by simpa [halfW] using HU.out i hi, Chg.refl _ _⟩
  case round =>
    obtain ⟨j, hj, rfl, rfl, hrow, hin, hch⟩ := hrel
    by_cases hlt : j < n
    · have c1 := hrow.cell (i := j * 2) (by omega)
      have c2 := hrow.cell (i := j * 2 + 1) (by omega)
      have c3 := hrow.frozen (j * 2)
      rw [halfCell_at] at c1
      rw [halfCell_words] at c2
      have c1' : ∃ q, wr.cell? ⟨b, j * 2, none⟩ = some (.int .i64 q) := ⟨_, c1⟩
      clear c1
      obtain ⟨old, c1⟩ := c1'
      have HROW : Hid (OwnRow wr b (n * 2) (halfCell k ps u j)) := hrow
      have HIN : Hid (∀ i, i < n → IntsO wr (u i) (halfW k ps j i) (G i)) := hin
      have HCH : Hid (Chg F w wr) := hch
      clear hrow hin hch
      have hs := upto_succ (wlens ps) j (by rw [wlens_length, HN.out]; exact hlt)
      rw [wlens_get] at hs
      have hle := upto_le (wlens ps) (j + 1)
      have hp0 : 0 ≤ pnum k ps j := by unfold pnum; omega
      have hp1 : pnum k ps j + 1 + ((ps[j]?.getD (0, [])).2.length : Int) ≤ 4611686018427387904 := by unfold pnum; omega
      have HS : Hid (pnum k ps (j + 1) = pnum k ps j + 1 + ((ps[j]?.getD (0, [])).2.length : Int)) := by unfold Hid pnum; omega
      clear hs hle
      have HIJ : Hid (IntsO wr (u j) (ps[j]?.getD (0, [])).2 (G j)) := by have := HIN.out j hlt; unfold Hid; simpa [halfW] using this
      go_wp2_with fail
      refine (markInts_any (pnum k ps j + 1) (HIJ.out.keep (w' := wr.setCell ⟨b, j * 2, none⟩ (.int .i64 (pnum k ps j))) fun c hc _ => Below.heap_setCell _ _ _ _ (HG.out j c hc).2) (by omega) (by omega)).mono ?_
      rintro e w' ⟨rfl, hm, hc⟩
      have HM : Hid (IntsO w' (u j) (marks (pnum k ps j + 1) (ps[j]?.getD (0, [])).2.length) (G j)) := hm
      have HC : Hid (Chg (G j) (wr.setCell ⟨b, j * 2, none⟩ (.int .i64 (pnum k ps j))) w') := hc
      clear hm hc
      go_wp2
      go_roundw
      case rel =>
        refine ⟨j + 1, by omega, by go_num, by rw [HS.out], ?_, fun i hi => ?_, (HCH.out.set HF.out _ _).trans (HC.out.mono fun c hc => (HG.out j c hc).1)⟩
        · have h1 := (HROW.out.set (j * 2) (.int .i64 (pnum k ps j))).congr (g := halfCell k ps u (j + 1)) fun c _ => halfCell_next k ps u j c
          exact h1.block (HC.out.block b h1.lt (fun h => (HG.out j b h).2 rfl))
        · by_cases e : i = j
          · subst e
            have := HM.out
            simpa [halfW] using this
          · have h1 := (HIN.out i hi).keep (w' := w') fun c hc hlt => (HC.out.block c (by simpa [World.setCell] using hlt) (HGG.out i j c e hc)).trans (Below.heap_setCell _ _ _ _ (HG.out i c hc).2)
            have h2 : halfW k ps (j + 1) i = halfW k ps j i := by
              unfold halfW
              by_cases e2 : i < j
              · rw [if_pos e2, if_pos (by omega)]
              · rw [if_neg e2, if_neg (by omega)]
            rw [h2]; exact h1
      case measure => simp [intOf]; omega
    · go_wp2
      go_ret
      have e : j = n := by omega
      subst e
      exact ⟨ret_int (by have := upto_all (wlens ps); rw [wlens_length, HN.out] at this; unfold pnum; rw [this]), hrow, hin, hch⟩

theorem markPuts_any {w : World} {v : Value} {ps : List (Int × List Int)} {F : Nat → Prop} (k : Int) (h : PutsO w v ps F) (hk0 : 0 ≤ k) (hk : k + (ps.length : Int) + ((wlens ps).sum : Nat) ≤ 4611686018427387904) :
    Calls Try.prog 48 #[v, .int .i64 k] w fun e w' => e = .returned (.int .i64 (k + (ps.length : Int) + ((wlens ps).sum : Nat))) ∧ PutsO w' v (marksP k (wlens ps)) F ∧ Chg F w w' := by
  rcases h with ⟨rfl, a, cap, rfl⟩ | ⟨b, cap, u, G, hF, hG, hGG, rfl, hl, hr, hu⟩
  · exact (markPuts_nil w a cap k).mono fun e w' ⟨he, hw⟩ => ⟨by rw [he]; simp [wlens], Or.inl ⟨rfl, a, cap, rfl⟩, hw ▸ Chg.refl _ _⟩
  · refine (markPuts_walk w b cap ps.length k F ps u G hF hG hGG rfl hk0 hk (by unfold maxLen at hl; omega) hr hu).mono fun e w' ⟨he, hrow, hin, hch⟩ => ⟨he, Or.inr ⟨b, cap, u, G, hF, hG, hGG, ?_, ?_, ?_, ?_⟩, hch⟩
    · rw [marksP_length, wlens_length]
    · rw [marksP_length, wlens_length]; exact hl
    · rw [marksP_length, wlens_length]
      refine hrow.congr fun c hc => ?_
      unfold halfCell putCell halfA
      by_cases e2 : c % 2 = 0
      · rw [if_pos e2, if_pos e2, if_pos (by omega), marksP_get _ _ _ (by rw [wlens_length]; omega)]; rfl
      · rw [if_neg e2, if_neg e2]
    · intro i hi
      rw [marksP_length, wlens_length] at hi
      have := hin i hi
      rw [marksP_get _ _ _ (by rw [wlens_length]; exact hi), wlens_get]
      simpa [halfW, hi, pnum] using this

set_option maxHeartbeats 400000 in
theorem heldPuts_nil (w : World) (a : Option Addr) (cap : Nat) (k : Int) :
    Calls Try.prog 49 #[.slice a 0 cap, .int .i64 k] w fun e w' => e = .returned (.int .i64 k) ∧ w' = w := by
  go_enter Try.func49, Try.ntmps49
  go_wp2
  go_loop [1, 5] (fun q i => i = .int .i64 0 ∧ q = .int .i64 k) (fun _ _ => 0)
  case atStart => exact ⟨rfl, rfl⟩
  case round =>
    obtain ⟨rfl, rfl⟩ := hrel
    go_wp2
    go_ret
    exact ⟨rfl, rfl⟩

set_option maxHeartbeats 800000 in
theorem heldPuts_walk (w : World) (b off cap n : Nat) (k : Int) (ns : List Nat) (u : Nat → Value) (hns : ns.length = n) (hk0 : 0 ≤ k) (hk : k + (n : Int) + (ns.sum : Nat) ≤ 4611686018427387904) (hn2 : n ≤ 9223372036854775807)
    (hc : ∀ i : Nat, i < n → w.cell? ⟨b, off + i * 2, none⟩ = some (.int .i64 (k + i + (upto ns i : Nat))) ∧ w.cell? ⟨b, off + i * 2 + 1, none⟩ = some (u i) ∧ Ints w (u i) (marks (k + i + (upto ns i : Nat) + 1) (ns[i]?.getD 0))) :
    Calls Try.prog 49 #[.slice (some ⟨b, off, none⟩) n cap, .int .i64 k] w fun e w' => e = .returned (.int .i64 (k + (n : Int) + (ns.sum : Nat))) ∧ w' = w := by
  have HN : Hid (ns.length = n) := hns
  clear hns
  go_enter Try.func49, Try.ntmps49
  go_wp2
  go_loop [1, 5] (fun q i => ∃ j : Nat, j ≤ n ∧ i = .int .i64 j ∧ q = .int .i64 (k + j + (upto ns j : Nat))) (fun _ i => n - (intOf i).toNat)
  case atStart => exact ⟨0, Nat.zero_le _, rfl, by simp [upto_zero]⟩
  case round =>
    obtain ⟨j, hj, rfl, rfl⟩ := hrel
    by_cases hlt : j < n
    · obtain ⟨c1, c2, i1⟩ := hc j hlt
      clear hc
      have hs := upto_succ ns j (by rw [HN.out]; exact hlt)
      have hle := upto_le ns (j + 1)
      have hp0 : 0 ≤ k + j + (upto ns j : Nat) := by omega
      have hp1 : k + j + (upto ns j : Nat) + 1 + (ns[j]?.getD 0 : Nat) ≤ 4611686018427387904 := by omega
      have HS : Hid (k + ((j + 1 : Nat) : Int) + (upto ns (j + 1) : Nat) = k + j + (upto ns j : Nat) + 1 + (ns[j]?.getD 0 : Nat)) := by unfold Hid; omega
      clear hs hle
      generalize k + j + ((upto ns j : Nat) : Int) = U at *
      have HI : Hid (Ints w (u j) (marks (U + 1) (ns[j]?.getD 0))) := i1
      clear i1
      have hne : (U != U) = false := by simp
      have hlo : ¬ (U + 1 + ((ns[j]?.getD 0 : Nat) : Int)) < 0 := by omega
      go_wp2_with fail
      refine (heldInts_any (U + 1) (ns[j]?.getD 0) HI.out (by omega) (by omega)).mono ?_
      rintro e w' ⟨rfl, rfl⟩
      go_wp2
      go_round
      case rel => exact ⟨j + 1, by omega, by go_num, by rw [HS.out]⟩
      case measure => simp [intOf]; omega
    · go_wp2
      go_ret
      have e : j = n := by omega
      subst e
      exact ⟨ret_int (by have := upto_all ns; rw [HN.out] at this; rw [this]), rfl⟩

theorem heldPuts_any {w : World} {v : Value} (k : Int) (ns : List Nat) (h : Puts w v (marksP k ns)) (hk0 : 0 ≤ k) (hk : k + (ns.length : Int) + (ns.sum : Nat) ≤ 4611686018427387904) :
    Calls Try.prog 49 #[v, .int .i64 k] w fun e w' => e = .returned (.int .i64 (k + (ns.length : Int) + (ns.sum : Nat))) ∧ w' = w := by
  rcases h with ⟨h0, a, cap, rfl⟩ | ⟨b, off, cap, u, hv, hl, hr⟩
  · have : ns = [] := by have := marksP_length ns k; rw [h0] at this; cases ns <;> simp at this ⊢
    subst this
    exact (heldPuts_nil w a cap k).mono fun e w' ⟨he, hw⟩ => ⟨by rw [he]; simp, hw⟩
  · rw [marksP_length] at hv hr hl
    subst hv
    refine heldPuts_walk w b off cap ns.length k ns u rfl hk0 hk (by unfold maxLen at hl; omega) fun i hi => ?_
    have := hr i hi
    rw [marksP_get _ _ _ hi] at this
    exact this


/-- Marked, a disk holds. -/
structure Marked (w : World) (vB vC : Value) (bs : List (List Int)) (ps : List (Int × List Int)) (k : Int) (F : Nat → Prop) : Prop where
  disk : DiskO w vB vC (marksS k (bs.map List.length)) (marksP (k + ((bs.map List.length).sum : Nat)) (wlens ps)) F
theorem Marked.later {w w' : World} {vB vC : Value} {bs : List (List Int)} {ps : List (Int × List Int)} {k : Int} {F : Nat → Prop} (h : Marked w vB vC bs ps k F) (hb : Below w.heap.size w w') : Marked w' vB vC bs ps k F := ⟨h.disk.later hb⟩

end Go.Proofs.Ytlacppjlclfpmaa

namespace Go.Proofs.Ytlacppjlclfpmaa
open Go.RowKit
set_option maxRecDepth 100000

theorem eqIntsResult_true (w : World) (c : Int) (va vb : Value) (zs : List Int) (h1 : Ints w va zs) (h2 : Ints w vb zs) :
    Calls Try.prog 28 #[.agg #[.int .i64 c, va], .agg #[.int .i64 c, vb]] w fun e w' => e = .returned (.bool true) ∧ Below w.heap.size w w' := by
  have H1 : Hid (Ints w va zs) := h1
  have H2 : Hid (Ints w vb zs) := h2
  clear h1 h2
  go_enter Try.func28, Try.ntmps28
  go_wp2_with fail
  refine (eqInts_any (H1.out.later (later2 _ _ _)) (H2.out.later (later2 _ _ _))).mono ?_
  rw [beq_self_eq_true]
  rintro e w' ⟨rfl, m, rfl⟩
  go_wp2
  go_ret
  exact ⟨rfl, below_drewN (later2 _ _ _) m⟩

theorem markIntsResult_any (w : World) (c : Int) (v : Value) (zs : List Int) (F : Nat → Prop) (k : Int) (h : IntsO w v zs F) (hk0 : 0 ≤ k) (hk : k + (zs.length : Int) ≤ 4611686018427387904) :
    Calls Try.prog 29 #[.agg #[.int .i64 c, v], .int .i64 k] w fun e w' => e = .returned (.int .i64 (k + (zs.length : Int))) ∧ IntsO w' v (marks k zs.length) F ∧ Chg F w w' := by
  have H : Hid (IntsO w v zs F) := h
  clear h
  go_enter Try.func29, Try.ntmps29
  go_wp2_with fail
  refine (markInts_any k (H.out.keep fun b _ hlt => (later1 _ _).block b hlt) hk0 hk).mono ?_
  rintro e w1 ⟨rfl, hm, hc⟩
  have HM : Hid (IntsO w1 v (marks k zs.length) F) := hm
  have HC : Hid (Chg F w w1) := (Chg.of_below (later1 _ _)).trans hc
  clear hm hc
  go_wp2
  go_ret
  exact ⟨rfl, HM.out, HC.out⟩

theorem heldIntsResult_any (w : World) (c : Int) (v : Value) (n : Nat) (k : Int) (h : Ints w v (marks k n)) (hk0 : 0 ≤ k) (hk : k + (n : Int) ≤ 4611686018427387904) :
    Calls Try.prog 30 #[.agg #[.int .i64 c, v], .int .i64 k] w fun e w' => e = .returned (.int .i64 (k + (n : Int))) ∧ Below w.heap.size w w' := by
  have H : Hid (Ints w v (marks k n)) := h
  clear h
  have l2 : ¬ (k + (n : Int) < 0) := by omega
  go_enter Try.func30, Try.ntmps30
  go_wp2_with fail
  refine (heldInts_any k n (H.out.later (later1 _ _)) hk0 hk).mono ?_
  rintro e w1 ⟨rfl, rfl⟩
  go_wp2
  go_ret
  exact ⟨rfl, later1 _ _⟩

theorem Box2.chg {w w' : World} {b : Nat} {x y : Value} {F : Nat → Prop} (h : Box2 w b x y) (hc : Chg F w w') (hf : ¬ F b) : Box2 w' b x y := ⟨(hc.cell h.lt hf).trans h.1, (hc.cell h.lt hf).trans h.2⟩
theorem IntsO.later {w w' : World} {v : Value} {zs : List Int} {F : Nat → Prop} (h : IntsO w v zs F) (hb : Below w.heap.size w w') : IntsO w' v zs F := h.keep fun b _ hlt => hb.block b hlt
theorem IntsO.chg {w w' : World} {v : Value} {zs : List Int} {F G : Nat → Prop} (h : IntsO w v zs F) (hc : Chg G w w') (hd : ∀ b, F b → ¬ G b) : IntsO w' v zs F := h.keep fun b hb hlt => hc.block b hlt (hd b hb)
end Go.Proofs.Ytlacppjlclfpmaa

namespace Go.Proofs.Ytlacppjlclfpmaa
open Go.RowKit
set_option maxRecDepth 100000

/-- What is left of 'left' behind n values: -1 if there are too many. -/
def szf (left : Int) (n : Nat) : Int := if left < (n : Int) then -1 else left - (n : Int)
theorem szf_no {left : Int} {n : Nat} (h : left < (n : Int)) : szf left n = -1 := by simp [szf, h]
theorem szf_yes {left : Int} {n : Nat} (h : ¬ left < (n : Int)) : szf left n = left - (n : Int) := by simp [szf, h]

theorem szInts_walk (w : World) (a : Option Addr) (n cap : Nat) (left : Int) (h0 : 0 ≤ left) (h1 : left ≤ 1048576) (hn : n ≤ maxLen) :
    Calls Try.prog 85 #[.slice a n cap, .int .i64 left] w fun e w' => e = .returned (.int .i64 (szf left n)) ∧ w' = w := by
  unfold maxLen at hn
  by_cases h : left < (n : Int)
  · rw [szf_no h]
    have h' : left - (n : Int) < 0 := by omega
    go_enter Try.func85, Try.ntmps85
    go_wp2
    go_ret
    exact ⟨rfl, rfl⟩
  · rw [szf_yes h]
    have h' : ¬ left - (n : Int) < 0 := by omega
    go_enter Try.func85, Try.ntmps85
    go_wp2
    go_ret
    exact ⟨rfl, rfl⟩

theorem szInts_any {w : World} {v : Value} {zs : List Int} (h : Ints w v zs) (left : Int) (h0 : 0 ≤ left) (h1 : left ≤ 1048576) :
    Calls Try.prog 85 #[v, .int .i64 left] w fun e w' => e = .returned (.int .i64 (szf left zs.length)) ∧ w' = w := by
  obtain ⟨a, cap, rfl, hn⟩ := h.shape
  exact szInts_walk w a _ cap left h0 h1 hn

/-- How many values a disk holds. -/
def dsize (bs : List (List Int)) (ps : List (Int × List Int)) : Nat := bs.length + (bs.map List.length).sum + (ps.length + (wlens ps).sum)

end Go.Proofs.Ytlacppjlclfpmaa

namespace Go.Proofs.Ytlacppjlclfpmaa
open Go.RowKit
set_option maxRecDepth 100000

/-- The cells of block b, from the first on. -/
def Bx (w : World) (b : Nat) (vs : List Value) : Prop := ∀ i v, vs[i]? = some v → w.cell? ⟨b, i, none⟩ = some v
theorem Bx.new (w : World) (vs : List Value) (t : TypeId) : Bx (w.alloc (.cells vs.toArray t)) w.heap.size vs := fun i v h => by rw [new_cell]; simpa using h
theorem Bx.later {w w' : World} {b : Nat} {vs : List Value} (h : Bx w b vs) (hb : Below w.heap.size w w') : Bx w' b vs := fun i v e => cell_later hb (h i v e)
theorem Bx.chg {w w' : World} {b : Nat} {vs : List Value} {F : Nat → Prop} (h : Bx w b vs) (hc : Chg F w w') (hf : ¬ F b) : Bx w' b vs := fun i v e => by
  have := h i v e
  exact (hc.cell (a := ⟨b, i, none⟩) (World.block_lt_of_cell? _ _ this) hf).trans this
theorem Bx.lt {w : World} {b : Nat} {v : Value} {vs : List Value} (h : Bx w b (v :: vs)) : b < w.heap.size := World.block_lt_of_cell? _ _ (h 0 v rfl)

/-- Lists of integers. -/
theorem IntsO.reads {w : World} {v : Value} {zs : List Int} {F : Nat → Prop} (h : IntsO w v zs F) : Ints w v zs := h.ints
theorem toIntsU {w : World} {v : Value} {zs : List Int} (h : Ints w v zs) (hn : zs.length ≤ 1048576) :
    Calls Try.prog 15 #[v] w fun e w' => ∃ a n c, e = .returned (.slice a n c) ∧ Below w.heap.size w w' ∧ IntsO w' (.slice a n c) zs (fresh w w') :=
  (toInts_any h hn).mono fun _ _ ⟨h1, h2, h3⟩ => ⟨_, _, _, h1, h2, h3⟩
theorem eqIntsU {w : World} {v v' : Value} {zs : List Int} (h : Ints w v zs) (h' : Ints w v' zs) : Calls Try.prog 17 #[v, v'] w fun e w' => e = .returned (.bool true) ∧ Below w.heap.size w w' :=
  (eqInts_any h h').mono fun _ _ ⟨h1, m, h2⟩ => ⟨by rw [h1, beq_self_eq_true], h2 ▸ below_drewN (Below.refl _ _) m⟩
theorem markIntsU {w : World} {v : Value} {zs : List Int} {F : Nat → Prop} (k : Int) (h : IntsO w v zs F) (hk0 : 0 ≤ k) (hk : k + (zs.length : Nat) ≤ 4611686018427387904) :
    Calls Try.prog 55 #[v, .int .i64 k] w fun e w' => e = .returned (.int .i64 (k + (zs.length : Nat))) ∧ Chg F w w' :=
  (markInts_any k h hk0 hk).mono fun _ _ ⟨h1, _, h2⟩ => ⟨h1, h2⟩

/-- Disks. -/
abbrev DK := List (List Int) × List (Int × List Int)
def DiskR (w : World) (vB vC : Value) (d : DK) : Prop := IntsS w vB d.1 ∧ Puts w vC d.2
theorem DiskR.later {w w' : World} {vB vC : Value} {d : DK} (h : DiskR w vB vC d) (hb : Below w.heap.size w w') : DiskR w' vB vC d := ⟨h.1.later hb, h.2.later hb⟩
def DiskU (w : World) (vB vC : Value) (d : DK) (F : Nat → Prop) : Prop := DiskO w vB vC d.1 d.2 F
theorem DiskU.reads {w : World} {vB vC : Value} {d : DK} {F : Nat → Prop} (h : DiskU w vB vC d F) : DiskR w vB vC d := ⟨DiskO.ints h, DiskO.puts h⟩
theorem DiskU.later {w w' : World} {vB vC : Value} {d : DK} {F : Nat → Prop} (h : DiskU w vB vC d F) (hb : Below w.heap.size w w') : DiskU w' vB vC d F := DiskO.later h hb
theorem DiskU.mono {w : World} {vB vC : Value} {d : DK} {F G : Nat → Prop} (h : DiskU w vB vC d F) (e : ∀ b, F b → G b) : DiskU w vB vC d G := DiskO.mono h e
theorem DiskU.chg {w w' : World} {vB vC : Value} {d : DK} {F G : Nat → Prop} (h : DiskU w vB vC d F) (hc : Chg G w w') (hd : ∀ b, F b → ¬ G b) : DiskU w' vB vC d F := DiskO.chg h hc hd
def sizeDisk (d : DK) : Nat := dsize d.1 d.2
def spanDisk (d : DK) : Nat := dspan d.1 d.2
theorem spanDisk_le (d : DK) : spanDisk d ≤ sizeDisk d := by unfold spanDisk sizeDisk dspan dsize; omega
/-- Answers that are a code and a disk. -/
def AnsDR (w : World) (r : Int × DK) (e : Ending) (w' : World) : Prop := ∃ aB nB cB aC nC cC, e = .returned (.agg #[.int .i64 r.1, .slice aB nB cB, .slice aC nC cC]) ∧ Below w.heap.size w w' ∧ DiskU w' (.slice aB nB cB) (.slice aC nC cC) r.2 (fresh w w')
theorem AnsDisk.uni {w w' : World} {c : Int} {bs : List (List Int)} {ps : List (Int × List Int)} {e : Ending} (h : AnsDisk w c bs ps e w') : AnsDR w (c, bs, ps) e w' := by
  obtain ⟨aB, nB, cB, aC, nC, cC, h1, h2⟩ := h
  exact ⟨aB, nB, cB, aC, nC, cC, h1, h2.below, h2.disk⟩
def mkDisk (k : Int) (d : DK) : DK := (marksS k (d.1.map List.length), marksP (k + ((d.1.map List.length).sum : Nat)) (wlens d.2))
end Go.Proofs.Ytlacppjlclfpmaa
