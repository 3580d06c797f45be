/- The walks of the functions that copy a list of integers: the specification's by append, the program's by copy. The program's copying of a list of extents. Rows that grow by append, each element with a list of its own. The walks of NewDisk, the program's and the specification's. The walks of the program's rack: lists that are set one by one. The walks of the program's drive: a cache of pointers that grows. -/
import Derived.Test.YtomcejofhfngkaaM03
import Derived.Laws.CopyOwn
import Derived.Test.YtomcejofhfngkaaM05
import Derived.Test.YtomcejofhfngkaaM04
import Derived.Deep.AppendLies
import Derived.Test.YtomcejofhfngkaaRows
import Derived.Test.YtomcejofhfngkaaM01
import Derived.Deep.RegionWith
import Derived.Deep.RegionLaw
namespace Go.Proofs.Ytomcejofhfngkaa
open Go.RowKit
set_option maxRecDepth 100000

theorem Try.sizeInt : (Try.prog.info? 2).map (·.size) = some 1 := by kernel_rfl

/-- What 'copy' into a list that was just made comes to. -/
theorem copy_made (w : World) (a : Option Addr) (n cap : Nat) (zs : List Int) (hz : zs.length = n) (hc : At1 w a n (fun k => .int .i64 (zs[k]?.getD 0))) :
    ∃ X, (Builtin.copy_ #[26, 26] 3 #[.slice (some ⟨w.heap.size, 0, none⟩) n n, .slice a n cap]).run Try.prog (w.alloc (.cells (madeCells #[.int .i64 0] n) 2)) = .ok (goInt n) X ∧
      Below w.heap.size w X ∧ OwnRow X w.heap.size n (fun i => .int .i64 (zs[i]?.getD 0)) := by
  by_cases h0 : n = 0
  · subst h0
    have hr := run_copy_none (P := Try.prog) (w.alloc (.cells (madeCells #[.int .i64 0] 0) 2)) 26 26 3 2 (some ⟨w.heap.size, 0, none⟩) a 0 0 0 cap Try.underlying26 Try.sizeInt (by simp)
    exact ⟨_, hr, later1 _ _, (OwnRow.made w (.int .i64 0) 0 2).congr fun i hi => by omega⟩
  · obtain ⟨b, off, rfl, _⟩ := hc 0 (by omega)
    have hc' : ∀ k, k < n → w.cell? ⟨b, off + k, none⟩ = some (.int .i64 (zs[k]?.getD 0)) := by
      intro k hk
      obtain ⟨b', off', e, h⟩ := hc k hk
      simp only [Option.some.injEq, Addr.mk.injEq, and_true] at e
      rw [e.1, e.2]; exact h
    have hcp := run_copy_row (P := Try.prog) (w.alloc (.cells (madeCells #[.int .i64 0] n) 2)) 26 26 3 2 w.heap.size 0 n n ⟨b, off, none⟩ n cap (madeCells #[.int .i64 0] n) 2 (zs.map fun z => Value.int .i64 z) Try.underlying26 Try.sizeInt
      (Go.Deep.blk_alloc_new _ _) (by simp [hz]) (fun j v hv => by
        rw [List.getElem?_map, Option.map_eq_some_iff] at hv
        obtain ⟨z, hz1, rfl⟩ := hv
        have hj : j < n := by rw [← hz]; exact (List.getElem?_eq_some_iff.1 hz1).1
        have h2 := hc' j hj
        rw [hz1, Option.getD_some] at h2
        have ha : (⟨b, off, none⟩ : Addr).add j = ⟨b, off + j, none⟩ := by
          by_cases hj0 : j = 0
          · subst hj0; simp [Addr.add]
          · simp [Addr.add, hj0]
        rw [ha]
        exact cell_later (later1 _ _) h2) (by simp [size_madeCells, hz]) (fun v hv => by
        obtain ⟨z, _, rfl⟩ := List.mem_map.1 hv
        rfl)
    refine ⟨_, by rw [hcp, List.length_map, hz], below_setRow (later1 _ _) (Nat.le_refl _) _, ?_⟩
    refine ⟨_, 2, setRow_heap _ _ _ _ _ _ (Go.Deep.blk_alloc_new _ _), ?_, fun i hi => ?_⟩
    · simp [hz]
    · have hlen : i < zs.length := by omega
      simp [List.getElem?_append_left, hlen]
set_option maxHeartbeats 400000 in
theorem copyOf_more {w : World} {v : Value} {zs : List Int} (h : Ints w v zs) (hn : zs.length ≤ 1048576) :
    Calls Try.prog 91 #[v] w fun e w' => e = .returned (.slice (some ⟨w.heap.size, 0, none⟩) zs.length zs.length) ∧ Below w.heap.size w w' ∧ IntsO w' (.slice (some ⟨w.heap.size, 0, none⟩) zs.length zs.length) zs (fresh w w') ∧ w.heap.size < w'.heap.size := by
  obtain ⟨a, cap, rfl, hm, hc⟩ := h.open'
  clear h
  obtain ⟨X, hcp, hbX, hrX⟩ := copy_made w a zs.length cap zs rfl hc
  have hmk := fun w => run_make_row' (P := Try.prog) 26 2 (.int .i64 0) 8 Try.underlying26 Try.infoInt rfl .i64 .i64 zs.length (by omega) (by omega) w
  have HB : Hid (Below w.heap.size w X) := hbX
  have HR : Hid (OwnRow X w.heap.size zs.length (fun i => .int .i64 (zs[i]?.getD 0))) := hrX
  clear hbX hrX hc
  go_enter Try.func91, Try.ntmps91
  go_wp2
  go_ret
  exact ⟨rfl, HB.out, Or.inr ⟨w.heap.size, _, ⟨Nat.le_refl _, HR.out.lt⟩, rfl, hm, HR.out⟩, HR.out.lt⟩
theorem copyOf_any {w : World} {v : Value} {zs : List Int} (h : Ints w v zs) (hn : zs.length ≤ 1048576) :
    Calls Try.prog 91 #[v] w fun e w' => e = .returned (.slice (some ⟨w.heap.size, 0, none⟩) zs.length zs.length) ∧ Below w.heap.size w w' ∧ IntsO w' (.slice (some ⟨w.heap.size, 0, none⟩) zs.length zs.length) zs (fresh w w') :=
  (copyOf_more h hn).mono fun _ _ ⟨h1, h2, h3, _⟩ => ⟨h1, h2, h3⟩
end Go.Proofs.Ytomcejofhfngkaa

namespace Go.Proofs.Ytomcejofhfngkaa
open Go.RowKit
set_option maxRecDepth 100000

theorem Try.sizeExt : (Try.prog.info? 104).map (·.size) = some 3 := by kernel_rfl

/-- 'copy' between two rows of n elements of 'size' cells each. -/
theorem run_copy_wide {P : Program} (w : World) (dT sT ty elem : TypeId) (g n dCap : Nat) (a : Addr) (sCap size : Nat) (cur : Array Value) (t : TypeId) (cs : List Value)
    (hu : P.underlying dT = some (.slice elem)) (hs : (P.info? elem).map (·.size) = some size)
    (hg : w.heap[g]? = some (.cells cur t (0, 0))) (hn : cs.length = n * size)
    (hsrc : ∀ j v, cs[j]? = some v → w.cell? (a.add j) = some v) (hfit : cs.length ≤ cur.size) (h1 : ∀ v ∈ cs, v.oneCell' = true) :
    (Builtin.copy_ #[dT, sT] ty #[.slice (some ⟨g, 0, none⟩) n dCap, .slice (some a) n sCap]).run P w = .ok (goInt n) (w.setRow g (cs ++ cur.toList.drop cs.length).toArray) := by
  have hl := run_loadCells_list (P := P) w a cs hsrc
  have hst := run_storeCells_at P g 0 t cs 0 cur w hg (by simpa using hfit) h1
  simp only [Nat.zero_add, List.take_zero, List.nil_append] at hst
  cases hq : P.info? elem with
  | none => simp [hq] at hs
  | some i =>
    have hi : i.size = size := by simpa [hq] using hs
    have hm : Nat.min n n = n := Nat.min_self n
    simp [Builtin.copy_, run_underlying hu, Builtin.lenOf, Builtin.firstCells, sizeOf, typeInfo, hq, hi, hm, ← hn, hl, hst]
theorem run_copy_zero {P : Program} (w : World) (dT sT ty elem : TypeId) (d a : Option Addr) (dCap sCap size : Nat) (hu : P.underlying dT = some (.slice elem)) (hs : (P.info? elem).map (·.size) = some size) :
    (Builtin.copy_ #[dT, sT] ty #[.slice d 0 dCap, .slice a 0 sCap]).run P w = .ok (goInt 0) w := by
  cases hq : P.info? elem with
  | none => simp [hq] at hs
  | some i => cases a <;> cases d <;> simp [Builtin.copy_, run_underlying hu, Builtin.lenOf, Builtin.firstCells, sizeOf, typeInfo, hq, storeCells, loadCells, loadCellsFrom]

/-- What 'copy' of extents into a list that was just made comes to. -/
theorem copy_exts (w : World) (a : Option Addr) (n cap : Nat) (es : List E3) (hz : es.length = n) (hc : AtE w a n es) :
    ∃ X, (Builtin.copy_ #[49, 49] 3 #[.slice (some ⟨w.heap.size, 0, none⟩) n n, .slice a n cap]).run Try.prog (w.alloc (.cells (madeCells #[.int .i64 0, .int .i64 0, .int .i64 0] (n * 3)) 104)) = .ok (goInt n) X ∧
      Below w.heap.size w X ∧ OwnRow X w.heap.size (n * 3) (exCell es) := by
  by_cases h0 : n = 0
  · subst h0
    have hr := run_copy_zero (P := Try.prog) (w.alloc (.cells (madeCells #[.int .i64 0, .int .i64 0, .int .i64 0] (0 * 3)) 104)) 49 49 3 104 (some ⟨w.heap.size, 0, none⟩) a 0 cap 3 Try.underlying49 Try.sizeExt
    exact ⟨_, hr, later1 _ _, (OwnRow.madeTrip w 0 104).congr fun i hi => by omega⟩
  · obtain ⟨b, off, rfl, _⟩ := hc 0 (by omega)
    have hcp := run_copy_wide (P := Try.prog) (w.alloc (.cells (madeCells #[.int .i64 0, .int .i64 0, .int .i64 0] (n * 3)) 104)) 49 49 3 104 w.heap.size n n ⟨b, off, none⟩ cap 3 (madeCells #[.int .i64 0, .int .i64 0, .int .i64 0] (n * 3)) 104 (exCells es) Try.underlying49 Try.sizeExt
      (Go.Deep.blk_alloc_new _ _) (by rw [exCells_length, hz]) (fun j v hv => cell_later (later1 _ _) (hc.cells hz j v hv)) (by simp [size_madeCells, exCells_length, hz]) (exCells_one es)
    refine ⟨_, hcp, below_setRow (later1 _ _) (Nat.le_refl _) _, ?_⟩
    refine ⟨_, 104, setRow_heap _ _ _ _ _ _ (Go.Deep.blk_alloc_new _ _), ?_, fun i hi => ?_⟩
    · simp [exCells_length, hz, size_madeCells]
    · have hlen : i < (exCells es).length := by rw [exCells_length, hz]; exact hi
      rw [List.getElem?_toArray, List.getElem?_append_left hlen, exCells_get es i (by rw [hz]; exact hi)]

set_option maxHeartbeats 400000 in
theorem copyOfE_any {w : World} {v : Value} {es : List E3} (h : Exts w v es) (hn : es.length ≤ 1048576) :
    Calls Try.prog 69 #[v] w fun e w' => ∃ a n c, e = .returned (.slice a n c) ∧ Below w.heap.size w w' ∧ ExtsO w' (.slice a n c) es (fresh w w') := by
  obtain ⟨a, cap, rfl, hm, hc⟩ := h.open'
  obtain ⟨X, hcp, hbX, hrX⟩ := copy_exts w a es.length cap es rfl hc
  have hmk := fun w => run_make_trip (P := Try.prog) 49 104 (.int .i64 0) (.int .i64 0) (.int .i64 0) 24 Try.underlying49 Try.infoExt rfl .i64 .i64 es.length (by omega) (by omega) w
  have HB : Hid (Below w.heap.size w X) := hbX
  have HR : Hid (OwnRow X w.heap.size (es.length * 3) (exCell es)) := hrX
  clear hbX hrX hc
  go_enter Try.func69, Try.ntmps69
  go_wp2
  go_ret
  exact ⟨_, _, _, rfl, HB.out, Or.inr ⟨w.heap.size, _, ⟨Nat.le_refl _, HR.out.lt⟩, rfl, ⟨hm, Nat.le_refl _⟩, HR.out⟩⟩
end Go.Proofs.Ytomcejofhfngkaa

namespace Go.Proofs.Ytomcejofhfngkaa
open Go.RowKit
set_option maxRecDepth 100000

/-- A row of n elements that the call owns; element i is told by C i (u i), where u i is a list of its own in block k i. -/
structure LRow (C : Nat → Value → List Value) (w : World) (base lo : Nat) (e : TypeId) (size : Nat) (v : Value) (n : Nat) (f : Nat → List Int) (k : Nat → Nat) (u : Nat → Value) : Prop where
  own : w.ownsRow base e size v n ((List.range n).flatMap fun i => C i (u i))
  lo : ∀ i, i < n → lo ≤ k i ∧ k i < w.heap.size
  ne : ∀ i, i < n → v.ownBlock ≠ some (k i)
  inj : ∀ i j, i < n → j < n → i ≠ j → k i ≠ k j
  sh : ∀ i, i < n → ∃ a c, u i = .slice a (f i).length c
  at' : ∀ i, i < n → IntsO w (u i) (f i) (fun c => c = k i)

theorem LRow.nil {C : Nat → Value → List Value} (w : World) (base lo : Nat) (e : TypeId) (size : Nat) (f : Nat → List Int) : LRow C w base lo e size (.slice none 0 0) 0 f (fun _ => 0) (fun _ => .slice none 0 0) :=
  ⟨World.ownsRow_nil _ _ _ _, fun i hi => by omega, fun i hi => by omega, fun i j hi => by omega, fun i hi => by omega, fun i hi => by omega⟩
theorem LRow.keep {C : Nat → Value → List Value} {w w' : World} {base lo : Nat} {e : TypeId} {size : Nat} {v : Value} {n : Nat} {f : Nat → List Int} {k : Nat → Nat} {u : Nat → Value} (h : LRow C w base lo e size v n f k u) (hs : w.heap.size ≤ w'.heap.size)
    (hrow : ∀ g, v.ownBlock = some g → w'.heap[g]? = w.heap[g]?) (hk : ∀ i, i < n → w'.heap[k i]? = w.heap[k i]?) : LRow C w' base lo e size v n f k u := by
  refine ⟨?_, fun i hi => ⟨(h.lo i hi).1, Nat.lt_of_lt_of_le (h.lo i hi).2 hs⟩, h.ne, h.inj, h.sh, fun i hi => (h.at' i hi).keep fun b hb _ => by rw [hb]; exact hk i hi⟩
  obtain ⟨h1, h2⟩ := h.own
  refine ⟨h1, ?_⟩
  rcases h2 with h2 | ⟨g, cap, cur, hv, hg, hh, r⟩
  · exact Or.inl h2
  · exact Or.inr ⟨g, cap, cur, hv, hg, by rw [hrow g (by rw [hv]; rfl)]; exact hh, r⟩
theorem LRow.later {C : Nat → Value → List Value} {w w' : World} {base lo : Nat} {e : TypeId} {size : Nat} {v : Value} {n : Nat} {f : Nat → List Int} {k : Nat → Nat} {u : Nat → Value} (h : LRow C w base lo e size v n f k u) (hb : Below w.heap.size w w') : LRow C w' base lo e size v n f k u :=
  h.keep hb.size (fun g hg => hb.block g (h.own.lt g hg).2) (fun i hi => hb.block _ (h.lo i hi).2)
theorem LRow.store {C : Nat → Value → List Value} {w : World} {base lo : Nat} {e : TypeId} {size : Nat} {v : Value} {n : Nat} {f : Nat → List Int} {k : Nat → Nat} {u : Nat → Value} (h : LRow C w base lo e size v n f k u) {p : Addr} (h1 : p.block < base) (h2 : p.block < lo) (x : Value) : LRow C (w.setCell p x) base lo e size v n f k u :=
  h.keep (by simp [World.setCell]) (fun g hg => Below.heap_setCell _ _ _ _ (by have := (h.own.lt g hg).1; omega)) (fun i hi => Below.heap_setCell _ _ _ _ (by have := (h.lo i hi).1; omega))
theorem LRow.shape {C : Nat → Value → List Value} {w : World} {base lo : Nat} {e : TypeId} {size : Nat} {v : Value} {n : Nat} {f : Nat → List Int} {k : Nat → Nat} {u : Nat → Value} (h : LRow C w base lo e size v n f k u) : ∃ a c, v = .slice a n c := by
  rcases h.own.2 with ⟨rfl, rfl⟩ | ⟨g, c, cur, rfl, _⟩
  · exact ⟨_, _, rfl⟩
  · exact ⟨_, _, rfl⟩

/-- What 'append' of one element comes to. -/
theorem LRow.append {C : Nat → Value → List Value} (w w1 : World) (t ty e : TypeId) (i : TypeInfo) (z : Value) (size bytes : Nat) (ht : Try.prog.underlying t = some (.slice e)) (hi : Try.prog.info? e = some i) (hz : i.zero = some z) (hsize : i.size = size) (hby : i.bytes = bytes) (hzs : z.cells.size = size) (hsz : 0 < size) (hbb : bytes ≤ 1000)
    (base lo n : Nat) (v : Value) (f : Nat → List Int) (k : Nat → Nat) (u : Nat → Value) (h : LRow C w base lo e size v n f k u) (hb : base ≤ w.heap.size) (hn : n ≤ 100000) (hb1 : Below w.heap.size w w1)
    (a : Option Addr) (c : Nat) (hlen : (C n (.slice a (f n).length c)).length = size) (hone : ∀ x ∈ C n (.slice a (f n).length c), x.oneCell' = true) (kb : Nat) (hk1 : lo ≤ kb) (hk2 : kb < w1.heap.size) (hk3 : v.ownBlock ≠ some kb) (hk4 : ∀ i, i < n → k i ≠ kb) (hf : IntsO w1 (.slice a (f n).length c) (f n) (fun x => x = kb)) :
    ∃ g cap X, (Builtin.append_ #[t, t] ty #[v, .slice (some ⟨w1.heap.size, 0, none⟩) 1 1]).run Try.prog (w1.alloc (.cells (C n (.slice a (f n).length c)).toArray e)) = .ok (.slice (some ⟨g, 0, none⟩) (n + 1) cap) X ∧
      (∀ b, b < w1.heap.size → v.ownBlock ≠ some b → X.heap[b]? = w1.heap[b]?) ∧ Below base w X ∧ w1.heap.size < X.heap.size ∧
      LRow C X base lo e size (.slice (some ⟨g, 0, none⟩) (n + 1) cap) (n + 1) f (fun j => if j = n then kb else k j) (fun j => if j = n then .slice a (f n).length c else u j) := by
  have hsz1 := hb1.size
  have hbW : Below w.heap.size w (w1.alloc (.cells (C n (.slice a (f n).length c)).toArray e)) := hb1.trans ((later1 _ _).mono hb1.size)
  have hW := h.later hbW
  obtain ⟨g, cap, X, hr, ho, hg, hat, hgX⟩ := run_append_lies (P := Try.prog) (w1.alloc (.cells (C n (.slice a (f n).length c)).toArray e)) t ty base e i z size bytes ht hi hz hsize hby hzs hsz v n _ hW.own ⟨w1.heap.size, 0, none⟩ 1 1 (C n (.slice a (f n).length c)) (by rw [hlen, Nat.one_mul])
    (fun j x hx => by
      rw [add_plain', Nat.zero_add, new_cell]
      simpa using hx) hone (by decide) (by unfold maxLen; omega) (by have : (n + 1) * bytes ≤ 100001 * 1000 := Nat.mul_le_mul (by omega) hbb; omega) (by simp; omega) (w1.heap.size + 1) (by simp)
  have hrow : ∀ g, v.ownBlock = some g → g < w.heap.size := fun g hg => (h.own.lt g hg).2
  have hrowb : ∀ g, v.ownBlock = some g → base ≤ g := fun g hg => (h.own.lt g hg).1
  have hXb : ∀ b, b < w1.heap.size → v.ownBlock ≠ some b → X.heap[b]? = w1.heap[b]? := fun b hb' hne => (hg.block b (by simp; omega) (fun e => hne e.symm)).trans ((later1 _ _).block b hb')
  have hne : ∀ b, b < w1.heap.size → v.ownBlock ≠ some b → g ≠ b := by
    intro b hb' hb2 e
    subst e
    rcases hat with h | h
    · exact hb2 h
    · omega
  have old : ∀ b, b < w.heap.size → v.ownBlock ≠ some b → X.heap[b]? = w.heap[b]? := fun b hb' hne => (hXb b (by omega) hne).trans (hb1.block b hb')
  have hXs : w1.heap.size < X.heap.size := by have := hg.size; simp at this; omega
  refine ⟨g, cap, X, hr, hXb, (hbW.mono hb).trans (below_grown hg (by simp; omega) (fun g hg' => hrowb g hg')), hXs, ⟨?_, fun j hj => ?_, fun j hj => ?_, fun j j' hj hj' e => ?_, fun j hj => ?_, fun j hj => ?_⟩⟩
  · rw [List.range_succ, List.flatMap_append]
    have e1 : (List.range n).flatMap (fun i => C i (if i = n then .slice a (f n).length c else u i)) = (List.range n).flatMap (fun i => C i (u i)) := by
      have e0 : (List.range n).map (fun i => C i (if i = n then .slice a (f n).length c else u i)) = (List.range n).map (fun i => C i (u i)) := List.map_congr_left fun i hi => by rw [if_neg (by have := List.mem_range.1 hi; omega)]
      rw [List.flatMap_def, List.flatMap_def, e0]
    have e2 : [n].flatMap (fun i => C i (if i = n then .slice a (f n).length c else u i)) = C n (.slice a (f n).length c) := by simp only [List.flatMap_cons, List.flatMap_nil, List.append_nil, if_true]
    rw [e1, e2]
    exact ho
  · by_cases e : j = n
    · subst e; simp; omega
    · have := h.lo j (by omega); simp [e]; omega
  · by_cases e : j = n
    · subst e
      simp only [if_true]
      exact fun e => hne kb hk2 hk3 (by simpa [Value.ownBlock] using e)
    · have hj' : j < n := by omega
      have hl := h.lo j hj'
      simp only [e, if_false]
      exact fun e => hne (k j) (by omega) (h.ne j hj') (by simpa [Value.ownBlock] using e)
  · by_cases e1 : j = n
    · by_cases e2 : j' = n
      · omega
      · simp [e1, e2]; exact fun e => hk4 j' (by omega) e.symm
    · by_cases e2 : j' = n
      · simp [e1, e2]; exact hk4 j (by omega)
      · simp [e1, e2]; exact h.inj j j' (by omega) (by omega) e
  · by_cases e : j = n
    · subst e; exact ⟨a, c, by simp⟩
    · simp only [e, if_false]; exact h.sh j (by omega)
  · by_cases e : j = n
    · subst e
      simp only [if_true]
      exact hf.keep fun b hb' hlt' => by rw [hb']; exact hXb kb hk2 hk3
    · have hj' : j < n := by omega
      simp only [e, if_false]
      exact (h.at' j hj').keep fun b hb' hlt' => by rw [hb']; exact old _ (h.lo j hj').2 (h.ne j hj')

/-- The one block of a list that is fresh. -/
theorem IntsO.one {w w1 : World} {v : Value} {zs : List Int} (h : IntsO w1 v zs (fresh w w1)) (hlt : w.heap.size < w1.heap.size) : ∃ kb, w.heap.size ≤ kb ∧ kb < w1.heap.size ∧ IntsO w1 v zs (fun c => c = kb) := by
  rcases h with h | ⟨b, cap, hF, r⟩
  · exact ⟨w.heap.size, Nat.le_refl _, hlt, Or.inl h⟩
  · exact ⟨b, hF.1, hF.2, Or.inr ⟨b, cap, rfl, r⟩⟩

/-- A row of lists. -/
def C1 : Nat → Value → List Value := fun _ v => [v]
/-- A row of puts. -/
def C2 (f : Nat → Int) : Nat → Value → List Value := fun i v => [.int .i64 (f i), v]

theorem flat_len {C : Nat → Value → List Value} {size : Nat} (u : Nat → Value) (hC : ∀ i, (C i (u i)).length = size) (n : Nat) : ((List.range n).flatMap fun i => C i (u i)).length = n * size := by
  induction n with
  | zero => simp
  | succ n ih => rw [List.range_succ, List.flatMap_append, List.length_append, ih]; simp [hC, Nat.add_mul]
theorem flat_get {C : Nat → Value → List Value} {size : Nat} (_hsz : 0 < size) (u : Nat → Value) (hC : ∀ i, (C i (u i)).length = size) (n : Nat) : ∀ i j, i < n → j < size → ((List.range n).flatMap fun i => C i (u i))[i * size + j]? = (C i (u i))[j]? := by
  induction n with
  | zero => intro i j hi; omega
  | succ n ih =>
    intro i j hi hj
    have hl := flat_len u hC n
    rw [List.range_succ, List.flatMap_append]
    by_cases e : i = n
    · subst e
      rw [List.getElem?_append_right (by rw [hl]; omega), hl]
      simp
    · rw [List.getElem?_append_left (by rw [hl]; have : (i + 1) * size ≤ n * size := Nat.mul_le_mul_right _ (by omega); rw [Nat.add_mul] at this; omega)]
      exact ih i j (by omega) hj

/-- The cells of such a row. -/
theorem LRow.cells {C : Nat → Value → List Value} {w : World} {base lo : Nat} {e : TypeId} {size : Nat} {v : Value} {n : Nat} {f : Nat → List Int} {k : Nat → Nat} {u : Nat → Value} (h : LRow C w base lo e size v n f k u) (hsz : 0 < size) (hC : ∀ i, (C i (u i)).length = size) (hn : 0 < n) :
    ∃ g cap, v = .slice (some ⟨g, 0, none⟩) n cap ∧ base ≤ g ∧ g < w.heap.size ∧ n ≤ maxLen ∧ OwnRow w g (n * size) (fun c => (C (c / size) (u (c / size)))[c % size]?.getD undef) := by
  obtain ⟨hl, h2 | ⟨g, cap, cur, rfl, hb, hh, hnc, hcm, hcs, htake⟩⟩ := h.own
  · omega
  · have hle : n * size ≤ cap * size := Nat.mul_le_mul_right _ hnc
    refine ⟨g, cap, rfl, hb, (Array.getElem?_eq_some_iff.1 hh).1, by omega, cur, e, hh, by omega, fun c hc => ?_⟩
    have hd : c / size < n := by rw [Nat.div_lt_iff_lt_mul hsz]; exact hc
    have hm : c % size < size := Nat.mod_lt _ hsz
    have hg := flat_get hsz u hC n (c / size) (c % size) hd hm
    rw [Nat.div_add_mod'] at hg
    have h1 : ((List.range n).flatMap fun i => C i (u i))[c]? = cur[c]? := by rw [← htake, List.getElem?_take, if_pos hc, Array.getElem?_toList]
    rw [h1] at hg
    have hlt : c < cur.size := by omega
    show cur[c]? = some ((C (c / size) (u (c / size)))[c % size]?.getD undef)
    rw [← hg, Array.getElem?_eq_getElem hlt]; rfl

theorem LRow.intsS {w : World} {base lo : Nat} {e : TypeId} {v : Value} {n : Nat} {k : Nat → Nat} {u : Nat → Value} {zss : List (List Int)} (h : LRow C1 w base lo e 1 v n (fun i => zss[i]?.getD []) k u) (hn : zss.length = n) (F : Nat → Prop) (hF : ∀ c, base ≤ c → c < w.heap.size → F c) (hF' : ∀ c, lo ≤ c → c < w.heap.size → F c) : IntsSO w v zss F := by
  subst hn
  by_cases h0 : zss.length = 0
  · obtain ⟨a, c, rfl⟩ := h.shape
    exact Or.inl ⟨List.eq_nil_of_length_eq_zero h0, a, c, by rw [h0]⟩
  · obtain ⟨g, cap, rfl, hb, hg, hm, hrow⟩ := h.cells (by decide) (fun _ => rfl) (by omega)
    refine Or.inr ⟨g, cap, u, fun i c => i < zss.length ∧ c = k i, hF g hb hg, fun i c hc => ?_, fun i j c e h1 h2 => h.inj i j h1.1 h2.1 e (h1.2.symm.trans h2.2), rfl, hm, ?_, fun i hi => (h.at' i hi).mono fun c hc => ⟨hi, hc⟩⟩
    · have hl := h.lo i hc.1
      have hne := h.ne i hc.1
      rw [hc.2]
      exact ⟨hF' _ hl.1 hl.2, fun e => hne (by simp [Value.ownBlock, e])⟩
    · rw [Nat.mul_one] at hrow
      exact hrow.congr fun i hi => by simp [C1, Nat.mod_one]
theorem LRow.puts {w : World} {base lo : Nat} {e : TypeId} {v : Value} {n : Nat} {k : Nat → Nat} {u : Nat → Value} {ps : List (Int × List Int)} (h : LRow (C2 fun i => (ps[i]?.getD (0, [])).1) w base lo e 2 v n (fun i => (ps[i]?.getD (0, [])).2) k u) (hn : ps.length = n) (F : Nat → Prop) (hF : ∀ c, base ≤ c → c < w.heap.size → F c) (hF' : ∀ i, i < n → F (k i)) : PutsO w v ps F := by
  subst hn
  by_cases h0 : ps.length = 0
  · obtain ⟨a, c, rfl⟩ := h.shape
    exact Or.inl ⟨List.eq_nil_of_length_eq_zero h0, a, c, by rw [h0]⟩
  · obtain ⟨g, cap, rfl, hb, hg, hm, hrow⟩ := h.cells (by decide) (fun _ => rfl) (by omega)
    refine Or.inr ⟨g, cap, u, fun i c => i < ps.length ∧ c = k i, hF g hb hg, fun i c hc => ?_, fun i j c e h1 h2 => h.inj i j h1.1 h2.1 e (h1.2.symm.trans h2.2), rfl, hm, ?_, fun i hi => (h.at' i hi).mono fun c hc => ⟨hi, hc⟩⟩
    · have hne := h.ne i hc.1
      rw [hc.2]
      exact ⟨hF' i hc.1, fun e => hne (by simp [Value.ownBlock, e])⟩
    · refine hrow.congr fun c hc => ?_
      unfold putCell C2
      rcases Nat.mod_two_eq_zero_or_one c with h | h <;> simp [h]
end Go.Proofs.Ytomcejofhfngkaa

namespace Go.Proofs.Ytomcejofhfngkaa
open Go.RowKit
set_option maxRecDepth 100000

theorem l1New_any (w : World) (n : Nat) (hn : n ≤ 60) :
    Calls Try.prog 106 #[.int .i64 (n : Int)] w fun e w' => ∃ b, w.heap.size ≤ b ∧ e = .returned (.agg #[.slice (some ⟨b, 0, none⟩) n n, .slice none 0 0]) ∧ Below w.heap.size w w' ∧ OwnRow w' b n (fun _ => .slice none 0 0) := by
  have hmk := fun w => run_make_row' (P := Try.prog) 22 26 (.slice none 0 0) 24 Try.underlying22 Try.infoInts rfl .i64 .i64 n (by omega) (by omega) w
  go_enter Try.func106, Try.ntmps106
  go_wp2
  refine bodyPost_ret (v := .agg #[.slice (some ⟨w.heap.size + 1, 0, none⟩) n n, .slice none 0 0]) (by simp [results, Try.results106, go_sem]) rfl ⟨w.heap.size + 1, by omega, rfl, later2 _ _ _, ?_⟩
  have := OwnRow.made (w.alloc (Obj.cells #[Value.slice (some ⟨w.heap.size + 1, 0, none⟩) n n, Value.slice none 0 0] 30)) (.slice none 0 0) n 26
  simpa using this

theorem newRack_any (w : World) (n : Nat) (hn : n ≤ 60) :
    Calls Try.prog 84 #[.int .i64 (n : Int)] w fun e w' => ∃ b, w.heap.size ≤ b ∧ e = .returned (.agg #[.slice (some ⟨b, 0, none⟩) n n]) ∧ Below w.heap.size w w' ∧ OwnRow w' b n (fun _ => .slice none 0 0) := by
  have hmk := fun w => run_make_row' (P := Try.prog) 22 26 (.slice none 0 0) 24 Try.underlying22 Try.infoInts rfl .i64 .i64 n (by omega) (by omega) w
  go_enter Try.func84, Try.ntmps84
  go_wp2
  refine bodyPost_ret (v := .agg #[.slice (some ⟨w.heap.size + 1, 0, none⟩) n n]) (by simp [results, Try.results84, go_sem]) rfl ⟨w.heap.size + 1, by omega, rfl, later2 _ _ _, ?_⟩
  have := OwnRow.made (w.alloc (Obj.cells #[Value.slice (some ⟨w.heap.size + 1, 0, none⟩) n n] 119)) (.slice none 0 0) n 26
  simpa using this

/-- n empty lists in one row that the call made. -/
theorem empties {w' : World} {b n : Nat} (F : Nat → Prop) (hF : F b) (hn : n ≤ 60) (h : OwnRow w' b n (fun _ => .slice none 0 0)) : IntsSO w' (.slice (some ⟨b, 0, none⟩) n n) (List.replicate n []) F := by
  refine Or.inr ⟨b, n, fun _ => .slice none 0 0, fun _ _ => False, hF, fun _ _ h => h.elim, fun _ _ _ _ h => h.elim, by simp, by unfold maxLen; simp; omega, by simpa using h, fun i hi => Or.inl ⟨?_, none, 0, rfl⟩⟩
  simp at hi
  simp [hi]

/-- The codes and the blocks of a new disk. -/
def newCode (size : Int) : Int := if 0 ≤ size ∧ size ≤ 60 then 0 else 3
def newBlocks (size : Int) : List (List Int) := if 0 ≤ size ∧ size ≤ 60 then List.replicate size.toNat [] else []

/-- A drive whose cache is empty. -/
theorem disk_nil (w : World) (bd off cap : Nat) (a ab : Option Addr) (nb cb : Nat) (h0 : w.cell? ⟨bd, off, none⟩ = some (.slice ab nb cb)) (h1 : w.cell? ⟨bd, off + 1, none⟩ = some (.slice a 0 cap)) :
    Calls Try.prog 55 #[.pointer (some ⟨bd, off, none⟩)] w fun e w' => e = .returned (.agg #[.slice ab nb cb, .slice none 0 0]) ∧ Below w.heap.size w w' := by
  have hlt := World.block_lt_of_cell? _ _ h0
  simp at hlt
  go_enter Try.func55, Try.ntmps55
  go_wp2
  go_loop [17] (fun i => i = .int .i64 0) (fun _ => 0)
  case atStart => rfl
  case round =>
    obtain rfl := hrel
    go_wp2
    exact bodyPost_ret (v := .agg #[.slice ab nb cb, .slice none 0 0]) (by simp [results, Try.results55, go_sem]) rfl ⟨rfl, later2 _ _ _⟩

theorem implNew_bad (w : World) (size : Int) (h : ¬ (0 ≤ size ∧ size ≤ 60)) :
    Calls Try.prog 40 #[.int .i64 size] w fun e w' => e = .returned (.agg #[.int .i64 3, .slice none 0 0, .slice none 0 0]) ∧ Below w.heap.size w w' := by
  by_cases h1 : size < 0
  · clear h
    go_enter Try.func40, Try.ntmps40
    go_wp2
    exact bodyPost_ret (v := .agg #[.int .i64 3, .slice none 0 0, .slice none 0 0]) (by simp [results, Try.results40, go_sem]) rfl ⟨rfl, later1 _ _⟩
  · have h2 : 60 < size := by omega
    have hd : decide (size < 0) = false := by simpa using h1
    clear h
    go_enter Try.func40, Try.ntmps40
    go_wp2
    exact bodyPost_ret (v := .agg #[.int .i64 3, .slice none 0 0, .slice none 0 0]) (by simp [results, Try.results40, go_sem]) rfl ⟨rfl, later1 _ _⟩

theorem implNew_ok (w : World) (n : Nat) (hn : n ≤ 60) :
    Calls Try.prog 40 #[.int .i64 (n : Int)] w fun e w' => ∃ b, w.heap.size ≤ b ∧ e = .returned (.agg #[.int .i64 0, .slice (some ⟨b, 0, none⟩) n n, .slice none 0 0]) ∧ Below w.heap.size w w' ∧ OwnRow w' b n (fun _ => .slice none 0 0) := by
  have hd : decide ((n : Int) < 0) = false := by simp
  have hd2 : decide (60 < (n : Int)) = false := by simp; omega
  go_enter Try.func40, Try.ntmps40
  go_wp2_with fail
  refine (newRack_any _ n hn).mono ?_
  rintro e w1 ⟨b, hb, rfl, hbel, hrow⟩
  have HB : Hid (Below _ _ w1) := hbel
  have HR : Hid (OwnRow w1 b n (fun _ => .slice none 0 0)) := hrow
  clear hbel hrow
  simp at hb
  go_wp2_with fail
  refine (disk_nil _ w1.heap.size 0 0 none (some ⟨b, 0, none⟩) n n (by rw [new_cell]; rfl) (by rw [new_cell]; rfl)).mono ?_
  rintro e w2 ⟨rfl, hb2⟩
  have HB2 : Hid (Below _ w1 w2) := (later1 _ _).trans (hb2.mono (by simp))
  clear hb2
  have hbel := HB.out.trans (HB2.out.mono HB.out.size)
  have HBA : Hid (Below _ _ w2) := hbel
  obtain ⟨hc, hf⟩ := bcell hbel
  have hz : w.heap.size < w2.heap.size := by have := hbel.size; simp at this; omega
  clear hbel
  go_wp2
  refine bodyPost_ret (v := .agg #[.int .i64 0, .slice (some ⟨b, 0, none⟩) n n, .slice none 0 0]) (by simp [results, Try.results40, go_sem, hc]) rfl ⟨b, by omega, rfl, ?_, ?_⟩
  · exact (((((later1 _ _).trans (HBA.out.mono (by simp))).setCell (Nat.le_refl _) _).setCell (Nat.le_refl _) _).setCell (Nat.le_refl _) _)
  · exact (((HR.out.block (HB2.out.block b HR.out.lt)).store (by simp; omega) _).store (by simp; omega) _).store (by simp; omega) _

theorem ans_new {w w' : World} {b n : Nat} (hn : n ≤ 60) (hb : w.heap.size ≤ b) (hbel : Below w.heap.size w w') (hr : OwnRow w' b n (fun _ => .slice none 0 0)) : AnsDisk w 0 (List.replicate n []) [] (.returned (.agg #[.int .i64 0, .slice (some ⟨b, 0, none⟩) n n, .slice none 0 0])) w' :=
  ⟨_, n, n, none, 0, 0, rfl, hbel, fun c => c = b, fun _ => False, empties _ rfl hn hr, Or.inl ⟨rfl, none, 0, rfl⟩, fun _ _ h => h.elim, fun c h => by have := hr.lt; exact h.elim (fun h => ⟨by omega, by omega⟩) False.elim⟩

theorem implNew_any (w : World) (size : Int) : Calls Try.prog 40 #[.int .i64 size] w (AnsDisk w (newCode size) (newBlocks size) []) := by
  by_cases h : 0 ≤ size ∧ size ≤ 60
  · obtain ⟨n, rfl⟩ := Int.eq_ofNat_of_zero_le h.1
    have e1 : newCode (n : Int) = 0 := by simp [newCode, h]
    have e2 : newBlocks (n : Int) = List.replicate n [] := by simp [newBlocks, h]
    rw [e1, e2]
    exact (implNew_ok w n (by omega)).mono fun e w' ⟨b, h1, he, h2, h3⟩ => he ▸ ans_new (by omega) h1 h2 h3
  · have e1 : newCode size = 3 := by simp [newCode, h]
    have e2 : newBlocks size = [] := by simp [newBlocks, h]
    rw [e1, e2]
    exact (implNew_bad w size h).mono fun e w' ⟨he, h2⟩ => he ▸ ans_bad h2 3

end Go.Proofs.Ytomcejofhfngkaa

namespace Go.Proofs.Ytomcejofhfngkaa
open Go.RowKit
set_option maxRecDepth 100000

set_option maxHeartbeats 800000 in
theorem set_any (w : World) (br o g n cap x : Nat) (u : Nat → Value) (v : Value) (zs : List Int) (_hn : n ≤ 60) (hx : x < n) (h0 : w.cell? ⟨br, o, none⟩ = some (.slice (some ⟨g, 0, none⟩) n cap)) (hr : OwnRow w g n u) (hu : ∃ ua un uc, u x = .slice ua un uc) (hi : Ints w v zs) (hl : zs.length ≤ 1048576) :
    Calls Try.prog 110 #[.pointer (some ⟨br, o, none⟩), .int .i64 (x : Int), v] w fun e w' => e = .returned (.tuple #[]) ∧
      ∃ X, w' = X.setCell ⟨g, x, none⟩ (.slice (some ⟨w.heap.size, 0, none⟩) zs.length zs.length) ∧ Below w.heap.size w X ∧ IntsO X (.slice (some ⟨w.heap.size, 0, none⟩) zs.length zs.length) zs (fresh w X) := by
  obtain ⟨ua, un, uc, hux⟩ := hu
  have HI : Hid (Ints w v zs) := hi
  have HR : Hid (OwnRow w g n u) := hr
  have c1 := hr.cell hx
  rw [hux] at c1
  have c2 := hr.frozen x
  have HL : Hid (zs.length ≤ 1048576) := hl
  clear hi hr hl hux
  go_enter Try.func110, Try.ntmps110
  go_wp2_with fail
  go_region_with ((go_at_call 91; refine (copyOf_any ?_ HL.out).mono ?_; exact HI.out; rintro e w1 ⟨rfl, hb1, ho1⟩; have d0 := cell_later hb1 h0; have d1 := cell_later hb1 c1; have d2 := (hb1.frozen (p := ⟨g, x, none⟩) (World.block_lt_of_cell? _ _ c1)).trans c2; have HB1 : Hid (Below w.heap.size w w1) := (Below.refl _ _).drew.trans hb1; have HO1 : Hid (IntsO w1 (.slice (some ⟨w.heap.size, 0, none⟩) zs.length zs.length) zs (fresh w w1)) := ho1; clear hb1 ho1))
  all_goals
    go_wp2
    go_end0
    exact ⟨rfl, w1, rfl, HB1.out, HO1.out⟩

set_option maxHeartbeats 1600000 in
theorem rackOf_walk (w : World) (a : Option Addr) (n cap : Nat) (bs : List (List Int)) (hbl : bs.length = n) (hn : n ≤ 60) (hz : ∀ k, k < n → (bs[k]?.getD []).length ≤ 1048576) (hB : AtS w a n bs) :
    Calls Try.prog 90 #[.slice a n cap] w fun e w' => ∃ g, e = .returned (.agg #[.slice (some ⟨g, 0, none⟩) n n]) ∧ Below w.heap.size w w' ∧ IntsSO w' (.slice (some ⟨g, 0, none⟩) n n) bs (fresh w w') := by
  have HBL : Hid (bs.length = n) := hbl
  have HZ : Hid (∀ k, k < n → (bs[k]?.getD []).length ≤ 1048576) := hz
  have HB : Hid (AtS w a n bs) := hB
  clear hbl hz hB
  go_enter Try.func90, Try.ntmps90
  go_wp2_with fail
  refine (newRack_any _ n hn).mono ?_
  rintro e w1 ⟨g, hg, rfl, hb1, hr1⟩
  simp at hg
  have HB1 : Hid (Below w.heap.size w w1) := (later1 _ _).trans (hb1.mono (by simp))
  have hgl : g < w1.heap.size := hr1.lt
  have HR1 : Hid (OwnRow w1 g n (fun _ => .slice none 0 0)) := hr1
  have t0 := cell_later hb1 (show (w.alloc (Obj.cells #[Value.slice none 0 0] 119)).cell? ⟨w.heap.size, 0, none⟩ = some (.slice none 0 0) by rw [new_cell]; rfl)
  have t1 : w1.frozen? ⟨w.heap.size, 0, none⟩ = false := by rw [hb1.frozen (by simp)]; simp
  have hz1 : w.heap.size < w1.heap.size := World.block_lt_of_cell? _ _ t0
  clear hb1 hr1
  go_wp2_with fail
  go_loopw [11] (fun i wr => ∃ j : Nat, j ≤ n ∧ i = .int .i64 j ∧ Below w.heap.size w wr ∧ wr.cell? ⟨w.heap.size, 0, none⟩ = some (.slice none 0 0) ∧ wr.frozen? ⟨w.heap.size, 0, none⟩ = false ∧ wr.cell? ⟨w1.heap.size, 0, none⟩ = some (.slice (some ⟨g, 0, none⟩) n n) ∧
    ∃ u s, OwnRow wr g n (fun i => if i < j then u i else .slice none 0 0) ∧ (∀ i, i < j → ∃ ua un uc, u i = .slice ua un uc) ∧ Built wr (w1.heap.size + 1) j u (fun i => bs[i]?.getD []) s) (fun i _ => n - (intOf i).toNat)
  case atStart => exact ⟨0, Nat.zero_le _, rfl, HB1.out.trans ((later1 _ _).mono HB1.out.size), cell_later (later1 _ _) t0, by rw [(later1 w1 _).frozen (p := ⟨w.heap.size, 0, none⟩) hz1]; exact t1, by rw [new_cell]; rfl, fun _ => .slice none 0 0, _, (HR1.out.later (later1 _ _)).congr fun i _ => by simp, fun i hi => by omega, Built.nil _ _ (by simp)⟩
  case round =>
    obtain ⟨j, hj, rfl, hbl, q0, q1, q2, u, s, hrow, hsh, hbt⟩ := hrel
    have HBW : Hid (Below w.heap.size w wr) := hbl
    have HROW : Hid (OwnRow wr g n (fun i => if i < j then u i else .slice none 0 0)) := hrow
    have HBT : Hid (Built wr (w1.heap.size + 1) j u (fun i => bs[i]?.getD []) s) := hbt
    have HSH : Hid (∀ i, i < j → ∃ ua un uc, u i = .slice ua un uc) := hsh
    clear hbl hrow hbt hsh t0 t1
    by_cases hlt : j < n
    · obtain ⟨b, off, ua, ucap, e, c1, i1⟩ := HB.out j hlt
      clear HB
      subst e
      replace c1 := cell_later HBW.out c1
      have HI : Hid (Ints wr (.slice ua (bs[j]?.getD []).length ucap) (bs[j]?.getD [])) := i1.later HBW.out
      clear i1
      go_wp2_with fail
      refine (set_any wr w1.heap.size 0 g n n j _ _ (bs[j]?.getD []) hn hlt q2 HROW.out ⟨none, 0, 0, by simp⟩ HI.out (HZ.out j hlt)).mono ?_
      rintro e w2 ⟨rfl, X, rfl, hbX, hoX⟩
      have HX : Hid (Below wr.heap.size wr X) := hbX
      have HO : Hid (IntsO X (.slice (some ⟨wr.heap.size, 0, none⟩) (bs[j]?.getD []).length (bs[j]?.getD []).length) (bs[j]?.getD []) (fresh wr X)) := hoX
      clear hbX hoX
      go_wp2
      go_roundw
      case rel =>
        refine ⟨j + 1, by omega, by go_num, (HBW.out.trans (HX.out.mono HBW.out.size)).setCell (by simp; omega) _, ?_, ?_, ?_, _, _, ((HROW.out.later HX.out).set j _).congr fun i hi => ?_, fun i hi => ?_, (HBT.out.next HX.out HO.out).store (by simp; omega) _⟩
        · rw [World.cell?_of_block (w := X) (Below.heap_setCell _ _ _ _ (by simp; omega))]; exact cell_later HX.out q0
        · rw [World.frozen?_of_block (w := X) (Below.heap_setCell _ _ _ _ (by simp; omega)), HX.out.frozen (World.block_lt_of_cell? _ _ q0)]; exact q1
        · rw [World.cell?_of_block (w := X) (Below.heap_setCell _ _ _ _ (by simp; omega))]; exact cell_later HX.out q2
        · by_cases e : i = j
          · subst e; simp
          · by_cases e2 : i < j
            · simp [e, e2, show i < j + 1 by omega]
            · simp [e, e2, show ¬ i < j + 1 by omega]
        · by_cases e : i = j
          · subst e; exact ⟨_, _, _, by simp; exact ⟨rfl, rfl, rfl⟩⟩
          · obtain ⟨a1, a2, a3, h⟩ := HSH.out i (by omega)
            exact ⟨a1, a2, a3, by simp [e, h]⟩
      case measure => simp [intOf]; omega
    · go_wp2
      have e : j = n := by omega
      subst e
      refine bodyPost_ret (v := .agg #[.slice (some ⟨g, 0, none⟩) j j]) (by simp [results, Try.results90, go_sem, q0]) rfl ⟨g, rfl, HBW.out.setCell (Nat.le_refl _) _, ?_⟩
      have hB' := HBT.out.store (p := ⟨w.heap.size, 0, none⟩) (by simp; omega) (.slice (some ⟨g, 0, none⟩) j j)
      have hR' := (HROW.out.congr (g := u) fun i hi => by simp [hi]).store (p := ⟨w.heap.size, 0, none⟩) (by simp; omega) (.slice (some ⟨g, 0, none⟩) j j)
      exact hB'.ints bs HBL.out (fun _ _ => rfl) (by unfold maxLen; omega) (by omega) hR' _ ⟨by omega, hR'.lt⟩ (fun c h1 h2 => ⟨by omega, h2⟩)
end Go.Proofs.Ytomcejofhfngkaa

namespace Go.Proofs.Ytomcejofhfngkaa
open Go.RowKit
set_option maxRecDepth 100000

/-- The cache of a drive: a row of pointers to puts, each with a list of its own. -/
structure Cache (w : World) (base : Nat) (v : Value) (n : Nat) (f : Nat → Int × List Int) (pb k : Nat → Nat) (u : Nat → Value) : Prop where
  own : w.ownsRow base 130 1 v n ((List.range n).map fun i => Value.pointer (some ⟨pb i, 0, none⟩))
  lo : ∀ i, i < n → base ≤ pb i ∧ base ≤ k i ∧ k i < w.heap.size
  ne : ∀ i, i < n → v.ownBlock ≠ some (pb i) ∧ v.ownBlock ≠ some (k i)
  inj : ∀ i j, i < n → j < n → i ≠ j → k i ≠ k j
  box : ∀ i, i < n → OwnRow w (pb i) 2 (fun c => if c = 0 then .int .i64 (f i).1 else u i)
  sh : ∀ i, i < n → ∃ a c, u i = .slice a (f i).2.length c
  at' : ∀ i, i < n → IntsO w (u i) (f i).2 (fun c => c = k i)

theorem Cache.nil (w : World) (base : Nat) (f : Nat → Int × List Int) : Cache w base (.slice none 0 0) 0 f (fun _ => 0) (fun _ => 0) (fun _ => .slice none 0 0) :=
  ⟨World.ownsRow_nil _ _ _ _, fun i hi => by omega, fun i hi => by omega, fun i j hi => by omega, fun i hi => by omega, fun i hi => by omega, fun i hi => by omega⟩
/-- What turns no block from base on leaves the cache. -/
theorem Cache.keep {w w' : World} {base n : Nat} {v : Value} {f : Nat → Int × List Int} {pb k : Nat → Nat} {u : Nat → Value} (h : Cache w base v n f pb k u) (hs : w.heap.size ≤ w'.heap.size) (e : ∀ b, base ≤ b → b < w.heap.size → w'.heap[b]? = w.heap[b]?) : Cache w' base v n f pb k u := by
  refine ⟨?_, fun i hi => ⟨(h.lo i hi).1, (h.lo i hi).2.1, Nat.lt_of_lt_of_le (h.lo i hi).2.2 hs⟩, h.ne, h.inj, fun i hi => (h.box i hi).block (e _ (h.lo i hi).1 (h.box i hi).lt), h.sh, fun i hi => (h.at' i hi).keep fun b hb hlt => e b (by rw [hb]; exact (h.lo i hi).2.1) hlt⟩
  obtain ⟨h1, h2⟩ := h.own
  refine ⟨h1, ?_⟩
  rcases h2 with h2 | ⟨g, cap, cur, hv, hg, hh, r⟩
  · exact Or.inl h2
  · exact Or.inr ⟨g, cap, cur, hv, hg, by rw [e g hg (Array.getElem?_eq_some_iff.1 hh).1]; exact hh, r⟩
theorem Cache.later {w w' : World} {base n : Nat} {v : Value} {f : Nat → Int × List Int} {pb k : Nat → Nat} {u : Nat → Value} (h : Cache w base v n f pb k u) (hb : Below w.heap.size w w') : Cache w' base v n f pb k u :=
  h.keep hb.size fun b _ hlt => hb.block b hlt
theorem Cache.store {w : World} {base n : Nat} {v : Value} {f : Nat → Int × List Int} {pb k : Nat → Nat} {u : Nat → Value} (h : Cache w base v n f pb k u) {p : Addr} (hp : p.block < base) (x : Value) : Cache (w.setCell p x) base v n f pb k u :=
  h.keep (by simp [World.setCell]) fun b hb _ => Below.heap_setCell _ _ _ _ (by omega)
theorem Cache.shape {w : World} {base n : Nat} {v : Value} {f : Nat → Int × List Int} {pb k : Nat → Nat} {u : Nat → Value} (h : Cache w base v n f pb k u) : ∃ a c, v = .slice a n c := by
  rcases h.own.2 with ⟨rfl, rfl⟩ | ⟨g, c, cur, rfl, _⟩
  · exact ⟨_, _, rfl⟩
  · exact ⟨_, _, rfl⟩

theorem Try.infoPtr : (Try.prog.info? 130).map (fun i => (i.zero, i.size, i.bytes)) = some (some (.pointer none), 1, 8) := by kernel_rfl
theorem Try.infoPtr' : ∃ i, Try.prog.info? 130 = some i ∧ i.zero = some (.pointer none) ∧ i.size = 1 ∧ i.bytes = 8 := by
  obtain ⟨i, hi, h⟩ := Option.map_eq_some_iff.1 Try.infoPtr
  simp only [Prod.mk.injEq] at h
  exact ⟨i, hi, h.1, h.2.1, h.2.2⟩

/-- One put more, behind the cache: what 'append' comes to there. -/
theorem cache_append (w w1 : World) (ty : TypeId) (base n : Nat) (v : Value) (f : Nat → Int × List Int) (pb k : Nat → Nat) (u : Nat → Value) (h : Cache w base v n f pb k u) (hb : base ≤ w.heap.size) (hn : n ≤ 100000) (hb1 : Below w.heap.size w w1) (hlt : w.heap.size < w1.heap.size)
    (a : Option Addr) (c : Nat) (hf : IntsO w1 (.slice a (f n).2.length c) (f n).2 (fresh w w1)) :
    ∃ g cap X pb' k' u', (Builtin.append_ #[121, 121] ty #[v, .slice (some ⟨w1.heap.size + 1, 0, none⟩) 1 1]).run Try.prog ((w1.alloc (.cells #[.int .i64 (f n).1, .slice a (f n).2.length c] 71)).alloc (.cells #[.pointer (some ⟨w1.heap.size, 0, none⟩)] 130)) = .ok (.slice (some ⟨g, 0, none⟩) (n + 1) cap) X ∧
      Below base w X ∧ Cache X base (.slice (some ⟨g, 0, none⟩) (n + 1) cap) (n + 1) f pb' k' u' := by
  obtain ⟨i, hi, h1, h2, h3⟩ := Try.infoPtr'
  have hbW : Below w.heap.size w ((w1.alloc (.cells #[.int .i64 (f n).1, .slice a (f n).2.length c] 71)).alloc (.cells #[.pointer (some ⟨w1.heap.size, 0, none⟩)] 130)) := hb1.trans ((later2 _ _ _).mono hb1.size)
  have hW := h.later hbW
  obtain ⟨g, cap, X, hr, ho, hg, hat, hgX⟩ := run_append_lies (P := Try.prog) ((w1.alloc (.cells #[.int .i64 (f n).1, .slice a (f n).2.length c] 71)).alloc (.cells #[.pointer (some ⟨w1.heap.size, 0, none⟩)] 130)) 121 ty base 130 i (.pointer none) 1 8 Try.underlying121 hi h1 h2 h3 rfl (by decide) v n _ hW.own ⟨w1.heap.size + 1, 0, none⟩ 1 1 [.pointer (some ⟨w1.heap.size, 0, none⟩)] rfl
    (fun j x hx => by
      cases j with
      | zero =>
        simp at hx; subst hx
        simp [Addr.add]
      | succ j => simp at hx) (fun x hx => by simp at hx; subst hx; rfl) (by decide) (by unfold maxLen; omega) (by omega) (by have := hb1.size; simp; omega) (w1.heap.size + 2) (by simp)
  have hsz1 := hb1.size
  have hrow : ∀ g, v.ownBlock = some g → g < w.heap.size := fun g hg => (h.own.lt g hg).2
  have hrowb : ∀ g, v.ownBlock = some g → base ≤ g := fun g hg => (h.own.lt g hg).1
  have hXb : ∀ b, b < w1.heap.size + 2 → v.ownBlock ≠ some b → X.heap[b]? = ((w1.alloc (.cells #[.int .i64 (f n).1, .slice a (f n).2.length c] 71)).alloc (.cells #[.pointer (some ⟨w1.heap.size, 0, none⟩)] 130)).heap[b]? := fun b hb' hne => hg.block b (by simp; omega) (fun e => hne e.symm)
  have hXs : w1.heap.size + 2 ≤ X.heap.size := by have := hg.size; simp at this; omega
  have hBX : Below base w X := (hbW.mono hb).trans (below_grown hg (by simp; omega) (fun g hg' => hrowb g hg'))
  obtain ⟨kb, hkb1, hkb2, hkf⟩ : ∃ kb, w.heap.size ≤ kb ∧ kb < w1.heap.size ∧ IntsO w1 (.slice a (f n).2.length c) (f n).2 (fun c => c = kb) := by
    rcases hf with hf | ⟨b, cap, hF, r⟩
    · exact ⟨w.heap.size, Nat.le_refl _, hlt, Or.inl hf⟩
    · exact ⟨b, hF.1, hF.2, Or.inr ⟨b, cap, rfl, r⟩⟩
  -- g is the elder row, or a block behind all others
  have hne : ∀ b, b < w1.heap.size + 2 → v.ownBlock ≠ some b → g ≠ b := by
    intro b hb' hb2 e
    subst e
    rcases hat with h | h
    · exact hb2 h
    · omega
  have hfar : ∀ b, w.heap.size ≤ b → v.ownBlock ≠ some b := fun b hb' e => by have := hrow b e; omega
  have old : ∀ b, b < w.heap.size → v.ownBlock ≠ some b → X.heap[b]? = w.heap[b]? := fun b hb' hne => (hXb b (by omega) hne).trans (hbW.block b hb')
  refine ⟨g, cap, X, fun j => if j = n then w1.heap.size else pb j, fun j => if j = n then kb else k j, fun j => if j = n then .slice a (f n).2.length c else u j, hr, hBX, ⟨?_, fun j hj => ?_, fun j hj => ?_, fun j j' hj hj' e => ?_, fun j hj => ?_, fun j hj => ?_, fun j hj => ?_⟩⟩
  · rw [List.range_succ, List.map_append]
    have e1 : (List.range n).map (fun i => Value.pointer (some ⟨if i = n then w1.heap.size else pb i, 0, none⟩)) = (List.range n).map (fun i => Value.pointer (some ⟨pb i, 0, none⟩)) :=
      List.map_congr_left fun i hi => by simp [show i ≠ n by have := List.mem_range.1 hi; omega]
    rw [e1]
    simpa using ho
  · by_cases e : j = n
    · subst e; simp; omega
    · have := h.lo j (by omega); simp [e]; omega
  · by_cases e : j = n
    · subst e
      simp only [if_true]
      exact ⟨fun e => hne w1.heap.size (by omega) (hfar _ hsz1) (by simpa [Value.ownBlock] using e), fun e => hne kb (by omega) (hfar _ hkb1) (by simpa [Value.ownBlock] using e)⟩
    · have hj' : j < n := by omega
      have hl := h.lo j hj'
      have hb2 := (h.box j hj').lt
      simp only [e, if_false]
      exact ⟨fun e => hne (pb j) (by omega) (h.ne j hj').1 (by simpa [Value.ownBlock] using e), fun e => hne (k j) (by omega) (h.ne j hj').2 (by simpa [Value.ownBlock] using e)⟩
  · by_cases e1 : j = n
    · by_cases e2 : j' = n
      · omega
      · have := (h.lo j' (by omega)).2.2
        simp [e1, e2]; omega
    · by_cases e2 : j' = n
      · have := (h.lo j (by omega)).2.2
        simp [e1, e2]; omega
      · simp [e1, e2]; exact h.inj j j' (by omega) (by omega) e
  · by_cases e : j = n
    · subst e
      simp only [if_true]
      have hb2 := (OwnRow.two w1 (.int .i64 (f j).1) (.slice a (f j).2.length c) 71).later (later1 _ (.cells #[.pointer (some ⟨w1.heap.size, 0, none⟩)] 130))
      exact hb2.block (hXb _ (by omega) (hfar _ (by omega)))
    · have hj' : j < n := by omega
      simp only [e, if_false]
      exact (h.box j hj').block (old _ (h.box j hj').lt (h.ne j hj').1)
  · by_cases e : j = n
    · subst e; exact ⟨a, c, by simp⟩
    · simp only [e, if_false]; exact h.sh j (by omega)
  · by_cases e : j = n
    · subst e
      simp only [if_true]
      exact hkf.keep fun b hb' hlt' => by
        rw [hb', hXb kb (by omega) (hfar _ hkb1)]
        exact (later2 _ _ _).block kb hkb2
    · have hj' : j < n := by omega
      simp only [e, if_false]
      exact (h.at' j hj').keep fun b hb' hlt' => by rw [hb']; exact old _ (h.lo j hj').2.2 (h.ne j hj').2

set_option maxHeartbeats 1600000 in
theorem put_any (w : World) (bd base n : Nat) (vB : Value) (a : Option Addr) (cap : Nat) (f : Nat → Int × List Int) (pb k : Nat → Nat) (u : Nat → Value) (hbd : bd < base) (hb : base ≤ w.heap.size) (hn : n ≤ 100000) (hd : OwnRow w bd 2 (fun c => if c = 0 then vB else .slice a n cap)) (hc : Cache w base (.slice a n cap) n f pb k u)
    (v : Value) (hv : Ints w v (f n).2) (hl : (f n).2.length ≤ 1048576) :
    Calls Try.prog 54 #[.pointer (some ⟨bd, 0, none⟩), .int .i64 (f n).1, v] w fun e w' => e = .returned (.tuple #[]) ∧ ∃ X g c' pb' k' u', w' = X.setCell ⟨bd, 1, none⟩ (.slice (some ⟨g, 0, none⟩) (n + 1) c') ∧ Below base w X ∧ Cache X base (.slice (some ⟨g, 0, none⟩) (n + 1) c') (n + 1) f pb' k' u' := by
  have HV : Hid (Ints w v (f n).2) := hv
  have HL : Hid ((f n).2.length ≤ 1048576) := hl
  have HC : Hid (Cache w base (.slice a n cap) n f pb k u) := hc
  have d0 := hd.cell (i := 1) (by omega)
  have d1 := hd.frozen 1
  simp at d0
  have hlt : bd < w.heap.size := hd.lt
  clear hv hl hc hd
  go_enter Try.func54, Try.ntmps54
  go_wp2_with fail
  go_region_law (first
    | (refine step_append_run rfl _ _ 121 rfl _ _ rfl rfl _ _ HR.out ?_)
    | (go_simp; go_at_call 91; refine (copyOf_more ?_ HL.out).mono ?_; exact HV.out; rintro e w1 ⟨rfl, hb1, ho1, hs1⟩; obtain ⟨g, cap', X, pb', k', u', hr, hBX, hCX⟩ := cache_append w w1 121 base n _ f pb k u HC.out hb hn ((Below.refl _ _).drew.trans hb1) hs1 _ _ ho1; have y1 : ∀ o, (w1.alloc o).cell? ⟨bd, 1, none⟩ = some (.slice a n cap) := fun o => cell_later ((hb1.trans ((later1 w1 o).mono hb1.size))) d0; have y2 : ∀ o o', ((w1.alloc o).alloc o').cell? ⟨bd, 1, none⟩ = some (.slice a n cap) := fun o o' => cell_later ((hb1.trans ((later2 w1 o o').mono hb1.size))) d0; have z0 := cell_later hb1 d0; have z1 := (hb1.frozen (p := ⟨bd, 1, none⟩) hlt).trans d1; have HR : Hid (_ = _) := hr; have HBX : Hid (Below base w X) := hBX; have HCX : Hid (Cache X base (.slice (some ⟨g, 0, none⟩) (n + 1) cap') (n + 1) f pb' k' u') := hCX; have x0 : X.cell? ⟨bd, 1, none⟩ = some (.slice a n cap) := (hBX.cell (p := ⟨bd, 1, none⟩) hbd).trans d0; have x1 : X.frozen? ⟨bd, 1, none⟩ = false := (hBX.frozen (p := ⟨bd, 1, none⟩) hbd).trans d1; clear hr hBX hCX hb1 ho1 hs1))
  all_goals
    go_wp2
    go_end0
    exact ⟨rfl, X, g, cap', pb', k', u', rfl, HBX.out, HCX.out⟩

/-- A drive that was opened: its blocks and its cache in new memory, the cache behind the drive itself. -/
structure Drive (w w' : World) (bd : Nat) (aB : Option Addr) (nB cB : Nat) (aP : Option Addr) (nP cP : Nat) (bs : List (List Int)) (ps : List (Int × List Int)) (pb k : Nat → Nat) (u : Nat → Value) : Prop where
  below : Below w.heap.size w w'
  lo : w.heap.size ≤ bd
  row : OwnRow w' bd 2 (fun c => if c = 0 then .slice aB nB cB else .slice aP nP cP)
  blocks : IntsSO w' (.slice aB nB cB) bs (fun c => w.heap.size ≤ c ∧ c < bd)
  cache : Cache w' (bd + 1) (.slice aP nP cP) nP (fun i => ps[i]?.getD (0, [])) pb k u

set_option maxHeartbeats 1600000 in
theorem openDisk_walk (w : World) (aB aC : Option Addr) (nB cB nC cC : Nat) (bs : List (List Int)) (ps : List (Int × List Int)) (hbl : bs.length = nB) (hpl : ps.length = nC) (g1 : nB ≤ 60) (g2 : nC ≤ 200) (hz : ∀ k, k < nB → (bs[k]?.getD []).length ≤ 1048576) (hzp : ∀ k, k < nC → (ps[k]?.getD (0, [])).2.length ≤ 1048576) (hB : AtS w aB nB bs) (hP : AtP w aC nC ps) :
    Calls Try.prog 52 #[.agg #[.slice aB nB cB, .slice aC nC cC]] w fun e w' => ∃ bd g aP cP pb k u, e = .returned (.pointer (some ⟨bd, 0, none⟩)) ∧ Drive w w' bd (some ⟨g, 0, none⟩) nB nB aP nC cP bs ps pb k u := by
  have HBL : Hid (bs.length = nB) := hbl
  have HPL : Hid (ps.length = nC) := hpl
  have HZ : Hid (∀ k, k < nB → (bs[k]?.getD []).length ≤ 1048576) := hz
  have HZP : Hid (∀ k, k < nC → (ps[k]?.getD (0, [])).2.length ≤ 1048576) := hzp
  have HB : Hid (AtS w aB nB bs) := hB
  have HP : Hid (AtP w aC nC ps) := hP
  clear hbl hpl hz hzp hB hP
  go_enter Try.func52, Try.ntmps52
  go_wp2_with fail
  refine (rackOf_walk _ aB nB cB bs HBL.out g1 HZ.out (HB.out.later (later1 _ _))).mono ?_
  rintro e w1 ⟨g, rfl, hb1, ho1⟩
  have HW1 : Hid (Below w.heap.size w w1) := (later1 _ _).trans (hb1.mono (by simp))
  have HX1 : Hid (Box2 w1 w.heap.size (.slice aB nB cB) (.slice aC nC cC)) := (Box2.new _ _ _ _).later hb1
  have HO1 : Hid (IntsSO w1 (.slice (some ⟨g, 0, none⟩) nB nB) bs (fun c => w.heap.size ≤ c ∧ c < w1.heap.size)) := ho1.mono fun b hb => ⟨by have := hb.1; simp at this; omega, hb.2⟩
  have hz1 : w.heap.size < w1.heap.size := by have := hb1.size; simp at this; omega
  clear hb1 ho1
  obtain ⟨x0, x1⟩ := HX1.out
  go_wp2_with fail
  go_loopw [14] (fun i wr => ∃ j : Nat, j ≤ nC ∧ i = .int .i64 j ∧ Below w.heap.size w wr ∧ w1.heap.size + 1 ≤ wr.heap.size ∧ IntsSO wr (.slice (some ⟨g, 0, none⟩) nB nB) bs (fun c => w.heap.size ≤ c ∧ c < w1.heap.size) ∧
    ∃ aP cP pb k u, OwnRow wr w1.heap.size 2 (fun c => if c = 0 then .slice (some ⟨g, 0, none⟩) nB nB else .slice aP j cP) ∧ Cache wr (w1.heap.size + 1) (.slice aP j cP) j (fun i => ps[i]?.getD (0, [])) pb k u) (fun i _ => nC - (intOf i).toNat)
  case atStart =>
    refine ⟨0, Nat.zero_le _, rfl, HW1.out.trans ((later1 _ _).mono HW1.out.size), by simp, HO1.out.keep fun b hb hlt => (later1 _ _).block b hlt, none, 0, _, _, _, OwnRow.two _ _ _ _, Cache.nil _ _ _⟩
  case round =>
    obtain ⟨j, hj, rfl, hbw, hsz, hio, aP, cP, pb, k, u, hrow, hca⟩ := hrel
    have HBW : Hid (Below w.heap.size w wr) := hbw
    have HIO : Hid (IntsSO wr (.slice (some ⟨g, 0, none⟩) nB nB) bs (fun c => w.heap.size ≤ c ∧ c < w1.heap.size)) := hio
    have HROW : Hid (OwnRow wr w1.heap.size 2 (fun c => if c = 0 then .slice (some ⟨g, 0, none⟩) nB nB else .slice aP j cP)) := hrow
    have HCA : Hid (Cache wr (w1.heap.size + 1) (.slice aP j cP) j (fun i => ps[i]?.getD (0, [])) pb k u) := hca
    clear hbw hio hrow hca x0 x1
    by_cases hlt : j < nC
    · obtain ⟨b, off, ua, ucap, e, c1, c2, i1⟩ := HP.out j hlt
      clear HP
      subst e
      replace c1 := cell_later HBW.out c1
      replace c2 := cell_later HBW.out c2
      have HI : Hid (Ints wr (.slice ua (ps[j]?.getD (0, [])).2.length ucap) (ps[j]?.getD (0, [])).2) := i1.later HBW.out
      clear i1
      go_wp2_with fail
      refine (put_any _ w1.heap.size (w1.heap.size + 1) j _ aP cP (fun i => ps[i]?.getD (0, [])) pb k u (Nat.lt_succ_self _) (by simp; omega) (by omega) (HROW.out.later (later1 _ _)) (HCA.out.later (later1 _ _)) _ (HI.out.later (later1 _ _)) (HZP.out j hlt)).mono ?_
      rintro e w2 ⟨rfl, X, g2, c', pb', k', u', rfl, hbX, hcX⟩
      have HX : Hid (Below (w1.heap.size + 1) wr X) := ((later1 _ _).mono hsz).trans hbX
      have HCX : Hid (Cache X (w1.heap.size + 1) (.slice (some ⟨g2, 0, none⟩) (j + 1) c') (j + 1) (fun i => ps[i]?.getD (0, [])) pb' k' u') := hcX
      clear hbX hcX
      go_wp2
      go_roundw
      case rel =>
        refine ⟨j + 1, by omega, by go_num, (HBW.out.trans (HX.out.mono (by omega))).setCell (by simp; omega) _, ?_, ?_, some ⟨g2, 0, none⟩, c', pb', k', u', ?_, HCX.out.store (by simp) _⟩
        · have := HX.out.size; simp [World.setCell]; omega
        · exact (HIO.out.keep fun b hb hlt => HX.out.block b (by omega)).store (fun b hb => by simp; omega) _
        · refine ((HROW.out.block (HX.out.block _ (by omega))).set 1 _).congr fun c hc => ?_
          have : c = 0 ∨ c = 1 := by omega
          rcases this with rfl | rfl <;> simp
      case measure => simp [intOf]; omega
    · go_wp2
      go_ret
      have e : j = nC := by omega
      subst e
      exact ⟨w1.heap.size, g, aP, cP, pb, k, u, rfl, HBW.out, by omega, HROW.out, HIO.out, HCA.out⟩
end Go.Proofs.Ytomcejofhfngkaa
