
/- The walks of the program's drive: a cache of pointers that grows. -/
import Derived.Test.YtagmmgcdebgfnaaDrvA
import Derived.Test.YtagmmgcdebgfnaaAppA
import Derived.Deep.AppendLies
namespace Go.Proofs.Ytagmmgcdebgfnaa
open Go.RowKit
set_option maxRecDepth 100000

/-- The cache of a drive: a row of pointers to puts, each with a list of its own. -/
structure Cache (w : World) (base : Nat) (v : Value) (n : Nat) (f : Nat → Int × List Int) (pb k : Nat → Nat) (u : Nat → Value) : Prop where
  own : w.ownsRow base 125 1 v n ((List.range n).map fun i => Value.pointer (some ⟨pb i, 0, none⟩))
  lo : ∀ i, i < n → base ≤ pb i ∧ base ≤ k i ∧ k i < w.heap.size
  ne : ∀ i, i < n → v.ownBlock ≠ some (pb i) ∧ v.ownBlock ≠ some (k i)
  inj : ∀ i j, i < n → j < n → i ≠ j → k i ≠ k j
  box : ∀ i, i < n → OwnRow w (pb i) 2 (fun c => if c = 0 then .int .i64 (f i).1 else u i)
  sh : ∀ i, i < n → ∃ a c, u i = .slice a (f i).2.length c
  at' : ∀ i, i < n → IntsO w (u i) (f i).2 (fun c => c = k i)

theorem Cache.nil (w : World) (base : Nat) (f : Nat → Int × List Int) : Cache w base (.slice none 0 0) 0 f (fun _ => 0) (fun _ => 0) (fun _ => .slice none 0 0) :=
  ⟨World.ownsRow_nil _ _ _ _, fun i hi => by omega, fun i hi => by omega, fun i j hi => by omega, fun i hi => by omega, fun i hi => by omega, fun i hi => by omega⟩
/-- What turns no block from base on leaves the cache. -/
theorem Cache.keep {w w' : World} {base n : Nat} {v : Value} {f : Nat → Int × List Int} {pb k : Nat → Nat} {u : Nat → Value} (h : Cache w base v n f pb k u) (hs : w.heap.size ≤ w'.heap.size) (e : ∀ b, base ≤ b → b < w.heap.size → w'.heap[b]? = w.heap[b]?) : Cache w' base v n f pb k u := by
  refine ⟨?_, fun i hi => ⟨(h.lo i hi).1, (h.lo i hi).2.1, Nat.lt_of_lt_of_le (h.lo i hi).2.2 hs⟩, h.ne, h.inj, fun i hi => (h.box i hi).block (e _ (h.lo i hi).1 (h.box i hi).lt), h.sh, fun i hi => (h.at' i hi).keep fun b hb hlt => e b (by rw [hb]; exact (h.lo i hi).2.1) hlt⟩
  obtain ⟨h1, h2⟩ := h.own
  refine ⟨h1, ?_⟩
  rcases h2 with h2 | ⟨g, cap, cur, hv, hg, hh, r⟩
  · exact Or.inl h2
  · exact Or.inr ⟨g, cap, cur, hv, hg, by rw [e g hg (Array.getElem?_eq_some_iff.1 hh).1]; exact hh, r⟩
theorem Cache.later {w w' : World} {base n : Nat} {v : Value} {f : Nat → Int × List Int} {pb k : Nat → Nat} {u : Nat → Value} (h : Cache w base v n f pb k u) (hb : Below w.heap.size w w') : Cache w' base v n f pb k u :=
  h.keep hb.size fun b _ hlt => hb.block b hlt
theorem Cache.store {w : World} {base n : Nat} {v : Value} {f : Nat → Int × List Int} {pb k : Nat → Nat} {u : Nat → Value} (h : Cache w base v n f pb k u) {p : Addr} (hp : p.block < base) (x : Value) : Cache (w.setCell p x) base v n f pb k u :=
  h.keep (by simp [World.setCell]) fun b hb _ => Below.heap_setCell _ _ _ _ (by omega)
theorem Cache.shape {w : World} {base n : Nat} {v : Value} {f : Nat → Int × List Int} {pb k : Nat → Nat} {u : Nat → Value} (h : Cache w base v n f pb k u) : ∃ a c, v = .slice a n c := by
  rcases h.own.2 with ⟨rfl, rfl⟩ | ⟨g, c, cur, rfl, _⟩
  · exact ⟨_, _, rfl⟩
  · exact ⟨_, _, rfl⟩

theorem Try.infoPtr : (Try.prog.info? 125).map (fun i => (i.zero, i.size, i.bytes)) = some (some (.pointer none), 1, 8) := by kernel_rfl
theorem Try.infoPtr' : ∃ i, Try.prog.info? 125 = some i ∧ i.zero = some (.pointer none) ∧ i.size = 1 ∧ i.bytes = 8 := by
  obtain ⟨i, hi, h⟩ := Option.map_eq_some_iff.1 Try.infoPtr
  simp only [Prod.mk.injEq] at h
  exact ⟨i, hi, h.1, h.2.1, h.2.2⟩

/-- One put more, behind the cache: what 'append' comes to there. -/
theorem cache_append (w w1 : World) (ty : TypeId) (base n : Nat) (v : Value) (f : Nat → Int × List Int) (pb k : Nat → Nat) (u : Nat → Value) (h : Cache w base v n f pb k u) (hb : base ≤ w.heap.size) (hn : n ≤ 100000) (hb1 : Below w.heap.size w w1) (hlt : w.heap.size < w1.heap.size)
    (a : Option Addr) (c : Nat) (hf : IntsO w1 (.slice a (f n).2.length c) (f n).2 (fresh w w1)) :
    ∃ g cap X pb' k' u', (Builtin.append_ #[121, 121] ty #[v, .slice (some ⟨w1.heap.size + 1, 0, none⟩) 1 1]).run Try.prog ((w1.alloc (.cells #[.int .i64 (f n).1, .slice a (f n).2.length c] 100)).alloc (.cells #[.pointer (some ⟨w1.heap.size, 0, none⟩)] 125)) = .ok (.slice (some ⟨g, 0, none⟩) (n + 1) cap) X ∧
      Below base w X ∧ Cache X base (.slice (some ⟨g, 0, none⟩) (n + 1) cap) (n + 1) f pb' k' u' := by
  obtain ⟨i, hi, h1, h2, h3⟩ := Try.infoPtr'
  have hbW : Below w.heap.size w ((w1.alloc (.cells #[.int .i64 (f n).1, .slice a (f n).2.length c] 100)).alloc (.cells #[.pointer (some ⟨w1.heap.size, 0, none⟩)] 125)) := hb1.trans ((later2 _ _ _).mono hb1.size)
  have hW := h.later hbW
  obtain ⟨g, cap, X, hr, ho, hg, hat, hgX⟩ := run_append_lies (P := Try.prog) ((w1.alloc (.cells #[.int .i64 (f n).1, .slice a (f n).2.length c] 100)).alloc (.cells #[.pointer (some ⟨w1.heap.size, 0, none⟩)] 125)) 121 ty base 125 i (.pointer none) 1 8 Try.underlying121 hi h1 h2 h3 rfl (by decide) v n _ hW.own ⟨w1.heap.size + 1, 0, none⟩ 1 1 [.pointer (some ⟨w1.heap.size, 0, none⟩)] rfl
    (fun j x hx => by
      cases j with
      | zero =>
        simp at hx; subst hx
        simp [Addr.add]
      | succ j => simp at hx) (fun x hx => by simp at hx; subst hx; rfl) (by decide) (by unfold maxLen; omega) (by omega) (by have := hb1.size; simp; omega) (w1.heap.size + 2) (by simp)
  have hsz1 := hb1.size
  have hrow : ∀ g, v.ownBlock = some g → g < w.heap.size := fun g hg => (h.own.lt g hg).2
  have hrowb : ∀ g, v.ownBlock = some g → base ≤ g := fun g hg => (h.own.lt g hg).1
  have hXb : ∀ b, b < w1.heap.size + 2 → v.ownBlock ≠ some b → X.heap[b]? = ((w1.alloc (.cells #[.int .i64 (f n).1, .slice a (f n).2.length c] 100)).alloc (.cells #[.pointer (some ⟨w1.heap.size, 0, none⟩)] 125)).heap[b]? := fun b hb' hne => hg.block b (by simp; omega) (fun e => hne e.symm)
  have hXs : w1.heap.size + 2 ≤ X.heap.size := by have := hg.size; simp at this; omega
  have hBX : Below base w X := (hbW.mono hb).trans (below_grown hg (by simp; omega) (fun g hg' => hrowb g hg'))
  obtain ⟨kb, hkb1, hkb2, hkf⟩ : ∃ kb, w.heap.size ≤ kb ∧ kb < w1.heap.size ∧ IntsO w1 (.slice a (f n).2.length c) (f n).2 (fun c => c = kb) := by
    rcases hf with hf | ⟨b, cap, hF, r⟩
    · exact ⟨w.heap.size, Nat.le_refl _, hlt, Or.inl hf⟩
    · exact ⟨b, hF.1, hF.2, Or.inr ⟨b, cap, rfl, r⟩⟩
  -- g is the elder row, or a block behind all others
  have hne : ∀ b, b < w1.heap.size + 2 → v.ownBlock ≠ some b → g ≠ b := by
    intro b hb' hb2 e
    subst e
    rcases hat with h | h
    · exact hb2 h
    · omega
  have hfar : ∀ b, w.heap.size ≤ b → v.ownBlock ≠ some b := fun b hb' e => by have := hrow b e; omega
  have old : ∀ b, b < w.heap.size → v.ownBlock ≠ some b → X.heap[b]? = w.heap[b]? := fun b hb' hne => (hXb b (by omega) hne).trans (hbW.block b hb')
  refine ⟨g, cap, X, fun j => if j = n then w1.heap.size else pb j, fun j => if j = n then kb else k j, fun j => if j = n then .slice a (f n).2.length c else u j, hr, hBX, ⟨?_, fun j hj => ?_, fun j hj => ?_, fun j j' hj hj' e => ?_, fun j hj => ?_, fun j hj => ?_, fun j hj => ?_⟩⟩
  · rw [List.range_succ, List.map_append]
    have e1 : (List.range n).map (fun i => Value.pointer (some ⟨if i = n then w1.heap.size else pb i, 0, none⟩)) = (List.range n).map (fun i => Value.pointer (some ⟨pb i, 0, none⟩)) :=
      List.map_congr_left fun i hi => by simp [show i ≠ n by have := List.mem_range.1 hi; omega]
    rw [e1]
    simpa using ho
  · by_cases e : j = n
    · subst e; simp; omega
    · have := h.lo j (by omega); simp [e]; omega
  · by_cases e : j = n
    · subst e
      simp only [if_true]
      exact ⟨fun e => hne w1.heap.size (by omega) (hfar _ hsz1) (by simpa [Value.ownBlock] using e), fun e => hne kb (by omega) (hfar _ hkb1) (by simpa [Value.ownBlock] using e)⟩
    · have hj' : j < n := by omega
      have hl := h.lo j hj'
      have hb2 := (h.box j hj').lt
      simp only [e, if_false]
      exact ⟨fun e => hne (pb j) (by omega) (h.ne j hj').1 (by simpa [Value.ownBlock] using e), fun e => hne (k j) (by omega) (h.ne j hj').2 (by simpa [Value.ownBlock] using e)⟩
  · by_cases e1 : j = n
    · by_cases e2 : j' = n
      · omega
      · have := (h.lo j' (by omega)).2.2
        simp [e1, e2]; omega
    · by_cases e2 : j' = n
      · have := (h.lo j (by omega)).2.2
        simp [e1, e2]; omega
      · simp [e1, e2]; exact h.inj j j' (by omega) (by omega) e
  · by_cases e : j = n
    · subst e
      simp only [if_true]
      have hb2 := (OwnRow.two w1 (.int .i64 (f j).1) (.slice a (f j).2.length c) 100).later (later1 _ (.cells #[.pointer (some ⟨w1.heap.size, 0, none⟩)] 125))
      exact hb2.block (hXb _ (by omega) (hfar _ (by omega)))
    · have hj' : j < n := by omega
      simp only [e, if_false]
      exact (h.box j hj').block (old _ (h.box j hj').lt (h.ne j hj').1)
  · by_cases e : j = n
    · subst e; exact ⟨a, c, by simp⟩
    · simp only [e, if_false]; exact h.sh j (by omega)
  · by_cases e : j = n
    · subst e
      simp only [if_true]
      exact hkf.keep fun b hb' hlt' => by
        rw [hb', hXb kb (by omega) (hfar _ hkb1)]
        exact (later2 _ _ _).block kb hkb2
    · have hj' : j < n := by omega
      simp only [e, if_false]
      exact (h.at' j hj').keep fun b hb' hlt' => by rw [hb']; exact old _ (h.lo j hj').2.2 (h.ne j hj').2

set_option maxHeartbeats 1600000 in
theorem put_any (w : World) (bd base n : Nat) (vB : Value) (a : Option Addr) (cap : Nat) (f : Nat → Int × List Int) (pb k : Nat → Nat) (u : Nat → Value) (hbd : bd < base) (hb : base ≤ w.heap.size) (hn : n ≤ 100000) (hd : OwnRow w bd 2 (fun c => if c = 0 then vB else .slice a n cap)) (hc : Cache w base (.slice a n cap) n f pb k u)
    (v : Value) (hv : Ints w v (f n).2) (hl : (f n).2.length ≤ 1048576) :
    Calls Try.prog 92 #[.pointer (some ⟨bd, 0, none⟩), .int .i64 (f n).1, v] w fun e w' => e = .returned (.tuple #[]) ∧ ∃ X g c' pb' k' u', w' = X.setCell ⟨bd, 1, none⟩ (.slice (some ⟨g, 0, none⟩) (n + 1) c') ∧ Below base w X ∧ Cache X base (.slice (some ⟨g, 0, none⟩) (n + 1) c') (n + 1) f pb' k' u' := by
  have HV : Hid (Ints w v (f n).2) := hv
  have HL : Hid ((f n).2.length ≤ 1048576) := hl
  have HC : Hid (Cache w base (.slice a n cap) n f pb k u) := hc
  have d0 := hd.cell (i := 1) (by omega)
  have d1 := hd.frozen 1
  simp at d0
  have hlt : bd < w.heap.size := hd.lt
  clear hv hl hc hd
  go_enter Try.func92, Try.ntmps92
  go_wp2_with fail
  go_region_law (first
    | (refine step_append_run rfl _ _ 121 rfl _ _ rfl rfl _ _ HR.out ?_)
    | (go_simp; go_at_call 87; refine (copyOf_more ?_ HL.out).mono ?_; exact HV.out; rintro e w1 ⟨rfl, hb1, ho1, hs1⟩; obtain ⟨g, cap', X, pb', k', u', hr, hBX, hCX⟩ := cache_append w w1 121 base n _ f pb k u HC.out hb hn ((Below.refl _ _).drew.trans hb1) hs1 _ _ ho1; have y1 : ∀ o, (w1.alloc o).cell? ⟨bd, 1, none⟩ = some (.slice a n cap) := fun o => cell_later ((hb1.trans ((later1 w1 o).mono hb1.size))) d0; have y2 : ∀ o o', ((w1.alloc o).alloc o').cell? ⟨bd, 1, none⟩ = some (.slice a n cap) := fun o o' => cell_later ((hb1.trans ((later2 w1 o o').mono hb1.size))) d0; have z0 := cell_later hb1 d0; have z1 := (hb1.frozen (p := ⟨bd, 1, none⟩) hlt).trans d1; have HR : Hid (_ = _) := hr; have HBX : Hid (Below base w X) := hBX; have HCX : Hid (Cache X base (.slice (some ⟨g, 0, none⟩) (n + 1) cap') (n + 1) f pb' k' u') := hCX; have x0 : X.cell? ⟨bd, 1, none⟩ = some (.slice a n cap) := (hBX.cell (p := ⟨bd, 1, none⟩) hbd).trans d0; have x1 : X.frozen? ⟨bd, 1, none⟩ = false := (hBX.frozen (p := ⟨bd, 1, none⟩) hbd).trans d1; clear hr hBX hCX hb1 ho1 hs1))
  all_goals
    go_wp2
    go_end0
    exact ⟨rfl, X, g, cap', pb', k', u', rfl, HBX.out, HCX.out⟩

/-- A drive that was opened: its blocks and its cache in new memory, the cache behind the drive itself. -/
structure Drive (w w' : World) (bd : Nat) (aB : Option Addr) (nB cB : Nat) (aP : Option Addr) (nP cP : Nat) (bs : List (List Int)) (ps : List (Int × List Int)) (pb k : Nat → Nat) (u : Nat → Value) : Prop where
  below : Below w.heap.size w w'
  lo : w.heap.size ≤ bd
  row : OwnRow w' bd 2 (fun c => if c = 0 then .slice aB nB cB else .slice aP nP cP)
  blocks : IntsSO w' (.slice aB nB cB) bs (fun c => w.heap.size ≤ c ∧ c < bd)
  cache : Cache w' (bd + 1) (.slice aP nP cP) nP (fun i => ps[i]?.getD (0, [])) pb k u

set_option maxHeartbeats 1600000 in
theorem openDisk_walk (w : World) (aB aC : Option Addr) (nB cB nC cC : Nat) (bs : List (List Int)) (ps : List (Int × List Int)) (hbl : bs.length = nB) (hpl : ps.length = nC) (g1 : nB ≤ 60) (g2 : nC ≤ 200) (hz : ∀ k, k < nB → (bs[k]?.getD []).length ≤ 1048576) (hzp : ∀ k, k < nC → (ps[k]?.getD (0, [])).2.length ≤ 1048576) (hB : AtS w aB nB bs) (hP : AtP w aC nC ps) :
    Calls Try.prog 63 #[.agg #[.slice aB nB cB, .slice aC nC cC]] w fun e w' => ∃ bd g aP cP pb k u, e = .returned (.pointer (some ⟨bd, 0, none⟩)) ∧ Drive w w' bd (some ⟨g, 0, none⟩) nB nB aP nC cP bs ps pb k u := by
  have HBL : Hid (bs.length = nB) := hbl
  have HPL : Hid (ps.length = nC) := hpl
  have HZ : Hid (∀ k, k < nB → (bs[k]?.getD []).length ≤ 1048576) := hz
  have HZP : Hid (∀ k, k < nC → (ps[k]?.getD (0, [])).2.length ≤ 1048576) := hzp
  have HB : Hid (AtS w aB nB bs) := hB
  have HP : Hid (AtP w aC nC ps) := hP
  clear hbl hpl hz hzp hB hP
  go_enter Try.func63, Try.ntmps63
  go_wp2_with fail
  refine (rackOf_walk _ aB nB cB bs HBL.out g1 HZ.out (HB.out.later (later1 _ _))).mono ?_
  rintro e w1 ⟨g, rfl, hb1, ho1⟩
  have HW1 : Hid (Below w.heap.size w w1) := (later1 _ _).trans (hb1.mono (by simp))
  have HX1 : Hid (Box2 w1 w.heap.size (.slice aB nB cB) (.slice aC nC cC)) := (Box2.new _ _ _ _).later hb1
  have HO1 : Hid (IntsSO w1 (.slice (some ⟨g, 0, none⟩) nB nB) bs (fun c => w.heap.size ≤ c ∧ c < w1.heap.size)) := ho1.mono fun b hb => ⟨by have := hb.1; simp at this; omega, hb.2⟩
  have hz1 : w.heap.size < w1.heap.size := by have := hb1.size; simp at this; omega
  clear hb1 ho1
  obtain ⟨x0, x1⟩ := HX1.out
  go_wp2_with fail
  go_loopw [14] (fun i wr => ∃ j : Nat, j ≤ nC ∧ i = .int .i64 j ∧ Below w.heap.size w wr ∧ w1.heap.size + 1 ≤ wr.heap.size ∧ IntsSO wr (.slice (some ⟨g, 0, none⟩) nB nB) bs (fun c => w.heap.size ≤ c ∧ c < w1.heap.size) ∧
    ∃ aP cP pb k u, OwnRow wr w1.heap.size 2 (fun c => if c = 0 then .slice (some ⟨g, 0, none⟩) nB nB else .slice aP j cP) ∧ Cache wr (w1.heap.size + 1) (.slice aP j cP) j (fun i => ps[i]?.getD (0, [])) pb k u) (fun i _ => nC - (intOf i).toNat)
  case atStart =>
    refine ⟨0, Nat.zero_le _, rfl, HW1.out.trans ((later1 _ _).mono HW1.out.size), by simp, HO1.out.keep fun b hb hlt => (later1 _ _).block b hlt, none, 0, _, _, _, OwnRow.two _ _ _ _, Cache.nil _ _ _⟩
  case round =>
    obtain ⟨j, hj, rfl, hbw, hsz, hio, aP, cP, pb, k, u, hrow, hca⟩ := hrel
    have HBW : Hid (Below w.heap.size w wr) := hbw
    have HIO : Hid (IntsSO wr (.slice (some ⟨g, 0, none⟩) nB nB) bs (fun c => w.heap.size ≤ c ∧ c < w1.heap.size)) := hio
    have HROW : Hid (OwnRow wr w1.heap.size 2 (fun c => if c = 0 then .slice (some ⟨g, 0, none⟩) nB nB else .slice aP j cP)) := hrow
    have HCA : Hid (Cache wr (w1.heap.size + 1) (.slice aP j cP) j (fun i => ps[i]?.getD (0, [])) pb k u) := hca
    clear hbw hio hrow hca x0 x1
    by_cases hlt : j < nC
    · obtain ⟨b, off, ua, ucap, e, c1, c2, i1⟩ := HP.out j hlt
      clear HP
      subst e
      replace c1 := cell_later HBW.out c1
      replace c2 := cell_later HBW.out c2
      have HI : Hid (Ints wr (.slice ua (ps[j]?.getD (0, [])).2.length ucap) (ps[j]?.getD (0, [])).2) := i1.later HBW.out
      clear i1
      go_wp2_with fail
      refine (put_any _ w1.heap.size (w1.heap.size + 1) j _ aP cP (fun i => ps[i]?.getD (0, [])) pb k u (Nat.lt_succ_self _) (by simp; omega) (by omega) (HROW.out.later (later1 _ _)) (HCA.out.later (later1 _ _)) _ (HI.out.later (later1 _ _)) (HZP.out j hlt)).mono ?_
      rintro e w2 ⟨rfl, X, g2, c', pb', k', u', rfl, hbX, hcX⟩
      have HX : Hid (Below (w1.heap.size + 1) wr X) := ((later1 _ _).mono hsz).trans hbX
      have HCX : Hid (Cache X (w1.heap.size + 1) (.slice (some ⟨g2, 0, none⟩) (j + 1) c') (j + 1) (fun i => ps[i]?.getD (0, [])) pb' k' u') := hcX
      clear hbX hcX
      go_wp2
      go_roundw
      case rel =>
        refine ⟨j + 1, by omega, by go_num, (HBW.out.trans (HX.out.mono (by omega))).setCell (by simp; omega) _, ?_, ?_, some ⟨g2, 0, none⟩, c', pb', k', u', ?_, HCX.out.store (by simp) _⟩
        · have := HX.out.size; simp [World.setCell]; omega
        · exact (HIO.out.keep fun b hb hlt => HX.out.block b (by omega)).store (fun b hb => by simp; omega) _
        · refine ((HROW.out.block (HX.out.block _ (by omega))).set 1 _).congr fun c hc => ?_
          have : c = 0 ∨ c = 1 := by omega
          rcases this with rfl | rfl <;> simp
      case measure => simp [intOf]; omega
    · go_wp2
      go_ret
      have e : j = nC := by omega
      subst e
      exact ⟨w1.heap.size, g, aP, cP, pb, k, u, rfl, HBW.out, by omega, HROW.out, HIO.out, HCA.out⟩
end Go.Proofs.Ytagmmgcdebgfnaa
