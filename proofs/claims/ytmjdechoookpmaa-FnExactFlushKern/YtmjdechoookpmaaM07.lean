/- The walks of the program's drive: a cache of pointers that grows. The walk of the program's drive.disk: the cache of pointers becomes a list of puts. The walk of the specification's copying of a disk. The walk of the specification's keeping of what is picked. Rows that grow by append: where the row lies behind it; and rows told otherwise. -/
import Derived.Test.YtmjdechoookpmaaM06
import Derived.Test.YtmjdechoookpmaaM01
import Derived.Deep.AppendLies
import Derived.Test.YtmjdechoookpmaaM04
import Derived.Deep.RegionHeld3
namespace Go.Proofs.Ytmjdechoookpmaa
open Go.RowKit
set_option maxRecDepth 100000

/-- The cache of a drive: a row of pointers to puts, each with a list of its own. -/
structure Cache (w : World) (base : Nat) (v : Value) (n : Nat) (f : Nat → Int × List Int) (pb k : Nat → Nat) (u : Nat → Value) : Prop where
  own : w.ownsRow base 118 1 v n ((List.range n).map fun i => Value.pointer (some ⟨pb i, 0, none⟩))
  lo : ∀ i, i < n → base ≤ pb i ∧ base ≤ k i ∧ k i < w.heap.size
  ne : ∀ i, i < n → v.ownBlock ≠ some (pb i) ∧ v.ownBlock ≠ some (k i)
  inj : ∀ i j, i < n → j < n → i ≠ j → k i ≠ k j
  box : ∀ i, i < n → OwnRow w (pb i) 2 (fun c => if c = 0 then .int .i64 (f i).1 else u i)
  sh : ∀ i, i < n → ∃ a c, u i = .slice a (f i).2.length c
  at' : ∀ i, i < n → IntsO w (u i) (f i).2 (fun c => c = k i)

theorem Cache.nil (w : World) (base : Nat) (f : Nat → Int × List Int) : Cache w base (.slice none 0 0) 0 f (fun _ => 0) (fun _ => 0) (fun _ => .slice none 0 0) :=
  ⟨World.ownsRow_nil _ _ _ _, fun i hi => by omega, fun i hi => by omega, fun i j hi => by omega, fun i hi => by omega, fun i hi => by omega, fun i hi => by omega⟩
/-- What turns no block from base on leaves the cache. -/
theorem Cache.keep {w w' : World} {base n : Nat} {v : Value} {f : Nat → Int × List Int} {pb k : Nat → Nat} {u : Nat → Value} (h : Cache w base v n f pb k u) (hs : w.heap.size ≤ w'.heap.size) (e : ∀ b, base ≤ b → b < w.heap.size → w'.heap[b]? = w.heap[b]?) : Cache w' base v n f pb k u := by
  refine ⟨?_, fun i hi => ⟨(h.lo i hi).1, (h.lo i hi).2.1, Nat.lt_of_lt_of_le (h.lo i hi).2.2 hs⟩, h.ne, h.inj, fun i hi => (h.box i hi).block (e _ (h.lo i hi).1 (h.box i hi).lt), h.sh, fun i hi => (h.at' i hi).keep fun b hb hlt => e b (by rw [hb]; exact (h.lo i hi).2.1) hlt⟩
  obtain ⟨h1, h2⟩ := h.own
  refine ⟨h1, ?_⟩
  rcases h2 with h2 | ⟨g, cap, cur, hv, hg, hh, r⟩
  · exact Or.inl h2
  · exact Or.inr ⟨g, cap, cur, hv, hg, by rw [e g hg (Array.getElem?_eq_some_iff.1 hh).1]; exact hh, r⟩
theorem Cache.later {w w' : World} {base n : Nat} {v : Value} {f : Nat → Int × List Int} {pb k : Nat → Nat} {u : Nat → Value} (h : Cache w base v n f pb k u) (hb : Below w.heap.size w w') : Cache w' base v n f pb k u :=
  h.keep hb.size fun b _ hlt => hb.block b hlt
theorem Cache.store {w : World} {base n : Nat} {v : Value} {f : Nat → Int × List Int} {pb k : Nat → Nat} {u : Nat → Value} (h : Cache w base v n f pb k u) {p : Addr} (hp : p.block < base) (x : Value) : Cache (w.setCell p x) base v n f pb k u :=
  h.keep (by simp [World.setCell]) fun b hb _ => Below.heap_setCell _ _ _ _ (by omega)
theorem Cache.shape {w : World} {base n : Nat} {v : Value} {f : Nat → Int × List Int} {pb k : Nat → Nat} {u : Nat → Value} (h : Cache w base v n f pb k u) : ∃ a c, v = .slice a n c := by
  rcases h.own.2 with ⟨rfl, rfl⟩ | ⟨g, c, cur, rfl, _⟩
  · exact ⟨_, _, rfl⟩
  · exact ⟨_, _, rfl⟩

theorem Try.infoPtr : (Try.prog.info? 118).map (fun i => (i.zero, i.size, i.bytes)) = some (some (.pointer none), 1, 8) := by kernel_rfl
theorem Try.infoPtr' : ∃ i, Try.prog.info? 118 = some i ∧ i.zero = some (.pointer none) ∧ i.size = 1 ∧ i.bytes = 8 := by
  obtain ⟨i, hi, h⟩ := Option.map_eq_some_iff.1 Try.infoPtr
  simp only [Prod.mk.injEq] at h
  exact ⟨i, hi, h.1, h.2.1, h.2.2⟩

/-- One put more, behind the cache: what 'append' comes to there. -/
theorem cache_append (w w1 : World) (ty : TypeId) (base n : Nat) (v : Value) (f : Nat → Int × List Int) (pb k : Nat → Nat) (u : Nat → Value) (h : Cache w base v n f pb k u) (hb : base ≤ w.heap.size) (hn : n ≤ 100000) (hb1 : Below w.heap.size w w1) (hlt : w.heap.size < w1.heap.size)
    (a : Option Addr) (c : Nat) (hf : IntsO w1 (.slice a (f n).2.length c) (f n).2 (fresh w w1)) :
    ∃ g cap X pb' k' u', (Builtin.append_ #[88, 88] ty #[v, .slice (some ⟨w1.heap.size + 1, 0, none⟩) 1 1]).run Try.prog ((w1.alloc (.cells #[.int .i64 (f n).1, .slice a (f n).2.length c] 38)).alloc (.cells #[.pointer (some ⟨w1.heap.size, 0, none⟩)] 118)) = .ok (.slice (some ⟨g, 0, none⟩) (n + 1) cap) X ∧
      Below base w X ∧ Cache X base (.slice (some ⟨g, 0, none⟩) (n + 1) cap) (n + 1) f pb' k' u' := by
  obtain ⟨i, hi, h1, h2, h3⟩ := Try.infoPtr'
  have hbW : Below w.heap.size w ((w1.alloc (.cells #[.int .i64 (f n).1, .slice a (f n).2.length c] 38)).alloc (.cells #[.pointer (some ⟨w1.heap.size, 0, none⟩)] 118)) := hb1.trans ((later2 _ _ _).mono hb1.size)
  have hW := h.later hbW
  obtain ⟨g, cap, X, hr, ho, hg, hat, hgX⟩ := run_append_lies (P := Try.prog) ((w1.alloc (.cells #[.int .i64 (f n).1, .slice a (f n).2.length c] 38)).alloc (.cells #[.pointer (some ⟨w1.heap.size, 0, none⟩)] 118)) 88 ty base 118 i (.pointer none) 1 8 Try.underlying88 hi h1 h2 h3 rfl (by decide) v n _ hW.own ⟨w1.heap.size + 1, 0, none⟩ 1 1 [.pointer (some ⟨w1.heap.size, 0, none⟩)] rfl
    (fun j x hx => by
      cases j with
      | zero =>
        simp at hx; subst hx
        simp [Addr.add]
      | succ j => simp at hx) (fun x hx => by simp at hx; subst hx; rfl) (by decide) (by unfold maxLen; omega) (by omega) (by have := hb1.size; simp; omega) (w1.heap.size + 2) (by simp)
  have hsz1 := hb1.size
  have hrow : ∀ g, v.ownBlock = some g → g < w.heap.size := fun g hg => (h.own.lt g hg).2
  have hrowb : ∀ g, v.ownBlock = some g → base ≤ g := fun g hg => (h.own.lt g hg).1
  have hXb : ∀ b, b < w1.heap.size + 2 → v.ownBlock ≠ some b → X.heap[b]? = ((w1.alloc (.cells #[.int .i64 (f n).1, .slice a (f n).2.length c] 38)).alloc (.cells #[.pointer (some ⟨w1.heap.size, 0, none⟩)] 118)).heap[b]? := fun b hb' hne => hg.block b (by simp; omega) (fun e => hne e.symm)
  have hXs : w1.heap.size + 2 ≤ X.heap.size := by have := hg.size; simp at this; omega
  have hBX : Below base w X := (hbW.mono hb).trans (below_grown hg (by simp; omega) (fun g hg' => hrowb g hg'))
  obtain ⟨kb, hkb1, hkb2, hkf⟩ : ∃ kb, w.heap.size ≤ kb ∧ kb < w1.heap.size ∧ IntsO w1 (.slice a (f n).2.length c) (f n).2 (fun c => c = kb) := by
    rcases hf with hf | ⟨b, cap, hF, r⟩
    · exact ⟨w.heap.size, Nat.le_refl _, hlt, Or.inl hf⟩
    · exact ⟨b, hF.1, hF.2, Or.inr ⟨b, cap, rfl, r⟩⟩
  -- g is the elder row, or a block behind all others
  have hne : ∀ b, b < w1.heap.size + 2 → v.ownBlock ≠ some b → g ≠ b := by
    intro b hb' hb2 e
    subst e
    rcases hat with h | h
    · exact hb2 h
    · omega
  have hfar : ∀ b, w.heap.size ≤ b → v.ownBlock ≠ some b := fun b hb' e => by have := hrow b e; omega
  have old : ∀ b, b < w.heap.size → v.ownBlock ≠ some b → X.heap[b]? = w.heap[b]? := fun b hb' hne => (hXb b (by omega) hne).trans (hbW.block b hb')
  refine ⟨g, cap, X, fun j => if j = n then w1.heap.size else pb j, fun j => if j = n then kb else k j, fun j => if j = n then .slice a (f n).2.length c else u j, hr, hBX, ⟨?_, fun j hj => ?_, fun j hj => ?_, fun j j' hj hj' e => ?_, fun j hj => ?_, fun j hj => ?_, fun j hj => ?_⟩⟩
  · rw [List.range_succ, List.map_append]
    have e1 : (List.range n).map (fun i => Value.pointer (some ⟨if i = n then w1.heap.size else pb i, 0, none⟩)) = (List.range n).map (fun i => Value.pointer (some ⟨pb i, 0, none⟩)) :=
      List.map_congr_left fun i hi => by simp [show i ≠ n by have := List.mem_range.1 hi; omega]
    rw [e1]
    simpa using ho
  · by_cases e : j = n
    · subst e; simp; omega
    · have := h.lo j (by omega); simp [e]; omega
  · by_cases e : j = n
    · subst e
      simp only [if_true]
      exact ⟨fun e => hne w1.heap.size (by omega) (hfar _ hsz1) (by simpa [Value.ownBlock] using e), fun e => hne kb (by omega) (hfar _ hkb1) (by simpa [Value.ownBlock] using e)⟩
    · have hj' : j < n := by omega
      have hl := h.lo j hj'
      have hb2 := (h.box j hj').lt
      simp only [e, if_false]
      exact ⟨fun e => hne (pb j) (by omega) (h.ne j hj').1 (by simpa [Value.ownBlock] using e), fun e => hne (k j) (by omega) (h.ne j hj').2 (by simpa [Value.ownBlock] using e)⟩
  · by_cases e1 : j = n
    · by_cases e2 : j' = n
      · omega
      · have := (h.lo j' (by omega)).2.2
        simp [e1, e2]; omega
    · by_cases e2 : j' = n
      · have := (h.lo j (by omega)).2.2
        simp [e1, e2]; omega
      · simp [e1, e2]; exact h.inj j j' (by omega) (by omega) e
  · by_cases e : j = n
    · subst e
      simp only [if_true]
      have hb2 := (OwnRow.two w1 (.int .i64 (f j).1) (.slice a (f j).2.length c) 38).later (later1 _ (.cells #[.pointer (some ⟨w1.heap.size, 0, none⟩)] 118))
      exact hb2.block (hXb _ (by omega) (hfar _ (by omega)))
    · have hj' : j < n := by omega
      simp only [e, if_false]
      exact (h.box j hj').block (old _ (h.box j hj').lt (h.ne j hj').1)
  · by_cases e : j = n
    · subst e; exact ⟨a, c, by simp⟩
    · simp only [e, if_false]; exact h.sh j (by omega)
  · by_cases e : j = n
    · subst e
      simp only [if_true]
      exact hkf.keep fun b hb' hlt' => by
        rw [hb', hXb kb (by omega) (hfar _ hkb1)]
        exact (later2 _ _ _).block kb hkb2
    · have hj' : j < n := by omega
      simp only [e, if_false]
      exact (h.at' j hj').keep fun b hb' hlt' => by rw [hb']; exact old _ (h.lo j hj').2.2 (h.ne j hj').2

set_option maxHeartbeats 1600000 in
theorem put_any (w : World) (bd base n : Nat) (vB : Value) (a : Option Addr) (cap : Nat) (f : Nat → Int × List Int) (pb k : Nat → Nat) (u : Nat → Value) (hbd : bd < base) (hb : base ≤ w.heap.size) (hn : n ≤ 100000) (hd : OwnRow w bd 2 (fun c => if c = 0 then vB else .slice a n cap)) (hc : Cache w base (.slice a n cap) n f pb k u)
    (v : Value) (hv : Ints w v (f n).2) (hl : (f n).2.length ≤ 1048576) :
    Calls Try.prog 44 #[.pointer (some ⟨bd, 0, none⟩), .int .i64 (f n).1, v] w fun e w' => e = .returned (.tuple #[]) ∧ ∃ X g c' pb' k' u', w' = X.setCell ⟨bd, 1, none⟩ (.slice (some ⟨g, 0, none⟩) (n + 1) c') ∧ Below base w X ∧ Cache X base (.slice (some ⟨g, 0, none⟩) (n + 1) c') (n + 1) f pb' k' u' := by
  have HV : Hid (Ints w v (f n).2) := hv
  have HL : Hid ((f n).2.length ≤ 1048576) := hl
  have HC : Hid (Cache w base (.slice a n cap) n f pb k u) := hc
  have d0 := hd.cell (i := 1) (by omega)
  have d1 := hd.frozen 1
  simp at d0
  have hlt : bd < w.heap.size := hd.lt
  clear hv hl hc hd
  go_enter Try.func44, Try.ntmps44
  go_wp2_with fail
  go_region_law (first
    | (refine step_append_run rfl _ _ 88 rfl _ _ rfl rfl _ _ HR.out ?_)
    | (go_simp; go_at_call 76; refine (copyOf_more ?_ HL.out).mono ?_; exact HV.out; rintro e w1 ⟨rfl, hb1, ho1, hs1⟩; obtain ⟨g, cap', X, pb', k', u', hr, hBX, hCX⟩ := cache_append w w1 88 base n _ f pb k u HC.out hb hn ((Below.refl _ _).drew.trans hb1) hs1 _ _ ho1; have y1 : ∀ o, (w1.alloc o).cell? ⟨bd, 1, none⟩ = some (.slice a n cap) := fun o => cell_later ((hb1.trans ((later1 w1 o).mono hb1.size))) d0; have y2 : ∀ o o', ((w1.alloc o).alloc o').cell? ⟨bd, 1, none⟩ = some (.slice a n cap) := fun o o' => cell_later ((hb1.trans ((later2 w1 o o').mono hb1.size))) d0; have z0 := cell_later hb1 d0; have z1 := (hb1.frozen (p := ⟨bd, 1, none⟩) hlt).trans d1; have HR : Hid (_ = _) := hr; have HBX : Hid (Below base w X) := hBX; have HCX : Hid (Cache X base (.slice (some ⟨g, 0, none⟩) (n + 1) cap') (n + 1) f pb' k' u') := hCX; have x0 : X.cell? ⟨bd, 1, none⟩ = some (.slice a n cap) := (hBX.cell (p := ⟨bd, 1, none⟩) hbd).trans d0; have x1 : X.frozen? ⟨bd, 1, none⟩ = false := (hBX.frozen (p := ⟨bd, 1, none⟩) hbd).trans d1; clear hr hBX hCX hb1 ho1 hs1))
  all_goals
    go_wp2
    go_end0
    exact ⟨rfl, X, g, cap', pb', k', u', rfl, HBX.out, HCX.out⟩

/-- A drive that was opened: its blocks and its cache in new memory, the cache behind the drive itself. -/
structure Drive (w w' : World) (bd : Nat) (aB : Option Addr) (nB cB : Nat) (aP : Option Addr) (nP cP : Nat) (bs : List (List Int)) (ps : List (Int × List Int)) (pb k : Nat → Nat) (u : Nat → Value) : Prop where
  below : Below w.heap.size w w'
  lo : w.heap.size ≤ bd
  row : OwnRow w' bd 2 (fun c => if c = 0 then .slice aB nB cB else .slice aP nP cP)
  blocks : IntsSO w' (.slice aB nB cB) bs (fun c => w.heap.size ≤ c ∧ c < bd)
  cache : Cache w' (bd + 1) (.slice aP nP cP) nP (fun i => ps[i]?.getD (0, [])) pb k u

set_option maxHeartbeats 1600000 in
theorem openDisk_walk (w : World) (aB aC : Option Addr) (nB cB nC cC : Nat) (bs : List (List Int)) (ps : List (Int × List Int)) (hbl : bs.length = nB) (hpl : ps.length = nC) (g1 : nB ≤ 60) (g2 : nC ≤ 200) (hz : ∀ k, k < nB → (bs[k]?.getD []).length ≤ 1048576) (hzp : ∀ k, k < nC → (ps[k]?.getD (0, [])).2.length ≤ 1048576) (hB : AtS w aB nB bs) (hP : AtP w aC nC ps) :
    Calls Try.prog 34 #[.agg #[.slice aB nB cB, .slice aC nC cC]] w fun e w' => ∃ bd g aP cP pb k u, e = .returned (.pointer (some ⟨bd, 0, none⟩)) ∧ Drive w w' bd (some ⟨g, 0, none⟩) nB nB aP nC cP bs ps pb k u := by
  have HBL : Hid (bs.length = nB) := hbl
  have HPL : Hid (ps.length = nC) := hpl
  have HZ : Hid (∀ k, k < nB → (bs[k]?.getD []).length ≤ 1048576) := hz
  have HZP : Hid (∀ k, k < nC → (ps[k]?.getD (0, [])).2.length ≤ 1048576) := hzp
  have HB : Hid (AtS w aB nB bs) := hB
  have HP : Hid (AtP w aC nC ps) := hP
  clear hbl hpl hz hzp hB hP
  go_enter Try.func34, Try.ntmps34
  go_wp2_with fail
  refine (rackOf_walk _ aB nB cB bs HBL.out g1 HZ.out (HB.out.later (later1 _ _))).mono ?_
  rintro e w1 ⟨g, rfl, hb1, ho1⟩
  have HW1 : Hid (Below w.heap.size w w1) := (later1 _ _).trans (hb1.mono (by simp))
  have HX1 : Hid (Box2 w1 w.heap.size (.slice aB nB cB) (.slice aC nC cC)) := (Box2.new _ _ _ _).later hb1
  have HO1 : Hid (IntsSO w1 (.slice (some ⟨g, 0, none⟩) nB nB) bs (fun c => w.heap.size ≤ c ∧ c < w1.heap.size)) := ho1.mono fun b hb => ⟨by have := hb.1; simp at this; omega, hb.2⟩
  have hz1 : w.heap.size < w1.heap.size := by have := hb1.size; simp at this; omega
  clear hb1 ho1
  obtain ⟨x0, x1⟩ := HX1.out
  go_wp2_with fail
  go_loopw [14] (fun i wr => ∃ j : Nat, j ≤ nC ∧ i = .int .i64 j ∧ Below w.heap.size w wr ∧ w1.heap.size + 1 ≤ wr.heap.size ∧ IntsSO wr (.slice (some ⟨g, 0, none⟩) nB nB) bs (fun c => w.heap.size ≤ c ∧ c < w1.heap.size) ∧
    ∃ aP cP pb k u, OwnRow wr w1.heap.size 2 (fun c => if c = 0 then .slice (some ⟨g, 0, none⟩) nB nB else .slice aP j cP) ∧ Cache wr (w1.heap.size + 1) (.slice aP j cP) j (fun i => ps[i]?.getD (0, [])) pb k u) (fun i _ => nC - (intOf i).toNat)
  case atStart =>
    refine ⟨0, Nat.zero_le _, rfl, HW1.out.trans ((later1 _ _).mono HW1.out.size), by simp, HO1.out.keep fun b hb hlt => (later1 _ _).block b hlt, none, 0, _, _, _, OwnRow.two _ _ _ _, Cache.nil _ _ _⟩
  case round =>
    obtain ⟨j, hj, rfl, hbw, hsz, hio, aP, cP, pb, k, u, hrow, hca⟩ := hrel
    have HBW : Hid (Below w.heap.size w wr) := hbw
    have HIO : Hid (IntsSO wr (.slice (some ⟨g, 0, none⟩) nB nB) bs (fun c => w.heap.size ≤ c ∧ c < w1.heap.size)) := hio
    have HROW : Hid (OwnRow wr w1.heap.size 2 (fun c => if c = 0 then .slice (some ⟨g, 0, none⟩) nB nB else .slice aP j cP)) := hrow
    have HCA : Hid (Cache wr (w1.heap.size + 1) (.slice aP j cP) j (fun i => ps[i]?.getD (0, [])) pb k u) := hca
    clear hbw hio hrow hca x0 x1
    by_cases hlt : j < nC
    · obtain ⟨b, off, ua, ucap, e, c1, c2, i1⟩ := HP.out j hlt
      clear HP
      subst e
      replace c1 := cell_later HBW.out c1
      replace c2 := cell_later HBW.out c2
      have HI : Hid (Ints wr (.slice ua (ps[j]?.getD (0, [])).2.length ucap) (ps[j]?.getD (0, [])).2) := i1.later HBW.out
      clear i1
      go_wp2_with fail
      refine (put_any _ w1.heap.size (w1.heap.size + 1) j _ aP cP (fun i => ps[i]?.getD (0, [])) pb k u (Nat.lt_succ_self _) (by simp; omega) (by omega) (HROW.out.later (later1 _ _)) (HCA.out.later (later1 _ _)) _ (HI.out.later (later1 _ _)) (HZP.out j hlt)).mono ?_
      rintro e w2 ⟨rfl, X, g2, c', pb', k', u', rfl, hbX, hcX⟩
      have HX : Hid (Below (w1.heap.size + 1) wr X) := ((later1 _ _).mono hsz).trans hbX
      have HCX : Hid (Cache X (w1.heap.size + 1) (.slice (some ⟨g2, 0, none⟩) (j + 1) c') (j + 1) (fun i => ps[i]?.getD (0, [])) pb' k' u') := hcX
      clear hbX hcX
      go_wp2
      go_roundw
      case rel =>
        refine ⟨j + 1, by omega, by go_num, (HBW.out.trans (HX.out.mono (by omega))).setCell (by simp; omega) _, ?_, ?_, some ⟨g2, 0, none⟩, c', pb', k', u', ?_, HCX.out.store (by simp) _⟩
        · have := HX.out.size; simp [World.setCell]; omega
        · exact (HIO.out.keep fun b hb hlt => HX.out.block b (by omega)).store (fun b hb => by simp; omega) _
        · refine ((HROW.out.block (HX.out.block _ (by omega))).set 1 _).congr fun c hc => ?_
          have : c = 0 ∨ c = 1 := by omega
          rcases this with rfl | rfl <;> simp
      case measure => simp [intOf]; omega
    · go_wp2
      go_ret
      have e : j = nC := by omega
      subst e
      exact ⟨w1.heap.size, g, aP, cP, pb, k, u, rfl, HBW.out, by omega, HROW.out, HIO.out, HCA.out⟩
end Go.Proofs.Ytmjdechoookpmaa

namespace Go.Proofs.Ytmjdechoookpmaa
open Go.RowKit
set_option maxRecDepth 100000

theorem Try.infoPut' : ∃ i, Try.prog.info? 38 = some i ∧ i.zero = some (.agg #[.int .i64 0, .slice none 0 0]) ∧ i.size = 2 ∧ i.bytes = 32 := by
  obtain ⟨i, hi, h⟩ := Option.map_eq_some_iff.1 Try.infoPut
  simp only [Prod.mk.injEq] at h
  exact ⟨i, hi, h.1, h.2.1, h.2.2⟩
theorem Try.infoInts' : ∃ i, Try.prog.info? 36 = some i ∧ i.zero = some (.slice none 0 0) ∧ i.size = 1 ∧ i.bytes = 24 := by
  obtain ⟨i, hi, h⟩ := Option.map_eq_some_iff.1 Try.infoInts
  simp only [Prod.mk.injEq] at h
  exact ⟨i, hi, h.1, h.2.1, h.2.2⟩
theorem upd_nat (k : Nat → Nat) (n : Nat) : (fun j => if j = n then k n else k j) = k := by
  funext j; by_cases h : j = n
  · simp [h]
  · simp [h]
theorem upd_val (k : Nat → Value) (n : Nat) : (fun j => if j = n then k n else k j) = k := by
  funext j; by_cases h : j = n
  · simp [h]
  · simp [h]

/-- Where the pointer to put i lies, and the put itself. -/
theorem Cache.ptr {w : World} {base n c : Nat} {a : Option Addr} {f : Nat → Int × List Int} {pb k : Nat → Nat} {u : Nat → Value} (h : Cache w base (.slice a n c) n f pb k u) {i : Nat} (hi : i < n) :
    ∃ g ua uc, a = some ⟨g, 0, none⟩ ∧ w.cell? ⟨g, i, none⟩ = some (.pointer (some ⟨pb i, 0, none⟩)) ∧ w.cell? ⟨pb i, 0, none⟩ = some (.int .i64 (f i).1) ∧ w.cell? ⟨pb i, 1, none⟩ = some (.slice ua (f i).2.length uc) ∧ u i = .slice ua (f i).2.length uc := by
  obtain ⟨g, cap, e, _, _, _, hrow⟩ := ownsRow_row h.own (by omega)
  simp only [Value.slice.injEq, true_and] at e
  obtain ⟨ua, uc, hu⟩ := h.sh i hi
  have hb := h.box i hi
  have b0 := hb.cell (i := 0) (by omega)
  have b1 := hb.cell (i := 1) (by omega)
  simp at b0 b1
  rw [hu] at b1
  refine ⟨g, ua, uc, e.1, ?_, b0, b1, hu⟩
  rw [hrow.cell hi]
  simp [hi]

theorem ownsRow_le {w : World} {base base' : Nat} {e : TypeId} {size : Nat} {v : Value} {n : Nat} {xs : List Value} (h : w.ownsRow base e size v n xs) (hb : base' ≤ base) : w.ownsRow base' e size v n xs := by
  obtain ⟨h1, h2⟩ := h
  refine ⟨h1, ?_⟩
  rcases h2 with h2 | ⟨g, cap, cur, hv, hg, r⟩
  · exact Or.inl h2
  · exact Or.inr ⟨g, cap, cur, hv, by omega, r⟩

set_option maxHeartbeats 3200000 in
theorem disk_any (w : World) (bd base n : Nat) (aB : Option Addr) (nB cB : Nat) (aP : Option Addr) (cP : Nat) (f : Nat → Int × List Int) (pb k : Nat → Nat) (u : Nat → Value) (hn : n ≤ 1000) (hd : OwnRow w bd 2 (fun c => if c = 0 then .slice aB nB cB else .slice aP n cP)) (hc : Cache w base (.slice aP n cP) n f pb k u) :
    Calls Try.prog 36 #[.pointer (some ⟨bd, 0, none⟩)] w fun e w' => ∃ aC cC, e = .returned (.agg #[.slice aB nB cB, .slice aC n cC]) ∧ Below w.heap.size w w' ∧ LRow (C2 fun i => (f i).1) w' w.heap.size base 38 2 (.slice aC n cC) n (fun i => (f i).2) k u := by
  have HC : Hid (Cache w base (.slice aP n cP) n f pb k u) := hc
  have d0 := hd.cell (i := 0) (by omega)
  have d1 := hd.cell (i := 1) (by omega)
  simp at d0 d1
  have hlt : bd < w.heap.size := hd.lt
  clear hd hc
  obtain ⟨ti, hi, h1, h2, h3⟩ := Try.infoPut'
  have HI : Hid (Try.prog.info? 38 = some ti ∧ ti.zero = some (.agg #[.int .i64 0, .slice none 0 0]) ∧ ti.size = 2 ∧ ti.bytes = 32) := ⟨hi, h1, h2, h3⟩
  clear hi h1 h2 h3
  go_enter Try.func36, Try.ntmps36
  go_wp2_with fail
  go_loopw [17] (fun i wr => ∃ j : Nat, j ≤ n ∧ i = .int .i64 j ∧ Below w.heap.size w wr ∧ w.heap.size + 2 ≤ wr.heap.size ∧ OwnRow wr w.heap.size 2 (fun c => if c = 0 then .slice none 0 0 else .slice none 0 0) ∧
    ∃ aC cC, OwnRow wr (w.heap.size + 1) 2 (fun c => if c = 0 then .slice aB nB cB else .slice aC j cC) ∧ LRow (C2 fun i => (f i).1) wr (w.heap.size + 2) base 38 2 (.slice aC j cC) j (fun i => (f i).2) k u) (fun i _ => n - (intOf i).toNat)
  case atStart =>
    refine ⟨0, Nat.zero_le _, rfl, later2 _ _ _, by simp, (OwnRow.two w _ _ _).later (later1 _ _), none, 0, by simpa using OwnRow.two (w.alloc (.cells #[.slice none 0 0, .slice none 0 0] 27)) (.slice aB nB cB) (.slice none 0 0) 27, ?_⟩
    exact ⟨World.ownsRow_nil _ _ _ _, fun i hi => by omega, fun i hi => by omega, fun i j hi => by omega, fun i hi => by omega, fun i hi => by omega⟩
  case round =>
    obtain ⟨j, hj, rfl, hbw, hsz, hres, aC, cC, hrow, hlr⟩ := hrel
    have HBW : Hid (Below w.heap.size w wr) := hbw
    have HRES : Hid (OwnRow wr w.heap.size 2 (fun c => if c = 0 then .slice none 0 0 else .slice none 0 0)) := hres
    have HROW : Hid (OwnRow wr (w.heap.size + 1) 2 (fun c => if c = 0 then .slice aB nB cB else .slice aC j cC)) := hrow
    have HLR : Hid (LRow (C2 fun i => (f i).1) wr (w.heap.size + 2) base 38 2 (.slice aC j cC) j (fun i => (f i).2) k u) := hlr
    clear hbw hres hrow hlr
    by_cases hjn : j < n
    · obtain ⟨g, ua, uc, e, p0, p1, p2, hu⟩ := HC.out.ptr hjn
      subst e
      replace p0 := cell_later HBW.out p0
      replace p1 := cell_later HBW.out p1
      replace p2 := cell_later HBW.out p2
      have hat := (HC.out.at' j hjn).keep (w' := wr.drew) fun b hb hl => by rw [hb]; exact HBW.out.block _ (HC.out.lo j hjn).2.2
      rw [hu] at hat
      obtain ⟨hi, h1, h2, h3⟩ := HI.out
      have hklt := (HC.out.lo j hjn).2.2
      have hap := LRow.append wr wr.drew 25 25 38 ti _ 2 32 Try.underlying25 hi h1 h2 h3 rfl (by decide) (by decide) (w.heap.size + 2) base j _ _ k u HLR.out hsz (by omega) (Below.refl _ _).drew ua uc rfl (fun x hx => by simp [C2] at hx; rcases hx with rfl | rfl <;> rfl) (k j) (HC.out.lo j hjn).2.1 (by show k j < wr.heap.size; have := HBW.out.size; omega)
        (fun e => by have := (HLR.out.own.lt _ e).1; omega) (fun i hi => HC.out.inj i j (by omega) hjn (by omega)) hat
      rw [← hu, upd_nat, upd_val] at hap
      obtain ⟨g2, cap2, X, hr, hXb, hBX, hXs, hLX⟩ := hap
      rw [hu] at hr
      have HR : Hid (_ = _) := hr
      have HBX : Hid (Below (w.heap.size + 2) wr X) := hBX
      have HLX : Hid (LRow (C2 fun i => (f i).1) X (w.heap.size + 2) base 38 2 (.slice (some ⟨g2, 0, none⟩) (j + 1) cap2) (j + 1) (fun i => (f i).2) k u) := hLX
      have HROWX : Hid (OwnRow X (w.heap.size + 1) 2 (fun c => if c = 0 then .slice aB nB cB else .slice aC j cC)) := HROW.out.block (hBX.block _ (by omega))
      have HRESX : Hid (OwnRow X w.heap.size 2 (fun c => if c = 0 then .slice none 0 0 else .slice none 0 0)) := HRES.out.block (hBX.block _ (by omega))
      have q1 := HROW.out.cell (i := 1) (by omega)
      have x1 := HROWX.out.cell (i := 1) (by omega)
      have x2 := HROWX.out.frozen 1
      have hbig : w.heap.size + 1 < wr.heap.size := by omega
      simp at q1 x1
      clear hr hXb hBX hLX hat hi h1 h2 h3 hu hXs
      go_wp2_with fail
      go_region_law (refine step_append_run rfl _ _ 25 rfl _ _ rfl rfl _ _ HR.out ?_)
      all_goals
        go_wp2
        go_roundw
        case rel =>
          refine ⟨j + 1, by omega, by go_num, (HBW.out.trans (HBX.out.mono (by omega))).setCell (by simp) _, ?_, HRESX.out.store (by simp) _, some ⟨g2, 0, none⟩, cap2, (HROWX.out.set 1 _).congr fun c hc => ?_, HLX.out.keep (by simp [World.setCell]) (fun g hg => Below.heap_setCell _ _ _ _ (by have := (HLX.out.own.lt g hg).1; simp; omega)) (fun i hi => Below.heap_setCell _ _ _ _ (by have := (HC.out.lo i (by omega)).2.2; simp; omega))⟩
          · have := HBX.out.size; simp [World.setCell]; omega
          · have : c = 0 ∨ c = 1 := by omega
            rcases this with rfl | rfl <;> simp
        case measure => simp [intOf]; omega
    · have q0 := HROW.out.cell (i := 0) (by omega)
      have q1 := HROW.out.cell (i := 1) (by omega)
      have r0 := HRES.out.cell (i := 0) (by omega)
      have r1 := HRES.out.cell (i := 1) (by omega)
      have r2 := HRES.out.frozen 0
      have r3 := HRES.out.frozen 1
      simp at q0 q1 r0 r1
      have e : j = n := by omega
      subst e
      go_wp2
      refine bodyPost_ret (v := .agg #[.slice aB nB cB, .slice aC j cC]) (by simp [results, Try.results36, go_sem, r0, r1]) rfl ⟨aC, cC, rfl, (HBW.out.setCell (Nat.le_refl _) _).setCell (Nat.le_refl _) _, ?_⟩
      have h := HLR.out.keep (w' := (wr.setCell ⟨w.heap.size, 0, none⟩ (.slice aB nB cB)).setCell ⟨w.heap.size, 1, none⟩ (.slice aC j cC)) (by simp [World.setCell]) (fun g hg => (Below.heap_setCell _ _ _ _ (by have := (HLR.out.own.lt g hg).1; simp; omega)).trans (Below.heap_setCell _ _ _ _ (by have := (HLR.out.own.lt g hg).1; simp; omega))) (fun i hi => (Below.heap_setCell _ _ _ _ (by have := (HC.out.lo i hi).2.2; simp; omega)).trans (Below.heap_setCell _ _ _ _ (by have := (HC.out.lo i hi).2.2; simp; omega)))
      exact ⟨ownsRow_le h.own (by omega), h.lo, h.ne, h.inj, h.sh, h.at'⟩
end Go.Proofs.Ytmjdechoookpmaa

namespace Go.Proofs.Ytmjdechoookpmaa
open Go.RowKit
set_option maxRecDepth 100000

/-- The copy of a put's words, and what appending that put comes to: in one contract. -/
theorem l1Ints_put (wr : World) (S q : Nat) (v uv : Value) (f : Nat → Int × List Int) (k : Nat → Nat) (u : Nat → Value) (hLR : LRow (C2 fun i => (f i).1) wr S S 38 2 v q (fun i => (f i).2) k u) (hsq : S ≤ wr.heap.size) (hq : q ≤ 100000) (hi : Ints wr uv (f q).2) (hl : (f q).2.length ≤ 1048576) :
    Calls Try.prog 83 #[uv] wr.drew fun e w1 => ∃ na nc g2 cap2 X k' u', e = .returned (.slice na (f q).2.length nc) ∧
      Hid ((Builtin.append_ #[25, 25] 25 #[v, .slice (some ⟨w1.heap.size, 0, none⟩) 1 1]).run Try.prog (w1.alloc (.cells #[.int .i64 (f q).1, .slice na (f q).2.length nc] 38)) = .ok (.slice (some ⟨g2, 0, none⟩) (q + 1) cap2) X) ∧
      Below wr.heap.size wr w1 ∧ Below S wr X ∧ Hid (LRow (C2 fun i => (f i).1) X S S 38 2 (.slice (some ⟨g2, 0, none⟩) (q + 1) cap2) (q + 1) (fun i => (f i).2) k' u') := by
  refine (l1Ints_more (w := wr.drew) hi hl).mono ?_
  rintro e w1 ⟨na, nc, rfl, hb1, ho1, hs1⟩
  obtain ⟨kb, hk1, hk2, hkf⟩ := ho1.one hs1
  obtain ⟨ti, hi, h1, h2, h3⟩ := Try.infoPut'
  have hk1' : wr.heap.size ≤ kb := hk1
  obtain ⟨g2, cap2, X, hr, _, hBX, _, hLX⟩ := LRow.append wr w1 25 25 38 ti _ 2 32 Try.underlying25 hi h1 h2 h3 rfl (by decide) (by decide) S S q _ _ k u hLR hsq hq ((Below.refl _ _).drew.trans hb1) na nc rfl (fun x hx => by simp [C2] at hx; rcases hx with rfl | rfl <;> rfl) kb (Nat.le_trans hsq hk1') hk2 (fun e => by have := (hLR.own.lt _ e).2; omega) (fun i hi e => by have := (hLR.lo i hi).2; omega) hkf
  exact ⟨na, nc, g2, cap2, X, _, _, rfl, hr, (Below.refl _ _).drew.trans hb1, hBX, hLX⟩

/-- What stands at the head of each round of the second loop. -/
def Copy2 (w : World) (S : Nat) (aB aC aX : Option Addr) (j cB nC cC cX : Nat) (bs : List (List Int)) (ps : List (Int × List Int)) (wq : World) (q : Nat) : Prop :=
  Below w.heap.size w wq ∧ S ≤ wq.heap.size ∧ Box2 wq w.heap.size (.slice aB j cB) (.slice aC nC cC) ∧ OwnRow wq (w.heap.size + 1) 2 (fun c => if c = 0 then .slice none 0 0 else .slice none 0 0) ∧ IntsSO wq (.slice aX j cX) bs (fun c => w.heap.size + 3 ≤ c ∧ c < S) ∧
    ∃ aY cY k u, OwnRow wq (w.heap.size + 2) 2 (fun c => if c = 0 then .slice aX j cX else .slice aY q cY) ∧ LRow (C2 fun i => (ps[i]?.getD (0, [])).1) wq S S 38 2 (.slice aY q cY) q (fun i => (ps[i]?.getD (0, [])).2) k u
theorem Copy2.next {w : World} {S : Nat} {aB aC aX : Option Addr} {j cB nC cC cX : Nat} {bs : List (List Int)} {ps : List (Int × List Int)} {wr X : World} {q g2 cap2 : Nat} {k' : Nat → Nat} {u' : Nat → Value} (hS : w.heap.size + 3 ≤ S)
    (h : Copy2 w S aB aC aX j cB nC cC cX bs ps wr q) (hX : Below S wr X) (hL : LRow (C2 fun i => (ps[i]?.getD (0, [])).1) X S S 38 2 (.slice (some ⟨g2, 0, none⟩) (q + 1) cap2) (q + 1) (fun i => (ps[i]?.getD (0, [])).2) k' u') :
    Copy2 w S aB aC aX j cB nC cC cX bs ps (X.setCell ⟨w.heap.size + 2, 1, none⟩ (.slice (some ⟨g2, 0, none⟩) (q + 1) cap2)) (q + 1) := by
  obtain ⟨h1, h2, h3, h4, h5, aY, cY, k, u, h6, h7⟩ := h
  refine ⟨(h1.trans (hX.mono (by omega))).setCell (by simp) _, ?_, ?_, (h4.block (hX.block _ (by omega))).store (by simp) _, (h5.keep fun b hb hlt => hX.block b (by omega)).store (fun b hb => by simp; omega) _, some ⟨g2, 0, none⟩, cap2, k', u', ((h6.block (hX.block _ (by omega))).set 1 _).congr fun c hc => ?_, hL.store (by simp; omega) (by simp; omega) _⟩
  · have := hX.size; simp [World.setCell]; omega
  · have hb := World.cell?_of_block (w := X) (a := ⟨w.heap.size, 0, none⟩) (Below.heap_setCell X ⟨w.heap.size + 2, 1, none⟩ (.slice (some ⟨g2, 0, none⟩) (q + 1) cap2) w.heap.size (by simp))
    have hb' := World.cell?_of_block (w := X) (a := ⟨w.heap.size, 1, none⟩) (Below.heap_setCell X ⟨w.heap.size + 2, 1, none⟩ (.slice (some ⟨g2, 0, none⟩) (q + 1) cap2) w.heap.size (by simp))
    exact ⟨hb.trans ((hX.cell (p := ⟨w.heap.size, 0, none⟩) (by simp; omega)).trans h3.1), hb'.trans ((hX.cell (p := ⟨w.heap.size, 1, none⟩) (by simp; omega)).trans h3.2)⟩
  · have : c = 0 ∨ c = 1 := by omega
    rcases this with rfl | rfl <;> simp

/-- What the specification's copying of a disk comes to. -/
def L1CopySaid : Prop := ∀ (w : World) (aB aC : Option Addr) (nB cB nC cC : Nat) (bs : List (List Int)) (ps : List (Int × List Int)) (_hbl : bs.length = nB) (_hpl : ps.length = nC) (_g1 : nB ≤ 60) (_g2 : nC ≤ 200) (_hz : ∀ k : Nat, (bs[k]?.getD []).length ≤ 1048576) (_hzp : ∀ k : Nat, (ps[k]?.getD (0, [])).2.length ≤ 1048576) (_hB : AtS w aB nB bs) (_hP : AtP w aC nC ps),
    Calls Try.prog 82 #[.agg #[.slice aB nB cB, .slice aC nC cC]] w fun e w' => ∃ S aX cX aY cY k u, e = .returned (.agg #[.slice aX nB cX, .slice aY nC cY]) ∧ Below w.heap.size w w' ∧ w.heap.size ≤ S ∧ S ≤ w'.heap.size ∧ IntsSO w' (.slice aX nB cX) bs (fun c => w.heap.size ≤ c ∧ c < S) ∧ LRow (C2 fun i => (ps[i]?.getD (0, [])).1) w' S S 38 2 (.slice aY nC cY) nC (fun i => (ps[i]?.getD (0, [])).2) k u

end Go.Proofs.Ytmjdechoookpmaa

namespace Go.Proofs.Ytmjdechoookpmaa
open Go.RowKit
set_option maxRecDepth 100000

/-- Where the bits of a list lie. -/
def AtBs (w : World) (a : Option Addr) (n : Nat) (pb : List Bool) : Prop := ∀ k, k < n → ∃ b off, a = some ⟨b, off, none⟩ ∧ w.cell? ⟨b, off + k, none⟩ = some (.bool (pb[k]?.getD false))
theorem AtBs.later {w w' : World} {a : Option Addr} {n : Nat} {pb : List Bool} (h : AtBs w a n pb) (hb : Below w.heap.size w w') : AtBs w' a n pb := fun k hk => by
  obtain ⟨b, off, e, c⟩ := h k hk
  exact ⟨b, off, e, cell_later hb c⟩

set_option maxHeartbeats 3200000 in
theorem l1Keep_any (hcp : L1CopySaid) (w : World) (aB aC ap : Option Addr) (cB cC np cap : Nat) (all : Bool) (bs : List (List Int)) (ps : List (Int × List Int)) (pb : List Bool) (g1 : bs.length ≤ 60) (g2 : ps.length ≤ 200) (hz : ∀ k : Nat, (bs[k]?.getD []).length ≤ 1048576) (hzp : ∀ k : Nat, (ps[k]?.getD (0, [])).2.length ≤ 1048576) (hB : AtS w aB bs.length bs) (hP : AtP w aC ps.length ps)
    (hpl : ∀ k, k < ps.length → ∃ x : Nat, (ps[k]?.getD (0, [])).1 = x ∧ x < bs.length) (hpb : pb.length = np) (hA : AtBs w ap np pb) :
    Calls Try.prog 63 #[.agg #[.slice aB bs.length cB, .slice aC ps.length cC], .slice ap np cap, .bool all] w fun e w' => ∃ aX cX, e = .returned (.agg #[.slice aX bs.length cX, .slice none 0 0]) ∧ Below w.heap.size w w' ∧ IntsSO w' (.slice aX bs.length cX) (keepTo (fun i => all || pb[i]?.getD false) bs ps ps.length) (fresh w w') := by
  have HCP : Hid L1CopySaid := hcp
  have HZP : Hid (∀ k : Nat, (ps[k]?.getD (0, [])).2.length ≤ 1048576) := hzp
  have HZ : Hid (∀ k : Nat, (bs[k]?.getD []).length ≤ 1048576) := hz
  have HB : Hid (AtS w aB bs.length bs) := hB
  have HP : Hid (AtP w aC ps.length ps) := hP
  have HPL : Hid (∀ k, k < ps.length → ∃ x : Nat, (ps[k]?.getD (0, [])).1 = x ∧ x < bs.length) := hpl
  have HA : Hid (AtBs w ap np pb) := hA
  clear hcp hzp hz hB hP hpl hA
  go_enter Try.func63, Try.ntmps63
  go_wp2_with fail
  refine (HCP.out _ aB aC bs.length cB ps.length cC bs ps rfl rfl g1 g2 HZ.out HZP.out (HB.out.later (later2 _ _ _)) (HP.out.later (later2 _ _ _))).mono ?_
  rintro e w1 ⟨S, aX, cX, aY, cY, k, u, rfl, hb1, hS1, hS2, hio, hlr⟩
  have HW1 : Hid (Below w.heap.size w w1) := (later2 _ _ _).trans (hb1.mono (by simp; omega))
  have HX1 : Hid (Box2 w1 w.heap.size (.slice aB bs.length cB) (.slice aC ps.length cC)) := ((Box2.new _ _ _ _).later (later1 _ _)).later hb1
  have HR1 : Hid (OwnRow w1 (w.heap.size + 1) 2 (fun c => if c = 0 then .slice none 0 0 else .slice none 0 0)) := by
    have h := (OwnRow.two (w.alloc (.cells #[.slice aB bs.length cB, .slice aC ps.length cC] 27)) (.slice none 0 0) (.slice none 0 0) 27).later hb1
    unfold Hid
    simpa using h
  have HIO : Hid (IntsSO w1 (.slice aX bs.length cX) bs (fun c => w.heap.size + 2 ≤ c ∧ c < w1.heap.size)) := hio.mono fun b hb => ⟨by have := hb.1; simp at this; omega, by have := hb.2; omega⟩
  have hz1 : w.heap.size + 1 < w1.heap.size := HR1.out.lt
  clear hb1 hS1 hS2 hio hlr
  go_wp2_with fail
  go_loopw [8] (fun i wr => ∃ q : Nat, q ≤ ps.length ∧ i = .int .i64 q ∧ Below w.heap.size w wr ∧ w1.heap.size < wr.heap.size ∧ Box2 wr w.heap.size (.slice aB bs.length cB) (.slice aC ps.length cC) ∧ OwnRow wr (w.heap.size + 1) 2 (fun c => if c = 0 then .slice none 0 0 else .slice none 0 0) ∧ OwnRow wr w1.heap.size 2 (fun c => if c = 0 then .slice aX bs.length cX else .slice none 0 0) ∧
    IntsSO wr (.slice aX bs.length cX) (keepTo (fun i => all || pb[i]?.getD false) bs ps q) (fun c => w.heap.size + 2 ≤ c ∧ c < wr.heap.size ∧ c ≠ w1.heap.size)) (fun i _ => ps.length - (intOf i).toNat)
  case atStart =>
    refine ⟨0, Nat.zero_le _, rfl, HW1.out.trans ((later1 _ _).mono HW1.out.size), by simp, HX1.out.later (later1 _ _), HR1.out.later (later1 _ _), OwnRow.two w1 _ _ _, (HIO.out.keep (fun b _ hlt => (later1 _ _).block b hlt)).mono fun b hb => ⟨hb.1, by simp; omega, by omega⟩⟩
  case round =>
    obtain ⟨q, hq, rfl, hbw, hsz, hbx, hres, hout, his⟩ := hrel
    have HBW : Hid (Below w.heap.size w wr) := hbw
    have HBX : Hid (Box2 wr w.heap.size (.slice aB bs.length cB) (.slice aC ps.length cC)) := hbx
    have HRES : Hid (OwnRow wr (w.heap.size + 1) 2 (fun c => if c = 0 then .slice none 0 0 else .slice none 0 0)) := hres
    have HOUT : Hid (OwnRow wr w1.heap.size 2 (fun c => if c = 0 then .slice aX bs.length cX else .slice none 0 0)) := hout
    have HIS : Hid (IntsSO wr (.slice aX bs.length cX) (keepTo (fun i => all || pb[i]?.getD false) bs ps q) (fun c => w.heap.size + 2 ≤ c ∧ c < wr.heap.size ∧ c ≠ w1.heap.size)) := his
    clear hbw hbx hres hout his
    obtain ⟨b0, b1⟩ := HBX.out
    by_cases hlt : q < ps.length
    · obtain ⟨b, off, ua, ucap, e, c1, c2, i1⟩ := HP.out q hlt
      subst e
      have c0 := c1
      replace c1 := cell_later HBW.out c1
      replace c2 := cell_later HBW.out c2
      obtain ⟨x, hx, hxl⟩ := HPL.out q hlt
      rw [hx] at c1
      generalize hwd : (ps[q]?.getD (0, [])).2 = wd at c2 i1
      have HWD : Hid ((ps[q]?.getD (0, [])).2 = wd) := hwd
      have HLW : Hid (wd.length ≤ 1048576) := hwd ▸ HZP.out q
      have HXX : Hid ((ps[q]?.getD (0, [])).1 = (x : Int)) := hx
      have HI : Hid (Ints wr _ wd) := i1.later HBW.out
      clear i1 hwd hx
      have o0 := HOUT.out.cell (i := 0) (by omega)
      simp at o0
      obtain ⟨g, va, vn, vc, rfl, hFg, hgl, g1', g2'⟩ := HIS.out.cell (x := x) (by rw [keepTo_length]; exact hxl)
      have ST : ∀ {X : World} {v : Value}, Below wr.heap.size wr X → IntsO X v wd (fresh wr X) → Below w.heap.size w (X.setCell ⟨g, x, none⟩ v) ∧ w1.heap.size < (X.setCell ⟨g, x, none⟩ v).heap.size ∧ Box2 (X.setCell ⟨g, x, none⟩ v) w.heap.size (.slice aB bs.length cB) (.slice (some ⟨b, off, none⟩) ps.length cC) ∧ OwnRow (X.setCell ⟨g, x, none⟩ v) (w.heap.size + 1) 2 (fun c => if c = 0 then .slice none 0 0 else .slice none 0 0) ∧ OwnRow (X.setCell ⟨g, x, none⟩ v) w1.heap.size 2 (fun c => if c = 0 then .slice (some ⟨g, 0, none⟩) bs.length cX else .slice none 0 0) ∧
          IntsSO (X.setCell ⟨g, x, none⟩ v) (.slice (some ⟨g, 0, none⟩) bs.length cX) ((keepTo (fun i => all || pb[i]?.getD false) bs ps q).set ((x : Int)).toNat wd) (fun c => w.heap.size + 2 ≤ c ∧ c < (X.setCell ⟨g, x, none⟩ v).heap.size ∧ c ≠ w1.heap.size) := by
        intro X v hX hv
        have hXs := hX.size
        refine ⟨(HBW.out.trans (hX.mono HBW.out.size)).setCell (by simp; omega) _, by simp [World.setCell]; omega, (HBX.out.later hX).store (by simp; omega) _, (HRES.out.later hX).store (by simp; omega) _, (HOUT.out.later hX).store (by simp; omega) _, ?_⟩
        refine (HIS.out.set (x := x) (by rw [keepTo_length]; exact hxl) hX (fun b hb => hb.2.1) hv).mono fun c hc => ?_
        simp only [World.setCell, Array.size_modify]
        rcases hc with hc | hc
        · omega
        · have := hc.1; have := hc.2; omega
      have n1 : g ≠ w1.heap.size := hFg.2.2
      have n2 : g ≠ w.heap.size := by omega
      have n3 : g ≠ b := by have := World.block_lt_of_cell? _ _ c0; simp at this; omega
      have x0 : (0 : Int) ≤ (x : Int) := by omega
      have x1 : (x : Int) < (bs.length : Int) := by omega
      clear c0
      cases all
      · by_cases hqn : q < np
        · obtain ⟨b', off', e', c3⟩ := HA.out q hqn
          replace c3 := cell_later HBW.out c3
          subst e'
          cases hpk : pb[q]?.getD false
          · rw [hpk] at c3
            go_wp2
            go_roundw
            case rel => exact ⟨q + 1, by omega, by go_num, HBW.out, hsz, HBX.out, HRES.out, HOUT.out, by rw [keepTo_skip (by simp [hpk])]; exact HIS.out⟩
            case measure => simp [intOf]; omega
          · rw [hpk] at c3
            go_wp2_with fail
            go_region_held3 (fun W => W.cell? ⟨w1.heap.size, 0, none⟩ = some (.slice (some ⟨g, 0, none⟩) bs.length cX) ∧ W.cell? ⟨w.heap.size, 1, none⟩ = some (.slice (some ⟨b, off, none⟩) ps.length cC) ∧ W.cell? ⟨b, off + q * 2, none⟩ = some (.int .i64 (x : Int)) ∧ W.cell? ⟨b, off + q * 2 + 1, none⟩ = some (.slice ua wd.length ucap)) (go_keep) (first | (go_at_call 83; refine (l1Ints_more ?_ HLW.out).mono ?_; exact HI.out; rintro e w2 ⟨na, nc, rfl, hb2, ho2, hs2⟩; have d0 := cell_later hb2 o0; have d1 := cell_later hb2 g1'; have d2 := (hb2.frozen (p := ⟨g, x, none⟩) hgl).trans g2'; have d3 := cell_later hb2 b1; have d4 := cell_later hb2 c1; have d5 := cell_later hb2 c2; have HB2 : Hid (Below wr.heap.size wr w2) := (Below.refl _ _).drew.trans hb2; have HO2 : Hid (IntsO w2 (.slice na wd.length nc) wd (fresh wr w2)) := ho2; clear hb2 ho2 hs2))
            all_goals
              go_wp2
              go_roundw
              case rel =>
                refine ⟨q + 1, by omega, by go_num, ?_⟩
                rw [keepTo_step (by simp [hpk]), HXX.out, HWD.out]
                exact ST HB2.out HO2.out
              case measure => simp [intOf]; omega
        · have hpk : pb[q]?.getD false = false := by rw [List.getElem?_eq_none (by omega)]; rfl
          go_wp2
          go_roundw
          case rel => exact ⟨q + 1, by omega, by go_num, HBW.out, hsz, HBX.out, HRES.out, HOUT.out, by rw [keepTo_skip (by simp [hpk])]; exact HIS.out⟩
          case measure => simp [intOf]; omega
      · go_wp2_with fail
        go_region_held3 (fun W => W.cell? ⟨w1.heap.size, 0, none⟩ = some (.slice (some ⟨g, 0, none⟩) bs.length cX) ∧ W.cell? ⟨w.heap.size, 1, none⟩ = some (.slice (some ⟨b, off, none⟩) ps.length cC) ∧ W.cell? ⟨b, off + q * 2, none⟩ = some (.int .i64 (x : Int)) ∧ W.cell? ⟨b, off + q * 2 + 1, none⟩ = some (.slice ua wd.length ucap)) (go_keep) (first | (go_at_call 83; refine (l1Ints_more ?_ HLW.out).mono ?_; exact HI.out; rintro e w2 ⟨na, nc, rfl, hb2, ho2, hs2⟩; have d0 := cell_later hb2 o0; have d1 := cell_later hb2 g1'; have d2 := (hb2.frozen (p := ⟨g, x, none⟩) hgl).trans g2'; have d3 := cell_later hb2 b1; have d4 := cell_later hb2 c1; have d5 := cell_later hb2 c2; have HB2 : Hid (Below wr.heap.size wr w2) := (Below.refl _ _).drew.trans hb2; have HO2 : Hid (IntsO w2 (.slice na wd.length nc) wd (fresh wr w2)) := ho2; clear hb2 ho2 hs2))
        all_goals
          go_wp2
          go_roundw
          case rel =>
            refine ⟨q + 1, by omega, by go_num, ?_⟩
            rw [keepTo_step (by simp []), HXX.out, HWD.out]
            exact ST HB2.out HO2.out
          case measure => simp [intOf]; omega
    · have e : q = ps.length := by omega
      subst e
      have o0 := HOUT.out.cell (i := 0) (by omega)
      have o1 := HOUT.out.cell (i := 1) (by omega)
      simp at o0 o1
      have r0 := HRES.out.cell (i := 0) (by omega)
      have r1 := HRES.out.cell (i := 1) (by omega)
      have s0 := HRES.out.frozen 0
      have s1 := HRES.out.frozen 1
      simp at r0 r1
      go_wp2
      refine bodyPost_ret (v := .agg #[.slice aX bs.length cX, .slice none 0 0]) (by simp [results, Try.results63, go_sem, r0, r1]) rfl ⟨_, _, rfl, (HBW.out.setCell (by simp) _).setCell (by simp) _, ?_⟩
      refine ((HIS.out.store (fun b hb => by simp; omega) _).store (fun b hb => by simp; omega) _).mono fun b hb => ⟨by omega, ?_⟩
      simp only [World.setCell, Array.size_modify]
      omega
end Go.Proofs.Ytmjdechoookpmaa

namespace Go.Proofs.Ytmjdechoookpmaa
open Go.RowKit
set_option maxRecDepth 100000

/-- What 'append' of one element comes to, and where the row lies behind it. -/
theorem LRow.append2 {C : Nat → Value → List Value} (w w1 : World) (t ty e : TypeId) (i : TypeInfo) (z : Value) (size bytes : Nat) (ht : Try.prog.underlying t = some (.slice e)) (hi : Try.prog.info? e = some i) (hz : i.zero = some z) (hsize : i.size = size) (hby : i.bytes = bytes) (hzs : z.cells.size = size) (hsz : 0 < size) (hbb : bytes ≤ 1000)
    (base lo n : Nat) (v : Value) (f : Nat → List Int) (k : Nat → Nat) (u : Nat → Value) (h : LRow C w base lo e size v n f k u) (hb : base ≤ w.heap.size) (hn : n ≤ 100000) (hb1 : Below w.heap.size w w1)
    (a : Option Addr) (c : Nat) (hlen : (C n (.slice a (f n).length c)).length = size) (hone : ∀ x ∈ C n (.slice a (f n).length c), x.oneCell' = true) (kb : Nat) (hk1 : lo ≤ kb) (hk2 : kb < w1.heap.size) (hk3 : v.ownBlock ≠ some kb) (hk4 : ∀ i, i < n → k i ≠ kb) (hf : IntsO w1 (.slice a (f n).length c) (f n) (fun x => x = kb)) :
    ∃ g cap X, (Builtin.append_ #[t, t] ty #[v, .slice (some ⟨w1.heap.size, 0, none⟩) 1 1]).run Try.prog (w1.alloc (.cells (C n (.slice a (f n).length c)).toArray e)) = .ok (.slice (some ⟨g, 0, none⟩) (n + 1) cap) X ∧
      (∀ b, b < w1.heap.size → v.ownBlock ≠ some b → X.heap[b]? = w1.heap[b]?) ∧ Below base w X ∧ w1.heap.size < X.heap.size ∧ (v.ownBlock = some g ∨ w1.heap.size < g) ∧
      LRow C X base lo e size (.slice (some ⟨g, 0, none⟩) (n + 1) cap) (n + 1) f (fun j => if j = n then kb else k j) (fun j => if j = n then .slice a (f n).length c else u j) := by
  have hsz1 := hb1.size
  have hbW : Below w.heap.size w (w1.alloc (.cells (C n (.slice a (f n).length c)).toArray e)) := hb1.trans ((later1 _ _).mono hb1.size)
  have hW := h.later hbW
  obtain ⟨g, cap, X, hr, ho, hg, hat, hgX⟩ := run_append_lies (P := Try.prog) (w1.alloc (.cells (C n (.slice a (f n).length c)).toArray e)) t ty base e i z size bytes ht hi hz hsize hby hzs hsz v n _ hW.own ⟨w1.heap.size, 0, none⟩ 1 1 (C n (.slice a (f n).length c)) (by rw [hlen, Nat.one_mul])
    (fun j x hx => by
      rw [add_plain', Nat.zero_add, new_cell]
      simpa using hx) hone (by decide) (by unfold maxLen; omega) (by have : (n + 1) * bytes ≤ 100001 * 1000 := Nat.mul_le_mul (by omega) hbb; omega) (by simp; omega) (w1.heap.size + 1) (by simp)
  have hrow : ∀ g, v.ownBlock = some g → g < w.heap.size := fun g hg => (h.own.lt g hg).2
  have hrowb : ∀ g, v.ownBlock = some g → base ≤ g := fun g hg => (h.own.lt g hg).1
  have hXb : ∀ b, b < w1.heap.size → v.ownBlock ≠ some b → X.heap[b]? = w1.heap[b]? := fun b hb' hne => (hg.block b (by simp; omega) (fun e => hne e.symm)).trans ((later1 _ _).block b hb')
  have hne : ∀ b, b < w1.heap.size → v.ownBlock ≠ some b → g ≠ b := by
    intro b hb' hb2 e
    subst e
    rcases hat with h | h
    · exact hb2 h
    · omega
  have old : ∀ b, b < w.heap.size → v.ownBlock ≠ some b → X.heap[b]? = w.heap[b]? := fun b hb' hne => (hXb b (by omega) hne).trans (hb1.block b hb')
  have hXs : w1.heap.size < X.heap.size := by have := hg.size; simp at this; omega
  refine ⟨g, cap, X, hr, hXb, (hbW.mono hb).trans (below_grown hg (by simp; omega) (fun g hg' => hrowb g hg')), hXs, hat.imp_right (fun h => by omega), ⟨?_, fun j hj => ?_, fun j hj => ?_, fun j j' hj hj' e => ?_, fun j hj => ?_, fun j hj => ?_⟩⟩
  · rw [List.range_succ, List.flatMap_append]
    have e1 : (List.range n).flatMap (fun i => C i (if i = n then .slice a (f n).length c else u i)) = (List.range n).flatMap (fun i => C i (u i)) := by
      have e0 : (List.range n).map (fun i => C i (if i = n then .slice a (f n).length c else u i)) = (List.range n).map (fun i => C i (u i)) := List.map_congr_left fun i hi => by rw [if_neg (by have := List.mem_range.1 hi; omega)]
      rw [List.flatMap_def, List.flatMap_def, e0]
    have e2 : [n].flatMap (fun i => C i (if i = n then .slice a (f n).length c else u i)) = C n (.slice a (f n).length c) := by simp only [List.flatMap_cons, List.flatMap_nil, List.append_nil, if_true]
    rw [e1, e2]
    exact ho
  · by_cases e : j = n
    · subst e; simp; omega
    · have := h.lo j (by omega); simp [e]; omega
  · by_cases e : j = n
    · subst e
      simp only [if_true]
      exact fun e => hne kb hk2 hk3 (by simpa [Value.ownBlock] using e)
    · have hj' : j < n := by omega
      have hl := h.lo j hj'
      simp only [e, if_false]
      exact fun e => hne (k j) (by omega) (h.ne j hj') (by simpa [Value.ownBlock] using e)
  · by_cases e1 : j = n
    · by_cases e2 : j' = n
      · omega
      · simp [e1, e2]; exact fun e => hk4 j' (by omega) e.symm
    · by_cases e2 : j' = n
      · simp [e1, e2]; exact hk4 j (by omega)
      · simp [e1, e2]; exact h.inj j j' (by omega) (by omega) e
  · by_cases e : j = n
    · subst e; exact ⟨a, c, by simp⟩
    · simp only [e, if_false]; exact h.sh j (by omega)
  · by_cases e : j = n
    · subst e
      simp only [if_true]
      exact hf.keep fun b hb' hlt' => by rw [hb']; exact hXb kb hk2 hk3
    · have hj' : j < n := by omega
      simp only [e, if_false]
      exact (h.at' j hj').keep fun b hb' hlt' => by rw [hb']; exact old _ (h.lo j hj').2 (h.ne j hj')


theorem LRow.congr2 {a a' : Nat → Int} {w : World} {base lo : Nat} {e : TypeId} {size : Nat} {v : Value} {n : Nat} {f f' : Nat → List Int} {k : Nat → Nat} {u : Nat → Value} (h : LRow (C2 a) w base lo e size v n f k u) (ha : ∀ i, i < n → a i = a' i) (hf : ∀ i, i < n → f i = f' i) : LRow (C2 a') w base lo e size v n f' k u := by
  refine ⟨?_, h.lo, h.ne, h.inj, fun i hi => by rw [← hf i hi]; exact h.sh i hi, fun i hi => by rw [← hf i hi]; exact h.at' i hi⟩
  have e0 : (List.range n).map (fun i => C2 a i (u i)) = (List.range n).map (fun i => C2 a' i (u i)) := List.map_congr_left fun i hi => by unfold C2; rw [ha i (List.mem_range.1 hi)]
  have := h.own
  rw [List.flatMap_def, e0, ← List.flatMap_def] at this
  exact this

/-- The copy of a put's words, and what appending that put comes to: in one contract; blocks that are neither the row's nor new stay. -/
theorem l1Ints_put2 (wr : World) (S q : Nat) (v uv : Value) (f : Nat → Int × List Int) (k : Nat → Nat) (u : Nat → Value) (hLR : LRow (C2 fun i => (f i).1) wr S S 38 2 v q (fun i => (f i).2) k u) (hsq : S ≤ wr.heap.size) (hq : q ≤ 100000) (hi : Ints wr uv (f q).2) (hl : (f q).2.length ≤ 1048576) :
    Calls Try.prog 83 #[uv] wr.drew fun e w1 => ∃ na nc g2 cap2 X k' u', e = .returned (.slice na (f q).2.length nc) ∧
      Hid ((Builtin.append_ #[25, 25] 25 #[v, .slice (some ⟨w1.heap.size, 0, none⟩) 1 1]).run Try.prog (w1.alloc (.cells #[.int .i64 (f q).1, .slice na (f q).2.length nc] 38)) = .ok (.slice (some ⟨g2, 0, none⟩) (q + 1) cap2) X) ∧
      Below wr.heap.size wr w1 ∧ (∀ b, b < wr.heap.size → v.ownBlock ≠ some b → X.heap[b]? = wr.heap[b]?) ∧ wr.heap.size ≤ X.heap.size ∧ (v.ownBlock = some g2 ∨ wr.heap.size < g2) ∧ (∀ i, i < q + 1 → k' i = k i ∧ i < q ∨ wr.heap.size ≤ k' i) ∧ Below S wr X ∧ Hid (LRow (C2 fun i => (f i).1) X S S 38 2 (.slice (some ⟨g2, 0, none⟩) (q + 1) cap2) (q + 1) (fun i => (f i).2) k' u') := by
  refine (l1Ints_more (w := wr.drew) hi hl).mono ?_
  rintro e w1 ⟨na, nc, rfl, hb1, ho1, hs1⟩
  obtain ⟨kb, hk1, hk2, hkf⟩ := ho1.one hs1
  obtain ⟨ti, hi, h1, h2, h3⟩ := Try.infoPut'
  have hk1' : wr.heap.size ≤ kb := hk1
  have hs1' : wr.heap.size < w1.heap.size := hs1
  obtain ⟨g2, cap2, X, hr, hXb, hBX, hXs, hat, hLX⟩ := LRow.append2 wr w1 25 25 38 ti _ 2 32 Try.underlying25 hi h1 h2 h3 rfl (by decide) (by decide) S S q _ _ k u hLR hsq hq ((Below.refl _ _).drew.trans hb1) na nc rfl (fun x hx => by simp [C2] at hx; rcases hx with rfl | rfl <;> rfl) kb (Nat.le_trans hsq hk1') hk2 (fun e => by have := (hLR.own.lt _ e).2; omega) (fun i hi e => by have := (hLR.lo i hi).2; omega) hkf
  refine ⟨na, nc, g2, cap2, X, _, _, rfl, hr, (Below.refl _ _).drew.trans hb1, fun b hb hne => (hXb b (by omega) hne).trans (hb1.block b hb), by omega, hat.imp_right (fun h => by omega), fun i hi => ?_, hBX, hLX⟩
  by_cases e : i = q
  · right; simp [e]; exact hk1'
  · left; simp [e]; omega

end Go.Proofs.Ytmjdechoookpmaa
