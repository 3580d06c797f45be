/- The walk of the program's drive.disk: the cache of pointers becomes a list of puts. The walk of the specification's copying of a disk. Rows that grow by append: where the row lies behind it; and rows told otherwise. The walks of the program's look at a block. The walk of the specification's PutBlock. -/
import Derived.Test.YtomcejofhfngkaaM06
import Derived.Test.YtomcejofhfngkaaM04
namespace Go.Proofs.Ytomcejofhfngkaa
open Go.RowKit
set_option maxRecDepth 100000

theorem Try.infoPut' : ∃ i, Try.prog.info? 71 = some i ∧ i.zero = some (.agg #[.int .i64 0, .slice none 0 0]) ∧ i.size = 2 ∧ i.bytes = 32 := by
  obtain ⟨i, hi, h⟩ := Option.map_eq_some_iff.1 Try.infoPut
  simp only [Prod.mk.injEq] at h
  exact ⟨i, hi, h.1, h.2.1, h.2.2⟩
theorem Try.infoInts' : ∃ i, Try.prog.info? 26 = some i ∧ i.zero = some (.slice none 0 0) ∧ i.size = 1 ∧ i.bytes = 24 := by
  obtain ⟨i, hi, h⟩ := Option.map_eq_some_iff.1 Try.infoInts
  simp only [Prod.mk.injEq] at h
  exact ⟨i, hi, h.1, h.2.1, h.2.2⟩
theorem upd_nat (k : Nat → Nat) (n : Nat) : (fun j => if j = n then k n else k j) = k := by
  funext j; by_cases h : j = n
  · simp [h]
  · simp [h]
theorem upd_val (k : Nat → Value) (n : Nat) : (fun j => if j = n then k n else k j) = k := by
  funext j; by_cases h : j = n
  · simp [h]
  · simp [h]

/-- Where the pointer to put i lies, and the put itself. -/
theorem Cache.ptr {w : World} {base n c : Nat} {a : Option Addr} {f : Nat → Int × List Int} {pb k : Nat → Nat} {u : Nat → Value} (h : Cache w base (.slice a n c) n f pb k u) {i : Nat} (hi : i < n) :
    ∃ g ua uc, a = some ⟨g, 0, none⟩ ∧ w.cell? ⟨g, i, none⟩ = some (.pointer (some ⟨pb i, 0, none⟩)) ∧ w.cell? ⟨pb i, 0, none⟩ = some (.int .i64 (f i).1) ∧ w.cell? ⟨pb i, 1, none⟩ = some (.slice ua (f i).2.length uc) ∧ u i = .slice ua (f i).2.length uc := by
  obtain ⟨g, cap, e, _, _, _, hrow⟩ := ownsRow_row h.own (by omega)
  simp only [Value.slice.injEq, true_and] at e
  obtain ⟨ua, uc, hu⟩ := h.sh i hi
  have hb := h.box i hi
  have b0 := hb.cell (i := 0) (by omega)
  have b1 := hb.cell (i := 1) (by omega)
  simp at b0 b1
  rw [hu] at b1
  refine ⟨g, ua, uc, e.1, ?_, b0, b1, hu⟩
  rw [hrow.cell hi]
  simp [hi]

theorem ownsRow_le {w : World} {base base' : Nat} {e : TypeId} {size : Nat} {v : Value} {n : Nat} {xs : List Value} (h : w.ownsRow base e size v n xs) (hb : base' ≤ base) : w.ownsRow base' e size v n xs := by
  obtain ⟨h1, h2⟩ := h
  refine ⟨h1, ?_⟩
  rcases h2 with h2 | ⟨g, cap, cur, hv, hg, r⟩
  · exact Or.inl h2
  · exact Or.inr ⟨g, cap, cur, hv, by omega, r⟩

set_option maxHeartbeats 3200000 in
theorem disk_any (w : World) (bd base n : Nat) (aB : Option Addr) (nB cB : Nat) (aP : Option Addr) (cP : Nat) (f : Nat → Int × List Int) (pb k : Nat → Nat) (u : Nat → Value) (hn : n ≤ 1000) (hd : OwnRow w bd 2 (fun c => if c = 0 then .slice aB nB cB else .slice aP n cP)) (hc : Cache w base (.slice aP n cP) n f pb k u) :
    Calls Try.prog 55 #[.pointer (some ⟨bd, 0, none⟩)] w fun e w' => ∃ aC cC, e = .returned (.agg #[.slice aB nB cB, .slice aC n cC]) ∧ Below w.heap.size w w' ∧ LRow (C2 fun i => (f i).1) w' w.heap.size base 71 2 (.slice aC n cC) n (fun i => (f i).2) k u := by
  have HC : Hid (Cache w base (.slice aP n cP) n f pb k u) := hc
  have d0 := hd.cell (i := 0) (by omega)
  have d1 := hd.cell (i := 1) (by omega)
  simp at d0 d1
  have hlt : bd < w.heap.size := hd.lt
  clear hd hc
  obtain ⟨ti, hi, h1, h2, h3⟩ := Try.infoPut'
  have HI : Hid (Try.prog.info? 71 = some ti ∧ ti.zero = some (.agg #[.int .i64 0, .slice none 0 0]) ∧ ti.size = 2 ∧ ti.bytes = 32) := ⟨hi, h1, h2, h3⟩
  clear hi h1 h2 h3
  go_enter Try.func55, Try.ntmps55
  go_wp2_with fail
  go_loopw [17] (fun i wr => ∃ j : Nat, j ≤ n ∧ i = .int .i64 j ∧ Below w.heap.size w wr ∧ w.heap.size + 2 ≤ wr.heap.size ∧ OwnRow wr w.heap.size 2 (fun c => if c = 0 then .slice none 0 0 else .slice none 0 0) ∧
    ∃ aC cC, OwnRow wr (w.heap.size + 1) 2 (fun c => if c = 0 then .slice aB nB cB else .slice aC j cC) ∧ LRow (C2 fun i => (f i).1) wr (w.heap.size + 2) base 71 2 (.slice aC j cC) j (fun i => (f i).2) k u) (fun i _ => n - (intOf i).toNat)
  case atStart =>
    refine ⟨0, Nat.zero_le _, rfl, later2 _ _ _, by simp, (OwnRow.two w _ _ _).later (later1 _ _), none, 0, by simpa using OwnRow.two (w.alloc (.cells #[.slice none 0 0, .slice none 0 0] 30)) (.slice aB nB cB) (.slice none 0 0) 30, ?_⟩
    exact ⟨World.ownsRow_nil _ _ _ _, fun i hi => by omega, fun i hi => by omega, fun i j hi => by omega, fun i hi => by omega, fun i hi => by omega⟩
  case round =>
    obtain ⟨j, hj, rfl, hbw, hsz, hres, aC, cC, hrow, hlr⟩ := hrel
    have HBW : Hid (Below w.heap.size w wr) := hbw
    have HRES : Hid (OwnRow wr w.heap.size 2 (fun c => if c = 0 then .slice none 0 0 else .slice none 0 0)) := hres
    have HROW : Hid (OwnRow wr (w.heap.size + 1) 2 (fun c => if c = 0 then .slice aB nB cB else .slice aC j cC)) := hrow
    have HLR : Hid (LRow (C2 fun i => (f i).1) wr (w.heap.size + 2) base 71 2 (.slice aC j cC) j (fun i => (f i).2) k u) := hlr
    clear hbw hres hrow hlr
    by_cases hjn : j < n
    · obtain ⟨g, ua, uc, e, p0, p1, p2, hu⟩ := HC.out.ptr hjn
      subst e
      replace p0 := cell_later HBW.out p0
      replace p1 := cell_later HBW.out p1
      replace p2 := cell_later HBW.out p2
      have hat := (HC.out.at' j hjn).keep (w' := wr.drew) fun b hb hl => by rw [hb]; exact HBW.out.block _ (HC.out.lo j hjn).2.2
      rw [hu] at hat
      obtain ⟨hi, h1, h2, h3⟩ := HI.out
      have hklt := (HC.out.lo j hjn).2.2
      have hap := LRow.append wr wr.drew 28 28 71 ti _ 2 32 Try.underlying28 hi h1 h2 h3 rfl (by decide) (by decide) (w.heap.size + 2) base j _ _ k u HLR.out hsz (by omega) (Below.refl _ _).drew ua uc rfl (fun x hx => by simp [C2] at hx; rcases hx with rfl | rfl <;> rfl) (k j) (HC.out.lo j hjn).2.1 (by show k j < wr.heap.size; have := HBW.out.size; omega)
        (fun e => by have := (HLR.out.own.lt _ e).1; omega) (fun i hi => HC.out.inj i j (by omega) hjn (by omega)) hat
      rw [← hu, upd_nat, upd_val] at hap
      obtain ⟨g2, cap2, X, hr, hXb, hBX, hXs, hLX⟩ := hap
      rw [hu] at hr
      have HR : Hid (_ = _) := hr
      have HBX : Hid (Below (w.heap.size + 2) wr X) := hBX
      have HLX : Hid (LRow (C2 fun i => (f i).1) X (w.heap.size + 2) base 71 2 (.slice (some ⟨g2, 0, none⟩) (j + 1) cap2) (j + 1) (fun i => (f i).2) k u) := hLX
      have HROWX : Hid (OwnRow X (w.heap.size + 1) 2 (fun c => if c = 0 then .slice aB nB cB else .slice aC j cC)) := HROW.out.block (hBX.block _ (by omega))
      have HRESX : Hid (OwnRow X w.heap.size 2 (fun c => if c = 0 then .slice none 0 0 else .slice none 0 0)) := HRES.out.block (hBX.block _ (by omega))
      have q1 := HROW.out.cell (i := 1) (by omega)
      have x1 := HROWX.out.cell (i := 1) (by omega)
      have x2 := HROWX.out.frozen 1
      have hbig : w.heap.size + 1 < wr.heap.size := by omega
      simp at q1 x1
      clear hr hXb hBX hLX hat hi h1 h2 h3 hu hXs
      go_wp2_with fail
      go_region_law (refine step_append_run rfl _ _ 28 rfl _ _ rfl rfl _ _ HR.out ?_)
      all_goals
        go_wp2
        go_roundw
        case rel =>
          refine ⟨j + 1, by omega, by go_num, (HBW.out.trans (HBX.out.mono (by omega))).setCell (by simp) _, ?_, HRESX.out.store (by simp) _, some ⟨g2, 0, none⟩, cap2, (HROWX.out.set 1 _).congr fun c hc => ?_, HLX.out.keep (by simp [World.setCell]) (fun g hg => Below.heap_setCell _ _ _ _ (by have := (HLX.out.own.lt g hg).1; simp; omega)) (fun i hi => Below.heap_setCell _ _ _ _ (by have := (HC.out.lo i (by omega)).2.2; simp; omega))⟩
          · have := HBX.out.size; simp [World.setCell]; omega
          · have : c = 0 ∨ c = 1 := by omega
            rcases this with rfl | rfl <;> simp
        case measure => simp [intOf]; omega
    · have q0 := HROW.out.cell (i := 0) (by omega)
      have q1 := HROW.out.cell (i := 1) (by omega)
      have r0 := HRES.out.cell (i := 0) (by omega)
      have r1 := HRES.out.cell (i := 1) (by omega)
      have r2 := HRES.out.frozen 0
      have r3 := HRES.out.frozen 1
      simp at q0 q1 r0 r1
      have e : j = n := by omega
      subst e
      go_wp2
      refine bodyPost_ret (v := .agg #[.slice aB nB cB, .slice aC j cC]) (by simp [results, Try.results55, go_sem, r0, r1]) rfl ⟨aC, cC, rfl, (HBW.out.setCell (Nat.le_refl _) _).setCell (Nat.le_refl _) _, ?_⟩
      have h := HLR.out.keep (w' := (wr.setCell ⟨w.heap.size, 0, none⟩ (.slice aB nB cB)).setCell ⟨w.heap.size, 1, none⟩ (.slice aC j cC)) (by simp [World.setCell]) (fun g hg => (Below.heap_setCell _ _ _ _ (by have := (HLR.out.own.lt g hg).1; simp; omega)).trans (Below.heap_setCell _ _ _ _ (by have := (HLR.out.own.lt g hg).1; simp; omega))) (fun i hi => (Below.heap_setCell _ _ _ _ (by have := (HC.out.lo i hi).2.2; simp; omega)).trans (Below.heap_setCell _ _ _ _ (by have := (HC.out.lo i hi).2.2; simp; omega)))
      exact ⟨ownsRow_le h.own (by omega), h.lo, h.ne, h.inj, h.sh, h.at'⟩
end Go.Proofs.Ytomcejofhfngkaa

namespace Go.Proofs.Ytomcejofhfngkaa
open Go.RowKit
set_option maxRecDepth 100000

/-- The copy of a put's words, and what appending that put comes to: in one contract. -/
theorem l1Ints_put (wr : World) (S q : Nat) (v uv : Value) (f : Nat → Int × List Int) (k : Nat → Nat) (u : Nat → Value) (hLR : LRow (C2 fun i => (f i).1) wr S S 71 2 v q (fun i => (f i).2) k u) (hsq : S ≤ wr.heap.size) (hq : q ≤ 100000) (hi : Ints wr uv (f q).2) (hl : (f q).2.length ≤ 1048576) :
    Calls Try.prog 47 #[uv] wr.drew fun e w1 => ∃ na nc g2 cap2 X k' u', e = .returned (.slice na (f q).2.length nc) ∧
      Hid ((Builtin.append_ #[28, 28] 28 #[v, .slice (some ⟨w1.heap.size, 0, none⟩) 1 1]).run Try.prog (w1.alloc (.cells #[.int .i64 (f q).1, .slice na (f q).2.length nc] 71)) = .ok (.slice (some ⟨g2, 0, none⟩) (q + 1) cap2) X) ∧
      Below wr.heap.size wr w1 ∧ Below S wr X ∧ Hid (LRow (C2 fun i => (f i).1) X S S 71 2 (.slice (some ⟨g2, 0, none⟩) (q + 1) cap2) (q + 1) (fun i => (f i).2) k' u') := by
  refine (l1Ints_more (w := wr.drew) hi hl).mono ?_
  rintro e w1 ⟨na, nc, rfl, hb1, ho1, hs1⟩
  obtain ⟨kb, hk1, hk2, hkf⟩ := ho1.one hs1
  obtain ⟨ti, hi, h1, h2, h3⟩ := Try.infoPut'
  have hk1' : wr.heap.size ≤ kb := hk1
  obtain ⟨g2, cap2, X, hr, _, hBX, _, hLX⟩ := LRow.append wr w1 28 28 71 ti _ 2 32 Try.underlying28 hi h1 h2 h3 rfl (by decide) (by decide) S S q _ _ k u hLR hsq hq ((Below.refl _ _).drew.trans hb1) na nc rfl (fun x hx => by simp [C2] at hx; rcases hx with rfl | rfl <;> rfl) kb (Nat.le_trans hsq hk1') hk2 (fun e => by have := (hLR.own.lt _ e).2; omega) (fun i hi e => by have := (hLR.lo i hi).2; omega) hkf
  exact ⟨na, nc, g2, cap2, X, _, _, rfl, hr, (Below.refl _ _).drew.trans hb1, hBX, hLX⟩

/-- What stands at the head of each round of the second loop. -/
def Copy2 (w : World) (S : Nat) (aB aC aX : Option Addr) (j cB nC cC cX : Nat) (bs : List (List Int)) (ps : List (Int × List Int)) (wq : World) (q : Nat) : Prop :=
  Below w.heap.size w wq ∧ S ≤ wq.heap.size ∧ Box2 wq w.heap.size (.slice aB j cB) (.slice aC nC cC) ∧ OwnRow wq (w.heap.size + 1) 2 (fun c => if c = 0 then .slice none 0 0 else .slice none 0 0) ∧ IntsSO wq (.slice aX j cX) bs (fun c => w.heap.size + 3 ≤ c ∧ c < S) ∧
    ∃ aY cY k u, OwnRow wq (w.heap.size + 2) 2 (fun c => if c = 0 then .slice aX j cX else .slice aY q cY) ∧ LRow (C2 fun i => (ps[i]?.getD (0, [])).1) wq S S 71 2 (.slice aY q cY) q (fun i => (ps[i]?.getD (0, [])).2) k u
theorem Copy2.next {w : World} {S : Nat} {aB aC aX : Option Addr} {j cB nC cC cX : Nat} {bs : List (List Int)} {ps : List (Int × List Int)} {wr X : World} {q g2 cap2 : Nat} {k' : Nat → Nat} {u' : Nat → Value} (hS : w.heap.size + 3 ≤ S)
    (h : Copy2 w S aB aC aX j cB nC cC cX bs ps wr q) (hX : Below S wr X) (hL : LRow (C2 fun i => (ps[i]?.getD (0, [])).1) X S S 71 2 (.slice (some ⟨g2, 0, none⟩) (q + 1) cap2) (q + 1) (fun i => (ps[i]?.getD (0, [])).2) k' u') :
    Copy2 w S aB aC aX j cB nC cC cX bs ps (X.setCell ⟨w.heap.size + 2, 1, none⟩ (.slice (some ⟨g2, 0, none⟩) (q + 1) cap2)) (q + 1) := by
  obtain ⟨h1, h2, h3, h4, h5, aY, cY, k, u, h6, h7⟩ := h
  refine ⟨(h1.trans (hX.mono (by omega))).setCell (by simp) _, ?_, ?_, (h4.block (hX.block _ (by omega))).store (by simp) _, (h5.keep fun b hb hlt => hX.block b (by omega)).store (fun b hb => by simp; omega) _, some ⟨g2, 0, none⟩, cap2, k', u', ((h6.block (hX.block _ (by omega))).set 1 _).congr fun c hc => ?_, hL.store (by simp; omega) (by simp; omega) _⟩
  · have := hX.size; simp [World.setCell]; omega
  · have hb := World.cell?_of_block (w := X) (a := ⟨w.heap.size, 0, none⟩) (Below.heap_setCell X ⟨w.heap.size + 2, 1, none⟩ (.slice (some ⟨g2, 0, none⟩) (q + 1) cap2) w.heap.size (by simp))
    have hb' := World.cell?_of_block (w := X) (a := ⟨w.heap.size, 1, none⟩) (Below.heap_setCell X ⟨w.heap.size + 2, 1, none⟩ (.slice (some ⟨g2, 0, none⟩) (q + 1) cap2) w.heap.size (by simp))
    exact ⟨hb.trans ((hX.cell (p := ⟨w.heap.size, 0, none⟩) (by simp; omega)).trans h3.1), hb'.trans ((hX.cell (p := ⟨w.heap.size, 1, none⟩) (by simp; omega)).trans h3.2)⟩
  · have : c = 0 ∨ c = 1 := by omega
    rcases this with rfl | rfl <;> simp

/-- What the specification's copying of a disk comes to. -/
def L1CopySaid : Prop := ∀ (w : World) (aB aC : Option Addr) (nB cB nC cC : Nat) (bs : List (List Int)) (ps : List (Int × List Int)) (_hbl : bs.length = nB) (_hpl : ps.length = nC) (_g1 : nB ≤ 60) (_g2 : nC ≤ 200) (_hz : ∀ k : Nat, (bs[k]?.getD []).length ≤ 1048576) (_hzp : ∀ k : Nat, (ps[k]?.getD (0, [])).2.length ≤ 1048576) (_hB : AtS w aB nB bs) (_hP : AtP w aC nC ps),
    Calls Try.prog 46 #[.agg #[.slice aB nB cB, .slice aC nC cC]] w fun e w' => ∃ S aX cX aY cY k u, e = .returned (.agg #[.slice aX nB cX, .slice aY nC cY]) ∧ Below w.heap.size w w' ∧ w.heap.size ≤ S ∧ S ≤ w'.heap.size ∧ IntsSO w' (.slice aX nB cX) bs (fun c => w.heap.size ≤ c ∧ c < S) ∧ LRow (C2 fun i => (ps[i]?.getD (0, [])).1) w' S S 71 2 (.slice aY nC cY) nC (fun i => (ps[i]?.getD (0, [])).2) k u

end Go.Proofs.Ytomcejofhfngkaa

namespace Go.Proofs.Ytomcejofhfngkaa
open Go.RowKit
set_option maxRecDepth 100000

/-- What 'append' of one element comes to, and where the row lies behind it. -/
theorem LRow.append2 {C : Nat → Value → List Value} (w w1 : World) (t ty e : TypeId) (i : TypeInfo) (z : Value) (size bytes : Nat) (ht : Try.prog.underlying t = some (.slice e)) (hi : Try.prog.info? e = some i) (hz : i.zero = some z) (hsize : i.size = size) (hby : i.bytes = bytes) (hzs : z.cells.size = size) (hsz : 0 < size) (hbb : bytes ≤ 1000)
    (base lo n : Nat) (v : Value) (f : Nat → List Int) (k : Nat → Nat) (u : Nat → Value) (h : LRow C w base lo e size v n f k u) (hb : base ≤ w.heap.size) (hn : n ≤ 100000) (hb1 : Below w.heap.size w w1)
    (a : Option Addr) (c : Nat) (hlen : (C n (.slice a (f n).length c)).length = size) (hone : ∀ x ∈ C n (.slice a (f n).length c), x.oneCell' = true) (kb : Nat) (hk1 : lo ≤ kb) (hk2 : kb < w1.heap.size) (hk3 : v.ownBlock ≠ some kb) (hk4 : ∀ i, i < n → k i ≠ kb) (hf : IntsO w1 (.slice a (f n).length c) (f n) (fun x => x = kb)) :
    ∃ g cap X, (Builtin.append_ #[t, t] ty #[v, .slice (some ⟨w1.heap.size, 0, none⟩) 1 1]).run Try.prog (w1.alloc (.cells (C n (.slice a (f n).length c)).toArray e)) = .ok (.slice (some ⟨g, 0, none⟩) (n + 1) cap) X ∧
      (∀ b, b < w1.heap.size → v.ownBlock ≠ some b → X.heap[b]? = w1.heap[b]?) ∧ Below base w X ∧ w1.heap.size < X.heap.size ∧ (v.ownBlock = some g ∨ w1.heap.size < g) ∧
      LRow C X base lo e size (.slice (some ⟨g, 0, none⟩) (n + 1) cap) (n + 1) f (fun j => if j = n then kb else k j) (fun j => if j = n then .slice a (f n).length c else u j) := by
  have hsz1 := hb1.size
  have hbW : Below w.heap.size w (w1.alloc (.cells (C n (.slice a (f n).length c)).toArray e)) := hb1.trans ((later1 _ _).mono hb1.size)
  have hW := h.later hbW
  obtain ⟨g, cap, X, hr, ho, hg, hat, hgX⟩ := run_append_lies (P := Try.prog) (w1.alloc (.cells (C n (.slice a (f n).length c)).toArray e)) t ty base e i z size bytes ht hi hz hsize hby hzs hsz v n _ hW.own ⟨w1.heap.size, 0, none⟩ 1 1 (C n (.slice a (f n).length c)) (by rw [hlen, Nat.one_mul])
    (fun j x hx => by
      rw [add_plain', Nat.zero_add, new_cell]
      simpa using hx) hone (by decide) (by unfold maxLen; omega) (by have : (n + 1) * bytes ≤ 100001 * 1000 := Nat.mul_le_mul (by omega) hbb; omega) (by simp; omega) (w1.heap.size + 1) (by simp)
  have hrow : ∀ g, v.ownBlock = some g → g < w.heap.size := fun g hg => (h.own.lt g hg).2
  have hrowb : ∀ g, v.ownBlock = some g → base ≤ g := fun g hg => (h.own.lt g hg).1
  have hXb : ∀ b, b < w1.heap.size → v.ownBlock ≠ some b → X.heap[b]? = w1.heap[b]? := fun b hb' hne => (hg.block b (by simp; omega) (fun e => hne e.symm)).trans ((later1 _ _).block b hb')
  have hne : ∀ b, b < w1.heap.size → v.ownBlock ≠ some b → g ≠ b := by
    intro b hb' hb2 e
    subst e
    rcases hat with h | h
    · exact hb2 h
    · omega
  have old : ∀ b, b < w.heap.size → v.ownBlock ≠ some b → X.heap[b]? = w.heap[b]? := fun b hb' hne => (hXb b (by omega) hne).trans (hb1.block b hb')
  have hXs : w1.heap.size < X.heap.size := by have := hg.size; simp at this; omega
  refine ⟨g, cap, X, hr, hXb, (hbW.mono hb).trans (below_grown hg (by simp; omega) (fun g hg' => hrowb g hg')), hXs, hat.imp_right (fun h => by omega), ⟨?_, fun j hj => ?_, fun j hj => ?_, fun j j' hj hj' e => ?_, fun j hj => ?_, fun j hj => ?_⟩⟩
  · rw [List.range_succ, List.flatMap_append]
    have e1 : (List.range n).flatMap (fun i => C i (if i = n then .slice a (f n).length c else u i)) = (List.range n).flatMap (fun i => C i (u i)) := by
      have e0 : (List.range n).map (fun i => C i (if i = n then .slice a (f n).length c else u i)) = (List.range n).map (fun i => C i (u i)) := List.map_congr_left fun i hi => by rw [if_neg (by have := List.mem_range.1 hi; omega)]
      rw [List.flatMap_def, List.flatMap_def, e0]
    have e2 : [n].flatMap (fun i => C i (if i = n then .slice a (f n).length c else u i)) = C n (.slice a (f n).length c) := by simp only [List.flatMap_cons, List.flatMap_nil, List.append_nil, if_true]
    rw [e1, e2]
    exact ho
  · by_cases e : j = n
    · subst e; simp; omega
    · have := h.lo j (by omega); simp [e]; omega
  · by_cases e : j = n
    · subst e
      simp only [if_true]
      exact fun e => hne kb hk2 hk3 (by simpa [Value.ownBlock] using e)
    · have hj' : j < n := by omega
      have hl := h.lo j hj'
      simp only [e, if_false]
      exact fun e => hne (k j) (by omega) (h.ne j hj') (by simpa [Value.ownBlock] using e)
  · by_cases e1 : j = n
    · by_cases e2 : j' = n
      · omega
      · simp [e1, e2]; exact fun e => hk4 j' (by omega) e.symm
    · by_cases e2 : j' = n
      · simp [e1, e2]; exact hk4 j (by omega)
      · simp [e1, e2]; exact h.inj j j' (by omega) (by omega) e
  · by_cases e : j = n
    · subst e; exact ⟨a, c, by simp⟩
    · simp only [e, if_false]; exact h.sh j (by omega)
  · by_cases e : j = n
    · subst e
      simp only [if_true]
      exact hf.keep fun b hb' hlt' => by rw [hb']; exact hXb kb hk2 hk3
    · have hj' : j < n := by omega
      simp only [e, if_false]
      exact (h.at' j hj').keep fun b hb' hlt' => by rw [hb']; exact old _ (h.lo j hj').2 (h.ne j hj')


theorem LRow.congr2 {a a' : Nat → Int} {w : World} {base lo : Nat} {e : TypeId} {size : Nat} {v : Value} {n : Nat} {f f' : Nat → List Int} {k : Nat → Nat} {u : Nat → Value} (h : LRow (C2 a) w base lo e size v n f k u) (ha : ∀ i, i < n → a i = a' i) (hf : ∀ i, i < n → f i = f' i) : LRow (C2 a') w base lo e size v n f' k u := by
  refine ⟨?_, h.lo, h.ne, h.inj, fun i hi => by rw [← hf i hi]; exact h.sh i hi, fun i hi => by rw [← hf i hi]; exact h.at' i hi⟩
  have e0 : (List.range n).map (fun i => C2 a i (u i)) = (List.range n).map (fun i => C2 a' i (u i)) := List.map_congr_left fun i hi => by unfold C2; rw [ha i (List.mem_range.1 hi)]
  have := h.own
  rw [List.flatMap_def, e0, ← List.flatMap_def] at this
  exact this

/-- The copy of a put's words, and what appending that put comes to: in one contract; blocks that are neither the row's nor new stay. -/
theorem l1Ints_put2 (wr : World) (S q : Nat) (v uv : Value) (f : Nat → Int × List Int) (k : Nat → Nat) (u : Nat → Value) (hLR : LRow (C2 fun i => (f i).1) wr S S 71 2 v q (fun i => (f i).2) k u) (hsq : S ≤ wr.heap.size) (hq : q ≤ 100000) (hi : Ints wr uv (f q).2) (hl : (f q).2.length ≤ 1048576) :
    Calls Try.prog 47 #[uv] wr.drew fun e w1 => ∃ na nc g2 cap2 X k' u', e = .returned (.slice na (f q).2.length nc) ∧
      Hid ((Builtin.append_ #[28, 28] 28 #[v, .slice (some ⟨w1.heap.size, 0, none⟩) 1 1]).run Try.prog (w1.alloc (.cells #[.int .i64 (f q).1, .slice na (f q).2.length nc] 71)) = .ok (.slice (some ⟨g2, 0, none⟩) (q + 1) cap2) X) ∧
      Below wr.heap.size wr w1 ∧ (∀ b, b < wr.heap.size → v.ownBlock ≠ some b → X.heap[b]? = wr.heap[b]?) ∧ wr.heap.size ≤ X.heap.size ∧ (v.ownBlock = some g2 ∨ wr.heap.size < g2) ∧ (∀ i, i < q + 1 → k' i = k i ∧ i < q ∨ wr.heap.size ≤ k' i) ∧ Below S wr X ∧ Hid (LRow (C2 fun i => (f i).1) X S S 71 2 (.slice (some ⟨g2, 0, none⟩) (q + 1) cap2) (q + 1) (fun i => (f i).2) k' u') := by
  refine (l1Ints_more (w := wr.drew) hi hl).mono ?_
  rintro e w1 ⟨na, nc, rfl, hb1, ho1, hs1⟩
  obtain ⟨kb, hk1, hk2, hkf⟩ := ho1.one hs1
  obtain ⟨ti, hi, h1, h2, h3⟩ := Try.infoPut'
  have hk1' : wr.heap.size ≤ kb := hk1
  have hs1' : wr.heap.size < w1.heap.size := hs1
  obtain ⟨g2, cap2, X, hr, hXb, hBX, hXs, hat, hLX⟩ := LRow.append2 wr w1 28 28 71 ti _ 2 32 Try.underlying28 hi h1 h2 h3 rfl (by decide) (by decide) S S q _ _ k u hLR hsq hq ((Below.refl _ _).drew.trans hb1) na nc rfl (fun x hx => by simp [C2] at hx; rcases hx with rfl | rfl <;> rfl) kb (Nat.le_trans hsq hk1') hk2 (fun e => by have := (hLR.own.lt _ e).2; omega) (fun i hi e => by have := (hLR.lo i hi).2; omega) hkf
  refine ⟨na, nc, g2, cap2, X, _, _, rfl, hr, (Below.refl _ _).drew.trans hb1, fun b hb hne => (hXb b (by omega) hne).trans (hb1.block b hb), by omega, hat.imp_right (fun h => by omega), fun i hi => ?_, hBX, hLX⟩
  by_cases e : i = q
  · right; simp [e]; exact hk1'
  · left; simp [e]; omega

end Go.Proofs.Ytomcejofhfngkaa

namespace Go.Proofs.Ytomcejofhfngkaa
open Go.RowKit
set_option maxRecDepth 100000

theorem placeF_fault {bs : List (List Int)} {ps : List (Int × List Int)} {x : Int} (h : ¬ faultF bs ps = 0) : placeF bs ps x = faultF bs ps := by simp [placeF, h]
theorem placeF_no {bs : List (List Int)} {ps : List (Int × List Int)} {x : Int} (h : faultF bs ps = 0) (h2 : placeB bs.length x = false) : placeF bs ps x = 3 := by simp [placeF, h, h2]
theorem placeF_ok {bs : List (List Int)} {ps : List (Int × List Int)} {x : Int} (h : faultF bs ps = 0) (h2 : placeB bs.length x = true) : placeF bs ps x = 0 := by simp [placeF, h, h2]

set_option maxHeartbeats 800000 in
theorem placeFault_any (w : World) (aB : Option Addr) (cB : Nat) (vC : Value) (bs : List (List Int)) (ps : List (Int × List Int)) (x : Int) (hB : IntsS w (.slice aB bs.length cB) bs) (hP : Puts w vC ps) :
    Calls Try.prog 50 #[.agg #[.slice aB bs.length cB, vC], .int .i64 x] w fun e w' => e = .returned (.int .i64 (placeF bs ps x)) ∧ Below w.heap.size w w' := by
  have HB : Hid (IntsS w (.slice aB bs.length cB) bs) := hB
  have HP : Hid (Puts w vC ps) := hP
  clear hB hP
  generalize hF : faultF bs ps = F
  have HF : Hid (faultF bs ps = F) := hF
  clear hF
  by_cases hz : F = 0
  · subst hz
    cases hpl : placeB bs.length x
    · have HPL : Hid (placeB bs.length x = false) := hpl
      rw [placeF_no HF.out hpl]
      clear hpl
      go_enter Try.func50, Try.ntmps50
      go_wp2_with fail
      refine (fault_any _ _ _ bs ps (HB.out.later (later1 _ _)) (HP.out.later (later1 _ _))).mono ?_
      rw [HF.out]
      rintro e w1 ⟨rfl, hb1⟩
      have HX : Hid (Box2 w1 w.heap.size (.slice aB bs.length cB) vC) := (Box2.new _ _ _ _).later hb1
      have HW1 : Hid (Below w.heap.size w w1) := (later1 _ _).trans (hb1.mono (by simp))
      clear hb1
      obtain ⟨x0, x1⟩ := HX.out
      obtain ⟨aC, cC, hvC, _⟩ := HP.out.open'
      rw [hvC] at x1
      go_wp2_with fail
      refine (isPlace_any _ _ _ _ _ _).mono ?_
      rw [HPL.out]
      rintro e w2 ⟨rfl, hb2⟩
      have HW2 : Hid (Below w.heap.size w w2) := HW1.out.trans (hb2.mono HW1.out.size)
      clear hb2
      go_wp2
      go_ret
      exact ⟨rfl, HW2.out⟩
    · have HPL : Hid (placeB bs.length x = true) := hpl
      rw [placeF_ok HF.out hpl]
      clear hpl
      go_enter Try.func50, Try.ntmps50
      go_wp2_with fail
      refine (fault_any _ _ _ bs ps (HB.out.later (later1 _ _)) (HP.out.later (later1 _ _))).mono ?_
      rw [HF.out]
      rintro e w1 ⟨rfl, hb1⟩
      have HX : Hid (Box2 w1 w.heap.size (.slice aB bs.length cB) vC) := (Box2.new _ _ _ _).later hb1
      have HW1 : Hid (Below w.heap.size w w1) := (later1 _ _).trans (hb1.mono (by simp))
      clear hb1
      obtain ⟨x0, x1⟩ := HX.out
      obtain ⟨aC, cC, hvC, _⟩ := HP.out.open'
      rw [hvC] at x1
      go_wp2_with fail
      refine (isPlace_any _ _ _ _ _ _).mono ?_
      rw [HPL.out]
      rintro e w2 ⟨rfl, hb2⟩
      have HW2 : Hid (Below w.heap.size w w2) := HW1.out.trans (hb2.mono HW1.out.size)
      clear hb2
      go_wp2
      go_ret
      exact ⟨rfl, HW2.out⟩
  · have hne : (F != 0) = true := by simpa using hz
    rw [placeF_fault (by rw [HF.out]; exact hz), HF.out]
    go_enter Try.func50, Try.ntmps50
    go_wp2_with fail
    refine (fault_any _ _ _ bs ps (HB.out.later (later1 _ _)) (HP.out.later (later1 _ _))).mono ?_
    rw [HF.out]
    rintro e w1 ⟨rfl, hb1⟩
    have HW1 : Hid (Below w.heap.size w w1) := (later1 _ _).trans (hb1.mono (by simp))
    clear hb1
    go_wp2
    go_ret
    exact ⟨rfl, HW1.out⟩

/-- How the cache of a drive is read. -/
def AtC (w : World) (a : Option Addr) (n : Nat) (ps : List (Int × List Int)) : Prop :=
  ∀ i, i < n → ∃ g pb ua uc, a = some ⟨g, 0, none⟩ ∧ w.cell? ⟨g, i, none⟩ = some (.pointer (some ⟨pb, 0, none⟩)) ∧ w.cell? ⟨pb, 0, none⟩ = some (.int .i64 (ps[i]?.getD (0, [])).1) ∧ w.cell? ⟨pb, 1, none⟩ = some (.slice ua (ps[i]?.getD (0, [])).2.length uc) ∧ Ints w (.slice ua (ps[i]?.getD (0, [])).2.length uc) (ps[i]?.getD (0, [])).2
theorem Cache.at {w : World} {base n c : Nat} {a : Option Addr} {ps : List (Int × List Int)} {pb k : Nat → Nat} {u : Nat → Value} (h : Cache w base (.slice a n c) n (fun i => ps[i]?.getD (0, [])) pb k u) : AtC w a n ps := by
  intro i hi
  obtain ⟨g, cap, e, _, _, _, hrow⟩ := ownsRow_row h.own (by omega)
  simp only [Value.slice.injEq, true_and] at e
  obtain ⟨ua, uc, hu⟩ := h.sh i hi
  have hb := h.box i hi
  have b0 := hb.cell (i := 0) (by omega)
  have b1 := hb.cell (i := 1) (by omega)
  simp at b0 b1
  rw [hu] at b1
  have hio := (h.at' i hi).ints
  rw [hu] at hio
  refine ⟨g, pb i, ua, uc, e.1, ?_, b0, b1, hio⟩
  have := hrow.cell hi
  rw [this]
  simp [hi]

set_option maxHeartbeats 800000 in
theorem get_any (w : World) (br o : Nat) (a : Option Addr) (n cap x : Nat) (bs : List (List Int)) (_hn : n ≤ 60) (hx : x < n) (h0 : w.cell? ⟨br, o, none⟩ = some (.slice a n cap)) (hB : AtS w a n bs) (hl : (bs[x]?.getD []).length ≤ 1048576) :
    Calls Try.prog 111 #[.pointer (some ⟨br, o, none⟩), .int .i64 (x : Int)] w fun e w' => e = .returned (.slice (some ⟨w.heap.size, 0, none⟩) (bs[x]?.getD []).length (bs[x]?.getD []).length) ∧ Below w.heap.size w w' ∧ IntsO w' (.slice (some ⟨w.heap.size, 0, none⟩) (bs[x]?.getD []).length (bs[x]?.getD []).length) (bs[x]?.getD []) (fresh w w') := by
  obtain ⟨b, off, ua, ucap, e, c1, i1⟩ := hB x hx
  subst e
  have HI : Hid (Ints w (.slice ua (bs[x]?.getD []).length ucap) (bs[x]?.getD [])) := i1
  have HL : Hid ((bs[x]?.getD []).length ≤ 1048576) := hl
  clear i1 hl hB
  go_enter Try.func111, Try.ntmps111
  go_wp2_with fail
  refine (copyOf_any HI.out HL.out).mono ?_
  rintro e w1 ⟨rfl, hb1, ho1⟩
  have HB1 : Hid (Below w.heap.size w w1) := hb1
  have HO1 : Hid (IntsO w1 _ (bs[x]?.getD []) (fresh w w1)) := ho1
  clear hb1 ho1
  go_wp2
  go_ret
  exact ⟨rfl, HB1.out, HO1.out⟩

set_option maxHeartbeats 1600000 in
theorem read_any (w : World) (bd : Nat) (aB aP : Option Addr) (nB cB nP cP : Nat) (bs : List (List Int)) (ps : List (Int × List Int)) (x : Nat) (hxl : x < nB) (hnB : nB ≤ 60) (hpl : ps.length = nP) (g2 : nP ≤ 200) (h0 : w.cell? ⟨bd, 0, none⟩ = some (.slice aB nB cB)) (h1 : w.cell? ⟨bd, 1, none⟩ = some (.slice aP nP cP))
    (hB : AtS w aB nB bs) (hP : AtC w aP nP ps) (hz : ∀ k : Nat, (bs[k]?.getD []).length ≤ 1048576) (hzp : ∀ k : Nat, (ps[k]?.getD (0, [])).2.length ≤ 1048576) :
    Calls Try.prog 83 #[.pointer (some ⟨bd, 0, none⟩), .int .i64 (x : Int)] w fun e w' => ∃ a n c, e = .returned (.slice a n c) ∧ Below w.heap.size w w' ∧ IntsO w' (.slice a n c) (atF bs ps x) (fresh w w') := by
  have HPL : Hid (ps.length = nP) := hpl
  have HB : Hid (AtS w aB nB bs) := hB
  have HP : Hid (AtC w aP nP ps) := hP
  have HZ : Hid (∀ k : Nat, (bs[k]?.getD []).length ≤ 1048576) := hz
  have HZP : Hid (∀ k : Nat, (ps[k]?.getD (0, [])).2.length ≤ 1048576) := hzp
  clear hpl hB hP hz hzp
  go_enter Try.func83, Try.ntmps83
  go_wp2
  go_loop [5] (fun i => ∃ k : Nat, k ≤ nP ∧ i = .int .i64 ((k : Int) - 1) ∧ atF bs ps x = atK bs ps x k) (fun i => (intOf i + 1).toNat)
  case atStart => exact ⟨nP, Nat.le_refl _, rfl, by unfold atF; rw [HPL.out]⟩
  case round =>
    obtain ⟨k, hk, rfl, hat⟩ := hrel
    have HA : Hid (atF bs ps x = atK bs ps x k) := hat
    clear hat
    cases k with
    | succ k =>
      have ek : (((k + 1 : Nat) : Int) - 1) = (k : Int) := by omega
      rw [ek]
      clear ek
      obtain ⟨g, pb, ua, uc, e, c0, c1, c2, i1⟩ := HP.out k (by omega)
      clear HP
      subst e
      have HI : Hid (Ints w (.slice ua (ps[k]?.getD (0, [])).2.length uc) (ps[k]?.getD (0, [])).2) := i1
      clear i1
      have hlt : k < nP := by omega
      by_cases he : (ps[k]?.getD (0, [])).1 = (x : Int)
      · have hb : ((ps[k]?.getD (0, [])).1 == (x : Int)) = true := by simpa using he
        have HE : Hid ((ps[k]?.getD (0, [])).1 = (x : Int)) := he
        clear he
        go_wp2_with fail
        refine (copyOf_any HI.out (HZP.out k)).mono ?_
        rintro e w1 ⟨rfl, hb1, ho1⟩
        have HB1 : Hid (Below w.heap.size w w1) := hb1
        have HO1 : Hid (IntsO w1 _ (ps[k]?.getD (0, [])).2 (fresh w w1)) := ho1
        clear hb1 ho1
        go_wp2
        go_ret
        exact ⟨_, _, _, rfl, HB1.out, by rw [HA.out, atK_hit HE.out]; exact HO1.out⟩
      · have hb : ((ps[k]?.getD (0, [])).1 == (x : Int)) = false := by simpa using he
        have HE : Hid (¬ (ps[k]?.getD (0, [])).1 = (x : Int)) := he
        clear he
        go_wp2
        go_round
        case rel => exact ⟨k, by omega, rfl, by rw [HA.out, atK_miss HE.out]⟩
        case measure => simp [intOf]
    | zero =>
      go_wp2_with fail
      refine (get_any _ bd 0 aB nB cB x bs hnB hxl h0 HB.out (HZ.out x)).mono ?_
      rintro e w1 ⟨rfl, hb1, ho1⟩
      have HB1 : Hid (Below w.heap.size w w1) := hb1
      have HO1 : Hid (IntsO w1 _ (bs[x]?.getD []) (fresh w w1)) := ho1
      clear hb1 ho1
      go_wp2
      go_ret
      exact ⟨_, _, _, rfl, HB1.out, by rw [HA.out]; simpa [atK] using HO1.out⟩

theorem atF_len {bs : List (List Int)} {ps : List (Int × List Int)} {x : Int} {M : Nat} (hz : ∀ k : Nat, (bs[k]?.getD []).length ≤ M) (hzp : ∀ k : Nat, (ps[k]?.getD (0, [])).2.length ≤ M) : (atF bs ps x).length ≤ M := by
  unfold atF
  generalize ps.length = n
  induction n with
  | zero => exact hz _
  | succ n ih =>
    by_cases h : (ps[n]?.getD (0, [])).1 = x
    · rw [atK_hit h]; exact hzp n
    · rw [atK_miss h]; exact ih

set_option maxHeartbeats 1600000 in
theorem implAt_bad (w : World) (aB : Option Addr) (cB : Nat) (aC : Option Addr) (nC cC : Nat) (bs : List (List Int)) (ps : List (Int × List Int)) (x : Int) (hB : IntsS w (.slice aB bs.length cB) bs) (hP : Puts w (.slice aC nC cC) ps) (hf : ¬ placeF bs ps x = 0) :
    Calls Try.prog 39 #[.agg #[.slice aB bs.length cB, .slice aC nC cC], .int .i64 x] w (AnsInts w (placeF bs ps x) []) := by
  have HB : Hid (IntsS w (.slice aB bs.length cB) bs) := hB
  have HP : Hid (Puts w (.slice aC nC cC) ps) := hP
  clear hB hP
  generalize hF : placeF bs ps x = F at *
  have HF : Hid (placeF bs ps x = F) := hF
  have hne : (F != 0) = true := by simpa using hf
  clear hF hf
  go_enter Try.func39, Try.ntmps39
  go_wp2_with fail
  refine (placeFault_any _ aB cB _ bs ps x (HB.out.later (later2 _ _ _)) (HP.out.later (later2 _ _ _))).mono ?_
  rw [HF.out]
  rintro e w1 ⟨rfl, hb1⟩
  have HW1 : Hid (Below w.heap.size w w1) := (later2 _ _ _).trans (hb1.mono (by simp; omega))
  have HR1 : OwnRow w1 (w.heap.size + 1) 2 (fun i => if i = 0 then .int .i64 0 else .slice none 0 0) := by
    have h := (OwnRow.two (w.alloc (Obj.cells #[Value.slice aB bs.length cB, Value.slice aC nC cC] 30)) (.int .i64 0) (.slice none 0 0) 73).later hb1
    simpa using h
  have t0 := HR1.cell (i := 0) (by omega)
  have t1 := HR1.cell (i := 1) (by omega)
  have t2 := HR1.frozen 0
  have t3 := HR1.frozen 1
  simp at t0 t1
  clear hb1 HR1
  go_wp2
  exact bodyPost_ret (v := .agg #[.int .i64 F, .slice none 0 0]) (by simp [results, Try.results39, go_sem, t0, t1]) rfl (ansInts_bad ((HW1.out.setCell (by simp) _).setCell (by simp) _) F)

set_option maxHeartbeats 1600000 in
theorem implAt_ok (w : World) (aB aC : Option Addr) (cB cC : Nat) (bs : List (List Int)) (ps : List (Int × List Int)) (x : Nat) (hB : IntsS w (.slice aB bs.length cB) bs) (hP : Puts w (.slice aC ps.length cC) ps) (sB : AtS w aB bs.length bs) (sP : AtP w aC ps.length ps) (hf : faultF bs ps = 0) (hx : x < bs.length)
    (hz : ∀ k : Nat, (bs[k]?.getD []).length ≤ 1048576) (hzp : ∀ k : Nat, (ps[k]?.getD (0, [])).2.length ≤ 1048576) :
    Calls Try.prog 39 #[.agg #[.slice aB bs.length cB, .slice aC ps.length cC], .int .i64 (x : Int)] w (AnsInts w 0 (atF bs ps x)) := by
  have HB : Hid (IntsS w (.slice aB bs.length cB) bs) := hB
  have HP : Hid (Puts w (.slice aC ps.length cC) ps) := hP
  have SB : Hid (AtS w aB bs.length bs) := sB
  have SP : Hid (AtP w aC ps.length ps) := sP
  obtain ⟨g1, g2⟩ := faultF_lens hf
  have HPL : Hid (placeF bs ps (x : Int) = 0) := placeF_ok hf (by unfold placeB; simp [hx])
  have HZ : Hid (∀ k : Nat, (bs[k]?.getD []).length ≤ 1048576) := hz
  have HZP : Hid (∀ k : Nat, (ps[k]?.getD (0, [])).2.length ≤ 1048576) := hzp
  clear hB hP sB sP hf hz hzp
  go_enter Try.func39, Try.ntmps39
  go_wp2_with fail
  refine (placeFault_any _ aB cB _ bs ps x (HB.out.later (later2 _ _ _)) (HP.out.later (later2 _ _ _))).mono ?_
  rw [HPL.out]
  rintro e w1 ⟨rfl, hb1⟩
  have HW1 : Hid (Below w.heap.size w w1) := (later2 _ _ _).trans (hb1.mono (by simp; omega))
  have HR1 : Hid (OwnRow w1 (w.heap.size + 1) 2 (fun i => if i = 0 then .int .i64 0 else .slice none 0 0)) := by
    have h := (OwnRow.two (w.alloc (Obj.cells #[Value.slice aB bs.length cB, Value.slice aC ps.length cC] 30)) (.int .i64 0) (.slice none 0 0) 73).later hb1
    unfold Hid
    simpa using h
  have HX1 : Hid (Box2 w1 w.heap.size (.slice aB bs.length cB) (.slice aC ps.length cC)) := ((Box2.new w _ _ 30).later (later1 _ _)).later hb1
  have hz1 : w.heap.size + 1 < w1.heap.size := HR1.out.lt
  clear hb1
  obtain ⟨x0, x1⟩ := HX1.out
  go_wp2_with fail
  clear x0 x1
  refine (openDisk_walk _ aB aC bs.length cB ps.length cC bs ps rfl rfl g1 g2 (fun k _ => HZ.out k) (fun k _ => HZP.out k) (SB.out.later HW1.out) (SP.out.later HW1.out)).mono ?_
  rintro e w2 ⟨bd, g, aP, cP, pb, k, u, rfl, hdr⟩
  have HDR : Hid (Drive w1 w2 bd (some ⟨g, 0, none⟩) bs.length bs.length aP ps.length cP bs ps pb k u) := hdr
  clear hdr
  go_wp2_with fail
  have hcell0 := HDR.out.row.cell (i := 0) (by omega)
  have hcell1 := HDR.out.row.cell (i := 1) (by omega)
  simp at hcell0 hcell1
  obtain ⟨aB', cB', hvB, _, hSB⟩ := HDR.out.blocks.ints.open'
  simp only [Value.slice.injEq] at hvB
  refine (read_any _ bd (some ⟨g, 0, none⟩) aP bs.length bs.length ps.length cP bs ps x hx g1 rfl g2 hcell0 hcell1 (by rw [hvB.1]; exact hSB) HDR.out.cache.at HZ.out HZP.out).mono ?_
  clear hcell0 hcell1 hvB hSB
  rintro e w3 ⟨ra, rn, rc, rfl, hb3, ho3⟩
  have HW3 : Hid (Below w.heap.size w w3) := (HW1.out.trans (HDR.out.below.mono HW1.out.size)).trans (hb3.mono (by have := HDR.out.below.size; have := HW1.out.size; omega))
  have HO3 : Hid (IntsO w3 (.slice ra rn rc) (atF bs ps x) (fun b => w1.heap.size ≤ b ∧ b < w3.heap.size)) := ho3.mono fun b hb => ⟨Nat.le_trans HDR.out.below.size hb.1, hb.2⟩
  have HR3 := (HR1.out.later HDR.out.below).later hb3
  have t0 := HR3.cell (i := 0) (by omega)
  have t1 := HR3.cell (i := 1) (by omega)
  have t2 := HR3.frozen 0
  have t3 := HR3.frozen 1
  simp at t0 t1
  clear hb3 ho3 HR3
  go_wp2
  refine bodyPost_ret (v := .agg #[.int .i64 0, .slice ra rn rc]) (by simp [results, Try.results39, go_sem, t0, t1]) rfl ⟨_, _, _, rfl, ?_, ?_⟩
  · exact (HW3.out.setCell (by simp) _).setCell (by simp) _
  · refine ((HO3.out.store (fun b hb => ?_) _).store (fun b hb => ?_) _).mono fun b hb => ?_
    · have := hb.1; simp; omega
    · have := hb.1; simp; omega
    · exact ⟨by have := hb.1; omega, by simpa [World.setCell] using hb.2⟩

theorem implAt_any (w : World) (vB vC : Value) (bs : List (List Int)) (ps : List (Int × List Int)) (x : Int) (hB : IntsS w vB bs) (hP : Puts w vC ps) (hz : ∀ k : Nat, (bs[k]?.getD []).length ≤ 1048576) (hzp : ∀ k : Nat, (ps[k]?.getD (0, [])).2.length ≤ 1048576) :
    Calls Try.prog 39 #[.agg #[vB, vC], .int .i64 x] w (AnsInts w (placeF bs ps x) (atList bs ps x)) := by
  obtain ⟨aB, cB, rfl, m1, sB⟩ := hB.open'
  obtain ⟨aC, cC, rfl, m2, sP⟩ := hP.open'
  by_cases h0 : placeF bs ps x = 0
  · have hf : faultF bs ps = 0 := by
      by_cases hf : faultF bs ps = 0
      · exact hf
      · rw [placeF_fault hf] at h0; exact h0
    have hp : placeB bs.length x = true := by
      cases hp : placeB bs.length x
      · rw [placeF_no hf hp] at h0; omega
      · rfl
    have e2 : atList bs ps x = atF bs ps x := by unfold atList; rw [h0]; simp
    rw [h0, e2]
    unfold placeB at hp
    simp at hp
    obtain ⟨n, rfl⟩ := Int.eq_ofNat_of_zero_le hp.1
    exact implAt_ok w aB aC cB cC bs ps n hB hP sB sP hf (by omega) hz hzp
  · have e2 : atList bs ps x = [] := by unfold atList; simp [h0]
    rw [e2]
    exact implAt_bad w aB cB aC _ cC bs ps x hB hP h0
end Go.Proofs.Ytomcejofhfngkaa

namespace Go.Proofs.Ytomcejofhfngkaa
open Go.RowKit
set_option maxRecDepth 100000

def putCode (bs : List (List Int)) (ps : List (Int × List Int)) (x : Int) (ws : List Int) : Int :=
  if placeF bs ps x = 0 then (if wordsF ws = 0 then (if 200 ≤ ps.length then 2 else 0) else wordsF ws) else placeF bs ps x
def putBlocks (bs : List (List Int)) (ps : List (Int × List Int)) (x : Int) (ws : List Int) : List (List Int) := if putCode bs ps x ws = 0 then bs else []
def putCache (bs : List (List Int)) (ps : List (Int × List Int)) (x : Int) (ws : List Int) : List (Int × List Int) := if putCode bs ps x ws = 0 then ps ++ [(x, ws)] else []

theorem three (w : World) (x y z : Value) (t : TypeId) : OwnRow (w.alloc (.cells #[x, y, z] t)) w.heap.size 3 (fun i => if i = 0 then x else if i = 1 then y else z) := by
  refine ⟨_, t, Go.Deep.blk_alloc_new _ _, by simp, fun i hi => ?_⟩
  have : i = 0 ∨ i = 1 ∨ i = 2 := by omega
  rcases this with rfl | rfl | rfl <;> simp

set_option maxHeartbeats 800000 in
theorem specPut_fault (w : World) (vB vC v : Value) (bs : List (List Int)) (ps : List (Int × List Int)) (x : Int) (hB : IntsS w vB bs) (hP : Puts w vC ps) (hf : ¬ faultF bs ps = 0) :
    Calls Try.prog 9 #[.agg #[vB, vC], .int .i64 x, v] w fun e w' => e = .returned (.agg #[.int .i64 (faultF bs ps), .slice none 0 0, .slice none 0 0]) ∧ Below w.heap.size w w' := by
  have HB : Hid (IntsS w vB bs) := hB
  have HP : Hid (Puts w vC ps) := hP
  generalize hc : faultF bs ps = c at *
  have HC : Hid (faultF bs ps = c) := hc
  have hne : (c != 0) = true := by simpa using hf
  clear hB hP hf hc
  go_enter Try.func9, Try.ntmps9
  go_wp2_with fail
  refine (l1Fault_any (vB := vB) (vC := vC) ?_ ?_ (HB.out.later (later2 _ _ _)) (HP.out.later (later2 _ _ _))).mono ?_
  · exact ((Box2.new w vB vC 30).later (later1 _ _)).1
  · exact ((Box2.new w vB vC 30).later (later1 _ _)).2
  rw [HC.out]
  rintro e w' ⟨rfl, m, rfl⟩
  go_wp2
  exact bodyPost_ret (v := .agg #[.int .i64 c, .slice none 0 0, .slice none 0 0]) (by simp [results, Try.results9, go_sem]) rfl ⟨rfl, (((below_drewN (later2 _ _ _) m).setCell (by simp) _).setCell (by simp) _).setCell (by simp) _⟩

set_option maxHeartbeats 800000 in
theorem specPut_place (w : World) (aB : Option Addr) (nB cB : Nat) (vC v : Value) (bs : List (List Int)) (ps : List (Int × List Int)) (x : Int) (hn : nB ≤ maxLen) (hB : IntsS w (.slice aB nB cB) bs) (hP : Puts w vC ps) (hf : faultF bs ps = 0) (hp : placeB nB x = false) :
    Calls Try.prog 9 #[.agg #[.slice aB nB cB, vC], .int .i64 x, v] w fun e w' => e = .returned (.agg #[.int .i64 3, .slice none 0 0, .slice none 0 0]) ∧ Below w.heap.size w w' := by
  have HB : Hid (IntsS w (.slice aB nB cB) bs) := hB
  have HP : Hid (Puts w vC ps) := hP
  have HF : Hid (faultF bs ps = 0) := hf
  have HPL : Hid (placeB nB x = false) := hp
  clear hB hP hf hp
  go_enter Try.func9, Try.ntmps9
  go_wp2_with fail
  refine (l1Fault_any (vB := .slice aB nB cB) (vC := vC) ?_ ?_ (HB.out.later (later2 _ _ _)) (HP.out.later (later2 _ _ _))).mono ?_
  · exact ((Box2.new w (.slice aB nB cB) vC 30).later (later1 _ _)).1
  · exact ((Box2.new w (.slice aB nB cB) vC 30).later (later1 _ _)).2
  rw [HF.out]
  rintro e w' ⟨rfl, m, rfl⟩
  go_wp2_with fail
  refine (l1Place_any _ _ aB nB cB x hn ?_).mono ?_
  · exact ((Box2.new w (.slice aB nB cB) vC 30).later (later1 _ _)).1
  rw [HPL.out]
  rintro e w' ⟨rfl, rfl⟩
  go_wp2
  exact bodyPost_ret (v := .agg #[.int .i64 3, .slice none 0 0, .slice none 0 0]) (by simp [results, Try.results9, go_sem]) rfl ⟨rfl, (((below_drewN (later2 _ _ _) m).setCell (by simp) _).setCell (by simp) _).setCell (by simp) _⟩

set_option maxHeartbeats 800000 in
theorem specPut_words (w : World) (aB : Option Addr) (nB cB : Nat) (vC v : Value) (bs : List (List Int)) (ps : List (Int × List Int)) (x : Int) (ws : List Int) (hn : nB ≤ maxLen) (hB : IntsS w (.slice aB nB cB) bs) (hP : Puts w vC ps) (hV : Ints w v ws) (hf : faultF bs ps = 0) (hp : placeB nB x = true) (hw : ¬ wordsF ws = 0) :
    Calls Try.prog 9 #[.agg #[.slice aB nB cB, vC], .int .i64 x, v] w fun e w' => e = .returned (.agg #[.int .i64 (wordsF ws), .slice none 0 0, .slice none 0 0]) ∧ Below w.heap.size w w' := by
  have HB : Hid (IntsS w (.slice aB nB cB) bs) := hB
  have HP : Hid (Puts w vC ps) := hP
  have HV : Hid (Ints w v ws) := hV
  have HF : Hid (faultF bs ps = 0) := hf
  have HPL : Hid (placeB nB x = true) := hp
  generalize hc : wordsF ws = c at *
  have HC : Hid (wordsF ws = c) := hc
  have hne : (c != 0) = true := by simpa using hw
  clear hB hP hf hp hV hc hw
  go_enter Try.func9, Try.ntmps9
  go_wp2_with fail
  refine (l1Fault_any (vB := .slice aB nB cB) (vC := vC) ?_ ?_ (HB.out.later (later2 _ _ _)) (HP.out.later (later2 _ _ _))).mono ?_
  · exact ((Box2.new w (.slice aB nB cB) vC 30).later (later1 _ _)).1
  · exact ((Box2.new w (.slice aB nB cB) vC 30).later (later1 _ _)).2
  rw [HF.out]
  rintro e w' ⟨rfl, m, rfl⟩
  go_wp2_with fail
  refine (l1Place_any _ _ aB nB cB x hn ?_).mono ?_
  · exact ((Box2.new w (.slice aB nB cB) vC 30).later (later1 _ _)).1
  rw [HPL.out]
  rintro e w' ⟨rfl, rfl⟩
  go_wp2_with fail
  refine (l1Words_any (HV.out.later (below_drewN (later2 _ _ _) m))).mono ?_
  rw [HC.out]
  rintro e w' ⟨rfl, rfl⟩
  go_wp2
  exact bodyPost_ret (v := .agg #[.int .i64 c, .slice none 0 0, .slice none 0 0]) (by simp [results, Try.results9, go_sem]) rfl ⟨rfl, (((below_drewN (later2 _ _ _) m).setCell (by simp) _).setCell (by simp) _).setCell (by simp) _⟩

set_option maxHeartbeats 800000 in
theorem specPut_full (w : World) (aB : Option Addr) (nB cB : Nat) (aC : Option Addr) (nC cC : Nat) (v : Value) (bs : List (List Int)) (ps : List (Int × List Int)) (x : Int) (ws : List Int) (hn : nB ≤ maxLen) (hB : IntsS w (.slice aB nB cB) bs) (hP : Puts w (.slice aC nC cC) ps) (hV : Ints w v ws) (hf : faultF bs ps = 0) (hp : placeB nB x = true) (hw : wordsF ws = 0) (hq : 200 ≤ nC) :
    Calls Try.prog 9 #[.agg #[.slice aB nB cB, .slice aC nC cC], .int .i64 x, v] w fun e w' => e = .returned (.agg #[.int .i64 2, .slice none 0 0, .slice none 0 0]) ∧ Below w.heap.size w w' := by
  have HB : Hid (IntsS w (.slice aB nB cB) bs) := hB
  have HP : Hid (Puts w (.slice aC nC cC) ps) := hP
  have HV : Hid (Ints w v ws) := hV
  have HF : Hid (faultF bs ps = 0) := hf
  have HPL : Hid (placeB nB x = true) := hp
  have HC : Hid (wordsF ws = 0) := hw
  have hq' : (200 : Int) ≤ (nC : Int) := by omega
  clear hB hP hf hp hV hw
  go_enter Try.func9, Try.ntmps9
  go_wp2_with fail
  refine (l1Fault_any (vB := .slice aB nB cB) (vC := .slice aC nC cC) ?_ ?_ (HB.out.later (later2 _ _ _)) (HP.out.later (later2 _ _ _))).mono ?_
  · exact ((Box2.new w (.slice aB nB cB) (.slice aC nC cC) 30).later (later1 _ _)).1
  · exact ((Box2.new w (.slice aB nB cB) (.slice aC nC cC) 30).later (later1 _ _)).2
  rw [HF.out]
  rintro e w' ⟨rfl, m, rfl⟩
  go_wp2_with fail
  refine (l1Place_any _ _ aB nB cB x hn ?_).mono ?_
  · exact ((Box2.new w (.slice aB nB cB) (.slice aC nC cC) 30).later (later1 _ _)).1
  rw [HPL.out]
  rintro e w' ⟨rfl, rfl⟩
  go_wp2_with fail
  refine (l1Words_any (HV.out.later (below_drewN (later2 _ _ _) m))).mono ?_
  rw [HC.out]
  rintro e w' ⟨rfl, rfl⟩
  go_wp2
  exact bodyPost_ret (v := .agg #[.int .i64 2, .slice none 0 0, .slice none 0 0]) (by simp [results, Try.results9, go_sem]) rfl ⟨rfl, (((below_drewN (later2 _ _ _) m).setCell (by simp) _).setCell (by simp) _).setCell (by simp) _⟩
end Go.Proofs.Ytomcejofhfngkaa
