
/- The walk of the program's drive.disk: the cache of pointers becomes a list of puts. -/
import Derived.Test.YtomcejofhfngkaaRowL
import Derived.Test.YtomcejofhfngkaaDrvB
namespace Go.Proofs.Ytomcejofhfngkaa
open Go.RowKit
set_option maxRecDepth 100000

theorem Try.infoPut' : ∃ i, Try.prog.info? 71 = some i ∧ i.zero = some (.agg #[.int .i64 0, .slice none 0 0]) ∧ i.size = 2 ∧ i.bytes = 32 := by
  obtain ⟨i, hi, h⟩ := Option.map_eq_some_iff.1 Try.infoPut
  simp only [Prod.mk.injEq] at h
  exact ⟨i, hi, h.1, h.2.1, h.2.2⟩
theorem Try.infoInts' : ∃ i, Try.prog.info? 26 = some i ∧ i.zero = some (.slice none 0 0) ∧ i.size = 1 ∧ i.bytes = 24 := by
  obtain ⟨i, hi, h⟩ := Option.map_eq_some_iff.1 Try.infoInts
  simp only [Prod.mk.injEq] at h
  exact ⟨i, hi, h.1, h.2.1, h.2.2⟩
theorem upd_nat (k : Nat → Nat) (n : Nat) : (fun j => if j = n then k n else k j) = k := by
  funext j; by_cases h : j = n
  · simp [h]
  · simp [h]
theorem upd_val (k : Nat → Value) (n : Nat) : (fun j => if j = n then k n else k j) = k := by
  funext j; by_cases h : j = n
  · simp [h]
  · simp [h]

/-- Where the pointer to put i lies, and the put itself. -/
theorem Cache.ptr {w : World} {base n c : Nat} {a : Option Addr} {f : Nat → Int × List Int} {pb k : Nat → Nat} {u : Nat → Value} (h : Cache w base (.slice a n c) n f pb k u) {i : Nat} (hi : i < n) :
    ∃ g ua uc, a = some ⟨g, 0, none⟩ ∧ w.cell? ⟨g, i, none⟩ = some (.pointer (some ⟨pb i, 0, none⟩)) ∧ w.cell? ⟨pb i, 0, none⟩ = some (.int .i64 (f i).1) ∧ w.cell? ⟨pb i, 1, none⟩ = some (.slice ua (f i).2.length uc) ∧ u i = .slice ua (f i).2.length uc := by
  obtain ⟨g, cap, e, _, _, _, hrow⟩ := ownsRow_row h.own (by omega)
  simp only [Value.slice.injEq, true_and] at e
  obtain ⟨ua, uc, hu⟩ := h.sh i hi
  have hb := h.box i hi
  have b0 := hb.cell (i := 0) (by omega)
  have b1 := hb.cell (i := 1) (by omega)
  simp at b0 b1
  rw [hu] at b1
  refine ⟨g, ua, uc, e.1, ?_, b0, b1, hu⟩
  rw [hrow.cell hi]
  simp [hi]

theorem ownsRow_le {w : World} {base base' : Nat} {e : TypeId} {size : Nat} {v : Value} {n : Nat} {xs : List Value} (h : w.ownsRow base e size v n xs) (hb : base' ≤ base) : w.ownsRow base' e size v n xs := by
  obtain ⟨h1, h2⟩ := h
  refine ⟨h1, ?_⟩
  rcases h2 with h2 | ⟨g, cap, cur, hv, hg, r⟩
  · exact Or.inl h2
  · exact Or.inr ⟨g, cap, cur, hv, by omega, r⟩

set_option maxHeartbeats 3200000 in
theorem disk_any (w : World) (bd base n : Nat) (aB : Option Addr) (nB cB : Nat) (aP : Option Addr) (cP : Nat) (f : Nat → Int × List Int) (pb k : Nat → Nat) (u : Nat → Value) (hn : n ≤ 1000) (hd : OwnRow w bd 2 (fun c => if c = 0 then .slice aB nB cB else .slice aP n cP)) (hc : Cache w base (.slice aP n cP) n f pb k u) :
    Calls Try.prog 55 #[.pointer (some ⟨bd, 0, none⟩)] w fun e w' => ∃ aC cC, e = .returned (.agg #[.slice aB nB cB, .slice aC n cC]) ∧ Below w.heap.size w w' ∧ LRow (C2 fun i => (f i).1) w' w.heap.size base 71 2 (.slice aC n cC) n (fun i => (f i).2) k u := by
  have HC : Hid (Cache w base (.slice aP n cP) n f pb k u) := hc
  have d0 := hd.cell (i := 0) (by omega)
  have d1 := hd.cell (i := 1) (by omega)
  simp at d0 d1
  have hlt : bd < w.heap.size := hd.lt
  clear hd hc
  obtain ⟨ti, hi, h1, h2, h3⟩ := Try.infoPut'
  have HI : Hid (Try.prog.info? 71 = some ti ∧ ti.zero = some (.agg #[.int .i64 0, .slice none 0 0]) ∧ ti.size = 2 ∧ ti.bytes = 32) := ⟨hi, h1, h2, h3⟩
  clear hi h1 h2 h3
  go_enter Try.func55, Try.ntmps55
  go_wp2_with fail
  go_loopw [17] (fun i wr => ∃ j : Nat, j ≤ n ∧ i = .int .i64 j ∧ Below w.heap.size w wr ∧ w.heap.size + 2 ≤ wr.heap.size ∧ OwnRow wr w.heap.size 2 (fun c => if c = 0 then .slice none 0 0 else .slice none 0 0) ∧
    ∃ aC cC, OwnRow wr (w.heap.size + 1) 2 (fun c => if c = 0 then .slice aB nB cB else .slice aC j cC) ∧ LRow (C2 fun i => (f i).1) wr (w.heap.size + 2) base 71 2 (.slice aC j cC) j (fun i => (f i).2) k u) (fun i _ => n - (intOf i).toNat)
  case atStart =>
    refine ⟨0, Nat.zero_le _, rfl, later2 _ _ _, by simp, (OwnRow.two w _ _ _).later (later1 _ _), none, 0, by simpa using OwnRow.two (w.alloc (.cells #[.slice none 0 0, .slice none 0 0] 30)) (.slice aB nB cB) (.slice none 0 0) 30, ?_⟩
    exact ⟨World.ownsRow_nil _ _ _ _, fun i hi => by omega, fun i hi => by omega, fun i j hi => by omega, fun i hi => by omega, fun i hi => by omega⟩
  case round =>
    obtain ⟨j, hj, rfl, hbw, hsz, hres, aC, cC, hrow, hlr⟩ := hrel
    have HBW : Hid (Below w.heap.size w wr) := hbw
    have HRES : Hid (OwnRow wr w.heap.size 2 (fun c => if c = 0 then .slice none 0 0 else .slice none 0 0)) := hres
    have HROW : Hid (OwnRow wr (w.heap.size + 1) 2 (fun c => if c = 0 then .slice aB nB cB else .slice aC j cC)) := hrow
    have HLR : Hid (LRow (C2 fun i => (f i).1) wr (w.heap.size + 2) base 71 2 (.slice aC j cC) j (fun i => (f i).2) k u) := hlr
    clear hbw hres hrow hlr
    by_cases hjn : j < n
    · obtain ⟨g, ua, uc, e, p0, p1, p2, hu⟩ := HC.out.ptr hjn
      subst e
      replace p0 := cell_later HBW.out p0
      replace p1 := cell_later HBW.out p1
      replace p2 := cell_later HBW.out p2
      have hat := (HC.out.at' j hjn).keep (w' := wr.drew) fun b hb hl => by rw [hb]; exact HBW.out.block _ (HC.out.lo j hjn).2.2
      rw [hu] at hat
      obtain ⟨hi, h1, h2, h3⟩ := HI.out
      have hklt := (HC.out.lo j hjn).2.2
      have hap := LRow.append wr wr.drew 28 28 71 ti _ 2 32 Try.underlying28 hi h1 h2 h3 rfl (by decide) (by decide) (w.heap.size + 2) base j _ _ k u HLR.out hsz (by omega) (Below.refl _ _).drew ua uc rfl (fun x hx => by simp [C2] at hx; rcases hx with rfl | rfl <;> rfl) (k j) (HC.out.lo j hjn).2.1 (by show k j < wr.heap.size; have := HBW.out.size; omega)
        (fun e => by have := (HLR.out.own.lt _ e).1; omega) (fun i hi => HC.out.inj i j (by omega) hjn (by omega)) hat
      rw [← hu, upd_nat, upd_val] at hap
      obtain ⟨g2, cap2, X, hr, hXb, hBX, hXs, hLX⟩ := hap
      rw [hu] at hr
      have HR : Hid (_ = _) := hr
      have HBX : Hid (Below (w.heap.size + 2) wr X) := hBX
      have HLX : Hid (LRow (C2 fun i => (f i).1) X (w.heap.size + 2) base 71 2 (.slice (some ⟨g2, 0, none⟩) (j + 1) cap2) (j + 1) (fun i => (f i).2) k u) := hLX
      have HROWX : Hid (OwnRow X (w.heap.size + 1) 2 (fun c => if c = 0 then .slice aB nB cB else .slice aC j cC)) := HROW.out.block (hBX.block _ (by omega))
      have HRESX : Hid (OwnRow X w.heap.size 2 (fun c => if c = 0 then .slice none 0 0 else .slice none 0 0)) := HRES.out.block (hBX.block _ (by omega))
      have q1 := HROW.out.cell (i := 1) (by omega)
      have x1 := HROWX.out.cell (i := 1) (by omega)
      have x2 := HROWX.out.frozen 1
      have hbig : w.heap.size + 1 < wr.heap.size := by omega
      simp at q1 x1
      clear hr hXb hBX hLX hat hi h1 h2 h3 hu hXs
      go_wp2_with fail
      go_region_law (refine step_append_run rfl _ _ 28 rfl _ _ rfl rfl _ _ HR.out ?_)
      all_goals
        go_wp2
        go_roundw
        case rel =>
          refine ⟨j + 1, by omega, by go_num, (HBW.out.trans (HBX.out.mono (by omega))).setCell (by simp) _, ?_, HRESX.out.store (by simp) _, some ⟨g2, 0, none⟩, cap2, (HROWX.out.set 1 _).congr fun c hc => ?_, HLX.out.keep (by simp [World.setCell]) (fun g hg => Below.heap_setCell _ _ _ _ (by have := (HLX.out.own.lt g hg).1; simp; omega)) (fun i hi => Below.heap_setCell _ _ _ _ (by have := (HC.out.lo i (by omega)).2.2; simp; omega))⟩
          · have := HBX.out.size; simp [World.setCell]; omega
          · have : c = 0 ∨ c = 1 := by omega
            rcases this with rfl | rfl <;> simp
        case measure => simp [intOf]; omega
    · have q0 := HROW.out.cell (i := 0) (by omega)
      have q1 := HROW.out.cell (i := 1) (by omega)
      have r0 := HRES.out.cell (i := 0) (by omega)
      have r1 := HRES.out.cell (i := 1) (by omega)
      have r2 := HRES.out.frozen 0
      have r3 := HRES.out.frozen 1
      simp at q0 q1 r0 r1
      have e : j = n := by omega
      subst e
      go_wp2
      refine bodyPost_ret (v := .agg #[.slice aB nB cB, .slice aC j cC]) (by simp [results, Try.results55, go_sem, r0, r1]) rfl ⟨aC, cC, rfl, (HBW.out.setCell (Nat.le_refl _) _).setCell (Nat.le_refl _) _, ?_⟩
      have h := HLR.out.keep (w' := (wr.setCell ⟨w.heap.size, 0, none⟩ (.slice aB nB cB)).setCell ⟨w.heap.size, 1, none⟩ (.slice aC j cC)) (by simp [World.setCell]) (fun g hg => (Below.heap_setCell _ _ _ _ (by have := (HLR.out.own.lt g hg).1; simp; omega)).trans (Below.heap_setCell _ _ _ _ (by have := (HLR.out.own.lt g hg).1; simp; omega))) (fun i hi => (Below.heap_setCell _ _ _ _ (by have := (HC.out.lo i hi).2.2; simp; omega)).trans (Below.heap_setCell _ _ _ _ (by have := (HC.out.lo i hi).2.2; simp; omega)))
      exact ⟨ownsRow_le h.own (by omega), h.lo, h.ne, h.inj, h.sh, h.at'⟩
end Go.Proofs.Ytomcejofhfngkaa
