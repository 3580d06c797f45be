/- The program: what is reached, in a map. The program's PickBlocks and FreeInode. The program's PackInode. PackInode, and answers that are words, in the one form of the laws. What the laws of chapter 5 ask: how long the answers are. The program's LinksOf. -/
import Derived.Test.YtlacppjlclfpmaaGreatM13
import Derived.Deep.LoopGhost
import Derived.Test.YtlacppjlclfpmaaGreatM12
import Derived.Test.YtlacppjlclfpmaaGreatM07
import Derived.Test.YtlacppjlclfpmaaGreatM03
import Derived.Test.YtlacppjlclfpmaaGreatM11
import Derived.Test.YtlacppjlclfpmaaGreatM09
namespace Go.Proofs.YtlacppjlclfpmaaGreat
open Go.RowKit Go.Maps
set_option maxRecDepth 100000

section
variable {P : Program} {w : World}
/-- A look-up, a store into a map whose run is known, at its place in a walk. -/
theorem wpList_lookup_run {ops : Array Oper} {rest : List Oper} {o : Oper} {a : Act} {Q : Exit → Act → World → Prop} (hgd : o.guard = none) (m x : Operand) (t : TypeId) (ho : o.op = .lookup t m x false) (vm vx : Value) (hm : a.eval m = vm) (hx : a.eval x = vx) (v' : Value)
    (hr : (Instr.lookup t vm vx false).run P w = .ok v' w) (h : wpList P ops Q rest (a.put o.dst v') w) : wpList P ops Q (o :: rest) a w := by
  refine wpList_plain hgd fun K hK => ?_
  unfold Oper.wp
  simp [execOp, ho, hm, hx, hr, Result.andThen]
  exact hK _ _ h
theorem wpList_mapUpdate_run {ops : Array Oper} {rest : List Oper} {o : Oper} {a : Act} {Q : Exit → Act → World → Prop} (hgd : o.guard = none) (m x v : Operand) (t : TypeId) (ho : o.op = .mapUpdate t m x v) (vm vx vv : Value) (hm : a.eval m = vm) (hx : a.eval x = vx) (hv : a.eval v = vv) (w' : World)
    (hr : (Instr.mapUpdate t vm vx vv).run P w = .ok () w') (h : wpList P ops Q rest (a.put o.dst undef) w') : wpList P ops Q (o :: rest) a w := by
  refine wpList_plain hgd fun K hK => ?_
  unfold Oper.wp
  simp [execOp, ho, hm, hx, hv, hr, Result.andThen]
  exact hK _ _ h
end
theorem putP_same {p : Int → Bool} {x : Int} (h : p x = true) : putP p x = p := by
  funext y
  unfold putP
  by_cases e : y = x
  · rw [if_pos e, e, h]
  · rw [if_neg e]
theorem putP_next (j : Nat) : putP (fun x => decide (0 ≤ x ∧ x < (j : Int))) (j : Int) = fun x => decide (0 ≤ x ∧ x < ((j + 1 : Nat) : Int)) := by
  funext y
  unfold putP
  by_cases e : y = j
  · rw [if_pos e]; simp; omega
  · rw [if_neg e]
    show decide (0 ≤ y ∧ y < (j : Int)) = _
    by_cases h : 0 ≤ y ∧ y < (j : Int)
    · rw [decide_eq_true h, decide_eq_true (by omega)]
    · rw [decide_eq_false h, decide_eq_false (by omega)]
theorem putM_zero (x : Int) : putM (fun _ => 0) x 0 = fun _ => 0 := by
  funext y
  unfold putM
  split <;> rfl
theorem putM_at (m : Int → Int) (x v : Int) : putM m x v x = v := by unfold putM; rw [if_pos rfl]
/-- A map's block is no words' block, and what was made since stands apart from it. -/
theorem Qu.turned {w w' : World} {n₀ b : Nat} {v : Value} {zs : List Int} {N : Nat} {p : Int → Bool} {m : Int → Int} (h : Qu w n₀ v zs) (hm : Mp w b N p m) (ht : w.mapTurned w' b) : Qu w' n₀ v zs := h.keep fun k c f _ hk => turned_block ht k fun e => by
  obtain ⟨D, ⟨es, clock, hb, _⟩, _⟩ := hm
  rw [e, hb] at hk
  cases hk
theorem cell_turned {w w' : World} {b : Nat} (ht : w.mapTurned w' b) {k i : Nat} (hk : k ≠ b) {v : Value} (h : w.cell? ⟨k, i, none⟩ = some v) : w'.cell? ⟨k, i, none⟩ = some v := by
  simp only [World.cell?] at h ⊢
  rw [turned_block ht k hk]
  exact h
def intsN (h : List Nat) : List Int := h.map fun k : Nat => (k : Int)
theorem intsN_len (h : List Nat) : (intsN h).length = h.length := by simp [intsN]
theorem intsN_get (h : List Nat) (k : Nat) : (intsN h)[k]?.getD 0 = ((h[k]?.getD 0 : Nat) : Int) := by
  unfold intsN
  rw [List.getElem?_map]
  cases h[k]? <;> simp
theorem entsOf_get {ds : List ID} {j k : Nat} (hk : k < (ds[j]?.getD id0).2.2.2.2.length) : (entsOf ds j)[k]? = some ((ds[j]?.getD id0).2.2.2.2[k]?.getD en0).2 := by
  unfold entsOf entI
  rw [List.getElem?_map, List.getElem?_eq_getElem hk]
  rfl
theorem entsOf_len (ds : List ID) (j : Nat) : (entsOf ds j).length = (ds[j]?.getD id0).2.2.2.2.length := by simp [entsOf, entI]

set_option maxHeartbeats 6400000 in
theorem reachFrom_top (w : World) (a : Option Addr) (n c t : Nat) (ds : List ID) (hdn : ds.length = n) (hn0 : t < n) (hn : n ≤ 10) (hc : AtI w a n ds) (hr : inRange ds) (h6 : ∀ i, (entsOf ds i).length ≤ 6) :
    Calls Tryz.prog 76 #[.slice a n c, .int .i64 (t : Int)] w fun e w' => ∃ b N m, e = .returned (.map (some b)) ∧ Below w.heap.size w w' ∧ w.heap.size ≤ b ∧ Mp w' b N (fun x => decide (0 ≤ x ∧ x < (n : Int)) && !decide (m x = 0)) m ∧ (∀ i : Nat, 0 < m (i : Int) ↔ RT (entsOf ds) t i) ∧ ∀ x, 0 ≤ m x := by
  have HC : Hid (AtI w a n ds) := hc
  have HR : Hid (∀ i, i < n → ∀ x ∈ entsOf ds i, 0 ≤ x ∧ x < (n : Int)) := by rw [← hdn]; exact hr
  have H6 : Hid (∀ i, (entsOf ds i).length ≤ 6) := h6
  have HM0 : Hid (Mp (w.alloc (.map #[] 0)) w.heap.size 0 (fun _ => false) (fun _ => 0)) := Mp.made w
  have hmm := @run_makeMap Tryz.prog
  clear hc hr h6 hdn
  go_enter Tryz.func76, Tryz.ntmps76
  go_wp2
  clear hmm
  go_loopw [15] (fun i wr => ∃ j : Nat, j ≤ n ∧ i = .int .i64 j ∧ Below w.heap.size w wr ∧ Mp wr w.heap.size j (fun x => decide (0 ≤ x ∧ x < (j : Int))) (fun _ => 0)) (fun i _ => n - (intOf i).toNat)
  case atStart =>
    refine ⟨0, Nat.zero_le _, rfl, later1 _ _, ?_⟩
    have : (fun x : Int => decide (0 ≤ x ∧ x < ((0 : Nat) : Int))) = fun _ => false := by funext x; simp
    rw [this]; exact HM0.out
  case round =>
    obtain ⟨j, hj, rfl, hbl, hmp⟩ := hrel
    have HBL : Hid (Below w.heap.size w wr) := hbl
    have HMP : Hid (Mp wr w.heap.size j (fun x => decide (0 ≤ x ∧ x < (j : Int))) (fun _ => 0)) := hmp
    clear hbl hmp HM0
    by_cases hlt : j < n
    · obtain ⟨w1, hup, hmp1, hturn⟩ := HMP.out.put (x := (j : Int)) (v := 0) (by unfold maxLen; omega) (wf64_of (by omega) (by omega)) (wf64_of (by omega) (by omega))
      rw [putP_next, putM_zero] at hmp1
      have HUP : Hid (_ = _) := hup
      have HMP1 : Hid (Mp w1 w.heap.size (j + 1) (fun x => decide (0 ≤ x ∧ x < ((j + 1 : Nat) : Int))) (fun _ => 0)) := hmp1
      have HB1 : Hid (Below w.heap.size w w1) := HBL.out.trans (turned_below hturn (Nat.le_refl _))
      clear hup hmp1 hturn
      go_wp2_with (first | (at_mapUpdate; refine wpList_mapUpdate_run rfl _ _ _ _ rfl _ _ _ rfl rfl rfl _ HUP.out ?_) | fail)
      go_roundw
      case rel => exact ⟨j + 1, by omega, by go_num, HB1.out, HMP1.out⟩
      case measure => simp [intOf]; omega
    · have hjn : j = n := by omega
      subst hjn
      clear hlt hj
      obtain ⟨w1, hup, hmp1, hturn⟩ := HMP.out.put (x := (t : Int)) (v := 1) (by unfold maxLen; omega) (wf64_of (by omega) (by omega)) (wf64_of (by omega) (by omega))
      rw [putP_same (by simp; omega)] at hmp1
      have HUP : Hid (_ = _) := hup
      have HB1 : Hid (Below w.heap.size w w1) := HBL.out.trans (turned_below hturn (Nat.le_refl _))
      have HMP1 : Hid (Mp (w1.alloc (.cells #[.int .i64 (t : Int)] 2)) w.heap.size (j + 1) (fun x => decide (0 ≤ x ∧ x < (j : Int))) (putM (fun _ => 0) (t : Int) 1)) := hmp1.later (later1 _ _)
      have HQ1 : Hid (Qu (w1.alloc (.cells #[.int .i64 (t : Int)] 2)) w.heap.size (.slice (some ⟨w1.heap.size, 0, none⟩) 1 1) (intsN [t])) := Qu.one w1 _ HB1.out.size (t : Int)
      have HBQ : Hid (Below w.heap.size w (w1.alloc (.cells #[.int .i64 (t : Int)] 2))) := HB1.out.trans ((later1 _ _).mono HB1.out.size)
      clear hup hmp1 hturn HMP HBL
      have HBF : Hid (Bfs (entsOf ds) j [t] 0 0 (putM (fun _ => 0) (t : Int) 1) t) := Bfs.init _ _ _ hn0
      go_wp2_with (first | (at_mapUpdate; refine wpList_mapUpdate_run rfl _ _ _ _ rfl _ _ _ rfl rfl rfl _ HUP.out ?_) | fail)
      generalize hW : w1.alloc (.cells #[.int .i64 (t : Int)] 2) = W1 at *
      clear hW HUP HB1
      go_loopg [7] j (fun gk v wr => ∃ (h : List Nat) (p : Nat) (m : Int → Int) (N : Nat), gk + p = j ∧ N ≤ j + 1 + 6 * p ∧ Bfs (entsOf ds) j h p 0 m t ∧ Qu wr w.heap.size v (intsN (h.drop p)) ∧ Mp wr w.heap.size N (fun x => decide (0 ≤ x ∧ x < (j : Int))) m ∧ Below w.heap.size w wr)
      case atStart => exact ⟨[t], 0, _, j + 1, rfl, by omega, HBF.out, HQ1.out, HMP1.out, HBQ.out⟩
      case round =>
        obtain ⟨h, p, m, N, hgk, hN, hbf, hq, hmp, hbw⟩ := hrel
        have HBFS : Hid (Bfs (entsOf ds) j h p 0 m t) := hbf
        have HMPR : Hid (Mp wr w.heap.size N (fun x => decide (0 ≤ x ∧ x < (j : Int))) m) := hmp
        have HBW : Hid (Below w.heap.size w wr) := hbw
        obtain ⟨aq, cq, hv, hcq⟩ := hq.shape
        have HQU : Hid (Qu wr w.heap.size _ (intsN (h.drop p))) := hq
        have hlen : (intsN (h.drop p)).length = h.length - p := by rw [intsN_len, List.length_drop]
        rw [hlen] at hv hcq
        subst hv
        have hpl := hbf.le
        have hhl := hbf.len
        clear hbf hq hmp hbw HBF HQ1 HMP1 HBQ
        by_cases hp : p < h.length
        · obtain ⟨q, hqe⟩ : ∃ q, h[p]?.getD 0 = q := ⟨_, rfl⟩
          have HQE : Hid (h[p]?.getD 0 = q) := hqe
          have hqin : q ∈ h := by rw [← hqe, List.getElem?_eq_getElem hp]; exact List.getElem_mem hp
          have hqj : q < j := HBFS.out.lt q hqin
          have hdrop : h.drop p = q :: h.drop (p + 1) := by
            rw [List.drop_eq_getElem_cons hp, ← hqe, List.getElem?_eq_getElem hp]; rfl
          obtain ⟨g, off, rfl, cQ⟩ := HQU.out.cell (k := 0) (by rw [hlen]; omega)
          rw [intsN_get, hdrop] at cQ
          simp only [List.getElem?_cons_zero, Option.getD_some, Nat.add_zero] at cQ
          obtain ⟨b0, o0, rfl, hI⟩ := HC.out q hqj
          obtain ⟨aB, cB, aE, cE, _, _, _, _, c4w, h5⟩ := hI
          obtain ⟨_, _, e1, hm1, _, hc1⟩ := h5.2.2.open'
          simp only [Value.slice.injEq] at e1
          obtain ⟨rfl, _, rfl⟩ := e1
          have c4 := cell_later HBW.out c4w
          have HCB : Hid (AtN w aE (ds[q]?.getD id0).2.2.2.2.length (ds[q]?.getD id0).2.2.2.2) := hc1
          have HEG : Hid (∀ k, k < (ds[q]?.getD id0).2.2.2.2.length → (entsOf ds q)[k]? = some ((ds[q]?.getD id0).2.2.2.2[k]?.getD en0).2) := fun k hk => entsOf_get hk
          have HEL : Hid ((entsOf ds q).length = (ds[q]?.getD id0).2.2.2.2.length) := entsOf_len ds q
          have hE6 : (ds[q]?.getD id0).2.2.2.2.length ≤ 6 := by have := H6.out q; rw [HEL.out] at this; exact this
          have HRQ : Hid (∀ x ∈ entsOf ds q, 0 ≤ x ∧ x < (j : Int)) := HR.out q hqj
          clear c4w h5 hc1 hm1 hqin
          generalize (ds[q]?.getD id0).2.2.2.2 = es at *
          generalize es.length = nE at *
          have hq0 : ((q : Nat) : Int) < (j : Int) := by omega
          have hpos : 0 < h.length - p := by omega
          have HHL : Hid (h.length ≤ j) := hhl
          have HGK : Hid (gk + p = j) := hgk
          have HNN : Hid (N ≤ j + 1 + 6 * p) := hN
          have HPL : Hid (p < h.length) := hp
          have hp10 : p ≤ 10 := by omega
          clear hlen hqe hdrop hhl hgk hN hp hpl
          generalize h.length - p = nq at *
          go_wp2
          clear cQ c4
          obtain ⟨wo, rfl⟩ : ∃ wo, wo = wr := ⟨_, rfl⟩
          go_loopw [7, 38] (fun v i wr2 => ∃ (k : Nat) (h2 : List Nat) (m2 : Int → Int) (N2 : Nat), k ≤ nE ∧ i = .int .i64 k ∧ N2 ≤ j + 1 + 6 * p + k ∧ p < h2.length ∧ h2[p]?.getD 0 = q ∧ Bfs (entsOf ds) j h2 p k m2 t ∧ Qu wr2 w.heap.size v (intsN (h2.drop p)) ∧ Mp wr2 w.heap.size N2 (fun x => decide (0 ≤ x ∧ x < (j : Int))) m2 ∧ Below w.heap.size w wr2) (fun _ i _ => nE - (intOf i).toNat)
          case atStart => exact ⟨0, h, m, N, Nat.zero_le _, rfl, HNN.out, HPL.out, HQE.out, HBFS.out, HQU.out, HMPR.out, HBW.out⟩
          case round =>
            obtain ⟨k, h2, m2, N2, hk, rfl, hN2, hp2, hq2, hbf2, hqu2, hmp2, hbw2⟩ := hrel
            have HN2 : Hid (N2 ≤ j + 1 + 6 * p + k) := hN2
            have HP2 : Hid (p < h2.length) := hp2
            have HQ2 : Hid (h2[p]?.getD 0 = q) := hq2
            have HBF2 : Hid (Bfs (entsOf ds) j h2 p k m2 t) := hbf2
            have HMP2 : Hid (Mp wr w.heap.size N2 (fun x => decide (0 ≤ x ∧ x < (j : Int))) m2) := hmp2
            have HBW2 : Hid (Below w.heap.size w wr) := hbw2
            obtain ⟨av, cv, hv, hcv⟩ := hqu2.shape
            have HQU2 : Hid (Qu wr w.heap.size _ (intsN (h2.drop p))) := hqu2
            have hlen2 : (intsN (h2.drop p)).length = h2.length - p := by rw [intsN_len, List.length_drop]
            rw [hlen2] at hv hcv
            have hh2 := hbf2.len
            subst hv
            clear hN2 hbf2 hqu2 hmp2 hbw2 HQU HMPR HBFS HNN HPL HQE HBW
            by_cases hlk : k < nE
            · obtain ⟨b1, o1, rfl, d0, d1⟩ := HCB.out k hlk
              replace d0 := cell_later HBW2.out d0
              replace d1 := cell_later HBW2.out d1
              have hxk := HEG.out k hlk
              have hxr := HRQ.out _ (List.mem_of_getElem? hxk)
              have HXK : Hid ((entsOf ds (h2[p]?.getD 0))[k]? = some (es[k]?.getD en0).2) := by unfold Hid; rw [HQ2.out]; exact hxk
              clear hxk hlen2 hq2 HEG
              generalize (es[k]?.getD en0).1 = nm at *
              generalize (es[k]?.getD en0).2 = x at *
              have hwx : wf64 x := wf64_of hxr.1 (by omega)
              have hbn := HBF2.out.bnd hn (by omega) x
              have hmpa : Mp (wr.alloc (.cells #[.string nm, .int .i64 x] 109)) w.heap.size N2 (fun x => decide (0 ≤ x ∧ x < (j : Int))) m2 := HMP2.out.later (later1 _ _)
              have HLK1 : Hid (_ = _) := hmpa.look hwx
              obtain ⟨wB, hup, hmpb, hturn⟩ := hmpa.put (x := x) (v := m2 x + 1) (by have := HN2.out; unfold maxLen; omega) hwx (wf64_of (by omega) (by omega))
              rw [putP_same (by simp; omega)] at hmpb
              have HUP : Hid (_ = _) := hup
              have HLK2 : Hid (_ = _) := hmpb.look hwx
              rw [putM_at] at HLK2
              have hsz2 : w.heap.size ≤ wr.heap.size := HBW2.out.size
              have ce : (wr.alloc (.cells #[.string nm, .int .i64 x] 109)).cell? ⟨wr.heap.size, 1, none⟩ = some (.int .i64 x) := by rw [new_cell]; rfl
              have hblt : w.heap.size < wr.heap.size := HMP2.out.lt
              have ceB : wB.cell? ⟨wr.heap.size, 1, none⟩ = some (.int .i64 x) := cell_turned hturn (by omega) ce
              have HQB : Hid (Qu wB w.heap.size (.slice av (h2.length - p) cv) (intsN (h2.drop p))) := (HQU2.out.later (later1 _ _)).turned hmpa hturn
              have HBB : Hid (Below w.heap.size w wB) := (HBW2.out.trans ((later1 _ _).mono hsz2)).trans (turned_below hturn (Nat.le_refl _))
              have HMB : Hid (Mp wB w.heap.size (N2 + 1) (fun x => decide (0 ≤ x ∧ x < (j : Int))) (putM m2 x (m2 x + 1))) := hmpb
              obtain ⟨mx, hmx⟩ : ∃ mx, m2 x = mx := ⟨_, rfl⟩
              have HMX : Hid (m2 x = mx) := hmx
              rw [hmx] at HLK1 HUP HLK2 hbn HMB
              clear hmpa hup hmpb hturn hmx HMP2 HBW2
              by_cases hone : mx + 1 = 1
              · have hb1 : (mx + 1 == 1) = true := by simpa using hone
                obtain ⟨v', X, hap, hqX, hbX, hkX⟩ := append_q wB w.heap.size _ _ x HQB.out HBB.out.size (by rw [intsN_len, List.length_drop]; omega)
                have HAP : Hid (_ = _) := hap
                have hxn : ((x.toNat : Nat) : Int) = x := by omega
                have HBFN : Hid (Bfs (entsOf ds) j (h2 ++ [x.toNat]) p (k + 1) (putM m2 x (mx + 1)) t) := by
                  have := HBF2.out.new HP2.out HXK.out hxr.1 hxr.2 (by rw [HMX.out]; exact hone)
                  rw [HMX.out] at this
                  exact this
                have HQX : Hid (Qu X w.heap.size v' (intsN ((h2 ++ [x.toNat]).drop p))) := by
                  unfold Hid
                  rw [List.drop_append_of_le_length (by omega)]
                  unfold intsN at hqX ⊢
                  rw [List.map_append, List.map_singleton, hxn]
                  exact hqX
                have HMX2 : Hid (Mp X w.heap.size (N2 + 1) (fun x => decide (0 ≤ x ∧ x < (j : Int))) (putM m2 x (mx + 1))) := HMB.out.keepQ hkX
                have HBX : Hid (Below w.heap.size w X) := HBB.out.trans hbX
                have HQP : Hid ((h2 ++ [x.toNat])[p]?.getD 0 = q) := by unfold Hid; rw [List.getElem?_append_left HP2.out]; exact HQ2.out
                clear hap hqX hbX hkX hone HQB HMB HBB hxn
                go_wp2_with (first
                  | (at_lookup; first | refine wpList_lookup_run rfl _ _ _ rfl _ _ rfl rfl _ HLK1.out ?_ | refine wpList_lookup_run rfl _ _ _ rfl _ _ rfl rfl _ HLK2.out ?_)
                  | (at_mapUpdate; refine wpList_mapUpdate_run rfl _ _ _ _ rfl _ _ _ rfl rfl rfl _ HUP.out ?_)
                  | refine wpList_append_run rfl _ _ _ rfl _ _ rfl rfl _ _ HAP.out ?_
                  | fail)
                go_roundw
                case rel => exact ⟨k + 1, h2 ++ [x.toNat], _, N2 + 1, by omega, by go_num, by have := HN2.out; omega, by rw [List.length_append]; have := HP2.out; omega, HQP.out, HBFN.out, HQX.out, HMX2.out, HBX.out⟩
                case measure => simp [intOf]; omega
              · have hb1 : (mx + 1 == 1) = false := by simpa using hone
                have HBFN : Hid (Bfs (entsOf ds) j h2 p (k + 1) (putM m2 x (mx + 1)) t) := by
                  have := HBF2.out.old HXK.out hxr.1 (by rw [HMX.out]; exact hone)
                  rw [HMX.out] at this
                  exact this
                clear hone
                go_wp2_with (first
                  | (at_lookup; first | refine wpList_lookup_run rfl _ _ _ rfl _ _ rfl rfl _ HLK1.out ?_ | refine wpList_lookup_run rfl _ _ _ rfl _ _ rfl rfl _ HLK2.out ?_)
                  | (at_mapUpdate; refine wpList_mapUpdate_run rfl _ _ _ _ rfl _ _ _ rfl rfl rfl _ HUP.out ?_)
                  | fail)
                go_roundw
                case rel => exact ⟨k + 1, h2, _, N2 + 1, by omega, by go_num, by have := HN2.out; omega, HP2.out, HQ2.out, HBFN.out, HQB.out, HMB.out, HBB.out⟩
                case measure => simp [intOf]; omega
            · have hke : k = nE := by omega
              have hBN : Bfs (entsOf ds) j h2 (p + 1) 0 m2 t := HBF2.out.next HP2.out (by rw [HQ2.out, HEL.out]; exact hke.symm) (by omega)
              have hd2 : h2.drop p = q :: h2.drop (p + 1) := by
                rw [List.drop_eq_getElem_cons hp2, ← hq2, List.getElem?_eq_getElem hp2]; rfl
              obtain ⟨A, C, hsl, htl⟩ := slice_tailQ av (h2.length - p) cv (by omega) hcv
              have HQT : Hid (Qu wr w.heap.size (.slice A (h2.length - p - 1) C) (intsN (h2.drop (p + 1)))) := htl wr w.heap.size (q : Int) _ (by
                have := HQU2.out
                rw [hd2] at this
                exact this)
              have HBFN : Hid (Bfs (entsOf ds) j h2 (p + 1) 0 m2 t) := hBN
              have HG2 : Hid (gk - 1 < gk ∧ gk - 1 + (p + 1) = j) := by have := HGK.out; have := HBFN.out.le; have := HBFN.out.len; unfold Hid; omega
              have HNX : Hid (N2 ≤ j + 1 + 6 * (p + 1)) := by have := HN2.out; unfold Hid; omega
              clear hBN hd2 htl hke hq2 hlen2
              go_wp2
              go_roundg (gk - 1)
              case measure => exact HG2.out.1
              case rel => exact ⟨h2, p + 1, m2, N2, HG2.out.2, HNX.out, HBFN.out, HQT.out, HMP2.out, HBW2.out⟩
        · have hpe : p = h.length := by omega
          have HD : Hid (∀ i : Nat, 0 < m (i : Int) ↔ RT (entsOf ds) t i) := fun i => HBFS.out.done hpe i
          have HNNEG : Hid (∀ x, 0 ≤ m x) := HBFS.out.nn
          obtain ⟨D, ho, ht⟩ := HMPR.out
          have HT : Hid (Tells D (fun x => decide (0 ≤ x ∧ x < (j : Int))) m) := ht
          have hz0 : h.length - p = 0 := by omega
          have hbs : w.heap.size ≤ wr.heap.size := HBW.out.size
          rw [hz0] at *
          clear ht hlen hpe hp hpl hhl hgk hN hcq HQU HBFS HMPR HC HR H6
          go_wp2_with (first
            | (at_range; refine wpList_range_own _ rfl _ 115 rfl 2 2 Tryz.keyInt Tryz.underlying115 _ w.heap.size N _ rfl ho ?_; intro w0 hrg0 hg0 hs0)
            | go_in)
          try go_frame
          have HRG0 : Hid (w0.ranges Tryz.prog 2 (plainElem Tryz.prog 2) w.heap.size wr.heap.size N D (Maps.has D) (Maps.size D)) := hrg0
          have HB0 : Hid (Below w.heap.size w w0) := HBW.out.trans (below_grown hg0 hbs (by simp))
          clear hrg0 hg0 hs0 ho
          generalize wr.heap.size = rb at *
          go_loopw [10] (fun _ wr2 => ∃ (left : Lit → Bool) (cnt : Nat) (D2 : DataW Unit), wr2.ranges Tryz.prog 2 (plainElem Tryz.prog 2) w.heap.size rb N D2 left cnt ∧ SweepT D2 (fun x => decide (0 ≤ x ∧ x < (j : Int))) m left ∧ Below w.heap.size w wr2) (fun _ wr2 => wr2.rangeLeft w.heap.size rb)
          case atStart => exact ⟨_, _, D, HRG0.out, SweepT.start HT.out, HB0.out⟩
          case round =>
            obtain ⟨left, cnt, D2, hrg, hsw, hbw⟩ := hrel
            have HSW : Hid (SweepT D2 (fun x => decide (0 ≤ x ∧ x < (j : Int))) m left) := hsw
            have HB2 : Hid (Below w.heap.size w wr) := hbw
            clear hsw hbw HRG0 HT HB0 HBW
            have hsz := HB2.out.size
            go_wp2_with (first
              | (at_next; refine wpList_next_ranges_ii _ rfl _ rfl 2 2 .i64 .i64 Tryz.keyInt Tryz.underlying2 Tryz.underlying2 w.heap.size rb N _ _ _ rfl hrg ?_ ?_)
              | go_in)
            · intro _ hl0
              have HTL := HSW.out.done hl0
              have HMF : Hid (Mp wr w.heap.size N (fun x => decide (0 ≤ x ∧ x < (j : Int)) && !decide (m x = 0)) m) := ⟨D2, hrg.owns, HTL⟩
              clear HTL hl0 hrg
              go_wp2
              go_ret
              exact ⟨_, _, m, rfl, HB2.out, Nat.le_refl _, HMF.out, HD.out, HNNEG.out⟩
            · intro x c w1 cnt1 hwx hwc hlx hat hrg1 hlt hg1 hs1 hen
              have HB1 : Hid (Below w.heap.size w w1) := HB2.out.trans (below_grown hg1 hsz (fun k hk => by cases hk; exact hbs))
              go_wp2_with (first
                | (at_delete; refine wpList_delete_ranges _ rfl _ _ 115 2 rfl 2 Tryz.keyInt Tryz.underlying115 _ w.heap.size rb N _ _ _ rfl hrg1 _ _ rfl (keyOf_int_mk Tryz.underlying2 hwx) ?_; intro w2 cnt2 hrg2 hle hturn; go_frame)
                | go_in)
              · have hc0 : c = 0 := by simpa using (by assumption : (c == 0) = true)
                subst hc0
                rw [strike_twice] at hrg2
                go_roundw
                case rel => exact ⟨_, cnt2, _, hrg2, HSW.out.struck hwx hat, HB1.out.trans (turned_below hturn (Nat.le_refl _))⟩
                case measure => rw [hrg2.left_eq, hrg.left_eq]; omega
              · have hc0 : ¬ c = 0 := by simpa using (by assumption : (c == 0) = false)
                go_roundw
                case rel => exact ⟨_, cnt1, _, hrg1, HSW.out.stays hwx hat hc0, HB1.out⟩
                case measure => rw [hrg1.left_eq, hrg.left_eq]; exact hlt
theorem reachFrom_any (w : World) (a : Option Addr) (n c : Nat) (ds : List ID) (hdn : ds.length = n) (hn0 : 0 < n) (hn : n ≤ 10) (hc : AtI w a n ds) (hr : inRange ds) (h6 : ∀ i, (entsOf ds i).length ≤ 6) :
    Calls Tryz.prog 76 #[.slice a n c, .int .i64 0] w fun e w' => ∃ b N m, e = .returned (.map (some b)) ∧ Below w.heap.size w w' ∧ w.heap.size ≤ b ∧ Mp w' b N (fun x => decide (0 ≤ x ∧ x < (n : Int)) && !decide (m x = 0)) m ∧ (∀ i : Nat, 0 < m (i : Int) ↔ RP (entsOf ds) i) ∧ ∀ x, 0 ≤ m x :=
  reachFrom_top w a n c 0 ds hdn hn0 hn hc hr h6
end Go.Proofs.YtlacppjlclfpmaaGreat

namespace Go.Proofs.YtlacppjlclfpmaaGreat
open Go.RowKit
set_option maxRecDepth 100000

theorem AnsIR.gen {w w2 : World} {r : Int} {a : Option Addr} {n c : Nat} {zs : List Int} (hb : Below w.heap.size w w2) (ho : IntsO w2 (.slice a n c) zs (fun b => w.heap.size + 1 ≤ b ∧ b < w2.heap.size)) (x y : Value) :
    AnsIR w (r, zs) (.returned (.agg #[.int .i64 r, .slice a n c])) ((w2.setCell ⟨w.heap.size, 0, none⟩ x).setCell ⟨w.heap.size, 1, none⟩ y) := by
  refine ⟨_, _, _, rfl, (hb.setCell (by simp) _).setCell (by simp) _, (ho.keep fun b hb hlt => ?_).mono fun b hb => ⟨by omega, by simp only [World.setCell, Array.size_modify]; exact hb.2⟩⟩
  rw [Below.heap_setCell _ _ _ _ (by simp; omega), Below.heap_setCell _ _ _ _ (by simp; omega)]
theorem AnsIR.later {w w2 w3 : World} {r : Int × List Int} {e : Ending} (h : AnsIR w r e w2) (hb : Below w2.heap.size w2 w3) : AnsIR w r e w3 := by
  obtain ⟨a, n, c, h1, h2, h3⟩ := h
  exact ⟨a, n, c, h1, h2.trans (hb.mono h2.size), (h3.keep fun b _ hlt => hb.block b hlt).mono fun b hh => ⟨hh.1, Nat.lt_of_lt_of_le hh.2 hb.size⟩⟩

end Go.Proofs.YtlacppjlclfpmaaGreat

namespace Go.Proofs.YtlacppjlclfpmaaGreat
open Go.RowKit
set_option maxRecDepth 100000

set_option maxHeartbeats 3200000 in
theorem implPack_bad (w : World) (z0 z1 z2 : Int) (aB : Option Addr) (nB cB : Nat) (aE : Option Addr) (nE cE : Nat) (d : ID) (h : InoR w (.int .i64 z0) (.int .i64 z1) (.int .i64 z2) (.slice aB nB cB) (.slice aE nE cE) d) (hs : sizeIno d ≤ 1048576) (hf : ¬ inoF d = 0) :
    Calls Tryz.prog 72 #[.agg #[.int .i64 z0, .int .i64 z1, .int .i64 z2, .slice aB nB cB, .slice aE nE cE]] w (AnsIR w (inoF d, [])) := by
  have HIF : Hid (∀ W, Below w.heap.size w W → Calls Tryz.prog 90 #[.agg #[.int .i64 z0, .int .i64 z1, .int .i64 z2, .slice aB nB cB, .slice aE nE cE]] W fun e w' => e = .returned (.int .i64 (inoF d)) ∧ Below W.heap.size W w') := fun W hW => implInoU W z0 z1 z2 aB nB cB aE nE cE d (h.later hW) hs
  have HRB : Hid (OwnRow ((w.alloc (.cells #[.int .i64 z0, .int .i64 z1, .int .i64 z2, .slice aB nB cB, .slice aE nE cE] 58)).alloc (.cells #[.int .i64 0, .slice none 0 0] 112)) (w.heap.size + 1) 2 (fun i => if i = 0 then .int .i64 0 else .slice none 0 0)) := by
    have := OwnRow.newS (w.alloc (.cells #[.int .i64 z0, .int .i64 z1, .int .i64 z2, .slice aB nB cB, .slice aE nE cE] 58)) (.int .i64 0) (.slice none 0 0) 112
    simp only [World.size_alloc] at this
    exact this
  have HF : Hid (¬ inoF d = 0) := hf
  clear h hs hf
  generalize inoF d = r at *
  have hr : (r != 0) = true := by simpa using HF.out
  go_enter Tryz.func72, Tryz.ntmps72
  go_wp2_with fail
  refine (HIF.out _ (later2 _ _ _)).mono ?_
  rintro e w1 ⟨rfl, hb1⟩
  have HB1 : Hid (Below w.heap.size w w1) := (later2 _ _ _).trans (hb1.mono (by simp; omega))
  have hrow := HRB.out.later hb1
  have t0 := hrow.cell (i := 0) (by omega)
  have t1 := hrow.cell (i := 1) (by omega)
  have s0 := hrow.frozen 0
  have s1 := hrow.frozen 1
  simp at t0 t1
  clear hb1 hrow HRB
  go_wp2
  refine bodyPost_ret (v := .agg #[.int .i64 r, .slice none 0 0]) (by simp [results, Tryz.results72, go_sem, t0, t1]) rfl ⟨_, _, _, rfl, (HB1.out.setCell (by simp) _).setCell (by simp) _, Or.inl ⟨rfl, _, _, rfl⟩⟩

/-- Block b holds vs and is not frozen. -/
theorem Obx.row {w : World} {b : Nat} {x y : Value} {t : TypeId} (h : Obx w b [x, y] t) : OwnRow w b 2 (fun i => if i = 0 then x else y) := by
  refine ⟨_, _, h, by simp, fun i hi => ?_⟩
  have : i = 0 ∨ i = 1 := by omega
  rcases this with rfl | rfl <;> simp

set_option maxHeartbeats 3200000 in
theorem implPack_flat (w : World) (z0 z1 z2 : Int) (aB : Option Addr) (nB cB : Nat) (aE : Option Addr) (nE cE : Nat) (d : ID) (h : InoR w (.int .i64 z0) (.int .i64 z1) (.int .i64 z2) (.slice aB nB cB) (.slice aE nE cE) d) (hs : sizeIno d ≤ 1048576) (hf : inoF d = 0) (bs : List Int) (hn : nB ≤ 1048576) (hbn : bs.length = nB) (hc : At1 w aB nB (fun k => .int .i64 (bs[k]?.getD 0))) (hk : ¬ z0 = 2) (zs : List Int) (hzs : [z0, z1, z2] ++ bs = zs) :
    Calls Tryz.prog 72 #[.agg #[.int .i64 z0, .int .i64 z1, .int .i64 z2, .slice aB nB cB, .slice aE nE cE]] w (AnsIR w (0, zs)) := by
  have HZS : Hid ([z0, z1, z2] ++ bs = zs) := hzs
  clear hzs
  have HIF : Hid (∀ W, Below w.heap.size w W → Calls Tryz.prog 90 #[.agg #[.int .i64 z0, .int .i64 z1, .int .i64 z2, .slice aB nB cB, .slice aE nE cE]] W fun e w' => e = .returned (.int .i64 0) ∧ Below W.heap.size W w') := fun W hW => by rw [← hf]; exact implInoU W z0 z1 z2 aB nB cB aE nE cE d (h.later hW) hs
  have HRB : Hid (Obx ((w.alloc (.cells #[.int .i64 z0, .int .i64 z1, .int .i64 z2, .slice aB nB cB, .slice aE nE cE] 58)).alloc (.cells #[.int .i64 0, .slice none 0 0] 112)) (w.heap.size + 1) [.int .i64 0, .slice none 0 0] 112) := by
    have := Obx.new (w.alloc (.cells #[.int .i64 z0, .int .i64 z1, .int .i64 z2, .slice aB nB cB, .slice aE nE cE] 58)) [.int .i64 0, .slice none 0 0] 112
    simp only [World.size_alloc] at this
    exact this
  have HXB : Hid (Obx ((w.alloc (.cells #[.int .i64 z0, .int .i64 z1, .int .i64 z2, .slice aB nB cB, .slice aE nE cE] 58)).alloc (.cells #[.int .i64 0, .slice none 0 0] 112)) w.heap.size [.int .i64 z0, .int .i64 z1, .int .i64 z2, .slice aB nB cB, .slice aE nE cE] 58) := (Obx.new w [.int .i64 z0, .int .i64 z1, .int .i64 z2, .slice aB nB cB, .slice aE nE cE] 58).keep (KeepT.later (later1 _ _)) (by decide)
  have HC : Hid (At1 w aB nB (fun k => .int .i64 (bs[k]?.getD 0))) := hc
  have hk' : (z0 != 2) = true := by simpa using hk
  clear h hs hf hc hk
  go_enter Tryz.func72, Tryz.ntmps72
  go_wp2_with fail
  refine (HIF.out _ (later2 _ _ _)).mono ?_
  rintro e w1 ⟨rfl, hb1⟩
  have HB1 : Hid (Below w.heap.size w w1) := (later2 _ _ _).trans (hb1.mono (by simp; omega))
  have hxb := HXB.out.keep (KeepT.later hb1) (by decide)
  have hrb := HRB.out.keep (KeepT.later hb1) (by decide)
  have hw1s : w.heap.size + 2 ≤ w1.heap.size := by have := hb1.size; simp at this; omega
  have c0 := hxb.bx 0 _ rfl
  have c1 := hxb.bx 1 _ rfl
  have c2 := hxb.bx 2 _ rfl
  have hkl : KeepT w1 (w1.alloc (.cells #[.int .i64 z0, .int .i64 z1, .int .i64 z2] 2)) := KeepT.later (later1 _ _)
  have c0' := (hxb.keep hkl (by decide)).bx 0 _ rfl
  have c3 := (hxb.keep hkl (by decide)).bx 3 _ rfl
  obtain ⟨v1, X1, hr1, hw1, hb2, hk1⟩ := append_first w1 w1 (Below.refl _ _) z0 z1 z2 aB nB cB bs hn hbn (fun k hk => by
    obtain ⟨b, off, e, h⟩ := HC.out k hk
    exact ⟨b, off, e, cell_later HB1.out h⟩)
  have hzl : 0 < zs.length := by rw [← HZS.out]; simp
  rw [HZS.out] at hw1
  have hrb2 := (hrb.keep hk1 (by decide)).row
  have t0 := hrb2.cell (i := 0) (by omega)
  have t1 := hrb2.cell (i := 1) (by omega)
  have s0 := hrb2.frozen 0
  have s1 := hrb2.frozen 1
  simp at t0 t1
  obtain ⟨aV, cV, rfl⟩ := hw1.shape
  have HR : Hid (_ = _) := hr1
  have HB2 : Hid (Below w.heap.size w X1) := HB1.out.trans (hb2.mono HB1.out.size)
  have HI : Hid (IntsO X1 (.slice aV zs.length cV) zs (fun b => w.heap.size + 2 ≤ b ∧ b < X1.heap.size)) := (hw1.own (w0 := w1) hzl (Nat.le_refl _)).mono fun b hb => ⟨by have := hb.1; omega, hb.2⟩
  clear hr1 hw1 hb2 hk1 hrb2 hrb hxb hb1 hkl HRB HXB HC HIF
  go_wp2_with (at_builtin; refine wpList_append_run rfl _ _ 55 rfl _ _ rfl rfl _ _ HR.out ?_)
  refine bodyPost_ret (v := .agg #[.int .i64 0, .slice aV zs.length cV]) (by simp [results, Tryz.results72, go_sem, t0, t1]) rfl ⟨_, _, _, rfl, (HB2.out.setCell (by simp) _).setCell (by simp) _, (HI.out.keep fun b hb hlt => ?_).mono fun b hb => ⟨by omega, by simp only [World.setCell, Array.size_modify]; exact hb.2⟩⟩
  rw [Below.heap_setCell _ _ _ _ (by simp; omega), Below.heap_setCell _ _ _ _ (by simp; omega)]

set_option maxHeartbeats 12800000 in
theorem implPack_dir (w : World) (z1 z2 : Int) (aB : Option Addr) (nB cB : Nat) (aE : Option Addr) (nE cE : Nat) (d : ID) (h : InoR w (.int .i64 2) (.int .i64 z1) (.int .i64 z2) (.slice aB nB cB) (.slice aE nE cE) d) (hs : sizeIno d ≤ 1048576) (hf : inoF d = 0) (es : List EN) (hen : es.length = nE) (hnE : nE ≤ 1048576) (hsz : (entsW es).length ≤ 4194304) (hce : AtN w aE nE es) (pre zs : List Int) (hpre : [2, z1, z2] ++ [(nE : Int)] = pre) (hzs : pre ++ entsW es = zs) :
    Calls Tryz.prog 72 #[.agg #[.int .i64 2, .int .i64 z1, .int .i64 z2, .slice aB nB cB, .slice aE nE cE]] w (AnsIR w (0, zs)) := by
  have HZS : Hid (pre ++ entsW es = zs) := hzs
  have HPRE : Hid ([2, z1, z2] ++ [(nE : Int)] = pre) := hpre
  clear hpre hzs
  have HIF : Hid (∀ W, Below w.heap.size w W → Calls Tryz.prog 90 #[.agg #[.int .i64 2, .int .i64 z1, .int .i64 z2, .slice aB nB cB, .slice aE nE cE]] W fun e w' => e = .returned (.int .i64 0) ∧ Below W.heap.size W w') := fun W hW => by rw [← hf]; exact implInoU W 2 z1 z2 aB nB cB aE nE cE d (h.later hW) hs
  have HRB : Hid (Obx ((w.alloc (.cells #[.int .i64 2, .int .i64 z1, .int .i64 z2, .slice aB nB cB, .slice aE nE cE] 58)).alloc (.cells #[.int .i64 0, .slice none 0 0] 112)) (w.heap.size + 1) [.int .i64 0, .slice none 0 0] 112) := by
    have := Obx.new (w.alloc (.cells #[.int .i64 2, .int .i64 z1, .int .i64 z2, .slice aB nB cB, .slice aE nE cE] 58)) [.int .i64 0, .slice none 0 0] 112
    simp only [World.size_alloc] at this
    exact this
  have HXB : Hid (Obx ((w.alloc (.cells #[.int .i64 2, .int .i64 z1, .int .i64 z2, .slice aB nB cB, .slice aE nE cE] 58)).alloc (.cells #[.int .i64 0, .slice none 0 0] 112)) w.heap.size [.int .i64 2, .int .i64 z1, .int .i64 z2, .slice aB nB cB, .slice aE nE cE] 58) := (Obx.new w [.int .i64 2, .int .i64 z1, .int .i64 z2, .slice aB nB cB, .slice aE nE cE] 58).keep (KeepT.later (later1 _ _)) (by decide)
  have HCE : Hid (AtN w aE nE es) := hce
  have HEN : Hid (es.length = nE) := hen
  have HSZ : Hid ((entsW es).length ≤ 4194304) := hsz
  clear h hs hf hce hen hsz
  go_enter Tryz.func72, Tryz.ntmps72
  go_wp2_with fail
  refine (HIF.out _ (later2 _ _ _)).mono ?_
  rintro e w1 ⟨rfl, hb1⟩
  have HB1 : Hid (Below w.heap.size w w1) := (later2 _ _ _).trans (hb1.mono (by simp; omega))
  have hxb := HXB.out.keep (KeepT.later hb1) (by decide)
  have hrb := HRB.out.keep (KeepT.later hb1) (by decide)
  have hw1s : w.heap.size + 2 ≤ w1.heap.size := by have := hb1.size; simp at this; omega
  have c0 := hxb.bx 0 _ rfl
  have c1 := hxb.bx 1 _ rfl
  have c2 := hxb.bx 2 _ rfl
  have hl := Wds.lit w1 w1.heap.size (Nat.le_refl _) [2, z1, z2] #[.int .i64 2, .int .i64 z1, .int .i64 z2] rfl 3 rfl (by omega)
  have hkl : KeepT w1 (w1.alloc (.cells #[.int .i64 2, .int .i64 z1, .int .i64 z2] 2)) := KeepT.later (later1 _ _)
  obtain ⟨v2, X2, hr2, hw2, hb2, hk2⟩ := append_wds (w1.alloc (.cells #[.int .i64 2, .int .i64 z1, .int .i64 z2] 2)) w1.heap.size _ [2, z1, z2] [(nE : Int)] #[.int .i64 (nE : Int)] 1 rfl rfl hl (by simp) (by simp) (by simp) (by omega)
  have c4 := (hxb.keep hkl (by decide)).bx 4 _ rfl
  have c0' := (hxb.keep hkl (by decide)).bx 0 _ rfl
  simp only [World.size_alloc] at hr2
  have HR2 : Hid (_ = _) := hr2
  rw [HPRE.out] at hw2
  have HW2 : Hid (Wds X2 w1.heap.size v2 pre) := hw2
  have HB2 : Hid (Below w1.heap.size w1 X2) := (later1 _ _).trans hb2
  have HO2 : Hid (Obx X2 w.heap.size [.int .i64 2, .int .i64 z1, .int .i64 z2, .slice aB nB cB, .slice aE nE cE] 58) := (hxb.keep hkl (by decide)).keep hk2 (by decide)
  have HQ2 : Hid (Obx X2 (w.heap.size + 1) [.int .i64 0, .slice none 0 0] 112) := (hrb.keep hkl (by decide)).keep hk2 (by decide)
  have c4b := HO2.out.bx 4 _ rfl
  have HL : Hid (pre.length ≤ 1048580) := by unfold Hid; rw [← HPRE.out]; simp
  have HP : Hid (0 < pre.length) := by unfold Hid; rw [← HPRE.out]; simp
  clear hr2 hw2 hb2 hk2 hrb hxb hb1 HRB HXB HIF hl hkl
  go_wp2_with (at_builtin; refine wpList_append_run rfl _ _ 55 rfl _ _ rfl rfl _ _ HR2.out ?_)
  clear c0 c1 c2 c4 c0' c4b HR2
  go_loopw [4, 38] (fun o i wr => ∃ (j : Nat) (v : Value), o = v ∧ j ≤ nE ∧ i = .int .i64 j ∧ Below w1.heap.size w1 wr ∧ Obx wr (w.heap.size + 1) [.int .i64 0, .slice none 0 0] 112 ∧ Wds wr w1.heap.size v (pre ++ entsW (es.take j))) (fun _ i _ => nE - (intOf i).toNat)
  case atStart => exact ⟨0, _, rfl, Nat.zero_le _, rfl, HB2.out, HQ2.out, by simpa [entsW] using HW2.out⟩
  case round =>
    clear HB2 HQ2 HW2
    obtain ⟨j, v, rfl, hj, rfl, hbl, hqx, hwd⟩ := hrel
    have HBL : Hid (Below w1.heap.size w1 wr) := hbl
    have HBW : Hid (Below w.heap.size w wr) := HB1.out.trans (hbl.mono HB1.out.size)
    have HQX : Hid (Obx wr (w.heap.size + 1) [.int .i64 0, .slice none 0 0] 112) := hqx
    have HWD : Hid (Wds wr w1.heap.size _ (pre ++ entsW (es.take j))) := hwd
    obtain ⟨aV, cV, rfl⟩ := hwd.shape
    clear hbl hqx hwd
    by_cases hlt : j < nE
    · obtain ⟨b1, off, rfl, e0, e1⟩ := HCE.out j hlt
      replace e0 := cell_later HBW.out e0
      replace e1 := cell_later HBW.out e1
      have HTK : Hid (entsW (es.take (j + 1)) = entsW (es.take j) ++ entW (es[j]?.getD en0)) := entsW_take es j (by rw [HEN.out]; exact hlt)
      have HUP : Hid ((entsW (es.take j)).length + 2 + (es[j]?.getD en0).1.size ≤ (entsW es).length) := upto_size es j (by rw [HEN.out]; exact hlt)
      have HET : Hid (es[j]?.getD en0 = ((es[j]?.getD en0).1, (es[j]?.getD en0).2)) := rfl
      rw [HET.out] at HTK
      generalize (es[j]?.getD en0).1 = x at *
      generalize (es[j]?.getD en0).2 = y at *
      have hxs : x.size ≤ 4194304 := by have := HUP.out; have := HSZ.out; omega
      obtain ⟨v3, X3, hr3, hw3, hb3, hk3⟩ := append_wds (wr.alloc (.cells #[.string x, .int .i64 y] 109)) w1.heap.size _ (pre ++ entsW (es.take j)) [y, (x.size : Int)] #[.int .i64 y, .int .i64 (x.size : Int)] 2 rfl rfl (HWD.out.later (later1 _ _)) (by simp; have := HBL.out.size; omega) (by simp only [List.length_append]; have := HL.out; have := HUP.out; have := HSZ.out; omega) (by simp only [List.length_append]; have := HP.out; omega) (by omega)
      have hoe := (Obx.new wr [.string x, .int .i64 y] 109).keep hk3 (by decide)
      have hoq := (HQX.out.keep (KeepT.later (later1 wr (.cells #[.string x, .int .i64 y] 109))) (by decide)).keep hk3 (by decide)
      simp only [World.size_alloc] at hr3
      have c5 := hoe.bx 0 _ rfl
      have HR3 : Hid (_ = _) := hr3
      have HW3 : Hid (Wds X3 w1.heap.size v3 (pre ++ entsW (es.take j) ++ [y, (x.size : Int)])) := hw3
      have HB3 : Hid (Below w1.heap.size w1 X3) := (HBL.out.trans ((later1 _ _).mono HBL.out.size)).trans hb3
      have HOE : Hid (Obx X3 wr.heap.size [.string x, .int .i64 y] 109) := hoe
      have HOQ : Hid (Obx X3 (w.heap.size + 1) [.int .i64 0, .slice none 0 0] 112) := hoq
      clear hr3 hw3 hb3 hk3 hoe hoq
      go_wp2_with (at_builtin; refine wpList_append_run rfl _ _ 55 rfl _ _ rfl rfl _ _ HR3.out ?_)
      clear c5 e0 e1 HR3 HWD HQX
      generalize wr.heap.size = eb at *
      go_loopw [4, 53] (fun o i wr2 => ∃ (q : Nat) (v : Value), o = v ∧ q ≤ x.size ∧ i = .int .i64 q ∧ Below w1.heap.size w1 wr2 ∧ Obx wr2 (w.heap.size + 1) [.int .i64 0, .slice none 0 0] 112 ∧ Obx wr2 eb [.string x, .int .i64 y] 109 ∧ Wds wr2 w1.heap.size v (pre ++ entsW (es.take j) ++ [y, (x.size : Int)] ++ nameW x q)) (fun _ i _ => x.size - (intOf i).toNat)
      case atStart => exact ⟨0, _, rfl, Nat.zero_le _, rfl, HB3.out, HOQ.out, HOE.out, by simpa [nameW] using HW3.out⟩
      case round =>
        clear HB3 HOQ HOE HW3
        obtain ⟨q, v, rfl, hq, rfl, hbl2, hop2, hoe2, hwd2⟩ := hrel
        have HBL2 : Hid (Below w1.heap.size w1 wr) := hbl2
        have HOP2 : Hid (Obx wr (w.heap.size + 1) [.int .i64 0, .slice none 0 0] 112) := hop2
        have HOE2 : Hid (Obx wr eb [.string x, .int .i64 y] 109) := hoe2
        have HWD2 : Hid (Wds wr w1.heap.size _ (pre ++ entsW (es.take j) ++ [y, (x.size : Int)] ++ nameW x q)) := hwd2
        obtain ⟨aV2, cV2, rfl⟩ := hwd2.shape
        have c5 := hoe2.bx 0 _ rfl
        clear hbl2 hop2 hoe2 hwd2
        by_cases hlq : q < x.size
        · have HNN : Hid (nameW x (q + 1) = nameW x q ++ [((x[q]'hlq).toNat : Int)]) := nameW_next x q hlq
          obtain ⟨v4, X4, hr4, hw4, hb4, hk4⟩ := append_wds wr w1.heap.size _ (pre ++ entsW (es.take j) ++ [y, (x.size : Int)] ++ nameW x q) [((x[q]'hlq).toNat : Int)] #[.int .i64 ((x[q]'hlq).toNat : Int)] 1 rfl rfl HWD2.out HBL2.out.size (by simp only [List.length_append, List.length_cons, List.length_nil]; have := HL.out; have := HUP.out; have := HSZ.out; have := nameW_len x q; omega) (by simp only [List.length_append]; have := HP.out; omega) (by omega)
          have HR4 : Hid (_ = _) := hr4
          have HW4 : Hid (Wds X4 w1.heap.size v4 (pre ++ entsW (es.take j) ++ [y, (x.size : Int)] ++ nameW x (q + 1))) := by unfold Hid; rw [HNN.out, ← List.append_assoc]; exact hw4
          have HB4 : Hid (Below w1.heap.size w1 X4) := HBL2.out.trans hb4
          have HOP4 : Hid (Obx X4 (w.heap.size + 1) [.int .i64 0, .slice none 0 0] 112) := HOP2.out.keep hk4 (by decide)
          have HOE4 : Hid (Obx X4 eb [.string x, .int .i64 y] 109) := HOE2.out.keep hk4 (by decide)
          have hbyte : (x[q]'hlq).toNat < 256 := UInt8.toNat_lt _
          clear hr4 hw4 hb4 hk4 HNN HWD2 HOP2 HOE2
          go_wp2_with (at_builtin; refine wpList_append_run rfl _ _ 55 rfl _ _ rfl rfl _ _ HR4.out ?_)
          go_roundw
          case rel => exact ⟨q + 1, _, rfl, by omega, by go_num, HB4.out, HOP4.out, HOE4.out, HW4.out⟩
          case measure => simp [intOf]; omega
        · have HW4 : Hid (Wds wr w1.heap.size (.slice aV2 (pre ++ entsW (es.take j) ++ [y, (x.size : Int)] ++ nameW x q).length cV2) (pre ++ entsW (es.take (j + 1)))) := by
            have e : q = x.size := by omega
            have h2 : pre ++ entsW (es.take (j + 1)) = pre ++ entsW (es.take j) ++ [y, (x.size : Int)] ++ nameW x q := by rw [HTK.out, e, ← nameW_all]; simp only [List.append_assoc]
            unfold Hid
            rw [h2]
            exact HWD2.out
          go_wp2
          go_roundw
          case rel => exact ⟨j + 1, _, rfl, by omega, by go_num, HBL2.out, HOP2.out, HW4.out⟩
          case measure => simp [intOf]; omega
    · have HW4 : Hid (Wds wr w1.heap.size (.slice aV (pre ++ entsW (es.take j)).length cV) zs) := by
        have h2 : es.take j = es := List.take_of_length_le (by rw [HEN.out]; omega)
        unfold Hid
        rw [← HZS.out]
        have := HWD.out
        rw [h2] at this ⊢
        exact this
      have hzl : 0 < zs.length := by rw [← HZS.out, List.length_append]; have := HP.out; omega
      have hjj : (pre ++ entsW (es.take j)).length = zs.length := by
        have h2 : es.take j = es := List.take_of_length_le (by rw [HEN.out]; omega)
        rw [h2, HZS.out]
      rw [hjj] at HW4
      have HI : Hid (IntsO wr (.slice aV zs.length cV) zs (fun b => w.heap.size + 2 ≤ b ∧ b < wr.heap.size)) := (HW4.out.own (w0 := w1) hzl (Nat.le_refl _)).mono fun b hb => ⟨by have := hb.1; omega, hb.2⟩
      have hrb2 := HQX.out.row
      have t0 := hrb2.cell (i := 0) (by omega)
      have t1 := hrb2.cell (i := 1) (by omega)
      have s0 := hrb2.frozen 0
      have s1 := hrb2.frozen 1
      simp at t0 t1
      clear hrb2 HWD HW4
      go_wp2
      refine bodyPost_ret (v := .agg #[.int .i64 0, .slice aV zs.length cV]) (by simp [results, Tryz.results72, go_sem, t0, t1]) rfl ⟨_, _, _, rfl, (HBW.out.setCell (by simp) _).setCell (by simp) _, (HI.out.keep fun b hb hlt => ?_).mono fun b hb => ⟨by omega, by simp only [World.setCell, Array.size_modify]; exact hb.2⟩⟩
      rw [Below.heap_setCell _ _ _ _ (by simp; omega), Below.heap_setCell _ _ _ _ (by simp; omega)]
end Go.Proofs.YtlacppjlclfpmaaGreat

namespace Go.Proofs.YtlacppjlclfpmaaGreat
open Go.RowKit
set_option maxRecDepth 100000

theorem implPackU (w : World) (z0 z1 z2 : Int) (aB : Option Addr) (nB cB : Nat) (aE : Option Addr) (nE cE : Nat) (d : ID) (h : InoR w (.int .i64 z0) (.int .i64 z1) (.int .i64 z2) (.slice aB nB cB) (.slice aE nE cE) d) (hs : sizeIno d ≤ 1048576) :
    Calls Tryz.prog 72 #[.agg #[.int .i64 z0, .int .i64 z1, .int .i64 z2, .slice aB nB cB, .slice aE nE cE]] w (AnsIR w (packR d)) := by
  by_cases hf : inoF d = 0
  · have hpr : packR d = (0, packL d) := by unfold packR; rw [if_pos hf]
    rw [hpr]
    have h' := h
    obtain ⟨⟨h0, h1, h2, _⟩, hi, he⟩ := h
    simp only [Value.int.injEq, true_and] at h0 h1 h2
    obtain ⟨_, _, e1, hm1, hc1⟩ := hi.open'
    obtain ⟨_, _, e2, hm2, hz2, hc2⟩ := he.open'
    simp only [Value.slice.injEq] at e1 e2
    obtain ⟨rfl, rfl, rfl⟩ := e1
    obtain ⟨rfl, rfl, rfl⟩ := e2
    subst h0 h1 h2
    have hn1 : d.2.2.2.1.length ≤ 1048576 := by unfold sizeIno at hs; omega
    have hn2 : d.2.2.2.2.length ≤ 1048576 := by unfold sizeIno sizeN at hs; omega
    have hn3 : (entsW d.2.2.2.2).length ≤ 4194304 := by have := entsW_len d.2.2.2.2; unfold sizeIno at hs; omega
    by_cases hk : d.1 = 2
    · have hb : d.2.2.2.1 = [] := by
        unfold inoF at hf
        rw [if_neg (by omega), if_neg (by omega), if_pos hk] at hf
        by_cases hfp : fpB d = true
        · rw [if_pos hfp] at hf; simp at hf
        · unfold fpB at hfp
          simp at hfp
          exact hfp.2
      have hpk : [2, d.2.1, d.2.2.1] ++ [(d.2.2.2.2.length : Int)] ++ entsW d.2.2.2.2 = packL d := by unfold packL; rw [if_pos hk, hb, hk]; simp
      rw [hk] at h' ⊢
      exact implPack_dir w d.2.1 d.2.2.1 _ _ _ _ _ _ d h' hs hf d.2.2.2.2 rfl hn2 hn3 hc2 _ (packL d) rfl hpk
    · have hpk : [d.1, d.2.1, d.2.2.1] ++ d.2.2.2.1 = packL d := by unfold packL; rw [if_neg hk]; simp
      exact implPack_flat w d.1 d.2.1 d.2.2.1 _ _ _ _ _ _ d h' hs hf d.2.2.2.1 hn1 rfl hc1 hk (packL d) hpk
  · have hpr : packR d = (inoF d, []) := by unfold packR; rw [if_neg hf]
    rw [hpr]
    exact implPack_bad w z0 z1 z2 aB nB cB aE nE cE d h hs hf

def mkInts (k : Int) (zs : List Int) : List Int := marks k zs.length
end Go.Proofs.YtlacppjlclfpmaaGreat

namespace Go.Proofs.YtlacppjlclfpmaaGreat
open Go.RowKit
set_option maxRecDepth 100000

theorem usedSpan (ds : List ID) : (usedR ds).2.length ≤ 20 := by
  have := selL_len (usedP ds) 20
  unfold usedR
  split
  · split
    · exact this
    · simp
  · simp
theorem freeSpan (ds : List ID) (bs : List Int) : (freeR ds bs).2.length ≤ 20 := by
  have := selL_len (freeP ds bs) 20
  unfold freeR
  split
  · exact this
  · simp
theorem pickSpan (ds : List ID) (bs : List Int) (k : Int) : (pickR ds bs k).2.length ≤ 20 := by
  have := selL_len (freeP ds bs) 20
  unfold pickR
  split
  · split
    · split
      · simp
      · show ((selL (freeP ds bs) 20).take k.toNat).length ≤ 20
        rw [List.length_take]
        omega
    · simp
  · simp
end Go.Proofs.YtlacppjlclfpmaaGreat

namespace Go.Proofs.YtlacppjlclfpmaaGreat
open Go.RowKit
set_option maxRecDepth 100000

set_option maxHeartbeats 6400000 in
theorem implLnk_in (w : World) (a : Option Addr) (n c : Nat) (ds : List ID) (v : Int) (r : Int) (hr0 : r = 0) (hdn : ds.length = n) (hn : n ≤ 1048576) (hs : (isz ds).sum ≤ 1048576) (hv : 0 ≤ v ∧ v ≤ (n : Int) - 1) (hc : AtI w a n ds)
    (hF : ∀ W, Below w.heap.size w W → Calls Tryz.prog 91 #[.slice a n c] W fun e w' => e = .returned (.int .i64 r) ∧ Below W.heap.size W w') :
    Calls Tryz.prog 77 #[.slice a n c, .int .i64 v] w fun e w' => e = .returned (.agg #[.int .i64 0, .int .i64 (((allE ds).count v : Nat) : Int)]) ∧ Below w.heap.size w w' := by
  subst hr0
  have HF : Hid (∀ W, Below w.heap.size w W → Calls Tryz.prog 91 #[.slice a n c] W fun e w' => e = .returned (.int .i64 0) ∧ Below W.heap.size W w') := hF
  have HC : Hid (AtI w a n ds) := hc
  have HT : Hid ((allE ds).count v = (((ds.take n).flatMap fun d => entI d.2.2.2.2)).count v) := by unfold Hid allE; rw [List.take_of_length_le (by omega)]
  have HS : Hid (∀ j, (((ds.take j).flatMap fun d => entI d.2.2.2.2)).count v ≤ 1048576) := fun j => by
    have h1 := flat_take (fun d : ID => entI d.2.2.2.2) ds j
    have h2 := allE_len ds
    have h3 := List.count_le_length (a := v) (l := (ds.take j).flatMap fun d => entI d.2.2.2.2)
    unfold allE at h2
    omega
  have HX : Hid (∀ j, j < n → ((ds.take (j + 1)).flatMap fun d => entI d.2.2.2.2).count v = ((ds.take j).flatMap fun d => entI d.2.2.2.2).count v + (entI (ds[j]?.getD id0).2.2.2.2).count v) := fun j hj => by
    rw [flat_next (fun d : ID => entI d.2.2.2.2) ds id0 j (by omega), List.count_append]
  have HZ : Hid (∀ j, (ds[j]?.getD id0).2.2.2.2.length ≤ 1048576) := fun j => by
    have := isz_le ds j
    have hd : sizeIno (ds[j]?.getD id0) = (ds[j]?.getD id0).2.2.2.1.length + ((ds[j]?.getD id0).2.2.2.2.length + (nlens (ds[j]?.getD id0).2.2.2.2).sum) := rfl
    omega
  rw [HT.out]
  clear hc hdn hs HT hF
  generalize hG : (fun j => ((ds.take j).flatMap fun d => entI d.2.2.2.2).count v) = G at *
  have HG : Hid (∀ j, ((ds.take j).flatMap fun d => entI d.2.2.2.2).count v = G j) := fun j => congrFun hG j
  simp only [HG.out] at HS HX ⊢
  have HG0 : Hid (G 0 = 0) := by unfold Hid; rw [← HG.out 0]; simp
  clear hG HG
  have hv0 : decide (v < 0) = false := by simp; omega
  have hv1 : decide ((n : Int) ≤ v) = false := by simp; omega
  clear hv
  have HRB : Hid (OwnRow (w.alloc (.cells #[.int .i64 0, .int .i64 0] 118)) w.heap.size 2 (fun i => if i = 0 then .int .i64 0 else .int .i64 0)) := OwnRow.newS w (.int .i64 0) (.int .i64 0) _
  have HB0 : Hid (Below w.heap.size w (w.alloc (.cells #[.int .i64 0, .int .i64 0] 118))) := later1 _ _
  go_enter Tryz.func77, Tryz.ntmps77
  go_wp2_with fail
  generalize hW : w.alloc (Obj.cells #[.int .i64 0, .int .i64 0] 118) = W at *
  clear hW
  refine (HF.out _ HB0.out).mono ?_
  rintro e w1 ⟨rfl, hb1⟩
  have HB1 : Hid (Below w.heap.size w w1) := HB0.out.trans (hb1.mono HB0.out.size)
  have HR1 : Hid (OwnRow w1 w.heap.size 2 (fun i => if i = 0 then .int .i64 0 else .int .i64 0)) := HRB.out.later hb1
  clear hb1 HF HRB HB0
  go_wp2
  go_loopw [6, 28] (fun q i wr => ∃ j : Nat, j ≤ n ∧ i = .int .i64 j ∧ q = .int .i64 ((G j : Nat) : Int) ∧ Below w1.heap.size w1 wr) (fun _ i _ => n - (intOf i).toNat)
  case atStart => exact ⟨0, Nat.zero_le _, rfl, by rw [HG0.out]; rfl, Below.refl _ _⟩
  case round =>
    obtain ⟨j, hj, rfl, rfl, hbl⟩ := hrel
    have HBL : Hid (Below w1.heap.size w1 wr) := hbl
    have HBW : Hid (Below w.heap.size w wr) := HB1.out.trans (hbl.mono HB1.out.size)
    clear hbl
    by_cases hlt : j < n
    · obtain ⟨b, o, rfl, hI⟩ := HC.out j hlt
      obtain ⟨aB, cB, aE, cE, c0, c1, c2, c3, c4, h5⟩ := hI.later HBW.out
      obtain ⟨_, _, e1, hm1, _, hc1⟩ := h5.2.2.open'
      simp only [Value.slice.injEq] at e1
      obtain ⟨rfl, _, rfl⟩ := e1
      have HZJ := HZ.out j
      have HSJ := HS.out (j + 1)
      have HXJ' : Hid (G (j + 1) = G j + (entI (ds[j]?.getD id0).2.2.2.2).count v) := HX.out j hlt
      clear h5 HC hI
      generalize (ds[j]?.getD id0) = d at *
      obtain ⟨dk, dl, dz, db, es⟩ := d
      dsimp only at *
      have HCB : Hid (AtN wr aE es.length es) := hc1
      obtain ⟨nB, hnB⟩ : ∃ nB, nB = es.length := ⟨_, rfl⟩
      have HNB : Hid (nB = es.length) := hnB
      have HNI : Hid (nB = (entI es).length) := by unfold Hid; rw [entI_len]; exact hnB
      rw [← hnB] at c4 hm1 HZJ
      have hle : G j + (entI es).count v ≤ 1048576 := by have := HXJ'.out; omega
      have HEG : Hid (∀ k : Nat, (entI es)[k]?.getD 0 = (es[k]?.getD en0).2) := fun k => entI_get es k
      clear hc1 hnB HSJ
      generalize entI es = bs at *
      generalize db.length = nD at *
      go_wp2
      clear c0 c1 c2 c3 c4
      obtain ⟨wo, rfl⟩ : ∃ wo, wo = wr := ⟨_, rfl⟩
      go_loopw [6, 35] (fun q i wr2 => ∃ k : Nat, k ≤ nB ∧ i = .int .i64 k ∧ q = .int .i64 (((G j + (bs.take k).count v : Nat)) : Int) ∧ Below wo.heap.size wo wr2) (fun _ i _ => nB - (intOf i).toNat)
      case atStart => exact ⟨0, Nat.zero_le _, rfl, by simp, later1 _ _⟩
      case round =>
        obtain ⟨k, hk, rfl, rfl, hbl2⟩ := hrel
        have HB2 : Hid (Below wo.heap.size wo wr) := hbl2
        clear hbl2
        by_cases hlk : k < nB
        · obtain ⟨b1, o1, rfl, d0, d1⟩ := HCB.out k (by rw [← HNB.out]; exact hlk)
          rw [← HEG.out k] at d1
          replace d0 := cell_later HB2.out d0
          replace d1 := cell_later HB2.out d1
          have hcn := count_next bs v k (by rw [← HNI.out]; exact hlk)
          have HCN : Hid ((bs.take (k + 1)).count v = (bs.take k).count v + (if bs[k]?.getD 0 = v then 1 else 0)) := hcn
          have hct : (bs.take k).count v ≤ bs.count v := List.Sublist.count_le v (List.take_sublist k bs)
          generalize (bs.take k).count v = ck at *
          clear hcn HCB HEG
          generalize (es[k]?.getD en0).1 = nm at *
          generalize bs[k]?.getD 0 = x at *
          by_cases hxv : x = v
          · have hxb : (x == v) = true := by simpa using hxv
            have HCN' : Hid ((bs.take (k + 1)).count v = ck + 1) := by unfold Hid; rw [HCN.out, if_pos hxv]
            clear hxv HCN
            go_wp2
            go_roundw
            case rel => exact ⟨k + 1, by omega, by go_num, by rw [HCN'.out]; go_num, HB2.out.trans ((later1 _ _).mono HB2.out.size)⟩
            case measure => simp [intOf]; omega
          · have hxb : (x == v) = false := by simpa using hxv
            have HCN' : Hid ((bs.take (k + 1)).count v = ck) := by unfold Hid; rw [HCN.out, if_neg hxv, Nat.add_zero]
            clear hxv HCN
            go_wp2
            go_roundw
            case rel => exact ⟨k + 1, by omega, by go_num, by rw [HCN'.out], HB2.out.trans ((later1 _ _).mono HB2.out.size)⟩
            case measure => simp [intOf]; omega
        · have hkn : bs.take k = bs := List.take_of_length_le (by rw [← HNI.out]; omega)
          rw [hkn]
          clear hkn
          have HE : Hid (((G j + bs.count v : Nat) : Int) = ((G (j + 1) : Nat) : Int)) := by unfold Hid; rw [HXJ'.out]
          go_wp2
          go_roundw
          case rel => exact ⟨j + 1, by omega, by go_num, by rw [HE.out], HBL.out.trans (HB2.out.mono HBL.out.size)⟩
          case measure => simp [intOf]; omega
    · have HJ : Hid (G j = G n) := by unfold Hid; rw [show j = n by omega]
      have hrow : OwnRow wr w.heap.size 2 (fun i => if i = 0 then .int .i64 0 else .int .i64 0) := HR1.out.later HBL.out
      have t0 := hrow.cell (i := 0) (by omega)
      have t1 := hrow.cell (i := 1) (by omega)
      have s0 := hrow.frozen 0
      have s1 := hrow.frozen 1
      simp only [ite_self] at t0 t1
      have hz1 := hrow.lt
      clear hrow
      go_wp2
      exact bodyPost_ret (v := .agg #[.int .i64 0, .int .i64 ((G j : Nat) : Int)]) (by simp [results, Tryz.results77, go_sem, t0, t1]) rfl ⟨by rw [HJ.out], (HBW.out.setCell (by simp) _).setCell (by simp) _⟩

set_option maxHeartbeats 3200000 in
theorem implLnkU (w : World) (a : Option Addr) (n c : Nat) (ds : List ID) (x : Int) (h : Inos w (.slice a n c) ds) (hs : sizeInos ds ≤ 1048576) :
    Calls Tryz.prog 77 #[.slice a n c, .int .i64 x] w fun e w' => e = .returned (.agg #[.int .i64 (lnkR ds x).1, .int .i64 (lnkR ds x).2]) ∧ Below w.heap.size w w' := by
  have HF : Hid (∀ W, Below w.heap.size w W → Calls Tryz.prog 91 #[.slice a n c] W fun e w' => e = .returned (.int .i64 (insF ds)) ∧ Below W.heap.size W w') := fun W hW => inodesFault_any (h.later hW) hs
  obtain ⟨_, _, esh, hml, hc⟩ := h.open'
  simp only [Value.slice.injEq] at esh
  obtain ⟨rfl, rfl, rfl⟩ := esh
  have hss : (isz ds).sum ≤ 1048576 ∧ ds.length ≤ 1048576 := by unfold sizeInos at hs; omega
  have HR : Hid (lnkR ds x = if insF ds = 0 then (if 0 ≤ x ∧ x ≤ (ds.length : Int) - 1 then (0, (((allE ds).count x : Nat) : Int)) else (3, 0)) else (insF ds, 0)) := rfl
  rw [HR.out]
  by_cases hf : insF ds = 0
  · rw [if_pos hf]
    by_cases hq : 0 ≤ x ∧ x ≤ (ds.length : Int) - 1
    · rw [if_pos hq]
      exact implLnk_in w a ds.length c ds x (insF ds) hf rfl hss.2 hss.1 hq hc HF.out
    · rw [if_neg hq]
      rw [hf] at HF
      clear HR h hs hml hc hf
      have hn' := hss.2
      generalize ds.length = n at *
      clear hss
      have step : ∀ P : Prop, (decide (x < 0) = true → P) → (decide (x < 0) = false → decide ((n : Int) ≤ x) = true → P) → P := fun P h1 h2 => by
        by_cases h0 : x < 0
        · exact h1 (by simpa using h0)
        · exact h2 (by simpa using h0) (by simp; omega)
      clear hq
      have HRB : Hid (OwnRow (w.alloc (.cells #[.int .i64 0, .int .i64 0] 118)) w.heap.size 2 (fun i => if i = 0 then .int .i64 0 else .int .i64 0)) := OwnRow.newS w (.int .i64 0) (.int .i64 0) _
      have HB0 : Hid (Below w.heap.size w (w.alloc (.cells #[.int .i64 0, .int .i64 0] 118))) := later1 _ _
      apply step
      all_goals
        intros
        clear step
        go_enter Tryz.func77, Tryz.ntmps77
        go_wp2_with fail
        generalize hW : w.alloc (Obj.cells #[.int .i64 0, .int .i64 0] 118) = W at *
        clear hW
        refine (HF.out _ HB0.out).mono ?_
        rintro e w1 ⟨rfl, hb1⟩
        have HB1 : Hid (Below w.heap.size w w1) := HB0.out.trans (hb1.mono HB0.out.size)
        have hrow : OwnRow w1 w.heap.size 2 (fun i => if i = 0 then .int .i64 0 else .int .i64 0) := HRB.out.later hb1
        have t0 := hrow.cell (i := 0) (by omega)
        have t1 := hrow.cell (i := 1) (by omega)
        have s0 := hrow.frozen 0
        have s1 := hrow.frozen 1
        simp only [ite_self] at t0 t1
        have hz1 := hrow.lt
        clear hb1 hrow
        go_wp2
        exact bodyPost_ret (v := .agg #[.int .i64 3, .int .i64 0]) (by simp [results, Tryz.results77, go_sem, t0, t1]) rfl ⟨rfl, (HB1.out.setCell (by simp) _).setCell (by simp) _⟩
  · rw [if_neg hf]
    have hr : (insF ds != 0) = true := by simpa using hf
    clear HR h hs hml hc hf hss
    generalize insF ds = r at *
    generalize ds.length = n at *
    have HRB : Hid (OwnRow (w.alloc (.cells #[.int .i64 0, .int .i64 0] 118)) w.heap.size 2 (fun i => if i = 0 then .int .i64 0 else .int .i64 0)) := OwnRow.newS w (.int .i64 0) (.int .i64 0) _
    have HB0 : Hid (Below w.heap.size w (w.alloc (.cells #[.int .i64 0, .int .i64 0] 118))) := later1 _ _
    go_enter Tryz.func77, Tryz.ntmps77
    go_wp2_with fail
    generalize hW : w.alloc (Obj.cells #[.int .i64 0, .int .i64 0] 118) = W at *
    clear hW
    refine (HF.out _ HB0.out).mono ?_
    rintro e w1 ⟨rfl, hb1⟩
    have HB1 : Hid (Below w.heap.size w w1) := HB0.out.trans (hb1.mono HB0.out.size)
    have hrow : OwnRow w1 w.heap.size 2 (fun i => if i = 0 then .int .i64 0 else .int .i64 0) := HRB.out.later hb1
    have t0 := hrow.cell (i := 0) (by omega)
    have t1 := hrow.cell (i := 1) (by omega)
    have s0 := hrow.frozen 0
    have s1 := hrow.frozen 1
    simp only [ite_self] at t0 t1
    have hz1 := hrow.lt
    clear hb1 hrow
    go_wp2
    exact bodyPost_ret (v := .agg #[.int .i64 r, .int .i64 0]) (by simp [results, Tryz.results77, go_sem, t0, t1]) rfl ⟨rfl, (HB1.out.setCell (by simp) _).setCell (by simp) _⟩
end Go.Proofs.YtlacppjlclfpmaaGreat
