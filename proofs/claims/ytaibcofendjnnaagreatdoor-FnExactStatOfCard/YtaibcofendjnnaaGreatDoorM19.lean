/- The program's walk: the iterator that tells the places of a way. The program's walk: where a way ends (endOf). errors.As at the error of a way that breaks off: Go's own text of errors.As and errors.as is walked. After the kit's worked toy of errors.As, here with a struct in the place of the pointer. The program's walk: where names lead (walkNames). -/
import Derived.Test.YtaibcofendjnnaaGreatDoorM18
import Derived.Test.YtaibcofendjnnaaGreatDoorM06
import Derived.LaidEql
import Derived.Stop.Asserts
import Derived.RowKitTokens
namespace Go.Proofs.YtaibcofendjnnaaGreatDoor
open Go.RowKit Go.Shelf
set_option maxRecDepth 100000
attribute [local go_sem] Oper.semAt_some

/-- A step as it is told. -/
abbrev encW (x : WS) : Array Value := #[.int .i64 x.1, match x.2 with | none => .nilIface | some c => .iface 105 (.agg #[.int .i64 x.1, .int .i64 c])]
theorem wkL_dir {ds : List ID} {t : Nat} {s : List UInt8} {ns : List (List UInt8)} {y : Nat} (hk : kindAt ds t = 2) (hi : idxE (ds[t]?.getD id0).2.2.2.2 (mkB s) < (ds[t]?.getD id0).2.2.2.2.length) (hy : ((ds[t]?.getD id0).2.2.2.2[idxE (ds[t]?.getD id0).2.2.2.2 (mkB s)]?.getD en0).2 = (y : Int)) : wkL ds t (s :: ns) = ((y : Int), none) :: wkL ds y ns := by
  show (if kindAt ds t = 2 then _ else _) = _
  rw [if_pos hk, if_pos hi, hy, Int.toNat_natCast]
theorem wkL_none {ds : List ID} {t : Nat} {s : List UInt8} {ns : List (List UInt8)} (hk : kindAt ds t = 2) (hi : ¬ idxE (ds[t]?.getD id0).2.2.2.2 (mkB s) < (ds[t]?.getD id0).2.2.2.2.length) : wkL ds t (s :: ns) = [((t : Int), some 4)] := by
  show (if kindAt ds t = 2 then _ else _) = _
  rw [if_pos hk, if_neg hi]
theorem wkL_file {ds : List ID} {t : Nat} {s : List UInt8} {ns : List (List UInt8)} (hk : ¬ kindAt ds t = 2) : wkL ds t (s :: ns) = [((t : Int), some 9)] := by
  show (if kindAt ds t = 2 then _ else _) = _
  rw [if_neg hk]
theorem drop_cons {l : List (List UInt8)} {k : Nat} (h : k < l.length) : l.drop k = l[k]?.getD [] :: l.drop (k + 1) := by
  rw [List.drop_eq_getElem_cons h, List.getElem?_eq_getElem h]; rfl
set_option maxRecDepth 100000 in
set_option maxHeartbeats 3200000 in
theorem walk1_in (n : Nat) (hn : 2 ≤ n) (l Bn Bl n₀ : Nat) (aN : Option Addr) (mN cN : Nat) (xs : List (List UInt8)) (hmN : xs.length = mN) (hmx : mN ≤ 1048577) (aL : Option Addr) (nL cL : Nat) (ds : List ID) (hdn : ds.length = nL) (_h10 : nL ≤ 10) (h0L : 0 < nL) (hr : inRange ds) (h6 : ∀ i : Nat, (ds[i]?.getD id0).2.2.2.2.length ≤ 6) (J Jx : List WS → World → Prop)
    (hY : ∀ pre x W, J pre W → pre.length < (wkT ds xs).length → YieldAt Fence.wide (n - 1) Tryz.prog l (encW x) W fun e W' =>
      (e = .returned (.bool true) ∧ J (pre ++ [x]) W' ∧ Below n₀ W W') ∨ (e = .returned (.bool false) ∧ Jx (pre ++ [x]) W'))
    (W : World) (hJ : AbidesFrom W.heap.size J) (hn₀ : n₀ ≤ W.heap.size) (hread : ∀ W', Below n₀ W W' → W'.cell? ⟨Bn, 0, none⟩ = some (.slice aN mN cN) ∧ W'.cell? ⟨Bl, 0, none⟩ = some (.slice aL nL cL) ∧ AtT W' aN mN xs ∧ AtI W' aL nL ds) (h0 : J [] W) :
    CallsIn Fence.wide n Tryz.prog 102 #[.func (.yield l) #[] #[], .pointer (some ⟨Bn, 0, none⟩), .pointer (some ⟨Bl, 0, none⟩)] W fun e W' => (∃ v, e = .returned v) ∧
      ((∃ ys, ys = wkT ds xs ∧ J ys W') ∨ (∃ pre, pre <+: wkT ds xs ∧ Jx pre W')) := by
  refine callsIn_of_wp Tryz.func102 rfl trivial ?_ rfl
  simp only [Tryz.ntmps102, List.size_toArray, List.length_cons, List.length_nil, Nat.reduceAdd, Nat.reduceSub, Array.replicate_succ, Array.replicate_zero, List.push_toArray, List.append_toArray, List.nil_append, List.cons_append]
  have HRD : Hid (∀ W', Below n₀ W W' → W'.cell? ⟨Bn, 0, none⟩ = some (.slice aN mN cN) ∧ W'.cell? ⟨Bl, 0, none⟩ = some (.slice aL nL cL) ∧ AtT W' aN mN xs ∧ AtI W' aL nL ds) := hread
  have HT : Hid (wkT ds xs = (0, none) :: wkL ds 0 xs) := rfl
  have HM : Hid (xs.length = mN) := hmN
  have HDN : Hid (ds.length = nL) := hdn
  obtain ⟨fn, tmps, assign, body, hy, hR⟩ := hY [] (0, none) W h0 (by rw [HT.out]; simp)
  dsimp only [encW] at hy
  clear hread hmN hdn
  gi_wp2
  refine wpIn_wide.2 (wp_scope_straight ((wpIn_wide (n := n)).1 ?_))
  gi_wp2
  refine ⟨fun _ => by omega, hR.mono ?_⟩
  rintro e W3 (⟨rfl, hJ3, hk3⟩ | ⟨rfl, hJx3⟩)
  rotate_left
  · gi_wp2
    (try simp only [Exit.noGoto]); refine bodyPost_ret (results_none rfl _ _ _) rfl ?_
    exact ⟨⟨_, rfl⟩, .inr ⟨_, ⟨wkL ds 0 xs, by rw [HT.out]; rfl⟩, hJx3⟩⟩
  · have HB3 : Hid (Below n₀ W W3) := hk3
    obtain ⟨g1, g2, -, -⟩ := HRD.out W3 hk3
    clear hy hR fn tmps assign body hk3
    gi_wp2
    refine wpIn_label ?_
    gi_wp2
    clear g1 g2
    have HJ : Hid (AbidesFrom W.heap.size J) := hJ
    have HR : Hid (inRange ds) := hr
    have H6 : Hid (∀ i : Nat, (ds[i]?.getD id0).2.2.2.2.length ≤ 6) := h6
    have HYY : Hid (∀ pre x W, J pre W → pre.length < (wkT ds xs).length → YieldAt Fence.wide (n - 1) Tryz.prog l (encW x) W fun e W' => (e = .returned (.bool true) ∧ J (pre ++ [x]) W' ∧ Below n₀ W W') ∨ (e = .returned (.bool false) ∧ Jx (pre ++ [x]) W')) := hY
    clear hJ hr h6 hY
    gi_loopw [4, 15] (fun va vi wr => ∃ (q t : Nat) (pre : List WS), va = .int .i64 (t : Int) ∧ vi = .int .i64 (q : Int) ∧ q ≤ mN ∧ t < nL ∧ wkT ds xs = pre ++ wkL ds t (xs.drop q) ∧ Below n₀ W wr ∧ J pre wr) (fun _ vi _ => mN - (intOf vi).toNat)
    case atStart => exact ⟨0, 0, [(0, none)], rfl, rfl, Nat.zero_le _, h0L, by rw [HT.out]; rfl, HB3.out, hJ3⟩
    case round =>
      obtain ⟨q, t, pre, rfl, rfl, hq, ht, hx, hbl, hJs⟩ := hrel
      have HX : Hid (wkT ds xs = pre ++ wkL ds t (xs.drop q)) := hx
      have HB : Hid (Below n₀ W wr) := hbl
      clear hx hbl HB3 hJ3
      by_cases hlt : q < mN
      · obtain ⟨g1, g2, hAT, hAI⟩ := HRD.out wr HB.out
        obtain ⟨b, off, rfl, c0⟩ := hAT q hlt
        have HDC : Hid (xs.drop q = xs[q]?.getD [] :: xs.drop (q + 1)) := drop_cons (by rw [HM.out]; exact hlt)
        obtain ⟨bL, oL, rfl, hI⟩ := hAI t ht
        obtain ⟨aB, cB, aE, cE, k0, -, -, -, k4, hIR⟩ := hI
        have htI : (t : Int) < (nL : Int) := by omega
        generalize hs : xs[q]?.getD [] = s at *
        clear hs hAT hAI
        by_cases hk : kindAt ds t = 2
        · have hkb : ((ds[t]?.getD id0).1 != 2) = false := by simpa [kindAt] using hk
          obtain ⟨_, _, e3, -, -, hEt⟩ := hIR.2.2.open'
          simp only [Value.slice.injEq] at e3
          obtain ⟨rfl, -, rfl⟩ := e3
          have HAE : Hid (∀ W', Below wr.heap.size wr W' → AtN W' aE (ds[t]?.getD id0).2.2.2.2.length (ds[t]?.getD id0).2.2.2.2) := fun W' hb => hEt.later hb
          have hE6 := H6.out t
          have HTL : Hid (∀ k, k < (ds[t]?.getD id0).2.2.2.2.length → eqE (mkB s) ((ds[t]?.getD id0).2.2.2.2[k]?.getD en0) = true → (∀ j, j < k → eqE (mkB s) ((ds[t]?.getD id0).2.2.2.2[j]?.getD en0) = false) → ∃ y : Nat, ((ds[t]?.getD id0).2.2.2.2[k]?.getD en0).2 = (y : Int) ∧ y < nL ∧ wkT ds xs = (pre ++ [((y : Int), none)]) ++ wkL ds y (xs.drop (q + 1))) := fun k hk1 hk2 hk3 => by
            have hix : idxE (ds[t]?.getD id0).2.2.2.2 (mkB s) = k := findIdx_is hk1 hk2 hk3
            obtain ⟨y, hy1, hy2⟩ := rng_nat HR.out (by rw [HDN.out]; exact ht) hk1
            refine ⟨y, hy1, by rw [HDN.out] at hy2; exact hy2, ?_⟩
            rw [HX.out, HDC.out, wkL_dir hk (by rw [hix]; exact hk1) (by rw [hix]; exact hy1), List.append_assoc]; rfl
          have HNO : Hid ((∀ j, j < (ds[t]?.getD id0).2.2.2.2.length → eqE (mkB s) ((ds[t]?.getD id0).2.2.2.2[j]?.getD en0) = false) → wkT ds xs = pre ++ [((t : Int), some 4)]) := fun hno => by
            have hix : idxE (ds[t]?.getD id0).2.2.2.2 (mkB s) = (ds[t]?.getD id0).2.2.2.2.length := findIdx_no hno
            rw [HX.out, HDC.out, wkL_none hk (by rw [hix]; omega)]
          clear hk hIR hEt HX HDC H6
          generalize (ds[t]?.getD id0).1 = kd at *
          generalize (ds[t]?.getD id0).2.2.2.2 = es at *
          generalize hnn : es.length = nE at *
          clear hnn
          gi_wp2
          obtain ⟨wo, hwo⟩ : ∃ wo, wo = wr := ⟨_, rfl⟩
          rw [hwo.symm] at HB HAE hJs
          gi_loopw [4, 37] (fun va vi wr2 => ∃ k : Nat, k ≤ nE ∧ va = .int .i64 (t : Int) ∧ vi = .int .i64 (k : Int) ∧ Below wo.heap.size wo wr2 ∧ J pre wr2 ∧ ∀ j, j < k → eqE (mkB s) (es[j]?.getD en0) = false) (fun _ vi _ => nE - (intOf vi).toNat)
          case atStart => exact ⟨0, Nat.zero_le _, rfl, rfl, by rw [hwo]; exact Below.refl _ _, by rw [← hwo]; exact hJs, fun j hj => by omega⟩
          case round =>
            obtain ⟨k, hk, rfl, rfl, hbk, hJk, hzk⟩ := hrel
            clear hwo
            have HBK : Hid (Below wo.heap.size wo wr) := hbk
            have HZK : Hid (∀ j, j < k → eqE (mkB s) (es[j]?.getD en0) = false) := hzk
            have hsz : n₀ ≤ wo.heap.size := Nat.le_trans hn₀ HB.out.size
            have HBW : Hid (Below n₀ W wr) := HB.out.trans (hbk.mono hsz)
            clear hbk hzk
            by_cases hlk : k < nE
            · obtain ⟨b1, o1, rfl, d0, d1⟩ := HAE.out wr HBK.out k hlk
              have HJA : Hid (∀ o : Obj, J pre (wr.alloc o)) := fun o => HJ.out pre wr _ none hJk (World.grownBy_alloc wr o none) (fun r e => by cases e)
              have HBA : Hid (∀ o : Obj, Below n₀ W (wr.alloc o)) := fun o => HBW.out.trans ((later1 _ _).mono (Nat.le_trans hn₀ HBW.out.size))
              cases heq : eqE (mkB s) (es[k]?.getD en0) with
              | false =>
                have hne : ((es[k]?.getD en0).1.toList == (mkB s).toList) = false := heq
                have HZN : Hid (∀ j, j < k + 1 → eqE (mkB s) (es[j]?.getD en0) = false) := fun j hj => by
                  by_cases e : j = k
                  · rw [e]; exact heq
                  · exact HZK.out j (by omega)
                clear heq HTL
                generalize (es[k]?.getD en0).1 = nm at *
                generalize (es[k]?.getD en0).2 = x at *
                gi_wp2
                go_roundw
                case rel => exact ⟨k + 1, by omega, rfl, by go_num, HBK.out.trans ((later1 _ _).mono HBK.out.size), HJA.out _, HZN.out⟩
                case measure => simp [intOf]; omega
              | true =>
                have hne : ((es[k]?.getD en0).1.toList == (mkB s).toList) = true := heq
                obtain ⟨y, hy1, hy2, hy3⟩ := HTL.out k hlk heq HZK.out
                have HYT : Hid (wkT ds xs = (pre ++ [((y : Int), none)]) ++ wkL ds y (xs.drop (q + 1))) := hy3
                rw [hy1] at d1
                clear heq HTL hy1 hy3
                generalize (es[k]?.getD en0).1 = nm at *
                obtain ⟨fn, tmps, assign, body, hy, hRR⟩ := HYY.out pre ((y : Int), none) (wr.alloc (.cells #[.string nm, .int .i64 (y : Int)] 128)) (HJA.out _) (by rw [HYT.out]; simp)
                dsimp only [encW] at hy
                gi_wp2
                refine ⟨fun _ => by omega, hRR.mono ?_⟩
                rintro e W4 (⟨rfl, hJ4, hk4⟩ | ⟨rfl, hJx4⟩)
                · gi_wp2
                  go_roundw
                  case rel => exact ⟨q + 1, y, _, rfl, by go_num, by omega, hy2, HYT.out, (HBA.out _).trans hk4, hJ4⟩
                  case measure => simp [intOf]; omega
                · gi_wp2
                  (try simp only [Exit.noGoto]); refine bodyPost_ret (results_none rfl _ _ _) rfl ?_
                  exact ⟨⟨_, rfl⟩, .inr ⟨_, ⟨wkL ds y (xs.drop (q + 1)), HYT.out.symm⟩, hJx4⟩⟩
            · have hx1 : decide ((k : Int) < (nE : Int)) = false := by simp; omega
              have hx2 : decide (k < nE) = false := by simp; omega
              have HFL : Hid (wkT ds xs = pre ++ [((t : Int), some 4)]) := HNO.out fun j hj => HZK.out j (by omega)
              obtain ⟨fn, tmps, assign, body, hy, hRR⟩ := HYY.out pre ((t : Int), some 4) wr hJk (by rw [HFL.out]; simp)
              dsimp only [encW] at hy
              gi_wp2
              refine ⟨fun _ => by omega, hRR.mono ?_⟩
              rintro e W4 (⟨rfl, hJ4, hk4⟩ | ⟨rfl, hJx4⟩)
              · gi_wp2
                (try simp only [Exit.noGoto]); refine bodyPost_ret (results_none rfl _ _ _) rfl ?_
                exact ⟨⟨_, rfl⟩, .inl ⟨_, HFL.out.symm, hJ4⟩⟩
              · gi_wp2
                (try simp only [Exit.noGoto]); refine bodyPost_ret (results_none rfl _ _ _) rfl ?_
                exact ⟨⟨_, rfl⟩, .inr ⟨_, ⟨[], by rw [HFL.out, List.append_nil]⟩, hJx4⟩⟩
        · have hkb : ((ds[t]?.getD id0).1 != 2) = true := by simpa [kindAt] using hk
          have HFL : Hid (wkT ds xs = pre ++ [((t : Int), some 9)]) := by unfold Hid; rw [HX.out, HDC.out, wkL_file hk]
          obtain ⟨fn, tmps, assign, body, hy, hRR⟩ := HYY.out pre ((t : Int), some 9) wr hJs (by rw [HFL.out]; simp)
          dsimp only [encW] at hy
          clear hk k4 hIR
          generalize (ds[t]?.getD id0).1 = kd at *
          gi_wp2
          refine ⟨fun _ => by omega, hRR.mono ?_⟩
          rintro e W4 (⟨rfl, hJ4, hk4⟩ | ⟨rfl, hJx4⟩)
          · gi_wp2
            (try simp only [Exit.noGoto]); refine bodyPost_ret (results_none rfl _ _ _) rfl ?_
            exact ⟨⟨_, rfl⟩, .inl ⟨_, HFL.out.symm, hJ4⟩⟩
          · gi_wp2
            (try simp only [Exit.noGoto]); refine bodyPost_ret (results_none rfl _ _ _) rfl ?_
            exact ⟨⟨_, rfl⟩, .inr ⟨_, ⟨[], by rw [HFL.out, List.append_nil]⟩, hJx4⟩⟩
      · have hx1 : decide ((q : Int) < (mN : Int)) = false := by simp; omega
        have hx2 : decide (q < mN) = false := by simp; omega
        gi_wp2
        (try simp only [Exit.noGoto])
        go_end0
        exact ⟨⟨_, rfl⟩, .inl ⟨pre, by rw [HX.out, List.drop_of_length_le (by rw [HM.out]; omega)]; simp [wkL], hJs⟩⟩
end Go.Proofs.YtaibcofendjnnaaGreatDoor

namespace Go.Proofs.YtaibcofendjnnaaGreatDoor
open Go.RowKit Go.Shelf
set_option maxRecDepth 100000
attribute [local go_sem] Oper.semAt_some

theorem walk_any (w : World) (aL : Option Addr) (nL cL : Nat) (aN : Option Addr) (mN cN : Nat) : Calls Tryz.prog 63 #[.slice aL nL cL, .slice aN mN cN] w fun e w' => e = .returned (.func (.func 102) #[] #[.pointer (some ⟨w.heap.size + 1, 0, none⟩), .pointer (some ⟨w.heap.size, 0, none⟩)]) ∧ w' = (w.alloc (.cells #[.slice aL nL cL] 30)).alloc (.cells #[.slice aN mN cN] 42) := by
  go_enter Tryz.func63, Tryz.ntmps63
  go_wp2
  go_ret
  exact ⟨rfl, rfl⟩
theorem walk_stops (n : Nat) (hn : 2 ≤ n) (Bn Bl : Nat) (aN : Option Addr) (mN cN : Nat) (xs : List (List UInt8)) (hmN : xs.length = mN) (hmx : mN ≤ 1048577) (aL : Option Addr) (nL cL : Nat) (ds : List ID) (hdn : ds.length = nL) (h10 : nL ≤ 10) (h0L : 0 < nL) (hr : inRange ds) (h6 : ∀ i : Nat, (ds[i]?.getD id0).2.2.2.2.length ≤ 6) (w0 w : World) (hw : Below w0.heap.size w0 w) (_hBn : Bn < w0.heap.size) (_hBl : Bl < w0.heap.size)
    (hcn : w0.cell? ⟨Bn, 0, none⟩ = some (.slice aN mN cN)) (hcl : w0.cell? ⟨Bl, 0, none⟩ = some (.slice aL nL cL)) (hat : AtT w0 aN mN xs) (hai : AtI w0 aL nL ds) :
    SeqStopsK Fence.wide n Tryz.prog 102 #[.pointer (some ⟨Bn, 0, none⟩), .pointer (some ⟨Bl, 0, none⟩)] encW (Below w0.heap.size) (fun ys => ys = wkT ds xs) (fun pre => pre <+: wkT ds xs) (wkT ds xs).length w := fun l J Jx W hW hJ _ hY h0 =>
  walk1_in n hn l Bn Bl w0.heap.size aN mN cN xs hmN hmx aL nL cL ds hdn h10 h0L hr h6 J Jx hY W hJ (Nat.le_trans hw.size hW.size) (fun W' hb => by
    have h1 : Below w0.heap.size w0 W' := (hw.trans (hW.mono hw.size)).trans hb
    exact ⟨cell_later h1 hcn, cell_later h1 hcl, hat.later h1, hai.later h1⟩) h0
theorem boxed_own {W W' : World} {row : Option Nat} {B : Nat} {t : TypeId} {v : Value} (h : Boxed W B t v) (hg : W.grownBy W' row) (hr : ∀ r, row = some r → ∃ o : Obj, W.heap[r]? = some o ∧ o.isCells = false) : Boxed W' B t v :=
  h.kept hg fun e => by
    obtain ⟨o, ho, hc⟩ := hr B e.symm
    rw [show W.heap[B]? = _ from h] at ho
    cases ho
    cases hc
theorem boxOther {W : World} {B C : Nat} {t : TypeId} {v : Value} (h : Boxed W B t v) (u : Value) (hne : B ≠ C) : Boxed (W.setCell ⟨C, 0, none⟩ u) B t v := (Below.heap_setCell _ _ _ _ hne).trans h
/-- An error that is nil, or a break. -/
def errV : Option (Int × Int) → Value
  | none => .nilIface
  | some p => .iface 105 (.agg #[.int .i64 p.1, .int .i64 p.2])
set_option maxRecDepth 100000 in
set_option maxHeartbeats 4000000 in
theorem endOf_any (w : World) (Bn Bl : Nat) (aN : Option Addr) (mN cN : Nat) (xs : List (List UInt8)) (hmN : xs.length = mN) (hmx : mN ≤ 1048577) (aL : Option Addr) (nL cL : Nat) (ds : List ID) (hdn : ds.length = nL) (h10 : nL ≤ 10) (h0L : 0 < nL) (hr : inRange ds) (h6 : ∀ i : Nat, (ds[i]?.getD id0).2.2.2.2.length ≤ 6) (hBn : Bn < w.heap.size) (hBl : Bl < w.heap.size)
    (hcn : w.cell? ⟨Bn, 0, none⟩ = some (.slice aN mN cN)) (hcl : w.cell? ⟨Bl, 0, none⟩ = some (.slice aL nL cL)) (hat : AtT w aN mN xs) (hai : AtI w aL nL ds) :
    Calls Tryz.prog 62 #[.func (.func 102) #[] #[.pointer (some ⟨Bn, 0, none⟩), .pointer (some ⟨Bl, 0, none⟩)]] w fun e w' => e = .returned (.tuple #[.int .i64 (brk 0 (wkT ds xs)).1, errV (brk 0 (wkT ds xs)).2]) ∧ Below w.heap.size w w' := by
  refine (callsIn_wide (n := 5)).1 ?_
  refine callsIn_of_wp_marks Tryz.func62 rfl trivial ?_ rfl
  simp only [Tryz.ntmps62, List.size_toArray, List.length_cons, List.length_nil, Nat.reduceAdd, Nat.reduceSub, Array.replicate_succ, Array.replicate_zero, List.push_toArray, List.append_toArray, List.nil_append, List.cons_append]
  gi_wp2
  have hb0 : Boxed (((w.alloc (.cells #[.int .i64 0] 2)).alloc (.cells #[.nilIface] 98)).alloc (.cells #[.int .i64 0] 2)) w.heap.size 2 (.int .i64 0) := ((Boxed.new w 2 (.int .i64 0)).alloc _).alloc _
  have hb1 : Boxed (((w.alloc (.cells #[.int .i64 0] 2)).alloc (.cells #[.nilIface] 98)).alloc (.cells #[.int .i64 0] 2)) (w.heap.size + 1) 98 .nilIface := by
    have := (Boxed.new (w.alloc (.cells #[.int .i64 0] 2)) 98 .nilIface).alloc (.cells #[.int .i64 0] 2)
    rw [World.size_alloc] at this
    exact this
  have hb2 : Boxed (((w.alloc (.cells #[.int .i64 0] 2)).alloc (.cells #[.nilIface] 98)).alloc (.cells #[.int .i64 0] 2)) (w.heap.size + 1 + 1) 2 (.int .i64 0) := by
    have := Boxed.new ((w.alloc (.cells #[.int .i64 0] 2)).alloc (.cells #[.nilIface] 98)) 2 (.int .i64 0)
    rw [World.size_alloc, World.size_alloc] at this
    exact this
  have hB0 : Below w.heap.size w (((w.alloc (.cells #[.int .i64 0] 2)).alloc (.cells #[.nilIface] 98)).alloc (.cells #[.int .i64 0] 2)) := (later2 _ _ _).trans ((later1 _ _).mono (by simp; omega))
  refine wpIn_rangeFunc_ownF rfl (by omega) (gf := 102) (lb := #[.pointer (some ⟨Bn, 0, none⟩), .pointer (some ⟨Bl, 0, none⟩)]) rfl trivial (enters_of Tryz.func102 (by kernel_rfl) rfl)
    (walk_stops 4 (by omega) Bn Bl aN mN cN xs hmN hmx aL nL cL ds hdn h10 h0L hr h6 w _ hB0 hBn hBl hcn hcl hat hai) belowK_t (belowK_b (by simp; omega)) (Below.refl _ _) (fun _ => rfl)
    (fun pre W => (∃ v, brk 0 pre = (v, none) ∧ Boxed W w.heap.size 2 (.int .i64 0) ∧ Boxed W (w.heap.size + 1) 98 .nilIface ∧ Boxed W (w.heap.size + 1 + 1) 2 (.int .i64 v)) ∧ Below w.heap.size w W)
    (fun c pre W => (c = .ret ∧ ∃ p : Int × Int, brk 0 pre = (0, some p) ∧ Boxed W w.heap.size 2 (.int .i64 0) ∧ Boxed W (w.heap.size + 1) 98 (errV (some p))) ∧ Below w.heap.size w W)
    (OwnFrom.and (Own.from (fun s A B row hs hg hr => by
      obtain ⟨v, h1, h2, h3, h4⟩ := hs
      exact ⟨v, h1, boxed_own h2 hg hr, boxed_own h3 hg hr, boxed_own h4 hg hr⟩) _) (ownFrom_below (Nat.le_refl _) (by simp; omega)))
    (fun c => OwnFrom.and (Own.from (fun s A B row hs hg hr => by
      obtain ⟨h0, p, h1, h2, h3⟩ := hs
      exact ⟨h0, p, h1, boxed_own h2 hg hr, boxed_own h3 hg hr⟩) _) (ownFrom_below (Nat.le_refl _) (by simp; omega)))
    ⟨⟨0, rfl, hb0, hb1, hb2⟩, hB0⟩
    (fun x => { tmps := #[.func (.func 102) #[] #[.pointer (some ⟨Bn, 0, none⟩), .pointer (some ⟨Bl, 0, none⟩)], undef, .pointer (some ⟨w.heap.size, 0, none⟩), .pointer (some ⟨w.heap.size + 1, 0, none⟩), .pointer (some ⟨w.heap.size + 1 + 1, 0, none⟩), .int .i64 x.1, (encW x).getD 1 undef, .func (.func 102) #[] #[.pointer (some ⟨Bn, 0, none⟩), .pointer (some ⟨Bl, 0, none⟩)], .int .i64 x.1, (encW x).getD 1 undef, undef, undef, undef, undef, undef], defers := [] }) ?assign ?body ?done ?stop
  case assign =>
    rintro l ⟨x, c⟩ W K hK
    cases c
    all_goals
      gi_wp2
      simpa using hK
  case body =>
    rintro l pre ⟨x, c⟩ W ⟨⟨v, hv, q0, q1, q2⟩, hB⟩ hlt
    have HB : Hid (Below w.heap.size w W) := hB
    have N02 : Hid (w.heap.size ≠ w.heap.size + 1 + 1) := by unfold Hid; omega
    have N12 : Hid (w.heap.size + 1 ≠ w.heap.size + 1 + 1) := by unfold Hid; omega
    have N01 : Hid (w.heap.size ≠ w.heap.size + 1) := by unfold Hid; omega
    have N10 : Hid (w.heap.size + 1 ≠ w.heap.size) := by unfold Hid; omega
    have HK1 : Hid (KeepsOthers W (W.setCell ⟨w.heap.size + 1 + 1, 0, none⟩ (.int .i64 x))) := KeepsOthers.setCell _ _ _
    have HB1 : Hid (Below w.heap.size W (W.setCell ⟨w.heap.size + 1 + 1, 0, none⟩ (.int .i64 x))) := (Below.refl w.heap.size W).setCell (p := ⟨w.heap.size + 1 + 1, 0, none⟩) (by show w.heap.size ≤ w.heap.size + 1 + 1; omega) _
    have HQ1 : Hid (Boxed (W.setCell ⟨w.heap.size + 1 + 1, 0, none⟩ (.int .i64 x)) w.heap.size 2 (.int .i64 0) ∧ Boxed (W.setCell ⟨w.heap.size + 1 + 1, 0, none⟩ (.int .i64 x)) (w.heap.size + 1) 98 .nilIface ∧ Boxed (W.setCell ⟨w.heap.size + 1 + 1, 0, none⟩ (.int .i64 x)) (w.heap.size + 1 + 1) 2 (.int .i64 x)) := ⟨boxOther q0 _ N02.out, boxOther q1 _ N12.out, q2.set _⟩
    have HQ2 : Hid (∀ u : Value, KeepsOthers W ((W.setCell ⟨w.heap.size, 0, none⟩ (.int .i64 0)).setCell ⟨w.heap.size + 1, 0, none⟩ u) ∧ Below w.heap.size w ((W.setCell ⟨w.heap.size, 0, none⟩ (.int .i64 0)).setCell ⟨w.heap.size + 1, 0, none⟩ u) ∧ Boxed ((W.setCell ⟨w.heap.size, 0, none⟩ (.int .i64 0)).setCell ⟨w.heap.size + 1, 0, none⟩ u) w.heap.size 2 (.int .i64 0) ∧ Boxed ((W.setCell ⟨w.heap.size, 0, none⟩ (.int .i64 0)).setCell ⟨w.heap.size + 1, 0, none⟩ u) (w.heap.size + 1) 98 u) := fun u => ⟨(KeepsOthers.setCell _ _ _).trans (KeepsOthers.setCell _ _ _), (hB.setCell (p := ⟨w.heap.size, 0, none⟩) (Nat.le_refl _) _).setCell (p := ⟨w.heap.size + 1, 0, none⟩) (by show w.heap.size ≤ w.heap.size + 1; omega) _, boxOther (q0.set _) _ N01.out, (boxOther q1 _ N10.out).set _⟩
    have c0 := q0.cell
    have c1 := q1.cell
    have c2 := q2.cell
    have f0 := q0.frozen
    have f1 := q1.frozen
    have f2 := q2.frozen
    cases c with
    | none =>
      dsimp only [encW]
      gi_wp2
      exact ⟨HK1.out, HB1.out, ⟨x, brk_snoc_ok pre 0 v x hv, HQ1.out⟩, HB.out.trans HB1.out⟩
    | some c =>
      dsimp only [encW]
      gi_wp2
      have h2 := HQ2.out (.iface 105 (.agg #[.int .i64 x, .int .i64 c]))
      exact ⟨h2.1, ⟨rfl, (x, c), brk_snoc_no pre 0 v x c hv, h2.2.2⟩, h2.2.1⟩
  case done =>
    rintro D ys W hD hys ⟨⟨v, hv, q0, q1, q2⟩, hB⟩ hK
    have c0 := q0.cell
    have c1 := q1.cell
    have c2 := q2.cell
    have f0 := q0.frozen
    have f1 := q1.frozen
    have hDs : w.heap.size + 3 ≤ D := by simpa using hD
    have hK2 : ((W.setCell ⟨w.heap.size, 0, none⟩ (.int .i64 v)).setCell ⟨w.heap.size + 1, 0, none⟩ .nilIface).heap[D]? = some (.deferred (some [])) := by
      rw [Below.heap_setCell _ _ _ _ (show D ≠ w.heap.size + 1 by omega), Below.heap_setCell _ _ _ _ (show D ≠ w.heap.size by omega)]; exact hK
    have r0 := (boxOther (q0.set (.int .i64 v)) .nilIface (show w.heap.size ≠ w.heap.size + 1 by omega)).cell
    have r1 := ((boxOther q1 (.int .i64 v) (show w.heap.size + 1 ≠ w.heap.size by omega)).set .nilIface).cell
    have HB2 : Hid (Below w.heap.size w ((W.setCell ⟨w.heap.size, 0, none⟩ (.int .i64 v)).setCell ⟨w.heap.size + 1, 0, none⟩ .nilIface)) := (hB.setCell (p := ⟨w.heap.size, 0, none⟩) (Nat.le_refl _) _).setCell (p := ⟨w.heap.size + 1, 0, none⟩) (by show w.heap.size ≤ w.heap.size + 1; omega) _
    have HEE : Hid (brk 0 (wkT ds xs) = (v, none)) := by unfold Hid; rw [← hys]; exact hv
    clear hys hv hB
    gi_wp2
    generalize ((W.setCell ⟨w.heap.size, 0, none⟩ (.int .i64 v)).setCell ⟨w.heap.size + 1, 0, none⟩ .nilIface) = W2 at *
    have p0 := cell_kept r0 (grownBy_putObj' W2 D (.deferred none)) (fun r e => by cases e; exact ⟨_, hK2, rfl⟩)
    have p1 := cell_kept r1 (grownBy_putObj' W2 D (.deferred none)) (fun r e => by cases e; exact ⟨_, hK2, rfl⟩)
    refine ⟨by simp, .inl ⟨_, _, rfl, run_takeDeferred hK2, ?_⟩⟩
    exact ⟨.tuple #[.int .i64 v, .nilIface], by simp [results, Tryz.results62, go_sem, p0, p1], by rw [HEE.out]; rfl, HB2.out.trans (belowK_b (w := w) (Nat.le_refl _) W2 D _ _ (by omega) hK2 rfl rfl)⟩
  case stop =>
    rintro D c pre W hD hpre ⟨⟨rfl, p, hp, q0, q1⟩, hB⟩ hK
    have hDs : w.heap.size + 3 ≤ D := by simpa using hD
    have r0 := q0.cell
    have r1 := q1.cell
    have HEE : Hid (brk 0 (wkT ds xs) = (0, some p)) := by
      obtain ⟨r, hr2⟩ := hpre
      unfold Hid
      rw [← hr2]
      exact brk_app pre r 0 0 p hp
    obtain ⟨p1, p2⟩ := p
    simp only [errV] at r1
    clear hpre hp
    gi_wp2
    have k0 := cell_kept r0 (grownBy_putObj' W D (.deferred none)) (fun r e => by cases e; exact ⟨_, hK, rfl⟩)
    have k1 := cell_kept r1 (grownBy_putObj' W D (.deferred none)) (fun r e => by cases e; exact ⟨_, hK, rfl⟩)
    refine ⟨by simp, .inl ⟨_, _, rfl, run_takeDeferred hK, ?_⟩⟩
    exact ⟨.tuple #[.int .i64 0, errV (some (p1, p2))], by simp [results, Tryz.results62, go_sem, k0, k1, errV], by rw [HEE.out], hB.trans (belowK_b (w := w) (Nat.le_refl _) W D _ _ (by omega) hK rfl rfl)⟩
end Go.Proofs.YtaibcofendjnnaaGreatDoor

namespace Go.Proofs.YtaibcofendjnnaaGreatDoor
open Go.RowKit Go.Extern.Stop Go.Stop Go.Extern
set_option maxRecDepth 100000

theorem as_nil (t : Value) (w : World) :
    Calls Tryz.prog 64 #[.nilIface, t] w fun e w' => e = .returned (.bool false) ∧ w' = w := by
  go_enter Tryz.func64, Tryz.ntmps64
  go_wp2
  go_ret
  exact ⟨rfl, rfl⟩
theorem Tryz.valueOfP (t : Addr) (w : World) : (ReflectliteValue.unpack (.iface 107 (.pointer (some t)))).run Tryz.prog w
    = .ok (.agg #[.pointer (some ⟨2, 107, none⟩), .pointer (some ⟨w.heap.size, 0, none⟩), .int .u64 150]) (w.alloc (.cells #[.pointer (some t)] 107)) := by kernel_rfl
theorem Tryz.typeP (a : Addr) (w : World) : (ReflectliteValue.methodAny (ReflectliteValue.valueError "reflectlite.Value.Type" 0) (fun t _ _ _ => ReflectliteType.toType t) #[.agg #[.pointer (some ⟨2, 107, none⟩), .pointer (some a), .int .u64 150]]).run Tryz.prog w
    = .ok (.iface 183 (.agg #[.pointer (some ⟨2, 107, none⟩)])) w := by kernel_rfl
theorem Tryz.methodKind (h : Value) (w : World) : (Go.method 345 183 (.agg #[h]) "Kind").run Tryz.prog w = .ok (189, h) w := by kernel_rfl
theorem Tryz.kindP (w : World) : ((ReflectliteType.abiMethod fun t => (fun a : Nat => Value.int IntKind.u8 (a : Int)) <$> Rtype.kind t) #[.pointer (some ⟨2, 107, none⟩)]).run Tryz.prog w = .ok (.int .u8 22) w := by kernel_rfl
theorem Tryz.kindS (w : World) : ((ReflectliteType.abiMethod fun t => (fun a : Nat => Value.int IntKind.u8 (a : Int)) <$> Rtype.kind t) #[.pointer (some ⟨2, 105, none⟩)]).run Tryz.prog w = .ok (.int .u8 25) w := by kernel_rfl
theorem rlm (z : Sem Value) (f : TypeId → Addr → Nat → Nat → Sem Value) (v : Value) :
    ReflectliteValue.method z f #[v] = (do match ← ReflectliteValue.parts v with | none => z | some (t, a, fl) => f t a fl (fl % 32)) := rfl
theorem Tryz.partsP (a : Addr) (w : World) : (ReflectliteValue.parts (.agg #[.pointer (some ⟨2, 107, none⟩), .pointer (some a), .int .u64 150])).run Tryz.prog w = .ok (some (107, a, 150)) w := by kernel_rfl
theorem Tryz.isNilP (a p : Addr) (W : World) (ha : W.cell? a = some (.pointer (some p))) :
    (ReflectliteValue.method (ReflectliteValue.valueError "reflectlite.Value.IsNil" 0) ReflectliteValue.isNil #[.agg #[.pointer (some ⟨2, 107, none⟩), .pointer (some a), .int .u64 150]]).run Tryz.prog W = .ok (.bool false) W := by
  rw [rlm]
  simp only [Sem.run_bind, Tryz.partsP, Result.andThen]
  simp [ReflectliteValue.isNil, loadVar, isAgg, underlying, Tryz.underlying107, ha, Result.andThen]
theorem Tryz.methodElem (h : Value) (w : World) : (Go.method 345 183 (.agg #[h]) "Elem").run Tryz.prog w = .ok (201, .agg #[h]) w := by kernel_rfl
theorem Tryz.methodImplements (h : Value) (w : World) : (Go.method 345 183 (.agg #[h]) "Implements").run Tryz.prog w = .ok (202, .agg #[h]) w := by kernel_rfl
theorem Tryz.methodAssignableTo (h : Value) (w : World) : (Go.method 345 183 (.agg #[h]) "AssignableTo").run Tryz.prog w = .ok (199, .agg #[h]) w := by kernel_rfl
theorem Tryz.elemP (w : World) : (ReflectliteType.method ReflectliteType.elem #[.agg #[.pointer (some ⟨2, 107, none⟩)]]).run Tryz.prog w = .ok (.iface 183 (.agg #[.pointer (some ⟨2, 105, none⟩)])) w := by kernel_rfl
theorem Tryz.implementsS (w : World) : (ReflectliteType.relation "Implements" ReflectliteType.implements_ #[.agg #[.pointer (some ⟨2, 105, none⟩)], .iface 183 (.agg #[.pointer (some ⟨2, 98, none⟩)])]).run Tryz.prog w = .ok (.bool true) w := by kernel_rfl
theorem Tryz.typeOfS (v : Value) (w : World) : (ReflectliteType.typeOf #[.iface 105 v]).run Tryz.prog w = .ok (.iface 183 (.agg #[.pointer (some ⟨2, 105, none⟩)])) w := by kernel_rfl
theorem Tryz.assignableS (w : World) : (ReflectliteType.relation "AssignableTo" ReflectliteType.assignableTo #[.agg #[.pointer (some ⟨2, 105, none⟩)], .iface 183 (.agg #[.pointer (some ⟨2, 105, none⟩)])]).run Tryz.prog w = .ok (.bool true) w := by kernel_rfl
theorem Tryz.valueOfS (x c : Int) (w : World) : (ReflectliteValue.unpack (.iface 105 (.agg #[.int .i64 x, .int .i64 c]))).run Tryz.prog w
    = .ok (.agg #[.pointer (some ⟨2, 105, none⟩), .pointer (some ⟨w.heap.size, 0, none⟩), .int .u64 153]) (w.alloc (.cells #[.int .i64 x, .int .i64 c] 105)) := by kernel_rfl
theorem Tryz.elemOfP (w : World) : (Rtype.elem? 107).run Tryz.prog w = .ok (some 105) w := by kernel_rfl
theorem Tryz.mkS (p : Addr) (w : World) : (ReflectliteValue.mk 105 p ReflectliteValue.flagAddr).run Tryz.prog w = .ok (.agg #[.pointer (some ⟨2, 105, none⟩), .pointer (some p), .int .u64 409]) w := by kernel_rfl
theorem Tryz.elemV (a p : Addr) (W : World) (ha : W.cell? a = some (.pointer (some p))) :
    (ReflectliteValue.method (ReflectliteValue.valueError "reflectlite.Value.Elem" 0) ReflectliteValue.elem #[.agg #[.pointer (some ⟨2, 107, none⟩), .pointer (some a), .int .u64 150]]).run Tryz.prog W
      = .ok (.agg #[.pointer (some ⟨2, 105, none⟩), .pointer (some p), .int .u64 409]) W := by
  rw [rlm]
  simp only [Sem.run_bind, Tryz.partsP, Result.andThen]
  simp [ReflectliteValue.elem, loadVar, isAgg, underlying, Tryz.underlying107, ha, Result.andThen, Tryz.elemOfP, Tryz.mkS]
theorem rls (v x : Value) : ReflectliteValue.set #[v, x] = (do
    let (some (dst, a, fl), some (src, b, _)) := (← ReflectliteValue.parts v, ← ReflectliteValue.parts x)
      | unsupported (.noEntry "extern/(internal/reflectlite.Value).Set.zeroValue")
    if fl / ReflectliteValue.flagAddr % 2 == 0 then unsupported (.noEntry "extern/(internal/reflectlite.Value).Set.unaddressable")
    let val ← loadVar src b
    if ← Rtype.directlyAssignable dst src then storeVar dst a val
    else if ← Rtype.implements dst src then
      if (← Rtype.kind src) == 20 then
        match val with
        | .nilIface => unsupported (.noEntry "extern/reflectlite: a nil value of one interface type handed on as a value of another")
        | _ => storeVar dst a val
      else storeVar dst a (.iface src val)
    else panicString ("reflectlite.Set: value of type " ++ (← Rtype.spelt src) ++ " is not assignable to type " ++ (← Rtype.spelt dst))
    pure (.tuple #[])) := rfl
theorem Tryz.partsSa (a : Addr) (w : World) : (ReflectliteValue.parts (.agg #[.pointer (some ⟨2, 105, none⟩), .pointer (some a), .int .u64 409])).run Tryz.prog w = .ok (some (105, a, 409)) w := by kernel_rfl
theorem Tryz.partsS (a : Addr) (w : World) : (ReflectliteValue.parts (.agg #[.pointer (some ⟨2, 105, none⟩), .pointer (some a), .int .u64 153])).run Tryz.prog w = .ok (some (105, a, 153)) w := by kernel_rfl
theorem Tryz.directS (w : World) : (Rtype.directlyAssignable 105 105).run Tryz.prog w = .ok true w := by kernel_rfl
theorem Tryz.infoBreak : (Tryz.prog.info? 105).map (·.size) = some 2 := by kernel_rfl
/-- (Value).Set: the variable at 'tb' gets what the Value's own variable at 'b' holds. -/
theorem Tryz.setS (tb b : Nat) (x c : Int) (u0 u1 : Value) (W : World) (hb : W.heap[b]? = some (.cells #[.int .i64 x, .int .i64 c] 105 (0, 0))) (ht : W.heap[tb]? = some (.cells #[u0, u1] 105 (0, 0))) :
    (ReflectliteValue.set #[.agg #[.pointer (some ⟨2, 105, none⟩), .pointer (some ⟨tb, 0, none⟩), .int .u64 409], .agg #[.pointer (some ⟨2, 105, none⟩), .pointer (some ⟨b, 0, none⟩), .int .u64 153]]).run Tryz.prog W
      = .ok (.tuple #[]) (W.setRow tb #[.int .i64 x, .int .i64 c]) := by
  have hl := run_loadVar_row (P := Tryz.prog) W b _ 105 #[.int .i64 x, .int .i64 c] (0, 0) _ hb Tryz.underlying105 rfl Tryz.infoBreak
  have hs := run_storeVar_row (P := Tryz.prog) W tb _ 105 #[u0, u1] #[.int .i64 x, .int .i64 c] ht Tryz.infoBreak rfl (by simp [Value.oneCell'])
  rw [rls]
  simp only [Sem.run_bind, Tryz.partsSa, Tryz.partsS, Result.andThen]
  simp [ReflectliteValue.flagAddr, hl, Result.andThen, Tryz.directS, hs]
/-- The package variable errors.errorType is as the program's text lays it. -/
def Gl (w : World) : Prop := w.cell? ⟨0, 0, none⟩ = some (.iface 183 (.agg #[.pointer (some ⟨2, 98, none⟩)]))
theorem Gl.later {w w' : World} (h : Gl w) (hb : Below w.heap.size w w') : Gl w' := cell_later hb h
set_option maxHeartbeats 8000000 in
theorem as_hit (x c : Int) (tb : Nat) (u0 u1 : Value) (w : World) (hg : Gl w) (ht : w.heap[tb]? = some (.cells #[u0, u1] 105 (0, 0))) :
    Calls Tryz.prog 64 #[.iface 105 (.agg #[.int .i64 x, .int .i64 c]), .iface 107 (.pointer (some ⟨tb, 0, none⟩))] w fun ev w' => ev = .returned (.bool true) ∧ w' = ((((w.alloc (.cells #[.pointer (some ⟨tb, 0, none⟩)] 107)).alloc (.cells #[.pointer (some ⟨2, 107, none⟩), .pointer (some ⟨w.heap.size, 0, none⟩), .int .u64 150] 146)).alloc (.cells #[.pointer (some ⟨2, 107, none⟩), .pointer (some ⟨w.heap.size, 0, none⟩), .int .u64 150] 146)).alloc (.cells #[.int .i64 x, .int .i64 c] 105)).setRow tb #[.int .i64 x, .int .i64 c] := by
  have h6 := @run_callFunc_extern Tryz.prog 103 _ (fun args => ReflectliteValue.unpack (args.getD 0 (.tuple #[]))) Tryz.func103 (by kernel_rfl) (by kernel_rfl) (by kernel_rfl) (by kernel_rfl)
  have h7 := @run_callFunc_extern Tryz.prog 104 _ (ReflectliteValue.methodAny (ReflectliteValue.valueError "reflectlite.Value.Type" 0) (fun t _ _ _ => ReflectliteType.toType t)) Tryz.func104 (by kernel_rfl) (by kernel_rfl) (by kernel_rfl) (by kernel_rfl)
  have h8 := @run_callFunc_extern Tryz.prog 105 _ (ReflectliteValue.method (ReflectliteValue.valueError "reflectlite.Value.IsNil" 0) ReflectliteValue.isNil) Tryz.func105 (by kernel_rfl) (by kernel_rfl) (by kernel_rfl) (by kernel_rfl)
  have h27 := @run_callFunc_extern Tryz.prog 189 _ (ReflectliteType.abiMethod fun t => do pure (.int .u8 (← Rtype.kind t))) Tryz.func189 (by kernel_rfl) (by kernel_rfl) (by kernel_rfl) (by kernel_rfl)
  have h37 := @run_callFunc_extern Tryz.prog 201 _ (ReflectliteType.method ReflectliteType.elem) Tryz.func201 (by kernel_rfl) (by kernel_rfl) (by kernel_rfl) (by kernel_rfl)
  have h38 := @run_callFunc_extern Tryz.prog 202 _ (ReflectliteType.relation "Implements" ReflectliteType.implements_) Tryz.func202 (by kernel_rfl) (by kernel_rfl) (by kernel_rfl) (by kernel_rfl)
  have h10 := @run_callFunc_extern Tryz.prog 140 _ ReflectliteType.typeOf Tryz.func140 (by kernel_rfl) (by kernel_rfl) (by kernel_rfl) (by kernel_rfl)
  have h35 := @run_callFunc_extern Tryz.prog 199 _ (ReflectliteType.relation "AssignableTo" ReflectliteType.assignableTo) Tryz.func199 (by kernel_rfl) (by kernel_rfl) (by kernel_rfl) (by kernel_rfl)
  have h11 := @run_callFunc_extern Tryz.prog 141 _ (ReflectliteValue.method (ReflectliteValue.valueError "reflectlite.Value.Elem" 0) ReflectliteValue.elem) Tryz.func141 (by kernel_rfl) (by kernel_rfl) (by kernel_rfl) (by kernel_rfl)
  have h12 := @run_callFunc_extern Tryz.prog 142 _ ReflectliteValue.set Tryz.func142 (by kernel_rfl) (by kernel_rfl) (by kernel_rfl) (by kernel_rfl)
  have tO := Tryz.typeOfS
  have mA := Tryz.methodAssignableTo
  have a25 := Tryz.assignableS
  have v25 := Tryz.valueOfS
  have f6 := Tryz.valueOfP
  have f7 := Tryz.typeP
  have mK := Tryz.methodKind
  have mE := Tryz.methodElem
  have mI := Tryz.methodImplements
  have k27 := Tryz.kindP
  have k25 := Tryz.kindS
  have e27 := Tryz.elemP
  have i25 := Tryz.implementsS
  have hg0 : w.cell? ⟨0, 0, none⟩ = some (.iface 183 (.agg #[.pointer (some ⟨2, 98, none⟩)])) := hg
  have n8 := Tryz.isNilP ⟨w.heap.size, 0, none⟩ ⟨tb, 0, none⟩ ((w.alloc (.cells #[.pointer (some ⟨tb, 0, none⟩)] 107)).alloc (.cells #[.pointer (some ⟨2, 107, none⟩), .pointer (some ⟨w.heap.size, 0, none⟩), .int .u64 150] 146)) (by simp)
  have hlt : 0 < w.heap.size := World.block_lt_of_cell? _ _ hg0
  have hg2 : ((w.alloc (.cells #[.pointer (some ⟨tb, 0, none⟩)] 107)).alloc (.cells #[.pointer (some ⟨2, 107, none⟩), .pointer (some ⟨w.heap.size, 0, none⟩), .int .u64 150] 146)).cell? ⟨0, 0, none⟩ = some (.iface 183 (.agg #[.pointer (some ⟨2, 98, none⟩)])) := cell_later (later2 _ _ _) hg0
  have htl : tb < w.heap.size := (Array.getElem?_eq_some_iff.1 ht).1
  have el := Tryz.elemV ⟨w.heap.size, 0, none⟩ ⟨tb, 0, none⟩ (((w.alloc (.cells #[.pointer (some ⟨tb, 0, none⟩)] 107)).alloc (.cells #[.pointer (some ⟨2, 107, none⟩), .pointer (some ⟨w.heap.size, 0, none⟩), .int .u64 150] 146)).alloc (.cells #[.pointer (some ⟨2, 107, none⟩), .pointer (some ⟨w.heap.size, 0, none⟩), .int .u64 150] 146)) (by rw [World.cell?_alloc_lt _ _ ⟨w.heap.size, 0, none⟩ (by simp; omega)]; simp)
  have hbx : ((((w.alloc (.cells #[.pointer (some ⟨tb, 0, none⟩)] 107)).alloc (.cells #[.pointer (some ⟨2, 107, none⟩), .pointer (some ⟨w.heap.size, 0, none⟩), .int .u64 150] 146)).alloc (.cells #[.pointer (some ⟨2, 107, none⟩), .pointer (some ⟨w.heap.size, 0, none⟩), .int .u64 150] 146)).alloc (.cells #[.int .i64 x, .int .i64 c] 105)).heap[w.heap.size + 1 + 1 + 1]? = some (.cells #[.int .i64 x, .int .i64 c] 105 (0, 0)) := by
    have := World.alloc_heap_new (((w.alloc (.cells #[.pointer (some ⟨tb, 0, none⟩)] 107)).alloc (.cells #[.pointer (some ⟨2, 107, none⟩), .pointer (some ⟨w.heap.size, 0, none⟩), .int .u64 150] 146)).alloc (.cells #[.pointer (some ⟨2, 107, none⟩), .pointer (some ⟨w.heap.size, 0, none⟩), .int .u64 150] 146)) (.cells #[.int .i64 x, .int .i64 c] 105)
    rw [World.size_alloc, World.size_alloc, World.size_alloc] at this
    exact this
  have hb4 : Below w.heap.size w ((((w.alloc (.cells #[.pointer (some ⟨tb, 0, none⟩)] 107)).alloc (.cells #[.pointer (some ⟨2, 107, none⟩), .pointer (some ⟨w.heap.size, 0, none⟩), .int .u64 150] 146)).alloc (.cells #[.pointer (some ⟨2, 107, none⟩), .pointer (some ⟨w.heap.size, 0, none⟩), .int .u64 150] 146)).alloc (.cells #[.int .i64 x, .int .i64 c] 105)) := (later2 _ _ _).trans ((later2 _ _ _).mono (by simp; omega))
  have st := Tryz.setS tb (w.heap.size + 1 + 1 + 1) x c u0 u1 _ hbx ((hb4.block tb htl).trans ht)
  go_enter Tryz.func64, Tryz.ntmps64
  go_wp2
  refine wp_loop_rounds 1 ?_
  rw [rounds_succ]
  go_wp2
  go_ret
  exact ⟨rfl, rfl⟩
end Go.Proofs.YtaibcofendjnnaaGreatDoor

namespace Go.Proofs.YtaibcofendjnnaaGreatDoor
open Go.RowKit
set_option maxRecDepth 100000

/-- IntResult of a code and a place. -/
abbrev intRV (r : Int × Int) : Value := .agg #[.int .i64 r.1, .int .i64 r.2]
theorem as_hit2 (w : World) (x c : Int) (hg : Gl w) :
    Calls Tryz.prog 64 #[.iface 105 (.agg #[.int .i64 x, .int .i64 c]), .iface 107 (.pointer (some ⟨w.heap.size, 0, none⟩))] (w.alloc (.cells #[.int .i64 0, .int .i64 0] 105)) fun ev w' => ev = .returned (.bool true) ∧ Below w.heap.size w w' ∧ w'.cell? ⟨w.heap.size, 1, none⟩ = some (.int .i64 c) := by
  have h0 : (w.alloc (.cells #[.int .i64 0, .int .i64 0] 105)).heap[w.heap.size]? = some (.cells #[.int .i64 0, .int .i64 0] 105 (0, 0)) := World.alloc_heap_new w _
  refine (as_hit x c w.heap.size _ _ _ (hg.later (later1 _ _)) h0).mono ?_
  rintro e w' ⟨rfl, rfl⟩
  have hb1 : Below w.heap.size w (w.alloc (.cells #[.int .i64 0, .int .i64 0] 105)) := later1 _ _
  generalize (w.alloc (.cells #[.int .i64 0, .int .i64 0] 105)) = W at *
  have hlt : w.heap.size < W.heap.size := (Array.getElem?_eq_some_iff.1 h0).1
  have hb4 : ∀ o1 o2 o3 o4 : Obj, Below W.heap.size W ((((W.alloc o1).alloc o2).alloc o3).alloc o4) := fun o1 o2 o3 o4 => (later2 _ _ _).trans ((later2 _ _ _).mono (by simp; omega))
  refine ⟨rfl, below_setRow (hb1.trans ((hb4 _ _ _ _).mono hb1.size)) (Nat.le_refl _) _, ?_⟩
  have h4 := ((hb4 (.cells #[.pointer (some ⟨w.heap.size, 0, none⟩)] 107) (.cells #[.pointer (some ⟨2, 107, none⟩), .pointer (some ⟨W.heap.size, 0, none⟩), .int .u64 150] 146) (.cells #[.pointer (some ⟨2, 107, none⟩), .pointer (some ⟨W.heap.size, 0, none⟩), .int .u64 150] 146) (.cells #[.int .i64 x, .int .i64 c] 105)).block w.heap.size hlt).trans h0
  rw [cell_setRow_same _ _ _ _ _ _ _ h4]; rfl
theorem zeros2 (w : World) (t : TypeId) : OwnRow (w.alloc (.cells #[.int .i64 0, .int .i64 0] t)) w.heap.size 2 (fun _ => .int .i64 0) :=
  ⟨_, t, World.alloc_heap_new w _, by simp, fun i hi => by
    match i, hi with
    | 0, _ => rfl
    | 1, _ => rfl⟩
set_option maxHeartbeats 6400000 in
theorem walkNames_any (w : World) (aL : Option Addr) (nL cL : Nat) (vD : Value) (aD : Option Addr) (nD cD : Nat) (hvD : vD = .slice aD nD cD) (aN : Option Addr) (mN cN : Nat) (xs : List (List UInt8)) (hmN : xs.length = mN) (hmx : mN ≤ 1048577) (ds : List ID) (hdn : ds.length = nL) (h10 : nL ≤ 10) (h0L : 0 < nL) (hr : inRange ds) (h6 : ∀ i : Nat, (ds[i]?.getD id0).2.2.2.2.length ≤ 6) (hgl : Gl w) (hat : AtT w aN mN xs) (hai : AtI w aL nL ds) :
    Calls Tryz.prog 32 #[.agg #[.slice aL nL cL, vD], .slice aN mN cN] w fun e w' => e = .returned (intRV (wkR ds 0 xs)) ∧ Below w.heap.size w w' := by
  subst hvD
  have HR : Hid (wkR ds 0 xs = outB (brk 0 (wkT ds xs))) := by
    unfold Hid
    rw [← brk_end]
    exact (wk_end hr xs 0 (by omega)).symm
  have HB0 : Hid (Below w.heap.size w ((w.alloc (.cells #[.slice aL nL cL, .slice aD nD cD] 32)).alloc (.cells #[.int .i64 0, .int .i64 0] 28))) := later2 _ _ _
  have HX : Hid (Bx ((w.alloc (.cells #[.slice aL nL cL, .slice aD nD cD] 32)).alloc (.cells #[.int .i64 0, .int .i64 0] 28)) w.heap.size [.slice aL nL cL, .slice aD nD cD]) := (Bx.new w [.slice aL nL cL, .slice aD nD cD] _).later (later1 _ _)
  have HRS : Hid (OwnRow ((w.alloc (.cells #[.slice aL nL cL, .slice aD nD cD] 32)).alloc (.cells #[.int .i64 0, .int .i64 0] 28)) (w.heap.size + 1) 2 (fun _ => .int .i64 0)) := by
    have p2 := zeros2 (w.alloc (.cells #[.slice aL nL cL, .slice aD nD cD] 32)) 28
    rw [World.size_alloc] at p2
    exact p2
  have HEN : Hid (∀ W, Below w.heap.size w W → Calls Tryz.prog 62 #[.func (.func 102) #[] #[.pointer (some ⟨W.heap.size + 1, 0, none⟩), .pointer (some ⟨W.heap.size, 0, none⟩)]] ((W.alloc (.cells #[.slice aL nL cL] 30)).alloc (.cells #[.slice aN mN cN] 42)) fun e w' => e = .returned (.tuple #[.int .i64 (brk 0 (wkT ds xs)).1, errV (brk 0 (wkT ds xs)).2]) ∧ Below W.heap.size W w') := fun W hW => by
    have hb2 : Below W.heap.size W ((W.alloc (.cells #[.slice aL nL cL] 30)).alloc (.cells #[.slice aN mN cN] 42)) := later2 _ _ _
    have c0 : ((W.alloc (.cells #[.slice aL nL cL] 30)).alloc (.cells #[.slice aN mN cN] 42)).cell? ⟨W.heap.size, 0, none⟩ = some (.slice aL nL cL) := cell_later (later1 _ _) (by rw [new_cell]; rfl)
    have c1 : ((W.alloc (.cells #[.slice aL nL cL] 30)).alloc (.cells #[.slice aN mN cN] 42)).cell? ⟨W.heap.size + 1, 0, none⟩ = some (.slice aN mN cN) := by
      have := new_cell (W.alloc (.cells #[.slice aL nL cL] 30)) #[.slice aN mN cN] 42 0
      rw [World.size_alloc] at this
      rw [this]; rfl
    refine (endOf_any _ (W.heap.size + 1) W.heap.size aN mN cN xs hmN hmx aL nL cL ds hdn h10 h0L hr h6 (by simp) (by simp; omega) c1 c0 ((hat.later hW).later hb2) ((hai.later hW).later hb2)).mono ?_
    rintro e w' ⟨rfl, hb⟩
    exact ⟨rfl, hb2.trans (hb.mono hb2.size)⟩
  rw [HR.out]
  have HGL : Hid (Gl w) := hgl
  clear hat hai hr h6 hgl HR
  obtain ⟨⟨v, o⟩, hbr⟩ : ∃ q, brk 0 (wkT ds xs) = q := ⟨_, rfl⟩
  rw [hbr] at HEN ⊢
  clear hbr
  cases o with
  | none =>
    dsimp only [errV, outB] at HEN ⊢
    go_enter Tryz.func32, Tryz.ntmps32
    have x0 := HX.out 0 _ rfl
    have x1 := HX.out 1 _ rfl
    go_wp2_with fail
    generalize ((w.alloc (.cells #[.slice aL nL cL, .slice aD nD cD] 32)).alloc (.cells #[.int .i64 0, .int .i64 0] 28)) = W0 at *
    refine (walk_any W0 aL nL cL aN mN cN).mono ?_
    rintro e w1 ⟨rfl, rfl⟩
    go_wp2_with fail
    refine (HEN.out W0 HB0.out).mono ?_
    rintro e w2 ⟨rfl, hb2⟩
    have hrr := HRS.out.later hb2
    have hz2 : w.heap.size + 1 < w2.heap.size := hrr.lt
    have t0 : w2.cell? ⟨w.heap.size + 1, 0, none⟩ = some (.int .i64 0) := hrr.cell (i := 0) (by omega)
    have t1 : w2.cell? ⟨w.heap.size + 1, 1, none⟩ = some (.int .i64 0) := hrr.cell (i := 1) (by omega)
    have s0 := hrr.frozen 0
    have s1 := hrr.frozen 1
    have HB2 : Hid (Below w.heap.size w w2) := HB0.out.trans (hb2.mono HB0.out.size)
    clear hb2 hrr x0 x1
    go_wp2_with fail
    refine (as_nil _ _).mono ?_
    rintro e w3 ⟨rfl, rfl⟩
    go_wp2
    exact bodyPost_ret (v := intRV (0, v)) (by simp [results, Tryz.results32, go_sem, t0, t1, hz2]) rfl ⟨rfl, ((HB2.out.setCell (p := ⟨w.heap.size + 1, 0, none⟩) (by show w.heap.size ≤ w.heap.size + 1; omega) _).setCell (p := ⟨w.heap.size + 1, 1, none⟩) (by show w.heap.size ≤ w.heap.size + 1; omega) _).alloc (by have := HB2.out.size; simpa [World.setCell] using this) _⟩
  | some p =>
    obtain ⟨p1, p2⟩ := p
    dsimp only [errV, outB] at HEN ⊢
    go_enter Tryz.func32, Tryz.ntmps32
    have x0 := HX.out 0 _ rfl
    have x1 := HX.out 1 _ rfl
    go_wp2_with fail
    generalize ((w.alloc (.cells #[.slice aL nL cL, .slice aD nD cD] 32)).alloc (.cells #[.int .i64 0, .int .i64 0] 28)) = W0 at *
    refine (walk_any W0 aL nL cL aN mN cN).mono ?_
    rintro e w1 ⟨rfl, rfl⟩
    go_wp2_with fail
    refine (HEN.out W0 HB0.out).mono ?_
    rintro e w2 ⟨rfl, hb2⟩
    have HR2 : Hid (OwnRow w2 (w.heap.size + 1) 2 (fun _ => .int .i64 0)) := HRS.out.later hb2
    have HB2 : Hid (Below w.heap.size w w2) := HB0.out.trans (hb2.mono HB0.out.size)
    clear hb2 x0 x1
    go_wp2_with fail
    refine (as_hit2 w2 p1 p2 (HGL.out.later HB2.out)).mono ?_
    rintro e w3 ⟨rfl, hb3, hc3⟩
    have hrr := HR2.out.later hb3
    have t0 : w3.cell? ⟨w.heap.size + 1, 0, none⟩ = some (.int .i64 0) := hrr.cell (i := 0) (by omega)
    have t1 : w3.cell? ⟨w.heap.size + 1, 1, none⟩ = some (.int .i64 0) := hrr.cell (i := 1) (by omega)
    have s0 := hrr.frozen 0
    have s1 := hrr.frozen 1
    have HB3 : Hid (Below w.heap.size w w3) := HB2.out.trans (hb3.mono HB2.out.size)
    clear hb3 hrr
    go_wp2
    exact bodyPost_ret (v := intRV (p2, 0)) (by simp [results, Tryz.results32, go_sem, t0, t1]) rfl ⟨rfl, (HB3.out.setCell (p := ⟨w.heap.size + 1, 0, none⟩) (by show w.heap.size ≤ w.heap.size + 1; omega) _).setCell (p := ⟨w.heap.size + 1, 1, none⟩) (by show w.heap.size ≤ w.heap.size + 1; omega) _⟩
end Go.Proofs.YtaibcofendjnnaaGreatDoor
