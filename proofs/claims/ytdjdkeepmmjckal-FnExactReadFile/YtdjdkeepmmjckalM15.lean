/- ReadFile, the specification's and the program's. ReadFile: the walks. ReadFile: the specification's walk. The law of ReadFile: at every argument the program answers as the specification, leaves its arguments as they were, and its answer owns its memory. -/
import Derived.Test.YtdjdkeepmmjckalM11
import Derived.Test.YtdjdkeepmmjckalM14
import Derived.Deep.RegionLaw
import Derived.Test.YtdjdkeepmmjckalM04
namespace Go.Proofs.Ytdjdkeepmmjckal
open Go.RowKit
set_option maxRecDepth 100000

theorem slice_Y (a : Option Addr) (n c lo hi : Nat) (h1 : lo ≤ hi) (h2 : hi ≤ n) (h3 : n ≤ c) :
    ∃ A C, (∀ W : World, (Instr.sliceAt 43 (.slice a n c) (some (.int .i64 (lo : Int))) (some (.int .i64 (hi : Int))) none).run Try.prog W = .ok (.slice A (hi - lo) C) W) ∧ ∀ (W : World) (zs : List UInt8), zs.length = n → Byt W (.slice a n c) zs → Byt W (.slice A (hi - lo) C) ((zs.drop lo).take (hi - lo)) := by
  obtain ⟨i, hi0, _, hi2, _⟩ := Try.infoByte'
  refine ⟨if c - lo = 0 then a else a.map (·.add (lo * 1)), c - lo, fun W => ?_, fun W zs hz h => ?_⟩
  · have e2 : hi ≤ c := by omega
    simp [Instr.sliceAt, Instr.slice, Instr.sliceBounds, Instr.sliceBound, asIntOf, run_underlying Try.underlying43, sizeOf, typeInfo, hi0, hi2, e2, h1]
    by_cases hcl : c = lo
    · rw [if_pos hcl, if_pos (by omega)]
    · rw [if_neg hcl, if_neg (by omega)]
  · have hl : ((zs.drop lo).take (hi - lo)).length = hi - lo := by rw [List.length_take, List.length_drop]; omega
    obtain ⟨a', cap, e, hm, hat⟩ := h
    simp only [Value.slice.injEq] at e
    obtain ⟨rfl, _, rfl⟩ := e
    refine ⟨_, _, by rw [hl], ⟨by rw [hl]; have := hm.1; omega, by rw [hl]; omega⟩, fun k hk => ?_⟩
    rw [hl] at hk
    obtain ⟨b, off, rfl, hc⟩ := hat (lo + k) (by omega)
    rw [if_neg (by omega)]
    refine ⟨b, off + lo, by simp [Addr.add], ?_⟩
    rw [List.getElem?_take, if_pos hk, List.getElem?_drop]
    rw [Nat.add_assoc]
    exact hc
/-- The part of a list as the walk has it. -/
def cutA (a : Option Addr) (c lo : Nat) : Option Addr := if c = lo then a else Option.map (fun x => x.add lo) a
theorem cut_Y {W : World} {a : Option Addr} {n c lo hi : Nat} (h2 : hi ≤ n) (h3 : n ≤ c) {zs : List UInt8} (hz : zs.length = n) (h : Byt W (.slice a n c) zs) : Byt W (.slice (cutA a c lo) (hi - lo) (c - lo)) ((zs.drop lo).take (hi - lo)) := by
  have hl : ((zs.drop lo).take (hi - lo)).length = hi - lo := by rw [List.length_take, List.length_drop]; omega
  obtain ⟨a', cap, e, hm, hat⟩ := h
  simp only [Value.slice.injEq] at e
  obtain ⟨rfl, _, rfl⟩ := e
  refine ⟨_, _, by rw [hl], ⟨by rw [hl]; have := hm.1; omega, by rw [hl]; omega⟩, fun k hk => ?_⟩
  rw [hl] at hk
  obtain ⟨b, off, rfl, hc⟩ := hat (lo + k) (by omega)
  unfold cutA
  rw [if_neg (by omega)]
  refine ⟨b, off + lo, by simp [Addr.add], ?_⟩
  rw [List.getElem?_take, if_pos hk, List.getElem?_drop, Nat.add_assoc]
  exact hc
section
variable {P : Program} {w : World}
theorem wpList_slice_run {ops : Array Oper} {rest : List Oper} {o : Oper} {a : Act} {Q : Exit → Act → World → Prop} (hgd : o.guard = none) (t : TypeId) (x lo hi : Operand) (ho : o.op = .slice t x (some lo) (some hi) none) (v vl vh : Value) (hx : a.eval x = v) (hl : a.eval lo = vl) (hh : a.eval hi = vh) (v' : Value)
    (hr : (Instr.sliceAt t v (some vl) (some vh) none).run P w = .ok v' w) (h : wpList P ops Q rest (a.put o.dst v') w) : wpList P ops Q (o :: rest) a w := by
  refine wpList_plain hgd fun K hK => ?_
  unfold Oper.wp execOp
  simp only [ho, Sem.run_bind, Sem.run_pure, Result.andThen_ok, Option.map_some, Option.map_none, hx, hl, hh, hr]
  exact hK _ _ h
theorem step_slice_run {ops : Array Oper} {o : Oper} {a : Act} {K : Act → World → Prop} {Q : Exit → Act → World → Prop} {E : Prop} (hgd : o.guard = none) (t : TypeId) (x lo hi : Operand) (ho : o.op = .slice t x (some lo) (some hi) none) (v vl vh : Value) (hx : a.eval x = v) (hl : a.eval lo = vl) (hh : a.eval hi = vh) (v' : Value)
    (hr : (Instr.sliceAt t v (some vl) (some vh) none).run P w = .ok v' w) (h : K (a.put o.dst v') w) : if Region.wanted o (yielded ops a.tmps) = true then Oper.wp P o a w K Q else E := by
  have hw : Region.wanted o (yielded ops a.tmps) = true := by simp [Region.wanted, hgd]
  rw [if_pos hw]
  unfold Oper.wp execOp
  simp only [ho, Sem.run_bind, Sem.run_pure, Result.andThen_ok, Option.map_some, Option.map_none, hx, hl, hh, hr]
  exact h
end
theorem cutY_eq (zs : List UInt8) (p n : Nat) : (zs.drop (min p zs.length)).take (min zs.length (min p zs.length + n) - min p zs.length) = cutY zs p n := by
  unfold cutY
  apply List.ext_getElem?
  intro i
  rw [List.getElem?_take, List.getElem?_take, List.getElem?_drop, List.getElem?_drop]
  by_cases h : p ≤ zs.length
  · rw [Nat.min_eq_left h]
    by_cases hi : i < n
    · rw [if_pos hi]
      by_cases h2 : p + i < zs.length
      · rw [if_pos (by omega)]
      · rw [List.getElem?_eq_none (by omega)]; split <;> rfl
    · rw [if_neg hi, if_neg (by omega)]
  · rw [List.getElem?_eq_none (show zs.length ≤ p + i by omega), List.getElem?_eq_none (show zs.length ≤ min p zs.length + i by omega)]
    split <;> split <;> rfl
theorem cutY_eq' (zs : List UInt8) (p n : Nat) : (zs.drop (min p zs.length)).take (min (p + n) zs.length - min p zs.length) = cutY zs p n := by
  rw [← cutY_eq]
  by_cases h : p ≤ zs.length
  · rw [Nat.min_eq_left h, Nat.min_comm (p + n)]
  · have e1 : min p zs.length = zs.length := by omega
    rw [e1, List.drop_eq_nil_of_le (Nat.le_refl _)]
    simp
theorem l1Min_nat (w : World) (x y : Int) (r : Nat) (h : min x y = (r : Int)) : Calls Try.prog 71 #[.int .i64 x, .int .i64 y] w fun e w' => e = .returned (.int .i64 (r : Int)) ∧ w' = w := by
  by_cases hl : x < y
  · have E : Hid (x = (r : Int)) := by unfold Hid; omega
    clear h
    go_enter Try.func71, Try.ntmps71
    go_wp2
    go_ret
    exact ⟨ret_int E.out, rfl⟩
  · have E : Hid (y = (r : Int)) := by unfold Hid; omega
    clear h
    go_enter Try.func71, Try.ntmps71
    go_wp2
    go_ret
    exact ⟨ret_int E.out, rfl⟩
theorem isFrom_any (w : World) (p : Int) : Calls Try.prog 72 #[.int .i64 p] w fun e w' => e = .returned (.bool (fromB p)) ∧ w' = w := by
  have HE : Hid ((decide (0 ≤ p) && decide (p ≤ 1000)) = fromB p) := rfl
  by_cases h : 0 ≤ p
  · have h' : decide (0 ≤ p) = true := by simpa using h
    have HE2 : Hid (decide (p ≤ 1000) = fromB p) := by unfold Hid; rw [← HE.out, h']; rfl
    clear h'
    go_enter Try.func72, Try.ntmps72
    go_wp2
    go_ret
    exact ⟨ret_bool HE2.out, rfl⟩
  · have HE2 : Hid (false = fromB p) := by unfold Hid; rw [← HE.out]; simp [h]
    go_enter Try.func72, Try.ntmps72
    go_wp2
    go_ret
    exact ⟨ret_bool HE2.out, rfl⟩
end Go.Proofs.Ytdjdkeepmmjckal

namespace Go.Proofs.Ytdjdkeepmmjckal
open Go.RowKit
set_option maxRecDepth 100000

theorem fromB_nat {p : Int} (h : fromB p = true) : ∃ q : Nat, p = (q : Int) ∧ q ≤ 1000 := by
  unfold fromB at h
  simp at h
  exact ⟨p.toNat, by omega, by omega⟩
theorem readFR_len (d : FD) (x p n : Int) : (readFR d x p n).2.length ≤ 32 := by
  unfold readFR
  by_cases hc : (bytR d x).1 = 0
  · rw [if_pos hc]
    split
    · have := (sound hc).bl
      show (cutY _ _ _).length ≤ 32
      unfold cutY
      rw [List.length_take, List.length_drop]
      omega
    · simp
  · rw [if_neg hc]; simp
/-- What both walks begin with. -/
theorem AnsYR.boxed {w W : World} {rb : Nat} {r : Int} {zs : List UInt8} {a : Option Addr} {n c : Nat} (hB : Below w.heap.size w W) (hrb : w.heap.size ≤ rb) (hY : BytO W (.slice a n c) zs (fun b => w.heap.size ≤ b ∧ b < W.heap.size ∧ b ≠ rb)) (x y : Value) : AnsYR w (r, zs) (.returned (.agg #[.int .i64 r, .slice a n c])) ((W.setCell ⟨rb, 0, none⟩ x).setCell ⟨rb, 1, none⟩ y) := by
  refine ⟨a, n, c, rfl, (hB.setCell hrb _).setCell hrb _, (hY.keep fun b hb _ => ?_).mono fun b hb => ?_⟩
  · rw [Below.heap_setCell _ _ _ _ hb.2.2, Below.heap_setCell _ _ _ _ hb.2.2]
  · unfold fresh
    simp only [World.setCell, Array.size_modify]
    exact ⟨hb.1, hb.2.1⟩
theorem AnsYR.later {w w2 w3 : World} {r : Int × List UInt8} {e : Ending} (h : AnsYR w r e w2) (hb : Below w2.heap.size w2 w3) : AnsYR w r e w3 := by
  obtain ⟨a1, n1, c1, h1, h2, h3⟩ := h
  exact ⟨a1, n1, c1, h1, h2.trans (hb.mono h2.size), (h3.keep fun b _ hlt => hb.block b hlt).mono fun b hh => ⟨hh.1, Nat.lt_of_lt_of_le hh.2 hb.size⟩⟩

set_option maxHeartbeats 6400000 in
theorem implReadFU (w : World) (a1 : Option Addr) (n1 c1 : Nat) (a2 : Option Addr) (n2 c2 : Nat) (d : FD) (xx p q : Int) (h : FsR w (.slice a1 n1 c1) (.slice a2 n2 c2) d) (hs : sizeFs d ≤ 1048576) :
    Calls Try.prog 37 #[.agg #[.slice a1 n1 c1, .slice a2 n2 c2], .int .i64 xx, .int .i64 p, .int .i64 q] w (AnsYR w (readFR d xx p q)) := by
  have HRR : Hid (readFR d xx p q = if (bytR d xx).1 = 0 then (if fromB p && (decide (0 ≤ q) && decide (q ≤ 100)) then (0, cutY (bytL d xx.toNat) p.toNat q.toNat) else (3, [])) else ((bytR d xx).1, [])) := rfl
  rw [HRR.out]
  clear HRR
  have HB0 : Hid (Below w.heap.size w ((w.alloc (.cells #[.slice a1 n1 c1, .slice a2 n2 c2] 30)).alloc (.cells #[.int .i64 0, .slice none 0 0] 45))) := later2 _ _ _
  have HRS : Hid (OwnRow ((w.alloc (.cells #[.slice a1 n1 c1, .slice a2 n2 c2] 30)).alloc (.cells #[.int .i64 0, .slice none 0 0] 45)) (w.heap.size + 1) 2 (fun i => if i = 0 then .int .i64 0 else .slice none 0 0)) := by
    have := box2 (w.alloc (.cells #[.slice a1 n1 c1, .slice a2 n2 c2] 30)) 45
    rw [World.size_alloc] at this
    exact this
  have HBY : Hid (Calls Try.prog 24 #[.agg #[.slice a1 n1 c1, .slice a2 n2 c2], .int .i64 xx] ((w.alloc (.cells #[.slice a1 n1 c1, .slice a2 n2 c2] 30)).alloc (.cells #[.int .i64 0, .slice none 0 0] 45)) (AnsYR ((w.alloc (.cells #[.slice a1 n1 c1, .slice a2 n2 c2] 30)).alloc (.cells #[.int .i64 0, .slice none 0 0] 45)) (bytR d xx))) := implBytU _ a1 n1 c1 a2 n2 c2 d xx (h.later (later2 _ _ _)) hs
  have hz0 : ((w.alloc (.cells #[.slice a1 n1 c1, .slice a2 n2 c2] 30)).alloc (.cells #[.int .i64 0, .slice none 0 0] 45)).heap.size = w.heap.size + 2 := by simp
  have HIF : Hid (∀ W, Calls Try.prog 72 #[.int .i64 p] W fun e w' => e = .returned (.bool (fromB p)) ∧ w' = W) := fun W => isFrom_any W p
  clear h hs
  by_cases hc : (bytR d xx).1 = 0
  rotate_left
  · rw [if_neg hc]
    have hcb : ((bytR d xx).1 != 0) = true := by simpa using hc
    have he : (bytR d xx).2 = [] := bytR_bad hc
    clear hc
    go_enter Try.func37, Try.ntmps37
    go_wp2_with fail
    generalize ((w.alloc (.cells #[.slice a1 n1 c1, .slice a2 n2 c2] 30)).alloc (.cells #[.int .i64 0, .slice none 0 0] 45)) = W0 at *
    refine HBY.out.mono ?_
    rintro e w1 ⟨ay, ny, cy, rfl, hb1, ho1⟩
    rw [he] at ho1
    have HB1 : Hid (Below w.heap.size w w1) := HB0.out.trans (hb1.mono HB0.out.size)
    have HO1 : Hid (BytO w1 (.slice ay ny cy) [] (fun b => w.heap.size ≤ b ∧ b < w1.heap.size ∧ b ≠ w.heap.size + 1)) := ho1.mono fun b hb => ⟨by have := hb.1; omega, hb.2, by have := hb.1; omega⟩
    have hrr := HRS.out.later hb1
    have t0 := hrr.cell (i := 0) (by omega)
    have t1 := hrr.cell (i := 1) (by omega)
    have s0 := hrr.frozen 0
    have s1 := hrr.frozen 1
    simp at t0 t1
    have hlw : w.heap.size + 1 < w1.heap.size := hrr.lt
    clear hb1 hrr ho1 he
    generalize (bytR d xx).1 = r at *
    go_wp2
    exact bodyPost_ret (v := .agg #[.int .i64 r, .slice ay ny cy]) (by simp [results, Try.results37, go_sem, t0, t1, hlw]) rfl ((AnsYR.boxed HB1.out (by omega) HO1.out _ _).later (later1 _ _))
  · rw [if_pos hc]
    have hcb : ((bytR d xx).1 != 0) = false := by simpa using hc
    obtain ⟨he, _⟩ := bytR_code hc
    have he2 : (bytR d xx).2 = bytL d xx.toNat := by rw [he]
    have hbl := (sound hc).bl
    clear hc he
    generalize bytL d xx.toNat = zs at *
    by_cases hq : (fromB p && (decide (0 ≤ q) && decide (q ≤ 100))) = true
    rotate_left
    · rw [if_neg hq]
      have hcase : fromB p = false ∨ (fromB p = true ∧ q < 0) ∨ (fromB p = true ∧ ¬ q < 0 ∧ 100 < q) := by
        cases hf : fromB p with
        | false => exact Or.inl rfl
        | true =>
          rw [hf] at hq
          simp at hq
          by_cases h0 : q < 0
          · exact Or.inr (Or.inl ⟨rfl, h0⟩)
          · exact Or.inr (Or.inr ⟨rfl, h0, hq (by omega)⟩)
      have step : ∀ P : Prop, (fromB p = false → P) → (fromB p = true → q < 0 → P) → (fromB p = true → ¬ q < 0 → 100 < q → P) → P := fun P f1 f2 f3 => by
        rcases hcase with h | ⟨h, h2⟩ | ⟨h, h2, h3⟩
        · exact f1 h
        · exact f2 h h2
        · exact f3 h h2 h3
      clear hcase hq
      apply step
      all_goals
        intro hfp
        intros
        clear step
        rw [hfp] at HIF
        clear hfp
        go_enter Try.func37, Try.ntmps37
        go_wp2_with fail
        generalize ((w.alloc (.cells #[.slice a1 n1 c1, .slice a2 n2 c2] 30)).alloc (.cells #[.int .i64 0, .slice none 0 0] 45)) = W0 at *
        refine HBY.out.mono ?_
        rintro e w1 ⟨ay, ny, cy, rfl, hb1, ho1⟩
        rw [he2] at ho1
        have HB1 : Hid (Below w.heap.size w w1) := HB0.out.trans (hb1.mono HB0.out.size)
        have hrr := HRS.out.later hb1
        have t0 := hrr.cell (i := 0) (by omega)
        have t1 := hrr.cell (i := 1) (by omega)
        have s0 := hrr.frozen 0
        have s1 := hrr.frozen 1
        simp at t0 t1
        have hlw : w.heap.size + 1 < w1.heap.size := hrr.lt
        clear hb1 hrr ho1 he2
        generalize (bytR d xx).1 = r at *
        go_wp2_with fail
        refine (HIF.out _).mono ?_
        rintro e w2 ⟨rfl, rfl⟩
        go_wp2
        exact bodyPost_ret (v := .agg #[.int .i64 3, .slice none 0 0]) (by simp [results, Try.results37, go_sem, t0, t1, hlw]) rfl ((AnsYR.boxed HB1.out (by omega) (Or.inl ⟨rfl, none, 0, rfl⟩) _ _).later (later1 _ _))
    · rw [if_pos hq]
      have hfp : fromB p = true := by cases hf : fromB p with
        | true => rfl
        | false => rw [hf] at hq; simp at hq
      rw [hfp] at HIF hq
      simp at hq
      obtain ⟨pn, rfl, hpn⟩ := fromB_nat hfp
      obtain ⟨qn, rfl⟩ : ∃ qn : Nat, q = (qn : Int) := ⟨q.toNat, by omega⟩
      rw [Int.toNat_natCast, Int.toNat_natCast, ← cutY_eq']
      have hqn : ¬ ((100 : Int) < (qn : Int)) := by omega
      have hqn2 : qn ≤ 100 := by omega
      obtain ⟨L, hL⟩ : ∃ L, zs.length = L := ⟨_, rfl⟩
      have HL : Hid (zs.length = L) := hL
      obtain ⟨lo, hlo⟩ : ∃ lo, min pn L = lo := ⟨_, rfl⟩
      obtain ⟨hi, hhi⟩ : ∃ hi, min (pn + qn) L = hi := ⟨_, rfl⟩
      have hm1 : min (pn : Int) (L : Int) = (lo : Int) := by omega
      have hm2 : min ((pn : Int) + (qn : Int)) (L : Int) = (hi : Int) := by omega
      rw [hL, hlo, hhi]
      have hle : lo ≤ hi := by omega
      have hhL : hi ≤ L := by omega
      have hL32 : L ≤ 32 := by omega
      clear hq hfp hlo hhi hL hbl
      go_enter Try.func37, Try.ntmps37
      go_wp2_with fail
      generalize ((w.alloc (.cells #[.slice a1 n1 c1, .slice a2 n2 c2] 30)).alloc (.cells #[.int .i64 0, .slice none 0 0] 45)) = W0 at *
      refine HBY.out.mono ?_
      rintro e w1 ⟨ay, ny, cy, rfl, hb1, ho1⟩
      rw [he2] at ho1
      have HB1 : Hid (Below w.heap.size w w1) := HB0.out.trans (hb1.mono HB0.out.size)
      have HR1 : Hid (OwnRow w1 (w.heap.size + 1) 2 (fun i => if i = 0 then .int .i64 0 else .slice none 0 0)) := HRS.out.later hb1
      obtain ⟨ay2, cy2, esh, hmc, _⟩ := ho1.reads
      simp only [Value.slice.injEq] at esh
      obtain ⟨-, eny, ecy⟩ := esh
      rw [HL.out] at eny
      have eny2 := eny.symm
      clear eny
      subst eny2
      have hcy : L ≤ cy := by have := hmc.2; have := HL.out; omega
      obtain ⟨A, C, hsl, hbyt⟩ := slice_Y ay L cy lo hi hle hhL (by omega)
      have HBT : Hid (Byt w1 (.slice A (hi - lo) C) ((zs.drop lo).take (hi - lo))) := hbyt w1 zs HL.out ho1.reads
      have HSL : Hid (∀ W : World, (Instr.sliceAt 43 (.slice ay L cy) (some (.int .i64 (lo : Int))) (some (.int .i64 (hi : Int))) none).run Try.prog W = .ok (.slice A (hi - lo) C) W) := hsl
      have hlw : w.heap.size + 1 < w1.heap.size := HR1.out.lt
      have HTL : Hid (((zs.drop lo).take (hi - lo)).length ≤ 1048576) := by unfold Hid; rw [List.length_take]; omega
      clear hb1 ho1 he2 hmc hbyt hsl ecy hcy
      generalize (bytR d xx).1 = r at *
      go_wp2_with fail
      refine (HIF.out _).mono ?_
      rintro e w2 ⟨rfl, rfl⟩
      go_wp2_with (first | refine wpList_slice_run rfl _ _ _ _ rfl _ _ _ rfl rfl rfl _ (HSL.out _) ?_ | fail)
      refine (copyOfY_any (HBT.out.later (later1 _ _)) HTL.out).mono ?_
      rintro e w3 ⟨rfl, hb3, ho3⟩
      have hb3' : Below w1.heap.size w1 w3 := (later1 _ _).trans (hb3.mono (by simp))
      have HB3 : Hid (Below w.heap.size w w3) := HB1.out.trans (hb3'.mono HB1.out.size)
      have HO3 : Hid (BytO w3 _ _ (fun b => w.heap.size ≤ b ∧ b < w3.heap.size ∧ b ≠ w.heap.size + 1)) := ho3.mono fun b hb => ⟨by have := hb.1; simp at this; omega, hb.2, by have := hb.1; simp at this; omega⟩
      have hrr := HR1.out.later hb3'
      have t0 := hrr.cell (i := 0) (by omega)
      have t1 := hrr.cell (i := 1) (by omega)
      have s0 := hrr.frozen 0
      have s1 := hrr.frozen 1
      simp at t0 t1
      clear hb3 hb3' ho3 hrr
      generalize ((zs.drop lo).take (hi - lo)) = ys at *
      generalize (w1.alloc (.cells #[.int .i64 r, .slice ay L cy] 45)).heap.size = gg at *
      go_wp2
      exact bodyPost_ret (v := .agg #[.int .i64 0, .slice (some ⟨gg, 0, none⟩) ys.length ys.length]) (by simp [results, Try.results37, go_sem, t0, t1]) rfl (AnsYR.boxed HB3.out (by omega) HO3.out _ _)
end Go.Proofs.Ytdjdkeepmmjckal

namespace Go.Proofs.Ytdjdkeepmmjckal
open Go.RowKit
set_option maxRecDepth 100000

set_option maxHeartbeats 6400000 in
theorem specReadFU (w : World) (a1 : Option Addr) (n1 c1 : Nat) (a2 : Option Addr) (n2 c2 : Nat) (d : FD) (xx p q : Int) (h : FsR w (.slice a1 n1 c1) (.slice a2 n2 c2) d) (hs : sizeFs d ≤ 1048576) :
    Calls Try.prog 36 #[.agg #[.slice a1 n1 c1, .slice a2 n2 c2], .int .i64 xx, .int .i64 p, .int .i64 q] w (AnsYR w (readFR d xx p q)) := by
  have HRR : Hid (readFR d xx p q = if (bytR d xx).1 = 0 then (if fromB p && (decide (0 ≤ q) && decide (q ≤ 100)) then (0, cutY (bytL d xx.toNat) p.toNat q.toNat) else (3, [])) else ((bytR d xx).1, [])) := rfl
  rw [HRR.out]
  clear HRR
  have HB0 : Hid (Below w.heap.size w ((w.alloc (.cells #[.slice a1 n1 c1, .slice a2 n2 c2] 30)).alloc (.cells #[.int .i64 0, .slice none 0 0] 45))) := later2 _ _ _
  have HRS : Hid (OwnRow ((w.alloc (.cells #[.slice a1 n1 c1, .slice a2 n2 c2] 30)).alloc (.cells #[.int .i64 0, .slice none 0 0] 45)) (w.heap.size + 1) 2 (fun i => if i = 0 then .int .i64 0 else .slice none 0 0)) := by
    have := box2 (w.alloc (.cells #[.slice a1 n1 c1, .slice a2 n2 c2] 30)) 45
    rw [World.size_alloc] at this
    exact this
  have HBY : Hid (Calls Try.prog 23 #[.agg #[.slice a1 n1 c1, .slice a2 n2 c2], .int .i64 xx] ((w.alloc (.cells #[.slice a1 n1 c1, .slice a2 n2 c2] 30)).alloc (.cells #[.int .i64 0, .slice none 0 0] 45)) (AnsYR ((w.alloc (.cells #[.slice a1 n1 c1, .slice a2 n2 c2] 30)).alloc (.cells #[.int .i64 0, .slice none 0 0] 45)) (bytR d xx))) := specBytU _ a1 n1 c1 a2 n2 c2 d xx (h.later (later2 _ _ _)) hs
  have hz0 : ((w.alloc (.cells #[.slice a1 n1 c1, .slice a2 n2 c2] 30)).alloc (.cells #[.int .i64 0, .slice none 0 0] 45)).heap.size = w.heap.size + 2 := by simp
  have HIF : Hid (∀ W, Calls Try.prog 70 #[.int .i64 p, .int .i64 0, .int .i64 1000] W fun e w' => e = .returned (.bool (fromB p)) ∧ w' = W) := fun W => l1In_is (by unfold fromB; simp)
  have HIQ : Hid (∀ W, Calls Try.prog 70 #[.int .i64 q, .int .i64 0, .int .i64 100] W fun e w' => e = .returned (.bool (decide (0 ≤ q) && decide (q ≤ 100))) ∧ w' = W) := fun W => l1In_is (by simp)
  clear h hs
  by_cases hc : (bytR d xx).1 = 0
  rotate_left
  · rw [if_neg hc]
    have hcb : ((bytR d xx).1 != 0) = true := by simpa using hc
    have he : (bytR d xx).2 = [] := bytR_bad hc
    clear hc
    go_enter Try.func36, Try.ntmps36
    go_wp2_with fail
    generalize ((w.alloc (.cells #[.slice a1 n1 c1, .slice a2 n2 c2] 30)).alloc (.cells #[.int .i64 0, .slice none 0 0] 45)) = W0 at *
    refine HBY.out.mono ?_
    rintro e w1 ⟨ay, ny, cy, rfl, hb1, ho1⟩
    rw [he] at ho1
    have HB1 : Hid (Below w.heap.size w w1) := HB0.out.trans (hb1.mono HB0.out.size)
    have HO1 : Hid (BytO w1 (.slice ay ny cy) [] (fun b => w.heap.size ≤ b ∧ b < w1.heap.size ∧ b ≠ w.heap.size + 1)) := ho1.mono fun b hb => ⟨by have := hb.1; omega, hb.2, by have := hb.1; omega⟩
    have hrr := HRS.out.later hb1
    have t0 := hrr.cell (i := 0) (by omega)
    have t1 := hrr.cell (i := 1) (by omega)
    have s0 := hrr.frozen 0
    have s1 := hrr.frozen 1
    simp at t0 t1
    have hlw : w.heap.size + 1 < w1.heap.size := hrr.lt
    clear hb1 hrr ho1 he
    generalize (bytR d xx).1 = r at *
    go_wp2
    exact bodyPost_ret (v := .agg #[.int .i64 r, .slice ay ny cy]) (by simp [results, Try.results36, go_sem, t0, t1, hlw]) rfl ((AnsYR.boxed HB1.out (by omega) HO1.out _ _).later (later1 _ _))
  · rw [if_pos hc]
    have hcb : ((bytR d xx).1 != 0) = false := by simpa using hc
    obtain ⟨he, _⟩ := bytR_code hc
    have he2 : (bytR d xx).2 = bytL d xx.toNat := by rw [he]
    have hbl := (sound hc).bl
    clear hc he
    generalize bytL d xx.toNat = zs at *
    by_cases hq : (fromB p && (decide (0 ≤ q) && decide (q ≤ 100))) = true
    rotate_left
    · rw [if_neg hq]
      have hcase : fromB p = false ∨ (fromB p = true ∧ (decide (0 ≤ q) && decide (q ≤ 100)) = false) := by
        cases hf : fromB p with
        | false => exact Or.inl rfl
        | true =>
          rw [hf] at hq
          exact Or.inr ⟨rfl, by simpa using hq⟩
      rcases hcase with hfp | ⟨hfp, hqq⟩
      · rw [hfp] at HIF
        clear hfp hq
        go_enter Try.func36, Try.ntmps36
        go_wp2_with fail
        generalize ((w.alloc (.cells #[.slice a1 n1 c1, .slice a2 n2 c2] 30)).alloc (.cells #[.int .i64 0, .slice none 0 0] 45)) = W0 at *
        refine HBY.out.mono ?_
        rintro e w1 ⟨ay, ny, cy, rfl, hb1, ho1⟩
        have HB1 : Hid (Below w.heap.size w w1) := HB0.out.trans (hb1.mono HB0.out.size)
        have hrr := HRS.out.later hb1
        have t0 := hrr.cell (i := 0) (by omega)
        have t1 := hrr.cell (i := 1) (by omega)
        have s0 := hrr.frozen 0
        have s1 := hrr.frozen 1
        simp at t0 t1
        have hlw : w.heap.size + 1 < w1.heap.size := hrr.lt
        clear hb1 hrr ho1 he2
        generalize (bytR d xx).1 = r at *
        go_wp2_with fail
        refine (HIF.out _).mono ?_
        rintro e w2 ⟨rfl, rfl⟩
        go_wp2
        exact bodyPost_ret (v := .agg #[.int .i64 3, .slice none 0 0]) (by simp [results, Try.results36, go_sem, t0, t1, hlw]) rfl ((AnsYR.boxed HB1.out (by omega) (Or.inl ⟨rfl, none, 0, rfl⟩) _ _).later (later1 _ _))
      · rw [hfp] at HIF
        rw [hqq] at HIQ
        clear hfp hq hqq
        go_enter Try.func36, Try.ntmps36
        go_wp2_with fail
        generalize ((w.alloc (.cells #[.slice a1 n1 c1, .slice a2 n2 c2] 30)).alloc (.cells #[.int .i64 0, .slice none 0 0] 45)) = W0 at *
        refine HBY.out.mono ?_
        rintro e w1 ⟨ay, ny, cy, rfl, hb1, ho1⟩
        have HB1 : Hid (Below w.heap.size w w1) := HB0.out.trans (hb1.mono HB0.out.size)
        have hrr := HRS.out.later hb1
        have t0 := hrr.cell (i := 0) (by omega)
        have t1 := hrr.cell (i := 1) (by omega)
        have s0 := hrr.frozen 0
        have s1 := hrr.frozen 1
        simp at t0 t1
        have hlw : w.heap.size + 1 < w1.heap.size := hrr.lt
        clear hb1 hrr ho1 he2
        generalize (bytR d xx).1 = r at *
        go_wp2_with fail
        refine (HIF.out _).mono ?_
        rintro e w2 ⟨rfl, rfl⟩
        go_wp2_with fail
        refine (HIQ.out _).mono ?_
        rintro e w2 ⟨rfl, rfl⟩
        go_wp2
        exact bodyPost_ret (v := .agg #[.int .i64 3, .slice none 0 0]) (by simp [results, Try.results36, go_sem, t0, t1, hlw]) rfl ((AnsYR.boxed HB1.out (by omega) (Or.inl ⟨rfl, none, 0, rfl⟩) _ _).later (later1 _ _))
    · rw [if_pos hq]
      have hfp : fromB p = true := by cases hf : fromB p with
        | true => rfl
        | false => rw [hf] at hq; simp at hq
      have hqq : (decide (0 ≤ q) && decide (q ≤ 100)) = true := by rw [hfp] at hq; simpa using hq
      rw [hfp] at HIF hq
      rw [hqq] at HIQ
      clear hqq
      simp at hq
      obtain ⟨pn, rfl, hpn⟩ := fromB_nat hfp
      obtain ⟨qn, rfl⟩ : ∃ qn : Nat, q = (qn : Int) := ⟨q.toNat, by omega⟩
      rw [Int.toNat_natCast, Int.toNat_natCast, ← cutY_eq]
      have hqn : ¬ ((100 : Int) < (qn : Int)) := by omega
      have hqn2 : qn ≤ 100 := by omega
      obtain ⟨L, hL⟩ : ∃ L, zs.length = L := ⟨_, rfl⟩
      have HL : Hid (zs.length = L) := hL
      obtain ⟨lo, hlo⟩ : ∃ lo, min pn L = lo := ⟨_, rfl⟩
      obtain ⟨hi, hhi⟩ : ∃ hi, min L (lo + qn) = hi := ⟨_, rfl⟩
      have HM1 : Hid (∀ W, Calls Try.prog 71 #[.int .i64 (pn : Int), .int .i64 (L : Int)] W fun e w' => e = .returned (.int .i64 (lo : Int)) ∧ w' = W) := fun W => l1Min_nat W _ _ lo (by omega)
      have HM2 : Hid (∀ W, Calls Try.prog 71 #[.int .i64 (L : Int), .int .i64 (IntKind.i64.wrap ((lo : Int) + (qn : Int)))] W fun e w' => e = .returned (.int .i64 (hi : Int)) ∧ w' = W) := fun W => by
        rw [show IntKind.i64.wrap ((lo : Int) + (qn : Int)) = (lo : Int) + (qn : Int) by rw [IntKind.wrap_i64]; omega]
        exact l1Min_nat W _ _ hi (by omega)
      have hlo1 : lo ≤ 1000 := by omega
      rw [hL, hlo, hhi]
      have hle : lo ≤ hi := by omega
      have hhL : hi ≤ L := by omega
      have hL32 : L ≤ 32 := by omega
      clear hq hfp hlo hhi hL hbl
      go_enter Try.func36, Try.ntmps36
      go_wp2_with fail
      generalize ((w.alloc (.cells #[.slice a1 n1 c1, .slice a2 n2 c2] 30)).alloc (.cells #[.int .i64 0, .slice none 0 0] 45)) = W0 at *
      refine HBY.out.mono ?_
      rintro e w1 ⟨ay, ny, cy, rfl, hb1, ho1⟩
      rw [he2] at ho1
      have HB1 : Hid (Below w.heap.size w w1) := HB0.out.trans (hb1.mono HB0.out.size)
      have HR1 : Hid (OwnRow w1 (w.heap.size + 1) 2 (fun i => if i = 0 then .int .i64 0 else .slice none 0 0)) := HRS.out.later hb1
      obtain ⟨ay2, cy2, esh, hmc, _⟩ := ho1.reads
      simp only [Value.slice.injEq] at esh
      obtain ⟨-, eny, ecy⟩ := esh
      rw [HL.out] at eny
      have eny2 := eny.symm
      clear eny
      subst eny2
      have hcy : L ≤ cy := by have := hmc.2; have := HL.out; omega
      have HBT : Hid (Byt w1 (.slice (cutA ay cy lo) (hi - lo) (cy - lo)) ((zs.drop lo).take (hi - lo))) := cut_Y hhL hcy HL.out ho1.reads
      have hhc : hi ≤ cy := by omega
      have hlw : w.heap.size + 1 < w1.heap.size := HR1.out.lt
      have HTL : Hid (((zs.drop lo).take (hi - lo)).length ≤ 1048576) := by unfold Hid; rw [List.length_take]; omega
      clear hb1 ho1 he2 hmc ecy hcy
      generalize (bytR d xx).1 = r at *
      have x1 : (w1.alloc (.cells #[.int .i64 r, .slice ay L cy] 45)).cell? ⟨w1.heap.size, 1, none⟩ = some (.slice ay L cy) := by rw [new_cell]; rfl
      obtain ⟨v', X, hr, hwx, hbx⟩ := append_y ((w1.alloc (.cells #[.int .i64 r, .slice ay L cy] 45)).drew.alloc (.cells #[] 5)) (w1.heap.size + 1) (.slice (some ⟨w1.heap.size + 1, 0, none⟩) 0 0) [] ((zs.drop lo).take (hi - lo)) (cutA ay cy lo) (hi - lo) (cy - lo) (by
          have := WdY.lit0 (w1.alloc (.cells #[.int .i64 r, .slice ay L cy] 45)).drew (w1.heap.size + 1) (by simp)
          simpa using this) (by simp) (by simp) HTL.out (HBT.out.later ((later1 _ _).drew.trans ((later1 _ _).mono (by simp))))
      rw [List.nil_append] at hwx
      obtain ⟨av, cv, rfl⟩ := hwx.shape
      unfold cutA at hr
      have HR : Hid (_ = _) := hr
      have hbx' : Below (w1.heap.size + 1) (w1.alloc (.cells #[.int .i64 r, .slice ay L cy] 45)) X := by
        have := (later1 (w1.alloc (.cells #[.int .i64 r, .slice ay L cy] 45)).drew (.cells #[] 5))
        exact (Below.refl _ _).drew.trans ((by simpa using this : Below (w1.heap.size + 1) _ _).trans hbx)
      have hb3' : Below w1.heap.size w1 X := (later1 _ _).trans (hbx'.mono (by omega))
      have HB3 : Hid (Below w.heap.size w X) := HB1.out.trans (hb3'.mono HB1.out.size)
      have HO3 : Hid (BytO X (.slice av ((zs.drop lo).take (hi - lo)).length cv) ((zs.drop lo).take (hi - lo)) (fun b => w.heap.size ≤ b ∧ b < X.heap.size ∧ b ≠ w.heap.size + 1)) := (hwx.own (w0 := w1.alloc (.cells #[.int .i64 r, .slice ay L cy] 45)) (by simp)).mono fun b hb => ⟨by have := hb.1; simp at this; omega, hb.2, by have := hb.1; simp at this; omega⟩
      have hrr := HR1.out.later hb3'
      have t0 := hrr.cell (i := 0) (by omega)
      have t1 := hrr.cell (i := 1) (by omega)
      have s0 := hrr.frozen 0
      have s1 := hrr.frozen 1
      simp at t0 t1
      have HTT : Hid (((zs.drop lo).take (hi - lo)).length = hi - lo) := by unfold Hid; rw [List.length_take, List.length_drop, HL.out]; omega
      rw [HTT.out] at HR HO3
      clear hr hwx hbx hbx' hb3' hrr HTL HBT
      generalize ((zs.drop lo).take (hi - lo)) = ys at *
      go_wp2_with fail
      refine (HIF.out _).mono ?_
      rintro e w2 ⟨rfl, rfl⟩
      go_wp2_with fail
      refine (HIQ.out _).mono ?_
      rintro e w2 ⟨rfl, rfl⟩
      go_wp2_with fail
      refine (HM1.out _).mono ?_
      rintro e w2 ⟨rfl, rfl⟩
      go_wp2_with fail
      go_region_law (first
        | (refine step_append_run rfl _ _ 43 rfl _ _ rfl rfl _ _ HR.out ?_)
        | (try go_simp; go_at_call 71; refine (HM2.out _).mono ?_; rintro e w2 ⟨rfl, rfl⟩))
      all_goals
        go_wp2
        all_goals
          exact bodyPost_ret (v := .agg #[.int .i64 0, .slice av (hi - lo) cv]) (by simp [results, Try.results36, go_sem, t0, t1]) rfl (AnsYR.boxed HB3.out (by omega) HO3.out _ _)
end Go.Proofs.Ytdjdkeepmmjckal

namespace Go.Proofs.Ytdjdkeepmmjckal
open Go.RowKit
set_option maxRecDepth 100000

set_option maxHeartbeats 1600000 in
theorem lawReadFile_big (w : World) (a0x0 : Option Addr) (n0x0 c0x0 : Nat) (a1x0 : Option Addr) (n1x0 c1x0 : Nat) (dx0 : FD) (x1 : Int) (x2 : Int) (x3 : Int) (hx0 : FsR w (.slice a0x0 n0x0 c0x0) (.slice a1x0 n1x0 c1x0) dx0) (hsz : 1048576 < sizeFs dx0) :
    Calls Try.prog 8 #[.agg #[.slice a0x0 n0x0 c0x0, .slice a1x0 n1x0 c1x0], .int .i64 x1, .int .i64 x2, .int .i64 x3] w fun e w' => e = .returned (.bool true) ∧ Below w.heap.size w w' := by
  have Hx0 : Hid (FsR w (.slice a0x0 n0x0 c0x0) (.slice a1x0 n1x0 c1x0) dx0) := hx0
  have HS : Hid (szf 1048576 (sizeFs dx0) = -1) := szf_no (by omega)
  clear hx0 hsz
  go_enter Try.func8, Try.ntmps8
  go_wp2_with fail
  refine (szFsU _ _ _ _ _ _ _ dx0 (Hx0.out.later (later1 _ _)) 1048576 (by omega) (by omega)).mono ?_
  rw [HS.out]
  rintro e w1 ⟨rfl, hb1⟩
  have HBw1 : Hid (Below w.heap.size w w1) := (later1 _ _).trans (hb1.mono (by simp))
  clear hb1
  go_wp2
  go_ret
  exact ⟨rfl, HBw1.out⟩

set_option maxHeartbeats 12800000 in
theorem lawReadFile_small (w : World) (a0x0 : Option Addr) (n0x0 c0x0 : Nat) (a1x0 : Option Addr) (n1x0 c1x0 : Nat) (dx0 : FD) (x1 : Int) (x2 : Int) (x3 : Int) (hx0 : FsR w (.slice a0x0 n0x0 c0x0) (.slice a1x0 n1x0 c1x0) dx0) (sx0 : sizeFs dx0 ≤ 1048576) :
    Calls Try.prog 8 #[.agg #[.slice a0x0 n0x0 c0x0, .slice a1x0 n1x0 c1x0], .int .i64 x1, .int .i64 x2, .int .i64 x3] w fun e w' => e = .returned (.bool true) ∧ Below w.heap.size w w' := by
  have Hx0 : Hid (FsR w (.slice a0x0 n0x0 c0x0) (.slice a1x0 n1x0 c1x0) dx0) := hx0
  have Sx0 : Hid (sizeFs dx0 ≤ 1048576) := sx0
  have HSx0 : Hid (szf 1048576 (sizeFs dx0) = 1048576 - (sizeFs dx0 : Nat)) := szf_yes (by omega)
  have hposx0 : ¬ (1048576 - ((sizeFs dx0 : Nat) : Int) < 0) := by omega
  have hspx0 : ((spanFs dx0 : Nat) : Int) ≤ 4194304 := by have := spanFs_le dx0; omega
  generalize hr : readFR dx0 x1 x2 x3 = r at *
  have HR : Hid (readFR dx0 x1 x2 x3 = r) := hr
  obtain ⟨code, d2⟩ := r
  have hspr : ((List.length d2 : Nat) : Int) ≤ 100000000 := by have := readFR_len dx0 x1 x2 x3; rw [hr] at this; dsimp only at this; omega
  clear hr hx0 sx0
  go_enter Try.func8, Try.ntmps8
  go_wp2_with fail
  refine (szFsU _ _ _ _ _ _ _ dx0 (Hx0.out.later (later1 _ _)) 1048576 (by omega) (by omega)).mono ?_
  rw [HSx0.out]
  rintro e w1 ⟨rfl, hb⟩
  have HL_w1 : Hid (Below w.heap.size w w1) := (later1 _ _).trans (hb.mono (by simp))
  have HB_w1 : Hid (Below w.heap.size w w1) := HL_w1.out
  have z_w1 : w.heap.size ≤ w1.heap.size := HL_w1.out.size
  have Bx0_w1 : Hid (Bx w1 w.heap.size [.slice a0x0 n0x0 c0x0, .slice a1x0 n1x0 c1x0]) := (Bx.new _ [.slice a0x0 n0x0 c0x0, .slice a1x0 n1x0 c1x0] _).later hb
  have y_Bx0 : w.heap.size < w1.heap.size := Bx0_w1.out.lt
  clear HL_w1
  clear hb
  have qBx00 := Bx0_w1.out 0 _ rfl
  have qBx01 := Bx0_w1.out 1 _ rfl
  have tBx0 := Bx0_w1.out.lt
  go_wp2_with fail
  clear qBx00 qBx01 tBx0
  refine (toFsU _ _ _ _ _ _ _ dx0 (Hx0.out.later HB_w1.out) Sx0.out).mono ?_
  rintro e w2 ⟨a0x0s, n0x0s, c0x0s, a1x0s, n1x0s, c1x0s, rfl, hb, ho⟩
  have HL_w2 : Hid (Below w1.heap.size w1 w2) := hb
  have HB_w2 : Hid (Below w.heap.size w w2) := HB_w1.out.trans (HL_w2.out.mono HB_w1.out.size)
  have z_w2 : w1.heap.size ≤ w2.heap.size := HL_w2.out.size
  have Bx0_w2 : Hid (Bx w2 w.heap.size [.slice a0x0 n0x0 c0x0, .slice a1x0 n1x0 c1x0]) := Bx0_w1.out.later HL_w2.out
  have Tx0_w2 : Hid (FsU w2 (.slice a0x0s n0x0s c0x0s) (.slice a1x0s n1x0s c1x0s) dx0 (fun b => w1.heap.size ≤ b ∧ b < w2.heap.size)) := ho
  clear Bx0_w1 HB_w1 HL_w2
  clear hb ho
  have qBx00 := Bx0_w2.out 0 _ rfl
  have qBx01 := Bx0_w2.out 1 _ rfl
  have tBx0 := Bx0_w2.out.lt
  go_wp2_with fail
  clear qBx00 qBx01 tBx0
  refine (specReadFU _ _ _ _ _ _ _ dx0 x1 x2 x3 Tx0_w2.out.reads Sx0.out).mono ?_
  rw [HR.out]
  rintro e w3 ⟨a0sw, n0sw, c0sw, rfl, hb, ho⟩
  have HL_w3 : Hid (Below w2.heap.size w2 w3) := hb
  have HB_w3 : Hid (Below w.heap.size w w3) := HB_w2.out.trans (HL_w3.out.mono HB_w2.out.size)
  have z_w3 : w2.heap.size ≤ w3.heap.size := HL_w3.out.size
  have Bx0_w3 : Hid (Bx w3 w.heap.size [.slice a0x0 n0x0 c0x0, .slice a1x0 n1x0 c1x0]) := Bx0_w2.out.later HL_w3.out
  have Dw_w3 : Hid (BytO w3 (.slice a0sw n0sw c0sw) d2 (fun b => w2.heap.size ≤ b ∧ b < w3.heap.size)) := ho
  clear Bx0_w2 Tx0_w2 HB_w2 HL_w3
  clear hb ho
  have qBx00 := Bx0_w3.out 0 _ rfl
  have qBx01 := Bx0_w3.out 1 _ rfl
  have tBx0 := Bx0_w3.out.lt
  go_wp2_with fail
  clear qBx00 qBx01 tBx0
  refine (toFsU _ _ _ _ _ _ _ dx0 ((Hx0.out.later HB_w3.out).later (later1 _ _)) Sx0.out).mono ?_
  rintro e w4 ⟨a0x0p, n0x0p, c0x0p, a1x0p, n1x0p, c1x0p, rfl, hb, ho⟩
  have HL_w4 : Hid (Below w3.heap.size w3 w4) := (later1 _ _).trans (hb.mono (by simp))
  have HB_w4 : Hid (Below w.heap.size w w4) := HB_w3.out.trans (HL_w4.out.mono HB_w3.out.size)
  have z_w4 : w3.heap.size ≤ w4.heap.size := HL_w4.out.size
  have Bx0_w4 : Hid (Bx w4 w.heap.size [.slice a0x0 n0x0 c0x0, .slice a1x0 n1x0 c1x0]) := Bx0_w3.out.later HL_w4.out
  have Dw_w4 : Hid (BytO w4 (.slice a0sw n0sw c0sw) d2 (fun b => w2.heap.size ≤ b ∧ b < w3.heap.size)) := Dw_w3.out.later HL_w4.out
  have Bw_w4 : Hid (Bx w4 w3.heap.size [.int .i64 code, .slice a0sw n0sw c0sw]) := (Bx.new _ [.int .i64 code, .slice a0sw n0sw c0sw] _).later hb
  have y_Bw : w3.heap.size < w4.heap.size := Bw_w4.out.lt
  have Px0_w4 : Hid (FsU w4 (.slice a0x0p n0x0p c0x0p) (.slice a1x0p n1x0p c1x0p) dx0 (fun b => w3.heap.size < b ∧ b < w4.heap.size)) := ho.mono fun b hb => ⟨by have := hb.1; simp at this; omega, hb.2⟩
  clear Bx0_w3 Dw_w3 HB_w3 HL_w4
  clear hb ho
  have qBx00 := Bx0_w4.out 0 _ rfl
  have qBx01 := Bx0_w4.out 1 _ rfl
  have tBx0 := Bx0_w4.out.lt
  have qBw0 := Bw_w4.out 0 _ rfl
  have qBw1 := Bw_w4.out 1 _ rfl
  have tBw := Bw_w4.out.lt
  go_wp2_with fail
  clear qBx00 qBx01 tBx0 qBw0 qBw1 tBw
  refine (implReadFU _ _ _ _ _ _ _ dx0 x1 x2 x3 (Px0_w4.out.later (later1 _ _)).reads Sx0.out).mono ?_
  rw [HR.out]
  rintro e w5 ⟨a0sg, n0sg, c0sg, rfl, hb, ho⟩
  have HL_w5 : Hid (Below w4.heap.size w4 w5) := (later1 _ _).trans (hb.mono (by simp))
  have HB_w5 : Hid (Below w.heap.size w w5) := HB_w4.out.trans (HL_w5.out.mono HB_w4.out.size)
  have z_w5 : w4.heap.size ≤ w5.heap.size := HL_w5.out.size
  have Bx0_w5 : Hid (Bx w5 w.heap.size [.slice a0x0 n0x0 c0x0, .slice a1x0 n1x0 c1x0]) := Bx0_w4.out.later HL_w5.out
  have Dw_w5 : Hid (BytO w5 (.slice a0sw n0sw c0sw) d2 (fun b => w2.heap.size ≤ b ∧ b < w3.heap.size)) := Dw_w4.out.later HL_w5.out
  have Bw_w5 : Hid (Bx w5 w3.heap.size [.int .i64 code, .slice a0sw n0sw c0sw]) := Bw_w4.out.later HL_w5.out
  have Px0_w5 : Hid (FsU w5 (.slice a0x0p n0x0p c0x0p) (.slice a1x0p n1x0p c1x0p) dx0 (fun b => w3.heap.size < b ∧ b < w4.heap.size)) := Px0_w4.out.later HL_w5.out
  have Xx0_w5 : Hid (Bx w5 w4.heap.size [.slice a0x0p n0x0p c0x0p, .slice a1x0p n1x0p c1x0p]) := (Bx.new _ [.slice a0x0p n0x0p c0x0p, .slice a1x0p n1x0p c1x0p] _).later hb
  have y_Xx0 : w4.heap.size < w5.heap.size := Xx0_w5.out.lt
  have Dg_w5 : Hid (BytO w5 (.slice a0sg n0sg c0sg) d2 (fun b => w4.heap.size < b ∧ b < w5.heap.size)) := ho.mono fun b hb => ⟨by have := hb.1; simp at this; omega, hb.2⟩
  clear Bx0_w4 Dw_w4 Bw_w4 Px0_w4 HB_w4 HL_w5
  clear hb ho
  have qBx00 := Bx0_w5.out 0 _ rfl
  have qBx01 := Bx0_w5.out 1 _ rfl
  have tBx0 := Bx0_w5.out.lt
  have qBw0 := Bw_w5.out 0 _ rfl
  have qBw1 := Bw_w5.out 1 _ rfl
  have tBw := Bw_w5.out.lt
  have qXx00 := Xx0_w5.out 0 _ rfl
  have qXx01 := Xx0_w5.out 1 _ rfl
  have tXx0 := Xx0_w5.out.lt
  go_wp2_with fail
  clear qBx00 qBx01 tBx0 qBw0 qBw1 tBw qXx00 qXx01 tXx0
  refine (eqBytesResultU _ code _ _ d2 (Dg_w5.out.later (later1 _ _)).reads (Dw_w5.out.later (later1 _ _)).reads).mono ?_
  rintro e w6 ⟨rfl, hb⟩
  have HL_w6 : Hid (Below w5.heap.size w5 w6) := (later1 _ _).trans (hb.mono (by simp))
  have HB_w6 : Hid (Below w.heap.size w w6) := HB_w5.out.trans (HL_w6.out.mono HB_w5.out.size)
  have z_w6 : w5.heap.size ≤ w6.heap.size := HL_w6.out.size
  have Bx0_w6 : Hid (Bx w6 w.heap.size [.slice a0x0 n0x0 c0x0, .slice a1x0 n1x0 c1x0]) := Bx0_w5.out.later HL_w6.out
  have Dw_w6 : Hid (BytO w6 (.slice a0sw n0sw c0sw) d2 (fun b => w2.heap.size ≤ b ∧ b < w3.heap.size)) := Dw_w5.out.later HL_w6.out
  have Bw_w6 : Hid (Bx w6 w3.heap.size [.int .i64 code, .slice a0sw n0sw c0sw]) := Bw_w5.out.later HL_w6.out
  have Px0_w6 : Hid (FsU w6 (.slice a0x0p n0x0p c0x0p) (.slice a1x0p n1x0p c1x0p) dx0 (fun b => w3.heap.size < b ∧ b < w4.heap.size)) := Px0_w5.out.later HL_w6.out
  have Xx0_w6 : Hid (Bx w6 w4.heap.size [.slice a0x0p n0x0p c0x0p, .slice a1x0p n1x0p c1x0p]) := Xx0_w5.out.later HL_w6.out
  have Dg_w6 : Hid (BytO w6 (.slice a0sg n0sg c0sg) d2 (fun b => w4.heap.size < b ∧ b < w5.heap.size)) := Dg_w5.out.later HL_w6.out
  have Bg_w6 : Hid (Bx w6 w5.heap.size [.int .i64 code, .slice a0sg n0sg c0sg]) := (Bx.new _ [.int .i64 code, .slice a0sg n0sg c0sg] _).later hb
  have y_Bg : w5.heap.size < w6.heap.size := Bg_w6.out.lt
  clear Bx0_w5 Dw_w5 Bw_w5 Px0_w5 Xx0_w5 Dg_w5 HB_w5 HL_w6
  clear hb
  have qBx00 := Bx0_w6.out 0 _ rfl
  have qBx01 := Bx0_w6.out 1 _ rfl
  have tBx0 := Bx0_w6.out.lt
  have qBw0 := Bw_w6.out 0 _ rfl
  have qBw1 := Bw_w6.out 1 _ rfl
  have tBw := Bw_w6.out.lt
  have qXx00 := Xx0_w6.out 0 _ rfl
  have qXx01 := Xx0_w6.out 1 _ rfl
  have tXx0 := Xx0_w6.out.lt
  have qBg0 := Bg_w6.out 0 _ rfl
  have qBg1 := Bg_w6.out 1 _ rfl
  have tBg := Bg_w6.out.lt
  go_wp2_with fail
  go_region_with (first
    | (go_at_call 11; refine (toFsU _ _ _ _ _ _ _ dx0 ?_ Sx0.out).mono ?_; exact Hx0.out.later HB_w6.out.drew; rintro e w7 ⟨a0x0q, n0x0q, c0x0q, a1x0q, n1x0q, c1x0q, rfl, hb, ho⟩; have y0 := cell_later hb qXx00; have y1 := cell_later hb qXx01; have HL : Hid (Below w6.heap.size w6 w7) := (Below.refl _ _).drew.trans hb; have HO : Hid (FsR w7 (.slice a0x0q n0x0q c0x0q) (.slice a1x0q n1x0q c1x0q) dx0) := ho.reads; clear hb ho)
    | (go_at_call 13; refine (eqFsU _ _ _ _ _ dx0 ?_ ?_).mono ?_; exact Px0_w6.out.reads.later HL.out; exact HO.out; rintro e w8 ⟨rfl, hb⟩; have HL2 : Hid (Below w7.heap.size w7 w8) := hb; clear hb))
  all_goals
    have hb : Below w6.heap.size w6 w8 := HL.out.trans (HL2.out.mono HL.out.size)
    clear qBx00 qBx01 tBx0 qBw0 qBw1 tBw qXx00 qXx01 tXx0 qBg0 qBg1 tBg HL HL2 HO y0 y1
    have HL_w8 : Hid (Below w6.heap.size w6 w8) := hb
    have HB_w8 : Hid (Below w.heap.size w w8) := HB_w6.out.trans (HL_w8.out.mono HB_w6.out.size)
    have z_w8 : w6.heap.size ≤ w8.heap.size := HL_w8.out.size
    have Bx0_w8 : Hid (Bx w8 w.heap.size [.slice a0x0 n0x0 c0x0, .slice a1x0 n1x0 c1x0]) := Bx0_w6.out.later HL_w8.out
    have Dw_w8 : Hid (BytO w8 (.slice a0sw n0sw c0sw) d2 (fun b => w2.heap.size ≤ b ∧ b < w3.heap.size)) := Dw_w6.out.later HL_w8.out
    have Bw_w8 : Hid (Bx w8 w3.heap.size [.int .i64 code, .slice a0sw n0sw c0sw]) := Bw_w6.out.later HL_w8.out
    have Px0_w8 : Hid (FsU w8 (.slice a0x0p n0x0p c0x0p) (.slice a1x0p n1x0p c1x0p) dx0 (fun b => w3.heap.size < b ∧ b < w4.heap.size)) := Px0_w6.out.later HL_w8.out
    have Xx0_w8 : Hid (Bx w8 w4.heap.size [.slice a0x0p n0x0p c0x0p, .slice a1x0p n1x0p c1x0p]) := Xx0_w6.out.later HL_w8.out
    have Dg_w8 : Hid (BytO w8 (.slice a0sg n0sg c0sg) d2 (fun b => w4.heap.size < b ∧ b < w5.heap.size)) := Dg_w6.out.later HL_w8.out
    have Bg_w8 : Hid (Bx w8 w5.heap.size [.int .i64 code, .slice a0sg n0sg c0sg]) := Bg_w6.out.later HL_w8.out
    clear Bx0_w6 Dw_w6 Bw_w6 Px0_w6 Xx0_w6 Dg_w6 Bg_w6 HB_w6 HL_w8
    clear hb
    have qBx00 := Bx0_w8.out 0 _ rfl
    have qBx01 := Bx0_w8.out 1 _ rfl
    have tBx0 := Bx0_w8.out.lt
    have qBw0 := Bw_w8.out 0 _ rfl
    have qBw1 := Bw_w8.out 1 _ rfl
    have tBw := Bw_w8.out.lt
    have qXx00 := Xx0_w8.out 0 _ rfl
    have qXx01 := Xx0_w8.out 1 _ rfl
    have tXx0 := Xx0_w8.out.lt
    have qBg0 := Bg_w8.out 0 _ rfl
    have qBg1 := Bg_w8.out 1 _ rfl
    have tBg := Bg_w8.out.lt
    go_wp2_with fail
    clear qBx00 qBx01 tBx0 qBw0 qBw1 tBw qXx00 qXx01 tXx0 qBg0 qBg1 tBg
    refine (markFsU _ _ _ dx0 _ _ Px0_w8.out (by omega) (by omega)).mono ?_
    rintro e w9 ⟨rfl, hc⟩
    have HB_w9 : Hid (Below w.heap.size w w9) := HB_w8.out.trans (hc.below HB_w8.out.size (fun b h => by have := HB_w8.out.size; omega))
    have z_w9 : w8.heap.size ≤ w9.heap.size := hc.size
    have Bx0_w9 : Hid (Bx w9 w.heap.size [.slice a0x0 n0x0 c0x0, .slice a1x0 n1x0 c1x0]) := Bx0_w8.out.chg hc (by omega)
    have Dw_w9 : Hid (BytO w9 (.slice a0sw n0sw c0sw) d2 (fun b => w2.heap.size ≤ b ∧ b < w3.heap.size)) := Dw_w8.out.chg hc (fun b h h' => by omega)
    have Bw_w9 : Hid (Bx w9 w3.heap.size [.int .i64 code, .slice a0sw n0sw c0sw]) := Bw_w8.out.chg hc (by omega)
    have Xx0_w9 : Hid (Bx w9 w4.heap.size [.slice a0x0p n0x0p c0x0p, .slice a1x0p n1x0p c1x0p]) := Xx0_w8.out.chg hc (by omega)
    have Dg_w9 : Hid (BytO w9 (.slice a0sg n0sg c0sg) d2 (fun b => w4.heap.size < b ∧ b < w5.heap.size)) := Dg_w8.out.chg hc (fun b h h' => by omega)
    have Bg_w9 : Hid (Bx w9 w5.heap.size [.int .i64 code, .slice a0sg n0sg c0sg]) := Bg_w8.out.chg hc (by omega)
    clear HB_w8 Bx0_w8 Dw_w8 Bw_w8 Px0_w8 Xx0_w8 Dg_w8 Bg_w8
    clear hc
    have hk : decide ((1 + (spanFs dx0 : Nat) : Int) < 0) = false := by simp; omega
    have qBx00 := Bx0_w9.out 0 _ rfl
    have qBx01 := Bx0_w9.out 1 _ rfl
    have tBx0 := Bx0_w9.out.lt
    have qBw0 := Bw_w9.out 0 _ rfl
    have qBw1 := Bw_w9.out 1 _ rfl
    have tBw := Bw_w9.out.lt
    have qXx00 := Xx0_w9.out 0 _ rfl
    have qXx01 := Xx0_w9.out 1 _ rfl
    have tXx0 := Xx0_w9.out.lt
    have qBg0 := Bg_w9.out 0 _ rfl
    have qBg1 := Bg_w9.out 1 _ rfl
    have tBg := Bg_w9.out.lt
    go_wp2_with fail
    clear qBx00 qBx01 tBx0 qBw0 qBw1 tBw qXx00 qXx01 tXx0 qBg0 qBg1 tBg
    refine (eqBytesResultU _ code _ _ d2 Dg_w9.out.reads Dw_w9.out.reads).mono ?_
    rintro e w10 ⟨rfl, hb⟩
    have HL_w10 : Hid (Below w9.heap.size w9 w10) := hb
    have HB_w10 : Hid (Below w.heap.size w w10) := HB_w9.out.trans (HL_w10.out.mono HB_w9.out.size)
    have z_w10 : w9.heap.size ≤ w10.heap.size := HL_w10.out.size
    have Bx0_w10 : Hid (Bx w10 w.heap.size [.slice a0x0 n0x0 c0x0, .slice a1x0 n1x0 c1x0]) := Bx0_w9.out.later HL_w10.out
    have Dw_w10 : Hid (BytO w10 (.slice a0sw n0sw c0sw) d2 (fun b => w2.heap.size ≤ b ∧ b < w3.heap.size)) := Dw_w9.out.later HL_w10.out
    have Bw_w10 : Hid (Bx w10 w3.heap.size [.int .i64 code, .slice a0sw n0sw c0sw]) := Bw_w9.out.later HL_w10.out
    have Xx0_w10 : Hid (Bx w10 w4.heap.size [.slice a0x0p n0x0p c0x0p, .slice a1x0p n1x0p c1x0p]) := Xx0_w9.out.later HL_w10.out
    have Dg_w10 : Hid (BytO w10 (.slice a0sg n0sg c0sg) d2 (fun b => w4.heap.size < b ∧ b < w5.heap.size)) := Dg_w9.out.later HL_w10.out
    have Bg_w10 : Hid (Bx w10 w5.heap.size [.int .i64 code, .slice a0sg n0sg c0sg]) := Bg_w9.out.later HL_w10.out
    clear Bx0_w9 Dw_w9 Bw_w9 Xx0_w9 Dg_w9 Bg_w9 HB_w9 HL_w10
    clear hb
    have qBx00 := Bx0_w10.out 0 _ rfl
    have qBx01 := Bx0_w10.out 1 _ rfl
    have tBx0 := Bx0_w10.out.lt
    have qBw0 := Bw_w10.out 0 _ rfl
    have qBw1 := Bw_w10.out 1 _ rfl
    have tBw := Bw_w10.out.lt
    have qXx00 := Xx0_w10.out 0 _ rfl
    have qXx01 := Xx0_w10.out 1 _ rfl
    have tXx0 := Xx0_w10.out.lt
    have qBg0 := Bg_w10.out 0 _ rfl
    have qBg1 := Bg_w10.out 1 _ rfl
    have tBg := Bg_w10.out.lt
    go_wp2_with fail
    clear qBx00 qBx01 tBx0 qBw0 qBw1 tBw qXx00 qXx01 tXx0 qBg0 qBg1 tBg
    refine (markBytesResultU _ code _ d2 _ 1 Dg_w10.out (by omega) (by omega)).mono ?_
    rintro e w11 ⟨rfl, hm, hc⟩
    have HB_w11 : Hid (Below w.heap.size w w11) := HB_w10.out.trans (hc.below HB_w10.out.size (fun b h => by have := HB_w10.out.size; omega))
    have z_w11 : w10.heap.size ≤ w11.heap.size := hc.size
    have Bx0_w11 : Hid (Bx w11 w.heap.size [.slice a0x0 n0x0 c0x0, .slice a1x0 n1x0 c1x0]) := Bx0_w10.out.chg hc (by omega)
    have Dw_w11 : Hid (BytO w11 (.slice a0sw n0sw c0sw) d2 (fun b => w2.heap.size ≤ b ∧ b < w3.heap.size)) := Dw_w10.out.chg hc (fun b h h' => by omega)
    have Bw_w11 : Hid (Bx w11 w3.heap.size [.int .i64 code, .slice a0sw n0sw c0sw]) := Bw_w10.out.chg hc (by omega)
    have Xx0_w11 : Hid (Bx w11 w4.heap.size [.slice a0x0p n0x0p c0x0p, .slice a1x0p n1x0p c1x0p]) := Xx0_w10.out.chg hc (by omega)
    have Bg_w11 : Hid (Bx w11 w5.heap.size [.int .i64 code, .slice a0sg n0sg c0sg]) := Bg_w10.out.chg hc (by omega)
    have Dm_w11 : Hid (BytO w11 (.slice a0sg n0sg c0sg) (mkByt 1 d2) (fun b => w4.heap.size < b ∧ b < w5.heap.size)) := hm
    clear HB_w10 Bx0_w10 Dw_w10 Bw_w10 Xx0_w10 Dg_w10 Bg_w10
    clear hm hc
    generalize hK : (1 : Int) + (List.length d2 : Nat) = K at *
    have hKK : (K != K) = false := by simp
    have hK0 : ¬ K < 0 := by omega
    have hK1 : K ≤ 4611686018427387904 := by omega
    have HK : Hid ((1 : Int) + (List.length d2 : Nat) = K) := hK
    clear hK
    have qBx00 := Bx0_w11.out 0 _ rfl
    have qBx01 := Bx0_w11.out 1 _ rfl
    have tBx0 := Bx0_w11.out.lt
    have qBw0 := Bw_w11.out 0 _ rfl
    have qBw1 := Bw_w11.out 1 _ rfl
    have tBw := Bw_w11.out.lt
    have qXx00 := Xx0_w11.out 0 _ rfl
    have qXx01 := Xx0_w11.out 1 _ rfl
    have tXx0 := Xx0_w11.out.lt
    have qBg0 := Bg_w11.out 0 _ rfl
    have qBg1 := Bg_w11.out 1 _ rfl
    have tBg := Bg_w11.out.lt
    go_wp2_with fail
    clear qBx00 qBx01 tBx0 qBw0 qBw1 tBw qXx00 qXx01 tXx0 qBg0 qBg1 tBg
    refine (heldBytesResultU _ code _ d2 _ 1 Dm_w11.out (by omega) (by rw [HK.out]; exact hK1)).mono ?_
    rw [HK.out]
    rintro e w12 ⟨rfl, hb⟩
    have HL_w12 : Hid (Below w11.heap.size w11 w12) := hb
    have HB_w12 : Hid (Below w.heap.size w w12) := HB_w11.out.trans (HL_w12.out.mono HB_w11.out.size)
    have z_w12 : w11.heap.size ≤ w12.heap.size := HL_w12.out.size
    have Bx0_w12 : Hid (Bx w12 w.heap.size [.slice a0x0 n0x0 c0x0, .slice a1x0 n1x0 c1x0]) := Bx0_w11.out.later HL_w12.out
    have Dw_w12 : Hid (BytO w12 (.slice a0sw n0sw c0sw) d2 (fun b => w2.heap.size ≤ b ∧ b < w3.heap.size)) := Dw_w11.out.later HL_w12.out
    have Bw_w12 : Hid (Bx w12 w3.heap.size [.int .i64 code, .slice a0sw n0sw c0sw]) := Bw_w11.out.later HL_w12.out
    have Xx0_w12 : Hid (Bx w12 w4.heap.size [.slice a0x0p n0x0p c0x0p, .slice a1x0p n1x0p c1x0p]) := Xx0_w11.out.later HL_w12.out
    have Bg_w12 : Hid (Bx w12 w5.heap.size [.int .i64 code, .slice a0sg n0sg c0sg]) := Bg_w11.out.later HL_w12.out
    have Dm_w12 : Hid (BytO w12 (.slice a0sg n0sg c0sg) (mkByt 1 d2) (fun b => w4.heap.size < b ∧ b < w5.heap.size)) := Dm_w11.out.later HL_w12.out
    clear Bx0_w11 Dw_w11 Bw_w11 Xx0_w11 Bg_w11 Dm_w11 HB_w11 HL_w12
    clear hb
    have qBx00 := Bx0_w12.out 0 _ rfl
    have qBx01 := Bx0_w12.out 1 _ rfl
    have tBx0 := Bx0_w12.out.lt
    have qBw0 := Bw_w12.out 0 _ rfl
    have qBw1 := Bw_w12.out 1 _ rfl
    have tBw := Bw_w12.out.lt
    have qXx00 := Xx0_w12.out 0 _ rfl
    have qXx01 := Xx0_w12.out 1 _ rfl
    have tXx0 := Xx0_w12.out.lt
    have qBg0 := Bg_w12.out 0 _ rfl
    have qBg1 := Bg_w12.out 1 _ rfl
    have tBg := Bg_w12.out.lt
    go_wp2_with fail
    clear qBx00 qBx01 tBx0 qBw0 qBw1 tBw qXx00 qXx01 tXx0 qBg0 qBg1 tBg
    refine (toFsU _ _ _ _ _ _ _ dx0 (Hx0.out.later HB_w12.out) Sx0.out).mono ?_
    rintro e w13 ⟨a0x0h, n0x0h, c0x0h, a1x0h, n1x0h, c1x0h, rfl, hb, ho⟩
    have HL_w13 : Hid (Below w12.heap.size w12 w13) := hb
    have HB_w13 : Hid (Below w.heap.size w w13) := HB_w12.out.trans (HL_w13.out.mono HB_w12.out.size)
    have z_w13 : w12.heap.size ≤ w13.heap.size := HL_w13.out.size
    have Bx0_w13 : Hid (Bx w13 w.heap.size [.slice a0x0 n0x0 c0x0, .slice a1x0 n1x0 c1x0]) := Bx0_w12.out.later HL_w13.out
    have Dw_w13 : Hid (BytO w13 (.slice a0sw n0sw c0sw) d2 (fun b => w2.heap.size ≤ b ∧ b < w3.heap.size)) := Dw_w12.out.later HL_w13.out
    have Bw_w13 : Hid (Bx w13 w3.heap.size [.int .i64 code, .slice a0sw n0sw c0sw]) := Bw_w12.out.later HL_w13.out
    have Xx0_w13 : Hid (Bx w13 w4.heap.size [.slice a0x0p n0x0p c0x0p, .slice a1x0p n1x0p c1x0p]) := Xx0_w12.out.later HL_w13.out
    have Bg_w13 : Hid (Bx w13 w5.heap.size [.int .i64 code, .slice a0sg n0sg c0sg]) := Bg_w12.out.later HL_w13.out
    have Dm_w13 : Hid (BytO w13 (.slice a0sg n0sg c0sg) (mkByt 1 d2) (fun b => w4.heap.size < b ∧ b < w5.heap.size)) := Dm_w12.out.later HL_w13.out
    have Vx0_w13 : Hid (FsU w13 (.slice a0x0h n0x0h c0x0h) (.slice a1x0h n1x0h c1x0h) dx0 (fun b => w12.heap.size ≤ b ∧ b < w13.heap.size)) := ho
    clear Bx0_w12 Dw_w12 Bw_w12 Xx0_w12 Bg_w12 Dm_w12 HB_w12 HL_w13
    clear hb ho
    have qBx00 := Bx0_w13.out 0 _ rfl
    have qBx01 := Bx0_w13.out 1 _ rfl
    have tBx0 := Bx0_w13.out.lt
    have qBw0 := Bw_w13.out 0 _ rfl
    have qBw1 := Bw_w13.out 1 _ rfl
    have tBw := Bw_w13.out.lt
    have qXx00 := Xx0_w13.out 0 _ rfl
    have qXx01 := Xx0_w13.out 1 _ rfl
    have tXx0 := Xx0_w13.out.lt
    have qBg0 := Bg_w13.out 0 _ rfl
    have qBg1 := Bg_w13.out 1 _ rfl
    have tBg := Bg_w13.out.lt
    go_wp2_with fail
    clear qBx00 qBx01 tBx0 qBw0 qBw1 tBw qXx00 qXx01 tXx0 qBg0 qBg1 tBg
    refine (implReadFU _ _ _ _ _ _ _ dx0 x1 x2 x3 Vx0_w13.out.reads Sx0.out).mono ?_
    rw [HR.out]
    rintro e w14 ⟨a0sh, n0sh, c0sh, rfl, hb, ho⟩
    have HL_w14 : Hid (Below w13.heap.size w13 w14) := hb
    have HB_w14 : Hid (Below w.heap.size w w14) := HB_w13.out.trans (HL_w14.out.mono HB_w13.out.size)
    have z_w14 : w13.heap.size ≤ w14.heap.size := HL_w14.out.size
    have Bx0_w14 : Hid (Bx w14 w.heap.size [.slice a0x0 n0x0 c0x0, .slice a1x0 n1x0 c1x0]) := Bx0_w13.out.later HL_w14.out
    have Dw_w14 : Hid (BytO w14 (.slice a0sw n0sw c0sw) d2 (fun b => w2.heap.size ≤ b ∧ b < w3.heap.size)) := Dw_w13.out.later HL_w14.out
    have Bw_w14 : Hid (Bx w14 w3.heap.size [.int .i64 code, .slice a0sw n0sw c0sw]) := Bw_w13.out.later HL_w14.out
    have Xx0_w14 : Hid (Bx w14 w4.heap.size [.slice a0x0p n0x0p c0x0p, .slice a1x0p n1x0p c1x0p]) := Xx0_w13.out.later HL_w14.out
    have Bg_w14 : Hid (Bx w14 w5.heap.size [.int .i64 code, .slice a0sg n0sg c0sg]) := Bg_w13.out.later HL_w14.out
    have Dm_w14 : Hid (BytO w14 (.slice a0sg n0sg c0sg) (mkByt 1 d2) (fun b => w4.heap.size < b ∧ b < w5.heap.size)) := Dm_w13.out.later HL_w14.out
    have Dh_w14 : Hid (BytO w14 (.slice a0sh n0sh c0sh) d2 (fun b => w13.heap.size ≤ b ∧ b < w14.heap.size)) := ho
    clear Bx0_w13 Dw_w13 Bw_w13 Xx0_w13 Bg_w13 Dm_w13 Vx0_w13 HB_w13 HL_w14
    clear hb ho
    have qBx00 := Bx0_w14.out 0 _ rfl
    have qBx01 := Bx0_w14.out 1 _ rfl
    have tBx0 := Bx0_w14.out.lt
    have qBw0 := Bw_w14.out 0 _ rfl
    have qBw1 := Bw_w14.out 1 _ rfl
    have tBw := Bw_w14.out.lt
    have qXx00 := Xx0_w14.out 0 _ rfl
    have qXx01 := Xx0_w14.out 1 _ rfl
    have tXx0 := Xx0_w14.out.lt
    have qBg0 := Bg_w14.out 0 _ rfl
    have qBg1 := Bg_w14.out 1 _ rfl
    have tBg := Bg_w14.out.lt
    go_wp2_with fail
    clear qBx00 qBx01 tBx0 qBw0 qBw1 tBw qXx00 qXx01 tXx0 qBg0 qBg1 tBg
    refine (eqBytesResultU _ code _ _ d2 (Dh_w14.out.later (later1 _ _)).reads (Dw_w14.out.later (later1 _ _)).reads).mono ?_
    rintro e w15 ⟨rfl, hb⟩
    have HL_w15 : Hid (Below w14.heap.size w14 w15) := (later1 _ _).trans (hb.mono (by simp))
    have HB_w15 : Hid (Below w.heap.size w w15) := HB_w14.out.trans (HL_w15.out.mono HB_w14.out.size)
    have z_w15 : w14.heap.size ≤ w15.heap.size := HL_w15.out.size
    have Bx0_w15 : Hid (Bx w15 w.heap.size [.slice a0x0 n0x0 c0x0, .slice a1x0 n1x0 c1x0]) := Bx0_w14.out.later HL_w15.out
    have Dw_w15 : Hid (BytO w15 (.slice a0sw n0sw c0sw) d2 (fun b => w2.heap.size ≤ b ∧ b < w3.heap.size)) := Dw_w14.out.later HL_w15.out
    have Bw_w15 : Hid (Bx w15 w3.heap.size [.int .i64 code, .slice a0sw n0sw c0sw]) := Bw_w14.out.later HL_w15.out
    have Xx0_w15 : Hid (Bx w15 w4.heap.size [.slice a0x0p n0x0p c0x0p, .slice a1x0p n1x0p c1x0p]) := Xx0_w14.out.later HL_w15.out
    have Bg_w15 : Hid (Bx w15 w5.heap.size [.int .i64 code, .slice a0sg n0sg c0sg]) := Bg_w14.out.later HL_w15.out
    have Dm_w15 : Hid (BytO w15 (.slice a0sg n0sg c0sg) (mkByt 1 d2) (fun b => w4.heap.size < b ∧ b < w5.heap.size)) := Dm_w14.out.later HL_w15.out
    have Dh_w15 : Hid (BytO w15 (.slice a0sh n0sh c0sh) d2 (fun b => w13.heap.size ≤ b ∧ b < w14.heap.size)) := Dh_w14.out.later HL_w15.out
    have Bh_w15 : Hid (Bx w15 w14.heap.size [.int .i64 code, .slice a0sh n0sh c0sh]) := (Bx.new _ [.int .i64 code, .slice a0sh n0sh c0sh] _).later hb
    have y_Bh : w14.heap.size < w15.heap.size := Bh_w15.out.lt
    clear Bx0_w14 Dw_w14 Bw_w14 Xx0_w14 Bg_w14 Dm_w14 Dh_w14 HB_w14 HL_w15
    clear hb
    have qBx00 := Bx0_w15.out 0 _ rfl
    have qBx01 := Bx0_w15.out 1 _ rfl
    have tBx0 := Bx0_w15.out.lt
    have qBw0 := Bw_w15.out 0 _ rfl
    have qBw1 := Bw_w15.out 1 _ rfl
    have tBw := Bw_w15.out.lt
    have qXx00 := Xx0_w15.out 0 _ rfl
    have qXx01 := Xx0_w15.out 1 _ rfl
    have tXx0 := Xx0_w15.out.lt
    have qBg0 := Bg_w15.out 0 _ rfl
    have qBg1 := Bg_w15.out 1 _ rfl
    have tBg := Bg_w15.out.lt
    have qBh0 := Bh_w15.out 0 _ rfl
    have qBh1 := Bh_w15.out 1 _ rfl
    have tBh := Bh_w15.out.lt
    go_wp2_with fail
    clear qBx00 qBx01 tBx0 qBw0 qBw1 tBw qXx00 qXx01 tXx0 qBg0 qBg1 tBg qBh0 qBh1 tBh
    refine (heldBytesResultU _ code _ d2 _ 1 Dm_w15.out (by omega) (by rw [HK.out]; exact hK1)).mono ?_
    rw [HK.out]
    rintro e w16 ⟨rfl, hb⟩
    have HL_w16 : Hid (Below w15.heap.size w15 w16) := hb
    have HB_w16 : Hid (Below w.heap.size w w16) := HB_w15.out.trans (HL_w16.out.mono HB_w15.out.size)
    have z_w16 : w15.heap.size ≤ w16.heap.size := HL_w16.out.size
    have Bx0_w16 : Hid (Bx w16 w.heap.size [.slice a0x0 n0x0 c0x0, .slice a1x0 n1x0 c1x0]) := Bx0_w15.out.later HL_w16.out
    have Dw_w16 : Hid (BytO w16 (.slice a0sw n0sw c0sw) d2 (fun b => w2.heap.size ≤ b ∧ b < w3.heap.size)) := Dw_w15.out.later HL_w16.out
    have Bw_w16 : Hid (Bx w16 w3.heap.size [.int .i64 code, .slice a0sw n0sw c0sw]) := Bw_w15.out.later HL_w16.out
    have Xx0_w16 : Hid (Bx w16 w4.heap.size [.slice a0x0p n0x0p c0x0p, .slice a1x0p n1x0p c1x0p]) := Xx0_w15.out.later HL_w16.out
    have Bg_w16 : Hid (Bx w16 w5.heap.size [.int .i64 code, .slice a0sg n0sg c0sg]) := Bg_w15.out.later HL_w16.out
    have Dm_w16 : Hid (BytO w16 (.slice a0sg n0sg c0sg) (mkByt 1 d2) (fun b => w4.heap.size < b ∧ b < w5.heap.size)) := Dm_w15.out.later HL_w16.out
    have Dh_w16 : Hid (BytO w16 (.slice a0sh n0sh c0sh) d2 (fun b => w13.heap.size ≤ b ∧ b < w14.heap.size)) := Dh_w15.out.later HL_w16.out
    have Bh_w16 : Hid (Bx w16 w14.heap.size [.int .i64 code, .slice a0sh n0sh c0sh]) := Bh_w15.out.later HL_w16.out
    clear Bx0_w15 Dw_w15 Bw_w15 Xx0_w15 Bg_w15 Dm_w15 Dh_w15 Bh_w15 HB_w15 HL_w16
    clear hb
    have qBx00 := Bx0_w16.out 0 _ rfl
    have qBx01 := Bx0_w16.out 1 _ rfl
    have tBx0 := Bx0_w16.out.lt
    have qBw0 := Bw_w16.out 0 _ rfl
    have qBw1 := Bw_w16.out 1 _ rfl
    have tBw := Bw_w16.out.lt
    have qXx00 := Xx0_w16.out 0 _ rfl
    have qXx01 := Xx0_w16.out 1 _ rfl
    have tXx0 := Xx0_w16.out.lt
    have qBg0 := Bg_w16.out 0 _ rfl
    have qBg1 := Bg_w16.out 1 _ rfl
    have tBg := Bg_w16.out.lt
    have qBh0 := Bh_w16.out 0 _ rfl
    have qBh1 := Bh_w16.out 1 _ rfl
    have tBh := Bh_w16.out.lt
    go_wp2
    go_ret
    exact ⟨rfl, HB_w16.out⟩

theorem lawReadFile_any (w : World) (v0x0 : Value) (v1x0 : Value) (dx0 : FD) (x1 : Int) (x2 : Int) (x3 : Int) (hx0 : FsR w v0x0 v1x0 dx0) :
    Calls Try.prog 8 #[.agg #[v0x0, v1x0], .int .i64 x1, .int .i64 x2, .int .i64 x3] w fun e w' => e = .returned (.bool true) ∧ Below w.heap.size w w' := by
  obtain ⟨_, _, rfl, _, _⟩ := hx0.1.open'
  obtain ⟨_, _, rfl, _, _⟩ := hx0.2.open'
  by_cases kx0 : sizeFs dx0 ≤ 1048576
  rotate_left
  · exact lawReadFile_big w _ _ _ _ _ _ dx0 x1 x2 x3  hx0 (by omega)
  exact lawReadFile_small w _ _ _ _ _ _ dx0 x1 x2 x3 hx0  kx0
end Go.Proofs.Ytdjdkeepmmjckal
