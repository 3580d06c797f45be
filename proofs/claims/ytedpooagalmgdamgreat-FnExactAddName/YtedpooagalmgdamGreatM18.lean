/- ReadFile, the specification's and the program's. The program's file at work: settled, and which bytes stand in a block. The program's file at work: written. ReadFile: the walks. The program's: what SetBytes, WriteFile and CutFile ask alike. The program's DropFile. Directories: which name stands where, and what functions of directories come to. No program is named here. -/
import Derived.Test.YtedpooagalmgdamGreatM14
import Derived.Test.YtedpooagalmgdamGreatM17
import Derived.Test.YtedpooagalmgdamGreatM09
import Derived.Deep.RegionLaw
import Derived.Test.YtedpooagalmgdamGreatM16
namespace Go.Proofs.YtedpooagalmgdamGreat
open Go.RowKit
set_option maxRecDepth 100000

theorem slice_Y (a : Option Addr) (n c lo hi : Nat) (h1 : lo ≤ hi) (h2 : hi ≤ n) (h3 : n ≤ c) :
    ∃ A C, (∀ W : World, (Instr.sliceAt 26 (.slice a n c) (some (.int .i64 (lo : Int))) (some (.int .i64 (hi : Int))) none).run Tryz.prog W = .ok (.slice A (hi - lo) C) W) ∧ ∀ (W : World) (zs : List UInt8), zs.length = n → Byt W (.slice a n c) zs → Byt W (.slice A (hi - lo) C) ((zs.drop lo).take (hi - lo)) := by
  obtain ⟨i, hi0, _, hi2, _⟩ := Tryz.infoByte'
  refine ⟨if c - lo = 0 then a else a.map (·.add (lo * 1)), c - lo, fun W => ?_, fun W zs hz h => ?_⟩
  · have e2 : hi ≤ c := by omega
    simp [Instr.sliceAt, Instr.slice, Instr.sliceBounds, Instr.sliceBound, asIntOf, run_underlying Tryz.underlying26, sizeOf, typeInfo, hi0, hi2, e2, h1]
    by_cases hcl : c = lo
    · rw [if_pos hcl, if_pos (by omega)]
    · rw [if_neg hcl, if_neg (by omega)]
  · have hl : ((zs.drop lo).take (hi - lo)).length = hi - lo := by rw [List.length_take, List.length_drop]; omega
    obtain ⟨a', cap, e, hm, hat⟩ := h
    simp only [Value.slice.injEq] at e
    obtain ⟨rfl, _, rfl⟩ := e
    refine ⟨_, _, by rw [hl], ⟨by rw [hl]; have := hm.1; omega, by rw [hl]; omega⟩, fun k hk => ?_⟩
    rw [hl] at hk
    obtain ⟨b, off, rfl, hc⟩ := hat (lo + k) (by omega)
    rw [if_neg (by omega)]
    refine ⟨b, off + lo, by simp [Addr.add], ?_⟩
    rw [List.getElem?_take, if_pos hk, List.getElem?_drop]
    rw [Nat.add_assoc]
    exact hc
/-- The part of a list as the walk has it. -/
def cutA (a : Option Addr) (c lo : Nat) : Option Addr := if c = lo then a else Option.map (fun x => x.add lo) a
theorem cut_Y {W : World} {a : Option Addr} {n c lo hi : Nat} (h2 : hi ≤ n) (h3 : n ≤ c) {zs : List UInt8} (hz : zs.length = n) (h : Byt W (.slice a n c) zs) : Byt W (.slice (cutA a c lo) (hi - lo) (c - lo)) ((zs.drop lo).take (hi - lo)) := by
  have hl : ((zs.drop lo).take (hi - lo)).length = hi - lo := by rw [List.length_take, List.length_drop]; omega
  obtain ⟨a', cap, e, hm, hat⟩ := h
  simp only [Value.slice.injEq] at e
  obtain ⟨rfl, _, rfl⟩ := e
  refine ⟨_, _, by rw [hl], ⟨by rw [hl]; have := hm.1; omega, by rw [hl]; omega⟩, fun k hk => ?_⟩
  rw [hl] at hk
  obtain ⟨b, off, rfl, hc⟩ := hat (lo + k) (by omega)
  unfold cutA
  rw [if_neg (by omega)]
  refine ⟨b, off + lo, by simp [Addr.add], ?_⟩
  rw [List.getElem?_take, if_pos hk, List.getElem?_drop, Nat.add_assoc]
  exact hc
section
variable {P : Program} {w : World}
theorem wpList_slice_run {ops : Array Oper} {rest : List Oper} {o : Oper} {a : Act} {Q : Exit → Act → World → Prop} (hgd : o.guard = none) (t : TypeId) (x lo hi : Operand) (ho : o.op = .slice t x (some lo) (some hi) none) (v vl vh : Value) (hx : a.eval x = v) (hl : a.eval lo = vl) (hh : a.eval hi = vh) (v' : Value)
    (hr : (Instr.sliceAt t v (some vl) (some vh) none).run P w = .ok v' w) (h : wpList P ops Q rest (a.put o.dst v') w) : wpList P ops Q (o :: rest) a w := by
  refine wpList_plain hgd fun K hK => ?_
  unfold Oper.wp execOp
  simp only [ho, Sem.run_bind, Sem.run_pure, Result.andThen_ok, Option.map_some, Option.map_none, hx, hl, hh, hr]
  exact hK _ _ h
theorem step_slice_run {ops : Array Oper} {o : Oper} {a : Act} {K : Act → World → Prop} {Q : Exit → Act → World → Prop} {E : Prop} (hgd : o.guard = none) (t : TypeId) (x lo hi : Operand) (ho : o.op = .slice t x (some lo) (some hi) none) (v vl vh : Value) (hx : a.eval x = v) (hl : a.eval lo = vl) (hh : a.eval hi = vh) (v' : Value)
    (hr : (Instr.sliceAt t v (some vl) (some vh) none).run P w = .ok v' w) (h : K (a.put o.dst v') w) : if Region.wanted o (yielded ops a.tmps) = true then Oper.wp P o a w K Q else E := by
  have hw : Region.wanted o (yielded ops a.tmps) = true := by simp [Region.wanted, hgd]
  rw [if_pos hw]
  unfold Oper.wp execOp
  simp only [ho, Sem.run_bind, Sem.run_pure, Result.andThen_ok, Option.map_some, Option.map_none, hx, hl, hh, hr]
  exact h
end
theorem cutY_eq (zs : List UInt8) (p n : Nat) : (zs.drop (min p zs.length)).take (min zs.length (min p zs.length + n) - min p zs.length) = cutY zs p n := by
  unfold cutY
  apply List.ext_getElem?
  intro i
  rw [List.getElem?_take, List.getElem?_take, List.getElem?_drop, List.getElem?_drop]
  by_cases h : p ≤ zs.length
  · rw [Nat.min_eq_left h]
    by_cases hi : i < n
    · rw [if_pos hi]
      by_cases h2 : p + i < zs.length
      · rw [if_pos (by omega)]
      · rw [List.getElem?_eq_none (by omega)]; split <;> rfl
    · rw [if_neg hi, if_neg (by omega)]
  · rw [List.getElem?_eq_none (show zs.length ≤ p + i by omega), List.getElem?_eq_none (show zs.length ≤ min p zs.length + i by omega)]
    split <;> split <;> rfl
theorem cutY_eq' (zs : List UInt8) (p n : Nat) : (zs.drop (min p zs.length)).take (min (p + n) zs.length - min p zs.length) = cutY zs p n := by
  rw [← cutY_eq]
  by_cases h : p ≤ zs.length
  · rw [Nat.min_eq_left h, Nat.min_comm (p + n)]
  · have e1 : min p zs.length = zs.length := by omega
    rw [e1, List.drop_eq_nil_of_le (Nat.le_refl _)]
    simp
theorem l1Min_nat (w : World) (x y : Int) (r : Nat) (h : min x y = (r : Int)) : Calls Tryz.prog 72 #[.int .i64 x, .int .i64 y] w fun e w' => e = .returned (.int .i64 (r : Int)) ∧ w' = w := by
  by_cases hl : x < y
  · have E : Hid (x = (r : Int)) := by unfold Hid; omega
    clear h
    go_enter Tryz.func72, Tryz.ntmps72
    go_wp2
    go_ret
    exact ⟨ret_int E.out, rfl⟩
  · have E : Hid (y = (r : Int)) := by unfold Hid; omega
    clear h
    go_enter Tryz.func72, Tryz.ntmps72
    go_wp2
    go_ret
    exact ⟨ret_int E.out, rfl⟩
theorem isFrom_any (w : World) (p : Int) : Calls Tryz.prog 51 #[.int .i64 p] w fun e w' => e = .returned (.bool (fromB p)) ∧ w' = w := by
  have HE : Hid ((decide (0 ≤ p) && decide (p ≤ 1000)) = fromB p) := rfl
  by_cases h : 0 ≤ p
  · have h' : decide (0 ≤ p) = true := by simpa using h
    have HE2 : Hid (decide (p ≤ 1000) = fromB p) := by unfold Hid; rw [← HE.out, h']; rfl
    clear h'
    go_enter Tryz.func51, Tryz.ntmps51
    go_wp2
    go_ret
    exact ⟨ret_bool HE2.out, rfl⟩
  · have HE2 : Hid (false = fromB p) := by unfold Hid; rw [← HE.out]; simp [h]
    go_enter Tryz.func51, Tryz.ntmps51
    go_wp2
    go_ret
    exact ⟨ret_bool HE2.out, rfl⟩
end Go.Proofs.YtedpooagalmgdamGreat

namespace Go.Proofs.YtedpooagalmgdamGreat
open Go.RowKit
set_option maxRecDepth 100000

set_option maxHeartbeats 800000 in
theorem settleF_any (w : World) (bf : Nat) (vs : List Value) (hbox : OwnRow w bf 8 (cel vs)) (aP : Option Addr) (nP cP : Nat) (s : Int) :
    Calls Tryz.prog 77 #[.pointer (some ⟨bf, 0, none⟩), .slice aP nP cP, .int .i64 s] w fun e w' => e = .returned (.tuple #[]) ∧ w' = (w.setCell ⟨bf, 3, none⟩ (.slice aP nP cP)).setCell ⟨bf, 2, none⟩ (.int .i64 s) := by
  have c2 := hbox.cell (i := 2) (by omega)
  have c3 := hbox.cell (i := 3) (by omega)
  have f2 := hbox.frozen 2
  have f3 := hbox.frozen 3
  clear hbox
  go_enter Tryz.func77, Tryz.ntmps77
  go_wp2
  go_end0
  exact ⟨rfl, rfl⟩
set_option maxHeartbeats 1600000 in
theorem span_any (w : World) (x0 x1 : Int) (L k lo hi : Nat) (v3 v4 : Value) (_hL : L ≤ 32) (hk : k ≤ 4) (hlo : k * 8 = lo) (hhi : min (k * 8 + 8) L = hi) :
    Calls Tryz.prog 78 #[.agg #[.int .i64 x0, .int .i64 x1, .int .i64 (L : Int), v3, v4], .int .i64 (k : Int)] w fun e w' => e = .returned (.tuple #[.int .i64 (lo : Int), .int .i64 (hi : Int)]) ∧ Below w.heap.size w w' := by
  have HE1 : Hid ((k : Int) * 8 = (lo : Int)) := by unfold Hid; omega
  have HE2 : Hid (min (IntKind.i64.wrap ((k : Int) * 8 + 8)) (L : Int) = (hi : Int)) := by
    unfold Hid
    rw [show IntKind.i64.wrap ((k : Int) * 8 + 8) = (k : Int) * 8 + 8 by rw [IntKind.wrap_i64]; omega]
    omega
  have x2 : (w.alloc (.cells #[.int .i64 x0, .int .i64 x1, .int .i64 (L : Int), v3, v4] 92)).cell? ⟨w.heap.size, 2, none⟩ = some (.int .i64 (L : Int)) := by rw [new_cell]; rfl
  clear hhi hlo
  go_enter Tryz.func78, Tryz.ntmps78
  go_wp2_with fail
  go_region_law (fail)
  all_goals
    go_wp2
    go_ret2
    exact ⟨by rw [HE2.out, HE1.out]; rfl, by first | exact (later1 _ _).drew | exact later1 _ _⟩
/-- What stands where a file's bytes, or its inode, turn. -/
theorem FileS.put {w0 w W : World} {bf bI n cI bD cD : Nat} {d : FD} {zss : List (List UInt8)} {j : Nat} {x : ID} {aB : Option Addr} {cB : Nat} {aE : Option Addr} {cE : Nat} (h : FileS w0 w bf bI n cI bD cD d j x aB cB aE cE) (hc : Chg (fun c => c = bD) w W) (hf : FsS W bI n cI bD 20 cD (d.1, zss) (fun c => w0.heap.size ≤ c ∧ c ≠ bf)) : FileS w0 W bf bI n cI bD cD (d.1, zss) j x aB cB aE cE := by
  have hne := h.fs.ne
  refine ⟨h.below.trans (hc.below h.below.size fun b hb => hb ▸ hne.2.2.1.1), h.new, h.box.block (hc.block bf h.box.lt fun e => hne.2.2.1.2 e.symm), hf, fun k hk => ?_⟩
  obtain ⟨b1, e1, e2, e3, e4⟩ := h.blk k hk
  exact ⟨b1, e1, e2, Nat.lt_of_lt_of_le e3 hc.size, hc.cellOf e4 e2⟩
theorem FileS.settle {w0 w : World} {bf bI n cI bD cD : Nat} {d : FD} {j : Nat} {x : ID} {aB : Option Addr} {cB : Nat} {aE : Option Addr} {cE : Nat} (h : FileS w0 w bf bI n cI bD cD d j x aB cB aE cE) (aP : Option Addr) (cP : Nat) (bs : List Int) (s : Int) (F : Nat → Prop) (hp : IntsO w0 (.slice aP bs.length cP) bs F) :
    FileS w0 ((w.setCell ⟨bf, 3, none⟩ (.slice aP bs.length cP)).setCell ⟨bf, 2, none⟩ (.int .i64 s)) bf bI n cI bD cD d j (x.1, x.2.1, s, bs, x.2.2.2.2) aP cP aE cE := by
  have hne := h.fs.ne
  have h0 : Chg (fun c => c = bf) w w := Chg.refl _ _
  have h1 := Chg.set (F := fun c => c = bf) h0 rfl 3 (.slice aP bs.length cP)
  have h2 := Chg.set (F := fun c => c = bf) h1 rfl 2 (.int .i64 s)
  have hb : Below w0.heap.size w0 ((w.setCell ⟨bf, 3, none⟩ (.slice aP bs.length cP)).setCell ⟨bf, 2, none⟩ (.int .i64 s)) := h.below.trans (h2.below h.below.size fun b hb => hb ▸ h.new)
  refine ⟨hb, h.new, ((h.box.set 3 _).set 2 _).congr fun i hi => ?_, h.fs.chg h2 fun b hb e => hb.2 e, fun k hk => ?_⟩
  · match i, hi with
    | 0, _ => rfl
    | 1, _ => rfl
    | 2, _ => rfl
    | 3, _ => rfl
    | 4, _ => rfl
    | 5, _ => rfl
    | 6, _ => rfl
    | 7, _ => rfl
  · rcases hp with ⟨e, _⟩ | ⟨b, cap, _, e, hl, hrow⟩
    · subst e; simp at hk
    · simp only [Value.slice.injEq] at e
      obtain ⟨rfl, _, rfl⟩ := e
      have hlt := hrow.lt
      have hD := hne.2.2.1.1
      exact ⟨b, rfl, by omega, Nat.lt_of_lt_of_le hlt hb.size, cell_later hb (hrow.cell hk)⟩
end Go.Proofs.YtedpooagalmgdamGreat

namespace Go.Proofs.YtedpooagalmgdamGreat
open Go.RowKit
set_option maxRecDepth 100000

theorem take8 (data : List UInt8) (k hi : Nat) (h : min (k * 8 + 8) data.length = hi) : (data.drop (k * 8)).take (hi - k * 8) = (data.drop (k * 8)).take 8 := by
  apply List.ext_getElem?
  intro i
  rw [List.getElem?_take, List.getElem?_take, List.getElem?_drop]
  by_cases h1 : i < hi - k * 8
  · rw [if_pos h1, if_pos (by omega)]
  · rw [if_neg h1]
    by_cases h2 : i < 8
    · rw [if_pos h2, List.getElem?_eq_none (by omega)]
    · rw [if_neg h2]
theorem FsS.wrt {w W : World} {bI n cI bD cD : Nat} {d : FD} {Z : List (List UInt8)} {F : Nat → Prop} {bs : List Int} {data : List UInt8} {k y : Nat} (h : FsS w bI n cI bD 20 cD (d.1, putK Z bs data k) F) (hy : y < 20) (e : bs[k]?.getD 0 = (y : Int)) (hb : Below w.heap.size w W) (v : Value) (hv : BytO W v ((data.drop (k * 8)).take 8) (fresh w W)) (hF : ∀ c, w.heap.size ≤ c → F c) : FsS (W.setCell ⟨bD, y, none⟩ v) bI n cI bD 20 cD (d.1, putK Z bs data (k + 1)) F := by
  have := h.put y hy hb v _ hv (fun c hc => ⟨hF c hc.1, hc.1, hc.2⟩)
  have e2 : putK Z bs data (k + 1) = (putK Z bs data k).set y ((data.drop (k * 8)).take 8) := by
    show (putK Z bs data k).set (bs[k]?.getD 0).toNat _ = _
    rw [e]; rfl
  rw [e2]
  exact this
/-- Whatever came since. -/
theorem FileS.later {w0 w W : World} {bf bI n cI bD cD : Nat} {d : FD} {j : Nat} {x : ID} {aB : Option Addr} {cB : Nat} {aE : Option Addr} {cE : Nat} (h : FileS w0 w bf bI n cI bD cD d j x aB cB aE cE) (hb : Below w.heap.size w W) : FileS w0 W bf bI n cI bD cD d j x aB cB aE cE :=
  ⟨h.below.trans (hb.mono h.below.size), h.new, h.box.later hb, h.fs.later hb, fun k hk => by
    obtain ⟨b1, e1, e2, e3, e4⟩ := h.blk k hk
    exact ⟨b1, e1, e2, Nat.lt_of_lt_of_le e3 hb.size, cell_later hb e4⟩⟩

set_option maxHeartbeats 6400000 in
theorem write_any (w0 w : World) (bf bI n cI bD cD : Nat) (d : FD) (j : Nat) (x : ID) (aB : Option Addr) (cB : Nat) (aE : Option Addr) (cE : Nat) (h : FileS w0 w bf bI n cI bD cD d j x aB cB aE cE) (hr : ∀ k : Nat, k < x.2.2.2.1.length → 0 ≤ x.2.2.2.1[k]?.getD 0 ∧ x.2.2.2.1[k]?.getD 0 < 20) (h4 : x.2.2.2.1.length ≤ 4)
    (aP : Option Addr) (cP : Nat) (bs : List Int) (F : Nat → Prop) (hp : IntsO w0 (.slice aP bs.length cP) bs F) (hbs : ∀ k : Nat, k < bs.length → 0 ≤ bs[k]?.getD 0 ∧ bs[k]?.getD 0 < 20)
    (aT : Option Addr) (L cT : Nat) (data : List UInt8) (ht : Byt w0 (.slice aT L cT) data) (hL : L ≤ 32) (hn : bs.length = (L + 7) / 8) :
    Calls Tryz.prog 41 #[.pointer (some ⟨bf, 0, none⟩), .slice aP bs.length cP, .slice aT L cT] w fun e w' => e = .returned (.tuple #[]) ∧ FileS w0 w' bf bI n cI bD cD (d.1, putK (clrK d.2 x.2.2.2.1 x.2.2.2.1.length) bs data bs.length) j (x.1, x.2.1, (L : Int), bs, x.2.2.2.2) aP cP aE cE := by
  have ht0 := ht
  obtain ⟨_, _, esh, hmT, _⟩ := ht0
  simp only [Value.slice.injEq] at esh
  obtain ⟨rfl, rfl, rfl⟩ := esh
  have hcT : data.length ≤ cT := hmT.2
  have HF : Hid (FileS w0 w bf bI n cI bD cD d j x aB cB aE cE) := h
  have HP : Hid (IntsO w0 (.slice aP bs.length cP) bs F) := hp
  have HBS : Hid (∀ k : Nat, k < bs.length → 0 ≤ bs[k]?.getD 0 ∧ bs[k]?.getD 0 < 20) := hbs
  have HDB := dropBytes_any w bf bI n cI bD cD d _ _ aB cB x.2.2.2.1 rfl h.box rfl rfl h.fs (fun e => h.fs.ne.2.2.1.2 e.symm) h.blk hr h4
  have HDD : Hid (Calls Tryz.prog 76 #[.pointer (some ⟨bf, 0, none⟩)] w _) := HDB
  have HCY : Hid (∀ (k hi : Nat), k < bs.length → min (k * 8 + 8) data.length = hi → ∀ W, Below w0.heap.size w0 W → Calls Tryz.prog 79 #[.slice (if cT = k * 8 then aT else Option.map (fun x => x.add (k * 8)) aT) (hi - k * 8) (cT - k * 8)] W fun e w' => ∃ g m, e = .returned (.slice (some ⟨g, 0, none⟩) m m) ∧ Below W.heap.size W w' ∧ BytO w' (.slice (some ⟨g, 0, none⟩) m m) ((data.drop (k * 8)).take 8) (fresh W w')) := fun k hi hk hhi W hW => by
    have hb : Byt W (.slice (cutA aT cT (k * 8)) (hi - k * 8) (cT - k * 8)) ((data.drop (k * 8)).take (hi - k * 8)) := cut_Y (by omega) hcT rfl (ht.later hW)
    rw [take8 data k hi hhi] at hb
    exact (copyOfY_any hb (by rw [List.length_take]; omega)).mono fun _ _ ⟨h1, h2, h3⟩ => ⟨_, _, h1, h2, h3⟩
  obtain ⟨x0, x1, x2, xb, xe⟩ := x
  dsimp only at HF HDD ⊢
  obtain ⟨nP, hnP⟩ : ∃ nP, bs.length = nP := ⟨_, rfl⟩
  have HNP : Hid (bs.length = nP) := hnP
  have hn4 : nP ≤ 4 := by omega
  have hnL : nP = (data.length + 7) / 8 := by omega
  have HTT : Hid (∀ i : Nat, True) := fun _ => trivial
  clear h hp hbs hr h4 ht hmT HDB
  rw [hnP] at HBS HCY hn ⊢
  generalize clrK d.2 xb xb.length = Z at *
  obtain ⟨Lt, hLt⟩ : ∃ Lt, data.length = Lt := ⟨_, rfl⟩
  have HLT : Hid (data.length = Lt) := hLt
  rw [hLt] at HCY hcT hL hn hnL ⊢
  have HNL : Hid (nP = (Lt + 7) / 8) := hnL
  clear hLt hnP hn hnL
  go_enter Tryz.func41, Tryz.ntmps41
  go_wp2_with fail
  refine HDD.out.mono ?_
  rintro e w3 ⟨rfl, hc3, hf3⟩
  have HF3 : Hid (FileS w0 w3 bf bI n cI bD cD (d.1, Z) j (x0, x1, x2, xb, xe) aB cB aE cE) := HF.out.put hc3 hf3
  clear hc3 hf3 HDD
  go_wp2_with fail
  refine (settleF_any w3 bf _ HF3.out.box aP nP cP (Lt : Int)).mono ?_
  rintro e w4 ⟨rfl, hw4⟩
  have HF4 : Hid (FileS w0 w4 bf bI n cI bD cD (d.1, Z) j (x0, x1, (Lt : Int), bs, xe) aP cP aE cE) := by
    unfold Hid
    rw [hw4]
    have := HF3.out.settle aP cP bs (Lt : Int) F HP.out
    rw [HNP.out] at this
    exact this
  have q3 : w4.cell? ⟨bf, 3, none⟩ = some (.slice aP nP cP) := by
    have := HF4.out.box.cell (i := 3) (by omega)
    rw [← HNP.out]
    exact this
  clear hw4 HF3
  go_wp2_with fail
  clear q3
  go_loopw [25] (fun i wr => ∃ k : Nat, k ≤ nP ∧ i = .int .i64 k ∧ FileS w0 wr bf bI n cI bD cD (d.1, putK Z bs data k) j (x0, x1, (Lt : Int), bs, xe) aP cP aE cE) (fun i _ => nP - (intOf i).toNat)
  case atStart => exact ⟨0, Nat.zero_le _, rfl, HF4.out⟩
  case round =>
    clear HF4
    obtain ⟨k, hk, rfl, hf⟩ := hrel
    have HFK : Hid (FileS w0 wr bf bI n cI bD cD (d.1, putK Z bs data k) j (x0, x1, (Lt : Int), bs, xe) aP cP aE cE) := hf
    by_cases hlt : k < nP
    · obtain ⟨b1, rfl, hb1, _, c1⟩ := hf.blk k (by rw [HNP.out]; exact hlt)
      have hrg := HBS.out k hlt
      obtain ⟨hi, hhi⟩ : ∃ hi, min (k * 8 + 8) Lt = hi := ⟨_, rfl⟩
      obtain ⟨lo, hlo⟩ : ∃ lo, k * 8 = lo := ⟨_, rfl⟩
      have hcne : ¬ cT = lo := by have := HNL.out; omega
      have HCK : Hid (∀ W, Below w0.heap.size w0 W → Calls Tryz.prog 79 #[.slice (Option.map (fun x => x.add lo) aT) (hi - lo) (cT - lo)] W fun e w' => ∃ g m, e = .returned (.slice (some ⟨g, 0, none⟩) m m) ∧ Below W.heap.size W w' ∧ BytO w' (.slice (some ⟨g, 0, none⟩) m m) ((data.drop (k * 8)).take 8) (fresh W w')) := fun W hW => by
        have := HCY.out k hi hlt hhi W hW
        rw [hlo, if_neg hcne] at this
        rw [hlo]
        exact this
      have HSP : Hid (Calls Tryz.prog 78 #[.agg #[.int .i64 x0, .int .i64 x1, .int .i64 (Lt : Int), .slice (some ⟨b1, 0, none⟩) nP cP, .slice aE xe.length cE], .int .i64 (k : Int)] wr fun e w' => e = .returned (.tuple #[.int .i64 (lo : Int), .int .i64 (hi : Int)]) ∧ Below wr.heap.size wr w') := span_any wr x0 x1 Lt k lo hi _ _ hL (by omega) hlo hhi
      have HWR : Hid (∀ (y : Nat) (W : World) (v : Value), y < 20 → bs[k]?.getD 0 = (y : Int) → Below wr.heap.size wr W → BytO W v ((data.drop (k * 8)).take 8) (fresh wr W) → FileS w0 (W.setCell ⟨bD, y, none⟩ v) bf bI n cI bD cD (d.1, putK Z bs data (k + 1)) j (x0, x1, (Lt : Int), bs, xe) (some ⟨b1, 0, none⟩) cP aE cE) := fun y W v hy e hW hv => by
        have hfl := HFK.out
        have hbl := hfl.box.lt
        refine ((hfl.later hW).put (zss := putK Z bs data (k + 1)) (Chg.set (F := fun c => c = bD) (Chg.refl _ W) rfl y v) ?_)
        exact hfl.fs.wrt hy e hW v hv (fun c hc => ⟨by have := hfl.below.size; omega, by omega⟩)
      have c0 : wr.cell? ⟨bf, 0, none⟩ = some (.int .i64 x0) := hf.box.cell (i := 0) (by omega)
      have c01 : wr.cell? ⟨bf, 1, none⟩ = some (.int .i64 x1) := hf.box.cell (i := 1) (by omega)
      have c2 : wr.cell? ⟨bf, 2, none⟩ = some (.int .i64 (Lt : Int)) := hf.box.cell (i := 2) (by omega)
      have c3 : wr.cell? ⟨bf, 3, none⟩ = some (.slice (some ⟨b1, 0, none⟩) nP cP) := by rw [← HNP.out]; exact hf.box.cell (i := 3) (by omega)
      have c4 : wr.cell? ⟨bf, 4, none⟩ = some (.slice aE xe.length cE) := hf.box.cell (i := 4) (by omega)
      have c7 : wr.cell? ⟨bf, 7, none⟩ = some (.slice (some ⟨bD, 0, none⟩) 20 cD) := hf.box.cell (i := 7) (by omega)
      have hfD : bf ≠ bD := fun e => hf.fs.ne.2.2.1.2 e.symm
      have hDf : bD ≠ bf := fun e => hfD e.symm
      have hlD : bD < wr.heap.size := hf.fs.ne.2.2.2
      have HDA : Hid (∀ y, y < 20 → ∃ ua un uc, wr.cell? ⟨bD, y, none⟩ = some (.slice ua un uc) ∧ wr.frozen? ⟨bD, y, none⟩ = false) := fun y hy => by
        obtain ⟨ua, uc, e1, e2, _⟩ := HFK.out.fs.data y hy
        exact ⟨_, _, _, e1, e2⟩
      have HB0 : Hid (Below w0.heap.size w0 wr) := hf.below
      clear hf HFK HCY HBS
      generalize bs[k]?.getD 0 = z at *
      obtain ⟨y, rfl⟩ : ∃ y : Nat, z = (y : Int) := ⟨z.toNat, by omega⟩
      have hy : y < 20 := by omega
      have hyI : (y : Int) < 20 := by omega
      obtain ⟨ua, un, uc, d0, d1⟩ := HDA.out y hy
      have HW2 : Hid (∀ (W : World) (v : Value), Below wr.heap.size wr W → BytO W v ((data.drop (k * 8)).take 8) (fresh wr W) → FileS w0 (W.setCell ⟨bD, y, none⟩ v) bf bI n cI bD cD (d.1, putK Z bs data (k + 1)) j (x0, x1, (Lt : Int), bs, xe) (some ⟨b1, 0, none⟩) cP aE cE) := fun W v => HWR.out y W v hy rfl
      have hlohi : lo ≤ hi := by have := HNL.out; omega
      have hhc : hi ≤ cT := by omega
      have hi32 : hi ≤ 32 := by omega
      clear HWR HDA hrg hhi hlo
      generalize ((data.drop (k * 8)).take 8) = ys at *
      generalize xe.length = lE at *
      go_wp2_with fail
      refine HSP.out.mono ?_
      rintro e w5 ⟨rfl, hb5⟩
      have HB5 : Hid (Below wr.heap.size wr w5) := hb5
      have e7 := cell_later hb5 c7
      have g0 := cell_later hb5 d0
      have g1 := (hb5.frozen (p := ⟨bD, y, none⟩) hlD).trans d1
      clear hb5 HSP c0 c01 c2 c3 c4 c1 d0 d1
      go_wp2_with fail
      go_region_law (first
        | (try go_simp; go_at_call 79; refine (HCK.out _ ((HB0.out.trans (HB5.out.mono HB0.out.size)).drew)).mono ?_; rintro e w6 ⟨g, m, rfl, hb6, ho6⟩
           have HB6 : Hid (Below wr.heap.size wr w6) := (HB5.out.drew).trans (hb6.mono (by have := HB5.out.size; simpa using this))
           have k7 := cell_later HB6.out c7
           have HN : Hid (FileS w0 (w6.setCell ⟨bD, y, none⟩ (.slice (some ⟨g, 0, none⟩) m m)) bf bI n cI bD cD (d.1, putK Z bs data (k + 1)) j (x0, x1, (Lt : Int), bs, xe) (some ⟨b1, 0, none⟩) cP aE cE) := HW2.out w6 _ HB6.out (ho6.mono fun c hc => ⟨by have h1 := hc.1; simp at h1; have h2 := HB5.out.size; omega, hc.2⟩)
           have m0 := cell_later ((Below.refl _ _).drew.trans hb6) g0
           have m1 := (((Below.refl _ _).drew.trans hb6).frozen (p := ⟨bD, y, none⟩) (Nat.lt_of_lt_of_le hlD HB5.out.size)).trans g1
           clear hb6 ho6)
        | fail)
      all_goals
        clear HCK HW2
        go_wp2
        go_roundw
        case rel => exact ⟨k + 1, by omega, by go_num, HN.out⟩
        case measure => simp [intOf]; omega
    · have e : k = nP := by omega
      subst e
      clear hf
      go_wp2
      go_end0
      exact ⟨rfl, HFK.out⟩
end Go.Proofs.YtedpooagalmgdamGreat

namespace Go.Proofs.YtedpooagalmgdamGreat
open Go.RowKit
set_option maxRecDepth 100000

theorem fromB_nat {p : Int} (h : fromB p = true) : ∃ q : Nat, p = (q : Int) ∧ q ≤ 1000 := by
  unfold fromB at h
  simp at h
  exact ⟨p.toNat, by omega, by omega⟩
theorem readFR_len (d : FD) (x p n : Int) : (readFR d x p n).2.length ≤ 32 := by
  unfold readFR
  by_cases hc : (bytR d x).1 = 0
  · rw [if_pos hc]
    split
    · have := (sound hc).bl
      show (cutY _ _ _).length ≤ 32
      unfold cutY
      rw [List.length_take, List.length_drop]
      omega
    · simp
  · rw [if_neg hc]; simp
/-- What both walks begin with. -/
theorem AnsYR.boxed {w W : World} {rb : Nat} {r : Int} {zs : List UInt8} {a : Option Addr} {n c : Nat} (hB : Below w.heap.size w W) (hrb : w.heap.size ≤ rb) (hY : BytO W (.slice a n c) zs (fun b => w.heap.size ≤ b ∧ b < W.heap.size ∧ b ≠ rb)) (x y : Value) : AnsYR w (r, zs) (.returned (.agg #[.int .i64 r, .slice a n c])) ((W.setCell ⟨rb, 0, none⟩ x).setCell ⟨rb, 1, none⟩ y) := by
  refine ⟨a, n, c, rfl, (hB.setCell hrb _).setCell hrb _, (hY.keep fun b hb _ => ?_).mono fun b hb => ?_⟩
  · rw [Below.heap_setCell _ _ _ _ hb.2.2, Below.heap_setCell _ _ _ _ hb.2.2]
  · unfold fresh
    simp only [World.setCell, Array.size_modify]
    exact ⟨hb.1, hb.2.1⟩
theorem AnsYR.later {w w2 w3 : World} {r : Int × List UInt8} {e : Ending} (h : AnsYR w r e w2) (hb : Below w2.heap.size w2 w3) : AnsYR w r e w3 := by
  obtain ⟨a1, n1, c1, h1, h2, h3⟩ := h
  exact ⟨a1, n1, c1, h1, h2.trans (hb.mono h2.size), (h3.keep fun b _ hlt => hb.block b hlt).mono fun b hh => ⟨hh.1, Nat.lt_of_lt_of_le hh.2 hb.size⟩⟩

end Go.Proofs.YtedpooagalmgdamGreat

namespace Go.Proofs.YtedpooagalmgdamGreat
open Go.RowKit
set_option maxRecDepth 100000

def askY (d : FD) (x : Int) (busy : List Int) : Int × List UInt8 := if (bytR d x).1 = 0 then (if busF busy = 0 then (0, bytL d x.toNat) else (busF busy, [])) else ((bytR d x).1, [])
set_option maxHeartbeats 6400000 in
theorem bytesToWrite_any (w : World) (a1 : Option Addr) (n1 c1 : Nat) (a2 : Option Addr) (n2 c2 : Nat) (d : FD) (xx : Int) (vb : Value) (busy : List Int) (h : FsR w (.slice a1 n1 c1) (.slice a2 n2 c2) d) (hs : sizeFs d ≤ 1048576) (hb : Ints w vb busy) :
    Calls Tryz.prog 37 #[.agg #[.slice a1 n1 c1, .slice a2 n2 c2], .int .i64 xx, vb] w (AnsYR w (askY d xx busy)) := by
  have HRR : Hid (askY d xx busy = if (bytR d xx).1 = 0 then (if busF busy = 0 then (0, bytL d xx.toNat) else (busF busy, [])) else ((bytR d xx).1, [])) := rfl
  rw [HRR.out]
  clear HRR
  have HB0 : Hid (Below w.heap.size w ((w.alloc (.cells #[.slice a1 n1 c1, .slice a2 n2 c2] 31)).alloc (.cells #[.int .i64 0, .slice none 0 0] 62))) := later2 _ _ _
  have HRS : Hid (OwnRow ((w.alloc (.cells #[.slice a1 n1 c1, .slice a2 n2 c2] 31)).alloc (.cells #[.int .i64 0, .slice none 0 0] 62)) (w.heap.size + 1) 2 (fun i => if i = 0 then .int .i64 0 else .slice none 0 0)) := by
    have := box2 (w.alloc (.cells #[.slice a1 n1 c1, .slice a2 n2 c2] 31)) 62
    rw [World.size_alloc] at this
    exact this
  have HBY : Hid (Calls Tryz.prog 57 #[.agg #[.slice a1 n1 c1, .slice a2 n2 c2], .int .i64 xx] ((w.alloc (.cells #[.slice a1 n1 c1, .slice a2 n2 c2] 31)).alloc (.cells #[.int .i64 0, .slice none 0 0] 62)) (AnsYR ((w.alloc (.cells #[.slice a1 n1 c1, .slice a2 n2 c2] 31)).alloc (.cells #[.int .i64 0, .slice none 0 0] 62)) (bytR d xx))) := implBytU _ a1 n1 c1 a2 n2 c2 d xx (h.later (later2 _ _ _)) hs
  have hz0 : ((w.alloc (.cells #[.slice a1 n1 c1, .slice a2 n2 c2] 31)).alloc (.cells #[.int .i64 0, .slice none 0 0] 62)).heap.size = w.heap.size + 2 := by simp
  have HBF : Hid (∀ W, Below w.heap.size w W → Calls Tryz.prog 74 #[vb] W fun e w' => e = .returned (.int .i64 (busF busy)) ∧ Below W.heap.size W w') := fun W hW => busyFault_any (hb.later hW)
  clear h hs hb
  by_cases hc : (bytR d xx).1 = 0
  rotate_left
  · rw [if_neg hc]
    have hcb : ((bytR d xx).1 != 0) = true := by simpa using hc
    have he : (bytR d xx).2 = [] := bytR_bad hc
    clear hc
    go_enter Tryz.func37, Tryz.ntmps37
    go_wp2_with fail
    generalize ((w.alloc (.cells #[.slice a1 n1 c1, .slice a2 n2 c2] 31)).alloc (.cells #[.int .i64 0, .slice none 0 0] 62)) = W0 at *
    refine HBY.out.mono ?_
    rintro e w1 ⟨ay, ny, cy, rfl, hb1, ho1⟩
    rw [he] at ho1
    have HB1 : Hid (Below w.heap.size w w1) := HB0.out.trans (hb1.mono HB0.out.size)
    have HO1 : Hid (BytO w1 (.slice ay ny cy) [] (fun b => w.heap.size ≤ b ∧ b < w1.heap.size ∧ b ≠ w.heap.size + 1)) := ho1.mono fun b hb => ⟨by have := hb.1; omega, hb.2, by have := hb.1; omega⟩
    have hrr := HRS.out.later hb1
    have t0 := hrr.cell (i := 0) (by omega)
    have t1 := hrr.cell (i := 1) (by omega)
    have s0 := hrr.frozen 0
    have s1 := hrr.frozen 1
    simp at t0 t1
    have hlw : w.heap.size + 1 < w1.heap.size := hrr.lt
    clear hb1 hrr ho1 he
    generalize (bytR d xx).1 = r at *
    go_wp2
    exact bodyPost_ret (v := .agg #[.int .i64 r, .slice ay ny cy]) (by simp [results, Tryz.results37, go_sem, t0, t1, hlw]) rfl ((AnsYR.boxed HB1.out (by omega) HO1.out _ _).later (later1 _ _))
  · rw [if_pos hc]
    have hcb : ((bytR d xx).1 != 0) = false := by simpa using hc
    obtain ⟨he, _⟩ := bytR_code hc
    have he2 : (bytR d xx).2 = bytL d xx.toNat := by rw [he]
    have hr0 : Hid ((bytR d xx).1 = 0) := hc
    clear hc he
    generalize bytL d xx.toNat = zs at *
    have step : ∀ P : Prop, (busF busy = 0 → P) → (¬ busF busy = 0 → P) → P := fun P f1 f2 => by
      by_cases h : busF busy = 0
      · exact f1 h
      · exact f2 h
    apply step
    · intro hbz
      rw [if_pos hbz]
      rw [hbz] at HBF
      clear step hbz
      go_enter Tryz.func37, Tryz.ntmps37
      go_wp2_with fail
      generalize ((w.alloc (.cells #[.slice a1 n1 c1, .slice a2 n2 c2] 31)).alloc (.cells #[.int .i64 0, .slice none 0 0] 62)) = W0 at *
      refine HBY.out.mono ?_
      rintro e w1 ⟨ay, ny, cy, rfl, hb1, ho1⟩
      rw [he2] at ho1
      have HB1 : Hid (Below w.heap.size w w1) := HB0.out.trans (hb1.mono HB0.out.size)
      have HO1 : Hid (BytO w1 (.slice ay ny cy) zs (fun b => w.heap.size ≤ b ∧ b < w1.heap.size ∧ b ≠ w.heap.size + 1)) := ho1.mono fun b hb => ⟨by have := hb.1; omega, hb.2, by have := hb.1; omega⟩
      have HR1 : Hid (OwnRow w1 (w.heap.size + 1) 2 (fun i => if i = 0 then .int .i64 0 else .slice none 0 0)) := HRS.out.later hb1
      have HX1 : Hid (Bx (w1.alloc (.cells #[.int .i64 (bytR d xx).1, .slice ay ny cy] 62)) w1.heap.size [.int .i64 (bytR d xx).1, .slice ay ny cy]) := Bx.new _ _ _
      have hlw : w.heap.size + 1 < w1.heap.size := HR1.out.lt
      clear hb1 ho1 he2
      rw [hr0.out] at HX1 hcb ⊢
      go_wp2_with fail
      refine (HBF.out _ (HB1.out.trans ((later1 _ _).mono HB1.out.size))).mono ?_
      rintro e w2 ⟨rfl, hb2⟩
      have hb2' : Below w1.heap.size w1 w2 := (later1 _ _).trans (hb2.mono (by simp))
      have HB2 : Hid (Below w.heap.size w w2) := HB1.out.trans (hb2'.mono HB1.out.size)
      have HO2 : Hid (BytO w2 (.slice ay ny cy) zs (fun b => w.heap.size ≤ b ∧ b < w2.heap.size ∧ b ≠ w.heap.size + 1)) := (HO1.out.later hb2').mono fun b hb => ⟨hb.1, by have := hb2'.size; omega, hb.2.2⟩
      have y0 := (HX1.out.later hb2) 0 _ rfl
      have y1 := (HX1.out.later hb2) 1 _ rfl
      have hrr := HR1.out.later hb2'
      have t0 := hrr.cell (i := 0) (by omega)
      have t1 := hrr.cell (i := 1) (by omega)
      have s0 := hrr.frozen 0
      have s1 := hrr.frozen 1
      simp at t0 t1
      clear hb2 hb2' hrr
      go_wp2
      exact bodyPost_ret (v := .agg #[.int .i64 0, .slice ay ny cy]) (by simp [results, Tryz.results37, go_sem, t0, t1]) rfl (AnsYR.boxed HB2.out (by omega) HO2.out _ _)
    · intro hbz
      rw [if_neg hbz]
      have hbb : (busF busy != 0) = true := by simpa using hbz
      clear step hbz
      go_enter Tryz.func37, Tryz.ntmps37
      go_wp2_with fail
      generalize ((w.alloc (.cells #[.slice a1 n1 c1, .slice a2 n2 c2] 31)).alloc (.cells #[.int .i64 0, .slice none 0 0] 62)) = W0 at *
      refine HBY.out.mono ?_
      rintro e w1 ⟨ay, ny, cy, rfl, hb1, ho1⟩
      have HB1 : Hid (Below w.heap.size w w1) := HB0.out.trans (hb1.mono HB0.out.size)
      have HR1 : Hid (OwnRow w1 (w.heap.size + 1) 2 (fun i => if i = 0 then .int .i64 0 else .slice none 0 0)) := HRS.out.later hb1
      have hlw : w.heap.size + 1 < w1.heap.size := HR1.out.lt
      clear hb1 ho1 he2 hr0
      generalize (bytR d xx).1 = r at *
      go_wp2_with fail
      refine (HBF.out _ (HB1.out.trans ((later1 _ _).mono HB1.out.size))).mono ?_
      rintro e w2 ⟨rfl, hb2⟩
      have hb2' : Below w1.heap.size w1 w2 := (later1 _ _).trans (hb2.mono (by simp))
      have HB2 : Hid (Below w.heap.size w w2) := HB1.out.trans (hb2'.mono HB1.out.size)
      have hrr := HR1.out.later hb2'
      have t0 := hrr.cell (i := 0) (by omega)
      have t1 := hrr.cell (i := 1) (by omega)
      have s0 := hrr.frozen 0
      have s1 := hrr.frozen 1
      simp at t0 t1
      clear hb2 hb2' hrr
      generalize busF busy = q at *
      go_wp2
      exact bodyPost_ret (v := .agg #[.int .i64 q, .slice none 0 0]) (by simp [results, Tryz.results37, go_sem, t0, t1]) rfl (AnsYR.boxed HB2.out (by omega) (Or.inl ⟨rfl, none, 0, rfl⟩) _ _)
end Go.Proofs.YtedpooagalmgdamGreat

namespace Go.Proofs.YtedpooagalmgdamGreat
open Go.RowKit
set_option maxRecDepth 100000

def zero3 : List Value := [.int .i64 0, .slice none 0 0, .slice none 0 0]
theorem row3 (w : World) (t : TypeId) : OwnRow (w.alloc (.cells #[.int .i64 0, .slice none 0 0, .slice none 0 0] t)) w.heap.size 3 (cel zero3) := newCel w zero3 t
theorem setZ_ino (w : World) (F : Nat → Prop) : InoU w (.int .i64 id0.1) (.int .i64 id0.2.1) (.int .i64 id0.2.2.1) (.slice none 0 0) (.slice none 0 0) id0 F := ⟨⟨rfl, rfl, rfl, none, 0, 0, rfl, Nat.le_refl _⟩, fun _ => False, fun _ => False, Or.inl ⟨rfl, none, 0, rfl⟩, Or.inl ⟨rfl, none, 0, rfl⟩, fun _ h => h.elim, fun _ h => h.elim False.elim False.elim⟩
set_option maxHeartbeats 1600000 in
theorem dropF_any (w0 w : World) (bf bI n cI bD cD : Nat) (d : FD) (j : Nat) (x : ID) (aB : Option Addr) (cB : Nat) (aE : Option Addr) (cE : Nat) (h : FileS w0 w bf bI n cI bD cD d j x aB cB aE cE) (hr : ∀ k : Nat, k < x.2.2.2.1.length → 0 ≤ x.2.2.2.1[k]?.getD 0 ∧ x.2.2.2.1[k]?.getD 0 < 20) (h4 : x.2.2.2.1.length ≤ 4) :
    Calls Tryz.prog 58 #[.pointer (some ⟨bf, 0, none⟩)] w fun e w' => e = .returned (.tuple #[]) ∧ FileS w0 w' bf bI n cI bD cD (d.1, clrK d.2 x.2.2.2.1 x.2.2.2.1.length) j id0 none 0 none 0 := by
  have HFL : Hid (FileS w0 w bf bI n cI bD cD d j x aB cB aE cE) := h
  have hne := h.fs.ne
  have hnf : w0.heap.size ≤ bf := h.new
  have HDB : Hid (Calls Tryz.prog 76 #[.pointer (some ⟨bf, 0, none⟩)] w fun e w' => e = .returned (.tuple #[]) ∧ Chg (fun c => c = bD) w w' ∧ FsS w' bI n cI bD 20 cD (d.1, clrK d.2 x.2.2.2.1 x.2.2.2.1.length) (fun c => w0.heap.size ≤ c ∧ c ≠ bf)) := dropBytes_any w bf bI n cI bD cD d _ _ aB cB x.2.2.2.1 rfl h.box rfl rfl h.fs (fun e => hne.2.2.1.2 e.symm) h.blk hr h4
  clear h hr h4
  go_enter Tryz.func58, Tryz.ntmps58
  go_wp2_with fail
  refine HDB.out.mono ?_
  rintro e w3 ⟨rfl, hc3, hf3⟩
  have HBX3 : Hid (OwnRow w3 bf 8 _) := HFL.out.box.block (hc3.block bf HFL.out.box.lt (fun e => hne.2.2.1.2 e.symm))
  have HB3 : Hid (Below w0.heap.size w0 w3) := HFL.out.below.trans (hc3.below HFL.out.below.size fun b hb => hb ▸ hne.2.2.1.1)
  have HF3 : Hid (FsS w3 bI n cI bD 20 cD (d.1, clrK d.2 x.2.2.2.1 x.2.2.2.1.length) (fun c => w0.heap.size ≤ c ∧ c ≠ bf)) := hf3
  clear hc3 hf3 HDB
  go_wp2_with fail
  refine (release_any w3 bf _ HBX3.out).mono ?_
  rintro e w4 ⟨rfl, hw4⟩
  have HC4 : Hid (Chg (fun c => c = bf) w3 w4) := by
    unfold Hid
    rw [hw4]
    have h0 : Chg (fun c => c = bf) w3 w3 := Chg.refl _ _
    have h1 := Chg.set (F := fun c => c = bf) h0 rfl 0 (.int .i64 0)
    have h2 := Chg.set (F := fun c => c = bf) h1 rfl (0 + 1) (.int .i64 0)
    have h3 := Chg.set (F := fun c => c = bf) h2 rfl (0 + 2) (.int .i64 0)
    have h4 := Chg.set (F := fun c => c = bf) h3 rfl (0 + 3) (.slice none 0 0)
    exact Chg.set (F := fun c => c = bf) h4 rfl (0 + 4) (.slice none 0 0)
  have HBX4 : Hid (OwnRow w4 bf 8 (cel [.int .i64 id0.1, .int .i64 id0.2.1, .int .i64 id0.2.2.1, .slice none 0 0, .slice none 0 0, .int .i64 (j : Int), .slice (some ⟨bI, 0, none⟩) n cI, .slice (some ⟨bD, 0, none⟩) 20 cD])) := by
    unfold Hid
    rw [hw4]
    refine (HBX3.out.five 0 _ _ _ _ _).congr fun i hi => ?_
    match i, hi with
    | 0, _ => rfl
    | 1, _ => rfl
    | 2, _ => rfl
    | 3, _ => rfl
    | 4, _ => rfl
    | 5, _ => rfl
    | 6, _ => rfl
    | 7, _ => rfl
  have HFIN : Hid (FileS w0 w4 bf bI n cI bD cD (d.1, clrK d.2 x.2.2.2.1 x.2.2.2.1.length) j id0 none 0 none 0) := ⟨HB3.out.trans (HC4.out.below HB3.out.size fun b hb => hb ▸ hnf), hnf, HBX4.out, HF3.out.chg HC4.out fun b hb e => hb.2 e, fun k hk => by simp [id0] at hk⟩
  clear hw4 HC4 HBX3 HF3 HB3
  go_wp2
  go_end0
  exact ⟨rfl, HFIN.out⟩
set_option maxHeartbeats 6400000 in
theorem implDropU (w : World) (a1 : Option Addr) (n1 c1 : Nat) (a2 : Option Addr) (n2 c2 : Nat) (d : FD) (xx : Int) (h : FsR w (.slice a1 n1 c1) (.slice a2 n2 c2) d) (hs : sizeFs d ≤ 1048576) :
    Calls Tryz.prog 28 #[.agg #[.slice a1 n1 c1, .slice a2 n2 c2], .int .i64 xx] w (AnsFR w (dropR d xx)) := by
  have HRR : Hid (dropR d xx = if (bytR d xx).1 = 0 then (0, dropD d xx.toNat) else noFs (bytR d xx).1) := rfl
  rw [HRR.out]
  clear HRR
  have HB0 : Hid (Below w.heap.size w ((w.alloc (.cells #[.slice a1 n1 c1, .slice a2 n2 c2] 31)).alloc (.cells #[.int .i64 0, .slice none 0 0, .slice none 0 0] 33))) := later2 _ _ _
  have hz0 : ((w.alloc (.cells #[.slice a1 n1 c1, .slice a2 n2 c2] 31)).alloc (.cells #[.int .i64 0, .slice none 0 0, .slice none 0 0] 33)).heap.size = w.heap.size + 2 := by simp
  have HBX : Hid (Bx ((w.alloc (.cells #[.slice a1 n1 c1, .slice a2 n2 c2] 31)).alloc (.cells #[.int .i64 0, .slice none 0 0, .slice none 0 0] 33)) w.heap.size [.slice a1 n1 c1, .slice a2 n2 c2]) := (Bx.new w [.slice a1 n1 c1, .slice a2 n2 c2] _).later (later1 _ _)
  have HRS : Hid (OwnRow ((w.alloc (.cells #[.slice a1 n1 c1, .slice a2 n2 c2] 31)).alloc (.cells #[.int .i64 0, .slice none 0 0, .slice none 0 0] 33)) (w.heap.size + 1) 3 (cel zero3)) := by
    have p2 := row3 (w.alloc (.cells #[.slice a1 n1 c1, .slice a2 n2 c2] 31)) 33
    rw [World.size_alloc] at p2
    exact p2
  have HBY : Hid (∀ W, Below w.heap.size w W → Calls Tryz.prog 57 #[.agg #[.slice a1 n1 c1, .slice a2 n2 c2], .int .i64 xx] W (AnsYR W (bytR d xx))) := fun W hW => implBytU W a1 n1 c1 a2 n2 c2 d xx (h.later hW) hs
  by_cases hc : (bytR d xx).1 = 0
  rotate_left
  · rw [if_neg hc]
    have hcb : ((bytR d xx).1 != 0) = true := by simpa using hc
    clear h hs hc
    go_enter Tryz.func28, Tryz.ntmps28
    go_wp2_with fail
    generalize ((w.alloc (.cells #[.slice a1 n1 c1, .slice a2 n2 c2] 31)).alloc (.cells #[.int .i64 0, .slice none 0 0, .slice none 0 0] 33)) = W0 at *
    refine (HBY.out _ HB0.out).mono ?_
    rintro e w1 ⟨ay, ny, cy, rfl, hb1, _⟩
    have HB1 : Hid (Below w.heap.size w w1) := HB0.out.trans (hb1.mono HB0.out.size)
    have hrr := HRS.out.later hb1
    have t0 : w1.cell? ⟨w.heap.size + 1, 0, none⟩ = some (.int .i64 0) := hrr.cell (i := 0) (by omega)
    have t1 : w1.cell? ⟨w.heap.size + 1, 1, none⟩ = some (.slice none 0 0) := hrr.cell (i := 1) (by omega)
    have t2 : w1.cell? ⟨w.heap.size + 1, 2, none⟩ = some (.slice none 0 0) := hrr.cell (i := 2) (by omega)
    have s0 := hrr.frozen 0
    have s1 := hrr.frozen 1
    have s2 := hrr.frozen 2
    have hlw : w.heap.size + 1 < w1.heap.size := hrr.lt
    clear hb1 hrr
    generalize (bytR d xx).1 = r at *
    go_wp2
    exact bodyPost_ret (v := .agg #[.int .i64 r, .slice none 0 0, .slice none 0 0]) (by simp [results, Tryz.results28, go_sem, t0, t1, t2, hlw]) rfl ((AnsFR.none' r HB1.out (by omega) _ _ _).later (later1 _ _))
  · rw [if_pos hc]
    have hsd := sound hc
    obtain ⟨_, _, hpl, _, _⟩ := bytR_code hc
    obtain ⟨j, rfl⟩ : ∃ j : Nat, xx = (j : Int) := ⟨xx.toNat, by omega⟩
    rw [Int.toNat_natCast] at hsd ⊢
    have HSD : Hid (Sound d j) := hsd
    have HOP : Hid (∀ W, Below w.heap.size w W → Calls Tryz.prog 40 #[.agg #[.slice a1 n1 c1, .slice a2 n2 c2], .int .i64 (j : Int)] W fun e w' => ∃ bf bI cI bD cD aB cB aE cE, e = .returned (.pointer (some ⟨bf, 0, none⟩)) ∧ FileS W w' bf bI d.1.length cI bD cD d j (d.1[j]?.getD id0) aB cB aE cE) := fun W hW => openFile_any W a1 n1 c1 a2 n2 c2 d j (h.later hW) hs hsd.dat hsd.lt hsd.ten
    have hcb : ((bytR d (j : Int)).1 != 0) = false := by simpa using hc
    clear h hs hc hpl hsd
    go_enter Tryz.func28, Tryz.ntmps28
    go_wp2_with fail
    generalize ((w.alloc (.cells #[.slice a1 n1 c1, .slice a2 n2 c2] 31)).alloc (.cells #[.int .i64 0, .slice none 0 0, .slice none 0 0] 33)) = W0 at *
    refine (HBY.out _ HB0.out).mono ?_
    rintro e w1 ⟨ay, ny, cy, rfl, hb1, _⟩
    have HB1 : Hid (Below w.heap.size w w1) := HB0.out.trans (hb1.mono HB0.out.size)
    have HR1 : Hid (OwnRow w1 (w.heap.size + 1) 3 (cel zero3)) := HRS.out.later hb1
    have x0 := (HBX.out.later hb1) 0 _ rfl
    have x1 := (HBX.out.later hb1) 1 _ rfl
    have hlw : w.heap.size + 1 < w1.heap.size := HR1.out.lt
    have hlw0 : w.heap.size < w1.heap.size := by omega
    clear hb1 HBY HBX HRS HB0 hz0
    generalize (bytR d (j : Int)).1 = r at *
    have HB1' : Hid (Below w.heap.size w (w1.alloc (.cells #[.int .i64 r, .slice ay ny cy] 62))) := HB1.out.trans ((later1 _ _).mono HB1.out.size)
    have HR1' : Hid (OwnRow (w1.alloc (.cells #[.int .i64 r, .slice ay ny cy] 62)) (w.heap.size + 1) 3 (cel zero3)) := HR1.out.later (later1 _ _)
    have hz1 : (w1.alloc (.cells #[.int .i64 r, .slice ay ny cy] 62)).heap.size = w1.heap.size + 1 := by simp
    go_wp2_with fail
    generalize (w1.alloc (.cells #[.int .i64 r, .slice ay ny cy] 62)) = W1 at *
    clear x0 x1 HB1 HR1
    refine (HOP.out _ HB1'.out).mono ?_
    rintro e w2 ⟨bf, bI, cI, bD, cD, aB, cB, aE, cE, rfl, hfl⟩
    have HFL : Hid (FileS W1 w2 bf bI d.1.length cI bD cD d j (d.1[j]?.getD id0) aB cB aE cE) := hfl
    have hne := hfl.fs.ne
    clear hfl HOP
    go_wp2_with fail
    refine (dropF_any W1 w2 bf bI d.1.length cI bD cD d j (d.1[j]?.getD id0) aB cB aE cE HFL.out HSD.out.blk HSD.out.four).mono ?_
    rintro e w4 ⟨rfl, hf4⟩
    have HBX4 : Hid (OwnRow w4 bf 8 (cel [.int .i64 id0.1, .int .i64 id0.2.1, .int .i64 id0.2.2.1, .slice none 0 0, .slice none 0 0, .int .i64 (j : Int), .slice (some ⟨bI, 0, none⟩) d.1.length cI, .slice (some ⟨bD, 0, none⟩) 20 cD])) := hf4.box
    have HF4 : Hid (FsS w4 bI d.1.length cI bD 20 cD (d.1, clrK d.2 (blkA d j) (blkA d j).length) (fun c => W1.heap.size ≤ c ∧ c ≠ bf)) := hf4.fs
    have HB4 : Hid (Below W1.heap.size W1 w4) := hf4.below
    clear hf4 HFL
    go_wp2_with fail
    refine (close_any w4 bf bI d.1.length cI bD cD _ _ (fun _ => False) j id0 none 0 0 none 0 0 HBX4.out HF4.out (fun e => hne.2.1.1.2 e.symm) HSD.out.lt HSD.out.ten (setZ_ino _ _) (fun c hc => hc.elim)).mono ?_
    rintro e w5 ⟨rfl, hc5, hf5⟩
    have HB5 : Hid (Below W1.heap.size W1 w5) := HB4.out.trans (hc5.below HB4.out.size fun b hb => hb ▸ hne.2.1.1.1)
    have hs1 : w.heap.size + 1 < W1.heap.size := HR1'.out.lt
    have HFS : Hid (FsU w5 (.slice (some ⟨bI, 0, none⟩) d.1.length cI) (.slice (some ⟨bD, 0, none⟩) 20 cD) (dropD d j) (fun b => w.heap.size ≤ b ∧ b < w5.heap.size ∧ b ≠ w.heap.size + 1)) := hf5.fsB.mono fun b hb => by
      rcases hb.1 with h | h
      · exact ⟨by omega, hb.2, by omega⟩
      · exact h.elim
    have HB : Hid (Below w.heap.size w w5) := HB1'.out.trans (HB5.out.mono HB1'.out.size)
    have hrr := HR1'.out.later HB5.out
    have t0 : w5.cell? ⟨w.heap.size + 1, 0, none⟩ = some (.int .i64 0) := hrr.cell (i := 0) (by omega)
    have t1 : w5.cell? ⟨w.heap.size + 1, 1, none⟩ = some (.slice none 0 0) := hrr.cell (i := 1) (by omega)
    have t2 : w5.cell? ⟨w.heap.size + 1, 2, none⟩ = some (.slice none 0 0) := hrr.cell (i := 2) (by omega)
    have s0 := hrr.frozen 0
    have s1 := hrr.frozen 1
    have s2 := hrr.frozen 2
    clear hrr hc5 hf5 HB5 HB4 HF4 HBX4
    go_wp2
    exact bodyPost_ret (v := .agg #[.int .i64 0, .slice (some ⟨bI, 0, none⟩) d.1.length cI, .slice (some ⟨bD, 0, none⟩) 20 cD]) (by simp [results, Tryz.results28, go_sem, t0, t1, t2]) rfl (AnsFR.put HB.out (by omega) HFS.out _ _ _)
end Go.Proofs.YtedpooagalmgdamGreat

namespace Go.Proofs.YtedpooagalmgdamGreat
open Go.RowKit
set_option maxRecDepth 100000

theorem bl_irr : ∀ x : List UInt8, Op.bytesLess x x = false
  | [] => by simp [Op.bytesLess]
  | a :: x => by
    have h : ¬ a < a := by rw [UInt8.lt_iff_toNat_lt]; omega
    simp [Op.bytesLess, bl_irr x, h]
theorem bl_trans : ∀ {x y z : List UInt8}, Op.bytesLess x y = true → Op.bytesLess y z = true → Op.bytesLess x z = true
  | [], [], _, h1, _ => by simp [Op.bytesLess] at h1
  | [], _ :: _, [], _, h2 => by simp [Op.bytesLess] at h2
  | [], _ :: _, _ :: _, _, _ => by simp [Op.bytesLess]
  | _ :: _, [], _, h1, _ => by simp [Op.bytesLess] at h1
  | _ :: _, _ :: _, [], _, h2 => by simp [Op.bytesLess] at h2
  | a :: x, b :: y, c :: z, h1, h2 => by
    simp only [Op.bytesLess, Bool.or_eq_true, Bool.and_eq_true, decide_eq_true_eq, beq_iff_eq] at h1 h2 ⊢
    rcases h1 with h1 | ⟨rfl, h1⟩
    · rcases h2 with h2 | ⟨rfl, h2⟩
      · left; rw [UInt8.lt_iff_toNat_lt] at h1 h2 ⊢; omega
      · exact Or.inl h1
    · rcases h2 with h2 | ⟨rfl, h2⟩
      · exact Or.inl h2
      · exact Or.inr ⟨rfl, bl_trans h1 h2⟩
theorem bl_total : ∀ {x y : List UInt8}, Op.bytesLess x y = false → (x == y) = false → Op.bytesLess y x = true
  | [], [], _, h2 => by simp at h2
  | [], _ :: _, h1, _ => by simp [Op.bytesLess] at h1
  | _ :: _, [], _, _ => by simp [Op.bytesLess]
  | a :: x, b :: y, h1, h2 => by
    simp only [Op.bytesLess, Bool.or_eq_false_iff, Bool.and_eq_false_iff, decide_eq_false_iff_not] at h1
    simp only [Op.bytesLess, Bool.or_eq_true, Bool.and_eq_true, decide_eq_true_eq, beq_iff_eq]
    obtain ⟨h1, h3⟩ := h1
    by_cases e : a = b
    · subst e
      right
      refine ⟨rfl, bl_total ?_ ?_⟩
      · rcases h3 with h3 | h3
        · simp at h3
        · exact h3
      · simpa using h2
    · left
      rw [UInt8.lt_iff_toNat_lt] at h1 ⊢
      have : a.toNat ≠ b.toNat := fun h => e (UInt8.toNat_inj.1 h)
      omega
/-- The name of an entry is s; it is not below s. -/
def eqE (s : ByteArray) (e : EN) : Bool := e.1.toList == s.toList
def geE (s : ByteArray) (e : EN) : Bool := !(Op.bytesLess e.1.toList s.toList)
def idxE (es : List EN) (s : ByteArray) : Nat := es.findIdx (eqE s)
def plcE (es : List EN) (s : ByteArray) : Nat := es.findIdx (geE s)
def fndB (es : List EN) (s : ByteArray) : Bool := decide (plcE es s < es.length) && eqE s (es[plcE es s]?.getD en0)
theorem getD_el {es : List EN} {k : Nat} (h : k < es.length) : es[k]?.getD en0 = es[k] := by rw [List.getElem?_eq_getElem h]; rfl
theorem findIdx_is {p : EN → Bool} {es : List EN} {k : Nat} (hk : k < es.length) (h : p (es[k]?.getD en0) = true) (ha : ∀ j, j < k → p (es[j]?.getD en0) = false) : es.findIdx p = k := by
  rw [List.findIdx_eq hk]
  exact ⟨by rw [← getD_el hk]; exact h, fun j hj => by have := ha j hj; rw [getD_el (by omega)] at this; exact this⟩
theorem findIdx_no {p : EN → Bool} {es : List EN} (ha : ∀ j, j < es.length → p (es[j]?.getD en0) = false) : es.findIdx p = es.length := by
  rw [List.findIdx_eq_length]
  intro e he
  obtain ⟨j, hj, rfl⟩ := List.mem_iff_getElem.1 he
  have := ha j hj
  rw [getD_el hj] at this
  exact this
theorem findIdx_le {p : EN → Bool} (es : List EN) : es.findIdx p ≤ es.length := List.findIdx_le_length
theorem findIdx_at {p : EN → Bool} {es : List EN} (h : es.findIdx p < es.length) : p (es[es.findIdx p]?.getD en0) = true := by
  rw [getD_el h]; exact List.findIdx_getElem
theorem findIdx_lt {p : EN → Bool} {es : List EN} {j : Nat} (h : j < es.findIdx p) : p (es[j]?.getD en0) = false := by
  have := findIdx_le (p := p) es
  rw [getD_el (by omega)]
  have := List.not_of_lt_findIdx h
  simpa using this
/-- The names rise. -/
def Rises (es : List EN) : Prop := ∀ i, i + 1 < es.length → Op.bytesLess (es[i]?.getD en0).1.toList (es[i + 1]?.getD en0).1.toList = true
theorem Rises.lt {es : List EN} (h : Rises es) : ∀ {i k : Nat}, i < k → k < es.length → Op.bytesLess (es[i]?.getD en0).1.toList (es[k]?.getD en0).1.toList = true := by
  intro i k
  induction k with
  | zero => intro h0; omega
  | succ k ih =>
    intro h1 h2
    have h3 := h k h2
    by_cases e : i = k
    · subst e; exact h3
    · exact bl_trans (ih (by omega) (by omega)) h3
theorem eqE_self {s : ByteArray} {e : EN} (h : eqE s e = true) : e.1.toList = s.toList := by simpa [eqE] using h
theorem idx_plc {es : List EN} (h : Rises es) {s : ByteArray} (hi : idxE es s < es.length) : plcE es s = idxE es s := by
  have he := eqE_self (findIdx_at hi)
  refine findIdx_is hi ?_ fun j hj => ?_
  · unfold geE
    have h1 : (es[idxE es s]?.getD en0).1.toList = s.toList := he
    rw [h1, bl_irr]; rfl
  · unfold geE
    have h1 : (es[idxE es s]?.getD en0).1.toList = s.toList := he
    rw [← h1, h.lt hj hi]; rfl
theorem fnd_iff {es : List EN} (h : Rises es) (s : ByteArray) : fndB es s = decide (idxE es s < es.length) := by
  by_cases hi : idxE es s < es.length
  · rw [decide_eq_true hi]
    unfold fndB
    rw [idx_plc h hi, decide_eq_true hi]
    exact findIdx_at hi
  · rw [decide_eq_false hi]
    unfold fndB
    by_cases hp : plcE es s < es.length
    · rw [decide_eq_true hp, Bool.true_and]
      by_cases he : eqE s (es[plcE es s]?.getD en0) = true
      · exfalso
        apply hi
        have h1 : es.findIdx (eqE s) ≤ plcE es s := by
          by_cases h2 : plcE es s < es.findIdx (eqE s)
          · have := findIdx_lt h2; rw [he] at this; exact absurd this (by decide)
          · omega
        have h2 : idxE es s = es.findIdx (eqE s) := rfl
        omega
      · simpa using he
    · rw [decide_eq_false hp]; rfl

/-- The entries of the inode at a place. -/
def entA (d : FD) (j : Nat) : List EN := (d.1[j]?.getD id0).2.2.2.2
/-- What functions of directories ask alike. -/
def dirQ (d : FD) (x : Int) : Int := if fsE d = 0 then (if 0 ≤ x ∧ x < (d.1.length : Int) then (if kindAt d.1 x.toNat = 2 then 0 else 9) else 3) else fsE d
def dirN (d : FD) (x : Int) (s : ByteArray) : Int := if dirQ d x = 0 then nameF s else dirQ d x
/-- IsEmptyDir, LookName, NamesIn. -/
def emptyB (d : FD) (x : Int) : Bool := decide (dirQ d x = 0) && decide ((entA d x.toNat).length = 0)
def lookR (d : FD) (x : Int) (s : ByteArray) : Int × Int := if dirN d x s = 0 then (if idxE (entA d x.toNat) s < (entA d x.toNat).length then (0, ((entA d x.toNat)[idxE (entA d x.toNat) s]?.getD en0).2) else (4, 0)) else (dirN d x s, 0)
def namesD (d : FD) (x : Int) : Int × List (List UInt8) := if dirQ d x = 0 then (0, (entA d x.toNat).map fun e => e.1.toList) else (dirQ d x, [])
/-- What stands where a directory is told. -/
structure DirS (d : FD) (j : Nat) : Prop where
  fs : fsE d = 0
  lt : j < d.1.length
  ten : d.1.length ≤ 10
  dat : d.2.length = 20
  eight : ∀ i : Nat, (d.2[i]?.getD []).length ≤ 8
  kind : (d.1[j]?.getD id0).1 = 2
  six : (entA d j).length ≤ 6
  rises : Rises (entA d j)
  names : ∀ k : Nat, k < (entA d j).length → nameF ((entA d j)[k]?.getD en0).1 = 0
  ins : insF d.1 = 0
  leads : ∀ j, j < d.1.length → ∀ k, k < (d.1[j]?.getD id0).2.2.2.2.length → 0 ≤ ((d.1[j]?.getD id0).2.2.2.2[k]?.getD en0).2 ∧ ((d.1[j]?.getD id0).2.2.2.2[k]?.getD en0).2 < (d.1.length : Int)
theorem dirQ_in {d : FD} {x : Int} (h : dirQ d x = 0) : fsE d = 0 ∧ (0 ≤ x ∧ x < (d.1.length : Int)) ∧ kindAt d.1 x.toNat = 2 := by
  unfold dirQ at h
  by_cases hf : fsE d = 0
  · rw [if_pos hf] at h
    by_cases hp : 0 ≤ x ∧ x < (d.1.length : Int)
    · rw [if_pos hp] at h
      by_cases hk : kindAt d.1 x.toNat = 2
      · exact ⟨hf, hp, hk⟩
      · rw [if_neg hk] at h; omega
    · rw [if_neg hp] at h; omega
  · rw [if_neg hf] at h; exact absurd h hf
theorem ino_dir {x : ID} (h : inoF x = 0) (hk : x.1 = 2) : dirF x.2.2.2.2 = 0 := by
  unfold inoF at h
  rw [if_neg (by omega), if_neg (by omega), if_pos hk] at h
  by_cases hd : fpB x = true
  · rw [if_pos hd] at h; omega
  · rw [if_neg hd] at h; exact h
theorem dir_rises {es : List EN} (h : dirF es = 0) : Rises es ∧ (∀ k : Nat, k < es.length → nameF (es[k]?.getD en0).1 = 0) ∧ es.length ≤ 6 := by
  unfold dirF at h
  by_cases h6 : 6 < es.length
  · rw [if_pos h6] at h; omega
  · rw [if_neg h6] at h
    have hz := fstNZ_inv h
    have hn : ∀ k : Nat, k < es.length → nameF (es[k]?.getD en0).1 = 0 := fun k hk => by
      have := hz k hk
      unfold entF at this
      by_cases e : nameF (es[k]?.getD en0).1 = 0
      · exact e
      · rw [if_neg e] at this; exact absurd this e
    refine ⟨fun i hi => ?_, hn, by omega⟩
    have := hz (i + 1) hi
    unfold entF at this
    rw [if_pos (hn _ hi)] at this
    by_cases e : 0 ≤ (es[i + 1]?.getD en0).2 ∧ (es[i + 1]?.getD en0).2 ≤ 9
    · rw [if_pos e] at this
      by_cases e2 : 0 < i + 1 ∧ strLe (es[i + 1]?.getD en0).1 (es[i + 1 - 1]?.getD en0).1 = true
      · rw [if_pos e2] at this; omega
      · have e3 : strLe (es[i + 1]?.getD en0).1 (es[i]?.getD en0).1 = false := by
          rw [show i + 1 - 1 = i by omega] at e2
          simpa using e2
        unfold strLe at e3
        rw [Bool.or_eq_false_iff] at e3
        obtain ⟨e4, e5⟩ := e3
        exact bl_total e4 e5
    · rw [if_neg e] at this; omega
theorem dirS {d : FD} {x : Int} (h : dirQ d x = 0) : DirS d x.toNat := by
  obtain ⟨hf, hp, hk⟩ := dirQ_in h
  obtain ⟨h1, g2, h3, _, h5⟩ := fsE_zero hf
  obtain ⟨_, _, g3⟩ := formB_no g2
  have hj : x.toNat < d.1.length := by omega
  have hd := dir_rises (ino_dir (ins_ino h1 x.toNat hj) hk)
  exact ⟨hf, hj, insF_ten h1, g3, many_eight h3, hk, hd.2.2, hd.1, hd.2.1, h1, lost_in h1 h5⟩
end Go.Proofs.YtedpooagalmgdamGreat
