/- ReadFile, the specification's and the program's. The program's file at work: settled, and which bytes stand in a block. The program's file at work: written. The program's DropName: a file that an entry less leads to. -/
import Derived.Test.YtpfafcodihhdfaaGreatDoorM15
import Derived.Test.YtpfafcodihhdfaaGreatDoorM21
import Derived.Test.YtpfafcodihhdfaaGreatDoorM11
import Derived.Deep.RegionLaw
import Derived.Test.YtpfafcodihhdfaaGreatDoorM23
import Derived.Test.YtpfafcodihhdfaaGreatDoorM24
import Derived.Test.YtpfafcodihhdfaaGreatDoorM18
namespace Go.Proofs.YtpfafcodihhdfaaGreatDoor
open Go.RowKit
set_option maxRecDepth 100000

theorem slice_Y (a : Option Addr) (n c lo hi : Nat) (h1 : lo ≤ hi) (h2 : hi ≤ n) (h3 : n ≤ c) :
    ∃ A C, (∀ W : World, (Instr.sliceAt 37 (.slice a n c) (some (.int .i64 (lo : Int))) (some (.int .i64 (hi : Int))) none).run Tryz.prog W = .ok (.slice A (hi - lo) C) W) ∧ ∀ (W : World) (zs : List UInt8), zs.length = n → Byt W (.slice a n c) zs → Byt W (.slice A (hi - lo) C) ((zs.drop lo).take (hi - lo)) := by
  obtain ⟨i, hi0, _, hi2, _⟩ := Tryz.infoByte'
  refine ⟨if c - lo = 0 then a else a.map (·.add (lo * 1)), c - lo, fun W => ?_, fun W zs hz h => ?_⟩
  · have e2 : hi ≤ c := by omega
    simp [Instr.sliceAt, Instr.slice, Instr.sliceBounds, Instr.sliceBound, asIntOf, run_underlying Tryz.underlying37, sizeOf, typeInfo, hi0, hi2, e2, h1]
    by_cases hcl : c = lo
    · rw [if_pos hcl, if_pos (by omega)]
    · rw [if_neg hcl, if_neg (by omega)]
  · have hl : ((zs.drop lo).take (hi - lo)).length = hi - lo := by rw [List.length_take, List.length_drop]; omega
    obtain ⟨a', cap, e, hm, hat⟩ := h
    simp only [Value.slice.injEq] at e
    obtain ⟨rfl, _, rfl⟩ := e
    refine ⟨_, _, by rw [hl], ⟨by rw [hl]; have := hm.1; omega, by rw [hl]; omega⟩, fun k hk => ?_⟩
    rw [hl] at hk
    obtain ⟨b, off, rfl, hc⟩ := hat (lo + k) (by omega)
    rw [if_neg (by omega)]
    refine ⟨b, off + lo, by simp [Addr.add], ?_⟩
    rw [List.getElem?_take, if_pos hk, List.getElem?_drop]
    rw [Nat.add_assoc]
    exact hc
/-- The part of a list as the walk has it. -/
def cutA (a : Option Addr) (c lo : Nat) : Option Addr := if c = lo then a else Option.map (fun x => x.add lo) a
theorem cut_Y {W : World} {a : Option Addr} {n c lo hi : Nat} (h2 : hi ≤ n) (h3 : n ≤ c) {zs : List UInt8} (hz : zs.length = n) (h : Byt W (.slice a n c) zs) : Byt W (.slice (cutA a c lo) (hi - lo) (c - lo)) ((zs.drop lo).take (hi - lo)) := by
  have hl : ((zs.drop lo).take (hi - lo)).length = hi - lo := by rw [List.length_take, List.length_drop]; omega
  obtain ⟨a', cap, e, hm, hat⟩ := h
  simp only [Value.slice.injEq] at e
  obtain ⟨rfl, _, rfl⟩ := e
  refine ⟨_, _, by rw [hl], ⟨by rw [hl]; have := hm.1; omega, by rw [hl]; omega⟩, fun k hk => ?_⟩
  rw [hl] at hk
  obtain ⟨b, off, rfl, hc⟩ := hat (lo + k) (by omega)
  unfold cutA
  rw [if_neg (by omega)]
  refine ⟨b, off + lo, by simp [Addr.add], ?_⟩
  rw [List.getElem?_take, if_pos hk, List.getElem?_drop, Nat.add_assoc]
  exact hc
section
variable {P : Program} {w : World}
theorem wpList_slice_run {ops : Array Oper} {rest : List Oper} {o : Oper} {a : Act} {Q : Exit → Act → World → Prop} (hgd : o.guard = none) (t : TypeId) (x lo hi : Operand) (ho : o.op = .slice t x (some lo) (some hi) none) (v vl vh : Value) (hx : a.eval x = v) (hl : a.eval lo = vl) (hh : a.eval hi = vh) (v' : Value)
    (hr : (Instr.sliceAt t v (some vl) (some vh) none).run P w = .ok v' w) (h : wpList P ops Q rest (a.put o.dst v') w) : wpList P ops Q (o :: rest) a w := by
  refine wpList_plain hgd fun K hK => ?_
  unfold Oper.wp execOp
  simp only [ho, Sem.run_bind, Sem.run_pure, Result.andThen_ok, Option.map_some, Option.map_none, hx, hl, hh, hr]
  exact hK _ _ h
theorem step_slice_run {ops : Array Oper} {o : Oper} {a : Act} {K : Act → World → Prop} {Q : Exit → Act → World → Prop} {E : Prop} (hgd : o.guard = none) (t : TypeId) (x lo hi : Operand) (ho : o.op = .slice t x (some lo) (some hi) none) (v vl vh : Value) (hx : a.eval x = v) (hl : a.eval lo = vl) (hh : a.eval hi = vh) (v' : Value)
    (hr : (Instr.sliceAt t v (some vl) (some vh) none).run P w = .ok v' w) (h : K (a.put o.dst v') w) : if Region.wanted o (yielded ops a.tmps) = true then Oper.wp P o a w K Q else E := by
  have hw : Region.wanted o (yielded ops a.tmps) = true := by simp [Region.wanted, hgd]
  rw [if_pos hw]
  unfold Oper.wp execOp
  simp only [ho, Sem.run_bind, Sem.run_pure, Result.andThen_ok, Option.map_some, Option.map_none, hx, hl, hh, hr]
  exact h
end
theorem cutY_eq (zs : List UInt8) (p n : Nat) : (zs.drop (min p zs.length)).take (min zs.length (min p zs.length + n) - min p zs.length) = cutY zs p n := by
  unfold cutY
  apply List.ext_getElem?
  intro i
  rw [List.getElem?_take, List.getElem?_take, List.getElem?_drop, List.getElem?_drop]
  by_cases h : p ≤ zs.length
  · rw [Nat.min_eq_left h]
    by_cases hi : i < n
    · rw [if_pos hi]
      by_cases h2 : p + i < zs.length
      · rw [if_pos (by omega)]
      · rw [List.getElem?_eq_none (by omega)]; split <;> rfl
    · rw [if_neg hi, if_neg (by omega)]
  · rw [List.getElem?_eq_none (show zs.length ≤ p + i by omega), List.getElem?_eq_none (show zs.length ≤ min p zs.length + i by omega)]
    split <;> split <;> rfl
theorem cutY_eq' (zs : List UInt8) (p n : Nat) : (zs.drop (min p zs.length)).take (min (p + n) zs.length - min p zs.length) = cutY zs p n := by
  rw [← cutY_eq]
  by_cases h : p ≤ zs.length
  · rw [Nat.min_eq_left h, Nat.min_comm (p + n)]
  · have e1 : min p zs.length = zs.length := by omega
    rw [e1, List.drop_eq_nil_of_le (Nat.le_refl _)]
    simp
theorem l1Min_nat (w : World) (x y : Int) (r : Nat) (h : min x y = (r : Int)) : Calls Tryz.prog 125 #[.int .i64 x, .int .i64 y] w fun e w' => e = .returned (.int .i64 (r : Int)) ∧ w' = w := by
  by_cases hl : x < y
  · have E : Hid (x = (r : Int)) := by unfold Hid; omega
    clear h
    go_enter Tryz.func125, Tryz.ntmps125
    go_wp2
    go_ret
    exact ⟨ret_int E.out, rfl⟩
  · have E : Hid (y = (r : Int)) := by unfold Hid; omega
    clear h
    go_enter Tryz.func125, Tryz.ntmps125
    go_wp2
    go_ret
    exact ⟨ret_int E.out, rfl⟩
theorem isFrom_any (w : World) (p : Int) : Calls Tryz.prog 229 #[.int .i64 p] w fun e w' => e = .returned (.bool (fromB p)) ∧ w' = w := by
  have HE : Hid ((decide (0 ≤ p) && decide (p ≤ 1000)) = fromB p) := rfl
  by_cases h : 0 ≤ p
  · have h' : decide (0 ≤ p) = true := by simpa using h
    have HE2 : Hid (decide (p ≤ 1000) = fromB p) := by unfold Hid; rw [← HE.out, h']; rfl
    clear h'
    go_enter Tryz.func229, Tryz.ntmps229
    go_wp2
    go_ret
    exact ⟨ret_bool HE2.out, rfl⟩
  · have HE2 : Hid (false = fromB p) := by unfold Hid; rw [← HE.out]; simp [h]
    go_enter Tryz.func229, Tryz.ntmps229
    go_wp2
    go_ret
    exact ⟨ret_bool HE2.out, rfl⟩
end Go.Proofs.YtpfafcodihhdfaaGreatDoor

namespace Go.Proofs.YtpfafcodihhdfaaGreatDoor
open Go.RowKit
set_option maxRecDepth 100000

set_option maxHeartbeats 800000 in
theorem settleF_any (w : World) (bf : Nat) (vs : List Value) (hbox : OwnRow w bf 8 (cel vs)) (aP : Option Addr) (nP cP : Nat) (s : Int) :
    Calls Tryz.prog 251 #[.pointer (some ⟨bf, 0, none⟩), .slice aP nP cP, .int .i64 s] w fun e w' => e = .returned (.tuple #[]) ∧ w' = (w.setCell ⟨bf, 3, none⟩ (.slice aP nP cP)).setCell ⟨bf, 2, none⟩ (.int .i64 s) := by
  have c2 := hbox.cell (i := 2) (by omega)
  have c3 := hbox.cell (i := 3) (by omega)
  have f2 := hbox.frozen 2
  have f3 := hbox.frozen 3
  clear hbox
  go_enter Tryz.func251, Tryz.ntmps251
  go_wp2
  go_end0
  exact ⟨rfl, rfl⟩
set_option maxHeartbeats 1600000 in
theorem span_any (w : World) (x0 x1 : Int) (L k lo hi : Nat) (v3 v4 : Value) (_hL : L ≤ 32) (hk : k ≤ 4) (hlo : k * 8 = lo) (hhi : min (k * 8 + 8) L = hi) :
    Calls Tryz.prog 252 #[.agg #[.int .i64 x0, .int .i64 x1, .int .i64 (L : Int), v3, v4], .int .i64 (k : Int)] w fun e w' => e = .returned (.tuple #[.int .i64 (lo : Int), .int .i64 (hi : Int)]) ∧ Below w.heap.size w w' := by
  have HE1 : Hid ((k : Int) * 8 = (lo : Int)) := by unfold Hid; omega
  have HE2 : Hid (min (IntKind.i64.wrap ((k : Int) * 8 + 8)) (L : Int) = (hi : Int)) := by
    unfold Hid
    rw [show IntKind.i64.wrap ((k : Int) * 8 + 8) = (k : Int) * 8 + 8 by rw [IntKind.wrap_i64]; omega]
    omega
  have x2 : (w.alloc (.cells #[.int .i64 x0, .int .i64 x1, .int .i64 (L : Int), v3, v4] 68)).cell? ⟨w.heap.size, 2, none⟩ = some (.int .i64 (L : Int)) := by rw [new_cell]; rfl
  clear hhi hlo
  go_enter Tryz.func252, Tryz.ntmps252
  go_wp2_with fail
  go_region_law (fail)
  all_goals
    go_wp2
    go_ret2
    exact ⟨by rw [HE2.out, HE1.out]; rfl, by first | exact (later1 _ _).drew | exact later1 _ _⟩
/-- What stands where a file's bytes, or its inode, turn. -/
theorem FileS.put {w0 w W : World} {bf bI n cI bD cD : Nat} {d : FD} {zss : List (List UInt8)} {j : Nat} {x : ID} {aB : Option Addr} {cB : Nat} {aE : Option Addr} {cE : Nat} (h : FileS w0 w bf bI n cI bD cD d j x aB cB aE cE) (hc : Chg (fun c => c = bD) w W) (hf : FsS W bI n cI bD 20 cD (d.1, zss) (fun c => w0.heap.size ≤ c ∧ c ≠ bf)) : FileS w0 W bf bI n cI bD cD (d.1, zss) j x aB cB aE cE := by
  have hne := h.fs.ne
  refine ⟨h.below.trans (hc.below h.below.size fun b hb => hb ▸ hne.2.2.1.1), h.new, h.box.block (hc.block bf h.box.lt fun e => hne.2.2.1.2 e.symm), hf, fun k hk => ?_⟩
  obtain ⟨b1, e1, e2, e3, e4⟩ := h.blk k hk
  exact ⟨b1, e1, e2, Nat.lt_of_lt_of_le e3 hc.size, hc.cellOf e4 e2⟩
theorem FileS.settle {w0 w : World} {bf bI n cI bD cD : Nat} {d : FD} {j : Nat} {x : ID} {aB : Option Addr} {cB : Nat} {aE : Option Addr} {cE : Nat} (h : FileS w0 w bf bI n cI bD cD d j x aB cB aE cE) (aP : Option Addr) (cP : Nat) (bs : List Int) (s : Int) (F : Nat → Prop) (hp : IntsO w0 (.slice aP bs.length cP) bs F) :
    FileS w0 ((w.setCell ⟨bf, 3, none⟩ (.slice aP bs.length cP)).setCell ⟨bf, 2, none⟩ (.int .i64 s)) bf bI n cI bD cD d j (x.1, x.2.1, s, bs, x.2.2.2.2) aP cP aE cE := by
  have hne := h.fs.ne
  have h0 : Chg (fun c => c = bf) w w := Chg.refl _ _
  have h1 := Chg.set (F := fun c => c = bf) h0 rfl 3 (.slice aP bs.length cP)
  have h2 := Chg.set (F := fun c => c = bf) h1 rfl 2 (.int .i64 s)
  have hb : Below w0.heap.size w0 ((w.setCell ⟨bf, 3, none⟩ (.slice aP bs.length cP)).setCell ⟨bf, 2, none⟩ (.int .i64 s)) := h.below.trans (h2.below h.below.size fun b hb => hb ▸ h.new)
  refine ⟨hb, h.new, ((h.box.set 3 _).set 2 _).congr fun i hi => ?_, h.fs.chg h2 fun b hb e => hb.2 e, fun k hk => ?_⟩
  · match i, hi with
    | 0, _ => rfl
    | 1, _ => rfl
    | 2, _ => rfl
    | 3, _ => rfl
    | 4, _ => rfl
    | 5, _ => rfl
    | 6, _ => rfl
    | 7, _ => rfl
  · rcases hp with ⟨e, _⟩ | ⟨b, cap, _, e, hl, hrow⟩
    · subst e; simp at hk
    · simp only [Value.slice.injEq] at e
      obtain ⟨rfl, _, rfl⟩ := e
      have hlt := hrow.lt
      have hD := hne.2.2.1.1
      exact ⟨b, rfl, by omega, Nat.lt_of_lt_of_le hlt hb.size, cell_later hb (hrow.cell hk)⟩
end Go.Proofs.YtpfafcodihhdfaaGreatDoor

namespace Go.Proofs.YtpfafcodihhdfaaGreatDoor
open Go.RowKit
set_option maxRecDepth 100000

theorem take8 (data : List UInt8) (k hi : Nat) (h : min (k * 8 + 8) data.length = hi) : (data.drop (k * 8)).take (hi - k * 8) = (data.drop (k * 8)).take 8 := by
  apply List.ext_getElem?
  intro i
  rw [List.getElem?_take, List.getElem?_take, List.getElem?_drop]
  by_cases h1 : i < hi - k * 8
  · rw [if_pos h1, if_pos (by omega)]
  · rw [if_neg h1]
    by_cases h2 : i < 8
    · rw [if_pos h2, List.getElem?_eq_none (by omega)]
    · rw [if_neg h2]
theorem FsS.wrt {w W : World} {bI n cI bD cD : Nat} {d : FD} {Z : List (List UInt8)} {F : Nat → Prop} {bs : List Int} {data : List UInt8} {k y : Nat} (h : FsS w bI n cI bD 20 cD (d.1, putK Z bs data k) F) (hy : y < 20) (e : bs[k]?.getD 0 = (y : Int)) (hb : Below w.heap.size w W) (v : Value) (hv : BytO W v ((data.drop (k * 8)).take 8) (fresh w W)) (hF : ∀ c, w.heap.size ≤ c → F c) : FsS (W.setCell ⟨bD, y, none⟩ v) bI n cI bD 20 cD (d.1, putK Z bs data (k + 1)) F := by
  have := h.put y hy hb v _ hv (fun c hc => ⟨hF c hc.1, hc.1, hc.2⟩)
  have e2 : putK Z bs data (k + 1) = (putK Z bs data k).set y ((data.drop (k * 8)).take 8) := by
    show (putK Z bs data k).set (bs[k]?.getD 0).toNat _ = _
    rw [e]; rfl
  rw [e2]
  exact this
/-- Whatever came since. -/
theorem FileS.later {w0 w W : World} {bf bI n cI bD cD : Nat} {d : FD} {j : Nat} {x : ID} {aB : Option Addr} {cB : Nat} {aE : Option Addr} {cE : Nat} (h : FileS w0 w bf bI n cI bD cD d j x aB cB aE cE) (hb : Below w.heap.size w W) : FileS w0 W bf bI n cI bD cD d j x aB cB aE cE :=
  ⟨h.below.trans (hb.mono h.below.size), h.new, h.box.later hb, h.fs.later hb, fun k hk => by
    obtain ⟨b1, e1, e2, e3, e4⟩ := h.blk k hk
    exact ⟨b1, e1, e2, Nat.lt_of_lt_of_le e3 hb.size, cell_later hb e4⟩⟩

set_option maxHeartbeats 6400000 in
theorem write_any (w0 w : World) (bf bI n cI bD cD : Nat) (d : FD) (j : Nat) (x : ID) (aB : Option Addr) (cB : Nat) (aE : Option Addr) (cE : Nat) (h : FileS w0 w bf bI n cI bD cD d j x aB cB aE cE) (hr : ∀ k : Nat, k < x.2.2.2.1.length → 0 ≤ x.2.2.2.1[k]?.getD 0 ∧ x.2.2.2.1[k]?.getD 0 < 20) (h4 : x.2.2.2.1.length ≤ 4)
    (aP : Option Addr) (cP : Nat) (bs : List Int) (F : Nat → Prop) (hp : IntsO w0 (.slice aP bs.length cP) bs F) (hbs : ∀ k : Nat, k < bs.length → 0 ≤ bs[k]?.getD 0 ∧ bs[k]?.getD 0 < 20)
    (aT : Option Addr) (L cT : Nat) (data : List UInt8) (ht : Byt w0 (.slice aT L cT) data) (hL : L ≤ 32) (hn : bs.length = (L + 7) / 8) :
    Calls Tryz.prog 246 #[.pointer (some ⟨bf, 0, none⟩), .slice aP bs.length cP, .slice aT L cT] w fun e w' => e = .returned (.tuple #[]) ∧ FileS w0 w' bf bI n cI bD cD (d.1, putK (clrK d.2 x.2.2.2.1 x.2.2.2.1.length) bs data bs.length) j (x.1, x.2.1, (L : Int), bs, x.2.2.2.2) aP cP aE cE := by
  have ht0 := ht
  obtain ⟨_, _, esh, hmT, _⟩ := ht0
  simp only [Value.slice.injEq] at esh
  obtain ⟨rfl, rfl, rfl⟩ := esh
  have hcT : data.length ≤ cT := hmT.2
  have HF : Hid (FileS w0 w bf bI n cI bD cD d j x aB cB aE cE) := h
  have HP : Hid (IntsO w0 (.slice aP bs.length cP) bs F) := hp
  have HBS : Hid (∀ k : Nat, k < bs.length → 0 ≤ bs[k]?.getD 0 ∧ bs[k]?.getD 0 < 20) := hbs
  have HDB := dropBytes_any w bf bI n cI bD cD d _ _ aB cB x.2.2.2.1 rfl h.box rfl rfl h.fs (fun e => h.fs.ne.2.2.1.2 e.symm) h.blk hr h4
  have HDD : Hid (Calls Tryz.prog 247 #[.pointer (some ⟨bf, 0, none⟩)] w _) := HDB
  have HCY : Hid (∀ (k hi : Nat), k < bs.length → min (k * 8 + 8) data.length = hi → ∀ W, Below w0.heap.size w0 W → Calls Tryz.prog 233 #[.slice (if cT = k * 8 then aT else Option.map (fun x => x.add (k * 8)) aT) (hi - k * 8) (cT - k * 8)] W fun e w' => ∃ g m, e = .returned (.slice (some ⟨g, 0, none⟩) m m) ∧ Below W.heap.size W w' ∧ BytO w' (.slice (some ⟨g, 0, none⟩) m m) ((data.drop (k * 8)).take 8) (fresh W w')) := fun k hi hk hhi W hW => by
    have hb : Byt W (.slice (cutA aT cT (k * 8)) (hi - k * 8) (cT - k * 8)) ((data.drop (k * 8)).take (hi - k * 8)) := cut_Y (by omega) hcT rfl (ht.later hW)
    rw [take8 data k hi hhi] at hb
    exact (copyOfY_any hb (by rw [List.length_take]; omega)).mono fun _ _ ⟨h1, h2, h3⟩ => ⟨_, _, h1, h2, h3⟩
  obtain ⟨x0, x1, x2, xb, xe⟩ := x
  dsimp only at HF HDD ⊢
  obtain ⟨nP, hnP⟩ : ∃ nP, bs.length = nP := ⟨_, rfl⟩
  have HNP : Hid (bs.length = nP) := hnP
  have hn4 : nP ≤ 4 := by omega
  have hnL : nP = (data.length + 7) / 8 := by omega
  have HTT : Hid (∀ i : Nat, True) := fun _ => trivial
  clear h hp hbs hr h4 ht hmT HDB
  rw [hnP] at HBS HCY hn ⊢
  generalize clrK d.2 xb xb.length = Z at *
  obtain ⟨Lt, hLt⟩ : ∃ Lt, data.length = Lt := ⟨_, rfl⟩
  have HLT : Hid (data.length = Lt) := hLt
  rw [hLt] at HCY hcT hL hn hnL ⊢
  have HNL : Hid (nP = (Lt + 7) / 8) := hnL
  clear hLt hnP hn hnL
  go_enter Tryz.func246, Tryz.ntmps246
  go_wp2_with fail
  refine HDD.out.mono ?_
  rintro e w3 ⟨rfl, hc3, hf3⟩
  have HF3 : Hid (FileS w0 w3 bf bI n cI bD cD (d.1, Z) j (x0, x1, x2, xb, xe) aB cB aE cE) := HF.out.put hc3 hf3
  clear hc3 hf3 HDD
  go_wp2_with fail
  refine (settleF_any w3 bf _ HF3.out.box aP nP cP (Lt : Int)).mono ?_
  rintro e w4 ⟨rfl, hw4⟩
  have HF4 : Hid (FileS w0 w4 bf bI n cI bD cD (d.1, Z) j (x0, x1, (Lt : Int), bs, xe) aP cP aE cE) := by
    unfold Hid
    rw [hw4]
    have := HF3.out.settle aP cP bs (Lt : Int) F HP.out
    rw [HNP.out] at this
    exact this
  have q3 : w4.cell? ⟨bf, 3, none⟩ = some (.slice aP nP cP) := by
    have := HF4.out.box.cell (i := 3) (by omega)
    rw [← HNP.out]
    exact this
  clear hw4 HF3
  go_wp2_with fail
  clear q3
  go_loopw [25] (fun i wr => ∃ k : Nat, k ≤ nP ∧ i = .int .i64 k ∧ FileS w0 wr bf bI n cI bD cD (d.1, putK Z bs data k) j (x0, x1, (Lt : Int), bs, xe) aP cP aE cE) (fun i _ => nP - (intOf i).toNat)
  case atStart => exact ⟨0, Nat.zero_le _, rfl, HF4.out⟩
  case round =>
    clear HF4
    obtain ⟨k, hk, rfl, hf⟩ := hrel
    have HFK : Hid (FileS w0 wr bf bI n cI bD cD (d.1, putK Z bs data k) j (x0, x1, (Lt : Int), bs, xe) aP cP aE cE) := hf
    by_cases hlt : k < nP
    · obtain ⟨b1, rfl, hb1, _, c1⟩ := hf.blk k (by rw [HNP.out]; exact hlt)
      have hrg := HBS.out k hlt
      obtain ⟨hi, hhi⟩ : ∃ hi, min (k * 8 + 8) Lt = hi := ⟨_, rfl⟩
      obtain ⟨lo, hlo⟩ : ∃ lo, k * 8 = lo := ⟨_, rfl⟩
      have hcne : ¬ cT = lo := by have := HNL.out; omega
      have HCK : Hid (∀ W, Below w0.heap.size w0 W → Calls Tryz.prog 233 #[.slice (Option.map (fun x => x.add lo) aT) (hi - lo) (cT - lo)] W fun e w' => ∃ g m, e = .returned (.slice (some ⟨g, 0, none⟩) m m) ∧ Below W.heap.size W w' ∧ BytO w' (.slice (some ⟨g, 0, none⟩) m m) ((data.drop (k * 8)).take 8) (fresh W w')) := fun W hW => by
        have := HCY.out k hi hlt hhi W hW
        rw [hlo, if_neg hcne] at this
        rw [hlo]
        exact this
      have HSP : Hid (Calls Tryz.prog 252 #[.agg #[.int .i64 x0, .int .i64 x1, .int .i64 (Lt : Int), .slice (some ⟨b1, 0, none⟩) nP cP, .slice aE xe.length cE], .int .i64 (k : Int)] wr fun e w' => e = .returned (.tuple #[.int .i64 (lo : Int), .int .i64 (hi : Int)]) ∧ Below wr.heap.size wr w') := span_any wr x0 x1 Lt k lo hi _ _ hL (by omega) hlo hhi
      have HWR : Hid (∀ (y : Nat) (W : World) (v : Value), y < 20 → bs[k]?.getD 0 = (y : Int) → Below wr.heap.size wr W → BytO W v ((data.drop (k * 8)).take 8) (fresh wr W) → FileS w0 (W.setCell ⟨bD, y, none⟩ v) bf bI n cI bD cD (d.1, putK Z bs data (k + 1)) j (x0, x1, (Lt : Int), bs, xe) (some ⟨b1, 0, none⟩) cP aE cE) := fun y W v hy e hW hv => by
        have hfl := HFK.out
        have hbl := hfl.box.lt
        refine ((hfl.later hW).put (zss := putK Z bs data (k + 1)) (Chg.set (F := fun c => c = bD) (Chg.refl _ W) rfl y v) ?_)
        exact hfl.fs.wrt hy e hW v hv (fun c hc => ⟨by have := hfl.below.size; omega, by omega⟩)
      have c0 : wr.cell? ⟨bf, 0, none⟩ = some (.int .i64 x0) := hf.box.cell (i := 0) (by omega)
      have c01 : wr.cell? ⟨bf, 1, none⟩ = some (.int .i64 x1) := hf.box.cell (i := 1) (by omega)
      have c2 : wr.cell? ⟨bf, 2, none⟩ = some (.int .i64 (Lt : Int)) := hf.box.cell (i := 2) (by omega)
      have c3 : wr.cell? ⟨bf, 3, none⟩ = some (.slice (some ⟨b1, 0, none⟩) nP cP) := by rw [← HNP.out]; exact hf.box.cell (i := 3) (by omega)
      have c4 : wr.cell? ⟨bf, 4, none⟩ = some (.slice aE xe.length cE) := hf.box.cell (i := 4) (by omega)
      have c7 : wr.cell? ⟨bf, 7, none⟩ = some (.slice (some ⟨bD, 0, none⟩) 20 cD) := hf.box.cell (i := 7) (by omega)
      have hfD : bf ≠ bD := fun e => hf.fs.ne.2.2.1.2 e.symm
      have hDf : bD ≠ bf := fun e => hfD e.symm
      have hlD : bD < wr.heap.size := hf.fs.ne.2.2.2
      have HDA : Hid (∀ y, y < 20 → ∃ ua un uc, wr.cell? ⟨bD, y, none⟩ = some (.slice ua un uc) ∧ wr.frozen? ⟨bD, y, none⟩ = false) := fun y hy => by
        obtain ⟨ua, uc, e1, e2, _⟩ := HFK.out.fs.data y hy
        exact ⟨_, _, _, e1, e2⟩
      have HB0 : Hid (Below w0.heap.size w0 wr) := hf.below
      clear hf HFK HCY HBS
      generalize bs[k]?.getD 0 = z at *
      obtain ⟨y, rfl⟩ : ∃ y : Nat, z = (y : Int) := ⟨z.toNat, by omega⟩
      have hy : y < 20 := by omega
      have hyI : (y : Int) < 20 := by omega
      obtain ⟨ua, un, uc, d0, d1⟩ := HDA.out y hy
      have HW2 : Hid (∀ (W : World) (v : Value), Below wr.heap.size wr W → BytO W v ((data.drop (k * 8)).take 8) (fresh wr W) → FileS w0 (W.setCell ⟨bD, y, none⟩ v) bf bI n cI bD cD (d.1, putK Z bs data (k + 1)) j (x0, x1, (Lt : Int), bs, xe) (some ⟨b1, 0, none⟩) cP aE cE) := fun W v => HWR.out y W v hy rfl
      have hlohi : lo ≤ hi := by have := HNL.out; omega
      have hhc : hi ≤ cT := by omega
      have hi32 : hi ≤ 32 := by omega
      clear HWR HDA hrg hhi hlo
      generalize ((data.drop (k * 8)).take 8) = ys at *
      generalize xe.length = lE at *
      go_wp2_with fail
      refine HSP.out.mono ?_
      rintro e w5 ⟨rfl, hb5⟩
      have HB5 : Hid (Below wr.heap.size wr w5) := hb5
      have e7 := cell_later hb5 c7
      have g0 := cell_later hb5 d0
      have g1 := (hb5.frozen (p := ⟨bD, y, none⟩) hlD).trans d1
      clear hb5 HSP c0 c01 c2 c3 c4 c1 d0 d1
      go_wp2_with fail
      go_region_law (first
        | (try go_simp; go_at_call 233; refine (HCK.out _ ((HB0.out.trans (HB5.out.mono HB0.out.size)).drew)).mono ?_; rintro e w6 ⟨g, m, rfl, hb6, ho6⟩
           have HB6 : Hid (Below wr.heap.size wr w6) := (HB5.out.drew).trans (hb6.mono (by have := HB5.out.size; simpa using this))
           have k7 := cell_later HB6.out c7
           have HN : Hid (FileS w0 (w6.setCell ⟨bD, y, none⟩ (.slice (some ⟨g, 0, none⟩) m m)) bf bI n cI bD cD (d.1, putK Z bs data (k + 1)) j (x0, x1, (Lt : Int), bs, xe) (some ⟨b1, 0, none⟩) cP aE cE) := HW2.out w6 _ HB6.out (ho6.mono fun c hc => ⟨by have h1 := hc.1; simp at h1; have h2 := HB5.out.size; omega, hc.2⟩)
           have m0 := cell_later ((Below.refl _ _).drew.trans hb6) g0
           have m1 := (((Below.refl _ _).drew.trans hb6).frozen (p := ⟨bD, y, none⟩) (Nat.lt_of_lt_of_le hlD HB5.out.size)).trans g1
           clear hb6 ho6)
        | fail)
      all_goals
        clear HCK HW2
        go_wp2
        go_roundw
        case rel => exact ⟨k + 1, by omega, by go_num, HN.out⟩
        case measure => simp [intOf]; omega
    · have e : k = nP := by omega
      subst e
      clear hf
      go_wp2
      go_end0
      exact ⟨rfl, HFK.out⟩
end Go.Proofs.YtpfafcodihhdfaaGreatDoor

namespace Go.Proofs.YtpfafcodihhdfaaGreatDoor
open Go.RowKit
set_option maxRecDepth 100000

theorem cell_blk {w w' : World} {b o : Nat} {v : Value} (e : w'.heap[b]? = w.heap[b]?) (h : w.cell? ⟨b, o, none⟩ = some v) : w'.cell? ⟨b, o, none⟩ = some v := by
  simp only [World.cell?] at h ⊢
  rw [e]; exact h
/-- A file with one entry less. -/
def unlD (d : FD) (z : Nat) : FD := if 1 < (d.1[z]?.getD id0).2.1 then lnkD d z ((d.1[z]?.getD id0).2.1 - 1) else if (allE d.1).count (z : Int) = 0 then dropD d z else d
theorem lnkD_self (d : FD) (z : Nat) (hz : z < d.1.length) : lnkD d z (d.1[z]?.getD id0).2.1 = d := by
  unfold lnkD
  have e : d.1.set z (d.1[z]?.getD id0) = d.1 := by rw [List.getElem?_eq_getElem hz, Option.getD_some, List.set_getElem_self]
  have : ((d.1[z]?.getD id0).1, (d.1[z]?.getD id0).2.1, (d.1[z]?.getD id0).2.2) = d.1[z]?.getD id0 := rfl
  rw [this, e]
/-- An inode stored as it lies, but for its links. -/
theorem cls_lnk {w : World} {bI n cI bD cD : Nat} {d : FD} {F : Nat → Prop} (hfs : FsS w bI n cI bD 20 cD d F) (j : Nat) (hj : j < n) (l : Int) {vB vE : Value} (h3 : w.cell? ⟨bI, j * 5 + 3, none⟩ = some vB) (h4 : w.cell? ⟨bI, j * 5 + 4, none⟩ = some vE) (va vb : Value) :
    FsS (clsW w bI j ((d.1[j]?.getD id0).1, l, (d.1[j]?.getD id0).2.2) vB vE va vb) bI n cI bD 20 cD (lnkD d j l) F := by
  have h1 := cls_chg w bI j ((d.1[j]?.getD id0).1, l, (d.1[j]?.getD id0).2.2) vB vE va vb
  obtain ⟨F1, G1, ⟨g0, gm, u, G, g1, g2, g3, g4, g5⟩, k2, k3, k4⟩ := hfs
  have e3 : (u j).1 = vB := by
    have := g4.cell (i := j * 5 + 3) (by omega)
    rw [h3, inCell_3] at this
    exact (Option.some.inj this).symm
  have e4 : (u j).2 = vE := by
    have := g4.cell (i := j * 5 + 4) (by omega)
    rw [h4, inCell_4] at this
    exact (Option.some.inj this).symm
  have eu : (fun i => if i = j then (vB, vE) else u i) = u := by
    funext i
    by_cases h : i = j
    · rw [if_pos h, h, ← e3, ← e4]
    · rw [if_neg h]
  unfold lnkD
  have hrow := cls_row w bI j n d.1 ((d.1[j]?.getD id0).1, l, (d.1[j]?.getD id0).2.2) vB vE va vb u (by omega) g4
  rw [eu] at hrow
  refine ⟨F1, G1, ⟨by simpa using g0, gm, u, G, g1, g2, g3, hrow, fun i hi => ?_⟩, k2.keep fun c hc hlt => h1.block c hlt fun e => k3 bI g1 (e ▸ hc), k3, fun b hb => ⟨(k4 b hb).1, Nat.lt_of_lt_of_le (k4 b hb).2 h1.size⟩⟩
  rw [set_getD _ _ _ _ _ (by omega)]
  have hk : ∀ c, G i c → c < w.heap.size → (clsW w bI j ((d.1[j]?.getD id0).1, l, (d.1[j]?.getD id0).2.2) vB vE va vb).heap[c]? = w.heap[c]? := fun c hc hlt => h1.block c hlt fun e => (g2 i c hc).2 e
  by_cases e : i = j
  · rw [if_pos e]
    have hv := (g5 i hi).keep hk
    rw [e] at hv ⊢
    obtain ⟨⟨_, _, _, hcap⟩, hrest⟩ := hv
    exact ⟨⟨rfl, rfl, rfl, hcap⟩, hrest⟩
  · rw [if_neg e]
    exact (g5 i hi).keep hk
/-- A file closed as it was opened, but for its links. -/
theorem close_lnk (w : World) (bf bI n cI bD cD : Nat) (d : FD) (F : Nat → Prop) (j : Nat) (l : Int) (aB : Option Addr) (nB cB : Nat) (aE : Option Addr) (nE cE : Nat) (hbox : OwnRow w bf 8 (cel [.int .i64 (d.1[j]?.getD id0).1, .int .i64 l, .int .i64 (d.1[j]?.getD id0).2.2.1, .slice aB nB cB, .slice aE nE cE, .int .i64 (j : Int), .slice (some ⟨bI, 0, none⟩) n cI, .slice (some ⟨bD, 0, none⟩) 20 cD])) (hfs : FsS w bI n cI bD 20 cD d F) (hbf : bf ≠ bI) (hj : j < n) (hn : n ≤ 10)
    (h3 : w.cell? ⟨bI, j * 5 + 3, none⟩ = some (.slice aB nB cB)) (h4 : w.cell? ⟨bI, j * 5 + 4, none⟩ = some (.slice aE nE cE)) :
    Calls Tryz.prog 236 #[.pointer (some ⟨bf, 0, none⟩)] w fun e w' => e = .returned (.agg #[.slice (some ⟨bI, 0, none⟩) n cI, .slice (some ⟨bD, 0, none⟩) 20 cD]) ∧ (Chg (fun c => c = bI) w w' ∧ FsS w' bI n cI bD 20 cD (lnkD d j l) F) :=
  close_raw w bf bI n cI bD cD d F (fun w' => Chg (fun c => c = bI) w w' ∧ FsS w' bI n cI bD 20 cD (lnkD d j l) F) j ((d.1[j]?.getD id0).1, l, (d.1[j]?.getD id0).2.2) aB nB cB aE nE cE hbox hfs hbf hj hn fun va vb => ⟨cls_chg _ _ _ _ _ _ _ _, cls_lnk hfs j hj l h3 h4 va vb⟩
/-- What a file that an entry less leads to comes to. -/
def AnsUn (w : World) (n : Nat) (d : FD) (e : Ending) (w' : World) : Prop := ∃ bI cI bD cD, e = .returned (.agg #[.slice (some ⟨bI, 0, none⟩) n cI, .slice (some ⟨bD, 0, none⟩) 20 cD]) ∧ Below w.heap.size w w' ∧ FsS w' bI n cI bD 20 cD d (fun c => w.heap.size ≤ c)
theorem AnsUn.put {w W : World} {n bI cI bD cD : Nat} {d : FD} (hB : Below w.heap.size w W) (h : FsS W bI n cI bD 20 cD d (fun c => w.heap.size + 2 ≤ c)) {rb : Nat} (hrb : w.heap.size ≤ rb ∧ rb < w.heap.size + 2) (x y : Value) : AnsUn w n d (.returned (.agg #[.slice (some ⟨bI, 0, none⟩) n cI, .slice (some ⟨bD, 0, none⟩) 20 cD])) ((W.setCell ⟨rb, 0, none⟩ x).setCell ⟨rb, 1, none⟩ y) := by
  have h1 : Chg (fun c => c = rb) W ((W.setCell ⟨rb, 0, none⟩ x).setCell ⟨rb, 1, none⟩ y) := Chg.set (F := fun c => c = rb) (Chg.set (F := fun c => c = rb) (Chg.refl _ W) rfl 0 x) rfl 1 y
  exact ⟨bI, cI, bD, cD, rfl, (hB.setCell hrb.1 _).setCell hrb.1 _, (h.chg h1 fun b hb e => by omega).mono fun c hc => by omega⟩
set_option maxHeartbeats 6400000 in
theorem unlinked_any (w : World) (a1 : Option Addr) (n1 c1 : Nat) (a2 : Option Addr) (n2 c2 : Nat) (d : FD) (z : Nat) (h : FsR w (.slice a1 n1 c1) (.slice a2 n2 c2) d) (hs : sizeFs d ≤ 1048576) (h20 : d.2.length = 20) (hz : z < d.1.length) (h10 : d.1.length ≤ 10) (hins : insF d.1 = 0) (hl1 : 1 ≤ (d.1[z]?.getD id0).2.1) (hl60 : (d.1[z]?.getD id0).2.1 ≤ 60)
    (hr : ∀ k : Nat, k < (blkA d z).length → 0 ≤ (blkA d z)[k]?.getD 0 ∧ (blkA d z)[k]?.getD 0 < 20) (h4 : (blkA d z).length ≤ 4) :
    Calls Tryz.prog 206 #[.agg #[.slice a1 n1 c1, .slice a2 n2 c2], .int .i64 (z : Int)] w fun e w' => AnsUn w d.1.length (unlD d z) e w' := by
  have HOP : Hid (∀ W, Below w.heap.size w W → Calls Tryz.prog 234 #[.agg #[.slice a1 n1 c1, .slice a2 n2 c2], .int .i64 (z : Int)] W fun e w' => ∃ bf bI cI bD cD aB cB aE cE, e = .returned (.pointer (some ⟨bf, 0, none⟩)) ∧ (FileS W w' bf bI d.1.length cI bD cD d z (d.1[z]?.getD id0) aB cB aE cE ∧ w'.cell? ⟨bI, z * 5 + 3, none⟩ = some (.slice aB (d.1[z]?.getD id0).2.2.2.1.length cB) ∧ w'.cell? ⟨bI, z * 5 + 4, none⟩ = some (.slice aE (d.1[z]?.getD id0).2.2.2.2.length cE))) := fun W hW => openFile_row W a1 n1 c1 a2 n2 c2 d z (h.later hW) hs h20 hz h10
  have HLK : Hid (∀ W, Below w.heap.size w W → Calls Tryz.prog 143 #[.slice a1 n1 c1, .int .i64 (z : Int)] W fun e w' => e = .returned (.agg #[.int .i64 0, .int .i64 (((allE d.1).count (z : Int) : Nat) : Int)]) ∧ Below W.heap.size W w') := fun W hW => by
    have := implLnkU W a1 n1 c1 d.1 (z : Int) (h.1.later hW) (by unfold sizeFs at hs; omega)
    unfold lnkR at this
    rw [if_pos hins, if_pos ⟨by omega, by omega⟩] at this
    exact this
  have HX : Hid (Bx ((w.alloc (.cells #[.slice a1 n1 c1, .slice a2 n2 c2] 32)).alloc (.cells #[.slice none 0 0, .slice none 0 0] 32)) w.heap.size [.slice a1 n1 c1, .slice a2 n2 c2]) := (Bx.new w [.slice a1 n1 c1, .slice a2 n2 c2] _).later (later1 _ _)
  have HB0 : Hid (Below w.heap.size w ((w.alloc (.cells #[.slice a1 n1 c1, .slice a2 n2 c2] 32)).alloc (.cells #[.slice none 0 0, .slice none 0 0] 32))) := later2 _ _ _
  have hz0 : ((w.alloc (.cells #[.slice a1 n1 c1, .slice a2 n2 c2] 32)).alloc (.cells #[.slice none 0 0, .slice none 0 0] 32)).heap.size = w.heap.size + 2 := by simp
  have HRS : Hid (OwnRow ((w.alloc (.cells #[.slice a1 n1 c1, .slice a2 n2 c2] 32)).alloc (.cells #[.slice none 0 0, .slice none 0 0] 32)) (w.heap.size + 1) 2 (cel [.slice none 0 0, .slice none 0 0])) := by
    have p2 := newCel (w.alloc (.cells #[.slice a1 n1 c1, .slice a2 n2 c2] 32)) [.slice none 0 0, .slice none 0 0] 32
    rw [World.size_alloc] at p2
    exact p2
  have HU : Hid (unlD d z = if 1 < (d.1[z]?.getD id0).2.1 then lnkD d z ((d.1[z]?.getD id0).2.1 - 1) else if (allE d.1).count (z : Int) = 0 then dropD d z else d) := rfl
  rw [HU.out]
  have HBR : Hid (∀ k : Nat, k < (blkA d z).length → 0 ≤ (blkA d z)[k]?.getD 0 ∧ (blkA d z)[k]?.getD 0 < 20) := hr
  have H4 : Hid ((blkA d z).length ≤ 4) := h4
  clear h hs hins HU hr h4
  generalize hkl : (d.1[z]?.getD id0).2.1 = kl at *
  have HKL : Hid ((d.1[z]?.getD id0).2.1 = kl) := hkl
  clear hkl
  by_cases hl : 1 < kl
  · rw [if_pos hl]
    go_enter Tryz.func206, Tryz.ntmps206
    go_wp2_with fail
    generalize ((w.alloc (.cells #[.slice a1 n1 c1, .slice a2 n2 c2] 32)).alloc (.cells #[.slice none 0 0, .slice none 0 0] 32)) = W0 at *
    refine (HOP.out _ HB0.out).mono ?_
    rintro e w1 ⟨bf, bI, cI, bD, cD, aB, cB, aE, cE, rfl, hfl, r3, r4⟩
    have hne := hfl.fs.ne
    have t1 : w1.cell? ⟨bf, 1, none⟩ = some (.int .i64 kl) := by rw [← HKL.out]; exact hfl.box.cell (i := 1) (by omega)
    have s1 := hfl.box.frozen 1
    have hbfI : bf ≠ bI := fun e => hne.2.1.1.2 e.symm
    have h1 : Chg (fun c => c = bf) w1 (w1.setCell ⟨bf, 1, none⟩ (.int .i64 (kl - 1))) := Chg.set (F := fun c => c = bf) (Chg.refl _ w1) rfl 1 _
    have HBX2 : Hid (OwnRow (w1.setCell ⟨bf, 1, none⟩ (.int .i64 (kl - 1))) bf 8 (cel [.int .i64 (d.1[z]?.getD id0).1, .int .i64 (kl - 1), .int .i64 (d.1[z]?.getD id0).2.2.1, .slice aB (d.1[z]?.getD id0).2.2.2.1.length cB, .slice aE (d.1[z]?.getD id0).2.2.2.2.length cE, .int .i64 (z : Int), .slice (some ⟨bI, 0, none⟩) d.1.length cI, .slice (some ⟨bD, 0, none⟩) 20 cD])) := by
      refine (hfl.box.set 1 _).congr fun i hi => ?_
      match i, hi with
      | 0, _ => rfl
      | 1, _ => rfl
      | 2, _ => rfl
      | 3, _ => rfl
      | 4, _ => rfl
      | 5, _ => rfl
      | 6, _ => rfl
      | 7, _ => rfl
    have HF2 : Hid (FsS (w1.setCell ⟨bf, 1, none⟩ (.int .i64 (kl - 1))) bI d.1.length cI bD 20 cD d (fun c => W0.heap.size ≤ c ∧ c ≠ bf)) := hfl.fs.chg h1 fun b hb e => hb.2 e
    have HBL2 : Hid (Below W0.heap.size W0 (w1.setCell ⟨bf, 1, none⟩ (.int .i64 (kl - 1)))) := hfl.below.setCell (by have := hfl.new; exact this) _
    have HR3 : Hid ((w1.setCell ⟨bf, 1, none⟩ (.int .i64 (kl - 1))).cell? ⟨bI, z * 5 + 3, none⟩ = some (.slice aB (d.1[z]?.getD id0).2.2.2.1.length cB)) := cell_blk (h1.block bI hne.2.1.2 fun e => hbfI e.symm) r3
    have HR4 : Hid ((w1.setCell ⟨bf, 1, none⟩ (.int .i64 (kl - 1))).cell? ⟨bI, z * 5 + 4, none⟩ = some (.slice aE (d.1[z]?.getD id0).2.2.2.2.length cE)) := cell_blk (h1.block bI hne.2.1.2 fun e => hbfI e.symm) r4
    have HCL : Hid (Calls Tryz.prog 236 #[.pointer (some ⟨bf, 0, none⟩)] (w1.setCell ⟨bf, 1, none⟩ (.int .i64 (kl - 1))) _) := close_lnk _ bf bI d.1.length cI bD cD d _ z (kl - 1) aB _ cB aE _ cE HBX2.out HF2.out hbfI hz h10 HR3.out HR4.out
    have hW0 : w.heap.size ≤ W0.heap.size := HB0.out.size
    have hwI : W0.heap.size ≤ bI := hne.2.1.1.1
    clear hfl r3 r4 HOP HLK h1 HBX2 HF2 HR3 HR4 hne
    go_wp2_with fail
    refine HCL.out.mono ?_
    rintro e w3 ⟨rfl, hc3, hf3⟩
    have HBL3 : Hid (Below W0.heap.size W0 w3) := HBL2.out.trans (hc3.below HBL2.out.size fun b hb => by rw [hb]; omega)
    have HB3 : Hid (Below w.heap.size w w3) := HB0.out.trans (HBL3.out.mono HB0.out.size)
    have HF3 : Hid (FsS w3 bI d.1.length cI bD 20 cD (lnkD d z (kl - 1)) (fun c => w.heap.size + 2 ≤ c)) := hf3.mono fun c hc => by have := hc.1; omega
    clear hc3 hf3 t1 s1
    have hrr := HRS.out.later HBL3.out
    have u0 : w3.cell? ⟨w.heap.size + 1, 0, none⟩ = some (.slice none 0 0) := hrr.cell (i := 0) (by omega)
    have u1 : w3.cell? ⟨w.heap.size + 1, 1, none⟩ = some (.slice none 0 0) := hrr.cell (i := 1) (by omega)
    have v0 := hrr.frozen 0
    have v1 := hrr.frozen 1
    clear hrr
    go_wp2
    exact bodyPost_ret (v := .agg #[.slice (some ⟨bI, 0, none⟩) d.1.length cI, .slice (some ⟨bD, 0, none⟩) 20 cD]) (by simp [results, Tryz.results206, go_sem, u0, u1]) rfl (AnsUn.put HB3.out HF3.out (by omega) _ _)
  · rw [if_neg hl]
    by_cases hc : (allE d.1).count (z : Int) = 0
    · rw [if_pos hc]
      have hcb : ((((allE d.1).count (z : Int) : Nat) : Int) == 0) = true := beq_iff_eq.2 (by omega)
      clear hc
      generalize (((allE d.1).count (z : Int) : Nat) : Int) = cnt at *
      go_enter Tryz.func206, Tryz.ntmps206
      go_wp2_with fail
      generalize ((w.alloc (.cells #[.slice a1 n1 c1, .slice a2 n2 c2] 32)).alloc (.cells #[.slice none 0 0, .slice none 0 0] 32)) = W0 at *
      refine (HOP.out _ HB0.out).mono ?_
      rintro e w1 ⟨bf, bI, cI, bD, cD, aB, cB, aE, cE, rfl, hfl, r3, r4⟩
      have HFL : Hid (FileS W0 w1 bf bI d.1.length cI bD cD d z (d.1[z]?.getD id0) aB cB aE cE) := hfl
      have HR3 : Hid (_ = _) := r3
      have HR4 : Hid (_ = _) := r4
      have hne := hfl.fs.ne
      have t1 : w1.cell? ⟨bf, 1, none⟩ = some (.int .i64 kl) := by rw [← HKL.out]; exact hfl.box.cell (i := 1) (by omega)
      have hbfI : bf ≠ bI := fun e => hne.2.1.1.2 e.symm
      have HB1 : Hid (Below w.heap.size w w1) := HB0.out.trans (hfl.below.mono HB0.out.size)
      have x0 := (HX.out.later hfl.below) 0 _ rfl
      have x1 := (HX.out.later hfl.below) 1 _ rfl
      have hW0 : w.heap.size ≤ W0.heap.size := HB0.out.size
      have hwI : W0.heap.size ≤ bI := hne.2.1.1.1
      have hwz : W0.heap.size ≤ w1.heap.size := hfl.below.size
      clear hfl r3 r4 HOP
      go_wp2_with fail
      refine (HLK.out _ HB1.out).mono ?_
      rintro e w2 ⟨rfl, hb2⟩
      have hfd := field_intR 0 cnt
      have HBL2 : Hid (Below W0.heap.size W0 w2) := HFL.out.below.trans (hb2.mono HFL.out.below.size)
      have HFL2 : Hid (FileS W0 w2 bf bI d.1.length cI bD cD d z (d.1[z]?.getD id0) aB cB aE cE) := HFL.out.later hb2
      clear hb2 x0 x1 t1 HFL HR3 HR4 HLK
      go_wp2_with fail
      refine (dropF_any W0 w2 bf bI d.1.length cI bD cD d z (d.1[z]?.getD id0) aB cB aE cE HFL2.out HBR.out H4.out).mono ?_
      rintro e w4 ⟨rfl, hf4⟩
      have HBX4 : Hid (OwnRow w4 bf 8 (cel [.int .i64 id0.1, .int .i64 id0.2.1, .int .i64 id0.2.2.1, .slice none 0 0, .slice none 0 0, .int .i64 (z : Int), .slice (some ⟨bI, 0, none⟩) d.1.length cI, .slice (some ⟨bD, 0, none⟩) 20 cD])) := hf4.box
      have HF4 : Hid (FsS w4 bI d.1.length cI bD 20 cD (d.1, clrK d.2 (blkA d z) (blkA d z).length) (fun c => W0.heap.size ≤ c ∧ c ≠ bf)) := hf4.fs
      have HBL4 : Hid (Below W0.heap.size W0 w4) := hf4.below
      clear hf4 HFL2
      go_wp2_with fail
      refine (close_any w4 bf bI d.1.length cI bD cD _ _ (fun _ => False) z id0 none 0 0 none 0 0 HBX4.out HF4.out hbfI hz h10 (setZ_ino _ _) (fun c hc => hc.elim)).mono ?_
      rintro e w5 ⟨rfl, hc5, hf5⟩
      have HBL5 : Hid (Below W0.heap.size W0 w5) := HBL4.out.trans (hc5.below HBL4.out.size fun b hb => by rw [hb]; omega)
      have HB5 : Hid (Below w.heap.size w w5) := HB0.out.trans (HBL5.out.mono HB0.out.size)
      have HF5 : Hid (FsS w5 bI d.1.length cI bD 20 cD (dropD d z) (fun c => w.heap.size + 2 ≤ c)) := hf5.mono fun c hc => by
        rcases hc with hc | hc
        · have := hc.1; omega
        · exact hc.elim
      clear hc5 hf5
      have hrr := HRS.out.later HBL5.out
      have u0 : w5.cell? ⟨w.heap.size + 1, 0, none⟩ = some (.slice none 0 0) := hrr.cell (i := 0) (by omega)
      have u1 : w5.cell? ⟨w.heap.size + 1, 1, none⟩ = some (.slice none 0 0) := hrr.cell (i := 1) (by omega)
      have v0 := hrr.frozen 0
      have v1 := hrr.frozen 1
      clear hrr
      go_wp2
      exact bodyPost_ret (v := .agg #[.slice (some ⟨bI, 0, none⟩) d.1.length cI, .slice (some ⟨bD, 0, none⟩) 20 cD]) (by simp [results, Tryz.results206, go_sem, u0, u1]) rfl (AnsUn.put HB5.out HF5.out (by omega) _ _)
    · rw [if_neg hc]
      have hcb : ((((allE d.1).count (z : Int) : Nat) : Int) == 0) = false := beq_eq_false_iff_ne.2 (by omega)
      clear hc
      generalize (((allE d.1).count (z : Int) : Nat) : Int) = cnt at *
      go_enter Tryz.func206, Tryz.ntmps206
      go_wp2_with fail
      generalize ((w.alloc (.cells #[.slice a1 n1 c1, .slice a2 n2 c2] 32)).alloc (.cells #[.slice none 0 0, .slice none 0 0] 32)) = W0 at *
      refine (HOP.out _ HB0.out).mono ?_
      rintro e w1 ⟨bf, bI, cI, bD, cD, aB, cB, aE, cE, rfl, hfl, r3, r4⟩
      have HFL : Hid (FileS W0 w1 bf bI d.1.length cI bD cD d z (d.1[z]?.getD id0) aB cB aE cE) := hfl
      have HR3 : Hid (_ = _) := r3
      have HR4 : Hid (_ = _) := r4
      have hne := hfl.fs.ne
      have t1 : w1.cell? ⟨bf, 1, none⟩ = some (.int .i64 kl) := by rw [← HKL.out]; exact hfl.box.cell (i := 1) (by omega)
      have hbfI : bf ≠ bI := fun e => hne.2.1.1.2 e.symm
      have HB1 : Hid (Below w.heap.size w w1) := HB0.out.trans (hfl.below.mono HB0.out.size)
      have x0 := (HX.out.later hfl.below) 0 _ rfl
      have x1 := (HX.out.later hfl.below) 1 _ rfl
      have hW0 : w.heap.size ≤ W0.heap.size := HB0.out.size
      have hwI : W0.heap.size ≤ bI := hne.2.1.1.1
      have hwz : W0.heap.size ≤ w1.heap.size := hfl.below.size
      clear hfl r3 r4 HOP
      go_wp2_with fail
      refine (HLK.out _ HB1.out).mono ?_
      rintro e w2 ⟨rfl, hb2⟩
      have hfd := field_intR 0 cnt
      have HBL2 : Hid (Below W0.heap.size W0 w2) := HFL.out.below.trans (hb2.mono HFL.out.below.size)
      have HFL2 : Hid (FileS W0 w2 bf bI d.1.length cI bD cD d z (d.1[z]?.getD id0) aB cB aE cE) := HFL.out.later hb2
      have HCL : Hid (Calls Tryz.prog 236 #[.pointer (some ⟨bf, 0, none⟩)] w2 _) := close_lnk w2 bf bI d.1.length cI bD cD d _ z (d.1[z]?.getD id0).2.1 aB _ cB aE _ cE HFL2.out.box HFL2.out.fs hbfI hz h10 (cell_later hb2 HR3.out) (cell_later hb2 HR4.out)
      clear hb2 x0 x1 t1 HFL HR3 HR4 HLK
      go_wp2_with fail
      refine HCL.out.mono ?_
      rintro e w5 ⟨rfl, hc5, hf5⟩
      have HBL5 : Hid (Below W0.heap.size W0 w5) := HBL2.out.trans (hc5.below HBL2.out.size fun b hb => by rw [hb]; omega)
      have HB5 : Hid (Below w.heap.size w w5) := HB0.out.trans (HBL5.out.mono HB0.out.size)
      have HF5 : Hid (FsS w5 bI d.1.length cI bD 20 cD d (fun c => w.heap.size + 2 ≤ c)) := by
        unfold Hid
        have := hf5.mono (F' := fun c => w.heap.size + 2 ≤ c) fun c hc => by have := hc.1; omega
        rw [lnkD_self d z hz] at this
        exact this
      clear hc5 hf5
      have hrr := HRS.out.later HBL5.out
      have u0 : w5.cell? ⟨w.heap.size + 1, 0, none⟩ = some (.slice none 0 0) := hrr.cell (i := 0) (by omega)
      have u1 : w5.cell? ⟨w.heap.size + 1, 1, none⟩ = some (.slice none 0 0) := hrr.cell (i := 1) (by omega)
      have v0 := hrr.frozen 0
      have v1 := hrr.frozen 1
      clear hrr
      go_wp2
      exact bodyPost_ret (v := .agg #[.slice (some ⟨bI, 0, none⟩) d.1.length cI, .slice (some ⟨bD, 0, none⟩) 20 cD]) (by simp [results, Tryz.results206, go_sem, u0, u1]) rfl (AnsUn.put HB5.out HF5.out (by omega) _ _)
end Go.Proofs.YtpfafcodihhdfaaGreatDoor
