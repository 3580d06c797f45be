/- The program's counts of who needs a block: an array. The program's counts, filled and read. The specification: what is wrong of a file system. The bytes of a file: the specification. -/
import Derived.Test.YtjabimfinanjoaaGreatM12
import Derived.Deep.WholeRow
import Derived.Test.YtjabimfinanjoaaGreatM05
import Derived.Test.YtjabimfinanjoaaGreatM06
import Derived.Test.YtjabimfinanjoaaGreatM08
import Derived.Deep.RegionHeld3
namespace Go.Proofs.YtjabimfinanjoaaGreat
open Go.RowKit
set_option maxRecDepth 100000

/-- An array that holds how many need each block. -/
def arrC (f : Nat → Nat) : Array Value := ((List.range 20).map fun i => intV ((f i : Nat) : Int)).toArray
theorem arrC_size (f : Nat → Nat) : (arrC f).size = 20 := by simp [arrC]
theorem arrC_get (f : Nat → Nat) {i : Nat} (h : i < 20) : (arrC f)[i]? = some (.int .i64 ((f i : Nat) : Int)) := by
  simp [arrC, h, intV]
theorem arrC_set (f : Nat → Nat) (q x : Nat) : (arrC f).setIfInBounds q (.int .i64 ((x : Nat) : Int)) = arrC (fun i => if i = q then x else f i) := by
  apply Array.ext_getElem?
  intro i
  rw [Array.getElem?_setIfInBounds]
  by_cases hi : i < 20
  · rw [arrC_get _ hi, arrC_get _ hi, arrC_size]
    by_cases e : q = i
    · subst e; simp [hi]
    · rw [if_neg e, if_neg (fun h => e h.symm)]
  · have h1 : (arrC f)[i]? = none := by rw [Array.getElem?_eq_none_iff, arrC_size]; omega
    have h2 : (arrC (fun i => if i = q then x else f i))[i]? = none := by rw [Array.getElem?_eq_none_iff, arrC_size]; omega
    rw [h1, h2, arrC_size]
    by_cases e : q = i
    · subst e; simp [hi]
    · rw [if_neg e]
/-- Block b holds the counts f. -/
def Arr (w : World) (b : Nat) (f : Nat → Nat) : Prop := w.heap[b]? = some (.cells (arrC f) 104)
theorem Arr.cell {w : World} {b : Nat} {f : Nat → Nat} (h : Arr w b f) {i : Nat} (hi : i < 20) : w.cell? ⟨b, i, none⟩ = some (.int .i64 ((f i : Nat) : Int)) := by
  simp [World.cell?, show w.heap[b]? = some (.cells (arrC f) 104) from h, arrC_get f hi]
theorem Arr.frozen {w : World} {b : Nat} {f : Nat → Nat} (h : Arr w b f) (i : Nat) : w.frozen? ⟨b, i, none⟩ = false := by
  simp [World.frozen?, show w.heap[b]? = some (.cells (arrC f) 104) from h]
theorem Arr.lt {w : World} {b : Nat} {f : Nat → Nat} (h : Arr w b f) : b < w.heap.size := (Array.getElem?_eq_some_iff.1 h).1
theorem Arr.later {w w' : World} {b : Nat} {f : Nat → Nat} (h : Arr w b f) (hb : Below w.heap.size w w') : Arr w' b f := (hb.block b h.lt).trans h
theorem Arr.set {w : World} {b : Nat} {f : Nat → Nat} (h : Arr w b f) (q x : Nat) : Arr (w.setCell ⟨b, q, none⟩ (.int .i64 ((x : Nat) : Int))) b (fun i => if i = q then x else f i) := by
  have h' : w.heap[b]? = some (.cells (arrC f) 104) := h
  unfold Arr
  rw [← arrC_set f q x]
  simp [World.setCell, Array.getElem?_modify, h']
theorem Arr.store {w : World} {b : Nat} {f : Nat → Nat} (h : Arr w b f) {p : Addr} (hp : b ≠ p.block) (v : Value) : Arr (w.setCell p v) b f := (Below.heap_setCell _ _ _ _ hp).trans h
theorem Arr.new (w : World) (f : Nat → Nat) : Arr (w.alloc (.cells (arrC f) 104)) w.heap.size f := Go.Deep.blk_alloc_new _ _

theorem arrC_one (f : Nat → Nat) : (arrC f).all (·.oneCell') = true := by
  unfold arrC
  rw [Array.all_eq_true_iff_forall_mem]
  intro v hv
  simp only [List.mem_toArray, List.mem_map] at hv
  obtain ⟨i, _, rfl⟩ := hv
  rfl
theorem Tryz.infoNeeds : (Tryz.prog.info? 104).map (·.size) = some 20 := by kernel_rfl
theorem Arr.load {w : World} {b : Nat} {f : Nat → Nat} (h : Arr w b f) : (Instr.loadAt 104 (.pointer (some ⟨b, 0, none⟩))).run Tryz.prog w = .ok (.agg (arrC f)) w := by
  simp only [Instr.loadAt, Instr.sureAddr, Sem.run_bind, Sem.run_pure, Result.andThen]
  exact run_loadVar_row w b _ _ (arrC f) (0, 0) _ h Tryz.underlying104 rfl (by rw [arrC_size]; exact Tryz.infoNeeds)
theorem Arr.loadV {w : World} {b : Nat} {f : Nat → Nat} (h : Arr w b f) : (loadVar 104 ⟨b, 0, none⟩).run Tryz.prog w = .ok (.agg (arrC f)) w :=
  run_loadVar_row w b _ _ (arrC f) (0, 0) _ h Tryz.underlying104 rfl (by rw [arrC_size]; exact Tryz.infoNeeds)
theorem Arr.put {w : World} {b : Nat} {f : Nat → Nat} (h : Arr w b f) (g : Nat → Nat) : ∃ X, (Instr.storeAt 104 (.pointer (some ⟨b, 0, none⟩)) (.agg (arrC g))).run Tryz.prog w = .ok () X ∧ Arr X b g ∧ X.heap.size = w.heap.size ∧ (∀ c, c ≠ b → X.heap[c]? = w.heap[c]?) ∧ X.os = w.os ∧ X.tape = w.tape ∧ X.output = w.output := by
  refine ⟨w.setRow b (arrC g), ?_, ?_, ?_, fun c hc => ?_, rfl, rfl, rfl⟩
  · simp only [Instr.storeAt, Instr.sureAddr, Sem.run_bind, Sem.run_pure, Result.andThen]
    rw [run_storeVar_row w b _ _ (arrC f) (arrC g) h (by rw [arrC_size]; exact Tryz.infoNeeds) (by rw [arrC_size, arrC_size]) (arrC_one g)]
  · have h' : w.heap[b]? = some (.cells (arrC f) 104) := h
    unfold Arr
    simp [World.setRow, Array.getElem?_modify, h']
  · simp [World.setRow]
  · simp only [World.setRow]
    rw [Array.getElem?_modify, if_neg (fun e => hc e.symm)]
section
variable {P : Program} {w : World}
/-- A load, a store whose run is known, at its place in a walk. -/
theorem wpList_load_run {ops : Array Oper} {rest : List Oper} {o : Oper} {a : Act} {Q : Exit → Act → World → Prop} (hgd : o.guard = none) (s : Operand) (t : TypeId) (ho : o.op = .load t s) (v : Value) (hs : a.eval s = v) (v' : Value) (w' : World)
    (hr : (Instr.loadAt t v).run P w = .ok v' w') (h : wpList P ops Q rest (a.put o.dst v') w') : wpList P ops Q (o :: rest) a w := by
  refine wpList_plain hgd fun K hK => ?_
  unfold Oper.wp execOp
  simp only [ho, Sem.run_bind, Sem.run_pure, hs, hr, Result.andThen_ok]
  exact hK _ _ h
theorem wpList_store_run {ops : Array Oper} {rest : List Oper} {o : Oper} {a : Act} {Q : Exit → Act → World → Prop} (hgd : o.guard = none) (s x : Operand) (t : TypeId) (ho : o.op = .store t s x) (v y : Value) (hs : a.eval s = v) (hx : a.eval x = y) (w' : World)
    (hr : (Instr.storeAt t v y).run P w = .ok () w') (h : wpList P ops Q rest (a.put o.dst undef) w') : wpList P ops Q (o :: rest) a w := by
  refine wpList_plain hgd fun K hK => ?_
  unfold Oper.wp execOp
  simp only [ho, Sem.run_bind, Sem.run_pure, hs, hx, hr, Result.andThen_ok]
  exact hK _ _ h
end

set_option maxHeartbeats 800000 in
theorem needsWith_walk (w : World) (a : Option Addr) (n c : Nat) (f : Nat → Nat) (bs : List Int) (hn : n ≤ 1048576) (hbn : bs.length = n) (hf : ∀ i, f i ≤ 1000000000000) (hr : ∀ k, k < n → 0 ≤ bs[k]?.getD 0 ∧ bs[k]?.getD 0 < 20) (hc : At1 w a n (fun k => .int .i64 (bs[k]?.getD 0))) :
    Calls Tryz.prog 71 #[.agg (arrC f), .slice a n c] w fun e w' => e = .returned (.agg (arrC fun i => f i + bs.count (i : Int))) ∧ Below w.heap.size w w' := by
  have HC : Hid (At1 w a n (fun k => .int .i64 (bs[k]?.getD 0))) := hc
  have HR : Hid (∀ k, k < n → 0 ≤ bs[k]?.getD 0 ∧ bs[k]?.getD 0 < 20) := hr
  have HN : Hid (bs.length = n) := hbn
  have HF : Hid (∀ i, f i ≤ 1000000000000) := hf
  clear hc hr hbn hf
  have hsz := arrC_size f
  have h0 := Arr.new w f
  have z1 := Arr.new (w.alloc (.cells (arrC f) 104)) (fun _ => 0)
  have z0 := h0.later (later1 _ (.cells (arrC fun _ => 0) 104))
  rw [World.size_alloc] at z1
  have HB0 : Hid (Below w.heap.size w ((w.alloc (.cells (arrC f) 104)).alloc (.cells (arrC fun _ => 0) 104))) := later2 _ _ _
  have HZ0 : Hid (Arr _ _ _) := z0
  have HZ1 : Hid (Arr _ _ _) := z1
  clear h0 z0 z1
  go_enter Tryz.func71, Tryz.ntmps71
  go_wp2
  go_loopw [9] (fun i wr => ∃ j : Nat, j ≤ n ∧ i = .int .i64 j ∧ Below w.heap.size w wr ∧ Arr wr w.heap.size (fun i => f i + (bs.take j).count (i : Int)) ∧ Arr wr (w.heap.size + 1) (fun _ => 0)) (fun i _ => n - (intOf i).toNat)
  case atStart => exact ⟨0, Nat.zero_le _, rfl, HB0.out, by simp only [List.take_zero, List.count_nil, Nat.add_zero]; exact HZ0.out, HZ1.out⟩
  case round =>
    clear HB0 HZ0 HZ1
    obtain ⟨j, hj, rfl, hbl, hx, hy⟩ := hrel
    have HBL : Hid (Below w.heap.size w wr) := hbl
    have HX : Hid (Arr wr w.heap.size (fun i => f i + (bs.take j).count (i : Int))) := hx
    have HY : Hid (Arr wr (w.heap.size + 1) (fun _ => 0)) := hy
    clear hbl hx hy
    by_cases hlt : j < n
    · obtain ⟨b, o, rfl, d1⟩ := HC.out j hlt
      replace d1 : w.cell? ⟨b, o + j, none⟩ = some (.int .i64 (bs[j]?.getD 0)) := d1
      replace d1 := cell_later HBL.out d1
      have hrj := HR.out j hlt
      obtain ⟨q, hq⟩ := Int.eq_ofNat_of_zero_le hrj.1
      have hq20 : q < 20 := by omega
      have hfq := HF.out q
      have hct : (bs.take j).count (q : Int) ≤ 1048576 := by
        have := List.count_le_length (a := (q : Int)) (l := bs.take j)
        rw [List.length_take] at this
        omega
      have HNX : Hid (∀ i : Nat, (bs.take (j + 1)).count (i : Int) = (bs.take j).count (i : Int) + if i = q then 1 else 0) := fun i => by
        rw [count_next bs (i : Int) j (by rw [HN.out]; exact hlt), hq]
        congr 1
        by_cases e : i = q
        · rw [if_pos e, if_pos (by omega)]
        · rw [if_neg e, if_neg (by omega)]
      rw [hq] at d1
      have e1 := HX.out.cell hq20
      have e2 := HX.out.frozen q
      clear hrj hq HC HR
      have HS := HX.out.set q (f q + (bs.take j).count (q : Int) + 1)
      have HS' : Hid (Arr (wr.setCell ⟨w.heap.size, q, none⟩ (.int .i64 ((f q + (bs.take j).count (q : Int) + 1 : Nat) : Int))) w.heap.size (fun i => f i + (bs.take (j + 1)).count (i : Int))) := by
        have he : (fun i => f i + (bs.take (j + 1)).count (i : Int)) = (fun i : Nat => if i = q then f q + (bs.take j).count (q : Int) + 1 else f i + (bs.take j).count (i : Int)) := by
          funext i
          rw [HNX.out i]
          by_cases e : i = q
          · subst e; rw [if_pos rfl, if_pos rfl]; omega
          · rw [if_neg e, if_neg e]; omega
        unfold Hid
        rw [he]
        exact HS
      clear HS HNX
      generalize (bs.take j).count (q : Int) = cq at *
      generalize f q = fq at *
      go_wp2
      go_roundw
      case rel => exact ⟨j + 1, by omega, by go_num, HBL.out.setCell (by simp) _, by first | exact HS'.out | simpa using HS'.out, HY.out.store (by simp) _⟩
      case measure => simp [intOf]; omega
    · have he : bs.take j = bs := List.take_of_length_le (by rw [HN.out]; omega)
      rw [he] at HX
      clear he
      generalize hg : (fun i : Nat => f i + bs.count (i : Int)) = g at HX
      have HGE : Hid ((fun i : Nat => f i + bs.count (i : Int)) = g) := hg
      clear hg
      have HL : Hid (_ = _) := HX.out.load
      obtain ⟨X, hst, hax, hsx, hoth, hx1, hx2, hx3⟩ := HY.out.put g
      have HST : Hid (_ = _) := hst
      have HAX : Hid (Arr X (w.heap.size + 1) g) := hax
      have HBX : Hid (Below w.heap.size w X) := HBL.out.trans ⟨hx1, hx2, hx3, by omega, fun c hc => hoth c (by omega)⟩
      clear hst hax hsx hoth hx1 hx2 hx3
      go_wp2_with (first | refine wpList_load_run rfl _ 104 rfl _ rfl _ _ HL.out ?_ | refine wpList_store_run rfl _ _ 104 rfl _ _ rfl rfl _ HST.out ?_)
      refine bodyPost_ret (v := .agg (arrC g)) ?_ rfl ⟨by rw [HGE.out], HBX.out⟩
      have hlv := HAX.out.loadV
      simp [results, Tryz.results71, asAddr, Act.put, hlv]
end Go.Proofs.YtjabimfinanjoaaGreat

namespace Go.Proofs.YtjabimfinanjoaaGreat
open Go.RowKit
set_option maxRecDepth 100000

theorem needsWith_any {w : World} {v : Value} {bs : List Int} (h : Ints w v bs) (f : Nat → Nat) (hn : bs.length ≤ 1048576) (hf : ∀ i, f i ≤ 1000000000000) (hr : ∀ k : Nat, k < bs.length → 0 ≤ bs[k]?.getD 0 ∧ bs[k]?.getD 0 < 20) :
    Calls Tryz.prog 71 #[.agg (arrC f), v] w fun e w' => e = .returned (.agg (arrC fun i => f i + bs.count (i : Int))) ∧ Below w.heap.size w w' := by
  obtain ⟨a, cap, rfl, _, hc⟩ := h.open'
  exact needsWith_walk w a _ cap f bs hn rfl hf hr hc
/-- Blocks of inodes without a fault stand within the bounds. -/
theorem inoF_blocks {d : ID} (h : inoF d = 0) (k : Nat) (hk : k < d.2.2.2.1.length) : 0 ≤ d.2.2.2.1[k]?.getD 0 ∧ d.2.2.2.1[k]?.getD 0 < 20 := by
  have hp : ∀ x : Bool, (decide (d.2.1 ≠ 0) || decide (d.2.2.1 ≠ 0) || decide (0 < d.2.2.2.1.length)) = x → x = true := fun x hx => by
    rw [← hx, decide_eq_true (show 0 < d.2.2.2.1.length by omega)]; simp
  have hfp : fpB d = true := hp _ rfl
  unfold inoF at h
  rw [hfp] at h
  split at h
  · simp at h
  · split at h
    · split at h
      · omega
      · unfold fileF at h
        split at h
        · split at h
          · unfold blkF at h
            split at h
            · rename_i hz
              have := fstNZ_inv hz k hk
              unfold rngF at this
              split at this
              · omega
              · omega
            · rename_i hz; exact absurd h hz
          · omega
        · omega
    · split at h
      · simp at h
      · omega
theorem insF_len {ds : List ID} (h : insF ds = 0) : ds.length ≤ 10 := by
  unfold insF at h
  split at h
  · omega
  · omega
theorem insF_each {ds : List ID} (h : insF ds = 0) (j : Nat) (hj : j < ds.length) : inoF (ds[j]?.getD id0) = 0 := by
  unfold insF at h
  split at h
  · omega
  · exact fstNZ_inv (f := fun i => inoF (ds[i]?.getD id0)) h j hj
theorem insF_blocks {ds : List ID} (h : insF ds = 0) (j k : Nat) (hj : j < ds.length) (hk : k < (ds[j]?.getD id0).2.2.2.1.length) : 0 ≤ (ds[j]?.getD id0).2.2.2.1[k]?.getD 0 ∧ (ds[j]?.getD id0).2.2.2.1[k]?.getD 0 < 20 := inoF_blocks (insF_each h j hj) k hk

set_option maxHeartbeats 1600000 in
theorem needsOf_walk (w : World) (a : Option Addr) (n c : Nat) (ds : List ID) (hdn : ds.length = n) (hn : n ≤ 1048576) (hs : (isz ds).sum ≤ 1048576) (hr : ∀ j k : Nat, j < n → k < (ds[j]?.getD id0).2.2.2.1.length → 0 ≤ (ds[j]?.getD id0).2.2.2.1[k]?.getD 0 ∧ (ds[j]?.getD id0).2.2.2.1[k]?.getD 0 < 20) (hc : AtI w a n ds) :
    Calls Tryz.prog 70 #[.slice a n c] w fun e w' => e = .returned (.agg (arrC fun i => cntB ds (i : Int))) ∧ Below w.heap.size w w' := by
  have HC : Hid (AtI w a n ds) := hc
  have HN : Hid (ds.length = n) := hdn
  have HR : Hid (∀ j k : Nat, j < n → k < (ds[j]?.getD id0).2.2.2.1.length → 0 ≤ (ds[j]?.getD id0).2.2.2.1[k]?.getD 0 ∧ (ds[j]?.getD id0).2.2.2.1[k]?.getD 0 < 20) := hr
  have HS : Hid (∀ (j : Nat) (v : Int), (((ds.take j).flatMap fun d => d.2.2.2.1)).count v ≤ 1000000000000) := fun j v => by
    have h1 := flat_take (fun d : ID => d.2.2.2.1) ds j
    have h2 := allB_len ds
    have h3 := List.count_le_length (a := v) (l := (ds.take j).flatMap fun d => d.2.2.2.1)
    unfold allB at h2
    omega
  have HX : Hid (∀ (j : Nat), j < n → (fun i : Nat => ((ds.take j).flatMap fun d => d.2.2.2.1).count (i : Int) + ((ds[j]?.getD id0).2.2.2.1).count (i : Int)) = (fun i : Nat => ((ds.take (j + 1)).flatMap fun d => d.2.2.2.1).count (i : Int))) := fun j hj => by
    funext i
    rw [flat_next (fun d : ID => d.2.2.2.1) ds id0 j (by omega), List.count_append]
  have HZ : Hid (∀ j : Nat, (ds[j]?.getD id0).2.2.2.1.length ≤ 1048576) := fun j => by
    have := isz_le ds j
    have hd : sizeIno (ds[j]?.getD id0) = (ds[j]?.getD id0).2.2.2.1.length + sizeN (ds[j]?.getD id0).2.2.2.2 := rfl
    omega
  have HE : Hid ((fun i : Nat => cntB ds (i : Int)) = (fun i : Nat => ((ds.take n).flatMap fun d => d.2.2.2.1).count (i : Int))) := by unfold Hid cntB allB; rw [List.take_of_length_le (by omega)]
  clear hc hdn hr hs
  have z0 := Arr.new w (fun _ => 0)
  have z1 := Arr.new (w.alloc (.cells (arrC fun _ => 0) 104)) (fun _ => 0)
  replace z0 := z0.later (later1 _ (.cells (arrC fun _ => 0) 104))
  rw [World.size_alloc] at z1
  have HB0 : Hid (Below w.heap.size w ((w.alloc (.cells (arrC fun _ => 0) 104)).alloc (.cells (arrC fun _ => 0) 104))) := later2 _ _ _
  have HZ0 : Hid (Arr _ _ _) := z0
  have HZ1 : Hid (Arr _ _ _) := z1
  clear z0 z1
  rw [HE.out]
  clear HE
  generalize hG : (fun (j i : Nat) => ((ds.take j).flatMap fun d => d.2.2.2.1).count (i : Int)) = G at *
  have HG : Hid (∀ j i, ((ds.take j).flatMap fun d => d.2.2.2.1).count ((i : Nat) : Int) = G j i) := fun j i => congrFun (congrFun hG j) i
  have HGB : Hid (∀ j i, G j i ≤ 1000000000000) := fun j i => by rw [← HG.out j i]; exact HS.out j _
  have HG0 : Hid ((fun _ : Nat => 0) = G 0) := by unfold Hid; funext i; rw [← HG.out 0 i]; simp
  simp only [HG.out] at HX ⊢
  clear hG HG HS
  go_enter Tryz.func70, Tryz.ntmps70
  go_wp2
  go_loopw [8] (fun i wr => ∃ j : Nat, j ≤ n ∧ i = .int .i64 j ∧ Below w.heap.size w wr ∧ Arr wr (w.heap.size + 1) (G j) ∧ Arr wr w.heap.size (fun _ => 0)) (fun i _ => n - (intOf i).toNat)
  case atStart => exact ⟨0, Nat.zero_le _, rfl, HB0.out, HG0.out ▸ HZ1.out, HZ0.out⟩
  case round =>
    clear HB0 HZ0 HZ1
    obtain ⟨j, hj, rfl, hbl, hx, hy⟩ := hrel
    have HBL : Hid (Below w.heap.size w wr) := hbl
    have HA : Hid (Arr wr (w.heap.size + 1) (G j)) := hx
    have HY : Hid (Arr wr w.heap.size (fun _ => 0)) := hy
    have hw0 := hx.lt
    clear hbl hx hy
    by_cases hlt : j < n
    · obtain ⟨b, o, rfl, hI⟩ := HC.out j hlt
      obtain ⟨aB, cB, aE, cE, c0, c1, c2, c3, c4, hR⟩ := hI.later HBL.out
      have HW : Hid (∀ W, Below wr.heap.size wr W → Calls Tryz.prog 71 #[.agg (arrC (G j)), .slice aB (ds[j]?.getD id0).2.2.2.1.length cB] W fun e w' => e = .returned (.agg (arrC (G (j + 1)))) ∧ Below W.heap.size W w') := fun W hW => by
        have hx := needsWith_any (hR.2.1.later hW) (G j) (HZ.out j) (HGB.out j) (fun k hk => HR.out j k hlt hk)
        have e : (fun i : Nat => G j i + ((ds[j]?.getD id0).2.2.2.1).count (i : Int)) = G (j + 1) := HX.out j hlt
        rw [e] at hx
        exact hx
      have HL : Hid (∀ o, (Instr.loadAt 104 (.pointer (some ⟨w.heap.size + 1, 0, none⟩))).run Tryz.prog (wr.alloc o) = .ok (.agg (arrC (G j))) (wr.alloc o)) := fun o => (HA.out.later (later1 _ _)).load
      clear hI hR HC HR
      generalize hg2 : G (j + 1) = g2 at HW
      generalize G j = g1 at HW HL HA
      have HG2 : Hid (G (j + 1) = g2) := hg2
      clear hg2
      generalize (ds[j]?.getD id0) = d at *
      go_wp2_with (first | refine wpList_load_run rfl _ 104 rfl _ rfl _ _ (HL.out _) ?_ | fail)
      clear c0 c1 c2 c3 c4
      refine (HW.out _ (later1 _ _)).mono ?_
      rintro e w2 ⟨rfl, hb2⟩
      have hbw : Below wr.heap.size wr w2 := (later1 _ _).trans (hb2.mono (by simp))
      obtain ⟨X, hst, hax, hsx, hoth, hx1, hx2, hx3⟩ := (HA.out.later hbw).put g2
      have HST : Hid (_ = _) := hst
      have HAX : Hid (Arr X (w.heap.size + 1) g2) := hax
      have HBX : Hid (Below w.heap.size w X) := (HBL.out.trans (hbw.mono HBL.out.size)).trans ⟨hx1, hx2, hx3, by omega, fun c hc => hoth c (by omega)⟩
      have HYX : Hid (Arr X w.heap.size (fun _ => 0)) := (hoth _ (by omega)).trans (HY.out.later hbw)
      clear hst hax hsx hoth hx1 hx2 hx3 hb2 hbw
      go_wp2_with (first | refine wpList_store_run rfl _ _ 104 rfl _ _ rfl rfl _ HST.out ?_ | fail)
      go_roundw
      case rel => exact ⟨j + 1, by omega, by go_num, HBX.out, by rw [HG2.out]; exact HAX.out, HYX.out⟩
      case measure => simp [intOf]; omega
    · have HGN : Hid (G j = G n) := by unfold Hid; rw [show j = n by omega]
      have HL : Hid (_ = _) := HA.out.load
      obtain ⟨X, hst, hax, hsx, hoth, hx1, hx2, hx3⟩ := HY.out.put (G j)
      have HST : Hid (_ = _) := hst
      have HAX : Hid (Arr X w.heap.size (G n)) := HGN.out ▸ hax
      have HBX : Hid (Below w.heap.size w X) := HBL.out.trans ⟨hx1, hx2, hx3, by omega, fun c hc => hoth c (by omega)⟩
      clear hst hax hsx hoth hx1 hx2 hx3
      generalize G j = g1 at HL HST
      go_wp2_with (first | refine wpList_load_run rfl _ 104 rfl _ rfl _ _ HL.out ?_ | refine wpList_store_run rfl _ _ 104 rfl _ _ rfl rfl _ HST.out ?_)
      refine bodyPost_ret (v := .agg (arrC (G n))) ?_ rfl ⟨rfl, HBX.out⟩
      have hlv := HAX.out.loadV
      simp [results, Tryz.results70, asAddr, Act.put, hlv]
theorem needsOf_any {w : World} {v : Value} {ds : List ID} (h : Inos w v ds) (hs : sizeInos ds ≤ 1048576) (hf : insF ds = 0) :
    Calls Tryz.prog 70 #[v] w fun e w' => e = .returned (.agg (arrC fun i => cntB ds (i : Int))) ∧ Below w.heap.size w w' := by
  obtain ⟨a, cap, rfl, hm, hc⟩ := h.open'
  unfold sizeInos at hs
  exact needsOf_walk w a _ cap ds rfl (by omega) (by omega) (fun j k hj hk => insF_blocks hf j k hj hk) hc

theorem Arr.keep {w w' : World} {b : Nat} {f : Nat → Nat} (h : Arr w b f) (hk : KeepT w w') : Arr w' b f := hk _ _ _ _ (by decide) h

def manyB (f : Nat → Nat) : Bool := (List.range 20).any fun k => decide (1 < f k)
set_option maxHeartbeats 800000 in
theorem anyOfTwo_any (w : World) (f : Nat → Nat) (hf : ∀ i, f i ≤ 1000000000000) :
    Calls Tryz.prog 120 #[.agg (arrC f)] w fun e w' => e = .returned (.bool (manyB f)) ∧ Below w.heap.size w w' := by
  have HA : Hid (Arr (w.alloc (.cells (arrC f) 104)) w.heap.size f) := Arr.new w f
  have HF : Hid (∀ i, f i ≤ 1000000000000) := hf
  have HB : Hid (Below w.heap.size w (w.alloc (.cells (arrC f) 104))) := later1 _ _
  have hsz := arrC_size f
  clear hf
  go_enter Tryz.func120, Tryz.ntmps120
  go_wp2
  generalize w.alloc (.cells (arrC f) 104) = W at *
  go_loopw [4] (fun i wr => ∃ j : Nat, j ≤ 20 ∧ i = .int .i64 j ∧ wr = W ∧ ∀ i : Nat, i < j → ¬ 1 < f i) (fun i _ => 20 - (intOf i).toNat)
  case atStart => exact ⟨0, Nat.zero_le _, rfl, rfl, fun i hi => by omega⟩
  case round =>
    obtain ⟨j, hj, rfl, hw, hz⟩ := hrel
    have HZ : Hid (∀ i : Nat, i < j → ¬ 1 < f i) := hz
    rw [← hw] at HA HB
    have HWE : Hid (wr = W) := hw
    clear hz hw
    by_cases hlt : j < 20
    · have c0 := HA.out.cell hlt
      have hfj := HF.out j
      by_cases h1 : 1 < f j
      · have HR : Hid (manyB f = true) := by
          unfold Hid manyB
          rw [List.any_eq_true]
          exact ⟨j, by simpa using hlt, by simpa using h1⟩
        have hd : decide ((1 : Int) < ((f j : Nat) : Int)) = true := by simp; omega
        clear h1
        generalize f j = x at *
        go_wp2
        go_ret
        exact ⟨ret_bool HR.out.symm, HB.out⟩
      · have HR : Hid (∀ i : Nat, i < j + 1 → ¬ 1 < f i) := fun i hi => by
          by_cases e : i = j
          · subst e; exact h1
          · exact HZ.out i (by omega)
        have hd : decide ((1 : Int) < ((f j : Nat) : Int)) = false := by simp; omega
        clear h1
        generalize hx : f j = x at c0 hd hfj
        clear hx
        go_wp2
        go_roundw
        case rel => exact ⟨j + 1, by omega, by go_num, HWE.out, HR.out⟩
        case measure => simp [intOf]; omega
    · have HR : Hid (manyB f = false) := by
        unfold Hid manyB
        rw [List.any_eq_false]
        intro k hk
        simp only [List.mem_range] at hk
        simpa using HZ.out k (by omega)
      go_wp2
      go_ret
      exact ⟨ret_bool HR.out.symm, HB.out⟩

set_option maxHeartbeats 1600000 in
theorem needsFree_any (w : World) (f : Nat → Nat) (hf : ∀ i, f i ≤ 1000000000000) :
    Calls Tryz.prog 72 #[.agg (arrC f)] w fun e w' => ∃ a c, e = .returned (.slice a (selL (fun k => decide (f k = 0)) 20).length c) ∧ Below w.heap.size w w' ∧ Wds w' w.heap.size (.slice a (selL (fun k => decide (f k = 0)) 20).length c) (selL (fun k => decide (f k = 0)) 20) := by
  have HA : Hid (Arr (w.alloc (.cells (arrC f) 104)) w.heap.size f) := Arr.new w f
  have HF : Hid (∀ i, f i ≤ 1000000000000) := hf
  have HB : Hid (Below w.heap.size w (w.alloc (.cells (arrC f) 104))) := later1 _ _
  have HY : Hid (∀ j : Nat, f j = 0 → selL (fun k => decide (f k = 0)) (j + 1) = selL (fun k => decide (f k = 0)) j ++ [(j : Int)]) := fun j hj => selL_yes (by simpa using hj)
  have HNO : Hid (∀ j : Nat, ¬ f j = 0 → selL (fun k => decide (f k = 0)) (j + 1) = selL (fun k => decide (f k = 0)) j) := fun j hj => selL_no (by simpa using hj)
  have HL : Hid (∀ j, (selL (fun k => decide (f k = 0)) j).length ≤ j) := fun j => selL_len _ _
  have HS0 : Hid (selL (fun k => decide (f k = 0)) 0 = []) := rfl
  have hsz := arrC_size f
  clear hf
  generalize (fun k => decide (f k = 0)) = p at *
  go_enter Tryz.func72, Tryz.ntmps72
  go_wp2
  go_loopw [3, 5] (fun o i wr => ∃ (j : Nat) (v : Value), j ≤ 20 ∧ i = .int .i64 j ∧ o = v ∧ Below w.heap.size w wr ∧ Arr wr w.heap.size f ∧ Wds wr w.heap.size v (selL p j)) (fun _ i _ => 20 - (intOf i).toNat)
  case atStart => exact ⟨0, _, Nat.zero_le _, rfl, rfl, HB.out, HA.out, by rw [HS0.out]; exact Wds.nil _ _⟩
  case round =>
    clear HA HB
    obtain ⟨j, v, hj, rfl, rfl, hbl, ha, hwd⟩ := hrel
    obtain ⟨aV, cV, rfl⟩ := hwd.shape
    have HBL : Hid (Below w.heap.size w wr) := hbl
    have HAR : Hid (Arr wr w.heap.size f) := ha
    have HWD : Hid (Wds wr w.heap.size (.slice aV (selL p j).length cV) (selL p j)) := hwd
    clear hbl hwd ha
    by_cases hlt : j < 20
    · have c0 := HAR.out.cell hlt
      have hfj := HF.out j
      have HYJ := HY.out j
      have HNJ := HNO.out j
      have hlj := HL.out j
      by_cases h1 : f j = 0
      · have HYY : Hid (selL p (j + 1) = selL p j ++ [(j : Int)]) := HYJ h1
        rw [h1] at c0
        clear HYJ HNJ h1 hfj
        obtain ⟨a', c', X, hr, hw, hb, hk⟩ := append_w1 wr w.heap.size _ (selL p j) (j : Int) HWD.out HBL.out.size (by omega)
        have HR : Hid (_ = _) := hr
        rw [← HYY.out] at HR hw
        have HW : Hid (Wds X w.heap.size _ (selL p (j + 1))) := hw
        have HB : Hid (Below w.heap.size w X) := HBL.out.trans hb
        have HAX : Hid (Arr X w.heap.size f) := HAR.out.keep hk
        clear hr hw hb hk
        go_wp2_with (at_builtin; refine wpList_append_run rfl _ _ 27 rfl _ _ rfl rfl _ _ HR.out ?_)
        go_roundw
        case rel => exact ⟨j + 1, _, by omega, by go_num, rfl, HB.out, HAX.out, HW.out⟩
        case measure => simp [intOf]; omega
      · have HYY : Hid (selL p (j + 1) = selL p j) := HNJ h1
        have hd : (((f j : Nat) : Int) == 0) = false := by rw [beq_eq_false_iff_ne]; omega
        clear HYJ HNJ h1
        generalize hx : f j = x at c0 hd hfj
        clear hx
        have HW : Hid (Wds wr w.heap.size (.slice aV (selL p j).length cV) (selL p (j + 1))) := by unfold Hid; rw [HYY.out]; exact HWD.out
        go_wp2
        go_roundw
        case rel => exact ⟨j + 1, _, by omega, by go_num, rfl, HBL.out, HAR.out, HW.out⟩
        case measure => simp [intOf]; omega
    · have he : j = 20 := by omega
      subst he
      clear hlt
      go_wp2
      go_ret
      exact ⟨_, _, rfl, HBL.out, HWD.out⟩
end Go.Proofs.YtjabimfinanjoaaGreat

namespace Go.Proofs.YtjabimfinanjoaaGreat
open Go.RowKit
set_option maxRecDepth 100000

def fsF (d : FD) : Int := if fsE d = 0 then (if linksB d.1 && sizesB d then 0 else 1) else fsE d
theorem fsE_zero {d : FD} (h : fsE d = 0) : insF d.1 = 0 ∧ formB d = false ∧ fstNZ (manyF d.2) d.2.length = 0 ∧ onceB d.1 20 = true ∧ lostF d.1 = 0 := by
  unfold fsE at h
  by_cases h1 : insF d.1 = 0
  · rw [if_pos h1] at h
    by_cases h2 : formB d = true
    · rw [if_pos h2] at h; omega
    · rw [if_neg h2] at h
      by_cases h3 : fstNZ (manyF d.2) d.2.length = 0
      · rw [if_pos h3] at h
        by_cases h4 : onceB d.1 20 = true
        · rw [if_pos h4] at h
          exact ⟨h1, by simpa using h2, h3, h4, h⟩
        · rw [if_neg h4] at h; omega
      · rw [if_neg h3] at h; exact absurd h h3
  · rw [if_neg h1] at h; exact absurd h h1
theorem formB_no {d : FD} (h : formB d = false) : ¬ d.1.length = 0 ∧ kindAt d.1 0 = 2 ∧ d.2.length = 20 := by
  unfold formB at h
  simp at h
  obtain ⟨⟨h1, h2⟩, h3⟩ := h
  exact ⟨fun e => h1 (List.eq_nil_of_length_eq_zero e), h2, h3⟩
theorem insF_ten {ds : List ID} (h : insF ds = 0) : ds.length ≤ 10 := by
  unfold insF at h
  by_cases h1 : 10 < ds.length
  · rw [if_pos h1] at h; omega
  · omega
theorem lost_in {ds : List ID} (hi : insF ds = 0) (h : lostF ds = 0) : ∀ j, j < ds.length → ∀ k, k < (ds[j]?.getD id0).2.2.2.2.length → 0 ≤ ((ds[j]?.getD id0).2.2.2.2[k]?.getD en0).2 ∧ ((ds[j]?.getD id0).2.2.2.2[k]?.getD en0).2 < (ds.length : Int) := fun j hj k hk => by
  refine ⟨ino_ent (ins_ino hi j hj) k hk, ?_⟩
  cases hl : lostB ds ((ds[j]?.getD id0).2.2.2.2[k]?.getD en0).2 with
  | true => rw [lost_yes hj hk hl] at h; omega
  | false =>
    unfold lostB at hl
    simp at hl
    omega
theorem ins_blk {ds : List ID} (h : insF ds = 0) (j k : Nat) (hj : j < ds.length) (hk : k < (ds[j]?.getD id0).2.2.2.1.length) : 0 ≤ (ds[j]?.getD id0).2.2.2.1[k]?.getD 0 ∧ (ds[j]?.getD id0).2.2.2.1[k]?.getD 0 < 20 := by
  have := insF_blocks h j k hj hk
  omega

set_option maxHeartbeats 1600000 in
theorem l6Fault_any (w : World) (b o : Nat) (d : FD) (aI : Option Addr) (cI : Nat) (aD : Option Addr) (cD : Nat) (h : FsX w b o d aI cI aD cD) (hs : sizeInos d.1 ≤ 1048576) :
    Calls Tryz.prog 82 #[.pointer (some ⟨b, o, none⟩)] w fun e w' => e = .returned (.int .i64 (fsF d)) ∧ Below w.heap.size w w' := by
  have HE : Hid (Calls Tryz.prog 100 #[.pointer (some ⟨b, o, none⟩)] w fun e w' => e = .returned (.int .i64 (fsE d)) ∧ Below w.heap.size w w') := l6Entries_any w b o d aI cI aD cD h hs
  have HF : Hid (fsF d = if fsE d = 0 then (if linksB d.1 && sizesB d then 0 else 1) else fsE d) := rfl
  by_cases he : fsE d = 0
  rotate_left
  · have HR : Hid (fsF d = fsE d) := by unfold Hid; rw [HF.out, if_neg he]
    have hb : (fsE d != 0) = true := by simpa using he
    clear HF he h
    generalize fsE d = r at *
    go_enter Tryz.func82, Tryz.ntmps82
    go_wp2_with fail
    refine HE.out.mono ?_
    rintro e w1 ⟨rfl, hb1⟩
    have HB0 : Hid (Below w.heap.size w w1) := hb1
    clear hb1
    go_wp2
    go_ret
    exact ⟨ret_int HR.out.symm, HB0.out⟩
  · obtain ⟨h1, h2, h3, h4, h5⟩ := fsE_zero he
    obtain ⟨g1, g2, g3⟩ := formB_no h2
    have HL : Hid (∀ W, Below w.heap.size w W → Calls Tryz.prog 101 #[.pointer (some ⟨b, o, none⟩)] W fun e w' => e = .returned (.bool (linksB d.1)) ∧ Below W.heap.size W w') := fun W hW => l6Links_any W b o d aI cI aD cD (h.later hW) hs g1 (insF_ten h1) (lost_in h1 h5)
    have HS : Hid (∀ W, Below w.heap.size w W → Calls Tryz.prog 102 #[.pointer (some ⟨b, o, none⟩)] W fun e w' => e = .returned (.bool (sizesB d)) ∧ Below W.heap.size W w') := fun W hW => l6Sizes_any W b o d aI cI aD cD (h.later hW) (insF_ten h1) g3 h1 (ins_blk h1)
    have HR : Hid (fsF d = if linksB d.1 && sizesB d then 0 else 1) := by unfold Hid; rw [HF.out, if_pos he]
    rw [he] at HE
    clear HF he h h1 h2 h3 h4 h5 g1 g2 g3
    generalize linksB d.1 = lb at *
    generalize sizesB d = sb at *
    cases lb with
    | false =>
      go_enter Tryz.func82, Tryz.ntmps82
      go_wp2_with fail
      refine HE.out.mono ?_
      rintro e w1 ⟨rfl, hb1⟩
      have HB0 : Hid (Below w.heap.size w w1) := hb1
      clear hb1
      go_wp2_with fail
      refine (HL.out _ HB0.out).mono ?_
      rintro e w2 ⟨rfl, hb2⟩
      have HB2 : Hid (Below w.heap.size w w2) := HB0.out.trans (hb2.mono HB0.out.size)
      clear hb2
      go_wp2
      go_ret
      exact ⟨ret_int HR.out.symm, HB2.out⟩
    | true =>
      cases sb
      all_goals
        go_enter Tryz.func82, Tryz.ntmps82
        go_wp2_with fail
        refine HE.out.mono ?_
        rintro e w1 ⟨rfl, hb1⟩
        have HB0 : Hid (Below w.heap.size w w1) := hb1
        clear hb1
        go_wp2_with fail
        refine (HL.out _ HB0.out).mono ?_
        rintro e w2 ⟨rfl, hb2⟩
        have HB2 : Hid (Below w.heap.size w w2) := HB0.out.trans (hb2.mono HB0.out.size)
        clear hb2
        go_wp2_with fail
        refine (HS.out _ HB2.out).mono ?_
        rintro e w3 ⟨rfl, hb3⟩
        have HB3 : Hid (Below w.heap.size w w3) := HB2.out.trans (hb3.mono HB2.out.size)
        clear hb3
        go_wp2
        go_ret
        exact ⟨ret_int HR.out.symm, HB3.out⟩

theorem FsX.box {w : World} {a1 : Option Addr} {n1 c1 : Nat} {a2 : Option Addr} {n2 c2 : Nat} {d : FD} (h : FsR w (.slice a1 n1 c1) (.slice a2 n2 c2) d) (t : TypeId) : FsX (w.alloc (.cells #[.slice a1 n1 c1, .slice a2 n2 c2] t)) w.heap.size 0 d a1 c1 a2 c2 ∧ n1 = d.1.length ∧ n2 = d.2.length := by
  obtain ⟨_, _, e1, _, _⟩ := h.1.open'
  obtain ⟨_, _, e2, _, _⟩ := h.2.open'
  simp only [Value.slice.injEq] at e1 e2
  obtain ⟨rfl, rfl, rfl⟩ := e1
  obtain ⟨rfl, rfl, rfl⟩ := e2
  have hx := Bx.new w [.slice a1 d.1.length c1, .slice a2 d.2.length c2] t
  exact ⟨⟨hx 0 _ rfl, hx 1 _ rfl, h.1.later (later1 _ _), h.2.later (later1 _ _)⟩, rfl, rfl⟩
end Go.Proofs.YtjabimfinanjoaaGreat

namespace Go.Proofs.YtjabimfinanjoaaGreat
open Go.RowKit
set_option maxRecDepth 100000

/-- The bytes of the first k blocks of an inode. -/
def bytK (d : FD) (bs : List Int) (k : Nat) : List UInt8 := (bs.take k).flatMap fun b => d.2[b.toNat]?.getD []
def bytL (d : FD) (j : Nat) : List UInt8 := bytK d (d.1[j]?.getD id0).2.2.2.1 (d.1[j]?.getD id0).2.2.2.1.length
def bytR (d : FD) (x : Int) : Int × List UInt8 :=
  if fsF d = 0 then (if 0 ≤ x ∧ x < (d.1.length : Int) then (if kindAt d.1 x.toNat = 2 then (9, []) else if kindAt d.1 x.toNat = 0 then (4, []) else (0, bytL d x.toNat)) else (3, [])) else (fsF d, [])
theorem bytK_next (d : FD) (bs : List Int) (k : Nat) (hk : k < bs.length) : bytK d bs (k + 1) = bytK d bs k ++ (d.2[(bs[k]?.getD 0).toNat]?.getD []) := by
  unfold bytK
  rw [List.take_succ_eq_append_getElem hk, List.flatMap_append]
  simp [List.getElem?_eq_getElem hk]
theorem bytK_len (d : FD) (bs : List Int) (h8 : ∀ i : Nat, (d.2[i]?.getD []).length ≤ 8) : ∀ k, k ≤ bs.length → (bytK d bs k).length ≤ 8 * k
  | 0, _ => by simp [bytK]
  | k + 1, hk => by
    rw [bytK_next d bs k hk, List.length_append]
    have h1 := bytK_len d bs h8 k (by omega)
    have h2 := h8 (bs[k]?.getD 0).toNat
    omega
theorem many_eight {zss : List (List UInt8)} (h : fstNZ (manyF zss) zss.length = 0) (i : Nat) : (zss[i]?.getD []).length ≤ 8 := by
  by_cases hi : i < zss.length
  · have := fstNZ_inv h i hi
    unfold manyF at this
    by_cases h8 : 8 < (zss[i]?.getD []).length
    · rw [if_pos h8] at this; omega
    · omega
  · rw [List.getElem?_eq_none (by omega)]; simp

set_option maxHeartbeats 3200000 in
theorem l6Bytes_any (w : World) (b o : Nat) (d : FD) (aI : Option Addr) (cI : Nat) (aD : Option Addr) (cD : Nat) (j : Nat) (h : FsX w b o d aI cI aD cD) (hj : j < d.1.length) (_hn : d.1.length ≤ 10) (h20 : d.2.length = 20) (h8 : ∀ i : Nat, (d.2[i]?.getD []).length ≤ 8) (h4 : (d.1[j]?.getD id0).2.2.2.1.length ≤ 4)
    (hbl : ∀ k : Nat, k < (d.1[j]?.getD id0).2.2.2.1.length → 0 ≤ (d.1[j]?.getD id0).2.2.2.1[k]?.getD 0 ∧ (d.1[j]?.getD id0).2.2.2.1[k]?.getD 0 < 20) :
    Calls Tryz.prog 84 #[.pointer (some ⟨b, o, none⟩), .int .i64 (j : Int)] w fun e w' => ∃ v, e = .returned v ∧ Below w.heap.size w w' ∧ WdY w' w.heap.size v (bytL d j) := by
  have HBK : Hid (∀ k : Nat, k < (d.1[j]?.getD id0).2.2.2.1.length → 0 ≤ (d.1[j]?.getD id0).2.2.2.1[k]?.getD 0 ∧ (d.1[j]?.getD id0).2.2.2.1[k]?.getD 0 < 20) := hbl
  obtain ⟨_, _, e1, hm1, hAt⟩ := h.ins.open'
  simp only [Value.slice.injEq] at e1
  obtain ⟨rfl, -, rfl⟩ := e1
  obtain ⟨_, _, e2, hm2, hBt⟩ := h.byt.open'
  simp only [Value.slice.injEq] at e2
  obtain ⟨rfl, -, rfl⟩ := e2
  have c0 := h.c0
  have c1 := h.c1
  rw [h20] at c1 hBt
  have HBT : Hid (AtYs w aD 20 d.2) := hBt
  obtain ⟨b0, o0, rfl, hI⟩ := hAt j hj
  obtain ⟨aB, cB, _, _, _, _, _, k3, _, h5⟩ := hI
  obtain ⟨_, _, e3, hm3, hI1⟩ := h5.2.1.open'
  simp only [Value.slice.injEq] at e3
  obtain ⟨rfl, _, rfl⟩ := e3
  have HNX : Hid (∀ k, k < (d.1[j]?.getD id0).2.2.2.1.length → bytK d (d.1[j]?.getD id0).2.2.2.1 (k + 1) = bytK d (d.1[j]?.getD id0).2.2.2.1 k ++ (d.2[((d.1[j]?.getD id0).2.2.2.1[k]?.getD 0).toNat]?.getD [])) := fun k hk => bytK_next d _ k hk
  have HLN : Hid (∀ k, k ≤ (d.1[j]?.getD id0).2.2.2.1.length → (bytK d (d.1[j]?.getD id0).2.2.2.1 k).length ≤ 8 * k) := bytK_len d _ h8
  have H8 : Hid (∀ i : Nat, (d.2[i]?.getD []).length ≤ 8) := h8
  have HBL : Hid (bytL d j = bytK d (d.1[j]?.getD id0).2.2.2.1 (d.1[j]?.getD id0).2.2.2.1.length) := rfl
  rw [HBL.out]
  have hjn : (j : Int) < ((d.1.length : Nat) : Int) := by omega
  clear h hbl hAt hBt hm1 hm2 h20 h5 hm3 h8 HBL
  generalize (d.1[j]?.getD id0).2.2.2.1 = bs at *
  have HIB : Hid (At1 w aB bs.length (fun k => .int .i64 (bs[k]?.getD 0))) := hI1
  have HB0 : Hid (bytK d bs 0 = []) := by unfold Hid bytK; simp
  clear hI1
  generalize bytK d bs = BK at *
  obtain ⟨nB, hnB⟩ : ∃ nB, bs.length = nB := ⟨_, rfl⟩
  rw [hnB] at k3 HIB HBK HNX HLN h4 ⊢
  clear hnB
  generalize d.1.length = n at *
  have HW0 : Hid (WdY (w.alloc (.cells #[] 5)) w.heap.size (.slice (some ⟨w.heap.size, 0, none⟩) 0 0) []) := WdY.lit0 w _ (Nat.le_refl _)
  have hlt0 : b < w.heap.size := lt_of_cell c0
  have hlt1 : b0 < w.heap.size := lt_of_cell k3
  go_enter Tryz.func84, Tryz.ntmps84
  go_wp2
  go_loopw [5, 7] (fun v i wr => ∃ k : Nat, k ≤ nB ∧ i = .int .i64 k ∧ Below w.heap.size w wr ∧ WdY wr w.heap.size v (BK k)) (fun _ i _ => nB - (intOf i).toNat)
  case atStart => exact ⟨0, Nat.zero_le _, rfl, later1 _ _, by rw [HB0.out]; exact HW0.out⟩
  case round =>
    obtain ⟨k, hk, rfl, hbl, hw⟩ := hrel
    have HBL : Hid (Below w.heap.size w wr) := hbl
    have HWD : Hid (WdY wr w.heap.size _ (BK k)) := hw
    obtain ⟨av, cv, rfl⟩ := hw.shape
    have k3r := cell_later hbl k3
    have c1r := cell_later hbl c1
    clear hbl hw HW0
    by_cases hlk : k < nB
    · obtain ⟨b1, o1, rfl, p1⟩ := HIB.out k hlk
      replace p1 : w.cell? ⟨b1, o1 + k, none⟩ = some (.int .i64 (bs[k]?.getD 0)) := p1
      have p1r := cell_later HBL.out p1
      have hbr := HBK.out k hlk
      have HN := HNX.out k hlk
      have hln := HLN.out k (by omega)
      generalize bs[k]?.getD 0 = x at *
      obtain ⟨y, rfl⟩ : ∃ y : Nat, x = (y : Int) := ⟨x.toNat, by omega⟩
      have hy : y < 20 := by omega
      have hy' : (y : Int) < 20 := by omega
      obtain ⟨bD, oD, ua, uc, rfl, d0, iy⟩ := HBT.out y hy
      have d0r := cell_later HBL.out d0
      have h8y := H8.out y
      have HNX' : Hid (BK (k + 1) = BK k ++ d.2[y]?.getD []) := by unfold Hid; simpa using HN
      clear HN hbr
      generalize d.2[y]?.getD [] = ys at *
      have hap : ∃ v' X, (Builtin.append_ #[26, 26] 26 #[.slice av (BK k).length cv, .slice ua ys.length uc]).run Tryz.prog wr.drew = .ok v' X ∧ WdY X w.heap.size v' (BK (k + 1)) ∧ Below w.heap.size w X := by
        obtain ⟨v', X, h1, h2, h3⟩ := append_y wr.drew w.heap.size _ (BK k) ys ua ys.length uc (HWD.out.later (Below.refl _ _).drew) (by have := HBL.out.size; simpa using this) (by omega) (by omega) ((iy.later HBL.out).later (Below.refl _ _).drew)
        exact ⟨v', X, h1, by rw [HNX'.out]; exact h2, HBL.out.drew.trans h3⟩
      obtain ⟨v', X, hr, hwx, hbx⟩ := hap
      have HR : Hid (_ = _) := hr
      have HWX : Hid (WdY X w.heap.size v' (BK (k + 1))) := hwx
      have HBX : Hid (Below w.heap.size w X) := hbx
      have x1 := cell_later hbx c1
      have x2 := cell_later hbx k3
      have x3 := cell_later hbx p1
      have x4 := cell_later hbx d0
      clear hr hwx hbx iy HNX' HWD HNX HLN HBK
      generalize (BK k).length = ln at *
      generalize ys.length = ly at *
      go_wp2_with fail
      go_region_held3 (fun W => W.cell? ⟨b, o + 1, none⟩ = some (.slice (some ⟨bD, oD, none⟩) 20 cD) ∧ W.cell? ⟨b0, o0 + j * 5 + 3, none⟩ = some (.slice (some ⟨b1, o1, none⟩) nB cB) ∧ W.cell? ⟨b1, o1 + k, none⟩ = some (.int .i64 (y : Int)) ∧ W.cell? ⟨bD, oD + y, none⟩ = some (.slice ua ly uc)) (go_keep) (first
        | (refine step_append_run rfl _ _ _ rfl _ _ rfl rfl _ _ HR.out ?_)
        | fail)
      all_goals
        go_wp2
        go_roundw
        case rel => exact ⟨k + 1, by omega, by go_num, HBX.out, HWX.out⟩
        case measure => simp [intOf]; omega
    · have HE : Hid (BK k = BK nB) := by unfold Hid; rw [show k = nB by omega]
      have HWN : Hid (WdY wr w.heap.size (.slice av (BK k).length cv) (BK nB)) := by rw [← HE.out]; exact HWD.out
      generalize (BK k).length = ln at *
      go_wp2
      go_ret
      exact ⟨_, rfl, HBL.out, HWN.out⟩

set_option maxHeartbeats 400000 in
theorem l6Place_any (w : World) (b o : Nat) (d : FD) (aI : Option Addr) (cI : Nat) (aD : Option Addr) (cD : Nat) (x : Int) (h : FsX w b o d aI cI aD cD) :
    Calls Tryz.prog 83 #[.pointer (some ⟨b, o, none⟩), .int .i64 x] w fun e w' => e = .returned (.bool (decide (0 ≤ x ∧ x < (d.1.length : Int)))) ∧ w' = w := by
  obtain ⟨_, _, e1, hm1, _⟩ := h.ins.open'
  have hm := hm1.1
  unfold maxLen at hm
  have c0 := h.c0
  have HE : Hid ((decide (0 ≤ x) && decide (x ≤ ((d.1.length : Nat) : Int) - 1)) = decide (0 ≤ x ∧ x < (d.1.length : Int))) := by
    unfold Hid
    by_cases hq : 0 ≤ x ∧ x < (d.1.length : Int)
    · rw [decide_eq_true hq, decide_eq_true hq.1, decide_eq_true (by omega)]; rfl
    · rw [decide_eq_false hq, Bool.and_eq_false_iff]
      by_cases h0 : 0 ≤ x
      · exact Or.inr (decide_eq_false (by omega))
      · exact Or.inl (decide_eq_false h0)
  clear h e1 hm1
  generalize d.1.length = n at *
  go_enter Tryz.func83, Tryz.ntmps83
  go_wp2_with fail
  refine (l1In_any _ _ _ _).mono ?_
  rintro e w1 ⟨rfl, rfl⟩
  go_wp2
  go_ret
  exact ⟨ret_bool HE.out, rfl⟩

theorem AnsYR.put {w W : World} {rb : Nat} {r : Int} {zs : List UInt8} {a : Option Addr} {n c : Nat} (hB : Below w.heap.size w W) (hrb : w.heap.size ≤ rb) (hY : BytO W (.slice a n c) zs (fun b => rb < b ∧ b < W.heap.size)) (x y : Value) : AnsYR w (r, zs) (.returned (.agg #[.int .i64 r, .slice a n c])) ((W.setCell ⟨rb, 0, none⟩ x).setCell ⟨rb, 1, none⟩ y) := by
  refine ⟨a, n, c, rfl, (hB.setCell (by simpa using hrb) _).setCell (by simpa using hrb) _, (hY.keep fun b hb _ => ?_).mono fun b hb => ?_⟩
  · rw [Below.heap_setCell _ _ _ _ (by simp; omega), Below.heap_setCell _ _ _ _ (by simp; omega)]
  · unfold fresh
    simp only [World.setCell, Array.size_modify]
    exact ⟨by omega, hb.2⟩
theorem AnsYR.bad {w W : World} {rb : Nat} (r : Int) (hB : Below w.heap.size w W) (hrb : w.heap.size ≤ rb) (x y : Value) : AnsYR w (r, []) (.returned (.agg #[.int .i64 r, .slice none 0 0])) ((W.setCell ⟨rb, 0, none⟩ x).setCell ⟨rb, 1, none⟩ y) := AnsYR.put hB hrb (Or.inl ⟨rfl, _, _, rfl⟩) x y
theorem fsF_zero {d : FD} (h : fsF d = 0) : fsE d = 0 := by
  unfold fsF at h
  by_cases he : fsE d = 0
  · exact he
  · rw [if_neg he] at h; exact absurd h he

set_option maxHeartbeats 6400000 in
theorem specBytU (w : World) (a1 : Option Addr) (n1 c1 : Nat) (a2 : Option Addr) (n2 c2 : Nat) (d : FD) (x : Int) (h : FsR w (.slice a1 n1 c1) (.slice a2 n2 c2) d) (hs : sizeFs d ≤ 1048576) :
    Calls Tryz.prog 60 #[.agg #[.slice a1 n1 c1, .slice a2 n2 c2], .int .i64 x] w (AnsYR w (bytR d x)) := by
  obtain ⟨hx0, -, -⟩ := FsX.box h 31
  have hx := hx0.later (later1 _ (.cells #[.int .i64 0, .slice none 0 0] 54))
  have hsi : sizeInos d.1 ≤ 1048576 := by unfold sizeFs at hs; omega
  have hrow0 : OwnRow ((w.alloc (.cells #[.slice a1 n1 c1, .slice a2 n2 c2] 31)).alloc (.cells #[.int .i64 0, .slice none 0 0] 54)) (w.heap.size + 1) 2 (fun i => if i = 0 then .int .i64 0 else .slice none 0 0) := by
    have := box2 (w.alloc (.cells #[.slice a1 n1 c1, .slice a2 n2 c2] 31)) 54
    rw [World.size_alloc] at this
    exact this
  have HB0 : Hid (Below w.heap.size w ((w.alloc (.cells #[.slice a1 n1 c1, .slice a2 n2 c2] 31)).alloc (.cells #[.int .i64 0, .slice none 0 0] 54))) := later2 _ _ _
  have HX : Hid (FsX _ w.heap.size 0 d a1 c1 a2 c2) := hx
  have HRB : Hid (OwnRow _ (w.heap.size + 1) 2 _) := hrow0
  have HR : Hid (bytR d x = if fsF d = 0 then (if 0 ≤ x ∧ x < (d.1.length : Int) then (if kindAt d.1 x.toNat = 2 then (9, []) else if kindAt d.1 x.toNat = 0 then (4, []) else (0, bytL d x.toNat)) else (3, [])) else (fsF d, [])) := rfl
  rw [HR.out]
  clear HR h hx hx0 hrow0 hs
  have HF : Hid (Calls Tryz.prog 82 #[.pointer (some ⟨w.heap.size, 0, none⟩)] ((w.alloc (.cells #[.slice a1 n1 c1, .slice a2 n2 c2] 31)).alloc (.cells #[.int .i64 0, .slice none 0 0] 54)) fun e w' => e = .returned (.int .i64 (fsF d)) ∧ Below ((w.alloc (.cells #[.slice a1 n1 c1, .slice a2 n2 c2] 31)).alloc (.cells #[.int .i64 0, .slice none 0 0] 54)).heap.size ((w.alloc (.cells #[.slice a1 n1 c1, .slice a2 n2 c2] 31)).alloc (.cells #[.int .i64 0, .slice none 0 0] 54)) w') := l6Fault_any _ _ _ d _ _ _ _ HX.out hsi
  have hwz : ((w.alloc (.cells #[.slice a1 n1 c1, .slice a2 n2 c2] 31)).alloc (.cells #[.int .i64 0, .slice none 0 0] 54)).heap.size = w.heap.size + 2 := by simp
  by_cases hf : fsF d = 0
  rotate_left
  · rw [if_neg hf]
    have hb : (fsF d != 0) = true := by simpa using hf
    clear hf
    generalize fsF d = r at *
    go_enter Tryz.func60, Tryz.ntmps60
    go_wp2_with fail
    refine HF.out.mono ?_
    rintro e w1 ⟨rfl, hb1⟩
    have HB1 : Hid (Below w.heap.size w w1) := HB0.out.trans (hb1.mono HB0.out.size)
    have hrow := HRB.out.later hb1
    have t0 := hrow.cell (i := 0) (by omega)
    have t1 := hrow.cell (i := 1) (by omega)
    have s0 := hrow.frozen 0
    have s1 := hrow.frozen 1
    simp at t0 t1
    clear hb1 hrow
    go_wp2
    exact bodyPost_ret (v := .agg #[.int .i64 r, .slice none 0 0]) (by simp [results, Tryz.results60, go_sem, t0, t1]) rfl (AnsYR.bad r HB1.out (by omega) _ _)
  · rw [if_pos hf]
    obtain ⟨h1, h2, h3, _, _⟩ := fsE_zero (fsF_zero hf)
    obtain ⟨g1, _, g3⟩ := formB_no h2
    have hten := insF_ten h1
    rw [hf] at HF
    by_cases hpl : 0 ≤ x ∧ x < (d.1.length : Int)
    rotate_left
    · rw [if_neg hpl]
      have HPL : Hid (∀ W, Below ((w.alloc (.cells #[.slice a1 n1 c1, .slice a2 n2 c2] 31)).alloc (.cells #[.int .i64 0, .slice none 0 0] 54)).heap.size ((w.alloc (.cells #[.slice a1 n1 c1, .slice a2 n2 c2] 31)).alloc (.cells #[.int .i64 0, .slice none 0 0] 54)) W → Calls Tryz.prog 83 #[.pointer (some ⟨w.heap.size, 0, none⟩), .int .i64 x] W fun e w' => e = .returned (.bool false) ∧ w' = W) := fun W hW => by
        have := l6Place_any W _ _ d _ _ _ _ x (HX.out.later hW)
        rw [decide_eq_false hpl] at this
        exact this
      clear hpl hf h1 h2 h3 g1 g3 hten
      go_enter Tryz.func60, Tryz.ntmps60
      go_wp2_with fail
      refine HF.out.mono ?_
      rintro e w1 ⟨rfl, hb1⟩
      have HB1 : Hid (Below w.heap.size w w1) := HB0.out.trans (hb1.mono HB0.out.size)
      have HL1 : Hid (Below _ _ w1) := hb1
      have hrow := HRB.out.later hb1
      have t0 := hrow.cell (i := 0) (by omega)
      have t1 := hrow.cell (i := 1) (by omega)
      have s0 := hrow.frozen 0
      have s1 := hrow.frozen 1
      simp at t0 t1
      clear hb1 hrow
      go_wp2_with fail
      refine (HPL.out _ HL1.out).mono ?_
      rintro e w2 ⟨rfl, rfl⟩
      go_wp2
      exact bodyPost_ret (v := .agg #[.int .i64 3, .slice none 0 0]) (by simp [results, Tryz.results60, go_sem, t0, t1]) rfl (AnsYR.bad 3 HB1.out (by omega) _ _)
    · rw [if_pos hpl]
      have HPL : Hid (∀ W, Below ((w.alloc (.cells #[.slice a1 n1 c1, .slice a2 n2 c2] 31)).alloc (.cells #[.int .i64 0, .slice none 0 0] 54)).heap.size ((w.alloc (.cells #[.slice a1 n1 c1, .slice a2 n2 c2] 31)).alloc (.cells #[.int .i64 0, .slice none 0 0] 54)) W → Calls Tryz.prog 83 #[.pointer (some ⟨w.heap.size, 0, none⟩), .int .i64 x] W fun e w' => e = .returned (.bool true) ∧ w' = W) := fun W hW => by
        have := l6Place_any W _ _ d _ _ _ _ x (HX.out.later hW)
        rw [decide_eq_true hpl] at this
        exact this
      obtain ⟨j, rfl⟩ : ∃ j : Nat, x = (j : Int) := ⟨x.toNat, by omega⟩
      rw [Int.toNat_natCast]
      have hj : j < d.1.length := by omega
      have hsz := ino_size (ins_ino h1 j hj)
      have HBY : Hid (∀ W, Below ((w.alloc (.cells #[.slice a1 n1 c1, .slice a2 n2 c2] 31)).alloc (.cells #[.int .i64 0, .slice none 0 0] 54)).heap.size ((w.alloc (.cells #[.slice a1 n1 c1, .slice a2 n2 c2] 31)).alloc (.cells #[.int .i64 0, .slice none 0 0] 54)) W → Calls Tryz.prog 84 #[.pointer (some ⟨w.heap.size, 0, none⟩), .int .i64 (j : Int)] W fun e w' => ∃ v, e = .returned v ∧ Below W.heap.size W w' ∧ WdY w' W.heap.size v (bytL d j)) := fun W hW => l6Bytes_any W _ _ d _ _ _ _ j (HX.out.later hW) hj hten g3 (many_eight h3) (by omega) (fun k hk => ins_blk h1 j k hj hk)
      obtain ⟨_, _, q1, _, hAt⟩ := HX.out.ins.open'
      simp only [Value.slice.injEq] at q1
      obtain ⟨rfl, -, rfl⟩ := q1
      obtain ⟨b0, o0, rfl, hI⟩ := hAt j hj
      obtain ⟨_, _, _, _, kc, _⟩ := hI
      have HKC : Hid (_ = some (Value.int .i64 (d.1[j]?.getD id0).1)) := kc
      have HKD : Hid (kindAt d.1 j = (d.1[j]?.getD id0).1) := rfl
      rw [HKD.out]
      have c0 := HX.out.c0
      have HC0 : Hid (_ = _) := c0
      have hjn : (j : Int) < ((d.1.length : Nat) : Int) := by omega
      clear hpl hf h1 h2 h3 g1 g3 hAt kc hsz HKD c0
      generalize (d.1[j]?.getD id0).1 = kd at *
      generalize bytL d j = zs at *
      generalize d.1.length = n at *
      by_cases hk2 : kd = 2
      · rw [if_pos hk2]
        have hb2 : (kd == 2) = true := by simpa using hk2
        clear hk2 HBY
        go_enter Tryz.func60, Tryz.ntmps60
        go_wp2_with fail
        refine HF.out.mono ?_
        rintro e w1 ⟨rfl, hb1⟩
        have HB1 : Hid (Below w.heap.size w w1) := HB0.out.trans (hb1.mono HB0.out.size)
        have HL1 : Hid (Below _ _ w1) := hb1
        have hrow := HRB.out.later hb1
        have t0 := hrow.cell (i := 0) (by omega)
        have t1 := hrow.cell (i := 1) (by omega)
        have s0 := hrow.frozen 0
        have s1 := hrow.frozen 1
        simp at t0 t1
        have kc1 := cell_later hb1 HKC.out
        have c01 := cell_later hb1 HC0.out
        clear hb1 hrow
        go_wp2_with fail
        refine (HPL.out _ HL1.out).mono ?_
        rintro e w2 ⟨rfl, rfl⟩
        go_wp2
        exact bodyPost_ret (v := .agg #[.int .i64 9, .slice none 0 0]) (by simp [results, Tryz.results60, go_sem, t0, t1]) rfl (AnsYR.bad 9 HB1.out (by omega) _ _)
      · rw [if_neg hk2]
        have hb2 : (kd == 2) = false := by simpa using hk2
        by_cases hk0 : kd = 0
        · rw [if_pos hk0]
          have hb0 : (kd == 0) = true := by simpa using hk0
          clear hk2 hk0 HBY
          go_enter Tryz.func60, Tryz.ntmps60
          go_wp2_with fail
          refine HF.out.mono ?_
          rintro e w1 ⟨rfl, hb1⟩
          have HB1 : Hid (Below w.heap.size w w1) := HB0.out.trans (hb1.mono HB0.out.size)
          have HL1 : Hid (Below _ _ w1) := hb1
          have hrow := HRB.out.later hb1
          have t0 := hrow.cell (i := 0) (by omega)
          have t1 := hrow.cell (i := 1) (by omega)
          have s0 := hrow.frozen 0
          have s1 := hrow.frozen 1
          simp at t0 t1
          have kc1 := cell_later hb1 HKC.out
          have c01 := cell_later hb1 HC0.out
          clear hb1 hrow
          go_wp2_with fail
          refine (HPL.out _ HL1.out).mono ?_
          rintro e w2 ⟨rfl, rfl⟩
          go_wp2
          exact bodyPost_ret (v := .agg #[.int .i64 4, .slice none 0 0]) (by simp [results, Tryz.results60, go_sem, t0, t1]) rfl (AnsYR.bad 4 HB1.out (by omega) _ _)
        · rw [if_neg hk0]
          have hb0 : (kd == 0) = false := by simpa using hk0
          clear hk2 hk0
          go_enter Tryz.func60, Tryz.ntmps60
          go_wp2_with fail
          refine HF.out.mono ?_
          rintro e w1 ⟨rfl, hb1⟩
          have HB1 : Hid (Below w.heap.size w w1) := HB0.out.trans (hb1.mono HB0.out.size)
          have HL1 : Hid (Below _ _ w1) := hb1
          have HRW : Hid (OwnRow w1 (w.heap.size + 1) 2 _) := HRB.out.later hb1
          have kc1 := cell_later hb1 HKC.out
          have c01 := cell_later hb1 HC0.out
          have hw1 : w.heap.size + 2 ≤ w1.heap.size := by have := hb1.size; omega
          clear hb1
          go_wp2_with fail
          refine (HPL.out _ HL1.out).mono ?_
          rintro e w2 ⟨rfl, rfl⟩
          go_wp2_with fail
          refine (HBY.out _ HL1.out).mono ?_
          rintro e w3 ⟨v, rfl, hb3, hwd⟩
          obtain ⟨av, cv, rfl⟩ := hwd.shape
          have HB3 : Hid (Below w.heap.size w w3) := HB1.out.trans (hb3.mono HB1.out.size)
          have hrow := HRW.out.later hb3
          have t0 := hrow.cell (i := 0) (by omega)
          have t1 := hrow.cell (i := 1) (by omega)
          have s0 := hrow.frozen 0
          have s1 := hrow.frozen 1
          simp at t0 t1
          have HY : Hid (BytO w3 (.slice av zs.length cv) zs (fun b => w.heap.size + 1 < b ∧ b < w3.heap.size)) := (hwd.own (w0 := w2) (Nat.le_refl _)).mono fun b hb => ⟨by have := hb.1; omega, hb.2⟩
          clear hb3 hrow hwd kc1 c01
          generalize zs.length = ln at *
          go_wp2
          exact bodyPost_ret (v := .agg #[.int .i64 0, .slice av ln cv]) (by simp [results, Tryz.results60, go_sem, t0, t1]) rfl (AnsYR.put HB3.out (by omega) HY.out _ _)
end Go.Proofs.YtjabimfinanjoaaGreat
