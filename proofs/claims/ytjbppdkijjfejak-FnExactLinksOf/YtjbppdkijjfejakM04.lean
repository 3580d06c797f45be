/- The program's counts of who needs a block: an array. The program's counts, filled and read. The specification's InodeFault. The specification's functions over lists of inodes. The specification's counts. The specification's other counts and places. -/
import Derived.Test.YtjbppdkijjfejakM03
import Derived.Deep.WholeRow
import Derived.Test.YtjbppdkijjfejakM02
namespace Go.Proofs.Ytjbppdkijjfejak
open Go.RowKit
set_option maxRecDepth 100000

/-- An array that holds how many need each block. -/
def arrC (f : Nat → Nat) : Array Value := ((List.range 20).map fun i => intV ((f i : Nat) : Int)).toArray
theorem arrC_size (f : Nat → Nat) : (arrC f).size = 20 := by simp [arrC]
theorem arrC_get (f : Nat → Nat) {i : Nat} (h : i < 20) : (arrC f)[i]? = some (.int .i64 ((f i : Nat) : Int)) := by
  simp [arrC, h, intV]
theorem arrC_set (f : Nat → Nat) (q x : Nat) : (arrC f).setIfInBounds q (.int .i64 ((x : Nat) : Int)) = arrC (fun i => if i = q then x else f i) := by
  apply Array.ext_getElem?
  intro i
  rw [Array.getElem?_setIfInBounds]
  by_cases hi : i < 20
  · rw [arrC_get _ hi, arrC_get _ hi, arrC_size]
    by_cases e : q = i
    · subst e; simp [hi]
    · rw [if_neg e, if_neg (fun h => e h.symm)]
  · have h1 : (arrC f)[i]? = none := by rw [Array.getElem?_eq_none_iff, arrC_size]; omega
    have h2 : (arrC (fun i => if i = q then x else f i))[i]? = none := by rw [Array.getElem?_eq_none_iff, arrC_size]; omega
    rw [h1, h2, arrC_size]
    by_cases e : q = i
    · subst e; simp [hi]
    · rw [if_neg e]
/-- Block b holds the counts f. -/
def Arr (w : World) (b : Nat) (f : Nat → Nat) : Prop := w.heap[b]? = some (.cells (arrC f) 69)
theorem Arr.cell {w : World} {b : Nat} {f : Nat → Nat} (h : Arr w b f) {i : Nat} (hi : i < 20) : w.cell? ⟨b, i, none⟩ = some (.int .i64 ((f i : Nat) : Int)) := by
  simp [World.cell?, show w.heap[b]? = some (.cells (arrC f) 69) from h, arrC_get f hi]
theorem Arr.frozen {w : World} {b : Nat} {f : Nat → Nat} (h : Arr w b f) (i : Nat) : w.frozen? ⟨b, i, none⟩ = false := by
  simp [World.frozen?, show w.heap[b]? = some (.cells (arrC f) 69) from h]
theorem Arr.lt {w : World} {b : Nat} {f : Nat → Nat} (h : Arr w b f) : b < w.heap.size := (Array.getElem?_eq_some_iff.1 h).1
theorem Arr.later {w w' : World} {b : Nat} {f : Nat → Nat} (h : Arr w b f) (hb : Below w.heap.size w w') : Arr w' b f := (hb.block b h.lt).trans h
theorem Arr.set {w : World} {b : Nat} {f : Nat → Nat} (h : Arr w b f) (q x : Nat) : Arr (w.setCell ⟨b, q, none⟩ (.int .i64 ((x : Nat) : Int))) b (fun i => if i = q then x else f i) := by
  have h' : w.heap[b]? = some (.cells (arrC f) 69) := h
  unfold Arr
  rw [← arrC_set f q x]
  simp [World.setCell, Array.getElem?_modify, h']
theorem Arr.store {w : World} {b : Nat} {f : Nat → Nat} (h : Arr w b f) {p : Addr} (hp : b ≠ p.block) (v : Value) : Arr (w.setCell p v) b f := (Below.heap_setCell _ _ _ _ hp).trans h
theorem Arr.new (w : World) (f : Nat → Nat) : Arr (w.alloc (.cells (arrC f) 69)) w.heap.size f := Go.Deep.blk_alloc_new _ _

theorem arrC_one (f : Nat → Nat) : (arrC f).all (·.oneCell') = true := by
  unfold arrC
  rw [Array.all_eq_true_iff_forall_mem]
  intro v hv
  simp only [List.mem_toArray, List.mem_map] at hv
  obtain ⟨i, _, rfl⟩ := hv
  rfl
theorem Try.infoNeeds : (Try.prog.info? 69).map (·.size) = some 20 := by kernel_rfl
theorem Arr.load {w : World} {b : Nat} {f : Nat → Nat} (h : Arr w b f) : (Instr.loadAt 69 (.pointer (some ⟨b, 0, none⟩))).run Try.prog w = .ok (.agg (arrC f)) w := by
  simp only [Instr.loadAt, Instr.sureAddr, Sem.run_bind, Sem.run_pure, Result.andThen]
  exact run_loadVar_row w b _ _ (arrC f) (0, 0) _ h Try.underlying69 rfl (by rw [arrC_size]; exact Try.infoNeeds)
theorem Arr.loadV {w : World} {b : Nat} {f : Nat → Nat} (h : Arr w b f) : (loadVar 69 ⟨b, 0, none⟩).run Try.prog w = .ok (.agg (arrC f)) w :=
  run_loadVar_row w b _ _ (arrC f) (0, 0) _ h Try.underlying69 rfl (by rw [arrC_size]; exact Try.infoNeeds)
theorem Arr.put {w : World} {b : Nat} {f : Nat → Nat} (h : Arr w b f) (g : Nat → Nat) : ∃ X, (Instr.storeAt 69 (.pointer (some ⟨b, 0, none⟩)) (.agg (arrC g))).run Try.prog w = .ok () X ∧ Arr X b g ∧ X.heap.size = w.heap.size ∧ (∀ c, c ≠ b → X.heap[c]? = w.heap[c]?) ∧ X.os = w.os ∧ X.tape = w.tape ∧ X.output = w.output := by
  refine ⟨w.setRow b (arrC g), ?_, ?_, ?_, fun c hc => ?_, rfl, rfl, rfl⟩
  · simp only [Instr.storeAt, Instr.sureAddr, Sem.run_bind, Sem.run_pure, Result.andThen]
    rw [run_storeVar_row w b _ _ (arrC f) (arrC g) h (by rw [arrC_size]; exact Try.infoNeeds) (by rw [arrC_size, arrC_size]) (arrC_one g)]
  · have h' : w.heap[b]? = some (.cells (arrC f) 69) := h
    unfold Arr
    simp [World.setRow, Array.getElem?_modify, h']
  · simp [World.setRow]
  · simp only [World.setRow]
    rw [Array.getElem?_modify, if_neg (fun e => hc e.symm)]
section
variable {P : Program} {w : World}
/-- A load, a store whose run is known, at its place in a walk. -/
theorem wpList_load_run {ops : Array Oper} {rest : List Oper} {o : Oper} {a : Act} {Q : Exit → Act → World → Prop} (hgd : o.guard = none) (s : Operand) (t : TypeId) (ho : o.op = .load t s) (v : Value) (hs : a.eval s = v) (v' : Value) (w' : World)
    (hr : (Instr.loadAt t v).run P w = .ok v' w') (h : wpList P ops Q rest (a.put o.dst v') w') : wpList P ops Q (o :: rest) a w := by
  refine wpList_plain hgd fun K hK => ?_
  unfold Oper.wp execOp
  simp only [ho, Sem.run_bind, Sem.run_pure, hs, hr, Result.andThen_ok]
  exact hK _ _ h
theorem wpList_store_run {ops : Array Oper} {rest : List Oper} {o : Oper} {a : Act} {Q : Exit → Act → World → Prop} (hgd : o.guard = none) (s x : Operand) (t : TypeId) (ho : o.op = .store t s x) (v y : Value) (hs : a.eval s = v) (hx : a.eval x = y) (w' : World)
    (hr : (Instr.storeAt t v y).run P w = .ok () w') (h : wpList P ops Q rest (a.put o.dst undef) w') : wpList P ops Q (o :: rest) a w := by
  refine wpList_plain hgd fun K hK => ?_
  unfold Oper.wp execOp
  simp only [ho, Sem.run_bind, Sem.run_pure, hs, hx, hr, Result.andThen_ok]
  exact hK _ _ h
end

set_option maxHeartbeats 800000 in
theorem needsWith_walk (w : World) (a : Option Addr) (n c : Nat) (f : Nat → Nat) (bs : List Int) (hn : n ≤ 1048576) (hbn : bs.length = n) (hf : ∀ i, f i ≤ 1000000000000) (hr : ∀ k, k < n → 0 ≤ bs[k]?.getD 0 ∧ bs[k]?.getD 0 < 20) (hc : At1 w a n (fun k => .int .i64 (bs[k]?.getD 0))) :
    Calls Try.prog 53 #[.agg (arrC f), .slice a n c] w fun e w' => e = .returned (.agg (arrC fun i => f i + bs.count (i : Int))) ∧ Below w.heap.size w w' := by
  have HC : Hid (At1 w a n (fun k => .int .i64 (bs[k]?.getD 0))) := hc
  have HR : Hid (∀ k, k < n → 0 ≤ bs[k]?.getD 0 ∧ bs[k]?.getD 0 < 20) := hr
  have HN : Hid (bs.length = n) := hbn
  have HF : Hid (∀ i, f i ≤ 1000000000000) := hf
  clear hc hr hbn hf
  have hsz := arrC_size f
  have h0 := Arr.new w f
  have z1 := Arr.new (w.alloc (.cells (arrC f) 69)) (fun _ => 0)
  have z0 := h0.later (later1 _ (.cells (arrC fun _ => 0) 69))
  rw [World.size_alloc] at z1
  have HB0 : Hid (Below w.heap.size w ((w.alloc (.cells (arrC f) 69)).alloc (.cells (arrC fun _ => 0) 69))) := later2 _ _ _
  have HZ0 : Hid (Arr _ _ _) := z0
  have HZ1 : Hid (Arr _ _ _) := z1
  clear h0 z0 z1
  go_enter Try.func53, Try.ntmps53
  go_wp2
  go_loopw [9] (fun i wr => ∃ j : Nat, j ≤ n ∧ i = .int .i64 j ∧ Below w.heap.size w wr ∧ Arr wr w.heap.size (fun i => f i + (bs.take j).count (i : Int)) ∧ Arr wr (w.heap.size + 1) (fun _ => 0)) (fun i _ => n - (intOf i).toNat)
  case atStart => exact ⟨0, Nat.zero_le _, rfl, HB0.out, by simp only [List.take_zero, List.count_nil, Nat.add_zero]; exact HZ0.out, HZ1.out⟩
  case round =>
    clear HB0 HZ0 HZ1
    obtain ⟨j, hj, rfl, hbl, hx, hy⟩ := hrel
    have HBL : Hid (Below w.heap.size w wr) := hbl
    have HX : Hid (Arr wr w.heap.size (fun i => f i + (bs.take j).count (i : Int))) := hx
    have HY : Hid (Arr wr (w.heap.size + 1) (fun _ => 0)) := hy
    clear hbl hx hy
    by_cases hlt : j < n
    · obtain ⟨b, o, rfl, d1⟩ := HC.out j hlt
      replace d1 : w.cell? ⟨b, o + j, none⟩ = some (.int .i64 (bs[j]?.getD 0)) := d1
      replace d1 := cell_later HBL.out d1
      have hrj := HR.out j hlt
      obtain ⟨q, hq⟩ := Int.eq_ofNat_of_zero_le hrj.1
      have hq20 : q < 20 := by omega
      have hfq := HF.out q
      have hct : (bs.take j).count (q : Int) ≤ 1048576 := by
        have := List.count_le_length (a := (q : Int)) (l := bs.take j)
        rw [List.length_take] at this
        omega
      have HNX : Hid (∀ i : Nat, (bs.take (j + 1)).count (i : Int) = (bs.take j).count (i : Int) + if i = q then 1 else 0) := fun i => by
        rw [count_next bs (i : Int) j (by rw [HN.out]; exact hlt), hq]
        congr 1
        by_cases e : i = q
        · rw [if_pos e, if_pos (by omega)]
        · rw [if_neg e, if_neg (by omega)]
      rw [hq] at d1
      have e1 := HX.out.cell hq20
      have e2 := HX.out.frozen q
      clear hrj hq HC HR
      have HS := HX.out.set q (f q + (bs.take j).count (q : Int) + 1)
      have HS' : Hid (Arr (wr.setCell ⟨w.heap.size, q, none⟩ (.int .i64 ((f q + (bs.take j).count (q : Int) + 1 : Nat) : Int))) w.heap.size (fun i => f i + (bs.take (j + 1)).count (i : Int))) := by
        have he : (fun i => f i + (bs.take (j + 1)).count (i : Int)) = (fun i : Nat => if i = q then f q + (bs.take j).count (q : Int) + 1 else f i + (bs.take j).count (i : Int)) := by
          funext i
          rw [HNX.out i]
          by_cases e : i = q
          · subst e; rw [if_pos rfl, if_pos rfl]; omega
          · rw [if_neg e, if_neg e]; omega
        unfold Hid
        rw [he]
        exact HS
      clear HS HNX
      generalize (bs.take j).count (q : Int) = cq at *
      generalize f q = fq at *
      go_wp2
      go_roundw
      case rel => exact ⟨j + 1, by omega, by go_num, HBL.out.setCell (by simp) _, by first | exact HS'.out | simpa using HS'.out, HY.out.store (by simp) _⟩
      case measure => simp [intOf]; omega
    · have he : bs.take j = bs := List.take_of_length_le (by rw [HN.out]; omega)
      rw [he] at HX
      clear he
      generalize hg : (fun i : Nat => f i + bs.count (i : Int)) = g at HX
      have HGE : Hid ((fun i : Nat => f i + bs.count (i : Int)) = g) := hg
      clear hg
      have HL : Hid (_ = _) := HX.out.load
      obtain ⟨X, hst, hax, hsx, hoth, hx1, hx2, hx3⟩ := HY.out.put g
      have HST : Hid (_ = _) := hst
      have HAX : Hid (Arr X (w.heap.size + 1) g) := hax
      have HBX : Hid (Below w.heap.size w X) := HBL.out.trans ⟨hx1, hx2, hx3, by omega, fun c hc => hoth c (by omega)⟩
      clear hst hax hsx hoth hx1 hx2 hx3
      go_wp2_with (first | refine wpList_load_run rfl _ 69 rfl _ rfl _ _ HL.out ?_ | refine wpList_store_run rfl _ _ 69 rfl _ _ rfl rfl _ HST.out ?_)
      refine bodyPost_ret (v := .agg (arrC g)) ?_ rfl ⟨by rw [HGE.out], HBX.out⟩
      have hlv := HAX.out.loadV
      simp [results, Try.results53, asAddr, Act.put, hlv]
end Go.Proofs.Ytjbppdkijjfejak

namespace Go.Proofs.Ytjbppdkijjfejak
open Go.RowKit
set_option maxRecDepth 100000

theorem needsWith_any {w : World} {v : Value} {bs : List Int} (h : Ints w v bs) (f : Nat → Nat) (hn : bs.length ≤ 1048576) (hf : ∀ i, f i ≤ 1000000000000) (hr : ∀ k : Nat, k < bs.length → 0 ≤ bs[k]?.getD 0 ∧ bs[k]?.getD 0 < 20) :
    Calls Try.prog 53 #[.agg (arrC f), v] w fun e w' => e = .returned (.agg (arrC fun i => f i + bs.count (i : Int))) ∧ Below w.heap.size w w' := by
  obtain ⟨a, cap, rfl, _, hc⟩ := h.open'
  exact needsWith_walk w a _ cap f bs hn rfl hf hr hc
/-- Blocks of inodes without a fault stand within the bounds. -/
theorem inoF_blocks {d : ID} (h : inoF d = 0) (k : Nat) (hk : k < d.2.2.2.1.length) : 0 ≤ d.2.2.2.1[k]?.getD 0 ∧ d.2.2.2.1[k]?.getD 0 < 20 := by
  have hp : ∀ x : Bool, (decide (d.2.1 ≠ 0) || decide (d.2.2.1 ≠ 0) || decide (0 < d.2.2.2.1.length)) = x → x = true := fun x hx => by
    rw [← hx, decide_eq_true (show 0 < d.2.2.2.1.length by omega)]; simp
  have hfp : fpB d = true := hp _ rfl
  unfold inoF at h
  rw [hfp] at h
  split at h
  · simp at h
  · split at h
    · split at h
      · omega
      · unfold fileF at h
        split at h
        · split at h
          · unfold blkF at h
            split at h
            · rename_i hz
              have := fstNZ_inv hz k hk
              unfold rngF at this
              split at this
              · omega
              · omega
            · rename_i hz; exact absurd h hz
          · omega
        · omega
    · split at h
      · simp at h
      · omega
theorem insF_len {ds : List ID} (h : insF ds = 0) : ds.length ≤ 10 := by
  unfold insF at h
  split at h
  · omega
  · omega
theorem insF_each {ds : List ID} (h : insF ds = 0) (j : Nat) (hj : j < ds.length) : inoF (ds[j]?.getD id0) = 0 := by
  unfold insF at h
  split at h
  · omega
  · exact fstNZ_inv (f := fun i => inoF (ds[i]?.getD id0)) h j hj
theorem insF_blocks {ds : List ID} (h : insF ds = 0) (j k : Nat) (hj : j < ds.length) (hk : k < (ds[j]?.getD id0).2.2.2.1.length) : 0 ≤ (ds[j]?.getD id0).2.2.2.1[k]?.getD 0 ∧ (ds[j]?.getD id0).2.2.2.1[k]?.getD 0 < 20 := inoF_blocks (insF_each h j hj) k hk

set_option maxHeartbeats 1600000 in
theorem needsOf_walk (w : World) (a : Option Addr) (n c : Nat) (ds : List ID) (hdn : ds.length = n) (hn : n ≤ 1048576) (hs : (isz ds).sum ≤ 1048576) (hr : ∀ j k : Nat, j < n → k < (ds[j]?.getD id0).2.2.2.1.length → 0 ≤ (ds[j]?.getD id0).2.2.2.1[k]?.getD 0 ∧ (ds[j]?.getD id0).2.2.2.1[k]?.getD 0 < 20) (hc : AtI w a n ds) :
    Calls Try.prog 45 #[.slice a n c] w fun e w' => e = .returned (.agg (arrC fun i => cntB ds (i : Int))) ∧ Below w.heap.size w w' := by
  have HC : Hid (AtI w a n ds) := hc
  have HN : Hid (ds.length = n) := hdn
  have HR : Hid (∀ j k : Nat, j < n → k < (ds[j]?.getD id0).2.2.2.1.length → 0 ≤ (ds[j]?.getD id0).2.2.2.1[k]?.getD 0 ∧ (ds[j]?.getD id0).2.2.2.1[k]?.getD 0 < 20) := hr
  have HS : Hid (∀ (j : Nat) (v : Int), (((ds.take j).flatMap fun d => d.2.2.2.1)).count v ≤ 1000000000000) := fun j v => by
    have h1 := flat_take (fun d : ID => d.2.2.2.1) ds j
    have h2 := allB_len ds
    have h3 := List.count_le_length (a := v) (l := (ds.take j).flatMap fun d => d.2.2.2.1)
    unfold allB at h2
    omega
  have HX : Hid (∀ (j : Nat), j < n → (fun i : Nat => ((ds.take j).flatMap fun d => d.2.2.2.1).count (i : Int) + ((ds[j]?.getD id0).2.2.2.1).count (i : Int)) = (fun i : Nat => ((ds.take (j + 1)).flatMap fun d => d.2.2.2.1).count (i : Int))) := fun j hj => by
    funext i
    rw [flat_next (fun d : ID => d.2.2.2.1) ds id0 j (by omega), List.count_append]
  have HZ : Hid (∀ j : Nat, (ds[j]?.getD id0).2.2.2.1.length ≤ 1048576) := fun j => by
    have := isz_le ds j
    have hd : sizeIno (ds[j]?.getD id0) = (ds[j]?.getD id0).2.2.2.1.length + sizeN (ds[j]?.getD id0).2.2.2.2 := rfl
    omega
  have HE : Hid ((fun i : Nat => cntB ds (i : Int)) = (fun i : Nat => ((ds.take n).flatMap fun d => d.2.2.2.1).count (i : Int))) := by unfold Hid cntB allB; rw [List.take_of_length_le (by omega)]
  clear hc hdn hr hs
  have z0 := Arr.new w (fun _ => 0)
  have z1 := Arr.new (w.alloc (.cells (arrC fun _ => 0) 69)) (fun _ => 0)
  replace z0 := z0.later (later1 _ (.cells (arrC fun _ => 0) 69))
  rw [World.size_alloc] at z1
  have HB0 : Hid (Below w.heap.size w ((w.alloc (.cells (arrC fun _ => 0) 69)).alloc (.cells (arrC fun _ => 0) 69))) := later2 _ _ _
  have HZ0 : Hid (Arr _ _ _) := z0
  have HZ1 : Hid (Arr _ _ _) := z1
  clear z0 z1
  rw [HE.out]
  clear HE
  generalize hG : (fun (j i : Nat) => ((ds.take j).flatMap fun d => d.2.2.2.1).count (i : Int)) = G at *
  have HG : Hid (∀ j i, ((ds.take j).flatMap fun d => d.2.2.2.1).count ((i : Nat) : Int) = G j i) := fun j i => congrFun (congrFun hG j) i
  have HGB : Hid (∀ j i, G j i ≤ 1000000000000) := fun j i => by rw [← HG.out j i]; exact HS.out j _
  have HG0 : Hid ((fun _ : Nat => 0) = G 0) := by unfold Hid; funext i; rw [← HG.out 0 i]; simp
  simp only [HG.out] at HX ⊢
  clear hG HG HS
  go_enter Try.func45, Try.ntmps45
  go_wp2
  go_loopw [8] (fun i wr => ∃ j : Nat, j ≤ n ∧ i = .int .i64 j ∧ Below w.heap.size w wr ∧ Arr wr (w.heap.size + 1) (G j) ∧ Arr wr w.heap.size (fun _ => 0)) (fun i _ => n - (intOf i).toNat)
  case atStart => exact ⟨0, Nat.zero_le _, rfl, HB0.out, HG0.out ▸ HZ1.out, HZ0.out⟩
  case round =>
    clear HB0 HZ0 HZ1
    obtain ⟨j, hj, rfl, hbl, hx, hy⟩ := hrel
    have HBL : Hid (Below w.heap.size w wr) := hbl
    have HA : Hid (Arr wr (w.heap.size + 1) (G j)) := hx
    have HY : Hid (Arr wr w.heap.size (fun _ => 0)) := hy
    have hw0 := hx.lt
    clear hbl hx hy
    by_cases hlt : j < n
    · obtain ⟨b, o, rfl, hI⟩ := HC.out j hlt
      obtain ⟨aB, cB, aE, cE, c0, c1, c2, c3, c4, hR⟩ := hI.later HBL.out
      have HW : Hid (∀ W, Below wr.heap.size wr W → Calls Try.prog 53 #[.agg (arrC (G j)), .slice aB (ds[j]?.getD id0).2.2.2.1.length cB] W fun e w' => e = .returned (.agg (arrC (G (j + 1)))) ∧ Below W.heap.size W w') := fun W hW => by
        have hx := needsWith_any (hR.2.1.later hW) (G j) (HZ.out j) (HGB.out j) (fun k hk => HR.out j k hlt hk)
        have e : (fun i : Nat => G j i + ((ds[j]?.getD id0).2.2.2.1).count (i : Int)) = G (j + 1) := HX.out j hlt
        rw [e] at hx
        exact hx
      have HL : Hid (∀ o, (Instr.loadAt 69 (.pointer (some ⟨w.heap.size + 1, 0, none⟩))).run Try.prog (wr.alloc o) = .ok (.agg (arrC (G j))) (wr.alloc o)) := fun o => (HA.out.later (later1 _ _)).load
      clear hI hR HC HR
      generalize hg2 : G (j + 1) = g2 at HW
      generalize G j = g1 at HW HL HA
      have HG2 : Hid (G (j + 1) = g2) := hg2
      clear hg2
      generalize (ds[j]?.getD id0) = d at *
      go_wp2_with (first | refine wpList_load_run rfl _ 69 rfl _ rfl _ _ (HL.out _) ?_ | fail)
      clear c0 c1 c2 c3 c4
      refine (HW.out _ (later1 _ _)).mono ?_
      rintro e w2 ⟨rfl, hb2⟩
      have hbw : Below wr.heap.size wr w2 := (later1 _ _).trans (hb2.mono (by simp))
      obtain ⟨X, hst, hax, hsx, hoth, hx1, hx2, hx3⟩ := (HA.out.later hbw).put g2
      have HST : Hid (_ = _) := hst
      have HAX : Hid (Arr X (w.heap.size + 1) g2) := hax
      have HBX : Hid (Below w.heap.size w X) := (HBL.out.trans (hbw.mono HBL.out.size)).trans ⟨hx1, hx2, hx3, by omega, fun c hc => hoth c (by omega)⟩
      have HYX : Hid (Arr X w.heap.size (fun _ => 0)) := (hoth _ (by omega)).trans (HY.out.later hbw)
      clear hst hax hsx hoth hx1 hx2 hx3 hb2 hbw
      go_wp2_with (first | refine wpList_store_run rfl _ _ 69 rfl _ _ rfl rfl _ HST.out ?_ | fail)
      go_roundw
      case rel => exact ⟨j + 1, by omega, by go_num, HBX.out, by rw [HG2.out]; exact HAX.out, HYX.out⟩
      case measure => simp [intOf]; omega
    · have HGN : Hid (G j = G n) := by unfold Hid; rw [show j = n by omega]
      have HL : Hid (_ = _) := HA.out.load
      obtain ⟨X, hst, hax, hsx, hoth, hx1, hx2, hx3⟩ := HY.out.put (G j)
      have HST : Hid (_ = _) := hst
      have HAX : Hid (Arr X w.heap.size (G n)) := HGN.out ▸ hax
      have HBX : Hid (Below w.heap.size w X) := HBL.out.trans ⟨hx1, hx2, hx3, by omega, fun c hc => hoth c (by omega)⟩
      clear hst hax hsx hoth hx1 hx2 hx3
      generalize G j = g1 at HL HST
      go_wp2_with (first | refine wpList_load_run rfl _ 69 rfl _ rfl _ _ HL.out ?_ | refine wpList_store_run rfl _ _ 69 rfl _ _ rfl rfl _ HST.out ?_)
      refine bodyPost_ret (v := .agg (arrC (G n))) ?_ rfl ⟨rfl, HBX.out⟩
      have hlv := HAX.out.loadV
      simp [results, Try.results45, asAddr, Act.put, hlv]
theorem needsOf_any {w : World} {v : Value} {ds : List ID} (h : Inos w v ds) (hs : sizeInos ds ≤ 1048576) (hf : insF ds = 0) :
    Calls Try.prog 45 #[v] w fun e w' => e = .returned (.agg (arrC fun i => cntB ds (i : Int))) ∧ Below w.heap.size w w' := by
  obtain ⟨a, cap, rfl, hm, hc⟩ := h.open'
  unfold sizeInos at hs
  exact needsOf_walk w a _ cap ds rfl (by omega) (by omega) (fun j k hj hk => insF_blocks hf j k hj hk) hc

theorem Arr.keep {w w' : World} {b : Nat} {f : Nat → Nat} (h : Arr w b f) (hk : KeepT w w') : Arr w' b f := hk _ _ _ _ (by decide) h

def manyB (f : Nat → Nat) : Bool := (List.range 20).any fun k => decide (1 < f k)
set_option maxHeartbeats 800000 in
theorem anyOfTwo_any (w : World) (f : Nat → Nat) (hf : ∀ i, f i ≤ 1000000000000) :
    Calls Try.prog 46 #[.agg (arrC f)] w fun e w' => e = .returned (.bool (manyB f)) ∧ Below w.heap.size w w' := by
  have HA : Hid (Arr (w.alloc (.cells (arrC f) 69)) w.heap.size f) := Arr.new w f
  have HF : Hid (∀ i, f i ≤ 1000000000000) := hf
  have HB : Hid (Below w.heap.size w (w.alloc (.cells (arrC f) 69))) := later1 _ _
  have hsz := arrC_size f
  clear hf
  go_enter Try.func46, Try.ntmps46
  go_wp2
  generalize w.alloc (.cells (arrC f) 69) = W at *
  go_loopw [4] (fun i wr => ∃ j : Nat, j ≤ 20 ∧ i = .int .i64 j ∧ wr = W ∧ ∀ i : Nat, i < j → ¬ 1 < f i) (fun i _ => 20 - (intOf i).toNat)
  case atStart => exact ⟨0, Nat.zero_le _, rfl, rfl, fun i hi => by omega⟩
  case round =>
    obtain ⟨j, hj, rfl, hw, hz⟩ := hrel
    have HZ : Hid (∀ i : Nat, i < j → ¬ 1 < f i) := hz
    rw [← hw] at HA HB
    have HWE : Hid (wr = W) := hw
    clear hz hw
    by_cases hlt : j < 20
    · have c0 := HA.out.cell hlt
      have hfj := HF.out j
      by_cases h1 : 1 < f j
      · have HR : Hid (manyB f = true) := by
          unfold Hid manyB
          rw [List.any_eq_true]
          exact ⟨j, by simpa using hlt, by simpa using h1⟩
        have hd : decide ((1 : Int) < ((f j : Nat) : Int)) = true := by simp; omega
        clear h1
        generalize f j = x at *
        go_wp2
        go_ret
        exact ⟨ret_bool HR.out.symm, HB.out⟩
      · have HR : Hid (∀ i : Nat, i < j + 1 → ¬ 1 < f i) := fun i hi => by
          by_cases e : i = j
          · subst e; exact h1
          · exact HZ.out i (by omega)
        have hd : decide ((1 : Int) < ((f j : Nat) : Int)) = false := by simp; omega
        clear h1
        generalize hx : f j = x at c0 hd hfj
        clear hx
        go_wp2
        go_roundw
        case rel => exact ⟨j + 1, by omega, by go_num, HWE.out, HR.out⟩
        case measure => simp [intOf]; omega
    · have HR : Hid (manyB f = false) := by
        unfold Hid manyB
        rw [List.any_eq_false]
        intro k hk
        simp only [List.mem_range] at hk
        simpa using HZ.out k (by omega)
      go_wp2
      go_ret
      exact ⟨ret_bool HR.out.symm, HB.out⟩

set_option maxHeartbeats 1600000 in
theorem needsUsed_any (w : World) (f : Nat → Nat) (hf : ∀ i, f i ≤ 1000000000000) :
    Calls Try.prog 47 #[.agg (arrC f)] w fun e w' => ∃ a c, e = .returned (.slice a (selL (fun k => decide (0 < f k)) 20).length c) ∧ Below w.heap.size w w' ∧ Wds w' w.heap.size (.slice a (selL (fun k => decide (0 < f k)) 20).length c) (selL (fun k => decide (0 < f k)) 20) := by
  have HA : Hid (Arr (w.alloc (.cells (arrC f) 69)) w.heap.size f) := Arr.new w f
  have HF : Hid (∀ i, f i ≤ 1000000000000) := hf
  have HB : Hid (Below w.heap.size w (w.alloc (.cells (arrC f) 69))) := later1 _ _
  have HY : Hid (∀ j : Nat, 0 < f j → selL (fun k => decide (0 < f k)) (j + 1) = selL (fun k => decide (0 < f k)) j ++ [(j : Int)]) := fun j hj => selL_yes (by simpa using hj)
  have HNO : Hid (∀ j : Nat, ¬ 0 < f j → selL (fun k => decide (0 < f k)) (j + 1) = selL (fun k => decide (0 < f k)) j) := fun j hj => selL_no (by simpa using hj)
  have HL : Hid (∀ j, (selL (fun k => decide (0 < f k)) j).length ≤ j) := fun j => selL_len _ _
  have HS0 : Hid (selL (fun k => decide (0 < f k)) 0 = []) := rfl
  have hsz := arrC_size f
  clear hf
  generalize (fun k => decide (0 < f k)) = p at *
  go_enter Try.func47, Try.ntmps47
  go_wp2
  go_loopw [3, 5] (fun o i wr => ∃ (j : Nat) (v : Value), j ≤ 20 ∧ i = .int .i64 j ∧ o = v ∧ Below w.heap.size w wr ∧ Arr wr w.heap.size f ∧ Wds wr w.heap.size v (selL p j)) (fun _ i _ => 20 - (intOf i).toNat)
  case atStart => exact ⟨0, _, Nat.zero_le _, rfl, rfl, HB.out, HA.out, by rw [HS0.out]; exact Wds.nil _ _⟩
  case round =>
    clear HA HB
    obtain ⟨j, v, hj, rfl, rfl, hbl, ha, hwd⟩ := hrel
    obtain ⟨aV, cV, rfl⟩ := hwd.shape
    have HBL : Hid (Below w.heap.size w wr) := hbl
    have HAR : Hid (Arr wr w.heap.size f) := ha
    have HWD : Hid (Wds wr w.heap.size (.slice aV (selL p j).length cV) (selL p j)) := hwd
    clear hbl hwd ha
    by_cases hlt : j < 20
    · have c0 := HAR.out.cell hlt
      have hfj := HF.out j
      have HYJ := HY.out j
      have HNJ := HNO.out j
      have hlj := HL.out j
      by_cases h1 : 0 < f j
      · have HYY : Hid (selL p (j + 1) = selL p j ++ [(j : Int)]) := HYJ h1
        have hd : decide ((0 : Int) < ((f j : Nat) : Int)) = true := by simp; omega
        have hd' : decide (0 < f j) = true := by simpa using h1
        clear HYJ HNJ h1
        generalize hx : f j = x at c0 hd hfj hd'
        clear hx
        obtain ⟨a', c', X, hr, hw, hb, hk⟩ := append_w1 wr w.heap.size _ (selL p j) (j : Int) HWD.out HBL.out.size (by omega)
        have HR : Hid (_ = _) := hr
        rw [← HYY.out] at HR hw
        have HW : Hid (Wds X w.heap.size _ (selL p (j + 1))) := hw
        have HB : Hid (Below w.heap.size w X) := HBL.out.trans hb
        have HAX : Hid (Arr X w.heap.size f) := HAR.out.keep hk
        clear hr hw hb hk
        go_wp2_with (at_builtin; refine wpList_append_run rfl _ _ 22 rfl _ _ rfl rfl _ _ HR.out ?_)
        go_roundw
        case rel => exact ⟨j + 1, _, by omega, by go_num, rfl, HB.out, HAX.out, HW.out⟩
        case measure => simp [intOf]; omega
      · have HYY : Hid (selL p (j + 1) = selL p j) := HNJ h1
        have h0 : f j = 0 := by omega
        rw [h0] at c0
        clear HYJ HNJ h1 hfj h0
        have HW : Hid (Wds wr w.heap.size (.slice aV (selL p j).length cV) (selL p (j + 1))) := by unfold Hid; rw [HYY.out]; exact HWD.out
        go_wp2
        go_roundw
        case rel => exact ⟨j + 1, _, by omega, by go_num, rfl, HBL.out, HAR.out, HW.out⟩
        case measure => simp [intOf]; omega
    · have he : j = 20 := by omega
      subst he
      clear hlt
      go_wp2
      go_ret
      exact ⟨_, _, rfl, HBL.out, HWD.out⟩

set_option maxHeartbeats 1600000 in
theorem needsFree_any (w : World) (f : Nat → Nat) (hf : ∀ i, f i ≤ 1000000000000) :
    Calls Try.prog 54 #[.agg (arrC f)] w fun e w' => ∃ a c, e = .returned (.slice a (selL (fun k => decide (f k = 0)) 20).length c) ∧ Below w.heap.size w w' ∧ Wds w' w.heap.size (.slice a (selL (fun k => decide (f k = 0)) 20).length c) (selL (fun k => decide (f k = 0)) 20) := by
  have HA : Hid (Arr (w.alloc (.cells (arrC f) 69)) w.heap.size f) := Arr.new w f
  have HF : Hid (∀ i, f i ≤ 1000000000000) := hf
  have HB : Hid (Below w.heap.size w (w.alloc (.cells (arrC f) 69))) := later1 _ _
  have HY : Hid (∀ j : Nat, f j = 0 → selL (fun k => decide (f k = 0)) (j + 1) = selL (fun k => decide (f k = 0)) j ++ [(j : Int)]) := fun j hj => selL_yes (by simpa using hj)
  have HNO : Hid (∀ j : Nat, ¬ f j = 0 → selL (fun k => decide (f k = 0)) (j + 1) = selL (fun k => decide (f k = 0)) j) := fun j hj => selL_no (by simpa using hj)
  have HL : Hid (∀ j, (selL (fun k => decide (f k = 0)) j).length ≤ j) := fun j => selL_len _ _
  have HS0 : Hid (selL (fun k => decide (f k = 0)) 0 = []) := rfl
  have hsz := arrC_size f
  clear hf
  generalize (fun k => decide (f k = 0)) = p at *
  go_enter Try.func54, Try.ntmps54
  go_wp2
  go_loopw [3, 5] (fun o i wr => ∃ (j : Nat) (v : Value), j ≤ 20 ∧ i = .int .i64 j ∧ o = v ∧ Below w.heap.size w wr ∧ Arr wr w.heap.size f ∧ Wds wr w.heap.size v (selL p j)) (fun _ i _ => 20 - (intOf i).toNat)
  case atStart => exact ⟨0, _, Nat.zero_le _, rfl, rfl, HB.out, HA.out, by rw [HS0.out]; exact Wds.nil _ _⟩
  case round =>
    clear HA HB
    obtain ⟨j, v, hj, rfl, rfl, hbl, ha, hwd⟩ := hrel
    obtain ⟨aV, cV, rfl⟩ := hwd.shape
    have HBL : Hid (Below w.heap.size w wr) := hbl
    have HAR : Hid (Arr wr w.heap.size f) := ha
    have HWD : Hid (Wds wr w.heap.size (.slice aV (selL p j).length cV) (selL p j)) := hwd
    clear hbl hwd ha
    by_cases hlt : j < 20
    · have c0 := HAR.out.cell hlt
      have hfj := HF.out j
      have HYJ := HY.out j
      have HNJ := HNO.out j
      have hlj := HL.out j
      by_cases h1 : f j = 0
      · have HYY : Hid (selL p (j + 1) = selL p j ++ [(j : Int)]) := HYJ h1
        rw [h1] at c0
        clear HYJ HNJ h1 hfj
        obtain ⟨a', c', X, hr, hw, hb, hk⟩ := append_w1 wr w.heap.size _ (selL p j) (j : Int) HWD.out HBL.out.size (by omega)
        have HR : Hid (_ = _) := hr
        rw [← HYY.out] at HR hw
        have HW : Hid (Wds X w.heap.size _ (selL p (j + 1))) := hw
        have HB : Hid (Below w.heap.size w X) := HBL.out.trans hb
        have HAX : Hid (Arr X w.heap.size f) := HAR.out.keep hk
        clear hr hw hb hk
        go_wp2_with (at_builtin; refine wpList_append_run rfl _ _ 22 rfl _ _ rfl rfl _ _ HR.out ?_)
        go_roundw
        case rel => exact ⟨j + 1, _, by omega, by go_num, rfl, HB.out, HAX.out, HW.out⟩
        case measure => simp [intOf]; omega
      · have HYY : Hid (selL p (j + 1) = selL p j) := HNJ h1
        have hd : (((f j : Nat) : Int) == 0) = false := by rw [beq_eq_false_iff_ne]; omega
        clear HYJ HNJ h1
        generalize hx : f j = x at c0 hd hfj
        clear hx
        have HW : Hid (Wds wr w.heap.size (.slice aV (selL p j).length cV) (selL p (j + 1))) := by unfold Hid; rw [HYY.out]; exact HWD.out
        go_wp2
        go_roundw
        case rel => exact ⟨j + 1, _, by omega, by go_num, rfl, HBL.out, HAR.out, HW.out⟩
        case measure => simp [intOf]; omega
    · have he : j = 20 := by omega
      subst he
      clear hlt
      go_wp2
      go_ret
      exact ⟨_, _, rfl, HBL.out, HWD.out⟩
end Go.Proofs.Ytjbppdkijjfejak

namespace Go.Proofs.Ytjbppdkijjfejak
open Go.RowKit
set_option maxRecDepth 100000

theorem l4Dir_many (w : World) (b o : Nat) (k l s : Int) (vB : Value) (a : Option Addr) (n c : Nat) (hx : BxO w b o [.int .i64 k, .int .i64 l, .int .i64 s, vB, .slice a n c]) (hn : 6 < n) :
    Calls Try.prog 69 #[.pointer (some ⟨b, o, none⟩)] w fun e w' => e = .returned (.int .i64 2) ∧ w' = w := by
  have c4 := hx 4 _ rfl
  have h6 : decide ((6 : Int) < (n : Int)) = true := by simp; omega
  clear hx
  go_enter Try.func69, Try.ntmps69
  go_wp2
  go_ret
  exact ⟨rfl, rfl⟩
theorem l4Dir_any (w : World) (b o : Nat) (k l s : Int) (vB : Value) (a : Option Addr) (n c : Nat) (es : List EN) (hx : BxO w b o [.int .i64 k, .int .i64 l, .int .i64 s, vB, .slice a n c]) (he : Ents w (.slice a n c) es) :
    Calls Try.prog 69 #[.pointer (some ⟨b, o, none⟩)] w fun e w' => e = .returned (.int .i64 (dirF es)) ∧ ∃ m, w' = w.drewN m := by
  obtain ⟨a', cap, h1, hm, hz, hc⟩ := he.open'
  simp only [Value.slice.injEq] at h1
  obtain ⟨rfl, rfl, rfl⟩ := h1
  unfold dirF
  by_cases h : 6 < es.length
  · rw [if_pos h]
    exact (l4Dir_many w b o k l s vB _ _ _ hx h).mono fun e w' ⟨h1, h2⟩ => ⟨h1, 0, h2⟩
  · rw [if_neg h]
    exact l4Dir_walk w b o k l s vB _ _ _ es hx (by omega) rfl hz hc

set_option maxHeartbeats 6400000 in
theorem l4Fault_any (w : World) (b o : Nat) (d : ID) (a : Option Addr) (c : Nat) (a' : Option Addr) (c' : Nat) (hx : BxO w b o [.int .i64 d.1, .int .i64 d.2.1, .int .i64 d.2.2.1, .slice a d.2.2.2.1.length c, .slice a' d.2.2.2.2.length c']) (hi : Ints w (.slice a d.2.2.2.1.length c) d.2.2.2.1) (he : Ents w (.slice a' d.2.2.2.2.length c') d.2.2.2.2) :
    Calls Try.prog 62 #[.pointer (some ⟨b, o, none⟩)] w fun e w' => e = .returned (.int .i64 (inoF d)) ∧ ∃ m, w' = w.drewN m := by
  obtain ⟨k, l, s, bs, es⟩ := d
  dsimp only at hx hi he ⊢
  have HFI : Hid (∀ m, Calls Try.prog 68 #[.pointer (some ⟨b, o, none⟩)] (w.drewN m) fun e w' => e = .returned (.int .i64 (fileF l s bs)) ∧ ∃ m', w' = (w.drewN m).drewN m') := fun m => l4File_any (w.drewN m) b o k l s a _ c _ bs hx hi
  have HDI : Hid (∀ m, Calls Try.prog 69 #[.pointer (some ⟨b, o, none⟩)] (w.drewN m) fun e w' => e = .returned (.int .i64 (dirF es)) ∧ ∃ m', w' = (w.drewN m).drewN m') := fun m => l4Dir_any (w.drewN m) b o k l s _ a' _ c' es hx he
  have c0 : w.cell? ⟨b, o, none⟩ = some _ := hx 0 _ rfl
  have c1 := hx 1 _ rfl
  have c2 := hx 2 _ rfl
  have c3 := hx 3 _ rfl
  have c4 := hx 4 _ rfl
  have HF : Hid (inoF (k, l, s, bs, es) = if k = 0 then (if (decide (l ≠ 0) || decide (s ≠ 0) || decide (0 < bs.length)) || decide (0 < es.length) then 1 else 0) else if k = 1 then (if decide (0 < es.length) then 1 else fileF l s bs) else if k = 2 then (if (decide (l ≠ 0) || decide (s ≠ 0) || decide (0 < bs.length)) then 1 else dirF es) else 1) := rfl
  generalize fileF l s bs = ff at *
  generalize dirF es = df at *
  generalize inoF (k, l, s, bs, es) = r at *
  generalize bs.length = n at *
  generalize es.length = n' at *
  clear hx hi he
  by_cases hk : 0 ≤ k ∧ k ≤ 2
  rotate_left
  · have HR : Hid (r = 1) := by unfold Hid; rw [HF.out, if_neg (by omega), if_neg (by omega), if_neg (by omega)]
    have HQ : Hid (decide (0 ≤ k ∧ k ≤ 2) = false) := by unfold Hid; simpa using hk
    clear hk
    go_enter Try.func62, Try.ntmps62
    go_wp2_with fail
    refine (l1In_is HQ.out).mono ?_
    rintro e w1 ⟨rfl, rfl⟩
    go_wp2
    go_ret
    exact ⟨ret_int HR.out.symm, 0, rfl⟩
  · have HQ : Hid (decide (0 ≤ k ∧ k ≤ 2) = true) := by unfold Hid; simpa using hk
    have hk3 : k = 0 ∨ k = 1 ∨ k = 2 := by omega
    clear hk
    rcases hk3 with rfl | rfl | rfl
    · clear HFI HDI
      by_cases hl : l = 0
      rotate_left
      · have hl' : (l != 0) = true := by simpa using hl
        have HR : Hid (r = 1) := by unfold Hid; rw [HF.out]; simp [hl]
        go_enter Try.func62, Try.ntmps62
        go_wp2_with fail
        refine (l1In_is HQ.out).mono ?_
        rintro e w1 ⟨rfl, rfl⟩
        go_wp2
        go_ret
        exact ⟨ret_int HR.out.symm, 0, rfl⟩
      · subst hl
        by_cases hs : s = 0
        rotate_left
        · have hs' : (s != 0) = true := by simpa using hs
          have HR : Hid (r = 1) := by unfold Hid; rw [HF.out]; simp [hs]
          go_enter Try.func62, Try.ntmps62
          go_wp2_with fail
          refine (l1In_is HQ.out).mono ?_
          rintro e w1 ⟨rfl, rfl⟩
          go_wp2
          go_ret
          exact ⟨ret_int HR.out.symm, 0, rfl⟩
        · subst hs
          by_cases hn : 0 < n
          · have hn' : decide ((0 : Int) < (n : Int)) = true := by simp; omega
            have HR : Hid (r = 1) := by unfold Hid; rw [HF.out]; simp [hn]
            go_enter Try.func62, Try.ntmps62
            go_wp2_with fail
            refine (l1In_is HQ.out).mono ?_
            rintro e w1 ⟨rfl, rfl⟩
            go_wp2
            go_ret
            exact ⟨ret_int HR.out.symm, 0, rfl⟩
          · have hn' : decide ((0 : Int) < (n : Int)) = false := by simp; omega
            by_cases hm : 0 < n'
            · have hm' : decide ((0 : Int) < (n' : Int)) = true := by simp; omega
              have HR : Hid (r = 1) := by unfold Hid; rw [HF.out]; simp [hm]
              go_enter Try.func62, Try.ntmps62
              go_wp2_with fail
              refine (l1In_is HQ.out).mono ?_
              rintro e w1 ⟨rfl, rfl⟩
              go_wp2
              go_ret
              exact ⟨ret_int HR.out.symm, 0, rfl⟩
            · have hm' : decide ((0 : Int) < (n' : Int)) = false := by simp; omega
              have HR : Hid (r = 0) := by unfold Hid; rw [HF.out]; simp; omega
              go_enter Try.func62, Try.ntmps62
              go_wp2_with fail
              refine (l1In_is HQ.out).mono ?_
              rintro e w1 ⟨rfl, rfl⟩
              go_wp2
              go_ret
              exact ⟨ret_int HR.out.symm, 0, rfl⟩
    · by_cases hm : 0 < n'
      · have hm' : decide ((0 : Int) < (n' : Int)) = true := by simp; omega
        have HR : Hid (r = 1) := by unfold Hid; rw [HF.out]; simp [hm]
        go_enter Try.func62, Try.ntmps62
        go_wp2_with fail
        refine (l1In_is HQ.out).mono ?_
        rintro e w1 ⟨rfl, rfl⟩
        go_wp2
        go_ret
        exact ⟨ret_int HR.out.symm, 0, rfl⟩
      · have hm' : decide ((0 : Int) < (n' : Int)) = false := by simp; omega
        have HR : Hid (r = ff) := by unfold Hid; rw [HF.out]; simp [hm]
        go_enter Try.func62, Try.ntmps62
        go_wp2_with fail
        refine (l1In_is HQ.out).mono ?_
        rintro e w1 ⟨rfl, rfl⟩
        go_wp2_with fail
        refine (HFI.out 0).mono ?_
        rintro e w2 ⟨rfl, m, rfl⟩
        go_wp2
        go_ret
        exact ⟨ret_int HR.out.symm, m, rfl⟩
    · by_cases hl : l = 0
      rotate_left
      · have hl' : (l != 0) = true := by simpa using hl
        have HR : Hid (r = 1) := by unfold Hid; rw [HF.out]; simp [hl]
        go_enter Try.func62, Try.ntmps62
        go_wp2_with fail
        refine (l1In_is HQ.out).mono ?_
        rintro e w1 ⟨rfl, rfl⟩
        go_wp2
        go_ret
        exact ⟨ret_int HR.out.symm, 0, rfl⟩
      · subst hl
        by_cases hs : s = 0
        rotate_left
        · have hs' : (s != 0) = true := by simpa using hs
          have HR : Hid (r = 1) := by unfold Hid; rw [HF.out]; simp [hs]
          go_enter Try.func62, Try.ntmps62
          go_wp2_with fail
          refine (l1In_is HQ.out).mono ?_
          rintro e w1 ⟨rfl, rfl⟩
          go_wp2
          go_ret
          exact ⟨ret_int HR.out.symm, 0, rfl⟩
        · subst hs
          by_cases hn : 0 < n
          · have hn' : decide ((0 : Int) < (n : Int)) = true := by simp; omega
            have HR : Hid (r = 1) := by unfold Hid; rw [HF.out]; simp [hn]
            go_enter Try.func62, Try.ntmps62
            go_wp2_with fail
            refine (l1In_is HQ.out).mono ?_
            rintro e w1 ⟨rfl, rfl⟩
            go_wp2
            go_ret
            exact ⟨ret_int HR.out.symm, 0, rfl⟩
          · have hn' : decide ((0 : Int) < (n : Int)) = false := by simp; omega
            have HR : Hid (r = df) := by unfold Hid; rw [HF.out]; simp [hn]
            go_enter Try.func62, Try.ntmps62
            go_wp2_with fail
            refine (l1In_is HQ.out).mono ?_
            rintro e w1 ⟨rfl, rfl⟩
            go_wp2_with fail
            refine (HDI.out 0).mono ?_
            rintro e w2 ⟨rfl, m, rfl⟩
            go_wp2
            go_ret
            exact ⟨ret_int HR.out.symm, m, rfl⟩

end Go.Proofs.Ytjbppdkijjfejak

namespace Go.Proofs.Ytjbppdkijjfejak
open Go.RowKit
set_option maxRecDepth 100000

theorem InoAt.bx {w : World} {b o : Nat} {d : ID} (h : InoAt w b o d) : ∃ aB cB aE cE, BxO w b o [.int .i64 d.1, .int .i64 d.2.1, .int .i64 d.2.2.1, .slice aB d.2.2.2.1.length cB, .slice aE d.2.2.2.2.length cE] ∧ Ints w (.slice aB d.2.2.2.1.length cB) d.2.2.2.1 ∧ Ents w (.slice aE d.2.2.2.2.length cE) d.2.2.2.2 := by
  obtain ⟨aB, cB, aE, cE, h0, h1, h2, h3, h4, h5⟩ := h
  refine ⟨aB, cB, aE, cE, fun i v hi => ?_, h5.2.1, h5.2.2⟩
  match i, hi with
  | 0, hi => simp at hi; subst hi; exact h0
  | 1, hi => simp at hi; subst hi; exact h1
  | 2, hi => simp at hi; subst hi; exact h2
  | 3, hi => simp at hi; subst hi; exact h3
  | 4, hi => simp at hi; subst hi; exact h4
  | n + 5, hi => simp at hi

set_option maxHeartbeats 800000 in
theorem l5Fault_many (w : World) (a : Option Addr) (n c : Nat) (hn : 10 < n) :
    Calls Try.prog 42 #[.slice a n c] w fun e w' => e = .returned (.int .i64 2) ∧ w' = w := by
  have h6 : decide ((10 : Int) < (n : Int)) = true := by simp; omega
  go_enter Try.func42, Try.ntmps42
  go_wp2
  go_ret
  exact ⟨rfl, rfl⟩

set_option maxHeartbeats 1600000 in
theorem l5Fault_walk (w : World) (a : Option Addr) (n c : Nat) (ds : List ID) (hn : n ≤ 10) (hdn : ds.length = n) (hc : AtI w a n ds) :
    Calls Try.prog 42 #[.slice a n c] w fun e w' => e = .returned (.int .i64 (fstNZ (fun i => inoF (ds[i]?.getD id0)) ds.length)) ∧ ∃ m, w' = w.drewN m := by
  have HC : Hid (AtI w a n ds) := hc
  have HN : Hid (ds.length = n) := hdn
  have h6 : decide ((10 : Int) < (n : Int)) = false := by simp; omega
  clear hc hdn
  go_enter Try.func42, Try.ntmps42
  go_wp2
  go_loopw [3] (fun i wr => ∃ j m : Nat, j ≤ n ∧ i = .int .i64 j ∧ wr = w.drewN m ∧ ∀ i : Nat, i < j → inoF (ds[i]?.getD id0) = 0) (fun i _ => n - (intOf i).toNat)
  case atStart => exact ⟨0, 0, Nat.zero_le _, rfl, rfl, fun i hi => by omega⟩
  case round =>
    obtain ⟨j, m, hj, rfl, rfl, hz⟩ := hrel
    have HZ : Hid (∀ i : Nat, i < j → inoF (ds[i]?.getD id0) = 0) := hz
    clear hz
    by_cases hlt : j < n
    · obtain ⟨b, o, rfl, hI⟩ := HC.out j hlt
      obtain ⟨aB, cB, aE, cE, hx, hi, he⟩ := hI.bx
      have HF : Hid (∀ q, Calls Try.prog 62 #[.pointer (some ⟨b, o + j * 5, none⟩)] (w.drewN q) fun e w' => e = .returned (.int .i64 (inoF (ds[j]?.getD id0))) ∧ ∃ m', w' = (w.drewN q).drewN m') := fun q => l4Fault_any (w.drewN q) b (o + j * 5) (ds[j]?.getD id0) aB cB aE cE hx hi he
      clear hI hx hi he
      have HR : Hid (inoF (ds[j]?.getD id0) = 0 → (∀ i : Nat, i < j + 1 → inoF (ds[i]?.getD id0) = 0)) := fun h i hi => by
        by_cases e : i = j
        · subst e; exact h
        · exact HZ.out i (by omega)
      have HT : Hid (¬ inoF (ds[j]?.getD id0) = 0 → inoF (ds[j]?.getD id0) = fstNZ (fun i => inoF (ds[i]?.getD id0)) ds.length) := fun h => (fstNZ_at (f := fun i => inoF (ds[i]?.getD id0)) HZ.out h (by rw [HN.out]; exact hlt)).symm
      by_cases hzz : inoF (ds[j]?.getD id0) = 0
      · have HR' : Hid (∀ i : Nat, i < j + 1 → inoF (ds[i]?.getD id0) = 0) := HR.out hzz
        have HZZ : Hid (inoF (ds[j]?.getD id0) = 0) := hzz
        clear HR HT hzz HC
        go_wp2_with fail
        refine (HF.out _).mono ?_
        rw [HZZ.out]
        rintro e w1 ⟨rfl, q, rfl⟩
        go_wp2
        go_roundw
        case rel => exact ⟨j + 1, _, by omega, by go_num, rfl, HR'.out⟩
        case measure => simp [intOf]; omega
      · have HT' : Hid (inoF (ds[j]?.getD id0) = fstNZ (fun i => inoF (ds[i]?.getD id0)) ds.length) := HT.out hzz
        have hzb : (inoF (ds[j]?.getD id0) != 0) = true := by simpa using hzz
        clear HR HT HC
        generalize inoF (ds[j]?.getD id0) = r at *
        go_wp2_with fail
        refine (HF.out _).mono ?_
        rintro e w1 ⟨rfl, q, rfl⟩
        go_wp2
        go_ret
        exact ⟨ret_int HT'.out, _, rfl⟩
    · go_wp2
      go_ret
      exact ⟨ret_int (fstNZ_zero (fun i hi => HZ.out i (by rw [HN.out] at hi; omega))).symm, m, rfl⟩
theorem l5Fault_any {w : World} {v : Value} {ds : List ID} (h : Inos w v ds) :
    Calls Try.prog 42 #[v] w fun e w' => e = .returned (.int .i64 (insF ds)) ∧ ∃ m, w' = w.drewN m := by
  obtain ⟨a, cap, rfl, hm, hc⟩ := h.open'
  unfold insF
  by_cases h : 10 < ds.length
  · rw [if_pos h]
    exact (l5Fault_many w _ _ _ h).mono fun e w' ⟨h1, h2⟩ => ⟨h1, 0, h2⟩
  · rw [if_neg h]
    exact l5Fault_walk w _ _ _ ds (by omega) rfl hc
end Go.Proofs.Ytjbppdkijjfejak

namespace Go.Proofs.Ytjbppdkijjfejak
open Go.RowKit
set_option maxRecDepth 100000

set_option maxHeartbeats 1600000 in
theorem l5Count_walk (w : World) (a : Option Addr) (n c : Nat) (ds : List ID) (v : Int) (hn : n ≤ 1048576) (hdn : ds.length = n) (hs : (isz ds).sum ≤ 1048576) (hc : AtI w a n ds) :
    Calls Try.prog 63 #[.slice a n c, .int .i64 v] w fun e w' => e = .returned (.int .i64 ((cntB ds v : Nat) : Int)) ∧ ∃ m, w' = w.drewN m := by
  have HC : Hid (AtI w a n ds) := hc
  have HN : Hid (ds.length = n) := hdn
  have HT : Hid (cntB ds v = (((ds.take n).flatMap fun d => d.2.2.2.1)).count v) := by unfold Hid cntB allB; rw [List.take_of_length_le (by omega)]
  have HS : Hid (∀ j, (((ds.take j).flatMap fun d => d.2.2.2.1)).count v ≤ 1048576) := fun j => by
    have h1 := flat_take (fun d : ID => d.2.2.2.1) ds j
    have h2 := allB_len ds
    have h3 := List.count_le_length (a := v) (l := (ds.take j).flatMap fun d => d.2.2.2.1)
    unfold allB at h2
    omega
  have HX : Hid (∀ j, j < n → ((ds.take (j + 1)).flatMap fun d => d.2.2.2.1).count v = ((ds.take j).flatMap fun d => d.2.2.2.1).count v + ((ds[j]?.getD id0).2.2.2.1).count v) := fun j hj => by
    rw [flat_next (fun d : ID => d.2.2.2.1) ds id0 j (by omega), List.count_append]
  have HZ : Hid (∀ j, (ds[j]?.getD id0).2.2.2.1.length ≤ 1048576) := fun j => by
    have := isz_le ds j
    have hd : sizeIno (ds[j]?.getD id0) = (ds[j]?.getD id0).2.2.2.1.length + sizeN (ds[j]?.getD id0).2.2.2.2 := rfl
    omega
  rw [HT.out]
  clear hc hdn hs HT
  generalize hG : (fun j => ((ds.take j).flatMap fun d => d.2.2.2.1).count v) = G at *
  have HG : Hid (∀ j, ((ds.take j).flatMap fun d => d.2.2.2.1).count v = G j) := fun j => congrFun hG j
  simp only [HG.out] at HS HX ⊢
  have HG0 : Hid (G 0 = 0) := by unfold Hid; rw [← HG.out 0]; simp
  clear hG HG
  go_enter Try.func63, Try.ntmps63
  go_wp2
  go_loopw [5, 6] (fun q i wr => ∃ j m : Nat, j ≤ n ∧ i = .int .i64 j ∧ q = .int .i64 ((G j : Nat) : Int) ∧ wr = w.drewN m) (fun _ i _ => n - (intOf i).toNat)
  case atStart => exact ⟨0, 0, Nat.zero_le _, rfl, by rw [HG0.out]; rfl, rfl⟩
  case round =>
    obtain ⟨j, m, hj, rfl, rfl, rfl⟩ := hrel
    by_cases hlt : j < n
    · obtain ⟨b, o, rfl, hI⟩ := HC.out j hlt
      obtain ⟨aB, cB, aE, cE, h0, h1, h2, h3, h4, h5⟩ := hI
      obtain ⟨_, _, e1, hm1, hc1⟩ := h5.2.1.open'
      simp only [Value.slice.injEq] at e1
      obtain ⟨rfl, _, rfl⟩ := e1
      have HXJ := HX.out j hlt
      have HZJ := HZ.out j
      have HSJ := HS.out (j + 1)
      have HXJ' : Hid (G (j + 1) = G j + ((ds[j]?.getD id0).2.2.2.1).count v) := HXJ
      clear h0 h1 h2 h4 h5 HC
      generalize (ds[j]?.getD id0).2.2.2.1 = bs at *
      have HCB : Hid (At1 w aB bs.length (fun k => .int .i64 (bs[k]?.getD 0))) := hc1
      have HL : Hid (∃ nB, nB = bs.length) := ⟨_, rfl⟩
      obtain ⟨nB, hnB⟩ := HL.out
      have HNB : Hid (nB = bs.length) := hnB
      rw [← hnB] at h3 hm1 HZJ
      have hle : G j + bs.count v ≤ 1048576 := by omega
      clear hc1 HL hnB HXJ HSJ
      go_wp2
      go_loopw [5, 7] (fun q i wr => ∃ k m2 : Nat, k ≤ nB ∧ i = .int .i64 k ∧ q = .int .i64 (((G j + (bs.take k).count v : Nat)) : Int) ∧ wr = w.drewN m2) (fun _ i _ => nB - (intOf i).toNat)
      case atStart => exact ⟨0, m, Nat.zero_le _, rfl, by simp, rfl⟩
      case round =>
        obtain ⟨k, m2, hk, rfl, rfl, rfl⟩ := hrel
        by_cases hlk : k < nB
        · obtain ⟨b1, o1, rfl, d1⟩ := HCB.out k (by rw [← HNB.out]; exact hlk)
          replace d1 : w.cell? ⟨b1, o1 + k, none⟩ = some (.int .i64 (bs[k]?.getD 0)) := d1
          have hcn := count_next bs v k (by rw [← HNB.out]; exact hlk)
          have HCN : Hid ((bs.take (k + 1)).count v = (bs.take k).count v + (if bs[k]?.getD 0 = v then 1 else 0)) := hcn
          have hct : (bs.take k).count v ≤ bs.count v := List.Sublist.count_le v (List.take_sublist k bs)
          generalize (bs.take k).count v = ck at *
          generalize bs[k]?.getD 0 = x at *
          clear hcn HCB
          by_cases hxv : x = v
          · have hxb : (x == v) = true := by simpa using hxv
            have HCN' : Hid ((bs.take (k + 1)).count v = ck + 1) := by unfold Hid; rw [HCN.out, if_pos hxv]
            clear hxv HCN
            go_wp2
            go_roundw
            case rel => exact ⟨k + 1, _, by omega, by go_num, by rw [HCN'.out]; go_num, rfl⟩
            case measure => simp [intOf]; omega
          · have hxb : (x == v) = false := by simpa using hxv
            have HCN' : Hid ((bs.take (k + 1)).count v = ck) := by unfold Hid; rw [HCN.out, if_neg hxv, Nat.add_zero]
            clear hxv HCN
            go_wp2
            go_roundw
            case rel => exact ⟨k + 1, _, by omega, by go_num, by rw [HCN'.out], rfl⟩
            case measure => simp [intOf]; omega
        · have hkn : bs.take k = bs := List.take_of_length_le (by rw [← HNB.out]; omega)
          rw [hkn]
          clear hkn
          have HE : Hid (((G j + bs.count v : Nat) : Int) = ((G (j + 1) : Nat) : Int)) := by unfold Hid; rw [HXJ'.out]
          go_wp2
          go_roundw
          case rel => exact ⟨j + 1, _, by omega, by go_num, by rw [HE.out], rfl⟩
          case measure => simp [intOf]; omega
    · have HJ : Hid (G j = G n) := by unfold Hid; rw [show j = n by omega]
      go_wp2
      go_ret
      exact ⟨ret_int (by rw [HJ.out]), m, rfl⟩
end Go.Proofs.Ytjbppdkijjfejak

namespace Go.Proofs.Ytjbppdkijjfejak
open Go.RowKit
set_option maxRecDepth 100000

theorem l5Count_any {w : World} {vv : Value} {ds : List ID} (h : Inos w vv ds) (hs : sizeInos ds ≤ 1048576) (v : Int) :
    Calls Try.prog 63 #[vv, .int .i64 v] w fun e w' => e = .returned (.int .i64 ((cntB ds v : Nat) : Int)) ∧ ∃ m, w' = w.drewN m := by
  obtain ⟨a, cap, rfl, hm, hc⟩ := h.open'
  unfold sizeInos at hs
  exact l5Count_walk w a _ cap ds v (by omega) rfl (by omega) hc

set_option maxHeartbeats 1600000 in
theorem l5Among_walk (w : World) (a : Option Addr) (n c : Nat) (zs : List Int) (v : Int) (hn : n ≤ maxLen) (hzn : zs.length = n) (hc : At1 w a n (fun k => .int .i64 (zs[k]?.getD 0))) :
    Calls Try.prog 67 #[.slice a n c, .int .i64 v] w fun e w' => e = .returned (.bool (zs.contains v)) ∧ ∃ m, w' = w.drewN m := by
  unfold maxLen at hn
  have HC : Hid (At1 w a n (fun k => .int .i64 (zs[k]?.getD 0))) := hc
  have HN : Hid (zs.length = n) := hzn
  clear hc hzn
  go_enter Try.func67, Try.ntmps67
  go_wp2
  go_loopw [5] (fun i wr => ∃ j m : Nat, j ≤ n ∧ i = .int .i64 j ∧ wr = w.drewN m ∧ ∀ i : Nat, i < j → ¬ zs[i]?.getD 0 = v) (fun i _ => n - (intOf i).toNat)
  case atStart => exact ⟨0, 0, Nat.zero_le _, rfl, rfl, fun i hi => by omega⟩
  case round =>
    obtain ⟨j, m, hj, rfl, rfl, hz⟩ := hrel
    have HZ : Hid (∀ i : Nat, i < j → ¬ zs[i]?.getD 0 = v) := hz
    clear hz
    by_cases hlt : j < n
    · obtain ⟨b, o, rfl, d1⟩ := HC.out j hlt
      replace d1 : w.cell? ⟨b, o + j, none⟩ = some (.int .i64 (zs[j]?.getD 0)) := d1
      by_cases hxv : zs[j]?.getD 0 = v
      · have HR : Hid (zs.contains v = true) := by
          unfold Hid
          rw [List.contains_iff_mem, ← hxv, List.getElem?_eq_getElem (by rw [HN.out]; exact hlt)]
          simp
        have hxb : (zs[j]?.getD 0 == v) = true := by simpa using hxv
        clear hxv HC
        generalize zs[j]?.getD 0 = x at *
        go_wp2
        go_ret
        exact ⟨ret_bool HR.out.symm, _, rfl⟩
      · have HR : Hid (∀ i : Nat, i < j + 1 → ¬ zs[i]?.getD 0 = v) := fun i hi => by
          by_cases e : i = j
          · subst e; exact hxv
          · exact HZ.out i (by omega)
        have hxb : (zs[j]?.getD 0 == v) = false := by simpa using hxv
        clear hxv HC
        generalize zs[j]?.getD 0 = x at *
        go_wp2
        go_roundw
        case rel => exact ⟨j + 1, _, by omega, by go_num, rfl, HR.out⟩
        case measure => simp [intOf]; omega
    · have HR : Hid (zs.contains v = false) := by
        unfold Hid
        rw [Bool.eq_false_iff]
        intro h
        rw [List.contains_iff_mem] at h
        obtain ⟨i, hi, he⟩ := List.getElem_of_mem h
        exact HZ.out i (by rw [HN.out] at hi; omega) (by rw [List.getElem?_eq_getElem hi]; exact he)
      go_wp2
      go_ret
      exact ⟨ret_bool HR.out.symm, _, rfl⟩
theorem l5Among_any {w : World} {vv : Value} {zs : List Int} (h : Ints w vv zs) (v : Int) :
    Calls Try.prog 67 #[vv, .int .i64 v] w fun e w' => e = .returned (.bool (zs.contains v)) ∧ ∃ m, w' = w.drewN m := by
  obtain ⟨a, cap, rfl, hm, hc⟩ := h.open'
  exact l5Among_walk w a _ cap zs v hm rfl hc

set_option maxHeartbeats 800000 in
theorem l5Busy_many (w : World) (a : Option Addr) (n c : Nat) (hn : 20 < n) :
    Calls Try.prog 66 #[.slice a n c] w fun e w' => e = .returned (.int .i64 2) ∧ w' = w := by
  have h6 : decide ((20 : Int) < (n : Int)) = true := by simp; omega
  go_enter Try.func66, Try.ntmps66
  go_wp2
  go_ret
  exact ⟨rfl, rfl⟩
set_option maxHeartbeats 1600000 in
theorem l5Busy_walk (w : World) (a : Option Addr) (n c : Nat) (zs : List Int) (hn : n ≤ 20) (hzn : zs.length = n) (hc : At1 w a n (fun k => .int .i64 (zs[k]?.getD 0))) :
    Calls Try.prog 66 #[.slice a n c] w fun e w' => e = .returned (.int .i64 (fstNZ (rngF zs) zs.length)) ∧ ∃ m, w' = w.drewN m := by
  have HC : Hid (At1 w a n (fun k => .int .i64 (zs[k]?.getD 0))) := hc
  have HN : Hid (zs.length = n) := hzn
  have h6 : decide ((20 : Int) < (n : Int)) = false := by simp; omega
  clear hc hzn
  go_enter Try.func66, Try.ntmps66
  go_wp2
  go_loopw [3] (fun i wr => ∃ j m : Nat, j ≤ n ∧ i = .int .i64 j ∧ wr = w.drewN m ∧ ∀ i : Nat, i < j → rngF zs i = 0) (fun i _ => n - (intOf i).toNat)
  case atStart => exact ⟨0, 0, Nat.zero_le _, rfl, rfl, fun i hi => by omega⟩
  case round =>
    obtain ⟨j, m, hj, rfl, rfl, hz⟩ := hrel
    have HZ : Hid (∀ i : Nat, i < j → rngF zs i = 0) := hz
    clear hz
    by_cases hlt : j < n
    · obtain ⟨b, o, rfl, d1⟩ := HC.out j hlt
      replace d1 : w.cell? ⟨b, o + j, none⟩ = some (.int .i64 (zs[j]?.getD 0)) := d1
      have HT : Hid (¬ rngF zs j = 0 → rngF zs j = fstNZ (rngF zs) zs.length) := fun h => (fstNZ_at (f := rngF zs) HZ.out h (by rw [HN.out]; exact hlt)).symm
      by_cases hxv : 0 ≤ zs[j]?.getD 0 ∧ zs[j]?.getD 0 ≤ 19
      · have HR : Hid (∀ i : Nat, i < j + 1 → rngF zs i = 0) := fun i hi => by
          by_cases e : i = j
          · subst e; unfold rngF; rw [if_pos hxv]
          · exact HZ.out i (by omega)
        have HQ : Hid (decide (0 ≤ zs[j]?.getD 0 ∧ zs[j]?.getD 0 ≤ 19) = true) := by unfold Hid; simpa using hxv
        clear hxv HC HT
        generalize zs[j]?.getD 0 = x at *
        go_wp2_with fail
        refine (l1In_is HQ.out).mono ?_
        rintro e w1 ⟨rfl, rfl⟩
        go_wp2
        go_roundw
        case rel => exact ⟨j + 1, _, by omega, by go_num, rfl, HR.out⟩
        case measure => simp [intOf]; omega
      · have HR : Hid (3 = fstNZ (rngF zs) zs.length) := by
          have h3 : rngF zs j = 3 := by unfold rngF; rw [if_neg hxv]
          have := HT.out (by rw [h3]; omega)
          rwa [h3] at this
        have HQ : Hid (decide (0 ≤ zs[j]?.getD 0 ∧ zs[j]?.getD 0 ≤ 19) = false) := by unfold Hid; simpa using hxv
        clear hxv HC HT
        generalize zs[j]?.getD 0 = x at *
        go_wp2_with fail
        refine (l1In_is HQ.out).mono ?_
        rintro e w1 ⟨rfl, rfl⟩
        go_wp2
        go_ret
        exact ⟨ret_int HR.out, m, rfl⟩
    · go_wp2
      go_ret
      exact ⟨ret_int (fstNZ_zero (fun i hi => HZ.out i (by rw [HN.out] at hi; omega))).symm, m, rfl⟩
theorem l5Busy_any {w : World} {vv : Value} {zs : List Int} (h : Ints w vv zs) :
    Calls Try.prog 66 #[vv] w fun e w' => e = .returned (.int .i64 (busF zs)) ∧ ∃ m, w' = w.drewN m := by
  obtain ⟨a, cap, rfl, hm, hc⟩ := h.open'
  unfold busF
  by_cases h : 20 < zs.length
  · rw [if_pos h]
    exact (l5Busy_many w _ _ _ h).mono fun e w' ⟨h1, h2⟩ => ⟨h1, 0, h2⟩
  · rw [if_neg h]
    exact l5Busy_walk w a _ cap zs (by omega) rfl hc

theorem l5Asked_any {w : World} {v v' : Value} {ds : List ID} {zs : List Int} (h : Inos w v ds) (h' : Ints w v' zs) :
    Calls Try.prog 50 #[v, v'] w fun e w' => e = .returned (.int .i64 (askF ds zs)) ∧ ∃ m, w' = w.drewN m := by
  obtain ⟨a, cap, rfl, _⟩ := h.open'
  obtain ⟨a', cap', rfl, _⟩ := h'.open'
  have HF : Hid (Calls Try.prog 42 #[.slice a ds.length cap] w fun e w' => e = .returned (.int .i64 (insF ds)) ∧ ∃ m, w' = w.drewN m) := l5Fault_any h
  have HB : Hid (∀ m, Calls Try.prog 66 #[.slice a' zs.length cap'] (w.drewN m) fun e w' => e = .returned (.int .i64 (busF zs)) ∧ ∃ m', w' = (w.drewN m).drewN m') := fun m => l5Busy_any (h'.drewN m)
  have HA : Hid (askF ds zs = if insF ds = 0 then busF zs else insF ds) := rfl
  rw [HA.out]
  clear HA h h'
  generalize insF ds = r at *
  generalize busF zs = q at *
  generalize ds.length = n at *
  generalize zs.length = n' at *
  by_cases hr : r = 0
  · rw [if_pos hr]
    subst hr
    go_enter Try.func50, Try.ntmps50
    go_wp2_with fail
    refine HF.out.mono ?_
    rintro e w1 ⟨rfl, m, rfl⟩
    go_wp2_with fail
    refine (HB.out m).mono ?_
    rintro e w1 ⟨rfl, m2, rfl⟩
    go_wp2
    go_ret
    exact ⟨rfl, _, rfl⟩
  · rw [if_neg hr]
    have hb : (r != 0) = true := by simpa using hr
    go_enter Try.func50, Try.ntmps50
    go_wp2_with fail
    refine HF.out.mono ?_
    rintro e w1 ⟨rfl, m, rfl⟩
    go_wp2
    go_ret
    exact ⟨rfl, _, rfl⟩

set_option maxHeartbeats 1600000 in
theorem l5Place_any {w : World} {v : Value} {ds : List ID} (h : Inos w v ds) (hn10 : ds.length ≤ 10) :
    Calls Try.prog 56 #[v] w fun e w' => e = .returned (.int .i64 (plcI ds ds.length)) ∧ ∃ m, w' = w.drewN m := by
  obtain ⟨a, cap, rfl, _, hc⟩ := h.open'
  have HC : Hid (AtI w a ds.length ds) := hc
  have HY : Hid (∀ j, j < ds.length → kindAt ds j = 0 → plcI ds (ds.length - j) = (j : Int)) := fun j hj hk => plcI_yes ds hj hk
  have HNO : Hid (∀ j, j < ds.length → ¬ kindAt ds j = 0 → plcI ds (ds.length - (j + 1)) = plcI ds (ds.length - j)) := fun j hj hk => plcI_no ds hj hk
  have HE : Hid (plcI ds 0 = if ds.length < 10 then (ds.length : Int) else -1) := rfl
  obtain ⟨R, hR⟩ : ∃ R, R = plcI ds ds.length := ⟨_, rfl⟩
  rw [← hR]
  have HR0 : Hid (R = plcI ds ds.length) := hR
  clear hR
  generalize hn : ds.length = n at *
  clear h hc hn
  go_enter Try.func56, Try.ntmps56
  go_wp2
  go_loopw [3] (fun i wr => ∃ j m : Nat, j ≤ n ∧ i = .int .i64 j ∧ wr = w.drewN m ∧ R = plcI ds (n - j)) (fun i _ => n - (intOf i).toNat)
  case atStart => exact ⟨0, 0, Nat.zero_le _, rfl, rfl, by rw [Nat.sub_zero]; exact HR0.out⟩
  case round =>
    obtain ⟨j, m, hj, rfl, rfl, hz⟩ := hrel
    have HZ : Hid (R = plcI ds (n - j)) := hz
    clear hz
    by_cases hlt : j < n
    · obtain ⟨b, o, rfl, hI⟩ := HC.out j hlt
      obtain ⟨aB, cB, aE, cE, c0, -⟩ := hI
      replace c0 : w.cell? ⟨b, o + j * 5, none⟩ = some (.int .i64 (kindAt ds j)) := c0
      by_cases hk : kindAt ds j = 0
      · have HR : Hid (R = (j : Int)) := HZ.out.trans (HY.out j hlt hk)
        rw [hk] at c0
        clear hk HY HNO HC
        go_wp2
        go_ret
        exact ⟨ret_int HR.out.symm, _, rfl⟩
      · have HR : Hid (R = plcI ds (n - (j + 1))) := HZ.out.trans (HNO.out j hlt hk).symm
        have hkb : (kindAt ds j == 0) = false := by simpa using hk
        clear hk HY HNO HC
        generalize kindAt ds j = x at *
        go_wp2
        go_roundw
        case rel => exact ⟨j + 1, _, by omega, by go_num, rfl, HR.out⟩
        case measure => simp [intOf]; omega
    · by_cases h10 : n < 10
      · have HR : Hid (R = (n : Int)) := by unfold Hid; rw [HZ.out, show n - j = 0 by omega, HE.out, if_pos h10]
        have hd : decide ((n : Int) < 10) = true := by simp; omega
        clear h10
        go_wp2
        go_ret
        exact ⟨ret_int HR.out.symm, _, rfl⟩
      · have HR : Hid (R = -1) := by unfold Hid; rw [HZ.out, show n - j = 0 by omega, HE.out, if_neg h10]
        have hd : decide ((n : Int) < 10) = false := by simp; omega
        clear h10
        go_wp2
        go_ret
        exact ⟨ret_int HR.out.symm, _, rfl⟩
end Go.Proofs.Ytjbppdkijjfejak
