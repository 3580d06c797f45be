/- The program's counts of who needs a block: an array. The program's counts, filled and read. The specification: what is wrong of a file system. The bytes of a file: the specification. Lists of inodes are marked, and the marks are held. Lists of lists of bytes, and file systems: the marks are held. Answers that hold a file system: compared, marked, held. A file system in memory of its own, of which places turn. No program is named here. -/
import Derived.Test.YtjabimfinanjoabM06
import Derived.Deep.WholeRow
import Derived.Test.YtjabimfinanjoabM03
import Derived.Test.YtjabimfinanjoabM04
import Derived.Deep.RegionHeld3
namespace Go.Proofs.Ytjabimfinanjoab
open Go.RowKit
set_option maxRecDepth 100000

/-- An array that holds how many need each block. -/
def arrC (f : Nat → Nat) : Array Value := ((List.range 20).map fun i => intV ((f i : Nat) : Int)).toArray
theorem arrC_size (f : Nat → Nat) : (arrC f).size = 20 := by simp [arrC]
theorem arrC_get (f : Nat → Nat) {i : Nat} (h : i < 20) : (arrC f)[i]? = some (.int .i64 ((f i : Nat) : Int)) := by
  simp [arrC, h, intV]
theorem arrC_set (f : Nat → Nat) (q x : Nat) : (arrC f).setIfInBounds q (.int .i64 ((x : Nat) : Int)) = arrC (fun i => if i = q then x else f i) := by
  apply Array.ext_getElem?
  intro i
  rw [Array.getElem?_setIfInBounds]
  by_cases hi : i < 20
  · rw [arrC_get _ hi, arrC_get _ hi, arrC_size]
    by_cases e : q = i
    · subst e; simp [hi]
    · rw [if_neg e, if_neg (fun h => e h.symm)]
  · have h1 : (arrC f)[i]? = none := by rw [Array.getElem?_eq_none_iff, arrC_size]; omega
    have h2 : (arrC (fun i => if i = q then x else f i))[i]? = none := by rw [Array.getElem?_eq_none_iff, arrC_size]; omega
    rw [h1, h2, arrC_size]
    by_cases e : q = i
    · subst e; simp [hi]
    · rw [if_neg e]
/-- Block b holds the counts f. -/
def Arr (w : World) (b : Nat) (f : Nat → Nat) : Prop := w.heap[b]? = some (.cells (arrC f) 91)
theorem Arr.cell {w : World} {b : Nat} {f : Nat → Nat} (h : Arr w b f) {i : Nat} (hi : i < 20) : w.cell? ⟨b, i, none⟩ = some (.int .i64 ((f i : Nat) : Int)) := by
  simp [World.cell?, show w.heap[b]? = some (.cells (arrC f) 91) from h, arrC_get f hi]
theorem Arr.frozen {w : World} {b : Nat} {f : Nat → Nat} (h : Arr w b f) (i : Nat) : w.frozen? ⟨b, i, none⟩ = false := by
  simp [World.frozen?, show w.heap[b]? = some (.cells (arrC f) 91) from h]
theorem Arr.lt {w : World} {b : Nat} {f : Nat → Nat} (h : Arr w b f) : b < w.heap.size := (Array.getElem?_eq_some_iff.1 h).1
theorem Arr.later {w w' : World} {b : Nat} {f : Nat → Nat} (h : Arr w b f) (hb : Below w.heap.size w w') : Arr w' b f := (hb.block b h.lt).trans h
theorem Arr.set {w : World} {b : Nat} {f : Nat → Nat} (h : Arr w b f) (q x : Nat) : Arr (w.setCell ⟨b, q, none⟩ (.int .i64 ((x : Nat) : Int))) b (fun i => if i = q then x else f i) := by
  have h' : w.heap[b]? = some (.cells (arrC f) 91) := h
  unfold Arr
  rw [← arrC_set f q x]
  simp [World.setCell, Array.getElem?_modify, h']
theorem Arr.store {w : World} {b : Nat} {f : Nat → Nat} (h : Arr w b f) {p : Addr} (hp : b ≠ p.block) (v : Value) : Arr (w.setCell p v) b f := (Below.heap_setCell _ _ _ _ hp).trans h
theorem Arr.new (w : World) (f : Nat → Nat) : Arr (w.alloc (.cells (arrC f) 91)) w.heap.size f := Go.Deep.blk_alloc_new _ _

theorem arrC_one (f : Nat → Nat) : (arrC f).all (·.oneCell') = true := by
  unfold arrC
  rw [Array.all_eq_true_iff_forall_mem]
  intro v hv
  simp only [List.mem_toArray, List.mem_map] at hv
  obtain ⟨i, _, rfl⟩ := hv
  rfl
theorem Try.infoNeeds : (Try.prog.info? 91).map (·.size) = some 20 := by kernel_rfl
theorem Arr.load {w : World} {b : Nat} {f : Nat → Nat} (h : Arr w b f) : (Instr.loadAt 91 (.pointer (some ⟨b, 0, none⟩))).run Try.prog w = .ok (.agg (arrC f)) w := by
  simp only [Instr.loadAt, Instr.sureAddr, Sem.run_bind, Sem.run_pure, Result.andThen]
  exact run_loadVar_row w b _ _ (arrC f) (0, 0) _ h Try.underlying91 rfl (by rw [arrC_size]; exact Try.infoNeeds)
theorem Arr.loadV {w : World} {b : Nat} {f : Nat → Nat} (h : Arr w b f) : (loadVar 91 ⟨b, 0, none⟩).run Try.prog w = .ok (.agg (arrC f)) w :=
  run_loadVar_row w b _ _ (arrC f) (0, 0) _ h Try.underlying91 rfl (by rw [arrC_size]; exact Try.infoNeeds)
theorem Arr.put {w : World} {b : Nat} {f : Nat → Nat} (h : Arr w b f) (g : Nat → Nat) : ∃ X, (Instr.storeAt 91 (.pointer (some ⟨b, 0, none⟩)) (.agg (arrC g))).run Try.prog w = .ok () X ∧ Arr X b g ∧ X.heap.size = w.heap.size ∧ (∀ c, c ≠ b → X.heap[c]? = w.heap[c]?) ∧ X.os = w.os ∧ X.tape = w.tape ∧ X.output = w.output := by
  refine ⟨w.setRow b (arrC g), ?_, ?_, ?_, fun c hc => ?_, rfl, rfl, rfl⟩
  · simp only [Instr.storeAt, Instr.sureAddr, Sem.run_bind, Sem.run_pure, Result.andThen]
    rw [run_storeVar_row w b _ _ (arrC f) (arrC g) h (by rw [arrC_size]; exact Try.infoNeeds) (by rw [arrC_size, arrC_size]) (arrC_one g)]
  · have h' : w.heap[b]? = some (.cells (arrC f) 91) := h
    unfold Arr
    simp [World.setRow, Array.getElem?_modify, h']
  · simp [World.setRow]
  · simp only [World.setRow]
    rw [Array.getElem?_modify, if_neg (fun e => hc e.symm)]
section
variable {P : Program} {w : World}
/-- A load, a store whose run is known, at its place in a walk. -/
theorem wpList_load_run {ops : Array Oper} {rest : List Oper} {o : Oper} {a : Act} {Q : Exit → Act → World → Prop} (hgd : o.guard = none) (s : Operand) (t : TypeId) (ho : o.op = .load t s) (v : Value) (hs : a.eval s = v) (v' : Value) (w' : World)
    (hr : (Instr.loadAt t v).run P w = .ok v' w') (h : wpList P ops Q rest (a.put o.dst v') w') : wpList P ops Q (o :: rest) a w := by
  refine wpList_plain hgd fun K hK => ?_
  unfold Oper.wp execOp
  simp only [ho, Sem.run_bind, Sem.run_pure, hs, hr, Result.andThen_ok]
  exact hK _ _ h
theorem wpList_store_run {ops : Array Oper} {rest : List Oper} {o : Oper} {a : Act} {Q : Exit → Act → World → Prop} (hgd : o.guard = none) (s x : Operand) (t : TypeId) (ho : o.op = .store t s x) (v y : Value) (hs : a.eval s = v) (hx : a.eval x = y) (w' : World)
    (hr : (Instr.storeAt t v y).run P w = .ok () w') (h : wpList P ops Q rest (a.put o.dst undef) w') : wpList P ops Q (o :: rest) a w := by
  refine wpList_plain hgd fun K hK => ?_
  unfold Oper.wp execOp
  simp only [ho, Sem.run_bind, Sem.run_pure, hs, hx, hr, Result.andThen_ok]
  exact hK _ _ h
end

set_option maxHeartbeats 800000 in
theorem needsWith_walk (w : World) (a : Option Addr) (n c : Nat) (f : Nat → Nat) (bs : List Int) (hn : n ≤ 1048576) (hbn : bs.length = n) (hf : ∀ i, f i ≤ 1000000000000) (hr : ∀ k, k < n → 0 ≤ bs[k]?.getD 0 ∧ bs[k]?.getD 0 < 20) (hc : At1 w a n (fun k => .int .i64 (bs[k]?.getD 0))) :
    Calls Try.prog 59 #[.agg (arrC f), .slice a n c] w fun e w' => e = .returned (.agg (arrC fun i => f i + bs.count (i : Int))) ∧ Below w.heap.size w w' := by
  have HC : Hid (At1 w a n (fun k => .int .i64 (bs[k]?.getD 0))) := hc
  have HR : Hid (∀ k, k < n → 0 ≤ bs[k]?.getD 0 ∧ bs[k]?.getD 0 < 20) := hr
  have HN : Hid (bs.length = n) := hbn
  have HF : Hid (∀ i, f i ≤ 1000000000000) := hf
  clear hc hr hbn hf
  have hsz := arrC_size f
  have h0 := Arr.new w f
  have z1 := Arr.new (w.alloc (.cells (arrC f) 91)) (fun _ => 0)
  have z0 := h0.later (later1 _ (.cells (arrC fun _ => 0) 91))
  rw [World.size_alloc] at z1
  have HB0 : Hid (Below w.heap.size w ((w.alloc (.cells (arrC f) 91)).alloc (.cells (arrC fun _ => 0) 91))) := later2 _ _ _
  have HZ0 : Hid (Arr _ _ _) := z0
  have HZ1 : Hid (Arr _ _ _) := z1
  clear h0 z0 z1
  go_enter Try.func59, Try.ntmps59
  go_wp2
  go_loopw [9] (fun i wr => ∃ j : Nat, j ≤ n ∧ i = .int .i64 j ∧ Below w.heap.size w wr ∧ Arr wr w.heap.size (fun i => f i + (bs.take j).count (i : Int)) ∧ Arr wr (w.heap.size + 1) (fun _ => 0)) (fun i _ => n - (intOf i).toNat)
  case atStart => exact ⟨0, Nat.zero_le _, rfl, HB0.out, by simp only [List.take_zero, List.count_nil, Nat.add_zero]; exact HZ0.out, HZ1.out⟩
  case round =>
    clear HB0 HZ0 HZ1
    obtain ⟨j, hj, rfl, hbl, hx, hy⟩ := hrel
    have HBL : Hid (Below w.heap.size w wr) := hbl
    have HX : Hid (Arr wr w.heap.size (fun i => f i + (bs.take j).count (i : Int))) := hx
    have HY : Hid (Arr wr (w.heap.size + 1) (fun _ => 0)) := hy
    clear hbl hx hy
    by_cases hlt : j < n
    · obtain ⟨b, o, rfl, d1⟩ := HC.out j hlt
      replace d1 : w.cell? ⟨b, o + j, none⟩ = some (.int .i64 (bs[j]?.getD 0)) := d1
      replace d1 := cell_later HBL.out d1
      have hrj := HR.out j hlt
      obtain ⟨q, hq⟩ := Int.eq_ofNat_of_zero_le hrj.1
      have hq20 : q < 20 := by omega
      have hfq := HF.out q
      have hct : (bs.take j).count (q : Int) ≤ 1048576 := by
        have := List.count_le_length (a := (q : Int)) (l := bs.take j)
        rw [List.length_take] at this
        omega
      have HNX : Hid (∀ i : Nat, (bs.take (j + 1)).count (i : Int) = (bs.take j).count (i : Int) + if i = q then 1 else 0) := fun i => by
        rw [count_next bs (i : Int) j (by rw [HN.out]; exact hlt), hq]
        congr 1
        by_cases e : i = q
        · rw [if_pos e, if_pos (by omega)]
        · rw [if_neg e, if_neg (by omega)]
      rw [hq] at d1
      have e1 := HX.out.cell hq20
      have e2 := HX.out.frozen q
      clear hrj hq HC HR
      have HS := HX.out.set q (f q + (bs.take j).count (q : Int) + 1)
      have HS' : Hid (Arr (wr.setCell ⟨w.heap.size, q, none⟩ (.int .i64 ((f q + (bs.take j).count (q : Int) + 1 : Nat) : Int))) w.heap.size (fun i => f i + (bs.take (j + 1)).count (i : Int))) := by
        have he : (fun i => f i + (bs.take (j + 1)).count (i : Int)) = (fun i : Nat => if i = q then f q + (bs.take j).count (q : Int) + 1 else f i + (bs.take j).count (i : Int)) := by
          funext i
          rw [HNX.out i]
          by_cases e : i = q
          · subst e; rw [if_pos rfl, if_pos rfl]; omega
          · rw [if_neg e, if_neg e]; omega
        unfold Hid
        rw [he]
        exact HS
      clear HS HNX
      generalize (bs.take j).count (q : Int) = cq at *
      generalize f q = fq at *
      go_wp2
      go_roundw
      case rel => exact ⟨j + 1, by omega, by go_num, HBL.out.setCell (by simp) _, by first | exact HS'.out | simpa using HS'.out, HY.out.store (by simp) _⟩
      case measure => simp [intOf]; omega
    · have he : bs.take j = bs := List.take_of_length_le (by rw [HN.out]; omega)
      rw [he] at HX
      clear he
      generalize hg : (fun i : Nat => f i + bs.count (i : Int)) = g at HX
      have HGE : Hid ((fun i : Nat => f i + bs.count (i : Int)) = g) := hg
      clear hg
      have HL : Hid (_ = _) := HX.out.load
      obtain ⟨X, hst, hax, hsx, hoth, hx1, hx2, hx3⟩ := HY.out.put g
      have HST : Hid (_ = _) := hst
      have HAX : Hid (Arr X (w.heap.size + 1) g) := hax
      have HBX : Hid (Below w.heap.size w X) := HBL.out.trans ⟨hx1, hx2, hx3, by omega, fun c hc => hoth c (by omega)⟩
      clear hst hax hsx hoth hx1 hx2 hx3
      go_wp2_with (first | refine wpList_load_run rfl _ 91 rfl _ rfl _ _ HL.out ?_ | refine wpList_store_run rfl _ _ 91 rfl _ _ rfl rfl _ HST.out ?_)
      refine bodyPost_ret (v := .agg (arrC g)) ?_ rfl ⟨by rw [HGE.out], HBX.out⟩
      have hlv := HAX.out.loadV
      simp [results, Try.results59, asAddr, Act.put, hlv]
end Go.Proofs.Ytjabimfinanjoab

namespace Go.Proofs.Ytjabimfinanjoab
open Go.RowKit
set_option maxRecDepth 100000

theorem needsWith_any {w : World} {v : Value} {bs : List Int} (h : Ints w v bs) (f : Nat → Nat) (hn : bs.length ≤ 1048576) (hf : ∀ i, f i ≤ 1000000000000) (hr : ∀ k : Nat, k < bs.length → 0 ≤ bs[k]?.getD 0 ∧ bs[k]?.getD 0 < 20) :
    Calls Try.prog 59 #[.agg (arrC f), v] w fun e w' => e = .returned (.agg (arrC fun i => f i + bs.count (i : Int))) ∧ Below w.heap.size w w' := by
  obtain ⟨a, cap, rfl, _, hc⟩ := h.open'
  exact needsWith_walk w a _ cap f bs hn rfl hf hr hc
/-- Blocks of inodes without a fault stand within the bounds. -/
theorem inoF_blocks {d : ID} (h : inoF d = 0) (k : Nat) (hk : k < d.2.2.2.1.length) : 0 ≤ d.2.2.2.1[k]?.getD 0 ∧ d.2.2.2.1[k]?.getD 0 < 20 := by
  have hp : ∀ x : Bool, (decide (d.2.1 ≠ 0) || decide (d.2.2.1 ≠ 0) || decide (0 < d.2.2.2.1.length)) = x → x = true := fun x hx => by
    rw [← hx, decide_eq_true (show 0 < d.2.2.2.1.length by omega)]; simp
  have hfp : fpB d = true := hp _ rfl
  unfold inoF at h
  rw [hfp] at h
  split at h
  · simp at h
  · split at h
    · split at h
      · omega
      · unfold fileF at h
        split at h
        · split at h
          · unfold blkF at h
            split at h
            · rename_i hz
              have := fstNZ_inv hz k hk
              unfold rngF at this
              split at this
              · omega
              · omega
            · rename_i hz; exact absurd h hz
          · omega
        · omega
    · split at h
      · simp at h
      · omega
theorem insF_len {ds : List ID} (h : insF ds = 0) : ds.length ≤ 10 := by
  unfold insF at h
  split at h
  · omega
  · omega
theorem insF_each {ds : List ID} (h : insF ds = 0) (j : Nat) (hj : j < ds.length) : inoF (ds[j]?.getD id0) = 0 := by
  unfold insF at h
  split at h
  · omega
  · exact fstNZ_inv (f := fun i => inoF (ds[i]?.getD id0)) h j hj
theorem insF_blocks {ds : List ID} (h : insF ds = 0) (j k : Nat) (hj : j < ds.length) (hk : k < (ds[j]?.getD id0).2.2.2.1.length) : 0 ≤ (ds[j]?.getD id0).2.2.2.1[k]?.getD 0 ∧ (ds[j]?.getD id0).2.2.2.1[k]?.getD 0 < 20 := inoF_blocks (insF_each h j hj) k hk

set_option maxHeartbeats 1600000 in
theorem needsOf_walk (w : World) (a : Option Addr) (n c : Nat) (ds : List ID) (hdn : ds.length = n) (hn : n ≤ 1048576) (hs : (isz ds).sum ≤ 1048576) (hr : ∀ j k : Nat, j < n → k < (ds[j]?.getD id0).2.2.2.1.length → 0 ≤ (ds[j]?.getD id0).2.2.2.1[k]?.getD 0 ∧ (ds[j]?.getD id0).2.2.2.1[k]?.getD 0 < 20) (hc : AtI w a n ds) :
    Calls Try.prog 53 #[.slice a n c] w fun e w' => e = .returned (.agg (arrC fun i => cntB ds (i : Int))) ∧ Below w.heap.size w w' := by
  have HC : Hid (AtI w a n ds) := hc
  have HN : Hid (ds.length = n) := hdn
  have HR : Hid (∀ j k : Nat, j < n → k < (ds[j]?.getD id0).2.2.2.1.length → 0 ≤ (ds[j]?.getD id0).2.2.2.1[k]?.getD 0 ∧ (ds[j]?.getD id0).2.2.2.1[k]?.getD 0 < 20) := hr
  have HS : Hid (∀ (j : Nat) (v : Int), (((ds.take j).flatMap fun d => d.2.2.2.1)).count v ≤ 1000000000000) := fun j v => by
    have h1 := flat_take (fun d : ID => d.2.2.2.1) ds j
    have h2 := allB_len ds
    have h3 := List.count_le_length (a := v) (l := (ds.take j).flatMap fun d => d.2.2.2.1)
    unfold allB at h2
    omega
  have HX : Hid (∀ (j : Nat), j < n → (fun i : Nat => ((ds.take j).flatMap fun d => d.2.2.2.1).count (i : Int) + ((ds[j]?.getD id0).2.2.2.1).count (i : Int)) = (fun i : Nat => ((ds.take (j + 1)).flatMap fun d => d.2.2.2.1).count (i : Int))) := fun j hj => by
    funext i
    rw [flat_next (fun d : ID => d.2.2.2.1) ds id0 j (by omega), List.count_append]
  have HZ : Hid (∀ j : Nat, (ds[j]?.getD id0).2.2.2.1.length ≤ 1048576) := fun j => by
    have := isz_le ds j
    have hd : sizeIno (ds[j]?.getD id0) = (ds[j]?.getD id0).2.2.2.1.length + sizeN (ds[j]?.getD id0).2.2.2.2 := rfl
    omega
  have HE : Hid ((fun i : Nat => cntB ds (i : Int)) = (fun i : Nat => ((ds.take n).flatMap fun d => d.2.2.2.1).count (i : Int))) := by unfold Hid cntB allB; rw [List.take_of_length_le (by omega)]
  clear hc hdn hr hs
  have z0 := Arr.new w (fun _ => 0)
  have z1 := Arr.new (w.alloc (.cells (arrC fun _ => 0) 91)) (fun _ => 0)
  replace z0 := z0.later (later1 _ (.cells (arrC fun _ => 0) 91))
  rw [World.size_alloc] at z1
  have HB0 : Hid (Below w.heap.size w ((w.alloc (.cells (arrC fun _ => 0) 91)).alloc (.cells (arrC fun _ => 0) 91))) := later2 _ _ _
  have HZ0 : Hid (Arr _ _ _) := z0
  have HZ1 : Hid (Arr _ _ _) := z1
  clear z0 z1
  rw [HE.out]
  clear HE
  generalize hG : (fun (j i : Nat) => ((ds.take j).flatMap fun d => d.2.2.2.1).count (i : Int)) = G at *
  have HG : Hid (∀ j i, ((ds.take j).flatMap fun d => d.2.2.2.1).count ((i : Nat) : Int) = G j i) := fun j i => congrFun (congrFun hG j) i
  have HGB : Hid (∀ j i, G j i ≤ 1000000000000) := fun j i => by rw [← HG.out j i]; exact HS.out j _
  have HG0 : Hid ((fun _ : Nat => 0) = G 0) := by unfold Hid; funext i; rw [← HG.out 0 i]; simp
  simp only [HG.out] at HX ⊢
  clear hG HG HS
  go_enter Try.func53, Try.ntmps53
  go_wp2
  go_loopw [8] (fun i wr => ∃ j : Nat, j ≤ n ∧ i = .int .i64 j ∧ Below w.heap.size w wr ∧ Arr wr (w.heap.size + 1) (G j) ∧ Arr wr w.heap.size (fun _ => 0)) (fun i _ => n - (intOf i).toNat)
  case atStart => exact ⟨0, Nat.zero_le _, rfl, HB0.out, HG0.out ▸ HZ1.out, HZ0.out⟩
  case round =>
    clear HB0 HZ0 HZ1
    obtain ⟨j, hj, rfl, hbl, hx, hy⟩ := hrel
    have HBL : Hid (Below w.heap.size w wr) := hbl
    have HA : Hid (Arr wr (w.heap.size + 1) (G j)) := hx
    have HY : Hid (Arr wr w.heap.size (fun _ => 0)) := hy
    have hw0 := hx.lt
    clear hbl hx hy
    by_cases hlt : j < n
    · obtain ⟨b, o, rfl, hI⟩ := HC.out j hlt
      obtain ⟨aB, cB, aE, cE, c0, c1, c2, c3, c4, hR⟩ := hI.later HBL.out
      have HW : Hid (∀ W, Below wr.heap.size wr W → Calls Try.prog 59 #[.agg (arrC (G j)), .slice aB (ds[j]?.getD id0).2.2.2.1.length cB] W fun e w' => e = .returned (.agg (arrC (G (j + 1)))) ∧ Below W.heap.size W w') := fun W hW => by
        have hx := needsWith_any (hR.2.1.later hW) (G j) (HZ.out j) (HGB.out j) (fun k hk => HR.out j k hlt hk)
        have e : (fun i : Nat => G j i + ((ds[j]?.getD id0).2.2.2.1).count (i : Int)) = G (j + 1) := HX.out j hlt
        rw [e] at hx
        exact hx
      have HL : Hid (∀ o, (Instr.loadAt 91 (.pointer (some ⟨w.heap.size + 1, 0, none⟩))).run Try.prog (wr.alloc o) = .ok (.agg (arrC (G j))) (wr.alloc o)) := fun o => (HA.out.later (later1 _ _)).load
      clear hI hR HC HR
      generalize hg2 : G (j + 1) = g2 at HW
      generalize G j = g1 at HW HL HA
      have HG2 : Hid (G (j + 1) = g2) := hg2
      clear hg2
      generalize (ds[j]?.getD id0) = d at *
      go_wp2_with (first | refine wpList_load_run rfl _ 91 rfl _ rfl _ _ (HL.out _) ?_ | fail)
      clear c0 c1 c2 c3 c4
      refine (HW.out _ (later1 _ _)).mono ?_
      rintro e w2 ⟨rfl, hb2⟩
      have hbw : Below wr.heap.size wr w2 := (later1 _ _).trans (hb2.mono (by simp))
      obtain ⟨X, hst, hax, hsx, hoth, hx1, hx2, hx3⟩ := (HA.out.later hbw).put g2
      have HST : Hid (_ = _) := hst
      have HAX : Hid (Arr X (w.heap.size + 1) g2) := hax
      have HBX : Hid (Below w.heap.size w X) := (HBL.out.trans (hbw.mono HBL.out.size)).trans ⟨hx1, hx2, hx3, by omega, fun c hc => hoth c (by omega)⟩
      have HYX : Hid (Arr X w.heap.size (fun _ => 0)) := (hoth _ (by omega)).trans (HY.out.later hbw)
      clear hst hax hsx hoth hx1 hx2 hx3 hb2 hbw
      go_wp2_with (first | refine wpList_store_run rfl _ _ 91 rfl _ _ rfl rfl _ HST.out ?_ | fail)
      go_roundw
      case rel => exact ⟨j + 1, by omega, by go_num, HBX.out, by rw [HG2.out]; exact HAX.out, HYX.out⟩
      case measure => simp [intOf]; omega
    · have HGN : Hid (G j = G n) := by unfold Hid; rw [show j = n by omega]
      have HL : Hid (_ = _) := HA.out.load
      obtain ⟨X, hst, hax, hsx, hoth, hx1, hx2, hx3⟩ := HY.out.put (G j)
      have HST : Hid (_ = _) := hst
      have HAX : Hid (Arr X w.heap.size (G n)) := HGN.out ▸ hax
      have HBX : Hid (Below w.heap.size w X) := HBL.out.trans ⟨hx1, hx2, hx3, by omega, fun c hc => hoth c (by omega)⟩
      clear hst hax hsx hoth hx1 hx2 hx3
      generalize G j = g1 at HL HST
      go_wp2_with (first | refine wpList_load_run rfl _ 91 rfl _ rfl _ _ HL.out ?_ | refine wpList_store_run rfl _ _ 91 rfl _ _ rfl rfl _ HST.out ?_)
      refine bodyPost_ret (v := .agg (arrC (G n))) ?_ rfl ⟨rfl, HBX.out⟩
      have hlv := HAX.out.loadV
      simp [results, Try.results53, asAddr, Act.put, hlv]
theorem needsOf_any {w : World} {v : Value} {ds : List ID} (h : Inos w v ds) (hs : sizeInos ds ≤ 1048576) (hf : insF ds = 0) :
    Calls Try.prog 53 #[v] w fun e w' => e = .returned (.agg (arrC fun i => cntB ds (i : Int))) ∧ Below w.heap.size w w' := by
  obtain ⟨a, cap, rfl, hm, hc⟩ := h.open'
  unfold sizeInos at hs
  exact needsOf_walk w a _ cap ds rfl (by omega) (by omega) (fun j k hj hk => insF_blocks hf j k hj hk) hc

theorem Arr.keep {w w' : World} {b : Nat} {f : Nat → Nat} (h : Arr w b f) (hk : KeepT w w') : Arr w' b f := hk _ _ _ _ (by decide) h

def manyB (f : Nat → Nat) : Bool := (List.range 20).any fun k => decide (1 < f k)
set_option maxHeartbeats 800000 in
theorem anyOfTwo_any (w : World) (f : Nat → Nat) (hf : ∀ i, f i ≤ 1000000000000) :
    Calls Try.prog 54 #[.agg (arrC f)] w fun e w' => e = .returned (.bool (manyB f)) ∧ Below w.heap.size w w' := by
  have HA : Hid (Arr (w.alloc (.cells (arrC f) 91)) w.heap.size f) := Arr.new w f
  have HF : Hid (∀ i, f i ≤ 1000000000000) := hf
  have HB : Hid (Below w.heap.size w (w.alloc (.cells (arrC f) 91))) := later1 _ _
  have hsz := arrC_size f
  clear hf
  go_enter Try.func54, Try.ntmps54
  go_wp2
  generalize w.alloc (.cells (arrC f) 91) = W at *
  go_loopw [4] (fun i wr => ∃ j : Nat, j ≤ 20 ∧ i = .int .i64 j ∧ wr = W ∧ ∀ i : Nat, i < j → ¬ 1 < f i) (fun i _ => 20 - (intOf i).toNat)
  case atStart => exact ⟨0, Nat.zero_le _, rfl, rfl, fun i hi => by omega⟩
  case round =>
    obtain ⟨j, hj, rfl, hw, hz⟩ := hrel
    have HZ : Hid (∀ i : Nat, i < j → ¬ 1 < f i) := hz
    rw [← hw] at HA HB
    have HWE : Hid (wr = W) := hw
    clear hz hw
    by_cases hlt : j < 20
    · have c0 := HA.out.cell hlt
      have hfj := HF.out j
      by_cases h1 : 1 < f j
      · have HR : Hid (manyB f = true) := by
          unfold Hid manyB
          rw [List.any_eq_true]
          exact ⟨j, by simpa using hlt, by simpa using h1⟩
        have hd : decide ((1 : Int) < ((f j : Nat) : Int)) = true := by simp; omega
        clear h1
        generalize f j = x at *
        go_wp2
        go_ret
        exact ⟨ret_bool HR.out.symm, HB.out⟩
      · have HR : Hid (∀ i : Nat, i < j + 1 → ¬ 1 < f i) := fun i hi => by
          by_cases e : i = j
          · subst e; exact h1
          · exact HZ.out i (by omega)
        have hd : decide ((1 : Int) < ((f j : Nat) : Int)) = false := by simp; omega
        clear h1
        generalize hx : f j = x at c0 hd hfj
        clear hx
        go_wp2
        go_roundw
        case rel => exact ⟨j + 1, by omega, by go_num, HWE.out, HR.out⟩
        case measure => simp [intOf]; omega
    · have HR : Hid (manyB f = false) := by
        unfold Hid manyB
        rw [List.any_eq_false]
        intro k hk
        simp only [List.mem_range] at hk
        simpa using HZ.out k (by omega)
      go_wp2
      go_ret
      exact ⟨ret_bool HR.out.symm, HB.out⟩

end Go.Proofs.Ytjabimfinanjoab

namespace Go.Proofs.Ytjabimfinanjoab
open Go.RowKit
set_option maxRecDepth 100000

def fsF (d : FD) : Int := if fsE d = 0 then (if linksB d.1 && sizesB d then 0 else 1) else fsE d
theorem fsE_zero {d : FD} (h : fsE d = 0) : insF d.1 = 0 ∧ formB d = false ∧ fstNZ (manyF d.2) d.2.length = 0 ∧ onceB d.1 20 = true ∧ lostF d.1 = 0 := by
  unfold fsE at h
  by_cases h1 : insF d.1 = 0
  · rw [if_pos h1] at h
    by_cases h2 : formB d = true
    · rw [if_pos h2] at h; omega
    · rw [if_neg h2] at h
      by_cases h3 : fstNZ (manyF d.2) d.2.length = 0
      · rw [if_pos h3] at h
        by_cases h4 : onceB d.1 20 = true
        · rw [if_pos h4] at h
          exact ⟨h1, by simpa using h2, h3, h4, h⟩
        · rw [if_neg h4] at h; omega
      · rw [if_neg h3] at h; exact absurd h h3
  · rw [if_neg h1] at h; exact absurd h h1
theorem formB_no {d : FD} (h : formB d = false) : ¬ d.1.length = 0 ∧ kindAt d.1 0 = 2 ∧ d.2.length = 20 := by
  unfold formB at h
  simp at h
  obtain ⟨⟨h1, h2⟩, h3⟩ := h
  exact ⟨fun e => h1 (List.eq_nil_of_length_eq_zero e), h2, h3⟩
theorem insF_ten {ds : List ID} (h : insF ds = 0) : ds.length ≤ 10 := by
  unfold insF at h
  by_cases h1 : 10 < ds.length
  · rw [if_pos h1] at h; omega
  · omega
theorem lost_in {ds : List ID} (hi : insF ds = 0) (h : lostF ds = 0) : ∀ j, j < ds.length → ∀ k, k < (ds[j]?.getD id0).2.2.2.2.length → 0 ≤ ((ds[j]?.getD id0).2.2.2.2[k]?.getD en0).2 ∧ ((ds[j]?.getD id0).2.2.2.2[k]?.getD en0).2 < (ds.length : Int) := fun j hj k hk => by
  refine ⟨ino_ent (ins_ino hi j hj) k hk, ?_⟩
  cases hl : lostB ds ((ds[j]?.getD id0).2.2.2.2[k]?.getD en0).2 with
  | true => rw [lost_yes hj hk hl] at h; omega
  | false =>
    unfold lostB at hl
    simp at hl
    omega
theorem ins_blk {ds : List ID} (h : insF ds = 0) (j k : Nat) (hj : j < ds.length) (hk : k < (ds[j]?.getD id0).2.2.2.1.length) : 0 ≤ (ds[j]?.getD id0).2.2.2.1[k]?.getD 0 ∧ (ds[j]?.getD id0).2.2.2.1[k]?.getD 0 < 20 := by
  have := insF_blocks h j k hj hk
  omega

theorem FsX.box {w : World} {a1 : Option Addr} {n1 c1 : Nat} {a2 : Option Addr} {n2 c2 : Nat} {d : FD} (h : FsR w (.slice a1 n1 c1) (.slice a2 n2 c2) d) (t : TypeId) : FsX (w.alloc (.cells #[.slice a1 n1 c1, .slice a2 n2 c2] t)) w.heap.size 0 d a1 c1 a2 c2 ∧ n1 = d.1.length ∧ n2 = d.2.length := by
  obtain ⟨_, _, e1, _, _⟩ := h.1.open'
  obtain ⟨_, _, e2, _, _⟩ := h.2.open'
  simp only [Value.slice.injEq] at e1 e2
  obtain ⟨rfl, rfl, rfl⟩ := e1
  obtain ⟨rfl, rfl, rfl⟩ := e2
  have hx := Bx.new w [.slice a1 d.1.length c1, .slice a2 d.2.length c2] t
  exact ⟨⟨hx 0 _ rfl, hx 1 _ rfl, h.1.later (later1 _ _), h.2.later (later1 _ _)⟩, rfl, rfl⟩
end Go.Proofs.Ytjabimfinanjoab

namespace Go.Proofs.Ytjabimfinanjoab
open Go.RowKit
set_option maxRecDepth 100000

/-- The bytes of the first k blocks of an inode. -/
def bytK (d : FD) (bs : List Int) (k : Nat) : List UInt8 := (bs.take k).flatMap fun b => d.2[b.toNat]?.getD []
def bytL (d : FD) (j : Nat) : List UInt8 := bytK d (d.1[j]?.getD id0).2.2.2.1 (d.1[j]?.getD id0).2.2.2.1.length
def bytR (d : FD) (x : Int) : Int × List UInt8 :=
  if fsF d = 0 then (if 0 ≤ x ∧ x < (d.1.length : Int) then (if kindAt d.1 x.toNat = 2 then (9, []) else if kindAt d.1 x.toNat = 0 then (4, []) else (0, bytL d x.toNat)) else (3, [])) else (fsF d, [])
theorem bytK_next (d : FD) (bs : List Int) (k : Nat) (hk : k < bs.length) : bytK d bs (k + 1) = bytK d bs k ++ (d.2[(bs[k]?.getD 0).toNat]?.getD []) := by
  unfold bytK
  rw [List.take_succ_eq_append_getElem hk, List.flatMap_append]
  simp [List.getElem?_eq_getElem hk]
theorem bytK_len (d : FD) (bs : List Int) (h8 : ∀ i : Nat, (d.2[i]?.getD []).length ≤ 8) : ∀ k, k ≤ bs.length → (bytK d bs k).length ≤ 8 * k
  | 0, _ => by simp [bytK]
  | k + 1, hk => by
    rw [bytK_next d bs k hk, List.length_append]
    have h1 := bytK_len d bs h8 k (by omega)
    have h2 := h8 (bs[k]?.getD 0).toNat
    omega
theorem many_eight {zss : List (List UInt8)} (h : fstNZ (manyF zss) zss.length = 0) (i : Nat) : (zss[i]?.getD []).length ≤ 8 := by
  by_cases hi : i < zss.length
  · have := fstNZ_inv h i hi
    unfold manyF at this
    by_cases h8 : 8 < (zss[i]?.getD []).length
    · rw [if_pos h8] at this; omega
    · omega
  · rw [List.getElem?_eq_none (by omega)]; simp

set_option maxHeartbeats 400000 in
theorem l6Place_any (w : World) (b o : Nat) (d : FD) (aI : Option Addr) (cI : Nat) (aD : Option Addr) (cD : Nat) (x : Int) (h : FsX w b o d aI cI aD cD) :
    Calls Try.prog 33 #[.pointer (some ⟨b, o, none⟩), .int .i64 x] w fun e w' => e = .returned (.bool (decide (0 ≤ x ∧ x < (d.1.length : Int)))) ∧ w' = w := by
  obtain ⟨_, _, e1, hm1, _⟩ := h.ins.open'
  have hm := hm1.1
  unfold maxLen at hm
  have c0 := h.c0
  have HE : Hid ((decide (0 ≤ x) && decide (x ≤ ((d.1.length : Nat) : Int) - 1)) = decide (0 ≤ x ∧ x < (d.1.length : Int))) := by
    unfold Hid
    by_cases hq : 0 ≤ x ∧ x < (d.1.length : Int)
    · rw [decide_eq_true hq, decide_eq_true hq.1, decide_eq_true (by omega)]; rfl
    · rw [decide_eq_false hq, Bool.and_eq_false_iff]
      by_cases h0 : 0 ≤ x
      · exact Or.inr (decide_eq_false (by omega))
      · exact Or.inl (decide_eq_false h0)
  clear h e1 hm1
  generalize d.1.length = n at *
  go_enter Try.func33, Try.ntmps33
  go_wp2_with fail
  refine (l1In_any _ _ _ _).mono ?_
  rintro e w1 ⟨rfl, rfl⟩
  go_wp2
  go_ret
  exact ⟨ret_bool HE.out, rfl⟩

theorem AnsYR.put {w W : World} {rb : Nat} {r : Int} {zs : List UInt8} {a : Option Addr} {n c : Nat} (hB : Below w.heap.size w W) (hrb : w.heap.size ≤ rb) (hY : BytO W (.slice a n c) zs (fun b => rb < b ∧ b < W.heap.size)) (x y : Value) : AnsYR w (r, zs) (.returned (.agg #[.int .i64 r, .slice a n c])) ((W.setCell ⟨rb, 0, none⟩ x).setCell ⟨rb, 1, none⟩ y) := by
  refine ⟨a, n, c, rfl, (hB.setCell (by simpa using hrb) _).setCell (by simpa using hrb) _, (hY.keep fun b hb _ => ?_).mono fun b hb => ?_⟩
  · rw [Below.heap_setCell _ _ _ _ (by simp; omega), Below.heap_setCell _ _ _ _ (by simp; omega)]
  · unfold fresh
    simp only [World.setCell, Array.size_modify]
    exact ⟨by omega, hb.2⟩
theorem AnsYR.bad {w W : World} {rb : Nat} (r : Int) (hB : Below w.heap.size w W) (hrb : w.heap.size ≤ rb) (x y : Value) : AnsYR w (r, []) (.returned (.agg #[.int .i64 r, .slice none 0 0])) ((W.setCell ⟨rb, 0, none⟩ x).setCell ⟨rb, 1, none⟩ y) := AnsYR.put hB hrb (Or.inl ⟨rfl, _, _, rfl⟩) x y
theorem fsF_zero {d : FD} (h : fsF d = 0) : fsE d = 0 := by
  unfold fsF at h
  by_cases he : fsE d = 0
  · exact he
  · rw [if_neg he] at h; exact absurd h he

end Go.Proofs.Ytjabimfinanjoab

namespace Go.Proofs.Ytjabimfinanjoab
open Go.RowKit
set_option maxRecDepth 100000

/-- An inode marked from N on. -/
def mkI (N : Nat) (d : ID) : ID := (((N : Nat) : Int), ((N : Nat) : Int) + 1, ((N : Nat) : Int) + 1 + 1, marks (((N : Nat) : Int) + 1 + 1 + 1) d.2.2.2.1.length, marksN (N + 3 + d.2.2.2.1.length) d.2.2.2.2.length)
def mkIns (k : Nat) (ds : List ID) : List ID := (List.range ds.length).map fun i => mkI (inum k ds i) (ds[i]?.getD id0)
theorem mkIns_length (k : Nat) (ds : List ID) : (mkIns k ds).length = ds.length := by simp [mkIns]
theorem mkIns_get (k : Nat) (ds : List ID) {i : Nat} (hi : i < ds.length) : (mkIns k ds)[i]?.getD id0 = mkI (inum k ds i) (ds[i]?.getD id0) := by
  unfold mkIns; rw [List.getElem?_map, List.getElem?_range hi]; rfl
theorem inum_next (k : Nat) (ds : List ID) (hk : k + spanInos ds ≤ 4294967296) (j : Nat) (hj : j < ds.length) : inum k ds j + 3 + (ds[j]?.getD id0).2.2.2.1.length + 2 * (ds[j]?.getD id0).2.2.2.2.length = inum k ds (j + 1) ∧ inum k ds (j + 1) ≤ 4294967296 := by
  have h1 := upto_succ (isp ds) j (by rw [isp_length]; omega)
  rw [isp_get ds j hj] at h1
  have h2 := upto_le (isp ds) (j + 1)
  have h3 : spanIno (ds[j]?.getD id0) = (ds[j]?.getD id0).2.2.2.1.length + 2 * (ds[j]?.getD id0).2.2.2.2.length := rfl
  have h4 : spanInos ds = (isp ds).sum := rfl
  unfold inum
  omega
theorem inum_all (k : Nat) (ds : List ID) : inum k ds ds.length = k + spanInos ds := by
  have := upto_all (isp ds)
  rw [isp_length] at this
  unfold inum spanInos
  rw [this]

/-- The list of which the first j are marked. -/
def halfI (k : Nat) (ds : List ID) (j : Nat) : List ID := (List.range ds.length).map fun i => if i < j then mkI (inum k ds i) (ds[i]?.getD id0) else ds[i]?.getD id0
theorem halfI_length (k : Nat) (ds : List ID) (j : Nat) : (halfI k ds j).length = ds.length := by simp [halfI]
theorem halfI_get (k : Nat) (ds : List ID) (j : Nat) {i : Nat} (hi : i < ds.length) : (halfI k ds j)[i]?.getD id0 = if i < j then mkI (inum k ds i) (ds[i]?.getD id0) else ds[i]?.getD id0 := by
  unfold halfI; rw [List.getElem?_map, List.getElem?_range hi]; rfl
theorem halfI_zero (k : Nat) (ds : List ID) : halfI k ds 0 = ds := by
  apply List.ext_getElem?
  intro i
  unfold halfI
  rw [List.getElem?_map]
  by_cases hi : i < ds.length
  · rw [List.getElem?_range hi]; simp [List.getElem?_eq_getElem hi]
  · rw [List.getElem?_eq_none (by simpa using Nat.le_of_not_lt hi), List.getElem?_eq_none (by omega)]; rfl
theorem halfI_all (k : Nat) (ds : List ID) : halfI k ds ds.length = mkIns k ds := by
  unfold halfI mkIns
  apply List.map_congr_left
  intro i hi
  rw [if_pos (List.mem_range.1 hi)]
structure HalfM (w : World) (b n : Nat) (cs : List ID) (u : Nat → Value × Value) (F1 G1 : Nat → Nat → Prop) : Prop where
  row : OwnRow w b (n * 5) (inCell cs u)
  ints : ∀ i, i < n → IntsO w (u i).1 (cs[i]?.getD id0).2.2.2.1 (F1 i)
  ents : ∀ i, i < n → EntsO w (u i).2 (cs[i]?.getD id0).2.2.2.2 (G1 i)
/-- Three cells of one inode turned. -/
theorem inCell_three (cs cs' : List ID) (u : Nat → Value × Value) (j : Nat) (x0 x1 x2 : Int) (h0 : ∀ i, i ≠ j → (cs'[i]?.getD id0) = (cs[i]?.getD id0)) (e0 : (cs'[j]?.getD id0).1 = x0) (e1 : (cs'[j]?.getD id0).2.1 = x1) (e2 : (cs'[j]?.getD id0).2.2.1 = x2) (c : Nat) :
    (if c = j * 5 + 2 then .int .i64 x2 else if c = j * 5 + 1 then .int .i64 x1 else if c = j * 5 then .int .i64 x0 else inCell cs u c) = inCell cs' u c := by
  by_cases hj : c / 5 = j
  · unfold inCell
    rw [hj, e0, e1, e2]
    by_cases h0 : c % 5 = 0
    · rw [if_neg (by omega), if_neg (by omega), if_pos (by omega), if_pos h0]
    · by_cases h1 : c % 5 = 1
      · rw [if_neg (by omega), if_pos (by omega), if_neg h0, if_pos h1]
      · by_cases h2 : c % 5 = 2
        · rw [if_pos (by omega), if_neg h0, if_neg h1, if_pos h2]
        · rw [if_neg (by omega), if_neg (by omega), if_neg (by omega), if_neg h0, if_neg h1, if_neg h2, if_neg h0, if_neg h1, if_neg h2]
  · rw [if_neg (by omega), if_neg (by omega), if_neg (by omega)]
    unfold inCell
    rw [h0 _ hj]

end Go.Proofs.Ytjabimfinanjoab

namespace Go.Proofs.Ytjabimfinanjoab
open Go.RowKit
set_option maxRecDepth 100000

def ynum (k : Nat) (zss : List (List UInt8)) (j : Nat) : Nat := k + upto (ylens zss) j
def mkYs (k : Nat) (zss : List (List UInt8)) : List (List UInt8) := (List.range zss.length).map fun i => mkByt ((ynum k zss i : Nat) : Int) (zss[i]?.getD [])
theorem mkYs_length (k : Nat) (zss : List (List UInt8)) : (mkYs k zss).length = zss.length := by simp [mkYs]
theorem mkYs_get (k : Nat) (zss : List (List UInt8)) {i : Nat} (hi : i < zss.length) : (mkYs k zss)[i]?.getD [] = mkByt ((ynum k zss i : Nat) : Int) (zss[i]?.getD []) := by
  unfold mkYs; rw [List.getElem?_map, List.getElem?_range hi]; rfl
theorem ynum_next (k : Nat) (zss : List (List UInt8)) (j : Nat) (hj : j < zss.length) : ynum k zss (j + 1) = ynum k zss j + (zss[j]?.getD []).length ∧ ynum k zss (j + 1) ≤ k + (ylens zss).sum := by
  have h1 := upto_succ (ylens zss) j (by rw [ylens_length]; exact hj)
  rw [ylens_get] at h1
  have h2 := upto_le (ylens zss) (j + 1)
  unfold ynum
  omega
theorem ynum_all (k : Nat) (zss : List (List UInt8)) : ynum k zss zss.length = k + (ylens zss).sum := by
  have := upto_all (ylens zss)
  rw [ylens_length] at this
  unfold ynum
  rw [this]
def halfY (k : Nat) (zss : List (List UInt8)) (j i : Nat) : List UInt8 := if i < j then mkByt ((ynum k zss i : Nat) : Int) (zss[i]?.getD []) else zss[i]?.getD []
end Go.Proofs.Ytjabimfinanjoab

namespace Go.Proofs.Ytjabimfinanjoab
open Go.RowKit
set_option maxRecDepth 100000

open Classical in
theorem pickQ {α : Type} [Inhabited α] {n : Nat} {P : Nat → α → Prop} (h : ∀ i, i < n → ∃ q, P i q) : ∃ f : Nat → α, ∀ i, i < n → P i (f i) :=
  ⟨fun i => if hi : i < n then Classical.choose (h i hi) else default, fun i hi => by dsimp only; rw [dif_pos hi]; exact Classical.choose_spec (h i hi)⟩
def mkFs (k : Int) (d : FD) : FD := (mkIns k.toNat d.1, mkYs (k.toNat + spanInos d.1) d.2)
/-- Answers that are a code and a file system. -/
def AnsFR (w : World) (r : Int × FD) (e : Ending) (w' : World) : Prop := ∃ a1 n1 c1 a2 n2 c2, e = .returned (.agg #[.int .i64 r.1, .slice a1 n1 c1, .slice a2 n2 c2]) ∧ Below w.heap.size w w' ∧ FsU w' (.slice a1 n1 c1) (.slice a2 n2 c2) r.2 (fresh w w')
end Go.Proofs.Ytjabimfinanjoab

namespace Go.Proofs.Ytjabimfinanjoab
open Go.RowKit
set_option maxRecDepth 100000

theorem set_getD {α : Type} (l : List α) (j : Nat) (x z : α) (i : Nat) (hj : j < l.length) : (l.set j x)[i]?.getD z = if i = j then x else l[i]?.getD z := by
  rw [List.getElem?_set]
  by_cases e : i = j
  · subst e; simp [hj]
  · rw [if_neg (fun h => e h.symm), if_neg e]

/-- Lists of bytes stand in the row at block b. -/
structure YsS (w : World) (b n cap : Nat) (zss : List (List UInt8)) (F : Nat → Prop) : Prop where
  len : zss.length = n
  max : n ≤ maxLen ∧ n ≤ cap
  own : ∃ (u : Nat → Value) (G : Nat → Nat → Prop), F b ∧ (∀ i c, G i c → F c ∧ c ≠ b) ∧ (∀ i j c, i ≠ j → G i c → ¬ G j c) ∧ OwnRow w b n u ∧ ∀ i, i < n → BytO w (u i) (zss[i]?.getD []) (G i)
theorem YsS.byts {w : World} {b n cap : Nat} {zss : List (List UInt8)} {F : Nat → Prop} (h : YsS w b n cap zss F) : BytsO w (.slice (some ⟨b, 0, none⟩) n cap) zss F := by
  obtain ⟨rfl, hm, u, G, h1, h2, h3, h4, h5⟩ := h
  exact Or.inr ⟨b, cap, u, G, h1, h2, h3, rfl, hm, h4, h5⟩
theorem YsS.of {w : World} {v : Value} {zss : List (List UInt8)} {F : Nat → Prop} (h : BytsO w v zss F) (h0 : 0 < zss.length) : ∃ b cap, v = .slice (some ⟨b, 0, none⟩) zss.length cap ∧ YsS w b zss.length cap zss F := by
  rcases h with ⟨rfl, _⟩ | ⟨b, cap, u, G, hF, hG, hGG, h1, h2, h3, h4⟩
  · simp at h0
  · exact ⟨b, cap, h1, rfl, h2, u, G, hF, hG, hGG, h3, h4⟩
theorem YsS.keep {w w' : World} {b n cap : Nat} {zss : List (List UInt8)} {F : Nat → Prop} (h : YsS w b n cap zss F) (e : ∀ c, F c → c < w.heap.size → w'.heap[c]? = w.heap[c]?) : YsS w' b n cap zss F := by
  obtain ⟨h0, hm, u, G, h1, h2, h3, h4, h5⟩ := h
  exact ⟨h0, hm, u, G, h1, h2, h3, h4.block (e b h1 h4.lt), fun i hi => (h5 i hi).keep fun c hc => e c (h2 i c hc).1⟩
theorem YsS.mono {w : World} {b n cap : Nat} {zss : List (List UInt8)} {F F' : Nat → Prop} (h : YsS w b n cap zss F) (e : ∀ c, F c → F' c) : YsS w b n cap zss F' := by
  obtain ⟨h0, hm, u, G, h1, h2, h3, h4, h5⟩ := h
  exact ⟨h0, hm, u, G, e b h1, fun i c hc => ⟨e c (h2 i c hc).1, (h2 i c hc).2⟩, h3, h4, h5⟩
theorem YsS.bound {w : World} {b n cap : Nat} {zss : List (List UInt8)} {F : Nat → Prop} (h : YsS w b n cap zss F) : YsS w b n cap zss (fun c => F c ∧ c < w.heap.size) := by
  obtain ⟨h0, hm, u, G, h1, h2, h3, h4, h5⟩ := h
  exact ⟨h0, hm, u, fun i c => G i c ∧ c < w.heap.size, ⟨h1, h4.lt⟩, fun i c hc => ⟨⟨(h2 i c hc.1).1, hc.2⟩, (h2 i c hc.1).2⟩, fun i j c e hc hc' => h3 i j c e hc.1 hc'.1, h4, fun i hi => (h5 i hi).bound⟩
theorem YsS.cell {w : World} {b n cap : Nat} {zss : List (List UInt8)} {F : Nat → Prop} (h : YsS w b n cap zss F) (y : Nat) (hy : y < n) : ∃ ua uc, w.cell? ⟨b, y, none⟩ = some (.slice ua (zss[y]?.getD []).length uc) ∧ w.frozen? ⟨b, y, none⟩ = false ∧ Byt w (.slice ua (zss[y]?.getD []).length uc) (zss[y]?.getD []) := by
  obtain ⟨h0, hm, u, G, h1, h2, h3, h4, h5⟩ := h
  obtain ⟨ua, uc, e, h6, h7⟩ := (h5 y hy).reads
  have := h4.cell hy
  rw [e] at this
  exact ⟨ua, uc, this, h4.frozen y, ua, uc, rfl, h6, h7⟩
/-- One list turns. -/
theorem YsS.put {w W : World} {b n cap : Nat} {zss : List (List UInt8)} {F G' : Nat → Prop} (h : YsS w b n cap zss F) (y : Nat) (hy : y < n) (hk : ∀ c, F c → c < w.heap.size → W.heap[c]? = w.heap[c]?) (v : Value) (zs : List UInt8) (hv : BytO W v zs G') (hG : ∀ c, G' c → w.heap.size ≤ c ∧ ¬ c = b) :
    YsS (W.setCell ⟨b, y, none⟩ v) b n cap (zss.set y zs) (fun c => F c ∨ G' c) := by
  obtain ⟨h0, hm, u, G, h1, h2, h3, h4, h5⟩ := h.bound
  refine ⟨by simpa using h0, hm, fun i => if i = y then v else u i, fun i c => if i = y then G' c else G i c, Or.inl h1.1, fun i c hc => ?_, fun i j c e hc hc' => ?_, ((h4.block (hk b h1.1 h1.2)).set y v).congr fun i _ => rfl, fun i hi => ?_⟩
  · by_cases e : i = y
    · simp only [e, if_true] at hc
      exact ⟨Or.inr hc, (hG c hc).2⟩
    · simp only [e, if_false] at hc
      exact ⟨Or.inl (h2 i c hc).1.1, (h2 i c hc).2⟩
  · by_cases ei : i = y
    · have ej : ¬ j = y := fun ej => e (ei.trans ej.symm)
      simp only [ei, ej, if_true, if_false] at hc hc'
      have := (h2 j c hc').1.2
      have := (hG c hc).1
      omega
    · by_cases ej : j = y
      · simp only [ei, ej, if_true, if_false] at hc hc'
        have := (h2 i c hc).1.2
        have := (hG c hc').1
        omega
      · simp only [ei, ej, if_false] at hc hc'
        exact h3 i j c e hc hc'
  · rw [set_getD _ _ _ _ _ (by omega)]
    by_cases e : i = y
    · simp only [e, if_true]
      exact hv.keep fun c hc _ => Below.heap_setCell _ _ _ _ (hG c hc).2
    · simp only [e, if_false]
      exact ((h5 i hi).keep fun c hc hlt => hk c (h2 i c hc).1.1 hlt).keep fun c hc _ => Below.heap_setCell _ _ _ _ (h2 i c hc).2

/-- Inodes stand in the row at block b. -/
structure InS (w : World) (b n cap : Nat) (ds : List ID) (F : Nat → Prop) : Prop where
  len : ds.length = n
  max : n ≤ maxLen ∧ n ≤ cap
  own : ∃ (u : Nat → Value × Value) (G : Nat → Nat → Prop), F b ∧ (∀ i c, G i c → F c ∧ c ≠ b) ∧ (∀ i j c, i ≠ j → G i c → ¬ G j c) ∧ OwnRow w b (n * 5) (inCell ds u) ∧
    ∀ i, i < n → InoU w (.int .i64 (ds[i]?.getD id0).1) (.int .i64 (ds[i]?.getD id0).2.1) (.int .i64 (ds[i]?.getD id0).2.2.1) (u i).1 (u i).2 (ds[i]?.getD id0) (G i)
theorem InS.inos {w : World} {b n cap : Nat} {ds : List ID} {F : Nat → Prop} (h : InS w b n cap ds F) : InosO w (.slice (some ⟨b, 0, none⟩) n cap) ds F := by
  obtain ⟨rfl, hm, u, G, h1, h2, h3, h4, h5⟩ := h
  exact Or.inr ⟨b, cap, u, G, h1, h2, h3, rfl, hm, h4, h5⟩
theorem InS.of {w : World} {v : Value} {ds : List ID} {F : Nat → Prop} (h : InosO w v ds F) (h0 : 0 < ds.length) : ∃ b cap, v = .slice (some ⟨b, 0, none⟩) ds.length cap ∧ InS w b ds.length cap ds F := by
  rcases h with ⟨rfl, _⟩ | ⟨b, cap, u, G, hF, hG, hGG, h1, h2, h3, h4⟩
  · simp at h0
  · exact ⟨b, cap, h1, rfl, h2, u, G, hF, hG, hGG, h3, h4⟩
theorem InS.keep {w w' : World} {b n cap : Nat} {ds : List ID} {F : Nat → Prop} (h : InS w b n cap ds F) (e : ∀ c, F c → c < w.heap.size → w'.heap[c]? = w.heap[c]?) : InS w' b n cap ds F := by
  obtain ⟨h0, hm, u, G, h1, h2, h3, h4, h5⟩ := h
  exact ⟨h0, hm, u, G, h1, h2, h3, h4.block (e b h1 h4.lt), fun i hi => (h5 i hi).keep fun c hc => e c (h2 i c hc).1⟩
theorem InS.mono {w : World} {b n cap : Nat} {ds : List ID} {F F' : Nat → Prop} (h : InS w b n cap ds F) (e : ∀ c, F c → F' c) : InS w b n cap ds F' := by
  obtain ⟨h0, hm, u, G, h1, h2, h3, h4, h5⟩ := h
  exact ⟨h0, hm, u, G, e b h1, fun i c hc => ⟨e c (h2 i c hc).1, (h2 i c hc).2⟩, h3, h4, h5⟩
theorem InS.bound {w : World} {b n cap : Nat} {ds : List ID} {F : Nat → Prop} (h : InS w b n cap ds F) : InS w b n cap ds (fun c => F c ∧ c < w.heap.size) := by
  obtain ⟨h0, hm, u, G, h1, h2, h3, h4, h5⟩ := h
  exact ⟨h0, hm, u, fun i c => G i c ∧ c < w.heap.size, ⟨h1, h4.lt⟩, fun i c hc => ⟨⟨(h2 i c hc.1).1, hc.2⟩, (h2 i c hc.1).2⟩, fun i j c e hc hc' => h3 i j c e hc.1 hc'.1, h4, fun i hi => (h5 i hi).bound⟩
/-- What lies at place j: its cells, and its blocks, each in memory of F and none of it the row. -/
theorem InS.at' {w : World} {b n cap : Nat} {ds : List ID} {F : Nat → Prop} (h : InS w b n cap ds F) (j : Nat) (hj : j < n) : ∃ aB cB aE cE,
    w.cell? ⟨b, j * 5, none⟩ = some (.int .i64 (ds[j]?.getD id0).1) ∧ w.cell? ⟨b, j * 5 + 1, none⟩ = some (.int .i64 (ds[j]?.getD id0).2.1) ∧ w.cell? ⟨b, j * 5 + 2, none⟩ = some (.int .i64 (ds[j]?.getD id0).2.2.1) ∧
    w.cell? ⟨b, j * 5 + 3, none⟩ = some (.slice aB (ds[j]?.getD id0).2.2.2.1.length cB) ∧ w.cell? ⟨b, j * 5 + 4, none⟩ = some (.slice aE (ds[j]?.getD id0).2.2.2.2.length cE) ∧
    ((ds[j]?.getD id0).2.2.2.1.length ≤ cB) ∧ (∀ i, w.frozen? ⟨b, i, none⟩ = false) ∧ b < w.heap.size ∧
    (∀ k, k < (ds[j]?.getD id0).2.2.2.1.length → ∃ b1, aB = some ⟨b1, 0, none⟩ ∧ F b1 ∧ b1 ≠ b ∧ b1 < w.heap.size ∧ w.cell? ⟨b1, k, none⟩ = some (.int .i64 ((ds[j]?.getD id0).2.2.2.1[k]?.getD 0))) ∧
    InoR w (.int .i64 (ds[j]?.getD id0).1) (.int .i64 (ds[j]?.getD id0).2.1) (.int .i64 (ds[j]?.getD id0).2.2.1) (.slice aB (ds[j]?.getD id0).2.2.2.1.length cB) (.slice aE (ds[j]?.getD id0).2.2.2.2.length cE) (ds[j]?.getD id0) := by
  obtain ⟨h0, hm, u, G, h1, h2, h3, h4, h5⟩ := h
  have hu := h5 j hj
  obtain ⟨aB, cB, eB, _, _⟩ := hu.reads.2.1.open'
  obtain ⟨aE, cE, eE, _, _⟩ := hu.reads.2.2.open'
  have e0 := h4.cell (i := j * 5) (by omega)
  have e1 := h4.cell (i := j * 5 + 1) (by omega)
  have e2 := h4.cell (i := j * 5 + 2) (by omega)
  have e3 := h4.cell (i := j * 5 + 3) (by omega)
  have e4 := h4.cell (i := j * 5 + 4) (by omega)
  rw [inCell_0] at e0
  rw [inCell_1] at e1
  rw [inCell_2] at e2
  rw [inCell_3, eB] at e3
  rw [inCell_4, eE] at e4
  have hr := hu.reads
  rw [eB, eE] at hr
  refine ⟨aB, cB, aE, cE, e0, e1, e2, e3, e4, ?_, h4.frozen, h4.lt, fun k hk => ?_, hr⟩
  · obtain ⟨_, _, _, e, hle⟩ := hr.1.2.2.2
    simp only [Value.slice.injEq] at e
    obtain ⟨_, rfl, rfl⟩ := e
    exact hle
  · obtain ⟨_, F1, G1, hI, _, _, hf⟩ := hu
    rcases hI with ⟨hI, _⟩ | ⟨b1, cap1, hF1, hv, hl, hr1⟩
    · rw [hI] at hk; simp at hk
    · rw [eB] at hv
      simp only [Value.slice.injEq] at hv
      obtain ⟨rfl, _, rfl⟩ := hv
      have := h2 j b1 (hf b1 (Or.inl hF1))
      exact ⟨b1, rfl, this.1, this.2, hr1.lt, hr1.cell hk⟩
/-- One inode turns. -/
theorem InS.put {w W : World} {b n cap : Nat} {ds : List ID} {F G' : Nat → Prop} (h : InS w b n cap ds F) (j : Nat) (_hj : j < n) (d' : ID) (vB vE : Value)
    (hrow : ∀ u, OwnRow w b (n * 5) (inCell ds u) → OwnRow W b (n * 5) (inCell (ds.set j d') (fun i => if i = j then (vB, vE) else u i)))
    (hk : ∀ c, F c → c ≠ b → c < w.heap.size → W.heap[c]? = w.heap[c]?) (hv : InoU W (.int .i64 d'.1) (.int .i64 d'.2.1) (.int .i64 d'.2.2.1) vB vE d' G') (hG : ∀ c, G' c → ¬ F c ∧ c ≠ b) :
    InS W b n cap (ds.set j d') (fun c => F c ∨ G' c) := by
  obtain ⟨h0, hm, u, G, h1, h2, h3, h4, h5⟩ := h
  refine ⟨by simpa using h0, hm, fun i => if i = j then (vB, vE) else u i, fun i c => if i = j then G' c else G i c, Or.inl h1, fun i c hc => ?_, fun i k c e hc hc' => ?_, hrow u h4, fun i hi => ?_⟩
  · by_cases e : i = j
    · simp only [e, if_true] at hc
      exact ⟨Or.inr hc, (hG c hc).2⟩
    · simp only [e, if_false] at hc
      exact ⟨Or.inl (h2 i c hc).1, (h2 i c hc).2⟩
  · by_cases ei : i = j
    · have ej : ¬ k = j := fun ej => e (ei.trans ej.symm)
      simp only [ei, ej, if_true, if_false] at hc hc'
      exact (hG c hc).1 (h2 k c hc').1
    · by_cases ej : k = j
      · simp only [ei, ej, if_true, if_false] at hc hc'
        exact (hG c hc').1 (h2 i c hc).1
      · simp only [ei, ej, if_false] at hc hc'
        exact h3 i k c e hc hc'
  · rw [set_getD _ _ _ _ _ (by omega)]
    by_cases e : i = j
    · simp only [e, if_true]
      exact hv
    · simp only [e, if_false]
      exact (h5 i hi).keep fun c hc hlt => hk c (h2 i c hc).1 (h2 i c hc).2 hlt

/-- How the row's cells turn where an inode does. -/
theorem inCell_set (ds : List ID) (u : Nat → Value × Value) (j : Nat) (hj : j < ds.length) (d' : ID) (vB vE : Value) (c : Nat) :
    inCell (ds.set j d') (fun i => if i = j then (vB, vE) else u i) c = if c = j * 5 then .int .i64 d'.1 else if c = j * 5 + 1 then .int .i64 d'.2.1 else if c = j * 5 + 2 then .int .i64 d'.2.2.1 else if c = j * 5 + 3 then vB else if c = j * 5 + 4 then vE else inCell ds u c := by
  unfold inCell
  dsimp only
  rw [set_getD _ _ _ _ _ hj]
  by_cases e : c / 5 = j
  · have : c % 5 = 0 ∨ c % 5 = 1 ∨ c % 5 = 2 ∨ c % 5 = 3 ∨ c % 5 = 4 := by omega
    rcases this with h | h | h | h | h
    · rw [if_pos e, if_pos h, if_pos (by omega)]
    · rw [if_pos e, if_neg (by omega), if_pos h, if_neg (by omega), if_pos (by omega)]
    · rw [if_pos e, if_neg (by omega), if_neg (by omega), if_pos h, if_neg (by omega), if_neg (by omega), if_pos (by omega)]
    · rw [if_neg (by omega), if_neg (by omega), if_neg (by omega), if_pos h, if_pos e, if_neg (by omega), if_neg (by omega), if_neg (by omega), if_pos (by omega)]
    · rw [if_neg (by omega), if_neg (by omega), if_neg (by omega), if_neg (by omega), if_pos e, if_neg (by omega), if_neg (by omega), if_neg (by omega), if_neg (by omega), if_pos (by omega)]
  · rw [if_neg e, if_neg e, if_neg (show ¬ c = j * 5 by omega), if_neg (show ¬ c = j * 5 + 1 by omega), if_neg (show ¬ c = j * 5 + 2 by omega), if_neg (show ¬ c = j * 5 + 3 by omega), if_neg (show ¬ c = j * 5 + 4 by omega)]

/-- A file system whose two rows stand at blocks bI and bD. -/
structure FsS (w : World) (bI n cI bD m cD : Nat) (d : FD) (F : Nat → Prop) : Prop where
  own : ∃ F1 G1 : Nat → Prop, InS w bI n cI d.1 F1 ∧ YsS w bD m cD d.2 G1 ∧ (∀ b, F1 b → ¬ G1 b) ∧ ∀ b, F1 b ∨ G1 b → F b ∧ b < w.heap.size
theorem FsS.fs {w : World} {bI n cI bD m cD : Nat} {d : FD} {F : Nat → Prop} (h : FsS w bI n cI bD m cD d F) : FsU w (.slice (some ⟨bI, 0, none⟩) n cI) (.slice (some ⟨bD, 0, none⟩) m cD) d F := by
  obtain ⟨F1, G1, h1, h2, h3, h4⟩ := h
  exact ⟨F1, G1, h1.inos, h2.byts, h3, fun b hb => (h4 b hb).1⟩
theorem FsS.of {w : World} {v1 v2 : Value} {d : FD} {F : Nat → Prop} (h : FsU w v1 v2 d F) (h1 : 0 < d.1.length) (h2 : 0 < d.2.length) : ∃ bI cI bD cD, v1 = .slice (some ⟨bI, 0, none⟩) d.1.length cI ∧ v2 = .slice (some ⟨bD, 0, none⟩) d.2.length cD ∧ FsS w bI d.1.length cI bD d.2.length cD d F := by
  obtain ⟨F1, G1, i1, i2, i3, i4⟩ := h
  obtain ⟨bI, cI, rfl, k1⟩ := InS.of i1 h1
  obtain ⟨bD, cD, rfl, k2⟩ := YsS.of i2 h2
  exact ⟨bI, cI, bD, cD, rfl, rfl, _, _, k1.bound, k2.bound, fun b hb hb' => i3 b hb.1 hb'.1, fun b hb => by
    rcases hb with hb | hb
    · exact ⟨i4 b (Or.inl hb.1), hb.2⟩
    · exact ⟨i4 b (Or.inr hb.1), hb.2⟩⟩
theorem FsS.later {w w' : World} {bI n cI bD m cD : Nat} {d : FD} {F : Nat → Prop} (h : FsS w bI n cI bD m cD d F) (hb : Below w.heap.size w w') : FsS w' bI n cI bD m cD d F := by
  obtain ⟨F1, G1, h1, h2, h3, h4⟩ := h
  exact ⟨F1, G1, h1.keep fun c _ hlt => hb.block c hlt, h2.keep fun c _ hlt => hb.block c hlt, h3, fun b hb' => ⟨(h4 b hb').1, Nat.lt_of_lt_of_le (h4 b hb').2 hb.size⟩⟩
theorem FsS.mono {w : World} {bI n cI bD m cD : Nat} {d : FD} {F F' : Nat → Prop} (h : FsS w bI n cI bD m cD d F) (e : ∀ c, F c → F' c) : FsS w bI n cI bD m cD d F' := by
  obtain ⟨F1, G1, h1, h2, h3, h4⟩ := h
  exact ⟨F1, G1, h1, h2, h3, fun b hb => ⟨e b (h4 b hb).1, (h4 b hb).2⟩⟩
/-- Stores elsewhere. -/
theorem FsS.chg {w w' : World} {bI n cI bD m cD : Nat} {d : FD} {F G : Nat → Prop} (h : FsS w bI n cI bD m cD d F) (hc : Chg G w w') (hd : ∀ b, F b → ¬ G b) : FsS w' bI n cI bD m cD d F := by
  obtain ⟨F1, G1, h1, h2, h3, h4⟩ := h
  exact ⟨F1, G1, h1.keep fun c hc' hlt => hc.block c hlt (hd c (h4 c (Or.inl hc')).1), h2.keep fun c hc' hlt => hc.block c hlt (hd c (h4 c (Or.inr hc')).1), h3, fun b hb' => ⟨(h4 b hb').1, Nat.lt_of_lt_of_le (h4 b hb').2 hc.size⟩⟩
theorem FsS.len {w : World} {bI n cI bD m cD : Nat} {d : FD} {F : Nat → Prop} (h : FsS w bI n cI bD m cD d F) : d.1.length = n ∧ d.2.length = m := by
  obtain ⟨F1, G1, h1, h2, h3, h4⟩ := h
  exact ⟨h1.len, h2.len⟩
theorem FsS.ne {w : World} {bI n cI bD m cD : Nat} {d : FD} {F : Nat → Prop} (h : FsS w bI n cI bD m cD d F) : bI ≠ bD ∧ (F bI ∧ bI < w.heap.size) ∧ (F bD ∧ bD < w.heap.size) := by
  obtain ⟨F1, G1, h1, h2, h3, h4⟩ := h
  obtain ⟨_, _, u, G, a1, _⟩ := h1
  obtain ⟨_, _, u', G', b1, _⟩ := h2
  exact ⟨fun e => h3 bI a1 (e ▸ b1), h4 _ (Or.inl a1), h4 _ (Or.inr b1)⟩
theorem FsS.data {w : World} {bI n cI bD m cD : Nat} {d : FD} {F : Nat → Prop} (h : FsS w bI n cI bD m cD d F) (y : Nat) (hy : y < m) : ∃ ua uc, w.cell? ⟨bD, y, none⟩ = some (.slice ua (d.2[y]?.getD []).length uc) ∧ w.frozen? ⟨bD, y, none⟩ = false ∧ Byt w (.slice ua (d.2[y]?.getD []).length uc) (d.2[y]?.getD []) := by
  obtain ⟨F1, G1, h1, h2, h3, h4⟩ := h
  exact h2.cell y hy
/-- The bytes of one block turn. -/
theorem FsS.put {w W : World} {bI n cI bD m cD : Nat} {d : FD} {F G : Nat → Prop} (h : FsS w bI n cI bD m cD d F) (y : Nat) (hy : y < m) (hb : Below w.heap.size w W) (v : Value) (zs : List UInt8) (hv : BytO W v zs G) (hG : ∀ c, G c → F c ∧ w.heap.size ≤ c ∧ c < W.heap.size) :
    FsS (W.setCell ⟨bD, y, none⟩ v) bI n cI bD m cD (d.1, d.2.set y zs) F := by
  have hne := h.ne
  obtain ⟨F1, G1, h1, h2, h3, h4⟩ := h
  refine ⟨F1, fun c => G1 c ∨ G c, h1.keep fun c hc hlt => ?_, h2.put y hy (fun c _ hlt => hb.block c hlt) v zs hv (fun c hc => ⟨(hG c hc).2.1, ?_⟩), fun b hb1 hb2 => ?_, fun b hb' => ?_⟩
  · rw [Below.heap_setCell _ _ _ _ (fun e => h3 c hc (by
      obtain ⟨_, _, u', G', b1, _⟩ := h2
      show G1 c
      rw [show c = bD from e]
      exact b1)), hb.block c hlt]
  · have := (hG c hc).2.1
    have := hne.2.2.2
    omega
  · rcases hb2 with hb2 | hb2
    · exact h3 b hb1 hb2
    · have := (h4 b (Or.inl hb1)).2
      have := (hG b hb2).2.1
      omega
  · have hs := hb.size
    have e : (W.setCell ⟨bD, y, none⟩ v).heap.size = W.heap.size := by simp [World.setCell]
    rw [e]
    rcases hb' with hb' | hb' | hb'
    · exact ⟨(h4 b (Or.inl hb')).1, Nat.lt_of_lt_of_le (h4 b (Or.inl hb')).2 hs⟩
    · exact ⟨(h4 b (Or.inr hb')).1, Nat.lt_of_lt_of_le (h4 b (Or.inr hb')).2 hs⟩
    · exact ⟨(hG b hb').1, (hG b hb').2.2⟩
/-- The inode at a place turns: its row is stored into, and its blocks are a list in block kb. -/
theorem FsS.putI {w W : World} {bI n cI bD m cD : Nat} {d : FD} {F G : Nat → Prop} (h : FsS w bI n cI bD m cD d F) (j : Nat) (hj : j < n) (d' : ID) (vB vE : Value)
    (hrow : ∀ u, OwnRow w bI (n * 5) (inCell d.1 u) → OwnRow W bI (n * 5) (inCell (d.1.set j d') (fun i => if i = j then (vB, vE) else u i)))
    (hc : Chg (fun c => c = bI) w W) (hv : InoU W (.int .i64 d'.1) (.int .i64 d'.2.1) (.int .i64 d'.2.2.1) vB vE d' G) (hG : ∀ c, G c → ¬ F c ∧ c < W.heap.size) :
    FsS W bI n cI bD m cD (d.1.set j d', d.2) (fun c => F c ∨ G c) := by
  have hne := h.ne
  obtain ⟨F1, G1, h1, h2, h3, h4⟩ := h
  refine ⟨fun c => F1 c ∨ G c, G1, h1.put j hj d' vB vE hrow (fun c _ hc1 hlt => hc.block c hlt hc1) hv (fun c hc' => ⟨fun h => (hG c hc').1 (h4 c (Or.inl h)).1, fun e => (hG c hc').1 (e ▸ hne.2.1.1)⟩), h2.keep fun c hc' hlt => hc.block c hlt (fun e => ?_), fun b hb1 hb2 => ?_, fun b hb' => ?_⟩
  · obtain ⟨_, _, u, G, a1, _⟩ := h1
    exact h3 bI a1 (e ▸ hc')
  · rcases hb1 with hb1 | hb1
    · exact h3 b hb1 hb2
    · exact (hG b hb1).1 (h4 b (Or.inr hb2)).1
  · have hs := hc.size
    rcases hb' with (hb' | hb') | hb'
    · exact ⟨Or.inl (h4 b (Or.inl hb')).1, Nat.lt_of_lt_of_le (h4 b (Or.inl hb')).2 hs⟩
    · exact ⟨Or.inr hb', (hG b hb').2⟩
    · exact ⟨Or.inl (h4 b (Or.inr hb')).1, Nat.lt_of_lt_of_le (h4 b (Or.inr hb')).2 hs⟩
/-- What lies at place j. -/
theorem FsS.ino {w : World} {bI n cI bD m cD : Nat} {d : FD} {F : Nat → Prop} (h : FsS w bI n cI bD m cD d F) (j : Nat) (hj : j < n) : ∃ aB cB aE cE,
    w.cell? ⟨bI, j * 5, none⟩ = some (.int .i64 (d.1[j]?.getD id0).1) ∧ w.cell? ⟨bI, j * 5 + 1, none⟩ = some (.int .i64 (d.1[j]?.getD id0).2.1) ∧ w.cell? ⟨bI, j * 5 + 2, none⟩ = some (.int .i64 (d.1[j]?.getD id0).2.2.1) ∧
    w.cell? ⟨bI, j * 5 + 3, none⟩ = some (.slice aB (d.1[j]?.getD id0).2.2.2.1.length cB) ∧ w.cell? ⟨bI, j * 5 + 4, none⟩ = some (.slice aE (d.1[j]?.getD id0).2.2.2.2.length cE) ∧
    ((d.1[j]?.getD id0).2.2.2.1.length ≤ cB) ∧ (∀ i, w.frozen? ⟨bI, i, none⟩ = false) ∧
    (∀ k, k < (d.1[j]?.getD id0).2.2.2.1.length → ∃ b1, aB = some ⟨b1, 0, none⟩ ∧ F b1 ∧ b1 ≠ bI ∧ b1 ≠ bD ∧ b1 < w.heap.size ∧ w.cell? ⟨b1, k, none⟩ = some (.int .i64 ((d.1[j]?.getD id0).2.2.2.1[k]?.getD 0))) := by
  obtain ⟨F1, G1, h1, h2, h3, h4⟩ := h
  obtain ⟨aB, cB, aE, cE, e0, e1, e2, e3, e4, e5, e6, e7, e8, e9⟩ := h1.at' j hj
  refine ⟨aB, cB, aE, cE, e0, e1, e2, e3, e4, e5, e6, fun k hk => ?_⟩
  obtain ⟨b1, f1, f2, f3, f4, f5⟩ := e8 k hk
  refine ⟨b1, f1, (h4 b1 (Or.inl f2)).1, f3, fun e => ?_, f4, f5⟩
  obtain ⟨_, _, u', G', g1, _⟩ := h2
  exact h3 b1 f2 (e ▸ g1)
end Go.Proofs.Ytjabimfinanjoab
