/- The program's counts, filled and read. The specification: what is wrong of a file system. The bytes of a file: the specification. Files that are read, written, cut and dropped: what they come to. No program is named here. The program's file at work: opened, its bytes dropped, released, closed. Answers of calls: a code, a reply, a value, bytes, names and a file system, in the one form. Kerns: how they read, what they own, and the walks of the laws' functions over them. Answers with a kern: how they read, what they own, and the walks of the laws' functions over them. -/
import Derived.Test.YtlacppjlclfpmaaGreatM10
import Derived.Test.YtlacppjlclfpmaaGreatM04
import Derived.Test.YtlacppjlclfpmaaGreatM06
import Derived.Test.YtlacppjlclfpmaaGreatM07
import Derived.Deep.RegionHeld3
import Derived.Test.YtlacppjlclfpmaaGreatM08
import Derived.Test.YtlacppjlclfpmaaGreatM05
import Derived.Test.YtlacppjlclfpmaaGreatM02
namespace Go.Proofs.YtlacppjlclfpmaaGreat
open Go.RowKit
set_option maxRecDepth 100000

theorem needsWith_any {w : World} {v : Value} {bs : List Int} (h : Ints w v bs) (f : Nat → Nat) (hn : bs.length ≤ 1048576) (hf : ∀ i, f i ≤ 1000000000000) (hr : ∀ k : Nat, k < bs.length → 0 ≤ bs[k]?.getD 0 ∧ bs[k]?.getD 0 < 20) :
    Calls Tryz.prog 100 #[.agg (arrC f), v] w fun e w' => e = .returned (.agg (arrC fun i => f i + bs.count (i : Int))) ∧ Below w.heap.size w w' := by
  obtain ⟨a, cap, rfl, _, hc⟩ := h.open'
  exact needsWith_walk w a _ cap f bs hn rfl hf hr hc
/-- Blocks of inodes without a fault stand within the bounds. -/
theorem inoF_blocks {d : ID} (h : inoF d = 0) (k : Nat) (hk : k < d.2.2.2.1.length) : 0 ≤ d.2.2.2.1[k]?.getD 0 ∧ d.2.2.2.1[k]?.getD 0 < 20 := by
  have hp : ∀ x : Bool, (decide (d.2.1 ≠ 0) || decide (d.2.2.1 ≠ 0) || decide (0 < d.2.2.2.1.length)) = x → x = true := fun x hx => by
    rw [← hx, decide_eq_true (show 0 < d.2.2.2.1.length by omega)]; simp
  have hfp : fpB d = true := hp _ rfl
  unfold inoF at h
  rw [hfp] at h
  split at h
  · simp at h
  · split at h
    · split at h
      · omega
      · unfold fileF at h
        split at h
        · split at h
          · unfold blkF at h
            split at h
            · rename_i hz
              have := fstNZ_inv hz k hk
              unfold rngF at this
              split at this
              · omega
              · omega
            · rename_i hz; exact absurd h hz
          · omega
        · omega
    · split at h
      · simp at h
      · omega
theorem insF_len {ds : List ID} (h : insF ds = 0) : ds.length ≤ 10 := by
  unfold insF at h
  split at h
  · omega
  · omega
theorem insF_each {ds : List ID} (h : insF ds = 0) (j : Nat) (hj : j < ds.length) : inoF (ds[j]?.getD id0) = 0 := by
  unfold insF at h
  split at h
  · omega
  · exact fstNZ_inv (f := fun i => inoF (ds[i]?.getD id0)) h j hj
theorem insF_blocks {ds : List ID} (h : insF ds = 0) (j k : Nat) (hj : j < ds.length) (hk : k < (ds[j]?.getD id0).2.2.2.1.length) : 0 ≤ (ds[j]?.getD id0).2.2.2.1[k]?.getD 0 ∧ (ds[j]?.getD id0).2.2.2.1[k]?.getD 0 < 20 := inoF_blocks (insF_each h j hj) k hk

set_option maxHeartbeats 1600000 in
theorem needsOf_walk (w : World) (a : Option Addr) (n c : Nat) (ds : List ID) (hdn : ds.length = n) (hn : n ≤ 1048576) (hs : (isz ds).sum ≤ 1048576) (hr : ∀ j k : Nat, j < n → k < (ds[j]?.getD id0).2.2.2.1.length → 0 ≤ (ds[j]?.getD id0).2.2.2.1[k]?.getD 0 ∧ (ds[j]?.getD id0).2.2.2.1[k]?.getD 0 < 20) (hc : AtI w a n ds) :
    Calls Tryz.prog 92 #[.slice a n c] w fun e w' => e = .returned (.agg (arrC fun i => cntB ds (i : Int))) ∧ Below w.heap.size w w' := by
  have HC : Hid (AtI w a n ds) := hc
  have HN : Hid (ds.length = n) := hdn
  have HR : Hid (∀ j k : Nat, j < n → k < (ds[j]?.getD id0).2.2.2.1.length → 0 ≤ (ds[j]?.getD id0).2.2.2.1[k]?.getD 0 ∧ (ds[j]?.getD id0).2.2.2.1[k]?.getD 0 < 20) := hr
  have HS : Hid (∀ (j : Nat) (v : Int), (((ds.take j).flatMap fun d => d.2.2.2.1)).count v ≤ 1000000000000) := fun j v => by
    have h1 := flat_take (fun d : ID => d.2.2.2.1) ds j
    have h2 := allB_len ds
    have h3 := List.count_le_length (a := v) (l := (ds.take j).flatMap fun d => d.2.2.2.1)
    unfold allB at h2
    omega
  have HX : Hid (∀ (j : Nat), j < n → (fun i : Nat => ((ds.take j).flatMap fun d => d.2.2.2.1).count (i : Int) + ((ds[j]?.getD id0).2.2.2.1).count (i : Int)) = (fun i : Nat => ((ds.take (j + 1)).flatMap fun d => d.2.2.2.1).count (i : Int))) := fun j hj => by
    funext i
    rw [flat_next (fun d : ID => d.2.2.2.1) ds id0 j (by omega), List.count_append]
  have HZ : Hid (∀ j : Nat, (ds[j]?.getD id0).2.2.2.1.length ≤ 1048576) := fun j => by
    have := isz_le ds j
    have hd : sizeIno (ds[j]?.getD id0) = (ds[j]?.getD id0).2.2.2.1.length + sizeN (ds[j]?.getD id0).2.2.2.2 := rfl
    omega
  have HE : Hid ((fun i : Nat => cntB ds (i : Int)) = (fun i : Nat => ((ds.take n).flatMap fun d => d.2.2.2.1).count (i : Int))) := by unfold Hid cntB allB; rw [List.take_of_length_le (by omega)]
  clear hc hdn hr hs
  have z0 := Arr.new w (fun _ => 0)
  have z1 := Arr.new (w.alloc (.cells (arrC fun _ => 0) 133)) (fun _ => 0)
  replace z0 := z0.later (later1 _ (.cells (arrC fun _ => 0) 133))
  rw [World.size_alloc] at z1
  have HB0 : Hid (Below w.heap.size w ((w.alloc (.cells (arrC fun _ => 0) 133)).alloc (.cells (arrC fun _ => 0) 133))) := later2 _ _ _
  have HZ0 : Hid (Arr _ _ _) := z0
  have HZ1 : Hid (Arr _ _ _) := z1
  clear z0 z1
  rw [HE.out]
  clear HE
  generalize hG : (fun (j i : Nat) => ((ds.take j).flatMap fun d => d.2.2.2.1).count (i : Int)) = G at *
  have HG : Hid (∀ j i, ((ds.take j).flatMap fun d => d.2.2.2.1).count ((i : Nat) : Int) = G j i) := fun j i => congrFun (congrFun hG j) i
  have HGB : Hid (∀ j i, G j i ≤ 1000000000000) := fun j i => by rw [← HG.out j i]; exact HS.out j _
  have HG0 : Hid ((fun _ : Nat => 0) = G 0) := by unfold Hid; funext i; rw [← HG.out 0 i]; simp
  simp only [HG.out] at HX ⊢
  clear hG HG HS
  go_enter Tryz.func92, Tryz.ntmps92
  go_wp2
  go_loopw [8] (fun i wr => ∃ j : Nat, j ≤ n ∧ i = .int .i64 j ∧ Below w.heap.size w wr ∧ Arr wr (w.heap.size + 1) (G j) ∧ Arr wr w.heap.size (fun _ => 0)) (fun i _ => n - (intOf i).toNat)
  case atStart => exact ⟨0, Nat.zero_le _, rfl, HB0.out, HG0.out ▸ HZ1.out, HZ0.out⟩
  case round =>
    clear HB0 HZ0 HZ1
    obtain ⟨j, hj, rfl, hbl, hx, hy⟩ := hrel
    have HBL : Hid (Below w.heap.size w wr) := hbl
    have HA : Hid (Arr wr (w.heap.size + 1) (G j)) := hx
    have HY : Hid (Arr wr w.heap.size (fun _ => 0)) := hy
    have hw0 := hx.lt
    clear hbl hx hy
    by_cases hlt : j < n
    · obtain ⟨b, o, rfl, hI⟩ := HC.out j hlt
      obtain ⟨aB, cB, aE, cE, c0, c1, c2, c3, c4, hR⟩ := hI.later HBL.out
      have HW : Hid (∀ W, Below wr.heap.size wr W → Calls Tryz.prog 100 #[.agg (arrC (G j)), .slice aB (ds[j]?.getD id0).2.2.2.1.length cB] W fun e w' => e = .returned (.agg (arrC (G (j + 1)))) ∧ Below W.heap.size W w') := fun W hW => by
        have hx := needsWith_any (hR.2.1.later hW) (G j) (HZ.out j) (HGB.out j) (fun k hk => HR.out j k hlt hk)
        have e : (fun i : Nat => G j i + ((ds[j]?.getD id0).2.2.2.1).count (i : Int)) = G (j + 1) := HX.out j hlt
        rw [e] at hx
        exact hx
      have HL : Hid (∀ o, (Instr.loadAt 133 (.pointer (some ⟨w.heap.size + 1, 0, none⟩))).run Tryz.prog (wr.alloc o) = .ok (.agg (arrC (G j))) (wr.alloc o)) := fun o => (HA.out.later (later1 _ _)).load
      clear hI hR HC HR
      generalize hg2 : G (j + 1) = g2 at HW
      generalize G j = g1 at HW HL HA
      have HG2 : Hid (G (j + 1) = g2) := hg2
      clear hg2
      generalize (ds[j]?.getD id0) = d at *
      go_wp2_with (first | refine wpList_load_run rfl _ 133 rfl _ rfl _ _ (HL.out _) ?_ | fail)
      clear c0 c1 c2 c3 c4
      refine (HW.out _ (later1 _ _)).mono ?_
      rintro e w2 ⟨rfl, hb2⟩
      have hbw : Below wr.heap.size wr w2 := (later1 _ _).trans (hb2.mono (by simp))
      obtain ⟨X, hst, hax, hsx, hoth, hx1, hx2, hx3⟩ := (HA.out.later hbw).put g2
      have HST : Hid (_ = _) := hst
      have HAX : Hid (Arr X (w.heap.size + 1) g2) := hax
      have HBX : Hid (Below w.heap.size w X) := (HBL.out.trans (hbw.mono HBL.out.size)).trans ⟨hx1, hx2, hx3, by omega, fun c hc => hoth c (by omega)⟩
      have HYX : Hid (Arr X w.heap.size (fun _ => 0)) := (hoth _ (by omega)).trans (HY.out.later hbw)
      clear hst hax hsx hoth hx1 hx2 hx3 hb2 hbw
      go_wp2_with (first | refine wpList_store_run rfl _ _ 133 rfl _ _ rfl rfl _ HST.out ?_ | fail)
      go_roundw
      case rel => exact ⟨j + 1, by omega, by go_num, HBX.out, by rw [HG2.out]; exact HAX.out, HYX.out⟩
      case measure => simp [intOf]; omega
    · have HGN : Hid (G j = G n) := by unfold Hid; rw [show j = n by omega]
      have HL : Hid (_ = _) := HA.out.load
      obtain ⟨X, hst, hax, hsx, hoth, hx1, hx2, hx3⟩ := HY.out.put (G j)
      have HST : Hid (_ = _) := hst
      have HAX : Hid (Arr X w.heap.size (G n)) := HGN.out ▸ hax
      have HBX : Hid (Below w.heap.size w X) := HBL.out.trans ⟨hx1, hx2, hx3, by omega, fun c hc => hoth c (by omega)⟩
      clear hst hax hsx hoth hx1 hx2 hx3
      generalize G j = g1 at HL HST
      go_wp2_with (first | refine wpList_load_run rfl _ 133 rfl _ rfl _ _ HL.out ?_ | refine wpList_store_run rfl _ _ 133 rfl _ _ rfl rfl _ HST.out ?_)
      refine bodyPost_ret (v := .agg (arrC (G n))) ?_ rfl ⟨rfl, HBX.out⟩
      have hlv := HAX.out.loadV
      simp [results, Tryz.results92, asAddr, Act.put, hlv]
theorem needsOf_any {w : World} {v : Value} {ds : List ID} (h : Inos w v ds) (hs : sizeInos ds ≤ 1048576) (hf : insF ds = 0) :
    Calls Tryz.prog 92 #[v] w fun e w' => e = .returned (.agg (arrC fun i => cntB ds (i : Int))) ∧ Below w.heap.size w w' := by
  obtain ⟨a, cap, rfl, hm, hc⟩ := h.open'
  unfold sizeInos at hs
  exact needsOf_walk w a _ cap ds rfl (by omega) (by omega) (fun j k hj hk => insF_blocks hf j k hj hk) hc

theorem Arr.keep {w w' : World} {b : Nat} {f : Nat → Nat} (h : Arr w b f) (hk : KeepT w w') : Arr w' b f := hk _ _ _ _ (by decide) h

def manyB (f : Nat → Nat) : Bool := (List.range 20).any fun k => decide (1 < f k)
set_option maxHeartbeats 800000 in
theorem anyOfTwo_any (w : World) (f : Nat → Nat) (hf : ∀ i, f i ≤ 1000000000000) :
    Calls Tryz.prog 93 #[.agg (arrC f)] w fun e w' => e = .returned (.bool (manyB f)) ∧ Below w.heap.size w w' := by
  have HA : Hid (Arr (w.alloc (.cells (arrC f) 133)) w.heap.size f) := Arr.new w f
  have HF : Hid (∀ i, f i ≤ 1000000000000) := hf
  have HB : Hid (Below w.heap.size w (w.alloc (.cells (arrC f) 133))) := later1 _ _
  have hsz := arrC_size f
  clear hf
  go_enter Tryz.func93, Tryz.ntmps93
  go_wp2
  generalize w.alloc (.cells (arrC f) 133) = W at *
  go_loopw [4] (fun i wr => ∃ j : Nat, j ≤ 20 ∧ i = .int .i64 j ∧ wr = W ∧ ∀ i : Nat, i < j → ¬ 1 < f i) (fun i _ => 20 - (intOf i).toNat)
  case atStart => exact ⟨0, Nat.zero_le _, rfl, rfl, fun i hi => by omega⟩
  case round =>
    obtain ⟨j, hj, rfl, hw, hz⟩ := hrel
    have HZ : Hid (∀ i : Nat, i < j → ¬ 1 < f i) := hz
    rw [← hw] at HA HB
    have HWE : Hid (wr = W) := hw
    clear hz hw
    by_cases hlt : j < 20
    · have c0 := HA.out.cell hlt
      have hfj := HF.out j
      by_cases h1 : 1 < f j
      · have HR : Hid (manyB f = true) := by
          unfold Hid manyB
          rw [List.any_eq_true]
          exact ⟨j, by simpa using hlt, by simpa using h1⟩
        have hd : decide ((1 : Int) < ((f j : Nat) : Int)) = true := by simp; omega
        clear h1
        generalize f j = x at *
        go_wp2
        go_ret
        exact ⟨ret_bool HR.out.symm, HB.out⟩
      · have HR : Hid (∀ i : Nat, i < j + 1 → ¬ 1 < f i) := fun i hi => by
          by_cases e : i = j
          · subst e; exact h1
          · exact HZ.out i (by omega)
        have hd : decide ((1 : Int) < ((f j : Nat) : Int)) = false := by simp; omega
        clear h1
        generalize hx : f j = x at c0 hd hfj
        clear hx
        go_wp2
        go_roundw
        case rel => exact ⟨j + 1, by omega, by go_num, HWE.out, HR.out⟩
        case measure => simp [intOf]; omega
    · have HR : Hid (manyB f = false) := by
        unfold Hid manyB
        rw [List.any_eq_false]
        intro k hk
        simp only [List.mem_range] at hk
        simpa using HZ.out k (by omega)
      go_wp2
      go_ret
      exact ⟨ret_bool HR.out.symm, HB.out⟩

end Go.Proofs.YtlacppjlclfpmaaGreat

namespace Go.Proofs.YtlacppjlclfpmaaGreat
open Go.RowKit
set_option maxRecDepth 100000

def fsF (d : FD) : Int := if fsE d = 0 then (if linksB d.1 && sizesB d then 0 else 1) else fsE d
theorem fsE_zero {d : FD} (h : fsE d = 0) : insF d.1 = 0 ∧ formB d = false ∧ fstNZ (manyF d.2) d.2.length = 0 ∧ onceB d.1 20 = true ∧ lostF d.1 = 0 := by
  unfold fsE at h
  by_cases h1 : insF d.1 = 0
  · rw [if_pos h1] at h
    by_cases h2 : formB d = true
    · rw [if_pos h2] at h; omega
    · rw [if_neg h2] at h
      by_cases h3 : fstNZ (manyF d.2) d.2.length = 0
      · rw [if_pos h3] at h
        by_cases h4 : onceB d.1 20 = true
        · rw [if_pos h4] at h
          exact ⟨h1, by simpa using h2, h3, h4, h⟩
        · rw [if_neg h4] at h; omega
      · rw [if_neg h3] at h; exact absurd h h3
  · rw [if_neg h1] at h; exact absurd h h1
theorem formB_no {d : FD} (h : formB d = false) : ¬ d.1.length = 0 ∧ kindAt d.1 0 = 2 ∧ d.2.length = 20 := by
  unfold formB at h
  simp at h
  obtain ⟨⟨h1, h2⟩, h3⟩ := h
  exact ⟨fun e => h1 (List.eq_nil_of_length_eq_zero e), h2, h3⟩
theorem insF_ten {ds : List ID} (h : insF ds = 0) : ds.length ≤ 10 := by
  unfold insF at h
  by_cases h1 : 10 < ds.length
  · rw [if_pos h1] at h; omega
  · omega
theorem lost_in {ds : List ID} (hi : insF ds = 0) (h : lostF ds = 0) : ∀ j, j < ds.length → ∀ k, k < (ds[j]?.getD id0).2.2.2.2.length → 0 ≤ ((ds[j]?.getD id0).2.2.2.2[k]?.getD en0).2 ∧ ((ds[j]?.getD id0).2.2.2.2[k]?.getD en0).2 < (ds.length : Int) := fun j hj k hk => by
  refine ⟨ino_ent (ins_ino hi j hj) k hk, ?_⟩
  cases hl : lostB ds ((ds[j]?.getD id0).2.2.2.2[k]?.getD en0).2 with
  | true => rw [lost_yes hj hk hl] at h; omega
  | false =>
    unfold lostB at hl
    simp at hl
    omega
theorem ins_blk {ds : List ID} (h : insF ds = 0) (j k : Nat) (hj : j < ds.length) (hk : k < (ds[j]?.getD id0).2.2.2.1.length) : 0 ≤ (ds[j]?.getD id0).2.2.2.1[k]?.getD 0 ∧ (ds[j]?.getD id0).2.2.2.1[k]?.getD 0 < 20 := by
  have := insF_blocks h j k hj hk
  omega

theorem FsX.box {w : World} {a1 : Option Addr} {n1 c1 : Nat} {a2 : Option Addr} {n2 c2 : Nat} {d : FD} (h : FsR w (.slice a1 n1 c1) (.slice a2 n2 c2) d) (t : TypeId) : FsX (w.alloc (.cells #[.slice a1 n1 c1, .slice a2 n2 c2] t)) w.heap.size 0 d a1 c1 a2 c2 ∧ n1 = d.1.length ∧ n2 = d.2.length := by
  obtain ⟨_, _, e1, _, _⟩ := h.1.open'
  obtain ⟨_, _, e2, _, _⟩ := h.2.open'
  simp only [Value.slice.injEq] at e1 e2
  obtain ⟨rfl, rfl, rfl⟩ := e1
  obtain ⟨rfl, rfl, rfl⟩ := e2
  have hx := Bx.new w [.slice a1 d.1.length c1, .slice a2 d.2.length c2] t
  exact ⟨⟨hx 0 _ rfl, hx 1 _ rfl, h.1.later (later1 _ _), h.2.later (later1 _ _)⟩, rfl, rfl⟩
end Go.Proofs.YtlacppjlclfpmaaGreat

namespace Go.Proofs.YtlacppjlclfpmaaGreat
open Go.RowKit
set_option maxRecDepth 100000

/-- The bytes of the first k blocks of an inode. -/
def bytK (d : FD) (bs : List Int) (k : Nat) : List UInt8 := (bs.take k).flatMap fun b => d.2[b.toNat]?.getD []
def bytL (d : FD) (j : Nat) : List UInt8 := bytK d (d.1[j]?.getD id0).2.2.2.1 (d.1[j]?.getD id0).2.2.2.1.length
def bytR (d : FD) (x : Int) : Int × List UInt8 :=
  if fsF d = 0 then (if 0 ≤ x ∧ x < (d.1.length : Int) then (if kindAt d.1 x.toNat = 2 then (9, []) else if kindAt d.1 x.toNat = 0 then (4, []) else (0, bytL d x.toNat)) else (3, [])) else (fsF d, [])
theorem bytK_next (d : FD) (bs : List Int) (k : Nat) (hk : k < bs.length) : bytK d bs (k + 1) = bytK d bs k ++ (d.2[(bs[k]?.getD 0).toNat]?.getD []) := by
  unfold bytK
  rw [List.take_succ_eq_append_getElem hk, List.flatMap_append]
  simp [List.getElem?_eq_getElem hk]
theorem bytK_len (d : FD) (bs : List Int) (h8 : ∀ i : Nat, (d.2[i]?.getD []).length ≤ 8) : ∀ k, k ≤ bs.length → (bytK d bs k).length ≤ 8 * k
  | 0, _ => by simp [bytK]
  | k + 1, hk => by
    rw [bytK_next d bs k hk, List.length_append]
    have h1 := bytK_len d bs h8 k (by omega)
    have h2 := h8 (bs[k]?.getD 0).toNat
    omega
theorem many_eight {zss : List (List UInt8)} (h : fstNZ (manyF zss) zss.length = 0) (i : Nat) : (zss[i]?.getD []).length ≤ 8 := by
  by_cases hi : i < zss.length
  · have := fstNZ_inv h i hi
    unfold manyF at this
    by_cases h8 : 8 < (zss[i]?.getD []).length
    · rw [if_pos h8] at this; omega
    · omega
  · rw [List.getElem?_eq_none (by omega)]; simp

theorem AnsYR.put {w W : World} {rb : Nat} {r : Int} {zs : List UInt8} {a : Option Addr} {n c : Nat} (hB : Below w.heap.size w W) (hrb : w.heap.size ≤ rb) (hY : BytO W (.slice a n c) zs (fun b => rb < b ∧ b < W.heap.size)) (x y : Value) : AnsYR w (r, zs) (.returned (.agg #[.int .i64 r, .slice a n c])) ((W.setCell ⟨rb, 0, none⟩ x).setCell ⟨rb, 1, none⟩ y) := by
  refine ⟨a, n, c, rfl, (hB.setCell (by simpa using hrb) _).setCell (by simpa using hrb) _, (hY.keep fun b hb _ => ?_).mono fun b hb => ?_⟩
  · rw [Below.heap_setCell _ _ _ _ (by simp; omega), Below.heap_setCell _ _ _ _ (by simp; omega)]
  · unfold fresh
    simp only [World.setCell, Array.size_modify]
    exact ⟨by omega, hb.2⟩
theorem AnsYR.bad {w W : World} {rb : Nat} (r : Int) (hB : Below w.heap.size w W) (hrb : w.heap.size ≤ rb) (x y : Value) : AnsYR w (r, []) (.returned (.agg #[.int .i64 r, .slice none 0 0])) ((W.setCell ⟨rb, 0, none⟩ x).setCell ⟨rb, 1, none⟩ y) := AnsYR.put hB hrb (Or.inl ⟨rfl, _, _, rfl⟩) x y
theorem fsF_zero {d : FD} (h : fsF d = 0) : fsE d = 0 := by
  unfold fsF at h
  by_cases he : fsE d = 0
  · exact he
  · rw [if_neg he] at h; exact absurd h he

end Go.Proofs.YtlacppjlclfpmaaGreat

namespace Go.Proofs.YtlacppjlclfpmaaGreat
open Go.RowKit
set_option maxRecDepth 100000

/-- The first k of these blocks hold nothing. -/
def clrK (zss : List (List UInt8)) (bs : List Int) : Nat → List (List UInt8)
  | 0 => zss
  | k + 1 => (clrK zss bs k).set (bs[k]?.getD 0).toNat []
/-- The first k of these blocks hold what is theirs of data. -/
def putK (zss : List (List UInt8)) (bs : List Int) (data : List UInt8) : Nat → List (List UInt8)
  | 0 => zss
  | k + 1 => (putK zss bs data k).set (bs[k]?.getD 0).toNat ((data.drop (k * 8)).take 8)
theorem clrK_length (zss : List (List UInt8)) (bs : List Int) : ∀ k, (clrK zss bs k).length = zss.length
  | 0 => rfl
  | k + 1 => by show ((clrK zss bs k).set _ _).length = _; rw [List.length_set, clrK_length zss bs k]
theorem putK_length (zss : List (List UInt8)) (bs : List Int) (data : List UInt8) : ∀ k, (putK zss bs data k).length = zss.length
  | 0 => rfl
  | k + 1 => by show ((putK zss bs data k).set _ _).length = _; rw [List.length_set, putK_length zss bs data k]
theorem set_len_le {zss : List (List UInt8)} {m : Nat} (h : ∀ i : Nat, (zss[i]?.getD []).length ≤ m) (y : Nat) (zs : List UInt8) (hz : zs.length ≤ m) (i : Nat) : ((zss.set y zs)[i]?.getD []).length ≤ m := by
  rw [List.getElem?_set]
  by_cases e : y = i
  · rw [if_pos e]
    by_cases hl : y < zss.length
    · rw [if_pos hl]; exact hz
    · rw [if_neg hl]; simp
  · rw [if_neg e]; exact h i
theorem clrK_le {zss : List (List UInt8)} {m : Nat} (h : ∀ i : Nat, (zss[i]?.getD []).length ≤ m) (bs : List Int) : ∀ (k i : Nat), ((clrK zss bs k)[i]?.getD []).length ≤ m
  | 0, i => h i
  | k + 1, i => set_len_le (clrK_le h bs k) _ _ (by simp) i
theorem putK_le {zss : List (List UInt8)} (h : ∀ i : Nat, (zss[i]?.getD []).length ≤ 8) (bs : List Int) (data : List UInt8) : ∀ (k i : Nat), ((putK zss bs data k)[i]?.getD []).length ≤ 8
  | 0, i => h i
  | k + 1, i => set_len_le (putK_le h bs data k) _ _ (by rw [List.length_take]; omega) i
theorem ylens_eight {zss : List (List UInt8)} (h : ∀ i : Nat, (zss[i]?.getD []).length ≤ 8) : (ylens zss).sum ≤ 8 * zss.length := by
  unfold ylens
  induction zss with
  | nil => simp
  | cons z zss ih =>
    have h0 := h 0
    have := ih fun i => by have := h (i + 1); simpa using this
    simp at h0
    simp only [List.map_cons, List.sum_cons, List.length_cons]
    omega

/-- The blocks of the inode at a place. -/
def blkA (d : FD) (j : Nat) : List Int := (d.1[j]?.getD id0).2.2.2.1
/-- The file at place j with other blocks and bytes; the file at place j gone. -/
def setI (d : FD) (j : Nat) (bs : List Int) (n : Nat) : ID := ((d.1[j]?.getD id0).1, (d.1[j]?.getD id0).2.1, (n : Int), bs, (d.1[j]?.getD id0).2.2.2.2)
def setD (d : FD) (j : Nat) (bs : List Int) (data : List UInt8) : FD := (d.1.set j (setI d j bs data.length), putK (clrK d.2 (blkA d j) (blkA d j).length) bs data bs.length)
def dropD (d : FD) (j : Nat) : FD := (d.1.set j id0, clrK d.2 (blkA d j) (blkA d j).length)
def noFs (c : Int) : Int × FD := (c, [], [])
/-- SetBytes behind its first codes. -/
def setQ (d : FD) (j : Nat) (data : List UInt8) (busy : List Int) : Int × FD :=
  if data.length ≤ 32 then (if (pickR d.1 busy (((data.length + 7) / 8 : Nat) : Int)).1 = 0 then (0, setD d j (pickR d.1 busy (((data.length + 7) / 8 : Nat) : Int)).2 data) else noFs (pickR d.1 busy (((data.length + 7) / 8 : Nat) : Int)).1) else noFs 2
/-- The codes that SetBytes, WriteFile and CutFile ask alike. -/
def askR (d : FD) (x : Int) (busy : List Int) : Int := if (bytR d x).1 = 0 then busF busy else (bytR d x).1
def setR (d : FD) (x : Int) (data : List UInt8) (busy : List Int) : Int × FD := if askR d x busy = 0 then setQ d x.toNat data busy else noFs (askR d x busy)
def fromB (p : Int) : Bool := decide (0 ≤ p) && decide (p ≤ 1000)
/-- Bytes of a given number: the first of these, and 0 behind them. -/
def strY (zs : List UInt8) (n : Nat) : List UInt8 := (zs ++ List.replicate (n - zs.length) 0).take n
/-- Data in place of what is there from p on. -/
def mixY (zs : List UInt8) (p : Nat) (data : List UInt8) : List UInt8 := zs.take p ++ data ++ zs.drop (p + data.length)
def writeFR (d : FD) (x p : Int) (data : List UInt8) (busy : List Int) : Int × FD :=
  if askR d x busy = 0 then (if fromB p = true then (if p + (data.length : Int) ≤ 32 then (if data.length = 0 then (0, d) else setQ d x.toNat (mixY (strY (bytL d x.toNat) (max (p.toNat + data.length) (bytL d x.toNat).length)) p.toNat data) busy) else noFs 2) else noFs 3) else noFs (askR d x busy)
def cutR (d : FD) (x n : Int) (busy : List Int) : Int × FD :=
  if askR d x busy = 0 then (if 0 ≤ n ∧ n ≤ 32 then setQ d x.toNat (strY (bytL d x.toNat) n.toNat) busy else noFs 3) else noFs (askR d x busy)
def dropR (d : FD) (x : Int) : Int × FD := if (bytR d x).1 = 0 then (0, dropD d x.toNat) else noFs (bytR d x).1
/-- ReadFile. -/
def cutY (zs : List UInt8) (p n : Nat) : List UInt8 := (zs.drop p).take n
def readFR (d : FD) (x p n : Int) : Int × List UInt8 :=
  if (bytR d x).1 = 0 then (if fromB p && (decide (0 ≤ n) && decide (n ≤ 100)) then (0, cutY (bytL d x.toNat) p.toNat n.toNat) else (3, [])) else ((bytR d x).1, [])

/-- What stands where BytesIn tells no code. -/
structure Sound (d : FD) (j : Nat) : Prop where
  fs : fsF d = 0
  lt : j < d.1.length
  ten : d.1.length ≤ 10
  dat : d.2.length = 20
  eight : ∀ i : Nat, (d.2[i]?.getD []).length ≤ 8
  kind : (d.1[j]?.getD id0).1 = 1
  ent : (d.1[j]?.getD id0).2.2.2.2 = []
  four : (blkA d j).length ≤ 4
  blk : ∀ k : Nat, k < (blkA d j).length → 0 ≤ (blkA d j)[k]?.getD 0 ∧ (blkA d j)[k]?.getD 0 < 20
  bl : (bytL d j).length ≤ 32
theorem bytR_code {d : FD} {x : Int} (h : (bytR d x).1 = 0) : bytR d x = (0, bytL d x.toNat) ∧ fsF d = 0 ∧ (0 ≤ x ∧ x < (d.1.length : Int)) ∧ ¬ kindAt d.1 x.toNat = 2 ∧ ¬ kindAt d.1 x.toNat = 0 := by
  unfold bytR at h ⊢
  by_cases hf : fsF d = 0
  · rw [if_pos hf] at h ⊢
    by_cases hp : 0 ≤ x ∧ x < (d.1.length : Int)
    · rw [if_pos hp] at h ⊢
      by_cases h2 : kindAt d.1 x.toNat = 2
      · rw [if_pos h2] at h; simp at h
      · rw [if_neg h2] at h ⊢
        by_cases h0 : kindAt d.1 x.toNat = 0
        · rw [if_pos h0] at h; simp at h
        · rw [if_neg h0]
          exact ⟨rfl, hf, hp, h2, h0⟩
    · rw [if_neg hp] at h; simp at h
  · rw [if_neg hf] at h; exact absurd h hf
theorem bytR_bad {d : FD} {x : Int} (h : ¬ (bytR d x).1 = 0) : (bytR d x).2 = [] := by
  unfold bytR at h ⊢
  by_cases hf : fsF d = 0
  · rw [if_pos hf] at h ⊢
    by_cases hp : 0 ≤ x ∧ x < (d.1.length : Int)
    · rw [if_pos hp] at h ⊢
      by_cases h2 : kindAt d.1 x.toNat = 2
      · rw [if_pos h2]
      · rw [if_neg h2] at h ⊢
        by_cases h0 : kindAt d.1 x.toNat = 0
        · rw [if_pos h0]
        · rw [if_neg h0] at h; exact absurd rfl h
    · rw [if_neg hp]
  · rw [if_neg hf]
theorem ino_kinds {d : ID} (h : inoF d = 0) (h2 : ¬ d.1 = 2) (h0 : ¬ d.1 = 0) : d.1 = 1 ∧ d.2.2.2.2 = [] := by
  unfold inoF at h
  rw [if_neg h0] at h
  by_cases h1 : d.1 = 1
  · rw [if_pos h1] at h
    refine ⟨h1, ?_⟩
    by_cases hd : dpB d = true
    · rw [if_pos hd] at h; omega
    · unfold dpB at hd
      simp at hd
      exact hd
  · rw [if_neg h1, if_neg h2] at h; omega
theorem sound {d : FD} {x : Int} (h : (bytR d x).1 = 0) : Sound d x.toNat := by
  obtain ⟨_, hf, hp, h2, h0⟩ := bytR_code h
  obtain ⟨h1, g2, h3, _, _⟩ := fsE_zero (fsF_zero hf)
  obtain ⟨g1, _, g3⟩ := formB_no g2
  have hj : x.toNat < d.1.length := by omega
  have hk := ino_kinds (ins_ino h1 x.toNat hj) h2 h0
  have hsz := ino_size (ins_ino h1 x.toNat hj)
  have hb := bytK_len d (d.1[x.toNat]?.getD id0).2.2.2.1 (many_eight h3) _ (Nat.le_refl _)
  refine ⟨hf, hj, insF_ten h1, g3, many_eight h3, hk.1, hk.2, ?_, fun k hk => ins_blk h1 _ k hj hk, ?_⟩
  · show (d.1[x.toNat]?.getD id0).2.2.2.1.length ≤ 4
    omega
  · show (bytK d _ _).length ≤ 32
    omega
end Go.Proofs.YtlacppjlclfpmaaGreat

namespace Go.Proofs.YtlacppjlclfpmaaGreat
open Go.RowKit
set_option maxRecDepth 100000

/-- The blocks of a list can be read, elsewhere than in bD. -/
def BlkR (w : World) (bD : Nat) (aB : Option Addr) (bs : List Int) : Prop := ∀ k, k < bs.length → ∃ b1, aB = some ⟨b1, 0, none⟩ ∧ b1 ≠ bD ∧ b1 < w.heap.size ∧ w.cell? ⟨b1, k, none⟩ = some (.int .i64 (bs[k]?.getD 0))
theorem Chg.cellOf {F : Nat → Prop} {w w' : World} (h : Chg F w w') {b o : Nat} {v : Value} (hv : w.cell? ⟨b, o, none⟩ = some v) (hf : ¬ F b) : w'.cell? ⟨b, o, none⟩ = some v := (h.cell (a := ⟨b, o, none⟩) (World.block_lt_of_cell? _ _ hv) hf).trans hv
theorem FsS.clr {w : World} {bI n cI bD cD : Nat} {d : FD} {F : Nat → Prop} {bs : List Int} {k y : Nat} (h : FsS w bI n cI bD 20 cD (d.1, clrK d.2 bs k) F) (hy : y < 20) (e : bs[k]?.getD 0 = (y : Int)) : FsS (w.setCell ⟨bD, y, none⟩ (.slice none 0 0)) bI n cI bD 20 cD (d.1, clrK d.2 bs (k + 1)) F := by
  have := h.put (G := fun _ => False) y hy (Below.refl _ _) (.slice none 0 0) [] (Or.inl ⟨rfl, none, 0, rfl⟩) (fun c hc => hc.elim)
  have e2 : clrK d.2 bs (k + 1) = (clrK d.2 bs k).set y [] := by
    show (clrK d.2 bs k).set (bs[k]?.getD 0).toNat [] = _
    rw [e]; rfl
  rw [e2]
  exact this

/-- The world behind a file that is closed. -/
def clsW (w : World) (bI j : Nat) (x : ID) (vB vE va vb : Value) : World := ((set5F w bI (j * 5) (.int .i64 x.1) (.int .i64 x.2.1) (.int .i64 x.2.2.1) vB vE).alloc (.cells #[va, vb] 27)).drew
theorem cls_chg (w : World) (bI j : Nat) (x : ID) (vB vE va vb : Value) : Chg (fun c => c = bI) w (clsW w bI j x vB vE va vb) := by
  have h : Chg (fun c => c = bI) w (set5F w bI (j * 5) (.int .i64 x.1) (.int .i64 x.2.1) (.int .i64 x.2.2.1) vB vE) := by
    have h0 : Chg (fun c => c = bI) w w := Chg.refl _ _
    have h1 := Chg.set (F := fun c => c = bI) h0 rfl (j * 5) (.int .i64 x.1)
    have h2 := Chg.set (F := fun c => c = bI) h1 rfl (j * 5 + 1) (.int .i64 x.2.1)
    have h3 := Chg.set (F := fun c => c = bI) h2 rfl (j * 5 + 2) (.int .i64 x.2.2.1)
    have h4 := Chg.set (F := fun c => c = bI) h3 rfl (j * 5 + 3) vB
    exact Chg.set (F := fun c => c = bI) h4 rfl (j * 5 + 4) vE
  exact h.trans (Chg.of_below ((later1 _ _).drew))
theorem cls_block (w : World) (bI j : Nat) (x : ID) (vB vE va vb : Value) (c : Nat) (hc : c < w.heap.size) (hcb : c ≠ bI) : (clsW w bI j x vB vE va vb).heap[c]? = w.heap[c]? := (cls_chg w bI j x vB vE va vb).block c hc hcb
theorem cls_row (w : World) (bI j n : Nat) (ds : List ID) (x : ID) (vB vE va vb : Value) (u : Nat → Value × Value) (hj : j < ds.length) (hu : OwnRow w bI (n * 5) (inCell ds u)) : OwnRow (clsW w bI j x vB vE va vb) bI (n * 5) (inCell (ds.set j x) (fun i => if i = j then (vB, vE) else u i)) := by
  have h1 := hu.five (j * 5) (.int .i64 x.1) (.int .i64 x.2.1) (.int .i64 x.2.2.1) vB vE
  have h2 := h1.later ((later1 _ (.cells #[va, vb] 27)).drew)
  exact h2.congr fun c _ => (inCell_set ds u j hj x vB vE c).symm
theorem cls_fs {w : World} {bI n cI bD cD : Nat} {d : FD} {F G : Nat → Prop} (hfs : FsS w bI n cI bD 20 cD d F) (j : Nat) (hj : j < n) (x : ID) (vB vE : Value) (hv : InoU w (.int .i64 x.1) (.int .i64 x.2.1) (.int .i64 x.2.2.1) vB vE x G) (hG : ∀ c, G c → ¬ F c ∧ c < w.heap.size) (va vb : Value) : FsS (clsW w bI j x vB vE va vb) bI n cI bD 20 cD (d.1.set j x, d.2) (fun c => F c ∨ G c) := by
  have hne := hfs.ne
  have hl := hfs.len.1
  exact hfs.putI j hj x vB vE (fun u hu => cls_row w bI j n d.1 x vB vE va vb u (by omega) hu) (cls_chg w bI j x vB vE va vb) (hv.keep fun c hc hlt => cls_block w bI j x vB vE va vb c hlt fun e => (hG c hc).1 (e ▸ hne.2.1.1)) (fun c hc => ⟨(hG c hc).1, Nat.lt_of_lt_of_le (hG c hc).2 (cls_chg w bI j x vB vE va vb).size⟩)

end Go.Proofs.YtlacppjlclfpmaaGreat

namespace Go.Proofs.YtlacppjlclfpmaaGreat
open Go.RowKit
set_option maxRecDepth 100000

theorem eqStrsM {w : World} {va vb : Value} {xs : List (List UInt8)} (h1 : StrR w va xs) (h2 : StrR w vb xs) :
    Calls Tryz.prog 33 #[va, vb] w fun e w' => e = .returned (.bool true) ∧ Below w.heap.size w w' := by
  obtain ⟨a, ca, rfl, hn, ha⟩ := h1
  obtain ⟨b, cb, rfl, _, hb⟩ := h2
  exact (eqS_walk w a b _ ca cb xs hn ha hb).mono fun _ _ ⟨h1, m, h2⟩ => ⟨h1, h2 ▸ below_drewN (Below.refl _ _) m⟩
theorem StrsO.bound {w : World} {v : Value} {xs : List (List UInt8)} {F : Nat → Prop} (h : StrsO w v xs F) : StrsO w v xs (fun b => F b ∧ b < w.heap.size) := by
  rcases h with h | ⟨b, cap, hF, h1, h2, h3⟩
  · exact Or.inl h
  · exact Or.inr ⟨b, cap, ⟨hF, h3.lt⟩, h1, h2, h3⟩
theorem FsU.boundU {w : World} {v1 v2 : Value} {d : FD} {F : Nat → Prop} (h : FsU w v1 v2 d F) : FsU w v1 v2 d (fun b => F b ∧ b < w.heap.size) := by
  obtain ⟨F1, G1, h1, h2, h3, h4⟩ := h
  refine ⟨_, _, h1.bound, h2.bound, fun b hb hb' => h3 b hb.1 hb'.1, fun b hb => ?_⟩
  rcases hb with hb | hb
  · exact ⟨h4 b (Or.inl hb.1), hb.2⟩
  · exact ⟨h4 b (Or.inr hb.1), hb.2⟩
theorem markStrsM {w : World} {v : Value} {xs : List (List UInt8)} {F : Nat → Prop} (k : Int) (h : StrsO w v xs F) (hk0 : 1 ≤ k) (hk : k + (List.length xs : Nat) ≤ 4294967296) :
    Calls Tryz.prog 37 #[v, .int .i64 k] w fun e w' => e = .returned (.int .i64 (k + (List.length xs : Nat))) ∧ StrsO w' v (mkStrs k xs) F ∧ Chg F w w' := by
  obtain ⟨q, rfl⟩ : ∃ q : Nat, k = (q : Int) := ⟨k.toNat, by omega⟩
  rcases h with ⟨rfl, a, cap, rfl⟩ | ⟨b, cap, hF, rfl, h2, h3⟩
  · refine (markS_nil w a cap q).mono ?_
    rintro e w' ⟨rfl, rfl⟩
    exact ⟨by simp, Or.inl ⟨rfl, a, cap, rfl⟩, Chg.refl _ _⟩
  · refine (markS_walk w b cap xs.length q _ (by omega) (by omega) h3).mono ?_
    rintro e w' ⟨rfl, hr, hc⟩
    refine ⟨by simp, Or.inr ⟨b, cap, hF, by rw [mkStrs_length], by rw [mkStrs_length]; exact h2, ?_⟩, hc.mono fun b' e => by subst e; exact hF⟩
    rw [mkStrs_length]
    exact hr.congr fun i hi => (mkStrs_get (q : Int) xs hi).symm
theorem heldStrsM {w : World} {v : Value} {xs : List (List UInt8)} {F : Nat → Prop} (k : Int) (h : StrsO w v (mkStrs k xs) F) (hk0 : 1 ≤ k) (hk : k + (List.length xs : Nat) ≤ 4294967296) :
    Calls Tryz.prog 41 #[v, .int .i64 k] w fun e w' => e = .returned (.int .i64 (k + (List.length xs : Nat))) ∧ Below w.heap.size w w' := by
  obtain ⟨q, rfl⟩ : ∃ q : Nat, k = (q : Int) := ⟨k.toNat, by omega⟩
  rcases h with ⟨h0, a, cap, rfl⟩ | ⟨b, cap, hF, rfl, h2, h3⟩
  · have hx : xs.length = 0 := by have := mkStrs_length (q : Int) xs; rw [h0] at this; simpa using this.symm
    rw [hx]
    refine (heldS_nil w a cap q).mono ?_
    rintro e w' ⟨rfl, rfl⟩
    exact ⟨by simp, Below.refl _ _⟩
  · rw [mkStrs_length] at h3 ⊢
    refine (heldS_walk w b cap xs.length q (by omega) (by omega) (h3.congr fun i hi => mkStrs_get (q : Int) xs hi)).mono ?_
    rintro e w' ⟨rfl, hb⟩
    exact ⟨by simp, hb⟩

/-- A reply, a value, bytes, names and a file system. -/
abbrev CRD := Int × Int × List UInt8 × List (List UInt8) × FD
def CResR (w : World) (v1 v2 v3 v4 v5 v6 : Value) (d : CRD) : Prop := (v1 = .int .i64 d.1 ∧ v2 = .int .i64 d.2.1) ∧ Byt w v3 d.2.2.1 ∧ StrR w v4 d.2.2.2.1 ∧ FsR w v5 v6 d.2.2.2.2
theorem CResR.later {w w' : World} {v1 v2 v3 v4 v5 v6 : Value} {d : CRD} (h : CResR w v1 v2 v3 v4 v5 v6 d) (hb : Below w.heap.size w w') : CResR w' v1 v2 v3 v4 v5 v6 d := ⟨h.1, h.2.1.later hb, h.2.2.1.later hb, h.2.2.2.later hb⟩
def CResU (w : World) (v1 v2 v3 v4 v5 v6 : Value) (d : CRD) (F : Nat → Prop) : Prop := (v1 = .int .i64 d.1 ∧ v2 = .int .i64 d.2.1) ∧ ∃ F1 G1 K1 : Nat → Prop, BytO w v3 d.2.2.1 F1 ∧ StrsO w v4 d.2.2.2.1 G1 ∧ FsU w v5 v6 d.2.2.2.2 K1 ∧ (∀ b, F1 b → ¬ G1 b ∧ ¬ K1 b) ∧ (∀ b, G1 b → ¬ K1 b) ∧ ∀ b, F1 b ∨ G1 b ∨ K1 b → F b
theorem CResU.reads {w : World} {v1 v2 v3 v4 v5 v6 : Value} {d : CRD} {F : Nat → Prop} (h : CResU w v1 v2 v3 v4 v5 v6 d F) : CResR w v1 v2 v3 v4 v5 v6 d := by
  obtain ⟨h0, F1, G1, K1, h1, h2, h3, _⟩ := h
  exact ⟨h0, h1.reads, h2.reads, h3.reads⟩
theorem CResU.keep {w w' : World} {v1 v2 v3 v4 v5 v6 : Value} {d : CRD} {F : Nat → Prop} (h : CResU w v1 v2 v3 v4 v5 v6 d F) (e : ∀ b, F b → b < w.heap.size → w'.heap[b]? = w.heap[b]?) : CResU w' v1 v2 v3 v4 v5 v6 d F := by
  obtain ⟨h0, F1, G1, K1, h1, h2, h3, h4, h5, h6⟩ := h
  exact ⟨h0, F1, G1, K1, h1.keep fun b hb => e b (h6 b (Or.inl hb)), h2.keep fun b hb => e b (h6 b (Or.inr (Or.inl hb))), h3.keep fun b hb => e b (h6 b (Or.inr (Or.inr hb))), h4, h5, h6⟩
theorem CResU.later {w w' : World} {v1 v2 v3 v4 v5 v6 : Value} {d : CRD} {F : Nat → Prop} (h : CResU w v1 v2 v3 v4 v5 v6 d F) (hb : Below w.heap.size w w') : CResU w' v1 v2 v3 v4 v5 v6 d F := h.keep fun b _ hlt => hb.block b hlt
theorem CResU.mono {w : World} {v1 v2 v3 v4 v5 v6 : Value} {d : CRD} {F G : Nat → Prop} (h : CResU w v1 v2 v3 v4 v5 v6 d F) (e : ∀ b, F b → G b) : CResU w v1 v2 v3 v4 v5 v6 d G := by
  obtain ⟨h0, F1, G1, K1, h1, h2, h3, h4, h5, h6⟩ := h
  exact ⟨h0, F1, G1, K1, h1, h2, h3, h4, h5, fun b hb => e b (h6 b hb)⟩
theorem CResU.chg {w w' : World} {v1 v2 v3 v4 v5 v6 : Value} {d : CRD} {F G : Nat → Prop} (h : CResU w v1 v2 v3 v4 v5 v6 d F) (hc : Chg G w w') (hd : ∀ b, F b → ¬ G b) : CResU w' v1 v2 v3 v4 v5 v6 d F := h.keep fun b hb hlt => hc.block b hlt (hd b hb)
def spanCR (d : CRD) : Nat := d.2.2.1.length + d.2.2.2.1.length + spanFs d.2.2.2.2
def mkCR (k : Int) (d : CRD) : CRD := (d.1, d.2.1, mkByt k d.2.2.1, mkStrs (k + (d.2.2.1.length : Nat)) d.2.2.2.1, mkFs (k + (d.2.2.1.length : Nat) + (d.2.2.2.1.length : Nat)) d.2.2.2.2)
def AnsCR (w : World) (r : Int × CRD) (e : Ending) (w' : World) : Prop := ∃ z1 z2 a3 n3 c3 a4 n4 c4 a5 n5 c5 a6 n6 c6, e = .returned (.agg #[.int .i64 r.1, .int .i64 z1, .int .i64 z2, .slice a3 n3 c3, .slice a4 n4 c4, .slice a5 n5 c5, .slice a6 n6 c6]) ∧ Below w.heap.size w w' ∧ CResU w' (.int .i64 z1) (.int .i64 z2) (.slice a3 n3 c3) (.slice a4 n4 c4) (.slice a5 n5 c5) (.slice a6 n6 c6) r.2 (fresh w w')

set_option maxHeartbeats 1600000 in
theorem eqCallResultU (w : World) (c : Int) (v1 v2 v3 v4 v5 v6 v1' v2' v3' v4' v5' v6' : Value) (d : CRD) (h : CResR w v1 v2 v3 v4 v5 v6 d) (h' : CResR w v1' v2' v3' v4' v5' v6' d) :
    Calls Tryz.prog 14 #[.agg #[.int .i64 c, v1, v2, v3, v4, v5, v6], .agg #[.int .i64 c, v1', v2', v3', v4', v5', v6']] w fun e w' => e = .returned (.bool true) ∧ Below w.heap.size w w' := by
  obtain ⟨⟨rfl, rfl⟩, h3, h4, h5⟩ := h
  obtain ⟨⟨rfl, rfl⟩, h3', h4', h5'⟩ := h'
  have H3 : Hid (Byt w v3 d.2.2.1) := h3
  have H3' : Hid (Byt w v3' d.2.2.1) := h3'
  have H4 : Hid (StrR w v4 d.2.2.2.1) := h4
  have H4' : Hid (StrR w v4' d.2.2.2.1) := h4'
  have H5 : Hid (FsR w v5 v6 d.2.2.2.2) := h5
  have H5' : Hid (FsR w v5' v6' d.2.2.2.2) := h5'
  clear h3 h3' h4 h4' h5 h5'
  generalize d.1 = z1 at *
  generalize d.2.1 = z2 at *
  have e0 : (c != c) = false := by simp
  have e1 : (z1 != z1) = false := by simp
  have e2 : (z2 != z2) = false := by simp
  have HX : Hid (Bx ((w.alloc (.cells #[.int .i64 c, .int .i64 z1, .int .i64 z2, v3, v4, v5, v6] 29)).alloc (.cells #[.int .i64 c, .int .i64 z1, .int .i64 z2, v3', v4', v5', v6'] 29)) w.heap.size [.int .i64 c, .int .i64 z1, .int .i64 z2, v3, v4, v5, v6]) := (Bx.new w [.int .i64 c, .int .i64 z1, .int .i64 z2, v3, v4, v5, v6] _).later (later1 _ _)
  have HY : Hid (Bx ((w.alloc (.cells #[.int .i64 c, .int .i64 z1, .int .i64 z2, v3, v4, v5, v6] 29)).alloc (.cells #[.int .i64 c, .int .i64 z1, .int .i64 z2, v3', v4', v5', v6'] 29)) (w.heap.size + 1) [.int .i64 c, .int .i64 z1, .int .i64 z2, v3', v4', v5', v6']) := by
    have := Bx.new (w.alloc (.cells #[.int .i64 c, .int .i64 z1, .int .i64 z2, v3, v4, v5, v6] 29)) [.int .i64 c, .int .i64 z1, .int .i64 z2, v3', v4', v5', v6'] 29
    rw [World.size_alloc] at this
    exact this
  have HB0 : Hid (Below w.heap.size w ((w.alloc (.cells #[.int .i64 c, .int .i64 z1, .int .i64 z2, v3, v4, v5, v6] 29)).alloc (.cells #[.int .i64 c, .int .i64 z1, .int .i64 z2, v3', v4', v5', v6'] 29))) := later2 _ _ _
  go_enter Tryz.func14, Tryz.ntmps14
  go_wp2_with fail
  generalize ((w.alloc (.cells #[.int .i64 c, .int .i64 z1, .int .i64 z2, v3, v4, v5, v6] 29)).alloc (.cells #[.int .i64 c, .int .i64 z1, .int .i64 z2, v3', v4', v5', v6'] 29)) = W0 at *
  refine (eqBytV (H3.out.later HB0.out) (H3'.out.later HB0.out)).mono ?_
  rintro e w1 ⟨rfl, hb1⟩
  have HB1 : Hid (Below w.heap.size w w1) := HB0.out.trans (hb1.mono HB0.out.size)
  have HX1 : Hid (Bx w1 w.heap.size [.int .i64 c, .int .i64 z1, .int .i64 z2, v3, v4, v5, v6]) := HX.out.later hb1
  have HY1 : Hid (Bx w1 (w.heap.size + 1) [.int .i64 c, .int .i64 z1, .int .i64 z2, v3', v4', v5', v6']) := HY.out.later hb1
  have x4 := HX1.out 4 _ rfl
  have y4 := HY1.out 4 _ rfl
  clear hb1
  go_wp2_with fail
  clear x4 y4
  refine (eqStrsM (H4.out.later HB1.out) (H4'.out.later HB1.out)).mono ?_
  rintro e w2 ⟨rfl, hb2⟩
  have HB2 : Hid (Below w.heap.size w w2) := HB1.out.trans (hb2.mono HB1.out.size)
  have x5 := (HX1.out.later hb2) 5 _ rfl
  have x6 := (HX1.out.later hb2) 6 _ rfl
  have y5 := (HY1.out.later hb2) 5 _ rfl
  have y6 := (HY1.out.later hb2) 6 _ rfl
  clear hb2
  go_wp2_with fail
  clear x5 x6 y5 y6
  refine (eqFsU _ _ _ _ _ d.2.2.2.2 (H5.out.later HB2.out) (H5'.out.later HB2.out)).mono ?_
  rintro e w3 ⟨rfl, hb3⟩
  have HB3 : Hid (Below w.heap.size w w3) := HB2.out.trans (hb3.mono HB2.out.size)
  clear hb3
  go_wp2
  go_ret
  exact ⟨rfl, HB3.out⟩

set_option maxHeartbeats 1600000 in
theorem markCallResultU (w : World) (c : Int) (v1 v2 v3 v4 v5 v6 : Value) (d : CRD) (F : Nat → Prop) (k : Int) (h : CResU w v1 v2 v3 v4 v5 v6 d F) (hk0 : 1 ≤ k) (hk : k + (spanCR d : Nat) ≤ 4294967296) :
    Calls Tryz.prog 16 #[.agg #[.int .i64 c, v1, v2, v3, v4, v5, v6], .int .i64 k] w fun e w' => e = .returned (.int .i64 (k + (spanCR d : Nat))) ∧ CResU w' v1 v2 v3 v4 v5 v6 (mkCR k d) F ∧ Chg F w w' := by
  obtain ⟨⟨rfl, rfl⟩, F1, G1, K1, h3, h4, h5, hd1, hd2, hf⟩ := h
  have H3 : Hid (BytO w v3 d.2.2.1 F1) := h3
  have H4 : Hid (StrsO w v4 d.2.2.2.1 G1) := h4
  have H5 : Hid (FsU w v5 v6 d.2.2.2.2 K1) := h5
  have HD1 : Hid (∀ b, F1 b → ¬ G1 b ∧ ¬ K1 b) := hd1
  have HD2 : Hid (∀ b, G1 b → ¬ K1 b) := hd2
  have HF : Hid (∀ b, F1 b ∨ G1 b ∨ K1 b → F b) := hf
  have HMK : Hid (mkCR k d = (d.1, d.2.1, mkByt k d.2.2.1, mkStrs (k + (d.2.2.1.length : Nat)) d.2.2.2.1, mkFs (k + (d.2.2.1.length : Nat) + (d.2.2.2.1.length : Nat)) d.2.2.2.2)) := rfl
  have HE : Hid (k + (spanCR d : Nat) = k + (d.2.2.1.length : Nat) + (d.2.2.2.1.length : Nat) + (spanFs d.2.2.2.2 : Nat)) := by unfold Hid spanCR; omega
  have hk2 : k + (d.2.2.1.length : Nat) + (d.2.2.2.1.length : Nat) + (spanFs d.2.2.2.2 : Nat) ≤ 4294967296 := by rw [← HE.out]; exact hk
  rw [HE.out, HMK.out]
  clear h3 h4 h5 hd1 hd2 hf hk HE HMK
  obtain ⟨k1, hk1⟩ : ∃ k1, k + (d.2.2.1.length : Nat) = k1 := ⟨_, rfl⟩
  obtain ⟨k3, hk3⟩ : ∃ k3, k1 + (d.2.2.2.1.length : Nat) = k3 := ⟨_, rfl⟩
  have HQ1 : Hid (k + ((d.2.2.1.length : Nat) : Int) = k1) := hk1
  have HQ3 : Hid (k1 + ((d.2.2.2.1.length : Nat) : Int) = k3) := hk3
  have L1 : Hid (1 ≤ k1 ∧ k1 + (d.2.2.2.1.length : Nat) ≤ 4294967296 ∧ k + (d.2.2.1.length : Nat) ≤ 4611686018427387904) := by unfold Hid; omega
  have L3 : Hid (1 ≤ k3 ∧ k3 + (spanFs d.2.2.2.2 : Nat) ≤ 4294967296) := by unfold Hid; omega
  have L0 : Hid (0 ≤ k) := by unfold Hid; omega
  rw [hk1, hk3]
  rw [hk1, hk3] at hk2
  clear hk0 hk2 hk1 hk3
  have HX : Hid (OwnRow (w.alloc (.cells #[.int .i64 c, .int .i64 d.1, .int .i64 d.2.1, v3, v4, v5, v6] 29)) w.heap.size 7 (cel [.int .i64 c, .int .i64 d.1, .int .i64 d.2.1, v3, v4, v5, v6])) := newCel w [.int .i64 c, .int .i64 d.1, .int .i64 d.2.1, v3, v4, v5, v6] _
  have HB0 : Hid (Below w.heap.size w (w.alloc (.cells #[.int .i64 c, .int .i64 d.1, .int .i64 d.2.1, v3, v4, v5, v6] 29))) := later1 _ _
  generalize d.1 = z1 at *
  generalize d.2.1 = z2 at *
  go_enter Tryz.func16, Tryz.ntmps16
  go_wp2_with fail
  generalize (w.alloc (.cells #[.int .i64 c, .int .i64 z1, .int .i64 z2, v3, v4, v5, v6] 29)) = W0 at *
  refine (markBytU (F := fun b => F1 b ∧ b < w.heap.size) k (H3.out.bound.later HB0.out) L0.out L1.out.2.2).mono ?_
  rw [HQ1.out]
  rintro e w1 ⟨rfl, hm1, hc1⟩
  have HM1 : Hid (BytO w1 v3 (mkByt k d.2.2.1) (fun b => F1 b ∧ b < w.heap.size)) := hm1
  have HC1 : Hid (Chg (fun b => F1 b ∧ b < w.heap.size) W0 w1) := hc1
  have H41 : Hid (StrsO w1 v4 d.2.2.2.1 (fun b => G1 b ∧ b < w.heap.size)) := (H4.out.bound.later HB0.out).chg hc1 fun b hb h => (HD1.out b h.1).1 hb.1
  have H51 : Hid (FsU w1 v5 v6 d.2.2.2.2 (fun b => K1 b ∧ b < w.heap.size)) := (H5.out.boundU.later HB0.out).chg hc1 fun b hb h => (HD1.out b h.1).2 hb.1
  have HX1 : Hid (OwnRow w1 w.heap.size 7 (cel [.int .i64 c, .int .i64 z1, .int .i64 z2, v3, v4, v5, v6])) := HX.out.block (hc1.block _ HX.out.lt (fun h => by omega))
  have x4 : w1.cell? ⟨w.heap.size, 4, none⟩ = some v4 := HX1.out.cell (i := 4) (by omega)
  clear hm1 hc1
  go_wp2_with fail
  clear x4
  refine (markStrsM k1 H41.out L1.out.1 L1.out.2.1).mono ?_
  rw [HQ3.out]
  rintro e w2 ⟨rfl, hm2, hc2⟩
  have HM2 : Hid (StrsO w2 v4 (mkStrs k1 d.2.2.2.1) (fun b => G1 b ∧ b < w.heap.size)) := hm2
  have HC2 : Hid (Chg (fun b => G1 b ∧ b < w.heap.size) w1 w2) := hc2
  have H52 : Hid (FsU w2 v5 v6 d.2.2.2.2 (fun b => K1 b ∧ b < w.heap.size)) := H51.out.chg hc2 fun b hb h => HD2.out b h.1 hb.1
  have HM12 : Hid (BytO w2 v3 (mkByt k d.2.2.1) (fun b => F1 b ∧ b < w.heap.size)) := HM1.out.chg hc2 fun b hb h => (HD1.out b hb.1).1 h.1
  have HX2 : Hid (OwnRow w2 w.heap.size 7 (cel [.int .i64 c, .int .i64 z1, .int .i64 z2, v3, v4, v5, v6])) := HX1.out.block (hc2.block _ HX1.out.lt (fun h => by omega))
  have x5 : w2.cell? ⟨w.heap.size, 5, none⟩ = some v5 := HX2.out.cell (i := 5) (by omega)
  have x6 : w2.cell? ⟨w.heap.size, 6, none⟩ = some v6 := HX2.out.cell (i := 6) (by omega)
  clear hm2 hc2
  go_wp2_with fail
  clear x5 x6
  refine (markFsM _ _ _ d.2.2.2.2 _ k3 H52.out L3.out.1 L3.out.2).mono ?_
  rintro e w3 ⟨rfl, hm3, hc3⟩
  have HM3 : Hid (FsU w3 v5 v6 (mkFs k3 d.2.2.2.2) (fun b => K1 b ∧ b < w.heap.size)) := hm3
  have HC3 : Hid (Chg (fun b => K1 b ∧ b < w.heap.size) w2 w3) := hc3
  have HM23 : Hid (StrsO w3 v4 (mkStrs k1 d.2.2.2.1) (fun b => G1 b ∧ b < w.heap.size)) := HM2.out.chg hc3 fun b hb h => HD2.out b hb.1 h.1
  have HM13 : Hid (BytO w3 v3 (mkByt k d.2.2.1) (fun b => F1 b ∧ b < w.heap.size)) := HM12.out.chg hc3 fun b hb h => (HD1.out b hb.1).2 h.1
  clear hm3 hc3
  go_wp2
  go_ret
  refine ⟨rfl, ⟨⟨rfl, rfl⟩, _, _, _, HM13.out, HM23.out, HM3.out, fun b hb => ⟨fun h => (HD1.out b hb.1).1 h.1, fun h => (HD1.out b hb.1).2 h.1⟩, fun b hb h => HD2.out b hb.1 h.1, fun b hb => ?_⟩, ?_⟩
  · rcases hb with hb | hb | hb
    · exact HF.out b (Or.inl hb.1)
    · exact HF.out b (Or.inr (Or.inl hb.1))
    · exact HF.out b (Or.inr (Or.inr hb.1))
  · exact (Chg.of_below HB0.out).trans ((HC1.out.mono fun b hb => HF.out b (Or.inl hb.1)).trans ((HC2.out.mono fun b hb => HF.out b (Or.inr (Or.inl hb.1))).trans (HC3.out.mono fun b hb => HF.out b (Or.inr (Or.inr hb.1)))))

set_option maxHeartbeats 1600000 in
theorem heldCallResultU (w : World) (c : Int) (v1 v2 v3 v4 v5 v6 : Value) (d : CRD) (F : Nat → Prop) (k : Int) (h : CResU w v1 v2 v3 v4 v5 v6 (mkCR k d) F) (hk0 : 1 ≤ k) (hk : k + (spanCR d : Nat) ≤ 4294967296) :
    Calls Tryz.prog 18 #[.agg #[.int .i64 c, v1, v2, v3, v4, v5, v6], .int .i64 k] w fun e w' => e = .returned (.int .i64 (k + (spanCR d : Nat))) ∧ Below w.heap.size w w' := by
  have HMK : Hid (mkCR k d = (d.1, d.2.1, mkByt k d.2.2.1, mkStrs (k + (d.2.2.1.length : Nat)) d.2.2.2.1, mkFs (k + (d.2.2.1.length : Nat) + (d.2.2.2.1.length : Nat)) d.2.2.2.2)) := rfl
  rw [HMK.out] at h
  obtain ⟨⟨rfl, rfl⟩, F1, G1, K1, h3, h4, h5, -, -, -⟩ := h
  dsimp only at h3 h4 h5
  have H3 : Hid (Byt w v3 (mkByt k d.2.2.1)) := h3.reads
  have H4 : Hid (StrsO w v4 (mkStrs (k + (d.2.2.1.length : Nat)) d.2.2.2.1) G1) := h4
  have H5 : Hid (FsR w v5 v6 (mkFs (k + (d.2.2.1.length : Nat) + (d.2.2.2.1.length : Nat)) d.2.2.2.2)) := h5.reads
  have HE : Hid (k + (spanCR d : Nat) = k + (d.2.2.1.length : Nat) + (d.2.2.2.1.length : Nat) + (spanFs d.2.2.2.2 : Nat)) := by unfold Hid spanCR; omega
  have hk2 : k + (d.2.2.1.length : Nat) + (d.2.2.2.1.length : Nat) + (spanFs d.2.2.2.2 : Nat) ≤ 4294967296 := by rw [← HE.out]; exact hk
  rw [HE.out]
  clear h3 h4 h5 hk HE HMK
  obtain ⟨k1, hk1⟩ : ∃ k1, k + (d.2.2.1.length : Nat) = k1 := ⟨_, rfl⟩
  obtain ⟨k3, hk3⟩ : ∃ k3, k1 + (d.2.2.2.1.length : Nat) = k3 := ⟨_, rfl⟩
  obtain ⟨k5, hk5⟩ : ∃ k5, k3 + (spanFs d.2.2.2.2 : Nat) = k5 := ⟨_, rfl⟩
  have HQ1 : Hid (k + ((d.2.2.1.length : Nat) : Int) = k1) := hk1
  have HQ3 : Hid (k1 + ((d.2.2.2.1.length : Nat) : Int) = k3) := hk3
  have HQ5 : Hid (k3 + ((spanFs d.2.2.2.2 : Nat) : Int) = k5) := hk5
  have L1 : Hid (1 ≤ k1 ∧ k1 + (d.2.2.2.1.length : Nat) ≤ 4294967296 ∧ k + (d.2.2.1.length : Nat) ≤ 4611686018427387904) := by unfold Hid; omega
  have L3 : Hid (1 ≤ k3 ∧ k3 + (spanFs d.2.2.2.2 : Nat) ≤ 4294967296) := by unfold Hid; omega
  have L0 : Hid (0 ≤ k) := by unfold Hid; omega
  have n1 : ¬ k1 < 0 := by omega
  have n3 : ¬ k3 < 0 := by omega
  have n5 : ¬ k5 < 0 := by omega
  rw [hk1, hk3, hk5]
  rw [hk1] at H4 H5
  rw [hk3] at H5
  clear hk0 hk2 hk1 hk3 hk5
  have HX : Hid (Bx (w.alloc (.cells #[.int .i64 c, .int .i64 d.1, .int .i64 d.2.1, v3, v4, v5, v6] 29)) w.heap.size [.int .i64 c, .int .i64 d.1, .int .i64 d.2.1, v3, v4, v5, v6]) := Bx.new w [.int .i64 c, .int .i64 d.1, .int .i64 d.2.1, v3, v4, v5, v6] _
  have HB0 : Hid (Below w.heap.size w (w.alloc (.cells #[.int .i64 c, .int .i64 d.1, .int .i64 d.2.1, v3, v4, v5, v6] 29))) := later1 _ _
  generalize d.1 = z1 at *
  generalize d.2.1 = z2 at *
  go_enter Tryz.func18, Tryz.ntmps18
  go_wp2_with fail
  generalize (w.alloc (.cells #[.int .i64 c, .int .i64 z1, .int .i64 z2, v3, v4, v5, v6] 29)) = W0 at *
  refine (heldBytU k (H3.out.later HB0.out) L0.out L1.out.2.2).mono ?_
  rw [HQ1.out]
  rintro e w1 ⟨rfl, hb1⟩
  have HB1 : Hid (Below w.heap.size w w1) := HB0.out.trans (hb1.mono HB0.out.size)
  have HX1 : Hid (Bx w1 w.heap.size [.int .i64 c, .int .i64 z1, .int .i64 z2, v3, v4, v5, v6]) := HX.out.later hb1
  have x4 := HX1.out 4 _ rfl
  clear hb1
  go_wp2_with fail
  clear x4
  refine (heldStrsM k1 (H4.out.later HB1.out) L1.out.1 L1.out.2.1).mono ?_
  rw [HQ3.out]
  rintro e w2 ⟨rfl, hb2⟩
  have HB2 : Hid (Below w.heap.size w w2) := HB1.out.trans (hb2.mono HB1.out.size)
  have x5 := (HX1.out.later hb2) 5 _ rfl
  have x6 := (HX1.out.later hb2) 6 _ rfl
  clear hb2
  go_wp2_with fail
  clear x5 x6
  refine (heldFsM _ _ _ d.2.2.2.2 k3 (H5.out.later HB2.out) L3.out.1 L3.out.2).mono ?_
  rw [HQ5.out]
  rintro e w3 ⟨rfl, hb3⟩
  have HB3 : Hid (Below w.heap.size w w3) := HB2.out.trans (hb3.mono HB2.out.size)
  clear hb3
  go_wp2
  go_ret
  exact ⟨rfl, HB3.out⟩
end Go.Proofs.YtlacppjlclfpmaaGreat

namespace Go.Proofs.YtlacppjlclfpmaaGreat
open Go.RowKit
set_option maxRecDepth 100000

abbrev KD := DK × List E3
def KernR (w : World) (vB vC vE : Value) (d : KD) : Prop := DiskR w vB vC d.1 ∧ Exts w vE d.2
theorem KernR.later {w w' : World} {vB vC vE : Value} {d : KD} (h : KernR w vB vC vE d) (hb : Below w.heap.size w w') : KernR w' vB vC vE d := ⟨h.1.later hb, h.2.later hb⟩
def KernU (w : World) (vB vC vE : Value) (d : KD) (F : Nat → Prop) : Prop := ∃ F1 G1 : Nat → Prop, DiskU w vB vC d.1 F1 ∧ ExtsO w vE d.2 G1 ∧ (∀ b, F1 b → ¬ G1 b) ∧ ∀ b, F1 b ∨ G1 b → F b
theorem DiskU.keep {w w' : World} {vB vC : Value} {d : DK} {F : Nat → Prop} (h : DiskU w vB vC d F) (e : ∀ b, F b → b < w.heap.size → w'.heap[b]? = w.heap[b]?) : DiskU w' vB vC d F := DiskO.keep h e
theorem KernU.reads {w : World} {vB vC vE : Value} {d : KD} {F : Nat → Prop} (h : KernU w vB vC vE d F) : KernR w vB vC vE d := by
  obtain ⟨_, _, h1, h2, _⟩ := h
  exact ⟨h1.reads, h2.reads⟩
theorem KernU.keep {w w' : World} {vB vC vE : Value} {d : KD} {F : Nat → Prop} (h : KernU w vB vC vE d F) (e : ∀ b, F b → b < w.heap.size → w'.heap[b]? = w.heap[b]?) : KernU w' vB vC vE d F := by
  obtain ⟨F1, G1, h1, h2, hd, hf⟩ := h
  exact ⟨F1, G1, h1.keep fun b hb => e b (hf b (Or.inl hb)), h2.keep fun b hb => e b (hf b (Or.inr hb)), hd, hf⟩
theorem KernU.later {w w' : World} {vB vC vE : Value} {d : KD} {F : Nat → Prop} (h : KernU w vB vC vE d F) (hb : Below w.heap.size w w') : KernU w' vB vC vE d F := h.keep fun b _ hlt => hb.block b hlt
theorem KernU.mono {w : World} {vB vC vE : Value} {d : KD} {F G : Nat → Prop} (h : KernU w vB vC vE d F) (e : ∀ b, F b → G b) : KernU w vB vC vE d G := by
  obtain ⟨F1, G1, h1, h2, hd, hf⟩ := h
  exact ⟨F1, G1, h1, h2, hd, fun b hb => e b (hf b hb)⟩
theorem KernU.chg {w w' : World} {vB vC vE : Value} {d : KD} {F G : Nat → Prop} (h : KernU w vB vC vE d F) (hc : Chg G w w') (hd : ∀ b, F b → ¬ G b) : KernU w' vB vC vE d F := h.keep fun b hb hlt => hc.block b hlt (hd b hb)
theorem DiskU.bound {w : World} {vB vC : Value} {d : DK} {F : Nat → Prop} (h : DiskU w vB vC d F) : DiskU w vB vC d (fun b => F b ∧ b < w.heap.size) := DiskO.bound h
theorem KernU.bound {w : World} {vB vC vE : Value} {d : KD} {F : Nat → Prop} (h : KernU w vB vC vE d F) : KernU w vB vC vE d (fun b => F b ∧ b < w.heap.size) := by
  obtain ⟨F1, G1, h1, h2, hd, hf⟩ := h
  exact ⟨_, _, h1.bound, h2.bound, fun b hb hb' => hd b hb.1 hb'.1, fun b hb => hb.elim (fun h => ⟨hf b (Or.inl h.1), h.2⟩) (fun h => ⟨hf b (Or.inr h.1), h.2⟩)⟩
def sizeKern (d : KD) : Nat := sizeDisk d.1 + d.2.length

theorem OwnRow.new3 (w : World) (x y z : Value) (t : TypeId) : OwnRow (w.alloc (.cells #[x, y, z] t)) w.heap.size 3 (fun i => if i = 0 then x else if i = 1 then y else z) := by
  refine ⟨_, t, Go.Deep.blk_alloc_new _ _, by simp, fun i hi => ?_⟩
  have : i = 0 ∨ i = 1 ∨ i = 2 := by omega
  rcases this with rfl | rfl | rfl <;> simp

def spanKern (d : KD) : Nat := spanDisk d.1 + 3 * d.2.length
theorem spanKern_le (d : KD) : spanKern d ≤ 3 * sizeKern d := by have := spanDisk_le d.1; unfold spanKern sizeKern; omega
def mkKern (k : Int) (d : KD) : KD := (mkDisk k d.1, marksE (k + (spanDisk d.1 : Nat)) d.2.length)
theorem markDskU (w : World) (vB vC : Value) (d : DK) (F : Nat → Prop) (k : Int) (h : DiskU w vB vC d F) (hk0 : 0 ≤ k) (hk : k + (spanDisk d : Nat) ≤ 4611686018427387904) :
    Calls Tryz.prog 39 #[.agg #[vB, vC], .int .i64 k] w fun e w' => e = .returned (.int .i64 (k + (spanDisk d : Nat))) ∧ DiskU w' vB vC (mkDisk k d) F ∧ Chg F w w' := by
  obtain ⟨F1, G1, h1, h2, hd, hf⟩ := h
  exact (markDisk_any w vB vC d.1 d.2 F1 G1 k h1 h2 hd hk0 hk).mono fun e w' ⟨he, i1, i2, hc⟩ => ⟨he, ⟨F1, G1, i1, i2, hd, hf⟩, hc.mono hf⟩

theorem heldDskU (w : World) (vB vC : Value) (d : DK) (k : Int) (h : DiskR w vB vC (mkDisk k d)) (hk0 : 0 ≤ k) (hk : k + (spanDisk d : Nat) ≤ 4611686018427387904) :
    Calls Tryz.prog 43 #[.agg #[vB, vC], .int .i64 k] w fun e w' => e = .returned (.int .i64 (k + (spanDisk d : Nat))) ∧ Below w.heap.size w w' := by
  unfold spanDisk dspan at hk ⊢
  refine (heldDisk_any w vB vC _ (wlens d.2) k h.1 h.2 hk0 (by rw [wlens_length]; omega)).mono fun e w' ⟨he, hb⟩ => ⟨he.trans (ret_int ?_), hb⟩
  rw [wlens_length]
  omega

theorem mkDisk_len1 (k : Int) (d : DK) : (mkDisk k d).1.length = d.1.length := by simp [mkDisk, marksS_length]
theorem mkDisk_len2 (k : Int) (d : DK) : (mkDisk k d).2.length = d.2.length := by simp [mkDisk, marksP_length, wlens]

end Go.Proofs.YtlacppjlclfpmaaGreat

namespace Go.Proofs.YtlacppjlclfpmaaGreat
open Go.RowKit
set_option maxRecDepth 100000

abbrev KResD := List Int × KD
def KResR (w : World) (vW vB vC vE : Value) (d : KResD) : Prop := Ints w vW d.1 ∧ KernR w vB vC vE d.2
theorem KResR.later {w w' : World} {vW vB vC vE : Value} {d : KResD} (h : KResR w vW vB vC vE d) (hb : Below w.heap.size w w') : KResR w' vW vB vC vE d := ⟨h.1.later hb, h.2.later hb⟩
def KResU (w : World) (vW vB vC vE : Value) (d : KResD) (F : Nat → Prop) : Prop := ∃ F1 G1 : Nat → Prop, IntsO w vW d.1 F1 ∧ KernU w vB vC vE d.2 G1 ∧ (∀ b, F1 b → ¬ G1 b) ∧ ∀ b, F1 b ∨ G1 b → F b
theorem KResU.reads {w : World} {vW vB vC vE : Value} {d : KResD} {F : Nat → Prop} (h : KResU w vW vB vC vE d F) : KResR w vW vB vC vE d := by
  obtain ⟨_, _, h1, h2, _⟩ := h
  exact ⟨h1.reads, h2.reads⟩
theorem KResU.keep {w w' : World} {vW vB vC vE : Value} {d : KResD} {F : Nat → Prop} (h : KResU w vW vB vC vE d F) (e : ∀ b, F b → b < w.heap.size → w'.heap[b]? = w.heap[b]?) : KResU w' vW vB vC vE d F := by
  obtain ⟨F1, G1, h1, h2, hd, hf⟩ := h
  exact ⟨F1, G1, h1.keep fun b hb => e b (hf b (Or.inl hb)), h2.keep fun b hb => e b (hf b (Or.inr hb)), hd, hf⟩
theorem KResU.later {w w' : World} {vW vB vC vE : Value} {d : KResD} {F : Nat → Prop} (h : KResU w vW vB vC vE d F) (hb : Below w.heap.size w w') : KResU w' vW vB vC vE d F := h.keep fun b _ hlt => hb.block b hlt
theorem KResU.mono {w : World} {vW vB vC vE : Value} {d : KResD} {F G : Nat → Prop} (h : KResU w vW vB vC vE d F) (e : ∀ b, F b → G b) : KResU w vW vB vC vE d G := by
  obtain ⟨F1, G1, h1, h2, hd, hf⟩ := h
  exact ⟨F1, G1, h1, h2, hd, fun b hb => e b (hf b hb)⟩
theorem KResU.chg {w w' : World} {vW vB vC vE : Value} {d : KResD} {F G : Nat → Prop} (h : KResU w vW vB vC vE d F) (hc : Chg G w w') (hd : ∀ b, F b → ¬ G b) : KResU w' vW vB vC vE d F := h.keep fun b hb hlt => hc.block b hlt (hd b hb)

/-- An answer: a code, words and a kern, in new memory of its own. -/
def AnsKR (w : World) (r : Int × KResD) (e : Ending) (w' : World) : Prop := ∃ aW nW cW aB nB cB aC nC cC aE nE cE, e = .returned (.agg #[.int .i64 r.1, .slice aW nW cW, .slice aB nB cB, .slice aC nC cC, .slice aE nE cE]) ∧ Below w.heap.size w w' ∧ KResU w' (.slice aW nW cW) (.slice aB nB cB) (.slice aC nC cC) (.slice aE nE cE) r.2 (fresh w w')
theorem ansK_bad {w w' : World} (hb : Below w.heap.size w w') (c : Int) : AnsKR w (c, [], ([], []), []) (.returned (.agg #[.int .i64 c, .slice none 0 0, .slice none 0 0, .slice none 0 0, .slice none 0 0])) w' :=
  ⟨none, 0, 0, none, 0, 0, none, 0, 0, none, 0, 0, rfl, hb, fun _ => False, fun _ => False, Or.inl ⟨rfl, none, 0, rfl⟩, ⟨fun _ => False, fun _ => False, ⟨fun _ => False, fun _ => False, Or.inl ⟨rfl, none, 0, rfl⟩, Or.inl ⟨rfl, none, 0, rfl⟩, fun _ h => h.elim, fun _ h => h.elim id id⟩, Or.inl ⟨rfl, none, 0, rfl⟩, fun _ h => h.elim, fun _ h => h.elim id id⟩, fun _ h => h.elim, fun _ h => h.elim False.elim False.elim⟩

theorem Bx.new5 (w : World) (a b c d e : Value) (t : TypeId) (i : Nat) (v : Value) (h : [a, b, c, d, e][i]? = some v) : (w.alloc (.cells #[a, b, c, d, e] t)).cell? ⟨w.heap.size, i, none⟩ = some v := Bx.new w [a, b, c, d, e] t i v h

def spanKRes (d : KResD) : Nat := d.1.length + spanKern d.2
def mkKRes (k : Int) (d : KResD) : KResD := (marks k d.1.length, mkKern (k + (d.1.length : Nat)) d.2)
theorem IntsO.bound' {w : World} {v : Value} {zs : List Int} {F : Nat → Prop} (h : IntsO w v zs F) : IntsO w v zs (fun b => F b ∧ b < w.heap.size) := by
  rcases h with h | ⟨b, cap, hF, h1, h2, h3⟩
  · exact Or.inl h
  · exact Or.inr ⟨b, cap, ⟨hF, h3.lt⟩, h1, h2, h3⟩

end Go.Proofs.YtlacppjlclfpmaaGreat
