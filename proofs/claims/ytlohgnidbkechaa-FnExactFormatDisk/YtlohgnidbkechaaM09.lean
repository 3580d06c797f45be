/- Kerns: how they read, what they own, and the walks of the laws' functions over them. Answers with a kern: how they read, what they own, and the walks of the laws' functions over them. What the laws of chapter 5 ask: how long the answers are. The program's LinksOf. The program: links and places. The specification: has each block just the bytes that it should have? The specification: what is wrong of a file system. -/
import Derived.Test.YtlohgnidbkechaaM06
import Derived.Test.YtlohgnidbkechaaM01
import Derived.Test.YtlohgnidbkechaaM08
import Derived.Deep.RegionHeld3
namespace Go.Proofs.Ytlohgnidbkechaa
open Go.RowKit
set_option maxRecDepth 100000

abbrev KD := DK × List E3
def KernR (w : World) (vB vC vE : Value) (d : KD) : Prop := DiskR w vB vC d.1 ∧ Exts w vE d.2
theorem KernR.later {w w' : World} {vB vC vE : Value} {d : KD} (h : KernR w vB vC vE d) (hb : Below w.heap.size w w') : KernR w' vB vC vE d := ⟨h.1.later hb, h.2.later hb⟩
def KernU (w : World) (vB vC vE : Value) (d : KD) (F : Nat → Prop) : Prop := ∃ F1 G1 : Nat → Prop, DiskU w vB vC d.1 F1 ∧ ExtsO w vE d.2 G1 ∧ (∀ b, F1 b → ¬ G1 b) ∧ ∀ b, F1 b ∨ G1 b → F b
theorem DiskU.keep {w w' : World} {vB vC : Value} {d : DK} {F : Nat → Prop} (h : DiskU w vB vC d F) (e : ∀ b, F b → b < w.heap.size → w'.heap[b]? = w.heap[b]?) : DiskU w' vB vC d F := DiskO.keep h e
theorem KernU.reads {w : World} {vB vC vE : Value} {d : KD} {F : Nat → Prop} (h : KernU w vB vC vE d F) : KernR w vB vC vE d := by
  obtain ⟨_, _, h1, h2, _⟩ := h
  exact ⟨h1.reads, h2.reads⟩
theorem KernU.keep {w w' : World} {vB vC vE : Value} {d : KD} {F : Nat → Prop} (h : KernU w vB vC vE d F) (e : ∀ b, F b → b < w.heap.size → w'.heap[b]? = w.heap[b]?) : KernU w' vB vC vE d F := by
  obtain ⟨F1, G1, h1, h2, hd, hf⟩ := h
  exact ⟨F1, G1, h1.keep fun b hb => e b (hf b (Or.inl hb)), h2.keep fun b hb => e b (hf b (Or.inr hb)), hd, hf⟩
theorem KernU.later {w w' : World} {vB vC vE : Value} {d : KD} {F : Nat → Prop} (h : KernU w vB vC vE d F) (hb : Below w.heap.size w w') : KernU w' vB vC vE d F := h.keep fun b _ hlt => hb.block b hlt
theorem KernU.mono {w : World} {vB vC vE : Value} {d : KD} {F G : Nat → Prop} (h : KernU w vB vC vE d F) (e : ∀ b, F b → G b) : KernU w vB vC vE d G := by
  obtain ⟨F1, G1, h1, h2, hd, hf⟩ := h
  exact ⟨F1, G1, h1, h2, hd, fun b hb => e b (hf b hb)⟩
theorem KernU.chg {w w' : World} {vB vC vE : Value} {d : KD} {F G : Nat → Prop} (h : KernU w vB vC vE d F) (hc : Chg G w w') (hd : ∀ b, F b → ¬ G b) : KernU w' vB vC vE d F := h.keep fun b hb hlt => hc.block b hlt (hd b hb)
theorem DiskU.bound {w : World} {vB vC : Value} {d : DK} {F : Nat → Prop} (h : DiskU w vB vC d F) : DiskU w vB vC d (fun b => F b ∧ b < w.heap.size) := DiskO.bound h
theorem KernU.bound {w : World} {vB vC vE : Value} {d : KD} {F : Nat → Prop} (h : KernU w vB vC vE d F) : KernU w vB vC vE d (fun b => F b ∧ b < w.heap.size) := by
  obtain ⟨F1, G1, h1, h2, hd, hf⟩ := h
  exact ⟨_, _, h1.bound, h2.bound, fun b hb hb' => hd b hb.1 hb'.1, fun b hb => hb.elim (fun h => ⟨hf b (Or.inl h.1), h.2⟩) (fun h => ⟨hf b (Or.inr h.1), h.2⟩)⟩
def sizeKern (d : KD) : Nat := sizeDisk d.1 + d.2.length

theorem OwnRow.new3 (w : World) (x y z : Value) (t : TypeId) : OwnRow (w.alloc (.cells #[x, y, z] t)) w.heap.size 3 (fun i => if i = 0 then x else if i = 1 then y else z) := by
  refine ⟨_, t, Go.Deep.blk_alloc_new _ _, by simp, fun i hi => ?_⟩
  have : i = 0 ∨ i = 1 ∨ i = 2 := by omega
  rcases this with rfl | rfl | rfl <;> simp

def spanKern (d : KD) : Nat := spanDisk d.1 + 3 * d.2.length
theorem spanKern_le (d : KD) : spanKern d ≤ 3 * sizeKern d := by have := spanDisk_le d.1; unfold spanKern sizeKern; omega
def mkKern (k : Int) (d : KD) : KD := (mkDisk k d.1, marksE (k + (spanDisk d.1 : Nat)) d.2.length)
theorem markDskU (w : World) (vB vC : Value) (d : DK) (F : Nat → Prop) (k : Int) (h : DiskU w vB vC d F) (hk0 : 0 ≤ k) (hk : k + (spanDisk d : Nat) ≤ 4611686018427387904) :
    Calls Try.prog 19 #[.agg #[vB, vC], .int .i64 k] w fun e w' => e = .returned (.int .i64 (k + (spanDisk d : Nat))) ∧ DiskU w' vB vC (mkDisk k d) F ∧ Chg F w w' := by
  obtain ⟨F1, G1, h1, h2, hd, hf⟩ := h
  exact (markDisk_any w vB vC d.1 d.2 F1 G1 k h1 h2 hd hk0 hk).mono fun e w' ⟨he, i1, i2, hc⟩ => ⟨he, ⟨F1, G1, i1, i2, hd, hf⟩, hc.mono hf⟩

theorem heldDskU (w : World) (vB vC : Value) (d : DK) (k : Int) (h : DiskR w vB vC (mkDisk k d)) (hk0 : 0 ≤ k) (hk : k + (spanDisk d : Nat) ≤ 4611686018427387904) :
    Calls Try.prog 20 #[.agg #[vB, vC], .int .i64 k] w fun e w' => e = .returned (.int .i64 (k + (spanDisk d : Nat))) ∧ Below w.heap.size w w' := by
  unfold spanDisk dspan at hk ⊢
  refine (heldDisk_any w vB vC _ (wlens d.2) k h.1 h.2 hk0 (by rw [wlens_length]; omega)).mono fun e w' ⟨he, hb⟩ => ⟨he.trans (ret_int ?_), hb⟩
  rw [wlens_length]
  omega

theorem mkDisk_len1 (k : Int) (d : DK) : (mkDisk k d).1.length = d.1.length := by simp [mkDisk, marksS_length]
theorem mkDisk_len2 (k : Int) (d : DK) : (mkDisk k d).2.length = d.2.length := by simp [mkDisk, marksP_length, wlens]

end Go.Proofs.Ytlohgnidbkechaa

namespace Go.Proofs.Ytlohgnidbkechaa
open Go.RowKit
set_option maxRecDepth 100000

abbrev KResD := List Int × KD
def KResR (w : World) (vW vB vC vE : Value) (d : KResD) : Prop := Ints w vW d.1 ∧ KernR w vB vC vE d.2
theorem KResR.later {w w' : World} {vW vB vC vE : Value} {d : KResD} (h : KResR w vW vB vC vE d) (hb : Below w.heap.size w w') : KResR w' vW vB vC vE d := ⟨h.1.later hb, h.2.later hb⟩
def KResU (w : World) (vW vB vC vE : Value) (d : KResD) (F : Nat → Prop) : Prop := ∃ F1 G1 : Nat → Prop, IntsO w vW d.1 F1 ∧ KernU w vB vC vE d.2 G1 ∧ (∀ b, F1 b → ¬ G1 b) ∧ ∀ b, F1 b ∨ G1 b → F b
theorem KResU.reads {w : World} {vW vB vC vE : Value} {d : KResD} {F : Nat → Prop} (h : KResU w vW vB vC vE d F) : KResR w vW vB vC vE d := by
  obtain ⟨_, _, h1, h2, _⟩ := h
  exact ⟨h1.reads, h2.reads⟩
theorem KResU.keep {w w' : World} {vW vB vC vE : Value} {d : KResD} {F : Nat → Prop} (h : KResU w vW vB vC vE d F) (e : ∀ b, F b → b < w.heap.size → w'.heap[b]? = w.heap[b]?) : KResU w' vW vB vC vE d F := by
  obtain ⟨F1, G1, h1, h2, hd, hf⟩ := h
  exact ⟨F1, G1, h1.keep fun b hb => e b (hf b (Or.inl hb)), h2.keep fun b hb => e b (hf b (Or.inr hb)), hd, hf⟩
theorem KResU.later {w w' : World} {vW vB vC vE : Value} {d : KResD} {F : Nat → Prop} (h : KResU w vW vB vC vE d F) (hb : Below w.heap.size w w') : KResU w' vW vB vC vE d F := h.keep fun b _ hlt => hb.block b hlt
theorem KResU.mono {w : World} {vW vB vC vE : Value} {d : KResD} {F G : Nat → Prop} (h : KResU w vW vB vC vE d F) (e : ∀ b, F b → G b) : KResU w vW vB vC vE d G := by
  obtain ⟨F1, G1, h1, h2, hd, hf⟩ := h
  exact ⟨F1, G1, h1, h2, hd, fun b hb => e b (hf b hb)⟩
theorem KResU.chg {w w' : World} {vW vB vC vE : Value} {d : KResD} {F G : Nat → Prop} (h : KResU w vW vB vC vE d F) (hc : Chg G w w') (hd : ∀ b, F b → ¬ G b) : KResU w' vW vB vC vE d F := h.keep fun b hb hlt => hc.block b hlt (hd b hb)

/-- An answer: a code, words and a kern, in new memory of its own. -/
def AnsKR (w : World) (r : Int × KResD) (e : Ending) (w' : World) : Prop := ∃ aW nW cW aB nB cB aC nC cC aE nE cE, e = .returned (.agg #[.int .i64 r.1, .slice aW nW cW, .slice aB nB cB, .slice aC nC cC, .slice aE nE cE]) ∧ Below w.heap.size w w' ∧ KResU w' (.slice aW nW cW) (.slice aB nB cB) (.slice aC nC cC) (.slice aE nE cE) r.2 (fresh w w')
theorem ansK_bad {w w' : World} (hb : Below w.heap.size w w') (c : Int) : AnsKR w (c, [], ([], []), []) (.returned (.agg #[.int .i64 c, .slice none 0 0, .slice none 0 0, .slice none 0 0, .slice none 0 0])) w' :=
  ⟨none, 0, 0, none, 0, 0, none, 0, 0, none, 0, 0, rfl, hb, fun _ => False, fun _ => False, Or.inl ⟨rfl, none, 0, rfl⟩, ⟨fun _ => False, fun _ => False, ⟨fun _ => False, fun _ => False, Or.inl ⟨rfl, none, 0, rfl⟩, Or.inl ⟨rfl, none, 0, rfl⟩, fun _ h => h.elim, fun _ h => h.elim id id⟩, Or.inl ⟨rfl, none, 0, rfl⟩, fun _ h => h.elim, fun _ h => h.elim id id⟩, fun _ h => h.elim, fun _ h => h.elim False.elim False.elim⟩

theorem Bx.new5 (w : World) (a b c d e : Value) (t : TypeId) (i : Nat) (v : Value) (h : [a, b, c, d, e][i]? = some v) : (w.alloc (.cells #[a, b, c, d, e] t)).cell? ⟨w.heap.size, i, none⟩ = some v := Bx.new w [a, b, c, d, e] t i v h

def spanKRes (d : KResD) : Nat := d.1.length + spanKern d.2
def mkKRes (k : Int) (d : KResD) : KResD := (marks k d.1.length, mkKern (k + (d.1.length : Nat)) d.2)
theorem IntsO.bound' {w : World} {v : Value} {zs : List Int} {F : Nat → Prop} (h : IntsO w v zs F) : IntsO w v zs (fun b => F b ∧ b < w.heap.size) := by
  rcases h with h | ⟨b, cap, hF, h1, h2, h3⟩
  · exact Or.inl h
  · exact Or.inr ⟨b, cap, ⟨hF, h3.lt⟩, h1, h2, h3⟩

end Go.Proofs.Ytlohgnidbkechaa

namespace Go.Proofs.Ytlohgnidbkechaa
open Go.RowKit
set_option maxRecDepth 100000

theorem usedSpan (ds : List ID) : (usedR ds).2.length ≤ 20 := by
  have := selL_len (usedP ds) 20
  unfold usedR
  split
  · split
    · exact this
    · simp
  · simp
theorem freeSpan (ds : List ID) (bs : List Int) : (freeR ds bs).2.length ≤ 20 := by
  have := selL_len (freeP ds bs) 20
  unfold freeR
  split
  · exact this
  · simp
theorem pickSpan (ds : List ID) (bs : List Int) (k : Int) : (pickR ds bs k).2.length ≤ 20 := by
  have := selL_len (freeP ds bs) 20
  unfold pickR
  split
  · split
    · split
      · simp
      · show ((selL (freeP ds bs) 20).take k.toNat).length ≤ 20
        rw [List.length_take]
        omega
    · simp
  · simp
end Go.Proofs.Ytlohgnidbkechaa

namespace Go.Proofs.Ytlohgnidbkechaa
open Go.RowKit
set_option maxRecDepth 100000

set_option maxHeartbeats 6400000 in
theorem implLnk_in (w : World) (a : Option Addr) (n c : Nat) (ds : List ID) (v : Int) (r : Int) (hr0 : r = 0) (hdn : ds.length = n) (hn : n ≤ 1048576) (hs : (isz ds).sum ≤ 1048576) (hv : 0 ≤ v ∧ v ≤ (n : Int) - 1) (hc : AtI w a n ds)
    (hF : ∀ W, Below w.heap.size w W → Calls Try.prog 57 #[.slice a n c] W fun e w' => e = .returned (.int .i64 r) ∧ Below W.heap.size W w') :
    Calls Try.prog 52 #[.slice a n c, .int .i64 v] w fun e w' => e = .returned (.agg #[.int .i64 0, .int .i64 (((allE ds).count v : Nat) : Int)]) ∧ Below w.heap.size w w' := by
  subst hr0
  have HF : Hid (∀ W, Below w.heap.size w W → Calls Try.prog 57 #[.slice a n c] W fun e w' => e = .returned (.int .i64 0) ∧ Below W.heap.size W w') := hF
  have HC : Hid (AtI w a n ds) := hc
  have HT : Hid ((allE ds).count v = (((ds.take n).flatMap fun d => entI d.2.2.2.2)).count v) := by unfold Hid allE; rw [List.take_of_length_le (by omega)]
  have HS : Hid (∀ j, (((ds.take j).flatMap fun d => entI d.2.2.2.2)).count v ≤ 1048576) := fun j => by
    have h1 := flat_take (fun d : ID => entI d.2.2.2.2) ds j
    have h2 := allE_len ds
    have h3 := List.count_le_length (a := v) (l := (ds.take j).flatMap fun d => entI d.2.2.2.2)
    unfold allE at h2
    omega
  have HX : Hid (∀ j, j < n → ((ds.take (j + 1)).flatMap fun d => entI d.2.2.2.2).count v = ((ds.take j).flatMap fun d => entI d.2.2.2.2).count v + (entI (ds[j]?.getD id0).2.2.2.2).count v) := fun j hj => by
    rw [flat_next (fun d : ID => entI d.2.2.2.2) ds id0 j (by omega), List.count_append]
  have HZ : Hid (∀ j, (ds[j]?.getD id0).2.2.2.2.length ≤ 1048576) := fun j => by
    have := isz_le ds j
    have hd : sizeIno (ds[j]?.getD id0) = (ds[j]?.getD id0).2.2.2.1.length + ((ds[j]?.getD id0).2.2.2.2.length + (nlens (ds[j]?.getD id0).2.2.2.2).sum) := rfl
    omega
  rw [HT.out]
  clear hc hdn hs HT hF
  generalize hG : (fun j => ((ds.take j).flatMap fun d => entI d.2.2.2.2).count v) = G at *
  have HG : Hid (∀ j, ((ds.take j).flatMap fun d => entI d.2.2.2.2).count v = G j) := fun j => congrFun hG j
  simp only [HG.out] at HS HX ⊢
  have HG0 : Hid (G 0 = 0) := by unfold Hid; rw [← HG.out 0]; simp
  clear hG HG
  have hv0 : decide (v < 0) = false := by simp; omega
  have hv1 : decide ((n : Int) ≤ v) = false := by simp; omega
  clear hv
  have HRB : Hid (OwnRow (w.alloc (.cells #[.int .i64 0, .int .i64 0] 93)) w.heap.size 2 (fun i => if i = 0 then .int .i64 0 else .int .i64 0)) := OwnRow.newS w (.int .i64 0) (.int .i64 0) _
  have HB0 : Hid (Below w.heap.size w (w.alloc (.cells #[.int .i64 0, .int .i64 0] 93))) := later1 _ _
  go_enter Try.func52, Try.ntmps52
  go_wp2_with fail
  generalize hW : w.alloc (Obj.cells #[.int .i64 0, .int .i64 0] 93) = W at *
  clear hW
  refine (HF.out _ HB0.out).mono ?_
  rintro e w1 ⟨rfl, hb1⟩
  have HB1 : Hid (Below w.heap.size w w1) := HB0.out.trans (hb1.mono HB0.out.size)
  have HR1 : Hid (OwnRow w1 w.heap.size 2 (fun i => if i = 0 then .int .i64 0 else .int .i64 0)) := HRB.out.later hb1
  clear hb1 HF HRB HB0
  go_wp2
  go_loopw [6, 28] (fun q i wr => ∃ j : Nat, j ≤ n ∧ i = .int .i64 j ∧ q = .int .i64 ((G j : Nat) : Int) ∧ Below w1.heap.size w1 wr) (fun _ i _ => n - (intOf i).toNat)
  case atStart => exact ⟨0, Nat.zero_le _, rfl, by rw [HG0.out]; rfl, Below.refl _ _⟩
  case round =>
    obtain ⟨j, hj, rfl, rfl, hbl⟩ := hrel
    have HBL : Hid (Below w1.heap.size w1 wr) := hbl
    have HBW : Hid (Below w.heap.size w wr) := HB1.out.trans (hbl.mono HB1.out.size)
    clear hbl
    by_cases hlt : j < n
    · obtain ⟨b, o, rfl, hI⟩ := HC.out j hlt
      obtain ⟨aB, cB, aE, cE, c0, c1, c2, c3, c4, h5⟩ := hI.later HBW.out
      obtain ⟨_, _, e1, hm1, _, hc1⟩ := h5.2.2.open'
      simp only [Value.slice.injEq] at e1
      obtain ⟨rfl, _, rfl⟩ := e1
      have HZJ := HZ.out j
      have HSJ := HS.out (j + 1)
      have HXJ' : Hid (G (j + 1) = G j + (entI (ds[j]?.getD id0).2.2.2.2).count v) := HX.out j hlt
      clear h5 HC hI
      generalize (ds[j]?.getD id0) = d at *
      obtain ⟨dk, dl, dz, db, es⟩ := d
      dsimp only at *
      have HCB : Hid (AtN wr aE es.length es) := hc1
      obtain ⟨nB, hnB⟩ : ∃ nB, nB = es.length := ⟨_, rfl⟩
      have HNB : Hid (nB = es.length) := hnB
      have HNI : Hid (nB = (entI es).length) := by unfold Hid; rw [entI_len]; exact hnB
      rw [← hnB] at c4 hm1 HZJ
      have hle : G j + (entI es).count v ≤ 1048576 := by have := HXJ'.out; omega
      have HEG : Hid (∀ k : Nat, (entI es)[k]?.getD 0 = (es[k]?.getD en0).2) := fun k => entI_get es k
      clear hc1 hnB HSJ
      generalize entI es = bs at *
      generalize db.length = nD at *
      go_wp2
      clear c0 c1 c2 c3 c4
      obtain ⟨wo, rfl⟩ : ∃ wo, wo = wr := ⟨_, rfl⟩
      go_loopw [6, 35] (fun q i wr2 => ∃ k : Nat, k ≤ nB ∧ i = .int .i64 k ∧ q = .int .i64 (((G j + (bs.take k).count v : Nat)) : Int) ∧ Below wo.heap.size wo wr2) (fun _ i _ => nB - (intOf i).toNat)
      case atStart => exact ⟨0, Nat.zero_le _, rfl, by simp, later1 _ _⟩
      case round =>
        obtain ⟨k, hk, rfl, rfl, hbl2⟩ := hrel
        have HB2 : Hid (Below wo.heap.size wo wr) := hbl2
        clear hbl2
        by_cases hlk : k < nB
        · obtain ⟨b1, o1, rfl, d0, d1⟩ := HCB.out k (by rw [← HNB.out]; exact hlk)
          rw [← HEG.out k] at d1
          replace d0 := cell_later HB2.out d0
          replace d1 := cell_later HB2.out d1
          have hcn := count_next bs v k (by rw [← HNI.out]; exact hlk)
          have HCN : Hid ((bs.take (k + 1)).count v = (bs.take k).count v + (if bs[k]?.getD 0 = v then 1 else 0)) := hcn
          have hct : (bs.take k).count v ≤ bs.count v := List.Sublist.count_le v (List.take_sublist k bs)
          generalize (bs.take k).count v = ck at *
          clear hcn HCB HEG
          generalize (es[k]?.getD en0).1 = nm at *
          generalize bs[k]?.getD 0 = x at *
          by_cases hxv : x = v
          · have hxb : (x == v) = true := by simpa using hxv
            have HCN' : Hid ((bs.take (k + 1)).count v = ck + 1) := by unfold Hid; rw [HCN.out, if_pos hxv]
            clear hxv HCN
            go_wp2
            go_roundw
            case rel => exact ⟨k + 1, by omega, by go_num, by rw [HCN'.out]; go_num, HB2.out.trans ((later1 _ _).mono HB2.out.size)⟩
            case measure => simp [intOf]; omega
          · have hxb : (x == v) = false := by simpa using hxv
            have HCN' : Hid ((bs.take (k + 1)).count v = ck) := by unfold Hid; rw [HCN.out, if_neg hxv, Nat.add_zero]
            clear hxv HCN
            go_wp2
            go_roundw
            case rel => exact ⟨k + 1, by omega, by go_num, by rw [HCN'.out], HB2.out.trans ((later1 _ _).mono HB2.out.size)⟩
            case measure => simp [intOf]; omega
        · have hkn : bs.take k = bs := List.take_of_length_le (by rw [← HNI.out]; omega)
          rw [hkn]
          clear hkn
          have HE : Hid (((G j + bs.count v : Nat) : Int) = ((G (j + 1) : Nat) : Int)) := by unfold Hid; rw [HXJ'.out]
          go_wp2
          go_roundw
          case rel => exact ⟨j + 1, by omega, by go_num, by rw [HE.out], HBL.out.trans (HB2.out.mono HBL.out.size)⟩
          case measure => simp [intOf]; omega
    · have HJ : Hid (G j = G n) := by unfold Hid; rw [show j = n by omega]
      have hrow : OwnRow wr w.heap.size 2 (fun i => if i = 0 then .int .i64 0 else .int .i64 0) := HR1.out.later HBL.out
      have t0 := hrow.cell (i := 0) (by omega)
      have t1 := hrow.cell (i := 1) (by omega)
      have s0 := hrow.frozen 0
      have s1 := hrow.frozen 1
      simp only [ite_self] at t0 t1
      have hz1 := hrow.lt
      clear hrow
      go_wp2
      exact bodyPost_ret (v := .agg #[.int .i64 0, .int .i64 ((G j : Nat) : Int)]) (by simp [results, Try.results52, go_sem, t0, t1]) rfl ⟨by rw [HJ.out], (HBW.out.setCell (by simp) _).setCell (by simp) _⟩

set_option maxHeartbeats 3200000 in
theorem implLnkU (w : World) (a : Option Addr) (n c : Nat) (ds : List ID) (x : Int) (h : Inos w (.slice a n c) ds) (hs : sizeInos ds ≤ 1048576) :
    Calls Try.prog 52 #[.slice a n c, .int .i64 x] w fun e w' => e = .returned (.agg #[.int .i64 (lnkR ds x).1, .int .i64 (lnkR ds x).2]) ∧ Below w.heap.size w w' := by
  have HF : Hid (∀ W, Below w.heap.size w W → Calls Try.prog 57 #[.slice a n c] W fun e w' => e = .returned (.int .i64 (insF ds)) ∧ Below W.heap.size W w') := fun W hW => inodesFault_any (h.later hW) hs
  obtain ⟨_, _, esh, hml, hc⟩ := h.open'
  simp only [Value.slice.injEq] at esh
  obtain ⟨rfl, rfl, rfl⟩ := esh
  have hss : (isz ds).sum ≤ 1048576 ∧ ds.length ≤ 1048576 := by unfold sizeInos at hs; omega
  have HR : Hid (lnkR ds x = if insF ds = 0 then (if 0 ≤ x ∧ x ≤ (ds.length : Int) - 1 then (0, (((allE ds).count x : Nat) : Int)) else (3, 0)) else (insF ds, 0)) := rfl
  rw [HR.out]
  by_cases hf : insF ds = 0
  · rw [if_pos hf]
    by_cases hq : 0 ≤ x ∧ x ≤ (ds.length : Int) - 1
    · rw [if_pos hq]
      exact implLnk_in w a ds.length c ds x (insF ds) hf rfl hss.2 hss.1 hq hc HF.out
    · rw [if_neg hq]
      rw [hf] at HF
      clear HR h hs hml hc hf
      have hn' := hss.2
      generalize ds.length = n at *
      clear hss
      have step : ∀ P : Prop, (decide (x < 0) = true → P) → (decide (x < 0) = false → decide ((n : Int) ≤ x) = true → P) → P := fun P h1 h2 => by
        by_cases h0 : x < 0
        · exact h1 (by simpa using h0)
        · exact h2 (by simpa using h0) (by simp; omega)
      clear hq
      have HRB : Hid (OwnRow (w.alloc (.cells #[.int .i64 0, .int .i64 0] 93)) w.heap.size 2 (fun i => if i = 0 then .int .i64 0 else .int .i64 0)) := OwnRow.newS w (.int .i64 0) (.int .i64 0) _
      have HB0 : Hid (Below w.heap.size w (w.alloc (.cells #[.int .i64 0, .int .i64 0] 93))) := later1 _ _
      apply step
      all_goals
        intros
        clear step
        go_enter Try.func52, Try.ntmps52
        go_wp2_with fail
        generalize hW : w.alloc (Obj.cells #[.int .i64 0, .int .i64 0] 93) = W at *
        clear hW
        refine (HF.out _ HB0.out).mono ?_
        rintro e w1 ⟨rfl, hb1⟩
        have HB1 : Hid (Below w.heap.size w w1) := HB0.out.trans (hb1.mono HB0.out.size)
        have hrow : OwnRow w1 w.heap.size 2 (fun i => if i = 0 then .int .i64 0 else .int .i64 0) := HRB.out.later hb1
        have t0 := hrow.cell (i := 0) (by omega)
        have t1 := hrow.cell (i := 1) (by omega)
        have s0 := hrow.frozen 0
        have s1 := hrow.frozen 1
        simp only [ite_self] at t0 t1
        have hz1 := hrow.lt
        clear hb1 hrow
        go_wp2
        exact bodyPost_ret (v := .agg #[.int .i64 3, .int .i64 0]) (by simp [results, Try.results52, go_sem, t0, t1]) rfl ⟨rfl, (HB1.out.setCell (by simp) _).setCell (by simp) _⟩
  · rw [if_neg hf]
    have hr : (insF ds != 0) = true := by simpa using hf
    clear HR h hs hml hc hf hss
    generalize insF ds = r at *
    generalize ds.length = n at *
    have HRB : Hid (OwnRow (w.alloc (.cells #[.int .i64 0, .int .i64 0] 93)) w.heap.size 2 (fun i => if i = 0 then .int .i64 0 else .int .i64 0)) := OwnRow.newS w (.int .i64 0) (.int .i64 0) _
    have HB0 : Hid (Below w.heap.size w (w.alloc (.cells #[.int .i64 0, .int .i64 0] 93))) := later1 _ _
    go_enter Try.func52, Try.ntmps52
    go_wp2_with fail
    generalize hW : w.alloc (Obj.cells #[.int .i64 0, .int .i64 0] 93) = W at *
    clear hW
    refine (HF.out _ HB0.out).mono ?_
    rintro e w1 ⟨rfl, hb1⟩
    have HB1 : Hid (Below w.heap.size w w1) := HB0.out.trans (hb1.mono HB0.out.size)
    have hrow : OwnRow w1 w.heap.size 2 (fun i => if i = 0 then .int .i64 0 else .int .i64 0) := HRB.out.later hb1
    have t0 := hrow.cell (i := 0) (by omega)
    have t1 := hrow.cell (i := 1) (by omega)
    have s0 := hrow.frozen 0
    have s1 := hrow.frozen 1
    simp only [ite_self] at t0 t1
    have hz1 := hrow.lt
    clear hb1 hrow
    go_wp2
    exact bodyPost_ret (v := .agg #[.int .i64 r, .int .i64 0]) (by simp [results, Try.results52, go_sem, t0, t1]) rfl ⟨rfl, (HB1.out.setCell (by simp) _).setCell (by simp) _⟩
end Go.Proofs.Ytlohgnidbkechaa

namespace Go.Proofs.Ytlohgnidbkechaa
open Go.RowKit Go.Maps
set_option maxRecDepth 100000

set_option maxHeartbeats 1600000 in
theorem linksDue_any (w : World) (aI : Option Addr) (n cI : Nat) (aD : Option Addr) (nD cD : Nat) (ds : List ID) (j : Nat) (hj : j < n) (hc : AtI w aI n ds) :
    Calls Try.prog 53 #[.agg #[.slice aI n cI, .slice aD nD cD], .int .i64 (j : Int)] w fun e w' => e = .returned (.int .i64 (wantL ds j)) ∧ Below w.heap.size w w' := by
  obtain ⟨b0, o0, rfl, hI⟩ := hc j hj
  obtain ⟨_, _, _, _, k0, k1, _⟩ := hI.later (later1 w (.cells #[.slice (some ⟨b0, o0, none⟩) n cI, .slice aD nD cD] 48))
  have HW : Hid (wantL ds j = if (ds[j]?.getD id0).1 = 1 then (ds[j]?.getD id0).2.1 else if j = 0 then 0 else 1) := rfl
  clear hI hc
  generalize (ds[j]?.getD id0).1 = kd at *
  generalize (ds[j]?.getD id0).2.1 = lk at *
  by_cases hk1 : kd = 1
  · have hb1 : (kd == 1) = true := by simpa using hk1
    have HR : Hid (wantL ds j = lk) := by unfold Hid; rw [HW.out, if_pos hk1]
    clear hk1 HW
    go_enter Try.func53, Try.ntmps53
    go_wp2
    go_ret
    exact ⟨ret_int HR.out.symm, later1 _ _⟩
  · have hb1 : (kd == 1) = false := by simpa using hk1
    by_cases hj0 : j = 0
    · have hbj : ((j : Int) == 0) = true := by simp [hj0]
      have HR : Hid (wantL ds j = 0) := by unfold Hid; rw [HW.out, if_neg hk1, if_pos hj0]
      clear hk1 hj0 HW
      go_enter Try.func53, Try.ntmps53
      go_wp2
      go_ret
      exact ⟨ret_int HR.out.symm, later1 _ _⟩
    · have hbj : ((j : Int) == 0) = false := by simp; omega
      have HR : Hid (wantL ds j = 1) := by unfold Hid; rw [HW.out, if_neg hk1, if_neg hj0]
      clear hk1 hj0 HW
      go_enter Try.func53, Try.ntmps53
      go_wp2
      go_ret
      exact ⟨ret_int HR.out.symm, later1 _ _⟩
theorem field_intR (z v : Int) (w : World) : (Instr.field 93 (.agg #[.int .i64 z, .int .i64 v]) 1).run Try.prog w = .ok (.int .i64 v) w := by rfl
def treeF (ds : List ID) : Int := if linksB ds then 0 else 1

theorem map_zero {ds : List ID} {m : Int → Int} (hr : inRange ds) (h0 : 0 < ds.length) (hp : ∀ i : Nat, 0 < m (i : Int) ↔ RP (entsOf ds) i) (hnn : ∀ x, 0 ≤ m x) (j : Nat) : (m (j : Int) == 0) = !reachG ds ds.length j := by
  cases hg : reachG ds ds.length j with
  | true =>
    have := (hp j).2 ((reachG_iff hr h0 j).1 hg)
    simp; omega
  | false =>
    have h1 : ¬ 0 < m (j : Int) := fun h => by
      have := (reachG_iff hr h0 j).2 ((hp j).1 h)
      rw [hg] at this; cases this
    have := hnn (j : Int)
    simp; omega
set_option maxHeartbeats 6400000 in
theorem treeFault_any (w : World) (aI : Option Addr) (nI cI : Nat) (aD : Option Addr) (nD cD : Nat) (d : FD) (h : FsR w (.slice aI nI cI) (.slice aD nD cD) d) (hs : sizeInos d.1 ≤ 1048576) (hi : insF d.1 = 0) (hn0 : 0 < d.1.length) (hn : d.1.length ≤ 10) (hr : inRange d.1) (h6 : ∀ i, (entsOf d.1 i).length ≤ 6) :
    Calls Try.prog 38 #[.agg #[.slice aI nI cI, .slice aD nD cD]] w fun e w' => e = .returned (.int .i64 (treeF d.1)) ∧ Below w.heap.size w w' := by
  have HX : Hid (Bx (w.alloc (.cells #[.slice aI nI cI, .slice aD nD cD] 48)) w.heap.size [.slice aI nI cI, .slice aD nD cD]) := Bx.new w [.slice aI nI cI, .slice aD nD cD] _
  obtain ⟨_, _, e2, hm2, hc⟩ := h.1.open'
  simp only [Value.slice.injEq] at e2
  obtain ⟨rfl, rfl, rfl⟩ := e2
  have HC : Hid (AtI w aI d.1.length d.1) := hc
  have HRF : Hid (∀ W, Below w.heap.size w W → Calls Try.prog 51 #[.slice aI d.1.length cI, .int .i64 0] W fun e w' => ∃ b N m, e = .returned (.map (some b)) ∧ Below W.heap.size W w' ∧ W.heap.size ≤ b ∧ Mp w' b N (fun x => decide (0 ≤ x ∧ x < (d.1.length : Int)) && !decide (m x = 0)) m ∧ (∀ i : Nat, 0 < m (i : Int) ↔ RP (entsOf d.1) i) ∧ ∀ x, 0 ≤ m x) := fun W hW => reachFrom_any W aI _ cI d.1 rfl hn0 hn (hc.later hW) hr h6
  have HLO : Hid (∀ W, Below w.heap.size w W → ∀ j : Nat, j < d.1.length → Calls Try.prog 52 #[.slice aI d.1.length cI, .int .i64 (j : Int)] W fun e w' => e = .returned (.agg #[.int .i64 0, .int .i64 (((allE d.1).count (j : Int) : Nat) : Int)]) ∧ Below W.heap.size W w') := fun W hW j hj => by
    have := implLnkU W aI _ cI d.1 (j : Int) (h.1.later hW) hs
    have e : lnkR d.1 (j : Int) = (0, (((allE d.1).count (j : Int) : Nat) : Int)) := by
      unfold lnkR
      rw [if_pos hi, if_pos (by omega)]
    rw [e] at this
    exact this
  have HLD : Hid (∀ W, Below w.heap.size w W → ∀ j : Nat, j < d.1.length → Calls Try.prog 53 #[.agg #[.slice aI d.1.length cI, .slice aD nD cD], .int .i64 (j : Int)] W fun e w' => e = .returned (.int .i64 (wantL d.1 j)) ∧ Below W.heap.size W w') := fun W hW j hj => linksDue_any W aI _ cI aD nD cD d.1 j hj (hc.later hW)
  have HMZ : Hid (∀ (m : Int → Int), (∀ i : Nat, 0 < m (i : Int) ↔ RP (entsOf d.1) i) → (∀ x, 0 ≤ m x) → ∀ j : Nat, (m (j : Int) == 0) = !reachG d.1 d.1.length j) := fun m h1 h2 j => map_zero hr hn0 h1 h2 j
  clear hc h hs hi hm2 hr h6
  obtain ⟨n, hnn⟩ : ∃ n, d.1.length = n := ⟨_, rfl⟩
  have HN : Hid (d.1.length = n) := hnn
  have HOK : Hid (∀ i, lnkOK d.1 i = (decide (kindAt d.1 i = 0) || (decide ((((allE d.1).count (i : Int) : Nat) : Int) = wantL d.1 i) && reachG d.1 n i))) := fun i => by rw [← hnn]; rfl
  rw [hnn] at HC HX HRF HLO HLD HMZ hn0 hn ⊢
  clear hnn
  generalize reachG d.1 n = G at *
  go_enter Try.func38, Try.ntmps38
  go_wp2_with fail
  refine (HRF.out _ (later1 _ _)).mono ?_
  rintro e w1 ⟨bm, N, m, rfl, hb1, hbm, hmp, hpos, hnn⟩
  have HB1 : Hid (Below w.heap.size w w1) := (later1 _ _).trans (hb1.mono (by simp))
  have HX1 : Hid (Bx w1 w.heap.size [.slice aI n cI, .slice aD nD cD]) := HX.out.later hb1
  have HMP : Hid (Mp w1 bm N (fun x => decide (0 ≤ x ∧ x < (n : Int)) && !decide (m x = 0)) m) := hmp
  have HZ0 : Hid (∀ j : Nat, (m (j : Int) == 0) = !G j) := HMZ.out m hpos hnn
  clear hb1 hmp hpos hnn HX HRF HMZ hbm
  have x0 := HX1.out 0 _ rfl
  go_wp2
  clear x0
  go_loopw [11] (fun i wr => ∃ j : Nat, j ≤ n ∧ i = .int .i64 j ∧ Below w1.heap.size w1 wr ∧ ∀ k, k < j → lnkOK d.1 k = true) (fun i _ => n - (intOf i).toNat)
  case atStart => exact ⟨0, Nat.zero_le _, rfl, Below.refl _ _, fun k hk => by omega⟩
  case round =>
    obtain ⟨j, hj, rfl, hbl, hz⟩ := hrel
    have HBL : Hid (Below w1.heap.size w1 wr) := hbl
    have HBW : Hid (Below w.heap.size w wr) := HB1.out.trans (hbl.mono HB1.out.size)
    have HZ : Hid (∀ k, k < j → lnkOK d.1 k = true) := hz
    have HX2 : Hid (Bx wr w.heap.size [.slice aI n cI, .slice aD nD cD]) := HX1.out.later hbl
    clear hbl hz
    by_cases hlt : j < n
    · obtain ⟨b0, o0, rfl, hI⟩ := HC.out j hlt
      obtain ⟨_, _, _, _, k0, _⟩ := hI.later HBW.out
      have x0 := HX2.out 0 _ rfl
      have x1 := HX2.out 1 _ rfl
      have HY : Hid (lnkOK d.1 j = true → ∀ k, k < j + 1 → lnkOK d.1 k = true) := fun hh k hk => by
        by_cases e : k = j
        · subst e; exact hh
        · exact HZ.out k (by omega)
      have HNO : Hid (lnkOK d.1 j = false → treeF d.1 = 1) := fun hh => by unfold treeF; rw [linksB_no (by rw [HN.out]; exact hlt) hh]; rfl
      have HO : Hid (lnkOK d.1 j = (decide ((d.1[j]?.getD id0).1 = 0) || (decide ((((allE d.1).count (j : Int) : Nat) : Int) = wantL d.1 j) && G j))) := HOK.out j
      have hz0 := HZ0.out j
      have HLOJ : Hid (∀ W, Below w.heap.size w W → Calls Try.prog 52 #[.slice (some ⟨b0, o0, none⟩) n cI, .int .i64 (j : Int)] W fun e w' => e = .returned (.agg #[.int .i64 0, .int .i64 (((allE d.1).count (j : Int) : Nat) : Int)]) ∧ Below W.heap.size W w') := fun W hW => HLO.out W hW j hlt
      have HLDJ : Hid (∀ W, Below w.heap.size w W → Calls Try.prog 53 #[.agg #[.slice (some ⟨b0, o0, none⟩) n cI, .slice aD nD cD], .int .i64 (j : Int)] W fun e w' => e = .returned (.int .i64 (wantL d.1 j)) ∧ Below W.heap.size W w') := fun W hW => HLD.out W hW j hlt
      have HLKJ : Hid (∀ W, Below w1.heap.size w1 W → (Instr.lookup 90 (.map (some bm)) (.int .i64 (j : Int)) false).run Try.prog W = .ok (.int .i64 (m (j : Int))) W) := fun W hW => (HMP.out.later hW).look (wf64_of (by omega) (by omega))
      clear hI HOK HLO HLD HZ0 HMP
      generalize (d.1[j]?.getD id0).1 = kd at *
      generalize wantL d.1 j = wl at *
      generalize (allE d.1).count (j : Int) = cn at *
      generalize m (j : Int) = mj at *
      generalize G j = gj at *
      by_cases hk0 : kd = 0
      · have hb0 : (kd == 0) = true := by simpa using hk0
        have HR : Hid (∀ k, k < j + 1 → lnkOK d.1 k = true) := HY.out (by rw [HO.out]; simp [hk0])
        clear hk0 HO HY HNO
        go_wp2
        go_roundw
        case rel => exact ⟨j + 1, by omega, by go_num, HBL.out, HR.out⟩
        case measure => simp [intOf]; omega
      · have hb0 : (kd == 0) = false := by simpa using hk0
        have HO2 : Hid (lnkOK d.1 j = (decide (((cn : Nat) : Int) = wl) && gj)) := by unfold Hid; rw [HO.out]; simp [hk0]
        clear hk0 HO
        by_cases hcw : ((cn : Nat) : Int) = wl
        rotate_left
        · have hbc : (((cn : Nat) : Int) != wl) = true := by simpa using hcw
          have hbd : (((cn : Nat) : Int) == wl) = false := by simpa using hcw
          have HR : Hid (treeF d.1 = 1) := HNO.out (by rw [HO2.out, decide_eq_false hcw]; rfl)
          clear hcw HO2 HY HNO
          go_wp2_with fail
          first
          | go_region_with (first
            | (go_at_call 52; refine (HLOJ.out _ HBW.out.drew).mono ?_; rintro e w2 ⟨rfl, hb2⟩
               have hfd := field_intR 0 ((cn : Nat) : Int)
               have y0 := cell_later hb2 x0
               have y1 := cell_later hb2 x1
               have HB2 : Hid (Below wr.heap.size wr w2) := (Below.refl _ _).drew.trans hb2
               clear hb2)
            | (go_at_call 53; refine (HLDJ.out _ (HBW.out.trans (HB2.out.mono HBW.out.size))).mono ?_; rintro e w3 ⟨rfl, hb3⟩
               have z0 := cell_later hb3 y0
               have z1 := cell_later hb3 y1
               have HB3 : Hid (Below wr.heap.size wr w3) := HB2.out.trans (hb3.mono HB2.out.size)
               clear hb3)
            | fail)
          | fail
          all_goals
            go_wp2
            go_ret
            exact ⟨ret_int HR.out.symm, HBW.out.trans (HB3.out.mono HBW.out.size)⟩
        · have hbc : (((cn : Nat) : Int) != wl) = false := by simpa using hcw
          have hbd : (((cn : Nat) : Int) == wl) = true := by simpa using hcw
          have HO3 : Hid (lnkOK d.1 j = gj) := by unfold Hid; rw [HO2.out, decide_eq_true hcw]; simp
          clear hcw HO2
          cases gj with
          | true =>
            have HR : Hid (∀ k, k < j + 1 → lnkOK d.1 k = true) := HY.out HO3.out
            clear HO3 HY HNO
            go_wp2_with fail
            go_region_held3 (fun W => W.cell? ⟨w.heap.size, 0, none⟩ = some (.slice (some ⟨b0, o0, none⟩) n cI) ∧ W.cell? ⟨w.heap.size, 1, none⟩ = some (.slice aD nD cD)) (go_keep) (first
              | (go_at_call 52; refine (HLOJ.out _ HBW.out.drew).mono ?_; rintro e w2 ⟨rfl, hb2⟩
                 have hfd := field_intR 0 ((cn : Nat) : Int)
                 have y0 := cell_later hb2 x0
                 have y1 := cell_later hb2 x1
                 have HB2 : Hid (Below wr.heap.size wr w2) := (Below.refl _ _).drew.trans hb2
                 clear hb2)
              | (go_at_call 53; refine (HLDJ.out _ (HBW.out.trans (HB2.out.mono HBW.out.size))).mono ?_; rintro e w3 ⟨rfl, hb3⟩
                 have z0 := cell_later hb3 y0
                 have z1 := cell_later hb3 y1
                 have HB3 : Hid (Below wr.heap.size wr w3) := HB2.out.trans (hb3.mono HB2.out.size)
                 have hlk := HLKJ.out w3 (HBL.out.trans (HB3.out.mono HBL.out.size))
                 clear hb3)
              | fail)
            all_goals
              go_wp2
              go_roundw
              case rel => exact ⟨j + 1, by omega, by go_num, HBL.out.trans (HB3.out.mono HBL.out.size), HR.out⟩
              case measure => simp [intOf]; omega
          | false =>
            have HR : Hid (treeF d.1 = 1) := HNO.out HO3.out
            clear HO3 HY HNO
            go_wp2_with fail
            go_region_held3 (fun W => W.cell? ⟨w.heap.size, 0, none⟩ = some (.slice (some ⟨b0, o0, none⟩) n cI) ∧ W.cell? ⟨w.heap.size, 1, none⟩ = some (.slice aD nD cD)) (go_keep) (first
              | (go_at_call 52; refine (HLOJ.out _ HBW.out.drew).mono ?_; rintro e w2 ⟨rfl, hb2⟩
                 have hfd := field_intR 0 ((cn : Nat) : Int)
                 have y0 := cell_later hb2 x0
                 have y1 := cell_later hb2 x1
                 have HB2 : Hid (Below wr.heap.size wr w2) := (Below.refl _ _).drew.trans hb2
                 clear hb2)
              | (go_at_call 53; refine (HLDJ.out _ (HBW.out.trans (HB2.out.mono HBW.out.size))).mono ?_; rintro e w3 ⟨rfl, hb3⟩
                 have z0 := cell_later hb3 y0
                 have z1 := cell_later hb3 y1
                 have HB3 : Hid (Below wr.heap.size wr w3) := HB2.out.trans (hb3.mono HB2.out.size)
                 have hlk := HLKJ.out w3 (HBL.out.trans (HB3.out.mono HBL.out.size))
                 clear hb3)
              | fail)
            all_goals
              go_wp2
              go_ret
              exact ⟨ret_int HR.out.symm, HBW.out.trans (HB3.out.mono HBW.out.size)⟩
    · have HR : Hid (treeF d.1 = 0) := by unfold Hid treeF; rw [linksB_yes fun i hi => HZ.out i (by rw [HN.out] at hi; omega)]; rfl
      go_wp2
      go_ret
      exact ⟨ret_int HR.out.symm, HBW.out⟩
end Go.Proofs.Ytlohgnidbkechaa

namespace Go.Proofs.Ytlohgnidbkechaa
open Go.RowKit
set_option maxRecDepth 100000

theorem ino_size {d : ID} (h : inoF d = 0) : 0 ≤ d.2.2.1 ∧ d.2.2.1 ≤ 32 ∧ ((d.2.2.2.1.length : Nat) : Int) = (d.2.2.1 + 7) / 8 := by
  unfold inoF at h
  have fp : fpB d = false → d.2.2.1 = 0 ∧ d.2.2.2.1.length = 0 := fun hf => by
    unfold fpB at hf
    simp at hf
    exact ⟨hf.1.2, by rw [hf.2]; rfl⟩
  by_cases h0 : d.1 = 0
  · rw [if_pos h0] at h
    have hf : fpB d = false := by
      cases e : fpB d with
      | false => rfl
      | true => rw [e] at h; simp at h
    obtain ⟨h1, h2⟩ := fp hf
    omega
  · rw [if_neg h0] at h
    by_cases h1 : d.1 = 1
    · rw [if_pos h1] at h
      have hd : dpB d = false := by
        cases e : dpB d with
        | false => rfl
        | true => rw [e] at h; simp at h
      rw [hd] at h
      simp only [Bool.false_eq_true, if_false] at h
      unfold fileF at h
      by_cases hl : linkB d.2.1 = true ∧ sizeB d.2.2.1 = true
      · rw [if_pos hl] at h
        have hz := hl.2
        unfold sizeB at hz
        simp at hz
        by_cases hb : ((d.2.2.2.1.length : Nat) : Int) = (d.2.2.1 + 7) / 8
        · exact ⟨hz.1, hz.2, hb⟩
        · rw [if_neg hb] at h; omega
      · rw [if_neg hl] at h; omega
    · rw [if_neg h1] at h
      by_cases h2 : d.1 = 2
      · rw [if_pos h2] at h
        have hf : fpB d = false := by
          cases e : fpB d with
          | false => rfl
          | true => rw [e] at h; simp at h
        obtain ⟨h3, h4⟩ := fp hf
        omega
      · rw [if_neg h2] at h; omega
theorem ino_six {d : ID} (h : inoF d = 0) : d.2.2.2.2.length ≤ 6 := by
  unfold inoF at h
  have dp : dpB d = false → d.2.2.2.2.length = 0 := fun hd => by unfold dpB at hd; simp at hd; rw [hd]; rfl
  by_cases h0 : d.1 = 0
  · rw [if_pos h0] at h
    have hd : dpB d = false := by
      cases e : dpB d with
      | false => rfl
      | true => rw [e] at h; simp at h
    have := dp hd
    omega
  · rw [if_neg h0] at h
    by_cases h1 : d.1 = 1
    · rw [if_pos h1] at h
      have hd : dpB d = false := by
        cases e : dpB d with
        | false => rfl
        | true => rw [e] at h; simp at h
      have := dp hd
      omega
    · rw [if_neg h1] at h
      by_cases h2 : d.1 = 2
      · rw [if_pos h2] at h
        by_cases hf : fpB d = true
        · rw [if_pos hf] at h; omega
        · rw [if_neg hf] at h
          unfold dirF at h
          by_cases h6 : 6 < d.2.2.2.2.length
          · rw [if_pos h6] at h; omega
          · omega
      · rw [if_neg h2] at h; omega

theorem lt_of_cell {w : World} {b o : Nat} {v : Value} (h : w.cell? ⟨b, o, none⟩ = some v) : b < w.heap.size := by
  by_cases hb : b < w.heap.size
  · exact hb
  · simp [World.cell?, Array.getElem?_eq_none (Nat.le_of_not_lt hb)] at h
theorem wrap_in (x : Int) (h0 : -9223372036854775808 ≤ x) (h1 : x ≤ 9223372036854775807) : IntKind.i64.wrap x = x := by
  unfold IntKind.wrap
  simp only [IntKind.signed, IntKind.bits]
  simp
  split <;> omega
def m8 (x : Int) : Int := if 8 < x then 8 else x
def putD (f : Nat → Int) (b v : Int) : Nat → Int := fun i => if i = b.toNat then v else f i
/-- How many bytes each block has to hold, behind k blocks of one inode, behind j inodes. -/
def dueK (s : Int) (bs : List Int) (f : Nat → Int) : Nat → Nat → Int
  | 0 => f
  | k + 1 => putD (dueK s bs f k) (bs[k]?.getD 0) (m8 (s - 8 * (k : Int)))
def dueI (ds : List ID) : Nat → Nat → Int
  | 0 => fun _ => 0
  | j + 1 => dueK (ds[j]?.getD id0).2.2.1 (ds[j]?.getD id0).2.2.2.1 (dueI ds j) (ds[j]?.getD id0).2.2.2.1.length
def sizOK (d : FD) (i : Nat) : Bool := decide ((((d.2[i]?.getD []).length : Nat) : Int) = dueI d.1 d.1.length i)
def sizesB (d : FD) : Bool := (List.range 20).all (sizOK d)
theorem sizesB_no {d : FD} {i : Nat} (hi : i < 20) (h : sizOK d i = false) : sizesB d = false := by
  unfold sizesB
  rw [List.all_eq_false]
  exact ⟨i, by simpa using hi, by simp [h]⟩
theorem sizesB_yes {d : FD} (h : ∀ i, i < 20 → sizOK d i = true) : sizesB d = true := by
  unfold sizesB
  rw [List.all_eq_true]
  intro i hi
  exact h i (by simpa using hi)
def intF (f : Nat → Int) (i : Nat) : Value := .int .i64 (f i)

end Go.Proofs.Ytlohgnidbkechaa

namespace Go.Proofs.Ytlohgnidbkechaa
open Go.RowKit
set_option maxRecDepth 100000

def fsF (d : FD) : Int := if fsE d = 0 then (if linksB d.1 && sizesB d then 0 else 1) else fsE d
theorem fsE_zero {d : FD} (h : fsE d = 0) : insF d.1 = 0 ∧ formB d = false ∧ fstNZ (manyF d.2) d.2.length = 0 ∧ onceB d.1 20 = true ∧ lostF d.1 = 0 := by
  unfold fsE at h
  by_cases h1 : insF d.1 = 0
  · rw [if_pos h1] at h
    by_cases h2 : formB d = true
    · rw [if_pos h2] at h; omega
    · rw [if_neg h2] at h
      by_cases h3 : fstNZ (manyF d.2) d.2.length = 0
      · rw [if_pos h3] at h
        by_cases h4 : onceB d.1 20 = true
        · rw [if_pos h4] at h
          exact ⟨h1, by simpa using h2, h3, h4, h⟩
        · rw [if_neg h4] at h; omega
      · rw [if_neg h3] at h; exact absurd h h3
  · rw [if_neg h1] at h; exact absurd h h1
theorem formB_no {d : FD} (h : formB d = false) : ¬ d.1.length = 0 ∧ kindAt d.1 0 = 2 ∧ d.2.length = 20 := by
  unfold formB at h
  simp at h
  obtain ⟨⟨h1, h2⟩, h3⟩ := h
  exact ⟨fun e => h1 (List.eq_nil_of_length_eq_zero e), h2, h3⟩
theorem insF_ten {ds : List ID} (h : insF ds = 0) : ds.length ≤ 10 := by
  unfold insF at h
  by_cases h1 : 10 < ds.length
  · rw [if_pos h1] at h; omega
  · omega
theorem lost_in {ds : List ID} (hi : insF ds = 0) (h : lostF ds = 0) : ∀ j, j < ds.length → ∀ k, k < (ds[j]?.getD id0).2.2.2.2.length → 0 ≤ ((ds[j]?.getD id0).2.2.2.2[k]?.getD en0).2 ∧ ((ds[j]?.getD id0).2.2.2.2[k]?.getD en0).2 < (ds.length : Int) := fun j hj k hk => by
  refine ⟨ino_ent (ins_ino hi j hj) k hk, ?_⟩
  cases hl : lostB ds ((ds[j]?.getD id0).2.2.2.2[k]?.getD en0).2 with
  | true => rw [lost_yes hj hk hl] at h; omega
  | false =>
    unfold lostB at hl
    simp at hl
    omega
theorem ins_blk {ds : List ID} (h : insF ds = 0) (j k : Nat) (hj : j < ds.length) (hk : k < (ds[j]?.getD id0).2.2.2.1.length) : 0 ≤ (ds[j]?.getD id0).2.2.2.1[k]?.getD 0 ∧ (ds[j]?.getD id0).2.2.2.1[k]?.getD 0 < 20 := by
  have := insF_blocks h j k hj hk
  omega

theorem FsX.box {w : World} {a1 : Option Addr} {n1 c1 : Nat} {a2 : Option Addr} {n2 c2 : Nat} {d : FD} (h : FsR w (.slice a1 n1 c1) (.slice a2 n2 c2) d) (t : TypeId) : FsX (w.alloc (.cells #[.slice a1 n1 c1, .slice a2 n2 c2] t)) w.heap.size 0 d a1 c1 a2 c2 ∧ n1 = d.1.length ∧ n2 = d.2.length := by
  obtain ⟨_, _, e1, _, _⟩ := h.1.open'
  obtain ⟨_, _, e2, _, _⟩ := h.2.open'
  simp only [Value.slice.injEq] at e1 e2
  obtain ⟨rfl, rfl, rfl⟩ := e1
  obtain ⟨rfl, rfl, rfl⟩ := e2
  have hx := Bx.new w [.slice a1 d.1.length c1, .slice a2 d.2.length c2] t
  exact ⟨⟨hx 0 _ rfl, hx 1 _ rfl, h.1.later (later1 _ _), h.2.later (later1 _ _)⟩, rfl, rfl⟩
end Go.Proofs.Ytlohgnidbkechaa
