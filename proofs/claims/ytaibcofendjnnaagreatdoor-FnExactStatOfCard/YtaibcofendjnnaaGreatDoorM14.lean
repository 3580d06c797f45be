/- Answers with a kern: how they read, what they own, and the walks of the laws' functions over them. What the laws of chapter 5 ask: how long the answers are. The program's LinksOf. The program: links and places. -/
import Derived.Test.YtaibcofendjnnaaGreatDoorM13
import Derived.Test.YtaibcofendjnnaaGreatDoorM05
import Derived.Test.YtaibcofendjnnaaGreatDoorM09
import Derived.Deep.RegionHeld3
namespace Go.Proofs.YtaibcofendjnnaaGreatDoor
open Go.RowKit
set_option maxRecDepth 100000

abbrev KResD := List Int × KD
def KResR (w : World) (vW vB vC vE : Value) (d : KResD) : Prop := Ints w vW d.1 ∧ KernR w vB vC vE d.2
theorem KResR.later {w w' : World} {vW vB vC vE : Value} {d : KResD} (h : KResR w vW vB vC vE d) (hb : Below w.heap.size w w') : KResR w' vW vB vC vE d := ⟨h.1.later hb, h.2.later hb⟩
def KResU (w : World) (vW vB vC vE : Value) (d : KResD) (F : Nat → Prop) : Prop := ∃ F1 G1 : Nat → Prop, IntsO w vW d.1 F1 ∧ KernU w vB vC vE d.2 G1 ∧ (∀ b, F1 b → ¬ G1 b) ∧ ∀ b, F1 b ∨ G1 b → F b
theorem KResU.reads {w : World} {vW vB vC vE : Value} {d : KResD} {F : Nat → Prop} (h : KResU w vW vB vC vE d F) : KResR w vW vB vC vE d := by
  obtain ⟨_, _, h1, h2, _⟩ := h
  exact ⟨h1.reads, h2.reads⟩
theorem KResU.keep {w w' : World} {vW vB vC vE : Value} {d : KResD} {F : Nat → Prop} (h : KResU w vW vB vC vE d F) (e : ∀ b, F b → b < w.heap.size → w'.heap[b]? = w.heap[b]?) : KResU w' vW vB vC vE d F := by
  obtain ⟨F1, G1, h1, h2, hd, hf⟩ := h
  exact ⟨F1, G1, h1.keep fun b hb => e b (hf b (Or.inl hb)), h2.keep fun b hb => e b (hf b (Or.inr hb)), hd, hf⟩
theorem KResU.later {w w' : World} {vW vB vC vE : Value} {d : KResD} {F : Nat → Prop} (h : KResU w vW vB vC vE d F) (hb : Below w.heap.size w w') : KResU w' vW vB vC vE d F := h.keep fun b _ hlt => hb.block b hlt
theorem KResU.mono {w : World} {vW vB vC vE : Value} {d : KResD} {F G : Nat → Prop} (h : KResU w vW vB vC vE d F) (e : ∀ b, F b → G b) : KResU w vW vB vC vE d G := by
  obtain ⟨F1, G1, h1, h2, hd, hf⟩ := h
  exact ⟨F1, G1, h1, h2, hd, fun b hb => e b (hf b hb)⟩
theorem KResU.chg {w w' : World} {vW vB vC vE : Value} {d : KResD} {F G : Nat → Prop} (h : KResU w vW vB vC vE d F) (hc : Chg G w w') (hd : ∀ b, F b → ¬ G b) : KResU w' vW vB vC vE d F := h.keep fun b hb hlt => hc.block b hlt (hd b hb)

/-- An answer: a code, words and a kern, in new memory of its own. -/
def AnsKR (w : World) (r : Int × KResD) (e : Ending) (w' : World) : Prop := ∃ aW nW cW aB nB cB aC nC cC aE nE cE, e = .returned (.agg #[.int .i64 r.1, .slice aW nW cW, .slice aB nB cB, .slice aC nC cC, .slice aE nE cE]) ∧ Below w.heap.size w w' ∧ KResU w' (.slice aW nW cW) (.slice aB nB cB) (.slice aC nC cC) (.slice aE nE cE) r.2 (fresh w w')
theorem ansK_bad {w w' : World} (hb : Below w.heap.size w w') (c : Int) : AnsKR w (c, [], ([], []), []) (.returned (.agg #[.int .i64 c, .slice none 0 0, .slice none 0 0, .slice none 0 0, .slice none 0 0])) w' :=
  ⟨none, 0, 0, none, 0, 0, none, 0, 0, none, 0, 0, rfl, hb, fun _ => False, fun _ => False, Or.inl ⟨rfl, none, 0, rfl⟩, ⟨fun _ => False, fun _ => False, ⟨fun _ => False, fun _ => False, Or.inl ⟨rfl, none, 0, rfl⟩, Or.inl ⟨rfl, none, 0, rfl⟩, fun _ h => h.elim, fun _ h => h.elim id id⟩, Or.inl ⟨rfl, none, 0, rfl⟩, fun _ h => h.elim, fun _ h => h.elim id id⟩, fun _ h => h.elim, fun _ h => h.elim False.elim False.elim⟩

theorem Bx.new5 (w : World) (a b c d e : Value) (t : TypeId) (i : Nat) (v : Value) (h : [a, b, c, d, e][i]? = some v) : (w.alloc (.cells #[a, b, c, d, e] t)).cell? ⟨w.heap.size, i, none⟩ = some v := Bx.new w [a, b, c, d, e] t i v h

def spanKRes (d : KResD) : Nat := d.1.length + spanKern d.2
def mkKRes (k : Int) (d : KResD) : KResD := (marks k d.1.length, mkKern (k + (d.1.length : Nat)) d.2)
theorem IntsO.bound' {w : World} {v : Value} {zs : List Int} {F : Nat → Prop} (h : IntsO w v zs F) : IntsO w v zs (fun b => F b ∧ b < w.heap.size) := by
  rcases h with h | ⟨b, cap, hF, h1, h2, h3⟩
  · exact Or.inl h
  · exact Or.inr ⟨b, cap, ⟨hF, h3.lt⟩, h1, h2, h3⟩

theorem eqIntResultU (w : World) (c v : Int) :
    Calls Tryz.prog 11 #[.agg #[.int .i64 c, .int .i64 v], .agg #[.int .i64 c, .int .i64 v]] w fun e w' => e = .returned (.bool true) ∧ Below w.heap.size w w' := by
  have h0 : (c != c) = false := by simp
  have h1 : (v != v) = false := by simp
  go_enter Tryz.func11, Tryz.ntmps11
  go_wp2
  go_ret
  exact ⟨rfl, later2 _ _ _⟩
end Go.Proofs.YtaibcofendjnnaaGreatDoor

namespace Go.Proofs.YtaibcofendjnnaaGreatDoor
open Go.RowKit
set_option maxRecDepth 100000

theorem usedSpan (ds : List ID) : (usedR ds).2.length ≤ 20 := by
  have := selL_len (usedP ds) 20
  unfold usedR
  split
  · split
    · exact this
    · simp
  · simp
theorem freeSpan (ds : List ID) (bs : List Int) : (freeR ds bs).2.length ≤ 20 := by
  have := selL_len (freeP ds bs) 20
  unfold freeR
  split
  · exact this
  · simp
theorem pickSpan (ds : List ID) (bs : List Int) (k : Int) : (pickR ds bs k).2.length ≤ 20 := by
  have := selL_len (freeP ds bs) 20
  unfold pickR
  split
  · split
    · split
      · simp
      · show ((selL (freeP ds bs) 20).take k.toNat).length ≤ 20
        rw [List.length_take]
        omega
    · simp
  · simp
end Go.Proofs.YtaibcofendjnnaaGreatDoor

namespace Go.Proofs.YtaibcofendjnnaaGreatDoor
open Go.RowKit
set_option maxRecDepth 100000

set_option maxHeartbeats 6400000 in
theorem implLnk_in (w : World) (a : Option Addr) (n c : Nat) (ds : List ID) (v : Int) (r : Int) (hr0 : r = 0) (hdn : ds.length = n) (hn : n ≤ 1048576) (hs : (isz ds).sum ≤ 1048576) (hv : 0 ≤ v ∧ v ≤ (n : Int) - 1) (hc : AtI w a n ds)
    (hF : ∀ W, Below w.heap.size w W → Calls Tryz.prog 146 #[.slice a n c] W fun e w' => e = .returned (.int .i64 r) ∧ Below W.heap.size W w') :
    Calls Tryz.prog 116 #[.slice a n c, .int .i64 v] w fun e w' => e = .returned (.agg #[.int .i64 0, .int .i64 (((allE ds).count v : Nat) : Int)]) ∧ Below w.heap.size w w' := by
  subst hr0
  have HF : Hid (∀ W, Below w.heap.size w W → Calls Tryz.prog 146 #[.slice a n c] W fun e w' => e = .returned (.int .i64 0) ∧ Below W.heap.size W w') := hF
  have HC : Hid (AtI w a n ds) := hc
  have HT : Hid ((allE ds).count v = (((ds.take n).flatMap fun d => entI d.2.2.2.2)).count v) := by unfold Hid allE; rw [List.take_of_length_le (by omega)]
  have HS : Hid (∀ j, (((ds.take j).flatMap fun d => entI d.2.2.2.2)).count v ≤ 1048576) := fun j => by
    have h1 := flat_take (fun d : ID => entI d.2.2.2.2) ds j
    have h2 := allE_len ds
    have h3 := List.count_le_length (a := v) (l := (ds.take j).flatMap fun d => entI d.2.2.2.2)
    unfold allE at h2
    omega
  have HX : Hid (∀ j, j < n → ((ds.take (j + 1)).flatMap fun d => entI d.2.2.2.2).count v = ((ds.take j).flatMap fun d => entI d.2.2.2.2).count v + (entI (ds[j]?.getD id0).2.2.2.2).count v) := fun j hj => by
    rw [flat_next (fun d : ID => entI d.2.2.2.2) ds id0 j (by omega), List.count_append]
  have HZ : Hid (∀ j, (ds[j]?.getD id0).2.2.2.2.length ≤ 1048576) := fun j => by
    have := isz_le ds j
    have hd : sizeIno (ds[j]?.getD id0) = (ds[j]?.getD id0).2.2.2.1.length + ((ds[j]?.getD id0).2.2.2.2.length + (nlens (ds[j]?.getD id0).2.2.2.2).sum) := rfl
    omega
  rw [HT.out]
  clear hc hdn hs HT hF
  generalize hG : (fun j => ((ds.take j).flatMap fun d => entI d.2.2.2.2).count v) = G at *
  have HG : Hid (∀ j, ((ds.take j).flatMap fun d => entI d.2.2.2.2).count v = G j) := fun j => congrFun hG j
  simp only [HG.out] at HS HX ⊢
  have HG0 : Hid (G 0 = 0) := by unfold Hid; rw [← HG.out 0]; simp
  clear hG HG
  have hv0 : decide (v < 0) = false := by simp; omega
  have hv1 : decide ((n : Int) ≤ v) = false := by simp; omega
  clear hv
  have HRB : Hid (OwnRow (w.alloc (.cells #[.int .i64 0, .int .i64 0] 28)) w.heap.size 2 (fun i => if i = 0 then .int .i64 0 else .int .i64 0)) := OwnRow.newS w (.int .i64 0) (.int .i64 0) _
  have HB0 : Hid (Below w.heap.size w (w.alloc (.cells #[.int .i64 0, .int .i64 0] 28))) := later1 _ _
  go_enter Tryz.func116, Tryz.ntmps116
  go_wp2_with fail
  generalize hW : w.alloc (Obj.cells #[.int .i64 0, .int .i64 0] 28) = W at *
  clear hW
  refine (HF.out _ HB0.out).mono ?_
  rintro e w1 ⟨rfl, hb1⟩
  have HB1 : Hid (Below w.heap.size w w1) := HB0.out.trans (hb1.mono HB0.out.size)
  have HR1 : Hid (OwnRow w1 w.heap.size 2 (fun i => if i = 0 then .int .i64 0 else .int .i64 0)) := HRB.out.later hb1
  clear hb1 HF HRB HB0
  go_wp2
  go_loopw [6, 28] (fun q i wr => ∃ j : Nat, j ≤ n ∧ i = .int .i64 j ∧ q = .int .i64 ((G j : Nat) : Int) ∧ Below w1.heap.size w1 wr) (fun _ i _ => n - (intOf i).toNat)
  case atStart => exact ⟨0, Nat.zero_le _, rfl, by rw [HG0.out]; rfl, Below.refl _ _⟩
  case round =>
    obtain ⟨j, hj, rfl, rfl, hbl⟩ := hrel
    have HBL : Hid (Below w1.heap.size w1 wr) := hbl
    have HBW : Hid (Below w.heap.size w wr) := HB1.out.trans (hbl.mono HB1.out.size)
    clear hbl
    by_cases hlt : j < n
    · obtain ⟨b, o, rfl, hI⟩ := HC.out j hlt
      obtain ⟨aB, cB, aE, cE, c0, c1, c2, c3, c4, h5⟩ := hI.later HBW.out
      obtain ⟨_, _, e1, hm1, _, hc1⟩ := h5.2.2.open'
      simp only [Value.slice.injEq] at e1
      obtain ⟨rfl, _, rfl⟩ := e1
      have HZJ := HZ.out j
      have HSJ := HS.out (j + 1)
      have HXJ' : Hid (G (j + 1) = G j + (entI (ds[j]?.getD id0).2.2.2.2).count v) := HX.out j hlt
      clear h5 HC hI
      generalize (ds[j]?.getD id0) = d at *
      obtain ⟨dk, dl, dz, db, es⟩ := d
      dsimp only at *
      have HCB : Hid (AtN wr aE es.length es) := hc1
      obtain ⟨nB, hnB⟩ : ∃ nB, nB = es.length := ⟨_, rfl⟩
      have HNB : Hid (nB = es.length) := hnB
      have HNI : Hid (nB = (entI es).length) := by unfold Hid; rw [entI_len]; exact hnB
      rw [← hnB] at c4 hm1 HZJ
      have hle : G j + (entI es).count v ≤ 1048576 := by have := HXJ'.out; omega
      have HEG : Hid (∀ k : Nat, (entI es)[k]?.getD 0 = (es[k]?.getD en0).2) := fun k => entI_get es k
      clear hc1 hnB HSJ
      generalize entI es = bs at *
      generalize db.length = nD at *
      go_wp2
      clear c0 c1 c2 c3 c4
      obtain ⟨wo, rfl⟩ : ∃ wo, wo = wr := ⟨_, rfl⟩
      go_loopw [6, 35] (fun q i wr2 => ∃ k : Nat, k ≤ nB ∧ i = .int .i64 k ∧ q = .int .i64 (((G j + (bs.take k).count v : Nat)) : Int) ∧ Below wo.heap.size wo wr2) (fun _ i _ => nB - (intOf i).toNat)
      case atStart => exact ⟨0, Nat.zero_le _, rfl, by simp, later1 _ _⟩
      case round =>
        obtain ⟨k, hk, rfl, rfl, hbl2⟩ := hrel
        have HB2 : Hid (Below wo.heap.size wo wr) := hbl2
        clear hbl2
        by_cases hlk : k < nB
        · obtain ⟨b1, o1, rfl, d0, d1⟩ := HCB.out k (by rw [← HNB.out]; exact hlk)
          rw [← HEG.out k] at d1
          replace d0 := cell_later HB2.out d0
          replace d1 := cell_later HB2.out d1
          have hcn := count_next bs v k (by rw [← HNI.out]; exact hlk)
          have HCN : Hid ((bs.take (k + 1)).count v = (bs.take k).count v + (if bs[k]?.getD 0 = v then 1 else 0)) := hcn
          have hct : (bs.take k).count v ≤ bs.count v := List.Sublist.count_le v (List.take_sublist k bs)
          generalize (bs.take k).count v = ck at *
          clear hcn HCB HEG
          generalize (es[k]?.getD en0).1 = nm at *
          generalize bs[k]?.getD 0 = x at *
          by_cases hxv : x = v
          · have hxb : (x == v) = true := by simpa using hxv
            have HCN' : Hid ((bs.take (k + 1)).count v = ck + 1) := by unfold Hid; rw [HCN.out, if_pos hxv]
            clear hxv HCN
            go_wp2
            go_roundw
            case rel => exact ⟨k + 1, by omega, by go_num, by rw [HCN'.out]; go_num, HB2.out.trans ((later1 _ _).mono HB2.out.size)⟩
            case measure => simp [intOf]; omega
          · have hxb : (x == v) = false := by simpa using hxv
            have HCN' : Hid ((bs.take (k + 1)).count v = ck) := by unfold Hid; rw [HCN.out, if_neg hxv, Nat.add_zero]
            clear hxv HCN
            go_wp2
            go_roundw
            case rel => exact ⟨k + 1, by omega, by go_num, by rw [HCN'.out], HB2.out.trans ((later1 _ _).mono HB2.out.size)⟩
            case measure => simp [intOf]; omega
        · have hkn : bs.take k = bs := List.take_of_length_le (by rw [← HNI.out]; omega)
          rw [hkn]
          clear hkn
          have HE : Hid (((G j + bs.count v : Nat) : Int) = ((G (j + 1) : Nat) : Int)) := by unfold Hid; rw [HXJ'.out]
          go_wp2
          go_roundw
          case rel => exact ⟨j + 1, by omega, by go_num, by rw [HE.out], HBL.out.trans (HB2.out.mono HBL.out.size)⟩
          case measure => simp [intOf]; omega
    · have HJ : Hid (G j = G n) := by unfold Hid; rw [show j = n by omega]
      have hrow : OwnRow wr w.heap.size 2 (fun i => if i = 0 then .int .i64 0 else .int .i64 0) := HR1.out.later HBL.out
      have t0 := hrow.cell (i := 0) (by omega)
      have t1 := hrow.cell (i := 1) (by omega)
      have s0 := hrow.frozen 0
      have s1 := hrow.frozen 1
      simp only [ite_self] at t0 t1
      have hz1 := hrow.lt
      clear hrow
      go_wp2
      exact bodyPost_ret (v := .agg #[.int .i64 0, .int .i64 ((G j : Nat) : Int)]) (by simp [results, Tryz.results116, go_sem, t0, t1]) rfl ⟨by rw [HJ.out], (HBW.out.setCell (by simp) _).setCell (by simp) _⟩

set_option maxHeartbeats 3200000 in
theorem implLnkU (w : World) (a : Option Addr) (n c : Nat) (ds : List ID) (x : Int) (h : Inos w (.slice a n c) ds) (hs : sizeInos ds ≤ 1048576) :
    Calls Tryz.prog 116 #[.slice a n c, .int .i64 x] w fun e w' => e = .returned (.agg #[.int .i64 (lnkR ds x).1, .int .i64 (lnkR ds x).2]) ∧ Below w.heap.size w w' := by
  have HF : Hid (∀ W, Below w.heap.size w W → Calls Tryz.prog 146 #[.slice a n c] W fun e w' => e = .returned (.int .i64 (insF ds)) ∧ Below W.heap.size W w') := fun W hW => inodesFault_any (h.later hW) hs
  obtain ⟨_, _, esh, hml, hc⟩ := h.open'
  simp only [Value.slice.injEq] at esh
  obtain ⟨rfl, rfl, rfl⟩ := esh
  have hss : (isz ds).sum ≤ 1048576 ∧ ds.length ≤ 1048576 := by unfold sizeInos at hs; omega
  have HR : Hid (lnkR ds x = if insF ds = 0 then (if 0 ≤ x ∧ x ≤ (ds.length : Int) - 1 then (0, (((allE ds).count x : Nat) : Int)) else (3, 0)) else (insF ds, 0)) := rfl
  rw [HR.out]
  by_cases hf : insF ds = 0
  · rw [if_pos hf]
    by_cases hq : 0 ≤ x ∧ x ≤ (ds.length : Int) - 1
    · rw [if_pos hq]
      exact implLnk_in w a ds.length c ds x (insF ds) hf rfl hss.2 hss.1 hq hc HF.out
    · rw [if_neg hq]
      rw [hf] at HF
      clear HR h hs hml hc hf
      have hn' := hss.2
      generalize ds.length = n at *
      clear hss
      have step : ∀ P : Prop, (decide (x < 0) = true → P) → (decide (x < 0) = false → decide ((n : Int) ≤ x) = true → P) → P := fun P h1 h2 => by
        by_cases h0 : x < 0
        · exact h1 (by simpa using h0)
        · exact h2 (by simpa using h0) (by simp; omega)
      clear hq
      have HRB : Hid (OwnRow (w.alloc (.cells #[.int .i64 0, .int .i64 0] 28)) w.heap.size 2 (fun i => if i = 0 then .int .i64 0 else .int .i64 0)) := OwnRow.newS w (.int .i64 0) (.int .i64 0) _
      have HB0 : Hid (Below w.heap.size w (w.alloc (.cells #[.int .i64 0, .int .i64 0] 28))) := later1 _ _
      apply step
      all_goals
        intros
        clear step
        go_enter Tryz.func116, Tryz.ntmps116
        go_wp2_with fail
        generalize hW : w.alloc (Obj.cells #[.int .i64 0, .int .i64 0] 28) = W at *
        clear hW
        refine (HF.out _ HB0.out).mono ?_
        rintro e w1 ⟨rfl, hb1⟩
        have HB1 : Hid (Below w.heap.size w w1) := HB0.out.trans (hb1.mono HB0.out.size)
        have hrow : OwnRow w1 w.heap.size 2 (fun i => if i = 0 then .int .i64 0 else .int .i64 0) := HRB.out.later hb1
        have t0 := hrow.cell (i := 0) (by omega)
        have t1 := hrow.cell (i := 1) (by omega)
        have s0 := hrow.frozen 0
        have s1 := hrow.frozen 1
        simp only [ite_self] at t0 t1
        have hz1 := hrow.lt
        clear hb1 hrow
        go_wp2
        exact bodyPost_ret (v := .agg #[.int .i64 3, .int .i64 0]) (by simp [results, Tryz.results116, go_sem, t0, t1]) rfl ⟨rfl, (HB1.out.setCell (by simp) _).setCell (by simp) _⟩
  · rw [if_neg hf]
    have hr : (insF ds != 0) = true := by simpa using hf
    clear HR h hs hml hc hf hss
    generalize insF ds = r at *
    generalize ds.length = n at *
    have HRB : Hid (OwnRow (w.alloc (.cells #[.int .i64 0, .int .i64 0] 28)) w.heap.size 2 (fun i => if i = 0 then .int .i64 0 else .int .i64 0)) := OwnRow.newS w (.int .i64 0) (.int .i64 0) _
    have HB0 : Hid (Below w.heap.size w (w.alloc (.cells #[.int .i64 0, .int .i64 0] 28))) := later1 _ _
    go_enter Tryz.func116, Tryz.ntmps116
    go_wp2_with fail
    generalize hW : w.alloc (Obj.cells #[.int .i64 0, .int .i64 0] 28) = W at *
    clear hW
    refine (HF.out _ HB0.out).mono ?_
    rintro e w1 ⟨rfl, hb1⟩
    have HB1 : Hid (Below w.heap.size w w1) := HB0.out.trans (hb1.mono HB0.out.size)
    have hrow : OwnRow w1 w.heap.size 2 (fun i => if i = 0 then .int .i64 0 else .int .i64 0) := HRB.out.later hb1
    have t0 := hrow.cell (i := 0) (by omega)
    have t1 := hrow.cell (i := 1) (by omega)
    have s0 := hrow.frozen 0
    have s1 := hrow.frozen 1
    simp only [ite_self] at t0 t1
    have hz1 := hrow.lt
    clear hb1 hrow
    go_wp2
    exact bodyPost_ret (v := .agg #[.int .i64 r, .int .i64 0]) (by simp [results, Tryz.results116, go_sem, t0, t1]) rfl ⟨rfl, (HB1.out.setCell (by simp) _).setCell (by simp) _⟩
end Go.Proofs.YtaibcofendjnnaaGreatDoor

namespace Go.Proofs.YtaibcofendjnnaaGreatDoor
open Go.RowKit Go.Maps
set_option maxRecDepth 100000

set_option maxHeartbeats 1600000 in
theorem linksDue_any (w : World) (aI : Option Addr) (n cI : Nat) (aD : Option Addr) (nD cD : Nat) (ds : List ID) (j : Nat) (hj : j < n) (hc : AtI w aI n ds) :
    Calls Tryz.prog 117 #[.agg #[.slice aI n cI, .slice aD nD cD], .int .i64 (j : Int)] w fun e w' => e = .returned (.int .i64 (wantL ds j)) ∧ Below w.heap.size w w' := by
  obtain ⟨b0, o0, rfl, hI⟩ := hc j hj
  obtain ⟨_, _, _, _, k0, k1, _⟩ := hI.later (later1 w (.cells #[.slice (some ⟨b0, o0, none⟩) n cI, .slice aD nD cD] 32))
  have HW : Hid (wantL ds j = if (ds[j]?.getD id0).1 = 1 then (ds[j]?.getD id0).2.1 else if j = 0 then 0 else 1) := rfl
  clear hI hc
  generalize (ds[j]?.getD id0).1 = kd at *
  generalize (ds[j]?.getD id0).2.1 = lk at *
  by_cases hk1 : kd = 1
  · have hb1 : (kd == 1) = true := by simpa using hk1
    have HR : Hid (wantL ds j = lk) := by unfold Hid; rw [HW.out, if_pos hk1]
    clear hk1 HW
    go_enter Tryz.func117, Tryz.ntmps117
    go_wp2
    go_ret
    exact ⟨ret_int HR.out.symm, later1 _ _⟩
  · have hb1 : (kd == 1) = false := by simpa using hk1
    by_cases hj0 : j = 0
    · have hbj : ((j : Int) == 0) = true := by simp [hj0]
      have HR : Hid (wantL ds j = 0) := by unfold Hid; rw [HW.out, if_neg hk1, if_pos hj0]
      clear hk1 hj0 HW
      go_enter Tryz.func117, Tryz.ntmps117
      go_wp2
      go_ret
      exact ⟨ret_int HR.out.symm, later1 _ _⟩
    · have hbj : ((j : Int) == 0) = false := by simp; omega
      have HR : Hid (wantL ds j = 1) := by unfold Hid; rw [HW.out, if_neg hk1, if_neg hj0]
      clear hk1 hj0 HW
      go_enter Tryz.func117, Tryz.ntmps117
      go_wp2
      go_ret
      exact ⟨ret_int HR.out.symm, later1 _ _⟩
theorem field_intR (z v : Int) (w : World) : (Instr.field 28 (.agg #[.int .i64 z, .int .i64 v]) 1).run Tryz.prog w = .ok (.int .i64 v) w := by rfl
def treeF (ds : List ID) : Int := if linksB ds then 0 else 1

theorem map_zero {ds : List ID} {m : Int → Int} (hr : inRange ds) (h0 : 0 < ds.length) (hp : ∀ i : Nat, 0 < m (i : Int) ↔ RP (entsOf ds) i) (hnn : ∀ x, 0 ≤ m x) (j : Nat) : (m (j : Int) == 0) = !reachG ds ds.length j := by
  cases hg : reachG ds ds.length j with
  | true =>
    have := (hp j).2 ((reachG_iff hr h0 j).1 hg)
    simp; omega
  | false =>
    have h1 : ¬ 0 < m (j : Int) := fun h => by
      have := (reachG_iff hr h0 j).2 ((hp j).1 h)
      rw [hg] at this; cases this
    have := hnn (j : Int)
    simp; omega
set_option maxHeartbeats 6400000 in
theorem treeFault_any (w : World) (aI : Option Addr) (nI cI : Nat) (aD : Option Addr) (nD cD : Nat) (d : FD) (h : FsR w (.slice aI nI cI) (.slice aD nD cD) d) (hs : sizeInos d.1 ≤ 1048576) (hi : insF d.1 = 0) (hn0 : 0 < d.1.length) (hn : d.1.length ≤ 10) (hr : inRange d.1) (h6 : ∀ i, (entsOf d.1 i).length ≤ 6) :
    Calls Tryz.prog 71 #[.agg #[.slice aI nI cI, .slice aD nD cD]] w fun e w' => e = .returned (.int .i64 (treeF d.1)) ∧ Below w.heap.size w w' := by
  have HX : Hid (Bx (w.alloc (.cells #[.slice aI nI cI, .slice aD nD cD] 32)) w.heap.size [.slice aI nI cI, .slice aD nD cD]) := Bx.new w [.slice aI nI cI, .slice aD nD cD] _
  obtain ⟨_, _, e2, hm2, hc⟩ := h.1.open'
  simp only [Value.slice.injEq] at e2
  obtain ⟨rfl, rfl, rfl⟩ := e2
  have HC : Hid (AtI w aI d.1.length d.1) := hc
  have HRF : Hid (∀ W, Below w.heap.size w W → Calls Tryz.prog 115 #[.slice aI d.1.length cI, .int .i64 0] W fun e w' => ∃ b N m, e = .returned (.map (some b)) ∧ Below W.heap.size W w' ∧ W.heap.size ≤ b ∧ Mp w' b N (fun x => decide (0 ≤ x ∧ x < (d.1.length : Int)) && !decide (m x = 0)) m ∧ (∀ i : Nat, 0 < m (i : Int) ↔ RP (entsOf d.1) i) ∧ ∀ x, 0 ≤ m x) := fun W hW => reachFrom_any W aI _ cI d.1 rfl hn0 hn (hc.later hW) hr h6
  have HLO : Hid (∀ W, Below w.heap.size w W → ∀ j : Nat, j < d.1.length → Calls Tryz.prog 116 #[.slice aI d.1.length cI, .int .i64 (j : Int)] W fun e w' => e = .returned (.agg #[.int .i64 0, .int .i64 (((allE d.1).count (j : Int) : Nat) : Int)]) ∧ Below W.heap.size W w') := fun W hW j hj => by
    have := implLnkU W aI _ cI d.1 (j : Int) (h.1.later hW) hs
    have e : lnkR d.1 (j : Int) = (0, (((allE d.1).count (j : Int) : Nat) : Int)) := by
      unfold lnkR
      rw [if_pos hi, if_pos (by omega)]
    rw [e] at this
    exact this
  have HLD : Hid (∀ W, Below w.heap.size w W → ∀ j : Nat, j < d.1.length → Calls Tryz.prog 117 #[.agg #[.slice aI d.1.length cI, .slice aD nD cD], .int .i64 (j : Int)] W fun e w' => e = .returned (.int .i64 (wantL d.1 j)) ∧ Below W.heap.size W w') := fun W hW j hj => linksDue_any W aI _ cI aD nD cD d.1 j hj (hc.later hW)
  have HMZ : Hid (∀ (m : Int → Int), (∀ i : Nat, 0 < m (i : Int) ↔ RP (entsOf d.1) i) → (∀ x, 0 ≤ m x) → ∀ j : Nat, (m (j : Int) == 0) = !reachG d.1 d.1.length j) := fun m h1 h2 j => map_zero hr hn0 h1 h2 j
  clear hc h hs hi hm2 hr h6
  obtain ⟨n, hnn⟩ : ∃ n, d.1.length = n := ⟨_, rfl⟩
  have HN : Hid (d.1.length = n) := hnn
  have HOK : Hid (∀ i, lnkOK d.1 i = (decide (kindAt d.1 i = 0) || (decide ((((allE d.1).count (i : Int) : Nat) : Int) = wantL d.1 i) && reachG d.1 n i))) := fun i => by rw [← hnn]; rfl
  rw [hnn] at HC HX HRF HLO HLD HMZ hn0 hn ⊢
  clear hnn
  generalize reachG d.1 n = G at *
  go_enter Tryz.func71, Tryz.ntmps71
  go_wp2_with fail
  refine (HRF.out _ (later1 _ _)).mono ?_
  rintro e w1 ⟨bm, N, m, rfl, hb1, hbm, hmp, hpos, hnn⟩
  have HB1 : Hid (Below w.heap.size w w1) := (later1 _ _).trans (hb1.mono (by simp))
  have HX1 : Hid (Bx w1 w.heap.size [.slice aI n cI, .slice aD nD cD]) := HX.out.later hb1
  have HMP : Hid (Mp w1 bm N (fun x => decide (0 ≤ x ∧ x < (n : Int)) && !decide (m x = 0)) m) := hmp
  have HZ0 : Hid (∀ j : Nat, (m (j : Int) == 0) = !G j) := HMZ.out m hpos hnn
  clear hb1 hmp hpos hnn HX HRF HMZ hbm
  have x0 := HX1.out 0 _ rfl
  go_wp2
  clear x0
  go_loopw [11] (fun i wr => ∃ j : Nat, j ≤ n ∧ i = .int .i64 j ∧ Below w1.heap.size w1 wr ∧ ∀ k, k < j → lnkOK d.1 k = true) (fun i _ => n - (intOf i).toNat)
  case atStart => exact ⟨0, Nat.zero_le _, rfl, Below.refl _ _, fun k hk => by omega⟩
  case round =>
    obtain ⟨j, hj, rfl, hbl, hz⟩ := hrel
    have HBL : Hid (Below w1.heap.size w1 wr) := hbl
    have HBW : Hid (Below w.heap.size w wr) := HB1.out.trans (hbl.mono HB1.out.size)
    have HZ : Hid (∀ k, k < j → lnkOK d.1 k = true) := hz
    have HX2 : Hid (Bx wr w.heap.size [.slice aI n cI, .slice aD nD cD]) := HX1.out.later hbl
    clear hbl hz
    by_cases hlt : j < n
    · obtain ⟨b0, o0, rfl, hI⟩ := HC.out j hlt
      obtain ⟨_, _, _, _, k0, _⟩ := hI.later HBW.out
      have x0 := HX2.out 0 _ rfl
      have x1 := HX2.out 1 _ rfl
      have HY : Hid (lnkOK d.1 j = true → ∀ k, k < j + 1 → lnkOK d.1 k = true) := fun hh k hk => by
        by_cases e : k = j
        · subst e; exact hh
        · exact HZ.out k (by omega)
      have HNO : Hid (lnkOK d.1 j = false → treeF d.1 = 1) := fun hh => by unfold treeF; rw [linksB_no (by rw [HN.out]; exact hlt) hh]; rfl
      have HO : Hid (lnkOK d.1 j = (decide ((d.1[j]?.getD id0).1 = 0) || (decide ((((allE d.1).count (j : Int) : Nat) : Int) = wantL d.1 j) && G j))) := HOK.out j
      have hz0 := HZ0.out j
      have HLOJ : Hid (∀ W, Below w.heap.size w W → Calls Tryz.prog 116 #[.slice (some ⟨b0, o0, none⟩) n cI, .int .i64 (j : Int)] W fun e w' => e = .returned (.agg #[.int .i64 0, .int .i64 (((allE d.1).count (j : Int) : Nat) : Int)]) ∧ Below W.heap.size W w') := fun W hW => HLO.out W hW j hlt
      have HLDJ : Hid (∀ W, Below w.heap.size w W → Calls Tryz.prog 117 #[.agg #[.slice (some ⟨b0, o0, none⟩) n cI, .slice aD nD cD], .int .i64 (j : Int)] W fun e w' => e = .returned (.int .i64 (wantL d.1 j)) ∧ Below W.heap.size W w') := fun W hW => HLD.out W hW j hlt
      have HLKJ : Hid (∀ W, Below w1.heap.size w1 W → (Instr.lookup 161 (.map (some bm)) (.int .i64 (j : Int)) false).run Tryz.prog W = .ok (.int .i64 (m (j : Int))) W) := fun W hW => (HMP.out.later hW).look (wf64_of (by omega) (by omega))
      clear hI HOK HLO HLD HZ0 HMP
      generalize (d.1[j]?.getD id0).1 = kd at *
      generalize wantL d.1 j = wl at *
      generalize (allE d.1).count (j : Int) = cn at *
      generalize m (j : Int) = mj at *
      generalize G j = gj at *
      by_cases hk0 : kd = 0
      · have hb0 : (kd == 0) = true := by simpa using hk0
        have HR : Hid (∀ k, k < j + 1 → lnkOK d.1 k = true) := HY.out (by rw [HO.out]; simp [hk0])
        clear hk0 HO HY HNO
        go_wp2
        go_roundw
        case rel => exact ⟨j + 1, by omega, by go_num, HBL.out, HR.out⟩
        case measure => simp [intOf]; omega
      · have hb0 : (kd == 0) = false := by simpa using hk0
        have HO2 : Hid (lnkOK d.1 j = (decide (((cn : Nat) : Int) = wl) && gj)) := by unfold Hid; rw [HO.out]; simp [hk0]
        clear hk0 HO
        by_cases hcw : ((cn : Nat) : Int) = wl
        rotate_left
        · have hbc : (((cn : Nat) : Int) != wl) = true := by simpa using hcw
          have hbd : (((cn : Nat) : Int) == wl) = false := by simpa using hcw
          have HR : Hid (treeF d.1 = 1) := HNO.out (by rw [HO2.out, decide_eq_false hcw]; rfl)
          clear hcw HO2 HY HNO
          go_wp2_with fail
          first
          | go_region_with (first
            | (go_at_call 116; refine (HLOJ.out _ HBW.out.drew).mono ?_; rintro e w2 ⟨rfl, hb2⟩
               have hfd := field_intR 0 ((cn : Nat) : Int)
               have y0 := cell_later hb2 x0
               have y1 := cell_later hb2 x1
               have HB2 : Hid (Below wr.heap.size wr w2) := (Below.refl _ _).drew.trans hb2
               clear hb2)
            | (go_at_call 117; refine (HLDJ.out _ (HBW.out.trans (HB2.out.mono HBW.out.size))).mono ?_; rintro e w3 ⟨rfl, hb3⟩
               have z0 := cell_later hb3 y0
               have z1 := cell_later hb3 y1
               have HB3 : Hid (Below wr.heap.size wr w3) := HB2.out.trans (hb3.mono HB2.out.size)
               clear hb3)
            | fail)
          | fail
          all_goals
            go_wp2
            go_ret
            exact ⟨ret_int HR.out.symm, HBW.out.trans (HB3.out.mono HBW.out.size)⟩
        · have hbc : (((cn : Nat) : Int) != wl) = false := by simpa using hcw
          have hbd : (((cn : Nat) : Int) == wl) = true := by simpa using hcw
          have HO3 : Hid (lnkOK d.1 j = gj) := by unfold Hid; rw [HO2.out, decide_eq_true hcw]; simp
          clear hcw HO2
          cases gj with
          | true =>
            have HR : Hid (∀ k, k < j + 1 → lnkOK d.1 k = true) := HY.out HO3.out
            clear HO3 HY HNO
            go_wp2_with fail
            go_region_held3 (fun W => W.cell? ⟨w.heap.size, 0, none⟩ = some (.slice (some ⟨b0, o0, none⟩) n cI) ∧ W.cell? ⟨w.heap.size, 1, none⟩ = some (.slice aD nD cD)) (go_keep) (first
              | (go_at_call 116; refine (HLOJ.out _ HBW.out.drew).mono ?_; rintro e w2 ⟨rfl, hb2⟩
                 have hfd := field_intR 0 ((cn : Nat) : Int)
                 have y0 := cell_later hb2 x0
                 have y1 := cell_later hb2 x1
                 have HB2 : Hid (Below wr.heap.size wr w2) := (Below.refl _ _).drew.trans hb2
                 clear hb2)
              | (go_at_call 117; refine (HLDJ.out _ (HBW.out.trans (HB2.out.mono HBW.out.size))).mono ?_; rintro e w3 ⟨rfl, hb3⟩
                 have z0 := cell_later hb3 y0
                 have z1 := cell_later hb3 y1
                 have HB3 : Hid (Below wr.heap.size wr w3) := HB2.out.trans (hb3.mono HB2.out.size)
                 have hlk := HLKJ.out w3 (HBL.out.trans (HB3.out.mono HBL.out.size))
                 clear hb3)
              | fail)
            all_goals
              go_wp2
              go_roundw
              case rel => exact ⟨j + 1, by omega, by go_num, HBL.out.trans (HB3.out.mono HBL.out.size), HR.out⟩
              case measure => simp [intOf]; omega
          | false =>
            have HR : Hid (treeF d.1 = 1) := HNO.out HO3.out
            clear HO3 HY HNO
            go_wp2_with fail
            go_region_held3 (fun W => W.cell? ⟨w.heap.size, 0, none⟩ = some (.slice (some ⟨b0, o0, none⟩) n cI) ∧ W.cell? ⟨w.heap.size, 1, none⟩ = some (.slice aD nD cD)) (go_keep) (first
              | (go_at_call 116; refine (HLOJ.out _ HBW.out.drew).mono ?_; rintro e w2 ⟨rfl, hb2⟩
                 have hfd := field_intR 0 ((cn : Nat) : Int)
                 have y0 := cell_later hb2 x0
                 have y1 := cell_later hb2 x1
                 have HB2 : Hid (Below wr.heap.size wr w2) := (Below.refl _ _).drew.trans hb2
                 clear hb2)
              | (go_at_call 117; refine (HLDJ.out _ (HBW.out.trans (HB2.out.mono HBW.out.size))).mono ?_; rintro e w3 ⟨rfl, hb3⟩
                 have z0 := cell_later hb3 y0
                 have z1 := cell_later hb3 y1
                 have HB3 : Hid (Below wr.heap.size wr w3) := HB2.out.trans (hb3.mono HB2.out.size)
                 have hlk := HLKJ.out w3 (HBL.out.trans (HB3.out.mono HBL.out.size))
                 clear hb3)
              | fail)
            all_goals
              go_wp2
              go_ret
              exact ⟨ret_int HR.out.symm, HBW.out.trans (HB3.out.mono HBW.out.size)⟩
    · have HR : Hid (treeF d.1 = 0) := by unfold Hid treeF; rw [linksB_yes fun i hi => HZ.out i (by rw [HN.out] at hi; omega)]; rfl
      go_wp2
      go_ret
      exact ⟨ret_int HR.out.symm, HBW.out⟩
end Go.Proofs.YtaibcofendjnnaaGreatDoor
