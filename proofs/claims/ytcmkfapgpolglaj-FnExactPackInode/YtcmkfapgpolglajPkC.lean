
/- PackInode, both sides. -/
import Derived.Test.YtcmkfapgpolglajPkB
import Derived.Test.YtcmkfapgpolglajSpcE
import Derived.Test.YtcmkfapgpolglajImpH
namespace Go.Proofs.Ytcmkfapgpolglaj
open Go.RowKit
set_option maxRecDepth 100000

/-- Answers that are a code and words. -/
def AnsIR (w : World) (r : Int × List Int) (e : Ending) (w' : World) : Prop := ∃ a n c, e = .returned (.agg #[.int .i64 r.1, .slice a n c]) ∧ Below w.heap.size w w' ∧ IntsO w' (.slice a n c) r.2 (fresh w w')

theorem l4Pack_any (w : World) (z0 z1 z2 : Int) (aB : Option Addr) (nB cB : Nat) (aE : Option Addr) (nE cE : Nat) (d : ID) (h : InoR w (.int .i64 z0) (.int .i64 z1) (.int .i64 z2) (.slice aB nB cB) (.slice aE nE cE) d) (hs : sizeIno d ≤ 1048576) :
    Calls Try.prog 42 #[.agg #[.int .i64 z0, .int .i64 z1, .int .i64 z2, .slice aB nB cB, .slice aE nE cE]] w fun e w' => ∃ v, e = .returned v ∧ Below w.heap.size w w' ∧ Wds w' w.heap.size v (packL d) := by
  obtain ⟨⟨h0, h1, h2, _⟩, hi, he⟩ := h
  simp only [Value.int.injEq, true_and] at h0 h1 h2
  obtain ⟨_, _, e1, hm1, hc1⟩ := hi.open'
  obtain ⟨_, _, e2, hm2, hz2, hc2⟩ := he.open'
  simp only [Value.slice.injEq] at e1 e2
  obtain ⟨rfl, rfl, rfl⟩ := e1
  obtain ⟨rfl, rfl, rfl⟩ := e2
  obtain ⟨k, l, s, bs, es⟩ := d
  dsimp only at *
  subst h0 h1 h2
  have hn1 : bs.length ≤ 1048576 := by unfold sizeIno at hs; dsimp only at hs; omega
  have hn2 : es.length ≤ 1048576 := by unfold sizeIno sizeN at hs; dsimp only at hs; omega
  have hn3 : (entsW es).length ≤ 4194304 := by have := entsW_len es; unfold sizeIno at hs; dsimp only at hs; omega
  unfold packL
  dsimp only
  by_cases hk : z0 = 2
  · subst hk
    rw [if_pos rfl]
    have := l4Pack_dir w z1 z2 aB _ cB aE _ cE bs es hn1 rfl hc1 rfl hn2 hn3 hc2
    simpa using this
  · rw [if_neg hk, List.append_nil]
    exact l4Pack_flat w z0 z1 z2 aB _ cB aE _ cE bs hn1 rfl hc1 hk

set_option maxHeartbeats 3200000 in
theorem specPackU (w : World) (z0 z1 z2 : Int) (aB : Option Addr) (nB cB : Nat) (aE : Option Addr) (nE cE : Nat) (d : ID) (h : InoR w (.int .i64 z0) (.int .i64 z1) (.int .i64 z2) (.slice aB nB cB) (.slice aE nE cE) d) (hs : sizeIno d ≤ 1048576) :
    Calls Try.prog 18 #[.agg #[.int .i64 z0, .int .i64 z1, .int .i64 z2, .slice aB nB cB, .slice aE nE cE]] w (AnsIR w (packR d)) := by
  have H : Hid (InoR w (.int .i64 z0) (.int .i64 z1) (.int .i64 z2) (.slice aB nB cB) (.slice aE nE cE) d) := h
  have HPK : Hid (∀ W, Below w.heap.size w W → Calls Try.prog 42 #[.agg #[.int .i64 z0, .int .i64 z1, .int .i64 z2, .slice aB nB cB, .slice aE nE cE]] W fun e w' => ∃ v, e = .returned v ∧ Below W.heap.size W w' ∧ Wds w' W.heap.size v (packL d)) := fun W hW => l4Pack_any W z0 z1 z2 aB nB cB aE nE cE d (h.later hW) hs
  have HPR : Hid (packR d = if inoF d = 0 then (0, packL d) else (inoF d, [])) := rfl
  have HL : Hid (∀ W, Below w.heap.size w W → Bx W w.heap.size [.int .i64 z0, .int .i64 z1, .int .i64 z2, .slice aB nB cB, .slice aE nE cE] → Calls Try.prog 34 #[.pointer (some ⟨w.heap.size, 0, none⟩)] W fun e w' => e = .returned (.int .i64 (inoF d)) ∧ ∃ m, w' = W.drewN m) := fun W hW hx => by
    obtain ⟨⟨h0, h1, h2, _⟩, hi, he⟩ := H.out.later hW
    simp only [Value.int.injEq, true_and] at h0 h1 h2
    obtain ⟨_, _, e1, _⟩ := hi.open'
    obtain ⟨_, _, e2, _⟩ := he.open'
    simp only [Value.slice.injEq] at e1 e2
    obtain ⟨rfl, rfl, rfl⟩ := e1
    obtain ⟨rfl, rfl, rfl⟩ := e2
    subst h0 h1 h2
    exact l4Fault_any W w.heap.size d aB cB aE cE hx hi he
  clear h hs
  rw [HPR.out]
  have HX : Hid (Bx ((w.alloc (.cells #[.int .i64 z0, .int .i64 z1, .int .i64 z2, .slice aB nB cB, .slice aE nE cE] 36)).alloc (.cells #[.int .i64 0, .slice none 0 0] 41)) w.heap.size [.int .i64 z0, .int .i64 z1, .int .i64 z2, .slice aB nB cB, .slice aE nE cE]) := (Bx.new w _ _).later (later1 _ _)
  have HRB : Hid (OwnRow ((w.alloc (.cells #[.int .i64 z0, .int .i64 z1, .int .i64 z2, .slice aB nB cB, .slice aE nE cE] 36)).alloc (.cells #[.int .i64 0, .slice none 0 0] 41)) (w.heap.size + 1) 2 (fun i => if i = 0 then .int .i64 0 else .slice none 0 0)) := by
    have := OwnRow.newS (w.alloc (.cells #[.int .i64 z0, .int .i64 z1, .int .i64 z2, .slice aB nB cB, .slice aE nE cE] 36)) (.int .i64 0) (.slice none 0 0) 41
    simp only [World.size_alloc] at this
    exact this
  have hwz : ((w.alloc (.cells #[.int .i64 z0, .int .i64 z1, .int .i64 z2, .slice aB nB cB, .slice aE nE cE] 36)).alloc (.cells #[.int .i64 0, .slice none 0 0] 41)).heap.size = w.heap.size + 2 := by simp
  have HB0 : Hid (Below w.heap.size w ((w.alloc (.cells #[.int .i64 z0, .int .i64 z1, .int .i64 z2, .slice aB nB cB, .slice aE nE cE] 36)).alloc (.cells #[.int .i64 0, .slice none 0 0] 41))) := later2 _ _ _
  by_cases hf : inoF d = 0
  · rw [if_pos hf]
    have HF : Hid (inoF d = 0) := hf
    have HPL : Hid (0 < (packL d).length) := by unfold Hid packL; simp
    clear hf HPR
    go_enter Try.func18, Try.ntmps18
    go_wp2_with fail
    generalize hW : (w.alloc (Obj.cells #[.int .i64 z0, .int .i64 z1, .int .i64 z2, .slice aB nB cB, .slice aE nE cE] 36)).alloc (Obj.cells #[.int .i64 0, .slice none 0 0] 41) = W at *
    clear hW
    refine (HL.out _ HB0.out HX.out).mono ?_
    rw [HF.out]
    rintro e w1 ⟨rfl, m, rfl⟩
    have c0 := HX.out 0 _ rfl
    have c1 := HX.out 1 _ rfl
    have c2 := HX.out 2 _ rfl
    have c3 := HX.out 3 _ rfl
    have c4 := HX.out 4 _ rfl
    go_wp2_with fail
    clear c0 c1 c2 c3 c4
    refine (HPK.out _ (below_drewN HB0.out m)).mono ?_
    rintro e w2 ⟨v, rfl, hb2, hw2⟩
    obtain ⟨aV, cV, rfl⟩ := hw2.shape
    have HB2 : Hid (Below w.heap.size w w2) := (below_drewN HB0.out m).trans (hb2.mono (below_drewN HB0.out m).size)
    have hrow : OwnRow w2 (w.heap.size + 1) 2 (fun i => if i = 0 then .int .i64 0 else .slice none 0 0) := OwnRow.later (w := W.drewN m) HRB.out hb2
    have HI : Hid (IntsO w2 (.slice aV (packL d).length cV) (packL d) (fun b => w.heap.size + 2 ≤ b ∧ b < w2.heap.size)) := (hw2.own (w0 := W.drewN m) HPL.out (Nat.le_refl _)).mono fun b hb => ⟨by have := hb.1; have h3 : (W.drewN m).heap.size = w.heap.size + 2 := hwz; omega, hb.2⟩
    have t0 := hrow.cell (i := 0) (by omega)
    have t1 := hrow.cell (i := 1) (by omega)
    have s0 := hrow.frozen 0
    have s1 := hrow.frozen 1
    simp at t0 t1
    have hz2 := hrow.lt
    clear hb2 hw2 hrow
    generalize packL d = zs at *
    go_wp2
    refine bodyPost_ret (v := .agg #[.int .i64 0, .slice aV zs.length cV]) (by simp [results, Try.results18, go_sem, t0, t1]) rfl ⟨_, _, _, rfl, (HB2.out.setCell (by simp) _).setCell (by simp) _, (HI.out.keep fun b hb hlt => ?_).mono fun b hb => ⟨by omega, by simp only [World.setCell, Array.size_modify]; exact hb.2⟩⟩
    rw [Below.heap_setCell _ _ _ _ (by simp; omega), Below.heap_setCell _ _ _ _ (by simp; omega)]
  · rw [if_neg hf]
    have HF : Hid (¬ inoF d = 0) := hf
    clear hf HPR HPK
    go_enter Try.func18, Try.ntmps18
    go_wp2_with fail
    generalize hW : (w.alloc (Obj.cells #[.int .i64 z0, .int .i64 z1, .int .i64 z2, .slice aB nB cB, .slice aE nE cE] 36)).alloc (Obj.cells #[.int .i64 0, .slice none 0 0] 41) = W at *
    clear hW
    refine (HL.out _ HB0.out HX.out).mono ?_
    generalize inoF d = r at *
    have hr : (r != 0) = true := by simpa using HF.out
    rintro e w1 ⟨rfl, m, rfl⟩
    have t0 := HRB.out.cell (i := 0) (by omega)
    have t1 := HRB.out.cell (i := 1) (by omega)
    have s0 := HRB.out.frozen 0
    have s1 := HRB.out.frozen 1
    simp at t0 t1
    go_wp2
    refine bodyPost_ret (v := .agg #[.int .i64 r, .slice none 0 0]) (by simp [results, Try.results18, go_sem, t0, t1]) rfl ⟨_, _, _, rfl, ((below_drewN HB0.out m).setCell (by simp) _).setCell (by simp) _, Or.inl ⟨rfl, _, _, rfl⟩⟩
end Go.Proofs.Ytcmkfapgpolglaj
