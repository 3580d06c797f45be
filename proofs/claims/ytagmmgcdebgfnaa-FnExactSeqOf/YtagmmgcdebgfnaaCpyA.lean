
/- The walk of the specification's copying of a disk. -/
import Derived.Test.YtagmmgcdebgfnaaRowL
import Derived.Test.YtagmmgcdebgfnaaDskA
namespace Go.Proofs.Ytagmmgcdebgfnaa
open Go.RowKit
set_option maxRecDepth 100000

/-- The copy of a put's words, and what appending that put comes to: in one contract. -/
theorem l1Ints_put (wr : World) (S q : Nat) (v uv : Value) (f : Nat → Int × List Int) (k : Nat → Nat) (u : Nat → Value) (hLR : LRow (C2 fun i => (f i).1) wr S S 100 2 v q (fun i => (f i).2) k u) (hsq : S ≤ wr.heap.size) (hq : q ≤ 100000) (hi : Ints wr uv (f q).2) (hl : (f q).2.length ≤ 1048576) :
    Calls Try.prog 95 #[uv] wr.drew fun e w1 => ∃ na nc g2 cap2 X k' u', e = .returned (.slice na (f q).2.length nc) ∧
      Hid ((Builtin.append_ #[47, 47] 47 #[v, .slice (some ⟨w1.heap.size, 0, none⟩) 1 1]).run Try.prog (w1.alloc (.cells #[.int .i64 (f q).1, .slice na (f q).2.length nc] 100)) = .ok (.slice (some ⟨g2, 0, none⟩) (q + 1) cap2) X) ∧
      Below wr.heap.size wr w1 ∧ Below S wr X ∧ Hid (LRow (C2 fun i => (f i).1) X S S 100 2 (.slice (some ⟨g2, 0, none⟩) (q + 1) cap2) (q + 1) (fun i => (f i).2) k' u') := by
  refine (l1Ints_more (w := wr.drew) hi hl).mono ?_
  rintro e w1 ⟨na, nc, rfl, hb1, ho1, hs1⟩
  obtain ⟨kb, hk1, hk2, hkf⟩ := ho1.one hs1
  obtain ⟨ti, hi, h1, h2, h3⟩ := Try.infoPut'
  have hk1' : wr.heap.size ≤ kb := hk1
  obtain ⟨g2, cap2, X, hr, _, hBX, _, hLX⟩ := LRow.append wr w1 47 47 100 ti _ 2 32 Try.underlying47 hi h1 h2 h3 rfl (by decide) (by decide) S S q _ _ k u hLR hsq hq ((Below.refl _ _).drew.trans hb1) na nc rfl (fun x hx => by simp [C2] at hx; rcases hx with rfl | rfl <;> rfl) kb (Nat.le_trans hsq hk1') hk2 (fun e => by have := (hLR.own.lt _ e).2; omega) (fun i hi e => by have := (hLR.lo i hi).2; omega) hkf
  exact ⟨na, nc, g2, cap2, X, _, _, rfl, hr, (Below.refl _ _).drew.trans hb1, hBX, hLX⟩

/-- What stands at the head of each round of the second loop. -/
def Copy2 (w : World) (S : Nat) (aB aC aX : Option Addr) (j cB nC cC cX : Nat) (bs : List (List Int)) (ps : List (Int × List Int)) (wq : World) (q : Nat) : Prop :=
  Below w.heap.size w wq ∧ S ≤ wq.heap.size ∧ Box2 wq w.heap.size (.slice aB j cB) (.slice aC nC cC) ∧ OwnRow wq (w.heap.size + 1) 2 (fun c => if c = 0 then .slice none 0 0 else .slice none 0 0) ∧ IntsSO wq (.slice aX j cX) bs (fun c => w.heap.size + 3 ≤ c ∧ c < S) ∧
    ∃ aY cY k u, OwnRow wq (w.heap.size + 2) 2 (fun c => if c = 0 then .slice aX j cX else .slice aY q cY) ∧ LRow (C2 fun i => (ps[i]?.getD (0, [])).1) wq S S 100 2 (.slice aY q cY) q (fun i => (ps[i]?.getD (0, [])).2) k u
theorem Copy2.next {w : World} {S : Nat} {aB aC aX : Option Addr} {j cB nC cC cX : Nat} {bs : List (List Int)} {ps : List (Int × List Int)} {wr X : World} {q g2 cap2 : Nat} {k' : Nat → Nat} {u' : Nat → Value} (hS : w.heap.size + 3 ≤ S)
    (h : Copy2 w S aB aC aX j cB nC cC cX bs ps wr q) (hX : Below S wr X) (hL : LRow (C2 fun i => (ps[i]?.getD (0, [])).1) X S S 100 2 (.slice (some ⟨g2, 0, none⟩) (q + 1) cap2) (q + 1) (fun i => (ps[i]?.getD (0, [])).2) k' u') :
    Copy2 w S aB aC aX j cB nC cC cX bs ps (X.setCell ⟨w.heap.size + 2, 1, none⟩ (.slice (some ⟨g2, 0, none⟩) (q + 1) cap2)) (q + 1) := by
  obtain ⟨h1, h2, h3, h4, h5, aY, cY, k, u, h6, h7⟩ := h
  refine ⟨(h1.trans (hX.mono (by omega))).setCell (by simp) _, ?_, ?_, (h4.block (hX.block _ (by omega))).store (by simp) _, (h5.keep fun b hb hlt => hX.block b (by omega)).store (fun b hb => by simp; omega) _, some ⟨g2, 0, none⟩, cap2, k', u', ((h6.block (hX.block _ (by omega))).set 1 _).congr fun c hc => ?_, hL.store (by simp; omega) (by simp; omega) _⟩
  · have := hX.size; simp [World.setCell]; omega
  · have hb := World.cell?_of_block (w := X) (a := ⟨w.heap.size, 0, none⟩) (Below.heap_setCell X ⟨w.heap.size + 2, 1, none⟩ (.slice (some ⟨g2, 0, none⟩) (q + 1) cap2) w.heap.size (by simp))
    have hb' := World.cell?_of_block (w := X) (a := ⟨w.heap.size, 1, none⟩) (Below.heap_setCell X ⟨w.heap.size + 2, 1, none⟩ (.slice (some ⟨g2, 0, none⟩) (q + 1) cap2) w.heap.size (by simp))
    exact ⟨hb.trans ((hX.cell (p := ⟨w.heap.size, 0, none⟩) (by simp; omega)).trans h3.1), hb'.trans ((hX.cell (p := ⟨w.heap.size, 1, none⟩) (by simp; omega)).trans h3.2)⟩
  · have : c = 0 ∨ c = 1 := by omega
    rcases this with rfl | rfl <;> simp

end Go.Proofs.Ytagmmgcdebgfnaa
