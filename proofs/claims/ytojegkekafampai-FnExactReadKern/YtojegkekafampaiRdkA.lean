
/- ReadKern, the program's. -/
import Derived.Test.YtojegkekafampaiWrkC
import Derived.Test.YtojegkekafampaiAtB
namespace Go.Proofs.Ytojegkekafampai
open Go.RowKit
set_option maxRecDepth 100000

def readR (d : KD) (key x : Int) : Int × KResD := if mayF d key x = 0 then (0, atF d.1.1 d.1.2 x, d.1, d.2) else (mayF d key x, [], ([], []), [])
theorem mayF_place {d : KD} {key x : Int} (h : mayF d key x = 0) : placeB d.1.1.length x = true := by
  have hk := mayF_ok h
  unfold mayF at h
  split at h
  · rename_i hc
    unfold ownR at hc
    rw [if_pos hk] at hc
    split at hc
    · assumption
    · simp at hc
  · rename_i hc
    exact absurd h hc

/-- Where the kern that is kept lies, and all else behind it. -/
def Kept (w w1 W : World) (bk : Nat) (vs : List Value) (vX vY vZ : Value) (d : KD) : Prop :=
  Below w.heap.size w W ∧ Bx W w.heap.size vs ∧ Bx W bk [vX, vY, vZ] ∧ KernU W vX vY vZ d (fun b => w1.heap.size ≤ b ∧ b < W.heap.size ∧ b ≠ bk) ∧ OwnRow W (w.heap.size + 1) zero5.length (fun i => zero5[i]?.getD (.bool false)) ∧ w1.heap.size ≤ bk ∧ bk < W.heap.size
theorem kept_new {w w1 w3 : World} {vs : List Value} {vX vY vZ : Value} {d : KD} (t : TypeId) (hb : Below w.heap.size w w1) (hb3 : Below w1.heap.size w1 w3) (hx : Bx w1 w.heap.size vs) (hr : OwnRow w1 (w.heap.size + 1) zero5.length (fun i => zero5[i]?.getD (.bool false))) (hk : KernU w3 vX vY vZ d (fun b => w1.heap.size ≤ b ∧ b < w3.heap.size)) :
    Kept w w1 (w3.alloc (.cells #[vX, vY, vZ] t)) w3.heap.size vs vX vY vZ d :=
  ⟨(hb.trans (hb3.mono hb.size)).trans ((later1 _ _).mono (hb.trans (hb3.mono hb.size)).size), (hx.later hb3).later (later1 _ _), Bx.new w3 [vX, vY, vZ] t, (hk.later (later1 _ _)).mono fun b hb => ⟨hb.1, by simp; omega, by omega⟩, (hr.later hb3).later (later1 _ _), hb3.size, by simp⟩
theorem field_ints (a : Option Addr) (n c : Nat) (w : World) : (Instr.field 82 (.agg #[.int .i64 0, .slice a n c]) 1).run Try.prog w = .ok (.slice a n c) w := by kernel_rfl
theorem set3 {w : World} {β b : Nat} (v0 v1 v2 : Value) (hb : b ≠ β) : (((w.setCell ⟨β, 0, none⟩ v0).setCell ⟨β, 1, none⟩ v1).setCell ⟨β, 2, none⟩ v2).heap[b]? = w.heap[b]? := by
  rw [Below.heap_setCell _ _ _ _ hb, Below.heap_setCell _ _ _ _ hb, Below.heap_setCell _ _ _ _ hb]
theorem Bx.set3 {w : World} {bk : Nat} {f : Nat → Value} (hq : OwnRow w bk 3 f) (vX vY vZ : Value) : Bx (((w.setCell ⟨bk, 0, none⟩ vX).setCell ⟨bk, 1, none⟩ vY).setCell ⟨bk, 2, none⟩ vZ) bk [vX, vY, vZ] := by
  have h := ((hq.set 0 vX).set 1 vY).set 2 vZ
  intro i v e
  match i with
  | 0 => have := h.cell (i := 0) (by omega); simp at this e; rw [this, e]
  | 1 => have := h.cell (i := 1) (by omega); simp at this e; rw [this, e]
  | 2 => have := h.cell (i := 2) (by omega); simp at this e; rw [this, e]
  | n + 3 => simp at e
theorem kept_set {w w1 w3 : World} {bk : Nat} {vs : List Value} {vX vY vZ : Value} {d : KD} {f : Nat → Value} {F : Nat → Prop} (hb : Below w.heap.size w w1) (hb3 : Below w1.heap.size w1 w3) (hx : Bx w1 w.heap.size vs) (hr : OwnRow w1 (w.heap.size + 1) zero5.length (fun i => zero5[i]?.getD (.bool false))) (hq : OwnRow w3 bk 3 f) (hbk : w1.heap.size ≤ bk) (hk : KernU w3 vX vY vZ d F) (hF : ∀ b, F b → w1.heap.size ≤ b ∧ b < w3.heap.size ∧ b ≠ bk) :
    Kept w w1 (((w3.setCell ⟨bk, 0, none⟩ vX).setCell ⟨bk, 1, none⟩ vY).setCell ⟨bk, 2, none⟩ vZ) bk vs vX vY vZ d := by
  have hlt := hr.lt
  refine ⟨(((hb.trans (hb3.mono hb.size)).setCell (by simp; omega) _).setCell (by simp; omega) _).setCell (by simp; omega) _, fun i v e => ?_, Bx.set3 hq vX vY vZ, (hk.keep fun b hb _ => set3 _ _ _ (hF b hb).2.2).mono fun b hb => ⟨(hF b hb).1, by simp [World.setCell]; exact (hF b hb).2.1, (hF b hb).2.2⟩, (hr.later hb3).block (set3 _ _ _ (by omega)), hbk, by simp [World.setCell]; exact hq.lt⟩
  rw [World.cell?_of_block (w := w3) (a := ⟨w.heap.size, i, none⟩) (set3 _ _ _ (by simp; omega))]
  exact cell_later hb3 (hx i v e)

set_option maxHeartbeats 3200000 in
theorem implRead_any (w : World) (vB vC vE : Value) (d : KD) (key x : Int) (h : KernR w vB vC vE d) (hz : ∀ k : Nat, (d.1.1[k]?.getD []).length ≤ 1048576) (hzp : ∀ k : Nat, (d.1.2[k]?.getD (0, [])).2.length ≤ 1048576) :
    Calls Try.prog 12 #[.agg #[vB, vC, vE], .int .i64 key, .int .i64 x] w (AnsKR w (readR d key x)) := by
  obtain ⟨a1, c1, rfl, _, sB⟩ := h.1.1.open'
  obtain ⟨a2, c2, rfl, _, sP⟩ := h.1.2.open'
  obtain ⟨a3, c3, rfl, _⟩ := h.2.open'
  have H : Hid (KernR w (.slice a1 d.1.1.length c1) (.slice a2 d.1.2.length c2) (.slice a3 d.2.length c3) d) := h
  have HRR : Hid (readR d key x = if mayF d key x = 0 then (0, atF d.1.1 d.1.2 x, d.1, d.2) else (mayF d key x, [], ([], []), [])) := rfl
  have HCD : Hid (mayF d key x = 0 → ∀ W, Below w.heap.size w W → Calls Try.prog 45 #[.agg #[.slice a1 d.1.1.length c1, .slice a2 d.1.2.length c2]] W fun e W' => ∃ aX nX cX aY nY cY, e = .returned (.agg #[.slice aX nX cX, .slice aY nY cY]) ∧ Below W.heap.size W W' ∧ DiskU W' (.slice aX nX cX) (.slice aY nY cY) d.1 (fresh W W')) := fun h0 W hW => copyOfDisk_ok W a1 a2 c1 c2 d.1.1 d.1.2 (sB.later hW) (sP.later hW) (kernF_ok (mayF_ok h0)).1 hz hzp
  have HCE : Hid (mayF d key x = 0 → ∀ W, Below w.heap.size w W → Calls Try.prog 46 #[.slice a3 d.2.length c3] W fun e W' => ∃ a n c, e = .returned (.slice a n c) ∧ Below W.heap.size W W' ∧ ExtsO W' (.slice a n c) d.2 (fresh W W')) := fun h0 W hW => copyOfE_any (h.2.later hW) (by have := (kernF_ok (mayF_ok h0)).2.1; omega)
  have HBA : Hid (mayF d key x = 0 → ∀ W, Below w.heap.size w W → Calls Try.prog 47 #[.agg #[.slice a1 d.1.1.length c1, .slice a2 d.1.2.length c2], .int .i64 x] W fun e W' => ∃ a n c, e = .returned (.agg #[.int .i64 0, .slice a n c]) ∧ Below W.heap.size W W' ∧ IntsO W' (.slice a n c) (atF d.1.1 d.1.2 x) (fresh W W')) := fun h0 W hW => by
    have hp := placeF_ok (kernF_ok (mayF_ok h0)).1 (mayF_place h0)
    have := implAt_any W _ _ d.1.1 d.1.2 x (h.1.1.later hW) (h.1.2.later hW) hz hzp
    unfold atCode atList at this
    rw [hp, if_pos rfl] at this
    exact this
  rw [HRR.out]
  clear h hz hzp HRR sB sP
  generalize d.1.1.length = nB at *
  generalize d.1.2.length = nC at *
  generalize d.2.length = nE at *
  generalize hm : mayF d key x = m at *
  have HM : Hid (mayF d key x = m) := hm
  clear hm
  by_cases h0 : m = 0
  · subst h0
    rw [if_pos rfl]
    have KCD : Hid _ := HCD.out rfl
    have KCE : Hid _ := HCE.out rfl
    have KBA : Hid _ := HBA.out rfl
    clear HCD HCE HBA
    go_enter Try.func12, Try.ntmps12
    go_wp2_with fail
    refine (keyFault_any _ _ _ _ d key x (H.out.later (later2 _ _ _))).mono ?_
    rw [HM.out]
    rintro e w1 ⟨rfl, hb1⟩
    have HW1 : Hid (Below w.heap.size w w1) := (later2 _ _ _).trans (hb1.mono (by simp; omega))
    have HX1 : Hid (Bx w1 w.heap.size [.slice a1 nB c1, .slice a2 nC c2, .slice a3 nE c3]) := ((Bx.new w [.slice a1 nB c1, .slice a2 nC c2, .slice a3 nE c3] _).later (later1 _ _)).later hb1
    have HR1 : Hid (OwnRow w1 (w.heap.size + 1) zero5.length (fun i => zero5[i]?.getD (.bool false))) := resRowL _ zero5 _ hb1
    have hzr : w.heap.size + 1 < w1.heap.size := HR1.out.lt
    have x0 := HX1.out 0 _ rfl
    have x1 := HX1.out 1 _ rfl
    have x2 := HX1.out 2 _ rfl
    clear hb1
    go_wp2_with fail
    go_region_held3 (fun W => W.cell? ⟨w.heap.size, 0, none⟩ = some (.slice a1 nB c1) ∧ W.cell? ⟨w.heap.size, 1, none⟩ = some (.slice a2 nC c2) ∧ W.cell? ⟨w.heap.size, 2, none⟩ = some (.slice a3 nE c3)) (go_keep) (first
      | (go_at_call 45; refine (KCD.out _ (HW1.out.drew.trans ((later1 _ _).mono HW1.out.size))).mono ?_; rintro e w2 ⟨aX, nX, cX, aY, nY, cY, rfl, hb2, hd2⟩
         have y0 := cell_later hb2 (cell_later (later1 _ _) x0)
         have y1 := cell_later hb2 (cell_later (later1 _ _) x1)
         have y2 := cell_later hb2 (cell_later (later1 _ _) x2)
         have HB2 : Hid (Below w1.heap.size w1 w2) := (Below.refl _ _).drew.trans ((later1 _ _).trans (hb2.mono (by simp)))
         have HD2 : Hid (DiskU w2 (.slice aX nX cX) (.slice aY nY cY) d.1 (fun b => w1.heap.size < b ∧ b < w2.heap.size)) := DiskU.mono hd2 fun b hb => ⟨by have h := hb.1; rw [World.size_alloc] at h; exact h, hb.2⟩
         have HQA : OwnRow w2 w1.heap.size 3 _ := (OwnRow.newL w1.drew [.slice none 0 0, .slice none 0 0, .slice none 0 0] 36).later hb2
         have hn1 : w.heap.size ≠ w1.heap.size := by omega
         have hn2 : w1.heap.size ≠ w.heap.size := by omega
         clear hb2 hd2)
      | (go_at_call 46; have HQA2 := HQA; refine (KCE.out _ (HW1.out.trans (HB2.out.mono HW1.out.size))).mono ?_; rintro e w3 ⟨aZ, nZ, cZ, rfl, hb3, he3⟩
         have z0 := cell_later hb3 y0
         have z1 := cell_later hb3 y1
         have z2 := cell_later hb3 y2
         have HB3 : Hid (Below w1.heap.size w1 w3) := HB2.out.trans (hb3.mono HB2.out.size)
         have HK3 : Hid (KernU w3 (.slice aX nX cX) (.slice aY nY cY) (.slice aZ nZ cZ) d (fun b => w1.heap.size < b ∧ b < w3.heap.size)) := ⟨_, fun b => w2.heap.size ≤ b ∧ b < w3.heap.size, HD2.out.later hb3, he3, fun b h h' => by omega, fun b h => by have := hb3.size; have := HB2.out.size; have := HQA2.lt; rcases h with h | h <;> omega⟩
         have HQ : OwnRow w3 w1.heap.size 3 _ := HQA2.later hb3
         have q0 := HQ.cell (i := 0) (by simp)
         have q1 := HQ.cell (i := 1) (by simp)
         have q2 := HQ.cell (i := 2) (by simp)
         have r0 := HQ.frozen 0
         have r1 := HQ.frozen 1
         have r2 := HQ.frozen 2
         simp at q0 q1 q2
         have HQ3 : Hid (OwnRow w3 w1.heap.size 3 _) := HQ
         clear hb3 he3 HQA2 HQA HQ)
      | (go_at_call 45; refine (KCD.out _ HW1.out.drew).mono ?_; rintro e w2 ⟨aX, nX, cX, aY, nY, cY, rfl, hb2, hd2⟩
         have y0 := cell_later hb2 x0
         have y1 := cell_later hb2 x1
         have y2 := cell_later hb2 x2
         have HB2 : Hid (Below w1.heap.size w1 w2) := (Below.refl _ _).drew.trans hb2
         have HD2 : Hid (DiskU w2 (.slice aX nX cX) (.slice aY nY cY) d.1 (fun b => w1.heap.size ≤ b ∧ b < w2.heap.size)) := hd2
         have hn1 : w.heap.size ≠ w2.heap.size := by have := HB2.out.size; omega
         have hn2 : w2.heap.size ≠ w.heap.size := by have := HB2.out.size; omega
         clear hb2 hd2)
      | (go_at_call 46; refine (KCE.out _ (HW1.out.trans (HB2.out.mono HW1.out.size))).mono ?_; rintro e w3 ⟨aZ, nZ, cZ, rfl, hb3, he3⟩
         have z0 := cell_later hb3 y0
         have z1 := cell_later hb3 y1
         have z2 := cell_later hb3 y2
         have HB3 : Hid (Below w1.heap.size w1 w3) := HB2.out.trans (hb3.mono HB2.out.size)
         have HK3 : Hid (KernU w3 (.slice aX nX cX) (.slice aY nY cY) (.slice aZ nZ cZ) d (fun b => w1.heap.size ≤ b ∧ b < w3.heap.size)) := ⟨_, fun b => w2.heap.size ≤ b ∧ b < w3.heap.size, HD2.out.later hb3, he3, fun b h h' => by omega, fun b h => by have := hb3.size; have := HB2.out.size; rcases h with h | h <;> omega⟩
         have hn3 : w.heap.size ≠ w3.heap.size := by have := HB3.out.size; omega
         have hn4 : w3.heap.size ≠ w.heap.size := by have := HB3.out.size; omega
         clear hb3 he3)
      | (go_at_call 46; refine (KCE.out _ ((HW1.out.trans (HB2.out.mono HW1.out.size)).trans ((later1 _ _).mono (HW1.out.trans (HB2.out.mono HW1.out.size)).size))).mono ?_; rintro e w3 ⟨aZ, nZ, cZ, rfl, hb3, he3⟩
         have z0 := cell_later hb3 (cell_later (later1 _ _) y0)
         have z1 := cell_later hb3 (cell_later (later1 _ _) y1)
         have z2 := cell_later hb3 (cell_later (later1 _ _) y2)
         have hb3' : Below w2.heap.size w2 w3 := (later1 _ _).trans (hb3.mono (by simp))
         have HB3 : Hid (Below w1.heap.size w1 w3) := HB2.out.trans (hb3'.mono HB2.out.size)
         have HK3 : Hid (KernU w3 (.slice aX nX cX) (.slice aY nY cY) (.slice aZ nZ cZ) d (fun b => w1.heap.size ≤ b ∧ b < w3.heap.size ∧ b ≠ w2.heap.size)) := ⟨_, fun b => w2.heap.size < b ∧ b < w3.heap.size, HD2.out.later hb3', he3.mono fun b hb => ⟨by have := hb.1; simp at this; omega, hb.2⟩, fun b h h' => by omega, fun b h => by have := hb3'.size; have := HB2.out.size; rcases h with h | h <;> omega⟩
         have HQ : OwnRow w3 w2.heap.size 3 _ := (OwnRow.newL w2 [.slice none 0 0, .slice none 0 0, .slice none 0 0] _).later hb3
         have q0 := HQ.cell (i := 0) (by simp)
         have q1 := HQ.cell (i := 1) (by simp)
         have q2 := HQ.cell (i := 2) (by simp)
         have r0 := HQ.frozen 0
         have r1 := HQ.frozen 1
         have r2 := HQ.frozen 2
         simp at q0 q1 q2
         have HQ3 : Hid (OwnRow w3 w2.heap.size 3 _) := HQ
         clear hb3 hb3' he3 HQ))
    all_goals
      first
      | (have HKP : Hid (Kept w w1 (w3.alloc (.cells #[.slice aX nX cX, .slice aY nY cY, .slice aZ nZ cZ] 36)) w3.heap.size [.slice a1 nB c1, .slice a2 nC c2, .slice a3 nE c3] (.slice aX nX cX) (.slice aY nY cY) (.slice aZ nZ cZ) d) := kept_new _ HW1.out HB3.out HX1.out HR1.out HK3.out
         clear HK3 HB3 HD2 HB2 hn1 hn2 hn3 hn4 z0 z1 z2 y0 y1 y2 x0 x1 x2
         generalize (w3.alloc (.cells #[.slice aX nX cX, .slice aY nY cY, .slice aZ nZ cZ] 36)) = W4 at *
         generalize w3.heap.size = bk at *)
      | (have HKP : Hid (Kept w w1 (((w3.setCell ⟨w2.heap.size, 0, none⟩ (.slice aX nX cX)).setCell ⟨w2.heap.size, 1, none⟩ (.slice aY nY cY)).setCell ⟨w2.heap.size, 2, none⟩ (.slice aZ nZ cZ)) w2.heap.size [.slice a1 nB c1, .slice a2 nC c2, .slice a3 nE c3] (.slice aX nX cX) (.slice aY nY cY) (.slice aZ nZ cZ) d) := kept_set HW1.out HB3.out HX1.out HR1.out HQ3.out HB2.out.size HK3.out (fun b hb => hb)
         clear HK3 HB3 HD2 HQ3 hn1 hn2 z0 z1 z2 y0 y1 y2 x0 x1 x2 q0 q1 q2 r0 r1 r2
         generalize (((w3.setCell ⟨w2.heap.size, 0, none⟩ (.slice aX nX cX)).setCell ⟨w2.heap.size, 1, none⟩ (.slice aY nY cY)).setCell ⟨w2.heap.size, 2, none⟩ (.slice aZ nZ cZ)) = W4 at *
         clear HB2
         generalize w2.heap.size = bk at *)
      | (have HKP : Hid (Kept w w1 (((w3.setCell ⟨w1.heap.size, 0, none⟩ (.slice aX nX cX)).setCell ⟨w1.heap.size, 1, none⟩ (.slice aY nY cY)).setCell ⟨w1.heap.size, 2, none⟩ (.slice aZ nZ cZ)) w1.heap.size [.slice a1 nB c1, .slice a2 nC c2, .slice a3 nE c3] (.slice aX nX cX) (.slice aY nY cY) (.slice aZ nZ cZ) d) := kept_set HW1.out HB3.out HX1.out HR1.out HQ3.out (Nat.le_refl _) HK3.out (fun b hb => ⟨by omega, by omega, by omega⟩)
         clear HK3 HB3 HD2 HQ3 hn1 hn2 z0 z1 z2 y0 y1 y2 x0 x1 x2 q0 q1 q2 r0 r1 r2 HB2
         generalize (((w3.setCell ⟨w1.heap.size, 0, none⟩ (.slice aX nX cX)).setCell ⟨w1.heap.size, 1, none⟩ (.slice aY nY cY)).setCell ⟨w1.heap.size, 2, none⟩ (.slice aZ nZ cZ)) = W4 at *
         replace HKP : Hid (∃ bk, bk = w1.heap.size ∧ Kept w w1 W4 bk [.slice a1 nB c1, .slice a2 nC c2, .slice a3 nE c3] (.slice aX nX cX) (.slice aY nY cY) (.slice aZ nZ cZ) d) := ⟨_, rfl, HKP.out⟩
         obtain ⟨bk, hbk, HKP⟩ := HKP.out
         replace HKP : Hid (Kept w w1 W4 bk [.slice a1 nB c1, .slice a2 nC c2, .slice a3 nE c3] (.slice aX nX cX) (.slice aY nY cY) (.slice aZ nZ cZ) d) := HKP
         rw [← hbk]
         clear hbk)
    all_goals
      obtain ⟨hW4, hx4, hk4, hU4, hr4, hb4a, hb4b⟩ := HKP.out
      have HW4 : Hid (Below w.heap.size w W4) := hW4
      have HU4 : Hid (KernU W4 (.slice aX nX cX) (.slice aY nY cY) (.slice aZ nZ cZ) d (fun b => w1.heap.size ≤ b ∧ b < W4.heap.size ∧ b ≠ bk)) := hU4
      have HR4 : Hid (OwnRow W4 (w.heap.size + 1) zero5.length (fun i => zero5[i]?.getD (.bool false))) := hr4
      have x0 := hx4 0 _ rfl
      have x1 := hx4 1 _ rfl
      have k0 := hk4 0 _ rfl
      have k1 := hk4 1 _ rfl
      have k2 := hk4 2 _ rfl
      have hn1 : w.heap.size + 1 ≠ bk := by omega
      have hn2 : bk ≠ w.heap.size + 1 := by omega
      clear hW4 hx4 hk4 hU4 hr4 HKP HX1 HR1 KCD KCE H
      go_wp2_with fail
      go_region_held3 (fun W => W.cell? ⟨w.heap.size, 0, none⟩ = some (.slice a1 nB c1) ∧ W.cell? ⟨w.heap.size, 1, none⟩ = some (.slice a2 nC c2) ∧ W.cell? ⟨bk, 0, none⟩ = some (.slice aX nX cX) ∧ W.cell? ⟨bk, 1, none⟩ = some (.slice aY nY cY) ∧ W.cell? ⟨bk, 2, none⟩ = some (.slice aZ nZ cZ)) (go_keep) (first
        | (go_at_call 47; refine (KBA.out _ HW4.out.drew).mono ?_; rintro e w5 ⟨aI, nI, cI, rfl, hb5, hi5⟩
           have hfd := field_ints aI nI cI
           have y0 := cell_later hb5 x0
           have y1 := cell_later hb5 x1
           have l0 := cell_later hb5 k0
           have l1 := cell_later hb5 k1
           have l2 := cell_later hb5 k2
           have hb45 : Below W4.heap.size W4 w5 := (Below.refl _ _).drew.trans hb5
           have HW5 : Hid (Below w.heap.size w w5) := HW4.out.trans (hb45.mono HW4.out.size)
           have hi5' : IntsO w5 (.slice aI nI cI) (atF d.1.1 d.1.2 x) (fun b => W4.heap.size ≤ b ∧ b < w5.heap.size) := hi5
           have HK5 : Hid (KResU w5 (.slice aI nI cI) (.slice aX nX cX) (.slice aY nY cY) (.slice aZ nZ cZ) (atF d.1.1 d.1.2 x, d.1, d.2) (fun b => w1.heap.size ≤ b ∧ b < w5.heap.size)) := ⟨_, _, hi5', HU4.out.later hb45, fun b h h' => by omega, fun b h => by have := hb45.size; rcases h with h | h <;> omega⟩
           have HR5 := HR4.out.later hb45
           have t0 := HR5.cell (i := 0) (by simp [zero5])
           have t1 := HR5.cell (i := 1) (by simp [zero5])
           have t2 := HR5.cell (i := 2) (by simp [zero5])
           have t3 := HR5.cell (i := 3) (by simp [zero5])
           have t4 := HR5.cell (i := 4) (by simp [zero5])
           have s0 := HR5.frozen 0
           have s1 := HR5.frozen 1
           have s2 := HR5.frozen 2
           have s3 := HR5.frozen 3
           have s4 := HR5.frozen 4
           simp [zero5] at t0 t1 t2 t3 t4
           clear hb5 hb45 hi5 hi5' HR5))
      all_goals
        go_wp2
        refine bodyPost_ret (v := .agg #[.int .i64 0, .slice aI nI cI, .slice aX nX cX, .slice aY nY cY, .slice aZ nZ cZ]) (by simp [results, Try.results12, go_sem, t0, t1, t2, t3, t4]) rfl ?_
        exact ansK_ret HW5.out (by omega) HK5.out (fun b hb => ⟨by omega, by omega, by omega⟩)
  · have hne : (m != 0) = true := by simpa using h0
    rw [if_neg h0]
    clear h0 HCD HCE HBA
    go_enter Try.func12, Try.ntmps12
    go_wp2_with fail
    refine (keyFault_any _ _ _ _ d key x (H.out.later (later2 _ _ _))).mono ?_
    rw [HM.out]
    rintro e w1 ⟨rfl, hb1⟩
    have HW1 : Hid (Below w.heap.size w w1) := (later2 _ _ _).trans (hb1.mono (by simp; omega))
    have HR1 := resRowL _ zero5 _ hb1
    have t0 := HR1.cell (i := 0) (by simp [zero5])
    have t1 := HR1.cell (i := 1) (by simp [zero5])
    have t2 := HR1.cell (i := 2) (by simp [zero5])
    have t3 := HR1.cell (i := 3) (by simp [zero5])
    have t4 := HR1.cell (i := 4) (by simp [zero5])
    have s0 := HR1.frozen 0
    have s1 := HR1.frozen 1
    have s2 := HR1.frozen 2
    have s3 := HR1.frozen 3
    have s4 := HR1.frozen 4
    simp [zero5] at t0 t1 t2 t3 t4
    clear hb1 HR1
    go_wp2
    exact bodyPost_ret (v := .agg #[.int .i64 m, .slice none 0 0, .slice none 0 0, .slice none 0 0, .slice none 0 0]) (by simp [results, Try.results12, go_sem, t0, t1, t2, t3, t4]) rfl (ansK_no HW1.out (by omega) m)
end Go.Proofs.Ytojegkekafampai
