
/- How an answer with a kern is put together; the walks of NewKern, both. -/
import Derived.Test.YtojegkekafampahKrnB
import Derived.Test.YtojegkekafampahOwnA
import Derived.Test.YtojegkekafampahNewD
namespace Go.Proofs.Ytojegkekafampah
open Go.RowKit
set_option maxRecDepth 100000

theorem KResU.of {w : World} {vW vB vC vE : Value} {ws : List Int} {d : DK} {es : List E3} {F1 F2 F3 F : Nat → Prop} (h1 : IntsO w vW ws F1) (h2 : DiskU w vB vC d F2) (h3 : ExtsO w vE es F3) (d12 : ∀ b, F1 b → ¬ F2 b) (d13 : ∀ b, F1 b → ¬ F3 b) (d23 : ∀ b, F2 b → ¬ F3 b) (hf : ∀ b, F1 b ∨ F2 b ∨ F3 b → F b) : KResU w vW vB vC vE (ws, d, es) F :=
  ⟨F1, fun b => F2 b ∨ F3 b, h1, ⟨F2, F3, h2, h3, d23, fun _ h => h⟩, fun b h h' => h'.elim (d12 b h) (d13 b h), hf⟩
theorem set5 {w : World} {β b : Nat} (v0 v1 v2 v3 v4 : Value) (hb : b ≠ β) : (((((w.setCell ⟨β, 0, none⟩ v0).setCell ⟨β, 1, none⟩ v1).setCell ⟨β, 2, none⟩ v2).setCell ⟨β, 3, none⟩ v3).setCell ⟨β, 4, none⟩ v4).heap[b]? = w.heap[b]? := by
  rw [Below.heap_setCell _ _ _ _ hb, Below.heap_setCell _ _ _ _ hb, Below.heap_setCell _ _ _ _ hb, Below.heap_setCell _ _ _ _ hb, Below.heap_setCell _ _ _ _ hb]
theorem ansK_ret {w W : World} {β : Nat} {code : Int} {aW : Option Addr} {nW cW : Nat} {aB : Option Addr} {nB cB : Nat} {aC : Option Addr} {nC cC : Nat} {aE : Option Addr} {nE cE : Nat} {d : KResD} {F : Nat → Prop} (hb : Below w.heap.size w W) (hβ : w.heap.size ≤ β) (h : KResU W (.slice aW nW cW) (.slice aB nB cB) (.slice aC nC cC) (.slice aE nE cE) d F) (hF : ∀ b, F b → w.heap.size ≤ b ∧ b < W.heap.size ∧ b ≠ β) :
    AnsKR w (code, d) (.returned (.agg #[.int .i64 code, .slice aW nW cW, .slice aB nB cB, .slice aC nC cC, .slice aE nE cE])) (((((W.setCell ⟨β, 0, none⟩ (.int .i64 code)).setCell ⟨β, 1, none⟩ (.slice aW nW cW)).setCell ⟨β, 2, none⟩ (.slice aB nB cB)).setCell ⟨β, 3, none⟩ (.slice aC nC cC)).setCell ⟨β, 4, none⟩ (.slice aE nE cE)) :=
  ⟨_, _, _, _, _, _, _, _, _, _, _, _, rfl, ((((hb.setCell hβ _).setCell hβ _).setCell hβ _).setCell hβ _).setCell hβ _, (h.keep fun b hf _ => set5 _ _ _ _ _ (hF b hf).2.2).mono fun b hf => ⟨(hF b hf).1, by simpa [World.setCell] using (hF b hf).2.1⟩⟩
theorem ansK_no {w W : World} {β : Nat} (hb : Below w.heap.size w W) (hβ : w.heap.size ≤ β) (code : Int) :
    AnsKR w (code, [], ([], []), []) (.returned (.agg #[.int .i64 code, .slice none 0 0, .slice none 0 0, .slice none 0 0, .slice none 0 0])) (((((W.setCell ⟨β, 0, none⟩ (.int .i64 code)).setCell ⟨β, 1, none⟩ (.slice none 0 0)).setCell ⟨β, 2, none⟩ (.slice none 0 0)).setCell ⟨β, 3, none⟩ (.slice none 0 0)).setCell ⟨β, 4, none⟩ (.slice none 0 0)) :=
  ansK_bad (((((hb.setCell hβ _).setCell hβ _).setCell hβ _).setCell hβ _).setCell hβ _) code

theorem AnsKR.later {w W W' : World} {r : Int × KResD} {e : Ending} (h : AnsKR w r e W) (hb : Below W.heap.size W W') : AnsKR w r e W' := by
  obtain ⟨aW, nW, cW, aB, nB, cB, aC, nC, cC, aE, nE, cE, h1, h2, h3⟩ := h
  exact ⟨aW, nW, cW, aB, nB, cB, aC, nC, cC, aE, nE, cE, h1, h2.trans (hb.mono h2.size), (h3.later hb).mono fun b hf => ⟨hf.1, Nat.lt_of_lt_of_le hf.2 hb.size⟩⟩

theorem l2Bad_any (w : World) (c : Int) : Calls Try.prog 43 #[.int .i64 c] w fun e w' => e = .returned (.agg #[.int .i64 c, .slice none 0 0, .slice none 0 0, .slice none 0 0, .slice none 0 0]) ∧ Below w.heap.size w w' := by
  go_enter Try.func43, Try.ntmps43
  go_wp2
  exact bodyPost_ret (v := .agg #[.int .i64 c, .slice none 0 0, .slice none 0 0, .slice none 0 0, .slice none 0 0]) (by simp [results, Try.results43, go_sem]) rfl ⟨rfl, later1 _ _⟩

def newK (size : Int) : Int × KResD := (newCode size, [], (newBlocks size, []), [])
/-- The cells of an empty answer. -/
def zero5 : List Value := [.int .i64 0, .slice none 0 0, .slice none 0 0, .slice none 0 0, .slice none 0 0]

set_option maxHeartbeats 1600000 in
theorem specNewK_any (w : World) (size : Int) : Calls Try.prog 14 #[.int .i64 size] w (AnsKR w (newK size)) := by
  have HK : Hid (newK size = (newCode size, [], (newBlocks size, []), [])) := rfl
  have HZ : Hid (¬ newCode size = 0 → newBlocks size = []) := fun h => by unfold newCode at h; unfold newBlocks; split <;> simp_all
  rw [HK.out]
  generalize hc : newCode size = c at *
  generalize hbk : newBlocks size = bk at *
  have HC : Hid (newCode size = c) := hc
  have HB : Hid (newBlocks size = bk) := hbk
  clear hc hbk HK
  by_cases h0 : c = 0
  · subst h0
    go_enter Try.func14, Try.ntmps14
    go_wp2_with fail
    refine (specNew_any _ size).mono ?_
    rw [HC.out, HB.out]
    rintro e w1 ⟨aB, nB, cB, aC, nC, cC, rfl, hd⟩
    have HW1 : Hid (Below w.heap.size w w1) := (later1 _ _).trans (hd.below.mono (by simp))
    have HD1 : Hid (DiskU w1 (.slice aB nB cB) (.slice aC nC cC) (bk, []) (fun b => w.heap.size < b ∧ b < w1.heap.size)) := DiskO.mono hd.disk fun b hb => ⟨by have := hb.1; simp at this; omega, hb.2⟩
    have HR1 := (OwnRow.newL w zero5 42).later hd.below
    have hz : w.heap.size < w1.heap.size := HR1.lt
    have t0 := HR1.cell (i := 0) (by simp [zero5])
    have t1 := HR1.cell (i := 1) (by simp [zero5])
    have t2 := HR1.cell (i := 2) (by simp [zero5])
    have t3 := HR1.cell (i := 3) (by simp [zero5])
    have t4 := HR1.cell (i := 4) (by simp [zero5])
    have s0 := HR1.frozen 0
    have s1 := HR1.frozen 1
    have s2 := HR1.frozen 2
    have s3 := HR1.frozen 3
    have s4 := HR1.frozen 4
    simp [zero5] at t0 t1 t2 t3 t4
    clear hd HR1
    go_wp2
    refine bodyPost_ret (v := .agg #[.int .i64 0, .slice none 0 0, .slice aB nB cB, .slice aC nC cC, .slice none 0 0]) (by simp [results, Try.results14, go_sem, t0, t1, t2, t3, t4, hz]) rfl ?_
    refine (ansK_ret (F := fun b => w.heap.size < b ∧ b < w1.heap.size) HW1.out (Nat.le_refl _) (KResU.of (F1 := fun _ => False) (F2 := fun b => w.heap.size < b ∧ b < w1.heap.size) (F3 := fun _ => False) (Or.inl ⟨rfl, none, 0, rfl⟩) HD1.out (Or.inl ⟨rfl, none, 0, rfl⟩) (fun _ h => h.elim) (fun _ h => h.elim) (fun _ _ h => h) (fun b h => h.elim False.elim (fun h => h.elim id False.elim))) (fun b hb => ⟨by omega, by omega, by omega⟩)).later (later1 _ _)
  · have hne : (c != 0) = true := by simpa using h0
    rw [HZ.out h0]
    clear h0
    go_enter Try.func14, Try.ntmps14
    go_wp2_with fail
    refine (specNew_any _ size).mono ?_
    rw [HC.out, HB.out]
    rintro e w1 ⟨aB, nB, cB, aC, nC, cC, rfl, hd⟩
    have HW1 : Hid (Below w.heap.size w w1) := (later1 _ _).trans (hd.below.mono (by simp))
    have HR1 : Hid (OwnRow w1 w.heap.size zero5.length _) := (OwnRow.newL w zero5 42).later hd.below
    have hz : w.heap.size < w1.heap.size := HR1.out.lt
    clear hd
    go_wp2_with fail
    refine (l2Bad_any _ c).mono ?_
    rintro e w2 ⟨rfl, hb2⟩
    have HW2 : Hid (Below w.heap.size w w2) := (HW1.out.trans ((later1 _ _).mono HW1.out.size)).trans (hb2.mono (by have := HW1.out.size; simp; omega))
    have HR2 := (HR1.out.later (later1 _ _)).later hb2
    have t0 := HR2.cell (i := 0) (by simp [zero5])
    have t1 := HR2.cell (i := 1) (by simp [zero5])
    have t2 := HR2.cell (i := 2) (by simp [zero5])
    have t3 := HR2.cell (i := 3) (by simp [zero5])
    have t4 := HR2.cell (i := 4) (by simp [zero5])
    have s0 := HR2.frozen 0
    have s1 := HR2.frozen 1
    have s2 := HR2.frozen 2
    have s3 := HR2.frozen 3
    have s4 := HR2.frozen 4
    simp [zero5] at t0 t1 t2 t3 t4
    clear hb2 HR2
    go_wp2
    exact bodyPost_ret (v := .agg #[.int .i64 c, .slice none 0 0, .slice none 0 0, .slice none 0 0, .slice none 0 0]) (by simp [results, Try.results14, go_sem, t0, t1, t2, t3, t4]) rfl (ansK_no HW2.out (Nat.le_refl _) c)

set_option maxHeartbeats 1600000 in
theorem implNewK_any (w : World) (size : Int) : Calls Try.prog 15 #[.int .i64 size] w (AnsKR w (newK size)) := by
  have HK : Hid (newK size = (newCode size, [], (newBlocks size, []), [])) := rfl
  rw [HK.out]
  generalize hc : newCode size = c at *
  generalize hbk : newBlocks size = bk at *
  have HC : Hid (newCode size = c) := hc
  have HB : Hid (newBlocks size = bk) := hbk
  clear hc hbk HK
  go_enter Try.func15, Try.ntmps15
  go_wp2_with fail
  refine (implNew_any _ size).mono ?_
  rw [HC.out, HB.out]
  rintro e w1 ⟨aB, nB, cB, aC, nC, cC, rfl, hd⟩
  have HW1 : Hid (Below w.heap.size w w1) := (later1 _ _).trans (hd.below.mono (by simp))
  have HD1 : Hid (DiskU w1 (.slice aB nB cB) (.slice aC nC cC) (bk, []) (fun b => w.heap.size < b ∧ b < w1.heap.size)) := DiskO.mono hd.disk fun b hb => ⟨by have := hb.1; simp at this; omega, hb.2⟩
  have HR1 := (OwnRow.newL w zero5 42).later hd.below
  have hz : w.heap.size < w1.heap.size := HR1.lt
  have t0 := HR1.cell (i := 0) (by simp [zero5])
  have t1 := HR1.cell (i := 1) (by simp [zero5])
  have t2 := HR1.cell (i := 2) (by simp [zero5])
  have t3 := HR1.cell (i := 3) (by simp [zero5])
  have t4 := HR1.cell (i := 4) (by simp [zero5])
  have s0 := HR1.frozen 0
  have s1 := HR1.frozen 1
  have s2 := HR1.frozen 2
  have s3 := HR1.frozen 3
  have s4 := HR1.frozen 4
  simp [zero5] at t0 t1 t2 t3 t4
  clear hd HR1
  go_wp2
  refine bodyPost_ret (v := .agg #[.int .i64 c, .slice none 0 0, .slice aB nB cB, .slice aC nC cC, .slice none 0 0]) (by simp [results, Try.results15, go_sem, t0, t1, t2, t3, t4, hz]) rfl ?_
  refine (ansK_ret (F := fun b => w.heap.size < b ∧ b < w1.heap.size) HW1.out (Nat.le_refl _) (KResU.of (F1 := fun _ => False) (F2 := fun b => w.heap.size < b ∧ b < w1.heap.size) (F3 := fun _ => False) (Or.inl ⟨rfl, none, 0, rfl⟩) HD1.out (Or.inl ⟨rfl, none, 0, rfl⟩) (fun _ h => h.elim) (fun _ h => h.elim) (fun _ _ h => h) (fun b h => h.elim False.elim (fun h => h.elim id False.elim))) (fun b hb => ⟨by omega, by omega, by omega⟩)).later (later1 _ _)

theorem newSpan (size : Int) : spanKRes (newK size).2 = 0 := by
  simp only [newK, spanKRes, spanKern, spanDisk, dspan, newBlocks]
  split <;> simp [wlens]
end Go.Proofs.Ytojegkekafampah
