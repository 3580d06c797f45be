
/- The walks of NewDisk, the program's and the specification's. -/
import Derived.Test.YtomcejofhfngkaaRows
import Derived.Test.YtomcejofhfngkaaTo
import Derived.Test.YtomcejofhfngkaaFault
namespace Go.Proofs.Ytomcejofhfngkaa
open Go.RowKit
set_option maxRecDepth 100000

theorem l1New_any (w : World) (n : Nat) (hn : n ≤ 60) :
    Calls Try.prog 106 #[.int .i64 (n : Int)] w fun e w' => ∃ b, w.heap.size ≤ b ∧ e = .returned (.agg #[.slice (some ⟨b, 0, none⟩) n n, .slice none 0 0]) ∧ Below w.heap.size w w' ∧ OwnRow w' b n (fun _ => .slice none 0 0) := by
  have hmk := fun w => run_make_row' (P := Try.prog) 22 26 (.slice none 0 0) 24 Try.underlying22 Try.infoInts rfl .i64 .i64 n (by omega) (by omega) w
  go_enter Try.func106, Try.ntmps106
  go_wp2
  refine bodyPost_ret (v := .agg #[.slice (some ⟨w.heap.size + 1, 0, none⟩) n n, .slice none 0 0]) (by simp [results, Try.results106, go_sem]) rfl ⟨w.heap.size + 1, by omega, rfl, later2 _ _ _, ?_⟩
  have := OwnRow.made (w.alloc (Obj.cells #[Value.slice (some ⟨w.heap.size + 1, 0, none⟩) n n, Value.slice none 0 0] 30)) (.slice none 0 0) n 26
  simpa using this

theorem newRack_any (w : World) (n : Nat) (hn : n ≤ 60) :
    Calls Try.prog 84 #[.int .i64 (n : Int)] w fun e w' => ∃ b, w.heap.size ≤ b ∧ e = .returned (.agg #[.slice (some ⟨b, 0, none⟩) n n]) ∧ Below w.heap.size w w' ∧ OwnRow w' b n (fun _ => .slice none 0 0) := by
  have hmk := fun w => run_make_row' (P := Try.prog) 22 26 (.slice none 0 0) 24 Try.underlying22 Try.infoInts rfl .i64 .i64 n (by omega) (by omega) w
  go_enter Try.func84, Try.ntmps84
  go_wp2
  refine bodyPost_ret (v := .agg #[.slice (some ⟨w.heap.size + 1, 0, none⟩) n n]) (by simp [results, Try.results84, go_sem]) rfl ⟨w.heap.size + 1, by omega, rfl, later2 _ _ _, ?_⟩
  have := OwnRow.made (w.alloc (Obj.cells #[Value.slice (some ⟨w.heap.size + 1, 0, none⟩) n n] 119)) (.slice none 0 0) n 26
  simpa using this

/-- n empty lists in one row that the call made. -/
theorem empties {w' : World} {b n : Nat} (F : Nat → Prop) (hF : F b) (hn : n ≤ 60) (h : OwnRow w' b n (fun _ => .slice none 0 0)) : IntsSO w' (.slice (some ⟨b, 0, none⟩) n n) (List.replicate n []) F := by
  refine Or.inr ⟨b, n, fun _ => .slice none 0 0, fun _ _ => False, hF, fun _ _ h => h.elim, fun _ _ _ _ h => h.elim, by simp, by unfold maxLen; simp; omega, by simpa using h, fun i hi => Or.inl ⟨?_, none, 0, rfl⟩⟩
  simp at hi
  simp [hi]

/-- The codes and the blocks of a new disk. -/
def newCode (size : Int) : Int := if 0 ≤ size ∧ size ≤ 60 then 0 else 3
def newBlocks (size : Int) : List (List Int) := if 0 ≤ size ∧ size ≤ 60 then List.replicate size.toNat [] else []

/-- A drive whose cache is empty. -/
theorem disk_nil (w : World) (bd off cap : Nat) (a ab : Option Addr) (nb cb : Nat) (h0 : w.cell? ⟨bd, off, none⟩ = some (.slice ab nb cb)) (h1 : w.cell? ⟨bd, off + 1, none⟩ = some (.slice a 0 cap)) :
    Calls Try.prog 55 #[.pointer (some ⟨bd, off, none⟩)] w fun e w' => e = .returned (.agg #[.slice ab nb cb, .slice none 0 0]) ∧ Below w.heap.size w w' := by
  have hlt := World.block_lt_of_cell? _ _ h0
  simp at hlt
  go_enter Try.func55, Try.ntmps55
  go_wp2
  go_loop [17] (fun i => i = .int .i64 0) (fun _ => 0)
  case atStart => rfl
  case round =>
    obtain rfl := hrel
    go_wp2
    exact bodyPost_ret (v := .agg #[.slice ab nb cb, .slice none 0 0]) (by simp [results, Try.results55, go_sem]) rfl ⟨rfl, later2 _ _ _⟩

theorem implNew_bad (w : World) (size : Int) (h : ¬ (0 ≤ size ∧ size ≤ 60)) :
    Calls Try.prog 40 #[.int .i64 size] w fun e w' => e = .returned (.agg #[.int .i64 3, .slice none 0 0, .slice none 0 0]) ∧ Below w.heap.size w w' := by
  by_cases h1 : size < 0
  · clear h
    go_enter Try.func40, Try.ntmps40
    go_wp2
    exact bodyPost_ret (v := .agg #[.int .i64 3, .slice none 0 0, .slice none 0 0]) (by simp [results, Try.results40, go_sem]) rfl ⟨rfl, later1 _ _⟩
  · have h2 : 60 < size := by omega
    have hd : decide (size < 0) = false := by simpa using h1
    clear h
    go_enter Try.func40, Try.ntmps40
    go_wp2
    exact bodyPost_ret (v := .agg #[.int .i64 3, .slice none 0 0, .slice none 0 0]) (by simp [results, Try.results40, go_sem]) rfl ⟨rfl, later1 _ _⟩

theorem implNew_ok (w : World) (n : Nat) (hn : n ≤ 60) :
    Calls Try.prog 40 #[.int .i64 (n : Int)] w fun e w' => ∃ b, w.heap.size ≤ b ∧ e = .returned (.agg #[.int .i64 0, .slice (some ⟨b, 0, none⟩) n n, .slice none 0 0]) ∧ Below w.heap.size w w' ∧ OwnRow w' b n (fun _ => .slice none 0 0) := by
  have hd : decide ((n : Int) < 0) = false := by simp
  have hd2 : decide (60 < (n : Int)) = false := by simp; omega
  go_enter Try.func40, Try.ntmps40
  go_wp2_with fail
  refine (newRack_any _ n hn).mono ?_
  rintro e w1 ⟨b, hb, rfl, hbel, hrow⟩
  have HB : Hid (Below _ _ w1) := hbel
  have HR : Hid (OwnRow w1 b n (fun _ => .slice none 0 0)) := hrow
  clear hbel hrow
  simp at hb
  go_wp2_with fail
  refine (disk_nil _ w1.heap.size 0 0 none (some ⟨b, 0, none⟩) n n (by rw [new_cell]; rfl) (by rw [new_cell]; rfl)).mono ?_
  rintro e w2 ⟨rfl, hb2⟩
  have HB2 : Hid (Below _ w1 w2) := (later1 _ _).trans (hb2.mono (by simp))
  clear hb2
  have hbel := HB.out.trans (HB2.out.mono HB.out.size)
  have HBA : Hid (Below _ _ w2) := hbel
  obtain ⟨hc, hf⟩ := bcell hbel
  have hz : w.heap.size < w2.heap.size := by have := hbel.size; simp at this; omega
  clear hbel
  go_wp2
  refine bodyPost_ret (v := .agg #[.int .i64 0, .slice (some ⟨b, 0, none⟩) n n, .slice none 0 0]) (by simp [results, Try.results40, go_sem, hc]) rfl ⟨b, by omega, rfl, ?_, ?_⟩
  · exact (((((later1 _ _).trans (HBA.out.mono (by simp))).setCell (Nat.le_refl _) _).setCell (Nat.le_refl _) _).setCell (Nat.le_refl _) _)
  · exact (((HR.out.block (HB2.out.block b HR.out.lt)).store (by simp; omega) _).store (by simp; omega) _).store (by simp; omega) _

theorem ans_new {w w' : World} {b n : Nat} (hn : n ≤ 60) (hb : w.heap.size ≤ b) (hbel : Below w.heap.size w w') (hr : OwnRow w' b n (fun _ => .slice none 0 0)) : AnsDisk w 0 (List.replicate n []) [] (.returned (.agg #[.int .i64 0, .slice (some ⟨b, 0, none⟩) n n, .slice none 0 0])) w' :=
  ⟨_, n, n, none, 0, 0, rfl, hbel, fun c => c = b, fun _ => False, empties _ rfl hn hr, Or.inl ⟨rfl, none, 0, rfl⟩, fun _ _ h => h.elim, fun c h => by have := hr.lt; exact h.elim (fun h => ⟨by omega, by omega⟩) False.elim⟩

theorem implNew_any (w : World) (size : Int) : Calls Try.prog 40 #[.int .i64 size] w (AnsDisk w (newCode size) (newBlocks size) []) := by
  by_cases h : 0 ≤ size ∧ size ≤ 60
  · obtain ⟨n, rfl⟩ := Int.eq_ofNat_of_zero_le h.1
    have e1 : newCode (n : Int) = 0 := by simp [newCode, h]
    have e2 : newBlocks (n : Int) = List.replicate n [] := by simp [newBlocks, h]
    rw [e1, e2]
    exact (implNew_ok w n (by omega)).mono fun e w' ⟨b, h1, he, h2, h3⟩ => he ▸ ans_new (by omega) h1 h2 h3
  · have e1 : newCode size = 3 := by simp [newCode, h]
    have e2 : newBlocks size = [] := by simp [newBlocks, h]
    rw [e1, e2]
    exact (implNew_bad w size h).mono fun e w' ⟨he, h2⟩ => he ▸ ans_bad h2 3

end Go.Proofs.Ytomcejofhfngkaa
