
/- FlushDisk and CrashDisk in the one form of the laws. -/
import Derived.Test.YtomcejofhfngkaaBools
import Derived.Test.YtomcejofhfngkaaCpyB
namespace Go.Proofs.Ytomcejofhfngkaa
open Go.RowKit
set_option maxRecDepth 100000

def flushR (d : DK) : Int × DK := (faultF d.1 d.2, keepBlocks (fun _ => true) d.1 d.2, [])
def crashR (d : DK) (bb : List Bool) : Int × DK := (faultF d.1 d.2, keepBlocks (fun i => bb[i]?.getD false) d.1 d.2, [])
theorem small_blocks {d : DK} (h : sizeDisk d ≤ 1048576) (k : Nat) : (d.1[k]?.getD []).length ≤ 1048576 := by
  have := len_le_sum d.1 k
  unfold sizeDisk dsize at h
  omega
theorem small_puts {d : DK} (h : sizeDisk d ≤ 1048576) (k : Nat) : (d.2[k]?.getD (0, [])).2.length ≤ 1048576 := by
  have := wlen_le_sum d.2 k
  unfold sizeDisk dsize at h
  omega
theorem sum_le_mul {zss : List (List Int)} {M : Nat} (h : ∀ i : Nat, (zss[i]?.getD []).length ≤ M) : (zss.map List.length).sum ≤ zss.length * M := by
  induction zss with
  | nil => simp
  | cons a t ih =>
    have h0 := h 0
    have ht := ih fun i => by simpa using h (i + 1)
    simp at h0
    simp only [List.map_cons, List.sum_cons, List.length_cons, Nat.add_mul, Nat.one_mul]
    omega
theorem keepSpan (pk : Nat → Bool) (d : DK) (h : sizeDisk d ≤ 1048576) : spanDisk (keepBlocks pk d.1 d.2, []) ≤ 70000000 := by
  unfold keepBlocks
  split
  · rename_i hf
    have h1 := sum_le_mul (keepTo_len pk d.1 d.2 (small_blocks h) (small_puts h) d.2.length)
    rw [keepTo_length] at h1
    have h2 := (faultF_lens hf).1
    have h3 := Nat.mul_le_mul_right 1048576 h2
    simp only [spanDisk, dspan, wlens, List.map_nil, List.sum_nil, List.length_nil]
    omega
  · simp [spanDisk, dspan, wlens]

theorem specFlushU (w : World) (aB : Option Addr) (nB cB : Nat) (aC : Option Addr) (nC cC : Nat) (d : DK) (h : DiskR w (.slice aB nB cB) (.slice aC nC cC) d) (s : sizeDisk d ≤ 1048576) :
    Calls Try.prog 20 #[.agg #[.slice aB nB cB, .slice aC nC cC]] w (AnsDR w (flushR d)) :=
  (specFlush_any l1Copy_said w _ _ d.1 d.2 h.1 h.2 (small_blocks s) (small_puts s)).mono fun _ _ h => h.uni
theorem implFlushU (w : World) (aB : Option Addr) (nB cB : Nat) (aC : Option Addr) (nC cC : Nat) (d : DK) (h : DiskR w (.slice aB nB cB) (.slice aC nC cC) d) (s : sizeDisk d ≤ 1048576) :
    Calls Try.prog 21 #[.agg #[.slice aB nB cB, .slice aC nC cC]] w (AnsDR w (flushR d)) :=
  (implFlush_any w _ _ d.1 d.2 h.1 h.2 (small_blocks s) (small_puts s)).mono fun _ _ h => h.uni
theorem implCrashU (w : World) (aB : Option Addr) (nB cB : Nat) (aC : Option Addr) (nC cC : Nat) (d : DK) (a : Option Addr) (n c : Nat) (bb : List Bool) (h : DiskR w (.slice aB nB cB) (.slice aC nC cC) d) (hb : Bools w (.slice a n c) bb) (s : sizeDisk d ≤ 1048576) (_s : bb.length ≤ 1048576) :
    Calls Try.prog 35 #[.agg #[.slice aB nB cB, .slice aC nC cC], .slice a n c] w (AnsDR w (crashR d bb)) := by
  obtain ⟨a', c', e, _, hA⟩ := hb.open'
  rw [e]
  exact (implCrash_any w _ _ a' c' d.1 d.2 bb h.1 h.2 hA (small_blocks s) (small_puts s)).mono fun _ _ h => h.uni
end Go.Proofs.Ytomcejofhfngkaa
