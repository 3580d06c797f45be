
/- FlushDisk and CrashDisk in the one form of the laws. -/
import Derived.Test.YtojegkekafampahBools
import Derived.Test.YtojegkekafampahCpyB
namespace Go.Proofs.Ytojegkekafampah
open Go.RowKit
set_option maxRecDepth 100000

def flushR (d : DK) : Int × DK := (faultF d.1 d.2, keepBlocks (fun _ => true) d.1 d.2, [])
def crashR (d : DK) (bb : List Bool) : Int × DK := (faultF d.1 d.2, keepBlocks (fun i => bb[i]?.getD false) d.1 d.2, [])
theorem small_blocks {d : DK} (h : sizeDisk d ≤ 1048576) (k : Nat) : (d.1[k]?.getD []).length ≤ 1048576 := by
  have := len_le_sum d.1 k
  unfold sizeDisk dsize at h
  omega
theorem small_puts {d : DK} (h : sizeDisk d ≤ 1048576) (k : Nat) : (d.2[k]?.getD (0, [])).2.length ≤ 1048576 := by
  have := wlen_le_sum d.2 k
  unfold sizeDisk dsize at h
  omega
theorem sum_le_mul {zss : List (List Int)} {M : Nat} (h : ∀ i : Nat, (zss[i]?.getD []).length ≤ M) : (zss.map List.length).sum ≤ zss.length * M := by
  induction zss with
  | nil => simp
  | cons a t ih =>
    have h0 := h 0
    have ht := ih fun i => by simpa using h (i + 1)
    simp at h0
    simp only [List.map_cons, List.sum_cons, List.length_cons, Nat.add_mul, Nat.one_mul]
    omega
theorem keepSpan (pk : Nat → Bool) (d : DK) (h : sizeDisk d ≤ 1048576) : spanDisk (keepBlocks pk d.1 d.2, []) ≤ 70000000 := by
  unfold keepBlocks
  split
  · rename_i hf
    have h1 := sum_le_mul (keepTo_len pk d.1 d.2 (small_blocks h) (small_puts h) d.2.length)
    rw [keepTo_length] at h1
    have h2 := (faultF_lens hf).1
    have h3 := Nat.mul_le_mul_right 1048576 h2
    simp only [spanDisk, dspan, wlens, List.map_nil, List.sum_nil, List.length_nil]
    omega
  · simp [spanDisk, dspan, wlens]

end Go.Proofs.Ytojegkekafampah
