/- The program's UsedBlocks, FreeBlocks and PickBlocks. The program: what is wrong of inodes, data and entries of a file system. Lists of extents: how they read, what they own. No program is named here. The walks of the laws' functions over lists of extents. What 'append' and 'copy' of extents come to. The program's copying of a list of extents. Pieces of a list of extents: what slicing it comes to. A queue: words that grow by append and are gone through from the front. Maps from int64 to int64 that the call made: what they tell of a key. -/
import Derived.Test.YtlohgnidbkechaaGreatDoorM09
import Derived.Test.YtlohgnidbkechaaGreatDoorM11
import Derived.Test.YtlohgnidbkechaaGreatDoorM06
import Derived.Test.YtlohgnidbkechaaGreatDoorM00
import Derived.Test.YtlohgnidbkechaaGreatDoorRows
import Derived.Deep.RegionWith
import Derived.Deep.RegionHeld3
import Derived.Test.YtlohgnidbkechaaGreatDoorM02
import Derived.Deep.AppendLies
import Derived.Laws.CopyOwn
import Derived.Test.YtlohgnidbkechaaGreatDoorM07
import Derived.Test.YtlohgnidbkechaaGreatDoorM05
import Derived.Maps.RangeWalk
import Derived.Maps.OwnOps
import Derived.Maps.Views
namespace Go.Proofs.YtlohgnidbkechaaGreatDoor
open Go.RowKit
set_option maxRecDepth 100000

theorem Arr.putNew (w : World) (g : Nat → Nat) : ∃ X, (Instr.storeAt 152 (.pointer (some ⟨w.heap.size, 0, none⟩)) (.agg (arrC g))).run Tryz.prog (w.alloc (.cells (arrC fun _ => 0) 152)) = .ok () X ∧ Arr X w.heap.size g ∧ Below w.heap.size w X := by
  obtain ⟨X, h1, h2, h3, h4, h5, h6, h7⟩ := (Arr.new w fun _ => 0).put g
  exact ⟨X, h1, h2, (later1 w (.cells (arrC fun _ => 0) 152)).trans ⟨h5, h6, h7, by omega, fun c hc => h4 c (by omega)⟩⟩

theorem busF_each {zs : List Int} (h : busF zs = 0) (k : Nat) (hk : k < zs.length) : 0 ≤ zs[k]?.getD 0 ∧ zs[k]?.getD 0 < 20 := by
  unfold busF at h
  split at h
  · omega
  · have := fstNZ_inv h k hk
    unfold rngF at this
    split at this <;> omega
theorem busF_len {zs : List Int} (h : busF zs = 0) : zs.length ≤ 20 := by
  unfold busF at h
  split at h <;> omega
theorem cntB_le (ds : List ID) (hs : sizeInos ds ≤ 1048576) (v : Int) : cntB ds v ≤ 1048576 := by
  have h2 := allB_len ds
  have h3 := List.count_le_length (a := v) (l := allB ds)
  unfold sizeInos at hs
  unfold cntB
  omega
theorem manyB_once (ds : List ID) : manyB (fun i => cntB ds (i : Int)) = !onceB ds 20 := by
  unfold manyB onceB
  rw [List.not_all_eq_any_not]
  congr 1
  funext k
  simp only [← decide_not]
  rw [decide_eq_decide]
  omega
theorem freeP_eq (ds : List ID) (bs : List Int) : (fun k : Nat => decide (cntB ds (k : Int) + bs.count (k : Int) = 0)) = freeP ds bs := by
  funext k
  unfold freeP
  cases hb : bs.contains (k : Int) with
  | true =>
    have h1 : (k : Int) ∈ bs := by simpa using hb
    have h2 := List.count_pos_iff.2 h1
    simp; omega
  | false =>
    have h1 : ¬ (k : Int) ∈ bs := by simpa using hb
    have h2 := List.count_eq_zero.2 h1
    rw [h2]; simp

end Go.Proofs.YtlohgnidbkechaaGreatDoor

namespace Go.Proofs.YtlohgnidbkechaaGreatDoor
open Go.RowKit
set_option maxRecDepth 100000

set_option maxHeartbeats 800000 in
theorem isInode_any (w : World) (a1 : Option Addr) (n1 c1 : Nat) (a2 : Option Addr) (n2 c2 : Nat) (x : Int) :
    Calls Tryz.prog 39 #[.agg #[.slice a1 n1 c1, .slice a2 n2 c2], .int .i64 x] w fun e w' => e = .returned (.bool (decide (0 ≤ x ∧ x < (n1 : Int)))) ∧ Below w.heap.size w w' := by
  by_cases h0 : 0 ≤ x
  · have HR : Hid (decide (0 ≤ x ∧ x < (n1 : Int)) = decide (x < (n1 : Int))) := by unfold Hid; simp [h0]
    have hd : decide (0 ≤ x) = true := by simpa using h0
    clear h0
    go_enter Tryz.func39, Tryz.ntmps39
    go_wp2
    go_ret
    exact ⟨ret_bool HR.out.symm, later1 _ _⟩
  · have HR : Hid (decide (0 ≤ x ∧ x < (n1 : Int)) = false) := by unfold Hid; simp; omega
    have hd : decide (0 ≤ x) = false := by simpa using h0
    clear h0
    go_enter Tryz.func39, Tryz.ntmps39
    go_wp2
    go_ret
    exact ⟨ret_bool HR.out.symm, later1 _ _⟩

/-- A place of what is not free. -/
def thB (d : FD) (x : Int) : Bool := decide (0 ≤ x ∧ x < (d.1.length : Int)) && !decide (kindAt d.1 x.toNat = 0)
set_option maxHeartbeats 1600000 in
theorem isThere_any (w : World) (a1 : Option Addr) (n1 c1 : Nat) (a2 : Option Addr) (n2 c2 : Nat) (d : FD) (x : Int) (h : FsR w (.slice a1 n1 c1) (.slice a2 n2 c2) d) :
    Calls Tryz.prog 113 #[.agg #[.slice a1 n1 c1, .slice a2 n2 c2], .int .i64 x] w fun e w' => e = .returned (.bool (thB d x)) ∧ Below w.heap.size w w' := by
  have HX : Hid (Bx (w.alloc (.cells #[.slice a1 n1 c1, .slice a2 n2 c2] 32)) w.heap.size [.slice a1 n1 c1, .slice a2 n2 c2]) := Bx.new w [.slice a1 n1 c1, .slice a2 n2 c2] _
  have HIN : Hid (∀ W, Calls Tryz.prog 39 #[.agg #[.slice a1 n1 c1, .slice a2 n2 c2], .int .i64 x] W fun e w' => e = .returned (.bool (decide (0 ≤ x ∧ x < (n1 : Int)))) ∧ Below W.heap.size W w') := fun W => isInode_any W a1 n1 c1 a2 n2 c2 x
  obtain ⟨_, _, e2, hm2, hc⟩ := h.1.open'
  simp only [Value.slice.injEq] at e2
  obtain ⟨rfl, rfl, rfl⟩ := e2
  have HB0 : Hid (Below w.heap.size w (w.alloc (.cells #[.slice a1 d.1.length c1, .slice a2 n2 c2] 32))) := later1 _ _
  have hz0 : (w.alloc (.cells #[.slice a1 d.1.length c1, .slice a2 n2 c2] 32)).heap.size = w.heap.size + 1 := by simp
  by_cases hin : 0 ≤ x ∧ x < (d.1.length : Int)
  · obtain ⟨y, rfl⟩ : ∃ y : Nat, x = (y : Int) := ⟨x.toNat, by omega⟩
    have hy : y < d.1.length := by omega
    obtain ⟨b, o, rfl, hK⟩ := hc y hy
    obtain ⟨_, _, _, _, kc, _⟩ := hK
    have HKC : Hid (w.cell? ⟨b, o + y * 5, none⟩ = some (.int .i64 (d.1[y]?.getD id0).1)) := kc
    have HR : Hid (thB d (y : Int) = ((d.1[y]?.getD id0).1 != 0)) := by
      unfold Hid thB kindAt
      rw [decide_eq_true hin, Bool.true_and, Int.toNat_natCast]
      by_cases e : (d.1[y]?.getD id0).1 = 0
      · rw [e]; rfl
      · rw [decide_eq_false e]; symm; simpa using e
    have hyI : (y : Int) < ((d.1.length : Nat) : Int) := hin.2
    rw [decide_eq_true hin] at HIN
    rw [HR.out]
    clear kc hc h hin HR hm2
    generalize (d.1[y]?.getD id0).1 = ky at *
    generalize d.1.length = n at *
    go_enter Tryz.func113, Tryz.ntmps113
    go_wp2_with fail
    generalize (w.alloc (.cells #[.slice (some ⟨b, o, none⟩) n c1, .slice a2 n2 c2] 32)) = W0 at *
    refine (HIN.out _).mono ?_
    rintro e w1 ⟨rfl, hb1⟩
    have HB1 : Hid (Below w.heap.size w w1) := HB0.out.trans (hb1.mono HB0.out.size)
    have x0 := (HX.out.later hb1) 0 _ rfl
    have x1 := (HX.out.later hb1) 1 _ rfl
    have k1 := cell_later HB1.out HKC.out
    clear hb1
    go_wp2
    go_ret
    exact ⟨rfl, HB1.out⟩
  · have HR : Hid (thB d x = false) := by unfold Hid thB; rw [decide_eq_false hin]; rfl
    rw [decide_eq_false hin] at HIN
    rw [HR.out]
    clear hc h hin HR hm2
    generalize d.1.length = n at *
    go_enter Tryz.func113, Tryz.ntmps113
    go_wp2_with fail
    generalize (w.alloc (.cells #[.slice a1 n c1, .slice a2 n2 c2] 32)) = W0 at *
    refine (HIN.out _).mono ?_
    rintro e w1 ⟨rfl, hb1⟩
    have HB1 : Hid (Below w.heap.size w w1) := HB0.out.trans (hb1.mono HB0.out.size)
    clear hb1
    go_wp2
    go_ret
    exact ⟨rfl, HB1.out⟩
theorem th_lost {d : FD} {x : Int} (h : 0 ≤ x) : thB d x = !lostB d.1 x := by
  unfold thB lostB
  by_cases e : x < (d.1.length : Int)
  · rw [decide_eq_true (show 0 ≤ x ∧ x < (d.1.length : Int) from ⟨h, e⟩), decide_eq_false (show ¬ (d.1.length : Int) ≤ x by omega)]
    simp
  · rw [decide_eq_false (show ¬ (0 ≤ x ∧ x < (d.1.length : Int)) from fun hh => e hh.2), decide_eq_true (show (d.1.length : Int) ≤ x by omega)]
    simp

/-- What is wrong of data and blocks. -/
def dataF (d : FD) : Int := if d.2.length = 20 then (if fstNZ (manyF d.2) d.2.length = 0 then (if onceB d.1 20 then 0 else 7) else fstNZ (manyF d.2) d.2.length) else 1

set_option maxHeartbeats 3200000 in
theorem dataFault_any (w : World) (aI : Option Addr) (nI cI : Nat) (aD : Option Addr) (nD cD : Nat) (d : FD) (h : FsR w (.slice aI nI cI) (.slice aD nD cD) d) (hs : sizeInos d.1 ≤ 1048576) (hi : insF d.1 = 0) :
    Calls Tryz.prog 91 #[.agg #[.slice aI nI cI, .slice aD nD cD]] w fun e w' => e = .returned (.int .i64 (dataF d)) ∧ Below w.heap.size w w' := by
  have HNE : Hid (∀ W, Below w.heap.size w W → Calls Tryz.prog 111 #[.slice aI nI cI] W fun e w' => e = .returned (.agg (arrC fun i => cntB d.1 (i : Int))) ∧ Below W.heap.size W w') := fun W hW => needsOf_any (h.1.later hW) hs hi
  have HM : Hid (∀ W, Calls Tryz.prog 112 #[.agg (arrC fun i => cntB d.1 (i : Int))] W fun e w' => e = .returned (.bool (!onceB d.1 20)) ∧ Below W.heap.size W w') := fun W => by
    rw [← manyB_once]
    exact anyOfTwo_any W _ (fun i => by have := cntB_le d.1 hs (i : Int); omega)
  have HX : Hid (Bx (w.alloc (.cells #[.slice aI nI cI, .slice aD nD cD] 32)) w.heap.size [.slice aI nI cI, .slice aD nD cD]) := Bx.new w [.slice aI nI cI, .slice aD nD cD] _
  have HDF : Hid (dataF d = if d.2.length = 20 then (if fstNZ (manyF d.2) d.2.length = 0 then (if onceB d.1 20 then 0 else 7) else fstNZ (manyF d.2) d.2.length) else 1) := rfl
  obtain ⟨_, _, e2, hm2, hc⟩ := h.2.open'
  simp only [Value.slice.injEq] at e2
  obtain ⟨rfl, rfl, rfl⟩ := e2
  by_cases h20 : d.2.length = 20
  rotate_left
  · have hb : ((d.2.length : Int) != 20) = true := by simp; omega
    have HR : Hid (dataF d = 1) := by unfold Hid; rw [HDF.out, if_neg h20]
    clear hc h HDF hm2 h20
    generalize d.2.length = n at *
    go_enter Tryz.func91, Tryz.ntmps91
    go_wp2
    go_ret
    exact ⟨ret_int HR.out.symm, later1 _ _⟩
  · have HC : Hid (AtYs w aD 20 d.2) := by unfold Hid; rw [← h20]; exact hc
    have HL2 : Hid (d.2.length = 20) := h20
    have hb : (((20 : Nat) : Int) != 20) = false := by simp
    clear hc h hm2
    rw [h20] at HX ⊢
    clear h20
    generalize (fun i : Nat => cntB d.1 (i : Int)) = g at *
    go_enter Tryz.func91, Tryz.ntmps91
    go_wp2
    go_loopw [12] (fun i wr => ∃ j : Nat, j ≤ 20 ∧ i = .int .i64 j ∧ wr = w.alloc (.cells #[.slice aI nI cI, .slice aD 20 cD] 32) ∧ ∀ i : Nat, i < j → manyF d.2 i = 0) (fun i _ => 20 - (intOf i).toNat)
    case atStart => exact ⟨0, by omega, rfl, rfl, fun i hi => by omega⟩
    case round =>
      obtain ⟨j, hj, rfl, rfl, hz⟩ := hrel
      have HZ : Hid (∀ i : Nat, i < j → manyF d.2 i = 0) := hz
      clear hz
      by_cases hlt : j < 20
      · obtain ⟨bD, oD, ua, uc, rfl, d0, _⟩ := HC.out j hlt
        replace d0 := cell_later (later1 w (.cells #[.slice aI nI cI, .slice (some ⟨bD, oD, none⟩) 20 cD] 32)) d0
        by_cases h8 : 8 < (d.2[j]?.getD []).length
        · have hb8 : decide ((8 : Int) < (((d.2[j]?.getD []).length : Nat) : Int)) = true := by simp; omega
          have HR : Hid (dataF d = 2) := by
            have e1 : manyF d.2 j = 2 := by unfold manyF; rw [if_pos h8]
            have e2 := fstNZ_at (f := manyF d.2) HZ.out (by rw [e1]; omega) (n := d.2.length) (by rw [HL2.out]; exact hlt)
            unfold Hid; rw [HDF.out, if_pos HL2.out, e2, e1]; simp
          clear h8
          generalize (d.2[j]?.getD []).length = ln at *
          go_wp2
          go_ret
          exact ⟨ret_int HR.out.symm, later1 _ _⟩
        · have hb8 : decide ((8 : Int) < (((d.2[j]?.getD []).length : Nat) : Int)) = false := by simp; omega
          have HR : Hid (∀ i : Nat, i < j + 1 → manyF d.2 i = 0) := fun i hi => by
            by_cases e : i = j
            · subst e; unfold manyF; rw [if_neg h8]
            · exact HZ.out i (by omega)
          clear h8
          generalize (d.2[j]?.getD []).length = ln at *
          go_wp2
          go_roundw
          case rel => exact ⟨j + 1, by omega, by go_num, by first | rfl | trivial, HR.out⟩
          case measure => simp [intOf]; omega
      · have HR : Hid (dataF d = if onceB d.1 20 then 0 else 7) := by
          have e2 := fstNZ_zero (f := manyF d.2) (n := d.2.length) (fun i hi => HZ.out i (by rw [HL2.out] at hi; omega))
          unfold Hid; rw [HDF.out, if_pos HL2.out, e2]; simp
        clear HZ HC HL2 HDF
        generalize onceB d.1 20 = bo at *
        cases bo
        all_goals
          go_wp2_with fail
          refine (HNE.out _ (later1 _ _)).mono ?_
          rintro e w1 ⟨rfl, hb1⟩
          have HB1 : Hid (Below w.heap.size w w1) := (later1 _ _).trans (hb1.mono (by simp))
          clear hb1
          go_wp2_with fail
          refine (HM.out _).mono ?_
          rintro e w2 ⟨rfl, hb2⟩
          have HB2 : Hid (Below w.heap.size w w2) := HB1.out.trans (hb2.mono HB1.out.size)
          clear hb2
          go_wp2
          go_ret
          exact ⟨ret_int HR.out.symm, HB2.out⟩

set_option maxHeartbeats 6400000 in
theorem entriesFault_any (w : World) (aI : Option Addr) (nI cI : Nat) (aD : Option Addr) (nD cD : Nat) (d : FD) (h : FsR w (.slice aI nI cI) (.slice aD nD cD) d) (hs : sizeInos d.1 ≤ 1048576) (hi : insF d.1 = 0) :
    Calls Tryz.prog 92 #[.agg #[.slice aI nI cI, .slice aD nD cD]] w fun e w' => e = .returned (.int .i64 (lostF d.1)) ∧ Below w.heap.size w w' := by
  have HX : Hid (Bx (w.alloc (.cells #[.slice aI nI cI, .slice aD nD cD] 32)) w.heap.size [.slice aI nI cI, .slice aD nD cD]) := Bx.new w [.slice aI nI cI, .slice aD nD cD] _
  obtain ⟨_, _, e2, hm2, hc⟩ := h.1.open'
  simp only [Value.slice.injEq] at e2
  obtain ⟨rfl, rfl, rfl⟩ := e2
  have HC : Hid (AtI w aI d.1.length d.1) := hc
  have HPOS : Hid (∀ j, j < d.1.length → ∀ k, k < (d.1[j]?.getD id0).2.2.2.2.length → 0 ≤ ((d.1[j]?.getD id0).2.2.2.2[k]?.getD en0).2) := fun j hj => ino_ent (ins_ino hi j hj)
  have HZ : Hid (∀ j, (d.1[j]?.getD id0).2.2.2.2.length ≤ 1048576) := fun j => by
    have := isz_le d.1 j
    have hd : sizeIno (d.1[j]?.getD id0) = (d.1[j]?.getD id0).2.2.2.1.length + ((d.1[j]?.getD id0).2.2.2.2.length + (nlens (d.1[j]?.getD id0).2.2.2.2).sum) := rfl
    unfold sizeInos at hs
    omega
  have HIN : Hid (∀ W x, 0 ≤ x → Below w.heap.size w W → Calls Tryz.prog 113 #[.agg #[.slice aI d.1.length cI, .slice aD nD cD], .int .i64 x] W fun e w' => e = .returned (.bool (!lostB d.1 x)) ∧ Below W.heap.size W w') := fun W x hx hW => by
    have := isThere_any W aI _ cI aD nD cD d x (h.later hW)
    rw [th_lost hx] at this
    exact this
  have hn : d.1.length ≤ 1048576 := by unfold sizeInos at hs; omega
  clear hc h hs hi hm2
  obtain ⟨n, hnn⟩ : ∃ n, d.1.length = n := ⟨_, rfl⟩
  have HN : Hid (d.1.length = n) := hnn
  rw [hnn] at HC HPOS HX HIN hn ⊢
  clear hnn
  go_enter Tryz.func92, Tryz.ntmps92
  go_wp2
  go_loopw [10] (fun i wr => ∃ j : Nat, j ≤ n ∧ i = .int .i64 j ∧ Below (w.heap.size + 1) (w.alloc (.cells #[.slice aI n cI, .slice aD nD cD] 32)) wr ∧ ∀ j', j' < j → ∀ k, k < (d.1[j']?.getD id0).2.2.2.2.length → lostB d.1 ((d.1[j']?.getD id0).2.2.2.2[k]?.getD en0).2 = false) (fun i _ => n - (intOf i).toNat)
  case atStart => exact ⟨0, Nat.zero_le _, rfl, Below.refl _ _, fun j hj => by omega⟩
  case round =>
    obtain ⟨j, hj, rfl, hbl, hz⟩ := hrel
    have HZJ0 : Hid (∀ j', j' < j → ∀ k, k < (d.1[j']?.getD id0).2.2.2.2.length → lostB d.1 ((d.1[j']?.getD id0).2.2.2.2[k]?.getD en0).2 = false) := hz
    have HBL : Hid (Below (w.heap.size + 1) (w.alloc (.cells #[.slice aI n cI, .slice aD nD cD] 32)) wr) := hbl
    have HBW : Hid (Below w.heap.size w wr) := (later1 _ _).trans (hbl.mono (by omega))
    have hwz : w.heap.size + 1 ≤ wr.heap.size := by have := hbl.size; simpa using this
    clear hbl hz
    by_cases hlt : j < n
    · obtain ⟨b, o, rfl, hI⟩ := HC.out j hlt
      obtain ⟨aB, cB, aE, cE, c0, c1, c2, c3, c4, h5⟩ := hI.later HBW.out
      obtain ⟨_, _, e1, hm1, _, hc1⟩ := h5.2.2.open'
      simp only [Value.slice.injEq] at e1
      obtain ⟨rfl, _, rfl⟩ := e1
      have hZ1 := HZ.out j
      have HCB : Hid (AtN wr aE (d.1[j]?.getD id0).2.2.2.2.length (d.1[j]?.getD id0).2.2.2.2) := hc1
      have HP1 : Hid (∀ k, k < (d.1[j]?.getD id0).2.2.2.2.length → 0 ≤ ((d.1[j]?.getD id0).2.2.2.2[k]?.getD en0).2) := HPOS.out j hlt
      have HY : Hid (∀ k, k < (d.1[j]?.getD id0).2.2.2.2.length → lostB d.1 ((d.1[j]?.getD id0).2.2.2.2[k]?.getD en0).2 = true → lostF d.1 = 4) := fun k hk hl => lost_yes (by rw [HN.out]; exact hlt) hk hl
      have HNX : Hid ((∀ k, k < (d.1[j]?.getD id0).2.2.2.2.length → lostB d.1 ((d.1[j]?.getD id0).2.2.2.2[k]?.getD en0).2 = false) → ∀ j', j' < j + 1 → ∀ k, k < (d.1[j']?.getD id0).2.2.2.2.length → lostB d.1 ((d.1[j']?.getD id0).2.2.2.2[k]?.getD en0).2 = false) := fun hh j' hj' k hk => by
        by_cases e : j' = j
        · subst e; exact hh k hk
        · exact HZJ0.out j' (by omega) k hk
      clear h5 hI hc1 hm1
      generalize (d.1[j]?.getD id0) = dj at *
      obtain ⟨dk, dl, dz, db, es⟩ := dj
      dsimp only at *
      generalize db.length = nD2 at *
      obtain ⟨nE, hnE⟩ : ∃ nE, nE = es.length := ⟨_, rfl⟩
      have HNE : Hid (nE = es.length) := hnE
      rw [← hnE] at c4 hZ1 HCB HP1 HY HNX
      clear hnE
      go_wp2
      clear c0 c1 c2 c3 c4
      obtain ⟨wo, rfl⟩ : ∃ wo, wo = wr := ⟨_, rfl⟩
      go_loopw [17] (fun i wr2 => ∃ k : Nat, k ≤ nE ∧ i = .int .i64 k ∧ Below wo.heap.size wo wr2 ∧ ∀ k', k' < k → lostB d.1 (es[k']?.getD en0).2 = false) (fun i _ => nE - (intOf i).toNat)
      case atStart => exact ⟨0, Nat.zero_le _, rfl, later1 _ _, fun k hk => by omega⟩
      case round =>
        obtain ⟨k, hk, rfl, hbl2, hz2⟩ := hrel
        have HB2 : Hid (Below wo.heap.size wo wr) := hbl2
        have HZ2 : Hid (∀ k', k' < k → lostB d.1 (es[k']?.getD en0).2 = false) := hz2
        have HBW2 : Hid (Below w.heap.size w wr) := HBW.out.trans (hbl2.mono HBW.out.size)
        have HBX2 : Hid (Bx wr w.heap.size [.slice (some ⟨b, o, none⟩) n cI, .slice aD nD cD]) := fun i v hv => by
          have h1 := HX.out i v hv
          have h2 := (HBL.out.trans (hbl2.mono (by simpa using hwz))).block w.heap.size (by omega)
          simp only [World.cell?] at h1 ⊢
          rw [h2]; exact h1
        clear hbl2 hz2
        by_cases hlk : k < nE
        · obtain ⟨b1, o1, rfl, d0, d1⟩ := HCB.out k hlk
          replace d0 := cell_later HB2.out d0
          replace d1 := cell_later HB2.out d1
          have hx0 := HP1.out k hlk
          have HYK : Hid (lostB d.1 (es[k]?.getD en0).2 = true → lostF d.1 = 4) := HY.out k hlk
          have HNK : Hid (lostB d.1 (es[k]?.getD en0).2 = false → ∀ k', k' < k + 1 → lostB d.1 (es[k']?.getD en0).2 = false) := fun hh k' hk' => by
            by_cases e : k' = k
            · subst e; exact hh
            · exact HZ2.out k' (by omega)
          generalize (es[k]?.getD en0).1 = nm at *
          generalize (es[k]?.getD en0).2 = x at *
          have q0 := HBX2.out 0 _ rfl
          have q1 := HBX2.out 1 _ rfl
          have qlt := HBX2.out.lt
          have hQA : ∀ W, Below wr.heap.size wr W → Bx W w.heap.size [.slice (some ⟨b, o, none⟩) n cI, .slice aD nD cD] := fun W hW => HBX2.out.later hW
          have HQA : Hid (∀ W, Below wr.heap.size wr W → Bx W w.heap.size [.slice (some ⟨b, o, none⟩) n cI, .slice aD nD cD]) := hQA
          clear hQA
          have HTH : Hid (Calls Tryz.prog 113 #[.agg #[.slice (some ⟨b, o, none⟩) n cI, .slice aD nD cD], .int .i64 x] (wr.alloc (.cells #[.string nm, .int .i64 x] 97)) fun e w' => e = .returned (.bool (!lostB d.1 x)) ∧ Below (wr.alloc (.cells #[.string nm, .int .i64 x] 97)).heap.size (wr.alloc (.cells #[.string nm, .int .i64 x] 97)) w') := HIN.out _ x hx0 (HBW2.out.trans ((later1 _ _).mono HBW2.out.size))
          clear hx0 HIN HQA
          cases hl : lostB d.1 x with
          | true =>
            rw [hl] at HTH HYK
            have HR : Hid (lostF d.1 = 4) := HYK.out rfl
            clear hl HYK HNK
            go_wp2_with fail
            refine HTH.out.mono ?_
            rintro e w1 ⟨rfl, hb1⟩
            have HBWW : Hid (Below w.heap.size w w1) := HBW2.out.trans (((later1 _ _).trans (hb1.mono (by simp))).mono HBW2.out.size)
            clear hb1 q0 q1 d0 d1 HTH
            go_wp2
            go_ret
            exact ⟨ret_int HR.out.symm, HBWW.out⟩
          | false =>
            rw [hl] at HTH HNK
            have HR : Hid (∀ k', k' < k + 1 → lostB d.1 (es[k']?.getD en0).2 = false) := HNK.out rfl
            clear hl HYK HNK
            go_wp2_with fail
            refine HTH.out.mono ?_
            rintro e w1 ⟨rfl, hb1⟩
            have HBW1 : Hid (Below wr.heap.size wr w1) := (later1 _ _).trans (hb1.mono (by simp))
            clear hb1 q0 q1 d0 d1 HTH
            go_wp2
            go_roundw
            case rel => exact ⟨k + 1, by omega, by go_num, HB2.out.trans (HBW1.out.mono HB2.out.size), HR.out⟩
            case measure => simp [intOf]; omega
        · have HR : Hid (∀ j', j' < j + 1 → ∀ k, k < (d.1[j']?.getD id0).2.2.2.2.length → lostB d.1 ((d.1[j']?.getD id0).2.2.2.2[k]?.getD en0).2 = false) := HNX.out fun k' hk' => HZ2.out k' (by omega)
          go_wp2
          go_roundw
          case rel => exact ⟨j + 1, by omega, by go_num, HBL.out.trans (HB2.out.mono (by simpa using hwz)), HR.out⟩
          case measure => simp [intOf]; omega
    · have HR : Hid (lostF d.1 = 0) := lost_no fun j' hj' => HZJ0.out j' (by rw [HN.out] at hj'; omega)
      go_wp2
      go_ret
      exact ⟨ret_int HR.out.symm, HBW.out⟩
end Go.Proofs.YtlohgnidbkechaaGreatDoor

namespace Go.Proofs.YtlohgnidbkechaaGreatDoor
open Go.RowKit
set_option maxRecDepth 100000

abbrev E3 := Int × Int × Int
/-- The cells of a row of extents. -/
def exCell (es : List E3) (j : Nat) : Value := .int .i64 (if j % 3 = 0 then (es[j / 3]?.getD (0, 0, 0)).1 else if j % 3 = 1 then (es[j / 3]?.getD (0, 0, 0)).2.1 else (es[j / 3]?.getD (0, 0, 0)).2.2)
theorem exCell_0 (es : List E3) (k : Nat) : exCell es (k * 3) = .int .i64 (es[k]?.getD (0, 0, 0)).1 := by
  unfold exCell; rw [if_pos (by omega), show k * 3 / 3 = k by omega]
theorem exCell_1 (es : List E3) (k : Nat) : exCell es (k * 3 + 1) = .int .i64 (es[k]?.getD (0, 0, 0)).2.1 := by
  unfold exCell; rw [if_neg (by omega), if_pos (by omega), show (k * 3 + 1) / 3 = k by omega]
theorem exCell_2 (es : List E3) (k : Nat) : exCell es (k * 3 + 2) = .int .i64 (es[k]?.getD (0, 0, 0)).2.2 := by
  unfold exCell; rw [if_neg (by omega), if_neg (by omega), show (k * 3 + 2) / 3 = k by omega]

/-- Where the extents of a list lie. -/
def AtE (w : World) (a : Option Addr) (n : Nat) (es : List E3) : Prop :=
  ∀ k, k < n → ∃ b off, a = some ⟨b, off, none⟩ ∧ w.cell? ⟨b, off + k * 3, none⟩ = some (.int .i64 (es[k]?.getD (0, 0, 0)).1) ∧ w.cell? ⟨b, off + k * 3 + 1, none⟩ = some (.int .i64 (es[k]?.getD (0, 0, 0)).2.1) ∧ w.cell? ⟨b, off + k * 3 + 2, none⟩ = some (.int .i64 (es[k]?.getD (0, 0, 0)).2.2)
theorem AtE.later {w w' : World} {a : Option Addr} {n : Nat} {es : List E3} (h : AtE w a n es) (hb : Below w.heap.size w w') : AtE w' a n es := fun k hk => by
  obtain ⟨b, off, e, c0, c1, c2⟩ := h k hk
  exact ⟨b, off, e, cell_later hb c0, cell_later hb c1, cell_later hb c2⟩
/-- The slice v reads as the extents es. -/
def Exts (w : World) (v : Value) (es : List E3) : Prop := ∃ a cap, v = .slice a es.length cap ∧ (es.length ≤ maxLen ∧ es.length ≤ cap) ∧ AtE w a es.length es
theorem Exts.later {w w' : World} {v : Value} {es : List E3} (h : Exts w v es) (hb : Below w.heap.size w w') : Exts w' v es := by
  obtain ⟨a, cap, h1, h2, h3⟩ := h
  exact ⟨a, cap, h1, h2, h3.later hb⟩
theorem Exts.open' {w : World} {v : Value} {es : List E3} (h : Exts w v es) : ∃ a cap, v = .slice a es.length cap ∧ es.length ≤ maxLen ∧ AtE w a es.length es := by
  obtain ⟨a, cap, h1, h2, h3⟩ := h
  exact ⟨a, cap, h1, h2.1, h3⟩
theorem Exts.cap {w : World} {a : Option Addr} {n c : Nat} {es : List E3} (h : Exts w (.slice a n c) es) : es.length ≤ c := by
  obtain ⟨a', c', h1, h2, _⟩ := h
  simp only [Value.slice.injEq] at h1
  rw [h1.2.2]
  exact h2.2
theorem Exts.nil (w : World) (a : Option Addr) (cap : Nat) : Exts w (.slice a 0 cap) [] := ⟨a, cap, rfl, by simp, fun k hk => by simp at hk⟩

/-- The slice v holds the extents es, in one block of F. -/
def ExtsO (w : World) (v : Value) (es : List E3) (F : Nat → Prop) : Prop :=
  (es = [] ∧ ∃ a cap, v = .slice a 0 cap) ∨
  (∃ b cap, F b ∧ v = .slice (some ⟨b, 0, none⟩) es.length cap ∧ (es.length ≤ maxLen ∧ es.length ≤ cap) ∧ OwnRow w b (es.length * 3) (exCell es))
theorem OwnRow.atE {w : World} {b n : Nat} {es : List E3} (h : OwnRow w b (n * 3) (exCell es)) : AtE w (some ⟨b, 0, none⟩) n es := fun k hk =>
  ⟨b, 0, rfl, by rw [Nat.zero_add, h.cell (by omega), exCell_0], by rw [Nat.zero_add, h.cell (by omega), exCell_1], by rw [Nat.zero_add, h.cell (by omega), exCell_2]⟩
theorem ExtsO.reads {w : World} {v : Value} {es : List E3} {F : Nat → Prop} (h : ExtsO w v es F) : Exts w v es := by
  rcases h with ⟨rfl, a, cap, rfl⟩ | ⟨b, cap, _, h1, h2, h3⟩
  · exact Exts.nil w a cap
  · exact ⟨_, cap, h1, h2, h3.atE⟩
theorem ExtsO.keep {w w' : World} {v : Value} {es : List E3} {F : Nat → Prop} (h : ExtsO w v es F) (e : ∀ b, F b → b < w.heap.size → w'.heap[b]? = w.heap[b]?) : ExtsO w' v es F := by
  rcases h with h | ⟨b, cap, hF, h1, h2, h3⟩
  · exact Or.inl h
  · exact Or.inr ⟨b, cap, hF, h1, h2, h3.block (e b hF h3.lt)⟩
theorem ExtsO.mono {w : World} {v : Value} {es : List E3} {F G : Nat → Prop} (h : ExtsO w v es F) (e : ∀ b, F b → G b) : ExtsO w v es G := by
  rcases h with h | ⟨b, cap, hF, h1⟩
  · exact Or.inl h
  · exact Or.inr ⟨b, cap, e b hF, h1⟩
theorem ExtsO.bound {w : World} {v : Value} {es : List E3} {F : Nat → Prop} (h : ExtsO w v es F) : ExtsO w v es (fun b => F b ∧ b < w.heap.size) := by
  rcases h with h | ⟨b, cap, hF, h1, h2, h3⟩
  · exact Or.inl h
  · exact Or.inr ⟨b, cap, ⟨hF, h3.lt⟩, h1, h2, h3⟩
theorem ExtsO.later {w w' : World} {v : Value} {es : List E3} {F : Nat → Prop} (h : ExtsO w v es F) (hb : Below w.heap.size w w') : ExtsO w' v es F := h.keep fun b _ hlt => hb.block b hlt
theorem ExtsO.store {w : World} {v : Value} {es : List E3} {F : Nat → Prop} (h : ExtsO w v es F) {p : Addr} (hp : ∀ b, F b → b ≠ p.block) (x : Value) : ExtsO (w.setCell p x) v es F := h.keep fun b hb _ => Below.heap_setCell _ _ _ _ (hp b hb)

/-- The marks of n extents, from k on. -/
def marksE (k : Int) (n : Nat) : List E3 := (List.range n).map fun i : Nat => (k + 3 * (i : Int), k + 3 * (i : Int) + 1, k + 3 * (i : Int) + 2)
theorem marksE_length (k : Int) (n : Nat) : (marksE k n).length = n := by simp [marksE]
theorem marksE_get (k : Int) {n i : Nat} (h : i < n) : (marksE k n)[i]?.getD (0, 0, 0) = (k + 3 * (i : Int), k + 3 * (i : Int) + 1, k + 3 * (i : Int) + 2) := by simp [marksE, h]
theorem exCell_marks (k : Int) {n c : Nat} (h : c < n * 3) : exCell (marksE k n) c = .int .i64 (k + (c : Int)) := by
  have h3 : c / 3 < n := by omega
  unfold exCell
  rw [marksE_get k h3]
  congr 1
  have : c % 3 = 0 ∨ c % 3 = 1 ∨ c % 3 = 2 := by omega
  rcases this with e | e | e
  · rw [if_pos e]; omega
  · rw [if_neg (by omega), if_pos e]; show k + 3 * ((c / 3 : Nat) : Int) + 1 = k + (c : Int); omega
  · rw [if_neg (by omega), if_neg (by omega)]; show k + 3 * ((c / 3 : Nat) : Int) + 2 = k + (c : Int); omega

/-- 'make' of n triples. -/
theorem run_make_trip {P : Program} (t e : TypeId) (x y z : Value) (bytes : Nat) (ht : P.underlying t = some (.slice e)) (hinfo : (P.info? e).map (fun i => (i.zero, i.size, i.bytes)) = some (some (.agg #[x, y, z]), 3, bytes)) (hz : (Value.agg #[x, y, z]).cells = #[x, y, z])
    (kl kc : IntKind) (n : Nat) (hbytes : bytes * n ≤ 281474976710656) (h63 : n ≤ 9223372036854775807) (w : World) :
    (Instr.makeSlice t (.int kl (n : Int)) (.int kc (n : Int))).run P w = .ok (.slice (some ⟨w.heap.size, 0, none⟩) n n) (w.alloc (.cells (madeCells #[x, y, z] (n * 3)) e)) := by
  obtain ⟨i, hi, hzz⟩ := Option.map_eq_some_iff.1 hinfo
  simp only [Prod.mk.injEq] at hzz
  obtain ⟨h1, h2, h3⟩ := hzz
  have hb' : (i.bytes : Int) * (n : Int) ≤ 281474976710656 := by
    have h : ((i.bytes * n : Nat) : Int) ≤ 281474976710656 := by rw [h3]; omega
    rwa [Int.natCast_mul] at h
  have hr := run_make (P := P) w t e i _ ht hi h1 kl kc n n (by omega) (Int.le_refl _) hb' (by omega)
  simp only [Int.toNat_natCast, h2, hz] at hr
  exact hr
theorem OwnRow.madeTrip (w : World) (n : Nat) (t : TypeId) : OwnRow (w.alloc (.cells (madeCells #[.int .i64 0, .int .i64 0, .int .i64 0] (n * 3)) t)) w.heap.size (n * 3) (fun _ => .int .i64 0) := by
  refine ⟨_, t, Go.Deep.blk_alloc_new _ _, by rw [size_madeCells]; exact Nat.le_refl _, fun i hi => ?_⟩
  unfold madeCells
  rw [Array.getElem?_map]
  have h1 : (Array.range (n * 3))[i]? = some i := by simp [hi]
  rw [h1]
  have : i % 3 = 0 ∨ i % 3 = 1 ∨ i % 3 = 2 := by omega
  rcases this with e | e | e <;> simp [e]
/-- The cells of a row of extents of which the first j stand. -/
def partE (es : List E3) (j c : Nat) : Value := if c < j * 3 then exCell es c else .int .i64 0
theorem partE_next (es : List E3) (j c : Nat) : (if c = j * 3 + 2 then .int .i64 (es[j]?.getD (0, 0, 0)).2.2 else (if c = j * 3 + 1 then .int .i64 (es[j]?.getD (0, 0, 0)).2.1 else (if c = j * 3 then .int .i64 (es[j]?.getD (0, 0, 0)).1 else partE es j c))) = partE es (j + 1) c := by
  unfold partE
  by_cases e2 : c = j * 3 + 2
  · subst e2; rw [if_pos rfl, if_pos (by omega), exCell_2]
  · rw [if_neg e2]
    by_cases e1 : c = j * 3 + 1
    · subst e1; rw [if_pos rfl, if_pos (by omega), exCell_1]
    · rw [if_neg e1]
      by_cases e0 : c = j * 3
      · subst e0; rw [if_pos rfl, if_pos (by omega), exCell_0]
      · rw [if_neg e0]
        by_cases h : c < j * 3
        · rw [if_pos h, if_pos (by omega)]
        · rw [if_neg h, if_neg (by omega)]
end Go.Proofs.YtlohgnidbkechaaGreatDoor

namespace Go.Proofs.YtlohgnidbkechaaGreatDoor
open Go.RowKit
set_option maxRecDepth 100000

/-- The cells of extents, one behind the other. -/
def exCells (es : List E3) : List Value := es.flatMap fun e => [.int .i64 e.1, .int .i64 e.2.1, .int .i64 e.2.2]
theorem exCells_length (es : List E3) : (exCells es).length = es.length * 3 := by
  induction es with
  | nil => rfl
  | cons a t ih =>
    have : exCells (a :: t) = [.int .i64 a.1, .int .i64 a.2.1, .int .i64 a.2.2] ++ exCells t := by simp [exCells]
    rw [this, List.length_append, ih]
    simp [Nat.add_mul]
    omega
theorem exCells_append (es fs : List E3) : exCells (es ++ fs) = exCells es ++ exCells fs := by simp [exCells]
theorem exCells_get (es : List E3) (j : Nat) (h : j < es.length * 3) : (exCells es)[j]? = some (exCell es j) := by
  induction es generalizing j with
  | nil => simp at h
  | cons a t ih =>
    have e : exCells (a :: t) = .int .i64 a.1 :: .int .i64 a.2.1 :: .int .i64 a.2.2 :: exCells t := by simp [exCells]
    rw [e]
    match j with
    | 0 => simp [exCell]
    | 1 => simp [exCell]
    | 2 => simp [exCell]
    | j + 3 =>
      simp only [List.getElem?_cons_succ]
      rw [ih j (by simp at h; omega)]
      unfold exCell
      have h1 : (j + 3) % 3 = j % 3 := by omega
      have h2 : (j + 3) / 3 = j / 3 + 1 := by omega
      rw [h1, h2]
      simp
theorem exCells_one (es : List E3) : ∀ u ∈ exCells es, u.oneCell' = true := by
  intro u hu
  simp only [exCells, List.mem_flatMap] at hu
  obtain ⟨e, _, hu⟩ := hu
  simp at hu
  rcases hu with rfl | rfl | rfl <;> rfl
theorem AtE.cells {w : World} {b off n : Nat} {es : List E3} (h : AtE w (some ⟨b, off, none⟩) n es) (hn : es.length = n) (j : Nat) (u : Value) (hu : (exCells es)[j]? = some u) : w.cell? ((⟨b, off, none⟩ : Addr).add j) = some u := by
  have hj : j < es.length * 3 := by rw [← exCells_length]; exact (List.getElem?_eq_some_iff.1 hu).1
  rw [exCells_get es j hj] at hu
  simp only [Option.some.injEq] at hu
  subst hu
  obtain ⟨b', off', e, c0, c1, c2⟩ := h (j / 3) (by omega)
  simp only [Option.some.injEq, Addr.mk.injEq, and_true] at e
  obtain ⟨rfl, rfl⟩ := e
  rw [add_plain']
  have : j % 3 = 0 ∨ j % 3 = 1 ∨ j % 3 = 2 := by omega
  unfold exCell
  rcases this with e | e | e
  · rw [if_pos e, ← c0, show off + j = off + j / 3 * 3 by omega]
  · rw [if_neg (by omega), if_pos e, ← c1, show off + j = off + j / 3 * 3 + 1 by omega]
  · rw [if_neg (by omega), if_neg (by omega), ← c2, show off + j = off + j / 3 * 3 + 2 by omega]

end Go.Proofs.YtlohgnidbkechaaGreatDoor

namespace Go.Proofs.YtlohgnidbkechaaGreatDoor
open Go.RowKit
set_option maxRecDepth 100000

/-- 'copy' between two rows of n elements of 'size' cells each. -/
theorem run_copy_wide {P : Program} (w : World) (dT sT ty elem : TypeId) (g n dCap : Nat) (a : Addr) (sCap size : Nat) (cur : Array Value) (t : TypeId) (cs : List Value)
    (hu : P.underlying dT = some (.slice elem)) (hs : (P.info? elem).map (·.size) = some size)
    (hg : w.heap[g]? = some (.cells cur t (0, 0))) (hn : cs.length = n * size)
    (hsrc : ∀ j v, cs[j]? = some v → w.cell? (a.add j) = some v) (hfit : cs.length ≤ cur.size) (h1 : ∀ v ∈ cs, v.oneCell' = true) :
    (Builtin.copy_ #[dT, sT] ty #[.slice (some ⟨g, 0, none⟩) n dCap, .slice (some a) n sCap]).run P w = .ok (goInt n) (w.setRow g (cs ++ cur.toList.drop cs.length).toArray) := by
  have hl := run_loadCells_list (P := P) w a cs hsrc
  have hst := run_storeCells_at P g 0 t cs 0 cur w hg (by simpa using hfit) h1
  simp only [Nat.zero_add, List.take_zero, List.nil_append] at hst
  cases hq : P.info? elem with
  | none => simp [hq] at hs
  | some i =>
    have hi : i.size = size := by simpa [hq] using hs
    have hm : Nat.min n n = n := Nat.min_self n
    simp [Builtin.copy_, run_underlying hu, Builtin.lenOf, Builtin.firstCells, sizeOf, typeInfo, hq, hi, hm, ← hn, hl, hst]
theorem run_copy_zero {P : Program} (w : World) (dT sT ty elem : TypeId) (d a : Option Addr) (dCap sCap size : Nat) (hu : P.underlying dT = some (.slice elem)) (hs : (P.info? elem).map (·.size) = some size) :
    (Builtin.copy_ #[dT, sT] ty #[.slice d 0 dCap, .slice a 0 sCap]).run P w = .ok (goInt 0) w := by
  cases hq : P.info? elem with
  | none => simp [hq] at hs
  | some i => cases a <;> cases d <;> simp [Builtin.copy_, run_underlying hu, Builtin.lenOf, Builtin.firstCells, sizeOf, typeInfo, hq, storeCells, loadCells, loadCellsFrom]

end Go.Proofs.YtlohgnidbkechaaGreatDoor

namespace Go.Proofs.YtlohgnidbkechaaGreatDoor
open Go.RowKit
set_option maxRecDepth 100000

theorem AtE.take {w : World} {a : Option Addr} {n : Nat} {es : List E3} (h : AtE w a n es) {j : Nat} (hj : j ≤ n) : AtE w a j (es.take j) := fun k hk => by
  obtain ⟨b, off, e, c0, c1, c2⟩ := h k (by omega)
  refine ⟨b, off, e, ?_, ?_, ?_⟩ <;> rw [List.getElem?_take, if_pos hk] <;> assumption
end Go.Proofs.YtlohgnidbkechaaGreatDoor

namespace Go.Proofs.YtlohgnidbkechaaGreatDoor
open Go.RowKit
set_option maxRecDepth 100000

def Qu (w : World) (n₀ : Nat) (v : Value) (zs : List Int) : Prop :=
  ∃ g off cap cur, v = .slice (some ⟨g, off, none⟩) zs.length cap ∧ n₀ ≤ g ∧ w.heap[g]? = some (.cells cur 2 (0, 0)) ∧ zs.length ≤ cap ∧ cap ≤ maxLen ∧ off + cap ≤ cur.size ∧ ∀ k, k < zs.length → cur[off + k]? = some (.int .i64 (zs[k]?.getD 0))
theorem Qu.keep {w w' : World} {n₀ : Nat} {v : Value} {zs : List Int} (h : Qu w n₀ v zs) (e : ∀ b c f, n₀ ≤ b → w.heap[b]? = some (.cells c 2 f) → w'.heap[b]? = w.heap[b]?) : Qu w' n₀ v zs := by
  obtain ⟨g, off, cap, cur, h1, h2, h3, h4⟩ := h
  exact ⟨g, off, cap, cur, h1, h2, (e g _ _ h2 h3).trans h3, h4⟩
theorem Qu.later {w w' : World} {n₀ : Nat} {v : Value} {zs : List Int} (h : Qu w n₀ v zs) (hb : Below w.heap.size w w') : Qu w' n₀ v zs := h.keep fun b _ _ _ hc => hb.block b (Array.getElem?_eq_some_iff.1 hc).1
theorem Qu.shape {w : World} {n₀ : Nat} {v : Value} {zs : List Int} (h : Qu w n₀ v zs) : ∃ a c, v = .slice a zs.length c ∧ zs.length ≤ c := by
  obtain ⟨g, off, cap, cur, rfl, _, _, h4, _⟩ := h
  exact ⟨_, _, rfl, h4⟩
theorem Qu.one (w : World) (n₀ : Nat) (hn : n₀ ≤ w.heap.size) (x : Int) : Qu (w.alloc (.cells #[.int .i64 x] 2)) n₀ (.slice (some ⟨w.heap.size, 0, none⟩) 1 1) [x] :=
  ⟨w.heap.size, 0, 1, #[.int .i64 x], rfl, hn, Go.Deep.blk_alloc_new _ _, by simp, by unfold maxLen; omega, by simp, fun k hk => by
    have : k = 0 := by simp at hk; exact hk
    subst this; rfl⟩
theorem Qu.cell {w : World} {n₀ : Nat} {a : Option Addr} {n c : Nat} {zs : List Int} (h : Qu w n₀ (.slice a n c) zs) {k : Nat} (hk : k < zs.length) : ∃ g off, a = some ⟨g, off, none⟩ ∧ w.cell? ⟨g, off + k, none⟩ = some (.int .i64 (zs[k]?.getD 0)) := by
  obtain ⟨g, off, cap, cur, e, _, h3, _, _, _, h6⟩ := h
  simp only [Value.slice.injEq] at e
  refine ⟨g, off, e.1, ?_⟩
  have := h6 k hk
  simp [World.cell?, h3, this]
theorem slice_tailQ (a : Option Addr) (n c : Nat) (hl : 1 ≤ n) (hc : n ≤ c) :
    ∃ A C, (∀ W : World, (Instr.slice 52 (.slice a n c) (some (.int .i64 1)) none none).run Tryz.prog W = .ok (.slice A (n - 1) C) W) ∧ ∀ (W : World) (n₀ : Nat) (z : Int) (zs : List Int), Qu W n₀ (.slice a n c) (z :: zs) → Qu W n₀ (.slice A (n - 1) C) zs := by
  obtain ⟨i, hi, _, h2, _⟩ := Tryz.infoInt'
  refine ⟨if c = 1 then a else a.map (·.add 1), c - 1, fun W => ?_, fun W n₀ z zs h => ?_⟩
  · simp [Instr.slice, Instr.sliceBounds, Instr.sliceBound, asIntOf, run_underlying Tryz.underlying52, sizeOf, typeInfo, hi, h2]
    intro hlt
    omega
  · obtain ⟨g, off, cap, cur, e, h1, h3, h4, h5, h6, h7⟩ := h
    simp only [Value.slice.injEq, List.length_cons] at e
    obtain ⟨rfl, rfl, rfl⟩ := e
    simp only [List.length_cons] at h4 h7
    by_cases hcl : c = 1
    · have hz : zs = [] := List.eq_nil_of_length_eq_zero (by omega)
      subst hz
      rw [if_pos hcl]
      exact ⟨g, off, c - 1, cur, by simp, h1, h3, by simp, by omega, by omega, fun k hk => by simp at hk⟩
    · rw [if_neg hcl]
      refine ⟨g, off + 1, c - 1, cur, by simp [add_plain'], h1, h3, by omega, by omega, by omega, fun k hk => ?_⟩
      have := h7 (k + 1) (by omega)
      rw [show off + 1 + k = off + (k + 1) by omega, this]
      simp
/-- Blocks that hold no words stand as they did. -/
def KeepQ (w w' : World) : Prop := ∀ (b : Nat) (o : Obj), w.heap[b]? = some o → (∀ c f, o ≠ .cells c 2 f) → w'.heap[b]? = some o
theorem append_q (w : World) (n₀ : Nat) (v : Value) (zs : List Int) (x : Int) (hq : Qu w n₀ v zs) (hn₀ : n₀ ≤ w.heap.size) (hz : zs.length ≤ 1000) :
    ∃ v' X, (Builtin.append_ #[52, 52] 52 #[v, .slice (some ⟨w.heap.size, 0, none⟩) 1 1]).run Tryz.prog (w.alloc (.cells #[.int .i64 x] 2)) = .ok v' X ∧ Qu X n₀ v' (zs ++ [x]) ∧ Below n₀ w X ∧ KeepQ w X := by
  obtain ⟨i, hi, h1, h2, h3⟩ := Tryz.infoInt'
  have hq' := hq.later (later1 w (.cells #[.int .i64 x] 2))
  have hBW : Below n₀ w (w.alloc (.cells #[.int .i64 x] 2)) := (later1 w _).mono hn₀
  have hKW : KeepQ w (w.alloc (.cells #[.int .i64 x] 2)) := fun b o hb _ => ((later1 w _).block b (Array.getElem?_eq_some_iff.1 hb).1).trans hb
  have hcell : (w.alloc (.cells #[.int .i64 x] 2)).cell? ⟨w.heap.size, 0, none⟩ = some (.int .i64 x) := by rw [new_cell]; rfl
  have hsz : n₀ ≤ (w.alloc (.cells #[.int .i64 x] 2)).heap.size := by simp; omega
  generalize hW : w.alloc (.cells #[.int .i64 x] 2) = W at *
  clear hW
  obtain ⟨g, off, cap, cur, rfl, hg0, hg, hnc, hcm, hoc, hrd⟩ := hq'
  have hglt : g < W.heap.size := (Array.getElem?_eq_some_iff.1 hg).1
  have hnews : ∀ j u, ([.int .i64 x] : List Value)[j]? = some u → W.cell? ((⟨w.heap.size, 0, none⟩ : Addr).add j) = some u := fun j u hu => by
    match j, hu with
    | 0, hu => simp at hu; subst hu; rw [add_plain']; exact hcell
    | j + 1, hu => simp at hu
  by_cases hroom : zs.length + 1 ≤ cap
  · have hf := run_firstCells_some (P := Tryz.prog) W i.size 1 ⟨w.heap.size, 0, none⟩ 1 1 [.int .i64 x] (by simp [h2]) hnews
    rw [h2] at hf
    have hst := run_storeCells_at Tryz.prog g (off + zs.length) 2 [.int .i64 x] 0 cur W hg (by simp; omega) (by simp [Value.oneCell'])
    simp only [Nat.add_zero, List.length_cons, List.length_nil, Nat.zero_add] at hst
    refine ⟨.slice (some ⟨g, off, none⟩) (zs.length + 1) cap, W.setRow g (cur.toList.take (off + zs.length) ++ [Value.int .i64 x] ++ cur.toList.drop (off + zs.length + 1)).toArray, ?_, ?_, hBW.trans ?_, ?_⟩
    · simp [Builtin.append_, run_underlying Tryz.underlying52, sizeOf, typeInfo, hi, h2, Builtin.lenOf, hroom, hf, add_plain', hst]
    · refine ⟨g, off, cap, _, by simp, hg0, setRow_heap W g cur _ 2 _ hg, by simp; omega, hcm, ?_, fun k hk => ?_⟩
      · simp only [List.size_toArray, List.length_append, List.length_take, List.length_drop, Array.length_toList, List.length_cons, List.length_nil]
        omega
      · simp only [List.length_append, List.length_cons, List.length_nil] at hk
        have hlt : (cur.toList.take (off + zs.length)).length = off + zs.length := by rw [List.length_take]; simp; omega
        rw [List.getElem?_toArray, List.append_assoc]
        by_cases hkz : k < zs.length
        · rw [List.getElem?_append_left (by rw [hlt]; omega), List.getElem?_take, if_pos (by omega), List.getElem?_append_left hkz, Array.getElem?_toList]
          exact hrd k hkz
        · have : k = zs.length := by omega
          subst this
          rw [List.getElem?_append_right (by rw [hlt]; omega), hlt, Nat.sub_self]
          simp
    · refine ⟨rfl, rfl, rfl, by simp, fun b hb => setRow_other W g b _ (by omega)⟩
    · intro b o hb ho
      have hb' := hKW b o hb ho
      by_cases e : b = g
      · subst e
        rw [hg] at hb'
        simp only [Option.some.injEq] at hb'
        exact absurd hb'.symm (ho _ _)
      · rw [← hb']; exact setRow_other W g b _ e
  · have hr := run_append_grow (P := Tryz.prog) W 52 52 2 i (.int .i64 0) Tryz.underlying52 hi h1 ⟨g, off, none⟩ zs.length cap (zs.map intV) (by simp [h2]) (fun j u hu => by
      rw [List.getElem?_map, Option.map_eq_some_iff] at hu
      obtain ⟨z, hz1, rfl⟩ := hu
      have hj : j < zs.length := (List.getElem?_eq_some_iff.1 hz1).1
      have := hrd j hj
      rw [hz1, Option.getD_some] at this
      rw [add_plain']
      simp [World.cell?, hg, this, intV]) ⟨w.heap.size, 0, none⟩ 1 1 [.int .i64 x] (by simp [h2]) hnews (by omega) (by omega) (growslice_fits (by omega) (by rw [h3]; omega))
    have hge := grownCap_ge W (zs.length + 1) cap 2
    have hcm' := grownCap_le_maxLen W (zs.length + 1) cap 2 (by unfold maxLen; omega)
    have hBX : ∀ o, Below W.heap.size W (W.drew.alloc o) := fun o => ⟨rfl, rfl, rfl, by simp, fun b hb => (later1 W.drew o).block b hb⟩
    refine ⟨_, _, hr, ?_, hBW.trans ((hBX _).mono hsz), fun b o hb ho => ?_⟩
    · refine ⟨W.heap.size, 0, _, _, by simp, hsz, Go.Deep.blk_alloc_new _ _, by simp; omega, hcm', ?_, fun k hk => ?_⟩
      · simp only [Array.size_append, List.size_toArray, size_zeroCells, List.length_map, List.length_cons, List.length_nil, Value.cells]
        simp
        omega
      · simp only [List.length_append, List.length_cons, List.length_nil] at hk
        rw [Nat.zero_add, Array.getElem?_append_left (by simp; omega)]
        by_cases hkz : k < zs.length
        · rw [Array.getElem?_append_left (by simpa using hkz), List.getElem?_append_left hkz]
          simp [List.getElem?_eq_getElem hkz, intV]
        · have : k = zs.length := by omega
          subst this
          rw [Array.getElem?_append_right (by simp)]
          simp
    · rw [(hBX _).block b (Array.getElem?_eq_some_iff.1 (hKW b o hb ho)).1]
      exact hKW b o hb ho
end Go.Proofs.YtlohgnidbkechaaGreatDoor

namespace Go.Proofs.YtlohgnidbkechaaGreatDoor
open Go.RowKit Go.Maps
set_option maxRecDepth 100000

theorem Tryz.keyInt : Keyed Tryz.prog 2 := int_keyed Tryz.underlying2
theorem Tryz.zeroInt (w : World) : (zeroValue 2).run Tryz.prog w = .ok (.int .i64 0) w := by
  obtain ⟨i, hi, h1, _⟩ := Tryz.infoInt'
  simp [zeroValue, typeInfo, hi, h1]
abbrev wf64 (x : Int) : Prop := (Lit.int .i64 x).wf = true
theorem wf64_of {x : Int} (h0 : 0 ≤ x) (h1 : x ≤ 1000000) : wf64 x := by
  have h3 : IntKind.i64.min = -9223372036854775808 := by decide
  have h4 : IntKind.i64.max = 9223372036854775807 := by decide
  simp only [wf64, Lit.wf, h3, h4]
  simp
  omega
/-- Which keys a map has, and what it tells of each. -/
structure Tells (D : DataW Unit) (p : Int → Bool) (m : Int → Int) : Prop where
  val : ∀ x, wf64 x → D.atKey (.int .i64 x) (.lit (.int .i64 0)) = .lit (.int .i64 (m x))
  has : ∀ x, wf64 x → Maps.has D (.int .i64 x) = p x
def Mp (w : World) (b n : Nat) (p : Int → Bool) (m : Int → Int) : Prop := ∃ D : DataW Unit, w.ownsMap Tryz.prog 2 (plainElem Tryz.prog 2) b n D ∧ Tells D p m
theorem Mp.made (w : World) : Mp (w.alloc (.map #[] 0)) w.heap.size 0 (fun _ => false) (fun _ => 0) :=
  ⟨.map [], World.ownsMap_made w Tryz.prog 2 _, fun _ _ => rfl, fun _ _ => rfl⟩
theorem Mp.lt {w : World} {b n : Nat} {p : Int → Bool} {m : Int → Int} (h : Mp w b n p m) : b < w.heap.size := by
  obtain ⟨D, h, _⟩ := h
  exact h.lt
theorem Mp.keep {w w' : World} {b n : Nat} {p : Int → Bool} {m : Int → Int} (h : Mp w b n p m) (e : w'.heap[b]? = w.heap[b]?) : Mp w' b n p m := by
  obtain ⟨D, ⟨es, clock, hb, r⟩, ht⟩ := h
  exact ⟨D, ⟨es, clock, e.trans hb, r⟩, ht⟩
theorem Mp.later {w w' : World} {b n : Nat} {p : Int → Bool} {m : Int → Int} (h : Mp w b n p m) (hb : Below w.heap.size w w') : Mp w' b n p m := h.keep (hb.block b h.lt)
theorem Mp.drewN {w : World} {b n : Nat} {p : Int → Bool} {m : Int → Int} (h : Mp w b n p m) (q : Nat) : Mp (w.drewN q) b n p m := h.later (below_drewN (Below.refl _ _) q)
theorem Mp.keepQ {w w' : World} {b n : Nat} {p : Int → Bool} {m : Int → Int} (h : Mp w b n p m) (hk : KeepQ w w') : Mp w' b n p m := by
  have h0 := h
  obtain ⟨D, ⟨es, clock, hb, r⟩, ht⟩ := h
  exact h0.keep ((hk b _ hb (by intros; simp)).trans hb.symm)
theorem Mp.look {w : World} {b n : Nat} {p : Int → Bool} {m : Int → Int} (h : Mp w b n p m) {x : Int} (hx : wf64 x) : (Instr.lookup 125 (.map (some b)) (.int .i64 x) false).run Tryz.prog w = .ok (.int .i64 (m x)) w := by
  obtain ⟨D, ho, ht⟩ := h
  obtain ⟨c, hr, hc, _⟩ := ho.lookup_int Tryz.keyInt Tryz.underlying125 Tryz.underlying2 (Tryz.zeroInt w) (keyOf_int_mk Tryz.underlying2 hx)
  rw [ht.val x hx] at hc
  simp at hc
  rw [hr, hc]
def putP (p : Int → Bool) (x : Int) : Int → Bool := fun y => if y = x then true else p y
theorem Mp.put {w : World} {b n : Nat} {p : Int → Bool} {m : Int → Int} (h : Mp w b n p m) (hn : n < maxLen) {x v : Int} (hx : wf64 x) (hv : wf64 v) :
    ∃ w', (Instr.mapUpdate 125 (.map (some b)) (.int .i64 x) (.int .i64 v)).run Tryz.prog w = .ok () w' ∧ Mp w' b (n + 1) (putP p x) (putM m x v) ∧ w.mapTurned w' b := by
  obtain ⟨D, ho, ht⟩ := h
  have hk : keyOf Tryz.prog 2 (.int .i64 x) = some (.int .i64 x) := keyOf_int_mk Tryz.underlying2 hx
  obtain ⟨w', hr, ho', hturn⟩ := ho.store Tryz.keyInt Tryz.underlying125 hn hk (plainElem_int Tryz.underlying2 hv)
  refine ⟨w', hr, ⟨_, ho', fun y hy => ?_, fun y hy => ?_⟩, hturn⟩
  · unfold putM
    by_cases e : y = x
    · subst e; rw [if_pos rfl, Maps.atKey_put_same ho.isMap (Tryz.keyInt.key hk)]
    · rw [if_neg e, Maps.atKey_put_other (by simpa using e)]; exact ht.val y hy
  · unfold putP
    by_cases e : y = x
    · subst e; rw [if_pos rfl]; exact Maps.has_put_same ho.isMap (Tryz.keyInt.key hk) _
    · rw [if_neg e, ← ht.has y hy]; exact Maps.has_put_other (by simpa using e) _
theorem turned_block {w w' : World} {b : Nat} (h : w.mapTurned w' b) (k : Nat) (hk : k ≠ b) : w'.heap[k]? = w.heap[k]? := by
  by_cases hlt : k < w.heap.size
  · exact h.grown.block k hlt (by simpa using hk)
  · obtain ⟨es, c, es', c', hb, rfl⟩ := h
    exact (MapKept.heap_set hb).2 k hk
theorem turned_below {w w' : World} {b B : Nat} (h : w.mapTurned w' b) (hB : B ≤ b) : Below B w w' :=
  ⟨h.grown.os, h.grown.tape, h.grown.output, h.grown.size, fun k hk => turned_block h k (by omega)⟩
/-- While a map is gone through and what is 0 is deleted: what it tells stays. -/
structure SweepT (D : DataW Unit) (p : Int → Bool) (m : Int → Int) (left : Lit → Bool) : Prop where
  val : ∀ x, wf64 x → D.atKey (.int .i64 x) (.lit (.int .i64 0)) = .lit (.int .i64 (m x))
  has : ∀ x, wf64 x → Maps.has D (.int .i64 x) = (p x && (!decide (m x = 0) || left (.int .i64 x)))
theorem SweepT.start {D : DataW Unit} {p : Int → Bool} {m : Int → Int} (h : Tells D p m) : SweepT D p m (Maps.has D) :=
  ⟨h.val, fun x hx => by rw [h.has x hx]; cases p x <;> simp⟩
theorem SweepT.stays {D : DataW Unit} {p : Int → Bool} {m : Int → Int} {left : Lit → Bool} (h : SweepT D p m left) {x c : Int} (hx : wf64 x) (hat : ∀ zd, D.atKey (.int .i64 x) zd = .lit (.int .i64 c)) (hc : ¬ c = 0) : SweepT D p m (fun z => left z && !z.sameKey (.int .i64 x)) := by
  have hm : m x = c := by have := h.val x hx; rw [hat] at this; simpa using this.symm
  refine ⟨h.val, fun y hy => ?_⟩
  rw [h.has y hy]
  by_cases e : y = x
  · subst e; rw [hm]; simp [hc]
  · have : (Lit.int .i64 y).sameKey (.int .i64 x) = false := by
      cases hs : (Lit.int .i64 y).sameKey (.int .i64 x) with
      | false => rfl
      | true => exact absurd (by simpa using WideAt.sameKey_eq hs) e
    simp [this]
theorem SweepT.struck {D : DataW Unit} {p : Int → Bool} {m : Int → Int} {left : Lit → Bool} (h : SweepT D p m left) {x : Int} (hx : wf64 x) (hat : ∀ zd, D.atKey (.int .i64 x) zd = .lit (.int .i64 0)) : SweepT (D.del (.int .i64 x)) p m (fun z => left z && !z.sameKey (.int .i64 x)) := by
  have hm : m x = 0 := by have := h.val x hx; rw [hat] at this; simpa using this.symm
  have hk : WideAt.IsKeyLit (.int .i64 x) := Tryz.keyInt.key (keyOf_int_mk Tryz.underlying2 hx)
  refine ⟨fun y hy => ?_, fun y hy => ?_⟩
  · by_cases e : y = x
    · subst e; rw [Maps.atKey_del_same, hm]
    · rw [Maps.atKey_del_other (by simpa using e)]; exact h.val y hy
  · by_cases e : y = x
    · subst e; rw [Maps.has_del_same, hm, WideAt.sameKey_self hk]; simp
    · have : (Lit.int .i64 y).sameKey (.int .i64 x) = false := by
        cases hs : (Lit.int .i64 y).sameKey (.int .i64 x) with
        | false => rfl
        | true => exact absurd (by simpa using WideAt.sameKey_eq hs) e
      rw [Maps.has_del_other (by simpa using e), h.has y hy, this]; simp
theorem SweepT.done {D : DataW Unit} {p : Int → Bool} {m : Int → Int} {left : Lit → Bool} (h : SweepT D p m left) (hl : ∀ kl, left kl = false) : Tells D (fun x => p x && !decide (m x = 0)) m :=
  ⟨h.val, fun x hx => by rw [h.has x hx, hl]; simp⟩
end Go.Proofs.YtlohgnidbkechaaGreatDoor
