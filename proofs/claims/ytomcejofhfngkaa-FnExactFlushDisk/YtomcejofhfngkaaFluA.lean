
/- The walks of the specification's FlushDisk and CrashDisk. -/
import Derived.Test.YtomcejofhfngkaaKeepA
import Derived.Test.YtomcejofhfngkaaPutA
namespace Go.Proofs.Ytomcejofhfngkaa
open Go.RowKit
set_option maxRecDepth 100000

theorem faultF_places {bs : List (List Int)} {ps : List (Int × List Int)} (h : faultF bs ps = 0) : ∀ k, k < ps.length → ∃ x : Nat, (ps[k]?.getD (0, [])).1 = x ∧ x < bs.length := by
  have g := faultF_lens h
  have hb : ∀ n, ∀ i : Nat, i < n → i < bs.length → wordsF (bs[i]?.getD []) = 0 := by
    intro n
    induction n with
    | zero => intro i hi; omega
    | succ n ih =>
      intro i hi hl
      by_cases e : wordsF (bs[i]?.getD []) = 0
      · exact e
      · exact absurd (faultF_block (ps := ps) (by omega) hl (fun j hj => ih j (by omega) (by omega)) e) (by rw [h]; exact fun e' => e e'.symm)
  have hp : ∀ n, ∀ i : Nat, i < n → i < ps.length → putF bs.length (ps[i]?.getD (0, [])) = 0 := by
    intro n
    induction n with
    | zero => intro i hi; omega
    | succ n ih =>
      intro i hi hl
      by_cases e : putF bs.length (ps[i]?.getD (0, [])) = 0
      · exact e
      · exact absurd (faultF_put (by omega) (fun j hj => hb (j + 1) j (by omega) hj) hl (fun j hj => ih j (by omega) (by omega)) e) (by rw [h]; exact fun e' => e e'.symm)
  intro k hk
  have := hp (k + 1) k (by omega) hk
  unfold putF at this
  split at this
  · rename_i hq
    unfold placeB at hq
    simp only [decide_eq_true_eq] at hq
    exact ⟨(ps[k]?.getD (0, [])).1.toNat, by omega, by omega⟩
  · omega

set_option maxHeartbeats 800000 in
theorem specFlush_fault (w : World) (vB vC : Value) (bs : List (List Int)) (ps : List (Int × List Int)) (hB : IntsS w vB bs) (hP : Puts w vC ps) (hf : ¬ faultF bs ps = 0) :
    Calls Try.prog 20 #[.agg #[vB, vC]] w fun e w' => e = .returned (.agg #[.int .i64 (faultF bs ps), .slice none 0 0, .slice none 0 0]) ∧ Below w.heap.size w w' := by
  have HB : Hid (IntsS w vB bs) := hB
  have HP : Hid (Puts w vC ps) := hP
  generalize hc : faultF bs ps = c at *
  have HC : Hid (faultF bs ps = c) := hc
  have hne : (c != 0) = true := by simpa using hf
  clear hB hP hf hc
  go_enter Try.func20, Try.ntmps20
  go_wp2_with fail
  refine (l1Fault_any (vB := vB) (vC := vC) ?_ ?_ (HB.out.later (later2 _ _ _)) (HP.out.later (later2 _ _ _))).mono ?_
  · exact ((Box2.new w vB vC 30).later (later1 _ _)).1
  · exact ((Box2.new w vB vC 30).later (later1 _ _)).2
  rw [HC.out]
  rintro e w' ⟨rfl, m, rfl⟩
  go_wp2
  exact bodyPost_ret (v := .agg #[.int .i64 c, .slice none 0 0, .slice none 0 0]) (by simp [results, Try.results20, go_sem]) rfl ⟨rfl, (((below_drewN (later2 _ _ _) m).setCell (by simp) _).setCell (by simp) _).setCell (by simp) _⟩

set_option maxHeartbeats 1600000 in
theorem specFlush_ok (hcp : L1CopySaid) (w : World) (aB aC : Option Addr) (cB cC : Nat) (bs : List (List Int)) (ps : List (Int × List Int)) (hB : IntsS w (.slice aB bs.length cB) bs) (hP : Puts w (.slice aC ps.length cC) ps) (sB : AtS w aB bs.length bs) (sP : AtP w aC ps.length ps) (hf : faultF bs ps = 0)
    (hz : ∀ k : Nat, (bs[k]?.getD []).length ≤ 1048576) (hzp : ∀ k : Nat, (ps[k]?.getD (0, [])).2.length ≤ 1048576) :
    Calls Try.prog 20 #[.agg #[.slice aB bs.length cB, .slice aC ps.length cC]] w (AnsDisk w 0 (keepTo (fun i => true || ([] : List Bool)[i]?.getD false) bs ps ps.length) []) := by
  have HCP : Hid L1CopySaid := hcp
  have HB : Hid (IntsS w (.slice aB bs.length cB) bs) := hB
  have HP : Hid (Puts w (.slice aC ps.length cC) ps) := hP
  have SB : Hid (AtS w aB bs.length bs) := sB
  have SP : Hid (AtP w aC ps.length ps) := sP
  have HF : Hid (faultF bs ps = 0) := hf
  obtain ⟨g1, g2⟩ := faultF_lens hf
  have HZ : Hid (∀ k : Nat, (bs[k]?.getD []).length ≤ 1048576) := hz
  have HZP : Hid (∀ k : Nat, (ps[k]?.getD (0, [])).2.length ≤ 1048576) := hzp
  clear hcp hB hP sB sP hf hz hzp
  go_enter Try.func20, Try.ntmps20
  go_wp2_with fail
  refine (l1Fault_any (vB := .slice aB bs.length cB) (vC := .slice aC ps.length cC) ?_ ?_ (HB.out.later (later2 _ _ _)) (HP.out.later (later2 _ _ _))).mono ?_
  · exact ((Box2.new w (.slice aB bs.length cB) (.slice aC ps.length cC) 30).later (later1 _ _)).1
  · exact ((Box2.new w (.slice aB bs.length cB) (.slice aC ps.length cC) 30).later (later1 _ _)).2
  rw [HF.out]
  rintro e w' ⟨rfl, m, rfl⟩
  go_wp2_with fail
  refine (l1Keep_any HCP.out _ aB aC _ cB cC _ _ true bs ps [] g1 g2 HZ.out HZP.out (SB.out.later (below_drewN (later2 _ _ _) m)) (SP.out.later (below_drewN (later2 _ _ _) m)) (faultF_places HF.out) rfl (fun k hk => absurd hk (Nat.not_lt_zero k))).mono ?_
  rintro e w1 ⟨aX, cX, rfl, hb1, hio⟩
  have HW1 : Hid (Below w.heap.size w w1) := (below_drewN (later2 _ _ _) m).trans (hb1.mono (by simp [World.drewN]; omega))
  have HR1 : Hid (OwnRow w1 (w.heap.size + 1) 3 (fun i => if i = 0 then .int .i64 0 else if i = 1 then .slice none 0 0 else .slice none 0 0)) := by
    have h := (three (w.alloc (Obj.cells #[Value.slice aB bs.length cB, Value.slice aC ps.length cC] 30)) (.int .i64 0) (.slice none 0 0) (.slice none 0 0) 32)
    have h2 := (h.later (below_drewN (Below.refl _ _) m)).later hb1
    unfold Hid
    simpa using h2
  have HIO : Hid (IntsSO w1 (.slice aX bs.length cX) (keepTo (fun i => true || ([] : List Bool)[i]?.getD false) bs ps ps.length) (fun c => w.heap.size + 2 ≤ c ∧ c < w1.heap.size)) := hio.mono fun b hb => ⟨by have := hb.1; simp [World.drewN] at this; omega, hb.2⟩
  have r0 := HR1.out.cell (i := 0) (by omega)
  have r1 := HR1.out.cell (i := 1) (by omega)
  have r2 := HR1.out.cell (i := 2) (by omega)
  have s0 := HR1.out.frozen 0
  have s1 := HR1.out.frozen 1
  have s2 := HR1.out.frozen 2
  simp at r0 r1 r2
  clear hb1 hio
  go_wp2
  refine bodyPost_ret (v := .agg #[.int .i64 0, .slice aX bs.length cX, .slice none 0 0]) (by simp [results, Try.results20, go_sem, r0, r1, r2]) rfl ⟨_, _, _, _, _, _, rfl, ((HW1.out.setCell (by simp) _).setCell (by simp) _).setCell (by simp) _, fun c => w.heap.size + 2 ≤ c ∧ c < w1.heap.size, fun _ => False, ((HIO.out.store (fun b hb => by simp; omega) _).store (fun b hb => by simp; omega) _).store (fun b hb => by simp; omega) _, Or.inl ⟨rfl, none, 0, rfl⟩, fun b _ h => h.elim, fun b hb => ?_⟩
  rcases hb with hb | hb
  · simp only [World.setCell, Array.size_modify]
    omega
  · exact hb.elim

/-- What a flush or a crash leaves in the blocks. -/
def keepBlocks (pk : Nat → Bool) (bs : List (List Int)) (ps : List (Int × List Int)) : List (List Int) := if faultF bs ps = 0 then keepTo pk bs ps ps.length else []

theorem specFlush_any (hcp : L1CopySaid) (w : World) (vB vC : Value) (bs : List (List Int)) (ps : List (Int × List Int)) (hB : IntsS w vB bs) (hP : Puts w vC ps) (hz : ∀ k : Nat, (bs[k]?.getD []).length ≤ 1048576) (hzp : ∀ k : Nat, (ps[k]?.getD (0, [])).2.length ≤ 1048576) :
    Calls Try.prog 20 #[.agg #[vB, vC]] w (AnsDisk w (faultF bs ps) (keepBlocks (fun _ => true) bs ps) []) := by
  obtain ⟨aB, cB, rfl, _, sB⟩ := hB.open'
  obtain ⟨aC, cC, rfl, _, sP⟩ := hP.open'
  unfold keepBlocks
  by_cases hf : faultF bs ps = 0
  · rw [if_pos hf, hf]
    have := specFlush_ok hcp w aB aC cB cC bs ps hB hP sB sP hf hz hzp
    simpa using this
  · rw [if_neg hf]
    exact (specFlush_fault w _ _ bs ps hB hP hf).mono fun e w' ⟨h1, h2⟩ => by rw [h1]; exact ans_bad h2 _
end Go.Proofs.Ytomcejofhfngkaa
