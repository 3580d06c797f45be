/- The specification's RenamePath; the size of what it answers. -/
import Derived.Test.YtpfafcodihhdfaaGreatDoorM34
namespace Go.Proofs.YtpfafcodihhdfaaGreatDoor
open Go.RowKit
set_option maxRecDepth 100000

/-- A file system that is small. -/
structure Smol (d : FD) : Prop where
  ino : ∀ i : Nat, spanIno (d.1[i]?.getD id0) ≤ 16
  ten : d.1.length ≤ 10
  eight : ∀ i : Nat, (d.2[i]?.getD []).length ≤ 8
  dat : d.2.length = 20
theorem Smol.span {d : FD} (h : Smol d) : spanFs d ≤ 1000 := by
  have e3 := spanInos_each h.ino
  have e2 := ylens_eight h.eight
  have h1 := h.ten
  have h2 := h.dat
  unfold spanFs
  omega
theorem Smol.of {d : FD} {j : Nat} (h : DirS d j) : Smol d := ⟨ins_spans h.ins, h.ten, h.eight, h.dat⟩
theorem Smol.ent {d : FD} (h : Smol d) (j : Nat) (es : List EN) (he : es.length ≤ 8) : Smol (entD d j es) :=
  ⟨set_span h.ino j _ (by unfold spanIno; simp only [List.length_nil]; omega), by rw [ent_len]; exact h.ten, h.eight, h.dat⟩
theorem Smol.lnk {d : FD} (h : Smol d) (j : Nat) (l : Int) : Smol (lnkD d j l) :=
  ⟨set_span h.ino j _ (by have := h.ino j; unfold spanIno at this ⊢; exact this), by show (d.1.set _ _).length ≤ 10; rw [List.length_set]; exact h.ten, h.eight, h.dat⟩
theorem Smol.zero {d : FD} (h : Smol d) (z : Nat) : Smol (d.1.set z id0, d.2) :=
  ⟨set_span h.ino z _ (by simp [spanIno, id0]), by show (d.1.set _ _).length ≤ 10; rw [List.length_set]; exact h.ten, h.eight, h.dat⟩
theorem Smol.drop {d : FD} (h : Smol d) (z : Nat) : Smol (dropD d z) :=
  ⟨set_span h.ino z _ (by simp [spanIno, id0]), by show (d.1.set _ _).length ≤ 10; rw [List.length_set]; exact h.ten, clrK_le h.eight _ _, by show (clrK _ _ _).length = 20; rw [clrK_length]; exact h.dat⟩
theorem Smol.unl {d : FD} (h : Smol d) (z : Nat) : Smol (unlD d z) := by
  unfold unlD
  split
  · exact h.lnk _ _
  · split
    · exact h.drop _
    · exact h
theorem delE_le (es : List EN) (k : Nat) : (delE es k).length ≤ es.length := by
  unfold delE
  rw [List.length_append, List.length_take, List.length_drop]
  omega
theorem Smol.del {d : FD} (h : Smol d) (j k : Nat) (h6 : (entA d j).length ≤ 6) : Smol (delD d j k) := by
  have := delE_le (entA d j) k
  unfold delD
  split
  · exact (h.ent _ _ (by omega)).unl _
  · exact h.ent _ _ (by omega)
theorem Smol.gone {d : FD} (h : Smol d) (j k z : Nat) (h6 : (entA d j).length ≤ 6) : Smol (goneD d j k z) := by
  unfold goneD
  split
  · exact (h.del j k h6).zero z
  · exact h.del j k h6
theorem ren_smol {d : FD} {j tj z : Nat} {s t : ByteArray} (ht : DirS d tj) (hr : RenS d (clearD d tj t) j s tj) : Smol (renD d j s tj t z) := by
  have h1 : Smol (clearD d tj t) := by
    unfold clearD
    split
    · exact (Smol.of ht).gone _ _ _ ht.six
    · exact Smol.of ht
  unfold renD movedD
  have h2 := delE_le (entA (clearD d tj t) j) (idxE (entA (clearD d tj t) j) s)
  have h3 := hr.six
  have h4 := hr.six2
  refine (h1.ent _ _ (by omega)).ent _ _ ?_
  rw [insE_len]
  omega
theorem renR_span (d : FD) (s t : ByteArray) : spanCR (renR d s t).2 ≤ 1000 := by
  unfold renR
  split
  · rename_i hf
    unfold renQ
    split
    · rename_i hp
      obtain ⟨j, h1, h2, h3, h4⟩ := par_spot hf hp
      rw [h1, Int.toNat_natCast]
      split
      · rename_i hh
        split
        · rename_i hq
          obtain ⟨tj, g1, g2, g3, g4⟩ := par_spot hf hq
          rw [g1, Int.toNat_natCast]
          unfold renQ2
          split
          · exact stay_span hf _
          · rename_i hn
            obtain ⟨z, hz, -, -⟩ := atE_in h3 hh
            have hr : RenS d (clearD d tj (lastN t)) j (lastN s) tj := renS (z := z) h3 g3 hz hh (by
              have := Classical.byContradiction fun hc => hn (Or.inl hc)
              rw [hz, Int.toNat_natCast] at this
              exact this) (fun hc => hn (Or.inr hc))
            exact Nat.le_trans (Nat.le_of_eq (by simp [spanCR])) (ren_smol (z := (atE d j (lastN s)).toNat) g3 hr).span
        · exact stay_span hf _
      · exact stay_span hf _
    · exact stay_span hf _
  · rw [noCR_span]; omega
set_option maxHeartbeats 3200000 in
theorem specRenU (w : World) (a1 : Option Addr) (n1 c1 : Nat) (a2 : Option Addr) (n2 c2 : Nat) (d : FD) (s t : ByteArray) (h : FsR w (.slice a1 n1 c1) (.slice a2 n2 c2) d) (hs : sizeFs d ≤ 1048576) (hl : s.size ≤ 1048576) (ht : t.size ≤ 1048576) :
    Calls Tryz.prog 26 #[.agg #[.slice a1 n1 c1, .slice a2 n2 c2], .string s, .string t] w (AnsCR w (renR d s t)) := by
  have hrn : renR d s t = if fsF d = 0 then renQ d s t else noCR (fsF d) := rfl
  obtain ⟨hx0, -, -⟩ := FsX.box h 32
  have HF : Hid (∀ W, FsX W w.heap.size 0 d a1 c1 a2 c2 → Calls Tryz.prog 32 #[.pointer (some ⟨w.heap.size, 0, none⟩)] W fun e w' => e = .returned (.int .i64 (fsF d)) ∧ Below W.heap.size W w') := fun W hW => (l6Fault_any W _ _ d _ _ _ _ hW (by unfold sizeFs at hs; omega)).mono fun _ _ hh => hh
  have HIN : Hid (fsF d = 0 → ∀ W, Below w.heap.size w W → Calls Tryz.prog 57 #[.agg #[.slice a1 n1 c1, .slice a2 n2 c2], .string s, .string t] W (AnsCR W (renQ d s t))) := fun hf W hW => l10Rename_any W _ _ _ _ _ _ d s t (h.later hW) hs hl ht hf
  obtain ⟨RES, hRES⟩ : ∃ r, renR d s t = r := ⟨_, rfl⟩
  rw [hRES] at hrn ⊢
  have HRN : Hid (RES = if fsF d = 0 then renQ d s t else noCR (fsF d)) := hrn
  have HB0 : Hid (Below w.heap.size w ((w.alloc (.cells #[.slice a1 n1 c1, .slice a2 n2 c2] 32)).alloc (.cells #[.int .i64 0, .int .i64 0, .int .i64 0, .slice none 0 0, .slice none 0 0, .slice none 0 0, .slice none 0 0] 44))) := later2 _ _ _
  have HX0 : Hid (Bx ((w.alloc (.cells #[.slice a1 n1 c1, .slice a2 n2 c2] 32)).alloc (.cells #[.int .i64 0, .int .i64 0, .int .i64 0, .slice none 0 0, .slice none 0 0, .slice none 0 0, .slice none 0 0] 44)) w.heap.size [.slice a1 n1 c1, .slice a2 n2 c2]) := (Bx.new w [.slice a1 n1 c1, .slice a2 n2 c2] _).later (later1 _ _)
  have HR0 : Hid (OwnRow ((w.alloc (.cells #[.slice a1 n1 c1, .slice a2 n2 c2] 32)).alloc (.cells #[.int .i64 0, .int .i64 0, .int .i64 0, .slice none 0 0, .slice none 0 0, .slice none 0 0, .slice none 0 0] 44)) (w.heap.size + 1) 7 (cel zero7)) := by
      have p2 := row7 (w.alloc (.cells #[.slice a1 n1 c1, .slice a2 n2 c2] 32)) 44
      rw [World.size_alloc] at p2
      exact p2
  have HFX0 : Hid (FsX ((w.alloc (.cells #[.slice a1 n1 c1, .slice a2 n2 c2] 32)).alloc (.cells #[.int .i64 0, .int .i64 0, .int .i64 0, .slice none 0 0, .slice none 0 0, .slice none 0 0, .slice none 0 0] 44)) w.heap.size 0 d a1 c1 a2 c2) := hx0.later (later1 _ _)
  clear hRES hrn h hs hl ht hx0
  generalize fsF d = fc at *
  go_enter Tryz.func26, Tryz.ntmps26
  go_wp2_with fail
  generalize ((w.alloc (.cells #[.slice a1 n1 c1, .slice a2 n2 c2] 32)).alloc (.cells #[.int .i64 0, .int .i64 0, .int .i64 0, .slice none 0 0, .slice none 0 0, .slice none 0 0, .slice none 0 0] 44)) = W0 at *
  refine (HF.out _ HFX0.out).mono ?_
  rintro e w1 ⟨rfl, hb⟩
  have HB1 : Hid (Below w.heap.size w w1) := HB0.out.trans (hb.mono HB0.out.size)
  have HX1 : Hid (Bx w1 w.heap.size [.slice a1 n1 c1, .slice a2 n2 c2]) := HX0.out.later hb
  have HR1 : Hid (OwnRow w1 (w.heap.size + 1) 7 (cel zero7)) := HR0.out.later hb
  have HFX1 : Hid (FsX w1 w.heap.size 0 d a1 c1 a2 c2) := HFX0.out.later hb
  clear hb
  by_cases hfc : fc = 0
  · have hfb : (fc != 0) = false := by simpa using hfc
    have HE : Hid (RES = renQ d s t) := by unfold Hid; rw [HRN.out, if_pos hfc]
    have HI : Hid (∀ W, Below w.heap.size w W → Calls Tryz.prog 57 #[.agg #[.slice a1 n1 c1, .slice a2 n2 c2], .string s, .string t] W (AnsCR W (renQ d s t))) := HIN.out hfc
    clear hfc HIN HRN HF
    have xHX0 := HX1.out 0 _ rfl
    have xHX1 := HX1.out 1 _ rfl
    go_wp2_with fail
    clear xHX0 xHX1
    refine (HI.out _ HB1.out).mono ?_
    rintro e u ⟨y1, y2, b3, m3, k3, b4, m4, k4, b5, m5, k5, b6, m6, k6, rfl, hb, hu⟩
    have hrr := HR1.out.later hb
    have hlr : w.heap.size + 1 < w1.heap.size := HR1.out.lt
    have HBU : Hid (Below w1.heap.size w1 u) := hb
    have HCU : Hid (CResU u (.int .i64 y1) (.int .i64 y2) (.slice b3 m3 k3) (.slice b4 m4 k4) (.slice b5 m5 k5) (.slice b6 m6 k6) (renQ d s t).2 (fresh w1 u)) := hu
    have t0 : u.cell? ⟨w.heap.size + 1, 0, none⟩ = some (.int .i64 0) := hrr.cell (i := 0) (by omega)
    have t1 : u.cell? ⟨w.heap.size + 1, 1, none⟩ = some (.int .i64 0) := hrr.cell (i := 1) (by omega)
    have t2 : u.cell? ⟨w.heap.size + 1, 2, none⟩ = some (.int .i64 0) := hrr.cell (i := 2) (by omega)
    have t3 : u.cell? ⟨w.heap.size + 1, 3, none⟩ = some (.slice none 0 0) := hrr.cell (i := 3) (by omega)
    have t4 : u.cell? ⟨w.heap.size + 1, 4, none⟩ = some (.slice none 0 0) := hrr.cell (i := 4) (by omega)
    have t5 : u.cell? ⟨w.heap.size + 1, 5, none⟩ = some (.slice none 0 0) := hrr.cell (i := 5) (by omega)
    have t6 : u.cell? ⟨w.heap.size + 1, 6, none⟩ = some (.slice none 0 0) := hrr.cell (i := 6) (by omega)
    have s0 := hrr.frozen 0
    have s1 := hrr.frozen 1
    have s2 := hrr.frozen 2
    have s3 := hrr.frozen 3
    have s4 := hrr.frozen 4
    have s5 := hrr.frozen 5
    have s6 := hrr.frozen 6
    clear hb hu hrr
    go_wp2
    exact bodyPost_ret (v := .agg #[.int .i64 (renQ d s t).1, .int .i64 y1, .int .i64 y2, .slice b3 m3 k3, .slice b4 m4 k4, .slice b5 m5 k5, .slice b6 m6 k6]) (by simp [results, Tryz.results26, go_sem, t0, t1, t2, t3, t4, t5, t6]) rfl (by rw [HE.out]; exact AnsCR.pass HB1.out (by omega) hlr HBU.out HCU.out _ _ _ _ _ _ _)
  · have hfb : (fc != 0) = true := by simpa using hfc
    have HE : Hid (RES = noCR fc) := by unfold Hid; rw [HRN.out, if_neg hfc]
    have hrr := HR1.out
    have hlw : w.heap.size + 1 < w1.heap.size := hrr.lt
    clear hfc HIN HRN HF
    have t0 : w1.cell? ⟨w.heap.size + 1, 0, none⟩ = some (.int .i64 0) := hrr.cell (i := 0) (by omega)
    have t1 : w1.cell? ⟨w.heap.size + 1, 1, none⟩ = some (.int .i64 0) := hrr.cell (i := 1) (by omega)
    have t2 : w1.cell? ⟨w.heap.size + 1, 2, none⟩ = some (.int .i64 0) := hrr.cell (i := 2) (by omega)
    have t3 : w1.cell? ⟨w.heap.size + 1, 3, none⟩ = some (.slice none 0 0) := hrr.cell (i := 3) (by omega)
    have t4 : w1.cell? ⟨w.heap.size + 1, 4, none⟩ = some (.slice none 0 0) := hrr.cell (i := 4) (by omega)
    have t5 : w1.cell? ⟨w.heap.size + 1, 5, none⟩ = some (.slice none 0 0) := hrr.cell (i := 5) (by omega)
    have t6 : w1.cell? ⟨w.heap.size + 1, 6, none⟩ = some (.slice none 0 0) := hrr.cell (i := 6) (by omega)
    have s0 := hrr.frozen 0
    have s1 := hrr.frozen 1
    have s2 := hrr.frozen 2
    have s3 := hrr.frozen 3
    have s4 := hrr.frozen 4
    have s5 := hrr.frozen 5
    have s6 := hrr.frozen 6
    clear hrr
    go_wp2
    exact bodyPost_ret (v := .agg #[.int .i64 fc, .int .i64 0, .int .i64 0, .slice none 0 0, .slice none 0 0, .slice none 0 0, .slice none 0 0]) (by simp [results, Tryz.results26, go_sem, t0, t1, t2, t3, t4, t5, t6]) rfl (by rw [HE.out]; exact AnsCR.no fc HB1.out (by omega) _ _ _ _ _ _ _)

end Go.Proofs.YtpfafcodihhdfaaGreatDoor
