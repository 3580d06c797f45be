/- FormatDisk of the specification. NewWorld, both sides. -/
import Derived.Test.YtlacppjlclfpmaaGreatM17
import Derived.Test.YtlacppjlclfpmaaGreatM12
import Derived.Test.YtlacppjlclfpmaaGreatM16
import Derived.Test.YtlacppjlclfpmaaGreatM10
namespace Go.Proofs.YtlacppjlclfpmaaGreat
open Go.RowKit
set_option maxRecDepth 100000

set_option maxHeartbeats 6400000 in
theorem l12Format_any (w : World) (x : Int) :
    Calls Tryz.prog 21 #[.int .i64 x] w fun e w' => ∃ b, e = .returned (.agg #[.slice (some ⟨b, 0, none⟩) 47 47, .slice none 0 0]) ∧ Below w.heap.size w w' ∧ IntsSO w' (.slice (some ⟨b, 0, none⟩) 47 47) (fmtB x) (fun c => w.heap.size ≤ c ∧ c < w'.heap.size) := by
  have HPK : Hid (∀ W, Calls Tryz.prog 46 #[.agg #[.int .i64 2, .int .i64 0, .int .i64 0, .slice none 0 0, .slice none 0 0]] W fun e w' => ∃ v, e = .returned v ∧ Below W.heap.size W w' ∧ Wds w' W.heap.size v [2, 0, 0, 0]) := fun W => by
    have hno : InoR W (.int .i64 2) (.int .i64 0) (.int .i64 0) (.slice none 0 0) (.slice none 0 0) dir0 := ⟨⟨rfl, rfl, rfl, none, 0, 0, rfl, Nat.le_refl _⟩, Or.inl ⟨rfl, none, 0, rfl⟩, Ents.nil _ _ _⟩
    have := l4Pack_any W 2 0 0 none 0 0 none 0 0 dir0 hno (by decide)
    rw [packL_dir] at this
    exact this
  have HB0 : Hid (Below w.heap.size w (w.alloc (.cells #[.slice none 0 0, .slice none 0 0] 33))) := later1 _ _
  have HR0 : Hid (OwnRow (w.alloc (.cells #[.slice none 0 0, .slice none 0 0] 33)) (w.heap.size) 2 (cel [.slice none 0 0, .slice none 0 0])) := newCel w [.slice none 0 0, .slice none 0 0] _
  go_enter Tryz.func21, Tryz.ntmps21
  go_wp2_with fail
  refine (l1New_any _ 47 (by omega)).mono ?_
  rintro e w1 ⟨b, hbb, rfl, hb, hrow⟩
  have HS1 : Hid (IntsSO w1 (.slice (some ⟨b, 0, none⟩) 47 47) (List.replicate 47 []) (fun c => c = b)) := empt47 hrow
  have hbl := hrow.lt
  rw [World.size_alloc] at hbb
  have HRB1 : Hid (OwnRow w1 b 47 (fun _ => .slice none 0 0)) := hrow
  clear hrow
  have HB1 : Hid (Below w.heap.size w w1) := HB0.out.trans (hb.mono HB0.out.size)
  have HR1 : Hid (OwnRow w1 (w.heap.size) 2 (cel [.slice none 0 0, .slice none 0 0])) := HR0.out.later hb
  clear hb
  have hb := later1 w1 (.cells #[.slice (some ⟨b, 0, none⟩) 47 47, .slice none 0 0] 33)
  have HS2 : Hid (IntsSO (w1.alloc (.cells #[.slice (some ⟨b, 0, none⟩) 47 47, .slice none 0 0] 33)) (.slice (some ⟨b, 0, none⟩) 47 47) (List.replicate 47 []) (fun c => c = b)) := HS1.out.keep fun c _ hlt => hb.block c hlt
  have HRB2 : Hid (OwnRow (w1.alloc (.cells #[.slice (some ⟨b, 0, none⟩) 47 47, .slice none 0 0] 33)) b 47 (fun _ => .slice none 0 0)) := HRB1.out.later hb
  clear HS1 HRB1
  have HB2 : Hid (Below w.heap.size w (w1.alloc (.cells #[.slice (some ⟨b, 0, none⟩) 47 47, .slice none 0 0] 33))) := HB1.out.trans (hb.mono HB1.out.size)
  have HR2 : Hid (OwnRow (w1.alloc (.cells #[.slice (some ⟨b, 0, none⟩) 47 47, .slice none 0 0] 33)) (w.heap.size) 2 (cel [.slice none 0 0, .slice none 0 0])) := HR1.out.later hb
  clear hb
  have HD2 : Hid (OwnRow (w1.alloc (.cells #[.slice (some ⟨b, 0, none⟩) 47 47, .slice none 0 0] 33)) w1.heap.size 2 (cel [.slice (some ⟨b, 0, none⟩) 47 47, .slice none 0 0])) := newCel w1 [.slice (some ⟨b, 0, none⟩) 47 47, .slice none 0 0] _
  have hds : (w1.alloc (.cells #[.slice (some ⟨b, 0, none⟩) 47 47, .slice none 0 0] 33)).heap.size = w1.heap.size + 1 := by simp
  have hox : IntsO ((w1.alloc (.cells #[.slice (some ⟨b, 0, none⟩) 47 47, .slice none 0 0] 33)).alloc (.cells #[.int .i64 7, .int .i64 x] 2)) (.slice (some ⟨w1.heap.size + 1, 0, none⟩) 2 2) [7, x] (fresh (w1.alloc (.cells #[.slice (some ⟨b, 0, none⟩) 47 47, .slice none 0 0] 33)) ((w1.alloc (.cells #[.slice (some ⟨b, 0, none⟩) 47 47, .slice none 0 0] 33)).alloc (.cells #[.int .i64 7, .int .i64 x] 2))) := by
    have hr := OwnRow.newS (w1.alloc (.cells #[.slice (some ⟨b, 0, none⟩) 47 47, .slice none 0 0] 33)) (.int .i64 7) (.int .i64 x) 2
    rw [hds] at hr
    refine Or.inr ⟨w1.heap.size + 1, 2, ⟨by omega, hr.lt⟩, rfl, by unfold maxLen; simp, hr.congr fun i hi => ?_⟩
    rcases (show i = 0 ∨ i = 1 by have hi' : i < 2 := hi; omega) with rfl | rfl <;> rfl
  have HSX := IntsSO.set HS2.out (x := 0) (by simp) (later1 (w1.alloc (.cells #[.slice (some ⟨b, 0, none⟩) 47 47, .slice none 0 0] 33)) _) (fun c hc => by subst hc; omega) hox
  have hbx := later1 (w1.alloc (.cells #[.slice (some ⟨b, 0, none⟩) 47 47, .slice none 0 0] 33)) (.cells #[.int .i64 7, .int .i64 x] 2)
  have hb : Below w.heap.size (w1.alloc (.cells #[.slice (some ⟨b, 0, none⟩) 47 47, .slice none 0 0] 33)) (((w1.alloc (.cells #[.slice (some ⟨b, 0, none⟩) 47 47, .slice none 0 0] 33)).alloc (.cells #[.int .i64 7, .int .i64 x] 2)).setCell ⟨b, 0, none⟩ (.slice (some ⟨w1.heap.size + 1, 0, none⟩) 2 2)) := (hbx.mono HB2.out.size).setCell (by show w.heap.size ≤ b; omega) _
  have hsz : (((w1.alloc (.cells #[.slice (some ⟨b, 0, none⟩) 47 47, .slice none 0 0] 33)).alloc (.cells #[.int .i64 7, .int .i64 x] 2)).setCell ⟨b, 0, none⟩ (.slice (some ⟨w1.heap.size + 1, 0, none⟩) 2 2)).heap.size = w1.heap.size + 2 := by simp [World.setCell]
  have HS4 : Hid (IntsSO (((w1.alloc (.cells #[.slice (some ⟨b, 0, none⟩) 47 47, .slice none 0 0] 33)).alloc (.cells #[.int .i64 7, .int .i64 x] 2)).setCell ⟨b, 0, none⟩ (.slice (some ⟨w1.heap.size + 1, 0, none⟩) 2 2)) (.slice (some ⟨b, 0, none⟩) 47 47) (fmt1 x) (fun c => w.heap.size < c ∧ c < (((w1.alloc (.cells #[.slice (some ⟨b, 0, none⟩) 47 47, .slice none 0 0] 33)).alloc (.cells #[.int .i64 7, .int .i64 x] 2)).setCell ⟨b, 0, none⟩ (.slice (some ⟨w1.heap.size + 1, 0, none⟩) 2 2)).heap.size ∧ c ≠ w1.heap.size)) := HSX.mono fun c hc => by
    rw [hsz]
    rcases hc with rfl | hc
    · omega
    · have h1 := hc.1; have h2 := hc.2; rw [World.size_alloc] at h2; omega
  have hrx := (HR2.out.later hbx).store (p := ⟨b, 0, none⟩) (by show w.heap.size ≠ b; omega) (.slice (some ⟨w1.heap.size + 1, 0, none⟩) 2 2)
  have hdx := (HD2.out.later hbx).store (p := ⟨b, 0, none⟩) (by show w1.heap.size ≠ b; omega) (.slice (some ⟨w1.heap.size + 1, 0, none⟩) 2 2)
  have hq := HRB2.out.later hbx
  have hq0 := hq.cell (i := 0) (by omega)
  have hq1 := hq.frozen 0
  have hqa := HRB2.out.cell (i := 0) (by omega)
  have hqb := HRB2.out.frozen 0
  have HB9 : Hid (Below w.heap.size w (((w1.alloc (.cells #[.slice (some ⟨b, 0, none⟩) 47 47, .slice none 0 0] 33)).alloc (.cells #[.int .i64 7, .int .i64 x] 2)).setCell ⟨b, 0, none⟩ (.slice (some ⟨w1.heap.size + 1, 0, none⟩) 2 2))) := HB2.out.trans hb
  have HR9 : Hid (OwnRow (((w1.alloc (.cells #[.slice (some ⟨b, 0, none⟩) 47 47, .slice none 0 0] 33)).alloc (.cells #[.int .i64 7, .int .i64 x] 2)).setCell ⟨b, 0, none⟩ (.slice (some ⟨w1.heap.size + 1, 0, none⟩) 2 2)) (w.heap.size) 2 (cel [.slice none 0 0, .slice none 0 0])) := hrx
  have HD9 : Hid (OwnRow (((w1.alloc (.cells #[.slice (some ⟨b, 0, none⟩) 47 47, .slice none 0 0] 33)).alloc (.cells #[.int .i64 7, .int .i64 x] 2)).setCell ⟨b, 0, none⟩ (.slice (some ⟨w1.heap.size + 1, 0, none⟩) 2 2)) w1.heap.size 2 (cel [.slice (some ⟨b, 0, none⟩) 47 47, .slice none 0 0])) := hdx
  have HQ9 : Hid (OwnRow (((w1.alloc (.cells #[.slice (some ⟨b, 0, none⟩) 47 47, .slice none 0 0] 33)).alloc (.cells #[.int .i64 7, .int .i64 x] 2)).setCell ⟨b, 0, none⟩ (.slice (some ⟨w1.heap.size + 1, 0, none⟩) 2 2)) b 47 (fun c => if c = 0 then (.slice (some ⟨w1.heap.size + 1, 0, none⟩) 2 2) else .slice none 0 0)) := hq.set 0 (.slice (some ⟨w1.heap.size + 1, 0, none⟩) 2 2)
  have HBLX : Hid (b < w1.heap.size) := hbl
  clear hox HSX hbx hb hrx hdx HS2 hq hbl
  go_wp2_with fail
  clear hq0 hq1 hqa hqb
  generalize (((w1.alloc (.cells #[.slice (some ⟨b, 0, none⟩) 47 47, .slice none 0 0] 33)).alloc (.cells #[.int .i64 7, .int .i64 x] 2)).setCell ⟨b, 0, none⟩ (.slice (some ⟨w1.heap.size + 1, 0, none⟩) 2 2)) = w3 at *
  clear hds HRB2
  have d0 : w3.cell? ⟨w1.heap.size, 0, none⟩ = some (.slice (some ⟨b, 0, none⟩) 47 47) := HD9.out.cell (i := 0) (by omega)
  go_region_with (first
    | (go_at_call 46; refine (HPK.out _).mono ?_; rintro e w4 ⟨v, rfl, hb, hw⟩; obtain ⟨av, cv, rfl⟩ := hw.shape
       have HT : Hid (Below w3.heap.size w3 w4) := (Below.refl _ _).drew.trans hb
       have HWI : Hid (IntsO w4 (.slice av 4 cv) [2, 0, 0, 0] (fresh w3 w4)) := hw.own' (w0 := w3) (Nat.le_refl _)
       have d1 := (HD9.out.later HT.out).cell (i := 0) (by omega)
       have q0 := (HQ9.out.later HT.out).cell (i := 17) (by omega)
       have q1 := (HQ9.out.later HT.out).frozen 17
       replace d1 : w4.cell? ⟨w1.heap.size, 0, none⟩ = some (.slice (some ⟨b, 0, none⟩) 47 47) := d1
       replace q0 : w4.cell? ⟨b, 17, none⟩ = some (.slice none 0 0) := q0
       clear hb hw))
  all_goals
    have HSX := IntsSO.set HS4.out (x := 17) (by rw [fmt1_len]; omega) HT.out (fun c hc => hc.2.1) HWI.out
    have HS5 : Hid (IntsSO (w4.setCell ⟨b, 17, none⟩ (.slice av 4 cv)) (.slice (some ⟨b, 0, none⟩) 47 47) (fmtB x) (fun c => w.heap.size < c ∧ c < w4.heap.size ∧ c ≠ w1.heap.size)) := HSX.mono fun c hc => by
      have := HT.out.size
      have := HD9.out.lt
      have := HR9.out.lt
      rcases hc with hc | hc
      · exact ⟨hc.1, by have := hc.2.1; omega, hc.2.2⟩
      · have h1 := hc.1; have h2 := hc.2; exact ⟨by omega, h2, by omega⟩
    have hrx := (HR9.out.later HT.out).store (p := ⟨b, 17, none⟩) (by show w.heap.size ≠ b; omega) (.slice av 4 cv)
    have hdx := (HD9.out.later HT.out).store (p := ⟨b, 17, none⟩) (by show w1.heap.size ≠ b; have := HBLX.out; omega) (.slice av 4 cv)
    have HB5 : Hid (Below w.heap.size w (w4.setCell ⟨b, 17, none⟩ (.slice av 4 cv))) := (HB9.out.trans (HT.out.mono HB9.out.size)).setCell (by show w.heap.size ≤ b; omega) _
    have t0 : (w4.setCell ⟨b, 17, none⟩ (.slice av 4 cv)).cell? ⟨w.heap.size, 0, none⟩ = some (.slice none 0 0) := hrx.cell (i := 0) (by omega)
    have t1 : (w4.setCell ⟨b, 17, none⟩ (.slice av 4 cv)).cell? ⟨w.heap.size, 1, none⟩ = some (.slice none 0 0) := hrx.cell (i := 1) (by omega)
    have f0 := hrx.frozen 0
    have f1 := hrx.frozen 1
    have y0 : (w4.setCell ⟨b, 17, none⟩ (.slice av 4 cv)).cell? ⟨w1.heap.size, 0, none⟩ = some (.slice (some ⟨b, 0, none⟩) 47 47) := hdx.cell (i := 0) (by omega)
    have y1 : (w4.setCell ⟨b, 17, none⟩ (.slice av 4 cv)).cell? ⟨w1.heap.size, 1, none⟩ = some (.slice none 0 0) := hdx.cell (i := 1) (by omega)
    have hsz5 : (w4.setCell ⟨b, 17, none⟩ (.slice av 4 cv)).heap.size = w4.heap.size := by simp [World.setCell]
    rw [← hsz5] at HS5
    clear HSX hrx hdx hsz5 HT HWI HD9 HQ9 HR9 HS4
    go_wp2_with fail
    generalize w4.setCell ⟨b, 17, none⟩ (.slice av 4 cv) = w5 at *
    clear q0 q1 d1
    go_wp2
    refine bodyPost_ret (v := .agg #[.slice (some ⟨b, 0, none⟩) 47 47, .slice none 0 0]) (by simp [results, Tryz.results21, go_sem, t0, t1]) rfl ⟨b, rfl, (HB5.out.setCell (by simp) _).setCell (by simp) _, ?_⟩
    refine (HS5.out.keep fun c hc _ => ?_).mono fun c hc => ⟨by omega, by simpa [World.setCell] using hc.2.1⟩
    have hne : c ≠ w.heap.size := by omega
    rw [Below.heap_setCell _ _ _ _ hne, Below.heap_setCell _ _ _ _ hne]

set_option maxHeartbeats 3200000 in
theorem specFormU (w : World) (x : Int) :
    Calls Tryz.prog 9 #[.int .i64 x] w (AnsDR w (formR x)) := by
  have HRA : Hid (seqB x = true → formR x = (0, fmtB x, [])) := fun h => by unfold formR; rw [if_pos h]
  have HRB : Hid (seqB x = false → formR x = (3, [], [])) := fun h => by unfold formR; rw [if_neg (by rw [h]; simp)]
  have HSQ : Hid (∀ W, Calls Tryz.prog 20 #[.int .i64 x] W fun e w' => e = .returned (.bool (seqB x)) ∧ w' = W) := fun W => l12Seq_any W x
  generalize formR x = RES at *
  generalize seqB x = sb at *
  have HB0 : Hid (Below w.heap.size w (w.alloc (.cells #[.int .i64 0, .slice none 0 0, .slice none 0 0] 43))) := later1 _ _
  have HR0 : Hid (OwnRow (w.alloc (.cells #[.int .i64 0, .slice none 0 0, .slice none 0 0] 43)) (w.heap.size) 3 (cel [.int .i64 0, .slice none 0 0, .slice none 0 0])) := newCel w [.int .i64 0, .slice none 0 0, .slice none 0 0] _
  go_enter Tryz.func9, Tryz.ntmps9
  go_wp2_with fail
  refine (HSQ.out _).mono ?_
  rintro e wq ⟨rfl, hq0⟩
  subst wq
  cases sb with
  | false =>
    have HE : Hid (RES = (3, [], [])) := HRB.out rfl
    have hrr := HR0.out
    have t0 : (w.alloc (.cells #[.int .i64 0, .slice none 0 0, .slice none 0 0] 43)).cell? ⟨w.heap.size, 0, none⟩ = some (.int .i64 0) := hrr.cell (i := 0) (by omega)
    have t1 : (w.alloc (.cells #[.int .i64 0, .slice none 0 0, .slice none 0 0] 43)).cell? ⟨w.heap.size, 1, none⟩ = some (.slice none 0 0) := hrr.cell (i := 1) (by omega)
    have t2 : (w.alloc (.cells #[.int .i64 0, .slice none 0 0, .slice none 0 0] 43)).cell? ⟨w.heap.size, 2, none⟩ = some (.slice none 0 0) := hrr.cell (i := 2) (by omega)
    have f0 := hrr.frozen 0
    have f1 := hrr.frozen 1
    have f2 := hrr.frozen 2
    have hlr := hrr.lt
    clear hrr
    go_wp2
    exact bodyPost_ret (v := .agg #[.int .i64 3, .slice none 0 0, .slice none 0 0]) (by simp [results, Tryz.results9, go_sem]) rfl (by rw [HE.out]; exact AnsDisk.uni (ans_bad (later1 _ _) 3))
  | true =>
    have HE : Hid (RES = (0, fmtB x, [])) := HRA.out rfl
    go_wp2_with fail
    refine (l12Format_any _ x).mono ?_
    rintro e w1 ⟨b, rfl, hb, ho⟩
    have HS : Hid (IntsSO w1 (.slice (some ⟨b, 0, none⟩) 47 47) (fmtB x) (fun c => w.heap.size < c ∧ c < w1.heap.size)) := ho.mono fun c hc => ⟨by have := hc.1; simp at this; omega, hc.2⟩
    clear ho
    have HB1 : Hid (Below w.heap.size w w1) := HB0.out.trans (hb.mono HB0.out.size)
    have HR1 : Hid (OwnRow w1 (w.heap.size) 3 (cel [.int .i64 0, .slice none 0 0, .slice none 0 0])) := HR0.out.later hb
    clear hb
    have hrr := HR1.out
    have t0 : w1.cell? ⟨w.heap.size, 0, none⟩ = some (.int .i64 0) := hrr.cell (i := 0) (by omega)
    have t1 : w1.cell? ⟨w.heap.size, 1, none⟩ = some (.slice none 0 0) := hrr.cell (i := 1) (by omega)
    have t2 : w1.cell? ⟨w.heap.size, 2, none⟩ = some (.slice none 0 0) := hrr.cell (i := 2) (by omega)
    have f0 := hrr.frozen 0
    have f1 := hrr.frozen 1
    have f2 := hrr.frozen 2
    have hlr := hrr.lt
    clear hrr
    go_wp2
    exact bodyPost_ret (v := .agg #[.int .i64 0, .slice (some ⟨b, 0, none⟩) 47 47, .slice none 0 0]) (by simp [results, Tryz.results9, go_sem, t0, t1, t2]) rfl (by rw [HE.out]; exact ans_fmt HB1.out (Nat.le_refl _) HS.out (fun c hc => ⟨by omega, hc.2, by omega⟩) _ _ _)

theorem formR_span (x : Int) : spanDisk (formR x).2 ≤ 100 := by
  unfold formR
  by_cases h : seqB x = true
  · rw [if_pos h]
    have : spanDisk (fmtB x, []) = 6 := rfl
    show spanDisk (fmtB x, []) ≤ 100
    omega
  · rw [if_neg h]
    have : spanDisk ([], []) = 0 := rfl
    show spanDisk ([], []) ≤ 100
    omega

end Go.Proofs.YtlacppjlclfpmaaGreat

namespace Go.Proofs.YtlacppjlclfpmaaGreat
open Go.RowKit
set_option maxRecDepth 100000

def AnsWR (w : World) (r : Int × WRD) (e : Ending) (w' : World) : Prop := ∃ z0 z1 z2 a1 n1 c1 a2 n2 c2 a3 n3 c3 a4 n4 c4 a5 n5 c5 a6 n6 c6 a7 n7 c7 a8 n8 c8 a9 n9 c9 a10 n10 c10, e = .returned (.agg #[.int .i64 r.1, .int .i64 z0, .int .i64 z1, .int .i64 z2, .slice a1 n1 c1, .slice a2 n2 c2, .slice a3 n3 c3, .slice a4 n4 c4, .slice a5 n5 c5, .slice a6 n6 c6, .slice a7 n7 c7, .slice a8 n8 c8, .slice a9 n9 c9, .slice a10 n10 c10]) ∧ Below w.heap.size w w' ∧ WrsU w' (.int .i64 z0) (.int .i64 z1) (.int .i64 z2) (.slice a1 n1 c1) (.slice a2 n2 c2) (.slice a3 n3 c3) (.slice a4 n4 c4) (.slice a5 n5 c5) (.slice a6 n6 c6) (.slice a7 n7 c7) (.slice a8 n8 c8) (.slice a9 n9 c9) (.slice a10 n10 c10) r.2 (fresh w w')
theorem blk14 {W : World} {rb : Nat} {b : Nat} (h : b ≠ rb) (x0 x1 x2 x3 x4 x5 x6 x7 x8 x9 x10 x11 x12 x13 : Value) : ((((((((((((((W.setCell ⟨rb, 0, none⟩ x0).setCell ⟨rb, 1, none⟩ x1).setCell ⟨rb, 2, none⟩ x2).setCell ⟨rb, 3, none⟩ x3).setCell ⟨rb, 4, none⟩ x4).setCell ⟨rb, 5, none⟩ x5).setCell ⟨rb, 6, none⟩ x6).setCell ⟨rb, 7, none⟩ x7).setCell ⟨rb, 8, none⟩ x8).setCell ⟨rb, 9, none⟩ x9).setCell ⟨rb, 10, none⟩ x10).setCell ⟨rb, 11, none⟩ x11).setCell ⟨rb, 12, none⟩ x12).setCell ⟨rb, 13, none⟩ x13).heap[b]? = W.heap[b]? := by
  rw [Below.heap_setCell _ _ _ _ h, Below.heap_setCell _ _ _ _ h, Below.heap_setCell _ _ _ _ h, Below.heap_setCell _ _ _ _ h, Below.heap_setCell _ _ _ _ h, Below.heap_setCell _ _ _ _ h, Below.heap_setCell _ _ _ _ h, Below.heap_setCell _ _ _ _ h, Below.heap_setCell _ _ _ _ h, Below.heap_setCell _ _ _ _ h, Below.heap_setCell _ _ _ _ h, Below.heap_setCell _ _ _ _ h, Below.heap_setCell _ _ _ _ h, Below.heap_setCell _ _ _ _ h]
theorem below14 {w W : World} {rb : Nat} (hB : Below w.heap.size w W) (hrb : w.heap.size ≤ rb) (x0 x1 x2 x3 x4 x5 x6 x7 x8 x9 x10 x11 x12 x13 : Value) : Below w.heap.size w ((((((((((((((W.setCell ⟨rb, 0, none⟩ x0).setCell ⟨rb, 1, none⟩ x1).setCell ⟨rb, 2, none⟩ x2).setCell ⟨rb, 3, none⟩ x3).setCell ⟨rb, 4, none⟩ x4).setCell ⟨rb, 5, none⟩ x5).setCell ⟨rb, 6, none⟩ x6).setCell ⟨rb, 7, none⟩ x7).setCell ⟨rb, 8, none⟩ x8).setCell ⟨rb, 9, none⟩ x9).setCell ⟨rb, 10, none⟩ x10).setCell ⟨rb, 11, none⟩ x11).setCell ⟨rb, 12, none⟩ x12).setCell ⟨rb, 13, none⟩ x13) := by
  have h0 := hB
  have h1 := h0.setCell (p := ⟨rb, 0, none⟩) hrb x0
  have h2 := h1.setCell (p := ⟨rb, 1, none⟩) hrb x1
  have h3 := h2.setCell (p := ⟨rb, 2, none⟩) hrb x2
  have h4 := h3.setCell (p := ⟨rb, 3, none⟩) hrb x3
  have h5 := h4.setCell (p := ⟨rb, 4, none⟩) hrb x4
  have h6 := h5.setCell (p := ⟨rb, 5, none⟩) hrb x5
  have h7 := h6.setCell (p := ⟨rb, 6, none⟩) hrb x6
  have h8 := h7.setCell (p := ⟨rb, 7, none⟩) hrb x7
  have h9 := h8.setCell (p := ⟨rb, 8, none⟩) hrb x8
  have h10 := h9.setCell (p := ⟨rb, 9, none⟩) hrb x9
  have h11 := h10.setCell (p := ⟨rb, 10, none⟩) hrb x10
  have h12 := h11.setCell (p := ⟨rb, 11, none⟩) hrb x11
  have h13 := h12.setCell (p := ⟨rb, 12, none⟩) hrb x12
  have h14 := h13.setCell (p := ⟨rb, 13, none⟩) hrb x13
  exact h14
theorem AnsWR.put {w W : World} {rb : Nat} {r : Int} {d : WRD} {z0 z1 z2 : Int} {a1 : Option Addr} {n1 c1 : Nat} {a2 : Option Addr} {n2 c2 : Nat} {a3 : Option Addr} {n3 c3 : Nat} {a4 : Option Addr} {n4 c4 : Nat} {a5 : Option Addr} {n5 c5 : Nat} {a6 : Option Addr} {n6 c6 : Nat} {a7 : Option Addr} {n7 c7 : Nat} {a8 : Option Addr} {n8 c8 : Nat} {a9 : Option Addr} {n9 c9 : Nat} {a10 : Option Addr} {n10 c10 : Nat} (hB : Below w.heap.size w W) (hrb : w.heap.size ≤ rb) (hY : WrsU W (.int .i64 z0) (.int .i64 z1) (.int .i64 z2) (.slice a1 n1 c1) (.slice a2 n2 c2) (.slice a3 n3 c3) (.slice a4 n4 c4) (.slice a5 n5 c5) (.slice a6 n6 c6) (.slice a7 n7 c7) (.slice a8 n8 c8) (.slice a9 n9 c9) (.slice a10 n10 c10) d (fun b => rb < b ∧ b < W.heap.size)) (x0 x1 x2 x3 x4 x5 x6 x7 x8 x9 x10 x11 x12 x13 : Value) : AnsWR w (r, d) (.returned (.agg #[.int .i64 r, .int .i64 z0, .int .i64 z1, .int .i64 z2, .slice a1 n1 c1, .slice a2 n2 c2, .slice a3 n3 c3, .slice a4 n4 c4, .slice a5 n5 c5, .slice a6 n6 c6, .slice a7 n7 c7, .slice a8 n8 c8, .slice a9 n9 c9, .slice a10 n10 c10])) ((((((((((((((W.setCell ⟨rb, 0, none⟩ x0).setCell ⟨rb, 1, none⟩ x1).setCell ⟨rb, 2, none⟩ x2).setCell ⟨rb, 3, none⟩ x3).setCell ⟨rb, 4, none⟩ x4).setCell ⟨rb, 5, none⟩ x5).setCell ⟨rb, 6, none⟩ x6).setCell ⟨rb, 7, none⟩ x7).setCell ⟨rb, 8, none⟩ x8).setCell ⟨rb, 9, none⟩ x9).setCell ⟨rb, 10, none⟩ x10).setCell ⟨rb, 11, none⟩ x11).setCell ⟨rb, 12, none⟩ x12).setCell ⟨rb, 13, none⟩ x13) :=
  ⟨z0, z1, z2, a1, n1, c1, a2, n2, c2, a3, n3, c3, a4, n4, c4, a5, n5, c5, a6, n6, c6, a7, n7, c7, a8, n8, c8, a9, n9, c9, a10, n10, c10, rfl, below14 hB hrb x0 x1 x2 x3 x4 x5 x6 x7 x8 x9 x10 x11 x12 x13, (hY.keep fun b hb _ => blk14 (by have := hb.1; omega) x0 x1 x2 x3 x4 x5 x6 x7 x8 x9 x10 x11 x12 x13).mono fun b hb => ⟨by omega, by have h2 := (below14 (Below.refl W.heap.size W) (rb := W.heap.size) (Nat.le_refl _) x0 x1 x2 x3 x4 x5 x6 x7 x8 x9 x10 x11 x12 x13).size; simpa [World.setCell] using hb.2⟩⟩
/-- What a world that is none has. -/
def noCCD : CCD := (0, 0, 0, [], [], [], [])
def noWrs : WRD := (noCCD, ([], []), ([], []), ([], []))
theorem CCU.none' (w : World) (F : Nat → Prop) : CCU w (.int .i64 0) (.int .i64 0) (.int .i64 0) (.slice none 0 0) (.slice none 0 0) (.slice none 0 0) (.slice none 0 0) noCCD F :=
  ⟨rfl, ⟨rfl, rfl⟩, fun _ => False, fun _ => False, fun _ => False, Or.inl ⟨rfl, _, _, rfl⟩, Or.inl ⟨rfl, _, _, rfl⟩, ⟨fun _ => False, fun _ => False, Or.inl ⟨rfl, _, _, rfl⟩, Or.inl ⟨rfl, _, _, rfl⟩, fun _ h => h.elim, fun _ h => h.elim id id⟩, fun _ h => h.elim, fun _ h => h.elim, fun _ h => h.elim False.elim fun h => h.elim False.elim False.elim⟩
theorem WrsU.none' (w : World) (F : Nat → Prop) : WrsU w (.int .i64 0) (.int .i64 0) (.int .i64 0) (.slice none 0 0) (.slice none 0 0) (.slice none 0 0) (.slice none 0 0) (.slice none 0 0) (.slice none 0 0) (.slice none 0 0) (.slice none 0 0) (.slice none 0 0) (.slice none 0 0) noWrs F :=
  ⟨fun _ => False, fun _ => False, CCU.none' w _, ⟨fun _ => False, fun _ => False, fun _ => False, ⟨fun _ => False, fun _ => False, Or.inl ⟨rfl, _, _, rfl⟩, Or.inl ⟨rfl, _, _, rfl⟩, fun _ h => h.elim, fun _ h => h.elim id id⟩, ⟨fun _ => False, fun _ => False, Or.inl ⟨rfl, _, _, rfl⟩, Or.inl ⟨rfl, _, _, rfl⟩, fun _ h => h.elim, fun _ h => h.elim id id⟩, ⟨fun _ => False, fun _ => False, Or.inl ⟨rfl, _, _, rfl⟩, Or.inl ⟨rfl, _, _, rfl⟩, fun _ h => h.elim, fun _ h => h.elim id id⟩, fun _ h => h.elim, fun _ h => h.elim, fun _ h => h.elim, fun _ h => h.elim id fun h => h.elim id id⟩, fun _ h => h.elim, fun _ h => h.elim False.elim False.elim⟩
/-- NewWorld: its code and its world. -/
def newWR (x : Int) : Int × WRD := if (formR x).1 = 0 then (0, noCCD, (formR x).2, newFd [], newFd []) else ((formR x).1, noWrs)
theorem newF_ok : fsF (newFd []) = 0 := by decide +kernel
theorem newFR_ok : newFR [] = (0, newFd []) := by unfold newFR; rw [if_pos newF_ok]
set_option maxHeartbeats 1600000 in
theorem l6New_any (w : World) : Calls Tryz.prog 10 #[] w fun e w' => ∃ a1 n1 c1 a2 n2 c2, e = .returned (.agg #[.slice a1 n1 c1, .slice a2 n2 c2]) ∧ Below w.heap.size w w' ∧ FsU w' (.slice a1 n1 c1) (.slice a2 n2 c2) (newFd []) (fresh w w') := by
  have hmk : ∀ W : World, (Instr.makeSlice 25 (.int .i64 20) (.int .i64 20)).run Tryz.prog W = .ok (.slice (some ⟨W.heap.size, 0, none⟩) 20 20) (W.alloc (.cells (madeCells #[.slice none 0 0] 20) 22)) := fun W => run_make_row' (P := Tryz.prog) 25 22 (.slice none 0 0) 24 Tryz.underlying25 Tryz.infoU8s rfl .i64 .i64 20 (by omega) (by omega) W
  go_enter Tryz.func10, Tryz.ntmps10
  go_wp2
  have hr1 : OwnRow (((w.alloc (.cells #[.slice (some ⟨w.heap.size + 1, 0, none⟩) 1 1, .slice (some ⟨w.heap.size + 1 + 1, 0, none⟩) 20 20] 27)).alloc (.cells #[.int .i64 2, .int .i64 0, .int .i64 0, .slice none 0 0, .slice none 0 0] 58)).alloc (.cells (madeCells #[.slice none 0 0] 20) 22)) (w.heap.size + 1) 5 topRow := by
    have := (rowV (w.alloc (.cells #[.slice (some ⟨w.heap.size + 1, 0, none⟩) 1 1, .slice (some ⟨w.heap.size + 1 + 1, 0, none⟩) 20 20] 27)) topL 58).later (later1 _ (.cells (madeCells #[.slice none 0 0] 20) 22))
    rw [World.heap_size_alloc'] at this
    exact this.congr fun i hi => by match i, hi with
      | 0, _ => rfl
      | 1, _ => rfl
      | 2, _ => rfl
      | 3, _ => rfl
      | 4, _ => rfl
  have hr2 : OwnRow (((w.alloc (.cells #[.slice (some ⟨w.heap.size + 1, 0, none⟩) 1 1, .slice (some ⟨w.heap.size + 1 + 1, 0, none⟩) 20 20] 27)).alloc (.cells #[.int .i64 2, .int .i64 0, .int .i64 0, .slice none 0 0, .slice none 0 0] 58)).alloc (.cells (madeCells #[.slice none 0 0] 20) 22)) (w.heap.size + 1 + 1) 20 (fun _ => .slice none 0 0) := by
    have := OwnRow.made ((w.alloc (.cells #[.slice (some ⟨w.heap.size + 1, 0, none⟩) 1 1, .slice (some ⟨w.heap.size + 1 + 1, 0, none⟩) 20 20] 27)).alloc (.cells #[.int .i64 2, .int .i64 0, .int .i64 0, .slice none 0 0, .slice none 0 0] 58)) (.slice none 0 0) 20 22
    rw [World.heap_size_alloc', World.heap_size_alloc'] at this
    exact this
  have hp : ∀ i : Nat, (padY [])[i]?.getD [] = [] := fun i => by
    unfold padY
    rw [List.nil_append, List.getElem?_replicate]
    split <;> rfl
  have hu : FsU (((w.alloc (.cells #[.slice (some ⟨w.heap.size + 1, 0, none⟩) 1 1, .slice (some ⟨w.heap.size + 1 + 1, 0, none⟩) 20 20] 27)).alloc (.cells #[.int .i64 2, .int .i64 0, .int .i64 0, .slice none 0 0, .slice none 0 0] 58)).alloc (.cells (madeCells #[.slice none 0 0] 20) 22)) (.slice (some ⟨w.heap.size + 1, 0, none⟩) 1 1) (.slice (some ⟨w.heap.size + 1 + 1, 0, none⟩) 20 20) (newFd []) (fun b => w.heap.size < b ∧ b < w.heap.size + 1 + 1 + 1) :=
    ⟨fun b => b = w.heap.size + 1, fun b => b = w.heap.size + 1 + 1, InosO.top hr1 _ rfl, Or.inr ⟨_, 20, fun _ => .slice none 0 0, fun _ _ => False, rfl, fun _ _ h => h.elim, fun _ _ _ _ h => h.elim, rfl, ⟨by show 20 ≤ maxLen; unfold maxLen; omega, Nat.le_refl _⟩, hr2, fun i _ => by show BytO _ _ ((padY [])[i]?.getD []) _; rw [hp i]; exact Or.inl ⟨rfl, _, _, rfl⟩⟩, fun b h1 h2 => by omega, fun b h => by omega⟩
  exact bodyPost_ret (v := .agg #[.slice (some ⟨w.heap.size + 1, 0, none⟩) 1 1, .slice (some ⟨w.heap.size + 1 + 1, 0, none⟩) 20 20]) (by simp [results, Tryz.results10, go_sem]) rfl ⟨_, _, _, _, _, _, rfl, (later2 _ _ _).trans ((later1 _ _).mono (by simp; omega)), hu.mono fun b hb => ⟨by omega, by simp; omega⟩⟩

theorem later3w (W : World) (o1 o2 o3 : Obj) : Below W.heap.size W (((W.alloc o1).alloc o2).alloc o3) := (later2 _ _ _).trans ((later1 _ _).mono (by simp; omega))
theorem below6 {w W : World} {rb : Nat} (hB : Below w.heap.size w W) (hrb : w.heap.size ≤ rb) (x0 x1 x2 x3 x4 x5 : Value) : Below w.heap.size w ((((((W.setCell ⟨rb, 0, none⟩ x0).setCell ⟨rb, 1, none⟩ x1).setCell ⟨rb, 2, none⟩ x2).setCell ⟨rb, 3, none⟩ x3).setCell ⟨rb, 4, none⟩ x4).setCell ⟨rb, 5, none⟩ x5) :=
  (((((hB.setCell hrb _).setCell hrb _).setCell hrb _).setCell hrb _).setCell hrb _).setCell hrb _
theorem blk6 {W : World} {rb : Nat} {b : Nat} (h : b ≠ rb) (x0 x1 x2 x3 x4 x5 : Value) : ((((((W.setCell ⟨rb, 0, none⟩ x0).setCell ⟨rb, 1, none⟩ x1).setCell ⟨rb, 2, none⟩ x2).setCell ⟨rb, 3, none⟩ x3).setCell ⟨rb, 4, none⟩ x4).setCell ⟨rb, 5, none⟩ x5).heap[b]? = W.heap[b]? := by
  rw [Below.heap_setCell _ _ _ _ h, Below.heap_setCell _ _ _ _ h, Below.heap_setCell _ _ _ _ h, Below.heap_setCell _ _ _ _ h, Below.heap_setCell _ _ _ _ h, Below.heap_setCell _ _ _ _ h]
set_option maxHeartbeats 3200000 in
theorem worldOf_any (w : World) (a1 : Option Addr) (n1 c1 : Nat) (a2 : Option Addr) (n2 c2 : Nat) (a3 : Option Addr) (n3 c3 : Nat) (a4 : Option Addr) (n4 c4 : Nat) (a5 : Option Addr) (n5 c5 : Nat) (a6 : Option Addr) (n6 c6 : Nat) (l k : FD) (hl : FsR w (.slice a3 n3 c3) (.slice a4 n4 c4) l) (hk : FsR w (.slice a5 n5 c5) (.slice a6 n6 c6) k) (hls : sizeFs l ≤ 1048576) (hks : sizeFs k ≤ 1048576) (hl6 : l.2.length ≤ 60) (hk6 : k.2.length ≤ 60) :
    Calls Tryz.prog 13 #[.agg #[.slice a1 n1 c1, .slice a2 n2 c2], .agg #[.slice a3 n3 c3, .slice a4 n4 c4], .agg #[.slice a5 n5 c5, .slice a6 n6 c6]] w fun e w' => ∃ b3 m3 d3 b4 m4 d4 b5 m5 d5 b6 m6 d6, e = .returned (.agg #[.slice a1 n1 c1, .slice a2 n2 c2, .slice b3 m3 d3, .slice b4 m4 d4, .slice b5 m5 d5, .slice b6 m6 d6]) ∧ Below w.heap.size w w' ∧ ∃ F1 F2 : Nat → Prop, FsU w' (.slice b3 m3 d3) (.slice b4 m4 d4) l F1 ∧ FsU w' (.slice b5 m5 d5) (.slice b6 m6 d6) k F2 ∧ (∀ b, F1 b → ¬ F2 b) ∧ (∀ b, F1 b ∨ F2 b → w.heap.size ≤ b ∧ b < w'.heap.size) := by
  have HCL : Hid (∀ W, Below w.heap.size w W → Calls Tryz.prog 31 #[.agg #[.slice a3 n3 c3, .slice a4 n4 c4]] W (AnsFs W l)) := fun W hW => copyOfFs_any W _ _ _ _ _ _ l (hl.later hW) hls hl6
  have HCK : Hid (∀ W, Below w.heap.size w W → Calls Tryz.prog 31 #[.agg #[.slice a5 n5 c5, .slice a6 n6 c6]] W (AnsFs W k)) := fun W hW => copyOfFs_any W _ _ _ _ _ _ k (hk.later hW) hks hk6
  clear hl hk hls hks hl6 hk6
  have HB0 : Hid (Below w.heap.size w ((((w.alloc (.cells #[.slice a1 n1 c1, .slice a2 n2 c2] 33)).alloc (.cells #[.slice a3 n3 c3, .slice a4 n4 c4] 27)).alloc (.cells #[.slice a5 n5 c5, .slice a6 n6 c6] 27)).alloc (.cells #[.slice none 0 0, .slice none 0 0, .slice none 0 0, .slice none 0 0, .slice none 0 0, .slice none 0 0] 35))) := (later3w _ _ _ _).trans ((later1 _ _).mono (by simp <;> omega))
  have HX0 : Hid (Bx ((((w.alloc (.cells #[.slice a1 n1 c1, .slice a2 n2 c2] 33)).alloc (.cells #[.slice a3 n3 c3, .slice a4 n4 c4] 27)).alloc (.cells #[.slice a5 n5 c5, .slice a6 n6 c6] 27)).alloc (.cells #[.slice none 0 0, .slice none 0 0, .slice none 0 0, .slice none 0 0, .slice none 0 0, .slice none 0 0] 35)) (w.heap.size) [.slice a1 n1 c1, .slice a2 n2 c2]) := (Bx.new w [.slice a1 n1 c1, .slice a2 n2 c2] _).later (later3w _ _ _ _)
  have HL0 : Hid (Bx ((((w.alloc (.cells #[.slice a1 n1 c1, .slice a2 n2 c2] 33)).alloc (.cells #[.slice a3 n3 c3, .slice a4 n4 c4] 27)).alloc (.cells #[.slice a5 n5 c5, .slice a6 n6 c6] 27)).alloc (.cells #[.slice none 0 0, .slice none 0 0, .slice none 0 0, .slice none 0 0, .slice none 0 0, .slice none 0 0] 35)) (w.heap.size + 1) [.slice a3 n3 c3, .slice a4 n4 c4]) := ((show Bx ((w.alloc (.cells #[.slice a1 n1 c1, .slice a2 n2 c2] 33)).alloc (.cells #[.slice a3 n3 c3, .slice a4 n4 c4] 27)) (w.heap.size + 1) [.slice a3 n3 c3, .slice a4 n4 c4] from by have := Bx.new (w.alloc (.cells #[.slice a1 n1 c1, .slice a2 n2 c2] 33)) [.slice a3 n3 c3, .slice a4 n4 c4] 27; rw [World.size_alloc] at this; exact this)).later (later2 _ _ _)
  have HK0 : Hid (Bx ((((w.alloc (.cells #[.slice a1 n1 c1, .slice a2 n2 c2] 33)).alloc (.cells #[.slice a3 n3 c3, .slice a4 n4 c4] 27)).alloc (.cells #[.slice a5 n5 c5, .slice a6 n6 c6] 27)).alloc (.cells #[.slice none 0 0, .slice none 0 0, .slice none 0 0, .slice none 0 0, .slice none 0 0, .slice none 0 0] 35)) (w.heap.size + 2) [.slice a5 n5 c5, .slice a6 n6 c6]) := ((show Bx (((w.alloc (.cells #[.slice a1 n1 c1, .slice a2 n2 c2] 33)).alloc (.cells #[.slice a3 n3 c3, .slice a4 n4 c4] 27)).alloc (.cells #[.slice a5 n5 c5, .slice a6 n6 c6] 27)) (w.heap.size + 2) [.slice a5 n5 c5, .slice a6 n6 c6] from by have := Bx.new ((w.alloc (.cells #[.slice a1 n1 c1, .slice a2 n2 c2] 33)).alloc (.cells #[.slice a3 n3 c3, .slice a4 n4 c4] 27)) [.slice a5 n5 c5, .slice a6 n6 c6] 27; simp only [World.size_alloc, Nat.add_assoc] at this; exact this)).later (later1 _ _)
  have HR0 : Hid (OwnRow ((((w.alloc (.cells #[.slice a1 n1 c1, .slice a2 n2 c2] 33)).alloc (.cells #[.slice a3 n3 c3, .slice a4 n4 c4] 27)).alloc (.cells #[.slice a5 n5 c5, .slice a6 n6 c6] 27)).alloc (.cells #[.slice none 0 0, .slice none 0 0, .slice none 0 0, .slice none 0 0, .slice none 0 0, .slice none 0 0] 35)) (w.heap.size + 3) 6 (cel [.slice none 0 0, .slice none 0 0, .slice none 0 0, .slice none 0 0, .slice none 0 0, .slice none 0 0])) := (show OwnRow ((((w.alloc (.cells #[.slice a1 n1 c1, .slice a2 n2 c2] 33)).alloc (.cells #[.slice a3 n3 c3, .slice a4 n4 c4] 27)).alloc (.cells #[.slice a5 n5 c5, .slice a6 n6 c6] 27)).alloc (.cells #[.slice none 0 0, .slice none 0 0, .slice none 0 0, .slice none 0 0, .slice none 0 0, .slice none 0 0] 35)) (w.heap.size + 3) 6 (cel [.slice none 0 0, .slice none 0 0, .slice none 0 0, .slice none 0 0, .slice none 0 0, .slice none 0 0]) from by have := newCel (((w.alloc (.cells #[.slice a1 n1 c1, .slice a2 n2 c2] 33)).alloc (.cells #[.slice a3 n3 c3, .slice a4 n4 c4] 27)).alloc (.cells #[.slice a5 n5 c5, .slice a6 n6 c6] 27)) [.slice none 0 0, .slice none 0 0, .slice none 0 0, .slice none 0 0, .slice none 0 0, .slice none 0 0] 35; simp only [World.size_alloc, Nat.add_assoc] at this; exact this)
  go_enter Tryz.func13, Tryz.ntmps13
  have xHX0 := HX0.out 0 _ rfl
  have xHX1 := HX0.out 1 _ rfl
  have xHL0 := HL0.out 0 _ rfl
  have xHL1 := HL0.out 1 _ rfl
  have xHK0 := HK0.out 0 _ rfl
  have xHK1 := HK0.out 1 _ rfl
  go_wp2_with fail
  generalize ((((w.alloc (.cells #[.slice a1 n1 c1, .slice a2 n2 c2] 33)).alloc (.cells #[.slice a3 n3 c3, .slice a4 n4 c4] 27)).alloc (.cells #[.slice a5 n5 c5, .slice a6 n6 c6] 27)).alloc (.cells #[.slice none 0 0, .slice none 0 0, .slice none 0 0, .slice none 0 0, .slice none 0 0, .slice none 0 0] 35)) = W at *
  have xK0 : W.cell? ⟨w.heap.size + 1 + 1, 0, none⟩ = some (.slice a5 n5 c5) := xHK0
  have xK1 : W.cell? ⟨w.heap.size + 1 + 1, 1, none⟩ = some (.slice a6 n6 c6) := xHK1
  clear xHK0 xHK1
  go_region_with (first
    | (go_at_call_of 31 (Value.slice a3 n3 c3); refine (HCL.out _ HB0.out.drew).mono ?_; rintro e w1 ⟨b3, m3, d3, b4, m4, d4, rfl, hb1, ho1⟩
       have hb1' : Below W.heap.size W w1 := (Below.refl _ _).drew.trans hb1
       have y0 := cell_later hb1' xHX0
       have y1 := cell_later hb1' xHX1
       have y2 := cell_later hb1' xK0
       have y3 := cell_later hb1' xK1
       have HB1 : Hid (Below w.heap.size w w1) := HB0.out.trans (hb1'.mono HB0.out.size)
       have HS1 : Hid (W.heap.size ≤ w1.heap.size) := hb1'.size
       have HO1 : Hid (FsU w1 (.slice b3 m3 d3) (.slice b4 m4 d4) l (fun b => W.heap.size ≤ b ∧ b < w1.heap.size)) := ho1
       have HR1 : Hid (OwnRow w1 (w.heap.size + 1 + 1 + 1) 6 (cel [.slice none 0 0, .slice none 0 0, .slice none 0 0, .slice none 0 0, .slice none 0 0, .slice none 0 0])) := HR0.out.later hb1'
       clear hb1 hb1' ho1)
    | (go_at_call_of 31 (Value.slice a5 n5 c5); refine (HCK.out _ HB1.out).mono ?_; rintro e w2 ⟨b5, m5, d5, b6, m6, d6, rfl, hb2, ho2⟩
       have z0 := cell_later hb2 y0
       have z1 := cell_later hb2 y1
       have HB2 : Hid (Below w.heap.size w w2) := HB1.out.trans (hb2.mono HB1.out.size)
       have HS2 : Hid (w1.heap.size ≤ w2.heap.size) := hb2.size
       have HO2 : Hid (FsU w2 (.slice b5 m5 d5) (.slice b6 m6 d6) k (fun b => w1.heap.size ≤ b ∧ b < w2.heap.size)) := ho2
       have HO3 : Hid (FsU w2 (.slice b3 m3 d3) (.slice b4 m4 d4) l (fun b => W.heap.size ≤ b ∧ b < w1.heap.size)) := HO1.out.later hb2
       have hrr := HR1.out.later hb2
       have hlr := hrr.lt
       have t0 := hrr.cell (i := 0) (by omega)
       have t1 := hrr.cell (i := 1) (by omega)
       have t2 := hrr.cell (i := 2) (by omega)
       have t3 := hrr.cell (i := 3) (by omega)
       have t4 := hrr.cell (i := 4) (by omega)
       have t5 := hrr.cell (i := 5) (by omega)
       have f0 := hrr.frozen 0
       have f1 := hrr.frozen 1
       have f2 := hrr.frozen 2
       have f3 := hrr.frozen 3
       have f4 := hrr.frozen 4
       have f5 := hrr.frozen 5
       simp [cel] at t0 t1 t2 t3 t4 t5
       clear hb2 ho2 hrr))
  all_goals
    have hlw := HR0.out.lt
    have hlx := HR1.out.lt
    go_wp2
    refine bodyPost_ret (v := .agg #[.slice a1 n1 c1, .slice a2 n2 c2, .slice b3 m3 d3, .slice b4 m4 d4, .slice b5 m5 d5, .slice b6 m6 d6]) (by simp [results, Tryz.results13, go_sem, t0, t1, t2, t3, t4, t5]) rfl ⟨_, _, _, _, _, _, _, _, _, _, _, _, rfl, below6 HB2.out (by omega) _ _ _ _ _ _, _, _, HO3.out.keep fun b hb _ => blk6 (by have := hb.1; omega) _ _ _ _ _ _, HO2.out.keep fun b hb _ => blk6 (by have := hb.1; omega) _ _ _ _ _ _, fun b h1 h2 => ?_, fun b h => ?_⟩
    · omega
    · have hs := HS2.out
      have hw := HB0.out.size
      have hsz : ∀ (x0 x1 x2 x3 x4 x5 : Value), w2.heap.size ≤ ((((((w2.setCell ⟨w.heap.size + 1 + 1 + 1, 0, none⟩ x0).setCell ⟨w.heap.size + 1 + 1 + 1, 1, none⟩ x1).setCell ⟨w.heap.size + 1 + 1 + 1, 2, none⟩ x2).setCell ⟨w.heap.size + 1 + 1 + 1, 3, none⟩ x3).setCell ⟨w.heap.size + 1 + 1 + 1, 4, none⟩ x4).setCell ⟨w.heap.size + 1 + 1 + 1, 5, none⟩ x5).heap.size := fun _ _ _ _ _ _ => by simp [World.setCell]
      refine ⟨by omega, Nat.lt_of_lt_of_le (by omega) (hsz _ _ _ _ _ _)⟩

end Go.Proofs.YtlacppjlclfpmaaGreat
