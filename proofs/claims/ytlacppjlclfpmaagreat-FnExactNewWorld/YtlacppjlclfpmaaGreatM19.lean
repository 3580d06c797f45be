/- NewWorld, both sides. From the reading of an argument to the lists that it holds. No program is named here. What the rows of this seat share: how a disk that came in is opened. How disks and lists of bits that came in are opened, in the laws' one form. -/
import Derived.Test.YtlacppjlclfpmaaGreatM18
import Derived.Test.YtlacppjlclfpmaaGreatM00
import Derived.ProofKit
import Derived.Deep.Slices
import Derived.Deep.SlicePairs
import Derived.Lib.SmallJoins
import Derived.Test.YtlacppjlclfpmaaGreatRows
import Derived.Test.YtlacppjlclfpmaaGreatM02
import Derived.Test.YtlacppjlclfpmaaGreatM09
namespace Go.Proofs.YtlacppjlclfpmaaGreat
open Go.RowKit
set_option maxRecDepth 100000

theorem newF_size : sizeFs (newFd []) ≤ 1048576 := by decide +kernel
theorem newF_twenty : (newFd []).2.length ≤ 60 := by decide +kernel
theorem WrsU.of {W : World} {v7 v8 v9 v10 v11 v12 : Value} {d : DK} {l k : FD} {F F1 F2 G : Nat → Prop} (h0 : DiskU W v7 v8 d F) (h1 : FsU W v9 v10 l F1) (h2 : FsU W v11 v12 k F2) (d01 : ∀ b, F b → ¬ F1 b) (d02 : ∀ b, F b → ¬ F2 b) (d12 : ∀ b, F1 b → ¬ F2 b) (hF : ∀ b, F b ∨ F1 b ∨ F2 b → G b) :
    WrsU W (.int .i64 0) (.int .i64 0) (.int .i64 0) (.slice none 0 0) (.slice none 0 0) (.slice none 0 0) (.slice none 0 0) v7 v8 v9 v10 v11 v12 (noCCD, d, l, k) G :=
  ⟨fun _ => False, G, CCU.none' W _, ⟨F, F1, F2, h0, h1, h2, d01, d02, d12, hF⟩, fun _ h => h.elim, fun _ h => h.elim False.elim id⟩

set_option maxHeartbeats 6400000 in
theorem implNewWU (w : World) (x : Int) : Calls Tryz.prog 5 #[.int .i64 x] w (AnsWR w (newWR x)) := by
  have HF : Hid (∀ W, Calls Tryz.prog 11 #[.int .i64 x] W (AnsDR W ((formR x).1, (formR x).2))) := fun W => implFormU W x
  have HBAD : Hid (¬ (formR x).1 = 0 → newWR x = ((formR x).1, noWrs)) := fun h0 => by unfold newWR; rw [if_neg h0]
  have HOK : Hid ((formR x).1 = 0 → newWR x = (0, noCCD, (formR x).2, newFd [], newFd [])) := fun h0 => by unfold newWR; rw [if_pos h0]
  generalize (formR x).1 = r at *
  generalize (formR x).2 = d at *
  generalize newWR x = RES at *
  have HB0 : Hid (Below w.heap.size w (w.alloc (.cells #[.int .i64 0, .int .i64 0, .int .i64 0, .int .i64 0, .slice none 0 0, .slice none 0 0, .slice none 0 0, .slice none 0 0, .slice none 0 0, .slice none 0 0, .slice none 0 0, .slice none 0 0, .slice none 0 0, .slice none 0 0] 37))) := later1 _ _
  have HR0 : Hid (OwnRow (w.alloc (.cells #[.int .i64 0, .int .i64 0, .int .i64 0, .int .i64 0, .slice none 0 0, .slice none 0 0, .slice none 0 0, .slice none 0 0, .slice none 0 0, .slice none 0 0, .slice none 0 0, .slice none 0 0, .slice none 0 0, .slice none 0 0] 37)) (w.heap.size) 14 (cel [.int .i64 0, .int .i64 0, .int .i64 0, .int .i64 0, .slice none 0 0, .slice none 0 0, .slice none 0 0, .slice none 0 0, .slice none 0 0, .slice none 0 0, .slice none 0 0, .slice none 0 0, .slice none 0 0, .slice none 0 0])) := newCel w [.int .i64 0, .int .i64 0, .int .i64 0, .int .i64 0, .slice none 0 0, .slice none 0 0, .slice none 0 0, .slice none 0 0, .slice none 0 0, .slice none 0 0, .slice none 0 0, .slice none 0 0, .slice none 0 0, .slice none 0 0] _
  go_enter Tryz.func5, Tryz.ntmps5
  go_wp2_with fail
  refine (HF.out _).mono ?_
  rintro e w1 ⟨a1, n1, c1, a2, n2, c2, rfl, hb, ho⟩
  have HRL : Hid (w.heap.size < w1.heap.size) := by have := HR0.out.lt; have := hb.size; unfold Hid; omega
  have hb' : Below (w.alloc (.cells #[.int .i64 0, .int .i64 0, .int .i64 0, .int .i64 0, .slice none 0 0, .slice none 0 0, .slice none 0 0, .slice none 0 0, .slice none 0 0, .slice none 0 0, .slice none 0 0, .slice none 0 0, .slice none 0 0, .slice none 0 0] 37)).heap.size (w.alloc (.cells #[.int .i64 0, .int .i64 0, .int .i64 0, .int .i64 0, .slice none 0 0, .slice none 0 0, .slice none 0 0, .slice none 0 0, .slice none 0 0, .slice none 0 0, .slice none 0 0, .slice none 0 0, .slice none 0 0, .slice none 0 0] 37)) (w1.alloc (.cells #[.int .i64 r, .slice a1 n1 c1, .slice a2 n2 c2] 43)) := hb.trans ((later1 _ _).mono hb.size)
  have HB1 : Hid (Below w.heap.size w (w1.alloc (.cells #[.int .i64 r, .slice a1 n1 c1, .slice a2 n2 c2] 43))) := HB0.out.trans (hb'.mono HB0.out.size)
  have HR1 : Hid (OwnRow (w1.alloc (.cells #[.int .i64 r, .slice a1 n1 c1, .slice a2 n2 c2] 43)) (w.heap.size) 14 (cel [.int .i64 0, .int .i64 0, .int .i64 0, .int .i64 0, .slice none 0 0, .slice none 0 0, .slice none 0 0, .slice none 0 0, .slice none 0 0, .slice none 0 0, .slice none 0 0, .slice none 0 0, .slice none 0 0, .slice none 0 0])) := HR0.out.later hb'
  clear hb hb'
  have HQ1 : Hid (Bx (w1.alloc (.cells #[.int .i64 r, .slice a1 n1 c1, .slice a2 n2 c2] 43)) w1.heap.size [.int .i64 r, .slice a1 n1 c1, .slice a2 n2 c2]) := Bx.new w1 [.int .i64 r, .slice a1 n1 c1, .slice a2 n2 c2] _
  have hrl := HR1.out.lt
  have HO1 : Hid (DiskU (w1.alloc (.cells #[.int .i64 r, .slice a1 n1 c1, .slice a2 n2 c2] 43)) (.slice a1 n1 c1) (.slice a2 n2 c2) d (fun b => w.heap.size < b ∧ b < w1.heap.size)) := (ho.later (later1 _ _)).mono fun b hb' => ⟨by have := hb'.1; simp at this; omega, hb'.2⟩
  clear ho
  by_cases hf : r = 0
  · skip
    have HE : Hid (RES = (0, noCCD, d, newFd [], newFd [])) := HOK.out hf
    clear HBAD HOK HF
    subst hf
    have HNF : Hid (∀ W, Calls Tryz.prog 12 #[.slice none 0 0] W (AnsFR W (0, newFd []))) := fun W => by
      have := implNewFsU W none 0 0 [] (Byts.nil W none 0) (by decide +kernel)
      rw [newFR_ok] at this
      exact this
    have hff := field_fsr
    have xHQ0 := HQ1.out 0 _ rfl
    have xHQ1 := HQ1.out 1 _ rfl
    have xHQ2 := HQ1.out 2 _ rfl
    go_wp2_with fail
    clear xHQ0 xHQ1 xHQ2
    refine (HNF.out _).mono ?_
    rintro e w2 ⟨a3, n3, c3, a4, n4, c4, rfl, hb, ho⟩
    have hb' : Below (w1.alloc (.cells #[.int .i64 0, .slice a1 n1 c1, .slice a2 n2 c2] 43)).heap.size (w1.alloc (.cells #[.int .i64 0, .slice a1 n1 c1, .slice a2 n2 c2] 43)) (w2.alloc (.cells #[.slice a3 n3 c3, .slice a4 n4 c4] 27)) := hb.trans ((later1 _ _).mono hb.size)
    have HB2 : Hid (Below w.heap.size w (w2.alloc (.cells #[.slice a3 n3 c3, .slice a4 n4 c4] 27))) := HB1.out.trans (hb'.mono HB1.out.size)
    have HR2 : Hid (OwnRow (w2.alloc (.cells #[.slice a3 n3 c3, .slice a4 n4 c4] 27)) (w.heap.size) 14 (cel [.int .i64 0, .int .i64 0, .int .i64 0, .int .i64 0, .slice none 0 0, .slice none 0 0, .slice none 0 0, .slice none 0 0, .slice none 0 0, .slice none 0 0, .slice none 0 0, .slice none 0 0, .slice none 0 0, .slice none 0 0])) := HR1.out.later hb'
    have HQ2 : Hid (Bx (w2.alloc (.cells #[.slice a3 n3 c3, .slice a4 n4 c4] 27)) w1.heap.size [.int .i64 0, .slice a1 n1 c1, .slice a2 n2 c2]) := HQ1.out.later hb'
    have HO2 : Hid (DiskU (w2.alloc (.cells #[.slice a3 n3 c3, .slice a4 n4 c4] 27)) (.slice a1 n1 c1) (.slice a2 n2 c2) d (fun b => w.heap.size < b ∧ b < w1.heap.size)) := HO1.out.later hb'
    clear hb hb'
    have HN2 : Hid (Bx (w2.alloc (.cells #[.slice a3 n3 c3, .slice a4 n4 c4] 27)) w2.heap.size [.slice a3 n3 c3, .slice a4 n4 c4]) := Bx.new w2 [.slice a3 n3 c3, .slice a4 n4 c4] _
    have HFR : Hid (FsR (w2.alloc (.cells #[.slice a3 n3 c3, .slice a4 n4 c4] 27)) (.slice a3 n3 c3) (.slice a4 n4 c4) (newFd [])) := ho.reads.later (later1 _ _)
    clear ho
    have xHQ0 := HQ2.out 0 _ rfl
    have xHQ1 := HQ2.out 1 _ rfl
    have xHQ2 := HQ2.out 2 _ rfl
    have xHN0 := HN2.out 0 _ rfl
    have xHN1 := HN2.out 1 _ rfl
    go_wp2_with fail
    clear xHQ0 xHQ1 xHQ2 xHN0 xHN1
    refine (worldOf_any _ a1 n1 c1 a2 n2 c2 _ _ _ _ _ _ _ _ _ _ _ _ (newFd []) (newFd []) HFR.out HFR.out newF_size newF_size newF_twenty newF_twenty).mono ?_
    rintro e w3 ⟨b3, m3, d3, b4, m4, d4, b5, m5, d5, b6, m6, d6, rfl, hb, F1, F2, h1, h2, hd, hf⟩
    have hsz : w1.heap.size ≤ (w2.alloc (.cells #[.slice a3 n3 c3, .slice a4 n4 c4] 27)).heap.size := by have := HQ2.out.lt; omega
    have H1 : Hid (FsU w3 (.slice b3 m3 d3) (.slice b4 m4 d4) (newFd []) F1) := h1
    have H2 : Hid (FsU w3 (.slice b5 m5 d5) (.slice b6 m6 d6) (newFd []) F2) := h2
    have HD : Hid (∀ b, F1 b → ¬ F2 b) := hd
    have HF12 : Hid (∀ b, F1 b ∨ F2 b → w1.heap.size ≤ b ∧ b < w3.heap.size) := fun b h => ⟨Nat.le_trans hsz (hf b h).1, (hf b h).2⟩
    clear h1 h2 hd hf HFR hsz hff
    have HB3 : Hid (Below w.heap.size w w3) := HB2.out.trans (hb.mono HB2.out.size)
    have HR3 : Hid (OwnRow w3 (w.heap.size) 14 (cel [.int .i64 0, .int .i64 0, .int .i64 0, .int .i64 0, .slice none 0 0, .slice none 0 0, .slice none 0 0, .slice none 0 0, .slice none 0 0, .slice none 0 0, .slice none 0 0, .slice none 0 0, .slice none 0 0, .slice none 0 0])) := HR2.out.later hb
    have HQ3 : Hid (Bx w3 w1.heap.size [.int .i64 0, .slice a1 n1 c1, .slice a2 n2 c2]) := HQ2.out.later hb
    have HO3 : Hid (DiskU w3 (.slice a1 n1 c1) (.slice a2 n2 c2) d (fun b => w.heap.size < b ∧ b < w1.heap.size)) := HO2.out.later hb
    have HN3 : Hid (Bx w3 w2.heap.size [.slice a3 n3 c3, .slice a4 n4 c4]) := HN2.out.later hb
    clear hb
    have hs3 : w1.heap.size ≤ w3.heap.size := by have := HQ3.out.lt; omega
    have HW : Hid (WrsU w3 (.int .i64 0) (.int .i64 0) (.int .i64 0) (.slice none 0 0) (.slice none 0 0) (.slice none 0 0) (.slice none 0 0) (.slice a1 n1 c1) (.slice a2 n2 c2) (.slice b3 m3 d3) (.slice b4 m4 d4) (.slice b5 m5 d5) (.slice b6 m6 d6) (noCCD, d, newFd [], newFd []) (fun b => w.heap.size < b ∧ b < w3.heap.size)) := WrsU.of HO3.out H1.out H2.out (fun b h h' => by have := (HF12.out b (Or.inl h')).1; omega) (fun b h h' => by have := (HF12.out b (Or.inr h')).1; omega) HD.out (fun b h => by
      rcases h with h | h | h
      · exact ⟨h.1, by omega⟩
      · have := HF12.out b (Or.inl h); have := HRL.out; exact ⟨by omega, by omega⟩
      · have := HF12.out b (Or.inr h); have := HRL.out; exact ⟨by omega, by omega⟩)
    clear H1 H2 HD HF12
    have hrr := HR3.out
    have t0 : w3.cell? ⟨w.heap.size, 0, none⟩ = some (.int .i64 0) := hrr.cell (i := 0) (by omega)
    have t1 : w3.cell? ⟨w.heap.size, 1, none⟩ = some (.int .i64 0) := hrr.cell (i := 1) (by omega)
    have t2 : w3.cell? ⟨w.heap.size, 2, none⟩ = some (.int .i64 0) := hrr.cell (i := 2) (by omega)
    have t3 : w3.cell? ⟨w.heap.size, 3, none⟩ = some (.int .i64 0) := hrr.cell (i := 3) (by omega)
    have t4 : w3.cell? ⟨w.heap.size, 4, none⟩ = some (.slice none 0 0) := hrr.cell (i := 4) (by omega)
    have t5 : w3.cell? ⟨w.heap.size, 5, none⟩ = some (.slice none 0 0) := hrr.cell (i := 5) (by omega)
    have t6 : w3.cell? ⟨w.heap.size, 6, none⟩ = some (.slice none 0 0) := hrr.cell (i := 6) (by omega)
    have t7 : w3.cell? ⟨w.heap.size, 7, none⟩ = some (.slice none 0 0) := hrr.cell (i := 7) (by omega)
    have t8 : w3.cell? ⟨w.heap.size, 8, none⟩ = some (.slice none 0 0) := hrr.cell (i := 8) (by omega)
    have t9 : w3.cell? ⟨w.heap.size, 9, none⟩ = some (.slice none 0 0) := hrr.cell (i := 9) (by omega)
    have t10 : w3.cell? ⟨w.heap.size, 10, none⟩ = some (.slice none 0 0) := hrr.cell (i := 10) (by omega)
    have t11 : w3.cell? ⟨w.heap.size, 11, none⟩ = some (.slice none 0 0) := hrr.cell (i := 11) (by omega)
    have t12 : w3.cell? ⟨w.heap.size, 12, none⟩ = some (.slice none 0 0) := hrr.cell (i := 12) (by omega)
    have t13 : w3.cell? ⟨w.heap.size, 13, none⟩ = some (.slice none 0 0) := hrr.cell (i := 13) (by omega)
    have f0 := hrr.frozen 0
    have f1 := hrr.frozen 1
    have f2 := hrr.frozen 2
    have f3 := hrr.frozen 3
    have f4 := hrr.frozen 4
    have f5 := hrr.frozen 5
    have f6 := hrr.frozen 6
    have f7 := hrr.frozen 7
    have f8 := hrr.frozen 8
    have f9 := hrr.frozen 9
    have f10 := hrr.frozen 10
    have f11 := hrr.frozen 11
    have f12 := hrr.frozen 12
    have f13 := hrr.frozen 13
    have hlr := hrr.lt
    clear hrr
    go_wp2
    exact bodyPost_ret (v := .agg #[.int .i64 0, .int .i64 0, .int .i64 0, .int .i64 0, .slice none 0 0, .slice none 0 0, .slice none 0 0, .slice none 0 0, .slice a1 n1 c1, .slice a2 n2 c2, .slice b3 m3 d3, .slice b4 m4 d4, .slice b5 m5 d5, .slice b6 m6 d6]) (by simp [results, Tryz.results5, go_sem, t0, t1, t2, t3, t4, t5, t6, t7, t8, t9, t10, t11, t12, t13]) rfl (by rw [HE.out]; exact AnsWR.put HB3.out (Nat.le_refl _) HW.out _ _ _ _ _ _ _ _ _ _ _ _ _ _)
  · skip
    have hfb : (r != 0) = true := by simpa using hf
    have HE : Hid (RES = (r, noWrs)) := HBAD.out hf
    clear HBAD HOK HF hf
    have xHQ0 := HQ1.out 0 _ rfl
    have xHQ1 := HQ1.out 1 _ rfl
    have xHQ2 := HQ1.out 2 _ rfl
    have hrr := HR1.out
    have t0 : (w1.alloc (.cells #[.int .i64 r, .slice a1 n1 c1, .slice a2 n2 c2] 43)).cell? ⟨w.heap.size, 0, none⟩ = some (.int .i64 0) := hrr.cell (i := 0) (by omega)
    have t1 : (w1.alloc (.cells #[.int .i64 r, .slice a1 n1 c1, .slice a2 n2 c2] 43)).cell? ⟨w.heap.size, 1, none⟩ = some (.int .i64 0) := hrr.cell (i := 1) (by omega)
    have t2 : (w1.alloc (.cells #[.int .i64 r, .slice a1 n1 c1, .slice a2 n2 c2] 43)).cell? ⟨w.heap.size, 2, none⟩ = some (.int .i64 0) := hrr.cell (i := 2) (by omega)
    have t3 : (w1.alloc (.cells #[.int .i64 r, .slice a1 n1 c1, .slice a2 n2 c2] 43)).cell? ⟨w.heap.size, 3, none⟩ = some (.int .i64 0) := hrr.cell (i := 3) (by omega)
    have t4 : (w1.alloc (.cells #[.int .i64 r, .slice a1 n1 c1, .slice a2 n2 c2] 43)).cell? ⟨w.heap.size, 4, none⟩ = some (.slice none 0 0) := hrr.cell (i := 4) (by omega)
    have t5 : (w1.alloc (.cells #[.int .i64 r, .slice a1 n1 c1, .slice a2 n2 c2] 43)).cell? ⟨w.heap.size, 5, none⟩ = some (.slice none 0 0) := hrr.cell (i := 5) (by omega)
    have t6 : (w1.alloc (.cells #[.int .i64 r, .slice a1 n1 c1, .slice a2 n2 c2] 43)).cell? ⟨w.heap.size, 6, none⟩ = some (.slice none 0 0) := hrr.cell (i := 6) (by omega)
    have t7 : (w1.alloc (.cells #[.int .i64 r, .slice a1 n1 c1, .slice a2 n2 c2] 43)).cell? ⟨w.heap.size, 7, none⟩ = some (.slice none 0 0) := hrr.cell (i := 7) (by omega)
    have t8 : (w1.alloc (.cells #[.int .i64 r, .slice a1 n1 c1, .slice a2 n2 c2] 43)).cell? ⟨w.heap.size, 8, none⟩ = some (.slice none 0 0) := hrr.cell (i := 8) (by omega)
    have t9 : (w1.alloc (.cells #[.int .i64 r, .slice a1 n1 c1, .slice a2 n2 c2] 43)).cell? ⟨w.heap.size, 9, none⟩ = some (.slice none 0 0) := hrr.cell (i := 9) (by omega)
    have t10 : (w1.alloc (.cells #[.int .i64 r, .slice a1 n1 c1, .slice a2 n2 c2] 43)).cell? ⟨w.heap.size, 10, none⟩ = some (.slice none 0 0) := hrr.cell (i := 10) (by omega)
    have t11 : (w1.alloc (.cells #[.int .i64 r, .slice a1 n1 c1, .slice a2 n2 c2] 43)).cell? ⟨w.heap.size, 11, none⟩ = some (.slice none 0 0) := hrr.cell (i := 11) (by omega)
    have t12 : (w1.alloc (.cells #[.int .i64 r, .slice a1 n1 c1, .slice a2 n2 c2] 43)).cell? ⟨w.heap.size, 12, none⟩ = some (.slice none 0 0) := hrr.cell (i := 12) (by omega)
    have t13 : (w1.alloc (.cells #[.int .i64 r, .slice a1 n1 c1, .slice a2 n2 c2] 43)).cell? ⟨w.heap.size, 13, none⟩ = some (.slice none 0 0) := hrr.cell (i := 13) (by omega)
    have f0 := hrr.frozen 0
    have f1 := hrr.frozen 1
    have f2 := hrr.frozen 2
    have f3 := hrr.frozen 3
    have f4 := hrr.frozen 4
    have f5 := hrr.frozen 5
    have f6 := hrr.frozen 6
    have f7 := hrr.frozen 7
    have f8 := hrr.frozen 8
    have f9 := hrr.frozen 9
    have f10 := hrr.frozen 10
    have f11 := hrr.frozen 11
    have f12 := hrr.frozen 12
    have f13 := hrr.frozen 13
    have hlr := hrr.lt
    clear hrr
    go_wp2
    exact bodyPost_ret (v := .agg #[.int .i64 r, .int .i64 0, .int .i64 0, .int .i64 0, .slice none 0 0, .slice none 0 0, .slice none 0 0, .slice none 0 0, .slice none 0 0, .slice none 0 0, .slice none 0 0, .slice none 0 0, .slice none 0 0, .slice none 0 0]) (by simp [results, Tryz.results5, go_sem, t0, t1, t2, t3, t4, t5, t6, t7, t8, t9, t10, t11, t12, t13]) rfl (by rw [HE.out]; exact AnsWR.put HB1.out (Nat.le_refl _) (WrsU.none' _ _) _ _ _ _ _ _ _ _ _ _ _ _ _ _)

set_option maxHeartbeats 6400000 in
theorem specNewWU (w : World) (x : Int) : Calls Tryz.prog 4 #[.int .i64 x] w (AnsWR w (newWR x)) := by
  have HF : Hid (∀ W, Calls Tryz.prog 9 #[.int .i64 x] W (AnsDR W ((formR x).1, (formR x).2))) := fun W => specFormU W x
  have HBAD : Hid (¬ (formR x).1 = 0 → newWR x = ((formR x).1, noWrs)) := fun h0 => by unfold newWR; rw [if_neg h0]
  have HOK : Hid ((formR x).1 = 0 → newWR x = (0, noCCD, (formR x).2, newFd [], newFd [])) := fun h0 => by unfold newWR; rw [if_pos h0]
  generalize (formR x).1 = r at *
  generalize (formR x).2 = d at *
  generalize newWR x = RES at *
  have HB0 : Hid (Below w.heap.size w (w.alloc (.cells #[.int .i64 0, .int .i64 0, .int .i64 0, .int .i64 0, .slice none 0 0, .slice none 0 0, .slice none 0 0, .slice none 0 0, .slice none 0 0, .slice none 0 0, .slice none 0 0, .slice none 0 0, .slice none 0 0, .slice none 0 0] 37))) := later1 _ _
  have HR0 : Hid (OwnRow (w.alloc (.cells #[.int .i64 0, .int .i64 0, .int .i64 0, .int .i64 0, .slice none 0 0, .slice none 0 0, .slice none 0 0, .slice none 0 0, .slice none 0 0, .slice none 0 0, .slice none 0 0, .slice none 0 0, .slice none 0 0, .slice none 0 0] 37)) (w.heap.size) 14 (cel [.int .i64 0, .int .i64 0, .int .i64 0, .int .i64 0, .slice none 0 0, .slice none 0 0, .slice none 0 0, .slice none 0 0, .slice none 0 0, .slice none 0 0, .slice none 0 0, .slice none 0 0, .slice none 0 0, .slice none 0 0])) := newCel w [.int .i64 0, .int .i64 0, .int .i64 0, .int .i64 0, .slice none 0 0, .slice none 0 0, .slice none 0 0, .slice none 0 0, .slice none 0 0, .slice none 0 0, .slice none 0 0, .slice none 0 0, .slice none 0 0, .slice none 0 0] _
  go_enter Tryz.func4, Tryz.ntmps4
  go_wp2_with fail
  refine (HF.out _).mono ?_
  rintro e w1 ⟨a1, n1, c1, a2, n2, c2, rfl, hb, ho⟩
  have HRL : Hid (w.heap.size < w1.heap.size) := by have := HR0.out.lt; have := hb.size; unfold Hid; omega
  have hb' : Below (w.alloc (.cells #[.int .i64 0, .int .i64 0, .int .i64 0, .int .i64 0, .slice none 0 0, .slice none 0 0, .slice none 0 0, .slice none 0 0, .slice none 0 0, .slice none 0 0, .slice none 0 0, .slice none 0 0, .slice none 0 0, .slice none 0 0] 37)).heap.size (w.alloc (.cells #[.int .i64 0, .int .i64 0, .int .i64 0, .int .i64 0, .slice none 0 0, .slice none 0 0, .slice none 0 0, .slice none 0 0, .slice none 0 0, .slice none 0 0, .slice none 0 0, .slice none 0 0, .slice none 0 0, .slice none 0 0] 37)) (w1.alloc (.cells #[.int .i64 r, .slice a1 n1 c1, .slice a2 n2 c2] 43)) := hb.trans ((later1 _ _).mono hb.size)
  have HB1 : Hid (Below w.heap.size w (w1.alloc (.cells #[.int .i64 r, .slice a1 n1 c1, .slice a2 n2 c2] 43))) := HB0.out.trans (hb'.mono HB0.out.size)
  have HR1 : Hid (OwnRow (w1.alloc (.cells #[.int .i64 r, .slice a1 n1 c1, .slice a2 n2 c2] 43)) (w.heap.size) 14 (cel [.int .i64 0, .int .i64 0, .int .i64 0, .int .i64 0, .slice none 0 0, .slice none 0 0, .slice none 0 0, .slice none 0 0, .slice none 0 0, .slice none 0 0, .slice none 0 0, .slice none 0 0, .slice none 0 0, .slice none 0 0])) := HR0.out.later hb'
  clear hb hb'
  have HQ1 : Hid (Bx (w1.alloc (.cells #[.int .i64 r, .slice a1 n1 c1, .slice a2 n2 c2] 43)) w1.heap.size [.int .i64 r, .slice a1 n1 c1, .slice a2 n2 c2]) := Bx.new w1 [.int .i64 r, .slice a1 n1 c1, .slice a2 n2 c2] _
  have hrl := HR1.out.lt
  have HO1 : Hid (DiskU (w1.alloc (.cells #[.int .i64 r, .slice a1 n1 c1, .slice a2 n2 c2] 43)) (.slice a1 n1 c1) (.slice a2 n2 c2) d (fun b => w.heap.size < b ∧ b < w1.heap.size)) := (ho.later (later1 _ _)).mono fun b hb' => ⟨by have := hb'.1; simp at this; omega, hb'.2⟩
  clear ho
  by_cases hf : r = 0
  · skip
    have HE : Hid (RES = (0, noCCD, d, newFd [], newFd [])) := HOK.out hf
    clear HBAD HOK HF
    subst hf
    have xHQ0 := HQ1.out 0 _ rfl
    have xHQ1 := HQ1.out 1 _ rfl
    have xHQ2 := HQ1.out 2 _ rfl
    go_wp2_with fail
    generalize (w1.alloc (.cells #[.int .i64 0, .slice a1 n1 c1, .slice a2 n2 c2] 43)) = W1 at *
    go_region_with (first
      | (go_at_call 10; have hq := H3.out; refine (l6New_any _).mono ?_; rintro e w4 ⟨b5, m5, d5, b6, m6, d6, rfl, hb4, ho4⟩
         have z1 := cell_later hb4 y1
         have z2 := cell_later hb4 y2
         have HB4' : Hid (Below W1.heap.size W1 w4) := HB3'.out.trans (hb4.mono HB3'.out.size)
         have HS4 : Hid (w3.heap.size ≤ w4.heap.size) := hb4.size
         have H4 : Hid (FsU w4 (.slice b5 m5 d5) (.slice b6 m6 d6) (newFd []) (fun b => w3.heap.size ≤ b ∧ b < w4.heap.size)) := ho4
         have H34 : Hid (FsU w4 (.slice b3 m3 d3) (.slice b4 m4 d4) (newFd []) (fun b => W1.heap.size ≤ b ∧ b < w3.heap.size)) := H3.out.later hb4
         have hrr := HR1.out.later HB4'.out
         have t0 : w4.cell? ⟨w.heap.size, 0, none⟩ = some (.int .i64 0) := hrr.cell (i := 0) (by omega)
         have f0 := hrr.frozen 0
         have t1 : w4.cell? ⟨w.heap.size, 1, none⟩ = some (.int .i64 0) := hrr.cell (i := 1) (by omega)
         have f1 := hrr.frozen 1
         have t2 : w4.cell? ⟨w.heap.size, 2, none⟩ = some (.int .i64 0) := hrr.cell (i := 2) (by omega)
         have f2 := hrr.frozen 2
         have t3 : w4.cell? ⟨w.heap.size, 3, none⟩ = some (.int .i64 0) := hrr.cell (i := 3) (by omega)
         have f3 := hrr.frozen 3
         have t4 : w4.cell? ⟨w.heap.size, 4, none⟩ = some (.slice none 0 0) := hrr.cell (i := 4) (by omega)
         have f4 := hrr.frozen 4
         have t5 : w4.cell? ⟨w.heap.size, 5, none⟩ = some (.slice none 0 0) := hrr.cell (i := 5) (by omega)
         have f5 := hrr.frozen 5
         have t6 : w4.cell? ⟨w.heap.size, 6, none⟩ = some (.slice none 0 0) := hrr.cell (i := 6) (by omega)
         have f6 := hrr.frozen 6
         have t7 : w4.cell? ⟨w.heap.size, 7, none⟩ = some (.slice none 0 0) := hrr.cell (i := 7) (by omega)
         have f7 := hrr.frozen 7
         have t8 : w4.cell? ⟨w.heap.size, 8, none⟩ = some (.slice none 0 0) := hrr.cell (i := 8) (by omega)
         have f8 := hrr.frozen 8
         have t9 : w4.cell? ⟨w.heap.size, 9, none⟩ = some (.slice none 0 0) := hrr.cell (i := 9) (by omega)
         have f9 := hrr.frozen 9
         have t10 : w4.cell? ⟨w.heap.size, 10, none⟩ = some (.slice none 0 0) := hrr.cell (i := 10) (by omega)
         have f10 := hrr.frozen 10
         have t11 : w4.cell? ⟨w.heap.size, 11, none⟩ = some (.slice none 0 0) := hrr.cell (i := 11) (by omega)
         have f11 := hrr.frozen 11
         have t12 : w4.cell? ⟨w.heap.size, 12, none⟩ = some (.slice none 0 0) := hrr.cell (i := 12) (by omega)
         have f12 := hrr.frozen 12
         have t13 : w4.cell? ⟨w.heap.size, 13, none⟩ = some (.slice none 0 0) := hrr.cell (i := 13) (by omega)
         have f13 := hrr.frozen 13
         have hlr := hrr.lt
         clear hb4 ho4 hrr hq)
      | (go_at_call 10; refine (l6New_any _).mono ?_; rintro e w3 ⟨b3, m3, d3, b4, m4, d4, rfl, hb3, ho3⟩
         have HB3' : Hid (Below W1.heap.size W1 w3) := (Below.refl _ _).drew.trans hb3
         have y1 := cell_later HB3'.out xHQ1
         have y2 := cell_later HB3'.out xHQ2
         have H3 : Hid (FsU w3 (.slice b3 m3 d3) (.slice b4 m4 d4) (newFd []) (fun b => W1.heap.size ≤ b ∧ b < w3.heap.size)) := ho3
         clear hb3 ho3))
    all_goals
      have hs1 := HQ1.out.lt
      have hs3 := HB3'.out.size
      have hs4 := HS4.out
      have HW : Hid (WrsU w4 (.int .i64 0) (.int .i64 0) (.int .i64 0) (.slice none 0 0) (.slice none 0 0) (.slice none 0 0) (.slice none 0 0) (.slice a1 n1 c1) (.slice a2 n2 c2) (.slice b3 m3 d3) (.slice b4 m4 d4) (.slice b5 m5 d5) (.slice b6 m6 d6) (noCCD, d, newFd [], newFd []) (fun b => w.heap.size < b ∧ b < w4.heap.size)) := WrsU.of (HO1.out.later HB4'.out) H34.out H4.out (fun b h h' => by have := h'.1; have := h.2; omega) (fun b h h' => by have := h'.1; have := h.2; omega) (fun b h h' => by have := h'.1; have := h.2; omega) (fun b h => by
        rcases h with h | h | h
        · exact ⟨h.1, by have := h.2; omega⟩
        · exact ⟨by have := h.1; omega, by have := h.2; omega⟩
        · exact ⟨by have := h.1; omega, h.2⟩)
      have HBW : Hid (Below w.heap.size w w4) := HB1.out.trans (HB4'.out.mono HB1.out.size)
      clear H3 H4 H34 y1 y2 z1 z2 xHQ0 xHQ1 xHQ2
      go_wp2
      exact bodyPost_ret (v := .agg #[.int .i64 0, .int .i64 0, .int .i64 0, .int .i64 0, .slice none 0 0, .slice none 0 0, .slice none 0 0, .slice none 0 0, .slice a1 n1 c1, .slice a2 n2 c2, .slice b3 m3 d3, .slice b4 m4 d4, .slice b5 m5 d5, .slice b6 m6 d6]) (by simp [results, Tryz.results4, go_sem, t0, t1, t2, t3, t4, t5, t6, t7, t8, t9, t10, t11, t12, t13]) rfl (by rw [HE.out]; exact AnsWR.put HBW.out (Nat.le_refl _) HW.out _ _ _ _ _ _ _ _ _ _ _ _ _ _)
  · skip
    have hfb : (r != 0) = true := by simpa using hf
    have HE : Hid (RES = (r, noWrs)) := HBAD.out hf
    clear HBAD HOK HF hf
    have xHQ0 := HQ1.out 0 _ rfl
    have xHQ1 := HQ1.out 1 _ rfl
    have xHQ2 := HQ1.out 2 _ rfl
    have hrr := HR1.out
    have t0 : (w1.alloc (.cells #[.int .i64 r, .slice a1 n1 c1, .slice a2 n2 c2] 43)).cell? ⟨w.heap.size, 0, none⟩ = some (.int .i64 0) := hrr.cell (i := 0) (by omega)
    have t1 : (w1.alloc (.cells #[.int .i64 r, .slice a1 n1 c1, .slice a2 n2 c2] 43)).cell? ⟨w.heap.size, 1, none⟩ = some (.int .i64 0) := hrr.cell (i := 1) (by omega)
    have t2 : (w1.alloc (.cells #[.int .i64 r, .slice a1 n1 c1, .slice a2 n2 c2] 43)).cell? ⟨w.heap.size, 2, none⟩ = some (.int .i64 0) := hrr.cell (i := 2) (by omega)
    have t3 : (w1.alloc (.cells #[.int .i64 r, .slice a1 n1 c1, .slice a2 n2 c2] 43)).cell? ⟨w.heap.size, 3, none⟩ = some (.int .i64 0) := hrr.cell (i := 3) (by omega)
    have t4 : (w1.alloc (.cells #[.int .i64 r, .slice a1 n1 c1, .slice a2 n2 c2] 43)).cell? ⟨w.heap.size, 4, none⟩ = some (.slice none 0 0) := hrr.cell (i := 4) (by omega)
    have t5 : (w1.alloc (.cells #[.int .i64 r, .slice a1 n1 c1, .slice a2 n2 c2] 43)).cell? ⟨w.heap.size, 5, none⟩ = some (.slice none 0 0) := hrr.cell (i := 5) (by omega)
    have t6 : (w1.alloc (.cells #[.int .i64 r, .slice a1 n1 c1, .slice a2 n2 c2] 43)).cell? ⟨w.heap.size, 6, none⟩ = some (.slice none 0 0) := hrr.cell (i := 6) (by omega)
    have t7 : (w1.alloc (.cells #[.int .i64 r, .slice a1 n1 c1, .slice a2 n2 c2] 43)).cell? ⟨w.heap.size, 7, none⟩ = some (.slice none 0 0) := hrr.cell (i := 7) (by omega)
    have t8 : (w1.alloc (.cells #[.int .i64 r, .slice a1 n1 c1, .slice a2 n2 c2] 43)).cell? ⟨w.heap.size, 8, none⟩ = some (.slice none 0 0) := hrr.cell (i := 8) (by omega)
    have t9 : (w1.alloc (.cells #[.int .i64 r, .slice a1 n1 c1, .slice a2 n2 c2] 43)).cell? ⟨w.heap.size, 9, none⟩ = some (.slice none 0 0) := hrr.cell (i := 9) (by omega)
    have t10 : (w1.alloc (.cells #[.int .i64 r, .slice a1 n1 c1, .slice a2 n2 c2] 43)).cell? ⟨w.heap.size, 10, none⟩ = some (.slice none 0 0) := hrr.cell (i := 10) (by omega)
    have t11 : (w1.alloc (.cells #[.int .i64 r, .slice a1 n1 c1, .slice a2 n2 c2] 43)).cell? ⟨w.heap.size, 11, none⟩ = some (.slice none 0 0) := hrr.cell (i := 11) (by omega)
    have t12 : (w1.alloc (.cells #[.int .i64 r, .slice a1 n1 c1, .slice a2 n2 c2] 43)).cell? ⟨w.heap.size, 12, none⟩ = some (.slice none 0 0) := hrr.cell (i := 12) (by omega)
    have t13 : (w1.alloc (.cells #[.int .i64 r, .slice a1 n1 c1, .slice a2 n2 c2] 43)).cell? ⟨w.heap.size, 13, none⟩ = some (.slice none 0 0) := hrr.cell (i := 13) (by omega)
    have f0 := hrr.frozen 0
    have f1 := hrr.frozen 1
    have f2 := hrr.frozen 2
    have f3 := hrr.frozen 3
    have f4 := hrr.frozen 4
    have f5 := hrr.frozen 5
    have f6 := hrr.frozen 6
    have f7 := hrr.frozen 7
    have f8 := hrr.frozen 8
    have f9 := hrr.frozen 9
    have f10 := hrr.frozen 10
    have f11 := hrr.frozen 11
    have f12 := hrr.frozen 12
    have f13 := hrr.frozen 13
    have hlr := hrr.lt
    clear hrr
    go_wp2
    exact bodyPost_ret (v := .agg #[.int .i64 r, .int .i64 0, .int .i64 0, .int .i64 0, .slice none 0 0, .slice none 0 0, .slice none 0 0, .slice none 0 0, .slice none 0 0, .slice none 0 0, .slice none 0 0, .slice none 0 0, .slice none 0 0, .slice none 0 0]) (by simp [results, Tryz.results4, go_sem, t0, t1, t2, t3, t4, t5, t6, t7, t8, t9, t10, t11, t12, t13]) rfl (by rw [HE.out]; exact AnsWR.put HB1.out (Nat.le_refl _) (WrsU.none' _ _) _ _ _ _ _ _ _ _ _ _ _ _ _ _)

theorem newWR_span (x : Int) : spanWrs (newWR x).2 ≤ 1000 := by
  have h1 := formR_span x
  have h2 : spanFs (newFd []) ≤ 100 := by decide +kernel
  unfold newWR
  by_cases h0 : (formR x).1 = 0
  · rw [if_pos h0]
    show spanCR (0, 0, [], [], [], []) + (spanDisk (formR x).2 + spanFs (newFd []) + spanFs (newFd [])) ≤ 1000
    have h3 : spanCR (0, 0, [], [], [], []) = 0 := by decide +kernel
    omega
  · rw [if_neg h0]
    have h3 : spanWrs noWrs = 0 := by decide +kernel
    show spanWrs noWrs ≤ 1000
    omega
end Go.Proofs.YtlacppjlclfpmaaGreat

namespace Go.Proofs.YtlacppjlclfpmaaGreat
open Go.ChangeShapes Go.WideShapes Go.ChangeAt Go.RowKit Go.Deep
set_option maxRecDepth 100000

section
variable {H : Type} {enc : TypeId × Value → H} {P : Program} {w : World} {base : Nat} {held : Bool}

theorem addr_of {a : Addr} {v : Value} (h : w.cell? (a.add 0) = some v) : a = ⟨a.block, a.off, none⟩ := by
  obtain ⟨b, o, s⟩ := a
  have : s = none := by simpa [Addr.add] using World.cell?_spot h
  subst this; rfl
theorem add_plain (b off k : Nat) : (⟨b, off, none⟩ : Addr).add k = ⟨b, off + k, none⟩ := by
  by_cases h : k = 0
  · subst h; simp [Addr.add]
  · simp [Addr.add, h]

theorem open_Ints {t e : TypeId} {fuel : Nat} {v : Value} {x : DataW H × List MemPlace} (ht : P.underlying t = some (.slice e)) (he : P.underlying e = some (.int .i64)) (ce : P.cellsOf e = 1) (h : DataW.trod enc P w base (fun _ => true) held fuel t [v] = some x) :
    ∃ zs, Ints w v zs := by
  rcases open_ints ht he ce h with ⟨hcs, _⟩ | ⟨a, len, cap, zs, hcs, _, hl, hm, hz, _, hcell, _⟩
  · simp only [List.cons.injEq, and_true] at hcs
    exact ⟨[], Or.inl ⟨rfl, none, 0, hcs⟩⟩
  · simp only [List.cons.injEq, and_true] at hcs
    simp only [if_true] at hz
    by_cases h0 : len = 0
    · subst h0; exact ⟨[], Or.inl ⟨rfl, some a, cap, hcs⟩⟩
    · have ha := addr_of (hcell 0 (by omega))
      refine ⟨zs.take len, Or.inr ⟨a.block, a.off, cap, ?_, ?_, fun k hk => ?_⟩⟩
      · rw [hcs, List.length_take, Nat.min_eq_left (by omega), ← ha]
      · rw [List.length_take]; omega
      · rw [List.length_take] at hk
        have h1 := hcell k (by omega)
        rw [ha, add_plain] at h1
        rw [h1, List.getElem?_take, if_pos (by omega)]
        rfl

theorem open_IntsS {t e q : TypeId} {fuel : Nat} {v : Value} {x : DataW H × List MemPlace} (ht : P.underlying t = some (.slice e)) (he : P.underlying e = some (.slice q)) (hq : P.underlying q = some (.int .i64)) (ce : P.cellsOf e = 1) (cq : P.cellsOf q = 1)
    (h : DataW.trod enc P w base (fun _ => true) held fuel t [v] = some x) : ∃ zss, IntsS w v zss := by
  rcases open_slice1 ht ce h with ⟨hcs, _⟩ | ⟨a, len, cap, m, n, V, D, Pl, hcs, _, hl, hm, hmm, _, hx⟩
  · simp only [List.cons.injEq, and_true] at hcs
    exact ⟨[], Or.inl ⟨rfl, none, 0, hcs⟩⟩
  · simp only [List.cons.injEq, and_true] at hcs
    simp only [if_true] at hmm
    by_cases h0 : len = 0
    · subst h0; exact ⟨[], Or.inl ⟨rfl, some a, cap, hcs⟩⟩
    · have ha := addr_of (hx 0 (by omega)).1
      obtain ⟨Z, hZ⟩ := choose_lt (α := List Int) (n := m) (p := fun i zs => Ints w (V i) zs) fun i hi => open_Ints he hq cq (hx i hi).2
      refine ⟨(List.range len).map Z, Or.inr ⟨a.block, a.off, cap, V, ?_, ?_, fun k hk => ?_⟩⟩
      · simp only [List.length_map, List.length_range]; rw [hcs, ← ha]
      · simp only [List.length_map, List.length_range]; omega
      · simp only [List.length_map, List.length_range] at hk
        have h1 := (hx k (by omega)).1
        rw [ha, add_plain] at h1
        refine ⟨h1, ?_⟩
        have := hZ k (by omega)
        simpa [hk] using this

theorem open_Puts {t e q : TypeId} {f0 f1 : Field} {fuel : Nat} {v : Value} {x : DataW H × List MemPlace} (ht : P.underlying t = some (.slice e)) (he : P.underlying e = some (.struct #[f0, f1]))
    (ce : P.cellsOf e = 2) (o0 : f0.offset = 0) (o1 : f1.offset = 1) (c0 : P.cellsOf f0.type = 1) (c1 : P.cellsOf f1.type = 1) (h0 : P.underlying f0.type = some (.int .i64)) (h1 : P.underlying f1.type = some (.slice q)) (hq : P.underlying q = some (.int .i64)) (cq : P.cellsOf q = 1)
    (h : DataW.trod enc P w base (fun _ => true) held fuel t [v] = some x) : ∃ ps, Puts w v ps := by
  rcases open_slice_pairs ht he ce o0 o1 c0 c1 h with ⟨hcs, _⟩ | ⟨a, len, cap, m, n, V0, V1, D0, D1, P0, P1, hcs, _, hl, hm, hmm, _, hx⟩
  · simp only [List.cons.injEq, and_true] at hcs
    exact ⟨[], Or.inl ⟨rfl, none, 0, hcs⟩⟩
  · simp only [List.cons.injEq, and_true] at hcs
    simp only [if_true] at hmm
    by_cases hl0 : len = 0
    · subst hl0; exact ⟨[], Or.inl ⟨rfl, some a, cap, hcs⟩⟩
    · have ha := addr_of (by simpa using (hx 0 (by omega)).1)
      obtain ⟨Z, hZ⟩ := choose_lt (α := Int × List Int) (n := m) (p := fun i z => V0 i = .int .i64 z.1 ∧ Ints w (V1 i) z.2) fun i hi => by
        obtain ⟨_, _, g0, g1⟩ := hx i hi
        obtain ⟨zs, hzs⟩ := open_Ints h1 hq cq g1
        obtain ⟨y, hy, _⟩ := DataW.trod_int h0 g0
        simp only [List.cons.injEq, and_true] at hy
        exact ⟨(y, zs), hy, hzs⟩
      refine ⟨(List.range len).map Z, Or.inr ⟨a.block, a.off, cap, V1, ?_, ?_, fun k hk => ?_⟩⟩
      · simp only [List.length_map, List.length_range]; rw [hcs, ← ha]
      · simp only [List.length_map, List.length_range]; omega
      · simp only [List.length_map, List.length_range] at hk
        obtain ⟨e0, e1, _, _⟩ := hx k (by omega)
        rw [ha, add_plain] at e0 e1
        obtain ⟨g0, g1⟩ := hZ k (by omega)
        rw [g0] at e0
        have hg : ((List.range len).map Z)[k]?.getD (0, []) = Z k := by simp [hk]
        rw [hg]
        exact ⟨e0, e1, g1⟩
end

end Go.Proofs.YtlacppjlclfpmaaGreat

namespace Go.Proofs.YtlacppjlclfpmaaGreat
open Go.ChangeShapes Go.WideShapes Go.ChangeAt Go.RowKit Go.Joins
set_option maxRecDepth 100000

theorem Tryz.own : ownKnob Tryz.prog.godebug = none := by kernel_rfl
theorem Tryz.laidOut : laidOutB Tryz.prog = true := by kernel_rfl
theorem Tryz.cellsInt : Tryz.prog.cellsOf 2 = 1 := by kernel_rfl
theorem Tryz.cellsInts : Tryz.prog.cellsOf 55 = 1 := by kernel_rfl

end Go.Proofs.YtlacppjlclfpmaaGreat

namespace Go.Proofs.YtlacppjlclfpmaaGreat
open Go.ChangeShapes Go.WideShapes Go.ChangeAt Go.RowKit Go.Joins Go.Deep
set_option maxRecDepth 100000

theorem Tryz.cellsBool : Tryz.prog.cellsOf 4 = 1 := by kernel_rfl
theorem open_Bools {H : Type} {enc : TypeId × Value → H} {P : Program} {w : World} {base : Nat} {held : Bool} {t e : TypeId} {fuel : Nat} {v : Value} {x : DataW H × List MemPlace} (ht : P.underlying t = some (.slice e)) (he : P.underlying e = some .bool) (ce : P.cellsOf e = 1) (h : DataW.trod enc P w base (fun _ => true) held fuel t [v] = some x) :
    ∃ zs, Bools w v zs := by
  rcases open_slice1 ht ce h with ⟨hcs, _⟩ | ⟨a, len, cap, m, n, V, D, Pl, hcs, _, hl, hm, hmm, _, hx⟩
  · simp only [List.cons.injEq, and_true] at hcs
    exact ⟨[], Or.inl ⟨rfl, none, 0, hcs⟩⟩
  · simp only [List.cons.injEq, and_true] at hcs
    simp only [if_true] at hmm
    by_cases h0 : len = 0
    · subst h0; exact ⟨[], Or.inl ⟨rfl, some a, cap, hcs⟩⟩
    · have ha := addr_of (hx 0 (by omega)).1
      obtain ⟨Z, hZ⟩ := choose_lt (α := Bool) (n := m) (p := fun i b => V i = .bool b) fun i hi => by
        obtain ⟨b, h1, _⟩ := DataW.trod_bool he (hx i hi).2
        exact ⟨b, by simpa using h1⟩
      refine ⟨(List.range len).map Z, Or.inr ⟨a.block, a.off, cap, ?_, ?_, fun k hk => ?_⟩⟩
      · simp only [List.length_map, List.length_range]; rw [hcs, ← ha]
      · simp only [List.length_map, List.length_range]; omega
      · simp only [List.length_map, List.length_range] at hk
        have h1 := (hx k (by omega)).1
        rw [ha, add_plain] at h1
        rw [h1, hZ k (by omega)]
        simp [hk]
end Go.Proofs.YtlacppjlclfpmaaGreat
