/- ScanJournal: the program. What 'append' and 'copy' of entries come to. Rows of inodes that grow by append, each with lists of its own; rows of inodes copied. Lists of inodes are marked, and the marks are held. Lists of lists of bytes, and file systems: the marks are held. Answers that hold a file system: compared, marked, held. The specification's copying of an inode and of a file system. What a journal has: the specification. ScanJournal: the specification. -/
import Derived.Test.YtpmndmkmfcoieaaM10
import Derived.Test.YtpmndmkmfcoieaaM11
import Derived.Test.YtpmndmkmfcoieaaM12
import Derived.Deep.Cut
import Derived.Deep.CutRange
import Derived.Test.YtpmndmkmfcoieaaM06
import Derived.Test.YtpmndmkmfcoieaaM08
import Derived.Test.YtpmndmkmfcoieaaM07
import Derived.Test.YtpmndmkmfcoieaaM01
namespace Go.Proofs.Ytpmndmkmfcoieaa
open Go.RowKit
set_option maxRecDepth 100000

theorem jrn_len {q : Int} {zs : List Int} (h : jrnB q zs = true) : 3 ≤ zs.length ∧ zs.length ≤ 13 := by
  unfold jrnB at h
  rw [Bool.and_eq_true] at h
  obtain ⟨h1, h2, h3⟩ := headB_len h.1
  rw [List.length_drop] at h3
  exact ⟨h1, by omega⟩
theorem lit3_ints (w : World) (x y z : Int) : Ints (w.alloc (.cells #[.int .i64 x, .int .i64 y, .int .i64 z] 2)) (.slice (some ⟨w.heap.size, 0, none⟩) 3 3) [x, y, z] := (Wds.own (Wds.lit w w.heap.size (Nat.le_refl _) [x, y, z] #[.int .i64 x, .int .i64 y, .int .i64 z] rfl 3 rfl (by omega)) (by simp) (Nat.le_refl _)).reads
theorem found_no {f : Nat → List Int} {q : Int} (h : jrnB q (f 1) = false) : foundB f q = false := by
  unfold jrnB at h
  unfold foundB
  cases h1 : headB q (f 1) with
  | false => rfl
  | true =>
    rw [h1, Bool.true_and] at h
    rw [h, Bool.and_false]; rfl
theorem found_eq {f : Nat → List Int} {q : Int} (h : jrnB q (f 1) = true) : foundB f q = decide (f (2 + ((f 1).length - 3)) = [2, q, (((f 1).length - 3 : Nat) : Int)]) := by
  unfold jrnB at h
  rw [Bool.and_eq_true] at h
  unfold foundB
  rw [h.1, h.2, Bool.true_and, Bool.and_true, List.length_drop]

set_option maxHeartbeats 3200000 in
theorem implScanU (w : World) (a1 : Option Addr) (n1 c1 : Nat) (a2 : Option Addr) (n2 c2 : Nat) (d : DK) (h : DiskR w (.slice a1 n1 c1) (.slice a2 n2 c2) d) (hs : sizeDisk d ≤ 1048576) :
    Calls Try.prog 42 #[.agg #[.slice a1 n1 c1, .slice a2 n2 c2]] w fun e w' => ∃ a n c, e = .returned (.agg #[.int .i64 (scanR d).1, .bool (scanR d).2.1, .slice a n c]) ∧ Below w.heap.size w w' ∧ PutsO w' (.slice a n c) (scanR d).2.2 (fresh w w') := by
  have HF : Hid (∀ W, Below w.heap.size w W → Calls Try.prog 43 #[.agg #[.slice a1 n1 c1, .slice a2 n2 c2]] W fun e w' => e = .returned (.agg #[.int .i64 (seqR d).1, .int .i64 (seqR d).2]) ∧ Below W.heap.size W w') := fun W hW => implSeqU W _ _ _ _ _ _ d (h.later hW) hs
  have HO : Hid ((seqR d).1 = 0 → ∀ W, Below w.heap.size w W → Calls Try.prog 59 #[.agg #[.slice a1 n1 c1, .slice a2 n2 c2]] W fun e w' => ∃ bd, e = .returned (.pointer (some ⟨bd, 0, none⟩)) ∧ Below W.heap.size W w' ∧ DrvK w' bd d) := fun hf W hW => open_drv (h.later hW) (sizF_zero (seqR_zero hf).1).1 hs
  have HBAD : Hid (¬ (seqR d).1 = 0 → scanR d = ((seqR d).1, false, [])) := scanR_bad
  have HBN : Hid ((seqR d).1 = 0 → d.1.length = 47) := fun h0 => (sizF_zero (seqR_zero h0).1).2
  have HNO : Hid ((seqR d).1 = 0 → foundB (fun k => atF d.1 d.2 k) (seqR d).2 = false → scanR d = (0, false, [])) := scanR_no
  have HYES : Hid ((seqR d).1 = 0 → foundB (fun k => atF d.1 d.2 k) (seqR d).2 = true → scanR d = (0, true, putsJ fun k => atF d.1 d.2 k)) := scanR_yes
  clear h
  generalize (seqR d).1 = r at *
  generalize (seqR d).2 = q at *
  generalize scanR d = RES at *
  have HB0 : Hid (Below w.heap.size w ((w.alloc (.cells #[.slice a1 n1 c1, .slice a2 n2 c2] 30)).alloc (.cells #[.int .i64 0, .bool false, .slice none 0 0] 75))) := later2 _ _ _
  have HX0 : Hid (Bx ((w.alloc (.cells #[.slice a1 n1 c1, .slice a2 n2 c2] 30)).alloc (.cells #[.int .i64 0, .bool false, .slice none 0 0] 75)) (w.heap.size) [.slice a1 n1 c1, .slice a2 n2 c2]) := (Bx.new w [.slice a1 n1 c1, .slice a2 n2 c2] _).later (later1 _ _)
  have HR0 : Hid (OwnRow ((w.alloc (.cells #[.slice a1 n1 c1, .slice a2 n2 c2] 30)).alloc (.cells #[.int .i64 0, .bool false, .slice none 0 0] 75)) (w.heap.size + 1) 3 (cel [.int .i64 0, .bool false, .slice none 0 0])) := (show OwnRow ((w.alloc (.cells #[.slice a1 n1 c1, .slice a2 n2 c2] 30)).alloc (.cells #[.int .i64 0, .bool false, .slice none 0 0] 75)) (w.heap.size + 1) 3 (cel [.int .i64 0, .bool false, .slice none 0 0]) from by have := newCel (w.alloc (.cells #[.slice a1 n1 c1, .slice a2 n2 c2] 30)) [.int .i64 0, .bool false, .slice none 0 0] 75; rw [World.size_alloc] at this; exact this)
  go_enter Try.func42, Try.ntmps42
  have xHX0 := HX0.out 0 _ rfl
  have xHX1 := HX0.out 1 _ rfl
  go_wp2_with fail
  clear xHX0 xHX1
  refine (HF.out _ HB0.out).mono ?_
  rintro e w1 ⟨rfl, hb⟩
  have hb' : Below ((w.alloc (.cells #[.slice a1 n1 c1, .slice a2 n2 c2] 30)).alloc (.cells #[.int .i64 0, .bool false, .slice none 0 0] 75)).heap.size ((w.alloc (.cells #[.slice a1 n1 c1, .slice a2 n2 c2] 30)).alloc (.cells #[.int .i64 0, .bool false, .slice none 0 0] 75)) (w1.alloc (.cells #[.int .i64 r, .int .i64 q] 64)) := hb.trans ((later1 _ _).mono hb.size)
  have HB1 : Hid (Below w.heap.size w (w1.alloc (.cells #[.int .i64 r, .int .i64 q] 64))) := HB0.out.trans (hb'.mono HB0.out.size)
  have HX1 : Hid (Bx (w1.alloc (.cells #[.int .i64 r, .int .i64 q] 64)) (w.heap.size) [.slice a1 n1 c1, .slice a2 n2 c2]) := HX0.out.later hb'
  have HR1 : Hid (OwnRow (w1.alloc (.cells #[.int .i64 r, .int .i64 q] 64)) (w.heap.size + 1) 3 (cel [.int .i64 0, .bool false, .slice none 0 0])) := HR0.out.later hb'
  clear hb hb'
  have HQ1 : Hid (Bx (w1.alloc (.cells #[.int .i64 r, .int .i64 q] 64)) w1.heap.size [.int .i64 r, .int .i64 q]) := Bx.new w1 [.int .i64 r, .int .i64 q] _
  by_cases hf : r = 0
  · skip
    replace HO : Hid _ := HO.out hf
    replace HBN : Hid _ := HBN.out hf
    replace HNO : Hid _ := HNO.out hf
    replace HYES : Hid _ := HYES.out hf
    clear HBAD HF
    subst hf
    have xHX0 := HX1.out 0 _ rfl
    have xHX1 := HX1.out 1 _ rfl
    have xHQ0 := HQ1.out 0 _ rfl
    have xHQ1 := HQ1.out 1 _ rfl
    go_wp2_with fail
    clear xHX0 xHX1 xHQ0 xHQ1
    refine (HO.out _ HB1.out).mono ?_
    rintro e w2 ⟨bd, rfl, hb, hdk⟩
    have HDK : Hid (DrvK w2 bd d) := hdk
    clear hdk
    have HB2 : Hid (Below w.heap.size w w2) := HB1.out.trans (hb.mono HB1.out.size)
    have HX2 : Hid (Bx w2 (w.heap.size) [.slice a1 n1 c1, .slice a2 n2 c2]) := HX1.out.later hb
    have HR2 : Hid (OwnRow w2 (w.heap.size + 1) 3 (cel [.int .i64 0, .bool false, .slice none 0 0])) := HR1.out.later hb
    have HQ2 : Hid (Bx w2 w1.heap.size [.int .i64 0, .int .i64 q]) := HQ1.out.later hb
    clear hb
    have HRD : Hid (∀ W, Below w2.heap.size w2 W → Calls Try.prog 64 #[.pointer (some ⟨bd, 0, none⟩), .int .i64 1] W fun e w' => ∃ a c, e = .returned (.slice a (atF d.1 d.2 1).length c) ∧ Below W.heap.size W w' ∧ IntsO w' (.slice a (atF d.1 d.2 1).length c) (atF d.1 d.2 1) (fresh W w') ∧ (atF d.1 d.2 1).length ≤ c) := fun W hW => read_drvC (HDK.out.later hW) 1 (by have := HBN.out; omega)
    have HPL : Hid (∀ W a c, (atF d.1 d.2 1).length ≤ c → Ints W (.slice a (atF d.1 d.2 1).length c) (atF d.1 d.2 1) → Calls Try.prog 65 #[.slice a (atF d.1 d.2 1).length c, .int .i64 q] W fun e w' => Below W.heap.size W w' ∧ ((jrnB q (atF d.1 d.2 1) = false ∧ e = .returned (.tuple #[.slice none 0 0, .bool false])) ∨ (jrnB q (atF d.1 d.2 1) = true ∧ ∃ b o' c', e = .returned (.tuple #[.slice (some ⟨b, o', none⟩) ((atF d.1 d.2 1).length - 3) c', .bool true]) ∧ At1 W (some ⟨b, o', none⟩) ((atF d.1 d.2 1).length - 3) (fun k => .int .i64 (((atF d.1 d.2 1).drop 3)[k]?.getD 0))))) := fun W a c hc hv => placesIn_any W a c q _ (atF_len HDK.out.hz HDK.out.hzp) hc hv
    cases hj : jrnB q (atF d.1 d.2 1) with
    | false =>
      replace HPL : Hid (∀ W a c, (atF d.1 d.2 1).length ≤ c → Ints W (.slice a (atF d.1 d.2 1).length c) (atF d.1 d.2 1) → Calls Try.prog 65 #[.slice a (atF d.1 d.2 1).length c, .int .i64 q] W fun e w' => e = .returned (.tuple #[.slice none 0 0, .bool false]) ∧ Below W.heap.size W w') := fun W a c h1 h2 => (HPL.out W a c h1 h2).mono fun e w' ⟨h3, h4⟩ => by
        rcases h4 with ⟨_, h5⟩ | ⟨h5, _⟩
        · exact ⟨h5, h3⟩
        · rw [hj] at h5; exact absurd h5 (by decide)
      have xHQ0 := HQ2.out 0 _ rfl
      have xHQ1 := HQ2.out 1 _ rfl
      go_wp2_with fail
      have HE : Hid (RES = (0, false, [])) := HNO.out (found_no hj)
      clear HNO HYES HO HDK HBN
      go_region_with (first | (go_at_call 64; refine (HRD.out _ (Below.refl _ _).drew).mono ?_; rintro e w3 ⟨az, cz, rfl, hb3, ho3, hc3⟩; have d1 := cell_later hb3 xHQ1) | (go_at_call 65; refine (HPL.out _ _ _ hc3 ho3.reads).mono ?_; rintro e w4 ⟨rfl, hb4⟩))
      all_goals
        have hb3' : Below w2.heap.size w2 w3 := (Below.refl _ _).drew.trans hb3
        have hb : Below w2.heap.size w2 w4 := hb3'.trans (hb4.mono hb3'.size)
        clear HRD HPL hb3 hb4 ho3 hc3 hb3' d1 xHQ0 xHQ1
        have HB3 : Hid (Below w.heap.size w w4) := HB2.out.trans (hb.mono HB2.out.size)
        have HX3 : Hid (Bx w4 (w.heap.size) [.slice a1 n1 c1, .slice a2 n2 c2]) := HX2.out.later hb
        have HR3 : Hid (OwnRow w4 (w.heap.size + 1) 3 (cel [.int .i64 0, .bool false, .slice none 0 0])) := HR2.out.later hb
        have HQ3 : Hid (Bx w4 w1.heap.size [.int .i64 0, .int .i64 q]) := HQ2.out.later hb
        clear hb
        go_wp2_with fail
        go_quiet (fail)
        have hb : Below w4.heap.size w4 (w4.drewN nq) := below_drewN (Below.refl _ _) nq
        have HB4 : Hid (Below w.heap.size w (w4.drewN nq)) := HB3.out.trans (hb.mono HB3.out.size)
        have HX4 : Hid (Bx (w4.drewN nq) (w.heap.size) [.slice a1 n1 c1, .slice a2 n2 c2]) := HX3.out.later hb
        have HR4 : Hid (OwnRow (w4.drewN nq) (w.heap.size + 1) 3 (cel [.int .i64 0, .bool false, .slice none 0 0])) := HR3.out.later hb
        have HQ4 : Hid (Bx (w4.drewN nq) w1.heap.size [.int .i64 0, .int .i64 q]) := HQ3.out.later hb
        clear hb
        have hrr := HR4.out
        have t0 : (w4.drewN nq).cell? ⟨w.heap.size + 1, 0, none⟩ = some (.int .i64 0) := hrr.cell (i := 0) (by omega)
        have t1 : (w4.drewN nq).cell? ⟨w.heap.size + 1, 1, none⟩ = some (.bool false) := hrr.cell (i := 1) (by omega)
        have t2 : (w4.drewN nq).cell? ⟨w.heap.size + 1, 2, none⟩ = some (.slice none 0 0) := hrr.cell (i := 2) (by omega)
        have f0 := hrr.frozen 0
        have f1 := hrr.frozen 1
        have f2 := hrr.frozen 2
        have hlr := hrr.lt
        clear hrr
        go_wp2
        exact bodyPost_ret (v := .agg #[.int .i64 0, .bool false, .slice none 0 0]) (by simp [results, Try.results42, go_sem, t0, t1, t2]) rfl (⟨none, 0, 0, by rw [HE.out], (((HB4.out).setCell (by first | omega | (simp <;> omega)) _).setCell (by first | omega | (simp <;> omega)) _).setCell (by first | omega | (simp <;> omega)) _, by rw [HE.out]; exact Or.inl ⟨rfl, none, 0, rfl⟩⟩)
    | true =>
      have hjl := jrn_len hj
      replace HPL : Hid (∀ W a c, (atF d.1 d.2 1).length ≤ c → Ints W (.slice a (atF d.1 d.2 1).length c) (atF d.1 d.2 1) → Calls Try.prog 65 #[.slice a (atF d.1 d.2 1).length c, .int .i64 q] W fun e w' => ∃ b o' c', e = .returned (.tuple #[.slice (some ⟨b, o', none⟩) ((atF d.1 d.2 1).length - 3) c', .bool true]) ∧ Below W.heap.size W w' ∧ At1 W (some ⟨b, o', none⟩) ((atF d.1 d.2 1).length - 3) (fun k => .int .i64 (((atF d.1 d.2 1).drop 3)[k]?.getD 0))) := fun W a c h1 h2 => (HPL.out W a c h1 h2).mono fun e w' ⟨h3, h4⟩ => by
        rcases h4 with ⟨h5, _⟩ | ⟨_, b, o', c', h6, h7⟩
        · rw [hj] at h5; exact absurd h5 (by decide)
        · exact ⟨b, o', c', h6, h3, h7⟩
      have HPL' : Hid (((atF d.1 d.2 1).drop 3).length = (atF d.1 d.2 1).length - 3) := by unfold Hid; simp
      have HRW : Hid (∀ W (k : Nat), k ≤ 12 → Below w2.heap.size w2 W → Calls Try.prog 64 #[.pointer (some ⟨bd, 0, none⟩), .int .i64 (k : Int)] W fun e w' => ∃ a c, e = .returned (.slice a (atF d.1 d.2 k).length c) ∧ Below W.heap.size W w' ∧ IntsO w' (.slice a (atF d.1 d.2 k).length c) (atF d.1 d.2 k) (fresh W w') ∧ (atF d.1 d.2 k).length ≤ c) := fun W k hk hW => read_drvC (HDK.out.later hW) k (by have := HBN.out; omega)
      have hm10 : (atF d.1 d.2 1).length - 3 ≤ 10 := by omega
      have HFY : Hid (foundB (fun k => atF d.1 d.2 k) q = decide (atF d.1 d.2 ((2 + ((atF d.1 d.2 1).length - 3) : Nat) : Int) = [2, q, (((atF d.1 d.2 1).length - 3 : Nat) : Int)])) := found_eq hj
      have HPJ : Hid (∀ i, i < (atF d.1 d.2 1).length - 3 → (putsJ fun k => atF d.1 d.2 k)[i]?.getD (0, []) = (((atF d.1 d.2 1).drop 3)[i]?.getD 0, atF d.1 d.2 ((2 + i : Nat) : Int))) := fun i hi => putsJ_get _ i (by rw [show ((atF d.1 d.2 ((1 : Nat) : Int)).drop 3).length = (atF d.1 d.2 1).length - 3 from HPL'.out]; exact hi)
      have HPN : Hid ((putsJ fun k => atF d.1 d.2 k).length = (atF d.1 d.2 1).length - 3) := by unfold Hid; rw [putsJ_len]; exact HPL'.out
      have hl1 : (atF d.1 d.2 1).length = (atF d.1 d.2 1).length - 3 + 3 := by omega
      clear HPL' hjl hj HDK HBN
      generalize (putsJ fun k => atF d.1 d.2 k) = PJ at *
      generalize foundB (fun k => atF d.1 d.2 k) q = FB at *
      generalize hmm : (atF d.1 d.2 1).length - 3 = m at *
      rw [hl1] at HRD HPL
      clear hmm hl1
      generalize (atF d.1 d.2 1).drop 3 = zs at *
      generalize atF d.1 d.2 1 = hz at *
      have xHQ0 := HQ2.out 0 _ rfl
      have xHQ1 := HQ2.out 1 _ rfl
      go_wp2_with fail
      go_cut [5, 6] from 22 (fun s5 s6 wx => ∃ bp op cp, s5 = .slice (some ⟨bp, op, none⟩) m cp ∧ s6 = .bool true ∧ Below w2.heap.size w2 wx ∧ At1 wx (some ⟨bp, op, none⟩) m (fun k => .int .i64 (zs[k]?.getD 0)))
      case first =>
        go_wp2_with fail
        go_region_with (first | (go_at_call 64; refine (HRD.out _ (Below.refl _ _).drew).mono ?_; rintro e w3 ⟨az, cz, rfl, hb3, ho3, hc3⟩; have d1 := cell_later hb3 xHQ1) | (go_at_call 65; refine (HPL.out _ _ _ hc3 ho3.reads).mono ?_; rintro e w4 ⟨bp, op, cp, rfl, hb4, hp4⟩))
        all_goals
          have hb3' : Below w2.heap.size w2 w3 := (Below.refl _ _).drew.trans hb3
          have HB4' : Hid (Below w2.heap.size w2 w4) := hb3'.trans (hb4.mono hb3'.size)
          have HPS' : Hid (At1 w4 (some ⟨bp, op, none⟩) m (fun k => .int .i64 (zs[k]?.getD 0))) := fun k hk => by
            obtain ⟨b1, o1, e1, h1⟩ := hp4 k hk
            exact ⟨b1, o1, e1, cell_later hb4 h1⟩
          clear HRD HPL hb3 hb4 ho3 hc3 hb3' d1 xHQ0 xHQ1 hp4
          go_wp2
          go_meet
          case rel => exact ⟨_, _, _, rfl, rfl, HB4'.out, HPS'.out⟩
      case rest =>
        obtain ⟨bp, op, cp, rfl, rfl, hb, hps⟩ := hcut
        have HPS : Hid (At1 wc (some ⟨bp, op, none⟩) m (fun k => .int .i64 (zs[k]?.getD 0))) := hps
        have HBC : Hid (Below w2.heap.size w2 wc) := hb
        clear HRD HPL hps xHQ0 xHQ1
        obtain ⟨w5, rfl⟩ : ∃ w5, w5 = wc := ⟨_, rfl⟩
        have HB3 : Hid (Below w.heap.size w w5) := HB2.out.trans (hb.mono HB2.out.size)
        have HX3 : Hid (Bx w5 (w.heap.size) [.slice a1 n1 c1, .slice a2 n2 c2]) := HX2.out.later hb
        have HR3 : Hid (OwnRow w5 (w.heap.size + 1) 3 (cel [.int .i64 0, .bool false, .slice none 0 0])) := HR2.out.later hb
        have HQ3 : Hid (Bx w5 w1.heap.size [.int .i64 0, .int .i64 q]) := HQ2.out.later hb
        clear hb
        have HEQ : Hid (∀ W v w1, Ints W v (atF d.1 d.2 ((2 + m : Nat) : Int)) → Ints W w1 [2, q, (m : Int)] → Calls Try.prog 66 #[v, w1] W fun e w' => e = .returned (.bool FB) ∧ ∃ m, w' = W.drewN m) := fun W v w1 h1 h2 => by rw [HFY.out]; exact equalI_any h1 h2
        replace HRW : Hid (∀ W (k : Nat), k ≤ 12 → Below w5.heap.size w5 W → Calls Try.prog 64 #[.pointer (some ⟨bd, 0, none⟩), .int .i64 (k : Int)] W fun e w' => ∃ a c, e = .returned (.slice a (atF d.1 d.2 k).length c) ∧ Below W.heap.size W w' ∧ IntsO w' (.slice a (atF d.1 d.2 k).length c) (atF d.1 d.2 k) (fresh W w') ∧ (atF d.1 d.2 k).length ≤ c) := fun W k hk hW => HRW.out W k hk (HBC.out.trans (hW.mono HBC.out.size))
        clear HFY
        have xHQ0 := HQ3.out 0 _ rfl
        have xHQ1 := HQ3.out 1 _ rfl
        go_wp2_with fail
        go_cut [45] from 32 (fun s45 wx => s45 = .bool (!FB) ∧ Below w5.heap.size w5 wx)
        case first =>
          go_wp2_with fail
          go_region_with (first | (go_at_call 67; refine (commitRow_any _ m (by omega)).mono ?_; rintro e w9 ⟨rfl, rfl⟩) | (go_at_call 64; refine (HRW.out _ (2 + m) (by omega) (Below.refl _ _).drew).mono ?_; rintro e w6 ⟨a6, c6, rfl, hb6, ho6, hc6⟩; have d1 := cell_later hb6 xHQ1) | (go_at_call 68; refine (commitWords_any _ q m).mono ?_; rintro e w7 ⟨rfl, rfl⟩) | (go_at_call 66; refine (HEQ.out _ _ _ (ho6.reads.later (later1 _ _)) (lit3_ints _ _ _ _)).mono ?_; rintro e w8 ⟨rfl, m8, rfl⟩))
          all_goals
            have HB7 : Hid (Below w5.heap.size w5 w6) := (Below.refl _ _).drew.trans hb6
            have HB8 : Hid (Below w5.heap.size w5 ((w6.alloc (.cells #[.int .i64 2, .int .i64 q, .int .i64 (m : Int)] 2)).drewN m8)) := below_drewN (HB7.out.trans ((later1 _ _).mono HB7.out.size)) m8
            clear HRW HEQ hb6 ho6 hc6 d1 xHQ0 xHQ1 HB7
            go_wp2
            go_meet
            case rel => exact ⟨rfl, HB8.out⟩
        case rest =>
          obtain ⟨rfl, hb⟩ := hcut
          have HBW : Hid (Below w5.heap.size w5 wc) := hb
          replace HPS : Hid (At1 wc (some ⟨bp, op, none⟩) m (fun k => .int .i64 (zs[k]?.getD 0))) := fun k hk => by
            obtain ⟨b1, o1, e1, h1⟩ := HPS.out k hk
            exact ⟨b1, o1, e1, cell_later hb h1⟩
          clear xHQ0 xHQ1 HEQ
          have HB4 : Hid (Below w.heap.size w wc) := HB3.out.trans (hb.mono HB3.out.size)
          have HX4 : Hid (Bx wc (w.heap.size) [.slice a1 n1 c1, .slice a2 n2 c2]) := HX3.out.later hb
          have HR4 : Hid (OwnRow wc (w.heap.size + 1) 3 (cel [.int .i64 0, .bool false, .slice none 0 0])) := HR3.out.later hb
          have HQ4 : Hid (Bx wc w1.heap.size [.int .i64 0, .int .i64 q]) := HQ3.out.later hb
          clear hb
          cases hk : FB with
          | false =>
            have HE : Hid (RES = (0, false, [])) := HNO.out hk
            subst hk
            clear HNO HYES HRW HPJ HPN HPS
            have hrr := HR4.out
            have t0 : wc.cell? ⟨w.heap.size + 1, 0, none⟩ = some (.int .i64 0) := hrr.cell (i := 0) (by omega)
            have t1 : wc.cell? ⟨w.heap.size + 1, 1, none⟩ = some (.bool false) := hrr.cell (i := 1) (by omega)
            have t2 : wc.cell? ⟨w.heap.size + 1, 2, none⟩ = some (.slice none 0 0) := hrr.cell (i := 2) (by omega)
            have f0 := hrr.frozen 0
            have f1 := hrr.frozen 1
            have f2 := hrr.frozen 2
            have hlr := hrr.lt
            clear hrr
            go_wp2
            exact bodyPost_ret (v := .agg #[.int .i64 0, .bool false, .slice none 0 0]) (by simp [results, Try.results42, go_sem, t0, t1, t2]) rfl (⟨none, 0, 0, by rw [HE.out], (((HB4.out).setCell (by first | omega | (simp <;> omega)) _).setCell (by first | omega | (simp <;> omega)) _).setCell (by first | omega | (simp <;> omega)) _, by rw [HE.out]; exact Or.inl ⟨rfl, none, 0, rfl⟩⟩)
          | true =>
            have HE : Hid (RES = (0, true, PJ)) := HYES.out hk
            subst hk
            replace HRW : Hid (∀ W (k : Nat), k ≤ 12 → Below wc.heap.size wc W → Calls Try.prog 64 #[.pointer (some ⟨bd, 0, none⟩), .int .i64 (k : Int)] W fun e w' => ∃ a n c, e = .returned (.slice a n c) ∧ Below W.heap.size W w' ∧ IntsO w' (.slice a n c) (atF d.1 d.2 k) (fresh W w')) := fun W k hk hW => (HRW.out W k hk (HBW.out.trans (hW.mono HBW.out.size))).mono fun e w' ⟨a, c, h1, h2, h3, _⟩ => ⟨a, _, c, h1, h2, h3⟩
            have HJR : Hid (∀ W (j : Nat), j ≤ 12 → Calls Try.prog 69 #[.int .i64 ((j : Int) + 1)] W fun e w' => e = .returned (.int .i64 ((2 + j : Nat) : Int)) ∧ w' = W) := fun W j hj => by
              have h := journalRow_any W (j + 1) (by omega)
              rw [show 1 + (j + 1) = 2 + j by omega, Int.natCast_add j 1] at h
              exact h
            clear HNO HYES HBW
            go_wp2
            go_loopw [8, 49] (fun s i wr => ∃ (j : Nat) (u : Nat → List Value) (G : Nat → Nat → Prop), j ≤ m ∧ i = .int .i64 j ∧ Below wc.heap.size wc wr ∧ GRow PutP wr wc.heap.size 72 2 s j (fun k => PJ[k]?.getD (0, [])) u G) (fun _ i _ => m - (intOf i).toNat)
            case atStart => exact ⟨0, _, _, Nat.zero_le _, rfl, Below.refl _ _, GRow.nil wc _ _ _ _⟩
            case round =>
              obtain ⟨j, u, G, hj, rfl, hbl, hrow⟩ := hrel
              obtain ⟨aQ, cQ, rfl⟩ := hrow.shape
              have HBL : Hid (Below wc.heap.size wc wr) := hbl
              have HRX : Hid (GRow PutP wr wc.heap.size 72 2 (.slice aQ j cQ) j (fun k => PJ[k]?.getD (0, [])) u G) := hrow
              clear hrow
              by_cases hlt : j < m
              · have HGJ : Hid (PJ[j]?.getD (0, []) = (zs[j]?.getD 0, atF d.1 d.2 ((2 + j : Nat) : Int))) := HPJ.out j hlt
                have HTJ : Hid (Calls Try.prog 64 #[.pointer (some ⟨bd, 0, none⟩), .int .i64 ((2 + j : Nat) : Int)] wr _) := HRW.out wr (2 + j) (by omega) hbl
                obtain ⟨b, off, eb, k0⟩ := HPS.out j hlt
                simp only [Option.some.injEq, Addr.mk.injEq, and_true] at eb
                obtain ⟨rfl, rfl⟩ := eb
                replace k0 := cell_later hbl k0
                dsimp only at k0
                clear hbl HRW
                generalize zs[j]?.getD 0 = z at *
                generalize atF d.1 d.2 ((2 + j : Nat) : Int) = ws at *
                go_wp2_with fail
                refine (HJR.out _ j (by omega)).mono ?_
                rintro e wj ⟨rfl, rfl⟩
                go_wp2_with fail
                refine HTJ.out.mono ?_
                rintro e wk ⟨av, n, cv, rfl, hb1, ho⟩
                obtain ⟨_, _, ev, _⟩ := ho.reads.shape
                simp only [Value.slice.injEq] at ev
                obtain ⟨-, hm, -⟩ := ev
                obtain ⟨g, cap, X, u', G', hr, hbx, _, hgx, -⟩ := append_putG _ wk wc.heap.size j _ _ u G HRX.out HBL.out.size (by omega) hb1 z av n cv ws HGJ.out _ (fun c hc => hc) hm ho wk.heap.size rfl
                have HR : Hid (_ = _) := hr
                have HBX : Hid (Below wc.heap.size wc X) := (HBL.out.trans hbx)
                have HGX : Hid (GRow PutP X wc.heap.size 72 2 _ (j + 1) (fun k => PJ[k]?.getD (0, [])) u' G') := hgx
                clear hr hbx hgx hb1 ho HRX HGJ HTJ hm k0
                go_wp2_with (at_builtin; refine wpList_append_run rfl _ _ 28 rfl _ _ rfl rfl _ _ HR.out ?_)
                go_roundw
                case rel =>
                  exact ⟨_, _, _, _, _, _, _, _, _, _, _, _, _, _, _, _, _, _, _, ⟨j + 1, _, _, by omega, by go_num, HBX.out, HGX.out⟩, rfl⟩
                case measure => simp [intOf]; omega
              · have e : j = m := by omega
                subst e
                have HF : Hid (PutsO wr (.slice aQ j cQ) PJ (fun b => w.heap.size + 1 < b ∧ b < wr.heap.size)) := HRX.out.puts HPN.out _ fun c h1 h2 => ⟨by have := HR4.out.lt; omega, h2⟩
                have hb := HBL.out
                clear HRX HPS HPJ HRW HJR hbl
                have HB5 : Hid (Below w.heap.size w wr) := HB4.out.trans (hb.mono HB4.out.size)
                have HX5 : Hid (Bx wr (w.heap.size) [.slice a1 n1 c1, .slice a2 n2 c2]) := HX4.out.later hb
                have HR5 : Hid (OwnRow wr (w.heap.size + 1) 3 (cel [.int .i64 0, .bool false, .slice none 0 0])) := HR4.out.later hb
                have HQ5 : Hid (Bx wr w1.heap.size [.int .i64 0, .int .i64 q]) := HQ4.out.later hb
                clear hb
                have hrr := HR5.out
                have t0 : wr.cell? ⟨w.heap.size + 1, 0, none⟩ = some (.int .i64 0) := hrr.cell (i := 0) (by omega)
                have t1 : wr.cell? ⟨w.heap.size + 1, 1, none⟩ = some (.bool false) := hrr.cell (i := 1) (by omega)
                have t2 : wr.cell? ⟨w.heap.size + 1, 2, none⟩ = some (.slice none 0 0) := hrr.cell (i := 2) (by omega)
                have f0 := hrr.frozen 0
                have f1 := hrr.frozen 1
                have f2 := hrr.frozen 2
                have hlr := hrr.lt
                clear hrr
                go_wp2
                exact bodyPost_ret (v := .agg #[.int .i64 0, .bool true, .slice aQ j cQ]) (by simp [results, Try.results42, go_sem, t0, t1, t2]) rfl (⟨aQ, j, cQ, by rw [HE.out], (((HB5.out).setCell (by first | omega | (simp <;> omega)) _).setCell (by first | omega | (simp <;> omega)) _).setCell (by first | omega | (simp <;> omega)) _, by rw [HE.out]; exact (((HF.out.store (fun b hb => by have := hb.1; show b ≠ w.heap.size + 1; omega) _).store (fun b hb => by have := hb.1; show b ≠ w.heap.size + 1; omega) _).store (fun b hb => by have := hb.1; show b ≠ w.heap.size + 1; omega) _).mono fun b hb => ⟨by omega, by simpa [World.setCell] using hb.2⟩⟩)
  · skip
    have hfb : (r != 0) = true := by simpa using hf
    have HE : Hid (RES = (r, false, [])) := HBAD.out hf
    clear HBAD HNO HYES HO HBN HF hf
    have xHQ0 := HQ1.out 0 _ rfl
    have xHQ1 := HQ1.out 1 _ rfl
    have hrr := HR1.out
    have t0 : (w1.alloc (.cells #[.int .i64 r, .int .i64 q] 64)).cell? ⟨w.heap.size + 1, 0, none⟩ = some (.int .i64 0) := hrr.cell (i := 0) (by omega)
    have t1 : (w1.alloc (.cells #[.int .i64 r, .int .i64 q] 64)).cell? ⟨w.heap.size + 1, 1, none⟩ = some (.bool false) := hrr.cell (i := 1) (by omega)
    have t2 : (w1.alloc (.cells #[.int .i64 r, .int .i64 q] 64)).cell? ⟨w.heap.size + 1, 2, none⟩ = some (.slice none 0 0) := hrr.cell (i := 2) (by omega)
    have f0 := hrr.frozen 0
    have f1 := hrr.frozen 1
    have f2 := hrr.frozen 2
    have hlr := hrr.lt
    clear hrr
    go_wp2
    exact bodyPost_ret (v := .agg #[.int .i64 r, .bool false, .slice none 0 0]) (by simp [results, Try.results42, go_sem, t0, t1, t2]) rfl (⟨none, 0, 0, by rw [HE.out], (((HB1.out).setCell (by first | omega | (simp <;> omega)) _).setCell (by first | omega | (simp <;> omega)) _).setCell (by first | omega | (simp <;> omega)) _, by rw [HE.out]; exact Or.inl ⟨rfl, none, 0, rfl⟩⟩)

end Go.Proofs.Ytpmndmkmfcoieaa

namespace Go.Proofs.Ytpmndmkmfcoieaa
open Go.RowKit
set_option maxRecDepth 100000

/-- The cells of entries, one behind the other. -/
def enCells (es : List EN) : List Value := es.flatMap fun e => [.string e.1, .int .i64 e.2]
theorem enCells_length (es : List EN) : (enCells es).length = es.length * 2 := by
  induction es with
  | nil => rfl
  | cons a t ih =>
    have : enCells (a :: t) = [.string a.1, .int .i64 a.2] ++ enCells t := by simp [enCells]
    rw [this, List.length_append, ih]
    simp [Nat.add_mul]
    omega
theorem enCells_append (es fs : List EN) : enCells (es ++ fs) = enCells es ++ enCells fs := by simp [enCells]
theorem enCells_get (es : List EN) (j : Nat) (h : j < es.length * 2) : (enCells es)[j]? = some (enCell es j) := by
  induction es generalizing j with
  | nil => simp at h
  | cons a t ih =>
    have e : enCells (a :: t) = .string a.1 :: .int .i64 a.2 :: enCells t := by simp [enCells]
    rw [e]
    match j with
    | 0 => simp [enCell]
    | 1 => simp [enCell]
    | j + 2 =>
      simp only [List.getElem?_cons_succ]
      rw [ih j (by simp at h; omega)]
      unfold enCell
      have h1 : (j + 2) % 2 = j % 2 := by omega
      have h2 : (j + 2) / 2 = j / 2 + 1 := by omega
      rw [h1, h2]
      simp
theorem enCells_one (es : List EN) : ∀ u ∈ enCells es, u.oneCell' = true := by
  intro u hu
  simp only [enCells, List.mem_flatMap] at hu
  obtain ⟨e, _, hu⟩ := hu
  simp at hu
  rcases hu with rfl | rfl <;> rfl
theorem AtN.cells {w : World} {b off n : Nat} {es : List EN} (h : AtN w (some ⟨b, off, none⟩) n es) (hn : es.length = n) (j : Nat) (u : Value) (hu : (enCells es)[j]? = some u) : w.cell? ((⟨b, off, none⟩ : Addr).add j) = some u := by
  have hj : j < es.length * 2 := by rw [← enCells_length]; exact (List.getElem?_eq_some_iff.1 hu).1
  rw [enCells_get es j hj] at hu
  simp only [Option.some.injEq] at hu
  subst hu
  obtain ⟨b', off', e, c0, c1⟩ := h (j / 2) (by omega)
  simp only [Option.some.injEq, Addr.mk.injEq, and_true] at e
  obtain ⟨rfl, rfl⟩ := e
  rw [add_plain']
  have : j % 2 = 0 ∨ j % 2 = 1 := by omega
  unfold enCell
  rcases this with e | e
  · rw [if_pos e, ← c0, show off + j = off + j / 2 * 2 by omega]
  · rw [if_neg (by omega), ← c1, show off + j = off + j / 2 * 2 + 1 by omega]
end Go.Proofs.Ytpmndmkmfcoieaa

namespace Go.Proofs.Ytpmndmkmfcoieaa
open Go.RowKit
set_option maxRecDepth 100000

/-- The cells of one inode. -/
def C5 (d : ID) (u : Value × Value) : List Value := [.int .i64 d.1, .int .i64 d.2.1, .int .i64 d.2.2.1, u.1, u.2]
def inCells (ds : Nat → ID) (u : Nat → Value × Value) (n : Nat) : List Value := (List.range n).flatMap fun i => C5 (ds i) (u i)
theorem inCells_length (ds : Nat → ID) (u : Nat → Value × Value) (n : Nat) : (inCells ds u n).length = n * 5 := by
  unfold inCells
  induction n with
  | zero => simp
  | succ n ih => rw [List.range_succ, List.flatMap_append, List.length_append, ih]; simp [C5, Nat.add_mul]
theorem inCells_succ (ds : Nat → ID) (u : Nat → Value × Value) (n : Nat) : inCells ds u (n + 1) = inCells ds u n ++ C5 (ds n) (u n) := by
  unfold inCells
  rw [List.range_succ, List.flatMap_append]
  simp
theorem inCells_congr {ds : Nat → ID} {u u' : Nat → Value × Value} {n : Nat} (h : ∀ i, i < n → u i = u' i) : inCells ds u n = inCells ds u' n := by
  unfold inCells
  have e0 : (List.range n).map (fun i => C5 (ds i) (u i)) = (List.range n).map (fun i => C5 (ds i) (u' i)) := List.map_congr_left fun i hi => by rw [h i (List.mem_range.1 hi)]
  rw [List.flatMap_def, List.flatMap_def, e0]
theorem inCells_get (l : List ID) (u : Nat → Value × Value) (n : Nat) : ∀ c, c < n * 5 → (inCells (fun i => l[i]?.getD id0) u n)[c]? = some (inCell l u c) := by
  induction n with
  | zero => intro c hc; omega
  | succ n ih =>
    intro c hc
    rw [inCells_succ]
    by_cases h : c < n * 5
    · rw [List.getElem?_append_left (by rw [inCells_length]; exact h)]
      exact ih c h
    · rw [List.getElem?_append_right (by rw [inCells_length]; omega), inCells_length]
      have : c = n * 5 ∨ c = n * 5 + 1 ∨ c = n * 5 + 2 ∨ c = n * 5 + 3 ∨ c = n * 5 + 4 := by omega
      rcases this with e | e | e | e | e
      · subst e; rw [Nat.sub_self, inCell_0]; rfl
      · subst e; rw [show n * 5 + 1 - n * 5 = 1 by omega, inCell_1]; rfl
      · subst e; rw [show n * 5 + 2 - n * 5 = 2 by omega, inCell_2]; rfl
      · subst e; rw [show n * 5 + 3 - n * 5 = 3 by omega, inCell_3]; rfl
      · subst e; rw [show n * 5 + 4 - n * 5 = 4 by omega, inCell_4]; rfl
end Go.Proofs.Ytpmndmkmfcoieaa

namespace Go.Proofs.Ytpmndmkmfcoieaa
open Go.RowKit
set_option maxRecDepth 100000

/-- An inode marked from N on. -/
def mkI (N : Nat) (d : ID) : ID := (((N : Nat) : Int), ((N : Nat) : Int) + 1, ((N : Nat) : Int) + 1 + 1, marks (((N : Nat) : Int) + 1 + 1 + 1) d.2.2.2.1.length, marksN (N + 3 + d.2.2.2.1.length) d.2.2.2.2.length)
def mkIns (k : Nat) (ds : List ID) : List ID := (List.range ds.length).map fun i => mkI (inum k ds i) (ds[i]?.getD id0)
theorem mkIns_length (k : Nat) (ds : List ID) : (mkIns k ds).length = ds.length := by simp [mkIns]
theorem mkIns_get (k : Nat) (ds : List ID) {i : Nat} (hi : i < ds.length) : (mkIns k ds)[i]?.getD id0 = mkI (inum k ds i) (ds[i]?.getD id0) := by
  unfold mkIns; rw [List.getElem?_map, List.getElem?_range hi]; rfl
theorem inum_next (k : Nat) (ds : List ID) (hk : k + spanInos ds ≤ 4294967296) (j : Nat) (hj : j < ds.length) : inum k ds j + 3 + (ds[j]?.getD id0).2.2.2.1.length + 2 * (ds[j]?.getD id0).2.2.2.2.length = inum k ds (j + 1) ∧ inum k ds (j + 1) ≤ 4294967296 := by
  have h1 := upto_succ (isp ds) j (by rw [isp_length]; omega)
  rw [isp_get ds j hj] at h1
  have h2 := upto_le (isp ds) (j + 1)
  have h3 : spanIno (ds[j]?.getD id0) = (ds[j]?.getD id0).2.2.2.1.length + 2 * (ds[j]?.getD id0).2.2.2.2.length := rfl
  have h4 : spanInos ds = (isp ds).sum := rfl
  unfold inum
  omega
theorem inum_all (k : Nat) (ds : List ID) : inum k ds ds.length = k + spanInos ds := by
  have := upto_all (isp ds)
  rw [isp_length] at this
  unfold inum spanInos
  rw [this]

/-- The list of which the first j are marked. -/
def halfI (k : Nat) (ds : List ID) (j : Nat) : List ID := (List.range ds.length).map fun i => if i < j then mkI (inum k ds i) (ds[i]?.getD id0) else ds[i]?.getD id0
theorem halfI_length (k : Nat) (ds : List ID) (j : Nat) : (halfI k ds j).length = ds.length := by simp [halfI]
theorem halfI_get (k : Nat) (ds : List ID) (j : Nat) {i : Nat} (hi : i < ds.length) : (halfI k ds j)[i]?.getD id0 = if i < j then mkI (inum k ds i) (ds[i]?.getD id0) else ds[i]?.getD id0 := by
  unfold halfI; rw [List.getElem?_map, List.getElem?_range hi]; rfl
theorem halfI_zero (k : Nat) (ds : List ID) : halfI k ds 0 = ds := by
  apply List.ext_getElem?
  intro i
  unfold halfI
  rw [List.getElem?_map]
  by_cases hi : i < ds.length
  · rw [List.getElem?_range hi]; simp [List.getElem?_eq_getElem hi]
  · rw [List.getElem?_eq_none (by simpa using Nat.le_of_not_lt hi), List.getElem?_eq_none (by omega)]; rfl
theorem halfI_all (k : Nat) (ds : List ID) : halfI k ds ds.length = mkIns k ds := by
  unfold halfI mkIns
  apply List.map_congr_left
  intro i hi
  rw [if_pos (List.mem_range.1 hi)]
structure HalfM (w : World) (b n : Nat) (cs : List ID) (u : Nat → Value × Value) (F1 G1 : Nat → Nat → Prop) : Prop where
  row : OwnRow w b (n * 5) (inCell cs u)
  ints : ∀ i, i < n → IntsO w (u i).1 (cs[i]?.getD id0).2.2.2.1 (F1 i)
  ents : ∀ i, i < n → EntsO w (u i).2 (cs[i]?.getD id0).2.2.2.2 (G1 i)
/-- Three cells of one inode turned. -/
theorem inCell_three (cs cs' : List ID) (u : Nat → Value × Value) (j : Nat) (x0 x1 x2 : Int) (h0 : ∀ i, i ≠ j → (cs'[i]?.getD id0) = (cs[i]?.getD id0)) (e0 : (cs'[j]?.getD id0).1 = x0) (e1 : (cs'[j]?.getD id0).2.1 = x1) (e2 : (cs'[j]?.getD id0).2.2.1 = x2) (c : Nat) :
    (if c = j * 5 + 2 then .int .i64 x2 else if c = j * 5 + 1 then .int .i64 x1 else if c = j * 5 then .int .i64 x0 else inCell cs u c) = inCell cs' u c := by
  by_cases hj : c / 5 = j
  · unfold inCell
    rw [hj, e0, e1, e2]
    by_cases h0 : c % 5 = 0
    · rw [if_neg (by omega), if_neg (by omega), if_pos (by omega), if_pos h0]
    · by_cases h1 : c % 5 = 1
      · rw [if_neg (by omega), if_pos (by omega), if_neg h0, if_pos h1]
      · by_cases h2 : c % 5 = 2
        · rw [if_pos (by omega), if_neg h0, if_neg h1, if_pos h2]
        · rw [if_neg (by omega), if_neg (by omega), if_neg (by omega), if_neg h0, if_neg h1, if_neg h2, if_neg h0, if_neg h1, if_neg h2]
  · rw [if_neg (by omega), if_neg (by omega), if_neg (by omega)]
    unfold inCell
    rw [h0 _ hj]

end Go.Proofs.Ytpmndmkmfcoieaa

namespace Go.Proofs.Ytpmndmkmfcoieaa
open Go.RowKit
set_option maxRecDepth 100000

def ynum (k : Nat) (zss : List (List UInt8)) (j : Nat) : Nat := k + upto (ylens zss) j
def mkYs (k : Nat) (zss : List (List UInt8)) : List (List UInt8) := (List.range zss.length).map fun i => mkByt ((ynum k zss i : Nat) : Int) (zss[i]?.getD [])
theorem mkYs_length (k : Nat) (zss : List (List UInt8)) : (mkYs k zss).length = zss.length := by simp [mkYs]
theorem mkYs_get (k : Nat) (zss : List (List UInt8)) {i : Nat} (hi : i < zss.length) : (mkYs k zss)[i]?.getD [] = mkByt ((ynum k zss i : Nat) : Int) (zss[i]?.getD []) := by
  unfold mkYs; rw [List.getElem?_map, List.getElem?_range hi]; rfl
theorem ynum_next (k : Nat) (zss : List (List UInt8)) (j : Nat) (hj : j < zss.length) : ynum k zss (j + 1) = ynum k zss j + (zss[j]?.getD []).length ∧ ynum k zss (j + 1) ≤ k + (ylens zss).sum := by
  have h1 := upto_succ (ylens zss) j (by rw [ylens_length]; exact hj)
  rw [ylens_get] at h1
  have h2 := upto_le (ylens zss) (j + 1)
  unfold ynum
  omega
theorem ynum_all (k : Nat) (zss : List (List UInt8)) : ynum k zss zss.length = k + (ylens zss).sum := by
  have := upto_all (ylens zss)
  rw [ylens_length] at this
  unfold ynum
  rw [this]
def halfY (k : Nat) (zss : List (List UInt8)) (j i : Nat) : List UInt8 := if i < j then mkByt ((ynum k zss i : Nat) : Int) (zss[i]?.getD []) else zss[i]?.getD []
end Go.Proofs.Ytpmndmkmfcoieaa

namespace Go.Proofs.Ytpmndmkmfcoieaa
open Go.RowKit
set_option maxRecDepth 100000

open Classical in
theorem pickQ {α : Type} [Inhabited α] {n : Nat} {P : Nat → α → Prop} (h : ∀ i, i < n → ∃ q, P i q) : ∃ f : Nat → α, ∀ i, i < n → P i (f i) :=
  ⟨fun i => if hi : i < n then Classical.choose (h i hi) else default, fun i hi => by dsimp only; rw [dif_pos hi]; exact Classical.choose_spec (h i hi)⟩
def mkFs (k : Int) (d : FD) : FD := (mkIns k.toNat d.1, mkYs (k.toNat + spanInos d.1) d.2)
/-- Answers that are a code and a file system. -/
def AnsFR (w : World) (r : Int × FD) (e : Ending) (w' : World) : Prop := ∃ a1 n1 c1 a2 n2 c2, e = .returned (.agg #[.int .i64 r.1, .slice a1 n1 c1, .slice a2 n2 c2]) ∧ Below w.heap.size w w' ∧ FsU w' (.slice a1 n1 c1) (.slice a2 n2 c2) r.2 (fresh w w')
end Go.Proofs.Ytpmndmkmfcoieaa

namespace Go.Proofs.Ytpmndmkmfcoieaa
open Go.RowKit
set_option maxRecDepth 100000

set_option maxHeartbeats 400000 in
theorem l1IntsC {w : World} {v : Value} {zs : List Int} (h : Ints w v zs) (hn : zs.length ≤ 1048576) :
    Calls Try.prog 57 #[v] w fun e w' => ∃ a c, e = .returned (.slice a zs.length c) ∧ Below w.heap.size w w' ∧ IntsO w' (.slice a zs.length c) zs (fresh w w') ∧ w.heap.size < w'.heap.size ∧ zs.length ≤ c := by
  obtain ⟨a, cap, rfl, hm, hc⟩ := h.open'
  clear h
  obtain ⟨v', X, hr, hw, hb, _⟩ := append_any (w.alloc (.cells #[] 2)) w.heap.size (.slice (some ⟨w.heap.size, 0, none⟩) 0 0) [] zs a zs.length cap (Wds.lit w w.heap.size (Nat.le_refl _) [] #[] rfl 0 rfl (by omega)) (by simp) rfl (by simp) hn (fun k hk => by
    obtain ⟨b, off, e, c⟩ := hc k hk
    exact ⟨b, off, e, cell_later (later1 _ _) c⟩) ⟨w.heap.size, 0, rfl, Nat.le_refl _⟩
  rw [List.nil_append] at hw
  obtain ⟨a', c', rfl⟩ := hw.shape
  have HR : Hid (_ = _) := hr
  have HB : Hid (Below w.heap.size w X) := (later1 _ _).trans hb
  have HO : Hid (IntsO X (.slice a' zs.length c') zs (fresh w X)) := hw.own' (Nat.le_refl _)
  have HS : Hid (w.heap.size < X.heap.size) := by have := hb.size; simp at this; unfold Hid; omega
  have HC : Hid (zs.length ≤ c') := hw.cap
  clear hb hc hr hw
  go_enter Try.func57, Try.ntmps57
  go_wp2_with (at_builtin; refine wpList_append_run rfl _ _ 56 rfl _ _ rfl rfl _ _ HR.out ?_)
  go_ret
  exact ⟨a', c', rfl, HB.out, HO.out, HS.out, HC.out⟩

/-- An answer that is an inode in memory of its own. -/
def AnsIno (w : World) (d : ID) (e : Ending) (w' : World) : Prop := ∃ a1 n1 c1 a2 n2 c2, e = .returned (.agg #[.int .i64 d.1, .int .i64 d.2.1, .int .i64 d.2.2.1, .slice a1 n1 c1, .slice a2 n2 c2]) ∧ Below w.heap.size w w' ∧ InoU w' (.int .i64 d.1) (.int .i64 d.2.1) (.int .i64 d.2.2.1) (.slice a1 n1 c1) (.slice a2 n2 c2) d (fresh w w')
/-- An answer that is a file system in memory of its own. -/
def AnsFs (w : World) (d : FD) (e : Ending) (w' : World) : Prop := ∃ a1 n1 c1 a2 n2 c2, e = .returned (.agg #[.slice a1 n1 c1, .slice a2 n2 c2]) ∧ Below w.heap.size w w' ∧ FsU w' (.slice a1 n1 c1) (.slice a2 n2 c2) d (fresh w w')
def zero5F : List Value := [.int .i64 0, .int .i64 0, .int .i64 0, .slice none 0 0, .slice none 0 0]
end Go.Proofs.Ytpmndmkmfcoieaa

namespace Go.Proofs.Ytpmndmkmfcoieaa
open Go.RowKit
set_option maxRecDepth 100000

theorem three_of {zs : List Int} (h : 3 ≤ zs.length) : ∃ x y z ps, zs = x :: y :: z :: ps := by
  match zs, h with
  | x :: y :: z :: ps, _ => exact ⟨x, y, z, ps, rfl⟩
theorem head_cons (q x y z : Int) (ps : List Int) : headB q (x :: y :: z :: ps) = decide (x = 1 ∧ y = q ∧ (0 ≤ z ∧ z ≤ 10) ∧ (ps.length : Int) = z) := by
  unfold headB
  have e : ((x :: y :: z :: ps).length : Int) = 3 + z ↔ (ps.length : Int) = z := by
    simp only [List.length_cons]; omega
  have e1 : 3 ≤ (x :: y :: z :: ps).length := by simp
  simp only [decide_eq_decide]
  constructor
  · rintro ⟨_, h1, h2, h3, h4⟩; exact ⟨h1, h2, h3, e.1 h4⟩
  · rintro ⟨h1, h2, h3, h4⟩; exact ⟨e1, h1, h2, h3, e.2 h4⟩
theorem found_head {f : Nat → List Int} {q : Int} (h : headB q (f 1) = false) : foundB f q = false := by unfold foundB; rw [h]; rfl
set_option maxHeartbeats 6400000 in
theorem l13Found_in (w : World) (ptr : Value) (f : Nat → List Int) (q : Int) (HRD : Hid (∀ W (k : Nat), k ≤ 46 → Below w.heap.size w W → Calls Try.prog 54 #[ptr, .int .i64 (k : Int)] W fun e w' => ∃ ua un uc, e = .returned (.slice ua un uc) ∧ Ints W (.slice ua un uc) (f k) ∧ w' = W)) (hlen : Hid (∀ k, (f k).length ≤ 1048576)) :
    Calls Try.prog 35 #[ptr, .int .i64 q] w fun e w' => ∃ a n c, e = .returned (.tuple #[.slice a n c, .bool (foundB f q)]) ∧ Below w.heap.size w w' ∧ PutsO w' (.slice a n c) (if foundB f q = true then putsJ f else []) (fresh w w') := by
  have HR1 : Hid (∀ W, Below w.heap.size w W → Calls Try.prog 54 #[ptr, .int .i64 1] W fun e w' => ∃ ua un uc, e = .returned (.slice ua un uc) ∧ Ints W (.slice ua un uc) (f 1) ∧ w' = W) := fun W hW => HRD.out W 1 (by omega) hW
  have HH : Hid (headB q (f 1) = false → foundB f q = false) := found_head
  have HFB : Hid (foundB f q = (headB q (f 1) && (decide (f (2 + ((f 1).drop 3).length) = [2, q, (((f 1).drop 3).length : Int)]) && plcsB ((f 1).drop 3)))) := rfl
  have HPJ : Hid (∀ i, i < ((f 1).drop 3).length → (putsJ f)[i]?.getD (0, []) = (((f 1).drop 3)[i]?.getD 0, f (2 + i))) := putsJ_get f
  have HPN : Hid ((putsJ f).length = ((f 1).drop 3).length) := putsJ_len f
  have hl1 := hlen.out 1
  generalize foundB f q = FB at *
  generalize putsJ f = PJ at *
  generalize hzs : f 1 = zs at *
  clear hzs
  go_enter Try.func35, Try.ntmps35
  go_wp2_with fail
  refine (HR1.out _ (Below.refl _ _)).mono ?_
  rintro e w1 ⟨az, nz, cz, rfl, ho, hw1⟩
  subst w1
  obtain ⟨_, _, ez, _, hat⟩ := ho.open'
  simp only [Value.slice.injEq] at ez
  obtain ⟨rfl, rfl, rfl⟩ := ez
  have HAT : Hid (At1 w az zs.length (fun k => .int .i64 (zs[k]?.getD 0))) := hat
  clear ho hat HR1
  by_cases hl : 3 ≤ zs.length
  · obtain ⟨x0, x1, x2, ps, rfl⟩ := three_of hl
    rw [head_cons] at HH HFB
    simp only [List.drop_succ_cons, List.drop_zero] at HFB HPJ HPN
    have hz0 := HAT.out 0 (by simp)
    obtain ⟨bz, oz, rfl, k0⟩ := hz0
    obtain ⟨_, _, ez, k1⟩ := HAT.out 1 (by simp)
    simp only [Option.some.injEq, Addr.mk.injEq, and_true] at ez
    obtain ⟨rfl, rfl⟩ := ez
    obtain ⟨_, _, ez, k2⟩ := HAT.out 2 (by simp)
    simp only [Option.some.injEq, Addr.mk.injEq, and_true] at ez
    obtain ⟨rfl, rfl⟩ := ez
    replace k0 : w.cell? ⟨bz, oz + 0, none⟩ = some (.int .i64 x0) := k0
    replace k1 : w.cell? ⟨bz, oz + 1, none⟩ = some (.int .i64 x1) := k1
    replace k2 : w.cell? ⟨bz, oz + 2, none⟩ = some (.int .i64 x2) := k2
    rw [Nat.add_zero] at k0
    have HPS : Hid (∀ j, j < ps.length → w.cell? ⟨bz, oz + (3 + j), none⟩ = some (.int .i64 (ps[j]?.getD 0))) := fun j hj => by
      obtain ⟨_, _, ez, k3⟩ := HAT.out (3 + j) (by simp; omega)
      simp only [Option.some.injEq, Addr.mk.injEq, and_true] at ez
      obtain ⟨rfl, rfl⟩ := ez
      dsimp only at k3
      rw [show (x0 :: x1 :: x2 :: ps)[3 + j]?.getD 0 = ps[j]?.getD 0 by rw [show 3 + j = j + 1 + 1 + 1 by omega]; rfl] at k3
      exact k3
    have hlp : (x0 :: x1 :: x2 :: ps).length = ps.length + 3 := rfl
    rw [hlp] at hl1 ⊢
    have hbz := World.block_lt_of_cell? _ _ k0
    have HGO : Hid (∀ n : Nat, ps.length = n → n + 3 ≤ 1048576) := fun n hn => by omega
    clear HAT hl hlp
    generalize hnn : ps.length = n at *
    have hn3 : n + 3 ≤ 1048576 := hl1
    have hd3 : decide ((n : Int) + 3 < 3) = false := by simp; omega
    by_cases h0 : x0 = 1
    · have h0b : (x0 != 1) = false := by simpa using h0
      by_cases h1 : x1 = q
      · have h1b : (x1 != q) = false := by simpa using h1
        by_cases h2 : 0 ≤ x2 ∧ x2 ≤ 10
        · have HQ2 : Hid (∀ W, Calls Try.prog 31 #[.int .i64 x2, .int .i64 0, .int .i64 10] W fun e w' => e = .returned (.bool true) ∧ w' = W) := fun W => by have := l1In_any W x2 0 10; rw [decide_eq_true h2] at this; exact this
          by_cases h3 : (n : Int) = x2
          · subst h3
            have h3b : ((n : Int) + 3 != 3 + (n : Int)) = false := bne_eq_false_iff_eq.2 (by omega)
            have HFE : Hid (FB = (decide (f (2 + n) = [2, q, (n : Int)]) && plcsB ps)) := by rw [HFB.out, decide_eq_true ⟨h0, h1, h2, rfl⟩, Bool.true_and]; rfl
            have HRE : Hid (∀ W, Below w.heap.size w W → Calls Try.prog 54 #[ptr, .int .i64 (2 + (n : Int))] W fun e w' => ∃ ua un uc, e = .returned (.slice ua un uc) ∧ Ints W (.slice ua un uc) (f (2 + n)) ∧ w' = W) := fun W hW => by
              have h := HRD.out W (2 + n) (by omega) hW
              rw [Int.natCast_add] at h
              exact h
            clear HFB HH
            go_wp2_with fail
            refine (HQ2.out _).mono ?_
            rintro e w1 ⟨rfl, hw1⟩
            subst w1
            go_wp2_with fail
            refine (HRE.out _ (Below.refl _ _)).mono ?_
            rintro e w1 ⟨ua, un, uc, rfl, ho2, hw1⟩
            subst w1
            have HQ : Hid (∀ W, W = w.alloc (.cells #[.int .i64 2, .int .i64 q, .int .i64 (n : Int)] 2) → Calls Try.prog 56 #[.slice ua un uc, .slice (some ⟨w.heap.size, 0, none⟩) 3 3] W fun e w' => e = .returned (.bool (decide (f (2 + n) = [2, q, (n : Int)]))) ∧ ∃ m, w' = W.drewN m) := fun W hW => by
              subst hW
              exact l4Ints_any (ho2.later (later1 _ _)) (lit3_ints _ _ _ _)
            clear ho2 HRE HQ2 h3b hd3 h0b h1b
            generalize decide (f (2 + n) = [2, q, (n : Int)]) = EQ at *
            go_wp2_with fail
            refine (HQ.out _ rfl).mono ?_
            rintro e w3 ⟨rfl, m3, rfl⟩
            clear HQ
            have HB3 : Hid (Below w.heap.size w ((w.alloc (.cells #[.int .i64 2, .int .i64 q, .int .i64 (n : Int)] 2)).drewN m3)) := below_drewN (later1 _ _) m3
            generalize ((w.alloc (.cells #[.int .i64 2, .int .i64 q, .int .i64 (n : Int)] 2)).drewN m3) = wl at *
            cases EQ with
            | false =>
              obtain rfl : FB = false := HFE.out
              go_wp2
              go_ret2
              exact ⟨none, 0, 0, rfl, HB3.out, Or.inl ⟨rfl, none, 0, rfl⟩⟩
            | true =>
              go_wp2
              go_loopw [8, 9] (fun s i wr => ∃ (j : Nat) (u : Nat → List Value) (G : Nat → Nat → Prop), j ≤ n ∧ i = .int .i64 j ∧ Below w.heap.size w wr ∧ GRow PutP wr w.heap.size 72 2 s j (fun k => PJ[k]?.getD (0, [])) u G ∧ ∀ i, i < j → plcB (ps[i]?.getD 0) = true) (fun _ i _ => n - (intOf i).toNat)
              case atStart => exact ⟨0, _, _, Nat.zero_le _, rfl, HB3.out.trans ((later1 _ _).mono HB3.out.size), GRow.lit0 wl _ HB3.out.size _ _ _, fun i hi => by omega⟩
              case round =>
                obtain ⟨j, u, G, hj, rfl, hbl, hrow, ht⟩ := hrel
                obtain ⟨aQ, cQ, rfl⟩ := hrow.shape
                have HBL : Hid (Below w.heap.size w wr) := hbl
                have HRX : Hid (GRow PutP wr w.heap.size 72 2 (.slice aQ j cQ) j (fun k => PJ[k]?.getD (0, [])) u G) := hrow
                have HT : Hid (∀ i, i < j → plcB (ps[i]?.getD 0) = true) := ht
                clear hrow ht HB3
                by_cases hlt : j < n
                · have HGJ : Hid (PJ[j]?.getD (0, []) = (ps[j]?.getD 0, f (2 + j))) := HPJ.out j hlt
                  have k3 := cell_later hbl (HPS.out j hlt)
                  have HAL : Hid (plcB (ps[j]?.getD 0) = true → ∀ i, i < j + 1 → plcB (ps[i]?.getD 0) = true) := fun h i hi => by
                    by_cases e : i = j
                    · rw [e]; exact h
                    · exact HT.out i (by omega)
                  have HNO : Hid (plcB (ps[j]?.getD 0) = false → FB = false) := fun h => by rw [HFE.out, plcsB_no (by omega) h]; rfl
                  have HQ : Hid (∀ W, Calls Try.prog 31 #[.int .i64 (ps[j]?.getD 0), .int .i64 17, .int .i64 26] W fun e w' => e = .returned (.bool (plcB (ps[j]?.getD 0))) ∧ w' = W) := fun W => l1In_any W _ 17 26
                  have HLW : Hid ((f (2 + j)).length ≤ 1048576) := hlen.out (2 + j)
                  have HRE : Hid (Calls Try.prog 54 #[ptr, .int .i64 (2 + (j : Int))] wr.drew fun e w' => ∃ ua un uc, e = .returned (.slice ua un uc) ∧ Ints wr.drew (.slice ua un uc) (f (2 + j)) ∧ w' = wr.drew) := by
                    have h := HRD.out wr.drew (2 + j) (by omega) hbl.drew
                    rw [Int.natCast_add] at h
                    exact h
                  clear HT HPS HPJ hbl HRD hlen
                  generalize ps[j]?.getD 0 = x at *
                  generalize f (2 + j) = ws at *
                  cases hpx : plcB x with
                  | false =>
                    obtain rfl : FB = false := HNO.out hpx
                    rw [hpx] at HQ
                    go_wp2_with fail
                    refine (HQ.out _).mono ?_
                    rintro e w1 ⟨rfl, hw1⟩
                    subst w1
                    go_wp2
                    go_ret2
                    exact ⟨none, 0, 0, rfl, HBL.out, Or.inl ⟨rfl, none, 0, rfl⟩⟩
                  | true =>
                    have HTN : Hid (∀ i, i < j + 1 → plcB (ps[i]?.getD 0) = true) := HAL.out hpx
                    rw [hpx] at HQ
                    have HCP : Hid (∀ ua un uc, Ints wr.drew (.slice ua un uc) ws → Calls Try.prog 57 #[.slice ua un uc] wr.drew fun e w1 => ∃ av cv g cap X u' G', e = .returned (.slice av ws.length cv) ∧ Hid (Below wr.heap.size wr w1) ∧
                        Hid ((Builtin.append_ #[28, 28] 28 #[.slice aQ j cQ, .slice (some ⟨w1.heap.size, 0, none⟩) 1 1]).run Try.prog (w1.alloc (.cells #[.int .i64 x, .slice av ws.length cv] 72)) = .ok (.slice (some ⟨g, 0, none⟩) (j + 1) cap) X) ∧ Hid (Below w.heap.size wr X) ∧ Hid (GRow PutP X w.heap.size 72 2 (.slice (some ⟨g, 0, none⟩) (j + 1) cap) (j + 1) (fun k => PJ[k]?.getD (0, [])) u' G')) := fun ua un uc hi => by
                      refine (l1IntsC hi HLW.out).mono ?_
                      rintro e w1 ⟨av, cv, rfl, hb1', ho1, _, _⟩
                      have hb1 : Below wr.heap.size wr w1 := (Below.refl _ _).drew.trans hb1'
                      obtain ⟨g, cap, X, u', G', hr, hbx, _, hgx, -⟩ := append_putG wr w1 w.heap.size j _ _ u G HRX.out HBL.out.size (by omega) hb1 x av _ cv ws HGJ.out _ (fun c hc => hc) rfl ho1 w1.heap.size rfl
                      exact ⟨av, cv, g, cap, X, u', G', rfl, hb1, hr, hbx, hgx⟩
                    clear HAL HNO HLW HGJ HRX hpx
                    generalize ws.length = lw at *
                    have hw3 := wrap_in (3 + (j : Int)) (by omega) (by omega)
                    have hw2 := wrap_in (2 + (j : Int)) (by omega) (by omega)
                    have hj3 : (0 : Int) ≤ 3 + (j : Int) ∧ 3 + (j : Int) < (n : Int) + 3 := by omega
                    have ht3 : ((3 : Int) + (j : Int)).toNat = 3 + j := by omega
                    go_wp2_with fail
                    refine (HQ.out _).mono ?_
                    rintro e w1 ⟨rfl, hw1⟩
                    subst w1
                    go_wp2_with fail
                    go_region_law (first
                      | (refine step_append_run rfl _ _ 28 rfl _ _ rfl rfl _ _ HR.out ?_)
                      | (try go_simp; first
                          | (go_at_call 57; refine (HCP.out _ _ _ ho2).mono ?_; rintro e w1 ⟨av, cv, g, cap, X, u', G', rfl, HB1, HR, HBX, HGX⟩
                             have y3 := cell_later HB1.out k3)
                          | (go_at_call 54; refine HRE.out.mono ?_; rintro e w1 ⟨ua, un, uc, rfl, ho2, rfl⟩)))
                    all_goals
                      clear HCP HRE HR
                      go_wp2
                      go_roundw
                      case rel => exact ⟨j + 1, _, _, by omega, by go_num, HBL.out.trans HBX.out, HGX.out, HTN.out⟩
                      case measure => simp [intOf]; omega
                · have e : j = n := by omega
                  subst e
                  obtain rfl : FB = true := by rw [HFE.out, plcsB_yes (fun k hk => HT.out k (by omega))]; rfl
                  have HF : Hid (PutsO wr (.slice aQ j cQ) PJ (fresh w wr)) := HRX.out.puts HPN.out _ fun c h1 h2 => ⟨h1, h2⟩
                  clear HRX HT HPS HPJ hbl HRD
                  go_wp2
                  go_ret2
                  exact ⟨_, _, _, rfl, HBL.out, HF.out⟩
          · obtain rfl : FB = false := HH.out (decide_eq_false fun h => h3 h.2.2.2)
            have h3b : ((n : Int) + 3 != 3 + x2) = true := bne_iff_ne.2 (by omega)
            clear HFB HH
            go_wp2_with fail
            refine (HQ2.out _).mono ?_
            rintro e w1 ⟨rfl, hw1⟩
            subst w1
            go_wp2
            go_ret2
            exact ⟨none, 0, 0, rfl, Below.refl _ _, Or.inl ⟨rfl, none, 0, rfl⟩⟩
        · obtain rfl : FB = false := HH.out (decide_eq_false fun h => h2 h.2.2.1)
          have HQ2 : Hid (∀ W, Calls Try.prog 31 #[.int .i64 x2, .int .i64 0, .int .i64 10] W fun e w' => e = .returned (.bool false) ∧ w' = W) := fun W => by have := l1In_any W x2 0 10; rw [decide_eq_false h2] at this; exact this
          clear HFB HH h2
          go_wp2_with fail
          refine (HQ2.out _).mono ?_
          rintro e w1 ⟨rfl, hw1⟩
          subst w1
          go_wp2
          go_ret2
          exact ⟨none, 0, 0, rfl, Below.refl _ _, Or.inl ⟨rfl, none, 0, rfl⟩⟩
      · obtain rfl : FB = false := HH.out (decide_eq_false fun h => h1 h.2.1)
        have h1b : (x1 != q) = true := by simpa using h1
        clear HFB HH h1
        go_wp2
        go_ret2
        exact ⟨none, 0, 0, rfl, Below.refl _ _, Or.inl ⟨rfl, none, 0, rfl⟩⟩
    · obtain rfl : FB = false := HH.out (decide_eq_false fun h => h0 h.1)
      have h0b : (x0 != 1) = true := by simpa using h0
      clear HFB HH h0
      go_wp2
      go_ret2
      exact ⟨none, 0, 0, rfl, Below.refl _ _, Or.inl ⟨rfl, none, 0, rfl⟩⟩
  · obtain rfl : FB = false := HH.out (head_few hl)
    clear HFB HH HPJ HPN
    generalize zs.length = n at *
    have hd3 : decide ((n : Int) < 3) = true := by simp; omega
    clear hl
    go_wp2
    go_ret2
    exact ⟨none, 0, 0, rfl, Below.refl _ _, Or.inl ⟨rfl, none, 0, rfl⟩⟩
end Go.Proofs.Ytpmndmkmfcoieaa

namespace Go.Proofs.Ytpmndmkmfcoieaa
open Go.RowKit
set_option maxRecDepth 100000

set_option maxHeartbeats 3200000 in
theorem found_spec (w : World) (a1 : Option Addr) (n1 c1 : Nat) (a2 : Option Addr) (n2 c2 : Nat) (d : DK) (h : DiskR w (.slice a1 n1 c1) (.slice a2 n2 c2) d) (hs : sizeDisk d ≤ 1048576) (h0 : (seqR d).1 = 0) (W : World) (bd : Nat) (q : Int) (hW : Below w.heap.size w W) (x0 : W.cell? ⟨bd, 0, none⟩ = some (.slice a1 n1 c1)) (x1 : W.cell? ⟨bd, 1, none⟩ = some (.slice a2 n2 c2)) :
    Calls Try.prog 35 #[.pointer (some ⟨bd, 0, none⟩), .int .i64 q] W fun e w' => ∃ a n c, e = .returned (.tuple #[.slice a n c, .bool (foundB (fun k => atF d.1 d.2 k) q)]) ∧ Below W.heap.size W w' ∧ PutsO w' (.slice a n c) (if foundB (fun k => atF d.1 d.2 k) q = true then putsJ (fun k => atF d.1 d.2 k) else []) (fresh W w') := by
  obtain ⟨hf, h47⟩ := sizF_zero (seqR_zero h0).1
  obtain ⟨_, _, e1, _, sB⟩ := h.1.open'
  simp only [Value.slice.injEq] at e1
  obtain ⟨rfl, rfl, rfl⟩ := e1
  obtain ⟨_, _, e2, _, sP⟩ := h.2.open'
  simp only [Value.slice.injEq] at e2
  obtain ⟨rfl, rfl, rfl⟩ := e2
  have hbd := lt_of_cell x0
  exact l13Found_in W _ (fun k => atF d.1 d.2 k) q (fun V k hk hV => l1At_walk V bd _ _ _ c1 _ c2 d.1 d.2 k (by omega) (faultF_lens hf).1 rfl (faultF_lens hf).2 (cell_later hV x0) (cell_later hV x1) (sB.later (hW.trans (hV.mono hW.size))) (sP.later (hW.trans (hV.mono hW.size)))) (fun k => atF_len (dsize_blk hs) (dsize_put hs))

end Go.Proofs.Ytpmndmkmfcoieaa
