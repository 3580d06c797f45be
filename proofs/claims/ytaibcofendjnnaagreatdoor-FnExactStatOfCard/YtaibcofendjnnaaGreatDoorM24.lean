/- The specification's WalkParent. The last name of a path: the program's side, and the law. The path ahead of the last name, and joining: the specification's side. ParentOf: the program's side, and the law. Paths and their names: joined again, cut again. No program is named here. -/
import Derived.Test.YtaibcofendjnnaaGreatDoorM23
import Derived.Test.YtaibcofendjnnaaGreatDoorM06
import Derived.Test.YtaibcofendjnnaaGreatDoorM07
namespace Go.Proofs.YtaibcofendjnnaaGreatDoor
open Go.RowKit
set_option maxRecDepth 100000

/-- The last name, where there is a directory for it. -/
def lnmP (d : FD) (p : List UInt8) : ByteArray := if (parR d p).1 = 0 then mkB ((splitL p)[(splitL p).length - 1]?.getD []) else ⟨#[]⟩
theorem dirK_two {d : FD} {r : Int × Int} (h : ¬ r.1 = 0 → r.2 = 0) (hd : ¬ (dirK d r).1 = 0) : (dirK d r).2 = 0 := by
  unfold dirK at hd ⊢
  by_cases h0 : r.1 = 0
  · rw [if_pos h0] at hd ⊢
    by_cases hk : kindAt d.1 r.2.toNat = 2
    · rw [if_pos hk] at hd; exact absurd h0 hd
    · rw [if_neg hk]
  · rw [if_neg h0]; exact h h0
theorem par_two (d : FD) (p : List UInt8) (h : ¬ (parR d p).1 = 0) : (parR d p).2 = 0 := by
  unfold parR at h ⊢
  by_cases h0 : pathF p = 0
  · rw [if_pos h0] at h ⊢
    by_cases h1 : (splitL p).length = 0
    · rw [if_pos h1]
    · rw [if_neg h1] at h ⊢
      exact dirK_two (wkR_two _ 0) h
  · rw [if_neg h0]
theorem par_int (d : FD) (p : List UInt8) : (if (parR d p).1 = 0 then (0, (parR d p).2) else ((parR d p).1, 0)) = parR d p := by
  by_cases h0 : (parR d p).1 = 0
  · rw [if_pos h0]; exact Prod.ext h0.symm rfl
  · rw [if_neg h0]; exact Prod.ext rfl (par_two d p h0).symm
set_option maxHeartbeats 6400000 in
theorem l9Parent_any (w : World) (b : Nat) (d : FD) (aI : Option Addr) (cI : Nat) (aD : Option Addr) (cD : Nat) (hx : FsX w b 0 d aI cI aD cD) (hok : FsOk d) (p : List UInt8) (hp : p.length ≤ 1048576) :
    Calls Tryz.prog 35 #[.pointer (some ⟨b, 0, none⟩), .string (mkB p)] w fun e w' => e = .returned (.tuple #[.int .i64 (parR d p).2, .string (lnmP d p), .int .i64 (parR d p).1]) ∧ Below w.heap.size w w' := by
  have HP : Hid (parR d p = if pathF p = 0 then (if (splitL p).length = 0 then (4, 0) else dirK d (wkR d.1 0 ((splitL p).take ((splitL p).length - 1)))) else (pathF p, 0)) := rfl
  have HLN : Hid (lnmP d p = if (parR d p).1 = 0 then mkB ((splitL p)[(splitL p).length - 1]?.getD []) else ⟨#[]⟩) := rfl
  by_cases h0 : pathF p = 0
  rotate_left
  · have e1 : parR d p = (pathF p, 0) := by rw [HP.out, if_neg h0]
    rw [HLN.out, e1, if_neg h0]
    have HS : Hid (Calls Tryz.prog 66 #[.string (mkB p)] w fun e w' => e = .returned (.tuple #[.slice none 0 0, .string ⟨#[]⟩, .int .i64 (pathF p)]) ∧ Below w.heap.size w w') := l3Last_bad w p h0
    have hb : (pathF p != 0) = true := by simpa using h0
    clear hx hok hp h0 e1 HP HLN
    generalize mkB p = s at *
    generalize pathF p = pc at *
    go_enter Tryz.func35, Tryz.ntmps35
    go_wp2_with fail
    refine HS.out.mono ?_
    rintro e w1 ⟨rfl, hb1⟩
    have HB1 : Hid (Below w.heap.size w w1) := hb1
    clear hb1
    go_wp2
    go_ret3
    exact ⟨rfl, HB1.out⟩
  · have hsl : splitL p = namesL p := if_pos h0
    by_cases hz : (namesL p).length = 0
    · have e1 : parR d p = (4, 0) := by rw [HP.out, if_pos h0, hsl, if_pos hz]
      rw [HLN.out, e1, if_neg (by decide)]
      have HS : Hid (Calls Tryz.prog 66 #[.string (mkB p)] w fun e w' => e = .returned (.tuple #[.slice none 0 0, .string ⟨#[]⟩, .int .i64 4]) ∧ Below w.heap.size w w') := l3Last_none w p h0 hz
      clear hx hok hp h0 e1 HP HLN hsl hz
      generalize mkB p = s at *
      go_enter Tryz.func35, Tryz.ntmps35
      go_wp2_with fail
      refine HS.out.mono ?_
      rintro e w1 ⟨rfl, hb1⟩
      have HB1 : Hid (Below w.heap.size w w1) := hb1
      clear hb1
      go_wp2
      go_ret3
      exact ⟨rfl, HB1.out⟩
    · obtain ⟨m, hm⟩ : ∃ m, (namesL p).length = m + 1 := ⟨(namesL p).length - 1, by omega⟩
      have hln := splitL_len p hp
      rw [hsl] at hln
      have e1 : parR d p = dirK d (wkR d.1 0 ((namesL p).take m)) := by rw [HP.out, if_pos h0, hsl, if_neg hz, show (namesL p).length - 1 = m by omega]
      have e2 : lnmP d p = if (dirK d (wkR d.1 0 ((namesL p).take m))).1 = 0 then mkB ((namesL p)[m]?.getD []) else ⟨#[]⟩ := by rw [HLN.out, e1, hsl, show (namesL p).length - 1 = m by omega]
      rw [e2, e1]
      have HS : Hid (Calls Tryz.prog 66 #[.string (mkB p)] w fun e w' => ∃ A C, e = .returned (.tuple #[.slice A m C, .string (mkB ((namesL p)[m]?.getD [])), .int .i64 0]) ∧ Below w.heap.size w w' ∧ AtT w' A m (namesL p)) := l3Last_ok w p h0 m hm
      have HW : Hid (∀ (W : World) (A : Option Addr) (C : Nat), Below w.heap.size w W → AtT W A m (namesL p) → Calls Tryz.prog 58 #[.pointer (some ⟨b, 0, none⟩), .slice A m C] W fun e w' => e = .returned (.tuple #[.int .i64 (wkR d.1 0 ((namesL p).take m)).2, .int .i64 (wkR d.1 0 ((namesL p).take m)).1]) ∧ Below W.heap.size W w') := fun W A C hW hat => by
        refine (l9Walk_any W b d aI cI aD cD (hx.later hW) hok A m C ((namesL p).take m) (by rw [List.length_take]; omega) (by omega) (hat.take m (Nat.le_refl _))).mono ?_
        rintro e w' ⟨rfl, q, rfl⟩
        exact ⟨rfl, below_drewN (Below.refl _ _) q⟩
      have HK : Hid ((wkR d.1 0 ((namesL p).take m)).1 = 0 → ∃ y : Nat, (wkR d.1 0 ((namesL p).take m)).2 = (y : Int) ∧ y < d.1.length ∧ ∃ b0 o0, aI = some ⟨b0, o0, none⟩ ∧ w.cell? ⟨b, 0, none⟩ = some (.slice (some ⟨b0, o0, none⟩) d.1.length cI) ∧ w.cell? ⟨b0, o0 + y * 5, none⟩ = some (.int .i64 (d.1[y]?.getD id0).1)) := fun hk0 => by
        obtain ⟨y, hy, hyl⟩ := wkR_lt hok.rng _ 0 hok.pos hk0
        obtain ⟨f0, -, hI, -⟩ := hx
        obtain ⟨_, _, e9, -, hAt⟩ := hI.open'
        simp only [Value.slice.injEq] at e9
        obtain ⟨rfl, -, rfl⟩ := e9
        obtain ⟨b0, o0, rfl, hIt⟩ := hAt y hyl
        obtain ⟨_, _, _, _, k0, _⟩ := hIt
        exact ⟨y, hy, hyl, b0, o0, rfl, f0, k0⟩
      have H2 : Hid (¬ (wkR d.1 0 ((namesL p).take m)).1 = 0 → (wkR d.1 0 ((namesL p).take m)).2 = 0) := wkR_two _ 0
      have hten := hok.ten
      clear hx hok hp h0 e1 e2 HP HLN hsl hz hm hln
      generalize mkB ((namesL p)[m]?.getD []) = lst at *
      generalize wkR d.1 0 ((namesL p).take m) = wr at *
      generalize namesL p = xs at *
      generalize mkB p = s at *
      obtain ⟨kc, kv⟩ := wr
      dsimp only at HW HK H2
      have HDK : Hid (∀ r, dirK d r = if r.1 = 0 then (if kindAt d.1 r.2.toNat = 2 then r else (9, 0)) else r) := fun _ => rfl
      by_cases hk : kc = 0
      rotate_left
      · have e3 : dirK d (kc, kv) = (kc, kv) := by rw [HDK.out]; exact if_neg hk
        rw [e3, if_neg hk]
        have h20 := H2.out hk
        subst h20
        have hkb : (kc != 0) = true := by simpa using hk
        clear hk HK H2 HDK e3
        go_enter Tryz.func35, Tryz.ntmps35
        go_wp2_with fail
        refine HS.out.mono ?_
        rintro e w1 ⟨A, C, rfl, hb1, hat⟩
        have HB1 : Hid (Below w.heap.size w w1) := hb1
        have HAT : Hid (AtT w1 A m xs) := hat
        clear hb1 hat
        go_wp2_with fail
        refine (HW.out _ A C HB1.out HAT.out).mono ?_
        rintro e w2 ⟨rfl, hb2⟩
        have HB2 : Hid (Below w.heap.size w w2) := HB1.out.trans (hb2.mono HB1.out.size)
        clear hb2
        go_wp2
        go_ret3
        exact ⟨rfl, HB2.out⟩
      · have hkb : (kc != 0) = false := by simpa using hk
        obtain ⟨y, hy, hyl, b0, o0, rfl, f0, k0⟩ := HK.out hk
        subst hy
        subst hk
        have hyI : (y : Int) < ((d.1.length : Nat) : Int) := by omega
        have HF0 : Hid (_ = _) := f0
        have HK0 : Hid (_ = _) := k0
        clear HK H2 f0 k0
        by_cases h2 : (d.1[y]?.getD id0).1 = 2
        · have e3 : dirK d (0, (y : Int)) = (0, (y : Int)) := by
            rw [HDK.out, if_pos rfl]
            show (if kindAt d.1 (y : Int).toNat = 2 then ((0 : Int), (y : Int)) else (9, 0)) = _
            rw [Int.toNat_natCast]; exact if_pos h2
          rw [e3, if_pos rfl]
          have h2b : ((d.1[y]?.getD id0).1 != 2) = false := by simpa using h2
          clear h2 HDK e3
          generalize (d.1[y]?.getD id0).1 = kd at *
          generalize d.1.length = nn at *
          go_enter Tryz.func35, Tryz.ntmps35
          go_wp2_with fail
          refine HS.out.mono ?_
          rintro e w1 ⟨A, C, rfl, hb1, hat⟩
          have HB1 : Hid (Below w.heap.size w w1) := hb1
          have HAT : Hid (AtT w1 A m xs) := hat
          clear hb1 hat
          go_wp2_with fail
          refine (HW.out _ A C HB1.out HAT.out).mono ?_
          rintro e w2 ⟨rfl, hb2⟩
          have HB2 : Hid (Below w.heap.size w w2) := HB1.out.trans (hb2.mono HB1.out.size)
          have g0 := cell_later HB2.out HF0.out
          have g1 := cell_later HB2.out HK0.out
          clear hb2
          go_wp2
          go_ret3
          exact ⟨rfl, HB2.out⟩
        · have e3 : dirK d (0, (y : Int)) = (9, 0) := by
            rw [HDK.out, if_pos rfl]
            show (if kindAt d.1 (y : Int).toNat = 2 then ((0 : Int), (y : Int)) else (9, 0)) = _
            rw [Int.toNat_natCast]; exact if_neg h2
          rw [e3, if_neg (by decide)]
          have h2b : ((d.1[y]?.getD id0).1 != 2) = true := by simpa using h2
          clear h2 HDK e3
          generalize (d.1[y]?.getD id0).1 = kd at *
          generalize d.1.length = nn at *
          go_enter Tryz.func35, Tryz.ntmps35
          go_wp2_with fail
          refine HS.out.mono ?_
          rintro e w1 ⟨A, C, rfl, hb1, hat⟩
          have HB1 : Hid (Below w.heap.size w w1) := hb1
          have HAT : Hid (AtT w1 A m xs) := hat
          clear hb1 hat
          go_wp2_with fail
          refine (HW.out _ A C HB1.out HAT.out).mono ?_
          rintro e w2 ⟨rfl, hb2⟩
          have HB2 : Hid (Below w.heap.size w w2) := HB1.out.trans (hb2.mono HB1.out.size)
          have g0 := cell_later HB2.out HF0.out
          have g1 := cell_later HB2.out HK0.out
          clear hb2
          go_wp2
          go_ret3
          exact ⟨rfl, HB2.out⟩
set_option maxHeartbeats 3200000 in
theorem specParentU (w : World) (a1 : Option Addr) (n1 c1 : Nat) (a2 : Option Addr) (n2 c2 : Nat) (d : FD) (s : ByteArray) (h : FsR w (.slice a1 n1 c1) (.slice a2 n2 c2) d) (hs : sizeFs d ≤ 1048576) (hl : s.size ≤ 1048576) :
    Calls Tryz.prog 13 #[.agg #[.slice a1 n1 c1, .slice a2 n2 c2], .string s] w fun e w' => e = .returned (intRV (wparR d s)) ∧ Below w.heap.size w w' := by
  obtain ⟨hx0, -, -⟩ := FsX.box h 32
  have HB0 : Hid (Below w.heap.size w ((w.alloc (.cells #[.slice a1 n1 c1, .slice a2 n2 c2] 32)).alloc (.cells #[.int .i64 0, .int .i64 0] 28))) := later2 _ _ _
  have HRS : Hid (OwnRow ((w.alloc (.cells #[.slice a1 n1 c1, .slice a2 n2 c2] 32)).alloc (.cells #[.int .i64 0, .int .i64 0] 28)) (w.heap.size + 1) 2 (fun _ => .int .i64 0)) := by
    have p2 := zeros2 (w.alloc (.cells #[.slice a1 n1 c1, .slice a2 n2 c2] 32)) 28
    rw [World.size_alloc] at p2
    exact p2
  have hsp : s.data.toList.length = s.size := Array.length_toList
  have HF : Hid (Calls Tryz.prog 26 #[.pointer (some ⟨w.heap.size, 0, none⟩)] ((w.alloc (.cells #[.slice a1 n1 c1, .slice a2 n2 c2] 32)).alloc (.cells #[.int .i64 0, .int .i64 0] 28)) fun e w' => e = .returned (.int .i64 (fsF d)) ∧ Below ((w.alloc (.cells #[.slice a1 n1 c1, .slice a2 n2 c2] 32)).alloc (.cells #[.int .i64 0, .int .i64 0] 28)).heap.size ((w.alloc (.cells #[.slice a1 n1 c1, .slice a2 n2 c2] 32)).alloc (.cells #[.int .i64 0, .int .i64 0] 28)) w') := l6Fault_any _ _ _ d _ _ _ _ (hx0.later (later1 _ _)) (by unfold sizeFs at hs; omega)
  have HP : Hid (fsF d = 0 → ∀ W, Below ((w.alloc (.cells #[.slice a1 n1 c1, .slice a2 n2 c2] 32)).alloc (.cells #[.int .i64 0, .int .i64 0] 28)).heap.size ((w.alloc (.cells #[.slice a1 n1 c1, .slice a2 n2 c2] 32)).alloc (.cells #[.int .i64 0, .int .i64 0] 28)) W → Calls Tryz.prog 35 #[.pointer (some ⟨w.heap.size, 0, none⟩), .string s] W fun e w' => e = .returned (.tuple #[.int .i64 (parR d s.data.toList).2, .string (lnmP d s.data.toList), .int .i64 (parR d s.data.toList).1]) ∧ Below W.heap.size W w') := fun hf W hW => by
    have := l9Parent_any W w.heap.size d _ _ _ _ ((hx0.later (later1 _ _)).later hW) (fsE_ok (fsF_E hf)) s.data.toList (by omega)
    rw [mkB_data] at this
    exact this
  have HI : Hid (∀ W, Calls Tryz.prog 28 #[.int .i64 (parR d s.data.toList).2, .int .i64 (parR d s.data.toList).1] W fun e w' => e = .returned (intRV (parR d s.data.toList)) ∧ Below W.heap.size W w') := fun W => by
    have := l9Int_any W (parR d s.data.toList).1 (parR d s.data.toList).2
    rw [par_int] at this
    exact this
  rw [wpar_par]
  clear h hs hl hsp hx0
  generalize parR d s.data.toList = pr at *
  generalize lnmP d s.data.toList = ln at *
  generalize fsF d = r at *
  by_cases hf : r = 0
  rotate_left
  · rw [if_neg hf]
    have hb : (r != 0) = true := by simpa using hf
    clear hf HP HI
    go_enter Tryz.func13, Tryz.ntmps13
    go_wp2_with fail
    generalize ((w.alloc (.cells #[.slice a1 n1 c1, .slice a2 n2 c2] 32)).alloc (.cells #[.int .i64 0, .int .i64 0] 28)) = W0 at *
    refine HF.out.mono ?_
    rintro e w1 ⟨rfl, hb1⟩
    have HB1 : Hid (Below w.heap.size w w1) := HB0.out.trans (hb1.mono HB0.out.size)
    have hrr := HRS.out.later hb1
    have t0 : w1.cell? ⟨w.heap.size + 1, 0, none⟩ = some (.int .i64 0) := hrr.cell (i := 0) (by omega)
    have t1 : w1.cell? ⟨w.heap.size + 1, 1, none⟩ = some (.int .i64 0) := hrr.cell (i := 1) (by omega)
    have s0 := hrr.frozen 0
    have s1 := hrr.frozen 1
    clear hb1 hrr
    go_wp2
    exact bodyPost_ret (v := intRV (r, 0)) (by simp [results, Tryz.results13, go_sem, t0, t1]) rfl ⟨rfl, (HB1.out.setCell (p := ⟨w.heap.size + 1, 0, none⟩) (by show w.heap.size ≤ w.heap.size + 1; omega) _).setCell (p := ⟨w.heap.size + 1, 1, none⟩) (by show w.heap.size ≤ w.heap.size + 1; omega) _⟩
  · rw [if_pos hf]
    have hb : (r != 0) = false := by simpa using hf
    have HP2 := HP.out hf
    have HPP : Hid (∀ W, Below ((w.alloc (.cells #[.slice a1 n1 c1, .slice a2 n2 c2] 32)).alloc (.cells #[.int .i64 0, .int .i64 0] 28)).heap.size ((w.alloc (.cells #[.slice a1 n1 c1, .slice a2 n2 c2] 32)).alloc (.cells #[.int .i64 0, .int .i64 0] 28)) W → Calls Tryz.prog 35 #[.pointer (some ⟨w.heap.size, 0, none⟩), .string s] W fun e w' => e = .returned (.tuple #[.int .i64 pr.2, .string ln, .int .i64 pr.1]) ∧ Below W.heap.size W w') := HP2
    clear hf HP HP2
    obtain ⟨pc, pv⟩ := pr
    dsimp only at HPP HI
    go_enter Tryz.func13, Tryz.ntmps13
    go_wp2_with fail
    generalize ((w.alloc (.cells #[.slice a1 n1 c1, .slice a2 n2 c2] 32)).alloc (.cells #[.int .i64 0, .int .i64 0] 28)) = W0 at *
    refine HF.out.mono ?_
    rintro e w1 ⟨rfl, hb1⟩
    have HBW : Hid (Below W0.heap.size W0 w1) := hb1
    clear hb1
    go_wp2_with fail
    refine (HPP.out _ HBW.out).mono ?_
    rintro e w2 ⟨rfl, hb2⟩
    have HB2 : Hid (Below W0.heap.size W0 w2) := HBW.out.trans (hb2.mono HBW.out.size)
    clear hb2
    go_wp2_with fail
    refine (HI.out _).mono ?_
    rintro e w3 ⟨rfl, hb3⟩
    have HB3 : Hid (Below W0.heap.size W0 w3) := HB2.out.trans (hb3.mono HB2.out.size)
    have hrr := HRS.out.later HB3.out
    have t0 : w3.cell? ⟨w.heap.size + 1, 0, none⟩ = some (.int .i64 0) := hrr.cell (i := 0) (by omega)
    have t1 : w3.cell? ⟨w.heap.size + 1, 1, none⟩ = some (.int .i64 0) := hrr.cell (i := 1) (by omega)
    have s0 := hrr.frozen 0
    have s1 := hrr.frozen 1
    have HBF : Hid (Below w.heap.size w w3) := HB0.out.trans (HB3.out.mono HB0.out.size)
    clear hb3 hrr
    go_wp2
    exact bodyPost_ret (v := intRV (pc, pv)) (by simp [results, Tryz.results13, go_sem, t0, t1]) rfl ⟨rfl, (HBF.out.setCell (p := ⟨w.heap.size + 1, 0, none⟩) (by show w.heap.size ≤ w.heap.size + 1; omega) _).setCell (p := ⟨w.heap.size + 1, 1, none⟩) (by show w.heap.size ≤ w.heap.size + 1; omega) _⟩
theorem specParentV (w : World) (a1 : Option Addr) (n1 c1 : Nat) (a2 : Option Addr) (n2 c2 : Nat) (d : FD) (s : ByteArray) (h : FsR w (.slice a1 n1 c1) (.slice a2 n2 c2) d) (hs : sizeFs d ≤ 1048576) (hl : s.size ≤ 1048576) :
    Calls Tryz.prog 13 #[.agg #[.slice a1 n1 c1, .slice a2 n2 c2], .string s] w fun e w' => e = .returned (.agg #[.int .i64 (wparR d s).1, .int .i64 (wparR d s).2]) ∧ Below w.heap.size w w' := specParentU w a1 n1 c1 a2 n2 c2 d s h hs hl
end Go.Proofs.YtaibcofendjnnaaGreatDoor

namespace Go.Proofs.YtaibcofendjnnaaGreatDoor
open Go.RowKit
set_option maxRecDepth 100000

set_option maxHeartbeats 1600000 in
theorem implLast_code (w : World) (p : List UInt8) (z : Int) (hz : ¬ z = 0) (HC : Hid (∀ W, Calls Tryz.prog 81 #[.string (mkB p)] W fun e w' => e = .returned (.tuple #[.slice none 0 0, .int .i64 z]) ∧ Below W.heap.size W w')) :
    Calls Tryz.prog 42 #[.string (mkB p)] w fun e w' => e = .returned (.agg #[.int .i64 z, .string ⟨#[]⟩]) ∧ Below w.heap.size w w' := by
  have hne : (z != 0) = true := by simpa using hz
  clear hz
  go_enter Tryz.func42, Tryz.ntmps42
  go_wp2_with fail
  refine (HC.out _).mono ?_
  rintro e w1 ⟨rfl, hb1⟩
  have HW1 : Hid (Below w.heap.size w w1) := (later1 _ _).trans (hb1.mono (by simp))
  have HR := (OwnRow.newS w (.int .i64 0) (.string ⟨#[]⟩) 79).block (hb1.block w.heap.size (by simp))
  have t0 := HR.cell (i := 0) (by omega)
  have t1 := HR.cell (i := 1) (by omega)
  have s0 := HR.frozen 0
  have s1 := HR.frozen 1
  simp at t0 t1
  clear hb1 HR HC
  go_wp2
  exact bodyPost_ret (v := .agg #[.int .i64 z, .string ⟨#[]⟩]) (by simp [results, Tryz.results42, go_sem, t0, t1]) rfl ⟨rfl, (HW1.out.setCell (by simp) _).setCell (by simp) _⟩

set_option maxHeartbeats 3200000 in
theorem implLast_ok (w : World) (p : List UInt8) (hp : p.length ≤ 1048576) (h : pathF p = 0) (m : Nat) (h0 : (namesL p).length = m + 1) :
    Calls Tryz.prog 42 #[.string (mkB p)] w fun e w' => e = .returned (.agg #[.int .i64 0, .string (mkB ((namesL p)[m]?.getD []))]) ∧ Below w.heap.size w w' := by
  have HC : Hid (∀ W, Calls Tryz.prog 81 #[.string (mkB p)] W fun e w' => ∃ a c, e = .returned (.tuple #[.slice a (m + 1) c, .int .i64 0]) ∧ Below W.heap.size W w' ∧ AtT w' a (m + 1) (namesL p) ∧ m + 1 ≤ c) := fun W => nwl_ok W p hp h m h0
  have hml : m + 1 ≤ 1048577 := by have := namesL_len p; omega
  clear h h0
  generalize namesL p = xs at *
  have hnm : ((m + 1 : Nat) : Int) - 1 = (m : Int) := by omega
  have hwr : IntKind.i64.wrap (m : Int) = (m : Int) := by rw [IntKind.wrap_i64]; omega
  have hmm : m < m + 1 := by omega
  generalize hM : m + 1 = M at *
  go_enter Tryz.func42, Tryz.ntmps42
  go_wp2_with fail
  refine (HC.out _).mono ?_
  rintro e w1 ⟨a, c, rfl, hb1, hat, _⟩
  have HW1 : Hid (Below w.heap.size w w1) := (later1 _ _).trans (hb1.mono (by simp))
  have HR := (OwnRow.newS w (.int .i64 0) (.string ⟨#[]⟩) 79).block (hb1.block w.heap.size (by simp))
  have t0 := HR.cell (i := 0) (by omega)
  have t1 := HR.cell (i := 1) (by omega)
  have s0 := HR.frozen 0
  have s1 := HR.frozen 1
  simp at t0 t1
  obtain ⟨b, off, rfl, c0⟩ := hat m hmm
  generalize hy : xs[m]?.getD [] = y at c0 ⊢
  have HY : Hid (xs[m]?.getD [] = y) := hy
  clear hb1 HR HC hat hy
  go_wp2
  exact bodyPost_ret (v := .agg #[.int .i64 0, .string (mkB y)]) (by simp [results, Tryz.results42, go_sem, t0, t1]) rfl ⟨by rw [HY.out], (HW1.out.setCell (by simp) _).setCell (by simp) _⟩

theorem implLast_any (w : World) (p : List UInt8) (hp : p.length ≤ 1048576) :
    Calls Tryz.prog 42 #[.string (mkB p)] w fun e w' => e = .returned (.agg #[.int .i64 (lastC p), .string (mkB (lastT p))]) ∧ Below w.heap.size w w' := by
  by_cases h : pathF p = 0
  · rcases hm : (namesL p).length with _ | m
    · refine (implLast_code w p 4 (by decide) (fun W => nwl_none W p hp h hm)).mono ?_
      rintro e w' ⟨rfl, hb⟩
      have : namesL p = [] := List.length_eq_zero_iff.1 hm
      exact ⟨by unfold lastT lastC; rw [if_pos h, if_pos h, if_pos hm, this]; rfl, hb⟩
    · refine (implLast_ok w p hp h m hm).mono ?_
      rintro e w' ⟨rfl, hb⟩
      exact ⟨by unfold lastT lastC; rw [if_pos h, if_pos h, if_neg (by omega), hm]; rfl, hb⟩
  · refine (implLast_code w p (pathF p) h (fun W => nwl_bad W p hp h)).mono ?_
    rintro e w' ⟨rfl, hb⟩
    exact ⟨by unfold lastT lastC; rw [if_neg h, if_neg h]; rfl, hb⟩

end Go.Proofs.YtaibcofendjnnaaGreatDoor

namespace Go.Proofs.YtaibcofendjnnaaGreatDoor
open Go.RowKit
set_option maxRecDepth 100000

theorem namesL_mem (p : List UInt8) (hp : p.length ≤ 1048576) (k : Nat) : ((namesL p)[k]?.getD []).length ≤ 1048576 := by
  unfold namesL
  split
  · simp
  · cases p with
    | nil => simp [restN]
    | cons b t => have := cutB_mem t k; simp at hp; show ((cutB t)[k]?.getD []).length ≤ _; omega
def parT (p : List UInt8) : List UInt8 := if lastC p = 0 then joinT ((namesL p).take ((namesL p).length - 1)) else []

end Go.Proofs.YtaibcofendjnnaaGreatDoor

namespace Go.Proofs.YtaibcofendjnnaaGreatDoor
open Go.RowKit
set_option maxRecDepth 100000

theorem path_ok {p : List UInt8} (h : pathF p = 0) : (namesL p).length ≤ 6 ∧ namesF (namesL p) = 0 := by
  unfold pathF at h
  split at h
  · simp at h
  · split at h
    · split at h
      · simp at h
      · split at h
        · simp at h
        · exact ⟨by omega, h⟩
    · simp at h
theorem names_take {xs : List (List UInt8)} (h : namesF xs = 0) (m : Nat) : namesF (xs.take m) = 0 := by
  by_cases hn : namesF (xs.take m) = 0
  · exact hn
  · rw [namesF_prefix (List.take_prefix m xs) hn] at h; exact h
theorem take_get (xs : List (List UInt8)) (m k : Nat) (h : k < m) : (xs.take m)[k]?.getD [] = xs[k]?.getD [] := by rw [List.getElem?_take, if_pos h]
theorem take_len (xs : List (List UInt8)) (m k B : Nat) (h : ∀ k : Nat, (xs[k]?.getD []).length ≤ B) : ((xs.take m)[k]?.getD []).length ≤ B := by
  rw [List.getElem?_take]
  split
  · exact h k
  · simp

end Go.Proofs.YtaibcofendjnnaaGreatDoor

namespace Go.Proofs.YtaibcofendjnnaaGreatDoor
open Go.RowKit
set_option maxRecDepth 100000

theorem take_drop47 (t : List UInt8) : takeTo t ++ dropTo t = t := List.takeWhile_append_dropWhile
theorem drop47 (t : List UInt8) : dropTo t = [] ∨ ∃ r, dropTo t = 47 :: r := by
  unfold dropTo
  induction t with
  | nil => exact Or.inl rfl
  | cons b l ih =>
    by_cases h : b = 47
    · rw [List.dropWhile_cons, if_neg (by simp [h])]; exact Or.inr ⟨l, by rw [h]⟩
    · rw [List.dropWhile_cons, if_pos (by simpa using h)]; exact ih
/-- What is cut is joined again. -/
theorem join_rest (n : Nat) : ∀ l : List UInt8, l.length ≤ n → (l = [] ∨ ∃ r, l = 47 :: r) → joinL (restN l) = l := by
  induction n with
  | zero => intro l h _; have : l = [] := List.eq_nil_of_length_eq_zero (by omega); subst this; rfl
  | succ n ih =>
    intro l hl h
    rcases h with rfl | ⟨t, rfl⟩
    · rfl
    · rw [restN_cons]
      have h1 := ih (dropTo t) (by have := dropTo_le t; simp at hl; omega) (drop47 t)
      show (47 :: takeTo t) ++ joinL (restN (dropTo t)) = 47 :: t
      rw [h1, List.cons_append, take_drop47]
/-- Names that have no slash. -/
def noSlash (y : List UInt8) : Prop := ∀ b ∈ y, b ≠ 47
theorem takeTo_app {y l : List UInt8} (hy : noSlash y) (hl : l = [] ∨ ∃ r, l = 47 :: r) : takeTo (y ++ l) = y ∧ dropTo (y ++ l) = l := by
  unfold takeTo dropTo
  induction y with
  | nil =>
    rcases hl with rfl | ⟨r, rfl⟩
    · exact ⟨rfl, rfl⟩
    · simp
  | cons b t ih =>
    have hb : b ≠ 47 := hy b (by simp)
    have := ih fun c hc => hy c (by simp [hc])
    rw [List.cons_append, List.takeWhile_cons, List.dropWhile_cons, if_pos (by simpa using hb), if_pos (by simpa using hb), this.1, this.2]
    exact ⟨rfl, rfl⟩
theorem joinL_head (ys : List (List UInt8)) : joinL ys = [] ∨ ∃ r, joinL ys = 47 :: r := by
  cases ys with
  | nil => exact Or.inl rfl
  | cons y r => exact Or.inr ⟨_, rfl⟩
theorem joinL_cons (y : List UInt8) (ys : List (List UInt8)) : joinL (y :: ys) = 47 :: (y ++ joinL ys) := rfl
/-- What is joined is cut again. -/
theorem rest_join (ys : List (List UInt8)) (h : ∀ y ∈ ys, noSlash y) : restN (joinL ys) = ys := by
  induction ys with
  | nil => rfl
  | cons y r ih =>
    have h1 := takeTo_app (h y (by simp)) (joinL_head r)
    rw [joinL_cons, restN_cons, h1.1, h1.2, ih fun z hz => h z (by simp [hz])]
theorem joinT_ne {ys : List (List UInt8)} (h : ys ≠ []) : joinT ys = joinL ys := by
  cases ys with
  | nil => exact absurd rfl h
  | cons y r => unfold joinT; rw [if_neg (by rw [joinL_cons]; simp)]
theorem names_join (ys : List (List UInt8)) (h : ∀ y ∈ ys, noSlash y ∧ y ≠ []) : namesL (joinT ys) = ys := by
  cases ys with
  | nil => rfl
  | cons y r =>
    rw [joinT_ne (by simp)]
    unfold namesL
    have hy := (h y (by simp)).2
    rw [if_neg (by rw [joinL_cons]; intro e; simp at e; exact hy e.1), rest_join _ fun z hz => (h z hz).1]
theorem names_of (p : List UInt8) (t : List UInt8) (h : p = 47 :: t) : joinT (namesL p) = p ∧ ((namesL p).length = 0 ↔ p = [47]) := by
  unfold namesL
  by_cases hp : p = [47]
  · rw [if_pos hp, hp]; exact ⟨rfl, by simp⟩
  · rw [if_neg hp]
    have h1 := join_rest p.length p (Nat.le_refl _) (Or.inr ⟨t, h⟩)
    have h2 : restN p ≠ [] := by rw [h]; exact cutB_ne t
    refine ⟨by rw [joinT_ne h2, h1], ?_⟩
    constructor
    · intro h3; exact absurd (List.eq_nil_of_length_eq_zero h3) h2
    · intro h3; exact absurd h3 hp

theorem name_ok {y : List UInt8} (h : nameF (mkB y) = 0) : noSlash y ∧ y ≠ [] := by
  unfold nameF at h
  rw [mkB_size, mkB_list] at h
  by_cases h0 : y.length = 0
  · rw [if_pos h0] at h; simp at h
  · rw [if_neg h0] at h
    by_cases ha : y.all byB = true
    · refine ⟨fun b hb e => ?_, fun e => h0 (by rw [e]; rfl)⟩
      have h1 := List.all_eq_true.1 ha b hb
      rw [e] at h1
      exact absurd h1 (by decide)
    · rw [if_neg ha] at h; simp at h
theorem names_all {xs : List (List UInt8)} (h : namesF xs = 0) : ∀ y ∈ xs, nameF (mkB y) = 0 := by
  induction xs with
  | nil => intro y hy; simp at hy
  | cons x t ih =>
    intro y hy
    unfold namesF at h
    by_cases h0 : nameF (mkB x) = 0
    · rw [if_pos h0] at h
      rcases List.mem_cons.1 hy with rfl | hy
      · exact h0
      · exact ih h y hy
    · rw [if_neg h0] at h; exact absurd h h0
theorem path_head {p : List UInt8} (h : pathF p = 0) : (∃ t, p = 47 :: t) ∧ p.length ≤ 30 := by
  unfold pathF at h
  split at h
  · simp at h
  · rename_i h30
    split at h
    · rename_i hp
      cases p with
      | nil => simp [preB] at hp
      | cons b t =>
        have hb : b = 47 := by simpa [preB] using hp
        exact ⟨⟨t, by rw [hb]⟩, by omega⟩
    · simp at h
theorem join_last : ∀ ys : List (List UInt8), ys ≠ [] → (∀ y ∈ ys, noSlash y ∧ y ≠ []) → ∃ b, (joinL ys).getLast? = some b ∧ b ≠ 47
  | [], h, _ => absurd rfl h
  | [y], _, hy => by
    obtain ⟨h1, h2⟩ := hy y (by simp)
    have h3 : joinL [y] = 47 :: y := by rw [joinL_cons]; simp [joinL]
    rw [h3]
    refine ⟨y.getLast h2, ?_, h1 _ (List.getLast_mem h2)⟩
    cases y with
    | nil => exact absurd rfl h2
    | cons b t => simp [List.getLast?_eq_some_getLast]
  | y :: z :: r, _, hy => by
    obtain ⟨b, hb, hn⟩ := join_last (z :: r) (by simp) fun q hq => hy q (by simp at hq ⊢; exact Or.inr hq)
    refine ⟨b, ?_, hn⟩
    have h3 : joinL (y :: z :: r) = (47 :: y) ++ joinL (z :: r) := rfl
    rw [h3, List.getLast?_append, hb]
    rfl
theorem joinL_take (xs : List (List UInt8)) (m : Nat) : (joinL (xs.take m)).length ≤ (joinL xs).length := by
  have h : joinL xs = joinL (xs.take m) ++ joinL (xs.drop m) := by
    conv => lhs; rw [← List.take_append_drop m xs]
    unfold joinL
    rw [List.flatMap_append]
  rw [h, List.length_append]
  omega
/-- The parent's text is a path, and its names are those ahead of the last. -/
theorem par_ok {p : List UInt8} (h : pathF p = 0) (m : Nat) : pathF (joinT ((namesL p).take m)) = 0 ∧ namesL (joinT ((namesL p).take m)) = (namesL p).take m := by
  obtain ⟨⟨t, ht⟩, h30⟩ := path_head h
  obtain ⟨h6, hnf⟩ := path_ok h
  have hj := (names_of p t ht).1
  have hall : ∀ y ∈ (namesL p).take m, noSlash y ∧ y ≠ [] := fun y hy => name_ok (names_all hnf y (List.mem_of_mem_take hy))
  have hN := names_join _ hall
  refine ⟨?_, hN⟩
  have hnt := names_take hnf m
  have hlt : ((namesL p).take m).length ≤ 6 := by rw [List.length_take]; omega
  have h1 : (joinT ((namesL p).take m)).length ≤ 30 ∧ preB (joinT ((namesL p).take m)) = true ∧ ¬ (sufB (joinT ((namesL p).take m)) = true ∧ topB (joinT ((namesL p).take m)) = false) := by
    by_cases he : (namesL p).take m = []
    · rw [he]; exact ⟨by decide, by decide, by decide⟩
    · have hpn : namesL p ≠ [] := fun e => he (by rw [e]; simp)
      rw [joinT_ne he]
      rw [joinT_ne hpn] at hj
      refine ⟨?_, ?_, ?_⟩
      · have := joinL_take (namesL p) m; rw [hj] at this; omega
      · rcases joinL_head ((namesL p).take m) with e | ⟨r, e⟩
        · cases hq : (namesL p).take m with
          | nil => exact absurd hq he
          | cons y ys => rw [hq, joinL_cons] at e; simp at e
        · rw [e]; simp [preB]
      · rintro ⟨hs, _⟩
        obtain ⟨b, hb, hne⟩ := join_last _ he hall
        unfold sufB at hs
        rw [hb] at hs
        exact hne (by simpa using hs)
  unfold pathF
  rw [if_neg (by omega), if_pos h1.2.1, if_neg h1.2.2, hN, if_neg (by omega)]
  exact hnt
end Go.Proofs.YtaibcofendjnnaaGreatDoor
