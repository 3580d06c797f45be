
/- The walk of the specification's copying of a disk: its two loops. -/
import Derived.Test.YtomcejofhfngkaaCpyA
namespace Go.Proofs.Ytomcejofhfngkaa
open Go.RowKit
set_option maxRecDepth 100000

set_option maxHeartbeats 6400000 in
theorem l1Copy_said : L1CopySaid := by
  intro w aB aC nB cB nC cC bs ps hbl hpl g1 g2 hz hzp hB hP
  have HBL : Hid (bs.length = nB) := hbl
  have HPL : Hid (ps.length = nC) := hpl
  have HZ : Hid (∀ k : Nat, (bs[k]?.getD []).length ≤ 1048576) := hz
  have HZP : Hid (∀ k : Nat, (ps[k]?.getD (0, [])).2.length ≤ 1048576) := hzp
  have HB : Hid (AtS w aB nB bs) := hB
  have HP : Hid (AtP w aC nC ps) := hP
  clear hbl hpl hz hzp hB hP
  obtain ⟨tj, hi, h1, h2, h3⟩ := Try.infoInts'
  have HTJ : Hid (Try.prog.info? 26 = some tj ∧ tj.zero = some (.slice none 0 0) ∧ tj.size = 1 ∧ tj.bytes = 24) := ⟨hi, h1, h2, h3⟩
  clear hi h1 h2 h3
  go_enter Try.func46, Try.ntmps46
  go_wp2_with fail
  go_loopw [4] (fun i wr => ∃ j : Nat, j ≤ nB ∧ i = .int .i64 j ∧ Below w.heap.size w wr ∧ w.heap.size + 3 ≤ wr.heap.size ∧ Box2 wr w.heap.size (.slice aB nB cB) (.slice aC nC cC) ∧ OwnRow wr (w.heap.size + 1) 2 (fun c => if c = 0 then .slice none 0 0 else .slice none 0 0) ∧
    ∃ aX cX k u, OwnRow wr (w.heap.size + 2) 2 (fun c => if c = 0 then .slice aX j cX else .slice none 0 0) ∧ LRow C1 wr (w.heap.size + 3) (w.heap.size + 3) 26 1 (.slice aX j cX) j (fun i => bs[i]?.getD []) k u) (fun i _ => nB - (intOf i).toNat)
  case atStart =>
    refine ⟨0, Nat.zero_le _, rfl, later3 _ _ _ _, by simp, ((Box2.new _ _ _ _).later (later1 _ _)).later (later1 _ _), ?_, none, 0, fun _ => 0, fun _ => .slice none 0 0, ?_, LRow.nil _ _ _ _ _ _⟩
    · have := (OwnRow.two (w.alloc (.cells #[.slice aB nB cB, .slice aC nC cC] 30)) (.slice none 0 0) (.slice none 0 0) 30).later (later1 _ (.cells #[.slice none 0 0, .slice none 0 0] 30))
      simpa using this
    · have := OwnRow.two ((w.alloc (.cells #[.slice aB nB cB, .slice aC nC cC] 30)).alloc (.cells #[.slice none 0 0, .slice none 0 0] 30)) (.slice none 0 0) (.slice none 0 0) 30
      simpa using this
  case round =>
    obtain ⟨j, hj, rfl, hbw, hsz, hbx, hres, aX, cX, k, u, hrow, hlr⟩ := hrel
    have HBW : Hid (Below w.heap.size w wr) := hbw
    have HBX : Hid (Box2 wr w.heap.size (.slice aB nB cB) (.slice aC nC cC)) := hbx
    have HRES : Hid (OwnRow wr (w.heap.size + 1) 2 (fun c => if c = 0 then .slice none 0 0 else .slice none 0 0)) := hres
    have HROW : Hid (OwnRow wr (w.heap.size + 2) 2 (fun c => if c = 0 then .slice aX j cX else .slice none 0 0)) := hrow
    have HLR : Hid (LRow C1 wr (w.heap.size + 3) (w.heap.size + 3) 26 1 (.slice aX j cX) j (fun i => bs[i]?.getD []) k u) := hlr
    clear hbw hbx hres hrow hlr
    obtain ⟨b0, b1⟩ := HBX.out
    by_cases hlt : j < nB
    · obtain ⟨b, off, ua, ucap, e, c1, i1⟩ := HB.out j hlt
      subst e
      replace c1 := cell_later HBW.out c1
      have HI : Hid (Ints wr (.slice ua (bs[j]?.getD []).length ucap) (bs[j]?.getD [])) := i1.later HBW.out
      clear i1
      have q0 := HROW.out.cell (i := 0) (by omega)
      have q1 := HROW.out.frozen 0
      simp at q0
      have hbig : w.heap.size + 2 < wr.heap.size := by omega
      go_wp2_with fail
      go_region_law (first
        | (refine step_append_run rfl _ _ 22 rfl _ _ rfl rfl _ _ HR.out ?_)
        | (go_simp; go_at_call 47; refine (l1Ints_more ?_ (HZ.out j)).mono ?_; exact HI.out; rintro e w1 ⟨na, nc, rfl, hb1, ho1, hs1⟩
           obtain ⟨kb, hk1, hk2, hkf⟩ := ho1.one hs1
           obtain ⟨hi, h1, h2, h3⟩ := HTJ.out
           obtain ⟨g2, cap2, X, hr, hXb, hBX, hXs, hLX⟩ := LRow.append wr w1 22 22 26 tj _ 1 24 Try.underlying22 hi h1 h2 h3 rfl (by decide) (by decide) (w.heap.size + 3) (w.heap.size + 3) j _ _ k u HLR.out hsz (by omega) ((Below.refl _ _).drew.trans hb1) na nc rfl (fun x hx => by simp [C1] at hx; subst hx; rfl) kb (Nat.le_trans hsz hk1) hk2 (fun e => by have := (HLR.out.own.lt _ e).2; exact absurd hk1 (by show ¬ wr.heap.size ≤ kb; omega)) (fun i hi e => by have := (HLR.out.lo i hi).2; exact absurd hk1 (by show ¬ wr.heap.size ≤ kb; omega)) hkf
           have HR : Hid (_ = _) := hr
           have z0 := cell_later hb1 q0
           have z3 := cell_later hb1 b0
           have z4 := cell_later hb1 c1
           have HBX2 : Hid (Below (w.heap.size + 3) wr X) := hBX
           have HLX := hLX
           have HLX2 : Hid (LRow C1 X (w.heap.size + 3) (w.heap.size + 3) 26 1 (.slice (some ⟨g2, 0, none⟩) (j + 1) cap2) (j + 1) (fun i => bs[i]?.getD []) _ _) := HLX
           have x0 : X.cell? ⟨w.heap.size + 2, 0, none⟩ = some (.slice aX j cX) := (hBX.cell (p := ⟨w.heap.size + 2, 0, none⟩) (by simp)).trans q0
           have x1 : X.frozen? ⟨w.heap.size + 2, 0, none⟩ = false := (hBX.frozen (p := ⟨w.heap.size + 2, 0, none⟩) (by simp)).trans q1
           have hw1 : w.heap.size + 2 < w1.heap.size := Nat.lt_of_lt_of_le hbig hb1.size
           have hw0 : w.heap.size < w1.heap.size := Nat.lt_of_le_of_lt (Nat.le_add_right _ 2) hw1
           clear hr hXb hBX hLX HLX hb1 ho1 hs1 hkf hk1 hk2 hi h1 h2 h3 hXs))
      all_goals
        go_wp2
        go_roundw
        case rel =>
          refine ⟨j + 1, by omega, by go_num, (HBW.out.trans (HBX2.out.mono (by omega))).setCell (by simp; omega) _, ?_, ?_, (HRES.out.block (HBX2.out.block _ (by omega))).store (by simp) _, some ⟨g2, 0, none⟩, cap2, _, _, ((HROW.out.block (HBX2.out.block _ (by omega))).set 0 _).congr fun c hc => ?_, HLX2.out.store (by simp) (by simp) _⟩
          · have := HBX2.out.size; simp [World.setCell]; omega
          · have hb := World.cell?_of_block (w := X) (a := ⟨w.heap.size, 0, none⟩) (Below.heap_setCell X ⟨w.heap.size + 2, 0, none⟩ (.slice (some ⟨g2, 0, none⟩) (j + 1) cap2) w.heap.size (by simp))
            have hb' := World.cell?_of_block (w := X) (a := ⟨w.heap.size, 1, none⟩) (Below.heap_setCell X ⟨w.heap.size + 2, 0, none⟩ (.slice (some ⟨g2, 0, none⟩) (j + 1) cap2) w.heap.size (by simp))
            exact ⟨hb.trans ((HBX2.out.cell (p := ⟨w.heap.size, 0, none⟩) (by simp)).trans b0), hb'.trans ((HBX2.out.cell (p := ⟨w.heap.size, 1, none⟩) (by simp)).trans b1)⟩
          · have : c = 0 ∨ c = 1 := by omega
            rcases this with rfl | rfl <;> simp
        case measure => simp [intOf]; omega
    · have e : j = nB := by omega
      subst e
      have HC0 : Hid (Copy2 w wr.heap.size aB aC aX j cB nC cC cX bs ps wr 0) := ⟨HBW.out, Nat.le_refl _, HBX.out, HRES.out, HLR.out.intsS HBL.out _ (fun c h1 h2 => ⟨h1, h2⟩) (fun c h1 h2 => ⟨h1, h2⟩), none, 0, fun _ => 0, fun _ => .slice none 0 0, HROW.out, LRow.nil _ _ _ _ _ _⟩
      clear HLR hlt hj HB HBW HBX HRES HROW
      go_wp2_with fail
      clear b0 b1
      generalize hS : wr.heap.size = S at *
      clear hS
      go_loopw [5] (fun i wq => ∃ q : Nat, q ≤ nC ∧ i = .int .i64 q ∧ Copy2 w S aB aC aX j cB nC cC cX bs ps wq q) (fun i _ => nC - (intOf i).toNat)
      case atStart => exact ⟨0, Nat.zero_le _, rfl, HC0.out⟩
      case round =>
        obtain ⟨q, hq, rfl, hcp⟩ := hrel
        have HCP : Hid (Copy2 w S aB aC aX j cB nC cC cX bs ps wr q) := hcp
        obtain ⟨hbw, hsq, ⟨b0, c0⟩, hres, his, aY, cY, k, u, hrow, hlr⟩ := hcp
        by_cases hqn : q < nC
        · obtain ⟨b, off, ua, ucap, e, c1, c2, i1⟩ := HP.out q hqn
          subst e
          have hblt : b < w.heap.size := World.block_lt_of_cell? _ _ c1
          replace c1 := cell_later hbw c1
          replace c2 := cell_later hbw c2
          have HK := l1Ints_put wr S q _ _ (fun i => ps[i]?.getD (0, [])) k u hlr hsq (by omega) (i1.later hbw) (HZP.out q)
          have HK2 : Hid (Calls _ _ _ _ _) := HK
          have p0 := hrow.cell (i := 1) (by omega)
          have p1 := hrow.frozen 1
          simp at p0
          have hbw2 : w.heap.size + 2 < wr.heap.size := hrow.lt
          have hS3 : w.heap.size + 2 < S := hsz
          clear i1 HK hbw hres his hrow hlr HC0 HP HZ HBL HPL HTJ b0
          go_wp2_with fail
          go_region_law
            (first
              | (refine step_append_run rfl _ _ 28 rfl _ _ rfl rfl _ _ HR.out ?_)
              | (go_simp; go_at_call 47; refine HK2.out.mono ?_; rintro e w1 ⟨na, nc, g2, cap2, X, k', u', rfl, HR, hb1, hBX, HL⟩
                 have o0 := cell_later hb1 p0
                 have z0 := cell_later hb1 c0
                 have z1 := cell_later hb1 c1
                 have z2 := cell_later hb1 c2
                 have x3 := (hBX.cell (p := ⟨w.heap.size + 2, 1, none⟩) hS3).trans p0
                 have x4 := (hBX.frozen (p := ⟨w.heap.size + 2, 1, none⟩) hS3).trans p1
                 have hw1 := Nat.lt_of_lt_of_le hbw2 hb1.size
                 have HX : Hid (Below S wr X) := hBX
                 clear hb1 hBX))
          all_goals
            go_wp2
            go_roundw
            case rel => exact ⟨q + 1, by omega, by go_num, HCP.out.next hS3 HX.out HL.out⟩
            case measure => simp [intOf]; omega
        · have e : q = nC := by omega
          subst e
          have q0 := hrow.cell (i := 0) (by omega)
          have q1 := hrow.cell (i := 1) (by omega)
          have r0 := hres.cell (i := 0) (by omega)
          have r1 := hres.cell (i := 1) (by omega)
          have r2 := hres.frozen 0
          have r3 := hres.frozen 1
          simp at q0 q1 r0 r1
          have HB5 : Hid (Below w.heap.size w wr) := hbw
          have HI5 : Hid (IntsSO wr (.slice aX j cX) bs (fun c => w.heap.size + 3 ≤ c ∧ c < S)) := his
          have HL5 : Hid (LRow (C2 fun i => (ps[i]?.getD (0, [])).1) wr S S 71 2 (.slice aY q cY) q (fun i => (ps[i]?.getD (0, [])).2) k u) := hlr
          clear hbw his hlr hrow hres
          go_wp2
          refine bodyPost_ret (v := .agg #[.slice aX j cX, .slice aY q cY]) (by simp [results, Try.results46, go_sem, r0, r1]) rfl ⟨S, aX, cX, aY, cY, k, u, rfl, (HB5.out.setCell (by simp) _).setCell (by simp) _, by omega, by simpa [World.setCell] using hsq, ?_, (HL5.out.store (by simp; omega) (by simp; omega) _).store (by simp; omega) (by simp; omega) _⟩
          exact ((HI5.out.store (fun b hb => by simp; omega) _).store (fun b hb => by simp; omega) _).mono fun b hb => ⟨by omega, hb.2⟩
end Go.Proofs.Ytomcejofhfngkaa
