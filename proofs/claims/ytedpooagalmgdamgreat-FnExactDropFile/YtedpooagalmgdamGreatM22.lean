/- The specification's WriteFile; how great what is answered is. Lists of bytes as arguments: compared and marked, in the one form. From the reading of an argument to the lists that it holds. No program is named here. What the rows of this seat share: how a disk that came in is opened. How inodes that came in are opened. How lists of inodes that came in are opened. How file systems that came in are opened. The frame of laws of five parameters. -/
import Derived.Test.YtedpooagalmgdamGreatM21
import Derived.Test.YtedpooagalmgdamGreatM04
import Derived.Test.YtedpooagalmgdamGreatM00
import Derived.ProofKit
import Derived.Deep.Slices
import Derived.Deep.SlicePairs
import Derived.Lib.SmallJoins
import Derived.Test.YtedpooagalmgdamGreatRows
import Derived.Test.YtedpooagalmgdamGreatM02
import Derived.Test.YtedpooagalmgdamGreatM03
import Derived.Test.YtedpooagalmgdamGreatM05
namespace Go.Proofs.YtedpooagalmgdamGreat
open Go.RowKit
set_option maxRecDepth 100000

theorem l1In_from (w : World) (q : Int) : Calls Tryz.prog 48 #[.int .i64 q, .int .i64 0, .int .i64 1000] w fun e w' => e = .returned (.bool (fromB q)) ∧ w' = w := by
  have := l1In_any w q 0 1000
  rw [show decide (0 ≤ q ∧ q ≤ 1000) = fromB q by unfold fromB; rw [Bool.decide_and]] at this
  exact this
theorem padZ_str (zs : List UInt8) (n : Nat) (h : zs.length ≤ n) : padZ zs (n - zs.length) = strY zs n := by
  have := padZ_take zs n (n - zs.length) (by omega) (by omega)
  rw [List.take_of_length_le (by rw [padZ_len]; omega)] at this
  exact this

set_option maxHeartbeats 6400000 in
theorem specWriteFU (w : World) (a1 : Option Addr) (n1 c1 : Nat) (a2 : Option Addr) (n2 c2 : Nat) (d : FD) (xx q : Int) (aT : Option Addr) (L cT : Nat) (data : List UInt8) (aB : Option Addr) (nB cB : Nat) (busy : List Int) (h : FsR w (.slice a1 n1 c1) (.slice a2 n2 c2) d) (ht : Byt w (.slice aT L cT) data) (hb : Ints w (.slice aB nB cB) busy) (hs : sizeFs d ≤ 1048576) (hl : data.length ≤ 1048576) (hbl : busy.length ≤ 1048576) :
    Calls Tryz.prog 23 #[.agg #[.slice a1 n1 c1, .slice a2 n2 c2], .int .i64 xx, .int .i64 q, .slice aT L cT, .slice aB nB cB] w (AnsFR w (writeFR d xx q data busy)) := by
  have ht0 := ht
  obtain ⟨_, _, esh, _, hatT⟩ := ht0
  simp only [Value.slice.injEq] at esh
  obtain ⟨rfl, rfl, rfl⟩ := esh
  have HAT : Hid (AtY w aT data.length data) := hatT
  obtain ⟨hx0, -, -⟩ := FsX.box h 31
  have HX : Hid (FsX ((w.alloc (.cells #[.slice a1 n1 c1, .slice a2 n2 c2] 31)).alloc (.cells #[.int .i64 0, .slice none 0 0, .slice none 0 0] 33)) w.heap.size 0 d a1 c1 a2 c2) := hx0.later (later1 _ _)
  have HB0 : Hid (Below w.heap.size w ((w.alloc (.cells #[.slice a1 n1 c1, .slice a2 n2 c2] 31)).alloc (.cells #[.int .i64 0, .slice none 0 0, .slice none 0 0] 33))) := later2 _ _ _
  have HBX : Hid (Bx ((w.alloc (.cells #[.slice a1 n1 c1, .slice a2 n2 c2] 31)).alloc (.cells #[.int .i64 0, .slice none 0 0, .slice none 0 0] 33)) w.heap.size [.slice a1 n1 c1, .slice a2 n2 c2]) := (Bx.new w [.slice a1 n1 c1, .slice a2 n2 c2] _).later (later1 _ _)
  have HRS : Hid (OwnRow ((w.alloc (.cells #[.slice a1 n1 c1, .slice a2 n2 c2] 31)).alloc (.cells #[.int .i64 0, .slice none 0 0, .slice none 0 0] 33)) (w.heap.size + 1) 3 (cel zero3)) := by
    have p2 := row3 (w.alloc (.cells #[.slice a1 n1 c1, .slice a2 n2 c2] 31)) 33
    rw [World.size_alloc] at p2
    exact p2
  have HAS : Hid (∀ W, W = ((w.alloc (.cells #[.slice a1 n1 c1, .slice a2 n2 c2] 31)).alloc (.cells #[.int .i64 0, .slice none 0 0, .slice none 0 0] 33)) → Calls Tryz.prog 33 #[.pointer (some ⟨w.heap.size, 0, none⟩), .int .i64 xx, .slice aB nB cB] W fun e w' => e = .returned (.int .i64 (askR d xx busy)) ∧ Below W.heap.size W w') := fun W hW => by
    subst hW
    exact l7With_any _ _ d a1 n1 c1 a2 n2 c2 xx _ busy (HBX.out 0 _ rfl) (HBX.out 1 _ rfl) (h.later (later2 _ _ _)) hs (hb.later (later2 _ _ _))
  have HFR : Hid (∀ W, Calls Tryz.prog 48 #[.int .i64 q, .int .i64 0, .int .i64 1000] W fun e w' => e = .returned (.bool (fromB q)) ∧ w' = W) := fun W => l1In_from W q
  have HRR : Hid (writeFR d xx q data busy = if askR d xx busy = 0 then (if fromB q = true then (if q + (data.length : Int) ≤ 32 then (if data.length = 0 then (0, d) else setQ d xx.toNat (mixY (strY (bytL d xx.toNat) (max (q.toNat + data.length) (bytL d xx.toNat).length)) q.toNat data) busy) else noFs 2) else noFs 3) else noFs (askR d xx busy)) := rfl
  rw [HRR.out]
  clear HRR hx0 hatT ht
  by_cases hc : askR d xx busy = 0
  rotate_left
  · rw [if_neg hc]
    have hcb : (askR d xx busy != 0) = true := by simpa using hc
    clear h hs hc hb HX HFR HAT
    go_enter Tryz.func23, Tryz.ntmps23
    go_wp2_with fail
    have HAW := HAS.out _ rfl
    have HAV : Hid (Calls Tryz.prog 33 _ _ _) := HAW
    clear HAW HAS
    generalize ((w.alloc (.cells #[.slice a1 n1 c1, .slice a2 n2 c2] 31)).alloc (.cells #[.int .i64 0, .slice none 0 0, .slice none 0 0] 33)) = W0 at *
    refine HAV.out.mono ?_
    rintro e w1 ⟨rfl, hb1⟩
    have HB1 : Hid (Below w.heap.size w w1) := HB0.out.trans (hb1.mono HB0.out.size)
    have hrr := HRS.out.later hb1
    have t0 : w1.cell? ⟨w.heap.size + 1, 0, none⟩ = some (.int .i64 0) := hrr.cell (i := 0) (by omega)
    have t1 : w1.cell? ⟨w.heap.size + 1, 1, none⟩ = some (.slice none 0 0) := hrr.cell (i := 1) (by omega)
    have t2 : w1.cell? ⟨w.heap.size + 1, 2, none⟩ = some (.slice none 0 0) := hrr.cell (i := 2) (by omega)
    have s0 := hrr.frozen 0
    have s1 := hrr.frozen 1
    have s2 := hrr.frozen 2
    clear hb1 hrr
    generalize askR d xx busy = r at *
    go_wp2
    exact bodyPost_ret (v := .agg #[.int .i64 r, .slice none 0 0, .slice none 0 0]) (by simp [results, Tryz.results23, go_sem, t0, t1, t2]) rfl (AnsFR.none' r HB1.out (by omega) _ _ _)
  · rw [if_pos hc]
    rw [hc] at HAS
    have hbc := (askR_code hc).1
    have hsd := sound hbc
    obtain ⟨_, _, hpl, _, _⟩ := bytR_code hbc
    obtain ⟨j, rfl⟩ : ∃ j : Nat, xx = (j : Int) := ⟨xx.toNat, by omega⟩
    rw [Int.toNat_natCast] at hsd ⊢
    by_cases hq : fromB q = true
    rotate_left
    · rw [if_neg hq]
      have hqf : fromB q = false := by simpa using hq
      rw [hqf] at HFR
      clear h hs hc hb HX hsd hpl hbc hq hqf HAT
      go_enter Tryz.func23, Tryz.ntmps23
      go_wp2_with fail
      have HAW := HAS.out _ rfl
      have HAV : Hid (Calls Tryz.prog 33 _ _ _) := HAW
      clear HAW HAS
      generalize ((w.alloc (.cells #[.slice a1 n1 c1, .slice a2 n2 c2] 31)).alloc (.cells #[.int .i64 0, .slice none 0 0, .slice none 0 0] 33)) = W0 at *
      refine HAV.out.mono ?_
      rintro e w1 ⟨rfl, hb1⟩
      have HB1 : Hid (Below w.heap.size w w1) := HB0.out.trans (hb1.mono HB0.out.size)
      have hrr := HRS.out.later hb1
      have t0 : w1.cell? ⟨w.heap.size + 1, 0, none⟩ = some (.int .i64 0) := hrr.cell (i := 0) (by omega)
      have t1 : w1.cell? ⟨w.heap.size + 1, 1, none⟩ = some (.slice none 0 0) := hrr.cell (i := 1) (by omega)
      have t2 : w1.cell? ⟨w.heap.size + 1, 2, none⟩ = some (.slice none 0 0) := hrr.cell (i := 2) (by omega)
      have s0 := hrr.frozen 0
      have s1 := hrr.frozen 1
      have s2 := hrr.frozen 2
      clear hb1 hrr
      go_wp2_with fail
      refine (HFR.out _).mono ?_
      rintro e w2 ⟨rfl, rfl⟩
      go_wp2
      exact bodyPost_ret (v := .agg #[.int .i64 3, .slice none 0 0, .slice none 0 0]) (by simp [results, Tryz.results23, go_sem, t0, t1, t2]) rfl (AnsFR.none' 3 HB1.out (by omega) _ _ _)
    · rw [if_pos hq]
      rw [hq] at HFR
      obtain ⟨hq0, hq1⟩ : 0 ≤ q ∧ q ≤ 1000 := by unfold fromB at hq; simpa using hq
      obtain ⟨p, rfl⟩ : ∃ p : Nat, q = (p : Int) := ⟨q.toNat, by omega⟩
      rw [Int.toNat_natCast]
      have hp : p ≤ 1000 := by omega
      clear hq hq0 hq1
      by_cases he : (p : Int) + (data.length : Int) ≤ 32
      rotate_left
      · rw [if_neg he]
        have heb : decide ((32 : Int) < (p : Int) + (data.length : Int)) = true := by simp; omega
        clear h hs hc hb HX hsd hpl hbc he HAT
        generalize data.length = L at *
        go_enter Tryz.func23, Tryz.ntmps23
        go_wp2_with fail
        have HAW := HAS.out _ rfl
        have HAV : Hid (Calls Tryz.prog 33 _ _ _) := HAW
        clear HAW HAS
        generalize ((w.alloc (.cells #[.slice a1 n1 c1, .slice a2 n2 c2] 31)).alloc (.cells #[.int .i64 0, .slice none 0 0, .slice none 0 0] 33)) = W0 at *
        refine HAV.out.mono ?_
        rintro e w1 ⟨rfl, hb1⟩
        have HB1 : Hid (Below w.heap.size w w1) := HB0.out.trans (hb1.mono HB0.out.size)
        have hrr := HRS.out.later hb1
        have t0 : w1.cell? ⟨w.heap.size + 1, 0, none⟩ = some (.int .i64 0) := hrr.cell (i := 0) (by omega)
        have t1 : w1.cell? ⟨w.heap.size + 1, 1, none⟩ = some (.slice none 0 0) := hrr.cell (i := 1) (by omega)
        have t2 : w1.cell? ⟨w.heap.size + 1, 2, none⟩ = some (.slice none 0 0) := hrr.cell (i := 2) (by omega)
        have s0 := hrr.frozen 0
        have s1 := hrr.frozen 1
        have s2 := hrr.frozen 2
        clear hb1 hrr
        go_wp2_with fail
        refine (HFR.out _).mono ?_
        rintro e w2 ⟨rfl, rfl⟩
        go_wp2
        exact bodyPost_ret (v := .agg #[.int .i64 2, .slice none 0 0, .slice none 0 0]) (by simp [results, Tryz.results23, go_sem, t0, t1, t2]) rfl (AnsFR.none' 2 HB1.out (by omega) _ _ _)
      · rw [if_pos he]
        have heb : decide ((32 : Int) < (p : Int) + (data.length : Int)) = false := by simp; omega
        have hpl32 : p + data.length ≤ 32 := by omega
        by_cases hz : data.length = 0
        · rw [if_pos hz]
          have HCPF : Hid (∀ W, Below w.heap.size w W → Calls Tryz.prog 49 #[.agg #[.slice a1 n1 c1, .slice a2 n2 c2]] W (AnsFs W d)) := fun W hW => l6Copy_any W a1 n1 c1 a2 n2 c2 d (h.later hW) hs
          clear h hs hc hb HX hsd hpl hbc he HAT
          rw [hz] at heb ⊢
          simp only [Int.natCast_zero, Int.add_zero] at heb
          go_enter Tryz.func23, Tryz.ntmps23
          go_wp2_with fail
          have HAW := HAS.out _ rfl
          have HAV : Hid (Calls Tryz.prog 33 _ _ _) := HAW
          clear HAW HAS
          generalize ((w.alloc (.cells #[.slice a1 n1 c1, .slice a2 n2 c2] 31)).alloc (.cells #[.int .i64 0, .slice none 0 0, .slice none 0 0] 33)) = W0 at *
          refine HAV.out.mono ?_
          rintro e w1 ⟨rfl, hb1⟩
          have HB1 : Hid (Below w.heap.size w w1) := HB0.out.trans (hb1.mono HB0.out.size)
          have HR1 : Hid (OwnRow w1 (w.heap.size + 1) 3 (cel zero3)) := HRS.out.later hb1
          have x0 := (HBX.out.later hb1) 0 _ rfl
          have x1 := (HBX.out.later hb1) 1 _ rfl
          have hlw : w.heap.size + 1 < w1.heap.size := HR1.out.lt
          clear hb1
          go_wp2_with fail
          refine (HFR.out _).mono ?_
          rintro e u1 ⟨rfl, rfl⟩
          go_wp2_with fail
          refine (HCPF.out _ HB1.out).mono ?_
          rintro e w3 ⟨b1, m1, k1, b2, m2, k2, rfl, hb3, hf3⟩
          have HB3 : Hid (Below u1.heap.size u1 w3) := hb3
          have HF3 : Hid (FsU w3 (.slice b1 m1 k1) (.slice b2 m2 k2) d (fresh u1 w3)) := hf3
          have hrr := HR1.out.later hb3
          have t0 : w3.cell? ⟨w.heap.size + 1, 0, none⟩ = some (.int .i64 0) := hrr.cell (i := 0) (by omega)
          have t1 : w3.cell? ⟨w.heap.size + 1, 1, none⟩ = some (.slice none 0 0) := hrr.cell (i := 1) (by omega)
          have t2 : w3.cell? ⟨w.heap.size + 1, 2, none⟩ = some (.slice none 0 0) := hrr.cell (i := 2) (by omega)
          have s0 := hrr.frozen 0
          have s1 := hrr.frozen 1
          have s2 := hrr.frozen 2
          clear hb3 hf3 hrr x0 x1
          go_wp2
          exact bodyPost_ret (v := .agg #[.int .i64 0, .slice b1 m1 k1, .slice b2 m2 k2]) (by simp [results, Tryz.results23, go_sem, t0, t1, t2]) rfl (AnsFR.pass HB1.out (by omega) hlw HB3.out HF3.out _ _ _)
        · rw [if_neg hz]
          have hzb : (((data.length : Nat) : Int) == 0) = false := by simpa using hz
          have HBY : Hid (∀ W, Below ((w.alloc (.cells #[.slice a1 n1 c1, .slice a2 n2 c2] 31)).alloc (.cells #[.int .i64 0, .slice none 0 0, .slice none 0 0] 33)).heap.size ((w.alloc (.cells #[.slice a1 n1 c1, .slice a2 n2 c2] 31)).alloc (.cells #[.int .i64 0, .slice none 0 0, .slice none 0 0] 33)) W → Calls Tryz.prog 50 #[.pointer (some ⟨w.heap.size, 0, none⟩), .int .i64 (j : Int)] W fun e w' => ∃ v, e = .returned v ∧ Below W.heap.size W w' ∧ WdY w' W.heap.size v (bytL d j)) := fun W hW => l6Bytes_any W _ _ d _ _ _ _ j (HX.out.later hW) hsd.lt hsd.ten hsd.dat hsd.eight hsd.four hsd.blk
          have HSE : Hid (∀ (W : World) (aT : Option Addr) (L cT : Nat) (text : List UInt8), Below w.heap.size w W → Byt W (.slice aT L cT) text → Calls Tryz.prog 34 #[.agg #[.slice a1 n1 c1, .slice a2 n2 c2], .int .i64 (j : Int), .slice aT L cT, .slice aB nB cB] W (AnsFR W (setQ d j text busy))) := fun W aT L cT text hW ht => l7SetU W a1 n1 c1 a2 n2 c2 d j aT L cT text aB nB cB busy (h.later hW) ht (hb.later hW) hs hbl hsd
          have hb32 := hsd.bl
          clear h hs hc hb HX hsd hpl hbc
          generalize bytL d j = zs at *
          obtain ⟨N, hN⟩ : ∃ N, max (p + data.length) zs.length = N := ⟨_, rfl⟩
          rw [hN]
          generalize hsq : setQ d j (mixY (strY zs N) p data) busy = sq at *
          have HSQ : Hid (setQ d j (mixY (strY zs N) p data) busy = sq) := hsq
          have HNN : Hid (max (p + data.length) zs.length = N) := hN
          clear hsq hN he
          obtain ⟨sc, sd⟩ := sq
          obtain ⟨D, hD⟩ : ∃ D, data.length = D := ⟨_, rfl⟩
          have HD : Hid (data.length = D) := hD
          rw [hD] at heb hpl32 hzb hz HNN HAT hl ⊢
          clear hD
          go_enter Tryz.func23, Tryz.ntmps23
          go_wp2_with fail
          have HAW := HAS.out _ rfl
          have HAV : Hid (Calls Tryz.prog 33 _ _ _) := HAW
          clear HAW HAS
          generalize ((w.alloc (.cells #[.slice a1 n1 c1, .slice a2 n2 c2] 31)).alloc (.cells #[.int .i64 0, .slice none 0 0, .slice none 0 0] 33)) = W0 at *
          refine HAV.out.mono ?_
          rintro e w1 ⟨rfl, hb1⟩
          have HL1 : Hid (Below W0.heap.size W0 w1) := hb1
          clear hb1 HAV
          go_wp2_with fail
          refine (HFR.out _).mono ?_
          rintro e u1 ⟨rfl, rfl⟩
          go_wp2_with fail
          refine (HBY.out _ HL1.out).mono ?_
          rintro e w2 ⟨v, rfl, hb2, hw2⟩
          have HL2 : Hid (Below W0.heap.size W0 w2) := HL1.out.trans (hb2.mono HL1.out.size)
          have HW2 : Hid (WdY w2 u1.heap.size v zs) := hw2
          have HZ2 : Hid (u1.heap.size ≤ w2.heap.size) := hb2.size
          have HP0 : Hid (zs = padZ zs 0) := by unfold Hid padZ; simp
          clear hb2 hw2
          go_wp2_with fail
          go_loopw [12] (fun vv wr => ∃ k : Nat, (zs.length < p + D → zs.length + k ≤ p + D) ∧ (p + D ≤ zs.length → k = 0) ∧ Below W0.heap.size W0 wr ∧ u1.heap.size ≤ wr.heap.size ∧ WdY wr u1.heap.size vv (padZ zs k)) (fun vv _ => match vv with | .slice _ m _ => p + D - m | _ => 0)
          case atStart => exact ⟨0, by omega, fun _ => rfl, HL2.out, HZ2.out, HP0.out ▸ HW2.out⟩
          case round =>
            obtain ⟨k, hk1, hk2, hbl2, hsz, hwd⟩ := hrel
            obtain ⟨av, cv, rfl⟩ := hwd.shape
            have HBL : Hid (Below W0.heap.size W0 wr) := hbl2
            have HWD : Hid (WdY wr u1.heap.size (.slice av (padZ zs k).length cv) (padZ zs k)) := hwd
            have HSZW : Hid (u1.heap.size ≤ wr.heap.size) := hsz
            have HPL : Hid ((padZ zs k).length = zs.length + k) := padZ_len zs k
            clear hbl2 hwd hsz
            by_cases hlt : zs.length + k < p + D
            · obtain ⟨v', X, hr, hwx, hbx⟩ := append_y (wr.alloc (.cells #[.int .u8 0] 5)) u1.heap.size (.slice av (padZ zs k).length cv) (padZ zs k) [0] (some ⟨wr.heap.size, 0, none⟩) 1 1 (HWD.out.later (later1 _ _)) (by have := HSZW.out; simp; omega) (by rw [HPL.out]; omega) (by simp) (lit1_Y wr)
              rw [padZ_succ] at hwx
              have HRN : Hid (_ = _) := hr
              have HWX : Hid (WdY X u1.heap.size v' (padZ zs (k + 1))) := hwx
              have hbX : Below u1.heap.size wr X := ((later1 _ _).mono HSZW.out).trans hbx
              have HBX2 : Hid (Below W0.heap.size W0 X) := HBL.out.trans (hbX.mono HL1.out.size)
              have HSX : Hid (u1.heap.size ≤ X.heap.size) := Nat.le_trans HSZW.out hbX.size
              obtain ⟨aw, cw, rfl⟩ := hwx.shape
              have HPL2 : Hid ((padZ zs (k + 1)).length = zs.length + (k + 1)) := padZ_len zs (k + 1)
              rw [HPL.out] at HRN ⊢
              rw [HPL2.out] at HRN HWX
              clear hr hwx hbx hbX HWD
              go_wp2_with (first | refine wpList_append_run rfl _ _ 26 rfl _ _ rfl rfl _ _ HRN.out ?_ | fail)
              go_roundw
              case rel => exact ⟨k + 1, by omega, by omega, HBX2.out, HSX.out, HWX.out⟩
              case measure => simp; omega
            · have hNk : zs.length + k = N := by have := HNN.out; omega
              have hpad : padZ zs k = strY zs N := by
                have := padZ_str zs N (by omega)
                rw [show N - zs.length = k by omega] at this
                exact this
              have hown := HWD.out.own (w0 := u1) (Nat.le_refl _)
              rw [HPL.out, hNk, hpad] at hown
              rw [HPL.out, hNk]
              rcases hown with ⟨e0, _⟩ | ⟨b0, cap0, hF0, e0, hm0, hrow0⟩
              · exfalso
                have := strY_len zs N
                rw [e0] at this
                simp at this
                omega
              simp only [Value.slice.injEq] at e0
              obtain ⟨rfl, -, rfl⟩ := e0
              have HROW : Hid (OwnRow wr b0 N (bytC (strY zs N))) := by
                have := hrow0
                rw [strY_len] at this
                exact this
              have HB0G : Hid (u1.heap.size ≤ b0) := hF0.1
              have hNc : N ≤ cv := by have := hm0.2; rw [strY_len] at this; exact this
              have hND : p + D ≤ N := by have := HNN.out; omega
              have HMG : Hid (∀ i, bytC (mixY (strY zs N) p data) i = if p ≤ i ∧ i < p + D then bytC data (i - p) else bytC (strY zs N) i) := fun i => by
                unfold bytC
                rw [mixY_get _ _ _ (by rw [strY_len, HD.out]; omega), HD.out]
                by_cases hh : p ≤ i ∧ i < p + D
                · rw [if_pos hh, if_pos hh]
                · rw [if_neg hh, if_neg hh]
              have HML : Hid ((mixY (strY zs N) p data).length = N) := by unfold Hid; rw [mixY_len _ _ _ (by rw [strY_len, HD.out]; omega), strY_len]
              have hN32 : N ≤ 32 := by have := HNN.out; omega
              have hge2 : ¬ ((N : Int) < (p : Int) + (D : Int)) := by omega
              clear HWD hrow0 hm0 hF0 hpad hNk hk1 hk2 hlt HPL
              go_wp2_with fail
              go_loopw [13] (fun i wr2 => ∃ m : Nat, m ≤ D ∧ i = .int .i64 m ∧ Chg (fun c => c = b0) wr wr2 ∧ OwnRow wr2 b0 N (fun i => if p ≤ i ∧ i < p + m then bytC data (i - p) else bytC (strY zs N) i)) (fun i _ => D - (intOf i).toNat)
              case atStart => exact ⟨0, Nat.zero_le _, rfl, Chg.refl _ _, HROW.out.congr fun i _ => by rw [if_neg (by omega)]⟩
              case round =>
                obtain ⟨m, hm, rfl, hc2, hr2⟩ := hrel
                have HC2 : Hid (Chg (fun c => c = b0) _ wr) := hc2
                have HR2 : Hid (OwnRow wr b0 N (fun i => if p ≤ i ∧ i < p + m then bytC data (i - p) else bytC (strY zs N) i)) := hr2
                have HBW0 : Hid (Below W0.heap.size W0 wr) := HBL.out.trans (hc2.below HBL.out.size fun b hb => by have := HB0G.out; have := HL1.out.size; omega)
                have HBW : Hid (Below w.heap.size w wr) := HB0.out.trans (HBW0.out.mono HB0.out.size)
                by_cases hlt : m < D
                · obtain ⟨bd, od, rfl, cd⟩ := HAT.out m hlt
                  have cd2 := cell_later HBW.out cd
                  obtain ⟨r, hr⟩ : ∃ r, p + m = r := ⟨_, rfl⟩
                  have hpm : r < N := by omega
                  have cp0 := hr2.cell (i := r) hpm
                  rw [if_neg (by omega)] at cp0
                  have cp1 := hr2.frozen r
                  have hpmI : (p : Int) + (m : Int) = (r : Int) := by omega
                  have hwr1 : IntKind.i64.wrap ((p : Int) + (m : Int)) = (r : Int) := by rw [IntKind.wrap_i64]; omega
                  have hwr2 : IntKind.i64.wrap (r : Int) = (r : Int) := by rw [IntKind.wrap_i64]; omega
                  have hpmN : (r : Int) < (N : Int) := by omega
                  have HNX : Hid (OwnRow (wr.setCell ⟨b0, r, none⟩ (.int .u8 (((data[m]?.getD 0).toNat : Nat) : Int))) b0 N (fun i => if p ≤ i ∧ i < p + (m + 1) then bytC data (i - p) else bytC (strY zs N) i)) := (hr2.set r _).congr fun i _ => by
                    by_cases e1 : i = r
                    · subst e1
                      rw [if_pos rfl, if_pos ⟨by omega, by omega⟩, show i - p = m by omega]
                      rfl
                    · rw [if_neg e1]
                      by_cases e2 : p ≤ i ∧ i < p + m
                      · rw [if_pos e2, if_pos ⟨e2.1, by omega⟩]
                      · rw [if_neg e2, if_neg (by omega)]
                  have HCX : Hid (Chg (fun c => c = b0) _ (wr.setCell ⟨b0, r, none⟩ (.int .u8 (((data[m]?.getD 0).toNat : Nat) : Int)))) := Chg.set (F := fun c => c = b0) hc2 rfl r _
                  clear hr
                  unfold bytC at cp0
                  clear hc2 hr2 cd
                  generalize ((data[m]?.getD 0).toNat : Nat) = dz at *
                  go_wp2
                  go_roundw
                  case rel => exact ⟨m + 1, by omega, by go_num, HCX.out, HNX.out⟩
                  case measure => simp [intOf]; omega
                · have e : D = m := by omega
                  subst e
                  have HRX : Hid (OwnRow wr b0 N (bytC (mixY (strY zs N) p data))) := hr2.congr fun i _ => (HMG.out i).symm
                  have HBT : Hid (Byt wr (.slice (some ⟨b0, 0, none⟩) N cv) (mixY (strY zs N) p data)) := by
                    have h1 : BytO wr (.slice (some ⟨b0, 0, none⟩) N cv) (mixY (strY zs N) p data) (fun _ => True) := Or.inr ⟨b0, cv, trivial, by rw [HML.out], ⟨by rw [HML.out]; unfold maxLen; omega, by rw [HML.out]; exact hNc⟩, by rw [HML.out]; exact HRX.out⟩
                    exact h1.reads
                  have HR1 : Hid (OwnRow wr (w.heap.size + 1) 3 (cel zero3)) := HRS.out.later HBW0.out
                  have HX1 : Hid (Bx wr w.heap.size [.slice a1 n1 c1, .slice a2 n2 c2]) := HBX.out.later HBW0.out
                  have x0 := HX1.out 0 _ rfl
                  have x1 := HX1.out 1 _ rfl
                  have hlw : w.heap.size + 1 < wr.heap.size := HR1.out.lt
                  clear hc2 hr2
                  go_wp2_with fail
                  refine (HSE.out wr _ _ _ (mixY (strY zs N) p data) HBW.out HBT.out).mono ?_
                  rw [HSQ.out]
                  rintro e w3 ⟨b1, m1, k1, b2, m2, k2, rfl, hb3, hf3⟩
                  have HB3 : Hid (Below wr.heap.size wr w3) := hb3
                  have HF3 : Hid (FsU w3 (.slice b1 m1 k1) (.slice b2 m2 k2) sd (fresh wr w3)) := hf3
                  have hrr := HR1.out.later hb3
                  have t0 : w3.cell? ⟨w.heap.size + 1, 0, none⟩ = some (.int .i64 0) := hrr.cell (i := 0) (by omega)
                  have t1 : w3.cell? ⟨w.heap.size + 1, 1, none⟩ = some (.slice none 0 0) := hrr.cell (i := 1) (by omega)
                  have t2 : w3.cell? ⟨w.heap.size + 1, 2, none⟩ = some (.slice none 0 0) := hrr.cell (i := 2) (by omega)
                  have s0 := hrr.frozen 0
                  have s1 := hrr.frozen 1
                  have s2 := hrr.frozen 2
                  clear hb3 hf3 hrr
                  go_wp2
                  exact bodyPost_ret (v := .agg #[.int .i64 sc, .slice b1 m1 k1, .slice b2 m2 k2]) (by simp [results, Tryz.results23, go_sem, t0, t1, t2]) rfl (AnsFR.pass HBW.out (by omega) hlw HB3.out HF3.out _ _ _)

theorem cutR_span (d : FD) (x q : Int) (busy : List Int) : spanFs (cutR d x q busy).2 ≤ 1000 := by
  unfold cutR
  by_cases hc : askR d x busy = 0
  · rw [if_pos hc]
    by_cases hq : 0 ≤ q ∧ q ≤ 32
    · rw [if_pos hq]; exact setQ_span (sound (askR_code hc).1) _ busy
    · rw [if_neg hq, noFs_span]; omega
  · rw [if_neg hc, noFs_span]; omega
theorem writeFR_span (d : FD) (x q : Int) (data : List UInt8) (busy : List Int) (hs : sizeFs d ≤ 1048576) : spanFs (writeFR d x q data busy).2 ≤ 4194304 := by
  unfold writeFR
  by_cases hc : askR d x busy = 0
  · rw [if_pos hc]
    by_cases hq : fromB q = true
    · rw [if_pos hq]
      by_cases he : q + (data.length : Int) ≤ 32
      · rw [if_pos he]
        by_cases hz : data.length = 0
        · rw [if_pos hz]; have := spanFs_le d; show spanFs d ≤ 4194304; omega
        · rw [if_neg hz]; have := setQ_span (sound (askR_code hc).1) (mixY (strY (bytL d x.toNat) (max (q.toNat + data.length) (bytL d x.toNat).length)) q.toNat data) busy; omega
      · rw [if_neg he, noFs_span]; omega
    · rw [if_neg hq, noFs_span]; omega
  · rw [if_neg hc, noFs_span]; omega
end Go.Proofs.YtedpooagalmgdamGreat

namespace Go.Proofs.YtedpooagalmgdamGreat
open Go.RowKit
set_option maxRecDepth 100000

theorem Tryz.cellsU8V : Tryz.prog.cellsOf 5 = 1 := by kernel_rfl
theorem eqBytV {w : World} {v v' : Value} {zs : List UInt8} (h : Byt w v zs) (h' : Byt w v' zs) : Calls Tryz.prog 16 #[v, v'] w fun e w' => e = .returned (.bool true) ∧ Below w.heap.size w w' :=
  (eqBytU h h').mono fun _ _ ⟨h1, m, h2⟩ => ⟨h1, h2 ▸ below_drewN (Below.refl _ _) m⟩
theorem markBytV {w : World} {v : Value} {zs : List UInt8} {F : Nat → Prop} (k : Int) (h : BytO w v zs F) (hk0 : 0 ≤ k) (hk : k + (zs.length : Nat) ≤ 4611686018427387904) :
    Calls Tryz.prog 19 #[v, .int .i64 k] w fun e w' => e = .returned (.int .i64 (k + (zs.length : Nat))) ∧ Chg F w w' :=
  (markBytU k h hk0 hk).mono fun _ _ ⟨h1, _, h2⟩ => ⟨h1, h2⟩
end Go.Proofs.YtedpooagalmgdamGreat

namespace Go.Proofs.YtedpooagalmgdamGreat
open Go.ChangeShapes Go.WideShapes Go.ChangeAt Go.RowKit Go.Deep
set_option maxRecDepth 100000

section
variable {H : Type} {enc : TypeId × Value → H} {P : Program} {w : World} {base : Nat} {held : Bool}

theorem addr_of {a : Addr} {v : Value} (h : w.cell? (a.add 0) = some v) : a = ⟨a.block, a.off, none⟩ := by
  obtain ⟨b, o, s⟩ := a
  have : s = none := by simpa [Addr.add] using World.cell?_spot h
  subst this; rfl
theorem add_plain (b off k : Nat) : (⟨b, off, none⟩ : Addr).add k = ⟨b, off + k, none⟩ := by
  by_cases h : k = 0
  · subst h; simp [Addr.add]
  · simp [Addr.add, h]

theorem open_Ints {t e : TypeId} {fuel : Nat} {v : Value} {x : DataW H × List MemPlace} (ht : P.underlying t = some (.slice e)) (he : P.underlying e = some (.int .i64)) (ce : P.cellsOf e = 1) (h : DataW.trod enc P w base (fun _ => true) held fuel t [v] = some x) :
    ∃ zs, Ints w v zs := by
  rcases open_ints ht he ce h with ⟨hcs, _⟩ | ⟨a, len, cap, zs, hcs, _, hl, hm, hz, _, hcell, _⟩
  · simp only [List.cons.injEq, and_true] at hcs
    exact ⟨[], Or.inl ⟨rfl, none, 0, hcs⟩⟩
  · simp only [List.cons.injEq, and_true] at hcs
    simp only [if_true] at hz
    by_cases h0 : len = 0
    · subst h0; exact ⟨[], Or.inl ⟨rfl, some a, cap, hcs⟩⟩
    · have ha := addr_of (hcell 0 (by omega))
      refine ⟨zs.take len, Or.inr ⟨a.block, a.off, cap, ?_, ?_, fun k hk => ?_⟩⟩
      · rw [hcs, List.length_take, Nat.min_eq_left (by omega), ← ha]
      · rw [List.length_take]; omega
      · rw [List.length_take] at hk
        have h1 := hcell k (by omega)
        rw [ha, add_plain] at h1
        rw [h1, List.getElem?_take, if_pos (by omega)]
        rfl

theorem open_IntsS {t e q : TypeId} {fuel : Nat} {v : Value} {x : DataW H × List MemPlace} (ht : P.underlying t = some (.slice e)) (he : P.underlying e = some (.slice q)) (hq : P.underlying q = some (.int .i64)) (ce : P.cellsOf e = 1) (cq : P.cellsOf q = 1)
    (h : DataW.trod enc P w base (fun _ => true) held fuel t [v] = some x) : ∃ zss, IntsS w v zss := by
  rcases open_slice1 ht ce h with ⟨hcs, _⟩ | ⟨a, len, cap, m, n, V, D, Pl, hcs, _, hl, hm, hmm, _, hx⟩
  · simp only [List.cons.injEq, and_true] at hcs
    exact ⟨[], Or.inl ⟨rfl, none, 0, hcs⟩⟩
  · simp only [List.cons.injEq, and_true] at hcs
    simp only [if_true] at hmm
    by_cases h0 : len = 0
    · subst h0; exact ⟨[], Or.inl ⟨rfl, some a, cap, hcs⟩⟩
    · have ha := addr_of (hx 0 (by omega)).1
      obtain ⟨Z, hZ⟩ := choose_lt (α := List Int) (n := m) (p := fun i zs => Ints w (V i) zs) fun i hi => open_Ints he hq cq (hx i hi).2
      refine ⟨(List.range len).map Z, Or.inr ⟨a.block, a.off, cap, V, ?_, ?_, fun k hk => ?_⟩⟩
      · simp only [List.length_map, List.length_range]; rw [hcs, ← ha]
      · simp only [List.length_map, List.length_range]; omega
      · simp only [List.length_map, List.length_range] at hk
        have h1 := (hx k (by omega)).1
        rw [ha, add_plain] at h1
        refine ⟨h1, ?_⟩
        have := hZ k (by omega)
        simpa [hk] using this

theorem open_Puts {t e q : TypeId} {f0 f1 : Field} {fuel : Nat} {v : Value} {x : DataW H × List MemPlace} (ht : P.underlying t = some (.slice e)) (he : P.underlying e = some (.struct #[f0, f1]))
    (ce : P.cellsOf e = 2) (o0 : f0.offset = 0) (o1 : f1.offset = 1) (c0 : P.cellsOf f0.type = 1) (c1 : P.cellsOf f1.type = 1) (h0 : P.underlying f0.type = some (.int .i64)) (h1 : P.underlying f1.type = some (.slice q)) (hq : P.underlying q = some (.int .i64)) (cq : P.cellsOf q = 1)
    (h : DataW.trod enc P w base (fun _ => true) held fuel t [v] = some x) : ∃ ps, Puts w v ps := by
  rcases open_slice_pairs ht he ce o0 o1 c0 c1 h with ⟨hcs, _⟩ | ⟨a, len, cap, m, n, V0, V1, D0, D1, P0, P1, hcs, _, hl, hm, hmm, _, hx⟩
  · simp only [List.cons.injEq, and_true] at hcs
    exact ⟨[], Or.inl ⟨rfl, none, 0, hcs⟩⟩
  · simp only [List.cons.injEq, and_true] at hcs
    simp only [if_true] at hmm
    by_cases hl0 : len = 0
    · subst hl0; exact ⟨[], Or.inl ⟨rfl, some a, cap, hcs⟩⟩
    · have ha := addr_of (by simpa using (hx 0 (by omega)).1)
      obtain ⟨Z, hZ⟩ := choose_lt (α := Int × List Int) (n := m) (p := fun i z => V0 i = .int .i64 z.1 ∧ Ints w (V1 i) z.2) fun i hi => by
        obtain ⟨_, _, g0, g1⟩ := hx i hi
        obtain ⟨zs, hzs⟩ := open_Ints h1 hq cq g1
        obtain ⟨y, hy, _⟩ := DataW.trod_int h0 g0
        simp only [List.cons.injEq, and_true] at hy
        exact ⟨(y, zs), hy, hzs⟩
      refine ⟨(List.range len).map Z, Or.inr ⟨a.block, a.off, cap, V1, ?_, ?_, fun k hk => ?_⟩⟩
      · simp only [List.length_map, List.length_range]; rw [hcs, ← ha]
      · simp only [List.length_map, List.length_range]; omega
      · simp only [List.length_map, List.length_range] at hk
        obtain ⟨e0, e1, _, _⟩ := hx k (by omega)
        rw [ha, add_plain] at e0 e1
        obtain ⟨g0, g1⟩ := hZ k (by omega)
        rw [g0] at e0
        have hg : ((List.range len).map Z)[k]?.getD (0, []) = Z k := by simp [hk]
        rw [hg]
        exact ⟨e0, e1, g1⟩
end

end Go.Proofs.YtedpooagalmgdamGreat

namespace Go.Proofs.YtedpooagalmgdamGreat
open Go.ChangeShapes Go.WideShapes Go.ChangeAt Go.RowKit Go.Joins
set_option maxRecDepth 100000

theorem Tryz.own : ownKnob Tryz.prog.godebug = none := by kernel_rfl
theorem Tryz.laidOut : laidOutB Tryz.prog = true := by kernel_rfl
theorem Tryz.cellsInt : Tryz.prog.cellsOf 2 = 1 := by kernel_rfl
theorem Tryz.cellsInts : Tryz.prog.cellsOf 27 = 1 := by kernel_rfl

end Go.Proofs.YtedpooagalmgdamGreat

namespace Go.Proofs.YtedpooagalmgdamGreat
open Go.ChangeShapes Go.WideShapes Go.ChangeAt Go.RowKit Go.Joins Go.Deep
set_option maxRecDepth 100000

theorem open_Ents {H : Type} {enc : TypeId × Value → H} {P : Program} {w : World} {base : Nat} {held : Bool} {t e : TypeId} {f0 f1 : Field} {fuel : Nat} {v : Value} {x : DataW H × List MemPlace} (ht : P.underlying t = some (.slice e)) (he : P.underlying e = some (.struct #[f0, f1]))
    (ce : P.cellsOf e = 2) (o0 : f0.offset = 0) (o1 : f1.offset = 1) (c0 : P.cellsOf f0.type = 1) (c1 : P.cellsOf f1.type = 1) (h0 : P.underlying f0.type = some .string) (h1 : P.underlying f1.type = some (.int .i64))
    (h : DataW.trod enc P w base (fun _ => true) held fuel t [v] = some x) : ∃ es, Ents w v es := by
  rcases open_slice ht h with ⟨hcs, _⟩ | ⟨a, len, cap, m, n, D, Pl, hcs, hb, hl, hm, hmm, _, hx⟩
  · simp only [List.cons.injEq, and_true] at hcs
    exact ⟨[], by rw [hcs]; exact Ents.nil w none 0⟩
  · simp only [List.cons.injEq, and_true] at hcs
    simp only [if_true] at hmm
    by_cases hl0 : len = 0
    · subst hl0; exact ⟨[], by rw [hcs]; exact Ents.nil w (some a) cap⟩
    · have each : ∀ i, i < m → ∃ q : EN, w.cell? (a.add (i * 2)) = some (.string q.1) ∧ w.cell? (a.add (i * 2 + 1)) = some (.int .i64 q.2) ∧ q.1.size ≤ maxLen := by
        intro i hi
        obtain ⟨cs', k1, k2⟩ := hx i hi
        rw [ce] at k1
        obtain ⟨_, hlen, hcell⟩ := World.cells?_some k1
        obtain ⟨xs, k, hk, hxy, _, hxl, hf⟩ := DataW.trod_struct he k2
        match xs, hxl, cs', hlen with
        | [y0, y1], _, [v0, v1], _ =>
          have g0 := hf 0 f0 rfl
          have g1 := hf 1 f1 rfl
          simp [o0, o1, c0, c1] at g0 g1
          have e0 := hcell 0 (by omega)
          have e1 := hcell 1 (by omega)
          rw [add_add] at e0 e1
          obtain ⟨z0, hz0, _, hs⟩ := DataW.trod_string h0 g0
          obtain ⟨z1, hz1, _⟩ := DataW.trod_int h1 g1
          simp only [List.cons.injEq, and_true] at hz0 hz1
          subst hz0 hz1
          exact ⟨(z0, z1), by simpa using e0, by simpa using e1, hs⟩
      obtain ⟨q, hq⟩ := choose_lt each
      have ha := addr_of (by simpa using (hq 0 (by omega)).1)
      refine ⟨(List.range len).map q, some a, cap, ?_, ?_, fun k hk => ?_⟩
      · simp only [List.length_map, List.length_range]; exact hcs
      · simp only [List.length_map, List.length_range]
        refine ⟨by omega, by omega, fun k => ?_⟩
        by_cases hk : k < len
        · have hg : ((List.range len).map q)[k]?.getD en0 = q k := by simp [hk]
          rw [hg]
          exact (hq k (by omega)).2.2
        · rw [List.getElem?_eq_none (by simpa using Nat.le_of_not_lt hk)]
          simp [en0, ByteArray.size]
      · simp only [List.length_map, List.length_range] at hk
        obtain ⟨e0, e1, _⟩ := hq k (by omega)
        rw [ha, add_plain] at e0 e1
        have hg : ((List.range len).map q)[k]?.getD en0 = q k := by simp [hk]
        rw [hg]
        exact ⟨a.block, a.off, by rw [← ha], e0, e1⟩

theorem open_cap {H : Type} {enc : TypeId × Value → H} {P : Program} {w : World} {base : Nat} {held : Bool} {t e : TypeId} {fuel : Nat} {v : Value} {x : DataW H × List MemPlace} (ht : P.underlying t = some (.slice e)) (h : DataW.trod enc P w base (fun _ => true) held fuel t [v] = some x) : capOK v := by
  rcases DataW.trod_slice ht h with ⟨hcs, _⟩ | ⟨a, len, cap, _, _, _, _, hcs, _, _, hl, _⟩
  · simp only [List.cons.injEq, and_true] at hcs
    exact ⟨none, 0, 0, hcs, Nat.le_refl _⟩
  · simp only [List.cons.injEq, and_true] at hcs
    exact ⟨some a, len, cap, hcs, hl⟩
theorem Tryz.cellsStr : Tryz.prog.cellsOf 9 = 1 := by kernel_rfl
theorem Tryz.cellsEnt : Tryz.prog.cellsOf 147 = 2 := by kernel_rfl
theorem Tryz.cellsEnts : Tryz.prog.cellsOf 101 = 1 := by kernel_rfl
theorem Tryz.cellsIno : Tryz.prog.cellsOf 103 = 5 := by kernel_rfl
theorem array5 {α : Type} {a : Array α} (h : a.size = 5) : ∃ x0 x1 x2 x3 x4, a = #[x0, x1, x2, x3, x4] := by
  obtain ⟨l⟩ := a
  match l, h with
  | [x0, x1, x2, x3, x4], _ => exact ⟨x0, x1, x2, x3, x4, rfl⟩
theorem open_InoU {H : Type} {enc : TypeId × Value → H} {W : World} {r : Reach} {b0 : Nat} {v : Value} {d : DataW H} {p : List MemPlace} (hv : Value.okWide Tryz.prog W r b0 103 v) (h : DataW.Trod enc Tryz.prog W 0 (fun _ => true) true 103 v d p) :
    ∃ v0 v1 v2 vB vE id, v = .agg #[v0, v1, v2, vB, vE] ∧ InoR W v0 v1 v2 vB vE id := by
  obtain ⟨cs, rfl, hsz⟩ := okWide_struct Tryz.underlying103 hv
  obtain ⟨c0, c1, c2, c3, c4, rfl⟩ := array5 (hsz.trans Tryz.cellsIno)
  obtain ⟨fuel, hf⟩ := h
  obtain ⟨xs, k, hk, hxy, _, hxl, hg⟩ := DataW.trod_struct Tryz.underlying103 hf
  match xs, hxl with
  | [y0, y1, y2, y3, y4], _ =>
    have g0 : DataW.trod enc Tryz.prog W 0 (fun _ => true) true k 2 [c0] = some y0 := by simpa [Value.cells, Tryz.cellsInt] using hg 0 _ rfl
    have g1 : DataW.trod enc Tryz.prog W 0 (fun _ => true) true k 2 [c1] = some y1 := by simpa [Value.cells, Tryz.cellsInt] using hg 1 _ rfl
    have g2 : DataW.trod enc Tryz.prog W 0 (fun _ => true) true k 2 [c2] = some y2 := by simpa [Value.cells, Tryz.cellsInt] using hg 2 _ rfl
    have g3 : DataW.trod enc Tryz.prog W 0 (fun _ => true) true k 27 [c3] = some y3 := by simpa [Value.cells, Tryz.cellsInts] using hg 3 _ rfl
    have g4 : DataW.trod enc Tryz.prog W 0 (fun _ => true) true k 101 [c4] = some y4 := by simpa [Value.cells, Tryz.cellsEnts] using hg 4 _ rfl
    obtain ⟨z0, hz0, _⟩ := DataW.trod_int Tryz.underlying2 g0
    obtain ⟨z1, hz1, _⟩ := DataW.trod_int Tryz.underlying2 g1
    obtain ⟨z2, hz2, _⟩ := DataW.trod_int Tryz.underlying2 g2
    simp only [List.cons.injEq, and_true] at hz0 hz1 hz2
    obtain ⟨bs, hbs⟩ := open_Ints Tryz.underlying27 Tryz.underlying2 Tryz.cellsInt g3
    obtain ⟨es, hes⟩ := open_Ents Tryz.underlying101 Tryz.underlying147 Tryz.cellsEnt rfl rfl Tryz.cellsStr Tryz.cellsInt Tryz.underlying9 Tryz.underlying2 g4
    exact ⟨c0, c1, c2, c3, c4, (z0, z1, z2, bs, es), rfl, ⟨hz0, hz1, hz2, open_cap Tryz.underlying27 g3⟩, hbs, hes⟩
end Go.Proofs.YtedpooagalmgdamGreat

namespace Go.Proofs.YtedpooagalmgdamGreat
open Go.ChangeShapes Go.WideShapes Go.ChangeAt Go.RowKit Go.Joins Go.Deep
set_option maxRecDepth 100000

theorem open_Inos {H : Type} {enc : TypeId × Value → H} {w : World} {base : Nat} {held : Bool} {fuel : Nat} {v : Value} {x : DataW H × List MemPlace}
    (h : DataW.trod enc Tryz.prog w base (fun _ => true) held fuel 22 [v] = some x) : ∃ ds, Inos w v ds := by
  rcases open_slice Tryz.underlying22 h with ⟨hcs, _⟩ | ⟨a, len, cap, m, n, D, Pl, hcs, hb, hl, hm, hmm, _, hx⟩
  · simp only [List.cons.injEq, and_true] at hcs
    exact ⟨[], by rw [hcs]; exact Inos.nil w none 0⟩
  · simp only [List.cons.injEq, and_true] at hcs
    simp only [if_true] at hmm
    by_cases hl0 : len = 0
    · subst hl0; exact ⟨[], by rw [hcs]; exact Inos.nil w (some a) cap⟩
    · have each : ∀ i, i < m → ∃ q : ID, ∃ vB vE, w.cell? (a.add (i * 5)) = some (.int .i64 q.1) ∧ w.cell? (a.add (i * 5 + 1)) = some (.int .i64 q.2.1) ∧ w.cell? (a.add (i * 5 + 2)) = some (.int .i64 q.2.2.1) ∧ w.cell? (a.add (i * 5 + 3)) = some vB ∧ w.cell? (a.add (i * 5 + 4)) = some vE ∧ InoR w (.int .i64 q.1) (.int .i64 q.2.1) (.int .i64 q.2.2.1) vB vE q := by
        intro i hi
        obtain ⟨cs', k1, k2⟩ := hx i hi
        rw [Tryz.cellsIno] at k1
        obtain ⟨_, hlen, hcell⟩ := World.cells?_some k1
        obtain ⟨xs, k, hk, hxy, _, hxl, hg⟩ := DataW.trod_struct Tryz.underlying103 k2
        match xs, hxl, cs', hlen with
        | [y0, y1, y2, y3, y4], _, [c0, c1, c2, c3, c4], _ =>
          have g0 : DataW.trod enc Tryz.prog w base (fun _ => true) held k 2 [c0] = some y0 := by simpa [Tryz.cellsInt] using hg 0 _ rfl
          have g1 : DataW.trod enc Tryz.prog w base (fun _ => true) held k 2 [c1] = some y1 := by simpa [Tryz.cellsInt] using hg 1 _ rfl
          have g2 : DataW.trod enc Tryz.prog w base (fun _ => true) held k 2 [c2] = some y2 := by simpa [Tryz.cellsInt] using hg 2 _ rfl
          have g3 : DataW.trod enc Tryz.prog w base (fun _ => true) held k 27 [c3] = some y3 := by simpa [Tryz.cellsInts] using hg 3 _ rfl
          have g4 : DataW.trod enc Tryz.prog w base (fun _ => true) held k 101 [c4] = some y4 := by simpa [Tryz.cellsEnts] using hg 4 _ rfl
          have e0 := hcell 0 (by omega)
          have e1 := hcell 1 (by omega)
          have e2 := hcell 2 (by omega)
          have e3 := hcell 3 (by omega)
          have e4 := hcell 4 (by omega)
          rw [add_add] at e0 e1 e2 e3 e4
          obtain ⟨z0, hz0, _⟩ := DataW.trod_int Tryz.underlying2 g0
          obtain ⟨z1, hz1, _⟩ := DataW.trod_int Tryz.underlying2 g1
          obtain ⟨z2, hz2, _⟩ := DataW.trod_int Tryz.underlying2 g2
          simp only [List.cons.injEq, and_true] at hz0 hz1 hz2
          subst hz0 hz1 hz2
          obtain ⟨bs, hbs⟩ := open_Ints Tryz.underlying27 Tryz.underlying2 Tryz.cellsInt g3
          obtain ⟨es, hes⟩ := open_Ents Tryz.underlying101 Tryz.underlying147 Tryz.cellsEnt rfl rfl Tryz.cellsStr Tryz.cellsInt Tryz.underlying9 Tryz.underlying2 g4
          exact ⟨(z0, z1, z2, bs, es), c3, c4, by simpa using e0, by simpa using e1, by simpa using e2, by simpa using e3, by simpa using e4, ⟨rfl, rfl, rfl, open_cap Tryz.underlying27 g3⟩, hbs, hes⟩
      obtain ⟨q, hq⟩ := choose_lt each
      obtain ⟨_, _, hq0, _⟩ := hq 0 (by omega)
      have ha := addr_of (by simpa using hq0)
      refine ⟨(List.range len).map q, some a, cap, ?_, ?_, fun k hk => ?_⟩
      · simp only [List.length_map, List.length_range]; exact hcs
      · simp only [List.length_map, List.length_range]
        exact ⟨by omega, by omega⟩
      · simp only [List.length_map, List.length_range] at hk
        obtain ⟨vB, vE, e0, e1, e2, e3, e4, hR⟩ := hq k (by omega)
        rw [ha, add_plain] at e0 e1 e2 e3 e4
        have hg : ((List.range len).map q)[k]?.getD id0 = q k := by simp [hk]
        rw [hg]
        exact ⟨a.block, a.off, by rw [← ha], InoAt.mk' e0 e1 e2 e3 e4 hR⟩
end Go.Proofs.YtedpooagalmgdamGreat

namespace Go.Proofs.YtedpooagalmgdamGreat
open Go.ChangeShapes Go.WideShapes Go.ChangeAt Go.RowKit Go.Joins Go.Deep
set_option maxRecDepth 100000

theorem Tryz.cellsByteF : Tryz.prog.cellsOf 5 = 1 := by kernel_rfl
theorem Tryz.cellsBytF : Tryz.prog.cellsOf 26 = 1 := by kernel_rfl
theorem Tryz.cellsBytsF : Tryz.prog.cellsOf 23 = 1 := by kernel_rfl
theorem Tryz.cellsInosF : Tryz.prog.cellsOf 22 = 1 := by kernel_rfl
theorem Tryz.cellsFsF : Tryz.prog.cellsOf 25 = 2 := by kernel_rfl
theorem open_Byt {H : Type} {enc : TypeId × Value → H} {P : Program} {w : World} {base : Nat} {held : Bool} {t e : TypeId} {fuel : Nat} {v : Value} {x : DataW H × List MemPlace} (ht : P.underlying t = some (.slice e)) (he : P.underlying e = some (.int .u8)) (ce : P.cellsOf e = 1) (h : DataW.trod enc P w base (fun _ => true) held fuel t [v] = some x) :
    ∃ zs, Byt w v zs := by
  rcases open_slice1 ht ce h with ⟨hcs, _⟩ | ⟨a, len, cap, m, n, V, D, Pl, hcs, _, hl, hm, hmm, _, hx⟩
  · simp only [List.cons.injEq, and_true] at hcs
    exact ⟨[], by rw [hcs]; exact Byt.nil w none 0⟩
  · simp only [List.cons.injEq, and_true] at hcs
    simp only [if_true] at hmm
    by_cases h0 : len = 0
    · subst h0; exact ⟨[], by rw [hcs]; exact Byt.nil w (some a) cap⟩
    · have ha := addr_of (hx 0 (by omega)).1
      obtain ⟨Z, hZ⟩ := choose_lt (α := UInt8) (n := m) (p := fun i b => V i = .int .u8 ((b.toNat : Nat) : Int)) fun i hi => by
        obtain ⟨z, h1, _, hw⟩ := DataW.trod_int he (hx i hi).2
        have hz0 : IntKind.u8.min ≤ z ∧ z ≤ IntKind.u8.max := by simpa [Lit.wf] using hw
        have hz : 0 ≤ z ∧ z ≤ 255 := hz0
        refine ⟨UInt8.ofNat z.toNat, ?_⟩
        simp only [List.cons.injEq, and_true] at h1
        rw [h1]
        congr 1
        have : (UInt8.ofNat z.toNat).toNat = z.toNat := by simp; omega
        rw [this]; omega
      refine ⟨(List.range len).map Z, some a, cap, ?_, ?_, fun k hk => ?_⟩
      · simp only [List.length_map, List.length_range]; exact hcs
      · simp only [List.length_map, List.length_range]; exact ⟨by omega, by omega⟩
      · simp only [List.length_map, List.length_range] at hk
        have h1 := (hx k (by omega)).1
        rw [ha, add_plain] at h1
        refine ⟨a.block, a.off, by rw [← ha], ?_⟩
        rw [h1, hZ k (by omega)]
        simp [hk]
theorem open_Byts {H : Type} {enc : TypeId × Value → H} {P : Program} {w : World} {base : Nat} {held : Bool} {t e q : TypeId} {fuel : Nat} {v : Value} {x : DataW H × List MemPlace} (ht : P.underlying t = some (.slice e)) (he : P.underlying e = some (.slice q)) (hq : P.underlying q = some (.int .u8)) (ce : P.cellsOf e = 1) (cq : P.cellsOf q = 1)
    (h : DataW.trod enc P w base (fun _ => true) held fuel t [v] = some x) : ∃ zss, Byts w v zss := by
  rcases open_slice1 ht ce h with ⟨hcs, _⟩ | ⟨a, len, cap, m, n, V, D, Pl, hcs, _, hl, hm, hmm, _, hx⟩
  · simp only [List.cons.injEq, and_true] at hcs
    exact ⟨[], by rw [hcs]; exact Byts.nil w none 0⟩
  · simp only [List.cons.injEq, and_true] at hcs
    simp only [if_true] at hmm
    by_cases h0 : len = 0
    · subst h0; exact ⟨[], by rw [hcs]; exact Byts.nil w (some a) cap⟩
    · have ha := addr_of (hx 0 (by omega)).1
      obtain ⟨Z, hZ⟩ := choose_lt (α := List UInt8) (n := m) (p := fun i zs => Byt w (V i) zs) fun i hi => open_Byt he hq cq (hx i hi).2
      refine ⟨(List.range len).map Z, some a, cap, ?_, ?_, fun k hk => ?_⟩
      · simp only [List.length_map, List.length_range]; exact hcs
      · simp only [List.length_map, List.length_range]; exact ⟨by omega, by omega⟩
      · simp only [List.length_map, List.length_range] at hk
        have h1 := (hx k (by omega)).1
        rw [ha, add_plain] at h1
        have hg : ((List.range len).map Z)[k]?.getD [] = Z k := by simp [hk]
        rw [hg]
        obtain ⟨ua, uc, e1, e2, e3⟩ := hZ k (by omega)
        rw [e1] at h1
        exact ⟨a.block, a.off, ua, uc, by rw [← ha], h1, ua, uc, rfl, e2, e3⟩
theorem open_FsU {H : Type} {enc : TypeId × Value → H} {W : World} {r : Reach} {b0 : Nat} {v : Value} {d : DataW H} {p : List MemPlace} (hv : Value.okWide Tryz.prog W r b0 25 v) (h : DataW.Trod enc Tryz.prog W 0 (fun _ => true) true 25 v d p) :
    ∃ v0 v1 fd, v = .agg #[v0, v1] ∧ FsR W v0 v1 fd := by
  obtain ⟨cs, rfl, hsz⟩ := okWide_struct Tryz.underlying25 hv
  obtain ⟨c0, c1, rfl⟩ := array2 (hsz.trans Tryz.cellsFsF)
  obtain ⟨fuel, hf⟩ := h
  obtain ⟨xs, k, hk, hxy, _, hxl, hg⟩ := DataW.trod_struct Tryz.underlying25 hf
  match xs, hxl with
  | [y0, y1], _ =>
    have g0 : DataW.trod enc Tryz.prog W 0 (fun _ => true) true k 22 [c0] = some y0 := by simpa [Value.cells, Tryz.cellsInosF] using hg 0 _ rfl
    have g1 : DataW.trod enc Tryz.prog W 0 (fun _ => true) true k 23 [c1] = some y1 := by simpa [Value.cells, Tryz.cellsBytsF] using hg 1 _ rfl
    obtain ⟨ds, hds⟩ := open_Inos g0
    obtain ⟨zss, hz⟩ := open_Byts Tryz.underlying23 Tryz.underlying26 Tryz.underlying5 Tryz.cellsBytF Tryz.cellsByteF g1
    exact ⟨c0, c1, (ds, zss), rfl, hds, hz⟩
end Go.Proofs.YtedpooagalmgdamGreat

namespace Go.Proofs.YtedpooagalmgdamGreat
open Go.ChangeShapes Go.WideShapes Go.ChangeAt Go.RowKit Go.Joins
set_option maxRecDepth 100000

theorem trodAll_five {H : Type} {enc : TypeId × Value → H} {P : Program} {w : World} {base : Nat} {spare : Nat → Bool} {held : Bool} {t0 t1 t2 t3 t4 : TypeId} {args : Array Value} {ds : List (DataW H)} {ps : List MemPlace} (h : DataW.TrodAll enc P w base spare held [t0, t1, t2, t3, t4] args.toList ds ps) :
    ∃ v0 v1 v2 v3 v4 d0 d1 d2 d3 d4 p0 p1 p2 p3 p4, args = #[v0, v1, v2, v3, v4] ∧ ds = [d0, d1, d2, d3, d4] ∧ ps = p0 ++ p1 ++ p2 ++ p3 ++ p4 ∧ DataW.Trod enc P w base spare held t0 v0 d0 p0 ∧ DataW.Trod enc P w base spare held t1 v1 d1 p1 ∧ DataW.Trod enc P w base spare held t2 v2 d2 p2 ∧ DataW.Trod enc P w base spare held t3 v3 d3 p3 ∧ DataW.Trod enc P w base spare held t4 v4 d4 p4 := by
  obtain ⟨v0, l0, d0, e0, p0, q0, ha, rfl, rfl, h0, r0⟩ := trodAll_cons h
  obtain ⟨v1, l1, d1, e1, p1, q1, rfl, rfl, rfl, h1, r1⟩ := trodAll_cons r0
  obtain ⟨v2, l2, d2, e2, p2, q2, rfl, rfl, rfl, h2, r2⟩ := trodAll_cons r1
  obtain ⟨v3, l3, d3, e3, p3, q3, rfl, rfl, rfl, h3, r3⟩ := trodAll_cons r2
  obtain ⟨v4, l4, d4, e4, p4, q4, rfl, rfl, rfl, h4, r4⟩ := trodAll_cons r3
  obtain ⟨rfl, rfl, rfl⟩ := trodAll_nil r4
  refine ⟨v0, v1, v2, v3, v4, d0, d1, d2, d3, d4, p0, p1, p2, p3, p4, ?_, rfl, by simp, h0, h1, h2, h3, h4⟩
  cases args
  simp_all
theorem trodAll_mk5 {H : Type} {enc : TypeId × Value → H} {P : Program} {w : World} {base : Nat} {spare : Nat → Bool} {held : Bool} {t0 t1 t2 t3 t4 : TypeId} {v0 v1 v2 v3 v4 : Value} {d0 d1 d2 d3 d4 : DataW H} {p0 p1 p2 p3 p4 : List MemPlace} (h0 : DataW.Trod enc P w base spare held t0 v0 d0 p0) (h1 : DataW.Trod enc P w base spare held t1 v1 d1 p1) (h2 : DataW.Trod enc P w base spare held t2 v2 d2 p2) (h3 : DataW.Trod enc P w base spare held t3 v3 d3 p3) (h4 : DataW.Trod enc P w base spare held t4 v4 d4 p4) : DataW.TrodAll enc P w base spare held [t0, t1, t2, t3, t4] [v0, v1, v2, v3, v4] [d0, d1, d2, d3, d4] (p0 ++ (p1 ++ (p2 ++ (p3 ++ p4)))) := ⟨p0, p1 ++ (p2 ++ (p3 ++ p4)), h0, trodAll_mk4 h1 h2 h3 h4, rfl⟩
end Go.Proofs.YtedpooagalmgdamGreat
