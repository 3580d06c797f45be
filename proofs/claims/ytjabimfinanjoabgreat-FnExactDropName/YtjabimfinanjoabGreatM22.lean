/- The specification's CutFile. The program's WriteFile. The specification's WriteFile; how great what is answered is. Lists of bytes as arguments: compared and marked, in the one form. -/
import Derived.Test.YtjabimfinanjoabGreatM21
import Derived.Test.YtjabimfinanjoabGreatM19
import Derived.Test.YtjabimfinanjoabGreatM04
namespace Go.Proofs.YtjabimfinanjoabGreat
open Go.RowKit
set_option maxRecDepth 100000

/-- Bytes with k noughts behind them. -/
def padZ (zs : List UInt8) (k : Nat) : List UInt8 := zs ++ List.replicate k 0
theorem padZ_len (zs : List UInt8) (k : Nat) : (padZ zs k).length = zs.length + k := by simp [padZ]
theorem padZ_succ (zs : List UInt8) (k : Nat) : padZ zs k ++ [0] = padZ zs (k + 1) := by
  unfold padZ
  rw [List.append_assoc, ← List.replicate_succ']
theorem padZ_take (zs : List UInt8) (n k : Nat) (_hk : n ≤ zs.length + k) (hk2 : zs.length < n → zs.length + k = n) : (padZ zs k).take n = strY zs n := by
  unfold padZ strY
  by_cases h : zs.length < n
  · rw [show k = n - zs.length by have := hk2 h; omega]
  · rw [List.take_append_of_le_length (by omega), List.take_append_of_le_length (by omega)]
theorem lit1_Y (w : World) : Byt (w.alloc (.cells #[.int .u8 0] 5)) (.slice (some ⟨w.heap.size, 0, none⟩) 1 1) [0] :=
  ⟨_, _, rfl, ⟨by simp [maxLen], Nat.le_refl _⟩, fun k hk => ⟨w.heap.size, 0, rfl, by
    have h0 : k = 0 := by simpa using hk
    subst h0
    rw [new_cell]
    rfl⟩⟩
theorem take_Y {W : World} {a : Option Addr} {m c n : Nat} {zs : List UInt8} (h : Byt W (.slice a m c) zs) (hn : n ≤ m) : Byt W (.slice a n c) (zs.take n) := by
  obtain ⟨a', cap, e, hm, hat⟩ := h
  simp only [Value.slice.injEq] at e
  obtain ⟨rfl, rfl, rfl⟩ := e
  have hl : (zs.take n).length = n := by rw [List.length_take]; omega
  refine ⟨a, c, by rw [hl], ⟨by have := hm.1; omega, by have := hm.2; omega⟩, fun k hk => ?_⟩
  obtain ⟨b, off, e1, e2⟩ := hat k (by omega)
  rw [hl] at hk
  exact ⟨b, off, e1, by rw [List.getElem?_take, if_pos hk]; exact e2⟩

set_option maxHeartbeats 6400000 in
theorem specCutFU (w : World) (a1 : Option Addr) (n1 c1 : Nat) (a2 : Option Addr) (n2 c2 : Nat) (d : FD) (xx q : Int) (aB : Option Addr) (nB cB : Nat) (busy : List Int) (h : FsR w (.slice a1 n1 c1) (.slice a2 n2 c2) d) (hb : Ints w (.slice aB nB cB) busy) (hs : sizeFs d ≤ 1048576) (hbl : busy.length ≤ 1048576) :
    Calls Tryz.prog 23 #[.agg #[.slice a1 n1 c1, .slice a2 n2 c2], .int .i64 xx, .int .i64 q, .slice aB nB cB] w (AnsFR w (cutR d xx q busy)) := by
  obtain ⟨hx0, -, -⟩ := FsX.box h 31
  have HX : Hid (FsX ((w.alloc (.cells #[.slice a1 n1 c1, .slice a2 n2 c2] 31)).alloc (.cells #[.int .i64 0, .slice none 0 0, .slice none 0 0] 33)) w.heap.size 0 d a1 c1 a2 c2) := hx0.later (later1 _ _)
  have HB0 : Hid (Below w.heap.size w ((w.alloc (.cells #[.slice a1 n1 c1, .slice a2 n2 c2] 31)).alloc (.cells #[.int .i64 0, .slice none 0 0, .slice none 0 0] 33))) := later2 _ _ _
  have HBX : Hid (Bx ((w.alloc (.cells #[.slice a1 n1 c1, .slice a2 n2 c2] 31)).alloc (.cells #[.int .i64 0, .slice none 0 0, .slice none 0 0] 33)) w.heap.size [.slice a1 n1 c1, .slice a2 n2 c2]) := (Bx.new w [.slice a1 n1 c1, .slice a2 n2 c2] _).later (later1 _ _)
  have HRS : Hid (OwnRow ((w.alloc (.cells #[.slice a1 n1 c1, .slice a2 n2 c2] 31)).alloc (.cells #[.int .i64 0, .slice none 0 0, .slice none 0 0] 33)) (w.heap.size + 1) 3 (cel zero3)) := by
    have p2 := row3 (w.alloc (.cells #[.slice a1 n1 c1, .slice a2 n2 c2] 31)) 33
    rw [World.size_alloc] at p2
    exact p2
  have HAS : Hid (∀ W, W = ((w.alloc (.cells #[.slice a1 n1 c1, .slice a2 n2 c2] 31)).alloc (.cells #[.int .i64 0, .slice none 0 0, .slice none 0 0] 33)) → Calls Tryz.prog 33 #[.pointer (some ⟨w.heap.size, 0, none⟩), .int .i64 xx, .slice aB nB cB] W fun e w' => e = .returned (.int .i64 (askR d xx busy)) ∧ Below W.heap.size W w') := fun W hW => by
    subst hW
    exact l7With_any _ _ d a1 n1 c1 a2 n2 c2 xx _ busy (HBX.out 0 _ rfl) (HBX.out 1 _ rfl) (h.later (later2 _ _ _)) hs (hb.later (later2 _ _ _))
  have HSZ : Hid (∀ W, Calls Tryz.prog 50 #[.int .i64 q] W fun e w' => e = .returned (.bool (sizeB q)) ∧ w' = W) := fun W => l4Size_any W q
  have HRR : Hid (cutR d xx q busy = if askR d xx busy = 0 then (if 0 ≤ q ∧ q ≤ 32 then setQ d xx.toNat (strY (bytL d xx.toNat) q.toNat) busy else noFs 3) else noFs (askR d xx busy)) := rfl
  rw [HRR.out]
  clear HRR hx0
  by_cases hc : askR d xx busy = 0
  rotate_left
  · rw [if_neg hc]
    have hcb : (askR d xx busy != 0) = true := by simpa using hc
    clear h hs hc hb HX HSZ
    go_enter Tryz.func23, Tryz.ntmps23
    go_wp2_with fail
    have HAW := HAS.out _ rfl
    have HAV : Hid (Calls Tryz.prog 33 _ _ _) := HAW
    clear HAW HAS
    generalize ((w.alloc (.cells #[.slice a1 n1 c1, .slice a2 n2 c2] 31)).alloc (.cells #[.int .i64 0, .slice none 0 0, .slice none 0 0] 33)) = W0 at *
    refine HAV.out.mono ?_
    rintro e w1 ⟨rfl, hb1⟩
    have HB1 : Hid (Below w.heap.size w w1) := HB0.out.trans (hb1.mono HB0.out.size)
    have hrr := HRS.out.later hb1
    have t0 : w1.cell? ⟨w.heap.size + 1, 0, none⟩ = some (.int .i64 0) := hrr.cell (i := 0) (by omega)
    have t1 : w1.cell? ⟨w.heap.size + 1, 1, none⟩ = some (.slice none 0 0) := hrr.cell (i := 1) (by omega)
    have t2 : w1.cell? ⟨w.heap.size + 1, 2, none⟩ = some (.slice none 0 0) := hrr.cell (i := 2) (by omega)
    have s0 := hrr.frozen 0
    have s1 := hrr.frozen 1
    have s2 := hrr.frozen 2
    clear hb1 hrr
    generalize askR d xx busy = r at *
    go_wp2
    exact bodyPost_ret (v := .agg #[.int .i64 r, .slice none 0 0, .slice none 0 0]) (by simp [results, Tryz.results23, go_sem, t0, t1, t2]) rfl (AnsFR.none' r HB1.out (by omega) _ _ _)
  · rw [if_pos hc]
    rw [hc] at HAS
    have hbc := (askR_code hc).1
    have hsd := sound hbc
    obtain ⟨_, _, hpl, _, _⟩ := bytR_code hbc
    obtain ⟨j, rfl⟩ : ∃ j : Nat, xx = (j : Int) := ⟨xx.toNat, by omega⟩
    rw [Int.toNat_natCast] at hsd ⊢
    by_cases hq : 0 ≤ q ∧ q ≤ 32
    rotate_left
    · rw [if_neg hq]
      have hqb : sizeB q = false := by unfold sizeB; simpa using hq
      rw [hqb] at HSZ
      clear h hs hc hb HX hsd hpl hbc hq hqb
      go_enter Tryz.func23, Tryz.ntmps23
      go_wp2_with fail
      have HAW := HAS.out _ rfl
      have HAV : Hid (Calls Tryz.prog 33 _ _ _) := HAW
      clear HAW HAS
      generalize ((w.alloc (.cells #[.slice a1 n1 c1, .slice a2 n2 c2] 31)).alloc (.cells #[.int .i64 0, .slice none 0 0, .slice none 0 0] 33)) = W0 at *
      refine HAV.out.mono ?_
      rintro e w1 ⟨rfl, hb1⟩
      have HB1 : Hid (Below w.heap.size w w1) := HB0.out.trans (hb1.mono HB0.out.size)
      have hrr := HRS.out.later hb1
      have t0 : w1.cell? ⟨w.heap.size + 1, 0, none⟩ = some (.int .i64 0) := hrr.cell (i := 0) (by omega)
      have t1 : w1.cell? ⟨w.heap.size + 1, 1, none⟩ = some (.slice none 0 0) := hrr.cell (i := 1) (by omega)
      have t2 : w1.cell? ⟨w.heap.size + 1, 2, none⟩ = some (.slice none 0 0) := hrr.cell (i := 2) (by omega)
      have s0 := hrr.frozen 0
      have s1 := hrr.frozen 1
      have s2 := hrr.frozen 2
      clear hb1 hrr
      go_wp2_with fail
      refine (HSZ.out _).mono ?_
      rintro e w2 ⟨rfl, rfl⟩
      go_wp2
      exact bodyPost_ret (v := .agg #[.int .i64 3, .slice none 0 0, .slice none 0 0]) (by simp [results, Tryz.results23, go_sem, t0, t1, t2]) rfl (AnsFR.none' 3 HB1.out (by omega) _ _ _)
    · rw [if_pos hq]
      have hqb : sizeB q = true := by unfold sizeB; simpa using hq
      rw [hqb] at HSZ
      obtain ⟨nq, rfl⟩ : ∃ nq : Nat, q = (nq : Int) := ⟨q.toNat, by omega⟩
      rw [Int.toNat_natCast]
      have hn32 : nq ≤ 32 := by omega
      have HBY : Hid (∀ W, Below ((w.alloc (.cells #[.slice a1 n1 c1, .slice a2 n2 c2] 31)).alloc (.cells #[.int .i64 0, .slice none 0 0, .slice none 0 0] 33)).heap.size ((w.alloc (.cells #[.slice a1 n1 c1, .slice a2 n2 c2] 31)).alloc (.cells #[.int .i64 0, .slice none 0 0, .slice none 0 0] 33)) W → Calls Tryz.prog 36 #[.pointer (some ⟨w.heap.size, 0, none⟩), .int .i64 (j : Int)] W fun e w' => ∃ v, e = .returned v ∧ Below W.heap.size W w' ∧ WdY w' W.heap.size v (bytL d j)) := fun W hW => l6Bytes_any W _ _ d _ _ _ _ j (HX.out.later hW) hsd.lt hsd.ten hsd.dat hsd.eight hsd.four hsd.blk
      have HSE : Hid (∀ (W : World) (aT : Option Addr) (L cT : Nat) (text : List UInt8), Below w.heap.size w W → Byt W (.slice aT L cT) text → Calls Tryz.prog 37 #[.agg #[.slice a1 n1 c1, .slice a2 n2 c2], .int .i64 (j : Int), .slice aT L cT, .slice aB nB cB] W (AnsFR W (setQ d j text busy))) := fun W aT L cT text hW ht => l7SetU W a1 n1 c1 a2 n2 c2 d j aT L cT text aB nB cB busy (h.later hW) ht (hb.later hW) hs hbl hsd
      have hb32 := hsd.bl
      clear h hs hc hb HX hsd hpl hbc hq hqb
      generalize bytL d j = zs at *
      generalize hsq : setQ d j (strY zs nq) busy = sq at *
      have HSQ : Hid (setQ d j (strY zs nq) busy = sq) := hsq
      clear hsq
      obtain ⟨sc, sd⟩ := sq
      go_enter Tryz.func23, Tryz.ntmps23
      go_wp2_with fail
      have HAW := HAS.out _ rfl
      have HAV : Hid (Calls Tryz.prog 33 _ _ _) := HAW
      clear HAW HAS
      generalize ((w.alloc (.cells #[.slice a1 n1 c1, .slice a2 n2 c2] 31)).alloc (.cells #[.int .i64 0, .slice none 0 0, .slice none 0 0] 33)) = W0 at *
      refine HAV.out.mono ?_
      rintro e w1 ⟨rfl, hb1⟩
      have HL1 : Hid (Below W0.heap.size W0 w1) := hb1
      clear hb1 HAV
      go_wp2_with fail
      refine (HSZ.out _).mono ?_
      rintro e u1 ⟨rfl, rfl⟩
      go_wp2_with fail
      refine (HBY.out _ HL1.out).mono ?_
      rintro e w2 ⟨v, rfl, hb2, hw2⟩
      have HL2 : Hid (Below W0.heap.size W0 w2) := HL1.out.trans (hb2.mono HL1.out.size)
      have HW2 : Hid (WdY w2 u1.heap.size v zs) := hw2
      have HZ2 : Hid (u1.heap.size ≤ w2.heap.size) := hb2.size
      have HP0 : Hid (zs = padZ zs 0) := by unfold Hid padZ; simp
      clear hb2 hw2
      go_wp2_with fail
      go_loopw [10] (fun vv wr => ∃ k : Nat, (zs.length < nq → zs.length + k ≤ nq) ∧ (nq ≤ zs.length → k = 0) ∧ Below W0.heap.size W0 wr ∧ u1.heap.size ≤ wr.heap.size ∧ WdY wr u1.heap.size vv (padZ zs k)) (fun vv _ => match vv with | .slice _ m _ => nq - m | _ => 0)
      case atStart => exact ⟨0, by omega, fun _ => rfl, HL2.out, HZ2.out, HP0.out ▸ HW2.out⟩
      case round =>
        obtain ⟨k, hk1, hk2, hbl2, hsz, hwd⟩ := hrel
        obtain ⟨av, cv, rfl⟩ := hwd.shape
        have HBL : Hid (Below W0.heap.size W0 wr) := hbl2
        have HWD : Hid (WdY wr u1.heap.size (.slice av (padZ zs k).length cv) (padZ zs k)) := hwd
        have HSZW : Hid (u1.heap.size ≤ wr.heap.size) := hsz
        have HPL : Hid ((padZ zs k).length = zs.length + k) := padZ_len zs k
        clear hbl2 hwd hsz
        by_cases hlt : zs.length + k < nq
        · obtain ⟨v', X, hr, hwx, hbx⟩ := append_y (wr.alloc (.cells #[.int .u8 0] 5)) u1.heap.size (.slice av (padZ zs k).length cv) (padZ zs k) [0] (some ⟨wr.heap.size, 0, none⟩) 1 1 (HWD.out.later (later1 _ _)) (by have := HSZW.out; simp; omega) (by rw [HPL.out]; omega) (by simp) (lit1_Y wr)
          rw [padZ_succ] at hwx
          have HRN : Hid (_ = _) := hr
          have HWX : Hid (WdY X u1.heap.size v' (padZ zs (k + 1))) := hwx
          have hbX : Below u1.heap.size wr X := ((later1 _ _).mono HSZW.out).trans hbx
          have HBX2 : Hid (Below W0.heap.size W0 X) := HBL.out.trans (hbX.mono HL1.out.size)
          have HSX : Hid (u1.heap.size ≤ X.heap.size) := Nat.le_trans HSZW.out hbX.size
          obtain ⟨aw, cw, rfl⟩ := hwx.shape
          have HPL2 : Hid ((padZ zs (k + 1)).length = zs.length + (k + 1)) := padZ_len zs (k + 1)
          rw [HPL.out] at HRN ⊢
          rw [HPL2.out] at HRN HWX
          clear hr hwx hbx hbX HWD
          go_wp2_with (first | refine wpList_append_run rfl _ _ 26 rfl _ _ rfl rfl _ _ HRN.out ?_ | fail)
          go_roundw
          case rel => exact ⟨k + 1, by omega, by omega, HBX2.out, HSX.out, HWX.out⟩
          case measure => simp; omega
        · have hge : nq ≤ zs.length + k := by omega
          have hge2 : ¬ (((zs.length + k : Nat) : Int) < (nq : Int)) := by omega
          have HBT : Hid (Byt wr (.slice av nq cv) (strY zs nq)) := by
            have h0 := (HWD.out.own (w0 := u1) (Nat.le_refl _)).reads
            have h1 := take_Y h0 (n := nq) (by rw [HPL.out]; exact hge)
            rw [padZ_take zs nq k hge (by omega)] at h1
            exact h1
          have hcv : nq ≤ cv := by
            obtain ⟨_, _, e, hm, _⟩ := HBT.out
            simp only [Value.slice.injEq] at e
            have := hm.2
            have := e.2.1
            have := e.2.2
            omega
          have HBW : Hid (Below w.heap.size w wr) := HB0.out.trans (HBL.out.mono HB0.out.size)
          have HR1 : Hid (OwnRow wr (w.heap.size + 1) 3 (cel zero3)) := HRS.out.later HBL.out
          have HX1 : Hid (Bx wr w.heap.size [.slice a1 n1 c1, .slice a2 n2 c2]) := HBX.out.later HBL.out
          have x0 := HX1.out 0 _ rfl
          have x1 := HX1.out 1 _ rfl
          have hlw : w.heap.size + 1 < wr.heap.size := HR1.out.lt
          rw [HPL.out]
          clear HWD
          go_wp2_with fail
          go_region_with (first
            | (go_at_call 37; refine (HSE.out wr.drew _ _ _ (strY zs nq) HBW.out.drew (HBT.out.later (Below.refl _ _).drew)).mono ?_; rw [HSQ.out]; rintro e w3 ⟨b1, m1, k1, b2, m2, k2, rfl, hb3, hf3⟩
               have HB3 : Hid (Below wr.heap.size wr w3) := (Below.refl _ _).drew.trans hb3
               have HF3 : Hid (FsU w3 (.slice b1 m1 k1) (.slice b2 m2 k2) sd (fresh wr w3)) := hf3
               have hrr := HR1.out.later HB3.out
               have t0 : w3.cell? ⟨w.heap.size + 1, 0, none⟩ = some (.int .i64 0) := hrr.cell (i := 0) (by omega)
               have t1 : w3.cell? ⟨w.heap.size + 1, 1, none⟩ = some (.slice none 0 0) := hrr.cell (i := 1) (by omega)
               have t2 : w3.cell? ⟨w.heap.size + 1, 2, none⟩ = some (.slice none 0 0) := hrr.cell (i := 2) (by omega)
               have s0 := hrr.frozen 0
               have s1 := hrr.frozen 1
               have s2 := hrr.frozen 2
               clear hb3 hf3 hrr)
            | fail)
          all_goals
            go_wp2
            exact bodyPost_ret (v := .agg #[.int .i64 sc, .slice b1 m1 k1, .slice b2 m2 k2]) (by simp [results, Tryz.results23, go_sem, t0, t1, t2]) rfl (AnsFR.pass HBW.out (by omega) hlw HB3.out HF3.out _ _ _)
end Go.Proofs.YtjabimfinanjoabGreat

namespace Go.Proofs.YtjabimfinanjoabGreat
open Go.RowKit
set_option maxRecDepth 100000

theorem mixY_len (zs : List UInt8) (p : Nat) (data : List UInt8) (h : p + data.length ≤ zs.length) : (mixY zs p data).length = zs.length := by
  unfold mixY
  rw [List.length_append, List.length_append, List.length_take, List.length_drop]
  omega
theorem mixY_get (zs : List UInt8) (p : Nat) (data : List UInt8) (h : p + data.length ≤ zs.length) (i : Nat) : (mixY zs p data)[i]?.getD 0 = if p ≤ i ∧ i < p + data.length then data[i - p]?.getD 0 else zs[i]?.getD 0 := by
  unfold mixY
  have ht : (zs.take p).length = p := by rw [List.length_take]; omega
  by_cases h1 : i < p
  · rw [if_neg (by omega), List.append_assoc, List.getElem?_append_left (by omega), List.getElem?_take, if_pos h1]
  · by_cases h2 : i < p + data.length
    · rw [if_pos ⟨by omega, h2⟩, List.append_assoc, List.getElem?_append_right (by omega), ht, List.getElem?_append_left (by omega)]
    · rw [if_neg (by omega), List.getElem?_append_right (by rw [List.length_append, ht]; omega), List.length_append, ht, List.getElem?_drop, show p + data.length + (i - (p + data.length)) = i by omega]

set_option maxHeartbeats 6400000 in
theorem implWriteFU (w : World) (a1 : Option Addr) (n1 c1 : Nat) (a2 : Option Addr) (n2 c2 : Nat) (d : FD) (xx q : Int) (aT : Option Addr) (L cT : Nat) (data : List UInt8) (aB : Option Addr) (nB cB : Nat) (busy : List Int) (h : FsR w (.slice a1 n1 c1) (.slice a2 n2 c2) d) (ht : Byt w (.slice aT L cT) data) (hb : Ints w (.slice aB nB cB) busy) (hs : sizeFs d ≤ 1048576) (hl : data.length ≤ 1048576) (hbl : busy.length ≤ 1048576) :
    Calls Tryz.prog 13 #[.agg #[.slice a1 n1 c1, .slice a2 n2 c2], .int .i64 xx, .int .i64 q, .slice aT L cT, .slice aB nB cB] w (AnsFR w (writeFR d xx q data busy)) := by
  have ht0 := ht
  obtain ⟨_, _, esh, hmT, hatT⟩ := ht0
  simp only [Value.slice.injEq] at esh
  obtain ⟨rfl, rfl, rfl⟩ := esh
  have HB0 : Hid (Below w.heap.size w ((w.alloc (.cells #[.slice a1 n1 c1, .slice a2 n2 c2] 31)).alloc (.cells #[.int .i64 0, .slice none 0 0, .slice none 0 0] 33))) := later2 _ _ _
  have HBX : Hid (Bx ((w.alloc (.cells #[.slice a1 n1 c1, .slice a2 n2 c2] 31)).alloc (.cells #[.int .i64 0, .slice none 0 0, .slice none 0 0] 33)) w.heap.size [.slice a1 n1 c1, .slice a2 n2 c2]) := (Bx.new w [.slice a1 n1 c1, .slice a2 n2 c2] _).later (later1 _ _)
  have HRS : Hid (OwnRow ((w.alloc (.cells #[.slice a1 n1 c1, .slice a2 n2 c2] 31)).alloc (.cells #[.int .i64 0, .slice none 0 0, .slice none 0 0] 33)) (w.heap.size + 1) 3 (cel zero3)) := by
    have p2 := row3 (w.alloc (.cells #[.slice a1 n1 c1, .slice a2 n2 c2] 31)) 33
    rw [World.size_alloc] at p2
    exact p2
  have HBY : Hid (∀ W, Below w.heap.size w W → Calls Tryz.prog 40 #[.agg #[.slice a1 n1 c1, .slice a2 n2 c2], .int .i64 xx, .slice aB nB cB] W (AnsYR W (askY d xx busy))) := fun W hW => bytesToWrite_any W a1 n1 c1 a2 n2 c2 d xx _ busy (h.later hW) hs (hb.later hW)
  have HSB : Hid (∀ (W : World) (aT : Option Addr) (L cT : Nat) (text : List UInt8), Below w.heap.size w W → Byt W (.slice aT L cT) text → text.length ≤ 1048576 → Calls Tryz.prog 44 #[.agg #[.slice a1 n1 c1, .slice a2 n2 c2], .int .i64 xx, .slice aT L cT, .slice aB nB cB] W (AnsFR W (setR d xx text busy))) := fun W aT L cT text hW ht hl => implSetU W a1 n1 c1 a2 n2 c2 d xx aT L cT text aB nB cB busy (h.later hW) ht (hb.later hW) hs hl hbl
  have HCF : Hid (askR d xx busy = 0 → ∀ W, Below w.heap.size w W → Calls Tryz.prog 42 #[.agg #[.slice a1 n1 c1, .slice a2 n2 c2]] W (AnsFs W d)) := fun hc W hW => copyOfFs_any W a1 n1 c1 a2 n2 c2 d (h.later hW) hs (by have := sound (askR_code hc).1; have := this.dat; omega)
  have HAT : Hid (AtY w aT data.length data) := hatT
  have HRR : Hid (writeFR d xx q data busy = if askR d xx busy = 0 then (if fromB q = true then (if q + (data.length : Int) ≤ 32 then (if data.length = 0 then (0, d) else setQ d xx.toNat (mixY (strY (bytL d xx.toNat) (max (q.toNat + data.length) (bytL d xx.toNat).length)) q.toNat data) busy) else noFs 2) else noFs 3) else noFs (askR d xx busy)) := rfl
  rw [HRR.out]
  clear HRR hmT hatT ht
  by_cases hc : askR d xx busy = 0
  rotate_left
  · rw [if_neg hc]
    clear HCF HAT
    have hcb : ((askY d xx busy).1 != 0) = true := by rw [askY_code]; simpa using hc
    rw [← askY_code]
    clear h hs hc hb HSB
    go_enter Tryz.func13, Tryz.ntmps13
    go_wp2_with fail
    generalize ((w.alloc (.cells #[.slice a1 n1 c1, .slice a2 n2 c2] 31)).alloc (.cells #[.int .i64 0, .slice none 0 0, .slice none 0 0] 33)) = W0 at *
    refine (HBY.out _ HB0.out).mono ?_
    rintro e w1 ⟨ay, ny, cy, rfl, hb1, _⟩
    have HB1 : Hid (Below w.heap.size w w1) := HB0.out.trans (hb1.mono HB0.out.size)
    have hrr := HRS.out.later hb1
    have t0 : w1.cell? ⟨w.heap.size + 1, 0, none⟩ = some (.int .i64 0) := hrr.cell (i := 0) (by omega)
    have t1 : w1.cell? ⟨w.heap.size + 1, 1, none⟩ = some (.slice none 0 0) := hrr.cell (i := 1) (by omega)
    have t2 : w1.cell? ⟨w.heap.size + 1, 2, none⟩ = some (.slice none 0 0) := hrr.cell (i := 2) (by omega)
    have s0 := hrr.frozen 0
    have s1 := hrr.frozen 1
    have s2 := hrr.frozen 2
    have hlw : w.heap.size + 1 < w1.heap.size := hrr.lt
    clear hb1 hrr
    generalize (askY d xx busy).1 = r at *
    go_wp2
    exact bodyPost_ret (v := .agg #[.int .i64 r, .slice none 0 0, .slice none 0 0]) (by simp [results, Tryz.results13, go_sem, t0, t1, t2, hlw]) rfl ((AnsFR.none' r HB1.out (by omega) _ _ _).later (later1 _ _))
  · rw [if_pos hc]
    have HCP := HCF.out hc
    have HCPF : Hid (∀ W, Below w.heap.size w W → Calls Tryz.prog 42 #[.agg #[.slice a1 n1 c1, .slice a2 n2 c2]] W (AnsFs W d)) := HCP
    clear HCF HCP
    have HSR : Hid (∀ text, setR d xx text busy = setQ d xx.toNat text busy) := fun text => by unfold setR; rw [if_pos hc]
    have hsd := sound (askR_code hc).1
    have hb32 := hsd.bl
    rw [askY_ok hc] at HBY
    clear h hs hc hb hsd
    generalize bytL d xx.toNat = zs at *
    have HFR : Hid (∀ W, Calls Tryz.prog 41 #[.int .i64 q] W fun e w' => e = .returned (.bool (fromB q)) ∧ w' = W) := fun W => isFrom_any W q
    by_cases hq : fromB q = true
    rotate_left
    · rw [if_neg hq]
      have hqf : fromB q = false := by simpa using hq
      rw [hqf] at HFR
      clear hq hqf HSB HSR HCPF
      go_enter Tryz.func13, Tryz.ntmps13
      go_wp2_with fail
      generalize ((w.alloc (.cells #[.slice a1 n1 c1, .slice a2 n2 c2] 31)).alloc (.cells #[.int .i64 0, .slice none 0 0, .slice none 0 0] 33)) = W0 at *
      refine (HBY.out _ HB0.out).mono ?_
      rintro e w1 ⟨ay, ny, cy, rfl, hb1, ho1⟩
      have HB1 : Hid (Below w.heap.size w w1) := HB0.out.trans (hb1.mono HB0.out.size)
      have HR1 : Hid (OwnRow w1 (w.heap.size + 1) 3 (cel zero3)) := HRS.out.later hb1
      have hlw : w.heap.size + 1 < w1.heap.size := HR1.out.lt
      have hrr := HR1.out
      have t0 : w1.cell? ⟨w.heap.size + 1, 0, none⟩ = some (.int .i64 0) := hrr.cell (i := 0) (by omega)
      have t1 : w1.cell? ⟨w.heap.size + 1, 1, none⟩ = some (.slice none 0 0) := hrr.cell (i := 1) (by omega)
      have t2 : w1.cell? ⟨w.heap.size + 1, 2, none⟩ = some (.slice none 0 0) := hrr.cell (i := 2) (by omega)
      have s0 := hrr.frozen 0
      have s1 := hrr.frozen 1
      have s2 := hrr.frozen 2
      clear hb1 hrr ho1
      dsimp only
      go_wp2_with fail
      refine (HFR.out _).mono ?_
      rintro e w2 ⟨rfl, rfl⟩
      go_wp2
      exact bodyPost_ret (v := .agg #[.int .i64 3, .slice none 0 0, .slice none 0 0]) (by simp [results, Tryz.results13, go_sem, t0, t1, t2, hlw]) rfl ((AnsFR.none' 3 HB1.out (by omega) _ _ _).later (later1 _ _))
    · rw [if_pos hq]
      rw [hq] at HFR
      obtain ⟨hq0, hq1⟩ : 0 ≤ q ∧ q ≤ 1000 := by unfold fromB at hq; simpa using hq
      obtain ⟨p, rfl⟩ : ∃ p : Nat, q = (p : Int) := ⟨q.toNat, by omega⟩
      rw [Int.toNat_natCast]
      have hp : p ≤ 1000 := by omega
      clear hq hq0 hq1
      by_cases he : (p : Int) + (data.length : Int) ≤ 32
      rotate_left
      · rw [if_neg he]
        have heb : decide ((32 : Int) < (p : Int) + (data.length : Int)) = true := by simp; omega
        clear HSB HSR HCPF
        generalize data.length = L at *
        go_enter Tryz.func13, Tryz.ntmps13
        go_wp2_with fail
        generalize ((w.alloc (.cells #[.slice a1 n1 c1, .slice a2 n2 c2] 31)).alloc (.cells #[.int .i64 0, .slice none 0 0, .slice none 0 0] 33)) = W0 at *
        refine (HBY.out _ HB0.out).mono ?_
        rintro e w1 ⟨ay, ny, cy, rfl, hb1, ho1⟩
        have HB1 : Hid (Below w.heap.size w w1) := HB0.out.trans (hb1.mono HB0.out.size)
        have HR1 : Hid (OwnRow w1 (w.heap.size + 1) 3 (cel zero3)) := HRS.out.later hb1
        have hlw : w.heap.size + 1 < w1.heap.size := HR1.out.lt
        have hrr := HR1.out
        have t0 : w1.cell? ⟨w.heap.size + 1, 0, none⟩ = some (.int .i64 0) := hrr.cell (i := 0) (by omega)
        have t1 : w1.cell? ⟨w.heap.size + 1, 1, none⟩ = some (.slice none 0 0) := hrr.cell (i := 1) (by omega)
        have t2 : w1.cell? ⟨w.heap.size + 1, 2, none⟩ = some (.slice none 0 0) := hrr.cell (i := 2) (by omega)
        have s0 := hrr.frozen 0
        have s1 := hrr.frozen 1
        have s2 := hrr.frozen 2
        clear hb1 hrr ho1 he
        dsimp only
        go_wp2_with fail
        refine (HFR.out _).mono ?_
        rintro e w2 ⟨rfl, rfl⟩
        go_wp2
        exact bodyPost_ret (v := .agg #[.int .i64 2, .slice none 0 0, .slice none 0 0]) (by simp [results, Tryz.results13, go_sem, t0, t1, t2, hlw]) rfl ((AnsFR.none' 2 HB1.out (by omega) _ _ _).later (later1 _ _))
      · rw [if_pos he]
        have heb : decide ((32 : Int) < (p : Int) + (data.length : Int)) = false := by simp; omega
        have hpl : p + data.length ≤ 32 := by omega
        by_cases hz : data.length = 0
        · rw [if_pos hz]
          clear HSB HSR HAT he
          rw [hz] at heb ⊢
          simp only [Int.natCast_zero, Int.add_zero] at heb
          go_enter Tryz.func13, Tryz.ntmps13
          go_wp2_with fail
          generalize ((w.alloc (.cells #[.slice a1 n1 c1, .slice a2 n2 c2] 31)).alloc (.cells #[.int .i64 0, .slice none 0 0, .slice none 0 0] 33)) = W0 at *
          refine (HBY.out _ HB0.out).mono ?_
          rintro e w1 ⟨ay, ny, cy, rfl, hb1, ho1⟩
          have HB1 : Hid (Below w.heap.size w w1) := HB0.out.trans (hb1.mono HB0.out.size)
          have HR1 : Hid (OwnRow w1 (w.heap.size + 1) 3 (cel zero3)) := HRS.out.later hb1
          have hlw : w.heap.size + 1 < w1.heap.size := HR1.out.lt
          have x0 := (HBX.out.later hb1) 0 _ rfl
          have x1 := (HBX.out.later hb1) 1 _ rfl
          have hlw0 : w.heap.size < w1.heap.size := by omega
          clear hb1 ho1
          dsimp only
          go_wp2_with fail
          refine (HFR.out _).mono ?_
          rintro e w2 ⟨rfl, rfl⟩
          go_wp2_with fail
          refine (HCPF.out _ (HB1.out.trans ((later1 _ _).mono HB1.out.size))).mono ?_
          rintro e w3 ⟨b1, m1, k1, b2, m2, k2, rfl, hb3, hf3⟩
          have HB1' : Hid (Below w.heap.size w (w1.alloc (.cells #[.int .i64 0, .slice ay ny cy] 66))) := HB1.out.trans ((later1 _ _).mono HB1.out.size)
          have HB3 : Hid (Below (w1.alloc (.cells #[.int .i64 0, .slice ay ny cy] 66)).heap.size (w1.alloc (.cells #[.int .i64 0, .slice ay ny cy] 66)) w3) := hb3
          have HF3 : Hid (FsU w3 (.slice b1 m1 k1) (.slice b2 m2 k2) d (fresh (w1.alloc (.cells #[.int .i64 0, .slice ay ny cy] 66)) w3)) := hf3
          have hrr := (HR1.out.later (later1 _ _)).later hb3
          have t0 : w3.cell? ⟨w.heap.size + 1, 0, none⟩ = some (.int .i64 0) := hrr.cell (i := 0) (by omega)
          have t1 : w3.cell? ⟨w.heap.size + 1, 1, none⟩ = some (.slice none 0 0) := hrr.cell (i := 1) (by omega)
          have t2 : w3.cell? ⟨w.heap.size + 1, 2, none⟩ = some (.slice none 0 0) := hrr.cell (i := 2) (by omega)
          have s0 := hrr.frozen 0
          have s1 := hrr.frozen 1
          have s2 := hrr.frozen 2
          have HLW : Hid (w.heap.size + 1 < (w1.alloc (.cells #[.int .i64 0, .slice ay ny cy] 66)).heap.size) := by unfold Hid; simp; omega
          clear hb3 hf3 hrr x0 x1
          go_wp2
          exact bodyPost_ret (v := .agg #[.int .i64 0, .slice b1 m1 k1, .slice b2 m2 k2]) (by simp [results, Tryz.results13, go_sem, t0, t1, t2]) rfl (AnsFR.pass HB1'.out (by omega) HLW.out HB3.out HF3.out _ _ _)
        · rw [if_neg hz]
          have hzb : (((data.length : Nat) : Int) == 0) = false := by simpa using hz
          obtain ⟨N, hN⟩ : ∃ N, max (p + data.length) zs.length = N := ⟨_, rfl⟩
          rw [hN]
          have HMX : Hid (max ((p : Int) + (data.length : Int)) (zs.length : Int) = (N : Int)) := by unfold Hid; omega
          have hN32 : N ≤ 32 := by omega
          have hpN : p + data.length ≤ N := by omega
          have hNp : ¬ N = p := by omega
          have hple : p ≤ N := by omega
          have HML : Hid ((mixY (strY zs N) p data).length = N) := by unfold Hid; rw [mixY_len _ _ _ (by rw [strY_len]; omega), strY_len]
          have HMG : Hid (∀ i, bytC (mixY (strY zs N) p data) i = if p ≤ i ∧ i < p + data.length then bytC data (i - p) else bytC (strY zs N) i) := fun i => by
            unfold bytC
            rw [mixY_get _ _ _ (by rw [strY_len]; omega)]
            by_cases hh : p ≤ i ∧ i < p + data.length
            · rw [if_pos hh, if_pos hh]
            · rw [if_neg hh, if_neg hh]
          have HDL : Hid (∃ D, data.length = D) := ⟨_, rfl⟩
          rw [← HSR.out]
          generalize hsr : setR d xx (mixY (strY zs N) p data) busy = sr at *
          have HSRR : Hid (setR d xx (mixY (strY zs N) p data) busy = sr) := hsr
          clear hsr HSR hN he hz HCPF
          obtain ⟨sc, sd⟩ := sr
          go_enter Tryz.func13, Tryz.ntmps13
          go_wp2_with fail
          generalize ((w.alloc (.cells #[.slice a1 n1 c1, .slice a2 n2 c2] 31)).alloc (.cells #[.int .i64 0, .slice none 0 0, .slice none 0 0] 33)) = W0 at *
          refine (HBY.out _ HB0.out).mono ?_
          rintro e w1 ⟨ay, ny, cy, rfl, hb1, ho1⟩
          have HB1 : Hid (Below w.heap.size w w1) := HB0.out.trans (hb1.mono HB0.out.size)
          have HR1 : Hid (OwnRow w1 (w.heap.size + 1) 3 (cel zero3)) := HRS.out.later hb1
          have hlw : w.heap.size + 1 < w1.heap.size := HR1.out.lt
          have HO1 : Hid (Byt w1 (.slice ay ny cy) zs) := ho1.reads
          obtain ⟨_, _, eny, _⟩ := ho1.reads
          simp only [Value.slice.injEq] at eny
          obtain ⟨-, rfl, -⟩ := eny
          have HX1 : Hid (Bx w1 w.heap.size [.slice a1 n1 c1, .slice a2 n2 c2]) := HBX.out.later hb1
          clear hb1 ho1
          dsimp only
          have HB1' : Hid (Below w.heap.size w (w1.alloc (.cells #[.int .i64 0, .slice ay zs.length cy] 66))) := HB1.out.trans ((later1 _ _).mono HB1.out.size)
          have HR1' : Hid (OwnRow (w1.alloc (.cells #[.int .i64 0, .slice ay zs.length cy] 66)) (w.heap.size + 1) 3 (cel zero3)) := HR1.out.later (later1 _ _)
          have HX1' : Hid (Bx (w1.alloc (.cells #[.int .i64 0, .slice ay zs.length cy] 66)) w.heap.size [.slice a1 n1 c1, .slice a2 n2 c2]) := HX1.out.later (later1 _ _)
          have HO1' : Hid (Byt (w1.alloc (.cells #[.int .i64 0, .slice ay zs.length cy] 66)) (.slice ay zs.length cy) zs) := HO1.out.later (later1 _ _)
          go_wp2_with fail
          refine (HFR.out _).mono ?_
          rintro e w2 ⟨rfl, rfl⟩
          go_wp2_with fail
          generalize (w1.alloc (.cells #[.int .i64 0, .slice ay zs.length cy] 66)) = W1 at *
          refine (stretched_any _ _ zs _ N (by first | exact HMX.out | (have := HMX.out; omega)) HO1'.out (by omega)).mono ?_
          rintro e w2 ⟨rfl, hb2, hr2⟩
          have hbW : Below w.heap.size w w2 := HB1'.out.trans (hb2.mono HB1'.out.size)
          obtain ⟨X, hcp, hrX, hcX⟩ := copyY_into w2 W1.heap.size p (N - p) (N - p) N _ hr2 aT data.length cT data rfl (HAT.out.later hbW) data.length (Nat.min_eq_left (by omega)) (by omega)
          have HCP : Hid (_ = _) := hcp
          have HRX : Hid (OwnRow X W1.heap.size N (bytC (mixY (strY zs N) p data))) := hrX.congr fun i _ => (HMG.out i).symm
          have HB2 : Hid (Below W1.heap.size W1 X) := hb2.trans (hcX.below hb2.size fun b hb => by omega)
          have y0 := (HX1'.out.later HB2.out) 0 _ rfl
          have y1 := (HX1'.out.later HB2.out) 1 _ rfl
          clear hb2 hr2 hbW hcp hrX hcX
          go_wp2_with (first | refine wpList_copy_run rfl _ _ 26 rfl _ _ rfl rfl _ _ HCP.out ?_ | fail)
          have HBT : Hid (Byt X (.slice (some ⟨W1.heap.size, 0, none⟩) N N) (mixY (strY zs N) p data)) := (BytO.ofRow (w := W1) HRX.out HML.out (by omega) (Nat.le_refl _)).reads
          refine (HSB.out X _ _ _ (mixY (strY zs N) p data) (HB1'.out.trans (HB2.out.mono HB1'.out.size)) HBT.out (by rw [HML.out]; omega)).mono ?_
          rw [HSRR.out]
          rintro e w3 ⟨b1, m1, k1, b2, m2, k2, rfl, hb3, hf3⟩
          have HB3 : Hid (Below X.heap.size X w3) := hb3
          have HF3 : Hid (FsU w3 (.slice b1 m1 k1) (.slice b2 m2 k2) sd (fresh X w3)) := hf3
          have hrr := (HR1'.out.later HB2.out).later hb3
          have t0 : w3.cell? ⟨w.heap.size + 1, 0, none⟩ = some (.int .i64 0) := hrr.cell (i := 0) (by omega)
          have t1 : w3.cell? ⟨w.heap.size + 1, 1, none⟩ = some (.slice none 0 0) := hrr.cell (i := 1) (by omega)
          have t2 : w3.cell? ⟨w.heap.size + 1, 2, none⟩ = some (.slice none 0 0) := hrr.cell (i := 2) (by omega)
          have s0 := hrr.frozen 0
          have s1 := hrr.frozen 1
          have s2 := hrr.frozen 2
          have HLW : Hid (w.heap.size + 1 < X.heap.size) := (HR1'.out.later HB2.out).lt
          clear hb3 hf3 hrr
          go_wp2
          exact bodyPost_ret (v := .agg #[.int .i64 sc, .slice b1 m1 k1, .slice b2 m2 k2]) (by simp [results, Tryz.results13, go_sem, t0, t1, t2]) rfl (AnsFR.pass (HB1'.out.trans (HB2.out.mono HB1'.out.size)) (by omega) HLW.out HB3.out HF3.out _ _ _)

end Go.Proofs.YtjabimfinanjoabGreat

namespace Go.Proofs.YtjabimfinanjoabGreat
open Go.RowKit
set_option maxRecDepth 100000

theorem l1In_from (w : World) (q : Int) : Calls Tryz.prog 34 #[.int .i64 q, .int .i64 0, .int .i64 1000] w fun e w' => e = .returned (.bool (fromB q)) ∧ w' = w := by
  have := l1In_any w q 0 1000
  rw [show decide (0 ≤ q ∧ q ≤ 1000) = fromB q by unfold fromB; rw [Bool.decide_and]] at this
  exact this
theorem padZ_str (zs : List UInt8) (n : Nat) (h : zs.length ≤ n) : padZ zs (n - zs.length) = strY zs n := by
  have := padZ_take zs n (n - zs.length) (by omega) (by omega)
  rw [List.take_of_length_le (by rw [padZ_len]; omega)] at this
  exact this

set_option maxHeartbeats 6400000 in
theorem specWriteFU (w : World) (a1 : Option Addr) (n1 c1 : Nat) (a2 : Option Addr) (n2 c2 : Nat) (d : FD) (xx q : Int) (aT : Option Addr) (L cT : Nat) (data : List UInt8) (aB : Option Addr) (nB cB : Nat) (busy : List Int) (h : FsR w (.slice a1 n1 c1) (.slice a2 n2 c2) d) (ht : Byt w (.slice aT L cT) data) (hb : Ints w (.slice aB nB cB) busy) (hs : sizeFs d ≤ 1048576) (hl : data.length ≤ 1048576) (hbl : busy.length ≤ 1048576) :
    Calls Tryz.prog 9 #[.agg #[.slice a1 n1 c1, .slice a2 n2 c2], .int .i64 xx, .int .i64 q, .slice aT L cT, .slice aB nB cB] w (AnsFR w (writeFR d xx q data busy)) := by
  have ht0 := ht
  obtain ⟨_, _, esh, _, hatT⟩ := ht0
  simp only [Value.slice.injEq] at esh
  obtain ⟨rfl, rfl, rfl⟩ := esh
  have HAT : Hid (AtY w aT data.length data) := hatT
  obtain ⟨hx0, -, -⟩ := FsX.box h 31
  have HX : Hid (FsX ((w.alloc (.cells #[.slice a1 n1 c1, .slice a2 n2 c2] 31)).alloc (.cells #[.int .i64 0, .slice none 0 0, .slice none 0 0] 33)) w.heap.size 0 d a1 c1 a2 c2) := hx0.later (later1 _ _)
  have HB0 : Hid (Below w.heap.size w ((w.alloc (.cells #[.slice a1 n1 c1, .slice a2 n2 c2] 31)).alloc (.cells #[.int .i64 0, .slice none 0 0, .slice none 0 0] 33))) := later2 _ _ _
  have HBX : Hid (Bx ((w.alloc (.cells #[.slice a1 n1 c1, .slice a2 n2 c2] 31)).alloc (.cells #[.int .i64 0, .slice none 0 0, .slice none 0 0] 33)) w.heap.size [.slice a1 n1 c1, .slice a2 n2 c2]) := (Bx.new w [.slice a1 n1 c1, .slice a2 n2 c2] _).later (later1 _ _)
  have HRS : Hid (OwnRow ((w.alloc (.cells #[.slice a1 n1 c1, .slice a2 n2 c2] 31)).alloc (.cells #[.int .i64 0, .slice none 0 0, .slice none 0 0] 33)) (w.heap.size + 1) 3 (cel zero3)) := by
    have p2 := row3 (w.alloc (.cells #[.slice a1 n1 c1, .slice a2 n2 c2] 31)) 33
    rw [World.size_alloc] at p2
    exact p2
  have HAS : Hid (∀ W, W = ((w.alloc (.cells #[.slice a1 n1 c1, .slice a2 n2 c2] 31)).alloc (.cells #[.int .i64 0, .slice none 0 0, .slice none 0 0] 33)) → Calls Tryz.prog 33 #[.pointer (some ⟨w.heap.size, 0, none⟩), .int .i64 xx, .slice aB nB cB] W fun e w' => e = .returned (.int .i64 (askR d xx busy)) ∧ Below W.heap.size W w') := fun W hW => by
    subst hW
    exact l7With_any _ _ d a1 n1 c1 a2 n2 c2 xx _ busy (HBX.out 0 _ rfl) (HBX.out 1 _ rfl) (h.later (later2 _ _ _)) hs (hb.later (later2 _ _ _))
  have HFR : Hid (∀ W, Calls Tryz.prog 34 #[.int .i64 q, .int .i64 0, .int .i64 1000] W fun e w' => e = .returned (.bool (fromB q)) ∧ w' = W) := fun W => l1In_from W q
  have HRR : Hid (writeFR d xx q data busy = if askR d xx busy = 0 then (if fromB q = true then (if q + (data.length : Int) ≤ 32 then (if data.length = 0 then (0, d) else setQ d xx.toNat (mixY (strY (bytL d xx.toNat) (max (q.toNat + data.length) (bytL d xx.toNat).length)) q.toNat data) busy) else noFs 2) else noFs 3) else noFs (askR d xx busy)) := rfl
  rw [HRR.out]
  clear HRR hx0 hatT ht
  by_cases hc : askR d xx busy = 0
  rotate_left
  · rw [if_neg hc]
    have hcb : (askR d xx busy != 0) = true := by simpa using hc
    clear h hs hc hb HX HFR HAT
    go_enter Tryz.func9, Tryz.ntmps9
    go_wp2_with fail
    have HAW := HAS.out _ rfl
    have HAV : Hid (Calls Tryz.prog 33 _ _ _) := HAW
    clear HAW HAS
    generalize ((w.alloc (.cells #[.slice a1 n1 c1, .slice a2 n2 c2] 31)).alloc (.cells #[.int .i64 0, .slice none 0 0, .slice none 0 0] 33)) = W0 at *
    refine HAV.out.mono ?_
    rintro e w1 ⟨rfl, hb1⟩
    have HB1 : Hid (Below w.heap.size w w1) := HB0.out.trans (hb1.mono HB0.out.size)
    have hrr := HRS.out.later hb1
    have t0 : w1.cell? ⟨w.heap.size + 1, 0, none⟩ = some (.int .i64 0) := hrr.cell (i := 0) (by omega)
    have t1 : w1.cell? ⟨w.heap.size + 1, 1, none⟩ = some (.slice none 0 0) := hrr.cell (i := 1) (by omega)
    have t2 : w1.cell? ⟨w.heap.size + 1, 2, none⟩ = some (.slice none 0 0) := hrr.cell (i := 2) (by omega)
    have s0 := hrr.frozen 0
    have s1 := hrr.frozen 1
    have s2 := hrr.frozen 2
    clear hb1 hrr
    generalize askR d xx busy = r at *
    go_wp2
    exact bodyPost_ret (v := .agg #[.int .i64 r, .slice none 0 0, .slice none 0 0]) (by simp [results, Tryz.results9, go_sem, t0, t1, t2]) rfl (AnsFR.none' r HB1.out (by omega) _ _ _)
  · rw [if_pos hc]
    rw [hc] at HAS
    have hbc := (askR_code hc).1
    have hsd := sound hbc
    obtain ⟨_, _, hpl, _, _⟩ := bytR_code hbc
    obtain ⟨j, rfl⟩ : ∃ j : Nat, xx = (j : Int) := ⟨xx.toNat, by omega⟩
    rw [Int.toNat_natCast] at hsd ⊢
    by_cases hq : fromB q = true
    rotate_left
    · rw [if_neg hq]
      have hqf : fromB q = false := by simpa using hq
      rw [hqf] at HFR
      clear h hs hc hb HX hsd hpl hbc hq hqf HAT
      go_enter Tryz.func9, Tryz.ntmps9
      go_wp2_with fail
      have HAW := HAS.out _ rfl
      have HAV : Hid (Calls Tryz.prog 33 _ _ _) := HAW
      clear HAW HAS
      generalize ((w.alloc (.cells #[.slice a1 n1 c1, .slice a2 n2 c2] 31)).alloc (.cells #[.int .i64 0, .slice none 0 0, .slice none 0 0] 33)) = W0 at *
      refine HAV.out.mono ?_
      rintro e w1 ⟨rfl, hb1⟩
      have HB1 : Hid (Below w.heap.size w w1) := HB0.out.trans (hb1.mono HB0.out.size)
      have hrr := HRS.out.later hb1
      have t0 : w1.cell? ⟨w.heap.size + 1, 0, none⟩ = some (.int .i64 0) := hrr.cell (i := 0) (by omega)
      have t1 : w1.cell? ⟨w.heap.size + 1, 1, none⟩ = some (.slice none 0 0) := hrr.cell (i := 1) (by omega)
      have t2 : w1.cell? ⟨w.heap.size + 1, 2, none⟩ = some (.slice none 0 0) := hrr.cell (i := 2) (by omega)
      have s0 := hrr.frozen 0
      have s1 := hrr.frozen 1
      have s2 := hrr.frozen 2
      clear hb1 hrr
      go_wp2_with fail
      refine (HFR.out _).mono ?_
      rintro e w2 ⟨rfl, rfl⟩
      go_wp2
      exact bodyPost_ret (v := .agg #[.int .i64 3, .slice none 0 0, .slice none 0 0]) (by simp [results, Tryz.results9, go_sem, t0, t1, t2]) rfl (AnsFR.none' 3 HB1.out (by omega) _ _ _)
    · rw [if_pos hq]
      rw [hq] at HFR
      obtain ⟨hq0, hq1⟩ : 0 ≤ q ∧ q ≤ 1000 := by unfold fromB at hq; simpa using hq
      obtain ⟨p, rfl⟩ : ∃ p : Nat, q = (p : Int) := ⟨q.toNat, by omega⟩
      rw [Int.toNat_natCast]
      have hp : p ≤ 1000 := by omega
      clear hq hq0 hq1
      by_cases he : (p : Int) + (data.length : Int) ≤ 32
      rotate_left
      · rw [if_neg he]
        have heb : decide ((32 : Int) < (p : Int) + (data.length : Int)) = true := by simp; omega
        clear h hs hc hb HX hsd hpl hbc he HAT
        generalize data.length = L at *
        go_enter Tryz.func9, Tryz.ntmps9
        go_wp2_with fail
        have HAW := HAS.out _ rfl
        have HAV : Hid (Calls Tryz.prog 33 _ _ _) := HAW
        clear HAW HAS
        generalize ((w.alloc (.cells #[.slice a1 n1 c1, .slice a2 n2 c2] 31)).alloc (.cells #[.int .i64 0, .slice none 0 0, .slice none 0 0] 33)) = W0 at *
        refine HAV.out.mono ?_
        rintro e w1 ⟨rfl, hb1⟩
        have HB1 : Hid (Below w.heap.size w w1) := HB0.out.trans (hb1.mono HB0.out.size)
        have hrr := HRS.out.later hb1
        have t0 : w1.cell? ⟨w.heap.size + 1, 0, none⟩ = some (.int .i64 0) := hrr.cell (i := 0) (by omega)
        have t1 : w1.cell? ⟨w.heap.size + 1, 1, none⟩ = some (.slice none 0 0) := hrr.cell (i := 1) (by omega)
        have t2 : w1.cell? ⟨w.heap.size + 1, 2, none⟩ = some (.slice none 0 0) := hrr.cell (i := 2) (by omega)
        have s0 := hrr.frozen 0
        have s1 := hrr.frozen 1
        have s2 := hrr.frozen 2
        clear hb1 hrr
        go_wp2_with fail
        refine (HFR.out _).mono ?_
        rintro e w2 ⟨rfl, rfl⟩
        go_wp2
        exact bodyPost_ret (v := .agg #[.int .i64 2, .slice none 0 0, .slice none 0 0]) (by simp [results, Tryz.results9, go_sem, t0, t1, t2]) rfl (AnsFR.none' 2 HB1.out (by omega) _ _ _)
      · rw [if_pos he]
        have heb : decide ((32 : Int) < (p : Int) + (data.length : Int)) = false := by simp; omega
        have hpl32 : p + data.length ≤ 32 := by omega
        by_cases hz : data.length = 0
        · rw [if_pos hz]
          have HCPF : Hid (∀ W, Below w.heap.size w W → Calls Tryz.prog 35 #[.agg #[.slice a1 n1 c1, .slice a2 n2 c2]] W (AnsFs W d)) := fun W hW => l6Copy_any W a1 n1 c1 a2 n2 c2 d (h.later hW) hs
          clear h hs hc hb HX hsd hpl hbc he HAT
          rw [hz] at heb ⊢
          simp only [Int.natCast_zero, Int.add_zero] at heb
          go_enter Tryz.func9, Tryz.ntmps9
          go_wp2_with fail
          have HAW := HAS.out _ rfl
          have HAV : Hid (Calls Tryz.prog 33 _ _ _) := HAW
          clear HAW HAS
          generalize ((w.alloc (.cells #[.slice a1 n1 c1, .slice a2 n2 c2] 31)).alloc (.cells #[.int .i64 0, .slice none 0 0, .slice none 0 0] 33)) = W0 at *
          refine HAV.out.mono ?_
          rintro e w1 ⟨rfl, hb1⟩
          have HB1 : Hid (Below w.heap.size w w1) := HB0.out.trans (hb1.mono HB0.out.size)
          have HR1 : Hid (OwnRow w1 (w.heap.size + 1) 3 (cel zero3)) := HRS.out.later hb1
          have x0 := (HBX.out.later hb1) 0 _ rfl
          have x1 := (HBX.out.later hb1) 1 _ rfl
          have hlw : w.heap.size + 1 < w1.heap.size := HR1.out.lt
          clear hb1
          go_wp2_with fail
          refine (HFR.out _).mono ?_
          rintro e u1 ⟨rfl, rfl⟩
          go_wp2_with fail
          refine (HCPF.out _ HB1.out).mono ?_
          rintro e w3 ⟨b1, m1, k1, b2, m2, k2, rfl, hb3, hf3⟩
          have HB3 : Hid (Below u1.heap.size u1 w3) := hb3
          have HF3 : Hid (FsU w3 (.slice b1 m1 k1) (.slice b2 m2 k2) d (fresh u1 w3)) := hf3
          have hrr := HR1.out.later hb3
          have t0 : w3.cell? ⟨w.heap.size + 1, 0, none⟩ = some (.int .i64 0) := hrr.cell (i := 0) (by omega)
          have t1 : w3.cell? ⟨w.heap.size + 1, 1, none⟩ = some (.slice none 0 0) := hrr.cell (i := 1) (by omega)
          have t2 : w3.cell? ⟨w.heap.size + 1, 2, none⟩ = some (.slice none 0 0) := hrr.cell (i := 2) (by omega)
          have s0 := hrr.frozen 0
          have s1 := hrr.frozen 1
          have s2 := hrr.frozen 2
          clear hb3 hf3 hrr x0 x1
          go_wp2
          exact bodyPost_ret (v := .agg #[.int .i64 0, .slice b1 m1 k1, .slice b2 m2 k2]) (by simp [results, Tryz.results9, go_sem, t0, t1, t2]) rfl (AnsFR.pass HB1.out (by omega) hlw HB3.out HF3.out _ _ _)
        · rw [if_neg hz]
          have hzb : (((data.length : Nat) : Int) == 0) = false := by simpa using hz
          have HBY : Hid (∀ W, Below ((w.alloc (.cells #[.slice a1 n1 c1, .slice a2 n2 c2] 31)).alloc (.cells #[.int .i64 0, .slice none 0 0, .slice none 0 0] 33)).heap.size ((w.alloc (.cells #[.slice a1 n1 c1, .slice a2 n2 c2] 31)).alloc (.cells #[.int .i64 0, .slice none 0 0, .slice none 0 0] 33)) W → Calls Tryz.prog 36 #[.pointer (some ⟨w.heap.size, 0, none⟩), .int .i64 (j : Int)] W fun e w' => ∃ v, e = .returned v ∧ Below W.heap.size W w' ∧ WdY w' W.heap.size v (bytL d j)) := fun W hW => l6Bytes_any W _ _ d _ _ _ _ j (HX.out.later hW) hsd.lt hsd.ten hsd.dat hsd.eight hsd.four hsd.blk
          have HSE : Hid (∀ (W : World) (aT : Option Addr) (L cT : Nat) (text : List UInt8), Below w.heap.size w W → Byt W (.slice aT L cT) text → Calls Tryz.prog 37 #[.agg #[.slice a1 n1 c1, .slice a2 n2 c2], .int .i64 (j : Int), .slice aT L cT, .slice aB nB cB] W (AnsFR W (setQ d j text busy))) := fun W aT L cT text hW ht => l7SetU W a1 n1 c1 a2 n2 c2 d j aT L cT text aB nB cB busy (h.later hW) ht (hb.later hW) hs hbl hsd
          have hb32 := hsd.bl
          clear h hs hc hb HX hsd hpl hbc
          generalize bytL d j = zs at *
          obtain ⟨N, hN⟩ : ∃ N, max (p + data.length) zs.length = N := ⟨_, rfl⟩
          rw [hN]
          generalize hsq : setQ d j (mixY (strY zs N) p data) busy = sq at *
          have HSQ : Hid (setQ d j (mixY (strY zs N) p data) busy = sq) := hsq
          have HNN : Hid (max (p + data.length) zs.length = N) := hN
          clear hsq hN he
          obtain ⟨sc, sd⟩ := sq
          obtain ⟨D, hD⟩ : ∃ D, data.length = D := ⟨_, rfl⟩
          have HD : Hid (data.length = D) := hD
          rw [hD] at heb hpl32 hzb hz HNN HAT hl ⊢
          clear hD
          go_enter Tryz.func9, Tryz.ntmps9
          go_wp2_with fail
          have HAW := HAS.out _ rfl
          have HAV : Hid (Calls Tryz.prog 33 _ _ _) := HAW
          clear HAW HAS
          generalize ((w.alloc (.cells #[.slice a1 n1 c1, .slice a2 n2 c2] 31)).alloc (.cells #[.int .i64 0, .slice none 0 0, .slice none 0 0] 33)) = W0 at *
          refine HAV.out.mono ?_
          rintro e w1 ⟨rfl, hb1⟩
          have HL1 : Hid (Below W0.heap.size W0 w1) := hb1
          clear hb1 HAV
          go_wp2_with fail
          refine (HFR.out _).mono ?_
          rintro e u1 ⟨rfl, rfl⟩
          go_wp2_with fail
          refine (HBY.out _ HL1.out).mono ?_
          rintro e w2 ⟨v, rfl, hb2, hw2⟩
          have HL2 : Hid (Below W0.heap.size W0 w2) := HL1.out.trans (hb2.mono HL1.out.size)
          have HW2 : Hid (WdY w2 u1.heap.size v zs) := hw2
          have HZ2 : Hid (u1.heap.size ≤ w2.heap.size) := hb2.size
          have HP0 : Hid (zs = padZ zs 0) := by unfold Hid padZ; simp
          clear hb2 hw2
          go_wp2_with fail
          go_loopw [12] (fun vv wr => ∃ k : Nat, (zs.length < p + D → zs.length + k ≤ p + D) ∧ (p + D ≤ zs.length → k = 0) ∧ Below W0.heap.size W0 wr ∧ u1.heap.size ≤ wr.heap.size ∧ WdY wr u1.heap.size vv (padZ zs k)) (fun vv _ => match vv with | .slice _ m _ => p + D - m | _ => 0)
          case atStart => exact ⟨0, by omega, fun _ => rfl, HL2.out, HZ2.out, HP0.out ▸ HW2.out⟩
          case round =>
            obtain ⟨k, hk1, hk2, hbl2, hsz, hwd⟩ := hrel
            obtain ⟨av, cv, rfl⟩ := hwd.shape
            have HBL : Hid (Below W0.heap.size W0 wr) := hbl2
            have HWD : Hid (WdY wr u1.heap.size (.slice av (padZ zs k).length cv) (padZ zs k)) := hwd
            have HSZW : Hid (u1.heap.size ≤ wr.heap.size) := hsz
            have HPL : Hid ((padZ zs k).length = zs.length + k) := padZ_len zs k
            clear hbl2 hwd hsz
            by_cases hlt : zs.length + k < p + D
            · obtain ⟨v', X, hr, hwx, hbx⟩ := append_y (wr.alloc (.cells #[.int .u8 0] 5)) u1.heap.size (.slice av (padZ zs k).length cv) (padZ zs k) [0] (some ⟨wr.heap.size, 0, none⟩) 1 1 (HWD.out.later (later1 _ _)) (by have := HSZW.out; simp; omega) (by rw [HPL.out]; omega) (by simp) (lit1_Y wr)
              rw [padZ_succ] at hwx
              have HRN : Hid (_ = _) := hr
              have HWX : Hid (WdY X u1.heap.size v' (padZ zs (k + 1))) := hwx
              have hbX : Below u1.heap.size wr X := ((later1 _ _).mono HSZW.out).trans hbx
              have HBX2 : Hid (Below W0.heap.size W0 X) := HBL.out.trans (hbX.mono HL1.out.size)
              have HSX : Hid (u1.heap.size ≤ X.heap.size) := Nat.le_trans HSZW.out hbX.size
              obtain ⟨aw, cw, rfl⟩ := hwx.shape
              have HPL2 : Hid ((padZ zs (k + 1)).length = zs.length + (k + 1)) := padZ_len zs (k + 1)
              rw [HPL.out] at HRN ⊢
              rw [HPL2.out] at HRN HWX
              clear hr hwx hbx hbX HWD
              go_wp2_with (first | refine wpList_append_run rfl _ _ 26 rfl _ _ rfl rfl _ _ HRN.out ?_ | fail)
              go_roundw
              case rel => exact ⟨k + 1, by omega, by omega, HBX2.out, HSX.out, HWX.out⟩
              case measure => simp; omega
            · have hNk : zs.length + k = N := by have := HNN.out; omega
              have hpad : padZ zs k = strY zs N := by
                have := padZ_str zs N (by omega)
                rw [show N - zs.length = k by omega] at this
                exact this
              have hown := HWD.out.own (w0 := u1) (Nat.le_refl _)
              rw [HPL.out, hNk, hpad] at hown
              rw [HPL.out, hNk]
              rcases hown with ⟨e0, _⟩ | ⟨b0, cap0, hF0, e0, hm0, hrow0⟩
              · exfalso
                have := strY_len zs N
                rw [e0] at this
                simp at this
                omega
              simp only [Value.slice.injEq] at e0
              obtain ⟨rfl, -, rfl⟩ := e0
              have HROW : Hid (OwnRow wr b0 N (bytC (strY zs N))) := by
                have := hrow0
                rw [strY_len] at this
                exact this
              have HB0G : Hid (u1.heap.size ≤ b0) := hF0.1
              have hNc : N ≤ cv := by have := hm0.2; rw [strY_len] at this; exact this
              have hND : p + D ≤ N := by have := HNN.out; omega
              have HMG : Hid (∀ i, bytC (mixY (strY zs N) p data) i = if p ≤ i ∧ i < p + D then bytC data (i - p) else bytC (strY zs N) i) := fun i => by
                unfold bytC
                rw [mixY_get _ _ _ (by rw [strY_len, HD.out]; omega), HD.out]
                by_cases hh : p ≤ i ∧ i < p + D
                · rw [if_pos hh, if_pos hh]
                · rw [if_neg hh, if_neg hh]
              have HML : Hid ((mixY (strY zs N) p data).length = N) := by unfold Hid; rw [mixY_len _ _ _ (by rw [strY_len, HD.out]; omega), strY_len]
              have hN32 : N ≤ 32 := by have := HNN.out; omega
              have hge2 : ¬ ((N : Int) < (p : Int) + (D : Int)) := by omega
              clear HWD hrow0 hm0 hF0 hpad hNk hk1 hk2 hlt HPL
              go_wp2_with fail
              go_loopw [13] (fun i wr2 => ∃ m : Nat, m ≤ D ∧ i = .int .i64 m ∧ Chg (fun c => c = b0) wr wr2 ∧ OwnRow wr2 b0 N (fun i => if p ≤ i ∧ i < p + m then bytC data (i - p) else bytC (strY zs N) i)) (fun i _ => D - (intOf i).toNat)
              case atStart => exact ⟨0, Nat.zero_le _, rfl, Chg.refl _ _, HROW.out.congr fun i _ => by rw [if_neg (by omega)]⟩
              case round =>
                obtain ⟨m, hm, rfl, hc2, hr2⟩ := hrel
                have HC2 : Hid (Chg (fun c => c = b0) _ wr) := hc2
                have HR2 : Hid (OwnRow wr b0 N (fun i => if p ≤ i ∧ i < p + m then bytC data (i - p) else bytC (strY zs N) i)) := hr2
                have HBW0 : Hid (Below W0.heap.size W0 wr) := HBL.out.trans (hc2.below HBL.out.size fun b hb => by have := HB0G.out; have := HL1.out.size; omega)
                have HBW : Hid (Below w.heap.size w wr) := HB0.out.trans (HBW0.out.mono HB0.out.size)
                by_cases hlt : m < D
                · obtain ⟨bd, od, rfl, cd⟩ := HAT.out m hlt
                  have cd2 := cell_later HBW.out cd
                  obtain ⟨r, hr⟩ : ∃ r, p + m = r := ⟨_, rfl⟩
                  have hpm : r < N := by omega
                  have cp0 := hr2.cell (i := r) hpm
                  rw [if_neg (by omega)] at cp0
                  have cp1 := hr2.frozen r
                  have hpmI : (p : Int) + (m : Int) = (r : Int) := by omega
                  have hwr1 : IntKind.i64.wrap ((p : Int) + (m : Int)) = (r : Int) := by rw [IntKind.wrap_i64]; omega
                  have hwr2 : IntKind.i64.wrap (r : Int) = (r : Int) := by rw [IntKind.wrap_i64]; omega
                  have hpmN : (r : Int) < (N : Int) := by omega
                  have HNX : Hid (OwnRow (wr.setCell ⟨b0, r, none⟩ (.int .u8 (((data[m]?.getD 0).toNat : Nat) : Int))) b0 N (fun i => if p ≤ i ∧ i < p + (m + 1) then bytC data (i - p) else bytC (strY zs N) i)) := (hr2.set r _).congr fun i _ => by
                    by_cases e1 : i = r
                    · subst e1
                      rw [if_pos rfl, if_pos ⟨by omega, by omega⟩, show i - p = m by omega]
                      rfl
                    · rw [if_neg e1]
                      by_cases e2 : p ≤ i ∧ i < p + m
                      · rw [if_pos e2, if_pos ⟨e2.1, by omega⟩]
                      · rw [if_neg e2, if_neg (by omega)]
                  have HCX : Hid (Chg (fun c => c = b0) _ (wr.setCell ⟨b0, r, none⟩ (.int .u8 (((data[m]?.getD 0).toNat : Nat) : Int)))) := Chg.set (F := fun c => c = b0) hc2 rfl r _
                  clear hr
                  unfold bytC at cp0
                  clear hc2 hr2 cd
                  generalize ((data[m]?.getD 0).toNat : Nat) = dz at *
                  go_wp2
                  go_roundw
                  case rel => exact ⟨m + 1, by omega, by go_num, HCX.out, HNX.out⟩
                  case measure => simp [intOf]; omega
                · have e : D = m := by omega
                  subst e
                  have HRX : Hid (OwnRow wr b0 N (bytC (mixY (strY zs N) p data))) := hr2.congr fun i _ => (HMG.out i).symm
                  have HBT : Hid (Byt wr (.slice (some ⟨b0, 0, none⟩) N cv) (mixY (strY zs N) p data)) := by
                    have h1 : BytO wr (.slice (some ⟨b0, 0, none⟩) N cv) (mixY (strY zs N) p data) (fun _ => True) := Or.inr ⟨b0, cv, trivial, by rw [HML.out], ⟨by rw [HML.out]; unfold maxLen; omega, by rw [HML.out]; exact hNc⟩, by rw [HML.out]; exact HRX.out⟩
                    exact h1.reads
                  have HR1 : Hid (OwnRow wr (w.heap.size + 1) 3 (cel zero3)) := HRS.out.later HBW0.out
                  have HX1 : Hid (Bx wr w.heap.size [.slice a1 n1 c1, .slice a2 n2 c2]) := HBX.out.later HBW0.out
                  have x0 := HX1.out 0 _ rfl
                  have x1 := HX1.out 1 _ rfl
                  have hlw : w.heap.size + 1 < wr.heap.size := HR1.out.lt
                  clear hc2 hr2
                  go_wp2_with fail
                  refine (HSE.out wr _ _ _ (mixY (strY zs N) p data) HBW.out HBT.out).mono ?_
                  rw [HSQ.out]
                  rintro e w3 ⟨b1, m1, k1, b2, m2, k2, rfl, hb3, hf3⟩
                  have HB3 : Hid (Below wr.heap.size wr w3) := hb3
                  have HF3 : Hid (FsU w3 (.slice b1 m1 k1) (.slice b2 m2 k2) sd (fresh wr w3)) := hf3
                  have hrr := HR1.out.later hb3
                  have t0 : w3.cell? ⟨w.heap.size + 1, 0, none⟩ = some (.int .i64 0) := hrr.cell (i := 0) (by omega)
                  have t1 : w3.cell? ⟨w.heap.size + 1, 1, none⟩ = some (.slice none 0 0) := hrr.cell (i := 1) (by omega)
                  have t2 : w3.cell? ⟨w.heap.size + 1, 2, none⟩ = some (.slice none 0 0) := hrr.cell (i := 2) (by omega)
                  have s0 := hrr.frozen 0
                  have s1 := hrr.frozen 1
                  have s2 := hrr.frozen 2
                  clear hb3 hf3 hrr
                  go_wp2
                  exact bodyPost_ret (v := .agg #[.int .i64 sc, .slice b1 m1 k1, .slice b2 m2 k2]) (by simp [results, Tryz.results9, go_sem, t0, t1, t2]) rfl (AnsFR.pass HBW.out (by omega) hlw HB3.out HF3.out _ _ _)

theorem cutR_span (d : FD) (x q : Int) (busy : List Int) : spanFs (cutR d x q busy).2 ≤ 1000 := by
  unfold cutR
  by_cases hc : askR d x busy = 0
  · rw [if_pos hc]
    by_cases hq : 0 ≤ q ∧ q ≤ 32
    · rw [if_pos hq]; exact setQ_span (sound (askR_code hc).1) _ busy
    · rw [if_neg hq, noFs_span]; omega
  · rw [if_neg hc, noFs_span]; omega
theorem writeFR_span (d : FD) (x q : Int) (data : List UInt8) (busy : List Int) (hs : sizeFs d ≤ 1048576) : spanFs (writeFR d x q data busy).2 ≤ 4194304 := by
  unfold writeFR
  by_cases hc : askR d x busy = 0
  · rw [if_pos hc]
    by_cases hq : fromB q = true
    · rw [if_pos hq]
      by_cases he : q + (data.length : Int) ≤ 32
      · rw [if_pos he]
        by_cases hz : data.length = 0
        · rw [if_pos hz]; have := spanFs_le d; show spanFs d ≤ 4194304; omega
        · rw [if_neg hz]; have := setQ_span (sound (askR_code hc).1) (mixY (strY (bytL d x.toNat) (max (q.toNat + data.length) (bytL d x.toNat).length)) q.toNat data) busy; omega
      · rw [if_neg he, noFs_span]; omega
    · rw [if_neg hq, noFs_span]; omega
  · rw [if_neg hc, noFs_span]; omega
end Go.Proofs.YtjabimfinanjoabGreat

namespace Go.Proofs.YtjabimfinanjoabGreat
open Go.RowKit
set_option maxRecDepth 100000

theorem Tryz.cellsU8V : Tryz.prog.cellsOf 5 = 1 := by kernel_rfl
theorem eqBytV {w : World} {v v' : Value} {zs : List UInt8} (h : Byt w v zs) (h' : Byt w v' zs) : Calls Tryz.prog 16 #[v, v'] w fun e w' => e = .returned (.bool true) ∧ Below w.heap.size w w' :=
  (eqBytU h h').mono fun _ _ ⟨h1, m, h2⟩ => ⟨h1, h2 ▸ below_drewN (Below.refl _ _) m⟩
theorem markBytV {w : World} {v : Value} {zs : List UInt8} {F : Nat → Prop} (k : Int) (h : BytO w v zs F) (hk0 : 0 ≤ k) (hk : k + (zs.length : Nat) ≤ 4611686018427387904) :
    Calls Tryz.prog 19 #[v, .int .i64 k] w fun e w' => e = .returned (.int .i64 (k + (zs.length : Nat))) ∧ Chg F w w' :=
  (markBytU k h hk0 hk).mono fun _ _ ⟨h1, _, h2⟩ => ⟨h1, h2⟩
end Go.Proofs.YtjabimfinanjoabGreat
