/- Names in directories by their paths; what stands against a renaming. What stands against a renaming. A name that goes, and what it led to. -/
import Derived.Test.YtpfafcodihhdfaaGreatDoorM30
import Derived.Test.YtpfafcodihhdfaaGreatDoorM23
import Derived.Test.YtpfafcodihhdfaaGreatDoorM19
import Derived.Deep.RegionHeld3
import Derived.Test.YtpfafcodihhdfaaGreatDoorM10
namespace Go.Proofs.YtpfafcodihhdfaaGreatDoor
open Go.RowKit
set_option maxRecDepth 100000

theorem below4 {w W : World} {g : Nat} (hB : Below w.heap.size w W) (hg : w.heap.size ≤ g) (a b c d : Value) : Below w.heap.size w ((((W.setCell ⟨g, 0, none⟩ a).setCell ⟨g, 1, none⟩ b).setCell ⟨g, 2, none⟩ c).setCell ⟨g, 3, none⟩ d) := (((hB.setCell hg _).setCell hg _).setCell hg _).setCell hg _
def zero4S : List Value := [.int .i64 0, .string ⟨#[]⟩, .bool false, .int .i64 0]

set_option maxHeartbeats 6400000 in
theorem spotOf_any (w : World) (a1 : Option Addr) (n1 c1 : Nat) (a2 : Option Addr) (n2 c2 : Nat) (d : FD) (s : ByteArray) (h : FsR w (.slice a1 n1 c1) (.slice a2 n2 c2) d) (hs : sizeFs d ≤ 1048576) (hl : s.size ≤ 1048576) (hgl : Gl w) (hf : fsF d = 0) :
    Calls Tryz.prog 58 #[.agg #[.slice a1 n1 c1, .slice a2 n2 c2], .string s] w fun e w' => e = .returned (.tuple #[.agg #[.int .i64 (spotR d s).1.1, .string (spotR d s).1.2.1, .bool (spotR d s).1.2.2.1, .int .i64 (spotR d s).1.2.2.2], .int .i64 (spotR d s).2]) ∧ Below w.heap.size w w' := by
  have hsl : s.data.toList.length = s.size := Array.length_toList
  have HWP : Hid (∀ W, Below w.heap.size w W → Calls Tryz.prog 65 #[.agg #[.slice a1 n1 c1, .slice a2 n2 c2], .string s] W fun e w' => e = .returned (.agg #[.int .i64 (wparR d s).1, .int .i64 (wparR d s).2]) ∧ Below W.heap.size W w') := fun W hW => implParentU W _ _ _ _ _ _ d s (h.later hW) hs hl (hgl.later hW)
  have HLO : Hid (∀ W, Calls Tryz.prog 67 #[.string s] W fun e w' => e = .returned (.agg #[.int .i64 (lastC s.data.toList), .string (lastN s)]) ∧ Below W.heap.size W w') := fun W => by
    have := implLast_any W s.data.toList (by omega)
    rw [mkB_data] at this
    exact this
  have HLK : Hid ((wparR d s).1 = 0 → ∃ (j : Nat) (cc : Int), (wparR d s).2 = (j : Int) ∧ (cc == 0) = hasE d j (lastN s) ∧ ∀ W, Below w.heap.size w W → Calls Tryz.prog 103 #[.agg #[.slice a1 n1 c1, .slice a2 n2 c2], .int .i64 (j : Int), .string (lastN s)] W fun e w' => e = .returned (.agg #[.int .i64 cc, .int .i64 (atE d j (lastN s))]) ∧ Below W.heap.size W w') := fun h0 => by
    obtain ⟨j, h1, h2, h3, h4⟩ := par_spot hf h0
    refine ⟨j, if hasE d j (lastN s) then 0 else 4, h1, by cases hasE d j (lastN s) <;> rfl, fun W hW => ?_⟩
    have := implLookU W _ _ _ _ _ _ d (j : Int) (lastN s) (h.later hW) hs (by have := nameF_size h4; omega)
    rw [look_spot h2 h4] at this
    exact this
  have HSP : Hid (spotR d s = if (wparR d s).1 = 0 then (((wparR d s).2, lastN s, hasE d (wparR d s).2.toNat (lastN s), atE d (wparR d s).2.toNat (lastN s)), 0) else ((0, ⟨#[]⟩, false, 0), (wparR d s).1)) := rfl
  obtain ⟨RES, hRES⟩ : ∃ r, spotR d s = r := ⟨_, rfl⟩
  rw [hRES] at HSP ⊢
  clear hRES h hs hl hgl hf hsl
  have HB0 : Hid (Below w.heap.size w ((w.alloc (.cells #[.slice a1 n1 c1, .slice a2 n2 c2] 32)).alloc (.cells #[.int .i64 0, .string ⟨#[]⟩, .bool false, .int .i64 0] 86))) := later2 _ _ _
  have HX0 : Hid (Bx ((w.alloc (.cells #[.slice a1 n1 c1, .slice a2 n2 c2] 32)).alloc (.cells #[.int .i64 0, .string ⟨#[]⟩, .bool false, .int .i64 0] 86)) w.heap.size [.slice a1 n1 c1, .slice a2 n2 c2]) := (Bx.new w [.slice a1 n1 c1, .slice a2 n2 c2] _).later (later1 _ _)
  have HR0 : Hid (OwnRow ((w.alloc (.cells #[.slice a1 n1 c1, .slice a2 n2 c2] 32)).alloc (.cells #[.int .i64 0, .string ⟨#[]⟩, .bool false, .int .i64 0] 86)) (w.heap.size + 1) 4 (cel zero4S)) := by
      have p2 := newCel (w.alloc (.cells #[.slice a1 n1 c1, .slice a2 n2 c2] 32)) zero4S 86
      rw [World.size_alloc] at p2
      exact p2
  generalize wparR d s = pr at *
  generalize lastN s = nm at *
  generalize lastC s.data.toList = lc at *
  obtain ⟨pc, pv⟩ := pr
  dsimp only at HWP HLK HSP
  go_enter Tryz.func58, Tryz.ntmps58
  go_wp2_with fail
  generalize ((w.alloc (.cells #[.slice a1 n1 c1, .slice a2 n2 c2] 32)).alloc (.cells #[.int .i64 0, .string ⟨#[]⟩, .bool false, .int .i64 0] 86)) = W0 at *
  refine (HWP.out _ HB0.out).mono ?_
  rintro e w1 ⟨rfl, hb⟩
  have hlz : w.heap.size + 1 < w1.heap.size := (HR0.out.later hb).lt
  have hb' : Below W0.heap.size W0 (w1.alloc (.cells #[.int .i64 pc, .int .i64 pv] 72)) := hb.trans ((later1 _ _).mono hb.size)
  have HB1 : Hid (Below w.heap.size w (w1.alloc (.cells #[.int .i64 pc, .int .i64 pv] 72))) := HB0.out.trans (hb'.mono HB0.out.size)
  have HX1 : Hid (Bx (w1.alloc (.cells #[.int .i64 pc, .int .i64 pv] 72)) w.heap.size [.slice a1 n1 c1, .slice a2 n2 c2]) := HX0.out.later hb'
  have HR1 : Hid (OwnRow (w1.alloc (.cells #[.int .i64 pc, .int .i64 pv] 72)) (w.heap.size + 1) 4 (cel zero4S)) := HR0.out.later hb'
  clear hb hb'
  have HP1 : Hid (Bx (w1.alloc (.cells #[.int .i64 pc, .int .i64 pv] 72)) w1.heap.size [.int .i64 pc, .int .i64 pv]) := Bx.new w1 [.int .i64 pc, .int .i64 pv] _
  have hlw : w.heap.size + 1 < w1.heap.size := hlz
  by_cases hpc : pc = 0
  rotate_left
  · have hpb : (pc != 0) = true := by simpa using hpc
    have HE : Hid (RES = ((0, ⟨#[]⟩, false, 0), pc)) := by unfold Hid; rw [HSP.out, if_neg hpc]
    clear hpc
    go_wp2_with fail
    generalize (w1.alloc (.cells #[.int .i64 pc, .int .i64 pv] 72)) = W1 at *
    have xHP0 := HP1.out 0 _ rfl
    have xHP1 := HP1.out 1 _ rfl
    have hrr := HR1.out
    have hl1 : w.heap.size + 1 < W1.heap.size := hrr.lt
    have t0 : W1.cell? ⟨w.heap.size + 1, 0, none⟩ = some (.int .i64 0) := hrr.cell (i := 0) (by omega)
    have t1 : W1.cell? ⟨w.heap.size + 1, 1, none⟩ = some (.string ⟨#[]⟩) := hrr.cell (i := 1) (by omega)
    have t2 : W1.cell? ⟨w.heap.size + 1, 2, none⟩ = some (.bool false) := hrr.cell (i := 2) (by omega)
    have t3 : W1.cell? ⟨w.heap.size + 1, 3, none⟩ = some (.int .i64 0) := hrr.cell (i := 3) (by omega)
    have s0 := hrr.frozen 0
    have s1 := hrr.frozen 1
    have s2 := hrr.frozen 2
    have s3 := hrr.frozen 3
    have ha1 : w.heap.size + 1 ≠ w1.heap.size := by omega
    have ha2 : w1.heap.size ≠ w.heap.size + 1 := by omega
    clear hrr
    go_region_held3 (fun W => W.cell? ⟨w1.heap.size, 0, none⟩ = some (.int .i64 pc)) (go_keep) (fail)
    all_goals
      go_wp2
      exact bodyPost_ret (v := .tuple #[.agg #[.int .i64 0, .string ⟨#[]⟩, .bool false, .int .i64 0], .int .i64 pc]) (by simp [results, Tryz.results58, go_sem, t0, t1, t2, t3]) rfl ⟨by rw [HE.out], by
        have h8 := below4 HB1.out (g := w.heap.size + 1) (by omega) (.int .i64 0) (.string ⟨#[]⟩) (.bool false) (.int .i64 0)
        first
          | exact h8.drew
          | exact h8⟩
  · have hpb : (pc != 0) = false := by simpa using hpc
    obtain ⟨j, cc, rfl, hcc, hlk⟩ := HLK.out hpc
    have HL : Hid (∀ W, Below w.heap.size w W → _) := hlk
    rw [if_pos hpc, Int.toNat_natCast] at HSP
    clear hlk hpc HLK
    have hft := field_txt1
    go_wp2_with fail
    generalize (w1.alloc (.cells #[.int .i64 pc, .int .i64 (j : Int)] 72)) = W1 at *
    refine (HLO.out _).mono ?_
    rintro e w2 ⟨rfl, hb⟩
    have HB2 : Hid (Below w.heap.size w w2) := HB1.out.trans (hb.mono HB1.out.size)
    have HX2 : Hid (Bx w2 w.heap.size [.slice a1 n1 c1, .slice a2 n2 c2]) := HX1.out.later hb
    have HR2 : Hid (OwnRow w2 (w.heap.size + 1) 4 (cel zero4S)) := HR1.out.later hb
    have HP2 : Hid (Bx w2 w1.heap.size [.int .i64 pc, .int .i64 (j : Int)]) := HP1.out.later hb
    clear hb
    have xHX0 := HX2.out 0 _ rfl
    have xHX1 := HX2.out 1 _ rfl
    have xHP1 := HP2.out 1 _ rfl
    go_wp2_with fail
    clear xHX0 xHX1 xHP1
    refine (HL.out _ HB2.out).mono ?_
    rintro e w3 ⟨rfl, hb⟩
    have HBW : Hid (Below w.heap.size w w3) := HB2.out.trans (hb.mono HB2.out.size)
    have hrr := HR2.out.later hb
    have hlv : w.heap.size + 1 < w3.heap.size := hrr.lt
    have t0 : w3.cell? ⟨w.heap.size + 1, 0, none⟩ = some (.int .i64 0) := hrr.cell (i := 0) (by omega)
    have t1 : w3.cell? ⟨w.heap.size + 1, 1, none⟩ = some (.string ⟨#[]⟩) := hrr.cell (i := 1) (by omega)
    have t2 : w3.cell? ⟨w.heap.size + 1, 2, none⟩ = some (.bool false) := hrr.cell (i := 2) (by omega)
    have t3 : w3.cell? ⟨w.heap.size + 1, 3, none⟩ = some (.int .i64 0) := hrr.cell (i := 3) (by omega)
    have s0 := hrr.frozen 0
    have s1 := hrr.frozen 1
    have s2 := hrr.frozen 2
    have s3 := hrr.frozen 3
    clear hrr
    have hb' : Below w2.heap.size w2 (w3.alloc (.cells #[.int .i64 (cc), .int .i64 (atE d j nm)] 72)) := hb.trans ((later1 _ _).mono hb.size)
    have HB3 : Hid (Below w.heap.size w (w3.alloc (.cells #[.int .i64 (cc), .int .i64 (atE d j nm)] 72))) := HB2.out.trans (hb'.mono HB2.out.size)
    have HX3 : Hid (Bx (w3.alloc (.cells #[.int .i64 (cc), .int .i64 (atE d j nm)] 72)) w.heap.size [.slice a1 n1 c1, .slice a2 n2 c2]) := HX2.out.later hb'
    have HR3 : Hid (OwnRow (w3.alloc (.cells #[.int .i64 (cc), .int .i64 (atE d j nm)] 72)) (w.heap.size + 1) 4 (cel zero4S)) := HR2.out.later hb'
    have HP3 : Hid (Bx (w3.alloc (.cells #[.int .i64 (cc), .int .i64 (atE d j nm)] 72)) w1.heap.size [.int .i64 pc, .int .i64 (j : Int)]) := HP2.out.later hb'
    clear hb hb'
    have HQ3 : Hid (Bx (w3.alloc (.cells #[.int .i64 (cc), .int .i64 (atE d j nm)] 72)) w3.heap.size [.int .i64 (cc), .int .i64 (atE d j nm)]) := Bx.new w3 [.int .i64 (cc), .int .i64 (atE d j nm)] _
    generalize hasE d j nm = hv at *
    generalize atE d j nm = av at *
    have xHP1 := HP3.out 1 _ rfl
    have xHQ0 := HQ3.out 0 _ rfl
    have xHQ1 := HQ3.out 1 _ rfl
    go_wp2
    exact bodyPost_ret (v := .tuple #[.agg #[.int .i64 (j : Int), .string nm, .bool hv, .int .i64 av], .int .i64 0]) (by simp [results, Tryz.results58, go_sem, t0, t1, t2, t3, hlv]) rfl ⟨by rw [HSP.out], by
      have h8 := below4 HBW.out (g := w.heap.size + 1) (by omega) (.int .i64 (j : Int)) (.string nm) (.bool hv) (.int .i64 av)
      exact h8.alloc (by have := HBW.out.size; simpa [World.setCell] using this) _⟩

set_option maxHeartbeats 1600000 in
theorem leadAlike_any (w : World) (j : Int) (s : ByteArray) (f : Bool) (z : Int) (tj : Int) (t : ByteArray) (gf : Bool) (tz : Int) :
    Calls Tryz.prog 61 #[.agg #[.int .i64 j, .string s, .bool f, .int .i64 z], .agg #[.int .i64 tj, .string t, .bool gf, .int .i64 tz]] w fun e w' => e = .returned (.bool (gf && decide (tz = z))) ∧ Below w.heap.size w w' := by
  cases gf
  · go_enter Tryz.func61, Tryz.ntmps61
    go_wp2
    go_ret
    exact ⟨rfl, later2 _ _ _⟩
  · go_enter Tryz.func61, Tryz.ntmps61
    go_wp2
    go_ret
    exact ⟨ret_bool (by rw [Bool.true_and]; by_cases h : tz = z <;> simp [h]), later2 _ _ _⟩
end Go.Proofs.YtpfafcodihhdfaaGreatDoor

namespace Go.Proofs.YtpfafcodihhdfaaGreatDoor
open Go.RowKit
set_option maxRecDepth 100000

theorem later3' (w : World) (a b c : Obj) : Below w.heap.size w (((w.alloc a).alloc b).alloc c) := (later2 w a b).trans ((later1 _ c).mono (later2 w a b).size)
theorem boxes3 (w : World) (xs ys zs : List Value) (ta tb tc : TypeId) : Bx (((w.alloc (.cells xs.toArray ta)).alloc (.cells ys.toArray tb)).alloc (.cells zs.toArray tc)) w.heap.size xs ∧ Bx (((w.alloc (.cells xs.toArray ta)).alloc (.cells ys.toArray tb)).alloc (.cells zs.toArray tc)) (w.heap.size + 1) ys ∧ Bx (((w.alloc (.cells xs.toArray ta)).alloc (.cells ys.toArray tb)).alloc (.cells zs.toArray tc)) (w.heap.size + 1 + 1) zs := by
  refine ⟨(Bx.new w xs ta).later (later2 _ _ _), ?_, ?_⟩
  · have := (Bx.new (w.alloc (.cells xs.toArray ta)) ys tb).later (later1 _ (.cells zs.toArray tc))
    rw [World.size_alloc] at this
    exact this
  · have := Bx.new ((w.alloc (.cells xs.toArray ta)).alloc (.cells ys.toArray tb)) zs tc
    rw [World.size_alloc, World.size_alloc] at this
    exact this
set_option maxHeartbeats 6400000 in
theorem renameFault_any (w : World) (a1 : Option Addr) (n1 c1 : Nat) (a2 : Option Addr) (n2 c2 : Nat) (d : FD) (j : Nat) (s : ByteArray) (z tj : Nat) (t : ByteArray) (gf : Bool) (tz : Nat) (h : FsR w (.slice a1 n1 c1) (.slice a2 n2 c2) d) (hs : sizeFs d ≤ 1048576) (hz : z < d.1.length) (htj : tj < d.1.length) (htz : tz < d.1.length) (_h10 : d.1.length ≤ 10) (h6 : (entA d tj).length ≤ 1048576) :
    Calls Tryz.prog 60 #[.agg #[.slice a1 n1 c1, .slice a2 n2 c2], .agg #[.int .i64 (j : Int), .string s, .bool true, .int .i64 (z : Int)], .agg #[.int .i64 (tj : Int), .string t, .bool gf, .int .i64 (tz : Int)]] w fun e w' => e = .returned (.int .i64 (renF d j z tj gf tz)) ∧ Below w.heap.size w w' := by
  have HWI : Hid (∀ W, Below w.heap.size w W → Calls Tryz.prog 105 #[.agg #[.slice a1 n1 c1, .slice a2 n2 c2], .int .i64 (tj : Int), .int .i64 (z : Int)] W fun e w' => e = .returned (.bool (winB d (tj : Int) (z : Int))) ∧ Below W.heap.size W w') := fun W hW => implWithinU W _ _ _ _ _ _ d (tj : Int) (z : Int) (h.later hW) hs
  have HLA : Hid (∀ W, Calls Tryz.prog 61 #[.agg #[.int .i64 (j : Int), .string s, .bool true, .int .i64 (z : Int)], .agg #[.int .i64 (tj : Int), .string t, .bool gf, .int .i64 (tz : Int)]] W fun e w' => e = .returned (.bool (gf && decide ((tz : Int) = (z : Int)))) ∧ Below W.heap.size W w') := fun W => leadAlike_any W _ _ _ _ _ _ _ _
  have HRF : Hid (renF d j z tj gf tz = if kindAt d.1 z = 2 ∧ winB d (tj : Int) (z : Int) = true then 1 else if gf = true ∧ tz = z then 0 else if gf = true ∧ ¬ (kindAt d.1 z = 2 ↔ kindAt d.1 tz = 2) then 9 else if gf = true ∧ 0 < (entA d tz).length then 8 else if gf = false ∧ tj ≠ j ∧ (entA d tj).length = 6 then 2 else 0) := rfl
  obtain ⟨_, _, e1, -, hAt⟩ := h.1.open'
  simp only [Value.slice.injEq] at e1
  obtain ⟨rfl, rfl, rfl⟩ := e1
  obtain ⟨b0, o0, rfl, hI⟩ := hAt z hz
  obtain ⟨_, _, _, _, kz, -, -, -, -, -⟩ := hI
  obtain ⟨b0', o0', eb, hI⟩ := hAt tz htz
  simp only [Option.some.injEq, Addr.mk.injEq, and_true] at eb
  obtain ⟨rfl, rfl⟩ := eb
  obtain ⟨tB, tcB, tE, tcE, k0, k1, k2, k3, k4, -⟩ := hI
  obtain ⟨b0', o0', eb, hI⟩ := hAt tj htj
  simp only [Option.some.injEq, Addr.mk.injEq, and_true] at eb
  obtain ⟨rfl, rfl⟩ := eb
  obtain ⟨jB, jcB, jE, jcE, m0, m1, m2, m3, m4, -⟩ := hI
  have HKZ : Hid (w.cell? ⟨b0, o0 + z * 5, none⟩ = some (.int .i64 (kindAt d.1 z))) := kz
  have HK0 : Hid (w.cell? ⟨b0, o0 + tz * 5, none⟩ = some (.int .i64 (kindAt d.1 tz))) := k0
  have HK1 : Hid (_ = _) := k1
  have HK2 : Hid (_ = _) := k2
  have HK3 : Hid (_ = _) := k3
  have HK4 : Hid (w.cell? ⟨b0, o0 + tz * 5 + 4, none⟩ = some (.slice tE (entA d tz).length tcE)) := k4
  have HM0 : Hid (_ = _) := m0
  have HM1 : Hid (_ = _) := m1
  have HM2 : Hid (_ = _) := m2
  have HM3 : Hid (_ = _) := m3
  have HM4 : Hid (w.cell? ⟨b0, o0 + tj * 5 + 4, none⟩ = some (.slice jE (entA d tj).length jcE)) := m4
  have hzI : (z : Int) < (d.1.length : Int) := by omega
  have hzt : (tz : Int) < (d.1.length : Int) := by omega
  have hzj : (tj : Int) < (d.1.length : Int) := by omega
  obtain ⟨RES, hRES⟩ : ∃ r, renF d j z tj gf tz = r := ⟨_, rfl⟩
  rw [hRES] at HRF ⊢
  clear hRES h hs kz k0 k1 k2 k3 k4 m0 m1 m2 m3 m4 hAt hz htj htz
  generalize (d.1[tz]?.getD id0).2.1 = e1 at *
  generalize (d.1[tz]?.getD id0).2.2.1 = e2 at *
  generalize (d.1[tz]?.getD id0).2.2.2.1.length = e3 at *
  generalize (d.1[tj]?.getD id0).1 = f0 at *
  generalize (d.1[tj]?.getD id0).2.1 = f1 at *
  generalize (d.1[tj]?.getD id0).2.2.1 = f2 at *
  generalize (d.1[tj]?.getD id0).2.2.2.1.length = f3 at *
  generalize kindAt d.1 z = kd at *
  generalize kindAt d.1 tz = kt at *
  generalize (entA d tz).length = le at *
  generalize (entA d tj).length = lt at *
  generalize winB d (tj : Int) (z : Int) = wb at *
  generalize d.1.length = nn at *
  have HB0 : Hid (Below w.heap.size w (((w.alloc (.cells #[.slice (some ⟨b0, o0, none⟩) nn c1, .slice a2 n2 c2] 32)).alloc (.cells #[.int .i64 (j : Int), .string s, .bool true, .int .i64 (z : Int)] 86)).alloc (.cells #[.int .i64 (tj : Int), .string t, .bool gf, .int .i64 (tz : Int)] 86))) := later3' _ _ _ _
  have hbx := boxes3 w [.slice (some ⟨b0, o0, none⟩) nn c1, .slice a2 n2 c2] [.int .i64 (j : Int), .string s, .bool true, .int .i64 (z : Int)] [.int .i64 (tj : Int), .string t, .bool gf, .int .i64 (tz : Int)] 32 86 86
  have HX0 : Hid (Bx (((w.alloc (.cells #[.slice (some ⟨b0, o0, none⟩) nn c1, .slice a2 n2 c2] 32)).alloc (.cells #[.int .i64 (j : Int), .string s, .bool true, .int .i64 (z : Int)] 86)).alloc (.cells #[.int .i64 (tj : Int), .string t, .bool gf, .int .i64 (tz : Int)] 86)) w.heap.size [.slice (some ⟨b0, o0, none⟩) nn c1, .slice a2 n2 c2]) := hbx.1
  have HP0 : Hid (Bx (((w.alloc (.cells #[.slice (some ⟨b0, o0, none⟩) nn c1, .slice a2 n2 c2] 32)).alloc (.cells #[.int .i64 (j : Int), .string s, .bool true, .int .i64 (z : Int)] 86)).alloc (.cells #[.int .i64 (tj : Int), .string t, .bool gf, .int .i64 (tz : Int)] 86)) (w.heap.size + 1) [.int .i64 (j : Int), .string s, .bool true, .int .i64 (z : Int)]) := hbx.2.1
  have HQ0 : Hid (Bx (((w.alloc (.cells #[.slice (some ⟨b0, o0, none⟩) nn c1, .slice a2 n2 c2] 32)).alloc (.cells #[.int .i64 (j : Int), .string s, .bool true, .int .i64 (z : Int)] 86)).alloc (.cells #[.int .i64 (tj : Int), .string t, .bool gf, .int .i64 (tz : Int)] 86)) (w.heap.size + 1 + 1) [.int .i64 (tj : Int), .string t, .bool gf, .int .i64 (tz : Int)]) := hbx.2.2
  clear hbx
  have hcz := cell_later HB0.out HKZ.out
  obtain ⟨la, hla⟩ : ∃ la : Bool, (gf && decide ((tz : Int) = (z : Int))) = la := ⟨_, rfl⟩
  have HLE : Hid ((gf && decide ((tz : Int) = (z : Int))) = la) := hla
  rw [hla] at HLA
  clear hla
  by_cases hkd : kd = 2
  · have hkb : (kd == 2) = true := by simpa using hkd
    have xHX0 := HX0.out 0 _ rfl
    have xHX1 := HX0.out 1 _ rfl
    have xHP0 := HP0.out 0 _ rfl
    have xHP1 := HP0.out 1 _ rfl
    have xHP2 := HP0.out 2 _ rfl
    have xHP3 := HP0.out 3 _ rfl
    have xHQ0 := HQ0.out 0 _ rfl
    have xHQ1 := HQ0.out 1 _ rfl
    have xHQ2 := HQ0.out 2 _ rfl
    have xHQ3 := HQ0.out 3 _ rfl
    go_enter Tryz.func60, Tryz.ntmps60
    go_wp2_with fail
    generalize (((w.alloc (.cells #[.slice (some ⟨b0, o0, none⟩) nn c1, .slice a2 n2 c2] 32)).alloc (.cells #[.int .i64 (j : Int), .string s, .bool true, .int .i64 (z : Int)] 86)).alloc (.cells #[.int .i64 (tj : Int), .string t, .bool gf, .int .i64 (tz : Int)] 86)) = W0 at *
    clear xHX0 xHX1 xHP0 xHP1 xHP2 xHP3 xHQ0 xHQ1 xHQ2 xHQ3
    refine (HWI.out _ HB0.out).mono ?_
    rintro e w1 ⟨rfl, hb⟩
    have HB1 : Hid (Below w.heap.size w w1) := HB0.out.trans (hb.mono HB0.out.size)
    have HX1 : Hid (Bx w1 w.heap.size [.slice (some ⟨b0, o0, none⟩) nn c1, .slice a2 n2 c2]) := HX0.out.later hb
    have HP1 : Hid (Bx w1 (w.heap.size + 1) [.int .i64 (j : Int), .string s, .bool true, .int .i64 (z : Int)]) := HP0.out.later hb
    have HQ1 : Hid (Bx w1 (w.heap.size + 1 + 1) [.int .i64 (tj : Int), .string t, .bool gf, .int .i64 (tz : Int)]) := HQ0.out.later hb
    clear hb
    cases wb
    · have hwb : ¬ (false = true) := by decide
      have xHP0 := HP1.out 0 _ rfl
      have xHP1 := HP1.out 1 _ rfl
      have xHP2 := HP1.out 2 _ rfl
      have xHP3 := HP1.out 3 _ rfl
      have xHQ0 := HQ1.out 0 _ rfl
      have xHQ1 := HQ1.out 1 _ rfl
      have xHQ2 := HQ1.out 2 _ rfl
      have xHQ3 := HQ1.out 3 _ rfl
      go_wp2_with fail
      refine (HLA.out _).mono ?_
      rintro e v ⟨rfl, hb⟩
      have HB2 : Hid (Below w.heap.size w v) := HB1.out.trans (hb.mono HB1.out.size)
      have HX2 : Hid (Bx v w.heap.size [.slice (some ⟨b0, o0, none⟩) nn c1, .slice a2 n2 c2]) := HX1.out.later hb
      have HP2 : Hid (Bx v (w.heap.size + 1) [.int .i64 (j : Int), .string s, .bool true, .int .i64 (z : Int)]) := HP1.out.later hb
      have HQ2 : Hid (Bx v (w.heap.size + 1 + 1) [.int .i64 (tj : Int), .string t, .bool gf, .int .i64 (tz : Int)]) := HQ1.out.later hb
      clear hb
      cases la
      · cases gf
        · have q2 := HQ2.out 2 _ rfl
          have q0 := HQ2.out 0 _ rfl
          have p0 := HP2.out 0 _ rfl
          have x0 := HX2.out 0 _ rfl
          have x1 := HX2.out 1 _ rfl
          have cc0 := cell_later HB2.out HM0.out
          have cc1 := cell_later HB2.out HM1.out
          have cc2 := cell_later HB2.out HM2.out
          have cc3 := cell_later HB2.out HM3.out
          have cc4 := cell_later HB2.out HM4.out
          by_cases htj : tj = j
          · have hb1 : (((tj : Nat) : Int) != ((j : Nat) : Int)) = false := by simp; omega
            have HE : Hid (RES = 0) := by
              unfold Hid
              rw [HRF.out, if_neg (fun hh => hwb hh.2), if_neg (fun hh => absurd hh.1 (by decide)), if_neg (fun hh => absurd hh.1 (by decide)), if_neg (fun hh => absurd hh.1 (by decide)), if_neg (fun hh => hh.2.1 htj)]
            go_wp2
            go_ret
            exact ⟨ret_int (by rw [HE.out]), HB2.out⟩
          · have hb1 : (((tj : Nat) : Int) != ((j : Nat) : Int)) = true := by simp; omega
            go_wp2_with fail
            refine (hasMax_any _ _ _ _ _ _ _ _ h6).mono ?_
            rintro e u ⟨rfl, hb⟩
            have HB3 : Hid (Below w.heap.size w u) := HB2.out.trans (hb.mono HB2.out.size)
            have HX3 : Hid (Bx u w.heap.size [.slice (some ⟨b0, o0, none⟩) nn c1, .slice a2 n2 c2]) := HX2.out.later hb
            have HP3 : Hid (Bx u (w.heap.size + 1) [.int .i64 (j : Int), .string s, .bool true, .int .i64 (z : Int)]) := HP2.out.later hb
            have HQ3 : Hid (Bx u (w.heap.size + 1 + 1) [.int .i64 (tj : Int), .string t, .bool false, .int .i64 (tz : Int)]) := HQ2.out.later hb
            clear hb
            by_cases hm : lt = 6
            · have hmb : decide (lt = 6) = true := by simpa using hm
              have HE : Hid (RES = 2) := by
                unfold Hid
                rw [HRF.out, if_neg (fun hh => hwb hh.2), if_neg (fun hh => absurd hh.1 (by decide)), if_neg (fun hh => absurd hh.1 (by decide)), if_neg (fun hh => absurd hh.1 (by decide)), if_pos ⟨by trivial, htj, hm⟩]
              go_wp2
              go_ret
              exact ⟨ret_int (by rw [HE.out]), HB3.out⟩
            · have hmb : decide (lt = 6) = false := by simpa using hm
              have HE : Hid (RES = 0) := by
                unfold Hid
                rw [HRF.out, if_neg (fun hh => hwb hh.2), if_neg (fun hh => absurd hh.1 (by decide)), if_neg (fun hh => absurd hh.1 (by decide)), if_neg (fun hh => absurd hh.1 (by decide)), if_neg (fun hh => hm hh.2.2)]
              go_wp2
              go_ret
              exact ⟨ret_int (by rw [HE.out]), HB3.out⟩
        · have hne : ¬ tz = z := fun e => by have hl := HLE.out; rw [e] at hl; simp at hl
          have q2 := HQ2.out 2 _ rfl
          have q3 := HQ2.out 3 _ rfl
          have x0 := HX2.out 0 _ rfl
          have x1 := HX2.out 1 _ rfl
          have cc0 := cell_later HB2.out HK0.out
          have cc1 := cell_later HB2.out HK1.out
          have cc2 := cell_later HB2.out HK2.out
          have cc3 := cell_later HB2.out HK3.out
          have cc4 := cell_later HB2.out HK4.out
          by_cases hkt : kt = 2
          · have hktb : (kt == 2) = true := by simpa using hkt
            go_wp2_with fail
            refine (hasDir_any _ _ _ _ _ _ _ _ _ _).mono ?_
            rintro e u ⟨rfl, hb⟩
            have q2' := (HQ2.out.later hb) 2 _ rfl
            have HB3 : Hid (Below w.heap.size w u) := HB2.out.trans (hb.mono HB2.out.size)
            have HX3 : Hid (Bx u w.heap.size [.slice (some ⟨b0, o0, none⟩) nn c1, .slice a2 n2 c2]) := HX2.out.later hb
            have HP3 : Hid (Bx u (w.heap.size + 1) [.int .i64 (j : Int), .string s, .bool true, .int .i64 (z : Int)]) := HP2.out.later hb
            have HQ3 : Hid (Bx u (w.heap.size + 1 + 1) [.int .i64 (tj : Int), .string t, .bool true, .int .i64 (tz : Int)]) := HQ2.out.later hb
            clear hb
            by_cases hm : 0 < le
            · have hmb : decide (0 < le) = true := by simpa using hm
              have HE : Hid (RES = 8) := by
                unfold Hid
                rw [HRF.out, if_neg (fun hh => hwb hh.2), if_neg (fun hh => hne hh.2), if_neg (fun hh => hh.2 ⟨fun _ => hkt, fun _ => hkd⟩), if_pos ⟨by trivial, hm⟩]
              go_wp2
              go_ret
              exact ⟨ret_int (by rw [HE.out]), HB3.out⟩
            · have hmb : decide (0 < le) = false := by simpa using hm
              have HE : Hid (RES = 0) := by
                unfold Hid
                rw [HRF.out, if_neg (fun hh => hwb hh.2), if_neg (fun hh => hne hh.2), if_neg (fun hh => hh.2 ⟨fun _ => hkt, fun _ => hkd⟩), if_neg (fun hh => hm hh.2), if_neg (fun hh => absurd hh.1 (by decide))]
              go_wp2
              go_ret
              exact ⟨ret_int (by rw [HE.out]), HB3.out⟩
          · have hktb : (kt == 2) = false := by simpa using hkt
            have HE : Hid (RES = 9) := by
              unfold Hid
              rw [HRF.out, if_neg (fun hh => hwb hh.2), if_neg (fun hh => hne hh.2), if_pos ⟨by trivial, fun hh => hkt (hh.1 hkd)⟩]
            go_wp2
            go_ret
            exact ⟨ret_int (by rw [HE.out]), HB2.out⟩
      · have hge : gf = true ∧ tz = z := by
          have hl := HLE.out
          simp only [Bool.and_eq_true, decide_eq_true_eq] at hl
          exact ⟨hl.1, by omega⟩
        have HE : Hid (RES = 0) := by
          unfold Hid
          rw [HRF.out, if_neg (fun hh => hwb hh.2), if_pos hge]
        go_wp2
        go_ret
        exact ⟨ret_int (by rw [HE.out]), HB2.out⟩
    · skip
      have HE : Hid (RES = 1) := by
        unfold Hid
        rw [HRF.out, if_pos ⟨hkd, by trivial⟩]
      go_wp2
      go_ret
      exact ⟨ret_int (by rw [HE.out]), HB1.out⟩
  · have hkb : (kd == 2) = false := by simpa using hkd
    have xHX0 := HX0.out 0 _ rfl
    have xHX1 := HX0.out 1 _ rfl
    have xHP0 := HP0.out 0 _ rfl
    have xHP1 := HP0.out 1 _ rfl
    have xHP2 := HP0.out 2 _ rfl
    have xHP3 := HP0.out 3 _ rfl
    have xHQ0 := HQ0.out 0 _ rfl
    have xHQ1 := HQ0.out 1 _ rfl
    have xHQ2 := HQ0.out 2 _ rfl
    have xHQ3 := HQ0.out 3 _ rfl
    go_enter Tryz.func60, Tryz.ntmps60
    go_wp2_with fail
    generalize (((w.alloc (.cells #[.slice (some ⟨b0, o0, none⟩) nn c1, .slice a2 n2 c2] 32)).alloc (.cells #[.int .i64 (j : Int), .string s, .bool true, .int .i64 (z : Int)] 86)).alloc (.cells #[.int .i64 (tj : Int), .string t, .bool gf, .int .i64 (tz : Int)] 86)) = W0 at *
    refine (HLA.out _).mono ?_
    rintro e v ⟨rfl, hb⟩
    have HB1 : Hid (Below w.heap.size w v) := HB0.out.trans (hb.mono HB0.out.size)
    have HX1 : Hid (Bx v w.heap.size [.slice (some ⟨b0, o0, none⟩) nn c1, .slice a2 n2 c2]) := HX0.out.later hb
    have HP1 : Hid (Bx v (w.heap.size + 1) [.int .i64 (j : Int), .string s, .bool true, .int .i64 (z : Int)]) := HP0.out.later hb
    have HQ1 : Hid (Bx v (w.heap.size + 1 + 1) [.int .i64 (tj : Int), .string t, .bool gf, .int .i64 (tz : Int)]) := HQ0.out.later hb
    clear hb
    cases la
    · cases gf
      · have q2 := HQ1.out 2 _ rfl
        have q0 := HQ1.out 0 _ rfl
        have p0 := HP1.out 0 _ rfl
        have x0 := HX1.out 0 _ rfl
        have x1 := HX1.out 1 _ rfl
        have cc0 := cell_later HB1.out HM0.out
        have cc1 := cell_later HB1.out HM1.out
        have cc2 := cell_later HB1.out HM2.out
        have cc3 := cell_later HB1.out HM3.out
        have cc4 := cell_later HB1.out HM4.out
        by_cases htj : tj = j
        · have hb1 : (((tj : Nat) : Int) != ((j : Nat) : Int)) = false := by simp; omega
          have HE : Hid (RES = 0) := by
            unfold Hid
            rw [HRF.out, if_neg (fun hh => hkd hh.1), if_neg (fun hh => absurd hh.1 (by decide)), if_neg (fun hh => absurd hh.1 (by decide)), if_neg (fun hh => absurd hh.1 (by decide)), if_neg (fun hh => hh.2.1 htj)]
          go_wp2
          go_ret
          exact ⟨ret_int (by rw [HE.out]), HB1.out⟩
        · have hb1 : (((tj : Nat) : Int) != ((j : Nat) : Int)) = true := by simp; omega
          go_wp2_with fail
          refine (hasMax_any _ _ _ _ _ _ _ _ h6).mono ?_
          rintro e u ⟨rfl, hb⟩
          have HB2 : Hid (Below w.heap.size w u) := HB1.out.trans (hb.mono HB1.out.size)
          have HX2 : Hid (Bx u w.heap.size [.slice (some ⟨b0, o0, none⟩) nn c1, .slice a2 n2 c2]) := HX1.out.later hb
          have HP2 : Hid (Bx u (w.heap.size + 1) [.int .i64 (j : Int), .string s, .bool true, .int .i64 (z : Int)]) := HP1.out.later hb
          have HQ2 : Hid (Bx u (w.heap.size + 1 + 1) [.int .i64 (tj : Int), .string t, .bool false, .int .i64 (tz : Int)]) := HQ1.out.later hb
          clear hb
          by_cases hm : lt = 6
          · have hmb : decide (lt = 6) = true := by simpa using hm
            have HE : Hid (RES = 2) := by
              unfold Hid
              rw [HRF.out, if_neg (fun hh => hkd hh.1), if_neg (fun hh => absurd hh.1 (by decide)), if_neg (fun hh => absurd hh.1 (by decide)), if_neg (fun hh => absurd hh.1 (by decide)), if_pos ⟨by trivial, htj, hm⟩]
            go_wp2
            go_ret
            exact ⟨ret_int (by rw [HE.out]), HB2.out⟩
          · have hmb : decide (lt = 6) = false := by simpa using hm
            have HE : Hid (RES = 0) := by
              unfold Hid
              rw [HRF.out, if_neg (fun hh => hkd hh.1), if_neg (fun hh => absurd hh.1 (by decide)), if_neg (fun hh => absurd hh.1 (by decide)), if_neg (fun hh => absurd hh.1 (by decide)), if_neg (fun hh => hm hh.2.2)]
            go_wp2
            go_ret
            exact ⟨ret_int (by rw [HE.out]), HB2.out⟩
      · have hne : ¬ tz = z := fun e => by have hl := HLE.out; rw [e] at hl; simp at hl
        have q2 := HQ1.out 2 _ rfl
        have q3 := HQ1.out 3 _ rfl
        have x0 := HX1.out 0 _ rfl
        have x1 := HX1.out 1 _ rfl
        have cc0 := cell_later HB1.out HK0.out
        have cc1 := cell_later HB1.out HK1.out
        have cc2 := cell_later HB1.out HK2.out
        have cc3 := cell_later HB1.out HK3.out
        have cc4 := cell_later HB1.out HK4.out
        by_cases hkt : kt = 2
        · have hktb : (kt == 2) = true := by simpa using hkt
          have HE : Hid (RES = 9) := by
            unfold Hid
            rw [HRF.out, if_neg (fun hh => hkd hh.1), if_neg (fun hh => hne hh.2), if_pos ⟨by trivial, fun hh => hkd (hh.2 hkt)⟩]
          go_wp2
          go_ret
          exact ⟨ret_int (by rw [HE.out]), HB1.out⟩
        · have hktb : (kt == 2) = false := by simpa using hkt
          go_wp2_with fail
          refine (hasDir_any _ _ _ _ _ _ _ _ _ _).mono ?_
          rintro e u ⟨rfl, hb⟩
          have q2' := (HQ1.out.later hb) 2 _ rfl
          have HB2 : Hid (Below w.heap.size w u) := HB1.out.trans (hb.mono HB1.out.size)
          have HX2 : Hid (Bx u w.heap.size [.slice (some ⟨b0, o0, none⟩) nn c1, .slice a2 n2 c2]) := HX1.out.later hb
          have HP2 : Hid (Bx u (w.heap.size + 1) [.int .i64 (j : Int), .string s, .bool true, .int .i64 (z : Int)]) := HP1.out.later hb
          have HQ2 : Hid (Bx u (w.heap.size + 1 + 1) [.int .i64 (tj : Int), .string t, .bool true, .int .i64 (tz : Int)]) := HQ1.out.later hb
          clear hb
          by_cases hm : 0 < le
          · have hmb : decide (0 < le) = true := by simpa using hm
            have HE : Hid (RES = 8) := by
              unfold Hid
              rw [HRF.out, if_neg (fun hh => hkd hh.1), if_neg (fun hh => hne hh.2), if_neg (fun hh => hh.2 ⟨fun e => absurd e hkd, fun e => absurd e hkt⟩), if_pos ⟨by trivial, hm⟩]
            go_wp2
            go_ret
            exact ⟨ret_int (by rw [HE.out]), HB2.out⟩
          · have hmb : decide (0 < le) = false := by simpa using hm
            have HE : Hid (RES = 0) := by
              unfold Hid
              rw [HRF.out, if_neg (fun hh => hkd hh.1), if_neg (fun hh => hne hh.2), if_neg (fun hh => hh.2 ⟨fun e => absurd e hkd, fun e => absurd e hkt⟩), if_neg (fun hh => hm hh.2), if_neg (fun hh => absurd hh.1 (by decide))]
            go_wp2
            go_ret
            exact ⟨ret_int (by rw [HE.out]), HB2.out⟩
    · have hge : gf = true ∧ tz = z := by
        have hl := HLE.out
        simp only [Bool.and_eq_true, decide_eq_true_eq] at hl
        exact ⟨hl.1, by omega⟩
      have HE : Hid (RES = 0) := by
        unfold Hid
        rw [HRF.out, if_neg (fun hh => hkd hh.1), if_pos hge]
      go_wp2
      go_ret
      exact ⟨ret_int (by rw [HE.out]), HB1.out⟩
end Go.Proofs.YtpfafcodihhdfaaGreatDoor

namespace Go.Proofs.YtpfafcodihhdfaaGreatDoor
open Go.RowKit
set_option maxRecDepth 100000

theorem field_fsr (c : Int) (a : Option Addr) (n k : Nat) (b : Option Addr) (m l : Nat) (w : World) : (Instr.field 94 (.agg #[.int .i64 c, .slice a n k, .slice b m l]) 1).run Tryz.prog w = .ok (.agg #[.slice a n k, .slice b m l]) w := by kernel_rfl
theorem AnsUn.putM {w W : World} {n bI cI bD cD m : Nat} {d : FD} (hB : Below w.heap.size w W) (h : FsS W bI n cI bD 20 cD d (fun c => w.heap.size + m ≤ c)) {rb : Nat} (hrb : w.heap.size ≤ rb ∧ rb < w.heap.size + m) (x y : Value) : AnsUn w n d (.returned (.agg #[.slice (some ⟨bI, 0, none⟩) n cI, .slice (some ⟨bD, 0, none⟩) 20 cD])) ((W.setCell ⟨rb, 0, none⟩ x).setCell ⟨rb, 1, none⟩ y) :=
  have h1 : Chg (fun c => c = rb) W ((W.setCell ⟨rb, 0, none⟩ x).setCell ⟨rb, 1, none⟩ y) := Chg.set (F := fun c => c = rb) (Chg.set (F := fun c => c = rb) (Chg.refl _ W) rfl 0 x) rfl 1 y
  ⟨bI, cI, bD, cD, rfl, (hB.setCell hrb.1 _).setCell hrb.1 _, (h.chg h1 fun b hb e => by omega).mono fun c hc => by omega⟩
theorem AnsUn.later {w w2 w3 : World} {n : Nat} {d : FD} {e : Ending} (h : AnsUn w n d e w2) (hb : Below w2.heap.size w2 w3) : AnsUn w n d e w3 := by
  obtain ⟨bI, cI, bD, cD, h1, h2, h3⟩ := h
  exact ⟨bI, cI, bD, cD, h1, h2.trans (hb.mono h2.size), h3.later hb⟩
theorem unl_dat (d : FD) (z : Nat) : (unlD d z).2.length = d.2.length := by
  unfold unlD
  split
  · rfl
  · split
    · exact clrK_length _ _ _
    · rfl
theorem del_dat (d : FD) (j k : Nat) : (delD d j k).2.length = d.2.length := by
  unfold delD
  split
  · rw [unl_dat]; rfl
  · rfl
set_option maxHeartbeats 1600000 in
theorem releaseI_any (w : World) (bI n cI bD cD : Nat) (d : FD) (F : Nat → Prop) (z : Nat) (hfs : FsS w bI n cI bD 20 cD d F) (hz : z < n) :
    Calls Tryz.prog 164 #[.pointer (some ⟨bI, z * 5, none⟩)] w fun e w' => e = .returned (.tuple #[]) ∧ Chg (fun c => c = bI) w w' ∧ FsS w' bI n cI bD 20 cD (d.1.set z id0, d.2) F := by
  have HN : Hid (FsS (set5F w bI (z * 5) (.int .i64 0) (.int .i64 0) (.int .i64 0) (.slice none 0 0) (.slice none 0 0)) bI n cI bD 20 cD (d.1.set z id0, d.2) F) := (s5_fs (G := fun _ => False) hfs z hz id0 (.slice none 0 0) (.slice none 0 0) (setZ_ino _ _) (fun c hc => hc.elim)).mono fun c hc => hc.elim id False.elim
  have HC : Hid (Chg (fun c => c = bI) w (set5F w bI (z * 5) (.int .i64 0) (.int .i64 0) (.int .i64 0) (.slice none 0 0) (.slice none 0 0))) := s5_chg _ _ _ _ _ _ _ _
  obtain ⟨aB, cB, aE, cE, c0, c1, c2, c3, c4, -, hfr, -⟩ := hfs.ino z hz
  have f0 := hfr (z * 5)
  have f1 := hfr (z * 5 + 1)
  have f2 := hfr (z * 5 + 2)
  have f3 := hfr (z * 5 + 3)
  have f4 := hfr (z * 5 + 4)
  clear hfr hfs
  go_enter Tryz.func164, Tryz.ntmps164
  go_wp2
  go_end0
  exact ⟨rfl, HC.out, HN.out⟩

set_option maxHeartbeats 6400000 in
theorem withoutName_any (w : World) (a1 : Option Addr) (n1 c1 : Nat) (a2 : Option Addr) (n2 c2 : Nat) (d : FD) (j : Nat) (s : ByteArray) (z : Nat) (h : FsR w (.slice a1 n1 c1) (.slice a2 n2 c2) d) (hs : sizeFs d ≤ 1048576) (hds : DirS d j) (hq : dirQ d (j : Int) = 0) (hnm : nameF s = 0) (hi : idxE (entA d j) s < (entA d j).length) (_hz : ((entA d j)[idxE (entA d j) s]?.getD en0).2 = (z : Int)) (hzn : z < d.1.length) :
    Calls Tryz.prog 108 #[.agg #[.slice a1 n1 c1, .slice a2 n2 c2], .agg #[.int .i64 (j : Int), .string s, .bool true, .int .i64 (z : Int)]] w (AnsUn w d.1.length (goneD d j (idxE (entA d j) s) z)) := by
  have hdr : delR d (j : Int) s = (0, delD d j (idxE (entA d j) s)) := by
    unfold delR lookR dirN
    rw [if_pos hq, if_pos hnm, Int.toNat_natCast, if_pos hi, if_pos rfl]
  have HDR : Hid (∀ W, Below w.heap.size w W → Calls Tryz.prog 163 #[.agg #[.slice a1 n1 c1, .slice a2 n2 c2], .int .i64 (j : Int), .string s] W (AnsFR W (0, delD d j (idxE (entA d j) s)))) := fun W hW => by
    have := implDelU W _ _ _ _ _ _ d (j : Int) s (h.later hW) hs (by have := nameF_size hnm; omega)
    rw [hdr] at this
    exact this
  have HL1 : Hid ((delD d j (idxE (entA d j) s)).1.length = d.1.length ∧ (delD d j (idxE (entA d j) s)).2.length = 20 ∧ 0 < d.1.length) := ⟨del_len _ _ _, by rw [del_dat]; exact hds.dat, by have := hds.lt; omega⟩
  have HGD : Hid (goneD d j (idxE (entA d j) s) z = if kindAt (delD d j (idxE (entA d j) s)).1 z = 2 then ((delD d j (idxE (entA d j) s)).1.set z id0, (delD d j (idxE (entA d j) s)).2) else delD d j (idxE (entA d j) s)) := rfl
  have hten := hds.ten
  obtain ⟨RES, hRES⟩ : ∃ r, goneD d j (idxE (entA d j) s) z = r := ⟨_, rfl⟩
  rw [hRES] at HGD ⊢
  clear hRES h hs hds hq hnm hi hdr
  generalize delD d j (idxE (entA d j) s) = D at *
  generalize d.1.length = n at *
  have hzI : (z : Int) < (n : Int) := by omega
  have HB0 : Hid (Below w.heap.size w (((w.alloc (.cells #[.slice a1 n1 c1, .slice a2 n2 c2] 32)).alloc (.cells #[.int .i64 (j : Int), .string s, .bool true, .int .i64 (z : Int)] 86)).alloc (.cells #[.slice none 0 0, .slice none 0 0] 32))) := later3' _ _ _ _
  have hbx := boxes3 w [.slice a1 n1 c1, .slice a2 n2 c2] [.int .i64 (j : Int), .string s, .bool true, .int .i64 (z : Int)] [.slice none 0 0, .slice none 0 0] 32 86 32
  have HX0 : Hid (Bx (((w.alloc (.cells #[.slice a1 n1 c1, .slice a2 n2 c2] 32)).alloc (.cells #[.int .i64 (j : Int), .string s, .bool true, .int .i64 (z : Int)] 86)).alloc (.cells #[.slice none 0 0, .slice none 0 0] 32)) w.heap.size [.slice a1 n1 c1, .slice a2 n2 c2]) := hbx.1
  have HQ0 : Hid (Bx (((w.alloc (.cells #[.slice a1 n1 c1, .slice a2 n2 c2] 32)).alloc (.cells #[.int .i64 (j : Int), .string s, .bool true, .int .i64 (z : Int)] 86)).alloc (.cells #[.slice none 0 0, .slice none 0 0] 32)) (w.heap.size + 1) [.int .i64 (j : Int), .string s, .bool true, .int .i64 (z : Int)]) := hbx.2.1
  have HR0 : Hid (OwnRow (((w.alloc (.cells #[.slice a1 n1 c1, .slice a2 n2 c2] 32)).alloc (.cells #[.int .i64 (j : Int), .string s, .bool true, .int .i64 (z : Int)] 86)).alloc (.cells #[.slice none 0 0, .slice none 0 0] 32)) (w.heap.size + 1 + 1) 2 (cel [.slice none 0 0, .slice none 0 0])) := by
      have p2 := newCel ((w.alloc (.cells #[.slice a1 n1 c1, .slice a2 n2 c2] 32)).alloc (.cells #[.int .i64 (j : Int), .string s, .bool true, .int .i64 (z : Int)] 86)) [.slice none 0 0, .slice none 0 0] 32
      rw [World.size_alloc, World.size_alloc] at p2
      exact p2
  clear hbx
  have xHX0 := HX0.out 0 _ rfl
  have xHX1 := HX0.out 1 _ rfl
  have xHQ0 := HQ0.out 0 _ rfl
  have xHQ1 := HQ0.out 1 _ rfl
  have xHQ2 := HQ0.out 2 _ rfl
  have xHQ3 := HQ0.out 3 _ rfl
  have hff := field_fsr
  go_enter Tryz.func108, Tryz.ntmps108
  go_wp2_with fail
  generalize (((w.alloc (.cells #[.slice a1 n1 c1, .slice a2 n2 c2] 32)).alloc (.cells #[.int .i64 (j : Int), .string s, .bool true, .int .i64 (z : Int)] 86)).alloc (.cells #[.slice none 0 0, .slice none 0 0] 32)) = W0 at *
  clear xHX0 xHX1 xHQ0 xHQ1 xHQ2 xHQ3
  refine (HDR.out _ HB0.out).mono ?_
  rintro e w1 ⟨q1, m1, cI, q2, m2, cD, rfl, hb, hf5⟩
  obtain ⟨bI, e1, bD, e2, eI, eD, hfs⟩ := FsS.of hf5 (by show 0 < D.1.length; have := HL1.out.1; have := HL1.out.2.2; omega) (by show 0 < D.2.length; have := HL1.out.2.1; omega)
  simp only [Value.slice.injEq] at eI eD
  obtain ⟨rfl, rfl, rfl⟩ := eI
  obtain ⟨rfl, rfl, rfl⟩ := eD
  dsimp only at hfs ⊢
  rw [HL1.out.1, HL1.out.2.1] at hfs
  rw [HL1.out.1, HL1.out.2.1]
  have hlw : w.heap.size + 1 + 1 < W0.heap.size := HR0.out.lt
  have HSZ : Hid (W0.heap.size ≤ w1.heap.size) := hb.size
  have HBW : Hid (Below w.heap.size w w1) := HB0.out.trans (hb.mono HB0.out.size)
  have HFW : Hid (FsS w1 bI n cI bD 20 cD D (fun c => w.heap.size + 3 ≤ c)) := hfs.mono fun c hh => by have := hh.1; omega
  have HRW : Hid (OwnRow w1 (w.heap.size + 1 + 1) 2 (cel [.slice none 0 0, .slice none 0 0])) := HR0.out.later hb
  have hb' : Below W0.heap.size W0 (w1.alloc (.cells #[.slice (some ⟨bI, 0, none⟩) n cI, .slice (some ⟨bD, 0, none⟩) 20 cD] 32)) := hb.trans ((later1 _ _).mono hb.size)
  have HB1 : Hid (Below w.heap.size w (w1.alloc (.cells #[.slice (some ⟨bI, 0, none⟩) n cI, .slice (some ⟨bD, 0, none⟩) 20 cD] 32))) := HB0.out.trans (hb'.mono HB0.out.size)
  have HX1 : Hid (Bx (w1.alloc (.cells #[.slice (some ⟨bI, 0, none⟩) n cI, .slice (some ⟨bD, 0, none⟩) 20 cD] 32)) w.heap.size [.slice a1 n1 c1, .slice a2 n2 c2]) := HX0.out.later hb'
  have HQ1 : Hid (Bx (w1.alloc (.cells #[.slice (some ⟨bI, 0, none⟩) n cI, .slice (some ⟨bD, 0, none⟩) 20 cD] 32)) (w.heap.size + 1) [.int .i64 (j : Int), .string s, .bool true, .int .i64 (z : Int)]) := HQ0.out.later hb'
  have HR1 : Hid (OwnRow (w1.alloc (.cells #[.slice (some ⟨bI, 0, none⟩) n cI, .slice (some ⟨bD, 0, none⟩) 20 cD] 32)) (w.heap.size + 1 + 1) 2 (cel [.slice none 0 0, .slice none 0 0])) := HR0.out.later hb'
  clear hb hb'
  have HO1 : Hid (Bx (w1.alloc (.cells #[.slice (some ⟨bI, 0, none⟩) n cI, .slice (some ⟨bD, 0, none⟩) 20 cD] 32)) w1.heap.size [.slice (some ⟨bI, 0, none⟩) n cI, .slice (some ⟨bD, 0, none⟩) 20 cD]) := Bx.new w1 [.slice (some ⟨bI, 0, none⟩) n cI, .slice (some ⟨bD, 0, none⟩) 20 cD] _
  have HF1 : Hid (FsS (w1.alloc (.cells #[.slice (some ⟨bI, 0, none⟩) n cI, .slice (some ⟨bD, 0, none⟩) 20 cD] 32)) bI n cI bD 20 cD D (fun c => W0.heap.size ≤ c ∧ c < w1.heap.size)) := hfs.later (later1 _ _)
  clear hf5 hfs
  obtain ⟨_, _, _, _, z0, -, -, -, -, -, -, -⟩ := HF1.out.ino z hzn
  have z1 := z0
  have hne := HF1.out.ne
  have xHO0 := HO1.out 0 _ rfl
  have xHO1 := HO1.out 1 _ rfl
  have xHQ3 := HQ1.out 3 _ rfl
  by_cases hk : (D.1[z]?.getD id0).1 = 2
  · have hkb : ((D.1[z]?.getD id0).1 == 2) = true := by simpa using hk
    have HE : Hid (RES = (D.1.set z id0, D.2)) := by unfold Hid; rw [HGD.out]; exact if_pos hk
    clear hk
    generalize (D.1[z]?.getD id0).1 = kd at *
    go_wp2_with fail
    generalize (w1.alloc (.cells #[.slice (some ⟨bI, 0, none⟩) n cI, .slice (some ⟨bD, 0, none⟩) 20 cD] 32)) = W1 at *
    clear xHO0 xHO1 xHQ3 z0 z1
    refine (releaseI_any W1 bI n cI bD cD D _ z HF1.out hzn).mono ?_
    rintro e w2 ⟨rfl, hc2, hf2⟩
    have hoI : w1.heap.size ≠ bI := fun e => by have := hne.2.1.1.2; omega
    have p0 := hc2.cellOf (HO1.out 0 _ rfl) hoI
    have p1 := hc2.cellOf (HO1.out 1 _ rfl) hoI
    have HB2 : Hid (Below w.heap.size w w2) := HB1.out.trans (hc2.below HB1.out.size fun b hb => by have := hne.2.1.1.1; omega)
    have HF2 : Hid (FsS w2 bI n cI bD 20 cD (D.1.set z id0, D.2) (fun c => w.heap.size + 3 ≤ c)) := hf2.mono fun c hh => by have := hh.1; omega
    have hrr := HR1.out.block (hc2.block _ HR1.out.lt (fun e => by have := hne.2.1.1.1; omega))
    have t0 : w2.cell? ⟨w.heap.size + 1 + 1, 0, none⟩ = some (.slice none 0 0) := hrr.cell (i := 0) (by omega)
    have t1 : w2.cell? ⟨w.heap.size + 1 + 1, 1, none⟩ = some (.slice none 0 0) := hrr.cell (i := 1) (by omega)
    have s0 := hrr.frozen 0
    have s1 := hrr.frozen 1
    have hl2 := hrr.lt
    clear hrr hc2 hf2
    go_wp2
    exact bodyPost_ret (v := .agg #[.slice (some ⟨bI, 0, none⟩) n cI, .slice (some ⟨bD, 0, none⟩) 20 cD]) (by simp [results, Tryz.results108, go_sem, t0, t1]) rfl (by rw [HE.out]; exact AnsUn.putM HB2.out HF2.out ⟨by omega, by omega⟩ _ _)
  · have hkb : ((D.1[z]?.getD id0).1 == 2) = false := by simpa using hk
    have HE : Hid (RES = D) := by unfold Hid; rw [HGD.out]; exact if_neg hk
    clear hk
    generalize (D.1[z]?.getD id0).1 = kd at *
    have hrr := HRW.out
    have t0 : w1.cell? ⟨w.heap.size + 1 + 1, 0, none⟩ = some (.slice none 0 0) := hrr.cell (i := 0) (by omega)
    have t1 : w1.cell? ⟨w.heap.size + 1 + 1, 1, none⟩ = some (.slice none 0 0) := hrr.cell (i := 1) (by omega)
    have s0 := hrr.frozen 0
    have s1 := hrr.frozen 1
    have hl2 := hrr.lt
    clear hrr
    go_wp2
    exact bodyPost_ret (v := .agg #[.slice (some ⟨bI, 0, none⟩) n cI, .slice (some ⟨bD, 0, none⟩) 20 cD]) (by simp [results, Tryz.results108, go_sem, t0, t1, hl2]) rfl (by rw [HE.out]; exact (AnsUn.putM HBW.out HFW.out ⟨by omega, by omega⟩ _ _).later (later1 _ _))
end Go.Proofs.YtpfafcodihhdfaaGreatDoor
