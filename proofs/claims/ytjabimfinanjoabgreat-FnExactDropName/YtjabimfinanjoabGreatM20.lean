/- The specification's copying of a file system. The specification's DropFile. The specification's SetBytes: what it asks; two cells of an inode stored. The specification's SetBytes: a file with other bytes. -/
import Derived.Test.YtjabimfinanjoabGreatM09
import Derived.Test.YtjabimfinanjoabGreatM19
import Derived.Test.YtjabimfinanjoabGreatM12
import Derived.Deep.RegionHeld3
import Derived.Deep.RegionLaw
import Derived.Test.YtjabimfinanjoabGreatM18
import Derived.Test.YtjabimfinanjoabGreatM07
import Derived.Test.YtjabimfinanjoabGreatM06
import Derived.Test.YtjabimfinanjoabGreatM08
import Derived.Deep.Cut
import Derived.Deep.CutRange
namespace Go.Proofs.YtjabimfinanjoabGreat
open Go.RowKit
set_option maxRecDepth 100000

theorem Tryz.infoU8L' : ∃ i, Tryz.prog.info? 26 = some i ∧ i.zero = some (.slice none 0 0) ∧ i.size = 1 ∧ i.bytes = 24 := by
  have h : (Tryz.prog.info? 26).map (fun i => (i.zero, i.size, i.bytes)) = some (some (.slice none 0 0), 1, 24) := by kernel_rfl
  rw [Option.map_eq_some_iff] at h
  obtain ⟨i, hi, e⟩ := h
  simp only [Prod.mk.injEq] at e
  exact ⟨i, hi, e.1, e.2.1, e.2.2⟩
/-- A list's bytes copied, and the copy appended. -/
theorem rndYL (wr : World) (base n : Nat) (v : Value) (zss : List (List UInt8)) (k : Nat → Nat) (u : Nat → Value) (h : YRow C1 wr base base 26 1 v n (fun i => zss[i]?.getD []) k u) (hb : base ≤ wr.heap.size) (hn : n ≤ 1048576) (ua : Option Addr) (uc : Nat)
    (hy : Byt wr (.slice ua (zss[n]?.getD []).length uc) (zss[n]?.getD [])) (hl : (zss[n]?.getD []).length ≤ 1048576) :
    ∃ na nc X1 g cap X k' u', (Builtin.append_ #[26, 26] 26 #[.slice (some ⟨wr.heap.size, 0, none⟩) 0 0, .slice ua (zss[n]?.getD []).length uc]).run Tryz.prog (wr.drew.alloc (.cells #[] 5)) = .ok (.slice na (zss[n]?.getD []).length nc) X1 ∧
      (Builtin.append_ #[23, 23] 23 #[v, .slice (some ⟨X1.heap.size, 0, none⟩) 1 1]).run Tryz.prog (X1.alloc (.cells #[.slice na (zss[n]?.getD []).length nc] 26)) = .ok (.slice (some ⟨g, 0, none⟩) (n + 1) cap) X ∧
      Below wr.heap.size wr X1 ∧ Below base wr X ∧ YRow C1 X base base 26 1 (.slice (some ⟨g, 0, none⟩) (n + 1) cap) (n + 1) (fun i => zss[i]?.getD []) k' u' := by
  have hb0 : Below wr.heap.size wr (wr.drew.alloc (.cells #[] 5)) := (Below.refl _ _).drew.trans (by simpa using later1 wr.drew (.cells #[] 5))
  obtain ⟨v', X1, hr1, hw1, hB1⟩ := append_y (wr.drew.alloc (.cells #[] 5)) wr.heap.size _ [] (zss[n]?.getD []) ua _ uc (WdY.lit0 wr.drew wr.heap.size (by simp)) (by simp) (by simp) hl (hy.later hb0)
  rw [List.nil_append] at hw1
  obtain ⟨na, nc, rfl⟩ := hw1.shape
  have hbX1 : Below wr.heap.size wr X1 := hb0.trans hB1
  have hlt : wr.heap.size < X1.heap.size := by have := hB1.size; simp at this; omega
  obtain ⟨kb, hk1, hk2, hkf⟩ := (hw1.own (w0 := wr) (Nat.le_refl _)).one hlt
  obtain ⟨i, hi, h1, h2, h3⟩ := Tryz.infoU8L'
  obtain ⟨g, cap, X, hr2, _, hBX, _, hLX⟩ := YRow.append wr X1 23 23 26 i _ 1 24 Tryz.underlying23 hi h1 h2 h3 rfl (by decide) (by decide) base base n _ _ k u h hb (by omega) hbX1 na nc rfl (fun x hx => by simp [C1] at hx; subst hx; rfl) kb (Nat.le_trans hb hk1) (Nat.le_of_lt hk2) (fun e => by have := (h.own.lt kb e).2; omega) (fun i hi e => by have := (h.lo i hi).2; omega) hkf
  refine ⟨na, nc, X1, g, cap, X, _, _, ?_, hr2, hbX1, hBX, hLX⟩
  simpa using hr1

/-- What stands at the head of each round of the inodes. -/
def CpI (w : World) (d : FD) (vI vD : Value) (wr : World) (j : Nat) : Prop :=
  Below w.heap.size w wr ∧ w.heap.size + 3 ≤ wr.heap.size ∧ OwnRow wr w.heap.size 2 (fun i => if i = 0 then vI else vD) ∧ OwnRow wr (w.heap.size + 1) 2 (fun _ => .slice none 0 0) ∧
    ∃ aX cX u G, OwnRow wr (w.heap.size + 2) 2 (fun i => if i = 0 then .slice aX j cX else .slice none 0 0) ∧ IRow wr (w.heap.size + 3) (.slice aX j cX) j (fun i => d.1[i]?.getD id0) u G
theorem CpI.next {w wr X : World} {d : FD} {vI vD : Value} {j g cap : Nat} {u' : Nat → Value × Value} {G' : Nat → Nat → Prop} (h : CpI w d vI vD wr j) (hX : Below (w.heap.size + 3) wr X) (hL : IRow X (w.heap.size + 3) (.slice (some ⟨g, 0, none⟩) (j + 1) cap) (j + 1) (fun i => d.1[i]?.getD id0) u' G') :
    CpI w d vI vD (X.setCell ⟨w.heap.size + 2, 0, none⟩ (.slice (some ⟨g, 0, none⟩) (j + 1) cap)) (j + 1) := by
  obtain ⟨h1, h2, h3, h4, aX, cX, u, G, h5, _⟩ := h
  refine ⟨(h1.trans (hX.mono (by omega))).setCell (by simp) _, ?_, (h3.block (hX.block _ (by omega))).store (by simp) _, (h4.block (hX.block _ (by omega))).store (by simp) _, some ⟨g, 0, none⟩, cap, u', G', ((h5.block (hX.block _ (by omega))).set 0 _).congr fun i hi => ?_, hL.store (by simp) _⟩
  · have := hX.size; simp [World.setCell]; omega
  · match i, hi with
    | 0, _ => rfl
    | 1, _ => rfl
theorem CpI.row {w wr : World} {d : FD} {vI vD : Value} {j : Nat} (h : CpI w d vI vD wr j) : ∃ aX cX, (wr.cell? ⟨w.heap.size, 0, none⟩ = some vI ∧ wr.cell? ⟨w.heap.size, 1, none⟩ = some vD ∧ wr.cell? ⟨w.heap.size + 2, 0, none⟩ = some (.slice aX j cX) ∧ wr.frozen? ⟨w.heap.size + 2, 0, none⟩ = false) ∧ ∃ u G, IRow wr (w.heap.size + 3) (.slice aX j cX) j (fun i => d.1[i]?.getD id0) u G := by
  obtain ⟨_, _, h3, _, aX, cX, u, G, h5, h6⟩ := h
  exact ⟨aX, cX, ⟨h3.cell (i := 0) (by omega), h3.cell (i := 1) (by omega), h5.cell (i := 0) (by omega), h5.frozen 0⟩, u, G, h6⟩
/-- What stands at the head of each round of the data. -/
def CpD (w : World) (d : FD) (vI vD : Value) (mid : Nat) (wr : World) (j : Nat) : Prop :=
  Below w.heap.size w wr ∧ (w.heap.size + 3 ≤ mid ∧ mid ≤ wr.heap.size) ∧ OwnRow wr w.heap.size 2 (fun i => if i = 0 then vI else vD) ∧ OwnRow wr (w.heap.size + 1) 2 (fun _ => .slice none 0 0) ∧
    ∃ aI cI aX cX k u, OwnRow wr (w.heap.size + 2) 2 (fun i => if i = 0 then .slice aI d.1.length cI else .slice aX j cX) ∧ InosO wr (.slice aI d.1.length cI) d.1 (fun c => w.heap.size + 3 ≤ c ∧ c < mid) ∧ YRow C1 wr mid mid 26 1 (.slice aX j cX) j (fun i => d.2[i]?.getD []) k u
theorem CpD.start {w wr : World} {d : FD} {vI vD : Value} (h : CpI w d vI vD wr d.1.length) : CpD w d vI vD wr.heap.size wr 0 := by
  obtain ⟨h1, h2, h3, h4, aX, cX, u, G, h5, h6⟩ := h
  exact ⟨h1, ⟨h2, Nat.le_refl _⟩, h3, h4, aX, cX, none, 0, fun _ => 0, fun _ => .slice none 0 0, h5, (h6.inos rfl).mono fun c hc => ⟨hc.1, hc.2.1⟩, YRow.nil _ _ _ _ _ _⟩
theorem CpD.next {w wr X : World} {d : FD} {vI vD : Value} {mid j g cap : Nat} {k' : Nat → Nat} {u' : Nat → Value} (h : CpD w d vI vD mid wr j) (hX : Below mid wr X) (hL : YRow C1 X mid mid 26 1 (.slice (some ⟨g, 0, none⟩) (j + 1) cap) (j + 1) (fun i => d.2[i]?.getD []) k' u') :
    CpD w d vI vD mid (X.setCell ⟨w.heap.size + 2, 1, none⟩ (.slice (some ⟨g, 0, none⟩) (j + 1) cap)) (j + 1) := by
  obtain ⟨h1, h2, h3, h4, aI, cI, aX, cX, k, u, h5, h6, _⟩ := h
  refine ⟨(h1.trans (hX.mono (by omega))).setCell (by simp) _, ⟨h2.1, ?_⟩, (h3.block (hX.block _ (by omega))).store (by simp) _, (h4.block (hX.block _ (by omega))).store (by simp) _, aI, cI, some ⟨g, 0, none⟩, cap, k', u', ((h5.block (hX.block _ (by omega))).set 1 _).congr fun i hi => ?_, h6.keep fun c hc _ => ?_, hL.store (by simp; omega) (by simp; omega) _⟩
  · have := hX.size; simp [World.setCell]; omega
  · match i, hi with
    | 0, _ => rfl
    | 1, _ => rfl
  · rw [Below.heap_setCell _ _ _ _ (by simp; omega), hX.block c hc.2]
theorem CpD.row {w wr : World} {d : FD} {vI vD : Value} {mid j : Nat} (h : CpD w d vI vD mid wr j) : ∃ aI cI aX cX, (wr.cell? ⟨w.heap.size, 1, none⟩ = some vD ∧ wr.cell? ⟨w.heap.size + 2, 0, none⟩ = some (.slice aI d.1.length cI) ∧ wr.cell? ⟨w.heap.size + 2, 1, none⟩ = some (.slice aX j cX) ∧ wr.frozen? ⟨w.heap.size + 2, 1, none⟩ = false) ∧ InosO wr (.slice aI d.1.length cI) d.1 (fun c => w.heap.size + 3 ≤ c ∧ c < mid) ∧ ∃ k u, YRow C1 wr mid mid 26 1 (.slice aX j cX) j (fun i => d.2[i]?.getD []) k u := by
  obtain ⟨_, _, h3, _, aI, cI, aX, cX, k, u, h5, h6, h7⟩ := h
  exact ⟨aI, cI, aX, cX, ⟨h3.cell (i := 1) (by omega), h5.cell (i := 0) (by omega), h5.cell (i := 1) (by omega), h5.frozen 1⟩, h6, k, u, h7⟩

set_option maxHeartbeats 6400000 in
theorem l6Copy_any (w : World) (a1 : Option Addr) (n1 c1 : Nat) (a2 : Option Addr) (n2 c2 : Nat) (d : FD) (h : FsR w (.slice a1 n1 c1) (.slice a2 n2 c2) d) (hs : sizeFs d ≤ 1048576) :
    Calls Tryz.prog 35 #[.agg #[.slice a1 n1 c1, .slice a2 n2 c2]] w (AnsFs w d) := by
  obtain ⟨_, _, e1, hm1, hAt⟩ := h.1.open'
  obtain ⟨_, _, e2, hm2, hBt⟩ := h.2.open'
  simp only [Value.slice.injEq] at e1 e2
  obtain ⟨rfl, rfl, rfl⟩ := e1
  obtain ⟨rfl, rfl, rfl⟩ := e2
  have HAT : Hid (AtI w a1 d.1.length d.1) := hAt
  have HBT : Hid (AtYs w a2 d.2.length d.2) := hBt
  have hsz : d.1.length + (isz d.1).sum + (d.2.length + (ylens d.2).sum) ≤ 1048576 := hs
  have HSI : Hid (∀ k : Nat, (d.1[k]?.getD id0).2.2.2.1.length ≤ 1048576 ∧ (d.1[k]?.getD id0).2.2.2.2.length ≤ 1048576) := fun k => by
    have := isz_le d.1 k
    unfold sizeIno sizeN at this
    omega
  have HSY : Hid (∀ k : Nat, (d.2[k]?.getD []).length ≤ 1048576) := fun k => by have := ylens_le d.2 k; omega
  have hn1 : d.1.length ≤ 1048576 := by omega
  have hn2 : d.2.length ≤ 1048576 := by omega
  have HST : Hid (CpI w d (.slice a1 d.1.length c1) (.slice a2 d.2.length c2) (((w.alloc (.cells #[.slice a1 d.1.length c1, .slice a2 d.2.length c2] 31)).alloc (.cells #[.slice none 0 0, .slice none 0 0] 31)).alloc (.cells #[.slice none 0 0, .slice none 0 0] 31)) 0) := by
    have p1 := OwnRow.two w (.slice a1 d.1.length c1) (.slice a2 d.2.length c2) 31
    have p2 := OwnRow.two (w.alloc (.cells #[.slice a1 d.1.length c1, .slice a2 d.2.length c2] 31)) (.slice none 0 0) (.slice none 0 0) 31
    have p3 := OwnRow.two ((w.alloc (.cells #[.slice a1 d.1.length c1, .slice a2 d.2.length c2] 31)).alloc (.cells #[.slice none 0 0, .slice none 0 0] 31)) (.slice none 0 0) (.slice none 0 0) 31
    rw [World.size_alloc] at p2
    rw [World.size_alloc, World.size_alloc] at p3
    exact ⟨later3 _ _ _ _, by simp, p1.later (later2 _ _ _), (p2.later (later1 _ _)).congr fun i _ => by simp, none, 0, _, _, p3, IRow.nil _ _ _⟩
  have HLN : Hid (d.1.length = d.1.length ∧ d.2.length = d.2.length) := ⟨rfl, rfl⟩
  obtain ⟨n, hn⟩ : ∃ n, d.1.length = n := ⟨_, rfl⟩
  obtain ⟨m, hm⟩ : ∃ m, d.2.length = m := ⟨_, rfl⟩
  have HN : Hid (d.1.length = n) := hn
  have HM : Hid (d.2.length = m) := hm
  rw [hn] at HAT HST hn1 ⊢
  rw [hm] at HBT HST hn2 ⊢
  clear h hs hsz hAt hBt hm1 hm2 HLN hn hm
  go_enter Tryz.func35, Tryz.ntmps35
  go_wp2_with fail
  go_loopw [4] (fun i wr => ∃ j : Nat, j ≤ n ∧ i = .int .i64 j ∧ CpI w d (.slice a1 n c1) (.slice a2 m c2) wr j) (fun i _ => n - (intOf i).toNat)
  case atStart => exact ⟨0, Nat.zero_le _, rfl, HST.out⟩
  case round =>
    clear HST
    obtain ⟨j, hj, rfl, hsp⟩ := hrel
    have HSP : Hid (CpI w d (.slice a1 n c1) (.slice a2 m c2) wr j) := hsp
    obtain ⟨aX, cX, ⟨q0, q1, q2, q3⟩, u, G, hy⟩ := hsp.row
    have HY : Hid (IRow wr (w.heap.size + 3) (.slice aX j cX) j (fun i => d.1[i]?.getD id0) u G) := hy
    have hbig : w.heap.size + 3 ≤ wr.heap.size := hsp.2.1
    have HBW : Hid (Below w.heap.size w wr) := hsp.1
    clear hsp hy
    by_cases hlt : j < n
    · obtain ⟨b, off, e, hI⟩ := HAT.out j hlt
      subst e
      obtain ⟨aB, cB, aE, cE, p0, p1, p2, p3, p4, p5⟩ := hI.later HBW.out
      have hbl : b < wr.heap.size := lt_of_cell p0
      have HCP : Hid (Calls Tryz.prog 75 #[.agg #[.int .i64 (d.1[j]?.getD id0).1, .int .i64 (d.1[j]?.getD id0).2.1, .int .i64 (d.1[j]?.getD id0).2.2.1, .slice aB (d.1[j]?.getD id0).2.2.2.1.length cB, .slice aE (d.1[j]?.getD id0).2.2.2.2.length cE]] wr.drew fun e w1 => ∃ b1 m1 e1 b2 m2 e2 g cap X u' G', e = .returned (.agg #[.int .i64 (d.1[j]?.getD id0).1, .int .i64 (d.1[j]?.getD id0).2.1, .int .i64 (d.1[j]?.getD id0).2.2.1, .slice b1 m1 e1, .slice b2 m2 e2]) ∧ Hid (Below wr.heap.size wr w1) ∧
          Hid ((Builtin.append_ #[29, 29] 29 #[.slice aX j cX, .slice (some ⟨w1.heap.size, 0, none⟩) 1 1]).run Tryz.prog (w1.alloc (.cells #[.int .i64 (d.1[j]?.getD id0).1, .int .i64 (d.1[j]?.getD id0).2.1, .int .i64 (d.1[j]?.getD id0).2.2.1, .slice b1 m1 e1, .slice b2 m2 e2] 86)) = .ok (.slice (some ⟨g, 0, none⟩) (j + 1) cap) X) ∧ Hid (Below (w.heap.size + 3) wr X) ∧ Hid (IRow X (w.heap.size + 3) (.slice (some ⟨g, 0, none⟩) (j + 1) cap) (j + 1) (fun i => d.1[i]?.getD id0) u' G')) := by
        refine (l4Copy_any wr.drew aB _ cB aE _ cE (d.1[j]?.getD id0) (p5.later (Below.refl _ _).drew) (HSI.out j).1 (HSI.out j).2).mono ?_
        rintro e w1 ⟨b1, m1, e1, b2, m2, e2, rfl, hb1', ho1⟩
        have hb1 : Below wr.heap.size wr w1 := (Below.refl _ _).drew.trans hb1'
        obtain ⟨g, cap, X, u', G', hr, hBX, _, hL⟩ := IRow.append wr w1 29 (w.heap.size + 3) j _ _ u G HY.out hbig (by omega) hb1 b1 m1 e1 b2 m2 e2 ho1
        exact ⟨b1, m1, e1, b2, m2, e2, g, cap, X, u', G', rfl, hb1, hr, hBX, hL⟩
      clear hI p5 HAT HY HSI
      generalize (d.1[j]?.getD id0).2.2.2.1.length = lB at *
      generalize (d.1[j]?.getD id0).2.2.2.2.length = lE at *
      generalize (d.1[j]?.getD id0).1 = z0 at *
      generalize (d.1[j]?.getD id0).2.1 = z1 at *
      generalize (d.1[j]?.getD id0).2.2.1 = z2 at *
      go_wp2_with fail
      go_region_law (first
        | (refine step_append_run rfl _ _ 29 rfl _ _ rfl rfl _ _ HR.out ?_)
        | (try go_simp; go_at_call 75; refine HCP.out.mono ?_; rintro e w1 ⟨b1, m1, e1, b2, m2, e2, g, cap, X, u', G', rfl, HB1, HR, HBX, HL⟩
           have y2 := cell_later HB1.out q2
           have hw1 : w.heap.size + 2 < w1.heap.size := by have := HB1.out.size; omega
           have x0 : X.cell? ⟨w.heap.size + 2, 0, none⟩ = some (.slice aX j cX) := (HBX.out.cell (p := ⟨w.heap.size + 2, 0, none⟩) (by simp)).trans q2
           have x1 : X.frozen? ⟨w.heap.size + 2, 0, none⟩ = false := (HBX.out.frozen (p := ⟨w.heap.size + 2, 0, none⟩) (by simp)).trans q3))
      all_goals
        clear HCP HR
        go_wp2
        go_roundw
        case rel => exact ⟨j + 1, by omega, by go_num, HSP.out.next HBX.out HL.out⟩
        case measure => simp [intOf]; omega
    · have e : j = n := by omega
      subst e
      clear HY hlt hj HAT HSI hn1
      have HSD : Hid (CpD w d (.slice a1 j c1) (.slice a2 m c2) wr.heap.size wr 0) := CpD.start (by rw [HN.out]; exact HSP.out)
      clear HSP q2 q3 HBW
      generalize wr.heap.size = mid at *
      go_wp2_with fail
      go_loopw [5] (fun i wq => ∃ q : Nat, q ≤ m ∧ i = .int .i64 q ∧ CpD w d (.slice a1 j c1) (.slice a2 m c2) mid wq q) (fun i _ => m - (intOf i).toNat)
      case atStart => exact ⟨0, Nat.zero_le _, rfl, HSD.out⟩
      case round =>
        clear HSD q0 q1
        obtain ⟨q, hq, rfl, hsp⟩ := hrel
        have HSP : Hid (CpD w d (.slice a1 j c1) (.slice a2 m c2) mid wr q) := hsp
        obtain ⟨aI, cI, aX, cX, ⟨q0, q1, q2, q3⟩, hio, k, u, hy⟩ := hsp.row
        have hbig : w.heap.size + 3 ≤ mid ∧ mid ≤ wr.heap.size := hsp.2.1
        have hbig2 : w.heap.size + 2 < wr.heap.size := by omega
        have hbig0 : w.heap.size < wr.heap.size := by omega
        by_cases hlt : q < m
        · obtain ⟨b, off, ua, uc, e, c1', i1⟩ := HBT.out q hlt
          subst e
          have hbl : b < w.heap.size := lt_of_cell c1'
          have hbr : b < wr.heap.size := by omega
          replace c1' := cell_later hsp.1 c1'
          obtain ⟨na, nc, X1, g, cap, X, k', u', hr1, hr2, hb1, hBX, hL⟩ := rndYL wr mid q _ d.2 k u hy hbig.2 (by omega) ua uc (i1.later hsp.1) (HSY.out q)
          have HR1 : Hid (_ = _) := hr1
          have HR2 : Hid (_ = _) := hr2
          have HBX : Hid (Below mid wr X) := hBX
          have HL : Hid (YRow C1 X mid mid 26 1 (.slice (some ⟨g, 0, none⟩) (q + 1) cap) (q + 1) (fun i => d.2[i]?.getD []) k' u') := hL
          have z0 := cell_later hb1 q2
          have z1 := cell_later hb1 c1'
          have z2 := cell_later hb1 q0
          have hw1 : w.heap.size + 2 < X1.heap.size := Nat.lt_of_lt_of_le hbig2 hb1.size
          have hw2 : b < X1.heap.size := by omega
          have hw0 : w.heap.size < X1.heap.size := by omega
          have x0 : X.cell? ⟨w.heap.size + 2, 1, none⟩ = some (.slice aX q cX) := (hBX.cell (p := ⟨w.heap.size + 2, 1, none⟩) (by show w.heap.size + 2 < mid; omega)).trans q2
          have x1 : X.frozen? ⟨w.heap.size + 2, 1, none⟩ = false := (hBX.frozen (p := ⟨w.heap.size + 2, 1, none⟩) (by show w.heap.size + 2 < mid; omega)).trans q3
          clear hsp hy hr1 hr2 hb1 hBX hL i1 hio
          generalize (d.2[q]?.getD []).length = ln at *
          go_wp2_with fail
          go_region_law (first
            | (refine step_append_run rfl _ _ 26 rfl _ _ rfl rfl _ _ HR1.out ?_)
            | (refine step_append_run rfl _ _ 23 rfl _ _ rfl rfl _ _ HR2.out ?_))
          all_goals
            go_wp2
            go_roundw
            case rel => exact ⟨q + 1, by omega, by go_num, HSP.out.next HBX.out HL.out⟩
            case measure => simp [intOf]; omega
        · have e : q = m := by omega
          subst e
          have HIO : Hid (InosO wr (.slice aI d.1.length cI) d.1 (fun c => w.heap.size + 3 ≤ c ∧ c < mid)) := hio
          have HYO : Hid (BytsO wr (.slice aX q cX) d.2 (fun c => mid ≤ c ∧ c < wr.heap.size)) := hy.byts HM.out _ (fun c h1 h2 => ⟨h1, h2⟩) (fun c h1 h2 => ⟨h1, h2⟩)
          have HBW : Hid (Below w.heap.size w wr) := hsp.1
          have hrow := hsp.2.2.2.1
          have t0 := hrow.cell (i := 0) (by omega)
          have t1 := hrow.cell (i := 1) (by omega)
          have s0 := hrow.frozen 0
          have s1 := hrow.frozen 1
          clear hsp hy hio hrow HSP
          generalize d.1.length = nn at *
          go_wp2
          refine bodyPost_ret (v := .agg #[.slice aI nn cI, .slice aX q cX]) (by simp [results, Tryz.results35, go_sem, t0, t1]) rfl ⟨aI, nn, cI, aX, q, cX, rfl, (HBW.out.setCell (by simp) _).setCell (by simp) _, (fun c => w.heap.size + 3 ≤ c ∧ c < mid), (fun c => mid ≤ c ∧ c < wr.heap.size), HIO.out.keep fun b hb _ => ?_, HYO.out.keep fun b hb _ => ?_, fun b h1 h2 => by omega, fun b hb => ?_⟩
          · rw [Below.heap_setCell _ _ _ _ (by simp; omega), Below.heap_setCell _ _ _ _ (by simp; omega)]
          · rw [Below.heap_setCell _ _ _ _ (by simp; omega), Below.heap_setCell _ _ _ _ (by simp; omega)]
          · unfold fresh
            simp only [World.setCell, Array.size_modify]
            rcases hb with hb | hb <;> omega
end Go.Proofs.YtjabimfinanjoabGreat

namespace Go.Proofs.YtjabimfinanjoabGreat
open Go.RowKit
set_option maxRecDepth 100000

theorem field_byt (c : Int) (a : Option Addr) (n k : Nat) (w : World) : (Instr.field 66 (.agg #[.int .i64 c, .slice a n k]) 0).run Tryz.prog w = .ok (.int .i64 c) w := by kernel_rfl
set_option maxHeartbeats 800000 in
theorem l7Asked_any (w : World) (b : Nat) (d : FD) (a1 : Option Addr) (n1 c1 : Nat) (a2 : Option Addr) (n2 c2 : Nat) (x : Int) (h0 : w.cell? ⟨b, 0, none⟩ = some (.slice a1 n1 c1)) (h1 : w.cell? ⟨b, 1, none⟩ = some (.slice a2 n2 c2)) (h : FsR w (.slice a1 n1 c1) (.slice a2 n2 c2) d) (hs : sizeFs d ≤ 1048576) :
    Calls Tryz.prog 51 #[.pointer (some ⟨b, 0, none⟩), .int .i64 x] w fun e w' => e = .returned (.int .i64 (bytR d x).1) ∧ Below w.heap.size w w' := by
  have HBY : Hid (Calls Tryz.prog 91 #[.agg #[.slice a1 n1 c1, .slice a2 n2 c2], .int .i64 x] w (AnsYR w (bytR d x))) := specBytU w a1 n1 c1 a2 n2 c2 d x h hs
  have hf := fun c a n k w => field_byt c a n k w
  clear h hs
  go_enter Tryz.func51, Tryz.ntmps51
  go_wp2_with fail
  refine HBY.out.mono ?_
  rintro e w1 ⟨ay, ny, cy, rfl, hb1, _⟩
  go_wp2
  go_ret
  exact ⟨rfl, hb1⟩
theorem s5_chg (w : World) (b k : Nat) (x0 x1 x2 x3 x4 : Value) : Chg (fun c => c = b) w (set5F w b k x0 x1 x2 x3 x4) := by
  have h0 : Chg (fun c => c = b) w w := Chg.refl _ _
  have h1 := Chg.set (F := fun c => c = b) h0 rfl k x0
  have h2 := Chg.set (F := fun c => c = b) h1 rfl (k + 1) x1
  have h3 := Chg.set (F := fun c => c = b) h2 rfl (k + 2) x2
  have h4 := Chg.set (F := fun c => c = b) h3 rfl (k + 3) x3
  exact Chg.set (F := fun c => c = b) h4 rfl (k + 4) x4
theorem s5_fs {w : World} {bI n cI bD cD : Nat} {d : FD} {F G : Nat → Prop} (hfs : FsS w bI n cI bD 20 cD d F) (j : Nat) (hj : j < n) (x : ID) (vB vE : Value) (hv : InoU w (.int .i64 x.1) (.int .i64 x.2.1) (.int .i64 x.2.2.1) vB vE x G) (hG : ∀ c, G c → ¬ F c ∧ c < w.heap.size) : FsS (set5F w bI (j * 5) (.int .i64 x.1) (.int .i64 x.2.1) (.int .i64 x.2.2.1) vB vE) bI n cI bD 20 cD (d.1.set j x, d.2) (fun c => F c ∨ G c) := by
  have hne := hfs.ne
  have hl := hfs.len.1
  refine hfs.putI j hj x vB vE (fun u hu => ?_) (s5_chg w bI (j * 5) _ _ _ _ _) (hv.keep fun c hc hlt => (s5_chg w bI (j * 5) _ _ _ _ _).block c hlt fun e => (hG c hc).1 (e ▸ hne.2.1.1)) (fun c hc => ⟨(hG c hc).1, by rw [set5_size]; exact (hG c hc).2⟩)
  exact (hu.five (j * 5) _ _ _ _ _).congr fun c _ => (inCell_set d.1 u j (by omega) x vB vE c).symm

set_option maxHeartbeats 3200000 in
theorem l7Drop_raw (w : World) (bo bI n cI bD cD : Nat) (d : FD) (F : Nat → Prop) (j : Nat) (h0 : w.cell? ⟨bo, 0, none⟩ = some (.slice (some ⟨bI, 0, none⟩) n cI)) (h1 : w.cell? ⟨bo, 1, none⟩ = some (.slice (some ⟨bD, 0, none⟩) 20 cD)) (hfs : FsS w bI n cI bD 20 cD d F) (hFo : ¬ F bo) (hjn : j < n) (_hn10 : n ≤ 10) (hblk : ∀ k : Nat, k < (blkA d j).length → 0 ≤ (blkA d j)[k]?.getD 0 ∧ (blkA d j)[k]?.getD 0 < 20) (h4 : (blkA d j).length ≤ 4) :
    Calls Tryz.prog 52 #[.pointer (some ⟨bo, 0, none⟩), .int .i64 (j : Int)] w fun e w' => e = .returned (.tuple #[]) ∧ Chg (fun c => c = bI ∨ c = bD) w w' ∧ FsS w' bI n cI bD 20 cD (dropD d j) F := by
  obtain ⟨aB, cB, aE, cE, i0, i1, i2, i3, i4, _, i6, i7⟩ := hfs.ino j hjn
  have hne := hfs.ne
  have hoI : bo ≠ bI := fun e => hFo (e ▸ hne.2.1.1)
  have hoD : bo ≠ bD := fun e => hFo (e ▸ hne.2.2.1)
  have hID : bI ≠ bD := hne.1
  have HFS : Hid (FsS w bI n cI bD 20 cD d F) := hfs
  have HBS : Hid (BlkR w bD aB (blkA d j)) := fun k hk => by
    obtain ⟨b, f1, _, _, f4, f5, f6⟩ := i7 k hk
    exact ⟨b, f1, f4, f5, f6⟩
  have HRG : Hid (∀ k : Nat, k < (blkA d j).length → 0 ≤ (blkA d j)[k]?.getD 0 ∧ (blkA d j)[k]?.getD 0 < 20) := hblk
  have HDD : Hid (dropD d j = (d.1.set j id0, clrK d.2 (blkA d j) (blkA d j).length)) := rfl
  replace i3 : w.cell? ⟨bI, j * 5 + 3, none⟩ = some (.slice aB (blkA d j).length cB) := i3
  rw [HDD.out]
  generalize blkA d j = bs at *
  obtain ⟨nB, hnB⟩ : ∃ nB, bs.length = nB := ⟨_, rfl⟩
  have HNB : Hid (bs.length = nB) := hnB
  rw [hnB] at i3 HRG h4 ⊢
  have hjI : (j : Int) < (n : Int) := by omega
  clear hfs i7 hblk hnB HDD i0 i1 i2 i4 i6 hne
  go_enter Tryz.func52, Tryz.ntmps52
  go_wp2_with fail
  go_loopw [4] (fun i wr => ∃ k : Nat, k ≤ nB ∧ i = .int .i64 k ∧ Chg (fun c => c = bD) w wr ∧ FsS wr bI n cI bD 20 cD (d.1, clrK d.2 bs k) F) (fun i _ => nB - (intOf i).toNat)
  case atStart => exact ⟨0, Nat.zero_le _, rfl, Chg.refl _ _, HFS.out⟩
  case round =>
    obtain ⟨k, hk, rfl, hc, hf⟩ := hrel
    have HC : Hid (Chg (fun c => c = bD) w wr) := hc
    have HF : Hid (FsS wr bI n cI bD 20 cD (d.1, clrK d.2 bs k) F) := hf
    have r0 := hc.cellOf h0 hoD
    have r1 := hc.cellOf h1 hoD
    have r3 := hc.cellOf i3 hID
    clear hc hf
    by_cases hlt : k < nB
    · obtain ⟨b1, rfl, hb1, _, c1⟩ := HBS.out k (by rw [HNB.out]; exact hlt)
      have c1r := HC.out.cellOf c1 hb1
      have hrg := HRG.out k hlt
      have HCL : Hid (∀ y : Nat, y < 20 → bs[k]?.getD 0 = (y : Int) → FsS (wr.setCell ⟨bD, y, none⟩ (.slice none 0 0)) bI n cI bD 20 cD (d.1, clrK d.2 bs (k + 1)) F) := fun y hy e => HF.out.clr hy e
      generalize bs[k]?.getD 0 = x at *
      obtain ⟨y, rfl⟩ : ∃ y : Nat, x = (y : Int) := ⟨x.toNat, by omega⟩
      have hy : y < 20 := by omega
      have hyI : (y : Int) < 20 := by omega
      obtain ⟨ua, uc, d0, d1, _⟩ := HF.out.data y hy
      have HN : Hid (FsS (wr.setCell ⟨bD, y, none⟩ (.slice none 0 0)) bI n cI bD 20 cD (d.1, clrK d.2 bs (k + 1)) F) := HCL.out y hy rfl
      have hDb : bD ≠ b1 := fun e => hb1 e.symm
      have hDo : bD ≠ bo := fun e => hoD e.symm
      have hDI : bD ≠ bI := fun e => hID e.symm
      clear HCL hrg c1
      go_wp2_with fail
      go_region_held3 (fun W => W.cell? ⟨bo, 0, none⟩ = some (.slice (some ⟨bI, 0, none⟩) n cI) ∧ W.cell? ⟨bo, 1, none⟩ = some (.slice (some ⟨bD, 0, none⟩) 20 cD) ∧ W.cell? ⟨bI, j * 5 + 3, none⟩ = some (.slice (some ⟨b1, 0, none⟩) nB cB) ∧ W.cell? ⟨b1, k, none⟩ = some (.int .i64 (y : Int))) (go_keep) (fail)
      all_goals
        go_wp2
        go_roundw
        case rel => exact ⟨k + 1, by omega, by go_num, by first | exact HC.out.set rfl _ _ | exact (HC.out.set rfl _ _).trans (Chg.of_below (Below.refl _ _).drew) | exact (HC.out.trans (Chg.of_below (Below.refl _ _).drew)).set rfl _ _, by first | exact HN.out | exact HN.out.later (Below.refl _ _).drew⟩
        case measure => simp [intOf]; omega
    · have e : k = nB := by omega
      subst e
      obtain ⟨_, _, _, _, z0, z1, z2, z3, z4, _, z6, _⟩ := HF.out.ino j hjn
      have z50 := z6 (j * 5)
      have z51 := z6 (j * 5 + 1)
      have z52 := z6 (j * 5 + 2)
      have z53 := z6 (j * 5 + 3)
      have z54 := z6 (j * 5 + 4)
      have HN : Hid (FsS (set5F wr bI (j * 5) (.int .i64 0) (.int .i64 0) (.int .i64 0) (.slice none 0 0) (.slice none 0 0)) bI n cI bD 20 cD (d.1.set j id0, clrK d.2 bs k) F) := (s5_fs (G := fun _ => False) HF.out j hjn id0 (.slice none 0 0) (.slice none 0 0) (setZ_ino _ _) (fun c hc => hc.elim)).mono fun c hc => hc.elim id False.elim
      have HC2 : Hid (Chg (fun c => c = bI ∨ c = bD) w (set5F wr bI (j * 5) (.int .i64 0) (.int .i64 0) (.int .i64 0) (.slice none 0 0) (.slice none 0 0))) := (HC.out.mono fun b hb => Or.inr hb).trans ((s5_chg wr bI (j * 5) _ _ _ _ _).mono fun b hb => Or.inl hb)
      clear z6
      dsimp only at z0 z1 z2 z3 z4
      generalize (d.1[j]?.getD id0).2.2.2.2.length = l2 at *
      generalize (d.1[j]?.getD id0).1 = y0 at *
      generalize (d.1[j]?.getD id0).2.1 = y1 at *
      generalize (d.1[j]?.getD id0).2.2.1 = y2 at *
      generalize (d.1[j]?.getD id0).2.2.2.1.length = l3 at *
      go_wp2
      go_end0
      exact ⟨rfl, HC2.out, HN.out⟩
theorem l7Drop_any (w : World) (bo bI n cI bD cD : Nat) (d : FD) (F : Nat → Prop) (j : Nat) (h0 : w.cell? ⟨bo, 0, none⟩ = some (.slice (some ⟨bI, 0, none⟩) n cI)) (h1 : w.cell? ⟨bo, 1, none⟩ = some (.slice (some ⟨bD, 0, none⟩) 20 cD)) (hfs : FsS w bI n cI bD 20 cD d F) (hFo : ¬ F bo) (hn : d.1.length = n) (hsd : Sound d j) :
    Calls Tryz.prog 52 #[.pointer (some ⟨bo, 0, none⟩), .int .i64 (j : Int)] w fun e w' => e = .returned (.tuple #[]) ∧ Chg (fun c => c = bI ∨ c = bD) w w' ∧ FsS w' bI n cI bD 20 cD (dropD d j) F :=
  l7Drop_raw w bo bI n cI bD cD d F j h0 h1 hfs hFo (by have := hsd.lt; omega) (by have := hsd.ten; omega) hsd.blk hsd.four
end Go.Proofs.YtjabimfinanjoabGreat

namespace Go.Proofs.YtjabimfinanjoabGreat
open Go.RowKit
set_option maxRecDepth 100000

set_option maxHeartbeats 800000 in
theorem l7With_any (w : World) (b : Nat) (d : FD) (a1 : Option Addr) (n1 c1 : Nat) (a2 : Option Addr) (n2 c2 : Nat) (x : Int) (vb : Value) (busy : List Int) (h0 : w.cell? ⟨b, 0, none⟩ = some (.slice a1 n1 c1)) (h1 : w.cell? ⟨b, 1, none⟩ = some (.slice a2 n2 c2)) (h : FsR w (.slice a1 n1 c1) (.slice a2 n2 c2) d) (hs : sizeFs d ≤ 1048576) (hb : Ints w vb busy) :
    Calls Tryz.prog 33 #[.pointer (some ⟨b, 0, none⟩), .int .i64 x, vb] w fun e w' => e = .returned (.int .i64 (askR d x busy)) ∧ Below w.heap.size w w' := by
  have HA : Hid (Calls Tryz.prog 51 #[.pointer (some ⟨b, 0, none⟩), .int .i64 x] w fun e w' => e = .returned (.int .i64 (bytR d x).1) ∧ Below w.heap.size w w') := l7Asked_any w b d a1 n1 c1 a2 n2 c2 x h0 h1 h hs
  have HB : Hid (∀ W, Below w.heap.size w W → Calls Tryz.prog 74 #[vb] W fun e w' => e = .returned (.int .i64 (busF busy)) ∧ ∃ m, w' = W.drewN m) := fun W hW => l5Busy_any (hb.later hW)
  have HR : Hid (askR d x busy = if (bytR d x).1 = 0 then busF busy else (bytR d x).1) := rfl
  rw [HR.out]
  clear h0 h1 h hs hb HR
  generalize (bytR d x).1 = r at *
  generalize busF busy = q at *
  by_cases hr : r = 0
  · rw [if_pos hr]
    subst hr
    go_enter Tryz.func33, Tryz.ntmps33
    go_wp2_with fail
    refine HA.out.mono ?_
    rintro e w1 ⟨rfl, hb1⟩
    have HB1 : Hid (Below w.heap.size w w1) := hb1
    clear hb1
    go_wp2_with fail
    refine (HB.out _ HB1.out).mono ?_
    rintro e w2 ⟨rfl, m, rfl⟩
    go_wp2
    go_ret
    exact ⟨rfl, below_drewN HB1.out m⟩
  · rw [if_neg hr]
    have hb : (r != 0) = true := by simpa using hr
    clear hr
    go_enter Tryz.func33, Tryz.ntmps33
    go_wp2_with fail
    refine HA.out.mono ?_
    rintro e w1 ⟨rfl, hb1⟩
    have HB1 : Hid (Below w.heap.size w w1) := hb1
    clear hb1
    go_wp2
    go_ret
    exact ⟨rfl, HB1.out⟩
/-- Blocks and size of a file stored into its inode. -/
theorem FsS.two {w : World} {bI n cI bD cD : Nat} {d : FD} {F G : Nat → Prop} (hfs : FsS w bI n cI bD 20 cD d F) (j : Nat) (hj : j < n) (hent : (d.1[j]?.getD id0).2.2.2.2 = []) (bs : List Int) (L : Nat) (ap : Option Addr) (cp : Nat) (hP : IntsO w (.slice ap bs.length cp) bs G) (hcp : bs.length ≤ cp) (hG : ∀ c, G c → ¬ F c ∧ c < w.heap.size) :
    FsS ((w.setCell ⟨bI, j * 5 + 3, none⟩ (.slice ap bs.length cp)).setCell ⟨bI, j * 5 + 2, none⟩ (.int .i64 (L : Int))) bI n cI bD 20 cD (d.1.set j (setI d j bs L), d.2) (fun c => F c ∨ G c) := by
  have hne := hfs.ne
  have hl := hfs.len.1
  obtain ⟨aB, cB, aE, cE, i0, i1, i2, i3, i4, _, _, _⟩ := hfs.ino j hj
  have h0 : Chg (fun c => c = bI) w w := Chg.refl _ _
  have h1 := Chg.set (F := fun c => c = bI) h0 rfl (j * 5 + 3) (.slice ap bs.length cp)
  have h2 := Chg.set (F := fun c => c = bI) h1 rfl (j * 5 + 2) (.int .i64 (L : Int))
  refine hfs.putI j hj (setI d j bs L) (.slice ap bs.length cp) (.slice aE 0 cE) (fun u hu => ?_) h2 ?_ (fun c hc => ⟨(hG c hc).1, by simpa [World.setCell] using (hG c hc).2⟩)
  · have c0 := hu.cell (i := j * 5) (by omega)
    have c1 := hu.cell (i := j * 5 + 1) (by omega)
    have c4 := hu.cell (i := j * 5 + 4) (by omega)
    rw [i0] at c0
    rw [i1] at c1
    rw [i4] at c4
    rw [hent] at c4
    have e0 := (Option.some.inj c0).symm
    have e1 := (Option.some.inj c1).symm
    have e4 := (Option.some.inj c4).symm
    refine ((hu.set (j * 5 + 3) _).set (j * 5 + 2) _).congr fun c _ => ?_
    rw [inCell_set d.1 u j (by omega)]
    by_cases q0 : c = j * 5
    · rw [if_pos q0, if_neg (by omega), if_neg (by omega), q0, e0]; rfl
    · rw [if_neg q0]
      by_cases q1 : c = j * 5 + 1
      · rw [if_pos q1, if_neg (by omega), if_neg (by omega), q1, e1]; rfl
      · rw [if_neg q1]
        by_cases q2 : c = j * 5 + 2
        · rw [if_pos q2, if_pos q2]; rfl
        · rw [if_neg q2, if_neg q2]
          by_cases q3 : c = j * 5 + 3
          · rw [if_pos q3, if_pos q3]
          · rw [if_neg q3, if_neg q3]
            by_cases q4 : c = j * 5 + 4
            · rw [if_pos q4, q4, e4]; rfl
            · rw [if_neg q4]
  · refine ⟨⟨rfl, rfl, rfl, ap, _, cp, rfl, hcp⟩, G, fun _ => False, hP.keep fun c hc hlt => h2.block c hlt fun e => (hG c hc).1 (e ▸ hne.2.1.1), Or.inl ⟨hent, aE, cE, rfl⟩, fun _ _ hh => hh, fun b hh => hh.elim id False.elim⟩
end Go.Proofs.YtjabimfinanjoabGreat

namespace Go.Proofs.YtjabimfinanjoabGreat
open Go.RowKit
set_option maxRecDepth 100000

set_option maxHeartbeats 1600000 in
theorem l7Set_long (w : World) (a1 : Option Addr) (n1 c1 : Nat) (a2 : Option Addr) (n2 c2 : Nat) (j : Nat) (aT : Option Addr) (L cT : Nat) (vb : Value) (hL : ¬ L ≤ 32) :
    Calls Tryz.prog 37 #[.agg #[.slice a1 n1 c1, .slice a2 n2 c2], .int .i64 (j : Int), .slice aT L cT, vb] w (AnsFR w (noFs 2)) := by
  have HB0 : Hid (Below w.heap.size w ((w.alloc (.cells #[.slice a1 n1 c1, .slice a2 n2 c2] 31)).alloc (.cells #[.int .i64 0, .slice none 0 0, .slice none 0 0] 33))) := later2 _ _ _
  have HRS : Hid (OwnRow ((w.alloc (.cells #[.slice a1 n1 c1, .slice a2 n2 c2] 31)).alloc (.cells #[.int .i64 0, .slice none 0 0, .slice none 0 0] 33)) (w.heap.size + 1) 3 (cel zero3)) := by
    have p2 := row3 (w.alloc (.cells #[.slice a1 n1 c1, .slice a2 n2 c2] 31)) 33
    rw [World.size_alloc] at p2
    exact p2
  have HSZ : Hid (sizeB (L : Int) = false) := by unfold Hid sizeB; simp; omega
  clear hL
  go_enter Tryz.func37, Tryz.ntmps37
  go_wp2_with fail
  refine (l4Size_any _ _).mono ?_
  rw [HSZ.out]
  rintro e w1 ⟨rfl, rfl⟩
  generalize ((w.alloc (.cells #[.slice a1 n1 c1, .slice a2 n2 c2] 31)).alloc (.cells #[.int .i64 0, .slice none 0 0, .slice none 0 0] 33)) = W0 at *
  have t0 : W0.cell? ⟨w.heap.size + 1, 0, none⟩ = some (.int .i64 0) := HRS.out.cell (i := 0) (by omega)
  have t1 : W0.cell? ⟨w.heap.size + 1, 1, none⟩ = some (.slice none 0 0) := HRS.out.cell (i := 1) (by omega)
  have t2 : W0.cell? ⟨w.heap.size + 1, 2, none⟩ = some (.slice none 0 0) := HRS.out.cell (i := 2) (by omega)
  have s0 := HRS.out.frozen 0
  have s1 := HRS.out.frozen 1
  have s2 := HRS.out.frozen 2
  go_wp2
  exact bodyPost_ret (v := .agg #[.int .i64 2, .slice none 0 0, .slice none 0 0]) (by simp [results, Tryz.results37, go_sem, t0, t1, t2]) rfl (AnsFR.none' 2 HB0.out (by omega) _ _ _)

/-- What stands behind the picks: they lie in a box at block g. -/
def Picked (W0 wx : World) (pc : Int) (pl : List Int) (g : Nat) (ap : Option Addr) (cp : Nat) : Prop :=
  Below W0.heap.size W0 wx ∧ W0.heap.size ≤ g ∧ Bx wx g [.int .i64 pc, .slice ap pl.length cp] ∧ pl.length ≤ cp ∧ IntsO wx (.slice ap pl.length cp) pl (fun c => W0.heap.size ≤ c ∧ c < wx.heap.size ∧ c ≠ g)
theorem Picked.after {W0 W1 w1 : World} {pc : Int} {pl : List Int} {ap : Option Addr} {cp : Nat} (h0 : Below W0.heap.size W0 W1) (hb : Below W1.heap.size W1 w1) (ho : IntsO w1 (.slice ap pl.length cp) pl (fresh W1 w1)) (hc : pl.length ≤ cp) (t : TypeId) : Picked W0 (w1.alloc (.cells #[.int .i64 pc, .slice ap pl.length cp] t)) pc pl w1.heap.size ap cp := by
  have hw := h0.trans (hb.mono h0.size)
  refine ⟨hw.trans ((later1 _ _).mono hw.size), hw.size, Bx.new w1 [.int .i64 pc, .slice ap pl.length cp] t, hc, (ho.later (later1 _ _)).mono fun c hh => ?_⟩
  have := hh.1
  have := hh.2
  have := h0.size
  exact ⟨by omega, by simp; omega, by omega⟩
theorem Picked.ahead {W0 W1 w1 : World} {pc : Int} {pl : List Int} {g : Nat} {ap : Option Addr} {cp : Nat} (h0 : Below W0.heap.size W0 W1) (hg : W0.heap.size ≤ g) (hg1 : g < W1.heap.size) (f : Nat → Value) (hr : OwnRow W1 g 2 f) (hb : Below W1.heap.size W1 w1) (ho : IntsO w1 (.slice ap pl.length cp) pl (fresh W1 w1)) (hc : pl.length ≤ cp) : Picked W0 ((w1.setCell ⟨g, 0, none⟩ (.int .i64 pc)).setCell ⟨g, 1, none⟩ (.slice ap pl.length cp)) pc pl g ap cp := by
  have hw := h0.trans (hb.mono h0.size)
  have hr1 := ((hr.later hb).set 0 (.int .i64 pc)).set 1 (.slice ap pl.length cp)
  refine ⟨(hw.setCell hg _).setCell hg _, hg, fun i v e => ?_, hc, (ho.keep fun c hh _ => ?_).mono fun c hh => ?_⟩
  · match i, e with
    | 0, e => have := hr1.cell (i := 0) (by omega); simp at this; rw [this]; simpa using e
    | 1, e => have := hr1.cell (i := 1) (by omega); simp at this; rw [this]; simpa using e
    | i + 2, e => simp at e
  · have := hh.1
    rw [Below.heap_setCell _ _ _ _ (show c ≠ g by omega), Below.heap_setCell _ _ _ _ (show c ≠ g by omega)]
  · have := hh.1
    have := hh.2
    have := h0.size
    simp only [World.setCell, Array.size_modify]
    exact ⟨by omega, by omega, by omega⟩
end Go.Proofs.YtjabimfinanjoabGreat
