/- The specification's copying of a file system. The specification's DropFile. The specification's DropFile: the walk; how great what is answered is. AddName: how great what is answered is; append within a region, its answer told by a property. The specification's AddName: an entry put into its place. The specification's AddName: an entry more in a directory. The specification's DropName: an entry taken out of a directory. The specification's DropName: one entry less leads to a file. -/
import Derived.Test.YtmlfpikhencgcanGreatM08
import Derived.Test.YtmlfpikhencgcanGreatM16
import Derived.Test.YtmlfpikhencgcanGreatM10
import Derived.Deep.RegionHeld3
import Derived.Deep.RegionLaw
import Derived.Test.YtmlfpikhencgcanGreatM14
import Derived.Test.YtmlfpikhencgcanGreatM15
import Derived.BigQuiet
namespace Go.Proofs.YtmlfpikhencgcanGreat
open Go.RowKit
set_option maxRecDepth 100000

theorem Tryz.infoU8L' : ∃ i, Tryz.prog.info? 69 = some i ∧ i.zero = some (.slice none 0 0) ∧ i.size = 1 ∧ i.bytes = 24 := by
  have h : (Tryz.prog.info? 69).map (fun i => (i.zero, i.size, i.bytes)) = some (some (.slice none 0 0), 1, 24) := by kernel_rfl
  rw [Option.map_eq_some_iff] at h
  obtain ⟨i, hi, e⟩ := h
  simp only [Prod.mk.injEq] at e
  exact ⟨i, hi, e.1, e.2.1, e.2.2⟩
/-- A list's bytes copied, and the copy appended. -/
theorem rndYL (wr : World) (base n : Nat) (v : Value) (zss : List (List UInt8)) (k : Nat → Nat) (u : Nat → Value) (h : YRow C1 wr base base 69 1 v n (fun i => zss[i]?.getD []) k u) (hb : base ≤ wr.heap.size) (hn : n ≤ 1048576) (ua : Option Addr) (uc : Nat)
    (hy : Byt wr (.slice ua (zss[n]?.getD []).length uc) (zss[n]?.getD [])) (hl : (zss[n]?.getD []).length ≤ 1048576) :
    ∃ na nc X1 g cap X k' u', (Builtin.append_ #[69, 69] 69 #[.slice (some ⟨wr.heap.size, 0, none⟩) 0 0, .slice ua (zss[n]?.getD []).length uc]).run Tryz.prog (wr.drew.alloc (.cells #[] 5)) = .ok (.slice na (zss[n]?.getD []).length nc) X1 ∧
      (Builtin.append_ #[23, 23] 23 #[v, .slice (some ⟨X1.heap.size, 0, none⟩) 1 1]).run Tryz.prog (X1.alloc (.cells #[.slice na (zss[n]?.getD []).length nc] 69)) = .ok (.slice (some ⟨g, 0, none⟩) (n + 1) cap) X ∧
      Below wr.heap.size wr X1 ∧ Below base wr X ∧ YRow C1 X base base 69 1 (.slice (some ⟨g, 0, none⟩) (n + 1) cap) (n + 1) (fun i => zss[i]?.getD []) k' u' := by
  have hb0 : Below wr.heap.size wr (wr.drew.alloc (.cells #[] 5)) := (Below.refl _ _).drew.trans (by simpa using later1 wr.drew (.cells #[] 5))
  obtain ⟨v', X1, hr1, hw1, hB1⟩ := append_y (wr.drew.alloc (.cells #[] 5)) wr.heap.size _ [] (zss[n]?.getD []) ua _ uc (WdY.lit0 wr.drew wr.heap.size (by simp)) (by simp) (by simp) hl (hy.later hb0)
  rw [List.nil_append] at hw1
  obtain ⟨na, nc, rfl⟩ := hw1.shape
  have hbX1 : Below wr.heap.size wr X1 := hb0.trans hB1
  have hlt : wr.heap.size < X1.heap.size := by have := hB1.size; simp at this; omega
  obtain ⟨kb, hk1, hk2, hkf⟩ := (hw1.own (w0 := wr) (Nat.le_refl _)).one hlt
  obtain ⟨i, hi, h1, h2, h3⟩ := Tryz.infoU8L'
  obtain ⟨g, cap, X, hr2, _, hBX, _, hLX⟩ := YRow.append wr X1 23 23 69 i _ 1 24 Tryz.underlying23 hi h1 h2 h3 rfl (by decide) (by decide) base base n _ _ k u h hb (by omega) hbX1 na nc rfl (fun x hx => by simp [C1] at hx; subst hx; rfl) kb (Nat.le_trans hb hk1) (Nat.le_of_lt hk2) (fun e => by have := (h.own.lt kb e).2; omega) (fun i hi e => by have := (h.lo i hi).2; omega) hkf
  refine ⟨na, nc, X1, g, cap, X, _, _, ?_, hr2, hbX1, hBX, hLX⟩
  simpa using hr1

/-- What stands at the head of each round of the inodes. -/
def CpI (w : World) (d : FD) (vI vD : Value) (wr : World) (j : Nat) : Prop :=
  Below w.heap.size w wr ∧ w.heap.size + 3 ≤ wr.heap.size ∧ OwnRow wr w.heap.size 2 (fun i => if i = 0 then vI else vD) ∧ OwnRow wr (w.heap.size + 1) 2 (fun _ => .slice none 0 0) ∧
    ∃ aX cX u G, OwnRow wr (w.heap.size + 2) 2 (fun i => if i = 0 then .slice aX j cX else .slice none 0 0) ∧ IRow wr (w.heap.size + 3) (.slice aX j cX) j (fun i => d.1[i]?.getD id0) u G
theorem CpI.next {w wr X : World} {d : FD} {vI vD : Value} {j g cap : Nat} {u' : Nat → Value × Value} {G' : Nat → Nat → Prop} (h : CpI w d vI vD wr j) (hX : Below (w.heap.size + 3) wr X) (hL : IRow X (w.heap.size + 3) (.slice (some ⟨g, 0, none⟩) (j + 1) cap) (j + 1) (fun i => d.1[i]?.getD id0) u' G') :
    CpI w d vI vD (X.setCell ⟨w.heap.size + 2, 0, none⟩ (.slice (some ⟨g, 0, none⟩) (j + 1) cap)) (j + 1) := by
  obtain ⟨h1, h2, h3, h4, aX, cX, u, G, h5, _⟩ := h
  refine ⟨(h1.trans (hX.mono (by omega))).setCell (by simp) _, ?_, (h3.block (hX.block _ (by omega))).store (by simp) _, (h4.block (hX.block _ (by omega))).store (by simp) _, some ⟨g, 0, none⟩, cap, u', G', ((h5.block (hX.block _ (by omega))).set 0 _).congr fun i hi => ?_, hL.store (by simp) _⟩
  · have := hX.size; simp [World.setCell]; omega
  · match i, hi with
    | 0, _ => rfl
    | 1, _ => rfl
theorem CpI.row {w wr : World} {d : FD} {vI vD : Value} {j : Nat} (h : CpI w d vI vD wr j) : ∃ aX cX, (wr.cell? ⟨w.heap.size, 0, none⟩ = some vI ∧ wr.cell? ⟨w.heap.size, 1, none⟩ = some vD ∧ wr.cell? ⟨w.heap.size + 2, 0, none⟩ = some (.slice aX j cX) ∧ wr.frozen? ⟨w.heap.size + 2, 0, none⟩ = false) ∧ ∃ u G, IRow wr (w.heap.size + 3) (.slice aX j cX) j (fun i => d.1[i]?.getD id0) u G := by
  obtain ⟨_, _, h3, _, aX, cX, u, G, h5, h6⟩ := h
  exact ⟨aX, cX, ⟨h3.cell (i := 0) (by omega), h3.cell (i := 1) (by omega), h5.cell (i := 0) (by omega), h5.frozen 0⟩, u, G, h6⟩
/-- What stands at the head of each round of the data. -/
def CpD (w : World) (d : FD) (vI vD : Value) (mid : Nat) (wr : World) (j : Nat) : Prop :=
  Below w.heap.size w wr ∧ (w.heap.size + 3 ≤ mid ∧ mid ≤ wr.heap.size) ∧ OwnRow wr w.heap.size 2 (fun i => if i = 0 then vI else vD) ∧ OwnRow wr (w.heap.size + 1) 2 (fun _ => .slice none 0 0) ∧
    ∃ aI cI aX cX k u, OwnRow wr (w.heap.size + 2) 2 (fun i => if i = 0 then .slice aI d.1.length cI else .slice aX j cX) ∧ InosO wr (.slice aI d.1.length cI) d.1 (fun c => w.heap.size + 3 ≤ c ∧ c < mid) ∧ YRow C1 wr mid mid 69 1 (.slice aX j cX) j (fun i => d.2[i]?.getD []) k u
theorem CpD.start {w wr : World} {d : FD} {vI vD : Value} (h : CpI w d vI vD wr d.1.length) : CpD w d vI vD wr.heap.size wr 0 := by
  obtain ⟨h1, h2, h3, h4, aX, cX, u, G, h5, h6⟩ := h
  exact ⟨h1, ⟨h2, Nat.le_refl _⟩, h3, h4, aX, cX, none, 0, fun _ => 0, fun _ => .slice none 0 0, h5, (h6.inos rfl).mono fun c hc => ⟨hc.1, hc.2.1⟩, YRow.nil _ _ _ _ _ _⟩
theorem CpD.next {w wr X : World} {d : FD} {vI vD : Value} {mid j g cap : Nat} {k' : Nat → Nat} {u' : Nat → Value} (h : CpD w d vI vD mid wr j) (hX : Below mid wr X) (hL : YRow C1 X mid mid 69 1 (.slice (some ⟨g, 0, none⟩) (j + 1) cap) (j + 1) (fun i => d.2[i]?.getD []) k' u') :
    CpD w d vI vD mid (X.setCell ⟨w.heap.size + 2, 1, none⟩ (.slice (some ⟨g, 0, none⟩) (j + 1) cap)) (j + 1) := by
  obtain ⟨h1, h2, h3, h4, aI, cI, aX, cX, k, u, h5, h6, _⟩ := h
  refine ⟨(h1.trans (hX.mono (by omega))).setCell (by simp) _, ⟨h2.1, ?_⟩, (h3.block (hX.block _ (by omega))).store (by simp) _, (h4.block (hX.block _ (by omega))).store (by simp) _, aI, cI, some ⟨g, 0, none⟩, cap, k', u', ((h5.block (hX.block _ (by omega))).set 1 _).congr fun i hi => ?_, h6.keep fun c hc _ => ?_, hL.store (by simp; omega) (by simp; omega) _⟩
  · have := hX.size; simp [World.setCell]; omega
  · match i, hi with
    | 0, _ => rfl
    | 1, _ => rfl
  · rw [Below.heap_setCell _ _ _ _ (by simp; omega), hX.block c hc.2]
theorem CpD.row {w wr : World} {d : FD} {vI vD : Value} {mid j : Nat} (h : CpD w d vI vD mid wr j) : ∃ aI cI aX cX, (wr.cell? ⟨w.heap.size, 1, none⟩ = some vD ∧ wr.cell? ⟨w.heap.size + 2, 0, none⟩ = some (.slice aI d.1.length cI) ∧ wr.cell? ⟨w.heap.size + 2, 1, none⟩ = some (.slice aX j cX) ∧ wr.frozen? ⟨w.heap.size + 2, 1, none⟩ = false) ∧ InosO wr (.slice aI d.1.length cI) d.1 (fun c => w.heap.size + 3 ≤ c ∧ c < mid) ∧ ∃ k u, YRow C1 wr mid mid 69 1 (.slice aX j cX) j (fun i => d.2[i]?.getD []) k u := by
  obtain ⟨_, _, h3, _, aI, cI, aX, cX, k, u, h5, h6, h7⟩ := h
  exact ⟨aI, cI, aX, cX, ⟨h3.cell (i := 1) (by omega), h5.cell (i := 0) (by omega), h5.cell (i := 1) (by omega), h5.frozen 1⟩, h6, k, u, h7⟩

set_option maxHeartbeats 6400000 in
theorem l6Copy_any (w : World) (a1 : Option Addr) (n1 c1 : Nat) (a2 : Option Addr) (n2 c2 : Nat) (d : FD) (h : FsR w (.slice a1 n1 c1) (.slice a2 n2 c2) d) (hs : sizeFs d ≤ 1048576) :
    Calls Tryz.prog 17 #[.agg #[.slice a1 n1 c1, .slice a2 n2 c2]] w (AnsFs w d) := by
  obtain ⟨_, _, e1, hm1, hAt⟩ := h.1.open'
  obtain ⟨_, _, e2, hm2, hBt⟩ := h.2.open'
  simp only [Value.slice.injEq] at e1 e2
  obtain ⟨rfl, rfl, rfl⟩ := e1
  obtain ⟨rfl, rfl, rfl⟩ := e2
  have HAT : Hid (AtI w a1 d.1.length d.1) := hAt
  have HBT : Hid (AtYs w a2 d.2.length d.2) := hBt
  have hsz : d.1.length + (isz d.1).sum + (d.2.length + (ylens d.2).sum) ≤ 1048576 := hs
  have HSI : Hid (∀ k : Nat, (d.1[k]?.getD id0).2.2.2.1.length ≤ 1048576 ∧ (d.1[k]?.getD id0).2.2.2.2.length ≤ 1048576) := fun k => by
    have := isz_le d.1 k
    unfold sizeIno sizeN at this
    omega
  have HSY : Hid (∀ k : Nat, (d.2[k]?.getD []).length ≤ 1048576) := fun k => by have := ylens_le d.2 k; omega
  have hn1 : d.1.length ≤ 1048576 := by omega
  have hn2 : d.2.length ≤ 1048576 := by omega
  have HST : Hid (CpI w d (.slice a1 d.1.length c1) (.slice a2 d.2.length c2) (((w.alloc (.cells #[.slice a1 d.1.length c1, .slice a2 d.2.length c2] 29)).alloc (.cells #[.slice none 0 0, .slice none 0 0] 29)).alloc (.cells #[.slice none 0 0, .slice none 0 0] 29)) 0) := by
    have p1 := OwnRow.two w (.slice a1 d.1.length c1) (.slice a2 d.2.length c2) 29
    have p2 := OwnRow.two (w.alloc (.cells #[.slice a1 d.1.length c1, .slice a2 d.2.length c2] 29)) (.slice none 0 0) (.slice none 0 0) 29
    have p3 := OwnRow.two ((w.alloc (.cells #[.slice a1 d.1.length c1, .slice a2 d.2.length c2] 29)).alloc (.cells #[.slice none 0 0, .slice none 0 0] 29)) (.slice none 0 0) (.slice none 0 0) 29
    rw [World.size_alloc] at p2
    rw [World.size_alloc, World.size_alloc] at p3
    exact ⟨later3 _ _ _ _, by simp, p1.later (later2 _ _ _), (p2.later (later1 _ _)).congr fun i _ => by simp, none, 0, _, _, p3, IRow.nil _ _ _⟩
  have HLN : Hid (d.1.length = d.1.length ∧ d.2.length = d.2.length) := ⟨rfl, rfl⟩
  obtain ⟨n, hn⟩ : ∃ n, d.1.length = n := ⟨_, rfl⟩
  obtain ⟨m, hm⟩ : ∃ m, d.2.length = m := ⟨_, rfl⟩
  have HN : Hid (d.1.length = n) := hn
  have HM : Hid (d.2.length = m) := hm
  rw [hn] at HAT HST hn1 ⊢
  rw [hm] at HBT HST hn2 ⊢
  clear h hs hsz hAt hBt hm1 hm2 HLN hn hm
  go_enter Tryz.func17, Tryz.ntmps17
  go_wp2_with fail
  go_loopw [4] (fun i wr => ∃ j : Nat, j ≤ n ∧ i = .int .i64 j ∧ CpI w d (.slice a1 n c1) (.slice a2 m c2) wr j) (fun i _ => n - (intOf i).toNat)
  case atStart => exact ⟨0, Nat.zero_le _, rfl, HST.out⟩
  case round =>
    clear HST
    obtain ⟨j, hj, rfl, hsp⟩ := hrel
    have HSP : Hid (CpI w d (.slice a1 n c1) (.slice a2 m c2) wr j) := hsp
    obtain ⟨aX, cX, ⟨q0, q1, q2, q3⟩, u, G, hy⟩ := hsp.row
    have HY : Hid (IRow wr (w.heap.size + 3) (.slice aX j cX) j (fun i => d.1[i]?.getD id0) u G) := hy
    have hbig : w.heap.size + 3 ≤ wr.heap.size := hsp.2.1
    have HBW : Hid (Below w.heap.size w wr) := hsp.1
    clear hsp hy
    by_cases hlt : j < n
    · obtain ⟨b, off, e, hI⟩ := HAT.out j hlt
      subst e
      obtain ⟨aB, cB, aE, cE, p0, p1, p2, p3, p4, p5⟩ := hI.later HBW.out
      have hbl : b < wr.heap.size := lt_of_cell p0
      have HCP : Hid (Calls Tryz.prog 36 #[.agg #[.int .i64 (d.1[j]?.getD id0).1, .int .i64 (d.1[j]?.getD id0).2.1, .int .i64 (d.1[j]?.getD id0).2.2.1, .slice aB (d.1[j]?.getD id0).2.2.2.1.length cB, .slice aE (d.1[j]?.getD id0).2.2.2.2.length cE]] wr.drew fun e w1 => ∃ b1 m1 e1 b2 m2 e2 g cap X u' G', e = .returned (.agg #[.int .i64 (d.1[j]?.getD id0).1, .int .i64 (d.1[j]?.getD id0).2.1, .int .i64 (d.1[j]?.getD id0).2.2.1, .slice b1 m1 e1, .slice b2 m2 e2]) ∧ Hid (Below wr.heap.size wr w1) ∧
          Hid ((Builtin.append_ #[27, 27] 27 #[.slice aX j cX, .slice (some ⟨w1.heap.size, 0, none⟩) 1 1]).run Tryz.prog (w1.alloc (.cells #[.int .i64 (d.1[j]?.getD id0).1, .int .i64 (d.1[j]?.getD id0).2.1, .int .i64 (d.1[j]?.getD id0).2.2.1, .slice b1 m1 e1, .slice b2 m2 e2] 47)) = .ok (.slice (some ⟨g, 0, none⟩) (j + 1) cap) X) ∧ Hid (Below (w.heap.size + 3) wr X) ∧ Hid (IRow X (w.heap.size + 3) (.slice (some ⟨g, 0, none⟩) (j + 1) cap) (j + 1) (fun i => d.1[i]?.getD id0) u' G')) := by
        refine (l4Copy_any wr.drew aB _ cB aE _ cE (d.1[j]?.getD id0) (p5.later (Below.refl _ _).drew) (HSI.out j).1 (HSI.out j).2).mono ?_
        rintro e w1 ⟨b1, m1, e1, b2, m2, e2, rfl, hb1', ho1⟩
        have hb1 : Below wr.heap.size wr w1 := (Below.refl _ _).drew.trans hb1'
        obtain ⟨g, cap, X, u', G', hr, hBX, _, hL⟩ := IRow.append wr w1 27 (w.heap.size + 3) j _ _ u G HY.out hbig (by omega) hb1 b1 m1 e1 b2 m2 e2 ho1
        exact ⟨b1, m1, e1, b2, m2, e2, g, cap, X, u', G', rfl, hb1, hr, hBX, hL⟩
      clear hI p5 HAT HY HSI
      generalize (d.1[j]?.getD id0).2.2.2.1.length = lB at *
      generalize (d.1[j]?.getD id0).2.2.2.2.length = lE at *
      generalize (d.1[j]?.getD id0).1 = z0 at *
      generalize (d.1[j]?.getD id0).2.1 = z1 at *
      generalize (d.1[j]?.getD id0).2.2.1 = z2 at *
      go_wp2_with fail
      go_region_law (first
        | (refine step_append_run rfl _ _ 27 rfl _ _ rfl rfl _ _ HR.out ?_)
        | (try go_simp; go_at_call 36; refine HCP.out.mono ?_; rintro e w1 ⟨b1, m1, e1, b2, m2, e2, g, cap, X, u', G', rfl, HB1, HR, HBX, HL⟩
           have y2 := cell_later HB1.out q2
           have hw1 : w.heap.size + 2 < w1.heap.size := by have := HB1.out.size; omega
           have x0 : X.cell? ⟨w.heap.size + 2, 0, none⟩ = some (.slice aX j cX) := (HBX.out.cell (p := ⟨w.heap.size + 2, 0, none⟩) (by simp)).trans q2
           have x1 : X.frozen? ⟨w.heap.size + 2, 0, none⟩ = false := (HBX.out.frozen (p := ⟨w.heap.size + 2, 0, none⟩) (by simp)).trans q3))
      all_goals
        clear HCP HR
        go_wp2
        go_roundw
        case rel => exact ⟨j + 1, by omega, by go_num, HSP.out.next HBX.out HL.out⟩
        case measure => simp [intOf]; omega
    · have e : j = n := by omega
      subst e
      clear HY hlt hj HAT HSI hn1
      have HSD : Hid (CpD w d (.slice a1 j c1) (.slice a2 m c2) wr.heap.size wr 0) := CpD.start (by rw [HN.out]; exact HSP.out)
      clear HSP q2 q3 HBW
      generalize wr.heap.size = mid at *
      go_wp2_with fail
      go_loopw [5] (fun i wq => ∃ q : Nat, q ≤ m ∧ i = .int .i64 q ∧ CpD w d (.slice a1 j c1) (.slice a2 m c2) mid wq q) (fun i _ => m - (intOf i).toNat)
      case atStart => exact ⟨0, Nat.zero_le _, rfl, HSD.out⟩
      case round =>
        clear HSD q0 q1
        obtain ⟨q, hq, rfl, hsp⟩ := hrel
        have HSP : Hid (CpD w d (.slice a1 j c1) (.slice a2 m c2) mid wr q) := hsp
        obtain ⟨aI, cI, aX, cX, ⟨q0, q1, q2, q3⟩, hio, k, u, hy⟩ := hsp.row
        have hbig : w.heap.size + 3 ≤ mid ∧ mid ≤ wr.heap.size := hsp.2.1
        have hbig2 : w.heap.size + 2 < wr.heap.size := by omega
        have hbig0 : w.heap.size < wr.heap.size := by omega
        by_cases hlt : q < m
        · obtain ⟨b, off, ua, uc, e, c1', i1⟩ := HBT.out q hlt
          subst e
          have hbl : b < w.heap.size := lt_of_cell c1'
          have hbr : b < wr.heap.size := by omega
          replace c1' := cell_later hsp.1 c1'
          obtain ⟨na, nc, X1, g, cap, X, k', u', hr1, hr2, hb1, hBX, hL⟩ := rndYL wr mid q _ d.2 k u hy hbig.2 (by omega) ua uc (i1.later hsp.1) (HSY.out q)
          have HR1 : Hid (_ = _) := hr1
          have HR2 : Hid (_ = _) := hr2
          have HBX : Hid (Below mid wr X) := hBX
          have HL : Hid (YRow C1 X mid mid 69 1 (.slice (some ⟨g, 0, none⟩) (q + 1) cap) (q + 1) (fun i => d.2[i]?.getD []) k' u') := hL
          have z0 := cell_later hb1 q2
          have z1 := cell_later hb1 c1'
          have z2 := cell_later hb1 q0
          have hw1 : w.heap.size + 2 < X1.heap.size := Nat.lt_of_lt_of_le hbig2 hb1.size
          have hw2 : b < X1.heap.size := by omega
          have hw0 : w.heap.size < X1.heap.size := by omega
          have x0 : X.cell? ⟨w.heap.size + 2, 1, none⟩ = some (.slice aX q cX) := (hBX.cell (p := ⟨w.heap.size + 2, 1, none⟩) (by show w.heap.size + 2 < mid; omega)).trans q2
          have x1 : X.frozen? ⟨w.heap.size + 2, 1, none⟩ = false := (hBX.frozen (p := ⟨w.heap.size + 2, 1, none⟩) (by show w.heap.size + 2 < mid; omega)).trans q3
          clear hsp hy hr1 hr2 hb1 hBX hL i1 hio
          generalize (d.2[q]?.getD []).length = ln at *
          go_wp2_with fail
          go_region_law (first
            | (refine step_append_run rfl _ _ 69 rfl _ _ rfl rfl _ _ HR1.out ?_)
            | (refine step_append_run rfl _ _ 23 rfl _ _ rfl rfl _ _ HR2.out ?_))
          all_goals
            go_wp2
            go_roundw
            case rel => exact ⟨q + 1, by omega, by go_num, HSP.out.next HBX.out HL.out⟩
            case measure => simp [intOf]; omega
        · have e : q = m := by omega
          subst e
          have HIO : Hid (InosO wr (.slice aI d.1.length cI) d.1 (fun c => w.heap.size + 3 ≤ c ∧ c < mid)) := hio
          have HYO : Hid (BytsO wr (.slice aX q cX) d.2 (fun c => mid ≤ c ∧ c < wr.heap.size)) := hy.byts HM.out _ (fun c h1 h2 => ⟨h1, h2⟩) (fun c h1 h2 => ⟨h1, h2⟩)
          have HBW : Hid (Below w.heap.size w wr) := hsp.1
          have hrow := hsp.2.2.2.1
          have t0 := hrow.cell (i := 0) (by omega)
          have t1 := hrow.cell (i := 1) (by omega)
          have s0 := hrow.frozen 0
          have s1 := hrow.frozen 1
          clear hsp hy hio hrow HSP
          generalize d.1.length = nn at *
          go_wp2
          refine bodyPost_ret (v := .agg #[.slice aI nn cI, .slice aX q cX]) (by simp [results, Tryz.results17, go_sem, t0, t1]) rfl ⟨aI, nn, cI, aX, q, cX, rfl, (HBW.out.setCell (by simp) _).setCell (by simp) _, (fun c => w.heap.size + 3 ≤ c ∧ c < mid), (fun c => mid ≤ c ∧ c < wr.heap.size), HIO.out.keep fun b hb _ => ?_, HYO.out.keep fun b hb _ => ?_, fun b h1 h2 => by omega, fun b hb => ?_⟩
          · rw [Below.heap_setCell _ _ _ _ (by simp; omega), Below.heap_setCell _ _ _ _ (by simp; omega)]
          · rw [Below.heap_setCell _ _ _ _ (by simp; omega), Below.heap_setCell _ _ _ _ (by simp; omega)]
          · unfold fresh
            simp only [World.setCell, Array.size_modify]
            rcases hb with hb | hb <;> omega
end Go.Proofs.YtmlfpikhencgcanGreat

namespace Go.Proofs.YtmlfpikhencgcanGreat
open Go.RowKit
set_option maxRecDepth 100000

theorem s5_chg (w : World) (b k : Nat) (x0 x1 x2 x3 x4 : Value) : Chg (fun c => c = b) w (set5F w b k x0 x1 x2 x3 x4) := by
  have h0 : Chg (fun c => c = b) w w := Chg.refl _ _
  have h1 := Chg.set (F := fun c => c = b) h0 rfl k x0
  have h2 := Chg.set (F := fun c => c = b) h1 rfl (k + 1) x1
  have h3 := Chg.set (F := fun c => c = b) h2 rfl (k + 2) x2
  have h4 := Chg.set (F := fun c => c = b) h3 rfl (k + 3) x3
  exact Chg.set (F := fun c => c = b) h4 rfl (k + 4) x4
theorem s5_fs {w : World} {bI n cI bD cD : Nat} {d : FD} {F G : Nat → Prop} (hfs : FsS w bI n cI bD 20 cD d F) (j : Nat) (hj : j < n) (x : ID) (vB vE : Value) (hv : InoU w (.int .i64 x.1) (.int .i64 x.2.1) (.int .i64 x.2.2.1) vB vE x G) (hG : ∀ c, G c → ¬ F c ∧ c < w.heap.size) : FsS (set5F w bI (j * 5) (.int .i64 x.1) (.int .i64 x.2.1) (.int .i64 x.2.2.1) vB vE) bI n cI bD 20 cD (d.1.set j x, d.2) (fun c => F c ∨ G c) := by
  have hne := hfs.ne
  have hl := hfs.len.1
  refine hfs.putI j hj x vB vE (fun u hu => ?_) (s5_chg w bI (j * 5) _ _ _ _ _) (hv.keep fun c hc hlt => (s5_chg w bI (j * 5) _ _ _ _ _).block c hlt fun e => (hG c hc).1 (e ▸ hne.2.1.1)) (fun c hc => ⟨(hG c hc).1, by rw [set5_size]; exact (hG c hc).2⟩)
  exact (hu.five (j * 5) _ _ _ _ _).congr fun c _ => (inCell_set d.1 u j (by omega) x vB vE c).symm

set_option maxHeartbeats 3200000 in
theorem l7Drop_raw (w : World) (bo bI n cI bD cD : Nat) (d : FD) (F : Nat → Prop) (j : Nat) (h0 : w.cell? ⟨bo, 0, none⟩ = some (.slice (some ⟨bI, 0, none⟩) n cI)) (h1 : w.cell? ⟨bo, 1, none⟩ = some (.slice (some ⟨bD, 0, none⟩) 20 cD)) (hfs : FsS w bI n cI bD 20 cD d F) (hFo : ¬ F bo) (hjn : j < n) (_hn10 : n ≤ 10) (hblk : ∀ k : Nat, k < (blkA d j).length → 0 ≤ (blkA d j)[k]?.getD 0 ∧ (blkA d j)[k]?.getD 0 < 20) (h4 : (blkA d j).length ≤ 4) :
    Calls Tryz.prog 38 #[.pointer (some ⟨bo, 0, none⟩), .int .i64 (j : Int)] w fun e w' => e = .returned (.tuple #[]) ∧ Chg (fun c => c = bI ∨ c = bD) w w' ∧ FsS w' bI n cI bD 20 cD (dropD d j) F := by
  obtain ⟨aB, cB, aE, cE, i0, i1, i2, i3, i4, _, i6, i7⟩ := hfs.ino j hjn
  have hne := hfs.ne
  have hoI : bo ≠ bI := fun e => hFo (e ▸ hne.2.1.1)
  have hoD : bo ≠ bD := fun e => hFo (e ▸ hne.2.2.1)
  have hID : bI ≠ bD := hne.1
  have HFS : Hid (FsS w bI n cI bD 20 cD d F) := hfs
  have HBS : Hid (BlkR w bD aB (blkA d j)) := fun k hk => by
    obtain ⟨b, f1, _, _, f4, f5, f6⟩ := i7 k hk
    exact ⟨b, f1, f4, f5, f6⟩
  have HRG : Hid (∀ k : Nat, k < (blkA d j).length → 0 ≤ (blkA d j)[k]?.getD 0 ∧ (blkA d j)[k]?.getD 0 < 20) := hblk
  have HDD : Hid (dropD d j = (d.1.set j id0, clrK d.2 (blkA d j) (blkA d j).length)) := rfl
  replace i3 : w.cell? ⟨bI, j * 5 + 3, none⟩ = some (.slice aB (blkA d j).length cB) := i3
  rw [HDD.out]
  generalize blkA d j = bs at *
  obtain ⟨nB, hnB⟩ : ∃ nB, bs.length = nB := ⟨_, rfl⟩
  have HNB : Hid (bs.length = nB) := hnB
  rw [hnB] at i3 HRG h4 ⊢
  have hjI : (j : Int) < (n : Int) := by omega
  clear hfs i7 hblk hnB HDD i0 i1 i2 i4 i6 hne
  go_enter Tryz.func38, Tryz.ntmps38
  go_wp2_with fail
  go_loopw [4] (fun i wr => ∃ k : Nat, k ≤ nB ∧ i = .int .i64 k ∧ Chg (fun c => c = bD) w wr ∧ FsS wr bI n cI bD 20 cD (d.1, clrK d.2 bs k) F) (fun i _ => nB - (intOf i).toNat)
  case atStart => exact ⟨0, Nat.zero_le _, rfl, Chg.refl _ _, HFS.out⟩
  case round =>
    obtain ⟨k, hk, rfl, hc, hf⟩ := hrel
    have HC : Hid (Chg (fun c => c = bD) w wr) := hc
    have HF : Hid (FsS wr bI n cI bD 20 cD (d.1, clrK d.2 bs k) F) := hf
    have r0 := hc.cellOf h0 hoD
    have r1 := hc.cellOf h1 hoD
    have r3 := hc.cellOf i3 hID
    clear hc hf
    by_cases hlt : k < nB
    · obtain ⟨b1, rfl, hb1, _, c1⟩ := HBS.out k (by rw [HNB.out]; exact hlt)
      have c1r := HC.out.cellOf c1 hb1
      have hrg := HRG.out k hlt
      have HCL : Hid (∀ y : Nat, y < 20 → bs[k]?.getD 0 = (y : Int) → FsS (wr.setCell ⟨bD, y, none⟩ (.slice none 0 0)) bI n cI bD 20 cD (d.1, clrK d.2 bs (k + 1)) F) := fun y hy e => HF.out.clr hy e
      generalize bs[k]?.getD 0 = x at *
      obtain ⟨y, rfl⟩ : ∃ y : Nat, x = (y : Int) := ⟨x.toNat, by omega⟩
      have hy : y < 20 := by omega
      have hyI : (y : Int) < 20 := by omega
      obtain ⟨ua, uc, d0, d1, _⟩ := HF.out.data y hy
      have HN : Hid (FsS (wr.setCell ⟨bD, y, none⟩ (.slice none 0 0)) bI n cI bD 20 cD (d.1, clrK d.2 bs (k + 1)) F) := HCL.out y hy rfl
      have hDb : bD ≠ b1 := fun e => hb1 e.symm
      have hDo : bD ≠ bo := fun e => hoD e.symm
      have hDI : bD ≠ bI := fun e => hID e.symm
      clear HCL hrg c1
      go_wp2_with fail
      go_region_held3 (fun W => W.cell? ⟨bo, 0, none⟩ = some (.slice (some ⟨bI, 0, none⟩) n cI) ∧ W.cell? ⟨bo, 1, none⟩ = some (.slice (some ⟨bD, 0, none⟩) 20 cD) ∧ W.cell? ⟨bI, j * 5 + 3, none⟩ = some (.slice (some ⟨b1, 0, none⟩) nB cB) ∧ W.cell? ⟨b1, k, none⟩ = some (.int .i64 (y : Int))) (go_keep) (fail)
      all_goals
        go_wp2
        go_roundw
        case rel => exact ⟨k + 1, by omega, by go_num, by first | exact HC.out.set rfl _ _ | exact (HC.out.set rfl _ _).trans (Chg.of_below (Below.refl _ _).drew) | exact (HC.out.trans (Chg.of_below (Below.refl _ _).drew)).set rfl _ _, by first | exact HN.out | exact HN.out.later (Below.refl _ _).drew⟩
        case measure => simp [intOf]; omega
    · have e : k = nB := by omega
      subst e
      obtain ⟨_, _, _, _, z0, z1, z2, z3, z4, _, z6, _⟩ := HF.out.ino j hjn
      have z50 := z6 (j * 5)
      have z51 := z6 (j * 5 + 1)
      have z52 := z6 (j * 5 + 2)
      have z53 := z6 (j * 5 + 3)
      have z54 := z6 (j * 5 + 4)
      have HN : Hid (FsS (set5F wr bI (j * 5) (.int .i64 0) (.int .i64 0) (.int .i64 0) (.slice none 0 0) (.slice none 0 0)) bI n cI bD 20 cD (d.1.set j id0, clrK d.2 bs k) F) := (s5_fs (G := fun _ => False) HF.out j hjn id0 (.slice none 0 0) (.slice none 0 0) (setZ_ino _ _) (fun c hc => hc.elim)).mono fun c hc => hc.elim id False.elim
      have HC2 : Hid (Chg (fun c => c = bI ∨ c = bD) w (set5F wr bI (j * 5) (.int .i64 0) (.int .i64 0) (.int .i64 0) (.slice none 0 0) (.slice none 0 0))) := (HC.out.mono fun b hb => Or.inr hb).trans ((s5_chg wr bI (j * 5) _ _ _ _ _).mono fun b hb => Or.inl hb)
      clear z6
      dsimp only at z0 z1 z2 z3 z4
      generalize (d.1[j]?.getD id0).2.2.2.2.length = l2 at *
      generalize (d.1[j]?.getD id0).1 = y0 at *
      generalize (d.1[j]?.getD id0).2.1 = y1 at *
      generalize (d.1[j]?.getD id0).2.2.1 = y2 at *
      generalize (d.1[j]?.getD id0).2.2.2.1.length = l3 at *
      go_wp2
      go_end0
      exact ⟨rfl, HC2.out, HN.out⟩
theorem l7Drop_any (w : World) (bo bI n cI bD cD : Nat) (d : FD) (F : Nat → Prop) (j : Nat) (h0 : w.cell? ⟨bo, 0, none⟩ = some (.slice (some ⟨bI, 0, none⟩) n cI)) (h1 : w.cell? ⟨bo, 1, none⟩ = some (.slice (some ⟨bD, 0, none⟩) 20 cD)) (hfs : FsS w bI n cI bD 20 cD d F) (hFo : ¬ F bo) (hn : d.1.length = n) (hsd : Sound d j) :
    Calls Tryz.prog 38 #[.pointer (some ⟨bo, 0, none⟩), .int .i64 (j : Int)] w fun e w' => e = .returned (.tuple #[]) ∧ Chg (fun c => c = bI ∨ c = bD) w w' ∧ FsS w' bI n cI bD 20 cD (dropD d j) F :=
  l7Drop_raw w bo bI n cI bD cD d F j h0 h1 hfs hFo (by have := hsd.lt; omega) (by have := hsd.ten; omega) hsd.blk hsd.four
end Go.Proofs.YtmlfpikhencgcanGreat

namespace Go.Proofs.YtmlfpikhencgcanGreat
open Go.RowKit
set_option maxRecDepth 100000

theorem spanInos_each {ds : List ID} {m : Nat} (h : ∀ i : Nat, spanIno (ds[i]?.getD id0) ≤ m) : spanInos ds ≤ (3 + m) * ds.length := by
  unfold spanInos isp
  induction ds with
  | nil => simp
  | cons x ds ih =>
    have h0 := h 0
    have := ih fun i => by have := h (i + 1); simpa using this
    simp at h0
    simp only [List.map_cons, List.sum_cons, List.length_cons, Nat.mul_add, Nat.mul_one]
    omega
theorem fsF_spans {d : FD} (h : fsF d = 0) (i : Nat) : spanIno (d.1[i]?.getD id0) ≤ 16 := by
  obtain ⟨h1, _, _, _, _⟩ := fsE_zero (fsF_zero h)
  by_cases hi : i < d.1.length
  · have hz := ino_size (ins_ino h1 i hi)
    have h6 := ino_six (ins_ino h1 i hi)
    unfold spanIno
    omega
  · rw [List.getElem?_eq_none (by omega)]
    simp [spanIno, id0]
theorem set_span {ds : List ID} {m : Nat} (h : ∀ i : Nat, spanIno (ds[i]?.getD id0) ≤ m) (j : Nat) (x : ID) (hx : spanIno x ≤ m) (i : Nat) : spanIno ((ds.set j x)[i]?.getD id0) ≤ m := by
  rw [List.getElem?_set]
  by_cases e : j = i
  · rw [if_pos e]
    by_cases hl : j < ds.length
    · rw [if_pos hl]; exact hx
    · rw [if_neg hl]; simp [spanIno, id0]
  · rw [if_neg e]; exact h i
theorem noFs_span (c : Int) : spanFs (noFs c).2 = 0 := by simp [noFs, spanFs, spanInos, isp, ylens]
theorem dropR_span (d : FD) (x : Int) : spanFs (dropR d x).2 ≤ 1000 := by
  unfold dropR
  by_cases hc : (bytR d x).1 = 0
  · rw [if_pos hc]
    have hs := sound hc
    show spanFs (dropD d x.toNat) ≤ 1000
    unfold spanFs dropD
    have e1 := spanInos_each (set_span (fsF_spans hs.fs) x.toNat id0 (by simp [spanIno, id0]))
    have e2 := ylens_eight (clrK_le hs.eight (blkA d x.toNat) (blkA d x.toNat).length)
    rw [clrK_length, hs.dat] at e2
    rw [List.length_set] at e1
    have := hs.ten
    dsimp only
    omega
  · rw [if_neg hc, noFs_span]; omega
end Go.Proofs.YtmlfpikhencgcanGreat

namespace Go.Proofs.YtmlfpikhencgcanGreat
open Go.RowKit
set_option maxRecDepth 100000

theorem ins_spans {ds : List ID} (h1 : insF ds = 0) (i : Nat) : spanIno (ds[i]?.getD id0) ≤ 16 := by
  by_cases hi : i < ds.length
  · have hz := ino_size (ins_ino h1 i hi)
    have h6 := ino_six (ins_ino h1 i hi)
    unfold spanIno
    omega
  · rw [List.getElem?_eq_none (by omega)]
    simp [spanIno, id0]
theorem insE_len (es : List EN) (k : Nat) (e : EN) : (insE es k e).length = es.length + 1 := by
  unfold insE
  rw [List.length_append, List.length_append, List.length_take, List.length_drop]
  simp
  omega
theorem addR_span (d : FD) (x : Int) (s : ByteArray) (y : Int) : spanFs (addR d x s y).2 ≤ 1000 := by
  unfold addR
  by_cases hc : dirN d x s = 0
  · rw [if_pos hc]
    have hs := dirS (dirN_in hc)
    generalize x.toNat = j at *
    unfold addQ
    by_cases h1 : idxE (entA d j) s < (entA d j).length
    · rw [if_pos h1, noFs_span]; omega
    · rw [if_neg h1]
      by_cases h2 : 0 ≤ y ∧ y < (d.1.length : Int) ∧ ¬ kindAt d.1 y.toNat = 0
      · rw [if_pos h2]
        by_cases h3 : (entA d j).length = 6 ∨ (kindAt d.1 y.toNat = 1 ∧ 60 ≤ (d.1[y.toNat]?.getD id0).2.1)
        · rw [if_pos h3, noFs_span]; omega
        · rw [if_neg h3]
          show spanFs (addD d j s y.toNat) ≤ 1000
          have hl := insE_len (entA d j) (plcE (entA d j) s) (s, ((y.toNat : Nat) : Int))
          have h6 := hs.six
          have e1 := set_span (ins_spans hs.ins) j ((d.1[j]?.getD id0).1, (d.1[j]?.getD id0).2.1, (d.1[j]?.getD id0).2.2.1, [], insE (entA d j) (plcE (entA d j) s) (s, ((y.toNat : Nat) : Int))) (by unfold spanIno; simp only [List.length_nil]; rw [hl]; omega)
          have e2 := ylens_eight hs.eight
          have hd := hs.dat
          have ht := hs.ten
          unfold addD
          by_cases h4 : kindAt d.1 y.toNat = 1
          · rw [if_pos h4]
            unfold lnkD entD spanFs
            dsimp only
            have e3 := spanInos_each (set_span e1 y.toNat (((d.1.set j ((d.1[j]?.getD id0).1, (d.1[j]?.getD id0).2.1, (d.1[j]?.getD id0).2.2.1, [], insE (entA d j) (plcE (entA d j) s) (s, ((y.toNat : Nat) : Int))))[y.toNat]?.getD id0).1, (d.1[y.toNat]?.getD id0).2.1 + 1, ((d.1.set j ((d.1[j]?.getD id0).1, (d.1[j]?.getD id0).2.1, (d.1[j]?.getD id0).2.2.1, [], insE (entA d j) (plcE (entA d j) s) (s, ((y.toNat : Nat) : Int))))[y.toNat]?.getD id0).2.2) (by have := e1 y.toNat; unfold spanIno at this ⊢; exact this))
            rw [List.length_set, List.length_set] at e3
            omega
          · rw [if_neg h4]
            unfold entD spanFs
            dsimp only
            have e3 := spanInos_each e1
            rw [List.length_set] at e3
            omega
      · rw [if_neg h2, noFs_span]; omega
  · rw [if_neg hc, noFs_span]; omega
section
variable {P : Program} {w : World}
/-- append within a region that draws its order: what it comes to is told by a property. -/
theorem step_append_ex {ops : Array Oper} {o : Oper} {a : Act} {K : Act → World → Prop} {Q : Exit → Act → World → Prop} {E : Prop} (hgd : o.guard = none) (s x : Operand) (t : TypeId)
    (ho : o.op = .call { callee := .builtin .append, args := #[s, x], argTypes := #[t, t] }) (v y : Value) (hs : a.eval s = v) (hx : a.eval x = y) (R : Value → World → Prop)
    (hr : ∃ v' w', (Builtin.append_ #[t, t] o.type #[v, y]).run P w = .ok v' w' ∧ R v' w') (h : ∀ v' w', R v' w' → K (a.put o.dst v') w') : if Region.wanted o (yielded ops a.tmps) = true then Oper.wp P o a w K Q else E := by
  obtain ⟨v', w', h1, h2⟩ := hr
  exact step_append_run hgd s x t ho v y hs hx v' w' h1 (h v' w' h2)
end
end Go.Proofs.YtmlfpikhencgcanGreat

namespace Go.Proofs.YtmlfpikhencgcanGreat
open Go.RowKit
set_option maxRecDepth 100000

theorem AtN.keepB {w X : World} {b n : Nat} {es : List EN} (h : AtN w (some ⟨b, 0, none⟩) n es) (e : X.heap[b]? = w.heap[b]?) : AtN X (some ⟨b, 0, none⟩) n es := fun k hk => by
  obtain ⟨b', off, e1, c0, c1⟩ := h k hk
  simp only [Option.some.injEq, Addr.mk.injEq, and_true] at e1
  obtain ⟨rfl, rfl⟩ := e1
  exact ⟨b, 0, rfl, (World.cell?_of_block (w := w) e).trans c0, (World.cell?_of_block (w := w) e).trans c1⟩
/-- Entries behind those that are there; all other blocks are as they were. -/
theorem WdE.pushO (w : World) (ty : TypeId) (n₀ : Nat) (v : Value) (es fs : List EN) (h : WdE w n₀ v es) (hn₀ : n₀ ≤ w.heap.size) (a : Option Addr) (m c : Nat) (hm : fs.length = m) (hc : AtN w a m fs) (hl : es.length + m ≤ 1048576) :
    ∃ v' X, (Builtin.append_ #[45, 45] ty #[v, .slice a m c]).run Tryz.prog w = .ok v' X ∧ (WdE X n₀ v' (es ++ fs) ∧ Below n₀ w X ∧ ∀ b, b < w.heap.size → ¬ v.ownBlock = some b → X.heap[b]? = w.heap[b]?) := by
  subst hm
  obtain ⟨i, hi, h1, h2, h3⟩ := Tryz.infoEnt'
  by_cases h0 : fs.length = 0
  · have hfs : fs = [] := List.eq_nil_of_length_eq_zero h0
    subst hfs
    obtain ⟨av, cv, rfl⟩ := h.shape
    refine ⟨_, w, ?_, by rw [List.append_nil]; exact h, Below.refl _ _, fun _ _ _ => rfl⟩
    have hcv : es.length ≤ cv := by
      obtain ⟨_, h | ⟨g, cap, cur, e, hb, hh, hnc, _⟩⟩ := h
      · have := h.2; omega
      · simp only [Value.slice.injEq] at e; omega
    cases a <;> cases av <;> simp [Builtin.append_, run_underlying Tryz.underlying45, sizeOf, typeInfo, hi, Builtin.lenOf, Builtin.firstCells, storeCells, loadCells, loadCellsFrom, hcv]
  · obtain ⟨b, off, rfl, _⟩ := hc 0 (by omega)
    obtain ⟨v', X, hr, ho, hg, _⟩ := run_append_own_wide (P := Tryz.prog) w n₀ 45 ty 73 i _ 2 24 Tryz.underlying45 hi h1 h2 h3 rfl (by decide) v es.length (enCells es) h ⟨b, off, none⟩ fs.length c (enCells fs) (enCells_length fs) (fun j u hu => hc.cells rfl j u hu) (enCells_one fs) (by unfold maxLen; omega) (by omega) hn₀
    refine ⟨v', X, hr, ?_, below_grown hg hn₀ (fun k hk => ?_), fun b hb hne => hg.block b hb (fun e => hne e.symm)⟩
    · unfold WdE
      rw [List.length_append, enCells_append]
      exact ho
    · rcases h.2 with ⟨rfl, _⟩ | ⟨g, cap, cur, rfl, hb, _⟩
      · simp [Value.ownBlock] at hk
      · simp [Value.ownBlock] at hk; omega

end Go.Proofs.YtmlfpikhencgcanGreat

namespace Go.Proofs.YtmlfpikhencgcanGreat
open Go.RowKit
set_option maxRecDepth 100000

/-- What l8Add comes to: the code, and the file system behind it. -/
def addZ (d : FD) (j : Nat) (s : ByteArray) (y : Int) : FD := if (addQ d j s y).1 = 0 then (addQ d j s y).2 else d
theorem FsS.boundF {w : World} {bI n cI bD m cD : Nat} {d : FD} {F : Nat → Prop} (h : FsS w bI n cI bD m cD d F) : FsS w bI n cI bD m cD d (fun c => F c ∧ c < w.heap.size) := by
  obtain ⟨F1, G1, h1, h2, h3, h4⟩ := h
  exact ⟨F1, G1, h1, h2, h3, fun b hb => ⟨h4 b hb, (h4 b hb).2⟩⟩
theorem FsS.fsx {w : World} {bo bI n cI bD cD : Nat} {d : FD} {F : Nat → Prop} (hfs : FsS w bI n cI bD 20 cD d F) (h0 : w.cell? ⟨bo, 0, none⟩ = some (.slice (some ⟨bI, 0, none⟩) n cI)) (h1 : w.cell? ⟨bo, 1, none⟩ = some (.slice (some ⟨bD, 0, none⟩) 20 cD)) : FsX w bo 0 d (some ⟨bI, 0, none⟩) cI (some ⟨bD, 0, none⟩) cD := by
  have hl := hfs.len
  have hr := hfs.fs.reads
  exact ⟨by rw [hl.1]; exact h0, by rw [hl.2]; exact h1, by rw [hl.1]; exact hr.1, by rw [hl.2]; exact hr.2⟩

end Go.Proofs.YtmlfpikhencgcanGreat

namespace Go.Proofs.YtmlfpikhencgcanGreat
open Go.RowKit
set_option maxRecDepth 100000

set_option maxHeartbeats 6400000 in
theorem l8Take_any (w : World) (bo bI n cI bD cD : Nat) (d : FD) (F : Nat → Prop) (j k : Nat) (h0 : w.cell? ⟨bo, 0, none⟩ = some (.slice (some ⟨bI, 0, none⟩) n cI)) (_h1 : w.cell? ⟨bo, 1, none⟩ = some (.slice (some ⟨bD, 0, none⟩) 20 cD)) (hfs : FsS w bI n cI bD 20 cD d F) (hn : d.1.length = n) (hjn : j < n) (_hten : n ≤ 10) (hsix : (entA d j).length ≤ 6) (hblk : (d.1[j]?.getD id0).2.2.2.1 = []) (hk : k < (entA d j).length) :
    Calls Tryz.prog 18 #[.pointer (some ⟨bo, 0, none⟩), .int .i64 (j : Int), .int .i64 (k : Int)] w fun e w' => e = .returned (.int .i64 ((entA d j)[k]?.getD en0).2) ∧ Chg (fun c => c = bI) w w' ∧ FsS w' bI n cI bD 20 cD (entD d j (delE (entA d j) k)) (fun c => F c ∨ w.heap.size ≤ c) := by
  have hjI : (j : Int) < (n : Int) := by omega
  obtain ⟨aB, cB, aE, cE, -, -, -, -, k4, hE⟩ := FsR.five hfs.fs.reads (j := j) (by omega)
  rw [Nat.zero_add] at k4
  obtain ⟨-, hcE, hAt, -, hZ⟩ := hE.cap
  obtain ⟨_, _, _, _, -, -, -, -, -, -, i6, -⟩ := hfs.ino j hjn
  have k4f := i6 (j * 5 + 4)
  have hne := hfs.ne
  have hlo : bo < w.heap.size := World.block_lt_of_cell? _ _ h0
  have hlI : bI < w.heap.size := hne.2.1.2
  have HFS : Hid (FsS w bI n cI bD 20 cD d F) := hfs
  have HZZ : Hid (∀ i : Nat, ((delE (entA d j) k)[i]?.getD en0).1.size ≤ maxLen) := delE_size hk hZ
  have HED : Hid (∀ es, entD d j es = (d.1.set j ((d.1[j]?.getD id0).1, (d.1[j]?.getD id0).2.1, (d.1[j]?.getD id0).2.2.1, [], es), d.2)) := fun _ => rfl
  have HBK : Hid ((d.1[j]?.getD id0).2.2.2.1 = []) := hblk
  have HAT : Hid (AtN w aE (entA d j).length (entA d j)) := hAt
  obtain ⟨b, off, rfl, _, c1⟩ := hAt k hk
  clear hfs hE hAt hZ i6 hne hblk
  have HDE : Hid (delE (entA d j) k = (entA d j).take k ++ (entA d j).drop (k + 1)) := rfl
  generalize entA d j = es at *
  obtain ⟨m, hm⟩ : ∃ m, es.length = m := ⟨_, rfl⟩
  have HM : Hid (es.length = m) := hm
  rw [hm] at k4 hcE HAT hk hsix
  clear hm
  generalize hnes : delE es k = nes at *
  clear hnes
  obtain ⟨k1, hk1⟩ : ∃ k1, k + 1 = k1 := ⟨_, rfl⟩
  rw [hk1] at HDE
  have hwr : IntKind.i64.wrap ((k : Int) + 1) = (k1 : Int) := by
    rw [show (k : Int) + 1 = (k1 : Int) by omega]
    exact wrap_in _ (by omega) (by omega)
  have hk1I : (k1 : Int) ≤ (m : Int) := by omega
  have hk1N : k1 ≤ m := by omega
  have hkI : (k : Int) < (m : Int) := by omega
  have hkc : k ≤ cE := by omega
  have hkk1 : k ≤ k1 := by omega
  have hlt1 : (es.take k).length = k := by rw [List.length_take, HM.out]; omega
  have HL1 : Hid ((es.take k).length = k) := hlt1
  have HTK : Hid (∀ W, Below w.heap.size w W → AtN W (some ⟨b, off, none⟩) k (es.take k)) := fun W hW => ((HAT.out.take k (by omega)).later hW)
  have HDL : Hid ((es.drop k1).length = m - k1) := by unfold Hid; rw [List.length_drop, HM.out]
  have HTL : Hid (∀ W, Below w.heap.size w W → AtN W (some ⟨b, off + k1 * 2, none⟩) (m - k1) (es.drop k1)) := fun W hW => (HAT.out.drop k1).later hW
  have HT0 : Hid (cE = k1 → ∀ W A, AtN W A (m - k1) (es.drop k1)) := fun e W A i hi => by omega
  have HA1 : Hid (WdE (w.drew.alloc (.cells #[] 73)) w.heap.size (.slice (some ⟨w.heap.size, 0, none⟩) 0 0) []) := WdE.lit0 w.drew w.heap.size (Nat.le_refl _)
  have HCELL : Hid (∀ W, Below w.heap.size w W → W.cell? ⟨bo, 0, none⟩ = some (.slice (some ⟨bI, 0, none⟩) n cI) ∧ W.cell? ⟨bI, j * 5 + 4, none⟩ = some (.slice (some ⟨b, off, none⟩) m cE) ∧ W.frozen? ⟨bI, j * 5 + 4, none⟩ = false) := fun W hW => ⟨cell_later hW h0, cell_later hW k4, (hW.frozen (p := ⟨bI, j * 5 + 4, none⟩) hlI).trans k4f⟩
  have HEND : Hid (∀ X a q c, Below w.heap.size w X → WdE X w.heap.size (.slice a q c) nes → Chg (fun c => c = bI) w (X.setCell ⟨bI, j * 5 + 4, none⟩ (.slice a q c)) ∧ FsS (X.setCell ⟨bI, j * 5 + 4, none⟩ (.slice a q c)) bI n cI bD 20 cD (entD d j nes) (fun c => F c ∨ w.heap.size ≤ c)) := fun X a q c hX hw => ⟨Chg.set (F := fun c => c = bI) (Chg.of_below hX) rfl _ _, (((HFS.out.boundF.later hX).entS j hjn HBK.out nes _ (hw.own HZZ.out) (fun c hc => ⟨fun hh => by have := hh.2; have := hc.1; omega, hc.2⟩)).mono fun c hh => by
    rcases hh with hh | hh
    · exact Or.inl hh.1
    · exact Or.inr hh.1)⟩
  have HF1 : Hid True := trivial
  generalize hy : (es[k]?.getD en0).2 = y at *
  clear hlt1 hk1 hy HAT HFS HBK HZZ HED
  by_cases hce : cE = k1
  all_goals
    go_enter Tryz.func18, Tryz.ntmps18
    go_wp2_with fail
    go_region_law (first
      | (have f1 := HF1.out; clear HF1 f1
         refine step_append_ex rfl _ _ 45 rfl _ _ rfl rfl _ (WdE.pushO _ 45 w.heap.size _ [] (es.take k) HA1.out (by simp) _ _ _ HL1.out (HTK.out _ ((Below.refl _ _).drew.trans (later1 w.drew _))) (by simp; omega)) ?_
         rintro v1 X1 ⟨hw1, hb1, _⟩
         rw [List.nil_append] at hw1
         obtain ⟨p1, q1, e1⟩ := hw1.shape
         rw [HL1.out] at e1
         subst e1
         have HW1 : Hid (WdE X1 w.heap.size (.slice p1 k q1) (es.take k)) := hw1
         have HX1 : Hid (Below w.heap.size w X1) := (Below.refl _ _).drew.trans ((later1 w.drew _).trans hb1)
         obtain ⟨g0, g1, g2⟩ := HCELL.out X1 HX1.out
         clear hw1 hb1)
      | (have f2 := HW1.out; clear HW1
         refine step_append_ex rfl _ _ 45 rfl _ _ rfl rfl _ (WdE.pushO _ 45 w.heap.size _ (es.take k) (es.drop k1) f2 HX1.out.size _ _ _ HDL.out (by first | exact HTL.out _ HX1.out | exact HT0.out hce _ _) (by rw [HL1.out]; omega)) ?_
         rintro v2 X2 ⟨hw2, hb2, _⟩
         rw [← HDE.out] at hw2
         obtain ⟨p2, q2, e2⟩ := hw2.shape
         subst e2
         have HX2 : Hid (Below w.heap.size w X2) := HX1.out.trans hb2
         have HFIN := HEND.out X2 _ _ _ HX2.out hw2
         have HC3 : Hid (Chg (fun c => c = bI) w _) := HFIN.1
         have HF3 : Hid (FsS _ bI n cI bD 20 cD (entD d j nes) (fun c => F c ∨ w.heap.size ≤ c)) := HFIN.2
         obtain ⟨g3, g4, g5⟩ := HCELL.out X2 HX2.out
         clear hw2 hb2 f2 HFIN)
      | fail)
    all_goals
      go_wp2
      all_goals
        go_ret
        first
          | exact ⟨rfl, HC3.out, HF3.out⟩
          | exact ⟨rfl, HC3.out.trans (Chg.of_below (Below.refl _ _).drew), HF3.out.later (Below.refl _ _).drew⟩
end Go.Proofs.YtmlfpikhencgcanGreat

namespace Go.Proofs.YtmlfpikhencgcanGreat
open Go.RowKit
set_option maxRecDepth 100000

theorem allE_lnk (d : FD) (z : Nat) (l : Int) : allE (lnkD d z l).1 = allE d.1 := by
  unfold lnkD allE
  dsimp only
  by_cases hz : z < d.1.length
  · have e : d.1 = d.1.set z (d.1[z]?.getD id0) := by rw [List.getElem?_eq_getElem hz, Option.getD_some, List.set_getElem_self]
    conv => rhs; rw [e]
    rw [List.flatMap_def, List.flatMap_def, List.map_set, List.map_set]
  · rw [List.set_eq_of_length_le (by omega)]
theorem lnk_drop (d : FD) (z : Nat) (l : Int) (hz : z < d.1.length) : dropD (lnkD d z l) z = dropD d z := by
  have hb : blkA (lnkD d z l) z = blkA d z := by
    unfold blkA lnkD
    dsimp only
    rw [set_getD _ _ _ _ _ hz, if_pos rfl]
  unfold dropD
  rw [hb]
  unfold lnkD
  dsimp only
  rw [List.set_set]
theorem lnk_lnk (d : FD) (z : Nat) (l k : Int) (hz : z < d.1.length) : lnkD (lnkD d z l) z k = lnkD d z k := by
  unfold lnkD
  dsimp only
  rw [set_getD _ _ _ _ _ hz, if_pos rfl, List.set_set]
/-- What one entry less comes to. -/
def lessD (d : FD) (z : Nat) : FD := if (d.1[z]?.getD id0).1 = 1 then unlD d z else d
set_option maxHeartbeats 6400000 in
theorem l8Less_any (w : World) (bo bI n cI bD cD : Nat) (d : FD) (F : Nat → Prop) (z : Nat) (h0 : w.cell? ⟨bo, 0, none⟩ = some (.slice (some ⟨bI, 0, none⟩) n cI)) (h1 : w.cell? ⟨bo, 1, none⟩ = some (.slice (some ⟨bD, 0, none⟩) 20 cD)) (hfs : FsS w bI n cI bD 20 cD d F) (hFo : ¬ F bo) (hn : d.1.length = n) (hzn : z < n) (hins : insF d.1 = 0) :
    Calls Tryz.prog 19 #[.pointer (some ⟨bo, 0, none⟩), .int .i64 (z : Int)] w fun e w' => e = .returned (.tuple #[]) ∧ Chg (fun c => c = bI ∨ c = bD) w w' ∧ FsS w' bI n cI bD 20 cD (lessD d z) F := by
  have hzI : (z : Int) < (n : Int) := by omega
  have hten : n ≤ 10 := by have := insF_ten hins; omega
  have hne := hfs.ne
  have hoI : bo ≠ bI := fun e => hFo (e ▸ hne.2.1.1)
  have hIo : bI ≠ bo := fun e => hoI e.symm
  obtain ⟨_, _, _, _, z0, z1, -, -, -, -, i6, -⟩ := hfs.ino z hzn
  have z1f := i6 (z * 5 + 1)
  have HFS : Hid (FsS w bI n cI bD 20 cD d F) := hfs
  have HLS : Hid (lessD d z = if (d.1[z]?.getD id0).1 = 1 then unlD d z else d) := rfl
  rw [HLS.out]
  have hzi := ins_ino hins z (by omega)
  clear HLS i6
  by_cases hk : (d.1[z]?.getD id0).1 = 1
  rotate_left
  · rw [if_neg hk]
    have hkb : ((d.1[z]?.getD id0).1 != 1) = true := by simpa using hk
    clear hfs hins hne hzi hk
    generalize (d.1[z]?.getD id0).1 = kd at *
    go_enter Tryz.func19, Tryz.ntmps19
    go_wp2
    (try simp only [Exit.inBlock, Exit.then])
    refine bodyPost_ret (results_none rfl _ _ _) rfl ?_
    exact ⟨rfl, Chg.refl _ _, HFS.out⟩
  · rw [if_pos hk]
    have hkb : ((d.1[z]?.getD id0).1 != 1) = false := by simpa using hk
    have hl := ino_lnk hzi hk
    have hb4 : (blkA d z).length ≤ 4 := by have := ino_size hzi; unfold blkA; omega
    have HUN : Hid (unlD d z = if 1 < (d.1[z]?.getD id0).2.1 then lnkD d z ((d.1[z]?.getD id0).2.1 - 1) else if (allE d.1).count (z : Int) = 0 then dropD d z else d) := rfl
    rw [HUN.out]
    have hself := lnkD_self d z (by omega)
    generalize hkl : (d.1[z]?.getD id0).2.1 = kl at *
    have HKL : Hid ((d.1[z]?.getD id0).2.1 = kl) := hkl
    have HSELF : Hid (lnkD d z kl = d) := hself
    have HF1 : Hid (FsS (w.setCell ⟨bI, z * 5 + 1, none⟩ (.int .i64 (kl - 1))) bI n cI bD 20 cD (lnkD d z (kl - 1)) F) := hfs.lnkS z hzn (kl - 1)
    have hC1 : Chg (fun c => c = bI) w (w.setCell ⟨bI, z * 5 + 1, none⟩ (.int .i64 (kl - 1))) := Chg.set (F := fun c => c = bI) (Chg.refl _ w) rfl _ _
    have HC1 : Hid (Chg (fun c => c = bI ∨ c = bD) w (w.setCell ⟨bI, z * 5 + 1, none⟩ (.int .i64 (kl - 1)))) := hC1.mono fun c hc => Or.inl hc
    have r0 := hC1.cellOf h0 hoI
    have r1 := hC1.cellOf h1 hoI
    have hlen1 : (lnkD d z (kl - 1)).1.length = n := by unfold lnkD; dsimp only; rw [List.length_set]; exact hn
    obtain ⟨_, _, _, _, -, y1, -, -, -, -, j6, -⟩ := HF1.out.ino z hzn
    have y1f := j6 (z * 5 + 1)
    have e1 : ((lnkD d z (kl - 1)).1[z]?.getD id0).2.1 = kl - 1 := by unfold lnkD; dsimp only; rw [set_getD _ _ _ _ _ (by omega), if_pos rfl]
    rw [e1] at y1
    have HLK : Hid (∀ q, Calls Tryz.prog 37 #[.slice (some ⟨bI, 0, none⟩) n cI, .int .i64 (z : Int)] ((w.setCell ⟨bI, z * 5 + 1, none⟩ (.int .i64 (kl - 1))).drewN q) fun e w' => e = .returned (.int .i64 (((allE d.1).count (z : Int) : Nat) : Int)) ∧ ∃ m, w' = ((w.setCell ⟨bI, z * 5 + 1, none⟩ (.int .i64 (kl - 1))).drewN q).drewN m) := fun q => by
      have hsm : sizeInos (lnkD d z (kl - 1)).1 ≤ 1048576 := by
        have h410 := ins_small hins
        have : sizeInos (lnkD d z (kl - 1)).1 = sizeInos d.1 := by
          unfold sizeInos isz lnkD
          dsimp only
          rw [List.length_set, List.map_set]
          have e2 : sizeIno ((d.1[z]?.getD id0).1, kl - 1, (d.1[z]?.getD id0).2.2) = (d.1.map sizeIno)[z]'(by rw [List.length_map]; omega) := by
            rw [List.getElem_map, List.getElem?_eq_getElem (by omega)]; rfl
          rw [e2, List.set_getElem_self]
        omega
      have := l5Links_any (w := (w.setCell ⟨bI, z * 5 + 1, none⟩ (.int .i64 (kl - 1))).drewN q) (((HF1.out.later (below_drewN (Below.refl _ _) q)).fs.reads).1) hsm (z : Int)
      rw [allE_lnk] at this
      exact this
    have HDR : Hid (∀ q, ((w.setCell ⟨bI, z * 5 + 1, none⟩ (.int .i64 (kl - 1))).drewN q).cell? ⟨bo, 0, none⟩ = some (.slice (some ⟨bI, 0, none⟩) n cI) → ((w.setCell ⟨bI, z * 5 + 1, none⟩ (.int .i64 (kl - 1))).drewN q).cell? ⟨bo, 1, none⟩ = some (.slice (some ⟨bD, 0, none⟩) 20 cD) → Calls Tryz.prog 38 #[.pointer (some ⟨bo, 0, none⟩), .int .i64 (z : Int)] ((w.setCell ⟨bI, z * 5 + 1, none⟩ (.int .i64 (kl - 1))).drewN q) fun e w' => e = .returned (.tuple #[]) ∧ Chg (fun c => c = bI ∨ c = bD) ((w.setCell ⟨bI, z * 5 + 1, none⟩ (.int .i64 (kl - 1))).drewN q) w' ∧ FsS w' bI n cI bD 20 cD (dropD d z) F) := fun q g0 g1 => by
      have hbk : blkA (lnkD d z (kl - 1)) z = blkA d z := by
        unfold blkA lnkD
        dsimp only
        rw [set_getD _ _ _ _ _ (by omega), if_pos rfl]
      have := l7Drop_raw ((w.setCell ⟨bI, z * 5 + 1, none⟩ (.int .i64 (kl - 1))).drewN q) bo bI n cI bD cD (lnkD d z (kl - 1)) F z g0 g1 (HF1.out.later (below_drewN (Below.refl _ _) q)) hFo hzn hten (by rw [hbk]; exact fun k hk => ins_blk hins z k (by omega) hk) (by rw [hbk]; exact hb4)
      rw [lnk_drop d z _ (by omega)] at this
      exact this
    have HF2 : Hid (∀ q, FsS (((w.setCell ⟨bI, z * 5 + 1, none⟩ (.int .i64 (kl - 1))).drewN q).setCell ⟨bI, z * 5 + 1, none⟩ (.int .i64 1)) bI n cI bD 20 cD (lnkD d z 1) F) := fun q => by
      have this : FsS (((w.setCell ⟨bI, z * 5 + 1, none⟩ (.int .i64 (kl - 1))).drewN q).setCell ⟨bI, z * 5 + 1, none⟩ (.int .i64 1)) bI n cI bD 20 cD (lnkD (lnkD d z (kl - 1)) z 1) F := (HF1.out.later (below_drewN (Below.refl _ _) q)).lnkS z hzn 1
      rw [lnk_lnk d z _ _ (by omega)] at this
      exact this
    clear hfs hins hne hzi hk hkl hself hC1 hb4 hlen1 j6 e1
    generalize (d.1[z]?.getD id0).1 = kd at *
    by_cases h1l : 1 < kl
    · rw [if_pos h1l]
      have hgt : decide (0 < kl - 1) = true := decide_eq_true (by omega)
      clear HLK HDR HF2
      go_enter Tryz.func19, Tryz.ntmps19
      go_wp2
      (try simp only [Exit.inBlock, Exit.then])
      refine bodyPost_ret (results_none rfl _ _ _) rfl ?_
      exact ⟨rfl, HC1.out, HF1.out⟩
    · rw [if_neg h1l]
      have hk1 : kl = 1 := by omega
      subst hk1
      generalize hcn : (allE d.1).count (z : Int) = cnt at *
      clear hcn
      have HL0 : Hid (_ = _) := h0
      by_cases hc : cnt = 0
      · rw [if_pos hc]
        have hcb : decide (0 < ((cnt : Nat) : Int)) = false := decide_eq_false (by omega)
        clear hc h1l
        generalize ((cnt : Nat) : Int) = cn at *
        go_enter Tryz.func19, Tryz.ntmps19
        go_wp2_with fail
        refine (HLK.out 0).mono ?_
        rintro e w2 ⟨rfl, q, rfl⟩
        have g0 : ((w.setCell ⟨bI, z * 5 + 1, none⟩ (.int .i64 (1 - 1))).drewN q).cell? ⟨bo, 0, none⟩ = some (.slice (some ⟨bI, 0, none⟩) n cI) := r0
        have g1 : ((w.setCell ⟨bI, z * 5 + 1, none⟩ (.int .i64 (1 - 1))).drewN q).cell? ⟨bo, 1, none⟩ = some (.slice (some ⟨bD, 0, none⟩) 20 cD) := r1
        go_wp2_with fail
        refine (HDR.out q g0 g1).mono ?_
        rintro e w3 ⟨rfl, hc3, hf3⟩
        have HC3 : Hid (Chg (fun c => c = bI ∨ c = bD) w w3) := (HC1.out.trans (Chg.of_below (below_drewN (Below.refl _ _) q))).trans hc3
        have HF3 : Hid (FsS w3 bI n cI bD 20 cD (dropD d z) F) := hf3
        clear hc3 hf3
        go_wp2
        go_end0
        exact ⟨rfl, HC3.out, HF3.out⟩
      · rw [if_neg hc]
        have hcb : decide (0 < ((cnt : Nat) : Int)) = true := decide_eq_true (by omega)
        clear hc h1l
        generalize ((cnt : Nat) : Int) = cn at *
        go_enter Tryz.func19, Tryz.ntmps19
        go_wp2_with fail
        refine (HLK.out 0).mono ?_
        rintro e w2 ⟨rfl, q, rfl⟩
        have g0 : ((w.setCell ⟨bI, z * 5 + 1, none⟩ (.int .i64 (1 - 1))).drewN q).cell? ⟨bo, 0, none⟩ = some (.slice (some ⟨bI, 0, none⟩) n cI) := r0
        have g3 : ((w.setCell ⟨bI, z * 5 + 1, none⟩ (.int .i64 (1 - 1))).drewN q).cell? ⟨bI, z * 5 + 1, none⟩ = some (.int .i64 (1 - 1)) := y1
        have g4 : ((w.setCell ⟨bI, z * 5 + 1, none⟩ (.int .i64 (1 - 1))).drewN q).frozen? ⟨bI, z * 5 + 1, none⟩ = false := y1f
        have HF3 : Hid (FsS (((w.setCell ⟨bI, z * 5 + 1, none⟩ (.int .i64 (1 - 1))).drewN q).setCell ⟨bI, z * 5 + 1, none⟩ (.int .i64 1)) bI n cI bD 20 cD d F) := by
          have := HF2.out q
          rw [HSELF.out] at this
          exact this
        have HC3 : Hid (Chg (fun c => c = bI ∨ c = bD) w (((w.setCell ⟨bI, z * 5 + 1, none⟩ (.int .i64 (1 - 1))).drewN q).setCell ⟨bI, z * 5 + 1, none⟩ (.int .i64 1))) := Chg.set (F := fun c => c = bI ∨ c = bD) (HC1.out.trans (Chg.of_below (below_drewN (Below.refl _ _) q))) (Or.inl rfl) _ _
        go_wp2
        (try simp only [Exit.inBlock, Exit.then])
        refine bodyPost_ret (results_none rfl _ _ _) rfl ?_
        exact ⟨rfl, HC3.out, HF3.out⟩
end Go.Proofs.YtmlfpikhencgcanGreat
