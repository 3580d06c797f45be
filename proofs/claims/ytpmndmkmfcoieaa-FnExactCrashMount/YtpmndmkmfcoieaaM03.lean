/- The walk of the specification's keeping of what is picked. Rows that grow by append: where the row lies behind it; and rows told otherwise. The walks of DiskFault, the specification's and the program's. The walks of the specification's look at a block. The walks of the program's look at a block. The walk of the specification's PutBlock. The walks of the specification's FlushDisk and CrashDisk. -/
import Derived.Test.YtpmndmkmfcoieaaM00
import Derived.Test.YtpmndmkmfcoieaaM02
import Derived.Deep.RegionHeld3
import Derived.Test.YtpmndmkmfcoieaaM01
namespace Go.Proofs.Ytpmndmkmfcoieaa
open Go.RowKit
set_option maxRecDepth 100000

/-- Where the bits of a list lie. -/
def AtBs (w : World) (a : Option Addr) (n : Nat) (pb : List Bool) : Prop := ∀ k, k < n → ∃ b off, a = some ⟨b, off, none⟩ ∧ w.cell? ⟨b, off + k, none⟩ = some (.bool (pb[k]?.getD false))
theorem AtBs.later {w w' : World} {a : Option Addr} {n : Nat} {pb : List Bool} (h : AtBs w a n pb) (hb : Below w.heap.size w w') : AtBs w' a n pb := fun k hk => by
  obtain ⟨b, off, e, c⟩ := h k hk
  exact ⟨b, off, e, cell_later hb c⟩

set_option maxHeartbeats 3200000 in
theorem l1Keep_any (hcp : L1CopySaid) (w : World) (aB aC ap : Option Addr) (cB cC np cap : Nat) (all : Bool) (bs : List (List Int)) (ps : List (Int × List Int)) (pb : List Bool) (g1 : bs.length ≤ 60) (g2 : ps.length ≤ 200) (hz : ∀ k : Nat, (bs[k]?.getD []).length ≤ 1048576) (hzp : ∀ k : Nat, (ps[k]?.getD (0, [])).2.length ≤ 1048576) (hB : AtS w aB bs.length bs) (hP : AtP w aC ps.length ps)
    (hpl : ∀ k, k < ps.length → ∃ x : Nat, (ps[k]?.getD (0, [])).1 = x ∧ x < bs.length) (hpb : pb.length = np) (hA : AtBs w ap np pb) :
    Calls Try.prog 53 #[.agg #[.slice aB bs.length cB, .slice aC ps.length cC], .slice ap np cap, .bool all] w fun e w' => ∃ aX cX, e = .returned (.agg #[.slice aX bs.length cX, .slice none 0 0]) ∧ Below w.heap.size w w' ∧ IntsSO w' (.slice aX bs.length cX) (keepTo (fun i => all || pb[i]?.getD false) bs ps ps.length) (fresh w w') := by
  have HCP : Hid L1CopySaid := hcp
  have HZP : Hid (∀ k : Nat, (ps[k]?.getD (0, [])).2.length ≤ 1048576) := hzp
  have HZ : Hid (∀ k : Nat, (bs[k]?.getD []).length ≤ 1048576) := hz
  have HB : Hid (AtS w aB bs.length bs) := hB
  have HP : Hid (AtP w aC ps.length ps) := hP
  have HPL : Hid (∀ k, k < ps.length → ∃ x : Nat, (ps[k]?.getD (0, [])).1 = x ∧ x < bs.length) := hpl
  have HA : Hid (AtBs w ap np pb) := hA
  clear hcp hzp hz hB hP hpl hA
  go_enter Try.func53, Try.ntmps53
  go_wp2_with fail
  refine (HCP.out _ aB aC bs.length cB ps.length cC bs ps rfl rfl g1 g2 HZ.out HZP.out (HB.out.later (later2 _ _ _)) (HP.out.later (later2 _ _ _))).mono ?_
  rintro e w1 ⟨S, aX, cX, aY, cY, k, u, rfl, hb1, hS1, hS2, hio, hlr⟩
  have HW1 : Hid (Below w.heap.size w w1) := (later2 _ _ _).trans (hb1.mono (by simp; omega))
  have HX1 : Hid (Box2 w1 w.heap.size (.slice aB bs.length cB) (.slice aC ps.length cC)) := ((Box2.new _ _ _ _).later (later1 _ _)).later hb1
  have HR1 : Hid (OwnRow w1 (w.heap.size + 1) 2 (fun c => if c = 0 then .slice none 0 0 else .slice none 0 0)) := by
    have h := (OwnRow.two (w.alloc (.cells #[.slice aB bs.length cB, .slice aC ps.length cC] 30)) (.slice none 0 0) (.slice none 0 0) 30).later hb1
    unfold Hid
    simpa using h
  have HIO : Hid (IntsSO w1 (.slice aX bs.length cX) bs (fun c => w.heap.size + 2 ≤ c ∧ c < w1.heap.size)) := hio.mono fun b hb => ⟨by have := hb.1; simp at this; omega, by have := hb.2; omega⟩
  have hz1 : w.heap.size + 1 < w1.heap.size := HR1.out.lt
  clear hb1 hS1 hS2 hio hlr
  go_wp2_with fail
  go_loopw [8] (fun i wr => ∃ q : Nat, q ≤ ps.length ∧ i = .int .i64 q ∧ Below w.heap.size w wr ∧ w1.heap.size < wr.heap.size ∧ Box2 wr w.heap.size (.slice aB bs.length cB) (.slice aC ps.length cC) ∧ OwnRow wr (w.heap.size + 1) 2 (fun c => if c = 0 then .slice none 0 0 else .slice none 0 0) ∧ OwnRow wr w1.heap.size 2 (fun c => if c = 0 then .slice aX bs.length cX else .slice none 0 0) ∧
    IntsSO wr (.slice aX bs.length cX) (keepTo (fun i => all || pb[i]?.getD false) bs ps q) (fun c => w.heap.size + 2 ≤ c ∧ c < wr.heap.size ∧ c ≠ w1.heap.size)) (fun i _ => ps.length - (intOf i).toNat)
  case atStart =>
    refine ⟨0, Nat.zero_le _, rfl, HW1.out.trans ((later1 _ _).mono HW1.out.size), by simp, HX1.out.later (later1 _ _), HR1.out.later (later1 _ _), OwnRow.two w1 _ _ _, (HIO.out.keep (fun b _ hlt => (later1 _ _).block b hlt)).mono fun b hb => ⟨hb.1, by simp; omega, by omega⟩⟩
  case round =>
    obtain ⟨q, hq, rfl, hbw, hsz, hbx, hres, hout, his⟩ := hrel
    have HBW : Hid (Below w.heap.size w wr) := hbw
    have HBX : Hid (Box2 wr w.heap.size (.slice aB bs.length cB) (.slice aC ps.length cC)) := hbx
    have HRES : Hid (OwnRow wr (w.heap.size + 1) 2 (fun c => if c = 0 then .slice none 0 0 else .slice none 0 0)) := hres
    have HOUT : Hid (OwnRow wr w1.heap.size 2 (fun c => if c = 0 then .slice aX bs.length cX else .slice none 0 0)) := hout
    have HIS : Hid (IntsSO wr (.slice aX bs.length cX) (keepTo (fun i => all || pb[i]?.getD false) bs ps q) (fun c => w.heap.size + 2 ≤ c ∧ c < wr.heap.size ∧ c ≠ w1.heap.size)) := his
    clear hbw hbx hres hout his
    obtain ⟨b0, b1⟩ := HBX.out
    by_cases hlt : q < ps.length
    · obtain ⟨b, off, ua, ucap, e, c1, c2, i1⟩ := HP.out q hlt
      subst e
      have c0 := c1
      replace c1 := cell_later HBW.out c1
      replace c2 := cell_later HBW.out c2
      obtain ⟨x, hx, hxl⟩ := HPL.out q hlt
      rw [hx] at c1
      generalize hwd : (ps[q]?.getD (0, [])).2 = wd at c2 i1
      have HWD : Hid ((ps[q]?.getD (0, [])).2 = wd) := hwd
      have HLW : Hid (wd.length ≤ 1048576) := hwd ▸ HZP.out q
      have HXX : Hid ((ps[q]?.getD (0, [])).1 = (x : Int)) := hx
      have HI : Hid (Ints wr _ wd) := i1.later HBW.out
      clear i1 hwd hx
      have o0 := HOUT.out.cell (i := 0) (by omega)
      simp at o0
      obtain ⟨g, va, vn, vc, rfl, hFg, hgl, g1', g2'⟩ := HIS.out.cell (x := x) (by rw [keepTo_length]; exact hxl)
      have ST : ∀ {X : World} {v : Value}, Below wr.heap.size wr X → IntsO X v wd (fresh wr X) → Below w.heap.size w (X.setCell ⟨g, x, none⟩ v) ∧ w1.heap.size < (X.setCell ⟨g, x, none⟩ v).heap.size ∧ Box2 (X.setCell ⟨g, x, none⟩ v) w.heap.size (.slice aB bs.length cB) (.slice (some ⟨b, off, none⟩) ps.length cC) ∧ OwnRow (X.setCell ⟨g, x, none⟩ v) (w.heap.size + 1) 2 (fun c => if c = 0 then .slice none 0 0 else .slice none 0 0) ∧ OwnRow (X.setCell ⟨g, x, none⟩ v) w1.heap.size 2 (fun c => if c = 0 then .slice (some ⟨g, 0, none⟩) bs.length cX else .slice none 0 0) ∧
          IntsSO (X.setCell ⟨g, x, none⟩ v) (.slice (some ⟨g, 0, none⟩) bs.length cX) ((keepTo (fun i => all || pb[i]?.getD false) bs ps q).set ((x : Int)).toNat wd) (fun c => w.heap.size + 2 ≤ c ∧ c < (X.setCell ⟨g, x, none⟩ v).heap.size ∧ c ≠ w1.heap.size) := by
        intro X v hX hv
        have hXs := hX.size
        refine ⟨(HBW.out.trans (hX.mono HBW.out.size)).setCell (by simp; omega) _, by simp [World.setCell]; omega, (HBX.out.later hX).store (by simp; omega) _, (HRES.out.later hX).store (by simp; omega) _, (HOUT.out.later hX).store (by simp; omega) _, ?_⟩
        refine (HIS.out.set (x := x) (by rw [keepTo_length]; exact hxl) hX (fun b hb => hb.2.1) hv).mono fun c hc => ?_
        simp only [World.setCell, Array.size_modify]
        rcases hc with hc | hc
        · omega
        · have := hc.1; have := hc.2; omega
      have n1 : g ≠ w1.heap.size := hFg.2.2
      have n2 : g ≠ w.heap.size := by omega
      have n3 : g ≠ b := by have := World.block_lt_of_cell? _ _ c0; simp at this; omega
      have x0 : (0 : Int) ≤ (x : Int) := by omega
      have x1 : (x : Int) < (bs.length : Int) := by omega
      clear c0
      cases all
      · by_cases hqn : q < np
        · obtain ⟨b', off', e', c3⟩ := HA.out q hqn
          replace c3 := cell_later HBW.out c3
          subst e'
          cases hpk : pb[q]?.getD false
          · rw [hpk] at c3
            go_wp2
            go_roundw
            case rel => exact ⟨q + 1, by omega, by go_num, HBW.out, hsz, HBX.out, HRES.out, HOUT.out, by rw [keepTo_skip (by simp [hpk])]; exact HIS.out⟩
            case measure => simp [intOf]; omega
          · rw [hpk] at c3
            go_wp2_with fail
            go_region_held3 (fun W => W.cell? ⟨w1.heap.size, 0, none⟩ = some (.slice (some ⟨g, 0, none⟩) bs.length cX) ∧ W.cell? ⟨w.heap.size, 1, none⟩ = some (.slice (some ⟨b, off, none⟩) ps.length cC) ∧ W.cell? ⟨b, off + q * 2, none⟩ = some (.int .i64 (x : Int)) ∧ W.cell? ⟨b, off + q * 2 + 1, none⟩ = some (.slice ua wd.length ucap)) (go_keep) (first | (go_at_call 57; refine (l1Ints_more ?_ HLW.out).mono ?_; exact HI.out; rintro e w2 ⟨na, nc, rfl, hb2, ho2, hs2⟩; have d0 := cell_later hb2 o0; have d1 := cell_later hb2 g1'; have d2 := (hb2.frozen (p := ⟨g, x, none⟩) hgl).trans g2'; have d3 := cell_later hb2 b1; have d4 := cell_later hb2 c1; have d5 := cell_later hb2 c2; have HB2 : Hid (Below wr.heap.size wr w2) := (Below.refl _ _).drew.trans hb2; have HO2 : Hid (IntsO w2 (.slice na wd.length nc) wd (fresh wr w2)) := ho2; clear hb2 ho2 hs2))
            all_goals
              go_wp2
              go_roundw
              case rel =>
                refine ⟨q + 1, by omega, by go_num, ?_⟩
                rw [keepTo_step (by simp [hpk]), HXX.out, HWD.out]
                exact ST HB2.out HO2.out
              case measure => simp [intOf]; omega
        · have hpk : pb[q]?.getD false = false := by rw [List.getElem?_eq_none (by omega)]; rfl
          go_wp2
          go_roundw
          case rel => exact ⟨q + 1, by omega, by go_num, HBW.out, hsz, HBX.out, HRES.out, HOUT.out, by rw [keepTo_skip (by simp [hpk])]; exact HIS.out⟩
          case measure => simp [intOf]; omega
      · go_wp2_with fail
        go_region_held3 (fun W => W.cell? ⟨w1.heap.size, 0, none⟩ = some (.slice (some ⟨g, 0, none⟩) bs.length cX) ∧ W.cell? ⟨w.heap.size, 1, none⟩ = some (.slice (some ⟨b, off, none⟩) ps.length cC) ∧ W.cell? ⟨b, off + q * 2, none⟩ = some (.int .i64 (x : Int)) ∧ W.cell? ⟨b, off + q * 2 + 1, none⟩ = some (.slice ua wd.length ucap)) (go_keep) (first | (go_at_call 57; refine (l1Ints_more ?_ HLW.out).mono ?_; exact HI.out; rintro e w2 ⟨na, nc, rfl, hb2, ho2, hs2⟩; have d0 := cell_later hb2 o0; have d1 := cell_later hb2 g1'; have d2 := (hb2.frozen (p := ⟨g, x, none⟩) hgl).trans g2'; have d3 := cell_later hb2 b1; have d4 := cell_later hb2 c1; have d5 := cell_later hb2 c2; have HB2 : Hid (Below wr.heap.size wr w2) := (Below.refl _ _).drew.trans hb2; have HO2 : Hid (IntsO w2 (.slice na wd.length nc) wd (fresh wr w2)) := ho2; clear hb2 ho2 hs2))
        all_goals
          go_wp2
          go_roundw
          case rel =>
            refine ⟨q + 1, by omega, by go_num, ?_⟩
            rw [keepTo_step (by simp []), HXX.out, HWD.out]
            exact ST HB2.out HO2.out
          case measure => simp [intOf]; omega
    · have e : q = ps.length := by omega
      subst e
      have o0 := HOUT.out.cell (i := 0) (by omega)
      have o1 := HOUT.out.cell (i := 1) (by omega)
      simp at o0 o1
      have r0 := HRES.out.cell (i := 0) (by omega)
      have r1 := HRES.out.cell (i := 1) (by omega)
      have s0 := HRES.out.frozen 0
      have s1 := HRES.out.frozen 1
      simp at r0 r1
      go_wp2
      refine bodyPost_ret (v := .agg #[.slice aX bs.length cX, .slice none 0 0]) (by simp [results, Try.results53, go_sem, r0, r1]) rfl ⟨_, _, rfl, (HBW.out.setCell (by simp) _).setCell (by simp) _, ?_⟩
      refine ((HIS.out.store (fun b hb => by simp; omega) _).store (fun b hb => by simp; omega) _).mono fun b hb => ⟨by omega, ?_⟩
      simp only [World.setCell, Array.size_modify]
      omega
end Go.Proofs.Ytpmndmkmfcoieaa

namespace Go.Proofs.Ytpmndmkmfcoieaa
open Go.RowKit
set_option maxRecDepth 100000

/-- What 'append' of one element comes to, and where the row lies behind it. -/
theorem LRow.append2 {C : Nat → Value → List Value} (w w1 : World) (t ty e : TypeId) (i : TypeInfo) (z : Value) (size bytes : Nat) (ht : Try.prog.underlying t = some (.slice e)) (hi : Try.prog.info? e = some i) (hz : i.zero = some z) (hsize : i.size = size) (hby : i.bytes = bytes) (hzs : z.cells.size = size) (hsz : 0 < size) (hbb : bytes ≤ 1000)
    (base lo n : Nat) (v : Value) (f : Nat → List Int) (k : Nat → Nat) (u : Nat → Value) (h : LRow C w base lo e size v n f k u) (hb : base ≤ w.heap.size) (hn : n ≤ 100000) (hb1 : Below w.heap.size w w1)
    (a : Option Addr) (c : Nat) (hlen : (C n (.slice a (f n).length c)).length = size) (hone : ∀ x ∈ C n (.slice a (f n).length c), x.oneCell' = true) (kb : Nat) (hk1 : lo ≤ kb) (hk2 : kb < w1.heap.size) (hk3 : v.ownBlock ≠ some kb) (hk4 : ∀ i, i < n → k i ≠ kb) (hf : IntsO w1 (.slice a (f n).length c) (f n) (fun x => x = kb)) :
    ∃ g cap X, (Builtin.append_ #[t, t] ty #[v, .slice (some ⟨w1.heap.size, 0, none⟩) 1 1]).run Try.prog (w1.alloc (.cells (C n (.slice a (f n).length c)).toArray e)) = .ok (.slice (some ⟨g, 0, none⟩) (n + 1) cap) X ∧
      (∀ b, b < w1.heap.size → v.ownBlock ≠ some b → X.heap[b]? = w1.heap[b]?) ∧ Below base w X ∧ w1.heap.size < X.heap.size ∧ (v.ownBlock = some g ∨ w1.heap.size < g) ∧
      LRow C X base lo e size (.slice (some ⟨g, 0, none⟩) (n + 1) cap) (n + 1) f (fun j => if j = n then kb else k j) (fun j => if j = n then .slice a (f n).length c else u j) := by
  have hsz1 := hb1.size
  have hbW : Below w.heap.size w (w1.alloc (.cells (C n (.slice a (f n).length c)).toArray e)) := hb1.trans ((later1 _ _).mono hb1.size)
  have hW := h.later hbW
  obtain ⟨g, cap, X, hr, ho, hg, hat, hgX⟩ := run_append_lies (P := Try.prog) (w1.alloc (.cells (C n (.slice a (f n).length c)).toArray e)) t ty base e i z size bytes ht hi hz hsize hby hzs hsz v n _ hW.own ⟨w1.heap.size, 0, none⟩ 1 1 (C n (.slice a (f n).length c)) (by rw [hlen, Nat.one_mul])
    (fun j x hx => by
      rw [add_plain', Nat.zero_add, new_cell]
      simpa using hx) hone (by decide) (by unfold maxLen; omega) (by have : (n + 1) * bytes ≤ 100001 * 1000 := Nat.mul_le_mul (by omega) hbb; omega) (by simp; omega) (w1.heap.size + 1) (by simp)
  have hrow : ∀ g, v.ownBlock = some g → g < w.heap.size := fun g hg => (h.own.lt g hg).2
  have hrowb : ∀ g, v.ownBlock = some g → base ≤ g := fun g hg => (h.own.lt g hg).1
  have hXb : ∀ b, b < w1.heap.size → v.ownBlock ≠ some b → X.heap[b]? = w1.heap[b]? := fun b hb' hne => (hg.block b (by simp; omega) (fun e => hne e.symm)).trans ((later1 _ _).block b hb')
  have hne : ∀ b, b < w1.heap.size → v.ownBlock ≠ some b → g ≠ b := by
    intro b hb' hb2 e
    subst e
    rcases hat with h | h
    · exact hb2 h
    · omega
  have old : ∀ b, b < w.heap.size → v.ownBlock ≠ some b → X.heap[b]? = w.heap[b]? := fun b hb' hne => (hXb b (by omega) hne).trans (hb1.block b hb')
  have hXs : w1.heap.size < X.heap.size := by have := hg.size; simp at this; omega
  refine ⟨g, cap, X, hr, hXb, (hbW.mono hb).trans (below_grown hg (by simp; omega) (fun g hg' => hrowb g hg')), hXs, hat.imp_right (fun h => by omega), ⟨?_, fun j hj => ?_, fun j hj => ?_, fun j j' hj hj' e => ?_, fun j hj => ?_, fun j hj => ?_⟩⟩
  · rw [List.range_succ, List.flatMap_append]
    have e1 : (List.range n).flatMap (fun i => C i (if i = n then .slice a (f n).length c else u i)) = (List.range n).flatMap (fun i => C i (u i)) := by
      have e0 : (List.range n).map (fun i => C i (if i = n then .slice a (f n).length c else u i)) = (List.range n).map (fun i => C i (u i)) := List.map_congr_left fun i hi => by rw [if_neg (by have := List.mem_range.1 hi; omega)]
      rw [List.flatMap_def, List.flatMap_def, e0]
    have e2 : [n].flatMap (fun i => C i (if i = n then .slice a (f n).length c else u i)) = C n (.slice a (f n).length c) := by simp only [List.flatMap_cons, List.flatMap_nil, List.append_nil, if_true]
    rw [e1, e2]
    exact ho
  · by_cases e : j = n
    · subst e; simp; omega
    · have := h.lo j (by omega); simp [e]; omega
  · by_cases e : j = n
    · subst e
      simp only [if_true]
      exact fun e => hne kb hk2 hk3 (by simpa [Value.ownBlock] using e)
    · have hj' : j < n := by omega
      have hl := h.lo j hj'
      simp only [e, if_false]
      exact fun e => hne (k j) (by omega) (h.ne j hj') (by simpa [Value.ownBlock] using e)
  · by_cases e1 : j = n
    · by_cases e2 : j' = n
      · omega
      · simp [e1, e2]; exact fun e => hk4 j' (by omega) e.symm
    · by_cases e2 : j' = n
      · simp [e1, e2]; exact hk4 j (by omega)
      · simp [e1, e2]; exact h.inj j j' (by omega) (by omega) e
  · by_cases e : j = n
    · subst e; exact ⟨a, c, by simp⟩
    · simp only [e, if_false]; exact h.sh j (by omega)
  · by_cases e : j = n
    · subst e
      simp only [if_true]
      exact hf.keep fun b hb' hlt' => by rw [hb']; exact hXb kb hk2 hk3
    · have hj' : j < n := by omega
      simp only [e, if_false]
      exact (h.at' j hj').keep fun b hb' hlt' => by rw [hb']; exact old _ (h.lo j hj').2 (h.ne j hj')


theorem LRow.congr2 {a a' : Nat → Int} {w : World} {base lo : Nat} {e : TypeId} {size : Nat} {v : Value} {n : Nat} {f f' : Nat → List Int} {k : Nat → Nat} {u : Nat → Value} (h : LRow (C2 a) w base lo e size v n f k u) (ha : ∀ i, i < n → a i = a' i) (hf : ∀ i, i < n → f i = f' i) : LRow (C2 a') w base lo e size v n f' k u := by
  refine ⟨?_, h.lo, h.ne, h.inj, fun i hi => by rw [← hf i hi]; exact h.sh i hi, fun i hi => by rw [← hf i hi]; exact h.at' i hi⟩
  have e0 : (List.range n).map (fun i => C2 a i (u i)) = (List.range n).map (fun i => C2 a' i (u i)) := List.map_congr_left fun i hi => by unfold C2; rw [ha i (List.mem_range.1 hi)]
  have := h.own
  rw [List.flatMap_def, e0, ← List.flatMap_def] at this
  exact this

/-- The copy of a put's words, and what appending that put comes to: in one contract; blocks that are neither the row's nor new stay. -/
theorem l1Ints_put2 (wr : World) (S q : Nat) (v uv : Value) (f : Nat → Int × List Int) (k : Nat → Nat) (u : Nat → Value) (hLR : LRow (C2 fun i => (f i).1) wr S S 72 2 v q (fun i => (f i).2) k u) (hsq : S ≤ wr.heap.size) (hq : q ≤ 100000) (hi : Ints wr uv (f q).2) (hl : (f q).2.length ≤ 1048576) :
    Calls Try.prog 57 #[uv] wr.drew fun e w1 => ∃ na nc g2 cap2 X k' u', e = .returned (.slice na (f q).2.length nc) ∧
      Hid ((Builtin.append_ #[28, 28] 28 #[v, .slice (some ⟨w1.heap.size, 0, none⟩) 1 1]).run Try.prog (w1.alloc (.cells #[.int .i64 (f q).1, .slice na (f q).2.length nc] 72)) = .ok (.slice (some ⟨g2, 0, none⟩) (q + 1) cap2) X) ∧
      Below wr.heap.size wr w1 ∧ (∀ b, b < wr.heap.size → v.ownBlock ≠ some b → X.heap[b]? = wr.heap[b]?) ∧ wr.heap.size ≤ X.heap.size ∧ (v.ownBlock = some g2 ∨ wr.heap.size < g2) ∧ (∀ i, i < q + 1 → k' i = k i ∧ i < q ∨ wr.heap.size ≤ k' i) ∧ Below S wr X ∧ Hid (LRow (C2 fun i => (f i).1) X S S 72 2 (.slice (some ⟨g2, 0, none⟩) (q + 1) cap2) (q + 1) (fun i => (f i).2) k' u') := by
  refine (l1Ints_more (w := wr.drew) hi hl).mono ?_
  rintro e w1 ⟨na, nc, rfl, hb1, ho1, hs1⟩
  obtain ⟨kb, hk1, hk2, hkf⟩ := ho1.one hs1
  obtain ⟨ti, hi, h1, h2, h3⟩ := Try.infoPut'
  have hk1' : wr.heap.size ≤ kb := hk1
  have hs1' : wr.heap.size < w1.heap.size := hs1
  obtain ⟨g2, cap2, X, hr, hXb, hBX, hXs, hat, hLX⟩ := LRow.append2 wr w1 28 28 72 ti _ 2 32 Try.underlying28 hi h1 h2 h3 rfl (by decide) (by decide) S S q _ _ k u hLR hsq hq ((Below.refl _ _).drew.trans hb1) na nc rfl (fun x hx => by simp [C2] at hx; rcases hx with rfl | rfl <;> rfl) kb (Nat.le_trans hsq hk1') hk2 (fun e => by have := (hLR.own.lt _ e).2; omega) (fun i hi e => by have := (hLR.lo i hi).2; omega) hkf
  refine ⟨na, nc, g2, cap2, X, _, _, rfl, hr, (Below.refl _ _).drew.trans hb1, fun b hb hne => (hXb b (by omega) hne).trans (hb1.block b hb), by omega, hat.imp_right (fun h => by omega), fun i hi => ?_, hBX, hLX⟩
  by_cases e : i = q
  · right; simp [e]; exact hk1'
  · left; simp [e]; omega

end Go.Proofs.Ytpmndmkmfcoieaa

namespace Go.Proofs.Ytpmndmkmfcoieaa
open Go.RowKit
set_option maxRecDepth 100000

theorem l1Fault_any {w : World} {bd : Nat} {vB vC : Value} {bs : List (List Int)} {ps : List (Int × List Int)} (h0 : w.cell? ⟨bd, 0, none⟩ = some vB) (h1 : w.cell? ⟨bd, 1, none⟩ = some vC) (hB : IntsS w vB bs) (hP : Puts w vC ps) :
    Calls Try.prog 50 #[.pointer (some ⟨bd, 0, none⟩)] w fun e w' => e = .returned (.int .i64 (faultF bs ps)) ∧ ∃ m, w' = w.drewN m := by
  obtain ⟨aB, cB, rfl, _, aS⟩ := hB.open'
  obtain ⟨aC, cC, rfl, _, aP⟩ := hP.open'
  by_cases h : 60 < bs.length ∨ 200 < ps.length
  · exact (l1Fault_many w bd aB aC _ cB _ cC h0 h1 h).mono fun e w' ⟨he, hw⟩ => ⟨he.trans (ret_int (faultF_many h).symm), 0, hw⟩
  · exact l1Fault_walk w bd aB aC _ cB _ cC bs ps rfl rfl h0 h1 (by omega) (by omega) aS aP

theorem isPlace_any (w : World) (a : Option Addr) (n cap : Nat) (vC : Value) (x : Int) :
    Calls Try.prog 99 #[.agg #[.slice a n cap, vC], .int .i64 x] w fun e w' => e = .returned (.bool (placeB n x)) ∧ Below w.heap.size w w' := by
  by_cases h1 : 0 ≤ x
  · by_cases h2 : x < (n : Int)
    · have e1 : placeB n x = true := by simp [placeB, h1, h2]
      rw [e1]
      go_enter Try.func99, Try.ntmps99
      go_wp2
      go_ret
      exact ⟨rfl, later1 _ _⟩
    · have e1 : placeB n x = false := by simp [placeB, h2]
      rw [e1]
      go_enter Try.func99, Try.ntmps99
      go_wp2
      go_ret
      exact ⟨rfl, later1 _ _⟩
  · have e1 : placeB n x = false := by simp [placeB, h1]
    have hd : decide (0 ≤ x) = false := by simpa using h1
    rw [e1]
    go_enter Try.func99, Try.ntmps99
    go_wp2
    go_ret
    exact ⟨rfl, later1 _ _⟩

theorem putFault_any (w : World) (a : Option Addr) (n cap : Nat) (vC : Value) (x : Int) (ua : Option Addr) (un uc : Nat) (ws : List Int) (hw : Ints w (.slice ua un uc) ws) :
    Calls Try.prog 89 #[.agg #[.slice a n cap, vC], .agg #[.int .i64 x, .slice ua un uc]] w fun e w' => e = .returned (.int .i64 (putF n (x, ws))) ∧ Below w.heap.size w w' := by
  have HW : Hid (Ints w (.slice ua un uc) ws) := hw
  clear hw
  cases hp : placeB n x
  · have HP : Hid (placeB n x = false) := hp
    have e1 : putF n (x, ws) = 3 := by simp [putF, hp]
    rw [e1]
    clear hp e1
    go_enter Try.func89, Try.ntmps89
    go_wp2_with fail
    refine (isPlace_any _ _ _ _ _ _).mono ?_
    rw [HP.out]
    rintro e w1 ⟨rfl, hb⟩
    have HB : Hid (Below w.heap.size w w1) := (later2 _ _ _).trans (hb.mono (by simp; omega))
    clear hb
    go_wp2
    go_ret
    exact ⟨rfl, HB.out⟩
  · have HP : Hid (placeB n x = true) := hp
    have e1 : putF n (x, ws) = wordsF ws := by simp [putF, hp]
    rw [e1]
    clear hp e1
    go_enter Try.func89, Try.ntmps89
    go_wp2_with fail
    refine (isPlace_any _ _ _ _ _ _).mono ?_
    rw [HP.out]
    rintro e w1 ⟨rfl, hb⟩
    have c1 : w1.cell? ⟨w.heap.size + 1, 1, none⟩ = some (.slice ua un uc) := by
      rw [hb.cell (by simp)]
      simp
    have HB : Hid (Below w.heap.size w w1) := (later2 _ _ _).trans (hb.mono (by simp; omega))
    clear hb
    go_wp2_with fail
    refine (words_any (HW.out.later HB.out)).mono ?_
    rintro e w2 ⟨rfl, rfl⟩
    go_wp2
    go_ret
    exact ⟨rfl, HB.out⟩

theorem fault_many (w : World) (aB aC : Option Addr) (nB cB nC cC : Nat) (h : 60 < nB ∨ 200 < nC) :
    Calls Try.prog 62 #[.agg #[.slice aB nB cB, .slice aC nC cC]] w fun e w' => e = .returned (.int .i64 2) ∧ Below w.heap.size w w' := by
  by_cases g : 60 < nB
  · have g' : (60 : Int) < (nB : Int) := by omega
    clear h
    go_enter Try.func62, Try.ntmps62
    go_wp2
    go_ret
    exact ⟨rfl, later1 _ _⟩
  · have hd : decide ((60 : Int) < (nB : Int)) = false := by simp; omega
    have g' : (200 : Int) < (nC : Int) := by omega
    clear h
    go_enter Try.func62, Try.ntmps62
    go_wp2
    go_ret
    exact ⟨rfl, later1 _ _⟩

set_option maxHeartbeats 1600000 in
theorem fault_walk (w : World) (aB aC : Option Addr) (nB cB nC cC : Nat) (bs : List (List Int)) (ps : List (Int × List Int)) (hbl : bs.length = nB) (hpl : ps.length = nC)
    (g1 : nB ≤ 60) (g2 : nC ≤ 200) (hB : AtS w aB nB bs) (hP : AtP w aC nC ps) :
    Calls Try.prog 62 #[.agg #[.slice aB nB cB, .slice aC nC cC]] w fun e w' => e = .returned (.int .i64 (faultF bs ps)) ∧ Below w.heap.size w w' := by
  have HBL : Hid (bs.length = nB) := hbl
  have HPL : Hid (ps.length = nC) := hpl
  have HB : Hid (AtS w aB nB bs) := hB
  have HP : Hid (AtP w aC nC ps) := hP
  have HM : Hid (¬ (60 < bs.length ∨ 200 < ps.length)) := by unfold Hid; omega
  clear hbl hpl hB hP
  have hd : decide ((60 : Int) < (nB : Int)) = false := by simp; omega
  have hd2 : decide ((200 : Int) < (nC : Int)) = false := by simp; omega
  go_enter Try.func62, Try.ntmps62
  go_wp2
  go_loop [22] (fun i => ∃ j : Nat, j ≤ nB ∧ i = .int .i64 j ∧ ∀ i : Nat, i < j → wordsF (bs[i]?.getD []) = 0) (fun i => nB - (intOf i).toNat)
  case atStart => exact ⟨0, Nat.zero_le _, rfl, fun i hi => by omega⟩
  case round =>
    obtain ⟨j, hj, rfl, hall⟩ := hrel
    have HA : Hid (∀ i : Nat, i < j → wordsF (bs[i]?.getD []) = 0) := hall
    clear hall
    by_cases hlt : j < nB
    · obtain ⟨b, off, ua, ucap, e, c1, i1⟩ := HB.out j hlt
      clear HB
      have HI : Hid (Ints w (.slice ua (bs[j]?.getD []).length ucap) (bs[j]?.getD [])) := i1
      replace c1 := cell_later (later1 w (Obj.cells #[.slice aB nB cB, .slice aC nC cC] 30)) c1
      subst e
      clear i1
      generalize hc : wordsF (bs[j]?.getD []) = c
      have HC : Hid (wordsF (bs[j]?.getD []) = c) := hc
      clear hc
      by_cases hz : c = 0
      · subst hz
        go_wp2_with fail
        refine (words_any (HI.out.later (later1 _ _))).mono ?_
        rw [HC.out]
        rintro e w' ⟨rfl, rfl⟩
        go_wp2
        go_round
        case rel =>
          refine ⟨j + 1, by omega, by go_num, fun i hi => ?_⟩
          by_cases e : i = j
          · subst e; exact HC.out
          · exact HA.out i (by omega)
        case measure => simp [intOf]; omega
      · have hne : (c != 0) = true := by simpa using hz
        go_wp2_with fail
        refine (words_any (HI.out.later (later1 _ _))).mono ?_
        rw [HC.out]
        rintro e w' ⟨rfl, rfl⟩
        go_wp2
        go_ret
        exact ⟨ret_int (by rw [faultF_block HM.out (by rw [HBL.out]; exact hlt) HA.out (by rw [HC.out]; exact hz), HC.out]), later1 _ _⟩
    · have HA' : Hid (∀ i : Nat, i < bs.length → wordsF (bs[i]?.getD []) = 0) := fun i hi => HA.out i (by rw [HBL.out] at hi; omega)
      clear HA HB
      go_wp2
      go_loopw [35] (fun i wr => ∃ j : Nat, j ≤ nC ∧ i = .int .i64 j ∧ Below w.heap.size w wr ∧ wr.cell? ⟨w.heap.size, 0, none⟩ = some (.slice aB nB cB) ∧ wr.cell? ⟨w.heap.size, 1, none⟩ = some (.slice aC nC cC) ∧ ∀ i : Nat, i < j → putF bs.length (ps[i]?.getD (0, [])) = 0) (fun i _ => nC - (intOf i).toNat)
      case atStart => exact ⟨0, Nat.zero_le _, rfl, later1 _ _, by rw [new_cell]; rfl, by rw [new_cell]; rfl, fun i hi => by omega⟩
      case round =>
        obtain ⟨k, hk, rfl, hbl, p0, p1, hall⟩ := hrel
        have HA : Hid (∀ i : Nat, i < k → putF bs.length (ps[i]?.getD (0, [])) = 0) := hall
        clear hall
        by_cases hlt2 : k < nC
        · obtain ⟨b, off, ua, ucap, e, c1, c2, i1⟩ := HP.out k hlt2
          clear HP
          replace c1 := cell_later hbl c1
          replace c2 := cell_later hbl c2
          have HI : Hid (Ints wr (.slice ua (ps[k]?.getD (0, [])).2.length ucap) (ps[k]?.getD (0, [])).2) := i1.later hbl
          have HBEL : Hid (Below w.heap.size w wr) := hbl
          have hsz : w.heap.size < wr.heap.size := World.block_lt_of_cell? _ _ p0
          clear i1 hbl
          subst e
          generalize hc : putF nB (ps[k]?.getD (0, [])) = c
          have HC : Hid (putF nB ((ps[k]?.getD (0, [])).1, (ps[k]?.getD (0, [])).2) = c) := hc
          clear hc
          by_cases hz : c = 0
          · subst hz
            go_wp2_with fail
            refine (putFault_any _ _ _ _ _ _ _ _ _ (ps[k]?.getD (0, [])).2 (HI.out.later (later1 _ _))).mono ?_
            rw [HC.out]
            rintro e w1 ⟨rfl, hb1⟩
            have HB1 : Hid (Below wr.heap.size wr w1) := (later1 _ _).trans (hb1.mono (by simp))
            clear hb1
            go_wp2
            go_roundw
            case rel =>
              refine ⟨k + 1, by omega, by go_num, HBEL.out.trans (HB1.out.mono HBEL.out.size), cell_later HB1.out p0, cell_later HB1.out p1, fun i hi => ?_⟩
              by_cases e : i = k
              · subst e; rw [HBL.out]; exact HC.out
              · exact HA.out i (by omega)
            case measure => simp [intOf]; omega
          · have hne : (c != 0) = true := by simpa using hz
            go_wp2_with fail
            refine (putFault_any _ _ _ _ _ _ _ _ _ (ps[k]?.getD (0, [])).2 (HI.out.later (later1 _ _))).mono ?_
            rw [HC.out]
            rintro e w1 ⟨rfl, hb1⟩
            have HB1 : Hid (Below wr.heap.size wr w1) := (later1 _ _).trans (hb1.mono (by simp))
            clear hb1
            go_wp2
            go_ret
            have hF : putF bs.length (ps[k]?.getD (0, [])) = c := by rw [HBL.out]; exact HC.out
            exact ⟨ret_int (by rw [faultF_put HM.out HA'.out (by rw [HPL.out]; exact hlt2) HA.out (by rw [hF]; exact hz), hF]), HBEL.out.trans (HB1.out.mono HBEL.out.size)⟩
        · go_wp2
          go_ret
          exact ⟨ret_int (by rw [faultF_ok HM.out HA'.out (fun i hi => HA.out i (by rw [HPL.out] at hi; omega))]), hbl⟩

theorem fault_any (w : World) (vB vC : Value) (bs : List (List Int)) (ps : List (Int × List Int)) (hB : IntsS w vB bs) (hP : Puts w vC ps) :
    Calls Try.prog 62 #[.agg #[vB, vC]] w fun e w' => e = .returned (.int .i64 (faultF bs ps)) ∧ Below w.heap.size w w' := by
  obtain ⟨aB, cB, rfl, _, aS⟩ := hB.open'
  obtain ⟨aC, cC, rfl, _, aP⟩ := hP.open'
  by_cases h : 60 < bs.length ∨ 200 < ps.length
  · exact (fault_many w aB aC _ cB _ cC h).mono fun e w' ⟨he, hw⟩ => ⟨he.trans (ret_int (faultF_many h).symm), hw⟩
  · exact fault_walk w aB aC _ cB _ cC bs ps rfl rfl (by omega) (by omega) aS aP
end Go.Proofs.Ytpmndmkmfcoieaa

namespace Go.Proofs.Ytpmndmkmfcoieaa
open Go.RowKit
set_option maxRecDepth 100000

theorem l1Place_any (w : World) (bd : Nat) (a : Option Addr) (n cap : Nat) (x : Int) (hn : n ≤ maxLen) (h0 : w.cell? ⟨bd, 0, none⟩ = some (.slice a n cap)) :
    Calls Try.prog 96 #[.pointer (some ⟨bd, 0, none⟩), .int .i64 x] w fun e w' => e = .returned (.bool (placeB n x)) ∧ w' = w := by
  unfold maxLen at hn
  go_enter Try.func96, Try.ntmps96
  go_wp2_with fail
  refine (l1In_is (place_l1 n x)).mono ?_
  rintro e w' ⟨rfl, rfl⟩
  go_wp2
  go_ret
  exact ⟨rfl, rfl⟩

set_option maxHeartbeats 1600000 in
theorem l1At_walk (w : World) (bd : Nat) (aB aC : Option Addr) (nB cB nC cC : Nat) (bs : List (List Int)) (ps : List (Int × List Int)) (x : Nat) (hxl : x < nB) (_hnB : nB ≤ 60) (hpl : ps.length = nC) (g2 : nC ≤ 200) (h0 : w.cell? ⟨bd, 0, none⟩ = some (.slice aB nB cB)) (h1 : w.cell? ⟨bd, 1, none⟩ = some (.slice aC nC cC))
    (hB : AtS w aB nB bs) (hP : AtP w aC nC ps) :
    Calls Try.prog 54 #[.pointer (some ⟨bd, 0, none⟩), .int .i64 (x : Int)] w fun e w' => ∃ ua un uc, e = .returned (.slice ua un uc) ∧ Ints w (.slice ua un uc) (atF bs ps x) ∧ w' = w := by
  have HPL : Hid (ps.length = nC) := hpl
  have HB : Hid (AtS w aB nB bs) := hB
  have HP : Hid (AtP w aC nC ps) := hP
  clear hpl hB hP
  go_enter Try.func54, Try.ntmps54
  go_wp2
  go_loop [5] (fun i => ∃ k : Nat, k ≤ nC ∧ i = .int .i64 ((k : Int) - 1) ∧ atF bs ps x = atK bs ps x k) (fun i => (intOf i + 1).toNat)
  case atStart => exact ⟨nC, Nat.le_refl _, rfl, by unfold atF; rw [HPL.out]⟩
  case round =>
    obtain ⟨k, hk, rfl, hat⟩ := hrel
    have HA : Hid (atF bs ps x = atK bs ps x k) := hat
    clear hat
    cases k with
    | succ k =>
      have ek : (((k + 1 : Nat) : Int) - 1) = (k : Int) := by omega
      rw [ek]
      clear ek
      obtain ⟨b, off, ua, ucap, e, c1, c2, i1⟩ := HP.out k (by omega)
      clear HP
      subst e
      have HI : Hid (Ints w (.slice ua (ps[k]?.getD (0, [])).2.length ucap) (ps[k]?.getD (0, [])).2) := i1
      clear i1
      have hlt : k < nC := by omega
      by_cases he : (ps[k]?.getD (0, [])).1 = (x : Int)
      · have hb : ((ps[k]?.getD (0, [])).1 == (x : Int)) = true := by simpa using he
        have HE : Hid ((ps[k]?.getD (0, [])).1 = (x : Int)) := he
        clear he
        go_wp2
        go_ret
        exact ⟨_, _, _, rfl, by rw [HA.out, atK_hit HE.out]; exact HI.out, rfl⟩
      · have hb : ((ps[k]?.getD (0, [])).1 == (x : Int)) = false := by simpa using he
        have HE : Hid (¬ (ps[k]?.getD (0, [])).1 = (x : Int)) := he
        clear he
        go_wp2
        go_round
        case rel => exact ⟨k, by omega, rfl, by rw [HA.out, atK_miss HE.out]⟩
        case measure => simp [intOf]
    | zero =>
      obtain ⟨b, off, ua, ucap, e, c1, i1⟩ := HB.out x hxl
      clear HB
      subst e
      have HI : Hid (Ints w (.slice ua (bs[x]?.getD []).length ucap) (bs[x]?.getD [])) := i1
      clear i1
      go_wp2
      go_ret
      exact ⟨_, _, _, rfl, by rw [HA.out]; simpa [atK] using HI.out, rfl⟩

/-- An answer that is a code and a list. -/
def AnsInts (w : World) (code : Int) (zs : List Int) (e : Ending) (w' : World) : Prop :=
  ∃ a n c, e = .returned (.agg #[.int .i64 code, .slice a n c]) ∧ Below w.heap.size w w' ∧ IntsO w' (.slice a n c) zs (fresh w w')
theorem ansInts_bad {w w' : World} (hb : Below w.heap.size w w') (code : Int) : AnsInts w code [] (.returned (.agg #[.int .i64 code, .slice none 0 0])) w' := ⟨none, 0, 0, rfl, hb, Or.inl ⟨rfl, none, 0, rfl⟩⟩

def atCode (bs : List (List Int)) (ps : List (Int × List Int)) (x : Int) : Int := placeF bs ps x
def atList (bs : List (List Int)) (ps : List (Int × List Int)) (x : Int) : List Int := if placeF bs ps x = 0 then atF bs ps x else []

theorem faultF_lens {bs : List (List Int)} {ps : List (Int × List Int)} (h : faultF bs ps = 0) : bs.length ≤ 60 ∧ ps.length ≤ 200 := by
  by_cases g : 60 < bs.length ∨ 200 < ps.length
  · rw [faultF_many g] at h; omega
  · omega

end Go.Proofs.Ytpmndmkmfcoieaa

namespace Go.Proofs.Ytpmndmkmfcoieaa
open Go.RowKit
set_option maxRecDepth 100000

theorem placeF_fault {bs : List (List Int)} {ps : List (Int × List Int)} {x : Int} (h : ¬ faultF bs ps = 0) : placeF bs ps x = faultF bs ps := by simp [placeF, h]
theorem placeF_no {bs : List (List Int)} {ps : List (Int × List Int)} {x : Int} (h : faultF bs ps = 0) (h2 : placeB bs.length x = false) : placeF bs ps x = 3 := by simp [placeF, h, h2]
theorem placeF_ok {bs : List (List Int)} {ps : List (Int × List Int)} {x : Int} (h : faultF bs ps = 0) (h2 : placeB bs.length x = true) : placeF bs ps x = 0 := by simp [placeF, h, h2]

/-- How the cache of a drive is read. -/
def AtC (w : World) (a : Option Addr) (n : Nat) (ps : List (Int × List Int)) : Prop :=
  ∀ i, i < n → ∃ g pb ua uc, a = some ⟨g, 0, none⟩ ∧ w.cell? ⟨g, i, none⟩ = some (.pointer (some ⟨pb, 0, none⟩)) ∧ w.cell? ⟨pb, 0, none⟩ = some (.int .i64 (ps[i]?.getD (0, [])).1) ∧ w.cell? ⟨pb, 1, none⟩ = some (.slice ua (ps[i]?.getD (0, [])).2.length uc) ∧ Ints w (.slice ua (ps[i]?.getD (0, [])).2.length uc) (ps[i]?.getD (0, [])).2
theorem Cache.at {w : World} {base n c : Nat} {a : Option Addr} {ps : List (Int × List Int)} {pb k : Nat → Nat} {u : Nat → Value} (h : Cache w base (.slice a n c) n (fun i => ps[i]?.getD (0, [])) pb k u) : AtC w a n ps := by
  intro i hi
  obtain ⟨g, cap, e, _, _, _, hrow⟩ := ownsRow_row h.own (by omega)
  simp only [Value.slice.injEq, true_and] at e
  obtain ⟨ua, uc, hu⟩ := h.sh i hi
  have hb := h.box i hi
  have b0 := hb.cell (i := 0) (by omega)
  have b1 := hb.cell (i := 1) (by omega)
  simp at b0 b1
  rw [hu] at b1
  have hio := (h.at' i hi).ints
  rw [hu] at hio
  refine ⟨g, pb i, ua, uc, e.1, ?_, b0, b1, hio⟩
  have := hrow.cell hi
  rw [this]
  simp [hi]

set_option maxHeartbeats 800000 in
theorem get_any (w : World) (br o : Nat) (a : Option Addr) (n cap x : Nat) (bs : List (List Int)) (_hn : n ≤ 60) (hx : x < n) (h0 : w.cell? ⟨br, o, none⟩ = some (.slice a n cap)) (hB : AtS w a n bs) (hl : (bs[x]?.getD []).length ≤ 1048576) :
    Calls Try.prog 92 #[.pointer (some ⟨br, o, none⟩), .int .i64 (x : Int)] w fun e w' => e = .returned (.slice (some ⟨w.heap.size, 0, none⟩) (bs[x]?.getD []).length (bs[x]?.getD []).length) ∧ Below w.heap.size w w' ∧ IntsO w' (.slice (some ⟨w.heap.size, 0, none⟩) (bs[x]?.getD []).length (bs[x]?.getD []).length) (bs[x]?.getD []) (fresh w w') := by
  obtain ⟨b, off, ua, ucap, e, c1, i1⟩ := hB x hx
  subst e
  have HI : Hid (Ints w (.slice ua (bs[x]?.getD []).length ucap) (bs[x]?.getD [])) := i1
  have HL : Hid ((bs[x]?.getD []).length ≤ 1048576) := hl
  clear i1 hl hB
  go_enter Try.func92, Try.ntmps92
  go_wp2_with fail
  refine (copyOf_any HI.out HL.out).mono ?_
  rintro e w1 ⟨rfl, hb1, ho1⟩
  have HB1 : Hid (Below w.heap.size w w1) := hb1
  have HO1 : Hid (IntsO w1 _ (bs[x]?.getD []) (fresh w w1)) := ho1
  clear hb1 ho1
  go_wp2
  go_ret
  exact ⟨rfl, HB1.out, HO1.out⟩

set_option maxHeartbeats 1600000 in
theorem read_cap (w : World) (bd : Nat) (aB aP : Option Addr) (nB cB nP cP : Nat) (bs : List (List Int)) (ps : List (Int × List Int)) (x : Nat) (hxl : x < nB) (hnB : nB ≤ 60) (hpl : ps.length = nP) (g2 : nP ≤ 200) (h0 : w.cell? ⟨bd, 0, none⟩ = some (.slice aB nB cB)) (h1 : w.cell? ⟨bd, 1, none⟩ = some (.slice aP nP cP))
    (hB : AtS w aB nB bs) (hP : AtC w aP nP ps) (hz : ∀ k : Nat, (bs[k]?.getD []).length ≤ 1048576) (hzp : ∀ k : Nat, (ps[k]?.getD (0, [])).2.length ≤ 1048576) :
    Calls Try.prog 64 #[.pointer (some ⟨bd, 0, none⟩), .int .i64 (x : Int)] w fun e w' => ∃ a n c, e = .returned (.slice a n c) ∧ Below w.heap.size w w' ∧ IntsO w' (.slice a n c) (atF bs ps x) (fresh w w') ∧ n ≤ c := by
  have HPL : Hid (ps.length = nP) := hpl
  have HB : Hid (AtS w aB nB bs) := hB
  have HP : Hid (AtC w aP nP ps) := hP
  have HZ : Hid (∀ k : Nat, (bs[k]?.getD []).length ≤ 1048576) := hz
  have HZP : Hid (∀ k : Nat, (ps[k]?.getD (0, [])).2.length ≤ 1048576) := hzp
  clear hpl hB hP hz hzp
  go_enter Try.func64, Try.ntmps64
  go_wp2
  go_loop [5] (fun i => ∃ k : Nat, k ≤ nP ∧ i = .int .i64 ((k : Int) - 1) ∧ atF bs ps x = atK bs ps x k) (fun i => (intOf i + 1).toNat)
  case atStart => exact ⟨nP, Nat.le_refl _, rfl, by unfold atF; rw [HPL.out]⟩
  case round =>
    obtain ⟨k, hk, rfl, hat⟩ := hrel
    have HA : Hid (atF bs ps x = atK bs ps x k) := hat
    clear hat
    cases k with
    | succ k =>
      have ek : (((k + 1 : Nat) : Int) - 1) = (k : Int) := by omega
      rw [ek]
      clear ek
      obtain ⟨g, pb, ua, uc, e, c0, c1, c2, i1⟩ := HP.out k (by omega)
      clear HP
      subst e
      have HI : Hid (Ints w (.slice ua (ps[k]?.getD (0, [])).2.length uc) (ps[k]?.getD (0, [])).2) := i1
      clear i1
      have hlt : k < nP := by omega
      by_cases he : (ps[k]?.getD (0, [])).1 = (x : Int)
      · have hb : ((ps[k]?.getD (0, [])).1 == (x : Int)) = true := by simpa using he
        have HE : Hid ((ps[k]?.getD (0, [])).1 = (x : Int)) := he
        clear he
        go_wp2_with fail
        refine (copyOf_any HI.out (HZP.out k)).mono ?_
        rintro e w1 ⟨rfl, hb1, ho1⟩
        have HB1 : Hid (Below w.heap.size w w1) := hb1
        have HO1 : Hid (IntsO w1 _ (ps[k]?.getD (0, [])).2 (fresh w w1)) := ho1
        clear hb1 ho1
        go_wp2
        go_ret
        exact ⟨_, _, _, rfl, HB1.out, by rw [HA.out, atK_hit HE.out]; exact HO1.out, Nat.le_refl _⟩
      · have hb : ((ps[k]?.getD (0, [])).1 == (x : Int)) = false := by simpa using he
        have HE : Hid (¬ (ps[k]?.getD (0, [])).1 = (x : Int)) := he
        clear he
        go_wp2
        go_round
        case rel => exact ⟨k, by omega, rfl, by rw [HA.out, atK_miss HE.out]⟩
        case measure => simp [intOf]
    | zero =>
      go_wp2_with fail
      refine (get_any _ bd 0 aB nB cB x bs hnB hxl h0 HB.out (HZ.out x)).mono ?_
      rintro e w1 ⟨rfl, hb1, ho1⟩
      have HB1 : Hid (Below w.heap.size w w1) := hb1
      have HO1 : Hid (IntsO w1 _ (bs[x]?.getD []) (fresh w w1)) := ho1
      clear hb1 ho1
      go_wp2
      go_ret
      exact ⟨_, _, _, rfl, HB1.out, by rw [HA.out]; simpa [atK] using HO1.out, Nat.le_refl _⟩

theorem read_any (w : World) (bd : Nat) (aB aP : Option Addr) (nB cB nP cP : Nat) (bs : List (List Int)) (ps : List (Int × List Int)) (x : Nat) (hxl : x < nB) (hnB : nB ≤ 60) (hpl : ps.length = nP) (g2 : nP ≤ 200) (h0 : w.cell? ⟨bd, 0, none⟩ = some (.slice aB nB cB)) (h1 : w.cell? ⟨bd, 1, none⟩ = some (.slice aP nP cP))
    (hB : AtS w aB nB bs) (hP : AtC w aP nP ps) (hz : ∀ k : Nat, (bs[k]?.getD []).length ≤ 1048576) (hzp : ∀ k : Nat, (ps[k]?.getD (0, [])).2.length ≤ 1048576) :
    Calls Try.prog 64 #[.pointer (some ⟨bd, 0, none⟩), .int .i64 (x : Int)] w fun e w' => ∃ a n c, e = .returned (.slice a n c) ∧ Below w.heap.size w w' ∧ IntsO w' (.slice a n c) (atF bs ps x) (fresh w w') := (read_cap w bd aB aP nB cB nP cP bs ps x hxl hnB hpl g2 h0 h1 hB hP hz hzp).mono fun _ _ ⟨a, n, c, h1, h2, h3, _⟩ => ⟨a, n, c, h1, h2, h3⟩

theorem atF_len {bs : List (List Int)} {ps : List (Int × List Int)} {x : Int} {M : Nat} (hz : ∀ k : Nat, (bs[k]?.getD []).length ≤ M) (hzp : ∀ k : Nat, (ps[k]?.getD (0, [])).2.length ≤ M) : (atF bs ps x).length ≤ M := by
  unfold atF
  generalize ps.length = n
  induction n with
  | zero => exact hz _
  | succ n ih =>
    by_cases h : (ps[n]?.getD (0, [])).1 = x
    · rw [atK_hit h]; exact hzp n
    · rw [atK_miss h]; exact ih

end Go.Proofs.Ytpmndmkmfcoieaa

namespace Go.Proofs.Ytpmndmkmfcoieaa
open Go.RowKit
set_option maxRecDepth 100000

def putCode (bs : List (List Int)) (ps : List (Int × List Int)) (x : Int) (ws : List Int) : Int :=
  if placeF bs ps x = 0 then (if wordsF ws = 0 then (if 200 ≤ ps.length then 2 else 0) else wordsF ws) else placeF bs ps x
def putBlocks (bs : List (List Int)) (ps : List (Int × List Int)) (x : Int) (ws : List Int) : List (List Int) := if putCode bs ps x ws = 0 then bs else []
def putCache (bs : List (List Int)) (ps : List (Int × List Int)) (x : Int) (ws : List Int) : List (Int × List Int) := if putCode bs ps x ws = 0 then ps ++ [(x, ws)] else []

theorem three (w : World) (x y z : Value) (t : TypeId) : OwnRow (w.alloc (.cells #[x, y, z] t)) w.heap.size 3 (fun i => if i = 0 then x else if i = 1 then y else z) := by
  refine ⟨_, t, Go.Deep.blk_alloc_new _ _, by simp, fun i hi => ?_⟩
  have : i = 0 ∨ i = 1 ∨ i = 2 := by omega
  rcases this with rfl | rfl | rfl <;> simp

set_option maxHeartbeats 800000 in
theorem specPut_fault (w : World) (vB vC v : Value) (bs : List (List Int)) (ps : List (Int × List Int)) (x : Int) (hB : IntsS w vB bs) (hP : Puts w vC ps) (hf : ¬ faultF bs ps = 0) :
    Calls Try.prog 81 #[.agg #[vB, vC], .int .i64 x, v] w fun e w' => e = .returned (.agg #[.int .i64 (faultF bs ps), .slice none 0 0, .slice none 0 0]) ∧ Below w.heap.size w w' := by
  have HB : Hid (IntsS w vB bs) := hB
  have HP : Hid (Puts w vC ps) := hP
  generalize hc : faultF bs ps = c at *
  have HC : Hid (faultF bs ps = c) := hc
  have hne : (c != 0) = true := by simpa using hf
  clear hB hP hf hc
  go_enter Try.func81, Try.ntmps81
  go_wp2_with fail
  refine (l1Fault_any (vB := vB) (vC := vC) ?_ ?_ (HB.out.later (later2 _ _ _)) (HP.out.later (later2 _ _ _))).mono ?_
  · exact ((Box2.new w vB vC 30).later (later1 _ _)).1
  · exact ((Box2.new w vB vC 30).later (later1 _ _)).2
  rw [HC.out]
  rintro e w' ⟨rfl, m, rfl⟩
  go_wp2
  exact bodyPost_ret (v := .agg #[.int .i64 c, .slice none 0 0, .slice none 0 0]) (by simp [results, Try.results81, go_sem]) rfl ⟨rfl, (((below_drewN (later2 _ _ _) m).setCell (by simp) _).setCell (by simp) _).setCell (by simp) _⟩

set_option maxHeartbeats 800000 in
theorem specPut_place (w : World) (aB : Option Addr) (nB cB : Nat) (vC v : Value) (bs : List (List Int)) (ps : List (Int × List Int)) (x : Int) (hn : nB ≤ maxLen) (hB : IntsS w (.slice aB nB cB) bs) (hP : Puts w vC ps) (hf : faultF bs ps = 0) (hp : placeB nB x = false) :
    Calls Try.prog 81 #[.agg #[.slice aB nB cB, vC], .int .i64 x, v] w fun e w' => e = .returned (.agg #[.int .i64 3, .slice none 0 0, .slice none 0 0]) ∧ Below w.heap.size w w' := by
  have HB : Hid (IntsS w (.slice aB nB cB) bs) := hB
  have HP : Hid (Puts w vC ps) := hP
  have HF : Hid (faultF bs ps = 0) := hf
  have HPL : Hid (placeB nB x = false) := hp
  clear hB hP hf hp
  go_enter Try.func81, Try.ntmps81
  go_wp2_with fail
  refine (l1Fault_any (vB := .slice aB nB cB) (vC := vC) ?_ ?_ (HB.out.later (later2 _ _ _)) (HP.out.later (later2 _ _ _))).mono ?_
  · exact ((Box2.new w (.slice aB nB cB) vC 30).later (later1 _ _)).1
  · exact ((Box2.new w (.slice aB nB cB) vC 30).later (later1 _ _)).2
  rw [HF.out]
  rintro e w' ⟨rfl, m, rfl⟩
  go_wp2_with fail
  refine (l1Place_any _ _ aB nB cB x hn ?_).mono ?_
  · exact ((Box2.new w (.slice aB nB cB) vC 30).later (later1 _ _)).1
  rw [HPL.out]
  rintro e w' ⟨rfl, rfl⟩
  go_wp2
  exact bodyPost_ret (v := .agg #[.int .i64 3, .slice none 0 0, .slice none 0 0]) (by simp [results, Try.results81, go_sem]) rfl ⟨rfl, (((below_drewN (later2 _ _ _) m).setCell (by simp) _).setCell (by simp) _).setCell (by simp) _⟩

set_option maxHeartbeats 800000 in
theorem specPut_words (w : World) (aB : Option Addr) (nB cB : Nat) (vC v : Value) (bs : List (List Int)) (ps : List (Int × List Int)) (x : Int) (ws : List Int) (hn : nB ≤ maxLen) (hB : IntsS w (.slice aB nB cB) bs) (hP : Puts w vC ps) (hV : Ints w v ws) (hf : faultF bs ps = 0) (hp : placeB nB x = true) (hw : ¬ wordsF ws = 0) :
    Calls Try.prog 81 #[.agg #[.slice aB nB cB, vC], .int .i64 x, v] w fun e w' => e = .returned (.agg #[.int .i64 (wordsF ws), .slice none 0 0, .slice none 0 0]) ∧ Below w.heap.size w w' := by
  have HB : Hid (IntsS w (.slice aB nB cB) bs) := hB
  have HP : Hid (Puts w vC ps) := hP
  have HV : Hid (Ints w v ws) := hV
  have HF : Hid (faultF bs ps = 0) := hf
  have HPL : Hid (placeB nB x = true) := hp
  generalize hc : wordsF ws = c at *
  have HC : Hid (wordsF ws = c) := hc
  have hne : (c != 0) = true := by simpa using hw
  clear hB hP hf hp hV hc hw
  go_enter Try.func81, Try.ntmps81
  go_wp2_with fail
  refine (l1Fault_any (vB := .slice aB nB cB) (vC := vC) ?_ ?_ (HB.out.later (later2 _ _ _)) (HP.out.later (later2 _ _ _))).mono ?_
  · exact ((Box2.new w (.slice aB nB cB) vC 30).later (later1 _ _)).1
  · exact ((Box2.new w (.slice aB nB cB) vC 30).later (later1 _ _)).2
  rw [HF.out]
  rintro e w' ⟨rfl, m, rfl⟩
  go_wp2_with fail
  refine (l1Place_any _ _ aB nB cB x hn ?_).mono ?_
  · exact ((Box2.new w (.slice aB nB cB) vC 30).later (later1 _ _)).1
  rw [HPL.out]
  rintro e w' ⟨rfl, rfl⟩
  go_wp2_with fail
  refine (l1Words_any (HV.out.later (below_drewN (later2 _ _ _) m))).mono ?_
  rw [HC.out]
  rintro e w' ⟨rfl, rfl⟩
  go_wp2
  exact bodyPost_ret (v := .agg #[.int .i64 c, .slice none 0 0, .slice none 0 0]) (by simp [results, Try.results81, go_sem]) rfl ⟨rfl, (((below_drewN (later2 _ _ _) m).setCell (by simp) _).setCell (by simp) _).setCell (by simp) _⟩

set_option maxHeartbeats 800000 in
theorem specPut_full (w : World) (aB : Option Addr) (nB cB : Nat) (aC : Option Addr) (nC cC : Nat) (v : Value) (bs : List (List Int)) (ps : List (Int × List Int)) (x : Int) (ws : List Int) (hn : nB ≤ maxLen) (hB : IntsS w (.slice aB nB cB) bs) (hP : Puts w (.slice aC nC cC) ps) (hV : Ints w v ws) (hf : faultF bs ps = 0) (hp : placeB nB x = true) (hw : wordsF ws = 0) (hq : 200 ≤ nC) :
    Calls Try.prog 81 #[.agg #[.slice aB nB cB, .slice aC nC cC], .int .i64 x, v] w fun e w' => e = .returned (.agg #[.int .i64 2, .slice none 0 0, .slice none 0 0]) ∧ Below w.heap.size w w' := by
  have HB : Hid (IntsS w (.slice aB nB cB) bs) := hB
  have HP : Hid (Puts w (.slice aC nC cC) ps) := hP
  have HV : Hid (Ints w v ws) := hV
  have HF : Hid (faultF bs ps = 0) := hf
  have HPL : Hid (placeB nB x = true) := hp
  have HC : Hid (wordsF ws = 0) := hw
  have hq' : (200 : Int) ≤ (nC : Int) := by omega
  clear hB hP hf hp hV hw
  go_enter Try.func81, Try.ntmps81
  go_wp2_with fail
  refine (l1Fault_any (vB := .slice aB nB cB) (vC := .slice aC nC cC) ?_ ?_ (HB.out.later (later2 _ _ _)) (HP.out.later (later2 _ _ _))).mono ?_
  · exact ((Box2.new w (.slice aB nB cB) (.slice aC nC cC) 30).later (later1 _ _)).1
  · exact ((Box2.new w (.slice aB nB cB) (.slice aC nC cC) 30).later (later1 _ _)).2
  rw [HF.out]
  rintro e w' ⟨rfl, m, rfl⟩
  go_wp2_with fail
  refine (l1Place_any _ _ aB nB cB x hn ?_).mono ?_
  · exact ((Box2.new w (.slice aB nB cB) (.slice aC nC cC) 30).later (later1 _ _)).1
  rw [HPL.out]
  rintro e w' ⟨rfl, rfl⟩
  go_wp2_with fail
  refine (l1Words_any (HV.out.later (below_drewN (later2 _ _ _) m))).mono ?_
  rw [HC.out]
  rintro e w' ⟨rfl, rfl⟩
  go_wp2
  exact bodyPost_ret (v := .agg #[.int .i64 2, .slice none 0 0, .slice none 0 0]) (by simp [results, Try.results81, go_sem]) rfl ⟨rfl, (((below_drewN (later2 _ _ _) m).setCell (by simp) _).setCell (by simp) _).setCell (by simp) _⟩
end Go.Proofs.Ytpmndmkmfcoieaa

namespace Go.Proofs.Ytpmndmkmfcoieaa
open Go.RowKit
set_option maxRecDepth 100000

theorem faultF_places {bs : List (List Int)} {ps : List (Int × List Int)} (h : faultF bs ps = 0) : ∀ k, k < ps.length → ∃ x : Nat, (ps[k]?.getD (0, [])).1 = x ∧ x < bs.length := by
  have g := faultF_lens h
  have hb : ∀ n, ∀ i : Nat, i < n → i < bs.length → wordsF (bs[i]?.getD []) = 0 := by
    intro n
    induction n with
    | zero => intro i hi; omega
    | succ n ih =>
      intro i hi hl
      by_cases e : wordsF (bs[i]?.getD []) = 0
      · exact e
      · exact absurd (faultF_block (ps := ps) (by omega) hl (fun j hj => ih j (by omega) (by omega)) e) (by rw [h]; exact fun e' => e e'.symm)
  have hp : ∀ n, ∀ i : Nat, i < n → i < ps.length → putF bs.length (ps[i]?.getD (0, [])) = 0 := by
    intro n
    induction n with
    | zero => intro i hi; omega
    | succ n ih =>
      intro i hi hl
      by_cases e : putF bs.length (ps[i]?.getD (0, [])) = 0
      · exact e
      · exact absurd (faultF_put (by omega) (fun j hj => hb (j + 1) j (by omega) hj) hl (fun j hj => ih j (by omega) (by omega)) e) (by rw [h]; exact fun e' => e e'.symm)
  intro k hk
  have := hp (k + 1) k (by omega) hk
  unfold putF at this
  split at this
  · rename_i hq
    unfold placeB at hq
    simp only [decide_eq_true_eq] at hq
    exact ⟨(ps[k]?.getD (0, [])).1.toNat, by omega, by omega⟩
  · omega

set_option maxHeartbeats 800000 in
theorem specCrash_fault (w : World) (vB vC v : Value) (bs : List (List Int)) (ps : List (Int × List Int)) (hB : IntsS w vB bs) (hP : Puts w vC ps) (hf : ¬ faultF bs ps = 0) :
    Calls Try.prog 33 #[.agg #[vB, vC], v] w fun e w' => e = .returned (.agg #[.int .i64 (faultF bs ps), .slice none 0 0, .slice none 0 0]) ∧ Below w.heap.size w w' := by
  have HB : Hid (IntsS w vB bs) := hB
  have HP : Hid (Puts w vC ps) := hP
  generalize hc : faultF bs ps = c at *
  have HC : Hid (faultF bs ps = c) := hc
  have hne : (c != 0) = true := by simpa using hf
  clear hB hP hf hc
  go_enter Try.func33, Try.ntmps33
  go_wp2_with fail
  refine (l1Fault_any (vB := vB) (vC := vC) ?_ ?_ (HB.out.later (later2 _ _ _)) (HP.out.later (later2 _ _ _))).mono ?_
  · exact ((Box2.new w vB vC 30).later (later1 _ _)).1
  · exact ((Box2.new w vB vC 30).later (later1 _ _)).2
  rw [HC.out]
  rintro e w' ⟨rfl, m, rfl⟩
  go_wp2
  exact bodyPost_ret (v := .agg #[.int .i64 c, .slice none 0 0, .slice none 0 0]) (by simp [results, Try.results33, go_sem]) rfl ⟨rfl, (((below_drewN (later2 _ _ _) m).setCell (by simp) _).setCell (by simp) _).setCell (by simp) _⟩

set_option maxHeartbeats 1600000 in
theorem specCrash_ok (hcp : L1CopySaid) (w : World) (aB aC ap : Option Addr) (cB cC np cap : Nat) (bs : List (List Int)) (ps : List (Int × List Int)) (pb : List Bool) (hB : IntsS w (.slice aB bs.length cB) bs) (hP : Puts w (.slice aC ps.length cC) ps) (sB : AtS w aB bs.length bs) (sP : AtP w aC ps.length ps) (hf : faultF bs ps = 0)
    (hz : ∀ k : Nat, (bs[k]?.getD []).length ≤ 1048576) (hzp : ∀ k : Nat, (ps[k]?.getD (0, [])).2.length ≤ 1048576) (hnp : pb.length = np) (hA : AtBs w ap np pb) :
    Calls Try.prog 33 #[.agg #[.slice aB bs.length cB, .slice aC ps.length cC], .slice ap np cap] w (AnsDisk w 0 (keepTo (fun i => false || pb[i]?.getD false) bs ps ps.length) []) := by
  have HCP : Hid L1CopySaid := hcp
  have HB : Hid (IntsS w (.slice aB bs.length cB) bs) := hB
  have HP : Hid (Puts w (.slice aC ps.length cC) ps) := hP
  have SB : Hid (AtS w aB bs.length bs) := sB
  have SP : Hid (AtP w aC ps.length ps) := sP
  have HF : Hid (faultF bs ps = 0) := hf
  obtain ⟨g1, g2⟩ := faultF_lens hf
  have HZ : Hid (∀ k : Nat, (bs[k]?.getD []).length ≤ 1048576) := hz
  have HZP : Hid (∀ k : Nat, (ps[k]?.getD (0, [])).2.length ≤ 1048576) := hzp
  have HA : Hid (AtBs w ap np pb) := hA
  have HN : Hid (pb.length = np) := hnp
  clear hcp hB hP sB sP hf hz hzp hA hnp
  go_enter Try.func33, Try.ntmps33
  go_wp2_with fail
  refine (l1Fault_any (vB := .slice aB bs.length cB) (vC := .slice aC ps.length cC) ?_ ?_ (HB.out.later (later2 _ _ _)) (HP.out.later (later2 _ _ _))).mono ?_
  · exact ((Box2.new w (.slice aB bs.length cB) (.slice aC ps.length cC) 30).later (later1 _ _)).1
  · exact ((Box2.new w (.slice aB bs.length cB) (.slice aC ps.length cC) 30).later (later1 _ _)).2
  rw [HF.out]
  rintro e w' ⟨rfl, m, rfl⟩
  go_wp2_with fail
  refine (l1Keep_any HCP.out _ aB aC _ cB cC _ _ false bs ps pb g1 g2 HZ.out HZP.out (SB.out.later (below_drewN (later2 _ _ _) m)) (SP.out.later (below_drewN (later2 _ _ _) m)) (faultF_places HF.out) HN.out (HA.out.later (below_drewN (later2 _ _ _) m))).mono ?_
  rintro e w1 ⟨aX, cX, rfl, hb1, hio⟩
  have HW1 : Hid (Below w.heap.size w w1) := (below_drewN (later2 _ _ _) m).trans (hb1.mono (by simp [World.drewN]; omega))
  have HR1 : Hid (OwnRow w1 (w.heap.size + 1) 3 (fun i => if i = 0 then .int .i64 0 else if i = 1 then .slice none 0 0 else .slice none 0 0)) := by
    have h := (three (w.alloc (Obj.cells #[Value.slice aB bs.length cB, Value.slice aC ps.length cC] 30)) (.int .i64 0) (.slice none 0 0) (.slice none 0 0) 32)
    have h2 := (h.later (below_drewN (Below.refl _ _) m)).later hb1
    unfold Hid
    simpa using h2
  have HIO : Hid (IntsSO w1 (.slice aX bs.length cX) (keepTo (fun i => false || pb[i]?.getD false) bs ps ps.length) (fun c => w.heap.size + 2 ≤ c ∧ c < w1.heap.size)) := hio.mono fun b hb => ⟨by have := hb.1; simp [World.drewN] at this; omega, hb.2⟩
  have r0 := HR1.out.cell (i := 0) (by omega)
  have r1 := HR1.out.cell (i := 1) (by omega)
  have r2 := HR1.out.cell (i := 2) (by omega)
  have s0 := HR1.out.frozen 0
  have s1 := HR1.out.frozen 1
  have s2 := HR1.out.frozen 2
  simp at r0 r1 r2
  clear hb1 hio
  go_wp2
  refine bodyPost_ret (v := .agg #[.int .i64 0, .slice aX bs.length cX, .slice none 0 0]) (by simp [results, Try.results33, go_sem, r0, r1, r2]) rfl ⟨_, _, _, _, _, _, rfl, ((HW1.out.setCell (by simp) _).setCell (by simp) _).setCell (by simp) _, fun c => w.heap.size + 2 ≤ c ∧ c < w1.heap.size, fun _ => False, ((HIO.out.store (fun b hb => by simp; omega) _).store (fun b hb => by simp; omega) _).store (fun b hb => by simp; omega) _, Or.inl ⟨rfl, none, 0, rfl⟩, fun b _ h => h.elim, fun b hb => ?_⟩
  rcases hb with hb | hb
  · simp only [World.setCell, Array.size_modify]
    omega
  · exact hb.elim

/-- What a flush or a crash leaves in the blocks. -/
def keepBlocks (pk : Nat → Bool) (bs : List (List Int)) (ps : List (Int × List Int)) : List (List Int) := if faultF bs ps = 0 then keepTo pk bs ps ps.length else []

theorem specCrash_any (hcp : L1CopySaid) (w : World) (vB vC : Value) (ap : Option Addr) (cap : Nat) (bs : List (List Int)) (ps : List (Int × List Int)) (pb : List Bool) (hB : IntsS w vB bs) (hP : Puts w vC ps) (hA : AtBs w ap pb.length pb) (hz : ∀ k : Nat, (bs[k]?.getD []).length ≤ 1048576) (hzp : ∀ k : Nat, (ps[k]?.getD (0, [])).2.length ≤ 1048576) :
    Calls Try.prog 33 #[.agg #[vB, vC], .slice ap pb.length cap] w (AnsDisk w (faultF bs ps) (keepBlocks (fun i => pb[i]?.getD false) bs ps) []) := by
  obtain ⟨aB, cB, rfl, _, sB⟩ := hB.open'
  obtain ⟨aC, cC, rfl, _, sP⟩ := hP.open'
  unfold keepBlocks
  by_cases hf : faultF bs ps = 0
  · rw [if_pos hf, hf]
    have := specCrash_ok hcp w aB aC ap cB cC pb.length cap bs ps pb hB hP sB sP hf hz hzp rfl hA
    simpa using this
  · rw [if_neg hf]
    exact (specCrash_fault w _ _ _ bs ps hB hP hf).mono fun e w' ⟨h1, h2⟩ => by rw [h1]; exact ans_bad h2 _
end Go.Proofs.Ytpmndmkmfcoieaa
