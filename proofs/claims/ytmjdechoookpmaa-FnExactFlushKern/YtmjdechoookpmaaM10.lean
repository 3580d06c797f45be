/- The specification's draws: picks, and a disk with picks. The walk of the specification's copying of a disk: its two loops. FlushDisk and CrashDisk in the one form of the laws. What FnDisks asks: the last put that was picked is what stands at a place. How long a code may be. -/
import Derived.Test.YtmjdechoookpmaaM06
import Derived.Test.YtmjdechoookpmaaM09
import Derived.Test.YtmjdechoookpmaaM07
import Derived.Test.YtmjdechoookpmaaM08
import Derived.Test.YtmjdechoookpmaaRows
import Derived.Test.YtmjdechoookpmaaM00
namespace Go.Proofs.Ytmjdechoookpmaa
open Go.RowKit
set_option maxRecDepth 100000

def boolV (b : Bool) : Value := .bool b
def BoX (w : World) (lo : Nat) (v : Value) (bs : List Bool) : Prop := w.ownsRow lo 4 1 v bs.length (bs.map boolV)
theorem BoX.shape {w : World} {lo : Nat} {v : Value} {bs : List Bool} (h : BoX w lo v bs) : ∃ a c, v = .slice a bs.length c := ownsRow_shape h
theorem BoX.bools {w : World} {lo : Nat} {v : Value} {bs : List Bool} (h : BoX w lo v bs) : Bools w v bs := by
  by_cases h0 : 0 < bs.length
  · obtain ⟨g, cap, rfl, _, _, h4, h5⟩ := ownsRow_row h h0
    refine Or.inr ⟨g, 0, cap, rfl, h4, fun k hk => ?_⟩
    rw [Nat.zero_add, h5.cell hk]
    rw [List.getElem?_map, List.getElem?_eq_getElem hk]
    rfl
  · obtain ⟨a, c, rfl⟩ := h.shape
    have : bs = [] := List.eq_nil_of_length_eq_zero (by omega)
    subst this
    exact Or.inl ⟨rfl, a, c, rfl⟩
theorem BoX.keep {w W : World} {lo : Nat} {v : Value} {bs : List Bool} (h : BoX w lo v bs) (hW : ∀ b, lo ≤ b → b < w.heap.size → W.heap[b]? = w.heap[b]?) : BoX W lo v bs := by
  obtain ⟨hl, h | ⟨g, cap, cur, h1, h2, h3, h4⟩⟩ := h
  · exact ⟨hl, Or.inl h⟩
  · exact ⟨hl, Or.inr ⟨g, cap, cur, h1, h2, (hW g h2 (Array.getElem?_eq_some_iff.1 h3).1).trans h3, h4⟩⟩
theorem Try.infoBool' : ∃ i, Try.prog.info? 4 = some i ∧ i.zero = some (.bool false) ∧ i.size = 1 ∧ i.bytes = 1 := by
  have h : (Try.prog.info? 4).map (fun i => (i.zero, i.size, i.bytes)) = some (some (.bool false), 1, 1) := by kernel_rfl
  obtain ⟨i, hi, h⟩ := Option.map_eq_some_iff.1 h
  simp only [Prod.mk.injEq] at h
  exact ⟨i, hi, h.1, h.2.1, h.2.2⟩
theorem append_b1 (w : World) (n₀ : Nat) (v : Value) (zs : List Bool) (y : Bool) (hrow : BoX w n₀ v zs) (hn₀ : n₀ ≤ w.heap.size) (hz : zs.length ≤ 1000) :
    ∃ a c X, (Builtin.append_ #[28, 28] 28 #[v, .slice (some ⟨w.heap.size, 0, none⟩) 1 1]).run Try.prog (w.alloc (.cells #[.bool y] 4)) = .ok (.slice a (zs.length + 1) c) X ∧ BoX X n₀ (.slice a (zs.length + 1) c) (zs ++ [y]) ∧ Below n₀ w X := by
  obtain ⟨i, hi, h1, h2, h3⟩ := Try.infoBool'
  have hrow2 : BoX (w.alloc (.cells #[.bool y] 4)) n₀ v zs := ownsRow_later hrow (later1 _ _)
  obtain ⟨v', X, hr, ho, hg, _⟩ := run_append_own (P := Try.prog) (w.alloc (.cells #[.bool y] 4)) n₀ 28 28 4 i (.bool false) 1 1 Try.underlying28 hi h1 h2 h3 rfl (by decide) v zs.length _ hrow2 ⟨w.heap.size, 0, none⟩ 1 1 [boolV y]
    (by simp) (fun j u hu => by
      have hj : j = 0 := by
        have := (List.getElem?_eq_some_iff.1 hu).1
        simp at this; omega
      subst hj
      simp only [List.getElem?_cons_zero, Option.some.injEq] at hu
      subst hu
      rw [add_plain', Nat.add_zero, new_cell]
      rfl) (fun u hu => by
      simp only [List.mem_singleton] at hu
      subst hu
      rfl) (by unfold maxLen; omega) (by omega) (by simp; omega)
  have how : BoX X n₀ v' (zs ++ [y]) := by
    unfold BoX
    rw [List.length_append, List.map_append]
    exact ho
  obtain ⟨a, c, e⟩ := how.shape
  have hl : (zs ++ [y]).length = zs.length + 1 := by simp
  rw [hl] at e
  subst e
  refine ⟨a, c, X, hr, how, ((later1 w _).mono hn₀).trans (below_grown hg (by simp; omega) (fun k hk => ?_))⟩
  rcases hrow.2 with ⟨e, _⟩ | ⟨g, cap, cur, e, hb, _⟩
  · rw [e] at hk; simp [Value.ownBlock] at hk
  · rw [e] at hk
    simp only [Value.ownBlock, Option.some.injEq] at hk
    omega

set_option maxHeartbeats 3200000 in
theorem l1Picks_ds (w0 w : World) (sb : Nat) (a : Option Addr) (n c at' k0 : Nat) (h : DS w0 w sb a n c at') (hat : at' ≤ 900000) (hk0 : k0 ≤ 100) :
    Calls Try.prog 32 #[.pointer (some ⟨sb, 0, none⟩), .int .i64 (k0 : Int)] w fun e w' => ∃ v bb, e = .returned v ∧ bb.length = k0 ∧ (∀ W : World, (∀ b, w.heap.size ≤ b → b < w'.heap.size → W.heap[b]? = w'.heap[b]?) → Bools W v bb) ∧ Chg (fun b => b = sb) w w' ∧ Below w0.heap.size w0 w' := by
  have HB0 : Hid (w0.heap.size ≤ w.heap.size) := h.below.size
  have hsb := h.lt
  have HD : Hid (DS w0 (w.alloc (.cells #[] 4)) sb a n c at') := h.later (later1 _ _)
  have HW : Hid (BoX (w.alloc (.cells #[] 4)) w.heap.size (.slice (some ⟨w.heap.size, 0, none⟩) 0 0) []) := World.ownsRow_lit w #[] 0 (Nat.le_refl _) (by simp) rfl
  have HC : Hid (Chg (fun b => b = sb) w (w.alloc (.cells #[] 4))) := Chg.of_below (later1 _ _)
  clear h
  go_enter Try.func32, Try.ntmps32
  go_wp2
  go_loopw [1, 5] (fun i o wr => ∃ (j : Nat) (v : Value) (zs : List Bool), o = v ∧ i = .int .i64 (j : Int) ∧ j + zs.length = k0 ∧ DS w0 wr sb a n c (at' + zs.length) ∧ Chg (fun b => b = sb) w wr ∧ BoX wr w.heap.size v zs) (fun i _ _ => (intOf i).toNat)
  case atStart => exact ⟨k0, _, [], rfl, rfl, by simp, HD.out, HC.out, HW.out⟩
  case round =>
    clear HD HC HW
    obtain ⟨j, v, zs, rfl, rfl, hjk, hd, hc, hw⟩ := hrel
    obtain ⟨aV, cV, rfl⟩ := hw.shape
    have HD : Hid (DS w0 wr sb a n c (at' + zs.length)) := hd
    have HC : Hid (Chg (fun b => b = sb) w wr) := hc
    have HW : Hid (BoX wr w.heap.size (.slice aV zs.length cV) zs) := hw
    clear hd hc hw
    by_cases hj : 0 < j
    · have hj' : decide ((0 : Int) < (j : Int)) = true := by simp; omega
      go_wp2_with fail
      refine (l1Chance_ds w0 _ sb a n c _ 2 HD.out (by omega) (by omega) (by omega)).mono ?_
      rintro e w2 ⟨bo, rfl, hd, hc⟩
      have hs2 : w.heap.size ≤ w2.heap.size := (HC.out.trans hc).size
      obtain ⟨a', c', X, hrun, hwX, hbX⟩ := append_b1 w2 w.heap.size _ zs bo (ownsRow_chg HW.out hc hsb) hs2 (by omega)
      have HR : Hid (_ = _) := hrun
      have HWX : Hid (BoX X w.heap.size _ (zs ++ [bo])) := hwX
      have HDX : Hid (DS w0 X sb a n c (at' + zs.length + 1)) := hd.low hbX hsb HB0.out
      have HCX : Hid (Chg (fun b => b = sb) w X) := (HC.out.trans hc).low hbX (Nat.le_refl _)
      clear hrun hwX hbX hd hc
      go_wp2_with (at_builtin; refine wpList_append_run rfl _ _ 28 rfl _ _ rfl rfl _ _ HR.out ?_)
      go_roundw
      case rel => exact ⟨j - 1, _, zs ++ [bo], rfl, by congr 1; omega, by simp; omega, by simpa [Nat.add_assoc] using HDX.out, HCX.out, HWX.out⟩
      case measure => simp [intOf]; omega
    · have hj' : decide ((0 : Int) < (j : Int)) = false := by simp; omega
      go_wp2
      go_ret
      exact ⟨_, zs, rfl, by omega, fun W hW => (HW.out.keep hW).bools, HC.out, HD.out.below⟩

set_option maxHeartbeats 6400000 in
theorem drawCrash_any (w : World) (a : Option Addr) (n c : Nat) (hn : n ≤ 1048576) (hb : AtB w a n) :
    Calls Try.prog 7 #[.slice a n c] w fun e w' => ∃ aB nB cB aC nC cC bs ps aP nP cP bb, e = .returned (.tuple #[.agg #[.slice aB nB cB, .slice aC nC cC], .slice aP nP cP]) ∧ Below w.heap.size w w' ∧ IntsS w' (.slice aB nB cB) bs ∧ Puts w' (.slice aC nC cC) ps ∧ (1 ≤ bs.length ∧ bs.length ≤ 61) ∧ ps.length ≤ 201 ∧ (∀ k : Nat, (bs[k]?.getD []).length ≤ 70) ∧ (∀ k : Nat, (ps[k]?.getD (0, [])).2.length ≤ 70) ∧ Bools w' (.slice aP nP cP) bb ∧ bb.length ≤ 100 := by
  have HB : Hid (AtB w a n) := hb
  clear hb
  go_enter Try.func7, Try.ntmps7
  go_wp2_with fail
  refine (source_any _ a n c).mono ?_
  rintro e w1 ⟨rfl, rfl⟩
  have HD : Hid (DS (w.alloc (.cells #[.slice none 0 0, .slice none 0 0] 27)) ((w.alloc (.cells #[.slice none 0 0, .slice none 0 0] 27)).alloc (.cells #[.slice a n c, .int .i64 0] 112)) (w.heap.size + 1) a n c 0) := by
    have := DS.start (w.alloc (.cells #[.slice none 0 0, .slice none 0 0] 27)) a n c hn (HB.out.later (later1 _ _))
    rw [World.size_alloc] at this
    exact this
  have hres0 : (w.alloc (.cells #[.slice none 0 0, .slice none 0 0] 27)).heap[w.heap.size]? = some (.cells #[.slice none 0 0, .slice none 0 0] 27) := Go.Deep.blk_alloc_new _ _
  have hszW : (w.alloc (.cells #[.slice none 0 0, .slice none 0 0] 27)).heap.size = w.heap.size + 1 := World.size_alloc _ _
  have HB1 : Hid (Below w.heap.size w (w.alloc (.cells #[.slice none 0 0, .slice none 0 0] 27))) := later1 _ _
  rw [World.size_alloc]
  go_wp2_with fail
  generalize (w.alloc (.cells #[.slice none 0 0, .slice none 0 0] 27)) = W at *
  refine (l1Disk_ds W _ _ a n c 0 HD.out (by omega)).mono ?_
  rintro e w2 ⟨vB, vC, bs, ps, at2, rfl, ha2, hds, hrd, hl1, hl2, hz1, hz2⟩
  obtain ⟨hrb0, hrp0⟩ := hrd w2 (fun _ _ _ => rfl)
  obtain ⟨aB, cB, rfl, _, _⟩ := hrb0.open'
  obtain ⟨aC, cC, rfl, _, _⟩ := hrp0.open'
  have hres2 : w2.heap[w.heap.size]? = some (.cells #[.slice none 0 0, .slice none 0 0] 27) := (hds.below.block _ (by omega)).trans hres0
  have hs2 : w.heap.size + 1 < w2.heap.size := hds.lt
  have HRD : Hid (∀ W' : World, (∀ b, w.heap.size + 2 ≤ b → b < w2.heap.size → W'.heap[b]? = w2.heap[b]?) → IntsS W' (.slice aB bs.length cB) bs ∧ Puts W' (.slice aC ps.length cC) ps) := fun W' hW' => hrd W' (fun b hb => hW' b (by rw [World.size_alloc, hszW] at hb; omega))
  have HDS2 : Hid (DS W (w2.alloc (.cells #[.slice aB bs.length cB, .slice aC ps.length cC] 27)) (w.heap.size + 1) a n c at2) := hds.later (later1 _ _)
  have HRS : Hid ((w2.alloc (.cells #[.slice aB bs.length cB, .slice aC ps.length cC] 27)).heap[w.heap.size]? = some (.cells #[.slice none 0 0, .slice none 0 0] 27)) := ((later1 w2 _).block _ (by omega)).trans hres2
  have HBX : Hid ((w2.alloc (.cells #[.slice aB bs.length cB, .slice aC ps.length cC] 27)).heap[w2.heap.size]? = some (.cells #[.slice aB bs.length cB, .slice aC ps.length cC] 27)) := Go.Deep.blk_alloc_new _ _
  have HBB : Hid (∀ b, b < w2.heap.size → (w2.alloc (.cells #[.slice aB bs.length cB, .slice aC ps.length cC] 27)).heap[b]? = w2.heap[b]?) := fun b hb => (later1 w2 _).block b hb
  have HL : Hid ((1 ≤ bs.length ∧ bs.length ≤ 61) ∧ ps.length ≤ 201 ∧ (∀ k : Nat, (bs[k]?.getD []).length ≤ 70) ∧ (∀ k : Nat, (ps[k]?.getD (0, [])).2.length ≤ 70)) := ⟨hl1, hl2, hz1, hz2⟩
  have hs3 : w2.heap.size < (w2.alloc (.cells #[.slice aB bs.length cB, .slice aC ps.length cC] 27)).heap.size := by simp
  clear hds hrd hl1 hl2 hz1 hz2 hrb0 hrp0 hres0 hres2 HD
  generalize hnB : bs.length = nB at *
  generalize hnC : ps.length = nC at *
  have HNB : Hid (bs.length = nB ∧ ps.length = nC) := ⟨hnB, hnC⟩
  clear hnB hnC
  dsimp only
  go_wp2_with fail
  generalize (w2.alloc (.cells #[.slice aB nB cB, .slice aC nC cC] 27)) = w3 at *
  have x0 : w3.cell? ⟨w2.heap.size, 0, none⟩ = some (.slice aB nB cB) := by simp [World.cell?, HBX.out]
  have x1 : w3.cell? ⟨w2.heap.size, 1, none⟩ = some (.slice aC nC cC) := by simp [World.cell?, HBX.out]
  have hne1 : w2.heap.size ≠ w.heap.size := by omega
  have hne2 : w.heap.size ≠ w2.heap.size := by omega
  go_region_held3 (fun W => W.cell? ⟨w2.heap.size, 0, none⟩ = some (.slice aB nB cB) ∧ W.cell? ⟨w2.heap.size, 1, none⟩ = some (.slice aC nC cC)) (go_keep) (first
    | (have h0 : DS W w3.drew (w.heap.size + 1) a n c at2 := ⟨HDS2.out.src, HDS2.out.below.drew, HDS2.out.new, HDS2.out.len, HDS2.out.bytes⟩; clear HDS2; go_at_call 33; refine (l1Next_ds W _ (w.heap.size + 1) a n c at2 9 h0 (by omega) (by omega) (by omega)).mono ?_; rintro e u1 ⟨r1, rfl, hr1, hd, hc⟩; have HD1 : Hid (DS W u1 (w.heap.size + 1) a n c (at2 + 1)) := hd; have HC1 : Hid (Chg (fun b => b = w.heap.size + 1) w3 u1) := (Chg.of_below (Below.refl _ _).drew).trans hc; have y0 := (hc.cell (a := ⟨w2.heap.size, 0, none⟩) hs3 (by show ¬ w2.heap.size = _; omega)).trans x0; have y1 := (hc.cell (a := ⟨w2.heap.size, 1, none⟩) hs3 (by show ¬ w2.heap.size = _; omega)).trans x1; clear h0 hd hc)
    | (have h0 := HD1.out; clear HD1; go_at_call 32; refine (l1Picks_ds W _ (w.heap.size + 1) a n c (at2 + 1) r1 h0 (by omega) (by omega)).mono ?_; rintro e u2 ⟨vP, bb, rfl, hbl, hbo, hc, hbw⟩; obtain ⟨aP, cP, rfl, _, _⟩ := (hbo u2 (fun _ _ _ => rfl)).open'; have hu1s : w3.heap.size ≤ u1.heap.size := HC1.out.size; have HC2 : Hid (Chg (fun b => b = w.heap.size + 1) w3 u2) := HC1.out.trans hc; have HBO : Hid (∀ W' : World, (∀ b, u1.heap.size ≤ b → b < u2.heap.size → W'.heap[b]? = u2.heap[b]?) → Bools W' (.slice aP bb.length cP) bb) := hbo; have HBL : Hid (bb.length ≤ 100) := (by unfold Hid; omega); have HBW : Hid (Below W.heap.size W u2) := hbw; have z0 := (hc.cell (a := ⟨w2.heap.size, 0, none⟩) (Nat.lt_of_lt_of_le hs3 HC1.out.size) (by show ¬ w2.heap.size = _; omega)).trans y0; have z1 := (hc.cell (a := ⟨w2.heap.size, 1, none⟩) (Nat.lt_of_lt_of_le hs3 HC1.out.size) (by show ¬ w2.heap.size = _; omega)).trans y1
       have hru := (HC2.out.block w.heap.size (by omega) (by omega)).trans HRS.out
       have t0 : u2.cell? ⟨w.heap.size, 0, none⟩ = some (.slice none 0 0) := by simp [World.cell?, hru]
       have t1 : u2.cell? ⟨w.heap.size, 1, none⟩ = some (.slice none 0 0) := by simp [World.cell?, hru]
       have f0 : u2.frozen? ⟨w.heap.size, 0, none⟩ = false := by simp [World.frozen?, hru]
       have f1 : u2.frozen? ⟨w.heap.size, 1, none⟩ = false := by simp [World.frozen?, hru]
       clear h0 hbl hbo hc hbw hru))
  all_goals
    have HFB : Hid (∀ x y : Value, ∀ b, b ≠ w.heap.size → ((u2.setCell ⟨w.heap.size, 0, none⟩ x).setCell ⟨w.heap.size, 1, none⟩ y).heap[b]? = u2.heap[b]?) := fun x y b hb => (Below.heap_setCell _ _ _ _ hb).trans (Below.heap_setCell _ _ _ _ hb)
    have HF1 : Hid (∀ x y : Value, IntsS ((u2.setCell ⟨w.heap.size, 0, none⟩ x).setCell ⟨w.heap.size, 1, none⟩ y) (.slice aB nB cB) bs ∧ Puts ((u2.setCell ⟨w.heap.size, 0, none⟩ x).setCell ⟨w.heap.size, 1, none⟩ y) (.slice aC nC cC) ps) := fun x y => HRD.out _ (fun b hb hlt => (HFB.out x y b (by omega)).trans ((HC2.out.block b (by omega) (by omega)).trans (HBB.out b hlt)))
    have HF2 : Hid (∀ x y : Value, Bools ((u2.setCell ⟨w.heap.size, 0, none⟩ x).setCell ⟨w.heap.size, 1, none⟩ y) (.slice aP bb.length cP) bb) := fun x y => HBO.out _ (fun b hb _ => HFB.out x y b (by omega))
    have HF3 : Hid (∀ x y : Value, Below w.heap.size w ((u2.setCell ⟨w.heap.size, 0, none⟩ x).setCell ⟨w.heap.size, 1, none⟩ y)) := fun x y => ((HB1.out.trans (HBW.out.mono HB1.out.size)).setCell (by simp) x).setCell (by simp) y
    obtain ⟨hl1, hl2, hz1, hz2⟩ := HL.out
    have HZ1 : Hid (∀ k : Nat, (bs[k]?.getD []).length ≤ 70) := hz1
    have HZ2 : Hid (∀ k : Nat, (ps[k]?.getD (0, [])).2.length ≤ 70) := hz2
    clear hz1 hz2 HL HRD HBO HFB HBB HC2 HBW
    go_wp2
    exact bodyPost_ret (v := .tuple #[.agg #[.slice aB nB cB, .slice aC nC cC], .slice aP bb.length cP]) (by simp [results, Try.results7, go_sem, t0, t1]) rfl ⟨_, _, _, _, _, _, bs, ps, _, _, _, bb, rfl, HF3.out _ _, (HF1.out _ _).1, (HF1.out _ _).2, by rw [HNB.out.1]; exact hl1, by rw [HNB.out.2]; exact hl2, HZ1.out, HZ2.out, HF2.out _ _, HBL.out⟩
end Go.Proofs.Ytmjdechoookpmaa

namespace Go.Proofs.Ytmjdechoookpmaa
open Go.RowKit
set_option maxRecDepth 100000

set_option maxHeartbeats 6400000 in
theorem l1Copy_said : L1CopySaid := by
  intro w aB aC nB cB nC cC bs ps hbl hpl g1 g2 hz hzp hB hP
  have HBL : Hid (bs.length = nB) := hbl
  have HPL : Hid (ps.length = nC) := hpl
  have HZ : Hid (∀ k : Nat, (bs[k]?.getD []).length ≤ 1048576) := hz
  have HZP : Hid (∀ k : Nat, (ps[k]?.getD (0, [])).2.length ≤ 1048576) := hzp
  have HB : Hid (AtS w aB nB bs) := hB
  have HP : Hid (AtP w aC nC ps) := hP
  clear hbl hpl hz hzp hB hP
  obtain ⟨tj, hi, h1, h2, h3⟩ := Try.infoInts'
  have HTJ : Hid (Try.prog.info? 36 = some tj ∧ tj.zero = some (.slice none 0 0) ∧ tj.size = 1 ∧ tj.bytes = 24) := ⟨hi, h1, h2, h3⟩
  clear hi h1 h2 h3
  go_enter Try.func82, Try.ntmps82
  go_wp2_with fail
  go_loopw [4] (fun i wr => ∃ j : Nat, j ≤ nB ∧ i = .int .i64 j ∧ Below w.heap.size w wr ∧ w.heap.size + 3 ≤ wr.heap.size ∧ Box2 wr w.heap.size (.slice aB nB cB) (.slice aC nC cC) ∧ OwnRow wr (w.heap.size + 1) 2 (fun c => if c = 0 then .slice none 0 0 else .slice none 0 0) ∧
    ∃ aX cX k u, OwnRow wr (w.heap.size + 2) 2 (fun c => if c = 0 then .slice aX j cX else .slice none 0 0) ∧ LRow C1 wr (w.heap.size + 3) (w.heap.size + 3) 36 1 (.slice aX j cX) j (fun i => bs[i]?.getD []) k u) (fun i _ => nB - (intOf i).toNat)
  case atStart =>
    refine ⟨0, Nat.zero_le _, rfl, later3 _ _ _ _, by simp, ((Box2.new _ _ _ _).later (later1 _ _)).later (later1 _ _), ?_, none, 0, fun _ => 0, fun _ => .slice none 0 0, ?_, LRow.nil _ _ _ _ _ _⟩
    · have := (OwnRow.two (w.alloc (.cells #[.slice aB nB cB, .slice aC nC cC] 27)) (.slice none 0 0) (.slice none 0 0) 27).later (later1 _ (.cells #[.slice none 0 0, .slice none 0 0] 27))
      simpa using this
    · have := OwnRow.two ((w.alloc (.cells #[.slice aB nB cB, .slice aC nC cC] 27)).alloc (.cells #[.slice none 0 0, .slice none 0 0] 27)) (.slice none 0 0) (.slice none 0 0) 27
      simpa using this
  case round =>
    obtain ⟨j, hj, rfl, hbw, hsz, hbx, hres, aX, cX, k, u, hrow, hlr⟩ := hrel
    have HBW : Hid (Below w.heap.size w wr) := hbw
    have HBX : Hid (Box2 wr w.heap.size (.slice aB nB cB) (.slice aC nC cC)) := hbx
    have HRES : Hid (OwnRow wr (w.heap.size + 1) 2 (fun c => if c = 0 then .slice none 0 0 else .slice none 0 0)) := hres
    have HROW : Hid (OwnRow wr (w.heap.size + 2) 2 (fun c => if c = 0 then .slice aX j cX else .slice none 0 0)) := hrow
    have HLR : Hid (LRow C1 wr (w.heap.size + 3) (w.heap.size + 3) 36 1 (.slice aX j cX) j (fun i => bs[i]?.getD []) k u) := hlr
    clear hbw hbx hres hrow hlr
    obtain ⟨b0, b1⟩ := HBX.out
    by_cases hlt : j < nB
    · obtain ⟨b, off, ua, ucap, e, c1, i1⟩ := HB.out j hlt
      subst e
      replace c1 := cell_later HBW.out c1
      have HI : Hid (Ints wr (.slice ua (bs[j]?.getD []).length ucap) (bs[j]?.getD [])) := i1.later HBW.out
      clear i1
      have q0 := HROW.out.cell (i := 0) (by omega)
      have q1 := HROW.out.frozen 0
      simp at q0
      have hbig : w.heap.size + 2 < wr.heap.size := by omega
      go_wp2_with fail
      go_region_law (first
        | (refine step_append_run rfl _ _ 24 rfl _ _ rfl rfl _ _ HR.out ?_)
        | (go_simp; go_at_call 83; refine (l1Ints_more ?_ (HZ.out j)).mono ?_; exact HI.out; rintro e w1 ⟨na, nc, rfl, hb1, ho1, hs1⟩
           obtain ⟨kb, hk1, hk2, hkf⟩ := ho1.one hs1
           obtain ⟨hi, h1, h2, h3⟩ := HTJ.out
           obtain ⟨g2, cap2, X, hr, hXb, hBX, hXs, hLX⟩ := LRow.append wr w1 24 24 36 tj _ 1 24 Try.underlying24 hi h1 h2 h3 rfl (by decide) (by decide) (w.heap.size + 3) (w.heap.size + 3) j _ _ k u HLR.out hsz (by omega) ((Below.refl _ _).drew.trans hb1) na nc rfl (fun x hx => by simp [C1] at hx; subst hx; rfl) kb (Nat.le_trans hsz hk1) hk2 (fun e => by have := (HLR.out.own.lt _ e).2; exact absurd hk1 (by show ¬ wr.heap.size ≤ kb; omega)) (fun i hi e => by have := (HLR.out.lo i hi).2; exact absurd hk1 (by show ¬ wr.heap.size ≤ kb; omega)) hkf
           have HR : Hid (_ = _) := hr
           have z0 := cell_later hb1 q0
           have z3 := cell_later hb1 b0
           have z4 := cell_later hb1 c1
           have HBX2 : Hid (Below (w.heap.size + 3) wr X) := hBX
           have HLX := hLX
           have HLX2 : Hid (LRow C1 X (w.heap.size + 3) (w.heap.size + 3) 36 1 (.slice (some ⟨g2, 0, none⟩) (j + 1) cap2) (j + 1) (fun i => bs[i]?.getD []) _ _) := HLX
           have x0 : X.cell? ⟨w.heap.size + 2, 0, none⟩ = some (.slice aX j cX) := (hBX.cell (p := ⟨w.heap.size + 2, 0, none⟩) (by simp)).trans q0
           have x1 : X.frozen? ⟨w.heap.size + 2, 0, none⟩ = false := (hBX.frozen (p := ⟨w.heap.size + 2, 0, none⟩) (by simp)).trans q1
           have hw1 : w.heap.size + 2 < w1.heap.size := Nat.lt_of_lt_of_le hbig hb1.size
           have hw0 : w.heap.size < w1.heap.size := Nat.lt_of_le_of_lt (Nat.le_add_right _ 2) hw1
           clear hr hXb hBX hLX HLX hb1 ho1 hs1 hkf hk1 hk2 hi h1 h2 h3 hXs))
      all_goals
        go_wp2
        go_roundw
        case rel =>
          refine ⟨j + 1, by omega, by go_num, (HBW.out.trans (HBX2.out.mono (by omega))).setCell (by simp; omega) _, ?_, ?_, (HRES.out.block (HBX2.out.block _ (by omega))).store (by simp) _, some ⟨g2, 0, none⟩, cap2, _, _, ((HROW.out.block (HBX2.out.block _ (by omega))).set 0 _).congr fun c hc => ?_, HLX2.out.store (by simp) (by simp) _⟩
          · have := HBX2.out.size; simp [World.setCell]; omega
          · have hb := World.cell?_of_block (w := X) (a := ⟨w.heap.size, 0, none⟩) (Below.heap_setCell X ⟨w.heap.size + 2, 0, none⟩ (.slice (some ⟨g2, 0, none⟩) (j + 1) cap2) w.heap.size (by simp))
            have hb' := World.cell?_of_block (w := X) (a := ⟨w.heap.size, 1, none⟩) (Below.heap_setCell X ⟨w.heap.size + 2, 0, none⟩ (.slice (some ⟨g2, 0, none⟩) (j + 1) cap2) w.heap.size (by simp))
            exact ⟨hb.trans ((HBX2.out.cell (p := ⟨w.heap.size, 0, none⟩) (by simp)).trans b0), hb'.trans ((HBX2.out.cell (p := ⟨w.heap.size, 1, none⟩) (by simp)).trans b1)⟩
          · have : c = 0 ∨ c = 1 := by omega
            rcases this with rfl | rfl <;> simp
        case measure => simp [intOf]; omega
    · have e : j = nB := by omega
      subst e
      have HC0 : Hid (Copy2 w wr.heap.size aB aC aX j cB nC cC cX bs ps wr 0) := ⟨HBW.out, Nat.le_refl _, HBX.out, HRES.out, HLR.out.intsS HBL.out _ (fun c h1 h2 => ⟨h1, h2⟩) (fun c h1 h2 => ⟨h1, h2⟩), none, 0, fun _ => 0, fun _ => .slice none 0 0, HROW.out, LRow.nil _ _ _ _ _ _⟩
      clear HLR hlt hj HB HBW HBX HRES HROW
      go_wp2_with fail
      clear b0 b1
      generalize hS : wr.heap.size = S at *
      clear hS
      go_loopw [5] (fun i wq => ∃ q : Nat, q ≤ nC ∧ i = .int .i64 q ∧ Copy2 w S aB aC aX j cB nC cC cX bs ps wq q) (fun i _ => nC - (intOf i).toNat)
      case atStart => exact ⟨0, Nat.zero_le _, rfl, HC0.out⟩
      case round =>
        obtain ⟨q, hq, rfl, hcp⟩ := hrel
        have HCP : Hid (Copy2 w S aB aC aX j cB nC cC cX bs ps wr q) := hcp
        obtain ⟨hbw, hsq, ⟨b0, c0⟩, hres, his, aY, cY, k, u, hrow, hlr⟩ := hcp
        by_cases hqn : q < nC
        · obtain ⟨b, off, ua, ucap, e, c1, c2, i1⟩ := HP.out q hqn
          subst e
          have hblt : b < w.heap.size := World.block_lt_of_cell? _ _ c1
          replace c1 := cell_later hbw c1
          replace c2 := cell_later hbw c2
          have HK := l1Ints_put wr S q _ _ (fun i => ps[i]?.getD (0, [])) k u hlr hsq (by omega) (i1.later hbw) (HZP.out q)
          have HK2 : Hid (Calls _ _ _ _ _) := HK
          have p0 := hrow.cell (i := 1) (by omega)
          have p1 := hrow.frozen 1
          simp at p0
          have hbw2 : w.heap.size + 2 < wr.heap.size := hrow.lt
          have hS3 : w.heap.size + 2 < S := hsz
          clear i1 HK hbw hres his hrow hlr HC0 HP HZ HBL HPL HTJ b0
          go_wp2_with fail
          go_region_law
            (first
              | (refine step_append_run rfl _ _ 25 rfl _ _ rfl rfl _ _ HR.out ?_)
              | (go_simp; go_at_call 83; refine HK2.out.mono ?_; rintro e w1 ⟨na, nc, g2, cap2, X, k', u', rfl, HR, hb1, hBX, HL⟩
                 have o0 := cell_later hb1 p0
                 have z0 := cell_later hb1 c0
                 have z1 := cell_later hb1 c1
                 have z2 := cell_later hb1 c2
                 have x3 := (hBX.cell (p := ⟨w.heap.size + 2, 1, none⟩) hS3).trans p0
                 have x4 := (hBX.frozen (p := ⟨w.heap.size + 2, 1, none⟩) hS3).trans p1
                 have hw1 := Nat.lt_of_lt_of_le hbw2 hb1.size
                 have HX : Hid (Below S wr X) := hBX
                 clear hb1 hBX))
          all_goals
            go_wp2
            go_roundw
            case rel => exact ⟨q + 1, by omega, by go_num, HCP.out.next hS3 HX.out HL.out⟩
            case measure => simp [intOf]; omega
        · have e : q = nC := by omega
          subst e
          have q0 := hrow.cell (i := 0) (by omega)
          have q1 := hrow.cell (i := 1) (by omega)
          have r0 := hres.cell (i := 0) (by omega)
          have r1 := hres.cell (i := 1) (by omega)
          have r2 := hres.frozen 0
          have r3 := hres.frozen 1
          simp at q0 q1 r0 r1
          have HB5 : Hid (Below w.heap.size w wr) := hbw
          have HI5 : Hid (IntsSO wr (.slice aX j cX) bs (fun c => w.heap.size + 3 ≤ c ∧ c < S)) := his
          have HL5 : Hid (LRow (C2 fun i => (ps[i]?.getD (0, [])).1) wr S S 38 2 (.slice aY q cY) q (fun i => (ps[i]?.getD (0, [])).2) k u) := hlr
          clear hbw his hlr hrow hres
          go_wp2
          refine bodyPost_ret (v := .agg #[.slice aX j cX, .slice aY q cY]) (by simp [results, Try.results82, go_sem, r0, r1]) rfl ⟨S, aX, cX, aY, cY, k, u, rfl, (HB5.out.setCell (by simp) _).setCell (by simp) _, by omega, by simpa [World.setCell] using hsq, ?_, (HL5.out.store (by simp; omega) (by simp; omega) _).store (by simp; omega) (by simp; omega) _⟩
          exact ((HI5.out.store (fun b hb => by simp; omega) _).store (fun b hb => by simp; omega) _).mono fun b hb => ⟨by omega, hb.2⟩
end Go.Proofs.Ytmjdechoookpmaa

namespace Go.Proofs.Ytmjdechoookpmaa
open Go.RowKit
set_option maxRecDepth 100000

def flushR (d : DK) : Int × DK := (faultF d.1 d.2, keepBlocks (fun _ => true) d.1 d.2, [])
def crashR (d : DK) (bb : List Bool) : Int × DK := (faultF d.1 d.2, keepBlocks (fun i => bb[i]?.getD false) d.1 d.2, [])
theorem small_blocks {d : DK} (h : sizeDisk d ≤ 1048576) (k : Nat) : (d.1[k]?.getD []).length ≤ 1048576 := by
  have := len_le_sum d.1 k
  unfold sizeDisk dsize at h
  omega
theorem small_puts {d : DK} (h : sizeDisk d ≤ 1048576) (k : Nat) : (d.2[k]?.getD (0, [])).2.length ≤ 1048576 := by
  have := wlen_le_sum d.2 k
  unfold sizeDisk dsize at h
  omega
theorem sum_le_mul {zss : List (List Int)} {M : Nat} (h : ∀ i : Nat, (zss[i]?.getD []).length ≤ M) : (zss.map List.length).sum ≤ zss.length * M := by
  induction zss with
  | nil => simp
  | cons a t ih =>
    have h0 := h 0
    have ht := ih fun i => by simpa using h (i + 1)
    simp at h0
    simp only [List.map_cons, List.sum_cons, List.length_cons, Nat.add_mul, Nat.one_mul]
    omega
theorem keepSpan (pk : Nat → Bool) (d : DK) (h : sizeDisk d ≤ 1048576) : spanDisk (keepBlocks pk d.1 d.2, []) ≤ 70000000 := by
  unfold keepBlocks
  split
  · rename_i hf
    have h1 := sum_le_mul (keepTo_len pk d.1 d.2 (small_blocks h) (small_puts h) d.2.length)
    rw [keepTo_length] at h1
    have h2 := (faultF_lens hf).1
    have h3 := Nat.mul_le_mul_right 1048576 h2
    simp only [spanDisk, dspan, wlens, List.map_nil, List.sum_nil, List.length_nil]
    omega
  · simp [spanDisk, dspan, wlens]

theorem implFlushU (w : World) (aB : Option Addr) (nB cB : Nat) (aC : Option Addr) (nC cC : Nat) (d : DK) (h : DiskR w (.slice aB nB cB) (.slice aC nC cC) d) (s : sizeDisk d ≤ 1048576) :
    Calls Try.prog 9 #[.agg #[.slice aB nB cB, .slice aC nC cC]] w (AnsDR w (flushR d)) :=
  (implFlush_any w _ _ d.1 d.2 h.1 h.2 (small_blocks s) (small_puts s)).mono fun _ _ h => h.uni
theorem implCrashU (w : World) (aB : Option Addr) (nB cB : Nat) (aC : Option Addr) (nC cC : Nat) (d : DK) (a : Option Addr) (n c : Nat) (bb : List Bool) (h : DiskR w (.slice aB nB cB) (.slice aC nC cC) d) (hb : Bools w (.slice a n c) bb) (s : sizeDisk d ≤ 1048576) (_s : bb.length ≤ 1048576) :
    Calls Try.prog 8 #[.agg #[.slice aB nB cB, .slice aC nC cC], .slice a n c] w (AnsDR w (crashR d bb)) := by
  obtain ⟨a', c', e, _, hA⟩ := hb.open'
  rw [e]
  exact (implCrash_any w _ _ a' c' d.1 d.2 bb h.1 h.2 hA (small_blocks s) (small_puts s)).mono fun _ _ h => h.uni
end Go.Proofs.Ytmjdechoookpmaa

namespace Go.Proofs.Ytmjdechoookpmaa
open Go.RowKit
set_option maxRecDepth 100000

theorem keepTo_at (pk : Nat → Bool) {bs : List (List Int)} {ps : List (Int × List Int)} (hf : faultF bs ps = 0) {k x : Nat} (hk : k < ps.length) (hx : x < bs.length) :
    (keepTo pk bs ps (k + 1))[x]?.getD [] = if pk k = true ∧ (ps[k]?.getD (0, [])).1 = (x : Int) then (ps[k]?.getD (0, [])).2 else (keepTo pk bs ps k)[x]?.getD [] := by
  obtain ⟨y, hy, hyl⟩ := faultF_places hf k hk
  cases hp : pk k with
  | false => rw [keepTo_skip hp, if_neg (by simp)]
  | true =>
    rw [keepTo_step hp, hy, Int.toNat_natCast]
    by_cases e : y = x
    · subst e
      rw [if_pos ⟨rfl, rfl⟩, List.getElem?_set_self (by rw [keepTo_length]; exact hx)]
      rfl
    · rw [if_neg (by intro h; exact e (by omega)), List.getElem?_set_ne e]
theorem atK_keep {bs : List (List Int)} {ps : List (Int × List Int)} (hf : faultF bs ps = 0) {x : Nat} (hx : x < bs.length) : ∀ k, k ≤ ps.length → atK bs ps (x : Int) k = (keepTo (fun _ => true) bs ps k)[x]?.getD [] := by
  intro k
  induction k with
  | zero => intro _; show bs[((x : Int)).toNat]?.getD [] = bs[x]?.getD []; rw [Int.toNat_natCast]
  | succ k ih =>
    intro hk
    rw [keepTo_at _ hf (by omega) hx]
    show (if (ps[k]?.getD (0, [])).1 = (x : Int) then (ps[k]?.getD (0, [])).2 else atK bs ps (x : Int) k) = _
    by_cases e : (ps[k]?.getD (0, [])).1 = (x : Int)
    · rw [if_pos e, if_pos ⟨rfl, e⟩]
    · rw [if_neg e, if_neg (fun h => e h.2), ih (by omega)]
theorem firstF_app (l : List Int) (c : Int) : firstF l = 0 → firstF (l ++ [c]) = c := by
  induction l with
  | nil => intro _; show (if c = 0 then (0 : Int) else c) = c; split <;> simp_all
  | cons d l ih =>
    intro h
    have h' : (if d = 0 then firstF l else d) = 0 := h
    show (if d = 0 then firstF (l ++ [c]) else d) = c
    by_cases e : d = 0
    · rw [if_pos e] at h' ⊢; exact ih h'
    · rw [if_neg e] at h'; exact absurd h' e
theorem faultF_app {bs : List (List Int)} {ps : List (Int × List Int)} (hf : faultF bs ps = 0) (h1 : 1 ≤ bs.length) (h2 : ps.length < 200) : faultF bs (ps ++ [(0, [5, 6])]) = 0 := by
  have hl := faultF_lens hf
  unfold faultF at hf ⊢
  rw [if_neg (by omega)] at hf
  rw [if_neg (by simp; omega)]
  by_cases hb : firstF (bs.map wordsF) = 0
  · rw [if_pos hb] at hf ⊢
    rw [List.map_append]
    show firstF (ps.map (putF bs.length) ++ [putF bs.length (0, [5, 6])]) = 0
    rw [firstF_app _ _ hf]
    unfold putF
    rw [if_pos (by unfold placeB; simp; omega)]
    rfl
  · rw [if_neg hb] at hf; exact absurd hf hb

set_option maxHeartbeats 1600000 in
theorem lwNums_walk (w : World) (a a' : Option Addr) (n c c' : Nat) (zs : List Int) (hn : n ≤ maxLen) (hc : At1 w a n (fun k => .int .i64 (zs[k]?.getD 0))) (hc' : At1 w a' n (fun k => .int .i64 (zs[k]?.getD 0))) :
    Calls Try.prog 12 #[.slice a n c, .slice a' n c'] w fun e w' => e = .returned (.bool true) ∧ Below w.heap.size w w' := by
  unfold maxLen at hn
  have HC : Hid (At1 w a n (fun k => .int .i64 (zs[k]?.getD 0))) := hc
  have HC' : Hid (At1 w a' n (fun k => .int .i64 (zs[k]?.getD 0))) := hc'
  clear hc hc'
  go_enter Try.func12, Try.ntmps12
  go_wp2
  go_loopw [5] (fun i wr => ∃ j m : Nat, j ≤ n ∧ i = .int .i64 j ∧ wr = w.drewN m) (fun i _ => n - (intOf i).toNat)
  case atStart => exact ⟨0, 0, Nat.zero_le _, rfl, rfl⟩
  case round =>
    obtain ⟨j, m, hj, rfl, rfl⟩ := hrel
    by_cases hlt : j < n
    · obtain ⟨b, o, rfl, d0⟩ := HC.out j hlt
      obtain ⟨b', o', rfl, d1⟩ := HC'.out j hlt
      replace d0 : w.cell? ⟨b, o + j, none⟩ = some (.int .i64 (zs[j]?.getD 0)) := d0
      replace d1 : w.cell? ⟨b', o' + j, none⟩ = some (.int .i64 (zs[j]?.getD 0)) := d1
      generalize zs[j]?.getD 0 = z at *
      have hz : (z != z) = false := by simp
      clear HC HC'
      go_wp2_with fail
      go_quiet (fail)
      go_wp2
      go_roundw
      case rel => exact ⟨j + 1, _, by omega, by go_num, rfl⟩
      case measure => simp [intOf]; omega
    · go_wp2
      go_ret
      exact ⟨rfl, below_drewN (Below.refl _ _) m⟩
theorem lwNums_true {w : World} {v v' : Value} {zs : List Int} (h : Ints w v zs) (h' : Ints w v' zs) :
    Calls Try.prog 12 #[v, v'] w fun e w' => e = .returned (.bool true) ∧ Below w.heap.size w w' := by
  obtain ⟨a, c, rfl, hm, hc⟩ := h.open'
  obtain ⟨a', c', rfl, _, hc'⟩ := h'.open'
  exact lwNums_walk w a a' _ c c' zs hm hc hc'
end Go.Proofs.Ytmjdechoookpmaa

namespace Go.Proofs.Ytmjdechoookpmaa
open Go.RowKit
set_option maxRecDepth 100000

theorem lwBig_b (w : World) (a : Option Addr) (n c : Nat) (hn : n ≤ maxLen) :
    Calls Try.prog 6 #[.slice a n c] w fun e w' => e = .returned (.bool (decide (1048576 < n))) ∧ w' = w := by
  unfold maxLen at hn
  by_cases h : 1048576 < n
  · have h' : decide ((1048576 : Int) < (n : Int)) = true := by simp; omega
    rw [show decide (1048576 < n) = true by simpa using h]
    go_enter Try.func6, Try.ntmps6
    go_wp2
    go_ret
    exact ⟨rfl, rfl⟩
  · have h' : decide ((1048576 : Int) < (n : Int)) = false := by simp; omega
    rw [show decide (1048576 < n) = false by simpa using h]
    go_enter Try.func6, Try.ntmps6
    go_wp2
    go_ret
    exact ⟨rfl, rfl⟩
end Go.Proofs.Ytmjdechoookpmaa
