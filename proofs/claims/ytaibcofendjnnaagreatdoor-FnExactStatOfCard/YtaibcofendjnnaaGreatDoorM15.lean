/- The program: how many bytes each block has to hold; what is wrong of a file system. IsWithin, of the program. Ways through the tree: where names lead. No program is named here. The library's iterator over a list of texts. The program's walk: the iterator that tells the places of a way. -/
import Derived.Test.YtaibcofendjnnaaGreatDoorM12
import Derived.Test.YtaibcofendjnnaaGreatDoorM14
import Derived.Test.YtaibcofendjnnaaGreatDoorM10
import Derived.Test.YtaibcofendjnnaaGreatDoorM02
import Derived.Test.YtaibcofendjnnaaGreatDoorM03
namespace Go.Proofs.YtaibcofendjnnaaGreatDoor
open Go.RowKit
set_option maxRecDepth 100000

/-- An array that holds a number for each block. -/
def arrI (f : Nat → Int) : Array Value := ((List.range 20).map fun i => intV (f i)).toArray
theorem arrI_size (f : Nat → Int) : (arrI f).size = 20 := by simp [arrI]
theorem arrI_get (f : Nat → Int) {i : Nat} (h : i < 20) : (arrI f)[i]? = some (.int .i64 (f i)) := by
  simp [arrI, h, intV]
theorem arrI_set (f : Nat → Int) (q : Nat) (x : Int) : (arrI f).setIfInBounds q (.int .i64 x) = arrI (fun i => if i = q then x else f i) := by
  apply Array.ext_getElem?
  intro i
  rw [Array.getElem?_setIfInBounds]
  by_cases hi : i < 20
  · rw [arrI_get _ hi, arrI_get _ hi, arrI_size]
    by_cases e : q = i
    · subst e; simp [hi]
    · rw [if_neg e, if_neg (fun h => e h.symm)]
  · have h1 : (arrI f)[i]? = none := by rw [Array.getElem?_eq_none_iff, arrI_size]; omega
    have h2 : (arrI (fun i => if i = q then x else f i))[i]? = none := by rw [Array.getElem?_eq_none_iff, arrI_size]; omega
    rw [h1, h2, arrI_size]
    by_cases e : q = i
    · subst e; simp [hi]
    · rw [if_neg e]
/-- Block b holds the numbers f. -/
def ArI (w : World) (b : Nat) (f : Nat → Int) : Prop := w.heap[b]? = some (.cells (arrI f) 165)
theorem ArI.cell {w : World} {b : Nat} {f : Nat → Int} (h : ArI w b f) {i : Nat} (hi : i < 20) : w.cell? ⟨b, i, none⟩ = some (.int .i64 (f i)) := by
  simp [World.cell?, show w.heap[b]? = some (.cells (arrI f) 165) from h, arrI_get f hi]
theorem ArI.frozen {w : World} {b : Nat} {f : Nat → Int} (h : ArI w b f) (i : Nat) : w.frozen? ⟨b, i, none⟩ = false := by
  simp [World.frozen?, show w.heap[b]? = some (.cells (arrI f) 165) from h]
theorem ArI.lt {w : World} {b : Nat} {f : Nat → Int} (h : ArI w b f) : b < w.heap.size := (Array.getElem?_eq_some_iff.1 h).1
theorem ArI.later {w w' : World} {b : Nat} {f : Nat → Int} (h : ArI w b f) (hb : Below w.heap.size w w') : ArI w' b f := (hb.block b h.lt).trans h
theorem ArI.set {w : World} {b : Nat} {f : Nat → Int} (h : ArI w b f) (q : Nat) (x : Int) : ArI (w.setCell ⟨b, q, none⟩ (.int .i64 x)) b (fun i => if i = q then x else f i) := by
  have h' : w.heap[b]? = some (.cells (arrI f) 165) := h
  unfold ArI
  rw [← arrI_set f q x]
  simp [World.setCell, Array.getElem?_modify, h']
theorem ArI.store {w : World} {b : Nat} {f : Nat → Int} (h : ArI w b f) {p : Addr} (hp : b ≠ p.block) (v : Value) : ArI (w.setCell p v) b f := (Below.heap_setCell _ _ _ _ hp).trans h
theorem ArI.new (w : World) (f : Nat → Int) : ArI (w.alloc (.cells (arrI f) 165)) w.heap.size f := Go.Deep.blk_alloc_new _ _

theorem arrI_one (f : Nat → Int) : (arrI f).all (·.oneCell') = true := by
  unfold arrI
  rw [Array.all_eq_true_iff_forall_mem]
  intro v hv
  simp only [List.mem_toArray, List.mem_map] at hv
  obtain ⟨i, _, rfl⟩ := hv
  rfl
theorem Tryz.infoA20 : (Tryz.prog.info? 165).map (·.size) = some 20 := by kernel_rfl
theorem ArI.load {w : World} {b : Nat} {f : Nat → Int} (h : ArI w b f) : (Instr.loadAt 165 (.pointer (some ⟨b, 0, none⟩))).run Tryz.prog w = .ok (.agg (arrI f)) w := by
  simp only [Instr.loadAt, Instr.sureAddr, Sem.run_bind, Sem.run_pure, Result.andThen]
  exact run_loadVar_row w b _ _ (arrI f) (0, 0) _ h Tryz.underlying165 rfl (by rw [arrI_size]; exact Tryz.infoA20)
theorem ArI.loadV {w : World} {b : Nat} {f : Nat → Int} (h : ArI w b f) : (loadVar 165 ⟨b, 0, none⟩).run Tryz.prog w = .ok (.agg (arrI f)) w :=
  run_loadVar_row w b _ _ (arrI f) (0, 0) _ h Tryz.underlying165 rfl (by rw [arrI_size]; exact Tryz.infoA20)
theorem ArI.put {w : World} {b : Nat} {f : Nat → Int} (h : ArI w b f) (g : Nat → Int) : ∃ X, (Instr.storeAt 165 (.pointer (some ⟨b, 0, none⟩)) (.agg (arrI g))).run Tryz.prog w = .ok () X ∧ ArI X b g ∧ X.heap.size = w.heap.size ∧ (∀ c, c ≠ b → X.heap[c]? = w.heap[c]?) ∧ X.os = w.os ∧ X.tape = w.tape ∧ X.output = w.output := by
  refine ⟨w.setRow b (arrI g), ?_, ?_, ?_, fun c hc => ?_, rfl, rfl, rfl⟩
  · simp only [Instr.storeAt, Instr.sureAddr, Sem.run_bind, Sem.run_pure, Result.andThen]
    rw [run_storeVar_row w b _ _ (arrI f) (arrI g) h (by rw [arrI_size]; exact Tryz.infoA20) (by rw [arrI_size, arrI_size]) (arrI_one g)]
  · have h' : w.heap[b]? = some (.cells (arrI f) 165) := h
    unfold ArI
    simp [World.setRow, Array.getElem?_modify, h']
  · simp [World.setRow]
  · simp only [World.setRow]
    rw [Array.getElem?_modify, if_neg (fun e => hc e.symm)]

theorem m8_left {s : Int} {nB k : Nat} (hn : ((nB : Nat) : Int) = (s + 7) / 8) (hk : k + 1 < nB) : s - 8 * (k : Int) - m8 (s - 8 * (k : Int)) = s - 8 * ((k + 1 : Nat) : Int) := by
  unfold m8
  rw [if_pos (by omega)]
  omega
set_option maxHeartbeats 3200000 in
theorem bytesDue_walk (w : World) (a : Option Addr) (n c : Nat) (ds : List ID) (hdn : ds.length = n) (hn : n ≤ 10) (hi : insF ds = 0) (hc : AtI w a n ds) :
    Calls Tryz.prog 118 #[.slice a n c] w fun e w' => e = .returned (.agg (arrI (dueI ds n))) ∧ Below w.heap.size w w' := by
  have HC : Hid (AtI w a n ds) := hc
  have HINO : Hid (∀ j, j < n → inoF (ds[j]?.getD id0) = 0) := by rw [← hdn]; exact ins_ino hi
  have HBK : Hid (∀ j k : Nat, j < n → k < (ds[j]?.getD id0).2.2.2.1.length → 0 ≤ (ds[j]?.getD id0).2.2.2.1[k]?.getD 0 ∧ (ds[j]?.getD id0).2.2.2.1[k]?.getD 0 < 20) := by rw [← hdn]; exact ins_blk hi
  have HDS : Hid (∀ j, dueI ds (j + 1) = dueK (ds[j]?.getD id0).2.2.1 (ds[j]?.getD id0).2.2.2.1 (dueI ds j) (ds[j]?.getD id0).2.2.2.1.length) := fun j => rfl
  have HD0 : Hid ((fun _ : Nat => (0 : Int)) = dueI ds 0) := rfl
  clear hc hdn hi
  have z0 := ArI.new w (fun _ => 0)
  have z1 := ArI.new (w.alloc (.cells (arrI fun _ => 0) 165)) (fun _ => 0)
  replace z0 := z0.later (later1 _ (.cells (arrI fun _ => 0) 165))
  rw [World.size_alloc] at z1
  have HB0 : Hid (Below w.heap.size w ((w.alloc (.cells (arrI fun _ => 0) 165)).alloc (.cells (arrI fun _ => 0) 165))) := later2 _ _ _
  have HZ0 : Hid (ArI _ _ _) := z0
  have HZ1 : Hid (ArI _ _ _) := z1
  clear z0 z1
  generalize dueI ds = DU at *
  go_enter Tryz.func118, Tryz.ntmps118
  go_wp2
  go_loopw [11] (fun i wr => ∃ j : Nat, j ≤ n ∧ i = .int .i64 j ∧ Below w.heap.size w wr ∧ ArI wr (w.heap.size + 1) (DU j) ∧ ArI wr w.heap.size (fun _ => 0)) (fun i _ => n - (intOf i).toNat)
  case atStart => exact ⟨0, Nat.zero_le _, rfl, HB0.out, HD0.out ▸ HZ1.out, HZ0.out⟩
  case round =>
    clear HB0 HZ0 HZ1
    obtain ⟨j, hj, rfl, hbl, hx, hy⟩ := hrel
    have HBL : Hid (Below w.heap.size w wr) := hbl
    have HA : Hid (ArI wr (w.heap.size + 1) (DU j)) := hx
    have HY : Hid (ArI wr w.heap.size (fun _ => 0)) := hy
    have hw0 := hx.lt
    clear hbl hx hy
    by_cases hlt : j < n
    · obtain ⟨b, o, rfl, hI⟩ := HC.out j hlt
      obtain ⟨aB, cB, aE, cE, c0, c1, c2, c3, c4, hR⟩ := hI
      replace c0 := cell_later HBL.out c0
      replace c1 := cell_later HBL.out c1
      replace c2 := cell_later HBL.out c2
      replace c3 := cell_later HBL.out c3
      replace c4 := cell_later HBL.out c4
      obtain ⟨_, _, e3, hm3, hI1⟩ := hR.2.1.open'
      simp only [Value.slice.injEq] at e3
      obtain ⟨rfl, _, rfl⟩ := e3
      have hsz := ino_size (HINO.out j hlt)
      have hbk := HBK.out j
      have HBKJ : Hid (∀ k, k < (ds[j]?.getD id0).2.2.2.1.length → 0 ≤ (ds[j]?.getD id0).2.2.2.1[k]?.getD 0 ∧ (ds[j]?.getD id0).2.2.2.1[k]?.getD 0 < 20) := fun k hk => hbk k hlt hk
      have HDJ : Hid (DU (j + 1) = dueK (ds[j]?.getD id0).2.2.1 (ds[j]?.getD id0).2.2.2.1 (DU j) (ds[j]?.getD id0).2.2.2.1.length) := HDS.out j
      clear hR hm3 hbk
      generalize (ds[j]?.getD id0) = dj at *
      obtain ⟨dk, dl, s, bs, es⟩ := dj
      dsimp only at *
      have HIB : Hid (At1 w aB bs.length (fun k => .int .i64 (bs[k]?.getD 0))) := hI1
      have hb4 : bs.length ≤ 4 := by omega
      obtain ⟨nB, hnB⟩ : ∃ nB, bs.length = nB := ⟨_, rfl⟩
      rw [hnB] at c3 HIB HBKJ HDJ hb4 hsz
      clear hI1 hnB
      have HK0 : Hid (dueK s bs (DU j) 0 = DU j) := rfl
      have HKS : Hid (∀ k, dueK s bs (DU j) (k + 1) = putD (dueK s bs (DU j) k) (bs[k]?.getD 0) (m8 (s - 8 * (k : Int)))) := fun k => rfl
      have HML : Hid (∀ k, k + 1 < nB → s - 8 * (k : Int) - m8 (s - 8 * (k : Int)) = s - 8 * ((k + 1 : Nat) : Int)) := fun k hk => m8_left hsz.2.2 hk
      have hs0 := hsz.1
      have hs1 := hsz.2.1
      clear hsz
      generalize dueK s bs (DU j) = DK at *
      generalize es.length = nE at *
      go_wp2
      clear c0 c1 c2 c3 c4
      go_loopw [6, 20] (fun l i wr2 => ∃ (k : Nat) (lf : Int), k ≤ nB ∧ i = .int .i64 k ∧ l = .int .i64 lf ∧ (k < nB → lf = s - 8 * (k : Int)) ∧ Below w.heap.size w wr2 ∧ ArI wr2 (w.heap.size + 1) (DK k) ∧ ArI wr2 w.heap.size (fun _ => 0)) (fun _ i _ => nB - (intOf i).toNat)
      case atStart => exact ⟨0, s, Nat.zero_le _, rfl, rfl, fun _ => by simp, HBL.out.trans ((later1 _ _).mono HBL.out.size), by rw [HK0.out]; exact HA.out.later (later1 _ _), HY.out.later (later1 _ _)⟩
      case round =>
        obtain ⟨k, lf, hk, rfl, rfl, hlf, hbl2, hx2, hy2⟩ := hrel
        have HB2 : Hid (Below w.heap.size w wr) := hbl2
        have HA2 : Hid (ArI wr (w.heap.size + 1) (DK k)) := hx2
        have HY2 : Hid (ArI wr w.heap.size (fun _ => 0)) := hy2
        have HLF : Hid (k < nB → lf = s - 8 * (k : Int)) := hlf
        clear hbl2 hx2 hy2 hlf HA HY HBL
        by_cases hlk : k < nB
        · obtain ⟨b1, o1, rfl, p1⟩ := HIB.out k hlk
          replace p1 : w.cell? ⟨b1, o1 + k, none⟩ = some (.int .i64 (bs[k]?.getD 0)) := p1
          replace p1 := cell_later HB2.out p1
          have hbr := HBKJ.out k hlk
          have HST : Hid (DK (k + 1) = putD (DK k) (bs[k]?.getD 0) (m8 lf)) := by rw [HLF.out hlk]; exact HKS.out k
          have HMK : Hid (k + 1 < nB → lf - m8 lf = s - 8 * ((k + 1 : Nat) : Int)) := fun h => by rw [HLF.out hlk]; exact HML.out k h
          have hl0 : -32 ≤ lf ∧ lf ≤ 32 := by have := HLF.out hlk; omega
          generalize bs[k]?.getD 0 = x at *
          obtain ⟨y, rfl⟩ : ∃ y : Nat, x = (y : Int) := ⟨x.toNat, by omega⟩
          have hy : y < 20 := by omega
          have r0 := HA2.out.cell hy
          have r1 := HA2.out.frozen y
          have hw2 := HA2.out.lt
          clear hbr
          have HM : Hid (m8 lf = min lf 8) := by unfold Hid m8; split <;> omega
          rw [HM.out] at HST HMK
          have HA3 : Hid (ArI (wr.setCell ⟨w.heap.size + 1, y, none⟩ (.int .i64 (min lf 8))) (w.heap.size + 1) (DK (k + 1))) := by
            have := HA2.out.set y (min lf 8)
            rw [HST.out]
            exact this
          have HY3 : Hid (ArI (wr.setCell ⟨w.heap.size + 1, y, none⟩ (.int .i64 (min lf 8))) w.heap.size (fun _ => 0)) := HY2.out.store (by simp) _
          have HB3 : Hid (Below w.heap.size w (wr.setCell ⟨w.heap.size + 1, y, none⟩ (.int .i64 (min lf 8)))) := HB2.out.setCell (by simp) _
          generalize DK k y = rv at *
          go_wp2
          go_roundw
          case rel => exact ⟨k + 1, lf - min lf 8, by omega, by go_num, by go_num, HMK.out, HB3.out, HA3.out, HY3.out⟩
          case measure => simp [intOf]; omega
        · have HE : Hid (DK k = DU (j + 1)) := by unfold Hid; rw [HDJ.out, show k = nB by omega]
          go_wp2
          go_roundw
          case rel => exact ⟨j + 1, by omega, by go_num, HB2.out, by rw [← HE.out]; exact HA2.out, HY2.out⟩
          case measure => simp [intOf]; omega
    · have HGN : Hid (DU j = DU n) := by unfold Hid; rw [show j = n by omega]
      have HL : Hid (_ = _) := HA.out.load
      obtain ⟨X, hst, hax, hsx, hoth, hx1, hx2, hx3⟩ := HY.out.put (DU j)
      have HST : Hid (_ = _) := hst
      have HAX : Hid (ArI X w.heap.size (DU n)) := HGN.out ▸ hax
      have HBX : Hid (Below w.heap.size w X) := HBL.out.trans ⟨hx1, hx2, hx3, by omega, fun c hc => hoth c (by omega)⟩
      clear hst hax hsx hoth hx1 hx2 hx3
      generalize DU j = g1 at HL HST
      go_wp2_with (first | refine wpList_load_run rfl _ 165 rfl _ rfl _ _ HL.out ?_ | refine wpList_store_run rfl _ _ 165 rfl _ _ rfl rfl _ HST.out ?_)
      refine bodyPost_ret (v := .agg (arrI (DU n))) ?_ rfl ⟨rfl, HBX.out⟩
      have hlv := HAX.out.loadV
      simp [results, Tryz.results118, asAddr, Act.put, hlv]
theorem bytesDue_any {w : World} {v : Value} {ds : List ID} (h : Inos w v ds) (hi : insF ds = 0) :
    Calls Tryz.prog 118 #[v] w fun e w' => e = .returned (.agg (arrI (dueI ds ds.length))) ∧ Below w.heap.size w w' := by
  obtain ⟨a, cap, rfl, hm, hc⟩ := h.open'
  exact bytesDue_walk w a _ cap ds rfl (insF_ten hi) hi hc

def bytF (d : FD) : Int := if sizesB d then 0 else 1
set_option maxHeartbeats 3200000 in
theorem bytesFault_any (w : World) (aI : Option Addr) (nI cI : Nat) (aD : Option Addr) (nD cD : Nat) (d : FD) (h : FsR w (.slice aI nI cI) (.slice aD nD cD) d) (hi : insF d.1 = 0) (h20 : d.2.length = 20) :
    Calls Tryz.prog 72 #[.agg #[.slice aI nI cI, .slice aD nD cD]] w fun e w' => e = .returned (.int .i64 (bytF d)) ∧ Below w.heap.size w w' := by
  have HBD : Hid (∀ W, Below w.heap.size w W → Calls Tryz.prog 118 #[.slice aI nI cI] W fun e w' => e = .returned (.agg (arrI (dueI d.1 d.1.length))) ∧ Below W.heap.size W w') := fun W hW => bytesDue_any (h.1.later hW) hi
  have HX : Hid (Bx (w.alloc (.cells #[.slice aI nI cI, .slice aD nD cD] 32)) w.heap.size [.slice aI nI cI, .slice aD nD cD]) := Bx.new w [.slice aI nI cI, .slice aD nD cD] _
  obtain ⟨_, _, e2, hm2, hc⟩ := h.2.open'
  simp only [Value.slice.injEq] at e2
  obtain ⟨rfl, rfl, rfl⟩ := e2
  rw [h20] at HX hc ⊢
  have HC : Hid (AtYs w aD 20 d.2) := hc
  have HSO : Hid (∀ i, sizOK d i = decide ((((d.2[i]?.getD []).length : Nat) : Int) = dueI d.1 d.1.length i)) := fun i => rfl
  clear hc h hm2 hi h20
  generalize dueI d.1 d.1.length = DU at *
  go_enter Tryz.func72, Tryz.ntmps72
  go_wp2_with fail
  refine (HBD.out _ (later1 _ _)).mono ?_
  rintro e w1 ⟨rfl, hb1⟩
  have HB1 : Hid (Below w.heap.size w w1) := (later1 _ _).trans (hb1.mono (by simp))
  have HX1 : Hid (Bx w1 w.heap.size [.slice aI nI cI, .slice aD 20 cD]) := HX.out.later hb1
  clear hb1 HX HBD
  have hz1 : w.heap.size < w1.heap.size := HX1.out.lt
  obtain ⟨X, hst, hax, hsx, hoth, hx1, hx2, hx3⟩ := (ArI.new w1 (fun _ => 0)).put DU
  have HST : Hid (_ = _) := hst
  have HAX : Hid (ArI X w1.heap.size DU) := hax
  have HBX : Hid (Below w1.heap.size w1 X) := (later1 w1 (.cells (arrI fun _ => 0) 165)).trans ⟨hx1, hx2, hx3, by omega, fun c hc => hoth c (by omega)⟩
  have HXX : Hid (Bx X w.heap.size [.slice aI nI cI, .slice aD 20 cD]) := HX1.out.later HBX.out
  have HBW : Hid (Below w.heap.size w X) := HB1.out.trans (HBX.out.mono HB1.out.size)
  clear hst hax hsx hoth hx1 hx2 hx3
  have x1 := HXX.out 1 _ rfl
  go_wp2_with (first | refine wpList_store_run rfl _ _ 165 rfl _ _ rfl rfl _ HST.out ?_ | fail)
  clear HST
  go_loopw [12] (fun i wr => ∃ k : Nat, k ≤ 20 ∧ i = .int .i64 k ∧ wr = X ∧ ∀ q, q < k → sizOK d q = true) (fun i _ => 20 - (intOf i).toNat)
  case atStart => exact ⟨0, by omega, rfl, rfl, fun q hq => by omega⟩
  case round =>
    obtain ⟨k, hk, rfl, rfl, hz⟩ := hrel
    have HZ : Hid (∀ q, q < k → sizOK d q = true) := hz
    clear hz x1
    by_cases hlk : k < 20
    · obtain ⟨bD, oD, ua, uc, rfl, d0, _⟩ := HC.out k hlk
      replace d0 := cell_later HBW.out d0
      have r0 := HAX.out.cell hlk
      have HSK : Hid (sizOK d k = decide ((((d.2[k]?.getD []).length : Nat) : Int) = DU k)) := HSO.out k
      have HY : Hid (sizOK d k = true → ∀ q, q < k + 1 → sizOK d q = true) := fun hh q hq => by
        by_cases e : q = k
        · subst e; exact hh
        · exact HZ.out q (by omega)
      have HNO : Hid (sizOK d k = false → bytF d = 1) := fun hh => by unfold bytF; rw [sizesB_no hlk hh]; rfl
      generalize (d.2[k]?.getD []).length = ln at *
      generalize DU k = du at *
      by_cases he : ((ln : Nat) : Int) = du
      · have hb : (((ln : Nat) : Int) != du) = false := by simpa using he
        have HR : Hid (∀ q, q < k + 1 → sizOK d q = true) := HY.out (by rw [HSK.out, decide_eq_true he])
        clear he HSK HY HNO
        go_wp2
        go_roundw
        case rel => exact ⟨k + 1, by omega, by go_num, by first | rfl | trivial, HR.out⟩
        case measure => simp [intOf]; omega
      · have hb : (((ln : Nat) : Int) != du) = true := by simpa using he
        have HR : Hid (bytF d = 1) := HNO.out (by rw [HSK.out, decide_eq_false he])
        clear he HSK HY HNO
        go_wp2
        go_ret
        exact ⟨ret_int HR.out.symm, HBW.out⟩
    · have HR : Hid (bytF d = 0) := by unfold Hid bytF; rw [sizesB_yes fun i hi => HZ.out i (by omega)]; rfl
      go_wp2
      go_ret
      exact ⟨ret_int HR.out.symm, HBW.out⟩

/-- The program's codes up to entries are the specification's. -/
theorem fsE_eq (d : FD) : fsE d = if insF d.1 = 0 then (if d.1.length = 0 ∨ ¬ kindAt d.1 0 = 2 then 1 else if dataF d = 0 then lostF d.1 else dataF d) else insF d.1 := by
  unfold fsE dataF formB
  by_cases h1 : insF d.1 = 0
  · rw [if_pos h1, if_pos h1]
    by_cases h2 : d.1.length = 0 ∨ ¬ kindAt d.1 0 = 2
    · rw [if_pos h2, if_pos (by rcases h2 with h | h <;> simp [h])]
    · rw [if_neg h2]
      have h2a : ¬ d.1.length = 0 := fun e => h2 (Or.inl e)
      have h2b : kindAt d.1 0 = 2 := Classical.byContradiction fun e => h2 (Or.inr e)
      by_cases h3 : d.2.length = 20
      · rw [if_neg (by simp [h2b, h3]; intro e; exact h2a (by rw [e]; rfl)), if_pos h3]
        by_cases h4 : fstNZ (manyF d.2) d.2.length = 0
        · rw [if_pos h4]
          by_cases h5 : onceB d.1 20 = true
          · rw [if_pos h5]; simp [h4, h5]
          · rw [if_neg h5]; simp [h4, h5]
        · rw [if_neg h4, if_neg h4, if_neg h4]
      · rw [if_pos (by simp [h3]), if_neg h3]; simp
  · rw [if_neg h1, if_neg h1]
/-- What is wrong of inodes and of their top. -/
def topF (ds : List ID) : Int := if insF ds = 0 then (if ds.length = 0 ∨ ¬ kindAt ds 0 = 2 then 1 else 0) else insF ds
theorem fsE_top (d : FD) : fsE d = if topF d.1 = 0 then (if dataF d = 0 then lostF d.1 else dataF d) else topF d.1 := by
  rw [fsE_eq]; unfold topF
  by_cases h1 : insF d.1 = 0
  · rw [if_pos h1, if_pos h1]
    by_cases h2 : d.1.length = 0 ∨ ¬ kindAt d.1 0 = 2
    · rw [if_pos h2, if_pos h2, if_neg (by decide)]
    · rw [if_neg h2, if_neg h2, if_pos rfl]
  · rw [if_neg h1, if_neg h1, if_neg h1]
theorem top_ins {ds : List ID} (h : topF ds = 0) : insF ds = 0 := by
  unfold topF at h
  by_cases h1 : insF ds = 0
  · exact h1
  · simp [h1] at h
set_option maxHeartbeats 3200000 in
theorem topFault_any (w : World) (aI : Option Addr) (nI cI : Nat) (ds : List ID) (h : Inos w (.slice aI nI cI) ds) (hs : sizeInos ds ≤ 1048576) :
    Calls Tryz.prog 112 #[.slice aI nI cI] w fun e w' => e = .returned (.int .i64 (topF ds)) ∧ Below w.heap.size w w' := by
  have HF : Hid (∀ W, Below w.heap.size w W → Calls Tryz.prog 146 #[.slice aI nI cI] W fun e w' => e = .returned (.int .i64 (insF ds)) ∧ Below W.heap.size W w') := fun W hW => inodesFault_any (h.later hW) hs
  have HE : Hid (topF ds = if insF ds = 0 then (if ds.length = 0 ∨ ¬ kindAt ds 0 = 2 then 1 else 0) else insF ds) := rfl
  by_cases h1 : insF ds = 0
  rotate_left
  · have HR : Hid (topF ds = insF ds) := by unfold Hid; rw [HE.out, if_neg h1]
    have hb : (insF ds != 0) = true := by simpa using h1
    clear HE h1 h
    generalize insF ds = r at *
    generalize topF ds = tf at *
    go_enter Tryz.func112, Tryz.ntmps112
    go_wp2_with fail
    refine (HF.out _ (Below.refl _ _)).mono ?_
    rintro e w1 ⟨rfl, hb1⟩
    go_wp2
    go_ret
    exact ⟨ret_int HR.out.symm, hb1⟩
  · obtain ⟨_, _, e2, hm2, hc⟩ := h.open'
    simp only [Value.slice.injEq] at e2
    obtain ⟨rfl, rfl, rfl⟩ := e2
    rw [h1, if_pos rfl] at HE
    rw [h1] at HF
    have HC : Hid (AtI w aI ds.length ds) := hc
    clear h h1 hc hs hm2
    by_cases h0 : ds.length = 0
    · have hb0 : (((ds.length : Nat) : Int) == 0) = true := by simp [h0]
      have HR : Hid (topF ds = 1) := by unfold Hid; rw [HE.out, if_pos (Or.inl h0)]
      clear HE h0 HC
      generalize topF ds = tf at *
      generalize ds.length = n at *
      go_enter Tryz.func112, Tryz.ntmps112
      go_wp2_with fail
      refine (HF.out _ (Below.refl _ _)).mono ?_
      rintro e w1 ⟨rfl, hb1⟩
      go_wp2
      go_ret
      exact ⟨ret_int HR.out.symm, hb1⟩
    · have hb0 : (((ds.length : Nat) : Int) == 0) = false := by simp; intro e; exact h0 (by rw [e]; rfl)
      obtain ⟨b0, o0, rfl, hI⟩ := HC.out 0 (by omega)
      obtain ⟨_, _, _, _, kc, _⟩ := hI
      replace kc : w.cell? ⟨b0, o0, none⟩ = some (.int .i64 (kindAt ds 0)) := by simpa [kindAt] using kc
      have h00 : 0 < ds.length := by omega
      have HE2 : Hid (topF ds = if ¬ kindAt ds 0 = 2 then 1 else 0) := by
        unfold Hid; rw [HE.out]; simp only [h0, false_or]
      clear HE h0 HC
      generalize topF ds = tf at *
      generalize ds.length = n at *
      generalize kindAt ds 0 = kd at *
      by_cases hk : kd = 2
      · have hb2 : (kd != 2) = false := by simpa using hk
        have HR : Hid (tf = 0) := by unfold Hid; rw [HE2.out, if_neg (by simp [hk])]
        clear HE2 hk
        go_enter Tryz.func112, Tryz.ntmps112
        go_wp2_with fail
        refine (HF.out _ (Below.refl _ _)).mono ?_
        rintro e w1 ⟨rfl, hb1⟩
        replace kc := cell_later hb1 kc
        go_wp2
        go_ret
        exact ⟨ret_int HR.out.symm, hb1⟩
      · have hb2 : (kd != 2) = true := by simpa using hk
        have HR : Hid (tf = 1) := by unfold Hid; rw [HE2.out, if_pos hk]
        clear HE2 hk
        go_enter Tryz.func112, Tryz.ntmps112
        go_wp2_with fail
        refine (HF.out _ (Below.refl _ _)).mono ?_
        rintro e w1 ⟨rfl, hb1⟩
        replace kc := cell_later hb1 kc
        go_wp2
        go_ret
        exact ⟨ret_int HR.out.symm, hb1⟩
set_option maxHeartbeats 3200000 in
theorem reachFault_any (w : World) (aI : Option Addr) (nI cI : Nat) (aD : Option Addr) (nD cD : Nat) (d : FD) (h : FsR w (.slice aI nI cI) (.slice aD nD cD) d) (hs : sizeInos d.1 ≤ 1048576) :
    Calls Tryz.prog 70 #[.agg #[.slice aI nI cI, .slice aD nD cD]] w fun e w' => e = .returned (.int .i64 (fsE d)) ∧ Below w.heap.size w w' := by
  have HF : Hid (∀ W, Below w.heap.size w W → Calls Tryz.prog 112 #[.slice aI nI cI] W fun e w' => e = .returned (.int .i64 (topF d.1)) ∧ Below W.heap.size W w') := fun W hW => topFault_any W aI nI cI d.1 (h.1.later hW) hs
  have HE : Hid (fsE d = if topF d.1 = 0 then (if dataF d = 0 then lostF d.1 else dataF d) else topF d.1) := fsE_top d
  have HX : Hid (Bx (w.alloc (.cells #[.slice aI nI cI, .slice aD nD cD] 32)) w.heap.size [.slice aI nI cI, .slice aD nD cD]) := Bx.new w [.slice aI nI cI, .slice aD nD cD] _
  by_cases h1 : topF d.1 = 0
  rotate_left
  · have HR : Hid (fsE d = topF d.1) := by unfold Hid; rw [HE.out, if_neg h1]
    have hb : (topF d.1 != 0) = true := by simpa using h1
    clear HE h1 h
    generalize topF d.1 = r at *
    go_enter Tryz.func70, Tryz.ntmps70
    go_wp2_with fail
    refine (HF.out _ (later1 _ _)).mono ?_
    rintro e w1 ⟨rfl, hb1⟩
    have HB1 : Hid (Below w.heap.size w w1) := (later1 _ _).trans (hb1.mono (by simp))
    clear hb1
    go_wp2
    go_ret
    exact ⟨ret_int HR.out.symm, HB1.out⟩
  · have h1' := top_ins h1
    have HD : Hid (∀ W, Below w.heap.size w W → Calls Tryz.prog 113 #[.agg #[.slice aI nI cI, .slice aD nD cD]] W fun e w' => e = .returned (.int .i64 (dataF d)) ∧ Below W.heap.size W w') := fun W hW => dataFault_any W aI nI cI aD nD cD d (h.later hW) hs h1'
    have HN : Hid (∀ W, Below w.heap.size w W → Calls Tryz.prog 114 #[.agg #[.slice aI nI cI, .slice aD nD cD]] W fun e w' => e = .returned (.int .i64 (lostF d.1)) ∧ Below W.heap.size W w') := fun W hW => entriesFault_any W aI nI cI aD nD cD d (h.later hW) hs h1'
    rw [h1, if_pos rfl] at HE
    rw [h1] at HF
    clear h h1 h1' hs
    generalize dataF d = df at *
    generalize lostF d.1 = lf at *
    by_cases hd : df = 0
    · have hb3 : (df != 0) = false := by simpa using hd
      have HR : Hid (fsE d = lf) := by unfold Hid; rw [HE.out, if_pos hd]
      clear HE hd
      go_enter Tryz.func70, Tryz.ntmps70
      go_wp2_with fail
      refine (HF.out _ (later1 _ _)).mono ?_
      rintro e w1 ⟨rfl, hb1⟩
      have HB1 : Hid (Below w.heap.size w w1) := (later1 _ _).trans (hb1.mono (by simp))
      have HX1 : Hid (Bx w1 w.heap.size _) := HX.out.later hb1
      have x0 := HX1.out 0 _ rfl
      have x1 := HX1.out 1 _ rfl
      clear hb1
      go_wp2_with fail
      refine (HD.out _ HB1.out).mono ?_
      rintro e w2 ⟨rfl, hb2'⟩
      have HB2 : Hid (Below w.heap.size w w2) := HB1.out.trans (hb2'.mono HB1.out.size)
      have y0 := (HX1.out.later hb2') 0 _ rfl
      have y1 := (HX1.out.later hb2') 1 _ rfl
      clear hb2' x0 x1
      go_wp2_with fail
      refine (HN.out _ HB2.out).mono ?_
      rintro e w3 ⟨rfl, hb3'⟩
      have HB3 : Hid (Below w.heap.size w w3) := HB2.out.trans (hb3'.mono HB2.out.size)
      clear hb3'
      go_wp2
      go_ret
      exact ⟨ret_int HR.out.symm, HB3.out⟩
    · have hb3 : (df != 0) = true := by simpa using hd
      have HR : Hid (fsE d = df) := by unfold Hid; rw [HE.out, if_neg hd]
      clear HE hd
      go_enter Tryz.func70, Tryz.ntmps70
      go_wp2_with fail
      refine (HF.out _ (later1 _ _)).mono ?_
      rintro e w1 ⟨rfl, hb1⟩
      have HB1 : Hid (Below w.heap.size w w1) := (later1 _ _).trans (hb1.mono (by simp))
      have HX1 : Hid (Bx w1 w.heap.size _) := HX.out.later hb1
      have x0 := HX1.out 0 _ rfl
      have x1 := HX1.out 1 _ rfl
      clear hb1
      go_wp2_with fail
      refine (HD.out _ HB1.out).mono ?_
      rintro e w2 ⟨rfl, hb2'⟩
      have HB2 : Hid (Below w.heap.size w w2) := HB1.out.trans (hb2'.mono HB1.out.size)
      clear hb2' x0 x1
      go_wp2
      go_ret
      exact ⟨ret_int HR.out.symm, HB2.out⟩

theorem range_of {ds : List ID} (hi : insF ds = 0) (h : lostF ds = 0) : inRange ds := fun i hil x hx => by
  unfold entsOf entI at hx
  obtain ⟨e, he, rfl⟩ := List.mem_map.1 hx
  obtain ⟨k, hk, hke⟩ := List.getElem_of_mem he
  have := lost_in hi h i hil k hk
  rw [List.getElem?_eq_getElem hk, Option.getD_some, hke] at this
  exact this
theorem six_of {ds : List ID} (hi : insF ds = 0) (i : Nat) : (entsOf ds i).length ≤ 6 := by
  rw [entsOf_len]
  by_cases h : i < ds.length
  · exact ino_six (ins_ino hi i h)
  · rw [List.getElem?_eq_none (by omega)]; simp [id0]
set_option maxHeartbeats 3200000 in
theorem implFsI (w : World) (aI : Option Addr) (nI cI : Nat) (aD : Option Addr) (nD cD : Nat) (d : FD) (h : FsR w (.slice aI nI cI) (.slice aD nD cD) d) (hsi : sizeInos d.1 ≤ 1048576) :
    Calls Tryz.prog 38 #[.agg #[.slice aI nI cI, .slice aD nD cD]] w fun e w' => e = .returned (.int .i64 (fsF d)) ∧ Below w.heap.size w w' := by
  have HRF : Hid (∀ W, Below w.heap.size w W → Calls Tryz.prog 70 #[.agg #[.slice aI nI cI, .slice aD nD cD]] W fun e w' => e = .returned (.int .i64 (fsE d)) ∧ Below W.heap.size W w') := fun W hW => reachFault_any W aI nI cI aD nD cD d (h.later hW) hsi
  have HX : Hid (Bx (w.alloc (.cells #[.slice aI nI cI, .slice aD nD cD] 32)) w.heap.size [.slice aI nI cI, .slice aD nD cD]) := Bx.new w [.slice aI nI cI, .slice aD nD cD] _
  have HF : Hid (fsF d = if fsE d = 0 then (if linksB d.1 && sizesB d then 0 else 1) else fsE d) := rfl
  by_cases he : fsE d = 0
  rotate_left
  · have HR : Hid (fsF d = fsE d) := by unfold Hid; rw [HF.out, if_neg he]
    have hb : (fsE d != 0) = true := by simpa using he
    clear HF he h
    generalize fsE d = r at *
    go_enter Tryz.func38, Tryz.ntmps38
    go_wp2_with fail
    refine (HRF.out _ (later1 _ _)).mono ?_
    rintro e w1 ⟨rfl, hb1⟩
    have HB1 : Hid (Below w.heap.size w w1) := (later1 _ _).trans (hb1.mono (by simp))
    clear hb1
    go_wp2
    go_ret
    exact ⟨ret_int HR.out.symm, HB1.out⟩
  · obtain ⟨h1, h2, _, _, h5⟩ := fsE_zero he
    obtain ⟨g1, _, g3⟩ := formB_no h2
    have HT : Hid (∀ W, Below w.heap.size w W → Calls Tryz.prog 71 #[.agg #[.slice aI nI cI, .slice aD nD cD]] W fun e w' => e = .returned (.int .i64 (treeF d.1)) ∧ Below W.heap.size W w') := fun W hW => treeFault_any W aI nI cI aD nD cD d (h.later hW) hsi h1 (by omega) (insF_ten h1) (range_of h1 h5) (six_of h1)
    have HB : Hid (∀ W, Below w.heap.size w W → Calls Tryz.prog 72 #[.agg #[.slice aI nI cI, .slice aD nD cD]] W fun e w' => e = .returned (.int .i64 (bytF d)) ∧ Below W.heap.size W w') := fun W hW => bytesFault_any W aI nI cI aD nD cD d (h.later hW) h1 g3
    have HR : Hid (fsF d = if linksB d.1 && sizesB d then 0 else 1) := by unfold Hid; rw [HF.out, if_pos he]
    have HTF : Hid (treeF d.1 = if linksB d.1 then 0 else 1) := rfl
    have HBF : Hid (bytF d = if sizesB d then 0 else 1) := rfl
    rw [he] at HRF
    rw [HTF.out] at HT
    rw [HBF.out] at HB
    clear HF he h h1 h2 h5 g1 g3 HTF HBF
    generalize linksB d.1 = lb at *
    generalize sizesB d = sb at *
    cases lb with
    | false =>
      go_enter Tryz.func38, Tryz.ntmps38
      go_wp2_with fail
      refine (HRF.out _ (later1 _ _)).mono ?_
      rintro e w1 ⟨rfl, hb1⟩
      have HB1 : Hid (Below w.heap.size w w1) := (later1 _ _).trans (hb1.mono (by simp))
      have x0 := (HX.out.later hb1) 0 _ rfl
      have x1 := (HX.out.later hb1) 1 _ rfl
      clear hb1
      go_wp2_with fail
      refine (HT.out _ HB1.out).mono ?_
      rintro e w2 ⟨rfl, hb2⟩
      have HB2 : Hid (Below w.heap.size w w2) := HB1.out.trans (hb2.mono HB1.out.size)
      clear hb2 x0 x1
      go_wp2
      go_ret
      exact ⟨ret_int HR.out.symm, HB2.out⟩
    | true =>
      cases sb
      all_goals
        go_enter Tryz.func38, Tryz.ntmps38
        go_wp2_with fail
        refine (HRF.out _ (later1 _ _)).mono ?_
        rintro e w1 ⟨rfl, hb1⟩
        have HB1 : Hid (Below w.heap.size w w1) := (later1 _ _).trans (hb1.mono (by simp))
        have HX1 : Hid (Bx w1 w.heap.size _) := HX.out.later hb1
        have x0 := HX1.out 0 _ rfl
        have x1 := HX1.out 1 _ rfl
        clear hb1
        go_wp2_with fail
        refine (HT.out _ HB1.out).mono ?_
        rintro e w2 ⟨rfl, hb2⟩
        have HB2 : Hid (Below w.heap.size w w2) := HB1.out.trans (hb2.mono HB1.out.size)
        have y0 := (HX1.out.later hb2) 0 _ rfl
        have y1 := (HX1.out.later hb2) 1 _ rfl
        clear hb2 x0 x1
        go_wp2_with fail
        refine (HB.out _ HB2.out).mono ?_
        rintro e w3 ⟨rfl, hb3⟩
        have HB3 : Hid (Below w.heap.size w w3) := HB2.out.trans (hb3.mono HB2.out.size)
        clear hb3
        go_wp2
        go_ret
        exact ⟨ret_int HR.out.symm, HB3.out⟩
theorem implFsU (w : World) (aI : Option Addr) (nI cI : Nat) (aD : Option Addr) (nD cD : Nat) (d : FD) (h : FsR w (.slice aI nI cI) (.slice aD nD cD) d) (hs : sizeFs d ≤ 1048576) :
    Calls Tryz.prog 38 #[.agg #[.slice aI nI cI, .slice aD nD cD]] w fun e w' => e = .returned (.int .i64 (fsF d)) ∧ Below w.heap.size w w' :=
  implFsI w aI nI cI aD nD cD d h (by unfold sizeFs at hs; omega)
end Go.Proofs.YtaibcofendjnnaaGreatDoor

namespace Go.Proofs.YtaibcofendjnnaaGreatDoor
open Go.RowKit
set_option maxRecDepth 100000

/-- IsWithin. -/
def winB (d : FD) (x y : Int) : Bool := decide (fsF d = 0) && (thB d x && (thB d y && witB (entsOf d.1) x 10 y))
/-- What stands where nothing is wrong of a file system. -/
structure FsOk (d : FD) : Prop where
  ins : insF d.1 = 0
  pos : 0 < d.1.length
  ten : d.1.length ≤ 10
  rng : inRange d.1
  six : ∀ i, (entsOf d.1 i).length ≤ 6
  dat : d.2.length = 20
  top : kindAt d.1 0 = 2
theorem fsE_ok {d : FD} (h : fsE d = 0) : FsOk d := by
  obtain ⟨h1, g2, _, _, h5⟩ := fsE_zero h
  obtain ⟨g4, g5, g3⟩ := formB_no g2
  exact ⟨h1, by omega, insF_ten h1, range_of h1 h5, six_of h1, g3, g5⟩
theorem fsF_E {d : FD} (h : fsF d = 0) : fsE d = 0 := by
  unfold fsF at h
  by_cases e : fsE d = 0
  · exact e
  · rw [if_neg e] at h; exact absurd h e
theorem thB_in {d : FD} {x : Int} (h : thB d x = true) : ∃ j : Nat, x = (j : Int) ∧ j < d.1.length ∧ ¬ kindAt d.1 j = 0 := by
  unfold thB at h
  rw [Bool.and_eq_true] at h
  have h1 : 0 ≤ x ∧ x < (d.1.length : Int) := by simpa using h.1
  exact ⟨x.toNat, by omega, by omega, by simpa using h.2⟩

end Go.Proofs.YtaibcofendjnnaaGreatDoor

namespace Go.Proofs.YtaibcofendjnnaaGreatDoor
open Go.RowKit
set_option maxRecDepth 100000

/-- A step that is told: a place, and a code where the way breaks off. -/
abbrev WS := Int × Option Int
/-- The steps that are told behind a place. -/
def wkL (ds : List ID) : Nat → List (List UInt8) → List WS
  | _, [] => []
  | t, s :: ns => if kindAt ds t = 2 then (if idxE (ds[t]?.getD id0).2.2.2.2 (mkB s) < (ds[t]?.getD id0).2.2.2.2.length then (((ds[t]?.getD id0).2.2.2.2[idxE (ds[t]?.getD id0).2.2.2.2 (mkB s)]?.getD en0).2, none) :: wkL ds ((ds[t]?.getD id0).2.2.2.2[idxE (ds[t]?.getD id0).2.2.2.2 (mkB s)]?.getD en0).2.toNat ns else [((t : Int), some 4)]) else [((t : Int), some 9)]
def wkT (ds : List ID) (xs : List (List UInt8)) : List WS := (0, none) :: wkL ds 0 xs
/-- Where the steps end: a code, or a place. -/
def endW : Int → List WS → Int × Int
  | t, [] => (0, t)
  | _, (x, none) :: l => endW x l
  | _, (_, some c) :: _ => (c, 0)
/-- Where names lead from a place: a code, or a place. -/
def wkR (ds : List ID) : Nat → List (List UInt8) → Int × Int
  | t, [] => (0, (t : Int))
  | t, s :: ns => if kindAt ds t = 2 then (if idxE (ds[t]?.getD id0).2.2.2.2 (mkB s) < (ds[t]?.getD id0).2.2.2.2.length then wkR ds ((ds[t]?.getD id0).2.2.2.2[idxE (ds[t]?.getD id0).2.2.2.2 (mkB s)]?.getD en0).2.toNat ns else (4, 0)) else (9, 0)
theorem rng_nat {ds : List ID} (hr : inRange ds) {t k : Nat} (ht : t < ds.length) (hk : k < (ds[t]?.getD id0).2.2.2.2.length) : ∃ y : Nat, ((ds[t]?.getD id0).2.2.2.2[k]?.getD en0).2 = (y : Int) ∧ y < ds.length := by
  have := hr t ht ((ds[t]?.getD id0).2.2.2.2[k]?.getD en0).2 (List.mem_of_getElem? (entsOf_get hk))
  exact ⟨((ds[t]?.getD id0).2.2.2.2[k]?.getD en0).2.toNat, by omega, by omega⟩
theorem wk_end {ds : List ID} (hr : inRange ds) : ∀ (xs : List (List UInt8)) (t : Nat), t < ds.length → endW (t : Int) (wkL ds t xs) = wkR ds t xs
  | [], t, _ => rfl
  | s :: ns, t, ht => by
    unfold wkL wkR
    by_cases hk : kindAt ds t = 2
    · rw [if_pos hk, if_pos hk]
      by_cases hi : idxE (ds[t]?.getD id0).2.2.2.2 (mkB s) < (ds[t]?.getD id0).2.2.2.2.length
      · rw [if_pos hi, if_pos hi]
        obtain ⟨y, e, hy⟩ := rng_nat hr ht hi
        rw [e]
        show endW (y : Int) (wkL ds (y : Int).toNat ns) = _
        rw [Int.toNat_natCast]
        exact wk_end hr ns y hy
      · rw [if_neg hi, if_neg hi]; rfl
    · rw [if_neg hk, if_neg hk]; rfl
theorem wkL_len (ds : List ID) : ∀ (xs : List (List UInt8)) (t : Nat), (wkL ds t xs).length ≤ xs.length
  | [], _ => Nat.le_refl _
  | s :: ns, t => by
    unfold wkL
    split
    · split
      · have := wkL_len ds ns ((ds[t]?.getD id0).2.2.2.2[idxE (ds[t]?.getD id0).2.2.2.2 (mkB s)]?.getD en0).2.toNat
        simp only [List.length_cons]; omega
      · simp
    · simp
theorem wkR_lt {ds : List ID} (hr : inRange ds) : ∀ (xs : List (List UInt8)) (t : Nat), t < ds.length → (wkR ds t xs).1 = 0 → ∃ y : Nat, (wkR ds t xs).2 = (y : Int) ∧ y < ds.length
  | [], t, ht, _ => ⟨t, rfl, ht⟩
  | s :: ns, t, ht, h => by
    unfold wkR at h ⊢
    by_cases hk : kindAt ds t = 2
    · rw [if_pos hk] at h ⊢
      by_cases hi : idxE (ds[t]?.getD id0).2.2.2.2 (mkB s) < (ds[t]?.getD id0).2.2.2.2.length
      · rw [if_pos hi] at h ⊢
        obtain ⟨y, e, hy⟩ := rng_nat hr ht hi
        rw [e, Int.toNat_natCast] at h ⊢
        exact wkR_lt hr ns y hy h
      · rw [if_neg hi] at h; exact absurd h (by decide)
    · rw [if_neg hk] at h; exact absurd h (by decide)
/-- The last place, or where the way breaks off, with its code. -/
def brk : Int → List WS → Int × Option (Int × Int)
  | t, [] => (t, none)
  | _, (x, none) :: l => brk x l
  | _, (x, some c) :: _ => (0, some (x, c))
theorem brk_snoc_ok : ∀ (l : List WS) (t v x : Int), brk t l = (v, none) → brk t (l ++ [(x, none)]) = (x, none)
  | [], _, _, _, _ => rfl
  | (_, none) :: l, _, v, x, h => brk_snoc_ok l _ v x h
  | (_, some _) :: _, _, _, _, h => by simp [brk] at h
theorem brk_snoc_no : ∀ (l : List WS) (t v x c : Int), brk t l = (v, none) → brk t (l ++ [(x, some c)]) = (0, some (x, c))
  | [], _, _, _, _, _ => rfl
  | (_, none) :: l, _, v, x, c, h => brk_snoc_no l _ v x c h
  | (_, some _) :: _, _, _, _, _, h => by simp [brk] at h
theorem brk_app : ∀ (l r : List WS) (t v : Int) (p : Int × Int), brk t l = (v, some p) → brk t (l ++ r) = (v, some p)
  | [], _, _, _, _, h => by simp [brk] at h
  | (_, none) :: l, r, _, v, p, h => brk_app l r _ v p h
  | (_, some _) :: _, _, _, _, _, h => h
def outB : Int × Option (Int × Int) → Int × Int
  | (v, none) => (0, v)
  | (_, some p) => (p.2, 0)
theorem brk_end : ∀ (l : List WS) (t : Int), endW t l = outB (brk t l)
  | [], _ => rfl
  | (x, none) :: l, _ => brk_end l x
  | (_, some _) :: _, _ => rfl
end Go.Proofs.YtaibcofendjnnaaGreatDoor

namespace Go.Proofs.YtaibcofendjnnaaGreatDoor
open Go.RowKit Go.Shelf
set_option maxRecDepth 100000
attribute [local go_sem] Oper.semAt_some

/-- A step as it is told. -/
abbrev encW (x : WS) : Array Value := #[.int .i64 x.1, match x.2 with | none => .nilIface | some c => .iface 105 (.agg #[.int .i64 x.1, .int .i64 c])]
theorem wkL_dir {ds : List ID} {t : Nat} {s : List UInt8} {ns : List (List UInt8)} {y : Nat} (hk : kindAt ds t = 2) (hi : idxE (ds[t]?.getD id0).2.2.2.2 (mkB s) < (ds[t]?.getD id0).2.2.2.2.length) (hy : ((ds[t]?.getD id0).2.2.2.2[idxE (ds[t]?.getD id0).2.2.2.2 (mkB s)]?.getD en0).2 = (y : Int)) : wkL ds t (s :: ns) = ((y : Int), none) :: wkL ds y ns := by
  show (if kindAt ds t = 2 then _ else _) = _
  rw [if_pos hk, if_pos hi, hy, Int.toNat_natCast]
theorem wkL_none {ds : List ID} {t : Nat} {s : List UInt8} {ns : List (List UInt8)} (hk : kindAt ds t = 2) (hi : ¬ idxE (ds[t]?.getD id0).2.2.2.2 (mkB s) < (ds[t]?.getD id0).2.2.2.2.length) : wkL ds t (s :: ns) = [((t : Int), some 4)] := by
  show (if kindAt ds t = 2 then _ else _) = _
  rw [if_pos hk, if_neg hi]
theorem wkL_file {ds : List ID} {t : Nat} {s : List UInt8} {ns : List (List UInt8)} (hk : ¬ kindAt ds t = 2) : wkL ds t (s :: ns) = [((t : Int), some 9)] := by
  show (if kindAt ds t = 2 then _ else _) = _
  rw [if_neg hk]
theorem drop_cons {l : List (List UInt8)} {k : Nat} (h : k < l.length) : l.drop k = l[k]?.getD [] :: l.drop (k + 1) := by
  rw [List.drop_eq_getElem_cons h, List.getElem?_eq_getElem h]; rfl
set_option maxRecDepth 100000 in
set_option maxHeartbeats 3200000 in
theorem walk1_in (n : Nat) (hn : 2 ≤ n) (l Bn Bl n₀ : Nat) (aN : Option Addr) (mN cN : Nat) (xs : List (List UInt8)) (hmN : xs.length = mN) (hmx : mN ≤ 1048577) (aL : Option Addr) (nL cL : Nat) (ds : List ID) (hdn : ds.length = nL) (_h10 : nL ≤ 10) (h0L : 0 < nL) (hr : inRange ds) (h6 : ∀ i : Nat, (ds[i]?.getD id0).2.2.2.2.length ≤ 6) (J Jx : List WS → World → Prop)
    (hY : ∀ pre x W, J pre W → pre.length < (wkT ds xs).length → YieldAt Fence.wide (n - 1) Tryz.prog l (encW x) W fun e W' =>
      (e = .returned (.bool true) ∧ J (pre ++ [x]) W' ∧ Below n₀ W W') ∨ (e = .returned (.bool false) ∧ Jx (pre ++ [x]) W'))
    (W : World) (hJ : AbidesFrom W.heap.size J) (hn₀ : n₀ ≤ W.heap.size) (hread : ∀ W', Below n₀ W W' → W'.cell? ⟨Bn, 0, none⟩ = some (.slice aN mN cN) ∧ W'.cell? ⟨Bl, 0, none⟩ = some (.slice aL nL cL) ∧ AtT W' aN mN xs ∧ AtI W' aL nL ds) (h0 : J [] W) :
    CallsIn Fence.wide n Tryz.prog 102 #[.func (.yield l) #[] #[], .pointer (some ⟨Bn, 0, none⟩), .pointer (some ⟨Bl, 0, none⟩)] W fun e W' => (∃ v, e = .returned v) ∧
      ((∃ ys, ys = wkT ds xs ∧ J ys W') ∨ (∃ pre, pre <+: wkT ds xs ∧ Jx pre W')) := by
  refine callsIn_of_wp Tryz.func102 rfl trivial ?_ rfl
  simp only [Tryz.ntmps102, List.size_toArray, List.length_cons, List.length_nil, Nat.reduceAdd, Nat.reduceSub, Array.replicate_succ, Array.replicate_zero, List.push_toArray, List.append_toArray, List.nil_append, List.cons_append]
  have HRD : Hid (∀ W', Below n₀ W W' → W'.cell? ⟨Bn, 0, none⟩ = some (.slice aN mN cN) ∧ W'.cell? ⟨Bl, 0, none⟩ = some (.slice aL nL cL) ∧ AtT W' aN mN xs ∧ AtI W' aL nL ds) := hread
  have HT : Hid (wkT ds xs = (0, none) :: wkL ds 0 xs) := rfl
  have HM : Hid (xs.length = mN) := hmN
  have HDN : Hid (ds.length = nL) := hdn
  obtain ⟨fn, tmps, assign, body, hy, hR⟩ := hY [] (0, none) W h0 (by rw [HT.out]; simp)
  dsimp only [encW] at hy
  clear hread hmN hdn
  gi_wp2
  refine wpIn_wide.2 (wp_scope_straight ((wpIn_wide (n := n)).1 ?_))
  gi_wp2
  refine ⟨fun _ => by omega, hR.mono ?_⟩
  rintro e W3 (⟨rfl, hJ3, hk3⟩ | ⟨rfl, hJx3⟩)
  rotate_left
  · gi_wp2
    (try simp only [Exit.noGoto]); refine bodyPost_ret (results_none rfl _ _ _) rfl ?_
    exact ⟨⟨_, rfl⟩, .inr ⟨_, ⟨wkL ds 0 xs, by rw [HT.out]; rfl⟩, hJx3⟩⟩
  · have HB3 : Hid (Below n₀ W W3) := hk3
    obtain ⟨g1, g2, -, -⟩ := HRD.out W3 hk3
    clear hy hR fn tmps assign body hk3
    gi_wp2
    refine wpIn_label ?_
    gi_wp2
    clear g1 g2
    have HJ : Hid (AbidesFrom W.heap.size J) := hJ
    have HR : Hid (inRange ds) := hr
    have H6 : Hid (∀ i : Nat, (ds[i]?.getD id0).2.2.2.2.length ≤ 6) := h6
    have HYY : Hid (∀ pre x W, J pre W → pre.length < (wkT ds xs).length → YieldAt Fence.wide (n - 1) Tryz.prog l (encW x) W fun e W' => (e = .returned (.bool true) ∧ J (pre ++ [x]) W' ∧ Below n₀ W W') ∨ (e = .returned (.bool false) ∧ Jx (pre ++ [x]) W')) := hY
    clear hJ hr h6 hY
    gi_loopw [4, 15] (fun va vi wr => ∃ (q t : Nat) (pre : List WS), va = .int .i64 (t : Int) ∧ vi = .int .i64 (q : Int) ∧ q ≤ mN ∧ t < nL ∧ wkT ds xs = pre ++ wkL ds t (xs.drop q) ∧ Below n₀ W wr ∧ J pre wr) (fun _ vi _ => mN - (intOf vi).toNat)
    case atStart => exact ⟨0, 0, [(0, none)], rfl, rfl, Nat.zero_le _, h0L, by rw [HT.out]; rfl, HB3.out, hJ3⟩
    case round =>
      obtain ⟨q, t, pre, rfl, rfl, hq, ht, hx, hbl, hJs⟩ := hrel
      have HX : Hid (wkT ds xs = pre ++ wkL ds t (xs.drop q)) := hx
      have HB : Hid (Below n₀ W wr) := hbl
      clear hx hbl HB3 hJ3
      by_cases hlt : q < mN
      · obtain ⟨g1, g2, hAT, hAI⟩ := HRD.out wr HB.out
        obtain ⟨b, off, rfl, c0⟩ := hAT q hlt
        have HDC : Hid (xs.drop q = xs[q]?.getD [] :: xs.drop (q + 1)) := drop_cons (by rw [HM.out]; exact hlt)
        obtain ⟨bL, oL, rfl, hI⟩ := hAI t ht
        obtain ⟨aB, cB, aE, cE, k0, -, -, -, k4, hIR⟩ := hI
        have htI : (t : Int) < (nL : Int) := by omega
        generalize hs : xs[q]?.getD [] = s at *
        clear hs hAT hAI
        by_cases hk : kindAt ds t = 2
        · have hkb : ((ds[t]?.getD id0).1 != 2) = false := by simpa [kindAt] using hk
          obtain ⟨_, _, e3, -, -, hEt⟩ := hIR.2.2.open'
          simp only [Value.slice.injEq] at e3
          obtain ⟨rfl, -, rfl⟩ := e3
          have HAE : Hid (∀ W', Below wr.heap.size wr W' → AtN W' aE (ds[t]?.getD id0).2.2.2.2.length (ds[t]?.getD id0).2.2.2.2) := fun W' hb => hEt.later hb
          have hE6 := H6.out t
          have HTL : Hid (∀ k, k < (ds[t]?.getD id0).2.2.2.2.length → eqE (mkB s) ((ds[t]?.getD id0).2.2.2.2[k]?.getD en0) = true → (∀ j, j < k → eqE (mkB s) ((ds[t]?.getD id0).2.2.2.2[j]?.getD en0) = false) → ∃ y : Nat, ((ds[t]?.getD id0).2.2.2.2[k]?.getD en0).2 = (y : Int) ∧ y < nL ∧ wkT ds xs = (pre ++ [((y : Int), none)]) ++ wkL ds y (xs.drop (q + 1))) := fun k hk1 hk2 hk3 => by
            have hix : idxE (ds[t]?.getD id0).2.2.2.2 (mkB s) = k := findIdx_is hk1 hk2 hk3
            obtain ⟨y, hy1, hy2⟩ := rng_nat HR.out (by rw [HDN.out]; exact ht) hk1
            refine ⟨y, hy1, by rw [HDN.out] at hy2; exact hy2, ?_⟩
            rw [HX.out, HDC.out, wkL_dir hk (by rw [hix]; exact hk1) (by rw [hix]; exact hy1), List.append_assoc]; rfl
          have HNO : Hid ((∀ j, j < (ds[t]?.getD id0).2.2.2.2.length → eqE (mkB s) ((ds[t]?.getD id0).2.2.2.2[j]?.getD en0) = false) → wkT ds xs = pre ++ [((t : Int), some 4)]) := fun hno => by
            have hix : idxE (ds[t]?.getD id0).2.2.2.2 (mkB s) = (ds[t]?.getD id0).2.2.2.2.length := findIdx_no hno
            rw [HX.out, HDC.out, wkL_none hk (by rw [hix]; omega)]
          clear hk hIR hEt HX HDC H6
          generalize (ds[t]?.getD id0).1 = kd at *
          generalize (ds[t]?.getD id0).2.2.2.2 = es at *
          generalize hnn : es.length = nE at *
          clear hnn
          gi_wp2
          obtain ⟨wo, hwo⟩ : ∃ wo, wo = wr := ⟨_, rfl⟩
          rw [hwo.symm] at HB HAE hJs
          gi_loopw [4, 37] (fun va vi wr2 => ∃ k : Nat, k ≤ nE ∧ va = .int .i64 (t : Int) ∧ vi = .int .i64 (k : Int) ∧ Below wo.heap.size wo wr2 ∧ J pre wr2 ∧ ∀ j, j < k → eqE (mkB s) (es[j]?.getD en0) = false) (fun _ vi _ => nE - (intOf vi).toNat)
          case atStart => exact ⟨0, Nat.zero_le _, rfl, rfl, by rw [hwo]; exact Below.refl _ _, by rw [← hwo]; exact hJs, fun j hj => by omega⟩
          case round =>
            obtain ⟨k, hk, rfl, rfl, hbk, hJk, hzk⟩ := hrel
            clear hwo
            have HBK : Hid (Below wo.heap.size wo wr) := hbk
            have HZK : Hid (∀ j, j < k → eqE (mkB s) (es[j]?.getD en0) = false) := hzk
            have hsz : n₀ ≤ wo.heap.size := Nat.le_trans hn₀ HB.out.size
            have HBW : Hid (Below n₀ W wr) := HB.out.trans (hbk.mono hsz)
            clear hbk hzk
            by_cases hlk : k < nE
            · obtain ⟨b1, o1, rfl, d0, d1⟩ := HAE.out wr HBK.out k hlk
              have HJA : Hid (∀ o : Obj, J pre (wr.alloc o)) := fun o => HJ.out pre wr _ none hJk (World.grownBy_alloc wr o none) (fun r e => by cases e)
              have HBA : Hid (∀ o : Obj, Below n₀ W (wr.alloc o)) := fun o => HBW.out.trans ((later1 _ _).mono (Nat.le_trans hn₀ HBW.out.size))
              cases heq : eqE (mkB s) (es[k]?.getD en0) with
              | false =>
                have hne : ((es[k]?.getD en0).1.toList == (mkB s).toList) = false := heq
                have HZN : Hid (∀ j, j < k + 1 → eqE (mkB s) (es[j]?.getD en0) = false) := fun j hj => by
                  by_cases e : j = k
                  · rw [e]; exact heq
                  · exact HZK.out j (by omega)
                clear heq HTL
                generalize (es[k]?.getD en0).1 = nm at *
                generalize (es[k]?.getD en0).2 = x at *
                gi_wp2
                go_roundw
                case rel => exact ⟨k + 1, by omega, rfl, by go_num, HBK.out.trans ((later1 _ _).mono HBK.out.size), HJA.out _, HZN.out⟩
                case measure => simp [intOf]; omega
              | true =>
                have hne : ((es[k]?.getD en0).1.toList == (mkB s).toList) = true := heq
                obtain ⟨y, hy1, hy2, hy3⟩ := HTL.out k hlk heq HZK.out
                have HYT : Hid (wkT ds xs = (pre ++ [((y : Int), none)]) ++ wkL ds y (xs.drop (q + 1))) := hy3
                rw [hy1] at d1
                clear heq HTL hy1 hy3
                generalize (es[k]?.getD en0).1 = nm at *
                obtain ⟨fn, tmps, assign, body, hy, hRR⟩ := HYY.out pre ((y : Int), none) (wr.alloc (.cells #[.string nm, .int .i64 (y : Int)] 128)) (HJA.out _) (by rw [HYT.out]; simp)
                dsimp only [encW] at hy
                gi_wp2
                refine ⟨fun _ => by omega, hRR.mono ?_⟩
                rintro e W4 (⟨rfl, hJ4, hk4⟩ | ⟨rfl, hJx4⟩)
                · gi_wp2
                  go_roundw
                  case rel => exact ⟨q + 1, y, _, rfl, by go_num, by omega, hy2, HYT.out, (HBA.out _).trans hk4, hJ4⟩
                  case measure => simp [intOf]; omega
                · gi_wp2
                  (try simp only [Exit.noGoto]); refine bodyPost_ret (results_none rfl _ _ _) rfl ?_
                  exact ⟨⟨_, rfl⟩, .inr ⟨_, ⟨wkL ds y (xs.drop (q + 1)), HYT.out.symm⟩, hJx4⟩⟩
            · have hx1 : decide ((k : Int) < (nE : Int)) = false := by simp; omega
              have hx2 : decide (k < nE) = false := by simp; omega
              have HFL : Hid (wkT ds xs = pre ++ [((t : Int), some 4)]) := HNO.out fun j hj => HZK.out j (by omega)
              obtain ⟨fn, tmps, assign, body, hy, hRR⟩ := HYY.out pre ((t : Int), some 4) wr hJk (by rw [HFL.out]; simp)
              dsimp only [encW] at hy
              gi_wp2
              refine ⟨fun _ => by omega, hRR.mono ?_⟩
              rintro e W4 (⟨rfl, hJ4, hk4⟩ | ⟨rfl, hJx4⟩)
              · gi_wp2
                (try simp only [Exit.noGoto]); refine bodyPost_ret (results_none rfl _ _ _) rfl ?_
                exact ⟨⟨_, rfl⟩, .inl ⟨_, HFL.out.symm, hJ4⟩⟩
              · gi_wp2
                (try simp only [Exit.noGoto]); refine bodyPost_ret (results_none rfl _ _ _) rfl ?_
                exact ⟨⟨_, rfl⟩, .inr ⟨_, ⟨[], by rw [HFL.out, List.append_nil]⟩, hJx4⟩⟩
        · have hkb : ((ds[t]?.getD id0).1 != 2) = true := by simpa [kindAt] using hk
          have HFL : Hid (wkT ds xs = pre ++ [((t : Int), some 9)]) := by unfold Hid; rw [HX.out, HDC.out, wkL_file hk]
          obtain ⟨fn, tmps, assign, body, hy, hRR⟩ := HYY.out pre ((t : Int), some 9) wr hJs (by rw [HFL.out]; simp)
          dsimp only [encW] at hy
          clear hk k4 hIR
          generalize (ds[t]?.getD id0).1 = kd at *
          gi_wp2
          refine ⟨fun _ => by omega, hRR.mono ?_⟩
          rintro e W4 (⟨rfl, hJ4, hk4⟩ | ⟨rfl, hJx4⟩)
          · gi_wp2
            (try simp only [Exit.noGoto]); refine bodyPost_ret (results_none rfl _ _ _) rfl ?_
            exact ⟨⟨_, rfl⟩, .inl ⟨_, HFL.out.symm, hJ4⟩⟩
          · gi_wp2
            (try simp only [Exit.noGoto]); refine bodyPost_ret (results_none rfl _ _ _) rfl ?_
            exact ⟨⟨_, rfl⟩, .inr ⟨_, ⟨[], by rw [HFL.out, List.append_nil]⟩, hJx4⟩⟩
      · have hx1 : decide ((q : Int) < (mN : Int)) = false := by simp; omega
        have hx2 : decide (q < mN) = false := by simp; omega
        gi_wp2
        (try simp only [Exit.noGoto])
        go_end0
        exact ⟨⟨_, rfl⟩, .inl ⟨pre, by rw [HX.out, List.drop_of_length_le (by rw [HM.out]; omega)]; simp [wkL], hJs⟩⟩
end Go.Proofs.YtaibcofendjnnaaGreatDoor
