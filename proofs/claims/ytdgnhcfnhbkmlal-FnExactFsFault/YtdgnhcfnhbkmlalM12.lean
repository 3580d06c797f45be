/- The program: how many bytes each block has to hold; what is wrong of a file system. A file system is copied. The law of FsFault: at every argument the program answers as the specification, leaves its arguments as they were, and its answer owns its memory. From the reading of an argument to the lists that it holds. No program is named here. What the rows of this seat share: how a disk that came in is opened. How inodes that came in are opened. -/
import Derived.Test.YtdgnhcfnhbkmlalM07
import Derived.Test.YtdgnhcfnhbkmlalM11
import Derived.Test.YtdgnhcfnhbkmlalM06
import Derived.Test.YtdgnhcfnhbkmlalM03
import Derived.Test.YtdgnhcfnhbkmlalM00
import Derived.ProofKit
import Derived.Deep.Slices
import Derived.Deep.SlicePairs
import Derived.Lib.SmallJoins
import Derived.Test.YtdgnhcfnhbkmlalRows
import Derived.Test.YtdgnhcfnhbkmlalM02
namespace Go.Proofs.Ytdgnhcfnhbkmlal
open Go.RowKit
set_option maxRecDepth 100000

/-- An array that holds a number for each block. -/
def arrI (f : Nat → Int) : Array Value := ((List.range 20).map fun i => intV (f i)).toArray
theorem arrI_size (f : Nat → Int) : (arrI f).size = 20 := by simp [arrI]
theorem arrI_get (f : Nat → Int) {i : Nat} (h : i < 20) : (arrI f)[i]? = some (.int .i64 (f i)) := by
  simp [arrI, h, intV]
theorem arrI_set (f : Nat → Int) (q : Nat) (x : Int) : (arrI f).setIfInBounds q (.int .i64 x) = arrI (fun i => if i = q then x else f i) := by
  apply Array.ext_getElem?
  intro i
  rw [Array.getElem?_setIfInBounds]
  by_cases hi : i < 20
  · rw [arrI_get _ hi, arrI_get _ hi, arrI_size]
    by_cases e : q = i
    · subst e; simp [hi]
    · rw [if_neg e, if_neg (fun h => e h.symm)]
  · have h1 : (arrI f)[i]? = none := by rw [Array.getElem?_eq_none_iff, arrI_size]; omega
    have h2 : (arrI (fun i => if i = q then x else f i))[i]? = none := by rw [Array.getElem?_eq_none_iff, arrI_size]; omega
    rw [h1, h2, arrI_size]
    by_cases e : q = i
    · subst e; simp [hi]
    · rw [if_neg e]
/-- Block b holds the numbers f. -/
def ArI (w : World) (b : Nat) (f : Nat → Int) : Prop := w.heap[b]? = some (.cells (arrI f) 100)
theorem ArI.cell {w : World} {b : Nat} {f : Nat → Int} (h : ArI w b f) {i : Nat} (hi : i < 20) : w.cell? ⟨b, i, none⟩ = some (.int .i64 (f i)) := by
  simp [World.cell?, show w.heap[b]? = some (.cells (arrI f) 100) from h, arrI_get f hi]
theorem ArI.frozen {w : World} {b : Nat} {f : Nat → Int} (h : ArI w b f) (i : Nat) : w.frozen? ⟨b, i, none⟩ = false := by
  simp [World.frozen?, show w.heap[b]? = some (.cells (arrI f) 100) from h]
theorem ArI.lt {w : World} {b : Nat} {f : Nat → Int} (h : ArI w b f) : b < w.heap.size := (Array.getElem?_eq_some_iff.1 h).1
theorem ArI.later {w w' : World} {b : Nat} {f : Nat → Int} (h : ArI w b f) (hb : Below w.heap.size w w') : ArI w' b f := (hb.block b h.lt).trans h
theorem ArI.set {w : World} {b : Nat} {f : Nat → Int} (h : ArI w b f) (q : Nat) (x : Int) : ArI (w.setCell ⟨b, q, none⟩ (.int .i64 x)) b (fun i => if i = q then x else f i) := by
  have h' : w.heap[b]? = some (.cells (arrI f) 100) := h
  unfold ArI
  rw [← arrI_set f q x]
  simp [World.setCell, Array.getElem?_modify, h']
theorem ArI.store {w : World} {b : Nat} {f : Nat → Int} (h : ArI w b f) {p : Addr} (hp : b ≠ p.block) (v : Value) : ArI (w.setCell p v) b f := (Below.heap_setCell _ _ _ _ hp).trans h
theorem ArI.new (w : World) (f : Nat → Int) : ArI (w.alloc (.cells (arrI f) 100)) w.heap.size f := Go.Deep.blk_alloc_new _ _

theorem arrI_one (f : Nat → Int) : (arrI f).all (·.oneCell') = true := by
  unfold arrI
  rw [Array.all_eq_true_iff_forall_mem]
  intro v hv
  simp only [List.mem_toArray, List.mem_map] at hv
  obtain ⟨i, _, rfl⟩ := hv
  rfl
theorem Try.infoA20 : (Try.prog.info? 100).map (·.size) = some 20 := by kernel_rfl
theorem ArI.load {w : World} {b : Nat} {f : Nat → Int} (h : ArI w b f) : (Instr.loadAt 100 (.pointer (some ⟨b, 0, none⟩))).run Try.prog w = .ok (.agg (arrI f)) w := by
  simp only [Instr.loadAt, Instr.sureAddr, Sem.run_bind, Sem.run_pure, Result.andThen]
  exact run_loadVar_row w b _ _ (arrI f) (0, 0) _ h Try.underlying100 rfl (by rw [arrI_size]; exact Try.infoA20)
theorem ArI.loadV {w : World} {b : Nat} {f : Nat → Int} (h : ArI w b f) : (loadVar 100 ⟨b, 0, none⟩).run Try.prog w = .ok (.agg (arrI f)) w :=
  run_loadVar_row w b _ _ (arrI f) (0, 0) _ h Try.underlying100 rfl (by rw [arrI_size]; exact Try.infoA20)
theorem ArI.put {w : World} {b : Nat} {f : Nat → Int} (h : ArI w b f) (g : Nat → Int) : ∃ X, (Instr.storeAt 100 (.pointer (some ⟨b, 0, none⟩)) (.agg (arrI g))).run Try.prog w = .ok () X ∧ ArI X b g ∧ X.heap.size = w.heap.size ∧ (∀ c, c ≠ b → X.heap[c]? = w.heap[c]?) ∧ X.os = w.os ∧ X.tape = w.tape ∧ X.output = w.output := by
  refine ⟨w.setRow b (arrI g), ?_, ?_, ?_, fun c hc => ?_, rfl, rfl, rfl⟩
  · simp only [Instr.storeAt, Instr.sureAddr, Sem.run_bind, Sem.run_pure, Result.andThen]
    rw [run_storeVar_row w b _ _ (arrI f) (arrI g) h (by rw [arrI_size]; exact Try.infoA20) (by rw [arrI_size, arrI_size]) (arrI_one g)]
  · have h' : w.heap[b]? = some (.cells (arrI f) 100) := h
    unfold ArI
    simp [World.setRow, Array.getElem?_modify, h']
  · simp [World.setRow]
  · simp only [World.setRow]
    rw [Array.getElem?_modify, if_neg (fun e => hc e.symm)]

theorem m8_left {s : Int} {nB k : Nat} (hn : ((nB : Nat) : Int) = (s + 7) / 8) (hk : k + 1 < nB) : s - 8 * (k : Int) - m8 (s - 8 * (k : Int)) = s - 8 * ((k + 1 : Nat) : Int) := by
  unfold m8
  rw [if_pos (by omega)]
  omega
set_option maxHeartbeats 3200000 in
theorem bytesDue_walk (w : World) (a : Option Addr) (n c : Nat) (ds : List ID) (hdn : ds.length = n) (hn : n ≤ 10) (hi : insF ds = 0) (hc : AtI w a n ds) :
    Calls Try.prog 76 #[.slice a n c] w fun e w' => e = .returned (.agg (arrI (dueI ds n))) ∧ Below w.heap.size w w' := by
  have HC : Hid (AtI w a n ds) := hc
  have HINO : Hid (∀ j, j < n → inoF (ds[j]?.getD id0) = 0) := by rw [← hdn]; exact ins_ino hi
  have HBK : Hid (∀ j k : Nat, j < n → k < (ds[j]?.getD id0).2.2.2.1.length → 0 ≤ (ds[j]?.getD id0).2.2.2.1[k]?.getD 0 ∧ (ds[j]?.getD id0).2.2.2.1[k]?.getD 0 < 20) := by rw [← hdn]; exact ins_blk hi
  have HDS : Hid (∀ j, dueI ds (j + 1) = dueK (ds[j]?.getD id0).2.2.1 (ds[j]?.getD id0).2.2.2.1 (dueI ds j) (ds[j]?.getD id0).2.2.2.1.length) := fun j => rfl
  have HD0 : Hid ((fun _ : Nat => (0 : Int)) = dueI ds 0) := rfl
  clear hc hdn hi
  have z0 := ArI.new w (fun _ => 0)
  have z1 := ArI.new (w.alloc (.cells (arrI fun _ => 0) 100)) (fun _ => 0)
  replace z0 := z0.later (later1 _ (.cells (arrI fun _ => 0) 100))
  rw [World.size_alloc] at z1
  have HB0 : Hid (Below w.heap.size w ((w.alloc (.cells (arrI fun _ => 0) 100)).alloc (.cells (arrI fun _ => 0) 100))) := later2 _ _ _
  have HZ0 : Hid (ArI _ _ _) := z0
  have HZ1 : Hid (ArI _ _ _) := z1
  clear z0 z1
  generalize dueI ds = DU at *
  go_enter Try.func76, Try.ntmps76
  go_wp2
  go_loopw [11] (fun i wr => ∃ j : Nat, j ≤ n ∧ i = .int .i64 j ∧ Below w.heap.size w wr ∧ ArI wr (w.heap.size + 1) (DU j) ∧ ArI wr w.heap.size (fun _ => 0)) (fun i _ => n - (intOf i).toNat)
  case atStart => exact ⟨0, Nat.zero_le _, rfl, HB0.out, HD0.out ▸ HZ1.out, HZ0.out⟩
  case round =>
    clear HB0 HZ0 HZ1
    obtain ⟨j, hj, rfl, hbl, hx, hy⟩ := hrel
    have HBL : Hid (Below w.heap.size w wr) := hbl
    have HA : Hid (ArI wr (w.heap.size + 1) (DU j)) := hx
    have HY : Hid (ArI wr w.heap.size (fun _ => 0)) := hy
    have hw0 := hx.lt
    clear hbl hx hy
    by_cases hlt : j < n
    · obtain ⟨b, o, rfl, hI⟩ := HC.out j hlt
      obtain ⟨aB, cB, aE, cE, c0, c1, c2, c3, c4, hR⟩ := hI
      replace c0 := cell_later HBL.out c0
      replace c1 := cell_later HBL.out c1
      replace c2 := cell_later HBL.out c2
      replace c3 := cell_later HBL.out c3
      replace c4 := cell_later HBL.out c4
      obtain ⟨_, _, e3, hm3, hI1⟩ := hR.2.1.open'
      simp only [Value.slice.injEq] at e3
      obtain ⟨rfl, _, rfl⟩ := e3
      have hsz := ino_size (HINO.out j hlt)
      have hbk := HBK.out j
      have HBKJ : Hid (∀ k, k < (ds[j]?.getD id0).2.2.2.1.length → 0 ≤ (ds[j]?.getD id0).2.2.2.1[k]?.getD 0 ∧ (ds[j]?.getD id0).2.2.2.1[k]?.getD 0 < 20) := fun k hk => hbk k hlt hk
      have HDJ : Hid (DU (j + 1) = dueK (ds[j]?.getD id0).2.2.1 (ds[j]?.getD id0).2.2.2.1 (DU j) (ds[j]?.getD id0).2.2.2.1.length) := HDS.out j
      clear hR hm3 hbk
      generalize (ds[j]?.getD id0) = dj at *
      obtain ⟨dk, dl, s, bs, es⟩ := dj
      dsimp only at *
      have HIB : Hid (At1 w aB bs.length (fun k => .int .i64 (bs[k]?.getD 0))) := hI1
      have hb4 : bs.length ≤ 4 := by omega
      obtain ⟨nB, hnB⟩ : ∃ nB, bs.length = nB := ⟨_, rfl⟩
      rw [hnB] at c3 HIB HBKJ HDJ hb4 hsz
      clear hI1 hnB
      have HK0 : Hid (dueK s bs (DU j) 0 = DU j) := rfl
      have HKS : Hid (∀ k, dueK s bs (DU j) (k + 1) = putD (dueK s bs (DU j) k) (bs[k]?.getD 0) (m8 (s - 8 * (k : Int)))) := fun k => rfl
      have HML : Hid (∀ k, k + 1 < nB → s - 8 * (k : Int) - m8 (s - 8 * (k : Int)) = s - 8 * ((k + 1 : Nat) : Int)) := fun k hk => m8_left hsz.2.2 hk
      have hs0 := hsz.1
      have hs1 := hsz.2.1
      clear hsz
      generalize dueK s bs (DU j) = DK at *
      generalize es.length = nE at *
      go_wp2
      clear c0 c1 c2 c3 c4
      go_loopw [6, 20] (fun l i wr2 => ∃ (k : Nat) (lf : Int), k ≤ nB ∧ i = .int .i64 k ∧ l = .int .i64 lf ∧ (k < nB → lf = s - 8 * (k : Int)) ∧ Below w.heap.size w wr2 ∧ ArI wr2 (w.heap.size + 1) (DK k) ∧ ArI wr2 w.heap.size (fun _ => 0)) (fun _ i _ => nB - (intOf i).toNat)
      case atStart => exact ⟨0, s, Nat.zero_le _, rfl, rfl, fun _ => by simp, HBL.out.trans ((later1 _ _).mono HBL.out.size), by rw [HK0.out]; exact HA.out.later (later1 _ _), HY.out.later (later1 _ _)⟩
      case round =>
        obtain ⟨k, lf, hk, rfl, rfl, hlf, hbl2, hx2, hy2⟩ := hrel
        have HB2 : Hid (Below w.heap.size w wr) := hbl2
        have HA2 : Hid (ArI wr (w.heap.size + 1) (DK k)) := hx2
        have HY2 : Hid (ArI wr w.heap.size (fun _ => 0)) := hy2
        have HLF : Hid (k < nB → lf = s - 8 * (k : Int)) := hlf
        clear hbl2 hx2 hy2 hlf HA HY HBL
        by_cases hlk : k < nB
        · obtain ⟨b1, o1, rfl, p1⟩ := HIB.out k hlk
          replace p1 : w.cell? ⟨b1, o1 + k, none⟩ = some (.int .i64 (bs[k]?.getD 0)) := p1
          replace p1 := cell_later HB2.out p1
          have hbr := HBKJ.out k hlk
          have HST : Hid (DK (k + 1) = putD (DK k) (bs[k]?.getD 0) (m8 lf)) := by rw [HLF.out hlk]; exact HKS.out k
          have HMK : Hid (k + 1 < nB → lf - m8 lf = s - 8 * ((k + 1 : Nat) : Int)) := fun h => by rw [HLF.out hlk]; exact HML.out k h
          have hl0 : -32 ≤ lf ∧ lf ≤ 32 := by have := HLF.out hlk; omega
          generalize bs[k]?.getD 0 = x at *
          obtain ⟨y, rfl⟩ : ∃ y : Nat, x = (y : Int) := ⟨x.toNat, by omega⟩
          have hy : y < 20 := by omega
          have r0 := HA2.out.cell hy
          have r1 := HA2.out.frozen y
          have hw2 := HA2.out.lt
          clear hbr
          have HM : Hid (m8 lf = min lf 8) := by unfold Hid m8; split <;> omega
          rw [HM.out] at HST HMK
          have HA3 : Hid (ArI (wr.setCell ⟨w.heap.size + 1, y, none⟩ (.int .i64 (min lf 8))) (w.heap.size + 1) (DK (k + 1))) := by
            have := HA2.out.set y (min lf 8)
            rw [HST.out]
            exact this
          have HY3 : Hid (ArI (wr.setCell ⟨w.heap.size + 1, y, none⟩ (.int .i64 (min lf 8))) w.heap.size (fun _ => 0)) := HY2.out.store (by simp) _
          have HB3 : Hid (Below w.heap.size w (wr.setCell ⟨w.heap.size + 1, y, none⟩ (.int .i64 (min lf 8)))) := HB2.out.setCell (by simp) _
          generalize DK k y = rv at *
          go_wp2
          go_roundw
          case rel => exact ⟨k + 1, lf - min lf 8, by omega, by go_num, by go_num, HMK.out, HB3.out, HA3.out, HY3.out⟩
          case measure => simp [intOf]; omega
        · have HE : Hid (DK k = DU (j + 1)) := by unfold Hid; rw [HDJ.out, show k = nB by omega]
          go_wp2
          go_roundw
          case rel => exact ⟨j + 1, by omega, by go_num, HB2.out, by rw [← HE.out]; exact HA2.out, HY2.out⟩
          case measure => simp [intOf]; omega
    · have HGN : Hid (DU j = DU n) := by unfold Hid; rw [show j = n by omega]
      have HL : Hid (_ = _) := HA.out.load
      obtain ⟨X, hst, hax, hsx, hoth, hx1, hx2, hx3⟩ := HY.out.put (DU j)
      have HST : Hid (_ = _) := hst
      have HAX : Hid (ArI X w.heap.size (DU n)) := HGN.out ▸ hax
      have HBX : Hid (Below w.heap.size w X) := HBL.out.trans ⟨hx1, hx2, hx3, by omega, fun c hc => hoth c (by omega)⟩
      clear hst hax hsx hoth hx1 hx2 hx3
      generalize DU j = g1 at HL HST
      go_wp2_with (first | refine wpList_load_run rfl _ 100 rfl _ rfl _ _ HL.out ?_ | refine wpList_store_run rfl _ _ 100 rfl _ _ rfl rfl _ HST.out ?_)
      refine bodyPost_ret (v := .agg (arrI (DU n))) ?_ rfl ⟨rfl, HBX.out⟩
      have hlv := HAX.out.loadV
      simp [results, Try.results76, asAddr, Act.put, hlv]
theorem bytesDue_any {w : World} {v : Value} {ds : List ID} (h : Inos w v ds) (hi : insF ds = 0) :
    Calls Try.prog 76 #[v] w fun e w' => e = .returned (.agg (arrI (dueI ds ds.length))) ∧ Below w.heap.size w w' := by
  obtain ⟨a, cap, rfl, hm, hc⟩ := h.open'
  exact bytesDue_walk w a _ cap ds rfl (insF_ten hi) hi hc

def bytF (d : FD) : Int := if sizesB d then 0 else 1
set_option maxHeartbeats 3200000 in
theorem bytesFault_any (w : World) (aI : Option Addr) (nI cI : Nat) (aD : Option Addr) (nD cD : Nat) (d : FD) (h : FsR w (.slice aI nI cI) (.slice aD nD cD) d) (hi : insF d.1 = 0) (h20 : d.2.length = 20) :
    Calls Try.prog 40 #[.agg #[.slice aI nI cI, .slice aD nD cD]] w fun e w' => e = .returned (.int .i64 (bytF d)) ∧ Below w.heap.size w w' := by
  have HBD : Hid (∀ W, Below w.heap.size w W → Calls Try.prog 76 #[.slice aI nI cI] W fun e w' => e = .returned (.agg (arrI (dueI d.1 d.1.length))) ∧ Below W.heap.size W w') := fun W hW => bytesDue_any (h.1.later hW) hi
  have HX : Hid (Bx (w.alloc (.cells #[.slice aI nI cI, .slice aD nD cD] 30)) w.heap.size [.slice aI nI cI, .slice aD nD cD]) := Bx.new w [.slice aI nI cI, .slice aD nD cD] _
  obtain ⟨_, _, e2, hm2, hc⟩ := h.2.open'
  simp only [Value.slice.injEq] at e2
  obtain ⟨rfl, rfl, rfl⟩ := e2
  rw [h20] at HX hc ⊢
  have HC : Hid (AtYs w aD 20 d.2) := hc
  have HSO : Hid (∀ i, sizOK d i = decide ((((d.2[i]?.getD []).length : Nat) : Int) = dueI d.1 d.1.length i)) := fun i => rfl
  clear hc h hm2 hi h20
  generalize dueI d.1 d.1.length = DU at *
  go_enter Try.func40, Try.ntmps40
  go_wp2_with fail
  refine (HBD.out _ (later1 _ _)).mono ?_
  rintro e w1 ⟨rfl, hb1⟩
  have HB1 : Hid (Below w.heap.size w w1) := (later1 _ _).trans (hb1.mono (by simp))
  have HX1 : Hid (Bx w1 w.heap.size [.slice aI nI cI, .slice aD 20 cD]) := HX.out.later hb1
  clear hb1 HX HBD
  have hz1 : w.heap.size < w1.heap.size := HX1.out.lt
  obtain ⟨X, hst, hax, hsx, hoth, hx1, hx2, hx3⟩ := (ArI.new w1 (fun _ => 0)).put DU
  have HST : Hid (_ = _) := hst
  have HAX : Hid (ArI X w1.heap.size DU) := hax
  have HBX : Hid (Below w1.heap.size w1 X) := (later1 w1 (.cells (arrI fun _ => 0) 100)).trans ⟨hx1, hx2, hx3, by omega, fun c hc => hoth c (by omega)⟩
  have HXX : Hid (Bx X w.heap.size [.slice aI nI cI, .slice aD 20 cD]) := HX1.out.later HBX.out
  have HBW : Hid (Below w.heap.size w X) := HB1.out.trans (HBX.out.mono HB1.out.size)
  clear hst hax hsx hoth hx1 hx2 hx3
  have x1 := HXX.out 1 _ rfl
  go_wp2_with (first | refine wpList_store_run rfl _ _ 100 rfl _ _ rfl rfl _ HST.out ?_ | fail)
  clear HST
  go_loopw [12] (fun i wr => ∃ k : Nat, k ≤ 20 ∧ i = .int .i64 k ∧ wr = X ∧ ∀ q, q < k → sizOK d q = true) (fun i _ => 20 - (intOf i).toNat)
  case atStart => exact ⟨0, by omega, rfl, rfl, fun q hq => by omega⟩
  case round =>
    obtain ⟨k, hk, rfl, rfl, hz⟩ := hrel
    have HZ : Hid (∀ q, q < k → sizOK d q = true) := hz
    clear hz x1
    by_cases hlk : k < 20
    · obtain ⟨bD, oD, ua, uc, rfl, d0, _⟩ := HC.out k hlk
      replace d0 := cell_later HBW.out d0
      have r0 := HAX.out.cell hlk
      have HSK : Hid (sizOK d k = decide ((((d.2[k]?.getD []).length : Nat) : Int) = DU k)) := HSO.out k
      have HY : Hid (sizOK d k = true → ∀ q, q < k + 1 → sizOK d q = true) := fun hh q hq => by
        by_cases e : q = k
        · subst e; exact hh
        · exact HZ.out q (by omega)
      have HNO : Hid (sizOK d k = false → bytF d = 1) := fun hh => by unfold bytF; rw [sizesB_no hlk hh]; rfl
      generalize (d.2[k]?.getD []).length = ln at *
      generalize DU k = du at *
      by_cases he : ((ln : Nat) : Int) = du
      · have hb : (((ln : Nat) : Int) != du) = false := by simpa using he
        have HR : Hid (∀ q, q < k + 1 → sizOK d q = true) := HY.out (by rw [HSK.out, decide_eq_true he])
        clear he HSK HY HNO
        go_wp2
        go_roundw
        case rel => exact ⟨k + 1, by omega, by go_num, by first | rfl | trivial, HR.out⟩
        case measure => simp [intOf]; omega
      · have hb : (((ln : Nat) : Int) != du) = true := by simpa using he
        have HR : Hid (bytF d = 1) := HNO.out (by rw [HSK.out, decide_eq_false he])
        clear he HSK HY HNO
        go_wp2
        go_ret
        exact ⟨ret_int HR.out.symm, HBW.out⟩
    · have HR : Hid (bytF d = 0) := by unfold Hid bytF; rw [sizesB_yes fun i hi => HZ.out i (by omega)]; rfl
      go_wp2
      go_ret
      exact ⟨ret_int HR.out.symm, HBW.out⟩

/-- The program's codes up to entries are the specification's. -/
theorem fsE_eq (d : FD) : fsE d = if insF d.1 = 0 then (if d.1.length = 0 ∨ ¬ kindAt d.1 0 = 2 then 1 else if dataF d = 0 then lostF d.1 else dataF d) else insF d.1 := by
  unfold fsE dataF formB
  by_cases h1 : insF d.1 = 0
  · rw [if_pos h1, if_pos h1]
    by_cases h2 : d.1.length = 0 ∨ ¬ kindAt d.1 0 = 2
    · rw [if_pos h2, if_pos (by rcases h2 with h | h <;> simp [h])]
    · rw [if_neg h2]
      have h2a : ¬ d.1.length = 0 := fun e => h2 (Or.inl e)
      have h2b : kindAt d.1 0 = 2 := Classical.byContradiction fun e => h2 (Or.inr e)
      by_cases h3 : d.2.length = 20
      · rw [if_neg (by simp [h2b, h3]; intro e; exact h2a (by rw [e]; rfl)), if_pos h3]
        by_cases h4 : fstNZ (manyF d.2) d.2.length = 0
        · rw [if_pos h4]
          by_cases h5 : onceB d.1 20 = true
          · rw [if_pos h5]; simp [h4, h5]
          · rw [if_neg h5]; simp [h4, h5]
        · rw [if_neg h4, if_neg h4, if_neg h4]
      · rw [if_pos (by simp [h3]), if_neg h3]; simp
  · rw [if_neg h1, if_neg h1]
set_option maxHeartbeats 3200000 in
theorem reachFault_any (w : World) (aI : Option Addr) (nI cI : Nat) (aD : Option Addr) (nD cD : Nat) (d : FD) (h : FsR w (.slice aI nI cI) (.slice aD nD cD) d) (hs : sizeInos d.1 ≤ 1048576) :
    Calls Try.prog 38 #[.agg #[.slice aI nI cI, .slice aD nD cD]] w fun e w' => e = .returned (.int .i64 (fsE d)) ∧ Below w.heap.size w w' := by
  have HF : Hid (∀ W, Below w.heap.size w W → Calls Try.prog 71 #[.slice aI nI cI] W fun e w' => e = .returned (.int .i64 (insF d.1)) ∧ Below W.heap.size W w') := fun W hW => inodesFault_any (h.1.later hW) hs
  have HE : Hid (fsE d = if insF d.1 = 0 then (if d.1.length = 0 ∨ ¬ kindAt d.1 0 = 2 then 1 else if dataF d = 0 then lostF d.1 else dataF d) else insF d.1) := fsE_eq d
  have HX : Hid (Bx (w.alloc (.cells #[.slice aI nI cI, .slice aD nD cD] 30)) w.heap.size [.slice aI nI cI, .slice aD nD cD]) := Bx.new w [.slice aI nI cI, .slice aD nD cD] _
  by_cases h1 : insF d.1 = 0
  rotate_left
  · have HR : Hid (fsE d = insF d.1) := by unfold Hid; rw [HE.out, if_neg h1]
    have hb : (insF d.1 != 0) = true := by simpa using h1
    clear HE h1 h
    generalize insF d.1 = r at *
    go_enter Try.func38, Try.ntmps38
    go_wp2_with fail
    refine (HF.out _ (later1 _ _)).mono ?_
    rintro e w1 ⟨rfl, hb1⟩
    have HB1 : Hid (Below w.heap.size w w1) := (later1 _ _).trans (hb1.mono (by simp))
    clear hb1
    go_wp2
    go_ret
    exact ⟨ret_int HR.out.symm, HB1.out⟩
  · have HD : Hid (∀ W, Below w.heap.size w W → Calls Try.prog 72 #[.agg #[.slice aI nI cI, .slice aD nD cD]] W fun e w' => e = .returned (.int .i64 (dataF d)) ∧ Below W.heap.size W w') := fun W hW => dataFault_any W aI nI cI aD nD cD d (h.later hW) hs h1
    have HN : Hid (∀ W, Below w.heap.size w W → Calls Try.prog 73 #[.agg #[.slice aI nI cI, .slice aD nD cD]] W fun e w' => e = .returned (.int .i64 (lostF d.1)) ∧ Below W.heap.size W w') := fun W hW => entriesFault_any W aI nI cI aD nD cD d (h.later hW) hs h1
    obtain ⟨_, _, e2, hm2, hc⟩ := h.1.open'
    simp only [Value.slice.injEq] at e2
    obtain ⟨rfl, rfl, rfl⟩ := e2
    rw [h1, if_pos rfl] at HE
    rw [h1] at HF
    have HC : Hid (AtI w aI d.1.length d.1) := hc
    clear h h1 hc hs hm2
    by_cases h0 : d.1.length = 0
    · have hb0 : (((d.1.length : Nat) : Int) == 0) = true := by simp [h0]
      have HR : Hid (fsE d = 1) := by unfold Hid; rw [HE.out, if_pos (Or.inl h0)]
      clear HE h0
      generalize d.1.length = n at *
      go_enter Try.func38, Try.ntmps38
      go_wp2_with fail
      refine (HF.out _ (later1 _ _)).mono ?_
      rintro e w1 ⟨rfl, hb1⟩
      have HB1 : Hid (Below w.heap.size w w1) := (later1 _ _).trans (hb1.mono (by simp))
      have x0 := (HX.out.later hb1) 0 _ rfl
      clear hb1
      go_wp2
      go_ret
      exact ⟨ret_int HR.out.symm, HB1.out⟩
    · have hb0 : (((d.1.length : Nat) : Int) == 0) = false := by simp; intro e; exact h0 (by rw [e]; rfl)
      obtain ⟨b0, o0, rfl, hI⟩ := HC.out 0 (by omega)
      obtain ⟨_, _, _, _, kc, _⟩ := hI
      replace kc : w.cell? ⟨b0, o0, none⟩ = some (.int .i64 (kindAt d.1 0)) := by simpa [kindAt] using kc
      have h00 : 0 < d.1.length := by omega
      have HE2 : Hid (fsE d = if ¬ kindAt d.1 0 = 2 then 1 else if dataF d = 0 then lostF d.1 else dataF d) := by
        unfold Hid; rw [HE.out]; simp only [h0, false_or]
      clear HE h0 HC
      generalize d.1.length = n at *
      generalize kindAt d.1 0 = kd at *
      generalize dataF d = df at *
      generalize lostF d.1 = lf at *
      by_cases hk : kd = 2
      rotate_left
      · have hb2 : (kd != 2) = true := by simpa using hk
        have HR : Hid (fsE d = 1) := by unfold Hid; rw [HE2.out, if_pos hk]
        clear HE2 hk
        go_enter Try.func38, Try.ntmps38
        go_wp2_with fail
        refine (HF.out _ (later1 _ _)).mono ?_
        rintro e w1 ⟨rfl, hb1⟩
        have HB1 : Hid (Below w.heap.size w w1) := (later1 _ _).trans (hb1.mono (by simp))
        have x0 := (HX.out.later hb1) 0 _ rfl
        replace kc := cell_later HB1.out kc
        clear hb1
        go_wp2
        go_ret
        exact ⟨ret_int HR.out.symm, HB1.out⟩
      · have hb2 : (kd != 2) = false := by simpa using hk
        have HE3 : Hid (fsE d = if df = 0 then lf else df) := by unfold Hid; rw [HE2.out, if_neg (by simp [hk])]
        clear HE2 hk
        by_cases hd : df = 0
        · have hb3 : (df != 0) = false := by simpa using hd
          have HR : Hid (fsE d = lf) := by unfold Hid; rw [HE3.out, if_pos hd]
          clear HE3 hd
          go_enter Try.func38, Try.ntmps38
          go_wp2_with fail
          refine (HF.out _ (later1 _ _)).mono ?_
          rintro e w1 ⟨rfl, hb1⟩
          have HB1 : Hid (Below w.heap.size w w1) := (later1 _ _).trans (hb1.mono (by simp))
          have HX1 : Hid (Bx w1 w.heap.size _) := HX.out.later hb1
          have x0 := HX1.out 0 _ rfl
          have x1 := HX1.out 1 _ rfl
          replace kc := cell_later HB1.out kc
          clear hb1
          go_wp2_with fail
          refine (HD.out _ HB1.out).mono ?_
          rintro e w2 ⟨rfl, hb2'⟩
          have HB2 : Hid (Below w.heap.size w w2) := HB1.out.trans (hb2'.mono HB1.out.size)
          have y0 := (HX1.out.later hb2') 0 _ rfl
          have y1 := (HX1.out.later hb2') 1 _ rfl
          clear hb2' x0 x1 kc
          go_wp2_with fail
          refine (HN.out _ HB2.out).mono ?_
          rintro e w3 ⟨rfl, hb3'⟩
          have HB3 : Hid (Below w.heap.size w w3) := HB2.out.trans (hb3'.mono HB2.out.size)
          clear hb3'
          go_wp2
          go_ret
          exact ⟨ret_int HR.out.symm, HB3.out⟩
        · have hb3 : (df != 0) = true := by simpa using hd
          have HR : Hid (fsE d = df) := by unfold Hid; rw [HE3.out, if_neg hd]
          clear HE3 hd
          go_enter Try.func38, Try.ntmps38
          go_wp2_with fail
          refine (HF.out _ (later1 _ _)).mono ?_
          rintro e w1 ⟨rfl, hb1⟩
          have HB1 : Hid (Below w.heap.size w w1) := (later1 _ _).trans (hb1.mono (by simp))
          have HX1 : Hid (Bx w1 w.heap.size _) := HX.out.later hb1
          have x0 := HX1.out 0 _ rfl
          have x1 := HX1.out 1 _ rfl
          replace kc := cell_later HB1.out kc
          clear hb1
          go_wp2_with fail
          refine (HD.out _ HB1.out).mono ?_
          rintro e w2 ⟨rfl, hb2'⟩
          have HB2 : Hid (Below w.heap.size w w2) := HB1.out.trans (hb2'.mono HB1.out.size)
          clear hb2' x0 x1 kc
          go_wp2
          go_ret
          exact ⟨ret_int HR.out.symm, HB2.out⟩

theorem range_of {ds : List ID} (hi : insF ds = 0) (h : lostF ds = 0) : inRange ds := fun i hil x hx => by
  unfold entsOf entI at hx
  obtain ⟨e, he, rfl⟩ := List.mem_map.1 hx
  obtain ⟨k, hk, hke⟩ := List.getElem_of_mem he
  have := lost_in hi h i hil k hk
  rw [List.getElem?_eq_getElem hk, Option.getD_some, hke] at this
  exact this
theorem six_of {ds : List ID} (hi : insF ds = 0) (i : Nat) : (entsOf ds i).length ≤ 6 := by
  rw [entsOf_len]
  by_cases h : i < ds.length
  · exact ino_six (ins_ino hi i h)
  · rw [List.getElem?_eq_none (by omega)]; simp [id0]
set_option maxHeartbeats 3200000 in
theorem implFsU (w : World) (aI : Option Addr) (nI cI : Nat) (aD : Option Addr) (nD cD : Nat) (d : FD) (h : FsR w (.slice aI nI cI) (.slice aD nD cD) d) (hs : sizeFs d ≤ 1048576) :
    Calls Try.prog 11 #[.agg #[.slice aI nI cI, .slice aD nD cD]] w fun e w' => e = .returned (.int .i64 (fsF d)) ∧ Below w.heap.size w w' := by
  have hsi : sizeInos d.1 ≤ 1048576 := by unfold sizeFs at hs; omega
  have HRF : Hid (∀ W, Below w.heap.size w W → Calls Try.prog 38 #[.agg #[.slice aI nI cI, .slice aD nD cD]] W fun e w' => e = .returned (.int .i64 (fsE d)) ∧ Below W.heap.size W w') := fun W hW => reachFault_any W aI nI cI aD nD cD d (h.later hW) hsi
  have HX : Hid (Bx (w.alloc (.cells #[.slice aI nI cI, .slice aD nD cD] 30)) w.heap.size [.slice aI nI cI, .slice aD nD cD]) := Bx.new w [.slice aI nI cI, .slice aD nD cD] _
  have HF : Hid (fsF d = if fsE d = 0 then (if linksB d.1 && sizesB d then 0 else 1) else fsE d) := rfl
  by_cases he : fsE d = 0
  rotate_left
  · have HR : Hid (fsF d = fsE d) := by unfold Hid; rw [HF.out, if_neg he]
    have hb : (fsE d != 0) = true := by simpa using he
    clear HF he h
    generalize fsE d = r at *
    go_enter Try.func11, Try.ntmps11
    go_wp2_with fail
    refine (HRF.out _ (later1 _ _)).mono ?_
    rintro e w1 ⟨rfl, hb1⟩
    have HB1 : Hid (Below w.heap.size w w1) := (later1 _ _).trans (hb1.mono (by simp))
    clear hb1
    go_wp2
    go_ret
    exact ⟨ret_int HR.out.symm, HB1.out⟩
  · obtain ⟨h1, h2, _, _, h5⟩ := fsE_zero he
    obtain ⟨g1, _, g3⟩ := formB_no h2
    have HT : Hid (∀ W, Below w.heap.size w W → Calls Try.prog 39 #[.agg #[.slice aI nI cI, .slice aD nD cD]] W fun e w' => e = .returned (.int .i64 (treeF d.1)) ∧ Below W.heap.size W w') := fun W hW => treeFault_any W aI nI cI aD nD cD d (h.later hW) hsi h1 (by omega) (insF_ten h1) (range_of h1 h5) (six_of h1)
    have HB : Hid (∀ W, Below w.heap.size w W → Calls Try.prog 40 #[.agg #[.slice aI nI cI, .slice aD nD cD]] W fun e w' => e = .returned (.int .i64 (bytF d)) ∧ Below W.heap.size W w') := fun W hW => bytesFault_any W aI nI cI aD nD cD d (h.later hW) h1 g3
    have HR : Hid (fsF d = if linksB d.1 && sizesB d then 0 else 1) := by unfold Hid; rw [HF.out, if_pos he]
    have HTF : Hid (treeF d.1 = if linksB d.1 then 0 else 1) := rfl
    have HBF : Hid (bytF d = if sizesB d then 0 else 1) := rfl
    rw [he] at HRF
    rw [HTF.out] at HT
    rw [HBF.out] at HB
    clear HF he h h1 h2 h5 g1 g3 HTF HBF
    generalize linksB d.1 = lb at *
    generalize sizesB d = sb at *
    cases lb with
    | false =>
      go_enter Try.func11, Try.ntmps11
      go_wp2_with fail
      refine (HRF.out _ (later1 _ _)).mono ?_
      rintro e w1 ⟨rfl, hb1⟩
      have HB1 : Hid (Below w.heap.size w w1) := (later1 _ _).trans (hb1.mono (by simp))
      have x0 := (HX.out.later hb1) 0 _ rfl
      have x1 := (HX.out.later hb1) 1 _ rfl
      clear hb1
      go_wp2_with fail
      refine (HT.out _ HB1.out).mono ?_
      rintro e w2 ⟨rfl, hb2⟩
      have HB2 : Hid (Below w.heap.size w w2) := HB1.out.trans (hb2.mono HB1.out.size)
      clear hb2 x0 x1
      go_wp2
      go_ret
      exact ⟨ret_int HR.out.symm, HB2.out⟩
    | true =>
      cases sb
      all_goals
        go_enter Try.func11, Try.ntmps11
        go_wp2_with fail
        refine (HRF.out _ (later1 _ _)).mono ?_
        rintro e w1 ⟨rfl, hb1⟩
        have HB1 : Hid (Below w.heap.size w w1) := (later1 _ _).trans (hb1.mono (by simp))
        have HX1 : Hid (Bx w1 w.heap.size _) := HX.out.later hb1
        have x0 := HX1.out 0 _ rfl
        have x1 := HX1.out 1 _ rfl
        clear hb1
        go_wp2_with fail
        refine (HT.out _ HB1.out).mono ?_
        rintro e w2 ⟨rfl, hb2⟩
        have HB2 : Hid (Below w.heap.size w w2) := HB1.out.trans (hb2.mono HB1.out.size)
        have y0 := (HX1.out.later hb2) 0 _ rfl
        have y1 := (HX1.out.later hb2) 1 _ rfl
        clear hb2 x0 x1
        go_wp2_with fail
        refine (HB.out _ HB2.out).mono ?_
        rintro e w3 ⟨rfl, hb3⟩
        have HB3 : Hid (Below w.heap.size w w3) := HB2.out.trans (hb3.mono HB2.out.size)
        clear hb3
        go_wp2
        go_ret
        exact ⟨ret_int HR.out.symm, HB3.out⟩
end Go.Proofs.Ytdgnhcfnhbkmlal

namespace Go.Proofs.Ytdgnhcfnhbkmlal
open Go.RowKit
set_option maxRecDepth 100000

set_option maxHeartbeats 3200000 in
theorem toFsU (w : World) (a1 : Option Addr) (n1 c1 : Nat) (a2 : Option Addr) (n2 c2 : Nat) (d : FD) (h : FsR w (.slice a1 n1 c1) (.slice a2 n2 c2) d) (hs : sizeFs d ≤ 1048576) :
    Calls Try.prog 10 #[.agg #[.slice a1 n1 c1, .slice a2 n2 c2]] w fun e w' => ∃ b1 m1 k1 b2 m2 k2, e = .returned (.agg #[.slice b1 m1 k1, .slice b2 m2 k2]) ∧ Below w.heap.size w w' ∧ FsU w' (.slice b1 m1 k1) (.slice b2 m2 k2) d (fresh w w') := by
  have H1 : Hid (Inos w (.slice a1 n1 c1) d.1) := h.1
  have H2 : Hid (Byts w (.slice a2 n2 c2) d.2) := h.2
  have L1 : Hid (sizeInos d.1 ≤ 1048576) := by unfold sizeFs at hs; unfold Hid; omega
  have L2 : Hid (sizeByts d.2 ≤ 1048576) := by unfold sizeFs at hs; unfold Hid; omega
  clear h hs
  go_enter Try.func10, Try.ntmps10
  go_wp2_with fail
  have O2 : OwnRow (((w.alloc (.cells #[.slice a1 n1 c1, .slice a2 n2 c2] 25)).alloc (.cells #[.slice none 0 0, .slice none 0 0] 30)).alloc (.cells #[.slice none 0 0, .slice none 0 0] 30)) (w.heap.size + 1 + 1) 2 (fun i => if i = 0 then .slice none 0 0 else .slice none 0 0) := by
    have := OwnRow.two ((w.alloc (.cells #[.slice a1 n1 c1, .slice a2 n2 c2] 25)).alloc (.cells #[.slice none 0 0, .slice none 0 0] 30)) (.slice none 0 0) (.slice none 0 0) 30
    simpa using this
  have O1 : OwnRow (((w.alloc (.cells #[.slice a1 n1 c1, .slice a2 n2 c2] 25)).alloc (.cells #[.slice none 0 0, .slice none 0 0] 30)).alloc (.cells #[.slice none 0 0, .slice none 0 0] 30)) (w.heap.size + 1) 2 (fun i => if i = 0 then .slice none 0 0 else .slice none 0 0) := by
    have := (OwnRow.two (w.alloc (.cells #[.slice a1 n1 c1, .slice a2 n2 c2] 25)) (.slice none 0 0) (.slice none 0 0) 30).later (later1 _ (.cells #[.slice none 0 0, .slice none 0 0] 30))
    simpa using this
  have O0 : OwnRow (((w.alloc (.cells #[.slice a1 n1 c1, .slice a2 n2 c2] 25)).alloc (.cells #[.slice none 0 0, .slice none 0 0] 30)).alloc (.cells #[.slice none 0 0, .slice none 0 0] 30)) w.heap.size 2 (fun i => if i = 0 then .slice a1 n1 c1 else .slice a2 n2 c2) := ((OwnRow.two w (.slice a1 n1 c1) (.slice a2 n2 c2) 25).later (later1 _ _)).later (later1 _ _)
  have HBA : Hid (Below w.heap.size w (((w.alloc (.cells #[.slice a1 n1 c1, .slice a2 n2 c2] 25)).alloc (.cells #[.slice none 0 0, .slice none 0 0] 30)).alloc (.cells #[.slice none 0 0, .slice none 0 0] 30))) := later3 _ _ _ _
  have hWs : (((w.alloc (.cells #[.slice a1 n1 c1, .slice a2 n2 c2] 25)).alloc (.cells #[.slice none 0 0, .slice none 0 0] 30)).alloc (.cells #[.slice none 0 0, .slice none 0 0] 30)).heap.size = w.heap.size + 3 := by simp
  generalize hW : (((w.alloc (.cells #[.slice a1 n1 c1, .slice a2 n2 c2] 25)).alloc (.cells #[.slice none 0 0, .slice none 0 0] 30)).alloc (.cells #[.slice none 0 0, .slice none 0 0] 30)) = W at *
  clear hW
  refine (toInosU (H1.out.later HBA.out) L1.out).mono ?_
  rintro e w1 ⟨b1, m1, k1, rfl, hb1, ho1⟩
  have HB1 : Hid (Below w.heap.size w w1) := HBA.out.trans (hb1.mono HBA.out.size)
  replace O2 := O2.later hb1
  replace O1 := O1.later hb1
  replace O0 := O0.later hb1
  have HO1 : Hid (InosO w1 (.slice b1 m1 k1) d.1 (fun b => w.heap.size + 3 ≤ b ∧ b < w1.heap.size)) := ho1.mono fun b hb => ⟨by have := hb.1; omega, hb.2⟩
  clear hb1 ho1
  have P0 := O0.cell (i := 1) (by omega)
  have d0 := O2.cell (i := 0) (by omega)
  have f0 := O2.frozen 0
  simp at P0 d0
  have HO2 : Hid (OwnRow w1 (w.heap.size + 1 + 1) 2 (fun i => if i = 0 then .slice none 0 0 else .slice none 0 0)) := O2
  have HR1 : Hid (OwnRow w1 (w.heap.size + 1) 2 (fun i => if i = 0 then .slice none 0 0 else .slice none 0 0)) := O1
  have hz1 : w.heap.size + 1 + 1 < w1.heap.size := O2.lt
  clear O0 O1 O2
  go_wp2_with fail
  clear d0 f0 P0
  have HBX : Hid (Below w.heap.size w (w1.setCell ⟨w.heap.size + 1 + 1, 0, none⟩ (.slice b1 m1 k1))) := HB1.out.setCell (by simp; omega) _
  refine (toBytsU (H2.out.later HBX.out) L2.out).mono ?_
  rintro e w2 ⟨b2, m2, k2, rfl, hb2, ho2⟩
  have HOX := (HO2.out.set 0 (.slice b1 m1 k1)).later hb2
  have HRX := (HR1.out.store (p := ⟨w.heap.size + 1 + 1, 0, none⟩) (by simp) (.slice b1 m1 k1)).later hb2
  have e1 : (w1.setCell ⟨w.heap.size + 1 + 1, 0, none⟩ (.slice b1 m1 k1)).heap.size = w1.heap.size := by simp [World.setCell]
  have HIX : Hid (InosO w2 (.slice b1 m1 k1) d.1 (fun b => w.heap.size + 3 ≤ b ∧ b < w1.heap.size)) := HO1.out.keep fun b hb hlt => by
    rw [hb2.block b (by rw [e1]; exact hlt), Below.heap_setCell _ _ _ _ (by simp; omega)]
  have HPX : Hid (BytsO w2 (.slice b2 m2 k2) d.2 (fun b => w1.heap.size ≤ b ∧ b < w2.heap.size)) := by
    unfold fresh at ho2
    rw [e1] at ho2
    exact ho2
  have HB2 : Hid (Below w.heap.size w w2) := HBX.out.trans (hb2.mono HBX.out.size)
  have e2 : w1.heap.size ≤ w2.heap.size := by have := hb2.size; rwa [e1] at this
  have q0 := HOX.cell (i := 0) (by omega)
  have q1 := HOX.cell (i := 1) (by omega)
  have qf := HOX.frozen 1
  have t0 := HRX.cell (i := 0) (by omega)
  have t1 := HRX.cell (i := 1) (by omega)
  have s0 := HRX.frozen 0
  have s1 := HRX.frozen 1
  simp at q0 q1 t0 t1
  clear HOX HRX hb2 ho2
  go_wp2
  refine bodyPost_ret (v := .agg #[.slice b1 m1 k1, .slice b2 m2 k2]) (by simp [results, Try.results10, go_sem, t0, t1]) rfl ⟨_, _, _, _, _, _, rfl, ?_, ?_⟩
  · exact ((HB2.out.setCell (by simp; omega) _).setCell (by simp) _).setCell (by simp) _
  · refine ⟨fun b => w.heap.size + 3 ≤ b ∧ b < w1.heap.size, fun b => w1.heap.size ≤ b ∧ b < w2.heap.size, HIX.out.keep fun b hb hlt => ?_, HPX.out.keep fun b hb hlt => ?_, fun b hb hb' => by omega, fun b hb => ?_⟩
    · rw [Below.heap_setCell _ _ _ _ (by simp; omega), Below.heap_setCell _ _ _ _ (by simp; omega), Below.heap_setCell _ _ _ _ (by simp; omega)]
    · rw [Below.heap_setCell _ _ _ _ (by simp; omega), Below.heap_setCell _ _ _ _ (by simp; omega), Below.heap_setCell _ _ _ _ (by simp; omega)]
    · unfold fresh
      simp only [World.setCell, Array.size_modify]
      rcases hb with hb | hb <;> omega
end Go.Proofs.Ytdgnhcfnhbkmlal

namespace Go.Proofs.Ytdgnhcfnhbkmlal
open Go.RowKit
set_option maxRecDepth 100000

set_option maxHeartbeats 1600000 in
theorem lawFsFault_big (w : World) (a0x0 : Option Addr) (n0x0 c0x0 : Nat) (a1x0 : Option Addr) (n1x0 c1x0 : Nat) (dx0 : FD) (hx0 : FsR w (.slice a0x0 n0x0 c0x0) (.slice a1x0 n1x0 c1x0) dx0) (hsz : 1048576 < sizeFs dx0) :
    Calls Try.prog 3 #[.agg #[.slice a0x0 n0x0 c0x0, .slice a1x0 n1x0 c1x0]] w fun e w' => e = .returned (.bool true) ∧ Below w.heap.size w w' := by
  have Hx0 : Hid (FsR w (.slice a0x0 n0x0 c0x0) (.slice a1x0 n1x0 c1x0) dx0) := hx0
  have HS : Hid (szf 1048576 (sizeFs dx0) = -1) := szf_no (by omega)
  clear hx0 hsz
  go_enter Try.func3, Try.ntmps3
  go_wp2_with fail
  refine (szFsU _ _ _ _ _ _ _ dx0 (Hx0.out.later (later1 _ _)) 1048576 (by omega) (by omega)).mono ?_
  rw [HS.out]
  rintro e w1 ⟨rfl, hb1⟩
  have HBw1 : Hid (Below w.heap.size w w1) := (later1 _ _).trans (hb1.mono (by simp))
  clear hb1
  go_wp2
  go_ret
  exact ⟨rfl, HBw1.out⟩

set_option maxHeartbeats 12800000 in
theorem lawFsFault_small (w : World) (a0x0 : Option Addr) (n0x0 c0x0 : Nat) (a1x0 : Option Addr) (n1x0 c1x0 : Nat) (dx0 : FD) (hx0 : FsR w (.slice a0x0 n0x0 c0x0) (.slice a1x0 n1x0 c1x0) dx0) (sx0 : sizeFs dx0 ≤ 1048576) :
    Calls Try.prog 3 #[.agg #[.slice a0x0 n0x0 c0x0, .slice a1x0 n1x0 c1x0]] w fun e w' => e = .returned (.bool true) ∧ Below w.heap.size w w' := by
  have Hx0 : Hid (FsR w (.slice a0x0 n0x0 c0x0) (.slice a1x0 n1x0 c1x0) dx0) := hx0
  have Sx0 : Hid (sizeFs dx0 ≤ 1048576) := sx0
  have HSx0 : Hid (szf 1048576 (sizeFs dx0) = 1048576 - (sizeFs dx0 : Nat)) := szf_yes (by omega)
  have hposx0 : ¬ (1048576 - ((sizeFs dx0 : Nat) : Int) < 0) := by omega
  have hspx0 : ((spanFs dx0 : Nat) : Int) ≤ 4194304 := by have := spanFs_le dx0; omega
  generalize hr : fsF dx0 = r at *
  have HR : Hid (fsF dx0 = r) := hr
  have hrr : (r != r) = false := by simp
  clear hr hx0 sx0
  go_enter Try.func3, Try.ntmps3
  go_wp2_with fail
  refine (szFsU _ _ _ _ _ _ _ dx0 (Hx0.out.later (later1 _ _)) 1048576 (by omega) (by omega)).mono ?_
  rw [HSx0.out]
  rintro e w1 ⟨rfl, hb⟩
  have HL_w1 : Hid (Below w.heap.size w w1) := (later1 _ _).trans (hb.mono (by simp))
  have HB_w1 : Hid (Below w.heap.size w w1) := HL_w1.out
  have z_w1 : w.heap.size ≤ w1.heap.size := HL_w1.out.size
  have Bx0_w1 : Hid (Bx w1 w.heap.size [.slice a0x0 n0x0 c0x0, .slice a1x0 n1x0 c1x0]) := (Bx.new _ [.slice a0x0 n0x0 c0x0, .slice a1x0 n1x0 c1x0] _).later hb
  have y_Bx0 : w.heap.size < w1.heap.size := Bx0_w1.out.lt
  clear HL_w1
  clear hb
  have qBx00 := Bx0_w1.out 0 _ rfl
  have qBx01 := Bx0_w1.out 1 _ rfl
  have tBx0 := Bx0_w1.out.lt
  go_wp2_with fail
  clear qBx00 qBx01 tBx0
  refine (toFsU _ _ _ _ _ _ _ dx0 (Hx0.out.later HB_w1.out) Sx0.out).mono ?_
  rintro e w2 ⟨a0x0s, n0x0s, c0x0s, a1x0s, n1x0s, c1x0s, rfl, hb, ho⟩
  have HL_w2 : Hid (Below w1.heap.size w1 w2) := hb
  have HB_w2 : Hid (Below w.heap.size w w2) := HB_w1.out.trans (HL_w2.out.mono HB_w1.out.size)
  have z_w2 : w1.heap.size ≤ w2.heap.size := HL_w2.out.size
  have Bx0_w2 : Hid (Bx w2 w.heap.size [.slice a0x0 n0x0 c0x0, .slice a1x0 n1x0 c1x0]) := Bx0_w1.out.later HL_w2.out
  have Tx0_w2 : Hid (FsU w2 (.slice a0x0s n0x0s c0x0s) (.slice a1x0s n1x0s c1x0s) dx0 (fun b => w1.heap.size ≤ b ∧ b < w2.heap.size)) := ho
  clear Bx0_w1 HB_w1 HL_w2
  clear hb ho
  have qBx00 := Bx0_w2.out 0 _ rfl
  have qBx01 := Bx0_w2.out 1 _ rfl
  have tBx0 := Bx0_w2.out.lt
  go_wp2_with fail
  clear qBx00 qBx01 tBx0
  refine (specFsU _ _ _ _ _ _ _ dx0 Tx0_w2.out.reads Sx0.out).mono ?_
  rw [HR.out]
  rintro e w3 ⟨rfl, hb⟩
  have HL_w3 : Hid (Below w2.heap.size w2 w3) := hb
  have HB_w3 : Hid (Below w.heap.size w w3) := HB_w2.out.trans (HL_w3.out.mono HB_w2.out.size)
  have z_w3 : w2.heap.size ≤ w3.heap.size := HL_w3.out.size
  have Bx0_w3 : Hid (Bx w3 w.heap.size [.slice a0x0 n0x0 c0x0, .slice a1x0 n1x0 c1x0]) := Bx0_w2.out.later HL_w3.out
  clear Bx0_w2 Tx0_w2 HB_w2 HL_w3
  clear hb
  have qBx00 := Bx0_w3.out 0 _ rfl
  have qBx01 := Bx0_w3.out 1 _ rfl
  have tBx0 := Bx0_w3.out.lt
  go_wp2_with fail
  clear qBx00 qBx01 tBx0
  refine (toFsU _ _ _ _ _ _ _ dx0 (Hx0.out.later HB_w3.out) Sx0.out).mono ?_
  rintro e w4 ⟨a0x0p, n0x0p, c0x0p, a1x0p, n1x0p, c1x0p, rfl, hb, ho⟩
  have HL_w4 : Hid (Below w3.heap.size w3 w4) := hb
  have HB_w4 : Hid (Below w.heap.size w w4) := HB_w3.out.trans (HL_w4.out.mono HB_w3.out.size)
  have z_w4 : w3.heap.size ≤ w4.heap.size := HL_w4.out.size
  have Bx0_w4 : Hid (Bx w4 w.heap.size [.slice a0x0 n0x0 c0x0, .slice a1x0 n1x0 c1x0]) := Bx0_w3.out.later HL_w4.out
  have Px0_w4 : Hid (FsU w4 (.slice a0x0p n0x0p c0x0p) (.slice a1x0p n1x0p c1x0p) dx0 (fun b => w3.heap.size ≤ b ∧ b < w4.heap.size)) := ho
  clear Bx0_w3 HB_w3 HL_w4
  clear hb ho
  have qBx00 := Bx0_w4.out 0 _ rfl
  have qBx01 := Bx0_w4.out 1 _ rfl
  have tBx0 := Bx0_w4.out.lt
  go_wp2_with fail
  clear qBx00 qBx01 tBx0
  refine (implFsU _ _ _ _ _ _ _ dx0 (Px0_w4.out.later (later1 _ _)).reads Sx0.out).mono ?_
  rw [HR.out]
  rintro e w5 ⟨rfl, hb⟩
  have HL_w5 : Hid (Below w4.heap.size w4 w5) := (later1 _ _).trans (hb.mono (by simp))
  have HB_w5 : Hid (Below w.heap.size w w5) := HB_w4.out.trans (HL_w5.out.mono HB_w4.out.size)
  have z_w5 : w4.heap.size ≤ w5.heap.size := HL_w5.out.size
  have Bx0_w5 : Hid (Bx w5 w.heap.size [.slice a0x0 n0x0 c0x0, .slice a1x0 n1x0 c1x0]) := Bx0_w4.out.later HL_w5.out
  have Px0_w5 : Hid (FsU w5 (.slice a0x0p n0x0p c0x0p) (.slice a1x0p n1x0p c1x0p) dx0 (fun b => w3.heap.size ≤ b ∧ b < w4.heap.size)) := Px0_w4.out.later HL_w5.out
  have Xx0_w5 : Hid (Bx w5 w4.heap.size [.slice a0x0p n0x0p c0x0p, .slice a1x0p n1x0p c1x0p]) := (Bx.new _ [.slice a0x0p n0x0p c0x0p, .slice a1x0p n1x0p c1x0p] _).later hb
  have y_Xx0 : w4.heap.size < w5.heap.size := Xx0_w5.out.lt
  clear Bx0_w4 Px0_w4 HB_w4 HL_w5
  clear hb
  have qBx00 := Bx0_w5.out 0 _ rfl
  have qBx01 := Bx0_w5.out 1 _ rfl
  have tBx0 := Bx0_w5.out.lt
  have qXx00 := Xx0_w5.out 0 _ rfl
  have qXx01 := Xx0_w5.out 1 _ rfl
  have tXx0 := Xx0_w5.out.lt
  go_wp2_with fail
  go_region_with (first
    | (go_at_call 10; refine (toFsU _ _ _ _ _ _ _ dx0 ?_ Sx0.out).mono ?_; exact Hx0.out.later HB_w5.out.drew; rintro e w6 ⟨a0x0q, n0x0q, c0x0q, a1x0q, n1x0q, c1x0q, rfl, hb, ho⟩; have y0 := cell_later hb qXx00; have y1 := cell_later hb qXx01; have HL : Hid (Below w5.heap.size w5 w6) := (Below.refl _ _).drew.trans hb; have HO : Hid (FsR w6 (.slice a0x0q n0x0q c0x0q) (.slice a1x0q n1x0q c1x0q) dx0) := ho.reads; clear hb ho)
    | (go_at_call 12; refine (eqFsU _ _ _ _ _ dx0 ?_ ?_).mono ?_; exact Px0_w5.out.reads.later HL.out; exact HO.out; rintro e w7 ⟨rfl, hb⟩; have HL2 : Hid (Below w6.heap.size w6 w7) := hb; clear hb))
  all_goals
    have hb : Below w5.heap.size w5 w7 := HL.out.trans (HL2.out.mono HL.out.size)
    clear qBx00 qBx01 tBx0 qXx00 qXx01 tXx0 HL HL2 HO y0 y1
    have HL_w7 : Hid (Below w5.heap.size w5 w7) := hb
    have HB_w7 : Hid (Below w.heap.size w w7) := HB_w5.out.trans (HL_w7.out.mono HB_w5.out.size)
    have z_w7 : w5.heap.size ≤ w7.heap.size := HL_w7.out.size
    have Bx0_w7 : Hid (Bx w7 w.heap.size [.slice a0x0 n0x0 c0x0, .slice a1x0 n1x0 c1x0]) := Bx0_w5.out.later HL_w7.out
    have Px0_w7 : Hid (FsU w7 (.slice a0x0p n0x0p c0x0p) (.slice a1x0p n1x0p c1x0p) dx0 (fun b => w3.heap.size ≤ b ∧ b < w4.heap.size)) := Px0_w5.out.later HL_w7.out
    have Xx0_w7 : Hid (Bx w7 w4.heap.size [.slice a0x0p n0x0p c0x0p, .slice a1x0p n1x0p c1x0p]) := Xx0_w5.out.later HL_w7.out
    clear Bx0_w5 Px0_w5 Xx0_w5 HB_w5 HL_w7
    clear hb
    have qBx00 := Bx0_w7.out 0 _ rfl
    have qBx01 := Bx0_w7.out 1 _ rfl
    have tBx0 := Bx0_w7.out.lt
    have qXx00 := Xx0_w7.out 0 _ rfl
    have qXx01 := Xx0_w7.out 1 _ rfl
    have tXx0 := Xx0_w7.out.lt
    go_wp2
    go_ret
    exact ⟨rfl, HB_w7.out⟩

theorem lawFsFault_any (w : World) (v0x0 : Value) (v1x0 : Value) (dx0 : FD) (hx0 : FsR w v0x0 v1x0 dx0) :
    Calls Try.prog 3 #[.agg #[v0x0, v1x0]] w fun e w' => e = .returned (.bool true) ∧ Below w.heap.size w w' := by
  obtain ⟨_, _, rfl, _, _⟩ := hx0.1.open'
  obtain ⟨_, _, rfl, _, _⟩ := hx0.2.open'
  by_cases kx0 : sizeFs dx0 ≤ 1048576
  rotate_left
  · exact lawFsFault_big w _ _ _ _ _ _ dx0  hx0 (by omega)
  exact lawFsFault_small w _ _ _ _ _ _ dx0 hx0  kx0
end Go.Proofs.Ytdgnhcfnhbkmlal

namespace Go.Proofs.Ytdgnhcfnhbkmlal
open Go.ChangeShapes Go.WideShapes Go.ChangeAt Go.RowKit Go.Deep
set_option maxRecDepth 100000

section
variable {H : Type} {enc : TypeId × Value → H} {P : Program} {w : World} {base : Nat} {held : Bool}

theorem addr_of {a : Addr} {v : Value} (h : w.cell? (a.add 0) = some v) : a = ⟨a.block, a.off, none⟩ := by
  obtain ⟨b, o, s⟩ := a
  have : s = none := by simpa [Addr.add] using World.cell?_spot h
  subst this; rfl
theorem add_plain (b off k : Nat) : (⟨b, off, none⟩ : Addr).add k = ⟨b, off + k, none⟩ := by
  by_cases h : k = 0
  · subst h; simp [Addr.add]
  · simp [Addr.add, h]

theorem open_Ints {t e : TypeId} {fuel : Nat} {v : Value} {x : DataW H × List MemPlace} (ht : P.underlying t = some (.slice e)) (he : P.underlying e = some (.int .i64)) (ce : P.cellsOf e = 1) (h : DataW.trod enc P w base (fun _ => true) held fuel t [v] = some x) :
    ∃ zs, Ints w v zs := by
  rcases open_ints ht he ce h with ⟨hcs, _⟩ | ⟨a, len, cap, zs, hcs, _, hl, hm, hz, _, hcell, _⟩
  · simp only [List.cons.injEq, and_true] at hcs
    exact ⟨[], Or.inl ⟨rfl, none, 0, hcs⟩⟩
  · simp only [List.cons.injEq, and_true] at hcs
    simp only [if_true] at hz
    by_cases h0 : len = 0
    · subst h0; exact ⟨[], Or.inl ⟨rfl, some a, cap, hcs⟩⟩
    · have ha := addr_of (hcell 0 (by omega))
      refine ⟨zs.take len, Or.inr ⟨a.block, a.off, cap, ?_, ?_, fun k hk => ?_⟩⟩
      · rw [hcs, List.length_take, Nat.min_eq_left (by omega), ← ha]
      · rw [List.length_take]; omega
      · rw [List.length_take] at hk
        have h1 := hcell k (by omega)
        rw [ha, add_plain] at h1
        rw [h1, List.getElem?_take, if_pos (by omega)]
        rfl

theorem open_IntsS {t e q : TypeId} {fuel : Nat} {v : Value} {x : DataW H × List MemPlace} (ht : P.underlying t = some (.slice e)) (he : P.underlying e = some (.slice q)) (hq : P.underlying q = some (.int .i64)) (ce : P.cellsOf e = 1) (cq : P.cellsOf q = 1)
    (h : DataW.trod enc P w base (fun _ => true) held fuel t [v] = some x) : ∃ zss, IntsS w v zss := by
  rcases open_slice1 ht ce h with ⟨hcs, _⟩ | ⟨a, len, cap, m, n, V, D, Pl, hcs, _, hl, hm, hmm, _, hx⟩
  · simp only [List.cons.injEq, and_true] at hcs
    exact ⟨[], Or.inl ⟨rfl, none, 0, hcs⟩⟩
  · simp only [List.cons.injEq, and_true] at hcs
    simp only [if_true] at hmm
    by_cases h0 : len = 0
    · subst h0; exact ⟨[], Or.inl ⟨rfl, some a, cap, hcs⟩⟩
    · have ha := addr_of (hx 0 (by omega)).1
      obtain ⟨Z, hZ⟩ := choose_lt (α := List Int) (n := m) (p := fun i zs => Ints w (V i) zs) fun i hi => open_Ints he hq cq (hx i hi).2
      refine ⟨(List.range len).map Z, Or.inr ⟨a.block, a.off, cap, V, ?_, ?_, fun k hk => ?_⟩⟩
      · simp only [List.length_map, List.length_range]; rw [hcs, ← ha]
      · simp only [List.length_map, List.length_range]; omega
      · simp only [List.length_map, List.length_range] at hk
        have h1 := (hx k (by omega)).1
        rw [ha, add_plain] at h1
        refine ⟨h1, ?_⟩
        have := hZ k (by omega)
        simpa [hk] using this

theorem open_Puts {t e q : TypeId} {f0 f1 : Field} {fuel : Nat} {v : Value} {x : DataW H × List MemPlace} (ht : P.underlying t = some (.slice e)) (he : P.underlying e = some (.struct #[f0, f1]))
    (ce : P.cellsOf e = 2) (o0 : f0.offset = 0) (o1 : f1.offset = 1) (c0 : P.cellsOf f0.type = 1) (c1 : P.cellsOf f1.type = 1) (h0 : P.underlying f0.type = some (.int .i64)) (h1 : P.underlying f1.type = some (.slice q)) (hq : P.underlying q = some (.int .i64)) (cq : P.cellsOf q = 1)
    (h : DataW.trod enc P w base (fun _ => true) held fuel t [v] = some x) : ∃ ps, Puts w v ps := by
  rcases open_slice_pairs ht he ce o0 o1 c0 c1 h with ⟨hcs, _⟩ | ⟨a, len, cap, m, n, V0, V1, D0, D1, P0, P1, hcs, _, hl, hm, hmm, _, hx⟩
  · simp only [List.cons.injEq, and_true] at hcs
    exact ⟨[], Or.inl ⟨rfl, none, 0, hcs⟩⟩
  · simp only [List.cons.injEq, and_true] at hcs
    simp only [if_true] at hmm
    by_cases hl0 : len = 0
    · subst hl0; exact ⟨[], Or.inl ⟨rfl, some a, cap, hcs⟩⟩
    · have ha := addr_of (by simpa using (hx 0 (by omega)).1)
      obtain ⟨Z, hZ⟩ := choose_lt (α := Int × List Int) (n := m) (p := fun i z => V0 i = .int .i64 z.1 ∧ Ints w (V1 i) z.2) fun i hi => by
        obtain ⟨_, _, g0, g1⟩ := hx i hi
        obtain ⟨zs, hzs⟩ := open_Ints h1 hq cq g1
        obtain ⟨y, hy, _⟩ := DataW.trod_int h0 g0
        simp only [List.cons.injEq, and_true] at hy
        exact ⟨(y, zs), hy, hzs⟩
      refine ⟨(List.range len).map Z, Or.inr ⟨a.block, a.off, cap, V1, ?_, ?_, fun k hk => ?_⟩⟩
      · simp only [List.length_map, List.length_range]; rw [hcs, ← ha]
      · simp only [List.length_map, List.length_range]; omega
      · simp only [List.length_map, List.length_range] at hk
        obtain ⟨e0, e1, _, _⟩ := hx k (by omega)
        rw [ha, add_plain] at e0 e1
        obtain ⟨g0, g1⟩ := hZ k (by omega)
        rw [g0] at e0
        have hg : ((List.range len).map Z)[k]?.getD (0, []) = Z k := by simp [hk]
        rw [hg]
        exact ⟨e0, e1, g1⟩
end

end Go.Proofs.Ytdgnhcfnhbkmlal

namespace Go.Proofs.Ytdgnhcfnhbkmlal
open Go.ChangeShapes Go.WideShapes Go.ChangeAt Go.RowKit Go.Joins
set_option maxRecDepth 100000

theorem Try.own : ownKnob Try.prog.godebug = none := by kernel_rfl
theorem Try.laidOut : laidOutB Try.prog = true := by kernel_rfl
theorem Try.cellsInt : Try.prog.cellsOf 2 = 1 := by kernel_rfl
theorem Try.cellsInts : Try.prog.cellsOf 51 = 1 := by kernel_rfl

end Go.Proofs.Ytdgnhcfnhbkmlal

namespace Go.Proofs.Ytdgnhcfnhbkmlal
open Go.ChangeShapes Go.WideShapes Go.ChangeAt Go.RowKit Go.Joins Go.Deep
set_option maxRecDepth 100000

theorem open_Ents {H : Type} {enc : TypeId × Value → H} {P : Program} {w : World} {base : Nat} {held : Bool} {t e : TypeId} {f0 f1 : Field} {fuel : Nat} {v : Value} {x : DataW H × List MemPlace} (ht : P.underlying t = some (.slice e)) (he : P.underlying e = some (.struct #[f0, f1]))
    (ce : P.cellsOf e = 2) (o0 : f0.offset = 0) (o1 : f1.offset = 1) (c0 : P.cellsOf f0.type = 1) (c1 : P.cellsOf f1.type = 1) (h0 : P.underlying f0.type = some .string) (h1 : P.underlying f1.type = some (.int .i64))
    (h : DataW.trod enc P w base (fun _ => true) held fuel t [v] = some x) : ∃ es, Ents w v es := by
  rcases open_slice ht h with ⟨hcs, _⟩ | ⟨a, len, cap, m, n, D, Pl, hcs, hb, hl, hm, hmm, _, hx⟩
  · simp only [List.cons.injEq, and_true] at hcs
    exact ⟨[], by rw [hcs]; exact Ents.nil w none 0⟩
  · simp only [List.cons.injEq, and_true] at hcs
    simp only [if_true] at hmm
    by_cases hl0 : len = 0
    · subst hl0; exact ⟨[], by rw [hcs]; exact Ents.nil w (some a) cap⟩
    · have each : ∀ i, i < m → ∃ q : EN, w.cell? (a.add (i * 2)) = some (.string q.1) ∧ w.cell? (a.add (i * 2 + 1)) = some (.int .i64 q.2) ∧ q.1.size ≤ maxLen := by
        intro i hi
        obtain ⟨cs', k1, k2⟩ := hx i hi
        rw [ce] at k1
        obtain ⟨_, hlen, hcell⟩ := World.cells?_some k1
        obtain ⟨xs, k, hk, hxy, _, hxl, hf⟩ := DataW.trod_struct he k2
        match xs, hxl, cs', hlen with
        | [y0, y1], _, [v0, v1], _ =>
          have g0 := hf 0 f0 rfl
          have g1 := hf 1 f1 rfl
          simp [o0, o1, c0, c1] at g0 g1
          have e0 := hcell 0 (by omega)
          have e1 := hcell 1 (by omega)
          rw [add_add] at e0 e1
          obtain ⟨z0, hz0, _, hs⟩ := DataW.trod_string h0 g0
          obtain ⟨z1, hz1, _⟩ := DataW.trod_int h1 g1
          simp only [List.cons.injEq, and_true] at hz0 hz1
          subst hz0 hz1
          exact ⟨(z0, z1), by simpa using e0, by simpa using e1, hs⟩
      obtain ⟨q, hq⟩ := choose_lt each
      have ha := addr_of (by simpa using (hq 0 (by omega)).1)
      refine ⟨(List.range len).map q, some a, cap, ?_, ?_, fun k hk => ?_⟩
      · simp only [List.length_map, List.length_range]; exact hcs
      · simp only [List.length_map, List.length_range]
        refine ⟨by omega, by omega, fun k => ?_⟩
        by_cases hk : k < len
        · have hg : ((List.range len).map q)[k]?.getD en0 = q k := by simp [hk]
          rw [hg]
          exact (hq k (by omega)).2.2
        · rw [List.getElem?_eq_none (by simpa using Nat.le_of_not_lt hk)]
          simp [en0, ByteArray.size]
      · simp only [List.length_map, List.length_range] at hk
        obtain ⟨e0, e1, _⟩ := hq k (by omega)
        rw [ha, add_plain] at e0 e1
        have hg : ((List.range len).map q)[k]?.getD en0 = q k := by simp [hk]
        rw [hg]
        exact ⟨a.block, a.off, by rw [← ha], e0, e1⟩

theorem open_cap {H : Type} {enc : TypeId × Value → H} {P : Program} {w : World} {base : Nat} {held : Bool} {t e : TypeId} {fuel : Nat} {v : Value} {x : DataW H × List MemPlace} (ht : P.underlying t = some (.slice e)) (h : DataW.trod enc P w base (fun _ => true) held fuel t [v] = some x) : capOK v := by
  rcases DataW.trod_slice ht h with ⟨hcs, _⟩ | ⟨a, len, cap, _, _, _, _, hcs, _, _, hl, _⟩
  · simp only [List.cons.injEq, and_true] at hcs
    exact ⟨none, 0, 0, hcs, Nat.le_refl _⟩
  · simp only [List.cons.injEq, and_true] at hcs
    exact ⟨some a, len, cap, hcs, hl⟩
theorem Try.cellsStr : Try.prog.cellsOf 9 = 1 := by kernel_rfl
theorem Try.cellsEnt : Try.prog.cellsOf 134 = 2 := by kernel_rfl
theorem Try.cellsEnts : Try.prog.cellsOf 90 = 1 := by kernel_rfl
theorem Try.cellsIno : Try.prog.cellsOf 92 = 5 := by kernel_rfl
theorem array5 {α : Type} {a : Array α} (h : a.size = 5) : ∃ x0 x1 x2 x3 x4, a = #[x0, x1, x2, x3, x4] := by
  obtain ⟨l⟩ := a
  match l, h with
  | [x0, x1, x2, x3, x4], _ => exact ⟨x0, x1, x2, x3, x4, rfl⟩
theorem open_InoU {H : Type} {enc : TypeId × Value → H} {W : World} {r : Reach} {b0 : Nat} {v : Value} {d : DataW H} {p : List MemPlace} (hv : Value.okWide Try.prog W r b0 92 v) (h : DataW.Trod enc Try.prog W 0 (fun _ => true) true 92 v d p) :
    ∃ v0 v1 v2 vB vE id, v = .agg #[v0, v1, v2, vB, vE] ∧ InoR W v0 v1 v2 vB vE id := by
  obtain ⟨cs, rfl, hsz⟩ := okWide_struct Try.underlying92 hv
  obtain ⟨c0, c1, c2, c3, c4, rfl⟩ := array5 (hsz.trans Try.cellsIno)
  obtain ⟨fuel, hf⟩ := h
  obtain ⟨xs, k, hk, hxy, _, hxl, hg⟩ := DataW.trod_struct Try.underlying92 hf
  match xs, hxl with
  | [y0, y1, y2, y3, y4], _ =>
    have g0 : DataW.trod enc Try.prog W 0 (fun _ => true) true k 2 [c0] = some y0 := by simpa [Value.cells, Try.cellsInt] using hg 0 _ rfl
    have g1 : DataW.trod enc Try.prog W 0 (fun _ => true) true k 2 [c1] = some y1 := by simpa [Value.cells, Try.cellsInt] using hg 1 _ rfl
    have g2 : DataW.trod enc Try.prog W 0 (fun _ => true) true k 2 [c2] = some y2 := by simpa [Value.cells, Try.cellsInt] using hg 2 _ rfl
    have g3 : DataW.trod enc Try.prog W 0 (fun _ => true) true k 51 [c3] = some y3 := by simpa [Value.cells, Try.cellsInts] using hg 3 _ rfl
    have g4 : DataW.trod enc Try.prog W 0 (fun _ => true) true k 90 [c4] = some y4 := by simpa [Value.cells, Try.cellsEnts] using hg 4 _ rfl
    obtain ⟨z0, hz0, _⟩ := DataW.trod_int Try.underlying2 g0
    obtain ⟨z1, hz1, _⟩ := DataW.trod_int Try.underlying2 g1
    obtain ⟨z2, hz2, _⟩ := DataW.trod_int Try.underlying2 g2
    simp only [List.cons.injEq, and_true] at hz0 hz1 hz2
    obtain ⟨bs, hbs⟩ := open_Ints Try.underlying51 Try.underlying2 Try.cellsInt g3
    obtain ⟨es, hes⟩ := open_Ents Try.underlying90 Try.underlying134 Try.cellsEnt rfl rfl Try.cellsStr Try.cellsInt Try.underlying9 Try.underlying2 g4
    exact ⟨c0, c1, c2, c3, c4, (z0, z1, z2, bs, es), rfl, ⟨hz0, hz1, hz2, open_cap Try.underlying51 g3⟩, hbs, hes⟩
end Go.Proofs.Ytdgnhcfnhbkmlal
