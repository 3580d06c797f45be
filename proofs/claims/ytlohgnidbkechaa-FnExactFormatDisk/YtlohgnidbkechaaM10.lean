/- The program: how many bytes each block has to hold; what is wrong of a file system. Bytes and lists of bytes are marked, and the marks are held. A file system is copied. File systems are marked; answers that hold bytes. The bytes of a file: the specification. The puts of a file system's inodes: the specification. The puts of a file system's inodes: the specification's answer; the program's parts. Answers that are puts: held against one another, marked, held. -/
import Derived.Test.YtlohgnidbkechaaM06
import Derived.Test.YtlohgnidbkechaaM09
import Derived.Test.YtlohgnidbkechaaM05
import Derived.Test.YtlohgnidbkechaaM04
import Derived.Test.YtlohgnidbkechaaM01
import Derived.Test.YtlohgnidbkechaaM08
import Derived.Test.YtlohgnidbkechaaM02
import Derived.Deep.RegionHeld3
import Derived.Test.YtlohgnidbkechaaM03
import Derived.Test.YtlohgnidbkechaaM00
namespace Go.Proofs.Ytlohgnidbkechaa
open Go.RowKit
set_option maxRecDepth 100000

/-- An array that holds a number for each block. -/
def arrI (f : Nat → Int) : Array Value := ((List.range 20).map fun i => intV (f i)).toArray
theorem arrI_size (f : Nat → Int) : (arrI f).size = 20 := by simp [arrI]
theorem arrI_get (f : Nat → Int) {i : Nat} (h : i < 20) : (arrI f)[i]? = some (.int .i64 (f i)) := by
  simp [arrI, h, intV]
theorem arrI_set (f : Nat → Int) (q : Nat) (x : Int) : (arrI f).setIfInBounds q (.int .i64 x) = arrI (fun i => if i = q then x else f i) := by
  apply Array.ext_getElem?
  intro i
  rw [Array.getElem?_setIfInBounds]
  by_cases hi : i < 20
  · rw [arrI_get _ hi, arrI_get _ hi, arrI_size]
    by_cases e : q = i
    · subst e; simp [hi]
    · rw [if_neg e, if_neg (fun h => e h.symm)]
  · have h1 : (arrI f)[i]? = none := by rw [Array.getElem?_eq_none_iff, arrI_size]; omega
    have h2 : (arrI (fun i => if i = q then x else f i))[i]? = none := by rw [Array.getElem?_eq_none_iff, arrI_size]; omega
    rw [h1, h2, arrI_size]
    by_cases e : q = i
    · subst e; simp [hi]
    · rw [if_neg e]
/-- Block b holds the numbers f. -/
def ArI (w : World) (b : Nat) (f : Nat → Int) : Prop := w.heap[b]? = some (.cells (arrI f) 96)
theorem ArI.cell {w : World} {b : Nat} {f : Nat → Int} (h : ArI w b f) {i : Nat} (hi : i < 20) : w.cell? ⟨b, i, none⟩ = some (.int .i64 (f i)) := by
  simp [World.cell?, show w.heap[b]? = some (.cells (arrI f) 96) from h, arrI_get f hi]
theorem ArI.frozen {w : World} {b : Nat} {f : Nat → Int} (h : ArI w b f) (i : Nat) : w.frozen? ⟨b, i, none⟩ = false := by
  simp [World.frozen?, show w.heap[b]? = some (.cells (arrI f) 96) from h]
theorem ArI.lt {w : World} {b : Nat} {f : Nat → Int} (h : ArI w b f) : b < w.heap.size := (Array.getElem?_eq_some_iff.1 h).1
theorem ArI.later {w w' : World} {b : Nat} {f : Nat → Int} (h : ArI w b f) (hb : Below w.heap.size w w') : ArI w' b f := (hb.block b h.lt).trans h
theorem ArI.set {w : World} {b : Nat} {f : Nat → Int} (h : ArI w b f) (q : Nat) (x : Int) : ArI (w.setCell ⟨b, q, none⟩ (.int .i64 x)) b (fun i => if i = q then x else f i) := by
  have h' : w.heap[b]? = some (.cells (arrI f) 96) := h
  unfold ArI
  rw [← arrI_set f q x]
  simp [World.setCell, Array.getElem?_modify, h']
theorem ArI.store {w : World} {b : Nat} {f : Nat → Int} (h : ArI w b f) {p : Addr} (hp : b ≠ p.block) (v : Value) : ArI (w.setCell p v) b f := (Below.heap_setCell _ _ _ _ hp).trans h
theorem ArI.new (w : World) (f : Nat → Int) : ArI (w.alloc (.cells (arrI f) 96)) w.heap.size f := Go.Deep.blk_alloc_new _ _

theorem arrI_one (f : Nat → Int) : (arrI f).all (·.oneCell') = true := by
  unfold arrI
  rw [Array.all_eq_true_iff_forall_mem]
  intro v hv
  simp only [List.mem_toArray, List.mem_map] at hv
  obtain ⟨i, _, rfl⟩ := hv
  rfl
theorem Try.infoA20 : (Try.prog.info? 96).map (·.size) = some 20 := by kernel_rfl
theorem ArI.load {w : World} {b : Nat} {f : Nat → Int} (h : ArI w b f) : (Instr.loadAt 96 (.pointer (some ⟨b, 0, none⟩))).run Try.prog w = .ok (.agg (arrI f)) w := by
  simp only [Instr.loadAt, Instr.sureAddr, Sem.run_bind, Sem.run_pure, Result.andThen]
  exact run_loadVar_row w b _ _ (arrI f) (0, 0) _ h Try.underlying96 rfl (by rw [arrI_size]; exact Try.infoA20)
theorem ArI.loadV {w : World} {b : Nat} {f : Nat → Int} (h : ArI w b f) : (loadVar 96 ⟨b, 0, none⟩).run Try.prog w = .ok (.agg (arrI f)) w :=
  run_loadVar_row w b _ _ (arrI f) (0, 0) _ h Try.underlying96 rfl (by rw [arrI_size]; exact Try.infoA20)
theorem ArI.put {w : World} {b : Nat} {f : Nat → Int} (h : ArI w b f) (g : Nat → Int) : ∃ X, (Instr.storeAt 96 (.pointer (some ⟨b, 0, none⟩)) (.agg (arrI g))).run Try.prog w = .ok () X ∧ ArI X b g ∧ X.heap.size = w.heap.size ∧ (∀ c, c ≠ b → X.heap[c]? = w.heap[c]?) ∧ X.os = w.os ∧ X.tape = w.tape ∧ X.output = w.output := by
  refine ⟨w.setRow b (arrI g), ?_, ?_, ?_, fun c hc => ?_, rfl, rfl, rfl⟩
  · simp only [Instr.storeAt, Instr.sureAddr, Sem.run_bind, Sem.run_pure, Result.andThen]
    rw [run_storeVar_row w b _ _ (arrI f) (arrI g) h (by rw [arrI_size]; exact Try.infoA20) (by rw [arrI_size, arrI_size]) (arrI_one g)]
  · have h' : w.heap[b]? = some (.cells (arrI f) 96) := h
    unfold ArI
    simp [World.setRow, Array.getElem?_modify, h']
  · simp [World.setRow]
  · simp only [World.setRow]
    rw [Array.getElem?_modify, if_neg (fun e => hc e.symm)]

theorem m8_left {s : Int} {nB k : Nat} (hn : ((nB : Nat) : Int) = (s + 7) / 8) (hk : k + 1 < nB) : s - 8 * (k : Int) - m8 (s - 8 * (k : Int)) = s - 8 * ((k + 1 : Nat) : Int) := by
  unfold m8
  rw [if_pos (by omega)]
  omega
set_option maxHeartbeats 3200000 in
theorem bytesDue_walk (w : World) (a : Option Addr) (n c : Nat) (ds : List ID) (hdn : ds.length = n) (hn : n ≤ 10) (hi : insF ds = 0) (hc : AtI w a n ds) :
    Calls Try.prog 54 #[.slice a n c] w fun e w' => e = .returned (.agg (arrI (dueI ds n))) ∧ Below w.heap.size w w' := by
  have HC : Hid (AtI w a n ds) := hc
  have HINO : Hid (∀ j, j < n → inoF (ds[j]?.getD id0) = 0) := by rw [← hdn]; exact ins_ino hi
  have HBK : Hid (∀ j k : Nat, j < n → k < (ds[j]?.getD id0).2.2.2.1.length → 0 ≤ (ds[j]?.getD id0).2.2.2.1[k]?.getD 0 ∧ (ds[j]?.getD id0).2.2.2.1[k]?.getD 0 < 20) := by rw [← hdn]; exact ins_blk hi
  have HDS : Hid (∀ j, dueI ds (j + 1) = dueK (ds[j]?.getD id0).2.2.1 (ds[j]?.getD id0).2.2.2.1 (dueI ds j) (ds[j]?.getD id0).2.2.2.1.length) := fun j => rfl
  have HD0 : Hid ((fun _ : Nat => (0 : Int)) = dueI ds 0) := rfl
  clear hc hdn hi
  have z0 := ArI.new w (fun _ => 0)
  have z1 := ArI.new (w.alloc (.cells (arrI fun _ => 0) 96)) (fun _ => 0)
  replace z0 := z0.later (later1 _ (.cells (arrI fun _ => 0) 96))
  rw [World.size_alloc] at z1
  have HB0 : Hid (Below w.heap.size w ((w.alloc (.cells (arrI fun _ => 0) 96)).alloc (.cells (arrI fun _ => 0) 96))) := later2 _ _ _
  have HZ0 : Hid (ArI _ _ _) := z0
  have HZ1 : Hid (ArI _ _ _) := z1
  clear z0 z1
  generalize dueI ds = DU at *
  go_enter Try.func54, Try.ntmps54
  go_wp2
  go_loopw [11] (fun i wr => ∃ j : Nat, j ≤ n ∧ i = .int .i64 j ∧ Below w.heap.size w wr ∧ ArI wr (w.heap.size + 1) (DU j) ∧ ArI wr w.heap.size (fun _ => 0)) (fun i _ => n - (intOf i).toNat)
  case atStart => exact ⟨0, Nat.zero_le _, rfl, HB0.out, HD0.out ▸ HZ1.out, HZ0.out⟩
  case round =>
    clear HB0 HZ0 HZ1
    obtain ⟨j, hj, rfl, hbl, hx, hy⟩ := hrel
    have HBL : Hid (Below w.heap.size w wr) := hbl
    have HA : Hid (ArI wr (w.heap.size + 1) (DU j)) := hx
    have HY : Hid (ArI wr w.heap.size (fun _ => 0)) := hy
    have hw0 := hx.lt
    clear hbl hx hy
    by_cases hlt : j < n
    · obtain ⟨b, o, rfl, hI⟩ := HC.out j hlt
      obtain ⟨aB, cB, aE, cE, c0, c1, c2, c3, c4, hR⟩ := hI
      replace c0 := cell_later HBL.out c0
      replace c1 := cell_later HBL.out c1
      replace c2 := cell_later HBL.out c2
      replace c3 := cell_later HBL.out c3
      replace c4 := cell_later HBL.out c4
      obtain ⟨_, _, e3, hm3, hI1⟩ := hR.2.1.open'
      simp only [Value.slice.injEq] at e3
      obtain ⟨rfl, _, rfl⟩ := e3
      have hsz := ino_size (HINO.out j hlt)
      have hbk := HBK.out j
      have HBKJ : Hid (∀ k, k < (ds[j]?.getD id0).2.2.2.1.length → 0 ≤ (ds[j]?.getD id0).2.2.2.1[k]?.getD 0 ∧ (ds[j]?.getD id0).2.2.2.1[k]?.getD 0 < 20) := fun k hk => hbk k hlt hk
      have HDJ : Hid (DU (j + 1) = dueK (ds[j]?.getD id0).2.2.1 (ds[j]?.getD id0).2.2.2.1 (DU j) (ds[j]?.getD id0).2.2.2.1.length) := HDS.out j
      clear hR hm3 hbk
      generalize (ds[j]?.getD id0) = dj at *
      obtain ⟨dk, dl, s, bs, es⟩ := dj
      dsimp only at *
      have HIB : Hid (At1 w aB bs.length (fun k => .int .i64 (bs[k]?.getD 0))) := hI1
      have hb4 : bs.length ≤ 4 := by omega
      obtain ⟨nB, hnB⟩ : ∃ nB, bs.length = nB := ⟨_, rfl⟩
      rw [hnB] at c3 HIB HBKJ HDJ hb4 hsz
      clear hI1 hnB
      have HK0 : Hid (dueK s bs (DU j) 0 = DU j) := rfl
      have HKS : Hid (∀ k, dueK s bs (DU j) (k + 1) = putD (dueK s bs (DU j) k) (bs[k]?.getD 0) (m8 (s - 8 * (k : Int)))) := fun k => rfl
      have HML : Hid (∀ k, k + 1 < nB → s - 8 * (k : Int) - m8 (s - 8 * (k : Int)) = s - 8 * ((k + 1 : Nat) : Int)) := fun k hk => m8_left hsz.2.2 hk
      have hs0 := hsz.1
      have hs1 := hsz.2.1
      clear hsz
      generalize dueK s bs (DU j) = DK at *
      generalize es.length = nE at *
      go_wp2
      clear c0 c1 c2 c3 c4
      go_loopw [6, 20] (fun l i wr2 => ∃ (k : Nat) (lf : Int), k ≤ nB ∧ i = .int .i64 k ∧ l = .int .i64 lf ∧ (k < nB → lf = s - 8 * (k : Int)) ∧ Below w.heap.size w wr2 ∧ ArI wr2 (w.heap.size + 1) (DK k) ∧ ArI wr2 w.heap.size (fun _ => 0)) (fun _ i _ => nB - (intOf i).toNat)
      case atStart => exact ⟨0, s, Nat.zero_le _, rfl, rfl, fun _ => by simp, HBL.out.trans ((later1 _ _).mono HBL.out.size), by rw [HK0.out]; exact HA.out.later (later1 _ _), HY.out.later (later1 _ _)⟩
      case round =>
        obtain ⟨k, lf, hk, rfl, rfl, hlf, hbl2, hx2, hy2⟩ := hrel
        have HB2 : Hid (Below w.heap.size w wr) := hbl2
        have HA2 : Hid (ArI wr (w.heap.size + 1) (DK k)) := hx2
        have HY2 : Hid (ArI wr w.heap.size (fun _ => 0)) := hy2
        have HLF : Hid (k < nB → lf = s - 8 * (k : Int)) := hlf
        clear hbl2 hx2 hy2 hlf HA HY HBL
        by_cases hlk : k < nB
        · obtain ⟨b1, o1, rfl, p1⟩ := HIB.out k hlk
          replace p1 : w.cell? ⟨b1, o1 + k, none⟩ = some (.int .i64 (bs[k]?.getD 0)) := p1
          replace p1 := cell_later HB2.out p1
          have hbr := HBKJ.out k hlk
          have HST : Hid (DK (k + 1) = putD (DK k) (bs[k]?.getD 0) (m8 lf)) := by rw [HLF.out hlk]; exact HKS.out k
          have HMK : Hid (k + 1 < nB → lf - m8 lf = s - 8 * ((k + 1 : Nat) : Int)) := fun h => by rw [HLF.out hlk]; exact HML.out k h
          have hl0 : -32 ≤ lf ∧ lf ≤ 32 := by have := HLF.out hlk; omega
          generalize bs[k]?.getD 0 = x at *
          obtain ⟨y, rfl⟩ : ∃ y : Nat, x = (y : Int) := ⟨x.toNat, by omega⟩
          have hy : y < 20 := by omega
          have r0 := HA2.out.cell hy
          have r1 := HA2.out.frozen y
          have hw2 := HA2.out.lt
          clear hbr
          have HM : Hid (m8 lf = min lf 8) := by unfold Hid m8; split <;> omega
          rw [HM.out] at HST HMK
          have HA3 : Hid (ArI (wr.setCell ⟨w.heap.size + 1, y, none⟩ (.int .i64 (min lf 8))) (w.heap.size + 1) (DK (k + 1))) := by
            have := HA2.out.set y (min lf 8)
            rw [HST.out]
            exact this
          have HY3 : Hid (ArI (wr.setCell ⟨w.heap.size + 1, y, none⟩ (.int .i64 (min lf 8))) w.heap.size (fun _ => 0)) := HY2.out.store (by simp) _
          have HB3 : Hid (Below w.heap.size w (wr.setCell ⟨w.heap.size + 1, y, none⟩ (.int .i64 (min lf 8)))) := HB2.out.setCell (by simp) _
          generalize DK k y = rv at *
          go_wp2
          go_roundw
          case rel => exact ⟨k + 1, lf - min lf 8, by omega, by go_num, by go_num, HMK.out, HB3.out, HA3.out, HY3.out⟩
          case measure => simp [intOf]; omega
        · have HE : Hid (DK k = DU (j + 1)) := by unfold Hid; rw [HDJ.out, show k = nB by omega]
          go_wp2
          go_roundw
          case rel => exact ⟨j + 1, by omega, by go_num, HB2.out, by rw [← HE.out]; exact HA2.out, HY2.out⟩
          case measure => simp [intOf]; omega
    · have HGN : Hid (DU j = DU n) := by unfold Hid; rw [show j = n by omega]
      have HL : Hid (_ = _) := HA.out.load
      obtain ⟨X, hst, hax, hsx, hoth, hx1, hx2, hx3⟩ := HY.out.put (DU j)
      have HST : Hid (_ = _) := hst
      have HAX : Hid (ArI X w.heap.size (DU n)) := HGN.out ▸ hax
      have HBX : Hid (Below w.heap.size w X) := HBL.out.trans ⟨hx1, hx2, hx3, by omega, fun c hc => hoth c (by omega)⟩
      clear hst hax hsx hoth hx1 hx2 hx3
      generalize DU j = g1 at HL HST
      go_wp2_with (first | refine wpList_load_run rfl _ 96 rfl _ rfl _ _ HL.out ?_ | refine wpList_store_run rfl _ _ 96 rfl _ _ rfl rfl _ HST.out ?_)
      refine bodyPost_ret (v := .agg (arrI (DU n))) ?_ rfl ⟨rfl, HBX.out⟩
      have hlv := HAX.out.loadV
      simp [results, Try.results54, asAddr, Act.put, hlv]
theorem bytesDue_any {w : World} {v : Value} {ds : List ID} (h : Inos w v ds) (hi : insF ds = 0) :
    Calls Try.prog 54 #[v] w fun e w' => e = .returned (.agg (arrI (dueI ds ds.length))) ∧ Below w.heap.size w w' := by
  obtain ⟨a, cap, rfl, hm, hc⟩ := h.open'
  exact bytesDue_walk w a _ cap ds rfl (insF_ten hi) hi hc

def bytF (d : FD) : Int := if sizesB d then 0 else 1
set_option maxHeartbeats 3200000 in
theorem bytesFault_any (w : World) (aI : Option Addr) (nI cI : Nat) (aD : Option Addr) (nD cD : Nat) (d : FD) (h : FsR w (.slice aI nI cI) (.slice aD nD cD) d) (hi : insF d.1 = 0) (h20 : d.2.length = 20) :
    Calls Try.prog 39 #[.agg #[.slice aI nI cI, .slice aD nD cD]] w fun e w' => e = .returned (.int .i64 (bytF d)) ∧ Below w.heap.size w w' := by
  have HBD : Hid (∀ W, Below w.heap.size w W → Calls Try.prog 54 #[.slice aI nI cI] W fun e w' => e = .returned (.agg (arrI (dueI d.1 d.1.length))) ∧ Below W.heap.size W w') := fun W hW => bytesDue_any (h.1.later hW) hi
  have HX : Hid (Bx (w.alloc (.cells #[.slice aI nI cI, .slice aD nD cD] 48)) w.heap.size [.slice aI nI cI, .slice aD nD cD]) := Bx.new w [.slice aI nI cI, .slice aD nD cD] _
  obtain ⟨_, _, e2, hm2, hc⟩ := h.2.open'
  simp only [Value.slice.injEq] at e2
  obtain ⟨rfl, rfl, rfl⟩ := e2
  rw [h20] at HX hc ⊢
  have HC : Hid (AtYs w aD 20 d.2) := hc
  have HSO : Hid (∀ i, sizOK d i = decide ((((d.2[i]?.getD []).length : Nat) : Int) = dueI d.1 d.1.length i)) := fun i => rfl
  clear hc h hm2 hi h20
  generalize dueI d.1 d.1.length = DU at *
  go_enter Try.func39, Try.ntmps39
  go_wp2_with fail
  refine (HBD.out _ (later1 _ _)).mono ?_
  rintro e w1 ⟨rfl, hb1⟩
  have HB1 : Hid (Below w.heap.size w w1) := (later1 _ _).trans (hb1.mono (by simp))
  have HX1 : Hid (Bx w1 w.heap.size [.slice aI nI cI, .slice aD 20 cD]) := HX.out.later hb1
  clear hb1 HX HBD
  have hz1 : w.heap.size < w1.heap.size := HX1.out.lt
  obtain ⟨X, hst, hax, hsx, hoth, hx1, hx2, hx3⟩ := (ArI.new w1 (fun _ => 0)).put DU
  have HST : Hid (_ = _) := hst
  have HAX : Hid (ArI X w1.heap.size DU) := hax
  have HBX : Hid (Below w1.heap.size w1 X) := (later1 w1 (.cells (arrI fun _ => 0) 96)).trans ⟨hx1, hx2, hx3, by omega, fun c hc => hoth c (by omega)⟩
  have HXX : Hid (Bx X w.heap.size [.slice aI nI cI, .slice aD 20 cD]) := HX1.out.later HBX.out
  have HBW : Hid (Below w.heap.size w X) := HB1.out.trans (HBX.out.mono HB1.out.size)
  clear hst hax hsx hoth hx1 hx2 hx3
  have x1 := HXX.out 1 _ rfl
  go_wp2_with (first | refine wpList_store_run rfl _ _ 96 rfl _ _ rfl rfl _ HST.out ?_ | fail)
  clear HST
  go_loopw [12] (fun i wr => ∃ k : Nat, k ≤ 20 ∧ i = .int .i64 k ∧ wr = X ∧ ∀ q, q < k → sizOK d q = true) (fun i _ => 20 - (intOf i).toNat)
  case atStart => exact ⟨0, by omega, rfl, rfl, fun q hq => by omega⟩
  case round =>
    obtain ⟨k, hk, rfl, rfl, hz⟩ := hrel
    have HZ : Hid (∀ q, q < k → sizOK d q = true) := hz
    clear hz x1
    by_cases hlk : k < 20
    · obtain ⟨bD, oD, ua, uc, rfl, d0, _⟩ := HC.out k hlk
      replace d0 := cell_later HBW.out d0
      have r0 := HAX.out.cell hlk
      have HSK : Hid (sizOK d k = decide ((((d.2[k]?.getD []).length : Nat) : Int) = DU k)) := HSO.out k
      have HY : Hid (sizOK d k = true → ∀ q, q < k + 1 → sizOK d q = true) := fun hh q hq => by
        by_cases e : q = k
        · subst e; exact hh
        · exact HZ.out q (by omega)
      have HNO : Hid (sizOK d k = false → bytF d = 1) := fun hh => by unfold bytF; rw [sizesB_no hlk hh]; rfl
      generalize (d.2[k]?.getD []).length = ln at *
      generalize DU k = du at *
      by_cases he : ((ln : Nat) : Int) = du
      · have hb : (((ln : Nat) : Int) != du) = false := by simpa using he
        have HR : Hid (∀ q, q < k + 1 → sizOK d q = true) := HY.out (by rw [HSK.out, decide_eq_true he])
        clear he HSK HY HNO
        go_wp2
        go_roundw
        case rel => exact ⟨k + 1, by omega, by go_num, by first | rfl | trivial, HR.out⟩
        case measure => simp [intOf]; omega
      · have hb : (((ln : Nat) : Int) != du) = true := by simpa using he
        have HR : Hid (bytF d = 1) := HNO.out (by rw [HSK.out, decide_eq_false he])
        clear he HSK HY HNO
        go_wp2
        go_ret
        exact ⟨ret_int HR.out.symm, HBW.out⟩
    · have HR : Hid (bytF d = 0) := by unfold Hid bytF; rw [sizesB_yes fun i hi => HZ.out i (by omega)]; rfl
      go_wp2
      go_ret
      exact ⟨ret_int HR.out.symm, HBW.out⟩

/-- The program's codes up to entries are the specification's. -/
theorem fsE_eq (d : FD) : fsE d = if insF d.1 = 0 then (if d.1.length = 0 ∨ ¬ kindAt d.1 0 = 2 then 1 else if dataF d = 0 then lostF d.1 else dataF d) else insF d.1 := by
  unfold fsE dataF formB
  by_cases h1 : insF d.1 = 0
  · rw [if_pos h1, if_pos h1]
    by_cases h2 : d.1.length = 0 ∨ ¬ kindAt d.1 0 = 2
    · rw [if_pos h2, if_pos (by rcases h2 with h | h <;> simp [h])]
    · rw [if_neg h2]
      have h2a : ¬ d.1.length = 0 := fun e => h2 (Or.inl e)
      have h2b : kindAt d.1 0 = 2 := Classical.byContradiction fun e => h2 (Or.inr e)
      by_cases h3 : d.2.length = 20
      · rw [if_neg (by simp [h2b, h3]; intro e; exact h2a (by rw [e]; rfl)), if_pos h3]
        by_cases h4 : fstNZ (manyF d.2) d.2.length = 0
        · rw [if_pos h4]
          by_cases h5 : onceB d.1 20 = true
          · rw [if_pos h5]; simp [h4, h5]
          · rw [if_neg h5]; simp [h4, h5]
        · rw [if_neg h4, if_neg h4, if_neg h4]
      · rw [if_pos (by simp [h3]), if_neg h3]; simp
  · rw [if_neg h1, if_neg h1]
/-- What is wrong of inodes and of their top. -/
def topF (ds : List ID) : Int := if insF ds = 0 then (if ds.length = 0 ∨ ¬ kindAt ds 0 = 2 then 1 else 0) else insF ds
theorem fsE_top (d : FD) : fsE d = if topF d.1 = 0 then (if dataF d = 0 then lostF d.1 else dataF d) else topF d.1 := by
  rw [fsE_eq]; unfold topF
  by_cases h1 : insF d.1 = 0
  · rw [if_pos h1, if_pos h1]
    by_cases h2 : d.1.length = 0 ∨ ¬ kindAt d.1 0 = 2
    · rw [if_pos h2, if_pos h2, if_neg (by decide)]
    · rw [if_neg h2, if_neg h2, if_pos rfl]
  · rw [if_neg h1, if_neg h1, if_neg h1]
theorem top_ins {ds : List ID} (h : topF ds = 0) : insF ds = 0 := by
  unfold topF at h
  by_cases h1 : insF ds = 0
  · exact h1
  · simp [h1] at h
set_option maxHeartbeats 3200000 in
theorem topFault_any (w : World) (aI : Option Addr) (nI cI : Nat) (ds : List ID) (h : Inos w (.slice aI nI cI) ds) (hs : sizeInos ds ≤ 1048576) :
    Calls Try.prog 48 #[.slice aI nI cI] w fun e w' => e = .returned (.int .i64 (topF ds)) ∧ Below w.heap.size w w' := by
  have HF : Hid (∀ W, Below w.heap.size w W → Calls Try.prog 57 #[.slice aI nI cI] W fun e w' => e = .returned (.int .i64 (insF ds)) ∧ Below W.heap.size W w') := fun W hW => inodesFault_any (h.later hW) hs
  have HE : Hid (topF ds = if insF ds = 0 then (if ds.length = 0 ∨ ¬ kindAt ds 0 = 2 then 1 else 0) else insF ds) := rfl
  by_cases h1 : insF ds = 0
  rotate_left
  · have HR : Hid (topF ds = insF ds) := by unfold Hid; rw [HE.out, if_neg h1]
    have hb : (insF ds != 0) = true := by simpa using h1
    clear HE h1 h
    generalize insF ds = r at *
    generalize topF ds = tf at *
    go_enter Try.func48, Try.ntmps48
    go_wp2_with fail
    refine (HF.out _ (Below.refl _ _)).mono ?_
    rintro e w1 ⟨rfl, hb1⟩
    go_wp2
    go_ret
    exact ⟨ret_int HR.out.symm, hb1⟩
  · obtain ⟨_, _, e2, hm2, hc⟩ := h.open'
    simp only [Value.slice.injEq] at e2
    obtain ⟨rfl, rfl, rfl⟩ := e2
    rw [h1, if_pos rfl] at HE
    rw [h1] at HF
    have HC : Hid (AtI w aI ds.length ds) := hc
    clear h h1 hc hs hm2
    by_cases h0 : ds.length = 0
    · have hb0 : (((ds.length : Nat) : Int) == 0) = true := by simp [h0]
      have HR : Hid (topF ds = 1) := by unfold Hid; rw [HE.out, if_pos (Or.inl h0)]
      clear HE h0 HC
      generalize topF ds = tf at *
      generalize ds.length = n at *
      go_enter Try.func48, Try.ntmps48
      go_wp2_with fail
      refine (HF.out _ (Below.refl _ _)).mono ?_
      rintro e w1 ⟨rfl, hb1⟩
      go_wp2
      go_ret
      exact ⟨ret_int HR.out.symm, hb1⟩
    · have hb0 : (((ds.length : Nat) : Int) == 0) = false := by simp; intro e; exact h0 (by rw [e]; rfl)
      obtain ⟨b0, o0, rfl, hI⟩ := HC.out 0 (by omega)
      obtain ⟨_, _, _, _, kc, _⟩ := hI
      replace kc : w.cell? ⟨b0, o0, none⟩ = some (.int .i64 (kindAt ds 0)) := by simpa [kindAt] using kc
      have h00 : 0 < ds.length := by omega
      have HE2 : Hid (topF ds = if ¬ kindAt ds 0 = 2 then 1 else 0) := by
        unfold Hid; rw [HE.out]; simp only [h0, false_or]
      clear HE h0 HC
      generalize topF ds = tf at *
      generalize ds.length = n at *
      generalize kindAt ds 0 = kd at *
      by_cases hk : kd = 2
      · have hb2 : (kd != 2) = false := by simpa using hk
        have HR : Hid (tf = 0) := by unfold Hid; rw [HE2.out, if_neg (by simp [hk])]
        clear HE2 hk
        go_enter Try.func48, Try.ntmps48
        go_wp2_with fail
        refine (HF.out _ (Below.refl _ _)).mono ?_
        rintro e w1 ⟨rfl, hb1⟩
        replace kc := cell_later hb1 kc
        go_wp2
        go_ret
        exact ⟨ret_int HR.out.symm, hb1⟩
      · have hb2 : (kd != 2) = true := by simpa using hk
        have HR : Hid (tf = 1) := by unfold Hid; rw [HE2.out, if_pos hk]
        clear HE2 hk
        go_enter Try.func48, Try.ntmps48
        go_wp2_with fail
        refine (HF.out _ (Below.refl _ _)).mono ?_
        rintro e w1 ⟨rfl, hb1⟩
        replace kc := cell_later hb1 kc
        go_wp2
        go_ret
        exact ⟨ret_int HR.out.symm, hb1⟩
set_option maxHeartbeats 3200000 in
theorem reachFault_any (w : World) (aI : Option Addr) (nI cI : Nat) (aD : Option Addr) (nD cD : Nat) (d : FD) (h : FsR w (.slice aI nI cI) (.slice aD nD cD) d) (hs : sizeInos d.1 ≤ 1048576) :
    Calls Try.prog 37 #[.agg #[.slice aI nI cI, .slice aD nD cD]] w fun e w' => e = .returned (.int .i64 (fsE d)) ∧ Below w.heap.size w w' := by
  have HF : Hid (∀ W, Below w.heap.size w W → Calls Try.prog 48 #[.slice aI nI cI] W fun e w' => e = .returned (.int .i64 (topF d.1)) ∧ Below W.heap.size W w') := fun W hW => topFault_any W aI nI cI d.1 (h.1.later hW) hs
  have HE : Hid (fsE d = if topF d.1 = 0 then (if dataF d = 0 then lostF d.1 else dataF d) else topF d.1) := fsE_top d
  have HX : Hid (Bx (w.alloc (.cells #[.slice aI nI cI, .slice aD nD cD] 48)) w.heap.size [.slice aI nI cI, .slice aD nD cD]) := Bx.new w [.slice aI nI cI, .slice aD nD cD] _
  by_cases h1 : topF d.1 = 0
  rotate_left
  · have HR : Hid (fsE d = topF d.1) := by unfold Hid; rw [HE.out, if_neg h1]
    have hb : (topF d.1 != 0) = true := by simpa using h1
    clear HE h1 h
    generalize topF d.1 = r at *
    go_enter Try.func37, Try.ntmps37
    go_wp2_with fail
    refine (HF.out _ (later1 _ _)).mono ?_
    rintro e w1 ⟨rfl, hb1⟩
    have HB1 : Hid (Below w.heap.size w w1) := (later1 _ _).trans (hb1.mono (by simp))
    clear hb1
    go_wp2
    go_ret
    exact ⟨ret_int HR.out.symm, HB1.out⟩
  · have h1' := top_ins h1
    have HD : Hid (∀ W, Below w.heap.size w W → Calls Try.prog 49 #[.agg #[.slice aI nI cI, .slice aD nD cD]] W fun e w' => e = .returned (.int .i64 (dataF d)) ∧ Below W.heap.size W w') := fun W hW => dataFault_any W aI nI cI aD nD cD d (h.later hW) hs h1'
    have HN : Hid (∀ W, Below w.heap.size w W → Calls Try.prog 50 #[.agg #[.slice aI nI cI, .slice aD nD cD]] W fun e w' => e = .returned (.int .i64 (lostF d.1)) ∧ Below W.heap.size W w') := fun W hW => entriesFault_any W aI nI cI aD nD cD d (h.later hW) hs h1'
    rw [h1, if_pos rfl] at HE
    rw [h1] at HF
    clear h h1 h1' hs
    generalize dataF d = df at *
    generalize lostF d.1 = lf at *
    by_cases hd : df = 0
    · have hb3 : (df != 0) = false := by simpa using hd
      have HR : Hid (fsE d = lf) := by unfold Hid; rw [HE.out, if_pos hd]
      clear HE hd
      go_enter Try.func37, Try.ntmps37
      go_wp2_with fail
      refine (HF.out _ (later1 _ _)).mono ?_
      rintro e w1 ⟨rfl, hb1⟩
      have HB1 : Hid (Below w.heap.size w w1) := (later1 _ _).trans (hb1.mono (by simp))
      have HX1 : Hid (Bx w1 w.heap.size _) := HX.out.later hb1
      have x0 := HX1.out 0 _ rfl
      have x1 := HX1.out 1 _ rfl
      clear hb1
      go_wp2_with fail
      refine (HD.out _ HB1.out).mono ?_
      rintro e w2 ⟨rfl, hb2'⟩
      have HB2 : Hid (Below w.heap.size w w2) := HB1.out.trans (hb2'.mono HB1.out.size)
      have y0 := (HX1.out.later hb2') 0 _ rfl
      have y1 := (HX1.out.later hb2') 1 _ rfl
      clear hb2' x0 x1
      go_wp2_with fail
      refine (HN.out _ HB2.out).mono ?_
      rintro e w3 ⟨rfl, hb3'⟩
      have HB3 : Hid (Below w.heap.size w w3) := HB2.out.trans (hb3'.mono HB2.out.size)
      clear hb3'
      go_wp2
      go_ret
      exact ⟨ret_int HR.out.symm, HB3.out⟩
    · have hb3 : (df != 0) = true := by simpa using hd
      have HR : Hid (fsE d = df) := by unfold Hid; rw [HE.out, if_neg hd]
      clear HE hd
      go_enter Try.func37, Try.ntmps37
      go_wp2_with fail
      refine (HF.out _ (later1 _ _)).mono ?_
      rintro e w1 ⟨rfl, hb1⟩
      have HB1 : Hid (Below w.heap.size w w1) := (later1 _ _).trans (hb1.mono (by simp))
      have HX1 : Hid (Bx w1 w.heap.size _) := HX.out.later hb1
      have x0 := HX1.out 0 _ rfl
      have x1 := HX1.out 1 _ rfl
      clear hb1
      go_wp2_with fail
      refine (HD.out _ HB1.out).mono ?_
      rintro e w2 ⟨rfl, hb2'⟩
      have HB2 : Hid (Below w.heap.size w w2) := HB1.out.trans (hb2'.mono HB1.out.size)
      clear hb2' x0 x1
      go_wp2
      go_ret
      exact ⟨ret_int HR.out.symm, HB2.out⟩

theorem range_of {ds : List ID} (hi : insF ds = 0) (h : lostF ds = 0) : inRange ds := fun i hil x hx => by
  unfold entsOf entI at hx
  obtain ⟨e, he, rfl⟩ := List.mem_map.1 hx
  obtain ⟨k, hk, hke⟩ := List.getElem_of_mem he
  have := lost_in hi h i hil k hk
  rw [List.getElem?_eq_getElem hk, Option.getD_some, hke] at this
  exact this
theorem six_of {ds : List ID} (hi : insF ds = 0) (i : Nat) : (entsOf ds i).length ≤ 6 := by
  rw [entsOf_len]
  by_cases h : i < ds.length
  · exact ino_six (ins_ino hi i h)
  · rw [List.getElem?_eq_none (by omega)]; simp [id0]
set_option maxHeartbeats 3200000 in
theorem implFsI (w : World) (aI : Option Addr) (nI cI : Nat) (aD : Option Addr) (nD cD : Nat) (d : FD) (h : FsR w (.slice aI nI cI) (.slice aD nD cD) d) (hsi : sizeInos d.1 ≤ 1048576) :
    Calls Try.prog 25 #[.agg #[.slice aI nI cI, .slice aD nD cD]] w fun e w' => e = .returned (.int .i64 (fsF d)) ∧ Below w.heap.size w w' := by
  have HRF : Hid (∀ W, Below w.heap.size w W → Calls Try.prog 37 #[.agg #[.slice aI nI cI, .slice aD nD cD]] W fun e w' => e = .returned (.int .i64 (fsE d)) ∧ Below W.heap.size W w') := fun W hW => reachFault_any W aI nI cI aD nD cD d (h.later hW) hsi
  have HX : Hid (Bx (w.alloc (.cells #[.slice aI nI cI, .slice aD nD cD] 48)) w.heap.size [.slice aI nI cI, .slice aD nD cD]) := Bx.new w [.slice aI nI cI, .slice aD nD cD] _
  have HF : Hid (fsF d = if fsE d = 0 then (if linksB d.1 && sizesB d then 0 else 1) else fsE d) := rfl
  by_cases he : fsE d = 0
  rotate_left
  · have HR : Hid (fsF d = fsE d) := by unfold Hid; rw [HF.out, if_neg he]
    have hb : (fsE d != 0) = true := by simpa using he
    clear HF he h
    generalize fsE d = r at *
    go_enter Try.func25, Try.ntmps25
    go_wp2_with fail
    refine (HRF.out _ (later1 _ _)).mono ?_
    rintro e w1 ⟨rfl, hb1⟩
    have HB1 : Hid (Below w.heap.size w w1) := (later1 _ _).trans (hb1.mono (by simp))
    clear hb1
    go_wp2
    go_ret
    exact ⟨ret_int HR.out.symm, HB1.out⟩
  · obtain ⟨h1, h2, _, _, h5⟩ := fsE_zero he
    obtain ⟨g1, _, g3⟩ := formB_no h2
    have HT : Hid (∀ W, Below w.heap.size w W → Calls Try.prog 38 #[.agg #[.slice aI nI cI, .slice aD nD cD]] W fun e w' => e = .returned (.int .i64 (treeF d.1)) ∧ Below W.heap.size W w') := fun W hW => treeFault_any W aI nI cI aD nD cD d (h.later hW) hsi h1 (by omega) (insF_ten h1) (range_of h1 h5) (six_of h1)
    have HB : Hid (∀ W, Below w.heap.size w W → Calls Try.prog 39 #[.agg #[.slice aI nI cI, .slice aD nD cD]] W fun e w' => e = .returned (.int .i64 (bytF d)) ∧ Below W.heap.size W w') := fun W hW => bytesFault_any W aI nI cI aD nD cD d (h.later hW) h1 g3
    have HR : Hid (fsF d = if linksB d.1 && sizesB d then 0 else 1) := by unfold Hid; rw [HF.out, if_pos he]
    have HTF : Hid (treeF d.1 = if linksB d.1 then 0 else 1) := rfl
    have HBF : Hid (bytF d = if sizesB d then 0 else 1) := rfl
    rw [he] at HRF
    rw [HTF.out] at HT
    rw [HBF.out] at HB
    clear HF he h h1 h2 h5 g1 g3 HTF HBF
    generalize linksB d.1 = lb at *
    generalize sizesB d = sb at *
    cases lb with
    | false =>
      go_enter Try.func25, Try.ntmps25
      go_wp2_with fail
      refine (HRF.out _ (later1 _ _)).mono ?_
      rintro e w1 ⟨rfl, hb1⟩
      have HB1 : Hid (Below w.heap.size w w1) := (later1 _ _).trans (hb1.mono (by simp))
      have x0 := (HX.out.later hb1) 0 _ rfl
      have x1 := (HX.out.later hb1) 1 _ rfl
      clear hb1
      go_wp2_with fail
      refine (HT.out _ HB1.out).mono ?_
      rintro e w2 ⟨rfl, hb2⟩
      have HB2 : Hid (Below w.heap.size w w2) := HB1.out.trans (hb2.mono HB1.out.size)
      clear hb2 x0 x1
      go_wp2
      go_ret
      exact ⟨ret_int HR.out.symm, HB2.out⟩
    | true =>
      cases sb
      all_goals
        go_enter Try.func25, Try.ntmps25
        go_wp2_with fail
        refine (HRF.out _ (later1 _ _)).mono ?_
        rintro e w1 ⟨rfl, hb1⟩
        have HB1 : Hid (Below w.heap.size w w1) := (later1 _ _).trans (hb1.mono (by simp))
        have HX1 : Hid (Bx w1 w.heap.size _) := HX.out.later hb1
        have x0 := HX1.out 0 _ rfl
        have x1 := HX1.out 1 _ rfl
        clear hb1
        go_wp2_with fail
        refine (HT.out _ HB1.out).mono ?_
        rintro e w2 ⟨rfl, hb2⟩
        have HB2 : Hid (Below w.heap.size w w2) := HB1.out.trans (hb2.mono HB1.out.size)
        have y0 := (HX1.out.later hb2) 0 _ rfl
        have y1 := (HX1.out.later hb2) 1 _ rfl
        clear hb2 x0 x1
        go_wp2_with fail
        refine (HB.out _ HB2.out).mono ?_
        rintro e w3 ⟨rfl, hb3⟩
        have HB3 : Hid (Below w.heap.size w w3) := HB2.out.trans (hb3.mono HB2.out.size)
        clear hb3
        go_wp2
        go_ret
        exact ⟨ret_int HR.out.symm, HB3.out⟩
theorem implFsU (w : World) (aI : Option Addr) (nI cI : Nat) (aD : Option Addr) (nD cD : Nat) (d : FD) (h : FsR w (.slice aI nI cI) (.slice aD nD cD) d) (hs : sizeFs d ≤ 1048576) :
    Calls Try.prog 25 #[.agg #[.slice aI nI cI, .slice aD nD cD]] w fun e w' => e = .returned (.int .i64 (fsF d)) ∧ Below w.heap.size w w' :=
  implFsI w aI nI cI aD nD cD d h (by unfold sizeFs at hs; omega)
end Go.Proofs.Ytlohgnidbkechaa

namespace Go.Proofs.Ytlohgnidbkechaa
open Go.RowKit
set_option maxRecDepth 100000

/-- The marks of n bytes from k on. -/
def marksY (k n : Nat) : List UInt8 := (List.range n).map fun i => UInt8.ofNat (k + i)
theorem marksY_length (k n : Nat) : (marksY k n).length = n := by simp [marksY]
theorem marksY_get (k : Nat) {n i : Nat} (h : i < n) : (marksY k n)[i]?.getD 0 = UInt8.ofNat (k + i) := by
  unfold marksY; rw [List.getElem?_map, List.getElem?_range h]; rfl
theorem u8_ofNat (k : Nat) : (((UInt8.ofNat k).toNat : Nat) : Int) = (k : Int) % 256 := by
  rw [UInt8.toNat_ofNat']; omega

def mkByt (k : Int) (zs : List UInt8) : List UInt8 := marksY k.toNat zs.length
theorem mkByt_length (k : Int) (zs : List UInt8) : (mkByt k zs).length = zs.length := marksY_length _ _
end Go.Proofs.Ytlohgnidbkechaa

namespace Go.Proofs.Ytlohgnidbkechaa
open Go.RowKit
set_option maxRecDepth 100000

theorem InoU.bound {w : World} {v0 v1 v2 vB vE : Value} {d : ID} {F : Nat → Prop} (h : InoU w v0 v1 v2 vB vE d F) : InoU w v0 v1 v2 vB vE d (fun b => F b ∧ b < w.heap.size) := by
  obtain ⟨h0, F1, G1, h1, h2, hd, hf⟩ := h
  exact ⟨h0, _, _, h1.bound, h2.bound, fun b hb hb' => hd b hb.1 hb'.1, fun b hb => by
    rcases hb with hb | hb
    · exact ⟨hf b (Or.inl hb.1), hb.2⟩
    · exact ⟨hf b (Or.inr hb.1), hb.2⟩⟩
theorem InosO.bound {w : World} {v : Value} {ds : List ID} {F : Nat → Prop} (h : InosO w v ds F) : InosO w v ds (fun b => F b ∧ b < w.heap.size) := by
  rcases h with h | ⟨b, cap, u, G, hF, hG, hGG, h1, h2, h3, h4⟩
  · exact Or.inl h
  · exact Or.inr ⟨b, cap, u, fun i c => G i c ∧ c < w.heap.size, ⟨hF, h3.lt⟩, fun i c hc => ⟨⟨(hG i c hc.1).1, hc.2⟩, (hG i c hc.1).2⟩, fun i j c e hc hc' => hGG i j c e hc.1 hc'.1, h1, h2, h3, fun i hi => (h4 i hi).bound⟩
/-- Answers that are a code and bytes. -/
def AnsYR (w : World) (r : Int × List UInt8) (e : Ending) (w' : World) : Prop := ∃ a n c, e = .returned (.agg #[.int .i64 r.1, .slice a n c]) ∧ Below w.heap.size w w' ∧ BytO w' (.slice a n c) r.2 (fresh w w')
/-- Bytes in memory that the call made since n₀. -/
def WdY (w : World) (n₀ : Nat) (v : Value) (zs : List UInt8) : Prop := w.ownsRow n₀ 5 1 v zs.length (zs.map byteV)
theorem WdY.later {w w' : World} {n₀ : Nat} {v : Value} {zs : List UInt8} (h : WdY w n₀ v zs) (hb : Below w.heap.size w w') : WdY w' n₀ v zs := ownsRow_later h hb
theorem WdY.shape {w : World} {n₀ : Nat} {v : Value} {zs : List UInt8} (h : WdY w n₀ v zs) : ∃ a c, v = .slice a zs.length c := ownsRow_shape h
theorem WdY.nil (w : World) (n₀ : Nat) : WdY w n₀ (.slice none 0 0) [] := ⟨by simp, Or.inl ⟨rfl, rfl⟩⟩
theorem WdY.lit0 (w : World) (n₀ : Nat) (h : n₀ ≤ w.heap.size) : WdY (w.alloc (.cells #[] 5)) n₀ (.slice (some ⟨w.heap.size, 0, none⟩) 0 0) [] := by
  have := World.ownsRow_lit (e := 5) (size := 1) w (#[] : Array Value) 0 h (by unfold maxLen; omega) (by simp)
  simpa [WdY] using this
theorem WdY.own {w w0 : World} {n₀ : Nat} {v : Value} {zs : List UInt8} (h : WdY w n₀ v zs) (hn : w0.heap.size ≤ n₀) : BytO w v zs (fresh w0 w) := by
  obtain ⟨hl, h | ⟨g, cap, cur, rfl, hb, hh, hnc, hcm, hcs, htake⟩⟩ := h
  · exact Or.inl ⟨List.eq_nil_of_length_eq_zero h.2, _, _, by rw [h.1]⟩
  · refine Or.inr ⟨g, cap, ⟨by omega, (Array.getElem?_eq_some_iff.1 hh).1⟩, rfl, ⟨by omega, hnc⟩, cur, 5, hh, by omega, fun i hi => ?_⟩
    rw [Nat.mul_one] at htake
    have h1 : (zs.map byteV)[i]? = cur[i]? := by rw [← htake, List.getElem?_take, if_pos hi, Array.getElem?_toList]
    rw [← h1, List.getElem?_map, List.getElem?_eq_getElem hi]
    simp [List.getElem?_eq_getElem hi, byteV]
theorem Try.infoByte' : ∃ i, Try.prog.info? 5 = some i ∧ i.zero = some (.int .u8 0) ∧ i.size = 1 ∧ i.bytes = 1 := by
  have h : (Try.prog.info? 5).map (fun i => (i.zero, i.size, i.bytes)) = some (some (.int .u8 0), 1, 1) := by kernel_rfl
  obtain ⟨i, hi, h⟩ := Option.map_eq_some_iff.1 h
  simp only [Prod.mk.injEq] at h
  exact ⟨i, hi, h.1, h.2.1, h.2.2⟩
theorem append_y (w : World) (n₀ : Nat) (v : Value) (zs ys : List UInt8) (a : Option Addr) (m c : Nat) (hrow : WdY w n₀ v zs) (hn₀ : n₀ ≤ w.heap.size) (hz : zs.length ≤ 16777216) (hy : ys.length ≤ 1048576) (hc : Byt w (.slice a m c) ys) :
    ∃ v' X, (Builtin.append_ #[68, 68] 68 #[v, .slice a m c]).run Try.prog w = .ok v' X ∧ WdY X n₀ v' (zs ++ ys) ∧ Below n₀ w X := by
  obtain ⟨i, hi, h1, h2, h3⟩ := Try.infoByte'
  obtain ⟨a', cap', e, hm, hat⟩ := hc
  simp only [Value.slice.injEq] at e
  obtain ⟨rfl, rfl, rfl⟩ := e
  by_cases ha : a = none
  · subst ha
    have h0 : ys = [] := by
      by_cases h : ys.length = 0
      · exact List.eq_nil_of_length_eq_zero h
      · obtain ⟨_, _, e, _⟩ := hat 0 (by omega); cases e
    subst h0
    refine ⟨v, w, ?_, by rw [List.append_nil]; exact hrow, Below.refl _ _⟩
    rcases hrow.2 with ⟨rfl, _⟩ | ⟨g, cap, cur, rfl, _, _, hnc, _⟩
    · simp [Builtin.append_, run_underlying Try.underlying68, sizeOf, typeInfo, hi, Builtin.lenOf, Builtin.firstCells]
    · simp [Builtin.append_, run_underlying Try.underlying68, sizeOf, typeInfo, hi, Builtin.lenOf, Builtin.firstCells, storeCells, hnc]
  · obtain ⟨ad, rfl⟩ := Option.ne_none_iff_exists'.1 ha
    obtain ⟨v', X, hr, ho, hg, _⟩ := run_append_own (P := Try.prog) w n₀ 68 68 5 i (.int .u8 0) 1 1 Try.underlying68 hi h1 h2 h3 rfl (by decide) _ zs.length _ hrow ad ys.length c (ys.map byteV)
      (by simp) (fun j u hu => by
        rw [List.getElem?_map, Option.map_eq_some_iff] at hu
        obtain ⟨z, hz1, rfl⟩ := hu
        have hj : j < ys.length := (List.getElem?_eq_some_iff.1 hz1).1
        obtain ⟨b, off, e, h⟩ := hat j hj
        simp only [Option.some.injEq] at e
        rw [e, add_plain', h, hz1]
        rfl) (fun u hu => by
        obtain ⟨z, _, rfl⟩ := List.mem_map.1 hu
        rfl) (by unfold maxLen; omega) (by omega) hn₀
    refine ⟨v', X, hr, ?_, below_grown hg hn₀ (fun k hk => (hrow.lt k hk).1)⟩
    unfold WdY
    rw [List.length_append, List.map_append]
    exact ho
end Go.Proofs.Ytlohgnidbkechaa

namespace Go.Proofs.Ytlohgnidbkechaa
open Go.RowKit
set_option maxRecDepth 100000

/-- The bytes of the first k blocks of an inode. -/
def bytK (d : FD) (bs : List Int) (k : Nat) : List UInt8 := (bs.take k).flatMap fun b => d.2[b.toNat]?.getD []
def bytL (d : FD) (j : Nat) : List UInt8 := bytK d (d.1[j]?.getD id0).2.2.2.1 (d.1[j]?.getD id0).2.2.2.1.length
def bytR (d : FD) (x : Int) : Int × List UInt8 :=
  if fsF d = 0 then (if 0 ≤ x ∧ x < (d.1.length : Int) then (if kindAt d.1 x.toNat = 2 then (9, []) else if kindAt d.1 x.toNat = 0 then (4, []) else (0, bytL d x.toNat)) else (3, [])) else (fsF d, [])
theorem bytK_next (d : FD) (bs : List Int) (k : Nat) (hk : k < bs.length) : bytK d bs (k + 1) = bytK d bs k ++ (d.2[(bs[k]?.getD 0).toNat]?.getD []) := by
  unfold bytK
  rw [List.take_succ_eq_append_getElem hk, List.flatMap_append]
  simp [List.getElem?_eq_getElem hk]
theorem bytK_len (d : FD) (bs : List Int) (h8 : ∀ i : Nat, (d.2[i]?.getD []).length ≤ 8) : ∀ k, k ≤ bs.length → (bytK d bs k).length ≤ 8 * k
  | 0, _ => by simp [bytK]
  | k + 1, hk => by
    rw [bytK_next d bs k hk, List.length_append]
    have h1 := bytK_len d bs h8 k (by omega)
    have h2 := h8 (bs[k]?.getD 0).toNat
    omega
theorem many_eight {zss : List (List UInt8)} (h : fstNZ (manyF zss) zss.length = 0) (i : Nat) : (zss[i]?.getD []).length ≤ 8 := by
  by_cases hi : i < zss.length
  · have := fstNZ_inv h i hi
    unfold manyF at this
    by_cases h8 : 8 < (zss[i]?.getD []).length
    · rw [if_pos h8] at this; omega
    · omega
  · rw [List.getElem?_eq_none (by omega)]; simp

theorem AnsYR.put {w W : World} {rb : Nat} {r : Int} {zs : List UInt8} {a : Option Addr} {n c : Nat} (hB : Below w.heap.size w W) (hrb : w.heap.size ≤ rb) (hY : BytO W (.slice a n c) zs (fun b => rb < b ∧ b < W.heap.size)) (x y : Value) : AnsYR w (r, zs) (.returned (.agg #[.int .i64 r, .slice a n c])) ((W.setCell ⟨rb, 0, none⟩ x).setCell ⟨rb, 1, none⟩ y) := by
  refine ⟨a, n, c, rfl, (hB.setCell (by simpa using hrb) _).setCell (by simpa using hrb) _, (hY.keep fun b hb _ => ?_).mono fun b hb => ?_⟩
  · rw [Below.heap_setCell _ _ _ _ (by simp; omega), Below.heap_setCell _ _ _ _ (by simp; omega)]
  · unfold fresh
    simp only [World.setCell, Array.size_modify]
    exact ⟨by omega, hb.2⟩
theorem AnsYR.bad {w W : World} {rb : Nat} (r : Int) (hB : Below w.heap.size w W) (hrb : w.heap.size ≤ rb) (x y : Value) : AnsYR w (r, []) (.returned (.agg #[.int .i64 r, .slice none 0 0])) ((W.setCell ⟨rb, 0, none⟩ x).setCell ⟨rb, 1, none⟩ y) := AnsYR.put hB hrb (Or.inl ⟨rfl, _, _, rfl⟩) x y
theorem fsF_zero {d : FD} (h : fsF d = 0) : fsE d = 0 := by
  unfold fsF at h
  by_cases he : fsE d = 0
  · exact he
  · rw [if_neg he] at h; exact absurd h he

end Go.Proofs.Ytlohgnidbkechaa

namespace Go.Proofs.Ytlohgnidbkechaa
open Go.RowKit
set_option maxRecDepth 100000

def inoW (ds : List ID) (i : Nat) : List Int := if i < ds.length then packL (ds[i]?.getD id0) else []
def inoPuts (ds : List ID) : List (Int × List Int) := (List.range 10).map fun i : Nat => (17 + (i : Int), inoW ds i)
theorem inoPuts_get (ds : List ID) {i : Nat} (hi : i < 10) : (inoPuts ds)[i]?.getD (0, []) = (17 + (i : Int), inoW ds i) := by
  unfold inoPuts
  rw [List.getElem?_map, List.getElem?_range hi]
  rfl
theorem inoPuts_len (ds : List ID) : (inoPuts ds).length = 10 := by simp [inoPuts]
/-- What 'append' of one put comes to. -/
theorem append_putG (w w1 : World) (base n : Nat) (v : Value) (x : Nat → Int × List Int) (u : Nat → List Value) (G : Nat → Nat → Prop) (h : GRow PutP w base 53 2 v n x u G) (hb : base ≤ w.heap.size) (hn : n ≤ 1048600) (hb1 : Below w.heap.size w w1)
    (at_ : Int) (a : Option Addr) (m c : Nat) (ws : List Int) (hx : x n = (at_, ws)) (F : Nat → Prop) (hF : ∀ c, F c → w.heap.size ≤ c ∧ c < w1.heap.size) (hm : m = ws.length) (hf : IntsO w1 (.slice a m c) ws F) (B : Nat) (hB : w1.heap.size = B) :
    ∃ g cap X u' G', (Builtin.append_ #[23, 23] 23 #[v, .slice (some ⟨B, 0, none⟩) 1 1]).run Try.prog (w1.alloc (.cells #[.int .i64 at_, .slice a m c] 53)) = .ok (.slice (some ⟨g, 0, none⟩) (n + 1) cap) X ∧
      Below base w X ∧ w1.heap.size < X.heap.size ∧ GRow PutP X base 53 2 (.slice (some ⟨g, 0, none⟩) (n + 1) cap) (n + 1) x u' G' ∧ (∀ b, b < w1.heap.size → v.ownBlock ≠ some b → X.heap[b]? = w1.heap[b]? ∧ g ≠ b) := by
  subst hm
  subst hB
  obtain ⟨i, hi, i1, i2, i3⟩ := Try.infoPut'
  exact GRow.append PutP.steady w w1 23 23 53 i _ 2 32 Try.underlying23 hi i1 i2 i3 rfl (by decide) (by decide) base n v x u G h hb hn hb1 [.int .i64 at_, .slice a ws.length c] rfl (fun y hy => by
    simp only [List.mem_cons, List.not_mem_nil, or_false] at hy
    rcases hy with rfl | rfl <;> rfl) F hF ⟨a, c, by rw [hx], by rw [hx]; exact hf⟩

end Go.Proofs.Ytlohgnidbkechaa

namespace Go.Proofs.Ytlohgnidbkechaa
open Go.RowKit
set_option maxRecDepth 100000

def inoPutsR (d : FD) : Int × List (Int × List Int) := if fsF d = 0 then (0, inoPuts d.1) else (fsF d, [])
/-- The numbers from 0 on. -/
def tens (k : Nat) : List Int := (List.range k).map fun i : Nat => (i : Int)
theorem tens_len (k : Nat) : (tens k).length = k := by simp [tens]
theorem tens_succ (k : Nat) : tens (k + 1) = tens k ++ [(k : Int)] := by unfold tens; rw [List.range_succ, List.map_append]; rfl
theorem tens_get {k i : Nat} (h : i < k) : (tens k)[i]?.getD 0 = (i : Int) := by unfold tens; rw [List.getElem?_map, List.getElem?_range h]; rfl

set_option maxHeartbeats 3200000 in
theorem inodePlaces_any (w : World) :
    Calls Try.prog 27 #[] w fun e w' => ∃ v, e = .returned v ∧ Below w.heap.size w w' ∧ Wds w' w.heap.size v (tens 10) := by
  go_enter Try.func27, Try.ntmps27
  go_wp2
  go_loopw [1, 3] (fun q i wr => ∃ j : Nat, j ≤ 10 ∧ i = .int .i64 j ∧ Below w.heap.size w wr ∧ Wds wr w.heap.size q (tens j)) (fun _ i _ => 10 - (intOf i).toNat)
  case atStart => exact ⟨0, Nat.zero_le _, rfl, Below.refl _ _, World.ownsRow_nil _ _ _ _⟩
  case round =>
    obtain ⟨j, hj, rfl, hbl, hw⟩ := hrel
    have HBL : Hid (Below w.heap.size w wr) := hbl
    have HW : Hid (Wds wr w.heap.size _ (tens j)) := hw
    by_cases hlt : j < 10
    · obtain ⟨a', c', X, hr, hx, hb, _⟩ := append_w1 wr w.heap.size _ (tens j) (j : Int) hw hbl.size (by rw [tens_len]; omega)
      rw [← tens_succ] at hr hx
      have HR : Hid (_ = _) := hr
      have HX : Hid (Wds X w.heap.size _ (tens (j + 1))) := hx
      have HB : Hid (Below w.heap.size w X) := hbl.trans hb
      clear hr hx hb hbl hw HW
      go_wp2_with (at_builtin; refine wpList_append_run rfl _ _ 40 rfl _ _ rfl rfl _ _ HR.out ?_)
      go_roundw
      case rel => exact ⟨j + 1, by omega, by go_num, HB.out, HX.out⟩
      case measure => simp [intOf]; omega
    · have e : j = 10 := by omega
      subst e
      clear hbl hw
      go_wp2
      go_ret
      exact ⟨_, rfl, HBL.out, HW.out⟩
end Go.Proofs.Ytlohgnidbkechaa

namespace Go.Proofs.Ytlohgnidbkechaa
open Go.RowKit
set_option maxRecDepth 100000

def spanPs (ps : List (Int × List Int)) : Nat := ps.length + (wlens ps).sum
def mkPs (k : Int) (ps : List (Int × List Int)) : List (Int × List Int) := marksP k (wlens ps)
end Go.Proofs.Ytlohgnidbkechaa
