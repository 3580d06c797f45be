/- The program: how many bytes each block has to hold; what is wrong of a file system. IsWithin, of the program. Ways through the tree: where names lead. No program is named here. The bytes of a place, whatever is there. The bytes of a file: the program. Directories: what their functions ask alike, of the program and of the specification. Directories: where a name stands; IsEmptyDir and LookName, of the program and of the specification. Directories: LookName, of the program and of the specification. strings.Builder: a byte and a text written. The library's iterator over a list of texts. slices.Values, and a builder's text. The specification's l3Split. The specification's l3Split, whole. The last name of a path: the specification's side. Joining names to a path: the specification's side. The program's JoinPath. The last name of a path: both sides. Lists of texts as arguments; the specification's JoinPath; the law of JoinPath. Whether a path lies below another one: the specification's side. Splitting a path: the contracts of the law. -/
import Derived.Test.YtfdgfhcljjdcfaaM10
import Derived.Test.YtfdgfhcljjdcfaaM12
import Derived.Test.YtfdgfhcljjdcfaaM09
import Derived.Test.YtfdgfhcljjdcfaaM08
import Derived.BigQuiet
import Derived.Test.YtfdgfhcljjdcfaaM01
import Derived.Test.YtfdgfhcljjdcfaaM02
import Derived.Lib.Builder
import Derived.Lib.AppendStr
import Derived.Laws.Externs
import Derived.Lib.UnsafeStr
import Derived.Shelf.RegionOpenPlain
import Derived.Test.YtfdgfhcljjdcfaaM00
namespace Go.Proofs.Ytfdgfhcljjdcfaa
open Go.RowKit
set_option maxRecDepth 100000

/-- An array that holds a number for each block. -/
def arrI (f : Nat → Int) : Array Value := ((List.range 20).map fun i => intV (f i)).toArray
theorem arrI_size (f : Nat → Int) : (arrI f).size = 20 := by simp [arrI]
theorem arrI_get (f : Nat → Int) {i : Nat} (h : i < 20) : (arrI f)[i]? = some (.int .i64 (f i)) := by
  simp [arrI, h, intV]
theorem arrI_set (f : Nat → Int) (q : Nat) (x : Int) : (arrI f).setIfInBounds q (.int .i64 x) = arrI (fun i => if i = q then x else f i) := by
  apply Array.ext_getElem?
  intro i
  rw [Array.getElem?_setIfInBounds]
  by_cases hi : i < 20
  · rw [arrI_get _ hi, arrI_get _ hi, arrI_size]
    by_cases e : q = i
    · subst e; simp [hi]
    · rw [if_neg e, if_neg (fun h => e h.symm)]
  · have h1 : (arrI f)[i]? = none := by rw [Array.getElem?_eq_none_iff, arrI_size]; omega
    have h2 : (arrI (fun i => if i = q then x else f i))[i]? = none := by rw [Array.getElem?_eq_none_iff, arrI_size]; omega
    rw [h1, h2, arrI_size]
    by_cases e : q = i
    · subst e; simp [hi]
    · rw [if_neg e]
/-- Block b holds the numbers f. -/
def ArI (w : World) (b : Nat) (f : Nat → Int) : Prop := w.heap[b]? = some (.cells (arrI f) 95)
theorem ArI.cell {w : World} {b : Nat} {f : Nat → Int} (h : ArI w b f) {i : Nat} (hi : i < 20) : w.cell? ⟨b, i, none⟩ = some (.int .i64 (f i)) := by
  simp [World.cell?, show w.heap[b]? = some (.cells (arrI f) 95) from h, arrI_get f hi]
theorem ArI.frozen {w : World} {b : Nat} {f : Nat → Int} (h : ArI w b f) (i : Nat) : w.frozen? ⟨b, i, none⟩ = false := by
  simp [World.frozen?, show w.heap[b]? = some (.cells (arrI f) 95) from h]
theorem ArI.lt {w : World} {b : Nat} {f : Nat → Int} (h : ArI w b f) : b < w.heap.size := (Array.getElem?_eq_some_iff.1 h).1
theorem ArI.later {w w' : World} {b : Nat} {f : Nat → Int} (h : ArI w b f) (hb : Below w.heap.size w w') : ArI w' b f := (hb.block b h.lt).trans h
theorem ArI.set {w : World} {b : Nat} {f : Nat → Int} (h : ArI w b f) (q : Nat) (x : Int) : ArI (w.setCell ⟨b, q, none⟩ (.int .i64 x)) b (fun i => if i = q then x else f i) := by
  have h' : w.heap[b]? = some (.cells (arrI f) 95) := h
  unfold ArI
  rw [← arrI_set f q x]
  simp [World.setCell, Array.getElem?_modify, h']
theorem ArI.store {w : World} {b : Nat} {f : Nat → Int} (h : ArI w b f) {p : Addr} (hp : b ≠ p.block) (v : Value) : ArI (w.setCell p v) b f := (Below.heap_setCell _ _ _ _ hp).trans h
theorem ArI.new (w : World) (f : Nat → Int) : ArI (w.alloc (.cells (arrI f) 95)) w.heap.size f := Go.Deep.blk_alloc_new _ _

theorem arrI_one (f : Nat → Int) : (arrI f).all (·.oneCell') = true := by
  unfold arrI
  rw [Array.all_eq_true_iff_forall_mem]
  intro v hv
  simp only [List.mem_toArray, List.mem_map] at hv
  obtain ⟨i, _, rfl⟩ := hv
  rfl
theorem Try.infoA20 : (Try.prog.info? 95).map (·.size) = some 20 := by kernel_rfl
theorem ArI.load {w : World} {b : Nat} {f : Nat → Int} (h : ArI w b f) : (Instr.loadAt 95 (.pointer (some ⟨b, 0, none⟩))).run Try.prog w = .ok (.agg (arrI f)) w := by
  simp only [Instr.loadAt, Instr.sureAddr, Sem.run_bind, Sem.run_pure, Result.andThen]
  exact run_loadVar_row w b _ _ (arrI f) (0, 0) _ h Try.underlying95 rfl (by rw [arrI_size]; exact Try.infoA20)
theorem ArI.loadV {w : World} {b : Nat} {f : Nat → Int} (h : ArI w b f) : (loadVar 95 ⟨b, 0, none⟩).run Try.prog w = .ok (.agg (arrI f)) w :=
  run_loadVar_row w b _ _ (arrI f) (0, 0) _ h Try.underlying95 rfl (by rw [arrI_size]; exact Try.infoA20)
theorem ArI.put {w : World} {b : Nat} {f : Nat → Int} (h : ArI w b f) (g : Nat → Int) : ∃ X, (Instr.storeAt 95 (.pointer (some ⟨b, 0, none⟩)) (.agg (arrI g))).run Try.prog w = .ok () X ∧ ArI X b g ∧ X.heap.size = w.heap.size ∧ (∀ c, c ≠ b → X.heap[c]? = w.heap[c]?) ∧ X.os = w.os ∧ X.tape = w.tape ∧ X.output = w.output := by
  refine ⟨w.setRow b (arrI g), ?_, ?_, ?_, fun c hc => ?_, rfl, rfl, rfl⟩
  · simp only [Instr.storeAt, Instr.sureAddr, Sem.run_bind, Sem.run_pure, Result.andThen]
    rw [run_storeVar_row w b _ _ (arrI f) (arrI g) h (by rw [arrI_size]; exact Try.infoA20) (by rw [arrI_size, arrI_size]) (arrI_one g)]
  · have h' : w.heap[b]? = some (.cells (arrI f) 95) := h
    unfold ArI
    simp [World.setRow, Array.getElem?_modify, h']
  · simp [World.setRow]
  · simp only [World.setRow]
    rw [Array.getElem?_modify, if_neg (fun e => hc e.symm)]

theorem m8_left {s : Int} {nB k : Nat} (hn : ((nB : Nat) : Int) = (s + 7) / 8) (hk : k + 1 < nB) : s - 8 * (k : Int) - m8 (s - 8 * (k : Int)) = s - 8 * ((k + 1 : Nat) : Int) := by
  unfold m8
  rw [if_pos (by omega)]
  omega
set_option maxHeartbeats 3200000 in
theorem bytesDue_walk (w : World) (a : Option Addr) (n c : Nat) (ds : List ID) (hdn : ds.length = n) (hn : n ≤ 10) (hi : insF ds = 0) (hc : AtI w a n ds) :
    Calls Try.prog 62 #[.slice a n c] w fun e w' => e = .returned (.agg (arrI (dueI ds n))) ∧ Below w.heap.size w w' := by
  have HC : Hid (AtI w a n ds) := hc
  have HINO : Hid (∀ j, j < n → inoF (ds[j]?.getD id0) = 0) := by rw [← hdn]; exact ins_ino hi
  have HBK : Hid (∀ j k : Nat, j < n → k < (ds[j]?.getD id0).2.2.2.1.length → 0 ≤ (ds[j]?.getD id0).2.2.2.1[k]?.getD 0 ∧ (ds[j]?.getD id0).2.2.2.1[k]?.getD 0 < 20) := by rw [← hdn]; exact ins_blk hi
  have HDS : Hid (∀ j, dueI ds (j + 1) = dueK (ds[j]?.getD id0).2.2.1 (ds[j]?.getD id0).2.2.2.1 (dueI ds j) (ds[j]?.getD id0).2.2.2.1.length) := fun j => rfl
  have HD0 : Hid ((fun _ : Nat => (0 : Int)) = dueI ds 0) := rfl
  clear hc hdn hi
  have z0 := ArI.new w (fun _ => 0)
  have z1 := ArI.new (w.alloc (.cells (arrI fun _ => 0) 95)) (fun _ => 0)
  replace z0 := z0.later (later1 _ (.cells (arrI fun _ => 0) 95))
  rw [World.size_alloc] at z1
  have HB0 : Hid (Below w.heap.size w ((w.alloc (.cells (arrI fun _ => 0) 95)).alloc (.cells (arrI fun _ => 0) 95))) := later2 _ _ _
  have HZ0 : Hid (ArI _ _ _) := z0
  have HZ1 : Hid (ArI _ _ _) := z1
  clear z0 z1
  generalize dueI ds = DU at *
  go_enter Try.func62, Try.ntmps62
  go_wp2
  go_loopw [11] (fun i wr => ∃ j : Nat, j ≤ n ∧ i = .int .i64 j ∧ Below w.heap.size w wr ∧ ArI wr (w.heap.size + 1) (DU j) ∧ ArI wr w.heap.size (fun _ => 0)) (fun i _ => n - (intOf i).toNat)
  case atStart => exact ⟨0, Nat.zero_le _, rfl, HB0.out, HD0.out ▸ HZ1.out, HZ0.out⟩
  case round =>
    clear HB0 HZ0 HZ1
    obtain ⟨j, hj, rfl, hbl, hx, hy⟩ := hrel
    have HBL : Hid (Below w.heap.size w wr) := hbl
    have HA : Hid (ArI wr (w.heap.size + 1) (DU j)) := hx
    have HY : Hid (ArI wr w.heap.size (fun _ => 0)) := hy
    have hw0 := hx.lt
    clear hbl hx hy
    by_cases hlt : j < n
    · obtain ⟨b, o, rfl, hI⟩ := HC.out j hlt
      obtain ⟨aB, cB, aE, cE, c0, c1, c2, c3, c4, hR⟩ := hI
      replace c0 := cell_later HBL.out c0
      replace c1 := cell_later HBL.out c1
      replace c2 := cell_later HBL.out c2
      replace c3 := cell_later HBL.out c3
      replace c4 := cell_later HBL.out c4
      obtain ⟨_, _, e3, hm3, hI1⟩ := hR.2.1.open'
      simp only [Value.slice.injEq] at e3
      obtain ⟨rfl, _, rfl⟩ := e3
      have hsz := ino_size (HINO.out j hlt)
      have hbk := HBK.out j
      have HBKJ : Hid (∀ k, k < (ds[j]?.getD id0).2.2.2.1.length → 0 ≤ (ds[j]?.getD id0).2.2.2.1[k]?.getD 0 ∧ (ds[j]?.getD id0).2.2.2.1[k]?.getD 0 < 20) := fun k hk => hbk k hlt hk
      have HDJ : Hid (DU (j + 1) = dueK (ds[j]?.getD id0).2.2.1 (ds[j]?.getD id0).2.2.2.1 (DU j) (ds[j]?.getD id0).2.2.2.1.length) := HDS.out j
      clear hR hm3 hbk
      generalize (ds[j]?.getD id0) = dj at *
      obtain ⟨dk, dl, s, bs, es⟩ := dj
      dsimp only at *
      have HIB : Hid (At1 w aB bs.length (fun k => .int .i64 (bs[k]?.getD 0))) := hI1
      have hb4 : bs.length ≤ 4 := by omega
      obtain ⟨nB, hnB⟩ : ∃ nB, bs.length = nB := ⟨_, rfl⟩
      rw [hnB] at c3 HIB HBKJ HDJ hb4 hsz
      clear hI1 hnB
      have HK0 : Hid (dueK s bs (DU j) 0 = DU j) := rfl
      have HKS : Hid (∀ k, dueK s bs (DU j) (k + 1) = putD (dueK s bs (DU j) k) (bs[k]?.getD 0) (m8 (s - 8 * (k : Int)))) := fun k => rfl
      have HML : Hid (∀ k, k + 1 < nB → s - 8 * (k : Int) - m8 (s - 8 * (k : Int)) = s - 8 * ((k + 1 : Nat) : Int)) := fun k hk => m8_left hsz.2.2 hk
      have hs0 := hsz.1
      have hs1 := hsz.2.1
      clear hsz
      generalize dueK s bs (DU j) = DK at *
      generalize es.length = nE at *
      go_wp2
      clear c0 c1 c2 c3 c4
      go_loopw [6, 20] (fun l i wr2 => ∃ (k : Nat) (lf : Int), k ≤ nB ∧ i = .int .i64 k ∧ l = .int .i64 lf ∧ (k < nB → lf = s - 8 * (k : Int)) ∧ Below w.heap.size w wr2 ∧ ArI wr2 (w.heap.size + 1) (DK k) ∧ ArI wr2 w.heap.size (fun _ => 0)) (fun _ i _ => nB - (intOf i).toNat)
      case atStart => exact ⟨0, s, Nat.zero_le _, rfl, rfl, fun _ => by simp, HBL.out.trans ((later1 _ _).mono HBL.out.size), by rw [HK0.out]; exact HA.out.later (later1 _ _), HY.out.later (later1 _ _)⟩
      case round =>
        obtain ⟨k, lf, hk, rfl, rfl, hlf, hbl2, hx2, hy2⟩ := hrel
        have HB2 : Hid (Below w.heap.size w wr) := hbl2
        have HA2 : Hid (ArI wr (w.heap.size + 1) (DK k)) := hx2
        have HY2 : Hid (ArI wr w.heap.size (fun _ => 0)) := hy2
        have HLF : Hid (k < nB → lf = s - 8 * (k : Int)) := hlf
        clear hbl2 hx2 hy2 hlf HA HY HBL
        by_cases hlk : k < nB
        · obtain ⟨b1, o1, rfl, p1⟩ := HIB.out k hlk
          replace p1 : w.cell? ⟨b1, o1 + k, none⟩ = some (.int .i64 (bs[k]?.getD 0)) := p1
          replace p1 := cell_later HB2.out p1
          have hbr := HBKJ.out k hlk
          have HST : Hid (DK (k + 1) = putD (DK k) (bs[k]?.getD 0) (m8 lf)) := by rw [HLF.out hlk]; exact HKS.out k
          have HMK : Hid (k + 1 < nB → lf - m8 lf = s - 8 * ((k + 1 : Nat) : Int)) := fun h => by rw [HLF.out hlk]; exact HML.out k h
          have hl0 : -32 ≤ lf ∧ lf ≤ 32 := by have := HLF.out hlk; omega
          generalize bs[k]?.getD 0 = x at *
          obtain ⟨y, rfl⟩ : ∃ y : Nat, x = (y : Int) := ⟨x.toNat, by omega⟩
          have hy : y < 20 := by omega
          have r0 := HA2.out.cell hy
          have r1 := HA2.out.frozen y
          have hw2 := HA2.out.lt
          clear hbr
          have HM : Hid (m8 lf = min lf 8) := by unfold Hid m8; split <;> omega
          rw [HM.out] at HST HMK
          have HA3 : Hid (ArI (wr.setCell ⟨w.heap.size + 1, y, none⟩ (.int .i64 (min lf 8))) (w.heap.size + 1) (DK (k + 1))) := by
            have := HA2.out.set y (min lf 8)
            rw [HST.out]
            exact this
          have HY3 : Hid (ArI (wr.setCell ⟨w.heap.size + 1, y, none⟩ (.int .i64 (min lf 8))) w.heap.size (fun _ => 0)) := HY2.out.store (by simp) _
          have HB3 : Hid (Below w.heap.size w (wr.setCell ⟨w.heap.size + 1, y, none⟩ (.int .i64 (min lf 8)))) := HB2.out.setCell (by simp) _
          generalize DK k y = rv at *
          go_wp2
          go_roundw
          case rel => exact ⟨k + 1, lf - min lf 8, by omega, by go_num, by go_num, HMK.out, HB3.out, HA3.out, HY3.out⟩
          case measure => simp [intOf]; omega
        · have HE : Hid (DK k = DU (j + 1)) := by unfold Hid; rw [HDJ.out, show k = nB by omega]
          go_wp2
          go_roundw
          case rel => exact ⟨j + 1, by omega, by go_num, HB2.out, by rw [← HE.out]; exact HA2.out, HY2.out⟩
          case measure => simp [intOf]; omega
    · have HGN : Hid (DU j = DU n) := by unfold Hid; rw [show j = n by omega]
      have HL : Hid (_ = _) := HA.out.load
      obtain ⟨X, hst, hax, hsx, hoth, hx1, hx2, hx3⟩ := HY.out.put (DU j)
      have HST : Hid (_ = _) := hst
      have HAX : Hid (ArI X w.heap.size (DU n)) := HGN.out ▸ hax
      have HBX : Hid (Below w.heap.size w X) := HBL.out.trans ⟨hx1, hx2, hx3, by omega, fun c hc => hoth c (by omega)⟩
      clear hst hax hsx hoth hx1 hx2 hx3
      generalize DU j = g1 at HL HST
      go_wp2_with (first | refine wpList_load_run rfl _ 95 rfl _ rfl _ _ HL.out ?_ | refine wpList_store_run rfl _ _ 95 rfl _ _ rfl rfl _ HST.out ?_)
      refine bodyPost_ret (v := .agg (arrI (DU n))) ?_ rfl ⟨rfl, HBX.out⟩
      have hlv := HAX.out.loadV
      simp [results, Try.results62, asAddr, Act.put, hlv]
theorem bytesDue_any {w : World} {v : Value} {ds : List ID} (h : Inos w v ds) (hi : insF ds = 0) :
    Calls Try.prog 62 #[v] w fun e w' => e = .returned (.agg (arrI (dueI ds ds.length))) ∧ Below w.heap.size w w' := by
  obtain ⟨a, cap, rfl, hm, hc⟩ := h.open'
  exact bytesDue_walk w a _ cap ds rfl (insF_ten hi) hi hc

def bytF (d : FD) : Int := if sizesB d then 0 else 1
set_option maxHeartbeats 3200000 in
theorem bytesFault_any (w : World) (aI : Option Addr) (nI cI : Nat) (aD : Option Addr) (nD cD : Nat) (d : FD) (h : FsR w (.slice aI nI cI) (.slice aD nD cD) d) (hi : insF d.1 = 0) (h20 : d.2.length = 20) :
    Calls Try.prog 38 #[.agg #[.slice aI nI cI, .slice aD nD cD]] w fun e w' => e = .returned (.int .i64 (bytF d)) ∧ Below w.heap.size w w' := by
  have HBD : Hid (∀ W, Below w.heap.size w W → Calls Try.prog 62 #[.slice aI nI cI] W fun e w' => e = .returned (.agg (arrI (dueI d.1 d.1.length))) ∧ Below W.heap.size W w') := fun W hW => bytesDue_any (h.1.later hW) hi
  have HX : Hid (Bx (w.alloc (.cells #[.slice aI nI cI, .slice aD nD cD] 33)) w.heap.size [.slice aI nI cI, .slice aD nD cD]) := Bx.new w [.slice aI nI cI, .slice aD nD cD] _
  obtain ⟨_, _, e2, hm2, hc⟩ := h.2.open'
  simp only [Value.slice.injEq] at e2
  obtain ⟨rfl, rfl, rfl⟩ := e2
  rw [h20] at HX hc ⊢
  have HC : Hid (AtYs w aD 20 d.2) := hc
  have HSO : Hid (∀ i, sizOK d i = decide ((((d.2[i]?.getD []).length : Nat) : Int) = dueI d.1 d.1.length i)) := fun i => rfl
  clear hc h hm2 hi h20
  generalize dueI d.1 d.1.length = DU at *
  go_enter Try.func38, Try.ntmps38
  go_wp2_with fail
  refine (HBD.out _ (later1 _ _)).mono ?_
  rintro e w1 ⟨rfl, hb1⟩
  have HB1 : Hid (Below w.heap.size w w1) := (later1 _ _).trans (hb1.mono (by simp))
  have HX1 : Hid (Bx w1 w.heap.size [.slice aI nI cI, .slice aD 20 cD]) := HX.out.later hb1
  clear hb1 HX HBD
  have hz1 : w.heap.size < w1.heap.size := HX1.out.lt
  obtain ⟨X, hst, hax, hsx, hoth, hx1, hx2, hx3⟩ := (ArI.new w1 (fun _ => 0)).put DU
  have HST : Hid (_ = _) := hst
  have HAX : Hid (ArI X w1.heap.size DU) := hax
  have HBX : Hid (Below w1.heap.size w1 X) := (later1 w1 (.cells (arrI fun _ => 0) 95)).trans ⟨hx1, hx2, hx3, by omega, fun c hc => hoth c (by omega)⟩
  have HXX : Hid (Bx X w.heap.size [.slice aI nI cI, .slice aD 20 cD]) := HX1.out.later HBX.out
  have HBW : Hid (Below w.heap.size w X) := HB1.out.trans (HBX.out.mono HB1.out.size)
  clear hst hax hsx hoth hx1 hx2 hx3
  have x1 := HXX.out 1 _ rfl
  go_wp2_with (first | refine wpList_store_run rfl _ _ 95 rfl _ _ rfl rfl _ HST.out ?_ | fail)
  clear HST
  go_loopw [12] (fun i wr => ∃ k : Nat, k ≤ 20 ∧ i = .int .i64 k ∧ wr = X ∧ ∀ q, q < k → sizOK d q = true) (fun i _ => 20 - (intOf i).toNat)
  case atStart => exact ⟨0, by omega, rfl, rfl, fun q hq => by omega⟩
  case round =>
    obtain ⟨k, hk, rfl, rfl, hz⟩ := hrel
    have HZ : Hid (∀ q, q < k → sizOK d q = true) := hz
    clear hz x1
    by_cases hlk : k < 20
    · obtain ⟨bD, oD, ua, uc, rfl, d0, _⟩ := HC.out k hlk
      replace d0 := cell_later HBW.out d0
      have r0 := HAX.out.cell hlk
      have HSK : Hid (sizOK d k = decide ((((d.2[k]?.getD []).length : Nat) : Int) = DU k)) := HSO.out k
      have HY : Hid (sizOK d k = true → ∀ q, q < k + 1 → sizOK d q = true) := fun hh q hq => by
        by_cases e : q = k
        · subst e; exact hh
        · exact HZ.out q (by omega)
      have HNO : Hid (sizOK d k = false → bytF d = 1) := fun hh => by unfold bytF; rw [sizesB_no hlk hh]; rfl
      generalize (d.2[k]?.getD []).length = ln at *
      generalize DU k = du at *
      by_cases he : ((ln : Nat) : Int) = du
      · have hb : (((ln : Nat) : Int) != du) = false := by simpa using he
        have HR : Hid (∀ q, q < k + 1 → sizOK d q = true) := HY.out (by rw [HSK.out, decide_eq_true he])
        clear he HSK HY HNO
        go_wp2
        go_roundw
        case rel => exact ⟨k + 1, by omega, by go_num, by first | rfl | trivial, HR.out⟩
        case measure => simp [intOf]; omega
      · have hb : (((ln : Nat) : Int) != du) = true := by simpa using he
        have HR : Hid (bytF d = 1) := HNO.out (by rw [HSK.out, decide_eq_false he])
        clear he HSK HY HNO
        go_wp2
        go_ret
        exact ⟨ret_int HR.out.symm, HBW.out⟩
    · have HR : Hid (bytF d = 0) := by unfold Hid bytF; rw [sizesB_yes fun i hi => HZ.out i (by omega)]; rfl
      go_wp2
      go_ret
      exact ⟨ret_int HR.out.symm, HBW.out⟩

/-- The program's codes up to entries are the specification's. -/
theorem fsE_eq (d : FD) : fsE d = if insF d.1 = 0 then (if d.1.length = 0 ∨ ¬ kindAt d.1 0 = 2 then 1 else if dataF d = 0 then lostF d.1 else dataF d) else insF d.1 := by
  unfold fsE dataF formB
  by_cases h1 : insF d.1 = 0
  · rw [if_pos h1, if_pos h1]
    by_cases h2 : d.1.length = 0 ∨ ¬ kindAt d.1 0 = 2
    · rw [if_pos h2, if_pos (by rcases h2 with h | h <;> simp [h])]
    · rw [if_neg h2]
      have h2a : ¬ d.1.length = 0 := fun e => h2 (Or.inl e)
      have h2b : kindAt d.1 0 = 2 := Classical.byContradiction fun e => h2 (Or.inr e)
      by_cases h3 : d.2.length = 20
      · rw [if_neg (by simp [h2b, h3]; intro e; exact h2a (by rw [e]; rfl)), if_pos h3]
        by_cases h4 : fstNZ (manyF d.2) d.2.length = 0
        · rw [if_pos h4]
          by_cases h5 : onceB d.1 20 = true
          · rw [if_pos h5]; simp [h4, h5]
          · rw [if_neg h5]; simp [h4, h5]
        · rw [if_neg h4, if_neg h4, if_neg h4]
      · rw [if_pos (by simp [h3]), if_neg h3]; simp
  · rw [if_neg h1, if_neg h1]
/-- What is wrong of inodes and of their top. -/
def topF (ds : List ID) : Int := if insF ds = 0 then (if ds.length = 0 ∨ ¬ kindAt ds 0 = 2 then 1 else 0) else insF ds
theorem fsE_top (d : FD) : fsE d = if topF d.1 = 0 then (if dataF d = 0 then lostF d.1 else dataF d) else topF d.1 := by
  rw [fsE_eq]; unfold topF
  by_cases h1 : insF d.1 = 0
  · rw [if_pos h1, if_pos h1]
    by_cases h2 : d.1.length = 0 ∨ ¬ kindAt d.1 0 = 2
    · rw [if_pos h2, if_pos h2, if_neg (by decide)]
    · rw [if_neg h2, if_neg h2, if_pos rfl]
  · rw [if_neg h1, if_neg h1, if_neg h1]
theorem top_ins {ds : List ID} (h : topF ds = 0) : insF ds = 0 := by
  unfold topF at h
  by_cases h1 : insF ds = 0
  · exact h1
  · simp [h1] at h
set_option maxHeartbeats 3200000 in
theorem topFault_any (w : World) (aI : Option Addr) (nI cI : Nat) (ds : List ID) (h : Inos w (.slice aI nI cI) ds) (hs : sizeInos ds ≤ 1048576) :
    Calls Try.prog 56 #[.slice aI nI cI] w fun e w' => e = .returned (.int .i64 (topF ds)) ∧ Below w.heap.size w w' := by
  have HF : Hid (∀ W, Below w.heap.size w W → Calls Try.prog 69 #[.slice aI nI cI] W fun e w' => e = .returned (.int .i64 (insF ds)) ∧ Below W.heap.size W w') := fun W hW => inodesFault_any (h.later hW) hs
  have HE : Hid (topF ds = if insF ds = 0 then (if ds.length = 0 ∨ ¬ kindAt ds 0 = 2 then 1 else 0) else insF ds) := rfl
  by_cases h1 : insF ds = 0
  rotate_left
  · have HR : Hid (topF ds = insF ds) := by unfold Hid; rw [HE.out, if_neg h1]
    have hb : (insF ds != 0) = true := by simpa using h1
    clear HE h1 h
    generalize insF ds = r at *
    generalize topF ds = tf at *
    go_enter Try.func56, Try.ntmps56
    go_wp2_with fail
    refine (HF.out _ (Below.refl _ _)).mono ?_
    rintro e w1 ⟨rfl, hb1⟩
    go_wp2
    go_ret
    exact ⟨ret_int HR.out.symm, hb1⟩
  · obtain ⟨_, _, e2, hm2, hc⟩ := h.open'
    simp only [Value.slice.injEq] at e2
    obtain ⟨rfl, rfl, rfl⟩ := e2
    rw [h1, if_pos rfl] at HE
    rw [h1] at HF
    have HC : Hid (AtI w aI ds.length ds) := hc
    clear h h1 hc hs hm2
    by_cases h0 : ds.length = 0
    · have hb0 : (((ds.length : Nat) : Int) == 0) = true := by simp [h0]
      have HR : Hid (topF ds = 1) := by unfold Hid; rw [HE.out, if_pos (Or.inl h0)]
      clear HE h0 HC
      generalize topF ds = tf at *
      generalize ds.length = n at *
      go_enter Try.func56, Try.ntmps56
      go_wp2_with fail
      refine (HF.out _ (Below.refl _ _)).mono ?_
      rintro e w1 ⟨rfl, hb1⟩
      go_wp2
      go_ret
      exact ⟨ret_int HR.out.symm, hb1⟩
    · have hb0 : (((ds.length : Nat) : Int) == 0) = false := by simp; intro e; exact h0 (by rw [e]; rfl)
      obtain ⟨b0, o0, rfl, hI⟩ := HC.out 0 (by omega)
      obtain ⟨_, _, _, _, kc, _⟩ := hI
      replace kc : w.cell? ⟨b0, o0, none⟩ = some (.int .i64 (kindAt ds 0)) := by simpa [kindAt] using kc
      have h00 : 0 < ds.length := by omega
      have HE2 : Hid (topF ds = if ¬ kindAt ds 0 = 2 then 1 else 0) := by
        unfold Hid; rw [HE.out]; simp only [h0, false_or]
      clear HE h0 HC
      generalize topF ds = tf at *
      generalize ds.length = n at *
      generalize kindAt ds 0 = kd at *
      by_cases hk : kd = 2
      · have hb2 : (kd != 2) = false := by simpa using hk
        have HR : Hid (tf = 0) := by unfold Hid; rw [HE2.out, if_neg (by simp [hk])]
        clear HE2 hk
        go_enter Try.func56, Try.ntmps56
        go_wp2_with fail
        refine (HF.out _ (Below.refl _ _)).mono ?_
        rintro e w1 ⟨rfl, hb1⟩
        replace kc := cell_later hb1 kc
        go_wp2
        go_ret
        exact ⟨ret_int HR.out.symm, hb1⟩
      · have hb2 : (kd != 2) = true := by simpa using hk
        have HR : Hid (tf = 1) := by unfold Hid; rw [HE2.out, if_pos hk]
        clear HE2 hk
        go_enter Try.func56, Try.ntmps56
        go_wp2_with fail
        refine (HF.out _ (Below.refl _ _)).mono ?_
        rintro e w1 ⟨rfl, hb1⟩
        replace kc := cell_later hb1 kc
        go_wp2
        go_ret
        exact ⟨ret_int HR.out.symm, hb1⟩
set_option maxHeartbeats 3200000 in
theorem reachFault_any (w : World) (aI : Option Addr) (nI cI : Nat) (aD : Option Addr) (nD cD : Nat) (d : FD) (h : FsR w (.slice aI nI cI) (.slice aD nD cD) d) (hs : sizeInos d.1 ≤ 1048576) :
    Calls Try.prog 36 #[.agg #[.slice aI nI cI, .slice aD nD cD]] w fun e w' => e = .returned (.int .i64 (fsE d)) ∧ Below w.heap.size w w' := by
  have HF : Hid (∀ W, Below w.heap.size w W → Calls Try.prog 56 #[.slice aI nI cI] W fun e w' => e = .returned (.int .i64 (topF d.1)) ∧ Below W.heap.size W w') := fun W hW => topFault_any W aI nI cI d.1 (h.1.later hW) hs
  have HE : Hid (fsE d = if topF d.1 = 0 then (if dataF d = 0 then lostF d.1 else dataF d) else topF d.1) := fsE_top d
  have HX : Hid (Bx (w.alloc (.cells #[.slice aI nI cI, .slice aD nD cD] 33)) w.heap.size [.slice aI nI cI, .slice aD nD cD]) := Bx.new w [.slice aI nI cI, .slice aD nD cD] _
  by_cases h1 : topF d.1 = 0
  rotate_left
  · have HR : Hid (fsE d = topF d.1) := by unfold Hid; rw [HE.out, if_neg h1]
    have hb : (topF d.1 != 0) = true := by simpa using h1
    clear HE h1 h
    generalize topF d.1 = r at *
    go_enter Try.func36, Try.ntmps36
    go_wp2_with fail
    refine (HF.out _ (later1 _ _)).mono ?_
    rintro e w1 ⟨rfl, hb1⟩
    have HB1 : Hid (Below w.heap.size w w1) := (later1 _ _).trans (hb1.mono (by simp))
    clear hb1
    go_wp2
    go_ret
    exact ⟨ret_int HR.out.symm, HB1.out⟩
  · have h1' := top_ins h1
    have HD : Hid (∀ W, Below w.heap.size w W → Calls Try.prog 57 #[.agg #[.slice aI nI cI, .slice aD nD cD]] W fun e w' => e = .returned (.int .i64 (dataF d)) ∧ Below W.heap.size W w') := fun W hW => dataFault_any W aI nI cI aD nD cD d (h.later hW) hs h1'
    have HN : Hid (∀ W, Below w.heap.size w W → Calls Try.prog 58 #[.agg #[.slice aI nI cI, .slice aD nD cD]] W fun e w' => e = .returned (.int .i64 (lostF d.1)) ∧ Below W.heap.size W w') := fun W hW => entriesFault_any W aI nI cI aD nD cD d (h.later hW) hs h1'
    rw [h1, if_pos rfl] at HE
    rw [h1] at HF
    clear h h1 h1' hs
    generalize dataF d = df at *
    generalize lostF d.1 = lf at *
    by_cases hd : df = 0
    · have hb3 : (df != 0) = false := by simpa using hd
      have HR : Hid (fsE d = lf) := by unfold Hid; rw [HE.out, if_pos hd]
      clear HE hd
      go_enter Try.func36, Try.ntmps36
      go_wp2_with fail
      refine (HF.out _ (later1 _ _)).mono ?_
      rintro e w1 ⟨rfl, hb1⟩
      have HB1 : Hid (Below w.heap.size w w1) := (later1 _ _).trans (hb1.mono (by simp))
      have HX1 : Hid (Bx w1 w.heap.size _) := HX.out.later hb1
      have x0 := HX1.out 0 _ rfl
      have x1 := HX1.out 1 _ rfl
      clear hb1
      go_wp2_with fail
      refine (HD.out _ HB1.out).mono ?_
      rintro e w2 ⟨rfl, hb2'⟩
      have HB2 : Hid (Below w.heap.size w w2) := HB1.out.trans (hb2'.mono HB1.out.size)
      have y0 := (HX1.out.later hb2') 0 _ rfl
      have y1 := (HX1.out.later hb2') 1 _ rfl
      clear hb2' x0 x1
      go_wp2_with fail
      refine (HN.out _ HB2.out).mono ?_
      rintro e w3 ⟨rfl, hb3'⟩
      have HB3 : Hid (Below w.heap.size w w3) := HB2.out.trans (hb3'.mono HB2.out.size)
      clear hb3'
      go_wp2
      go_ret
      exact ⟨ret_int HR.out.symm, HB3.out⟩
    · have hb3 : (df != 0) = true := by simpa using hd
      have HR : Hid (fsE d = df) := by unfold Hid; rw [HE.out, if_neg hd]
      clear HE hd
      go_enter Try.func36, Try.ntmps36
      go_wp2_with fail
      refine (HF.out _ (later1 _ _)).mono ?_
      rintro e w1 ⟨rfl, hb1⟩
      have HB1 : Hid (Below w.heap.size w w1) := (later1 _ _).trans (hb1.mono (by simp))
      have HX1 : Hid (Bx w1 w.heap.size _) := HX.out.later hb1
      have x0 := HX1.out 0 _ rfl
      have x1 := HX1.out 1 _ rfl
      clear hb1
      go_wp2_with fail
      refine (HD.out _ HB1.out).mono ?_
      rintro e w2 ⟨rfl, hb2'⟩
      have HB2 : Hid (Below w.heap.size w w2) := HB1.out.trans (hb2'.mono HB1.out.size)
      clear hb2' x0 x1
      go_wp2
      go_ret
      exact ⟨ret_int HR.out.symm, HB2.out⟩

theorem range_of {ds : List ID} (hi : insF ds = 0) (h : lostF ds = 0) : inRange ds := fun i hil x hx => by
  unfold entsOf entI at hx
  obtain ⟨e, he, rfl⟩ := List.mem_map.1 hx
  obtain ⟨k, hk, hke⟩ := List.getElem_of_mem he
  have := lost_in hi h i hil k hk
  rw [List.getElem?_eq_getElem hk, Option.getD_some, hke] at this
  exact this
theorem six_of {ds : List ID} (hi : insF ds = 0) (i : Nat) : (entsOf ds i).length ≤ 6 := by
  rw [entsOf_len]
  by_cases h : i < ds.length
  · exact ino_six (ins_ino hi i h)
  · rw [List.getElem?_eq_none (by omega)]; simp [id0]
set_option maxHeartbeats 3200000 in
theorem implFsI (w : World) (aI : Option Addr) (nI cI : Nat) (aD : Option Addr) (nD cD : Nat) (d : FD) (h : FsR w (.slice aI nI cI) (.slice aD nD cD) d) (hsi : sizeInos d.1 ≤ 1048576) :
    Calls Try.prog 19 #[.agg #[.slice aI nI cI, .slice aD nD cD]] w fun e w' => e = .returned (.int .i64 (fsF d)) ∧ Below w.heap.size w w' := by
  have HRF : Hid (∀ W, Below w.heap.size w W → Calls Try.prog 36 #[.agg #[.slice aI nI cI, .slice aD nD cD]] W fun e w' => e = .returned (.int .i64 (fsE d)) ∧ Below W.heap.size W w') := fun W hW => reachFault_any W aI nI cI aD nD cD d (h.later hW) hsi
  have HX : Hid (Bx (w.alloc (.cells #[.slice aI nI cI, .slice aD nD cD] 33)) w.heap.size [.slice aI nI cI, .slice aD nD cD]) := Bx.new w [.slice aI nI cI, .slice aD nD cD] _
  have HF : Hid (fsF d = if fsE d = 0 then (if linksB d.1 && sizesB d then 0 else 1) else fsE d) := rfl
  by_cases he : fsE d = 0
  rotate_left
  · have HR : Hid (fsF d = fsE d) := by unfold Hid; rw [HF.out, if_neg he]
    have hb : (fsE d != 0) = true := by simpa using he
    clear HF he h
    generalize fsE d = r at *
    go_enter Try.func19, Try.ntmps19
    go_wp2_with fail
    refine (HRF.out _ (later1 _ _)).mono ?_
    rintro e w1 ⟨rfl, hb1⟩
    have HB1 : Hid (Below w.heap.size w w1) := (later1 _ _).trans (hb1.mono (by simp))
    clear hb1
    go_wp2
    go_ret
    exact ⟨ret_int HR.out.symm, HB1.out⟩
  · obtain ⟨h1, h2, _, _, h5⟩ := fsE_zero he
    obtain ⟨g1, _, g3⟩ := formB_no h2
    have HT : Hid (∀ W, Below w.heap.size w W → Calls Try.prog 37 #[.agg #[.slice aI nI cI, .slice aD nD cD]] W fun e w' => e = .returned (.int .i64 (treeF d.1)) ∧ Below W.heap.size W w') := fun W hW => treeFault_any W aI nI cI aD nD cD d (h.later hW) hsi h1 (by omega) (insF_ten h1) (range_of h1 h5) (six_of h1)
    have HB : Hid (∀ W, Below w.heap.size w W → Calls Try.prog 38 #[.agg #[.slice aI nI cI, .slice aD nD cD]] W fun e w' => e = .returned (.int .i64 (bytF d)) ∧ Below W.heap.size W w') := fun W hW => bytesFault_any W aI nI cI aD nD cD d (h.later hW) h1 g3
    have HR : Hid (fsF d = if linksB d.1 && sizesB d then 0 else 1) := by unfold Hid; rw [HF.out, if_pos he]
    have HTF : Hid (treeF d.1 = if linksB d.1 then 0 else 1) := rfl
    have HBF : Hid (bytF d = if sizesB d then 0 else 1) := rfl
    rw [he] at HRF
    rw [HTF.out] at HT
    rw [HBF.out] at HB
    clear HF he h h1 h2 h5 g1 g3 HTF HBF
    generalize linksB d.1 = lb at *
    generalize sizesB d = sb at *
    cases lb with
    | false =>
      go_enter Try.func19, Try.ntmps19
      go_wp2_with fail
      refine (HRF.out _ (later1 _ _)).mono ?_
      rintro e w1 ⟨rfl, hb1⟩
      have HB1 : Hid (Below w.heap.size w w1) := (later1 _ _).trans (hb1.mono (by simp))
      have x0 := (HX.out.later hb1) 0 _ rfl
      have x1 := (HX.out.later hb1) 1 _ rfl
      clear hb1
      go_wp2_with fail
      refine (HT.out _ HB1.out).mono ?_
      rintro e w2 ⟨rfl, hb2⟩
      have HB2 : Hid (Below w.heap.size w w2) := HB1.out.trans (hb2.mono HB1.out.size)
      clear hb2 x0 x1
      go_wp2
      go_ret
      exact ⟨ret_int HR.out.symm, HB2.out⟩
    | true =>
      cases sb
      all_goals
        go_enter Try.func19, Try.ntmps19
        go_wp2_with fail
        refine (HRF.out _ (later1 _ _)).mono ?_
        rintro e w1 ⟨rfl, hb1⟩
        have HB1 : Hid (Below w.heap.size w w1) := (later1 _ _).trans (hb1.mono (by simp))
        have HX1 : Hid (Bx w1 w.heap.size _) := HX.out.later hb1
        have x0 := HX1.out 0 _ rfl
        have x1 := HX1.out 1 _ rfl
        clear hb1
        go_wp2_with fail
        refine (HT.out _ HB1.out).mono ?_
        rintro e w2 ⟨rfl, hb2⟩
        have HB2 : Hid (Below w.heap.size w w2) := HB1.out.trans (hb2.mono HB1.out.size)
        have y0 := (HX1.out.later hb2) 0 _ rfl
        have y1 := (HX1.out.later hb2) 1 _ rfl
        clear hb2 x0 x1
        go_wp2_with fail
        refine (HB.out _ HB2.out).mono ?_
        rintro e w3 ⟨rfl, hb3⟩
        have HB3 : Hid (Below w.heap.size w w3) := HB2.out.trans (hb3.mono HB2.out.size)
        clear hb3
        go_wp2
        go_ret
        exact ⟨ret_int HR.out.symm, HB3.out⟩
theorem implFsU (w : World) (aI : Option Addr) (nI cI : Nat) (aD : Option Addr) (nD cD : Nat) (d : FD) (h : FsR w (.slice aI nI cI) (.slice aD nD cD) d) (hs : sizeFs d ≤ 1048576) :
    Calls Try.prog 19 #[.agg #[.slice aI nI cI, .slice aD nD cD]] w fun e w' => e = .returned (.int .i64 (fsF d)) ∧ Below w.heap.size w w' :=
  implFsI w aI nI cI aD nD cD d h (by unfold sizeFs at hs; omega)
end Go.Proofs.Ytfdgfhcljjdcfaa

namespace Go.Proofs.Ytfdgfhcljjdcfaa
open Go.RowKit
set_option maxRecDepth 100000

/-- IsWithin. -/
def winB (d : FD) (x y : Int) : Bool := decide (fsF d = 0) && (thB d x && (thB d y && witB (entsOf d.1) x 10 y))
/-- What stands where nothing is wrong of a file system. -/
structure FsOk (d : FD) : Prop where
  ins : insF d.1 = 0
  pos : 0 < d.1.length
  ten : d.1.length ≤ 10
  rng : inRange d.1
  six : ∀ i, (entsOf d.1 i).length ≤ 6
  dat : d.2.length = 20
  top : kindAt d.1 0 = 2
theorem fsE_ok {d : FD} (h : fsE d = 0) : FsOk d := by
  obtain ⟨h1, g2, _, _, h5⟩ := fsE_zero h
  obtain ⟨g4, g5, g3⟩ := formB_no g2
  exact ⟨h1, by omega, insF_ten h1, range_of h1 h5, six_of h1, g3, g5⟩
theorem fsF_E {d : FD} (h : fsF d = 0) : fsE d = 0 := by
  unfold fsF at h
  by_cases e : fsE d = 0
  · exact e
  · rw [if_neg e] at h; exact absurd h e
theorem thB_in {d : FD} {x : Int} (h : thB d x = true) : ∃ j : Nat, x = (j : Int) ∧ j < d.1.length ∧ ¬ kindAt d.1 j = 0 := by
  unfold thB at h
  rw [Bool.and_eq_true] at h
  have h1 : 0 ≤ x ∧ x < (d.1.length : Int) := by simpa using h.1
  exact ⟨x.toNat, by omega, by omega, by simpa using h.2⟩

end Go.Proofs.Ytfdgfhcljjdcfaa

namespace Go.Proofs.Ytfdgfhcljjdcfaa
open Go.RowKit
set_option maxRecDepth 100000

/-- A step that is told: a place, and a code where the way breaks off. -/
abbrev WS := Int × Option Int
/-- The steps that are told behind a place. -/
def wkL (ds : List ID) : Nat → List (List UInt8) → List WS
  | _, [] => []
  | t, s :: ns => if kindAt ds t = 2 then (if idxE (ds[t]?.getD id0).2.2.2.2 (mkB s) < (ds[t]?.getD id0).2.2.2.2.length then (((ds[t]?.getD id0).2.2.2.2[idxE (ds[t]?.getD id0).2.2.2.2 (mkB s)]?.getD en0).2, none) :: wkL ds ((ds[t]?.getD id0).2.2.2.2[idxE (ds[t]?.getD id0).2.2.2.2 (mkB s)]?.getD en0).2.toNat ns else [((t : Int), some 4)]) else [((t : Int), some 9)]
def wkT (ds : List ID) (xs : List (List UInt8)) : List WS := (0, none) :: wkL ds 0 xs
/-- Where the steps end: a code, or a place. -/
def endW : Int → List WS → Int × Int
  | t, [] => (0, t)
  | _, (x, none) :: l => endW x l
  | _, (_, some c) :: _ => (c, 0)
/-- Where names lead from a place: a code, or a place. -/
def wkR (ds : List ID) : Nat → List (List UInt8) → Int × Int
  | t, [] => (0, (t : Int))
  | t, s :: ns => if kindAt ds t = 2 then (if idxE (ds[t]?.getD id0).2.2.2.2 (mkB s) < (ds[t]?.getD id0).2.2.2.2.length then wkR ds ((ds[t]?.getD id0).2.2.2.2[idxE (ds[t]?.getD id0).2.2.2.2 (mkB s)]?.getD en0).2.toNat ns else (4, 0)) else (9, 0)
theorem rng_nat {ds : List ID} (hr : inRange ds) {t k : Nat} (ht : t < ds.length) (hk : k < (ds[t]?.getD id0).2.2.2.2.length) : ∃ y : Nat, ((ds[t]?.getD id0).2.2.2.2[k]?.getD en0).2 = (y : Int) ∧ y < ds.length := by
  have := hr t ht ((ds[t]?.getD id0).2.2.2.2[k]?.getD en0).2 (List.mem_of_getElem? (entsOf_get hk))
  exact ⟨((ds[t]?.getD id0).2.2.2.2[k]?.getD en0).2.toNat, by omega, by omega⟩
theorem wk_end {ds : List ID} (hr : inRange ds) : ∀ (xs : List (List UInt8)) (t : Nat), t < ds.length → endW (t : Int) (wkL ds t xs) = wkR ds t xs
  | [], t, _ => rfl
  | s :: ns, t, ht => by
    unfold wkL wkR
    by_cases hk : kindAt ds t = 2
    · rw [if_pos hk, if_pos hk]
      by_cases hi : idxE (ds[t]?.getD id0).2.2.2.2 (mkB s) < (ds[t]?.getD id0).2.2.2.2.length
      · rw [if_pos hi, if_pos hi]
        obtain ⟨y, e, hy⟩ := rng_nat hr ht hi
        rw [e]
        show endW (y : Int) (wkL ds (y : Int).toNat ns) = _
        rw [Int.toNat_natCast]
        exact wk_end hr ns y hy
      · rw [if_neg hi, if_neg hi]; rfl
    · rw [if_neg hk, if_neg hk]; rfl
theorem wkL_len (ds : List ID) : ∀ (xs : List (List UInt8)) (t : Nat), (wkL ds t xs).length ≤ xs.length
  | [], _ => Nat.le_refl _
  | s :: ns, t => by
    unfold wkL
    split
    · split
      · have := wkL_len ds ns ((ds[t]?.getD id0).2.2.2.2[idxE (ds[t]?.getD id0).2.2.2.2 (mkB s)]?.getD en0).2.toNat
        simp only [List.length_cons]; omega
      · simp
    · simp
theorem wkR_lt {ds : List ID} (hr : inRange ds) : ∀ (xs : List (List UInt8)) (t : Nat), t < ds.length → (wkR ds t xs).1 = 0 → ∃ y : Nat, (wkR ds t xs).2 = (y : Int) ∧ y < ds.length
  | [], t, ht, _ => ⟨t, rfl, ht⟩
  | s :: ns, t, ht, h => by
    unfold wkR at h ⊢
    by_cases hk : kindAt ds t = 2
    · rw [if_pos hk] at h ⊢
      by_cases hi : idxE (ds[t]?.getD id0).2.2.2.2 (mkB s) < (ds[t]?.getD id0).2.2.2.2.length
      · rw [if_pos hi] at h ⊢
        obtain ⟨y, e, hy⟩ := rng_nat hr ht hi
        rw [e, Int.toNat_natCast] at h ⊢
        exact wkR_lt hr ns y hy h
      · rw [if_neg hi] at h; exact absurd h (by decide)
    · rw [if_neg hk] at h; exact absurd h (by decide)
/-- The last place, or where the way breaks off, with its code. -/
def brk : Int → List WS → Int × Option (Int × Int)
  | t, [] => (t, none)
  | _, (x, none) :: l => brk x l
  | _, (x, some c) :: _ => (0, some (x, c))
theorem brk_snoc_ok : ∀ (l : List WS) (t v x : Int), brk t l = (v, none) → brk t (l ++ [(x, none)]) = (x, none)
  | [], _, _, _, _ => rfl
  | (_, none) :: l, _, v, x, h => brk_snoc_ok l _ v x h
  | (_, some _) :: _, _, _, _, h => by simp [brk] at h
theorem brk_snoc_no : ∀ (l : List WS) (t v x c : Int), brk t l = (v, none) → brk t (l ++ [(x, some c)]) = (0, some (x, c))
  | [], _, _, _, _, _ => rfl
  | (_, none) :: l, _, v, x, c, h => brk_snoc_no l _ v x c h
  | (_, some _) :: _, _, _, _, _, h => by simp [brk] at h
theorem brk_app : ∀ (l r : List WS) (t v : Int) (p : Int × Int), brk t l = (v, some p) → brk t (l ++ r) = (v, some p)
  | [], _, _, _, _, h => by simp [brk] at h
  | (_, none) :: l, r, _, v, p, h => brk_app l r _ v p h
  | (_, some _) :: _, _, _, _, _, h => h
def outB : Int × Option (Int × Int) → Int × Int
  | (v, none) => (0, v)
  | (_, some p) => (p.2, 0)
theorem brk_end : ∀ (l : List WS) (t : Int), endW t l = outB (brk t l)
  | [], _ => rfl
  | (x, none) :: l, _ => brk_end l x
  | (_, some _) :: _, _ => rfl
end Go.Proofs.Ytfdgfhcljjdcfaa

namespace Go.Proofs.Ytfdgfhcljjdcfaa
open Go.RowKit
set_option maxRecDepth 100000

theorem WdY.down {w : World} {n₀ m₀ : Nat} {v : Value} {zs : List UInt8} (h : WdY w n₀ v zs) (hm : m₀ ≤ n₀) : WdY w m₀ v zs := by
  obtain ⟨h1, h2⟩ := h
  refine ⟨h1, ?_⟩
  rcases h2 with h2 | ⟨g, cap, cur, h3, h4, h5⟩
  · exact Or.inl h2
  · exact Or.inr ⟨g, cap, cur, h3, Nat.le_trans hm h4, h5⟩
end Go.Proofs.Ytfdgfhcljjdcfaa

namespace Go.Proofs.Ytfdgfhcljjdcfaa
open Go.RowKit
set_option maxRecDepth 100000

theorem bytR_len (d : FD) (x : Int) : (bytR d x).2.length ≤ 32 := by
  unfold bytR
  by_cases hf : fsF d = 0
  · rw [if_pos hf]
    by_cases hp : 0 ≤ x ∧ x < (d.1.length : Int)
    · rw [if_pos hp]
      by_cases h2 : kindAt d.1 x.toNat = 2
      · rw [if_pos h2]; simp
      · rw [if_neg h2]
        by_cases h0 : kindAt d.1 x.toNat = 0
        · rw [if_pos h0]; simp
        · rw [if_neg h0]
          obtain ⟨h1, _, h3, _, _⟩ := fsE_zero (fsF_zero hf)
          have hsz := ino_size (ins_ino h1 x.toNat (by omega))
          have := bytK_len d (d.1[x.toNat]?.getD id0).2.2.2.1 (many_eight h3) _ (Nat.le_refl _)
          show (bytL d x.toNat).length ≤ 32
          unfold bytL
          omega
    · rw [if_neg hp]; simp
  · rw [if_neg hf]; simp
end Go.Proofs.Ytfdgfhcljjdcfaa

namespace Go.Proofs.Ytfdgfhcljjdcfaa
open Go.RowKit
set_option maxRecDepth 100000

/-- Where a name stands among entries, or -1. -/
def at8 (es : List EN) (s : ByteArray) : Int := if idxE es s < es.length then ((idxE es s : Nat) : Int) else -1
/-- What lies at the place of a directory: its entries. -/
theorem FsR.dir {w : World} {a1 : Option Addr} {n1 c1 : Nat} {v2 : Value} {d : FD} (h : FsR w (.slice a1 n1 c1) v2 d) {j : Nat} (hj : j < d.1.length) : ∃ b0 o0 aE cE, a1 = some ⟨b0, o0, none⟩ ∧ n1 = d.1.length ∧ w.cell? ⟨b0, o0 + j * 5 + 4, none⟩ = some (.slice aE (entA d j).length cE) ∧ Ents w (.slice aE (entA d j).length cE) (entA d j) := by
  obtain ⟨_, _, e1, _, hAt⟩ := h.1.open'
  simp only [Value.slice.injEq] at e1
  obtain ⟨rfl, rfl, rfl⟩ := e1
  obtain ⟨b0, o0, rfl, hI⟩ := hAt j hj
  obtain ⟨aB, cB, aE, cE, _, _, _, _, k4, hR⟩ := hI
  exact ⟨b0, o0, aE, cE, rfl, rfl, k4, hR.2.2⟩

end Go.Proofs.Ytfdgfhcljjdcfaa

namespace Go.Proofs.Ytfdgfhcljjdcfaa
open Go.RowKit
set_option maxRecDepth 100000

theorem dirN_in {d : FD} {x : Int} {s : ByteArray} (h : dirN d x s = 0) : dirQ d x = 0 := by
  unfold dirN at h
  by_cases e : dirQ d x = 0
  · exact e
  · rw [if_neg e] at h; exact absurd h e
theorem dirN_name {d : FD} {x : Int} {s : ByteArray} (h : dirN d x s = 0) : nameF s = 0 := by
  have h' := dirN_in h
  unfold dirN at h
  rw [if_pos h'] at h
  exact h
end Go.Proofs.Ytfdgfhcljjdcfaa

namespace Go.Proofs.Ytfdgfhcljjdcfaa
open Go.RowKit
set_option maxRecDepth 100000

theorem Try.infoByte : (Try.prog.info? 5).map (fun i => (i.zero, i.size, i.bytes)) = some (some (.int .u8 0), 1, 1) := by kernel_rfl
end Go.Proofs.Ytfdgfhcljjdcfaa

namespace Go.Proofs.Ytfdgfhcljjdcfaa
open Go.RowKit
set_option maxRecDepth 100000

theorem Try.cellsByte : Try.prog.cellsOf 5 = 1 := by kernel_rfl
end Go.Proofs.Ytfdgfhcljjdcfaa

namespace Go.Proofs.Ytfdgfhcljjdcfaa
open Go.RowKit
set_option maxRecDepth 100000

theorem sufB_at {l : List UInt8} {m : Nat} (h : l.length = m + 1) : sufB l = (l[m]?.getD 0 == 47) := by
  unfold sufB
  rw [List.getLast?_eq_getElem?, h, Nat.add_sub_cancel, List.getElem?_eq_getElem (by omega)]
  rfl
theorem preB_at {l : List UInt8} (h : 0 < l.length) : preB l = (l[0]?.getD 0 == 47) := by
  cases l with
  | nil => simp at h
  | cons b t => rfl
theorem byte_eq (b : UInt8) : ((b.toNat : Int) == 47) = (b == 47) := by
  by_cases h : b = 47
  · subst h; rfl
  · have hne : b.toNat ≠ 47 := fun e => h (UInt8.toNat_inj.1 (by rw [e]; rfl))
    have h1 : (b == 47) = false := by simpa using h
    rw [h1]
    simp; omega
theorem namesL_cut {p : List UInt8} (h0 : topB p = false) (hp : 0 < p.length) : namesL p = cutB (p.drop 1) := by
  unfold namesL
  rw [if_neg (by simpa [topB] using h0)]
  cases p with
  | nil => simp at hp
  | cons b t => rfl
/-- Where the specification's split sees a fault of the path's form. -/
def formBad (p : List UInt8) : Prop := p.length = 0 ∨ ¬ p[0]?.getD 0 = 47 ∨ p[p.length - 1]?.getD 0 = 47
theorem pathF_form {p : List UInt8} (h30 : ¬ 30 < p.length) (ht : topB p = false) (hb : formBad p) : pathF p = 5 := by
  unfold pathF
  rw [if_neg h30]
  rcases Nat.eq_zero_or_pos p.length with h0 | h0
  · have : p = [] := List.length_eq_zero_iff.1 h0
    subst this; rfl
  · rcases hb with hb | hb | hb
    · omega
    · rw [preB_at h0, if_neg (by simpa using hb)]
    · have hs : sufB p = true := by rw [sufB_at (m := p.length - 1) (by omega), hb]; rfl
      split
      · rw [if_pos ⟨hs, ht⟩]
      · rfl
theorem pathF_good {p : List UInt8} (h30 : ¬ 30 < p.length) (ht : topB p = false) (hb : ¬ formBad p) : pathF p = namesC (cutB (p.drop 1)) := by
  unfold formBad at hb
  have h0 : 0 < p.length := by omega
  have h1 : p[0]?.getD 0 = 47 := by
    by_cases e : p[0]?.getD 0 = 47
    · exact e
    · exact absurd (Or.inr (Or.inl e)) hb
  have h2 : ¬ p[p.length - 1]?.getD 0 = 47 := fun e => hb (Or.inr (Or.inr e))
  unfold pathF namesC
  have hs : sufB p = false := by rw [sufB_at (m := p.length - 1) (by omega)]; simpa using h2
  have hq : preB p = true := by rw [preB_at h0, h1]; rfl
  rw [if_neg h30, if_pos hq, if_neg (by rw [hs]; simp), namesL_cut ht h0]

end Go.Proofs.Ytfdgfhcljjdcfaa

namespace Go.Proofs.Ytfdgfhcljjdcfaa
open Go.RowKit
set_option maxRecDepth 100000

theorem cutB_mem (t : List UInt8) (k : Nat) : ((cutB t)[k]?.getD []).length ≤ t.length := by
  induction t generalizing k with
  | nil => cases k <;> simp [cutB]
  | cons b l ih =>
    simp only [cutB]
    split
    · cases k with
      | zero => simp
      | succ k => have := ih k; simp at this ⊢; omega
    · cases h : cutB l with
      | nil => cases k <;> simp [cutHead]
      | cons x y =>
        have h1 := ih k
        rw [h] at h1
        cases k with
        | zero => simp [cutHead] at h1 ⊢; omega
        | succ k => simp [cutHead] at h1 ⊢; omega

end Go.Proofs.Ytfdgfhcljjdcfaa

namespace Go.Proofs.Ytfdgfhcljjdcfaa
open Go.RowKit
set_option maxRecDepth 100000

def lastC (p : List UInt8) : Int := if pathF p = 0 then (if (namesL p).length = 0 then 4 else 0) else pathF p
def lastT (p : List UInt8) : List UInt8 := if pathF p = 0 then (namesL p)[(namesL p).length - 1]?.getD [] else []

theorem ownsRow_cap {w : World} {B : Nat} {e : TypeId} {a : Option Addr} {n m c : Nat} {xs : List Value} (h : w.ownsRow B e 1 (.slice a n c) m xs) : n ≤ c := by
  rcases h.2 with ⟨h1, _⟩ | ⟨g, cap, cur, h1, _, _, h2, _⟩ <;> simp only [Value.slice.injEq] at h1 <;> omega
theorem slice_takeT (a : Option Addr) (n c j : Nat) (hj : j ≤ c) :
    ∃ A C, (∀ W : World, (Instr.slice 27 (.slice a n c) none (some (.int .i64 (j : Int))) none).run Try.prog W = .ok (.slice A j C) W) ∧ ∀ (W : World) (xs : List (List UInt8)), j ≤ n → AtT W a n xs → AtT W A j xs := by
  obtain ⟨i, hi, _⟩ := info_parts Try.infoStr
  refine ⟨if c = 0 then a else a.map (·.add (0 * 1)), c - 0, fun W => ?_, fun W xs hjn h => ?_⟩
  · simp [Instr.slice, Instr.sliceBounds, Instr.sliceBound, asIntOf, run_underlying Try.underlying27, sizeOf, typeInfo, hi, hj]
  · by_cases hc : c = 0
    · intro k hk; omega
    · rw [if_neg hc]
      intro k hk
      obtain ⟨b, off, e, r⟩ := h k (by omega)
      subst e
      exact ⟨b, off, by simp [Addr.add], r⟩

end Go.Proofs.Ytfdgfhcljjdcfaa

namespace Go.Proofs.Ytfdgfhcljjdcfaa
open Go.RowKit
set_option maxRecDepth 100000

def joinL (xs : List (List UInt8)) : List UInt8 := xs.flatMap (47 :: ·)
def joinT (xs : List (List UInt8)) : List UInt8 := if joinL xs = [] then [47] else joinL xs
theorem joinL_step {xs : List (List UInt8)} {j : Nat} (h : j < xs.length) : joinL (xs.take (j + 1)) = joinL (xs.take j) ++ (47 :: xs[j]?.getD []) := by
  unfold joinL
  rw [List.take_add_one, List.flatMap_append, List.getElem?_eq_getElem h]
  simp
theorem joinL_len {xs : List (List UInt8)} {j B : Nat} (h : ∀ k : Nat, (xs[k]?.getD []).length ≤ B) (hj : j ≤ xs.length) : (joinL (xs.take j)).length ≤ j * (B + 1) := by
  induction j with
  | zero => simp [joinL]
  | succ j ih =>
    rw [joinL_step (by omega), List.length_append, List.length_cons, Nat.succ_mul]
    have := ih (by omega)
    have := h j
    omega

end Go.Proofs.Ytfdgfhcljjdcfaa

namespace Go.Proofs.Ytfdgfhcljjdcfaa
open Go.RowKit
set_option maxRecDepth 100000

theorem str_bytes (x : List UInt8) : Lib.strCells (mkB x) = Lib.byteCells x := by unfold Lib.strCells Lib.byteCells; rw [mkB_list]
theorem join_cells {xs : List (List UInt8)} {j : Nat} (h : j < xs.length) : Lib.byteCells (joinL (xs.take j)) ++ [.int .u8 47] ++ Lib.strCells (mkB (xs[j]?.getD [])) = Lib.byteCells (joinL (xs.take (j + 1))) := by
  rw [joinL_step h, str_bytes, Lib.byteCells_append]
  simp [Lib.byteCells]

end Go.Proofs.Ytfdgfhcljjdcfaa

namespace Go.Proofs.Ytfdgfhcljjdcfaa
open Go.RowKit
set_option maxRecDepth 100000

theorem lastT_bad {p : List UInt8} (h : ¬ lastC p = 0) : lastT p = [] := by
  unfold lastC at h
  unfold lastT
  by_cases h0 : pathF p = 0
  · rw [if_pos h0] at h ⊢
    have h1 : (namesL p).length = 0 := by
      by_cases e : (namesL p).length = 0
      · exact e
      · rw [if_neg e] at h; omega
    have : namesL p = [] := List.length_eq_zero_iff.1 h1
    rw [this]; rfl
  · rw [if_neg h0]

end Go.Proofs.Ytfdgfhcljjdcfaa

namespace Go.Proofs.Ytfdgfhcljjdcfaa
open Go.RowKit
set_option maxRecDepth 100000

/-- The slice v reads as the texts xs. -/
def Strs (w : World) (v : Value) (xs : List (List UInt8)) : Prop := ∃ a c, v = .slice a xs.length c ∧ xs.length ≤ maxLen ∧ (∀ k : Nat, (xs[k]?.getD []).length ≤ maxLen) ∧ AtT w a xs.length xs
def slens (xs : List (List UInt8)) : List Nat := xs.map List.length
theorem slens_length (xs : List (List UInt8)) : (slens xs).length = xs.length := by simp [slens]
theorem slens_get (xs : List (List UInt8)) (i : Nat) : (slens xs)[i]?.getD 0 = (xs[i]?.getD []).length := by
  unfold slens; rw [List.getElem?_map]; cases xs[i]? <;> rfl
def sizeT (xs : List (List UInt8)) : Nat := xs.length + (slens xs).sum
theorem slens_le (xs : List (List UInt8)) (k : Nat) : (xs[k]?.getD []).length ≤ (slens xs).sum := by
  by_cases h : k < xs.length
  · have h1 := upto_succ (slens xs) k (by rw [slens_length]; exact h)
    have h2 := upto_le (slens xs) (k + 1)
    rw [slens_get] at h1
    omega
  · rw [List.getElem?_eq_none (by omega)]; simp

/-- The text that JoinPath answers. -/
def joinX (xs : List (List UInt8)) : List UInt8 := if namesC xs = 0 then joinT xs else []
end Go.Proofs.Ytfdgfhcljjdcfaa

namespace Go.Proofs.Ytfdgfhcljjdcfaa
open Go.RowKit
set_option maxRecDepth 100000

/-- What splitting answers of a path: its code and its names. -/
def Spl (w w' : World) (p : List UInt8) (a : Option Addr) (c : Nat) : Prop := Below w.heap.size w w' ∧ AtT w' a (splitL p).length (splitL p) ∧ (splitL p).length ≤ c
theorem splitL_len (p : List UInt8) (hp : p.length ≤ 1048576) : (splitL p).length ≤ 1048577 := by
  unfold splitL
  split
  · have := namesL_len p; omega
  · simp
def belowB (p t : List UInt8) : Bool := decide (pathF p = 0) && (decide (pathF t = 0) && (decide ((splitL t).length < (splitL p).length) && decide ((splitL p).take (splitL t).length = splitL t)))
theorem take_no {xs ys : List (List UInt8)} {j : Nat} (hj : j < ys.length) (h : ¬ xs[j]?.getD [] = ys[j]?.getD []) : ¬ xs.take ys.length = ys := fun e => h (by
  have := congrArg (fun l => l[j]?.getD []) e
  simpa [List.getElem?_take, hj] using this)
theorem take_yes {xs ys : List (List UInt8)} (hl : ys.length < xs.length) (h : ∀ j, j < ys.length → xs[j]?.getD [] = ys[j]?.getD []) : xs.take ys.length = ys := by
  refine List.ext_getElem (by simp; omega) fun i h1 h2 => ?_
  have := h i h2
  rw [List.getElem?_eq_getElem (by omega), List.getElem?_eq_getElem h2] at this
  simpa using this

end Go.Proofs.Ytfdgfhcljjdcfaa

namespace Go.Proofs.Ytfdgfhcljjdcfaa
open Go.RowKit
set_option maxRecDepth 100000

/-- A list of texts that owns its block, or is empty. -/
def OwnT (w : World) (a : Option Addr) (n : Nat) (f : Nat → Value) (lo hi : Nat) : Prop := n = 0 ∨ ∃ g, a = some ⟨g, 0, none⟩ ∧ lo ≤ g ∧ g < hi ∧ OwnRow w g n f
def blkOf (a : Option Addr) (lo hi b : Nat) : Prop := a = some ⟨b, 0, none⟩ ∧ lo ≤ b ∧ b < hi
theorem OwnT.later {w w' : World} {a : Option Addr} {n : Nat} {f : Nat → Value} {lo hi : Nat} (h : OwnT w a n f lo hi) (hb : Below w.heap.size w w') : OwnT w' a n f lo hi := by
  rcases h with h | ⟨g, e, h1, h2, h3⟩
  · exact Or.inl h
  · exact Or.inr ⟨g, e, h1, h2, h3.block (hb.block g h3.lt)⟩
theorem ownT_row {w : World} {B : Nat} {e : TypeId} {a : Option Addr} {n c : Nat} {xs : List (List UInt8)} (h : w.ownsRow B e 1 (.slice a n c) xs.length (xs.map strV)) : OwnT w a n (fun i => strV (xs[i]?.getD [])) B w.heap.size := by
  obtain ⟨hl, ⟨h1, h2⟩ | ⟨g, cap, cur, h1, h2, h3, h4, h5, h6, h7⟩⟩ := h
  · simp only [Value.slice.injEq] at h1
    exact Or.inl h1.2.1
  · simp only [Value.slice.injEq] at h1
    refine Or.inr ⟨g, h1.1, h2, (Array.getElem?_eq_some_iff.1 h3).1, cur, e, h3, by rw [h1.2.1]; omega, fun i hi => ?_⟩
    rw [h1.2.1] at hi
    have h8 : (xs.map strV)[i]? = some (strV (xs[i]?.getD [])) := by rw [List.getElem?_map, List.getElem?_eq_getElem hi]; rfl
    rw [← h7, List.getElem?_take, if_pos (by omega), Array.getElem?_toList] at h8
    exact h8
theorem AtT.store {w : World} {a : Option Addr} {n : Nat} {xs : List (List UInt8)} {f : Nat → Value} {lo hi : Nat} (h : AtT w a n xs) (ho : OwnT w a n f lo hi) {p : Addr} (hp : p.block < lo) (v : Value) : AtT (w.setCell p v) a n xs := fun k hk => by
  rcases ho with h0 | ⟨g, e, h1, _, _⟩
  · omega
  · obtain ⟨b, off, e2, c0⟩ := h k hk
    refine ⟨b, off, e2, ?_⟩
    rw [e] at e2
    cases e2
    rw [← c0]
    exact World.cell?_of_block (Below.heap_setCell _ _ _ _ (fun e => by simp at e; omega))
theorem OwnT.store {w : World} {a : Option Addr} {n : Nat} {f : Nat → Value} {lo hi : Nat} (ho : OwnT w a n f lo hi) {p : Addr} (hp : p.block < lo) (v : Value) : OwnT (w.setCell p v) a n f lo hi := by
  rcases ho with h0 | ⟨g, e, h1, h2, h3⟩
  · exact Or.inl h0
  · exact Or.inr ⟨g, e, h1, h2, h3.store (by omega) v⟩
set_option maxHeartbeats 1600000 in
theorem eqNamesU (w : World) (z : Int) (a b : Option Addr) (n c d : Nat) (xs : List (List UInt8)) (hn : n ≤ 1048577) (h1 : AtT w a n xs) (h2 : AtT w b n xs) :
    Calls Try.prog 8 #[.agg #[.int .i64 z, .slice a n c], .agg #[.int .i64 z, .slice b n d]] w fun e w' => e = .returned (.bool true) ∧ Below w.heap.size w w' := by
  have H1 : Hid (AtT w a n xs) := h1
  have H2 : Hid (AtT w b n xs) := h2
  have hz : (z != z) = false := by simp
  clear h1 h2
  go_enter Try.func8, Try.ntmps8
  go_wp2_with fail
  refine (eqS_walk _ a b n c d xs hn (H1.out.later (later2 _ _ _)) (H2.out.later (later2 _ _ _))).mono ?_
  rintro e w1 ⟨rfl, m, rfl⟩
  go_wp2
  go_ret
  exact ⟨rfl, below_drewN (later2 _ _ _) m⟩
set_option maxHeartbeats 1600000 in
theorem markNamesU (w : World) (z : Int) (a : Option Addr) (n c k : Nat) (f : Nat → Value) (lo hi : Nat) (hk0 : 1 ≤ k) (hk : k + n ≤ 4294967296) (h : OwnT w a n f lo hi) :
    Calls Try.prog 11 #[.agg #[.int .i64 z, .slice a n c], .int .i64 (k : Int)] w fun e w' => e = .returned (.int .i64 ((k + n : Nat) : Int)) ∧ OwnT w' a n (fun i => mkT (k + i)) lo hi ∧ Chg (blkOf a lo hi) w w' := by
  have HM : Hid (∀ W, Below w.heap.size w W → Calls Try.prog 26 #[.slice a n c, .int .i64 (k : Int)] W fun e w' => e = .returned (.int .i64 ((k + n : Nat) : Int)) ∧ OwnT w' a n (fun i => mkT (k + i)) lo hi ∧ Chg (blkOf a lo hi) W w') := fun W hb => by
    rcases h with rfl | ⟨g, rfl, h1, h2, h3⟩
    · exact (markS_nil W a c k).mono fun e w' ⟨he, hw⟩ => ⟨he, Or.inl rfl, hw ▸ Chg.refl _ _⟩
    · exact (markS_walk W g c n k f hk0 hk (h3.block (hb.block g h3.lt))).mono fun e w' ⟨he, hr, hc⟩ => ⟨he, Or.inr ⟨g, rfl, h1, h2, hr⟩, hc.mono fun b e => by subst e; exact ⟨rfl, h1, h2⟩⟩
  clear h hk0 hk
  generalize k + n = s at *
  go_enter Try.func11, Try.ntmps11
  go_wp2_with fail
  refine (HM.out _ (later1 _ _)).mono ?_
  rintro e w1 ⟨rfl, ho, hc⟩
  have HO : Hid (OwnT w1 a n (fun i => mkT (k + i)) lo hi) := ho
  have HC : Hid (Chg (blkOf a lo hi) w w1) := (Chg.of_below (later1 _ _)).trans hc
  clear ho hc HM
  go_wp2
  go_ret
  exact ⟨rfl, HO.out, HC.out⟩
set_option maxHeartbeats 1600000 in
theorem heldNamesU (w : World) (z : Int) (a : Option Addr) (n c k : Nat) (lo hi : Nat) (hk0 : 1 ≤ k) (hk : k + n ≤ 4294967296) (h : OwnT w a n (fun i => mkT (k + i)) lo hi) :
    Calls Try.prog 12 #[.agg #[.int .i64 z, .slice a n c], .int .i64 (k : Int)] w fun e w' => e = .returned (.int .i64 ((k + n : Nat) : Int)) ∧ Below w.heap.size w w' := by
  have HM : Hid (∀ W, Below w.heap.size w W → Calls Try.prog 27 #[.slice a n c, .int .i64 (k : Int)] W fun e w' => e = .returned (.int .i64 ((k + n : Nat) : Int)) ∧ Below W.heap.size W w') := fun W hb => by
    rcases h with rfl | ⟨g, rfl, h1, h2, h3⟩
    · exact (heldS_nil W a c k).mono fun e w' ⟨he, hw⟩ => ⟨he, hw ▸ Below.refl _ _⟩
    · exact heldS_walk W g c n k hk0 hk (h3.block (hb.block g h3.lt))
  clear h hk0 hk
  generalize k + n = s at *
  have hs : decide ((s : Int) < 0) = false := by simp
  go_enter Try.func12, Try.ntmps12
  go_wp2_with fail
  refine (HM.out _ (later1 _ _)).mono ?_
  rintro e w1 ⟨rfl, hb⟩
  have HB : Hid (Below w.heap.size w w1) := (later1 _ _).trans (hb.mono (by simp))
  clear hb HM
  go_wp2
  go_ret
  exact ⟨rfl, HB.out⟩
end Go.Proofs.Ytfdgfhcljjdcfaa
