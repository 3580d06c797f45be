/- Answers of calls: how they are told; a file system that stays. The program's file at work: closed. The program's file at work: opened; DropFile. The program's DropFile. Directories: LookName, of the program and of the specification. Entries that grow by append; cells of an inode of a file system in own memory that turn. -/
import Derived.Test.YtpfafcodihhdfaaGreatDoorM15
import Derived.Test.YtpfafcodihhdfaaGreatDoorM22
import Derived.Test.YtpfafcodihhdfaaGreatDoorM14
import Derived.Test.YtpfafcodihhdfaaGreatDoorM21
import Derived.Test.YtpfafcodihhdfaaGreatDoorM02
import Derived.Test.YtpfafcodihhdfaaGreatDoorM07
import Derived.ArgAppend
import Derived.Deep.DeepAppendWide
namespace Go.Proofs.YtpfafcodihhdfaaGreatDoor
open Go.RowKit
set_option maxRecDepth 100000

def zero7 : List Value := [.int .i64 0, .int .i64 0, .int .i64 0, .slice none 0 0, .slice none 0 0, .slice none 0 0, .slice none 0 0]
theorem row7 (w : World) (t : TypeId) : OwnRow (w.alloc (.cells #[.int .i64 0, .int .i64 0, .int .i64 0, .slice none 0 0, .slice none 0 0, .slice none 0 0, .slice none 0 0] t)) w.heap.size 7 (cel zero7) := newCel w zero7 t
/-- An answer that is a code alone; one that leaves the file system as it was. -/
def noCR (c : Int) : Int × CRD := (c, 0, 0, [], [], [], [])
def stayR (d : FD) (c : Int) : Int × CRD := (0, c, 0, [], [], d)
theorem below7 {w W : World} {rb : Nat} (hB : Below w.heap.size w W) (hrb : w.heap.size ≤ rb) (x0 x1 x2 x3 x4 x5 x6 : Value) : Below w.heap.size w (((((((W.setCell ⟨rb, 0, none⟩ x0).setCell ⟨rb, 1, none⟩ x1).setCell ⟨rb, 2, none⟩ x2).setCell ⟨rb, 3, none⟩ x3).setCell ⟨rb, 4, none⟩ x4).setCell ⟨rb, 5, none⟩ x5).setCell ⟨rb, 6, none⟩ x6) := ((((((hB.setCell hrb _).setCell hrb _).setCell hrb _).setCell hrb _).setCell hrb _).setCell hrb _).setCell hrb _
theorem blk7 {W : World} {rb : Nat} {b : Nat} (h : b ≠ rb) (x0 x1 x2 x3 x4 x5 x6 : Value) : (((((((W.setCell ⟨rb, 0, none⟩ x0).setCell ⟨rb, 1, none⟩ x1).setCell ⟨rb, 2, none⟩ x2).setCell ⟨rb, 3, none⟩ x3).setCell ⟨rb, 4, none⟩ x4).setCell ⟨rb, 5, none⟩ x5).setCell ⟨rb, 6, none⟩ x6).heap[b]? = W.heap[b]? := by
  rw [Below.heap_setCell _ _ _ _ h, Below.heap_setCell _ _ _ _ h, Below.heap_setCell _ _ _ _ h, Below.heap_setCell _ _ _ _ h, Below.heap_setCell _ _ _ _ h, Below.heap_setCell _ _ _ _ h, Below.heap_setCell _ _ _ _ h]
theorem size7 {W : World} {rb : Nat} (x0 x1 x2 x3 x4 x5 x6 : Value) : (((((((W.setCell ⟨rb, 0, none⟩ x0).setCell ⟨rb, 1, none⟩ x1).setCell ⟨rb, 2, none⟩ x2).setCell ⟨rb, 3, none⟩ x3).setCell ⟨rb, 4, none⟩ x4).setCell ⟨rb, 5, none⟩ x5).setCell ⟨rb, 6, none⟩ x6).heap.size = W.heap.size := by simp only [World.setCell, Array.size_modify]
theorem AnsCR.put {w W : World} {rb : Nat} {c z1 z2 : Int} {a3 : Option Addr} {n3 c3 : Nat} {a4 : Option Addr} {n4 c4 : Nat} {a5 : Option Addr} {n5 c5 : Nat} {a6 : Option Addr} {n6 c6 : Nat} {d : CRD} (hB : Below w.heap.size w W) (hrb : w.heap.size ≤ rb) (h : CResU W (.int .i64 z1) (.int .i64 z2) (.slice a3 n3 c3) (.slice a4 n4 c4) (.slice a5 n5 c5) (.slice a6 n6 c6) d (fun b => w.heap.size ≤ b ∧ b < W.heap.size ∧ b ≠ rb)) (x0 x1 x2 x3 x4 x5 x6 : Value) :
    AnsCR w (c, d) (.returned (.agg #[.int .i64 c, .int .i64 z1, .int .i64 z2, .slice a3 n3 c3, .slice a4 n4 c4, .slice a5 n5 c5, .slice a6 n6 c6])) (((((((W.setCell ⟨rb, 0, none⟩ x0).setCell ⟨rb, 1, none⟩ x1).setCell ⟨rb, 2, none⟩ x2).setCell ⟨rb, 3, none⟩ x3).setCell ⟨rb, 4, none⟩ x4).setCell ⟨rb, 5, none⟩ x5).setCell ⟨rb, 6, none⟩ x6) :=
  ⟨_, _, _, _, _, _, _, _, _, _, _, _, _, _, rfl, below7 hB hrb _ _ _ _ _ _ _, (h.keep fun b hb _ => blk7 hb.2.2 _ _ _ _ _ _ _).mono fun b hb => ⟨hb.1, by rw [size7]; exact hb.2.1⟩⟩
theorem AnsCR.pass {w W W2 : World} {rb : Nat} {c z1 z2 : Int} {a3 : Option Addr} {n3 c3 : Nat} {a4 : Option Addr} {n4 c4 : Nat} {a5 : Option Addr} {n5 c5 : Nat} {a6 : Option Addr} {n6 c6 : Nat} {d : CRD} (hB : Below w.heap.size w W) (hrb : w.heap.size ≤ rb) (hr : rb < W.heap.size) (hb : Below W.heap.size W W2) (h : CResU W2 (.int .i64 z1) (.int .i64 z2) (.slice a3 n3 c3) (.slice a4 n4 c4) (.slice a5 n5 c5) (.slice a6 n6 c6) d (fresh W W2)) (x0 x1 x2 x3 x4 x5 x6 : Value) :
    AnsCR w (c, d) (.returned (.agg #[.int .i64 c, .int .i64 z1, .int .i64 z2, .slice a3 n3 c3, .slice a4 n4 c4, .slice a5 n5 c5, .slice a6 n6 c6])) (((((((W2.setCell ⟨rb, 0, none⟩ x0).setCell ⟨rb, 1, none⟩ x1).setCell ⟨rb, 2, none⟩ x2).setCell ⟨rb, 3, none⟩ x3).setCell ⟨rb, 4, none⟩ x4).setCell ⟨rb, 5, none⟩ x5).setCell ⟨rb, 6, none⟩ x6) :=
  AnsCR.put (hB.trans (hb.mono hB.size)) hrb (h.mono fun b hh => ⟨by have := hh.1; have := hB.size; omega, hh.2, by have := hh.1; omega⟩) _ _ _ _ _ _ _
theorem CResU.nil (w : World) (c v : Int) (F : Nat → Prop) : CResU w (.int .i64 c) (.int .i64 v) (.slice none 0 0) (.slice none 0 0) (.slice none 0 0) (.slice none 0 0) (c, v, [], [], [], []) F :=
  ⟨⟨rfl, rfl⟩, fun _ => False, fun _ => False, fun _ => False, Or.inl ⟨rfl, _, _, rfl⟩, Or.inl ⟨rfl, _, _, rfl⟩, ⟨fun _ => False, fun _ => False, Or.inl ⟨rfl, _, _, rfl⟩, Or.inl ⟨rfl, _, _, rfl⟩, fun _ h => h.elim, fun _ h => h.elim id id⟩, fun _ h => h.elim, fun _ h => h.elim, fun _ h => h.elim False.elim fun h => h.elim False.elim False.elim⟩
theorem CResU.fs {w : World} {v5 v6 : Value} {d : FD} {F : Nat → Prop} (c v : Int) (h : FsU w v5 v6 d F) : CResU w (.int .i64 c) (.int .i64 v) (.slice none 0 0) (.slice none 0 0) v5 v6 (c, v, [], [], d) F :=
  ⟨⟨rfl, rfl⟩, fun _ => False, fun _ => False, F, Or.inl ⟨rfl, _, _, rfl⟩, Or.inl ⟨rfl, _, _, rfl⟩, h, fun _ h => h.elim, fun _ h => h.elim, fun _ h => h.elim False.elim fun h => h.elim False.elim id⟩
theorem AnsCR.no {w W : World} {rb : Nat} (c : Int) (hB : Below w.heap.size w W) (hrb : w.heap.size ≤ rb) (x0 x1 x2 x3 x4 x5 x6 : Value) :
    AnsCR w (noCR c) (.returned (.agg #[.int .i64 c, .int .i64 0, .int .i64 0, .slice none 0 0, .slice none 0 0, .slice none 0 0, .slice none 0 0])) (((((((W.setCell ⟨rb, 0, none⟩ x0).setCell ⟨rb, 1, none⟩ x1).setCell ⟨rb, 2, none⟩ x2).setCell ⟨rb, 3, none⟩ x3).setCell ⟨rb, 4, none⟩ x4).setCell ⟨rb, 5, none⟩ x5).setCell ⟨rb, 6, none⟩ x6) := AnsCR.put hB hrb (CResU.nil W 0 0 _) _ _ _ _ _ _ _
theorem AnsCR.later {w w2 w3 : World} {r : Int × CRD} {e : Ending} (h : AnsCR w r e w2) (hb : Below w2.heap.size w2 w3) (hw : w.heap.size ≤ w2.heap.size) : AnsCR w r e w3 := by
  obtain ⟨z1, z2, a3, n3, c3, a4, n4, c4, a5, n5, c5, a6, n6, c6, h1, h2, h3⟩ := h
  exact ⟨z1, z2, a3, n3, c3, a4, n4, c4, a5, n5, c5, a6, n6, c6, h1, h2.trans (hb.mono hw), (h3.later hb).mono fun b hh => ⟨hh.1, by have := hb.size; have := hh.2; omega⟩⟩

set_option maxHeartbeats 1600000 in
theorem stayed_any (w : World) (a1 : Option Addr) (n1 c1 : Nat) (a2 : Option Addr) (n2 c2 : Nat) (d : FD) (c : Int) (h : FsR w (.slice a1 n1 c1) (.slice a2 n2 c2) d) (hs : sizeFs d ≤ 1048576) (h60 : d.2.length ≤ 60) :
    Calls Tryz.prog 59 #[.agg #[.slice a1 n1 c1, .slice a2 n2 c2], .int .i64 c] w (AnsCR w (stayR d c)) := by
  have HB0 : Hid (Below w.heap.size w ((w.alloc (.cells #[.slice a1 n1 c1, .slice a2 n2 c2] 32)).alloc (.cells #[.int .i64 0, .int .i64 0, .int .i64 0, .slice none 0 0, .slice none 0 0, .slice none 0 0, .slice none 0 0] 44))) := later2 _ _ _
  have HRS : Hid (OwnRow ((w.alloc (.cells #[.slice a1 n1 c1, .slice a2 n2 c2] 32)).alloc (.cells #[.int .i64 0, .int .i64 0, .int .i64 0, .slice none 0 0, .slice none 0 0, .slice none 0 0, .slice none 0 0] 44)) (w.heap.size + 1) 7 (cel zero7)) := by
    have p2 := row7 (w.alloc (.cells #[.slice a1 n1 c1, .slice a2 n2 c2] 32)) 44
    rw [World.size_alloc] at p2
    exact p2
  have HCF : Hid (∀ W, Below w.heap.size w W → Calls Tryz.prog 104 #[.agg #[.slice a1 n1 c1, .slice a2 n2 c2]] W (AnsFs W d)) := fun W hW => copyOfFs_any W _ _ _ _ _ _ d (h.later hW) hs h60
  clear h hs h60
  go_enter Tryz.func59, Tryz.ntmps59
  go_wp2_with fail
  generalize ((w.alloc (.cells #[.slice a1 n1 c1, .slice a2 n2 c2] 32)).alloc (.cells #[.int .i64 0, .int .i64 0, .int .i64 0, .slice none 0 0, .slice none 0 0, .slice none 0 0, .slice none 0 0] 44)) = W0 at *
  refine (HCF.out _ HB0.out).mono ?_
  rintro e w1 ⟨b1, m1, k1, b2, m2, k2, rfl, hb1, hf1⟩
  have hrr := HRS.out.later hb1
  have HU : Hid (FsU w1 (.slice b1 m1 k1) (.slice b2 m2 k2) d (fresh W0 w1)) := hf1
  have HB1 : Hid (Below W0.heap.size W0 w1) := hb1
  have hlt : w.heap.size + 1 < W0.heap.size := HRS.out.lt
  have t0 : w1.cell? ⟨w.heap.size + 1, 0, none⟩ = some (.int .i64 0) := hrr.cell (i := 0) (by omega)
  have t1 : w1.cell? ⟨w.heap.size + 1, 1, none⟩ = some (.int .i64 0) := hrr.cell (i := 1) (by omega)
  have t2 : w1.cell? ⟨w.heap.size + 1, 2, none⟩ = some (.int .i64 0) := hrr.cell (i := 2) (by omega)
  have t3 : w1.cell? ⟨w.heap.size + 1, 3, none⟩ = some (.slice none 0 0) := hrr.cell (i := 3) (by omega)
  have t4 : w1.cell? ⟨w.heap.size + 1, 4, none⟩ = some (.slice none 0 0) := hrr.cell (i := 4) (by omega)
  have t5 : w1.cell? ⟨w.heap.size + 1, 5, none⟩ = some (.slice none 0 0) := hrr.cell (i := 5) (by omega)
  have t6 : w1.cell? ⟨w.heap.size + 1, 6, none⟩ = some (.slice none 0 0) := hrr.cell (i := 6) (by omega)
  have s0 := hrr.frozen 0
  have s1 := hrr.frozen 1
  have s2 := hrr.frozen 2
  have s3 := hrr.frozen 3
  have s4 := hrr.frozen 4
  have s5 := hrr.frozen 5
  have s6 := hrr.frozen 6
  clear hb1 hf1 hrr
  go_wp2
  exact bodyPost_ret (v := .agg #[.int .i64 0, .int .i64 c, .int .i64 0, .slice none 0 0, .slice none 0 0, .slice b1 m1 k1, .slice b2 m2 k2]) (by simp [results, Tryz.results59, go_sem, t0, t1, t2, t3, t4, t5, t6]) rfl (AnsCR.pass HB0.out (by omega) hlt HB1.out (CResU.fs c 0 HU.out) _ _ _ _ _ _ _)

set_option maxHeartbeats 1600000 in
theorem l10Reply_any (w : World) (a1 : Option Addr) (n1 c1 : Nat) (a2 : Option Addr) (n2 c2 : Nat) (d : FD) (c : Int) (h : FsR w (.slice a1 n1 c1) (.slice a2 n2 c2) d) (hs : sizeFs d ≤ 1048576) :
    Calls Tryz.prog 95 #[.agg #[.slice a1 n1 c1, .slice a2 n2 c2], .int .i64 c] w (AnsCR w (stayR d c)) := by
  have HB0 : Hid (Below w.heap.size w ((w.alloc (.cells #[.slice a1 n1 c1, .slice a2 n2 c2] 32)).alloc (.cells #[.int .i64 0, .int .i64 0, .int .i64 0, .slice none 0 0, .slice none 0 0, .slice none 0 0, .slice none 0 0] 44))) := later2 _ _ _
  have HRS : Hid (OwnRow ((w.alloc (.cells #[.slice a1 n1 c1, .slice a2 n2 c2] 32)).alloc (.cells #[.int .i64 0, .int .i64 0, .int .i64 0, .slice none 0 0, .slice none 0 0, .slice none 0 0, .slice none 0 0] 44)) (w.heap.size + 1) 7 (cel zero7)) := by
    have p2 := row7 (w.alloc (.cells #[.slice a1 n1 c1, .slice a2 n2 c2] 32)) 44
    rw [World.size_alloc] at p2
    exact p2
  have HCF : Hid (∀ W, Below w.heap.size w W → Calls Tryz.prog 98 #[.agg #[.slice a1 n1 c1, .slice a2 n2 c2]] W (AnsFs W d)) := fun W hW => l6Copy_any W _ _ _ _ _ _ d (h.later hW) hs
  clear h hs
  go_enter Tryz.func95, Tryz.ntmps95
  go_wp2_with fail
  generalize ((w.alloc (.cells #[.slice a1 n1 c1, .slice a2 n2 c2] 32)).alloc (.cells #[.int .i64 0, .int .i64 0, .int .i64 0, .slice none 0 0, .slice none 0 0, .slice none 0 0, .slice none 0 0] 44)) = W0 at *
  refine (HCF.out _ HB0.out).mono ?_
  rintro e w1 ⟨b1, m1, k1, b2, m2, k2, rfl, hb1, hf1⟩
  have hrr := HRS.out.later hb1
  have HU : Hid (FsU w1 (.slice b1 m1 k1) (.slice b2 m2 k2) d (fresh W0 w1)) := hf1
  have HB1 : Hid (Below W0.heap.size W0 w1) := hb1
  have hlt : w.heap.size + 1 < W0.heap.size := HRS.out.lt
  have t0 : w1.cell? ⟨w.heap.size + 1, 0, none⟩ = some (.int .i64 0) := hrr.cell (i := 0) (by omega)
  have t1 : w1.cell? ⟨w.heap.size + 1, 1, none⟩ = some (.int .i64 0) := hrr.cell (i := 1) (by omega)
  have t2 : w1.cell? ⟨w.heap.size + 1, 2, none⟩ = some (.int .i64 0) := hrr.cell (i := 2) (by omega)
  have t3 : w1.cell? ⟨w.heap.size + 1, 3, none⟩ = some (.slice none 0 0) := hrr.cell (i := 3) (by omega)
  have t4 : w1.cell? ⟨w.heap.size + 1, 4, none⟩ = some (.slice none 0 0) := hrr.cell (i := 4) (by omega)
  have t5 : w1.cell? ⟨w.heap.size + 1, 5, none⟩ = some (.slice none 0 0) := hrr.cell (i := 5) (by omega)
  have t6 : w1.cell? ⟨w.heap.size + 1, 6, none⟩ = some (.slice none 0 0) := hrr.cell (i := 6) (by omega)
  have s0 := hrr.frozen 0
  have s1 := hrr.frozen 1
  have s2 := hrr.frozen 2
  have s3 := hrr.frozen 3
  have s4 := hrr.frozen 4
  have s5 := hrr.frozen 5
  have s6 := hrr.frozen 6
  clear hb1 hf1 hrr
  go_wp2
  exact bodyPost_ret (v := .agg #[.int .i64 0, .int .i64 c, .int .i64 0, .slice none 0 0, .slice none 0 0, .slice b1 m1 k1, .slice b2 m2 k2]) (by simp [results, Tryz.results95, go_sem, t0, t1, t2, t3, t4, t5, t6]) rfl (AnsCR.pass HB0.out (by omega) hlt HB1.out (CResU.fs c 0 HU.out) _ _ _ _ _ _ _)

/-- Where a path leads, if it is no directory. -/
def fileR (d : FD) (s : ByteArray) : Int × Int := if (walkR d s).1 = 0 ∧ kindAt d.1 (walkR d s).2.toNat = 2 then (9, 0) else walkR d s
set_option maxHeartbeats 3200000 in
theorem fileAt_any (w : World) (a1 : Option Addr) (n1 c1 : Nat) (a2 : Option Addr) (n2 c2 : Nat) (d : FD) (s : ByteArray) (h : FsR w (.slice a1 n1 c1) (.slice a2 n2 c2) d) (hs : sizeFs d ≤ 1048576) (hl : s.size ≤ 1048576) (hgl : Gl w) :
    Calls Tryz.prog 64 #[.agg #[.slice a1 n1 c1, .slice a2 n2 c2], .string s] w fun e w' => e = .returned (.agg #[.int .i64 (fileR d s).1, .int .i64 (fileR d s).2]) ∧ Below w.heap.size w w' := by
  have HB0 : Hid (Below w.heap.size w ((w.alloc (.cells #[.slice a1 n1 c1, .slice a2 n2 c2] 32)).alloc (.cells #[.int .i64 0, .int .i64 0] 72))) := later2 _ _ _
  have HX : Hid (Bx ((w.alloc (.cells #[.slice a1 n1 c1, .slice a2 n2 c2] 32)).alloc (.cells #[.int .i64 0, .int .i64 0] 72)) w.heap.size [.slice a1 n1 c1, .slice a2 n2 c2]) := (Bx.new w [.slice a1 n1 c1, .slice a2 n2 c2] _).later (later1 _ _)
  have HRS : Hid (OwnRow ((w.alloc (.cells #[.slice a1 n1 c1, .slice a2 n2 c2] 32)).alloc (.cells #[.int .i64 0, .int .i64 0] 72)) (w.heap.size + 1) 2 (cel [.int .i64 0, .int .i64 0])) := by
    have p2 := newCel (w.alloc (.cells #[.slice a1 n1 c1, .slice a2 n2 c2] 32)) [.int .i64 0, .int .i64 0] 72
    rw [World.size_alloc] at p2
    exact p2
  have HW : Hid (∀ W, Below w.heap.size w W → Calls Tryz.prog 36 #[.agg #[.slice a1 n1 c1, .slice a2 n2 c2], .string s] W fun e w' => e = .returned (.agg #[.int .i64 (walkR d s).1, .int .i64 (walkR d s).2]) ∧ Below W.heap.size W w') := fun W hW => implWalkV W a1 n1 c1 a2 n2 c2 d s (h.later hW) hs hl (hgl.later hW)
  have HFR : Hid (fileR d s = if (walkR d s).1 = 0 ∧ kindAt d.1 (walkR d s).2.toNat = 2 then (9, 0) else walkR d s) := rfl
  have HK : Hid ((walkR d s).1 = 0 → ∃ y : Nat, (walkR d s).2 = (y : Int) ∧ y < d.1.length ∧ d.1.length ≤ 10) := fun h0 => by
    obtain ⟨hok, y, h1, h2⟩ := walk_place h0
    exact ⟨y, h1, h2, hok.ten⟩
  obtain ⟨_, _, e1, -, hAt⟩ := h.1.open'
  simp only [Value.slice.injEq] at e1
  obtain ⟨rfl, rfl, rfl⟩ := e1
  have HAT : Hid (AtI w a1 d.1.length d.1) := hAt
  obtain ⟨RES, hRES⟩ : ∃ r, fileR d s = r := ⟨_, rfl⟩
  have HRES : Hid (fileR d s = RES) := hRES
  rw [hRES]
  clear h hs hl hgl hAt hRES
  obtain ⟨pr, hpr⟩ : ∃ p, walkR d s = p := ⟨_, rfl⟩
  rw [hpr] at HW HK HFR
  clear hpr
  obtain ⟨pc, pv⟩ := pr
  dsimp only at HW HK HFR
  obtain ⟨nn, hnn⟩ : ∃ nn, d.1.length = nn := ⟨_, rfl⟩
  rw [hnn] at HB0 HX HRS HW HK HAT ⊢
  clear hnn
  go_enter Tryz.func64, Tryz.ntmps64
  go_wp2_with fail
  generalize ((w.alloc (.cells #[.slice a1 nn c1, .slice a2 n2 c2] 32)).alloc (.cells #[.int .i64 0, .int .i64 0] 72)) = W0 at *
  refine (HW.out _ HB0.out).mono ?_
  rintro e w1 ⟨rfl, hb1⟩
  have HB1 : Hid (Below w.heap.size w w1) := HB0.out.trans (hb1.mono HB0.out.size)
  have hrr := HRS.out.later hb1
  have hlw : w.heap.size + 1 < w1.heap.size := hrr.lt
  have hlw0 : w.heap.size < w1.heap.size := by omega
  have t0 : w1.cell? ⟨w.heap.size + 1, 0, none⟩ = some (.int .i64 0) := hrr.cell (i := 0) (by omega)
  have t1 : w1.cell? ⟨w.heap.size + 1, 1, none⟩ = some (.int .i64 0) := hrr.cell (i := 1) (by omega)
  have s0 := hrr.frozen 0
  have s1 := hrr.frozen 1
  have x0 := (HX.out.later hb1) 0 _ rfl
  have x1 := (HX.out.later hb1) 1 _ rfl
  clear hb1 hrr
  by_cases hk : pc = 0
  rotate_left
  · have hkb : (pc == 0) = false := by simpa using hk
    have HE : Hid (RES = (pc, pv)) := by unfold Hid; rw [← HRES.out, HFR.out, if_neg (fun hh => hk hh.1)]
    clear hk x0 x1
    go_wp2
    exact bodyPost_ret (v := .agg #[.int .i64 pc, .int .i64 pv]) (by simp [results, Tryz.results64, go_sem, t0, t1, hlw]) rfl ⟨by rw [HE.out], ((HB1.out.setCell (by simp) _).setCell (by simp) _).alloc (by have := HB1.out.size; simpa [World.setCell] using this) _⟩
  · subst hk
    obtain ⟨y, rfl, hyl, h10⟩ := HK.out rfl
    obtain ⟨b0, o0, rfl, hI⟩ := HAT.out y hyl
    obtain ⟨aB, cB, aE, cE, k0, -, -, -, -, -⟩ := hI
    have g0 := cell_later HB1.out k0
    have hyI : (y : Int) < ((nn : Nat) : Int) := by omega
    have hbl : b0 < w1.heap.size := World.block_lt_of_cell? _ _ g0
    by_cases h2 : (d.1[y]?.getD id0).1 = 2
    · have h2b : ((d.1[y]?.getD id0).1 == 2) = true := by simpa using h2
      have HE : Hid (RES = (9, 0)) := by unfold Hid; rw [← HRES.out, HFR.out, if_pos ⟨rfl, by rw [Int.toNat_natCast]; exact h2⟩]
      clear h2 k0
      generalize (d.1[y]?.getD id0).1 = kd at *
      go_wp2
      exact bodyPost_ret (v := .agg #[.int .i64 9, .int .i64 0]) (by simp [results, Tryz.results64, go_sem, t0, t1, hlw]) rfl ⟨by rw [HE.out], ((HB1.out.setCell (by simp) _).setCell (by simp) _).alloc (by have := HB1.out.size; simpa [World.setCell] using this) _⟩
    · have h2b : ((d.1[y]?.getD id0).1 == 2) = false := by simpa using h2
      have HE : Hid (RES = (0, (y : Int))) := by unfold Hid; rw [← HRES.out, HFR.out, if_neg (fun hh => h2 (by have := hh.2; rw [Int.toNat_natCast] at this; exact this))]
      clear h2 k0
      generalize (d.1[y]?.getD id0).1 = kd at *
      go_wp2
      exact bodyPost_ret (v := .agg #[.int .i64 0, .int .i64 (y : Int)]) (by simp [results, Tryz.results64, go_sem, t0, t1, hlw]) rfl ⟨by rw [HE.out], ((HB1.out.setCell (by simp) _).setCell (by simp) _).alloc (by have := HB1.out.size; simpa [World.setCell] using this) _⟩
end Go.Proofs.YtpfafcodihhdfaaGreatDoor

namespace Go.Proofs.YtpfafcodihhdfaaGreatDoor
open Go.RowKit
set_option maxRecDepth 100000

set_option maxHeartbeats 3200000 in
theorem close_raw (w : World) (bf bI n cI bD cD : Nat) (d : FD) (F : Nat → Prop) (R : World → Prop) (j : Nat) (x : ID) (aB : Option Addr) (nB cB : Nat) (aE : Option Addr) (nE cE : Nat) (hbox : OwnRow w bf 8 (cel [.int .i64 x.1, .int .i64 x.2.1, .int .i64 x.2.2.1, .slice aB nB cB, .slice aE nE cE, .int .i64 (j : Int), .slice (some ⟨bI, 0, none⟩) n cI, .slice (some ⟨bD, 0, none⟩) 20 cD])) (hfs : FsS w bI n cI bD 20 cD d F) (hbf : bf ≠ bI) (hj : j < n) (_hn : n ≤ 10)
    (hend : ∀ va vb, R (clsW w bI j x (.slice aB nB cB) (.slice aE nE cE) va vb)) :
    Calls Tryz.prog 236 #[.pointer (some ⟨bf, 0, none⟩)] w fun e w' => e = .returned (.agg #[.slice (some ⟨bI, 0, none⟩) n cI, .slice (some ⟨bD, 0, none⟩) 20 cD]) ∧ R w' := by
  have c0 : w.cell? ⟨bf, 0, none⟩ = some (.int .i64 x.1) := hbox.cell (i := 0) (by omega)
  have c1 : w.cell? ⟨bf, 1, none⟩ = some (.int .i64 x.2.1) := hbox.cell (i := 1) (by omega)
  have c2 : w.cell? ⟨bf, 2, none⟩ = some (.int .i64 x.2.2.1) := hbox.cell (i := 2) (by omega)
  have c3 : w.cell? ⟨bf, 3, none⟩ = some (.slice aB nB cB) := hbox.cell (i := 3) (by omega)
  have c4 : w.cell? ⟨bf, 4, none⟩ = some (.slice aE nE cE) := hbox.cell (i := 4) (by omega)
  have c5 : w.cell? ⟨bf, 5, none⟩ = some (.int .i64 (j : Int)) := hbox.cell (i := 5) (by omega)
  have c6 : w.cell? ⟨bf, 6, none⟩ = some (.slice (some ⟨bI, 0, none⟩) n cI) := hbox.cell (i := 6) (by omega)
  have c7 : w.cell? ⟨bf, 7, none⟩ = some (.slice (some ⟨bD, 0, none⟩) 20 cD) := hbox.cell (i := 7) (by omega)
  obtain ⟨_, _, _, _, i0, i1, i2, i3, i4, _, i6, _⟩ := hfs.ino j hj
  have i50 := i6 (j * 5)
  have i51 := i6 (j * 5 + 1)
  have i52 := i6 (j * 5 + 2)
  have i53 := i6 (j * 5 + 3)
  have i54 := i6 (j * 5 + 4)
  have hlf := hbox.lt
  have hne := hfs.ne
  have hlI : bI < w.heap.size := hne.2.1.2
  have hbf' : bI ≠ bf := fun e => hbf e.symm
  have hjI : (j : Int) < (n : Int) := by omega
  have hnw1 : w.heap.size ≠ bI := by omega
  have hnw2 : bI ≠ w.heap.size := by omega
  have HEND : Hid (∀ va vb, R (clsW w bI j x (.slice aB nB cB) (.slice aE nE cE) va vb)) := hend
  clear hbox hfs hend i6 hne
  obtain ⟨x0, x1, x2, x3, x4⟩ := x
  dsimp only at c0 c1 c2 ⊢
  unfold clsW set5F at HEND
  dsimp only at HEND
  generalize (d.1[j]?.getD id0).2.2.2.1.length = l1 at *
  generalize (d.1[j]?.getD id0).2.2.2.2.length = l2 at *
  generalize (d.1[j]?.getD id0).1 = y0 at *
  generalize (d.1[j]?.getD id0).2.1 = y1 at *
  generalize (d.1[j]?.getD id0).2.2.1 = y2 at *
  go_enter Tryz.func236, Tryz.ntmps236
  go_wp2_with fail
  go_region_held3 (fun W => W.cell? ⟨bf, 0, none⟩ = some (.int .i64 x0) ∧ W.cell? ⟨bf, 1, none⟩ = some (.int .i64 x1) ∧ W.cell? ⟨bf, 2, none⟩ = some (.int .i64 x2) ∧ W.cell? ⟨bf, 3, none⟩ = some (.slice aB nB cB) ∧ W.cell? ⟨bf, 4, none⟩ = some (.slice aE nE cE) ∧ W.cell? ⟨bf, 5, none⟩ = some (.int .i64 (j : Int)) ∧ W.cell? ⟨bf, 6, none⟩ = some (.slice (some ⟨bI, 0, none⟩) n cI)) (go_keep) (fail)
  all_goals
    go_wp2
    refine bodyPost_ret (v := .agg #[.slice (some ⟨bI, 0, none⟩) n cI, .slice (some ⟨bD, 0, none⟩) 20 cD]) (by simp [results, Tryz.results236, go_sem]) rfl ⟨rfl, HEND.out _ _⟩
theorem close_any (w : World) (bf bI n cI bD cD : Nat) (d : FD) (F G : Nat → Prop) (j : Nat) (x : ID) (aB : Option Addr) (nB cB : Nat) (aE : Option Addr) (nE cE : Nat) (hbox : OwnRow w bf 8 (cel [.int .i64 x.1, .int .i64 x.2.1, .int .i64 x.2.2.1, .slice aB nB cB, .slice aE nE cE, .int .i64 (j : Int), .slice (some ⟨bI, 0, none⟩) n cI, .slice (some ⟨bD, 0, none⟩) 20 cD])) (hfs : FsS w bI n cI bD 20 cD d F) (hbf : bf ≠ bI) (hj : j < n) (_hn : n ≤ 10)
    (hv : InoU w (.int .i64 x.1) (.int .i64 x.2.1) (.int .i64 x.2.2.1) (.slice aB nB cB) (.slice aE nE cE) x G) (hG : ∀ c, G c → ¬ F c ∧ c < w.heap.size) :
    Calls Tryz.prog 236 #[.pointer (some ⟨bf, 0, none⟩)] w fun e w' => e = .returned (.agg #[.slice (some ⟨bI, 0, none⟩) n cI, .slice (some ⟨bD, 0, none⟩) 20 cD]) ∧ Chg (fun c => c = bI) w w' ∧ FsS w' bI n cI bD 20 cD (d.1.set j x, d.2) (fun c => F c ∨ G c) :=
  close_raw w bf bI n cI bD cD d F (fun w' => Chg (fun c => c = bI) w w' ∧ FsS w' bI n cI bD 20 cD (d.1.set j x, d.2) (fun c => F c ∨ G c)) j x aB nB cB aE nE cE hbox hfs hbf hj _hn fun va vb => ⟨cls_chg _ _ _ _ _ _ _ _, cls_fs hfs j hj x _ _ hv hG va vb⟩
end Go.Proofs.YtpfafcodihhdfaaGreatDoor

namespace Go.Proofs.YtpfafcodihhdfaaGreatDoor
open Go.RowKit
set_option maxRecDepth 100000

theorem AnsFR.put {w W : World} {rb : Nat} {c : Int} {d : FD} {a1 a2 : Option Addr} {n1 c1 n2 c2 : Nat} (hB : Below w.heap.size w W) (hrb : w.heap.size ≤ rb) (h : FsU W (.slice a1 n1 c1) (.slice a2 n2 c2) d (fun b => w.heap.size ≤ b ∧ b < W.heap.size ∧ b ≠ rb)) (x y z : Value) : AnsFR w (c, d) (.returned (.agg #[.int .i64 c, .slice a1 n1 c1, .slice a2 n2 c2])) (((W.setCell ⟨rb, 0, none⟩ x).setCell ⟨rb, 1, none⟩ y).setCell ⟨rb, 2, none⟩ z) := by
  refine ⟨_, _, _, _, _, _, rfl, ((hB.setCell hrb _).setCell hrb _).setCell hrb _, (h.keep fun b hb _ => ?_).mono fun b hb => ?_⟩
  · rw [Below.heap_setCell _ _ _ _ hb.2.2, Below.heap_setCell _ _ _ _ hb.2.2, Below.heap_setCell _ _ _ _ hb.2.2]
  · unfold fresh
    simp only [World.setCell, Array.size_modify]
    exact ⟨hb.1, hb.2.1⟩
theorem AnsFR.none' {w W : World} {rb : Nat} (c : Int) (hB : Below w.heap.size w W) (hrb : w.heap.size ≤ rb) (x y z : Value) : AnsFR w (noFs c) (.returned (.agg #[.int .i64 c, .slice none 0 0, .slice none 0 0])) (((W.setCell ⟨rb, 0, none⟩ x).setCell ⟨rb, 1, none⟩ y).setCell ⟨rb, 2, none⟩ z) :=
  AnsFR.put hB hrb ⟨fun _ => False, fun _ => False, Or.inl ⟨rfl, none, 0, rfl⟩, Or.inl ⟨rfl, none, 0, rfl⟩, fun _ h => h.elim, fun _ h => h.elim False.elim False.elim⟩ x y z
theorem AnsFR.later {w w2 w3 : World} {r : Int × FD} {e : Ending} (h : AnsFR w r e w2) (hb : Below w2.heap.size w2 w3) : AnsFR w r e w3 := by
  obtain ⟨a1, n1, c1, a2, n2, c2, h1, h2, h3⟩ := h
  exact ⟨a1, n1, c1, a2, n2, c2, h1, h2.trans (hb.mono h2.size), (h3.keep fun b _ hlt => hb.block b hlt).mono fun b hh => ⟨hh.1, Nat.lt_of_lt_of_le hh.2 hb.size⟩⟩
theorem FsS.fsB {w : World} {bI n cI bD m cD : Nat} {d : FD} {F : Nat → Prop} (h : FsS w bI n cI bD m cD d F) : FsU w (.slice (some ⟨bI, 0, none⟩) n cI) (.slice (some ⟨bD, 0, none⟩) m cD) d (fun b => F b ∧ b < w.heap.size) := by
  obtain ⟨F1, G1, h1, h2, h3, h4⟩ := h
  exact ⟨F1, G1, h1.inos, h2.byts, h3, fun b hb => h4 b hb⟩
/-- A file at work: where it lies, and its file system around it. -/
structure FileS (w0 w : World) (bf bI n cI bD cD : Nat) (d : FD) (j : Nat) (x : ID) (aB : Option Addr) (cB : Nat) (aE : Option Addr) (cE : Nat) : Prop where
  below : Below w0.heap.size w0 w
  new : w0.heap.size ≤ bf
  box : OwnRow w bf 8 (cel [.int .i64 x.1, .int .i64 x.2.1, .int .i64 x.2.2.1, .slice aB x.2.2.2.1.length cB, .slice aE x.2.2.2.2.length cE, .int .i64 (j : Int), .slice (some ⟨bI, 0, none⟩) n cI, .slice (some ⟨bD, 0, none⟩) 20 cD])
  fs : FsS w bI n cI bD 20 cD d (fun c => w0.heap.size ≤ c ∧ c ≠ bf)
  blk : BlkR w bD aB x.2.2.2.1

set_option maxHeartbeats 3200000 in
theorem openFile_row (w : World) (a1 : Option Addr) (n1 c1 : Nat) (a2 : Option Addr) (n2 c2 : Nat) (d : FD) (j : Nat) (h : FsR w (.slice a1 n1 c1) (.slice a2 n2 c2) d) (hs : sizeFs d ≤ 1048576) (h20 : d.2.length = 20) (hj : j < d.1.length) (h10 : d.1.length ≤ 10) :
    Calls Tryz.prog 234 #[.agg #[.slice a1 n1 c1, .slice a2 n2 c2], .int .i64 (j : Int)] w fun e w' => ∃ bf bI cI bD cD aB cB aE cE, e = .returned (.pointer (some ⟨bf, 0, none⟩)) ∧ (FileS w w' bf bI d.1.length cI bD cD d j (d.1[j]?.getD id0) aB cB aE cE ∧ w'.cell? ⟨bI, j * 5 + 3, none⟩ = some (.slice aB (d.1[j]?.getD id0).2.2.2.1.length cB) ∧ w'.cell? ⟨bI, j * 5 + 4, none⟩ = some (.slice aE (d.1[j]?.getD id0).2.2.2.2.length cE)) := by
  have HCP : Hid (Calls Tryz.prog 104 #[.agg #[.slice a1 n1 c1, .slice a2 n2 c2]] (w.alloc (.cells #[.slice a1 n1 c1, .slice a2 n2 c2] 32)) (AnsFs (w.alloc (.cells #[.slice a1 n1 c1, .slice a2 n2 c2] 32)) d)) := copyOfFs_any _ a1 n1 c1 a2 n2 c2 d (h.later (later1 _ _)) hs (by omega)
  clear h hs
  go_enter Tryz.func234, Tryz.ntmps234
  go_wp2_with fail
  refine HCP.out.mono ?_
  rintro e w1 ⟨b1, m1, cI, b2, m2, cD, rfl, hb1, hf1⟩
  obtain ⟨bI, e1, bD, e2, eI, eD, hfs⟩ := FsS.of hf1 (by omega) (by omega)
  simp only [Value.slice.injEq] at eI eD
  obtain ⟨rfl, rfl, rfl⟩ := eI
  obtain ⟨rfl, rfl, rfl⟩ := eD
  have HB1 : Hid (Below w.heap.size w w1) := (later1 _ _).trans (hb1.mono (by simp))
  have HFS : Hid (FsS w1 bI d.1.length cI bD 20 cD d (fun c => w.heap.size + 1 ≤ c ∧ c < w1.heap.size)) := by
    rw [h20] at hfs
    exact hfs.mono fun c hc => ⟨by have := hc.1; simp at this; omega, hc.2⟩
  obtain ⟨aB, cB, aE, cE, i0, i1, i2, i3, i4, _, _, i7⟩ := HFS.out.ino j hj
  have hne := HFS.out.ne
  have hlI : bI < w1.heap.size := hne.2.1.2
  have hw1 : w.heap.size + 1 ≤ w1.heap.size := by have := hb1.size; simpa using this
  have HFIN : Hid (FileS w ((w1.alloc (.cells #[.slice (some ⟨bI, 0, none⟩) d.1.length cI, .slice (some ⟨bD, 0, none⟩) 20 cD] 32)).alloc (.cells #[.int .i64 (d.1[j]?.getD id0).1, .int .i64 (d.1[j]?.getD id0).2.1, .int .i64 (d.1[j]?.getD id0).2.2.1, .slice aB (d.1[j]?.getD id0).2.2.2.1.length cB, .slice aE (d.1[j]?.getD id0).2.2.2.2.length cE, .int .i64 (j : Int), .slice (some ⟨bI, 0, none⟩) d.1.length cI, .slice (some ⟨bD, 0, none⟩) 20 cD] 272)).drew (w1.heap.size + 1) bI d.1.length cI bD cD d j (d.1[j]?.getD id0) aB cB aE cE ∧ ((w1.alloc (.cells #[.slice (some ⟨bI, 0, none⟩) d.1.length cI, .slice (some ⟨bD, 0, none⟩) 20 cD] 32)).alloc (.cells #[.int .i64 (d.1[j]?.getD id0).1, .int .i64 (d.1[j]?.getD id0).2.1, .int .i64 (d.1[j]?.getD id0).2.2.1, .slice aB (d.1[j]?.getD id0).2.2.2.1.length cB, .slice aE (d.1[j]?.getD id0).2.2.2.2.length cE, .int .i64 (j : Int), .slice (some ⟨bI, 0, none⟩) d.1.length cI, .slice (some ⟨bD, 0, none⟩) 20 cD] 272)).drew.cell? ⟨bI, j * 5 + 3, none⟩ = some (.slice aB (d.1[j]?.getD id0).2.2.2.1.length cB) ∧ ((w1.alloc (.cells #[.slice (some ⟨bI, 0, none⟩) d.1.length cI, .slice (some ⟨bD, 0, none⟩) 20 cD] 32)).alloc (.cells #[.int .i64 (d.1[j]?.getD id0).1, .int .i64 (d.1[j]?.getD id0).2.1, .int .i64 (d.1[j]?.getD id0).2.2.1, .slice aB (d.1[j]?.getD id0).2.2.2.1.length cB, .slice aE (d.1[j]?.getD id0).2.2.2.2.length cE, .int .i64 (j : Int), .slice (some ⟨bI, 0, none⟩) d.1.length cI, .slice (some ⟨bD, 0, none⟩) 20 cD] 272)).drew.cell? ⟨bI, j * 5 + 4, none⟩ = some (.slice aE (d.1[j]?.getD id0).2.2.2.2.length cE)) := by
    have hl2 : ∀ o o' : Obj, Below w1.heap.size w1 ((w1.alloc o).alloc o').drew := fun o o' => (later2 w1 o o').drew
    refine ⟨⟨HB1.out.trans ((hl2 _ _).mono HB1.out.size), by omega, ?_, (HFS.out.later (hl2 _ _)).mono fun c hc => ⟨by omega, by omega⟩, fun k hk => ?_⟩, cell_later (hl2 _ _) i3, cell_later (hl2 _ _) i4⟩
    · have := newCel (w1.alloc (.cells #[.slice (some ⟨bI, 0, none⟩) d.1.length cI, .slice (some ⟨bD, 0, none⟩) 20 cD] 32)) [.int .i64 (d.1[j]?.getD id0).1, .int .i64 (d.1[j]?.getD id0).2.1, .int .i64 (d.1[j]?.getD id0).2.2.1, .slice aB (d.1[j]?.getD id0).2.2.2.1.length cB, .slice aE (d.1[j]?.getD id0).2.2.2.2.length cE, .int .i64 (j : Int), .slice (some ⟨bI, 0, none⟩) d.1.length cI, .slice (some ⟨bD, 0, none⟩) 20 cD] 272
      rw [World.size_alloc] at this
      exact this.later (Below.refl _ _).drew
    · obtain ⟨b, f1, _, _, f4, f5, f6⟩ := i7 k hk
      exact ⟨b, f1, f4, Nat.lt_of_lt_of_le f5 (hl2 (.cells #[.slice (some ⟨bI, 0, none⟩) d.1.length cI, .slice (some ⟨bD, 0, none⟩) 20 cD] 32) (.cells #[.int .i64 (d.1[j]?.getD id0).1, .int .i64 (d.1[j]?.getD id0).2.1, .int .i64 (d.1[j]?.getD id0).2.2.1, .slice aB (d.1[j]?.getD id0).2.2.2.1.length cB, .slice aE (d.1[j]?.getD id0).2.2.2.2.length cE, .int .i64 (j : Int), .slice (some ⟨bI, 0, none⟩) d.1.length cI, .slice (some ⟨bD, 0, none⟩) 20 cD] 272)).size, cell_later (hl2 _ _) f6⟩
  have hjI : (j : Int) < ((d.1.length : Nat) : Int) := by omega
  rw [h20]
  clear HFS i7 hfs hf1 hb1 hne HCP
  generalize hl1 : (d.1[j]?.getD id0).2.2.2.1.length = l1 at *
  generalize hl2 : (d.1[j]?.getD id0).2.2.2.2.length = l2 at *
  have HL1 : Hid ((d.1[j]?.getD id0).2.2.2.1.length = l1) := hl1
  have HL2 : Hid ((d.1[j]?.getD id0).2.2.2.2.length = l2) := hl2
  clear hl1 hl2
  generalize (d.1[j]?.getD id0).1 = y0 at *
  generalize (d.1[j]?.getD id0).2.1 = y1 at *
  generalize (d.1[j]?.getD id0).2.2.1 = y2 at *
  obtain ⟨n, hn⟩ : ∃ n, d.1.length = n := ⟨_, rfl⟩
  have HN : Hid (d.1.length = n) := hn
  rw [hn] at hj h10 hjI HFIN ⊢
  clear hn
  have hnw1 : w1.heap.size ≠ bI := by omega
  have hnw2 : bI ≠ w1.heap.size := by omega
  go_wp2_with fail
  go_region_held3 (fun W => W.cell? ⟨w1.heap.size, 0, none⟩ = some (.slice (some ⟨bI, 0, none⟩) n cI) ∧ W.cell? ⟨w1.heap.size, 1, none⟩ = some (.slice (some ⟨bD, 0, none⟩) 20 cD) ∧ W.cell? ⟨bI, j * 5, none⟩ = some (.int .i64 y0) ∧ W.cell? ⟨bI, j * 5 + 1, none⟩ = some (.int .i64 y1) ∧ W.cell? ⟨bI, j * 5 + 2, none⟩ = some (.int .i64 y2) ∧ W.cell? ⟨bI, j * 5 + 3, none⟩ = some (.slice aB l1 cB) ∧ W.cell? ⟨bI, j * 5 + 4, none⟩ = some (.slice aE l2 cE)) (go_keep) (fail)
  all_goals
    go_wp2
    go_ret
    first
      | exact ⟨w1.heap.size + 1, bI, cI, bD, cD, aB, cB, aE, cE, rfl, by rw [HL1.out, HL2.out]; exact HFIN.out⟩
      | exact ⟨w1.heap.size + 1, bI, cI, bD, cD, aB, cB, aE, cE, rfl, by rw [HN.out, HL1.out, HL2.out]; exact HFIN.out⟩
theorem openFile_any (w : World) (a1 : Option Addr) (n1 c1 : Nat) (a2 : Option Addr) (n2 c2 : Nat) (d : FD) (j : Nat) (h : FsR w (.slice a1 n1 c1) (.slice a2 n2 c2) d) (hs : sizeFs d ≤ 1048576) (h20 : d.2.length = 20) (hj : j < d.1.length) (h10 : d.1.length ≤ 10) :
    Calls Tryz.prog 234 #[.agg #[.slice a1 n1 c1, .slice a2 n2 c2], .int .i64 (j : Int)] w fun e w' => ∃ bf bI cI bD cD aB cB aE cE, e = .returned (.pointer (some ⟨bf, 0, none⟩)) ∧ FileS w w' bf bI d.1.length cI bD cD d j (d.1[j]?.getD id0) aB cB aE cE := by
  refine (openFile_row w a1 n1 c1 a2 n2 c2 d j h hs h20 hj h10).mono ?_
  rintro e w' ⟨bf, bI, cI, bD, cD, aB, cB, aE, cE, he, hf, _⟩
  exact ⟨bf, bI, cI, bD, cD, aB, cB, aE, cE, he, hf⟩
end Go.Proofs.YtpfafcodihhdfaaGreatDoor

namespace Go.Proofs.YtpfafcodihhdfaaGreatDoor
open Go.RowKit
set_option maxRecDepth 100000

def zero3 : List Value := [.int .i64 0, .slice none 0 0, .slice none 0 0]
theorem row3 (w : World) (t : TypeId) : OwnRow (w.alloc (.cells #[.int .i64 0, .slice none 0 0, .slice none 0 0] t)) w.heap.size 3 (cel zero3) := newCel w zero3 t
theorem setZ_ino (w : World) (F : Nat → Prop) : InoU w (.int .i64 id0.1) (.int .i64 id0.2.1) (.int .i64 id0.2.2.1) (.slice none 0 0) (.slice none 0 0) id0 F := ⟨⟨rfl, rfl, rfl, none, 0, 0, rfl, Nat.le_refl _⟩, fun _ => False, fun _ => False, Or.inl ⟨rfl, none, 0, rfl⟩, Or.inl ⟨rfl, none, 0, rfl⟩, fun _ h => h.elim, fun _ h => h.elim False.elim False.elim⟩
set_option maxHeartbeats 1600000 in
theorem dropF_any (w0 w : World) (bf bI n cI bD cD : Nat) (d : FD) (j : Nat) (x : ID) (aB : Option Addr) (cB : Nat) (aE : Option Addr) (cE : Nat) (h : FileS w0 w bf bI n cI bD cD d j x aB cB aE cE) (hr : ∀ k : Nat, k < x.2.2.2.1.length → 0 ≤ x.2.2.2.1[k]?.getD 0 ∧ x.2.2.2.1[k]?.getD 0 < 20) (h4 : x.2.2.2.1.length ≤ 4) :
    Calls Tryz.prog 235 #[.pointer (some ⟨bf, 0, none⟩)] w fun e w' => e = .returned (.tuple #[]) ∧ FileS w0 w' bf bI n cI bD cD (d.1, clrK d.2 x.2.2.2.1 x.2.2.2.1.length) j id0 none 0 none 0 := by
  have HFL : Hid (FileS w0 w bf bI n cI bD cD d j x aB cB aE cE) := h
  have hne := h.fs.ne
  have hnf : w0.heap.size ≤ bf := h.new
  have HDB : Hid (Calls Tryz.prog 247 #[.pointer (some ⟨bf, 0, none⟩)] w fun e w' => e = .returned (.tuple #[]) ∧ Chg (fun c => c = bD) w w' ∧ FsS w' bI n cI bD 20 cD (d.1, clrK d.2 x.2.2.2.1 x.2.2.2.1.length) (fun c => w0.heap.size ≤ c ∧ c ≠ bf)) := dropBytes_any w bf bI n cI bD cD d _ _ aB cB x.2.2.2.1 rfl h.box rfl rfl h.fs (fun e => hne.2.2.1.2 e.symm) h.blk hr h4
  clear h hr h4
  go_enter Tryz.func235, Tryz.ntmps235
  go_wp2_with fail
  refine HDB.out.mono ?_
  rintro e w3 ⟨rfl, hc3, hf3⟩
  have HBX3 : Hid (OwnRow w3 bf 8 _) := HFL.out.box.block (hc3.block bf HFL.out.box.lt (fun e => hne.2.2.1.2 e.symm))
  have HB3 : Hid (Below w0.heap.size w0 w3) := HFL.out.below.trans (hc3.below HFL.out.below.size fun b hb => hb ▸ hne.2.2.1.1)
  have HF3 : Hid (FsS w3 bI n cI bD 20 cD (d.1, clrK d.2 x.2.2.2.1 x.2.2.2.1.length) (fun c => w0.heap.size ≤ c ∧ c ≠ bf)) := hf3
  clear hc3 hf3 HDB
  go_wp2_with fail
  refine (release_any w3 bf _ HBX3.out).mono ?_
  rintro e w4 ⟨rfl, hw4⟩
  have HC4 : Hid (Chg (fun c => c = bf) w3 w4) := by
    unfold Hid
    rw [hw4]
    have h0 : Chg (fun c => c = bf) w3 w3 := Chg.refl _ _
    have h1 := Chg.set (F := fun c => c = bf) h0 rfl 0 (.int .i64 0)
    have h2 := Chg.set (F := fun c => c = bf) h1 rfl (0 + 1) (.int .i64 0)
    have h3 := Chg.set (F := fun c => c = bf) h2 rfl (0 + 2) (.int .i64 0)
    have h4 := Chg.set (F := fun c => c = bf) h3 rfl (0 + 3) (.slice none 0 0)
    exact Chg.set (F := fun c => c = bf) h4 rfl (0 + 4) (.slice none 0 0)
  have HBX4 : Hid (OwnRow w4 bf 8 (cel [.int .i64 id0.1, .int .i64 id0.2.1, .int .i64 id0.2.2.1, .slice none 0 0, .slice none 0 0, .int .i64 (j : Int), .slice (some ⟨bI, 0, none⟩) n cI, .slice (some ⟨bD, 0, none⟩) 20 cD])) := by
    unfold Hid
    rw [hw4]
    refine (HBX3.out.five 0 _ _ _ _ _).congr fun i hi => ?_
    match i, hi with
    | 0, _ => rfl
    | 1, _ => rfl
    | 2, _ => rfl
    | 3, _ => rfl
    | 4, _ => rfl
    | 5, _ => rfl
    | 6, _ => rfl
    | 7, _ => rfl
  have HFIN : Hid (FileS w0 w4 bf bI n cI bD cD (d.1, clrK d.2 x.2.2.2.1 x.2.2.2.1.length) j id0 none 0 none 0) := ⟨HB3.out.trans (HC4.out.below HB3.out.size fun b hb => hb ▸ hnf), hnf, HBX4.out, HF3.out.chg HC4.out fun b hb e => hb.2 e, fun k hk => by simp [id0] at hk⟩
  clear hw4 HC4 HBX3 HF3 HB3
  go_wp2
  go_end0
  exact ⟨rfl, HFIN.out⟩
end Go.Proofs.YtpfafcodihhdfaaGreatDoor

namespace Go.Proofs.YtpfafcodihhdfaaGreatDoor
open Go.RowKit
set_option maxRecDepth 100000

theorem dirN_in {d : FD} {x : Int} {s : ByteArray} (h : dirN d x s = 0) : dirQ d x = 0 := by
  unfold dirN at h
  by_cases e : dirQ d x = 0
  · exact e
  · rw [if_neg e] at h; exact absurd h e
theorem dirN_name {d : FD} {x : Int} {s : ByteArray} (h : dirN d x s = 0) : nameF s = 0 := by
  have h' := dirN_in h
  unfold dirN at h
  rw [if_pos h'] at h
  exact h
set_option maxHeartbeats 3200000 in
theorem implLookU (w : World) (a1 : Option Addr) (n1 c1 : Nat) (a2 : Option Addr) (n2 c2 : Nat) (d : FD) (x : Int) (s : ByteArray) (h : FsR w (.slice a1 n1 c1) (.slice a2 n2 c2) d) (hs : sizeFs d ≤ 1048576) (hl : s.size ≤ 1048576) :
    Calls Tryz.prog 103 #[.agg #[.slice a1 n1 c1, .slice a2 n2 c2], .int .i64 x, .string s] w fun e w' => e = .returned (.agg #[.int .i64 (lookR d x s).1, .int .i64 (lookR d x s).2]) ∧ Below w.heap.size w w' := by
  have hml : s.size ≤ maxLen := by unfold maxLen; omega
  have HB0 : Hid (Below w.heap.size w ((w.alloc (.cells #[.slice a1 n1 c1, .slice a2 n2 c2] 32)).alloc (.cells #[.int .i64 0, .int .i64 0] 72))) := later2 _ _ _
  have HX : Hid (Bx ((w.alloc (.cells #[.slice a1 n1 c1, .slice a2 n2 c2] 32)).alloc (.cells #[.int .i64 0, .int .i64 0] 72)) w.heap.size [.slice a1 n1 c1, .slice a2 n2 c2]) := (Bx.new w [.slice a1 n1 c1, .slice a2 n2 c2] _).later (later1 _ _)
  have HRB : Hid (OwnRow ((w.alloc (.cells #[.slice a1 n1 c1, .slice a2 n2 c2] 32)).alloc (.cells #[.int .i64 0, .int .i64 0] 72)) (w.heap.size + 1) 2 (fun i => if i = 0 then .int .i64 0 else .int .i64 0)) := by
    have := OwnRow.newS (w.alloc (.cells #[.slice a1 n1 c1, .slice a2 n2 c2] 32)) (.int .i64 0) (.int .i64 0) 72
    rw [World.size_alloc] at this
    exact this
  have HF : Hid (∀ W, Below w.heap.size w W → Calls Tryz.prog 112 #[.agg #[.slice a1 n1 c1, .slice a2 n2 c2], .int .i64 x, .string s] W fun e w' => e = .returned (.int .i64 (dirN d x s)) ∧ Below W.heap.size W w') := fun W hW => dirNameFault_any W _ _ _ _ _ _ d x s (h.later hW) (by unfold sizeFs at hs; omega) hml
  have HRR : Hid (lookR d x s = if dirN d x s = 0 then (if idxE (entA d x.toNat) s < (entA d x.toNat).length then (0, ((entA d x.toNat)[idxE (entA d x.toNat) s]?.getD en0).2) else (4, 0)) else (dirN d x s, 0)) := rfl
  rw [HRR.out]
  clear HRR
  by_cases hq : dirN d x s = 0
  rotate_left
  · rw [if_neg hq]
    have hb : (dirN d x s != 0) = true := by simpa using hq
    clear hq h hs
    generalize dirN d x s = r at *
    go_enter Tryz.func103, Tryz.ntmps103
    go_wp2_with fail
    generalize ((w.alloc (.cells #[.slice a1 n1 c1, .slice a2 n2 c2] 32)).alloc (.cells #[.int .i64 0, .int .i64 0] 72)) = W0 at *
    refine (HF.out _ HB0.out).mono ?_
    rintro e w1 ⟨rfl, hb1⟩
    have HB1 : Hid (Below w.heap.size w w1) := HB0.out.trans (hb1.mono HB0.out.size)
    have hrow := HRB.out.later hb1
    have t0 := hrow.cell (i := 0) (by omega)
    have t1 := hrow.cell (i := 1) (by omega)
    have s0 := hrow.frozen 0
    have s1 := hrow.frozen 1
    simp only [ite_self] at t0 t1
    clear hb1 hrow
    go_wp2
    exact bodyPost_ret (v := .agg #[.int .i64 r, .int .i64 0]) (by simp [results, Tryz.results103, go_sem, t0, t1]) rfl ⟨rfl, (HB1.out.setCell (by simp) _).setCell (by simp) _⟩
  · rw [if_pos hq]
    have hq0 : dirQ d x = 0 := dirN_in hq
    have hds := dirS hq0
    obtain ⟨_, hp, _⟩ := dirQ_in hq0
    obtain ⟨j, rfl⟩ : ∃ j : Nat, x = (j : Int) := ⟨x.toNat, by omega⟩
    rw [Int.toNat_natCast] at hds ⊢
    obtain ⟨b0, o0, aE, cE, rfl, rfl, k4, hE⟩ := h.dir hds.lt
    have HK4 : Hid (_ = _) := k4
    have hjn : (j : Int) < ((d.1.length : Nat) : Int) := by omega
    have hlt := hds.lt
    have h6 := hds.six
    obtain ⟨_, _, eE, _, _, hAt⟩ := hE.open'
    simp only [Value.slice.injEq] at eE
    obtain ⟨rfl, -, rfl⟩ := eE
    rw [hq] at HF
    have HPL : Hid (∀ W, Below w.heap.size w W → Calls Tryz.prog 113 #[.slice aE (entA d j).length cE, .string s] W fun e w' => e = .returned (.tuple #[.int .i64 ((plcE (entA d j) s : Nat) : Int), .bool (fndB (entA d j) s)]) ∧ Below W.heap.size W w') := fun W hW => placeOf_any W aE _ cE (entA d j) s rfl (by omega) (hAt.later hW)
    rw [fnd_iff hds.rises] at HPL
    by_cases hi : idxE (entA d j) s < (entA d j).length
    · rw [if_pos hi]
      rw [decide_eq_true hi, idx_plc hds.rises hi] at HPL
      obtain ⟨bE, oE, rfl, _, l1⟩ := hAt _ hi
      have HL1 : Hid (_ = _) := l1
      clear hq hds hp hE k4 h hAt l1 hq0
      generalize ((entA d j)[idxE (entA d j) s]?.getD en0).2 = y at *
      generalize idxE (entA d j) s = i at *
      generalize (entA d j).length = m at *
      generalize d.1.length = n at *
      have hiI : (i : Int) < (m : Int) := by omega
      go_enter Tryz.func103, Tryz.ntmps103
      go_wp2_with fail
      generalize ((w.alloc (.cells #[.slice (some ⟨b0, o0, none⟩) n c1, .slice a2 n2 c2] 32)).alloc (.cells #[.int .i64 0, .int .i64 0] 72)) = W0 at *
      refine (HF.out _ HB0.out).mono ?_
      rintro e w1 ⟨rfl, hb1⟩
      have HB1 : Hid (Below w.heap.size w w1) := HB0.out.trans (hb1.mono HB0.out.size)
      have HR1 : Hid (OwnRow w1 (w.heap.size + 1) 2 _) := HRB.out.later hb1
      have y0 := (HX.out.later hb1) 0 _ rfl
      have y1 := (HX.out.later hb1) 1 _ rfl
      have k1 := cell_later HB1.out HK4.out
      have l1 := cell_later HB1.out HL1.out
      clear hb1
      go_wp2_with fail
      refine (HPL.out _ HB1.out).mono ?_
      rintro e w2 ⟨rfl, hb2⟩
      have HB2 : Hid (Below w.heap.size w w2) := HB1.out.trans (hb2.mono HB1.out.size)
      have l2 := cell_later hb2 l1
      have hrow := HR1.out.later hb2
      have t0 := hrow.cell (i := 0) (by omega)
      have t1 := hrow.cell (i := 1) (by omega)
      have s0 := hrow.frozen 0
      have s1 := hrow.frozen 1
      simp only [ite_self] at t0 t1
      clear hb2 hrow y0 y1 k1 l1
      go_wp2
      exact bodyPost_ret (v := .agg #[.int .i64 0, .int .i64 y]) (by simp [results, Tryz.results103, go_sem, t0, t1]) rfl ⟨rfl, (HB2.out.setCell (by simp) _).setCell (by simp) _⟩
    · rw [if_neg hi]
      rw [decide_eq_false hi] at HPL
      clear hq hds hp hE k4 h hAt hq0 hi
      generalize plcE (entA d j) s = i at *
      generalize (entA d j).length = m at *
      generalize d.1.length = n at *
      go_enter Tryz.func103, Tryz.ntmps103
      go_wp2_with fail
      generalize ((w.alloc (.cells #[.slice (some ⟨b0, o0, none⟩) n c1, .slice a2 n2 c2] 32)).alloc (.cells #[.int .i64 0, .int .i64 0] 72)) = W0 at *
      refine (HF.out _ HB0.out).mono ?_
      rintro e w1 ⟨rfl, hb1⟩
      have HB1 : Hid (Below w.heap.size w w1) := HB0.out.trans (hb1.mono HB0.out.size)
      have HR1 : Hid (OwnRow w1 (w.heap.size + 1) 2 _) := HRB.out.later hb1
      have y0 := (HX.out.later hb1) 0 _ rfl
      have y1 := (HX.out.later hb1) 1 _ rfl
      have k1 := cell_later HB1.out HK4.out
      clear hb1
      go_wp2_with fail
      refine (HPL.out _ HB1.out).mono ?_
      rintro e w2 ⟨rfl, hb2⟩
      have HB2 : Hid (Below w.heap.size w w2) := HB1.out.trans (hb2.mono HB1.out.size)
      have hrow := HR1.out.later hb2
      have t0 := hrow.cell (i := 0) (by omega)
      have t1 := hrow.cell (i := 1) (by omega)
      have s0 := hrow.frozen 0
      have s1 := hrow.frozen 1
      simp only [ite_self] at t0 t1
      clear hb2 hrow y0 y1 k1
      go_wp2
      exact bodyPost_ret (v := .agg #[.int .i64 4, .int .i64 0]) (by simp [results, Tryz.results103, go_sem, t0, t1]) rfl ⟨rfl, (HB2.out.setCell (by simp) _).setCell (by simp) _⟩

end Go.Proofs.YtpfafcodihhdfaaGreatDoor

namespace Go.Proofs.YtpfafcodihhdfaaGreatDoor
open Go.RowKit
set_option maxRecDepth 100000

/-- Entries in memory that the call made since n₀. -/
def WdE (w : World) (n₀ : Nat) (v : Value) (es : List EN) : Prop := w.ownsRow n₀ 134 2 v es.length (enCells es)
theorem WdE.later {w w' : World} {n₀ : Nat} {v : Value} {es : List EN} (h : WdE w n₀ v es) (hb : Below w.heap.size w w') : WdE w' n₀ v es := ownsRow_later h hb
theorem WdE.shape {w : World} {n₀ : Nat} {v : Value} {es : List EN} (h : WdE w n₀ v es) : ∃ a c, v = .slice a es.length c := ownsRow_shape h
theorem WdE.nil (w : World) (n₀ : Nat) : WdE w n₀ (.slice none 0 0) [] := ⟨by simp [enCells], Or.inl ⟨rfl, rfl⟩⟩
theorem WdE.lit0 (w : World) (n₀ : Nat) (h : n₀ ≤ w.heap.size) : WdE (w.alloc (.cells #[] 134)) n₀ (.slice (some ⟨w.heap.size, 0, none⟩) 0 0) [] :=
  ⟨by simp [enCells], Or.inr ⟨w.heap.size, 0, #[], rfl, h, Go.Deep.blk_alloc_new _ _, Nat.le_refl _, by unfold maxLen; omega, by simp, by simp [enCells]⟩⟩
theorem WdE.own {w : World} {n₀ : Nat} {v : Value} {es : List EN} (h : WdE w n₀ v es) (hz : ∀ k : Nat, (es[k]?.getD en0).1.size ≤ maxLen) : EntsO w v es (fun b => n₀ ≤ b ∧ b < w.heap.size) := by
  obtain ⟨hl, h | ⟨g, cap, cur, rfl, hb, hh, hnc, hcm, hcs, htake⟩⟩ := h
  · exact Or.inl ⟨List.eq_nil_of_length_eq_zero h.2, _, _, by rw [h.1]⟩
  · refine Or.inr ⟨g, cap, ⟨hb, (Array.getElem?_eq_some_iff.1 hh).1⟩, rfl, ⟨by omega, hnc, hz⟩, cur, _, hh, by rw [hcs]; exact Nat.mul_le_mul_right 2 hnc, fun k hk => ?_⟩
    have h1 := enCells_get es k hk
    rw [← htake, List.getElem?_take, if_pos hk, Array.getElem?_toList] at h1
    exact h1
/-- Entries behind those that are there. -/
theorem WdE.push (w : World) (ty : TypeId) (n₀ : Nat) (v : Value) (es fs : List EN) (h : WdE w n₀ v es) (hn₀ : n₀ ≤ w.heap.size) (a : Option Addr) (m c : Nat) (hm : fs.length = m) (hc : AtN w a m fs) (hl : es.length + m ≤ 1048576) :
    ∃ v' X, (Builtin.append_ #[66, 66] ty #[v, .slice a m c]).run Tryz.prog w = .ok v' X ∧ WdE X n₀ v' (es ++ fs) ∧ Below n₀ w X := by
  subst hm
  obtain ⟨i, hi, h1, h2, h3⟩ := Tryz.infoEnt'
  by_cases h0 : fs.length = 0
  · have hfs : fs = [] := List.eq_nil_of_length_eq_zero h0
    subst hfs
    obtain ⟨av, cv, rfl⟩ := h.shape
    refine ⟨_, w, ?_, by rw [List.append_nil]; exact h, Below.refl _ _⟩
    have hcv : es.length ≤ cv := by
      obtain ⟨_, h | ⟨g, cap, cur, e, hb, hh, hnc, _⟩⟩ := h
      · have := h.2; omega
      · simp only [Value.slice.injEq] at e; omega
    cases a <;> cases av <;> simp [Builtin.append_, run_underlying Tryz.underlying66, sizeOf, typeInfo, hi, Builtin.lenOf, Builtin.firstCells, storeCells, loadCells, loadCellsFrom, hcv]
  · obtain ⟨b, off, rfl, _⟩ := hc 0 (by omega)
    obtain ⟨v', X, hr, ho, hg, _⟩ := run_append_own_wide (P := Tryz.prog) w n₀ 66 ty 134 i _ 2 24 Tryz.underlying66 hi h1 h2 h3 rfl (by decide) v es.length (enCells es) h ⟨b, off, none⟩ fs.length c (enCells fs) (enCells_length fs) (fun j u hu => hc.cells rfl j u hu) (enCells_one fs) (by unfold maxLen; omega) (by omega) hn₀
    refine ⟨v', X, hr, ?_, below_grown hg hn₀ (fun k hk => ?_)⟩
    · unfold WdE
      rw [List.length_append, enCells_append]
      exact ho
    · rcases h.2 with ⟨rfl, _⟩ | ⟨g, cap, cur, rfl, hb, _⟩
      · simp [Value.ownBlock] at hk
      · simp [Value.ownBlock] at hk; omega
/-- Entries behind others that have no room: new memory. -/
theorem push_ahead (w : World) (ty : TypeId) (es fs : List EN) (a : Option Addr) (n : Nat) (hn : es.length = n) (he : AtN w a n es) (ha : a = none → n = 0) (a' : Option Addr) (m c : Nat) (hm : fs.length = m) (hm0 : 0 < m) (hc : AtN w a' m fs) (hl : n + m ≤ 1048576) :
    ∃ v' X, (Builtin.append_ #[66, 66] ty #[.slice a n n, .slice a' m c]).run Tryz.prog w = .ok v' X ∧ WdE X w.heap.size v' (es ++ fs) ∧ Below w.heap.size w X := by
  cases a with
  | none =>
    have h0 := ha rfl
    have hes : es = [] := List.eq_nil_of_length_eq_zero (by omega)
    subst hes
    subst h0
    exact WdE.push w ty w.heap.size (.slice none 0 0) [] fs (WdE.nil _ _) (Nat.le_refl _) a' m c hm hc (by simpa using hl)
  | some p =>
    obtain ⟨i, hi, h1, h2, h3⟩ := Tryz.infoEnt'
    subst hn hm
    obtain ⟨b', off', rfl, _⟩ := hc 0 hm0
    have hp : ∀ j u, (enCells es)[j]? = some u → w.cell? (p.add j) = some u := fun j u hu => by
      have hj : j < es.length * 2 := by rw [← enCells_length]; exact (List.getElem?_eq_some_iff.1 hu).1
      obtain ⟨b, off, e, _⟩ := he 0 (by omega)
      simp only [Option.some.injEq] at e
      subst e
      exact he.cells rfl j u hu
    obtain ⟨v', X, hr, ho, hg⟩ := run_append_arg_grows (P := Tryz.prog) w 66 ty 134 i _ 2 24 Tryz.underlying66 hi h1 h2 h3 rfl (by decide) p es.length es.length (enCells es) (enCells_length es) hp ⟨b', off', none⟩ fs.length c (enCells fs) (enCells_length fs) (fun j u hu => hc.cells rfl j u hu) (by omega) (by unfold maxLen; omega) (by omega)
    refine ⟨v', X, hr, ?_, below_grown hg (Nat.le_refl _) (fun k hk => by simp at hk)⟩
    unfold WdE
    rw [List.length_append, enCells_append]
    exact ho
/-- One entry that was just built. -/
theorem lit1_E (w : World) (s : ByteArray) (y : Int) : AtN (w.alloc (.cells #[.string s, .int .i64 y] 134)) (some ⟨w.heap.size, 0, none⟩) 1 [(s, y)] := fun k hk => ⟨w.heap.size, 0, rfl, by
    have h0 : k = 0 := by omega
    subst h0
    rw [new_cell]
    rfl, by
    have h0 : k = 0 := by omega
    subst h0
    rw [new_cell]
    rfl⟩
theorem AtN.take {w : World} {a : Option Addr} {n : Nat} {es : List EN} (h : AtN w a n es) (k : Nat) (hk : k ≤ n) : AtN w a k (es.take k) := fun i hi => by
  obtain ⟨b, off, e, c0, c1⟩ := h i (by omega)
  exact ⟨b, off, e, by rw [List.getElem?_take, if_pos hi]; exact c0, by rw [List.getElem?_take, if_pos hi]; exact c1⟩
theorem AtN.drop {w : World} {b off n : Nat} {es : List EN} (h : AtN w (some ⟨b, off, none⟩) n es) (k : Nat) : AtN w (some ⟨b, off + k * 2, none⟩) (n - k) (es.drop k) := fun i hi => by
  obtain ⟨b', off', e, c0, c1⟩ := h (k + i) (by omega)
  simp only [Option.some.injEq, Addr.mk.injEq, and_true] at e
  obtain ⟨rfl, rfl⟩ := e
  refine ⟨b, off + k * 2, rfl, ?_, ?_⟩
  · rw [List.getElem?_drop, show off + k * 2 + i * 2 = off + (k + i) * 2 by omega]; exact c0
  · rw [List.getElem?_drop, show off + k * 2 + i * 2 + 1 = off + (k + i) * 2 + 1 by omega]; exact c1

/-- The entries of an inode without blocks stored. -/
theorem FsS.entS {w : World} {bI n cI bD cD : Nat} {d : FD} {F G : Nat → Prop} (hfs : FsS w bI n cI bD 20 cD d F) (j : Nat) (hj : j < n) (hblk : (d.1[j]?.getD id0).2.2.2.1 = []) (es : List EN) (vE : Value) (hE : EntsO w vE es G) (hG : ∀ c, G c → ¬ F c ∧ c < w.heap.size) :
    FsS (w.setCell ⟨bI, j * 5 + 4, none⟩ vE) bI n cI bD 20 cD (d.1.set j ((d.1[j]?.getD id0).1, (d.1[j]?.getD id0).2.1, (d.1[j]?.getD id0).2.2.1, [], es), d.2) (fun c => F c ∨ G c) := by
  have hne := hfs.ne
  have hl := hfs.len.1
  obtain ⟨aB, cB, aE, cE, i0, i1, i2, i3, i4, i5, _, _⟩ := hfs.ino j hj
  rw [hblk] at i3
  have h1 : Chg (fun c => c = bI) w (w.setCell ⟨bI, j * 5 + 4, none⟩ vE) := Chg.set (F := fun c => c = bI) (Chg.refl _ w) rfl (j * 5 + 4) vE
  refine hfs.putI j hj _ (.slice aB 0 cB) vE (fun u hu => ?_) h1 ?_ (fun c hc => ⟨(hG c hc).1, by simpa [World.setCell] using (hG c hc).2⟩)
  · have c0 := hu.cell (i := j * 5) (by omega)
    have c1 := hu.cell (i := j * 5 + 1) (by omega)
    have c2 := hu.cell (i := j * 5 + 2) (by omega)
    have c3 := hu.cell (i := j * 5 + 3) (by omega)
    rw [i0] at c0
    rw [i1] at c1
    rw [i2] at c2
    rw [i3] at c3
    have e0 := (Option.some.inj c0).symm
    have e1 := (Option.some.inj c1).symm
    have e2 := (Option.some.inj c2).symm
    have e3 := (Option.some.inj c3).symm
    refine (hu.set (j * 5 + 4) _).congr fun c _ => ?_
    rw [inCell_set d.1 u j (by omega)]
    by_cases q4 : c = j * 5 + 4
    · rw [if_pos q4, if_neg (by omega), if_neg (by omega), if_neg (by omega), if_neg (by omega)]
    · rw [if_neg q4]
      by_cases q0 : c = j * 5
      · rw [if_pos q0, q0, e0]
      · rw [if_neg q0]
        by_cases q1 : c = j * 5 + 1
        · rw [if_pos q1, q1, e1]
        · rw [if_neg q1]
          by_cases q2 : c = j * 5 + 2
          · rw [if_pos q2, q2, e2]
          · rw [if_neg q2]
            by_cases q3 : c = j * 5 + 3
            · rw [if_pos q3, q3, e3]; rfl
            · rw [if_neg q3]
  · exact ⟨⟨rfl, rfl, rfl, aB, 0, cB, rfl, Nat.zero_le _⟩, fun _ => False, G, Or.inl ⟨rfl, aB, cB, rfl⟩, hE.keep fun c hc hlt => h1.block c hlt fun e => (hG c hc).1 (e ▸ hne.2.1.1), fun _ hh => hh.elim, fun b hh => hh.elim False.elim id⟩
/-- The links of an inode stored. -/
theorem FsS.lnkS {w : World} {bI n cI bD cD : Nat} {d : FD} {F : Nat → Prop} (hfs : FsS w bI n cI bD 20 cD d F) (j : Nat) (hj : j < n) (l : Int) :
    FsS (w.setCell ⟨bI, j * 5 + 1, none⟩ (.int .i64 l)) bI n cI bD 20 cD (d.1.set j ((d.1[j]?.getD id0).1, l, (d.1[j]?.getD id0).2.2), d.2) F := by
  have h1 : Chg (fun c => c = bI) w (w.setCell ⟨bI, j * 5 + 1, none⟩ (.int .i64 l)) := Chg.set (F := fun c => c = bI) (Chg.refl _ w) rfl (j * 5 + 1) _
  obtain ⟨F1, G1, ⟨g0, gm, u, G, g1, g2, g3, g4, g5⟩, h2, h3, h4⟩ := hfs
  refine ⟨F1, G1, ⟨by simpa using g0, gm, u, G, g1, g2, g3, ?_, fun i hi => ?_⟩, h2.keep fun c hc hlt => h1.block c hlt fun e => h3 bI g1 (e ▸ hc), h3, fun b hb => ⟨(h4 b hb).1, by simpa [World.setCell] using (h4 b hb).2⟩⟩
  · refine (g4.set (j * 5 + 1) _).congr fun c _ => ?_
    have e := inCell_set d.1 u j (by omega) ((d.1[j]?.getD id0).1, l, (d.1[j]?.getD id0).2.2) (u j).1 (u j).2 c
    have eu : (fun i => if i = j then ((u j).1, (u j).2) else u i) = u := by
      funext i
      by_cases h : i = j
      · rw [if_pos h, h]
      · rw [if_neg h]
    rw [eu] at e
    rw [e]
    by_cases q1 : c = j * 5 + 1
    · rw [if_pos q1, if_neg (by omega), if_pos q1]
    · rw [if_neg q1]
      by_cases q0 : c = j * 5
      · rw [if_pos q0, q0, inCell_0]
      · rw [if_neg q0, if_neg q1]
        by_cases q2 : c = j * 5 + 2
        · rw [if_pos q2, q2, inCell_2]
        · rw [if_neg q2]
          by_cases q3 : c = j * 5 + 3
          · rw [if_pos q3, q3, inCell_3]
          · rw [if_neg q3]
            by_cases q4 : c = j * 5 + 4
            · rw [if_pos q4, q4, inCell_4]
            · rw [if_neg q4]
  · rw [set_getD _ _ _ _ _ (by omega)]
    have hk : ∀ c, G i c → c < w.heap.size → (w.setCell ⟨bI, j * 5 + 1, none⟩ (.int .i64 l)).heap[c]? = w.heap[c]? := fun c hc hlt => h1.block c hlt fun e => (g2 i c hc).2 e
    by_cases e : i = j
    · rw [if_pos e]
      have hv := (g5 i hi).keep hk
      rw [e] at hv ⊢
      obtain ⟨⟨_, _, _, hcap⟩, hrest⟩ := hv
      exact ⟨⟨rfl, rfl, rfl, hcap⟩, hrest⟩
    · rw [if_neg e]
      exact (g5 i hi).keep hk
theorem FsS.boundF {w : World} {bI n cI bD m cD : Nat} {d : FD} {F : Nat → Prop} (h : FsS w bI n cI bD m cD d F) : FsS w bI n cI bD m cD d (fun c => F c ∧ c < w.heap.size) := by
  obtain ⟨F1, G1, h1, h2, h3, h4⟩ := h
  exact ⟨F1, G1, h1, h2, h3, fun b hb => ⟨h4 b hb, (h4 b hb).2⟩⟩
end Go.Proofs.YtpfafcodihhdfaaGreatDoor
