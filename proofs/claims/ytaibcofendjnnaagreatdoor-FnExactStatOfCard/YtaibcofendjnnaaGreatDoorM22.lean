/- Answers of calls: how they are told; a file system that stays. The program's file at work: closed. The program's file at work: opened; DropFile. The program's DropFile. Directories: LookName, of the program and of the specification. Entries that grow by append; cells of an inode of a file system in own memory that turn. The program's AddName: an entry put into its place. Directories: what stays right where an entry goes; how great right inodes are. No program is named here. The program's DropName: an entry taken out of its place. The program's AddName: what it asks; places of a file system that are told. -/
import Derived.Test.YtaibcofendjnnaaGreatDoorM15
import Derived.Test.YtaibcofendjnnaaGreatDoorM21
import Derived.Test.YtaibcofendjnnaaGreatDoorM14
import Derived.Test.YtaibcofendjnnaaGreatDoorM20
import Derived.Test.YtaibcofendjnnaaGreatDoorM02
import Derived.Test.YtaibcofendjnnaaGreatDoorM07
import Derived.ArgAppend
import Derived.Deep.DeepAppendWide
namespace Go.Proofs.YtaibcofendjnnaaGreatDoor
open Go.RowKit
set_option maxRecDepth 100000

def zero7 : List Value := [.int .i64 0, .int .i64 0, .int .i64 0, .slice none 0 0, .slice none 0 0, .slice none 0 0, .slice none 0 0]
theorem row7 (w : World) (t : TypeId) : OwnRow (w.alloc (.cells #[.int .i64 0, .int .i64 0, .int .i64 0, .slice none 0 0, .slice none 0 0, .slice none 0 0, .slice none 0 0] t)) w.heap.size 7 (cel zero7) := newCel w zero7 t
/-- An answer that is a code alone; one that leaves the file system as it was. -/
def noCR (c : Int) : Int × CRD := (c, 0, 0, [], [], [], [])
def stayR (d : FD) (c : Int) : Int × CRD := (0, c, 0, [], [], d)
theorem below7 {w W : World} {rb : Nat} (hB : Below w.heap.size w W) (hrb : w.heap.size ≤ rb) (x0 x1 x2 x3 x4 x5 x6 : Value) : Below w.heap.size w (((((((W.setCell ⟨rb, 0, none⟩ x0).setCell ⟨rb, 1, none⟩ x1).setCell ⟨rb, 2, none⟩ x2).setCell ⟨rb, 3, none⟩ x3).setCell ⟨rb, 4, none⟩ x4).setCell ⟨rb, 5, none⟩ x5).setCell ⟨rb, 6, none⟩ x6) := ((((((hB.setCell hrb _).setCell hrb _).setCell hrb _).setCell hrb _).setCell hrb _).setCell hrb _).setCell hrb _
theorem blk7 {W : World} {rb : Nat} {b : Nat} (h : b ≠ rb) (x0 x1 x2 x3 x4 x5 x6 : Value) : (((((((W.setCell ⟨rb, 0, none⟩ x0).setCell ⟨rb, 1, none⟩ x1).setCell ⟨rb, 2, none⟩ x2).setCell ⟨rb, 3, none⟩ x3).setCell ⟨rb, 4, none⟩ x4).setCell ⟨rb, 5, none⟩ x5).setCell ⟨rb, 6, none⟩ x6).heap[b]? = W.heap[b]? := by
  rw [Below.heap_setCell _ _ _ _ h, Below.heap_setCell _ _ _ _ h, Below.heap_setCell _ _ _ _ h, Below.heap_setCell _ _ _ _ h, Below.heap_setCell _ _ _ _ h, Below.heap_setCell _ _ _ _ h, Below.heap_setCell _ _ _ _ h]
theorem size7 {W : World} {rb : Nat} (x0 x1 x2 x3 x4 x5 x6 : Value) : (((((((W.setCell ⟨rb, 0, none⟩ x0).setCell ⟨rb, 1, none⟩ x1).setCell ⟨rb, 2, none⟩ x2).setCell ⟨rb, 3, none⟩ x3).setCell ⟨rb, 4, none⟩ x4).setCell ⟨rb, 5, none⟩ x5).setCell ⟨rb, 6, none⟩ x6).heap.size = W.heap.size := by simp only [World.setCell, Array.size_modify]
theorem AnsCR.put {w W : World} {rb : Nat} {c z1 z2 : Int} {a3 : Option Addr} {n3 c3 : Nat} {a4 : Option Addr} {n4 c4 : Nat} {a5 : Option Addr} {n5 c5 : Nat} {a6 : Option Addr} {n6 c6 : Nat} {d : CRD} (hB : Below w.heap.size w W) (hrb : w.heap.size ≤ rb) (h : CResU W (.int .i64 z1) (.int .i64 z2) (.slice a3 n3 c3) (.slice a4 n4 c4) (.slice a5 n5 c5) (.slice a6 n6 c6) d (fun b => w.heap.size ≤ b ∧ b < W.heap.size ∧ b ≠ rb)) (x0 x1 x2 x3 x4 x5 x6 : Value) :
    AnsCR w (c, d) (.returned (.agg #[.int .i64 c, .int .i64 z1, .int .i64 z2, .slice a3 n3 c3, .slice a4 n4 c4, .slice a5 n5 c5, .slice a6 n6 c6])) (((((((W.setCell ⟨rb, 0, none⟩ x0).setCell ⟨rb, 1, none⟩ x1).setCell ⟨rb, 2, none⟩ x2).setCell ⟨rb, 3, none⟩ x3).setCell ⟨rb, 4, none⟩ x4).setCell ⟨rb, 5, none⟩ x5).setCell ⟨rb, 6, none⟩ x6) :=
  ⟨_, _, _, _, _, _, _, _, _, _, _, _, _, _, rfl, below7 hB hrb _ _ _ _ _ _ _, (h.keep fun b hb _ => blk7 hb.2.2 _ _ _ _ _ _ _).mono fun b hb => ⟨hb.1, by rw [size7]; exact hb.2.1⟩⟩
theorem AnsCR.pass {w W W2 : World} {rb : Nat} {c z1 z2 : Int} {a3 : Option Addr} {n3 c3 : Nat} {a4 : Option Addr} {n4 c4 : Nat} {a5 : Option Addr} {n5 c5 : Nat} {a6 : Option Addr} {n6 c6 : Nat} {d : CRD} (hB : Below w.heap.size w W) (hrb : w.heap.size ≤ rb) (hr : rb < W.heap.size) (hb : Below W.heap.size W W2) (h : CResU W2 (.int .i64 z1) (.int .i64 z2) (.slice a3 n3 c3) (.slice a4 n4 c4) (.slice a5 n5 c5) (.slice a6 n6 c6) d (fresh W W2)) (x0 x1 x2 x3 x4 x5 x6 : Value) :
    AnsCR w (c, d) (.returned (.agg #[.int .i64 c, .int .i64 z1, .int .i64 z2, .slice a3 n3 c3, .slice a4 n4 c4, .slice a5 n5 c5, .slice a6 n6 c6])) (((((((W2.setCell ⟨rb, 0, none⟩ x0).setCell ⟨rb, 1, none⟩ x1).setCell ⟨rb, 2, none⟩ x2).setCell ⟨rb, 3, none⟩ x3).setCell ⟨rb, 4, none⟩ x4).setCell ⟨rb, 5, none⟩ x5).setCell ⟨rb, 6, none⟩ x6) :=
  AnsCR.put (hB.trans (hb.mono hB.size)) hrb (h.mono fun b hh => ⟨by have := hh.1; have := hB.size; omega, hh.2, by have := hh.1; omega⟩) _ _ _ _ _ _ _
theorem CResU.nil (w : World) (c v : Int) (F : Nat → Prop) : CResU w (.int .i64 c) (.int .i64 v) (.slice none 0 0) (.slice none 0 0) (.slice none 0 0) (.slice none 0 0) (c, v, [], [], [], []) F :=
  ⟨⟨rfl, rfl⟩, fun _ => False, fun _ => False, fun _ => False, Or.inl ⟨rfl, _, _, rfl⟩, Or.inl ⟨rfl, _, _, rfl⟩, ⟨fun _ => False, fun _ => False, Or.inl ⟨rfl, _, _, rfl⟩, Or.inl ⟨rfl, _, _, rfl⟩, fun _ h => h.elim, fun _ h => h.elim id id⟩, fun _ h => h.elim, fun _ h => h.elim, fun _ h => h.elim False.elim fun h => h.elim False.elim False.elim⟩
theorem CResU.fs {w : World} {v5 v6 : Value} {d : FD} {F : Nat → Prop} (c v : Int) (h : FsU w v5 v6 d F) : CResU w (.int .i64 c) (.int .i64 v) (.slice none 0 0) (.slice none 0 0) v5 v6 (c, v, [], [], d) F :=
  ⟨⟨rfl, rfl⟩, fun _ => False, fun _ => False, F, Or.inl ⟨rfl, _, _, rfl⟩, Or.inl ⟨rfl, _, _, rfl⟩, h, fun _ h => h.elim, fun _ h => h.elim, fun _ h => h.elim False.elim fun h => h.elim False.elim id⟩
theorem AnsCR.no {w W : World} {rb : Nat} (c : Int) (hB : Below w.heap.size w W) (hrb : w.heap.size ≤ rb) (x0 x1 x2 x3 x4 x5 x6 : Value) :
    AnsCR w (noCR c) (.returned (.agg #[.int .i64 c, .int .i64 0, .int .i64 0, .slice none 0 0, .slice none 0 0, .slice none 0 0, .slice none 0 0])) (((((((W.setCell ⟨rb, 0, none⟩ x0).setCell ⟨rb, 1, none⟩ x1).setCell ⟨rb, 2, none⟩ x2).setCell ⟨rb, 3, none⟩ x3).setCell ⟨rb, 4, none⟩ x4).setCell ⟨rb, 5, none⟩ x5).setCell ⟨rb, 6, none⟩ x6) := AnsCR.put hB hrb (CResU.nil W 0 0 _) _ _ _ _ _ _ _
theorem AnsCR.later {w w2 w3 : World} {r : Int × CRD} {e : Ending} (h : AnsCR w r e w2) (hb : Below w2.heap.size w2 w3) (hw : w.heap.size ≤ w2.heap.size) : AnsCR w r e w3 := by
  obtain ⟨z1, z2, a3, n3, c3, a4, n4, c4, a5, n5, c5, a6, n6, c6, h1, h2, h3⟩ := h
  exact ⟨z1, z2, a3, n3, c3, a4, n4, c4, a5, n5, c5, a6, n6, c6, h1, h2.trans (hb.mono hw), (h3.later hb).mono fun b hh => ⟨hh.1, by have := hb.size; have := hh.2; omega⟩⟩

set_option maxHeartbeats 1600000 in
theorem stayed_any (w : World) (a1 : Option Addr) (n1 c1 : Nat) (a2 : Option Addr) (n2 c2 : Nat) (d : FD) (c : Int) (h : FsR w (.slice a1 n1 c1) (.slice a2 n2 c2) d) (hs : sizeFs d ≤ 1048576) (h60 : d.2.length ≤ 60) :
    Calls Tryz.prog 40 #[.agg #[.slice a1 n1 c1, .slice a2 n2 c2], .int .i64 c] w (AnsCR w (stayR d c)) := by
  have HB0 : Hid (Below w.heap.size w ((w.alloc (.cells #[.slice a1 n1 c1, .slice a2 n2 c2] 32)).alloc (.cells #[.int .i64 0, .int .i64 0, .int .i64 0, .slice none 0 0, .slice none 0 0, .slice none 0 0, .slice none 0 0] 44))) := later2 _ _ _
  have HRS : Hid (OwnRow ((w.alloc (.cells #[.slice a1 n1 c1, .slice a2 n2 c2] 32)).alloc (.cells #[.int .i64 0, .int .i64 0, .int .i64 0, .slice none 0 0, .slice none 0 0, .slice none 0 0, .slice none 0 0] 44)) (w.heap.size + 1) 7 (cel zero7)) := by
    have p2 := row7 (w.alloc (.cells #[.slice a1 n1 c1, .slice a2 n2 c2] 32)) 44
    rw [World.size_alloc] at p2
    exact p2
  have HCF : Hid (∀ W, Below w.heap.size w W → Calls Tryz.prog 73 #[.agg #[.slice a1 n1 c1, .slice a2 n2 c2]] W (AnsFs W d)) := fun W hW => copyOfFs_any W _ _ _ _ _ _ d (h.later hW) hs h60
  clear h hs h60
  go_enter Tryz.func40, Tryz.ntmps40
  go_wp2_with fail
  generalize ((w.alloc (.cells #[.slice a1 n1 c1, .slice a2 n2 c2] 32)).alloc (.cells #[.int .i64 0, .int .i64 0, .int .i64 0, .slice none 0 0, .slice none 0 0, .slice none 0 0, .slice none 0 0] 44)) = W0 at *
  refine (HCF.out _ HB0.out).mono ?_
  rintro e w1 ⟨b1, m1, k1, b2, m2, k2, rfl, hb1, hf1⟩
  have hrr := HRS.out.later hb1
  have HU : Hid (FsU w1 (.slice b1 m1 k1) (.slice b2 m2 k2) d (fresh W0 w1)) := hf1
  have HB1 : Hid (Below W0.heap.size W0 w1) := hb1
  have hlt : w.heap.size + 1 < W0.heap.size := HRS.out.lt
  have t0 : w1.cell? ⟨w.heap.size + 1, 0, none⟩ = some (.int .i64 0) := hrr.cell (i := 0) (by omega)
  have t1 : w1.cell? ⟨w.heap.size + 1, 1, none⟩ = some (.int .i64 0) := hrr.cell (i := 1) (by omega)
  have t2 : w1.cell? ⟨w.heap.size + 1, 2, none⟩ = some (.int .i64 0) := hrr.cell (i := 2) (by omega)
  have t3 : w1.cell? ⟨w.heap.size + 1, 3, none⟩ = some (.slice none 0 0) := hrr.cell (i := 3) (by omega)
  have t4 : w1.cell? ⟨w.heap.size + 1, 4, none⟩ = some (.slice none 0 0) := hrr.cell (i := 4) (by omega)
  have t5 : w1.cell? ⟨w.heap.size + 1, 5, none⟩ = some (.slice none 0 0) := hrr.cell (i := 5) (by omega)
  have t6 : w1.cell? ⟨w.heap.size + 1, 6, none⟩ = some (.slice none 0 0) := hrr.cell (i := 6) (by omega)
  have s0 := hrr.frozen 0
  have s1 := hrr.frozen 1
  have s2 := hrr.frozen 2
  have s3 := hrr.frozen 3
  have s4 := hrr.frozen 4
  have s5 := hrr.frozen 5
  have s6 := hrr.frozen 6
  clear hb1 hf1 hrr
  go_wp2
  exact bodyPost_ret (v := .agg #[.int .i64 0, .int .i64 c, .int .i64 0, .slice none 0 0, .slice none 0 0, .slice b1 m1 k1, .slice b2 m2 k2]) (by simp [results, Tryz.results40, go_sem, t0, t1, t2, t3, t4, t5, t6]) rfl (AnsCR.pass HB0.out (by omega) hlt HB1.out (CResU.fs c 0 HU.out) _ _ _ _ _ _ _)

set_option maxHeartbeats 1600000 in
theorem l10Reply_any (w : World) (a1 : Option Addr) (n1 c1 : Nat) (a2 : Option Addr) (n2 c2 : Nat) (d : FD) (c : Int) (h : FsR w (.slice a1 n1 c1) (.slice a2 n2 c2) d) (hs : sizeFs d ≤ 1048576) :
    Calls Tryz.prog 67 #[.agg #[.slice a1 n1 c1, .slice a2 n2 c2], .int .i64 c] w (AnsCR w (stayR d c)) := by
  have HB0 : Hid (Below w.heap.size w ((w.alloc (.cells #[.slice a1 n1 c1, .slice a2 n2 c2] 32)).alloc (.cells #[.int .i64 0, .int .i64 0, .int .i64 0, .slice none 0 0, .slice none 0 0, .slice none 0 0, .slice none 0 0] 44))) := later2 _ _ _
  have HRS : Hid (OwnRow ((w.alloc (.cells #[.slice a1 n1 c1, .slice a2 n2 c2] 32)).alloc (.cells #[.int .i64 0, .int .i64 0, .int .i64 0, .slice none 0 0, .slice none 0 0, .slice none 0 0, .slice none 0 0] 44)) (w.heap.size + 1) 7 (cel zero7)) := by
    have p2 := row7 (w.alloc (.cells #[.slice a1 n1 c1, .slice a2 n2 c2] 32)) 44
    rw [World.size_alloc] at p2
    exact p2
  have HCF : Hid (∀ W, Below w.heap.size w W → Calls Tryz.prog 68 #[.agg #[.slice a1 n1 c1, .slice a2 n2 c2]] W (AnsFs W d)) := fun W hW => l6Copy_any W _ _ _ _ _ _ d (h.later hW) hs
  clear h hs
  go_enter Tryz.func67, Tryz.ntmps67
  go_wp2_with fail
  generalize ((w.alloc (.cells #[.slice a1 n1 c1, .slice a2 n2 c2] 32)).alloc (.cells #[.int .i64 0, .int .i64 0, .int .i64 0, .slice none 0 0, .slice none 0 0, .slice none 0 0, .slice none 0 0] 44)) = W0 at *
  refine (HCF.out _ HB0.out).mono ?_
  rintro e w1 ⟨b1, m1, k1, b2, m2, k2, rfl, hb1, hf1⟩
  have hrr := HRS.out.later hb1
  have HU : Hid (FsU w1 (.slice b1 m1 k1) (.slice b2 m2 k2) d (fresh W0 w1)) := hf1
  have HB1 : Hid (Below W0.heap.size W0 w1) := hb1
  have hlt : w.heap.size + 1 < W0.heap.size := HRS.out.lt
  have t0 : w1.cell? ⟨w.heap.size + 1, 0, none⟩ = some (.int .i64 0) := hrr.cell (i := 0) (by omega)
  have t1 : w1.cell? ⟨w.heap.size + 1, 1, none⟩ = some (.int .i64 0) := hrr.cell (i := 1) (by omega)
  have t2 : w1.cell? ⟨w.heap.size + 1, 2, none⟩ = some (.int .i64 0) := hrr.cell (i := 2) (by omega)
  have t3 : w1.cell? ⟨w.heap.size + 1, 3, none⟩ = some (.slice none 0 0) := hrr.cell (i := 3) (by omega)
  have t4 : w1.cell? ⟨w.heap.size + 1, 4, none⟩ = some (.slice none 0 0) := hrr.cell (i := 4) (by omega)
  have t5 : w1.cell? ⟨w.heap.size + 1, 5, none⟩ = some (.slice none 0 0) := hrr.cell (i := 5) (by omega)
  have t6 : w1.cell? ⟨w.heap.size + 1, 6, none⟩ = some (.slice none 0 0) := hrr.cell (i := 6) (by omega)
  have s0 := hrr.frozen 0
  have s1 := hrr.frozen 1
  have s2 := hrr.frozen 2
  have s3 := hrr.frozen 3
  have s4 := hrr.frozen 4
  have s5 := hrr.frozen 5
  have s6 := hrr.frozen 6
  clear hb1 hf1 hrr
  go_wp2
  exact bodyPost_ret (v := .agg #[.int .i64 0, .int .i64 c, .int .i64 0, .slice none 0 0, .slice none 0 0, .slice b1 m1 k1, .slice b2 m2 k2]) (by simp [results, Tryz.results67, go_sem, t0, t1, t2, t3, t4, t5, t6]) rfl (AnsCR.pass HB0.out (by omega) hlt HB1.out (CResU.fs c 0 HU.out) _ _ _ _ _ _ _)

/-- Where a path leads, if it is no directory. -/
def fileR (d : FD) (s : ByteArray) : Int × Int := if (walkR d s).1 = 0 ∧ kindAt d.1 (walkR d s).2.toNat = 2 then (9, 0) else walkR d s
set_option maxHeartbeats 3200000 in
theorem fileAt_any (w : World) (a1 : Option Addr) (n1 c1 : Nat) (a2 : Option Addr) (n2 c2 : Nat) (d : FD) (s : ByteArray) (h : FsR w (.slice a1 n1 c1) (.slice a2 n2 c2) d) (hs : sizeFs d ≤ 1048576) (hl : s.size ≤ 1048576) (hgl : Gl w) :
    Calls Tryz.prog 39 #[.agg #[.slice a1 n1 c1, .slice a2 n2 c2], .string s] w fun e w' => e = .returned (.agg #[.int .i64 (fileR d s).1, .int .i64 (fileR d s).2]) ∧ Below w.heap.size w w' := by
  have HB0 : Hid (Below w.heap.size w ((w.alloc (.cells #[.slice a1 n1 c1, .slice a2 n2 c2] 32)).alloc (.cells #[.int .i64 0, .int .i64 0] 28))) := later2 _ _ _
  have HX : Hid (Bx ((w.alloc (.cells #[.slice a1 n1 c1, .slice a2 n2 c2] 32)).alloc (.cells #[.int .i64 0, .int .i64 0] 28)) w.heap.size [.slice a1 n1 c1, .slice a2 n2 c2]) := (Bx.new w [.slice a1 n1 c1, .slice a2 n2 c2] _).later (later1 _ _)
  have HRS : Hid (OwnRow ((w.alloc (.cells #[.slice a1 n1 c1, .slice a2 n2 c2] 32)).alloc (.cells #[.int .i64 0, .int .i64 0] 28)) (w.heap.size + 1) 2 (cel [.int .i64 0, .int .i64 0])) := by
    have p2 := newCel (w.alloc (.cells #[.slice a1 n1 c1, .slice a2 n2 c2] 32)) [.int .i64 0, .int .i64 0] 28
    rw [World.size_alloc] at p2
    exact p2
  have HW : Hid (∀ W, Below w.heap.size w W → Calls Tryz.prog 10 #[.agg #[.slice a1 n1 c1, .slice a2 n2 c2], .string s] W fun e w' => e = .returned (.agg #[.int .i64 (walkR d s).1, .int .i64 (walkR d s).2]) ∧ Below W.heap.size W w') := fun W hW => implWalkV W a1 n1 c1 a2 n2 c2 d s (h.later hW) hs hl (hgl.later hW)
  have HFR : Hid (fileR d s = if (walkR d s).1 = 0 ∧ kindAt d.1 (walkR d s).2.toNat = 2 then (9, 0) else walkR d s) := rfl
  have HK : Hid ((walkR d s).1 = 0 → ∃ y : Nat, (walkR d s).2 = (y : Int) ∧ y < d.1.length ∧ d.1.length ≤ 10) := fun h0 => by
    obtain ⟨hok, y, h1, h2⟩ := walk_place h0
    exact ⟨y, h1, h2, hok.ten⟩
  obtain ⟨_, _, e1, -, hAt⟩ := h.1.open'
  simp only [Value.slice.injEq] at e1
  obtain ⟨rfl, rfl, rfl⟩ := e1
  have HAT : Hid (AtI w a1 d.1.length d.1) := hAt
  obtain ⟨RES, hRES⟩ : ∃ r, fileR d s = r := ⟨_, rfl⟩
  have HRES : Hid (fileR d s = RES) := hRES
  rw [hRES]
  clear h hs hl hgl hAt hRES
  obtain ⟨pr, hpr⟩ : ∃ p, walkR d s = p := ⟨_, rfl⟩
  rw [hpr] at HW HK HFR
  clear hpr
  obtain ⟨pc, pv⟩ := pr
  dsimp only at HW HK HFR
  obtain ⟨nn, hnn⟩ : ∃ nn, d.1.length = nn := ⟨_, rfl⟩
  rw [hnn] at HB0 HX HRS HW HK HAT ⊢
  clear hnn
  go_enter Tryz.func39, Tryz.ntmps39
  go_wp2_with fail
  generalize ((w.alloc (.cells #[.slice a1 nn c1, .slice a2 n2 c2] 32)).alloc (.cells #[.int .i64 0, .int .i64 0] 28)) = W0 at *
  refine (HW.out _ HB0.out).mono ?_
  rintro e w1 ⟨rfl, hb1⟩
  have HB1 : Hid (Below w.heap.size w w1) := HB0.out.trans (hb1.mono HB0.out.size)
  have hrr := HRS.out.later hb1
  have hlw : w.heap.size + 1 < w1.heap.size := hrr.lt
  have hlw0 : w.heap.size < w1.heap.size := by omega
  have t0 : w1.cell? ⟨w.heap.size + 1, 0, none⟩ = some (.int .i64 0) := hrr.cell (i := 0) (by omega)
  have t1 : w1.cell? ⟨w.heap.size + 1, 1, none⟩ = some (.int .i64 0) := hrr.cell (i := 1) (by omega)
  have s0 := hrr.frozen 0
  have s1 := hrr.frozen 1
  have x0 := (HX.out.later hb1) 0 _ rfl
  have x1 := (HX.out.later hb1) 1 _ rfl
  clear hb1 hrr
  by_cases hk : pc = 0
  rotate_left
  · have hkb : (pc == 0) = false := by simpa using hk
    have HE : Hid (RES = (pc, pv)) := by unfold Hid; rw [← HRES.out, HFR.out, if_neg (fun hh => hk hh.1)]
    clear hk x0 x1
    go_wp2
    exact bodyPost_ret (v := .agg #[.int .i64 pc, .int .i64 pv]) (by simp [results, Tryz.results39, go_sem, t0, t1, hlw]) rfl ⟨by rw [HE.out], ((HB1.out.setCell (by simp) _).setCell (by simp) _).alloc (by have := HB1.out.size; simpa [World.setCell] using this) _⟩
  · subst hk
    obtain ⟨y, rfl, hyl, h10⟩ := HK.out rfl
    obtain ⟨b0, o0, rfl, hI⟩ := HAT.out y hyl
    obtain ⟨aB, cB, aE, cE, k0, -, -, -, -, -⟩ := hI
    have g0 := cell_later HB1.out k0
    have hyI : (y : Int) < ((nn : Nat) : Int) := by omega
    have hbl : b0 < w1.heap.size := World.block_lt_of_cell? _ _ g0
    by_cases h2 : (d.1[y]?.getD id0).1 = 2
    · have h2b : ((d.1[y]?.getD id0).1 == 2) = true := by simpa using h2
      have HE : Hid (RES = (9, 0)) := by unfold Hid; rw [← HRES.out, HFR.out, if_pos ⟨rfl, by rw [Int.toNat_natCast]; exact h2⟩]
      clear h2 k0
      generalize (d.1[y]?.getD id0).1 = kd at *
      go_wp2
      exact bodyPost_ret (v := .agg #[.int .i64 9, .int .i64 0]) (by simp [results, Tryz.results39, go_sem, t0, t1, hlw]) rfl ⟨by rw [HE.out], ((HB1.out.setCell (by simp) _).setCell (by simp) _).alloc (by have := HB1.out.size; simpa [World.setCell] using this) _⟩
    · have h2b : ((d.1[y]?.getD id0).1 == 2) = false := by simpa using h2
      have HE : Hid (RES = (0, (y : Int))) := by unfold Hid; rw [← HRES.out, HFR.out, if_neg (fun hh => h2 (by have := hh.2; rw [Int.toNat_natCast] at this; exact this))]
      clear h2 k0
      generalize (d.1[y]?.getD id0).1 = kd at *
      go_wp2
      exact bodyPost_ret (v := .agg #[.int .i64 0, .int .i64 (y : Int)]) (by simp [results, Tryz.results39, go_sem, t0, t1, hlw]) rfl ⟨by rw [HE.out], ((HB1.out.setCell (by simp) _).setCell (by simp) _).alloc (by have := HB1.out.size; simpa [World.setCell] using this) _⟩
end Go.Proofs.YtaibcofendjnnaaGreatDoor

namespace Go.Proofs.YtaibcofendjnnaaGreatDoor
open Go.RowKit
set_option maxRecDepth 100000

theorem AnsFR.put {w W : World} {rb : Nat} {c : Int} {d : FD} {a1 a2 : Option Addr} {n1 c1 n2 c2 : Nat} (hB : Below w.heap.size w W) (hrb : w.heap.size ≤ rb) (h : FsU W (.slice a1 n1 c1) (.slice a2 n2 c2) d (fun b => w.heap.size ≤ b ∧ b < W.heap.size ∧ b ≠ rb)) (x y z : Value) : AnsFR w (c, d) (.returned (.agg #[.int .i64 c, .slice a1 n1 c1, .slice a2 n2 c2])) (((W.setCell ⟨rb, 0, none⟩ x).setCell ⟨rb, 1, none⟩ y).setCell ⟨rb, 2, none⟩ z) := by
  refine ⟨_, _, _, _, _, _, rfl, ((hB.setCell hrb _).setCell hrb _).setCell hrb _, (h.keep fun b hb _ => ?_).mono fun b hb => ?_⟩
  · rw [Below.heap_setCell _ _ _ _ hb.2.2, Below.heap_setCell _ _ _ _ hb.2.2, Below.heap_setCell _ _ _ _ hb.2.2]
  · unfold fresh
    simp only [World.setCell, Array.size_modify]
    exact ⟨hb.1, hb.2.1⟩
theorem AnsFR.none' {w W : World} {rb : Nat} (c : Int) (hB : Below w.heap.size w W) (hrb : w.heap.size ≤ rb) (x y z : Value) : AnsFR w (noFs c) (.returned (.agg #[.int .i64 c, .slice none 0 0, .slice none 0 0])) (((W.setCell ⟨rb, 0, none⟩ x).setCell ⟨rb, 1, none⟩ y).setCell ⟨rb, 2, none⟩ z) :=
  AnsFR.put hB hrb ⟨fun _ => False, fun _ => False, Or.inl ⟨rfl, none, 0, rfl⟩, Or.inl ⟨rfl, none, 0, rfl⟩, fun _ h => h.elim, fun _ h => h.elim False.elim False.elim⟩ x y z
theorem AnsFR.later {w w2 w3 : World} {r : Int × FD} {e : Ending} (h : AnsFR w r e w2) (hb : Below w2.heap.size w2 w3) : AnsFR w r e w3 := by
  obtain ⟨a1, n1, c1, a2, n2, c2, h1, h2, h3⟩ := h
  exact ⟨a1, n1, c1, a2, n2, c2, h1, h2.trans (hb.mono h2.size), (h3.keep fun b _ hlt => hb.block b hlt).mono fun b hh => ⟨hh.1, Nat.lt_of_lt_of_le hh.2 hb.size⟩⟩
theorem FsS.fsB {w : World} {bI n cI bD m cD : Nat} {d : FD} {F : Nat → Prop} (h : FsS w bI n cI bD m cD d F) : FsU w (.slice (some ⟨bI, 0, none⟩) n cI) (.slice (some ⟨bD, 0, none⟩) m cD) d (fun b => F b ∧ b < w.heap.size) := by
  obtain ⟨F1, G1, h1, h2, h3, h4⟩ := h
  exact ⟨F1, G1, h1.inos, h2.byts, h3, fun b hb => h4 b hb⟩
/-- A file at work: where it lies, and its file system around it. -/
structure FileS (w0 w : World) (bf bI n cI bD cD : Nat) (d : FD) (j : Nat) (x : ID) (aB : Option Addr) (cB : Nat) (aE : Option Addr) (cE : Nat) : Prop where
  below : Below w0.heap.size w0 w
  new : w0.heap.size ≤ bf
  box : OwnRow w bf 8 (cel [.int .i64 x.1, .int .i64 x.2.1, .int .i64 x.2.2.1, .slice aB x.2.2.2.1.length cB, .slice aE x.2.2.2.2.length cE, .int .i64 (j : Int), .slice (some ⟨bI, 0, none⟩) n cI, .slice (some ⟨bD, 0, none⟩) 20 cD])
  fs : FsS w bI n cI bD 20 cD d (fun c => w0.heap.size ≤ c ∧ c ≠ bf)
  blk : BlkR w bD aB x.2.2.2.1

end Go.Proofs.YtaibcofendjnnaaGreatDoor

namespace Go.Proofs.YtaibcofendjnnaaGreatDoor
open Go.RowKit
set_option maxRecDepth 100000

def zero3 : List Value := [.int .i64 0, .slice none 0 0, .slice none 0 0]
theorem row3 (w : World) (t : TypeId) : OwnRow (w.alloc (.cells #[.int .i64 0, .slice none 0 0, .slice none 0 0] t)) w.heap.size 3 (cel zero3) := newCel w zero3 t
theorem setZ_ino (w : World) (F : Nat → Prop) : InoU w (.int .i64 id0.1) (.int .i64 id0.2.1) (.int .i64 id0.2.2.1) (.slice none 0 0) (.slice none 0 0) id0 F := ⟨⟨rfl, rfl, rfl, none, 0, 0, rfl, Nat.le_refl _⟩, fun _ => False, fun _ => False, Or.inl ⟨rfl, none, 0, rfl⟩, Or.inl ⟨rfl, none, 0, rfl⟩, fun _ h => h.elim, fun _ h => h.elim False.elim False.elim⟩
end Go.Proofs.YtaibcofendjnnaaGreatDoor

namespace Go.Proofs.YtaibcofendjnnaaGreatDoor
open Go.RowKit
set_option maxRecDepth 100000

theorem dirN_in {d : FD} {x : Int} {s : ByteArray} (h : dirN d x s = 0) : dirQ d x = 0 := by
  unfold dirN at h
  by_cases e : dirQ d x = 0
  · exact e
  · rw [if_neg e] at h; exact absurd h e
theorem dirN_name {d : FD} {x : Int} {s : ByteArray} (h : dirN d x s = 0) : nameF s = 0 := by
  have h' := dirN_in h
  unfold dirN at h
  rw [if_pos h'] at h
  exact h
end Go.Proofs.YtaibcofendjnnaaGreatDoor

namespace Go.Proofs.YtaibcofendjnnaaGreatDoor
open Go.RowKit
set_option maxRecDepth 100000

/-- Entries in memory that the call made since n₀. -/
def WdE (w : World) (n₀ : Nat) (v : Value) (es : List EN) : Prop := w.ownsRow n₀ 128 2 v es.length (enCells es)
theorem WdE.later {w w' : World} {n₀ : Nat} {v : Value} {es : List EN} (h : WdE w n₀ v es) (hb : Below w.heap.size w w') : WdE w' n₀ v es := ownsRow_later h hb
theorem WdE.shape {w : World} {n₀ : Nat} {v : Value} {es : List EN} (h : WdE w n₀ v es) : ∃ a c, v = .slice a es.length c := ownsRow_shape h
theorem WdE.nil (w : World) (n₀ : Nat) : WdE w n₀ (.slice none 0 0) [] := ⟨by simp [enCells], Or.inl ⟨rfl, rfl⟩⟩
theorem WdE.lit0 (w : World) (n₀ : Nat) (h : n₀ ≤ w.heap.size) : WdE (w.alloc (.cells #[] 128)) n₀ (.slice (some ⟨w.heap.size, 0, none⟩) 0 0) [] :=
  ⟨by simp [enCells], Or.inr ⟨w.heap.size, 0, #[], rfl, h, Go.Deep.blk_alloc_new _ _, Nat.le_refl _, by unfold maxLen; omega, by simp, by simp [enCells]⟩⟩
theorem WdE.own {w : World} {n₀ : Nat} {v : Value} {es : List EN} (h : WdE w n₀ v es) (hz : ∀ k : Nat, (es[k]?.getD en0).1.size ≤ maxLen) : EntsO w v es (fun b => n₀ ≤ b ∧ b < w.heap.size) := by
  obtain ⟨hl, h | ⟨g, cap, cur, rfl, hb, hh, hnc, hcm, hcs, htake⟩⟩ := h
  · exact Or.inl ⟨List.eq_nil_of_length_eq_zero h.2, _, _, by rw [h.1]⟩
  · refine Or.inr ⟨g, cap, ⟨hb, (Array.getElem?_eq_some_iff.1 hh).1⟩, rfl, ⟨by omega, hnc, hz⟩, cur, _, hh, by rw [hcs]; exact Nat.mul_le_mul_right 2 hnc, fun k hk => ?_⟩
    have h1 := enCells_get es k hk
    rw [← htake, List.getElem?_take, if_pos hk, Array.getElem?_toList] at h1
    exact h1
/-- Entries behind those that are there. -/
theorem WdE.push (w : World) (ty : TypeId) (n₀ : Nat) (v : Value) (es fs : List EN) (h : WdE w n₀ v es) (hn₀ : n₀ ≤ w.heap.size) (a : Option Addr) (m c : Nat) (hm : fs.length = m) (hc : AtN w a m fs) (hl : es.length + m ≤ 1048576) :
    ∃ v' X, (Builtin.append_ #[68, 68] ty #[v, .slice a m c]).run Tryz.prog w = .ok v' X ∧ WdE X n₀ v' (es ++ fs) ∧ Below n₀ w X := by
  subst hm
  obtain ⟨i, hi, h1, h2, h3⟩ := Tryz.infoEnt'
  by_cases h0 : fs.length = 0
  · have hfs : fs = [] := List.eq_nil_of_length_eq_zero h0
    subst hfs
    obtain ⟨av, cv, rfl⟩ := h.shape
    refine ⟨_, w, ?_, by rw [List.append_nil]; exact h, Below.refl _ _⟩
    have hcv : es.length ≤ cv := by
      obtain ⟨_, h | ⟨g, cap, cur, e, hb, hh, hnc, _⟩⟩ := h
      · have := h.2; omega
      · simp only [Value.slice.injEq] at e; omega
    cases a <;> cases av <;> simp [Builtin.append_, run_underlying Tryz.underlying68, sizeOf, typeInfo, hi, Builtin.lenOf, Builtin.firstCells, storeCells, loadCells, loadCellsFrom, hcv]
  · obtain ⟨b, off, rfl, _⟩ := hc 0 (by omega)
    obtain ⟨v', X, hr, ho, hg, _⟩ := run_append_own_wide (P := Tryz.prog) w n₀ 68 ty 128 i _ 2 24 Tryz.underlying68 hi h1 h2 h3 rfl (by decide) v es.length (enCells es) h ⟨b, off, none⟩ fs.length c (enCells fs) (enCells_length fs) (fun j u hu => hc.cells rfl j u hu) (enCells_one fs) (by unfold maxLen; omega) (by omega) hn₀
    refine ⟨v', X, hr, ?_, below_grown hg hn₀ (fun k hk => ?_)⟩
    · unfold WdE
      rw [List.length_append, enCells_append]
      exact ho
    · rcases h.2 with ⟨rfl, _⟩ | ⟨g, cap, cur, rfl, hb, _⟩
      · simp [Value.ownBlock] at hk
      · simp [Value.ownBlock] at hk; omega
/-- Entries behind others that have no room: new memory. -/
theorem push_ahead (w : World) (ty : TypeId) (es fs : List EN) (a : Option Addr) (n : Nat) (hn : es.length = n) (he : AtN w a n es) (ha : a = none → n = 0) (a' : Option Addr) (m c : Nat) (hm : fs.length = m) (hm0 : 0 < m) (hc : AtN w a' m fs) (hl : n + m ≤ 1048576) :
    ∃ v' X, (Builtin.append_ #[68, 68] ty #[.slice a n n, .slice a' m c]).run Tryz.prog w = .ok v' X ∧ WdE X w.heap.size v' (es ++ fs) ∧ Below w.heap.size w X := by
  cases a with
  | none =>
    have h0 := ha rfl
    have hes : es = [] := List.eq_nil_of_length_eq_zero (by omega)
    subst hes
    subst h0
    exact WdE.push w ty w.heap.size (.slice none 0 0) [] fs (WdE.nil _ _) (Nat.le_refl _) a' m c hm hc (by simpa using hl)
  | some p =>
    obtain ⟨i, hi, h1, h2, h3⟩ := Tryz.infoEnt'
    subst hn hm
    obtain ⟨b', off', rfl, _⟩ := hc 0 hm0
    have hp : ∀ j u, (enCells es)[j]? = some u → w.cell? (p.add j) = some u := fun j u hu => by
      have hj : j < es.length * 2 := by rw [← enCells_length]; exact (List.getElem?_eq_some_iff.1 hu).1
      obtain ⟨b, off, e, _⟩ := he 0 (by omega)
      simp only [Option.some.injEq] at e
      subst e
      exact he.cells rfl j u hu
    obtain ⟨v', X, hr, ho, hg⟩ := run_append_arg_grows (P := Tryz.prog) w 68 ty 128 i _ 2 24 Tryz.underlying68 hi h1 h2 h3 rfl (by decide) p es.length es.length (enCells es) (enCells_length es) hp ⟨b', off', none⟩ fs.length c (enCells fs) (enCells_length fs) (fun j u hu => hc.cells rfl j u hu) (by omega) (by unfold maxLen; omega) (by omega)
    refine ⟨v', X, hr, ?_, below_grown hg (Nat.le_refl _) (fun k hk => by simp at hk)⟩
    unfold WdE
    rw [List.length_append, enCells_append]
    exact ho
/-- One entry that was just built. -/
theorem lit1_E (w : World) (s : ByteArray) (y : Int) : AtN (w.alloc (.cells #[.string s, .int .i64 y] 128)) (some ⟨w.heap.size, 0, none⟩) 1 [(s, y)] := fun k hk => ⟨w.heap.size, 0, rfl, by
    have h0 : k = 0 := by omega
    subst h0
    rw [new_cell]
    rfl, by
    have h0 : k = 0 := by omega
    subst h0
    rw [new_cell]
    rfl⟩
theorem AtN.take {w : World} {a : Option Addr} {n : Nat} {es : List EN} (h : AtN w a n es) (k : Nat) (hk : k ≤ n) : AtN w a k (es.take k) := fun i hi => by
  obtain ⟨b, off, e, c0, c1⟩ := h i (by omega)
  exact ⟨b, off, e, by rw [List.getElem?_take, if_pos hi]; exact c0, by rw [List.getElem?_take, if_pos hi]; exact c1⟩
theorem AtN.drop {w : World} {b off n : Nat} {es : List EN} (h : AtN w (some ⟨b, off, none⟩) n es) (k : Nat) : AtN w (some ⟨b, off + k * 2, none⟩) (n - k) (es.drop k) := fun i hi => by
  obtain ⟨b', off', e, c0, c1⟩ := h (k + i) (by omega)
  simp only [Option.some.injEq, Addr.mk.injEq, and_true] at e
  obtain ⟨rfl, rfl⟩ := e
  refine ⟨b, off + k * 2, rfl, ?_, ?_⟩
  · rw [List.getElem?_drop, show off + k * 2 + i * 2 = off + (k + i) * 2 by omega]; exact c0
  · rw [List.getElem?_drop, show off + k * 2 + i * 2 + 1 = off + (k + i) * 2 + 1 by omega]; exact c1

/-- The entries of an inode without blocks stored. -/
theorem FsS.entS {w : World} {bI n cI bD cD : Nat} {d : FD} {F G : Nat → Prop} (hfs : FsS w bI n cI bD 20 cD d F) (j : Nat) (hj : j < n) (hblk : (d.1[j]?.getD id0).2.2.2.1 = []) (es : List EN) (vE : Value) (hE : EntsO w vE es G) (hG : ∀ c, G c → ¬ F c ∧ c < w.heap.size) :
    FsS (w.setCell ⟨bI, j * 5 + 4, none⟩ vE) bI n cI bD 20 cD (d.1.set j ((d.1[j]?.getD id0).1, (d.1[j]?.getD id0).2.1, (d.1[j]?.getD id0).2.2.1, [], es), d.2) (fun c => F c ∨ G c) := by
  have hne := hfs.ne
  have hl := hfs.len.1
  obtain ⟨aB, cB, aE, cE, i0, i1, i2, i3, i4, i5, _, _⟩ := hfs.ino j hj
  rw [hblk] at i3
  have h1 : Chg (fun c => c = bI) w (w.setCell ⟨bI, j * 5 + 4, none⟩ vE) := Chg.set (F := fun c => c = bI) (Chg.refl _ w) rfl (j * 5 + 4) vE
  refine hfs.putI j hj _ (.slice aB 0 cB) vE (fun u hu => ?_) h1 ?_ (fun c hc => ⟨(hG c hc).1, by simpa [World.setCell] using (hG c hc).2⟩)
  · have c0 := hu.cell (i := j * 5) (by omega)
    have c1 := hu.cell (i := j * 5 + 1) (by omega)
    have c2 := hu.cell (i := j * 5 + 2) (by omega)
    have c3 := hu.cell (i := j * 5 + 3) (by omega)
    rw [i0] at c0
    rw [i1] at c1
    rw [i2] at c2
    rw [i3] at c3
    have e0 := (Option.some.inj c0).symm
    have e1 := (Option.some.inj c1).symm
    have e2 := (Option.some.inj c2).symm
    have e3 := (Option.some.inj c3).symm
    refine (hu.set (j * 5 + 4) _).congr fun c _ => ?_
    rw [inCell_set d.1 u j (by omega)]
    by_cases q4 : c = j * 5 + 4
    · rw [if_pos q4, if_neg (by omega), if_neg (by omega), if_neg (by omega), if_neg (by omega)]
    · rw [if_neg q4]
      by_cases q0 : c = j * 5
      · rw [if_pos q0, q0, e0]
      · rw [if_neg q0]
        by_cases q1 : c = j * 5 + 1
        · rw [if_pos q1, q1, e1]
        · rw [if_neg q1]
          by_cases q2 : c = j * 5 + 2
          · rw [if_pos q2, q2, e2]
          · rw [if_neg q2]
            by_cases q3 : c = j * 5 + 3
            · rw [if_pos q3, q3, e3]; rfl
            · rw [if_neg q3]
  · exact ⟨⟨rfl, rfl, rfl, aB, 0, cB, rfl, Nat.zero_le _⟩, fun _ => False, G, Or.inl ⟨rfl, aB, cB, rfl⟩, hE.keep fun c hc hlt => h1.block c hlt fun e => (hG c hc).1 (e ▸ hne.2.1.1), fun _ hh => hh.elim, fun b hh => hh.elim False.elim id⟩
/-- The links of an inode stored. -/
theorem FsS.lnkS {w : World} {bI n cI bD cD : Nat} {d : FD} {F : Nat → Prop} (hfs : FsS w bI n cI bD 20 cD d F) (j : Nat) (hj : j < n) (l : Int) :
    FsS (w.setCell ⟨bI, j * 5 + 1, none⟩ (.int .i64 l)) bI n cI bD 20 cD (d.1.set j ((d.1[j]?.getD id0).1, l, (d.1[j]?.getD id0).2.2), d.2) F := by
  have h1 : Chg (fun c => c = bI) w (w.setCell ⟨bI, j * 5 + 1, none⟩ (.int .i64 l)) := Chg.set (F := fun c => c = bI) (Chg.refl _ w) rfl (j * 5 + 1) _
  obtain ⟨F1, G1, ⟨g0, gm, u, G, g1, g2, g3, g4, g5⟩, h2, h3, h4⟩ := hfs
  refine ⟨F1, G1, ⟨by simpa using g0, gm, u, G, g1, g2, g3, ?_, fun i hi => ?_⟩, h2.keep fun c hc hlt => h1.block c hlt fun e => h3 bI g1 (e ▸ hc), h3, fun b hb => ⟨(h4 b hb).1, by simpa [World.setCell] using (h4 b hb).2⟩⟩
  · refine (g4.set (j * 5 + 1) _).congr fun c _ => ?_
    have e := inCell_set d.1 u j (by omega) ((d.1[j]?.getD id0).1, l, (d.1[j]?.getD id0).2.2) (u j).1 (u j).2 c
    have eu : (fun i => if i = j then ((u j).1, (u j).2) else u i) = u := by
      funext i
      by_cases h : i = j
      · rw [if_pos h, h]
      · rw [if_neg h]
    rw [eu] at e
    rw [e]
    by_cases q1 : c = j * 5 + 1
    · rw [if_pos q1, if_neg (by omega), if_pos q1]
    · rw [if_neg q1]
      by_cases q0 : c = j * 5
      · rw [if_pos q0, q0, inCell_0]
      · rw [if_neg q0, if_neg q1]
        by_cases q2 : c = j * 5 + 2
        · rw [if_pos q2, q2, inCell_2]
        · rw [if_neg q2]
          by_cases q3 : c = j * 5 + 3
          · rw [if_pos q3, q3, inCell_3]
          · rw [if_neg q3]
            by_cases q4 : c = j * 5 + 4
            · rw [if_pos q4, q4, inCell_4]
            · rw [if_neg q4]
  · rw [set_getD _ _ _ _ _ (by omega)]
    have hk : ∀ c, G i c → c < w.heap.size → (w.setCell ⟨bI, j * 5 + 1, none⟩ (.int .i64 l)).heap[c]? = w.heap[c]? := fun c hc hlt => h1.block c hlt fun e => (g2 i c hc).2 e
    by_cases e : i = j
    · rw [if_pos e]
      have hv := (g5 i hi).keep hk
      rw [e] at hv ⊢
      obtain ⟨⟨_, _, _, hcap⟩, hrest⟩ := hv
      exact ⟨⟨rfl, rfl, rfl, hcap⟩, hrest⟩
    · rw [if_neg e]
      exact (g5 i hi).keep hk
theorem FsS.boundF {w : World} {bI n cI bD m cD : Nat} {d : FD} {F : Nat → Prop} (h : FsS w bI n cI bD m cD d F) : FsS w bI n cI bD m cD d (fun c => F c ∧ c < w.heap.size) := by
  obtain ⟨F1, G1, h1, h2, h3, h4⟩ := h
  exact ⟨F1, G1, h1, h2, h3, fun b hb => ⟨h4 b hb, (h4 b hb).2⟩⟩
end Go.Proofs.YtaibcofendjnnaaGreatDoor

namespace Go.Proofs.YtaibcofendjnnaaGreatDoor
open Go.RowKit
set_option maxRecDepth 100000

/-- An entry in its place; entries and links of an inode turned. -/
def insE (es : List EN) (k : Nat) (e : EN) : List EN := es.take k ++ [e] ++ es.drop k
def entD (d : FD) (j : Nat) (es : List EN) : FD := (d.1.set j ((d.1[j]?.getD id0).1, (d.1[j]?.getD id0).2.1, (d.1[j]?.getD id0).2.2.1, [], es), d.2)
def lnkD (d : FD) (j : Nat) (l : Int) : FD := (d.1.set j ((d.1[j]?.getD id0).1, l, (d.1[j]?.getD id0).2.2), d.2)
def addD (d : FD) (j : Nat) (s : ByteArray) (y : Nat) : FD := if kindAt d.1 y = 1 then lnkD (entD d j (insE (entA d j) (plcE (entA d j) s) (s, (y : Int)))) y ((d.1[y]?.getD id0).2.1 + 1) else entD d j (insE (entA d j) (plcE (entA d j) s) (s, (y : Int)))
/-- AddName behind its first codes; AddName. -/
def addQ (d : FD) (j : Nat) (s : ByteArray) (y : Int) : Int × FD :=
  if idxE (entA d j) s < (entA d j).length then noFs 7 else if 0 ≤ y ∧ y < (d.1.length : Int) ∧ ¬ kindAt d.1 y.toNat = 0 then (if (entA d j).length = 6 ∨ (kindAt d.1 y.toNat = 1 ∧ 60 ≤ (d.1[y.toNat]?.getD id0).2.1) then noFs 2 else (0, addD d j s y.toNat)) else noFs 4
def addR (d : FD) (x : Int) (s : ByteArray) (y : Int) : Int × FD := if dirN d x s = 0 then addQ d x.toNat s y else noFs (dirN d x s)

set_option maxHeartbeats 800000 in
theorem entriesAhead_any (w : World) (aE : Option Addr) (n cE k : Nat) (hk : k ≤ n) (hc : n ≤ cE) (_hn : n ≤ 1048576) :
    Calls Tryz.prog 154 #[.slice aE n cE, .int .i64 (k : Int)] w fun e w' => e = .returned (.slice aE k k) ∧ w' = w := by
  have hkc : k ≤ cE := by omega
  go_enter Tryz.func154, Tryz.ntmps154
  go_wp2
  go_ret
  exact ⟨rfl, rfl⟩

/-- Where the entries from a place on lie, as the walk has it. -/
def tailE (aE : Option Addr) (cE k : Nat) : Option Addr := if cE = k then aE else Option.map (fun x => x.add (k * 2)) aE
theorem AtN.tail {w : World} {aE : Option Addr} {n cE k : Nat} {es : List EN} (h : AtN w aE n es) (hc : n ≤ cE) : AtN w (tailE aE cE k) (n - k) (es.drop k) := fun i hi => by
  obtain ⟨b, off, rfl, _⟩ := h 0 (by omega)
  unfold tailE
  rw [if_neg (by omega), Option.map_some, add_plain']
  exact h.drop k i hi
set_option maxHeartbeats 3200000 in
theorem withEntry_any (w : World) (aE : Option Addr) (n cE k : Nat) (es : List EN) (s : ByteArray) (y : Int) (hn : es.length = n) (hc : n ≤ cE) (hk : k ≤ n) (h6 : n ≤ 6) (hat : AtN w aE n es) (ha : aE = none → n = 0) :
    Calls Tryz.prog 125 #[.slice aE n cE, .int .i64 (k : Int), .agg #[.string s, .int .i64 y]] w fun e w' => ∃ v, e = .returned v ∧ WdE w' w.heap.size v (insE es k (s, y)) ∧ Below w.heap.size w w' := by
  have HEA : Hid (∀ W, Calls Tryz.prog 154 #[.slice aE n cE, .int .i64 (k : Int)] W fun e w' => e = .returned (.slice aE k k) ∧ w' = W) := fun W => entriesAhead_any W aE n cE k hk hc (by omega)
  have hb1 : Below w.heap.size w (((w.alloc (.cells #[.string s, .int .i64 y] 128)).drew).alloc (.cells #[.string s, .int .i64 y] 128)) := ((later1 _ _).drew).trans ((later1 _ _).mono (by simp))
  have hlit := lit1_E (w.alloc (.cells #[.string s, .int .i64 y] 128)).drew s y
  obtain ⟨v1, X1, hr1, hw1, hbx1⟩ := push_ahead _ 68 (es.take k) [(s, y)] aE k (by rw [List.length_take]; omega) ((hat.take k hk).later hb1) (fun e => by have := ha e; omega) _ 1 1 rfl (by omega) hlit (by omega)
  have hbx1' : Below w.heap.size w X1 := hb1.trans (hbx1.mono hb1.size)
  obtain ⟨v2, X2, hr2, hw2, hbx2⟩ := WdE.push X1 68 _ v1 _ (es.drop k) hw1 hbx1.size (tailE aE cE k) (n - k) (cE - k) (by rw [List.length_drop]; omega) ((hat.tail hc).later hbx1') (by rw [List.length_append, List.length_take]; simp; omega)
  rw [show (w.alloc (.cells #[.string s, .int .i64 y] 128)).drew.heap.size = w.heap.size + 1 by simp] at hr1
  have HR1 : Hid ((Builtin.append_ #[68, 68] 68 #[.slice aE k k, .slice (some ⟨w.heap.size + 1, 0, none⟩) 1 1]).run Tryz.prog (((w.alloc (.cells #[.string s, .int .i64 y] 128)).alloc (.cells #[.string s, .int .i64 y] 128)).drew) = .ok v1 X1) := hr1
  unfold tailE at hr2
  have HR2 : Hid (_ = _) := hr2
  obtain ⟨a1', c1', rfl⟩ := hw1.shape
  have hlen : (es.take k ++ [(s, y)]).length = k + 1 := by rw [List.length_append, List.length_take]; simp; omega
  rw [hlen] at HR1 HR2
  have HW2 : Hid (WdE X2 w.heap.size v2 (insE es k (s, y))) := by
    unfold Hid insE
    exact ownsRow_base hw2 hb1.size
  have HB2 : Hid (Below w.heap.size w X2) := hbx1'.trans (hbx2.mono hb1.size)
  have hkI : (k : Int) ≤ (n : Int) := by omega
  clear hb1 hlit hr1 hr2 hw1 hbx1 hbx1' hw2 hbx2 hat ha hn hlen
  go_enter Tryz.func125, Tryz.ntmps125
  go_wp2_with fail
  go_region_law (first
    | (refine step_append_run rfl _ _ 68 rfl _ _ rfl rfl _ _ HR1.out ?_; clear HR1)
    | (refine step_append_run rfl _ _ 68 rfl _ _ rfl rfl _ _ HR2.out ?_; clear HR2)
    | (try go_simp; go_at_call 154; refine (HEA.out _).mono ?_; rintro e w2 ⟨rfl, rfl⟩)
    | fail)
  all_goals
    go_wp2
    all_goals
      go_ret
      exact ⟨_, rfl, HW2.out, HB2.out⟩
end Go.Proofs.YtaibcofendjnnaaGreatDoor

namespace Go.Proofs.YtaibcofendjnnaaGreatDoor
open Go.RowKit
set_option maxRecDepth 100000

/-- The entries without the one at a place. -/
def delE (es : List EN) (k : Nat) : List EN := es.take k ++ es.drop (k + 1)
theorem delE_len {es : List EN} {k : Nat} (h : k < es.length) : (delE es k).length = es.length - 1 := by
  unfold delE
  rw [List.length_append, List.length_take, List.length_drop]; omega
theorem delE_last {es : List EN} {k : Nat} (h : k + 1 = es.length) : delE es k = es.take k := by
  unfold delE
  rw [List.drop_of_length_le (by omega), List.append_nil]
theorem delE_get {es : List EN} {k : Nat} (h : k < es.length) (i : Nat) : (delE es k)[i]?.getD en0 = es[if i < k then i else i + 1]?.getD en0 := by
  unfold delE
  by_cases hi : i < k
  · rw [if_pos hi, List.getElem?_append_left (by rw [List.length_take]; omega), List.getElem?_take, if_pos hi]
  · rw [if_neg hi, List.getElem?_append_right (by rw [List.length_take]; omega), List.length_take, List.getElem?_drop, show k + 1 + (i - min k es.length) = i + 1 by omega]
theorem delE_size {es : List EN} {k : Nat} (h : k < es.length) (hz : ∀ k : Nat, (es[k]?.getD en0).1.size ≤ maxLen) (i : Nat) : ((delE es k)[i]?.getD en0).1.size ≤ maxLen := by
  rw [delE_get h]; exact hz _
/-- Entries of a directory that are right. -/
structure DirE (es : List EN) : Prop where
  six : es.length ≤ 6
  names : ∀ i, i < es.length → nameF (es[i]?.getD en0).1 = 0
  nums : ∀ i, i < es.length → 0 ≤ (es[i]?.getD en0).2 ∧ (es[i]?.getD en0).2 ≤ 9
  rises : Rises es
theorem dirF_E {es : List EN} (h : dirF es = 0) : DirE es := by
  obtain ⟨h1, h2, h3⟩ := dir_rises h
  refine ⟨h3, h2, fun i hi => ?_, h1⟩
  unfold dirF at h
  rw [if_neg (by omega)] at h
  have := fstNZ_inv h i hi
  unfold entF at this
  rw [if_pos (h2 i hi)] at this
  by_cases e : 0 ≤ (es[i]?.getD en0).2 ∧ (es[i]?.getD en0).2 ≤ 9
  · exact e
  · rw [if_neg e] at this; omega
theorem DirE.fault {es : List EN} (h : DirE es) : dirF es = 0 := by
  unfold dirF
  rw [if_neg (by have := h.six; omega)]
  refine fstNZ_zero fun i hi => ?_
  unfold entF
  rw [if_pos (h.names i hi), if_pos (h.nums i hi), if_neg]
  rintro ⟨h0, hs⟩
  have hr := h.rises (i - 1) (by omega)
  rw [show i - 1 + 1 = i by omega] at hr
  unfold strLe at hs
  rw [Bool.or_eq_true] at hs
  rcases hs with hs | hs
  · have := bl_trans hr hs
    rw [bl_irr] at this; exact absurd this (by decide)
  · have e : (es[i]?.getD en0).1.toList = (es[i - 1]?.getD en0).1.toList := by simpa using hs
    rw [e, bl_irr] at hr; exact absurd hr (by decide)
theorem DirE.del {es : List EN} (h : DirE es) {k : Nat} (hk : k < es.length) : DirE (delE es k) := by
  have hl := delE_len hk
  refine ⟨by have := h.six; omega, fun i hi => ?_, fun i hi => ?_, fun i hi => ?_⟩
  · rw [delE_get hk]; exact h.names _ (by split <;> omega)
  · rw [delE_get hk]; exact h.nums _ (by split <;> omega)
  · rw [delE_get hk, delE_get hk]
    by_cases h1 : i + 1 < k
    · rw [if_pos h1, if_pos (by omega)]; exact h.rises i (by omega)
    · rw [if_neg h1]
      by_cases h2 : i < k
      · rw [if_pos h2]; exact h.rises.lt (by omega) (by omega)
      · rw [if_neg h2]; exact h.rises (i + 1) (by omega)
/-- The list stays right where one inode turns to a right one. -/
theorem insF_set {ds : List ID} (h : insF ds = 0) (j : Nat) (x : ID) (hx : inoF x = 0) : insF (ds.set j x) = 0 := by
  have ht := insF_ten h
  unfold insF
  rw [List.length_set, if_neg (by omega)]
  refine fstNZ_zero fun i hi => ?_
  rw [List.getElem?_set]
  by_cases e : j = i
  · rw [if_pos e]
    by_cases hl : j < ds.length
    · rw [if_pos (by omega)]; exact hx
    · omega
  · rw [if_neg e]; exact ins_ino h i hi
theorem inoF_dir {x : ID} (hk : x.1 = 2) (h : inoF x = 0) {es : List EN} (he : DirE es) : inoF (x.1, x.2.1, x.2.2.1, [], es) = 0 := by
  unfold inoF at h ⊢
  rw [if_neg (by omega), if_neg (by omega), if_pos hk] at h
  dsimp only
  rw [if_neg (by omega), if_neg (by omega), if_pos hk]
  by_cases hf : fpB x = true
  · rw [if_pos hf] at h; omega
  · have hf2 : fpB (x.1, x.2.1, x.2.2.1, [], es) = false := by
      unfold fpB at hf ⊢
      simp at hf ⊢
      exact hf.1
    rw [hf2]
    exact he.fault
theorem nameF_size {s : ByteArray} (h : nameF s = 0) : s.size ≤ 4 ∧ 1 ≤ s.size := by
  unfold nameF at h
  by_cases h0 : s.size = 0
  · rw [if_pos h0] at h; omega
  · rw [if_neg h0] at h
    by_cases h1 : s.data.toList.all byB = true
    · rw [if_pos h1] at h
      by_cases h2 : 4 < s.size
      · rw [if_pos h2] at h; omega
      · omega
    · rw [if_neg h1] at h; omega
theorem nlens_four {es : List EN} (h : ∀ i, i < es.length → (es[i]?.getD en0).1.size ≤ 4) : (nlens es).sum ≤ 4 * es.length := by
  unfold nlens
  induction es with
  | nil => simp
  | cons x es ih =>
    have h0 := h 0 (by simp)
    have := ih fun i hi => by have := h (i + 1) (by simpa using hi); simpa using this
    simp at h0
    simp only [List.map_cons, List.sum_cons, List.length_cons, Nat.mul_add, Nat.mul_one]
    omega
theorem ino_small {x : ID} (h : inoF x = 0) : sizeIno x ≤ 40 := by
  have h1 := ino_size h
  have h6 := ino_six h
  have h4 : (nlens x.2.2.2.2).sum ≤ 4 * x.2.2.2.2.length := by
    by_cases hk : x.1 = 2
    · exact nlens_four fun i hi => (nameF_size ((dirF_E (ino_dir h hk)).names i hi)).1
    · have he : x.2.2.2.2.length = 0 := by
        unfold inoF at h
        have dp : dpB x = false → x.2.2.2.2.length = 0 := fun hd => by unfold dpB at hd; simp at hd; rw [hd]; rfl
        by_cases h0 : x.1 = 0
        · rw [if_pos h0] at h
          by_cases hd : dpB x = true
          · rw [hd, Bool.or_true, if_pos rfl] at h; omega
          · exact dp (by simpa using hd)
        · rw [if_neg h0] at h
          by_cases h1 : x.1 = 1
          · rw [if_pos h1] at h
            by_cases hd : dpB x = true
            · rw [if_pos hd] at h; omega
            · exact dp (by simpa using hd)
          · rw [if_neg h1, if_neg hk] at h; omega
      rw [List.eq_nil_of_length_eq_zero he]; simp [nlens]
  unfold sizeIno sizeN
  omega
theorem isz_each {ds : List ID} {m : Nat} (h : ∀ i : Nat, i < ds.length → sizeIno (ds[i]?.getD id0) ≤ m) : (isz ds).sum ≤ m * ds.length := by
  unfold isz
  induction ds with
  | nil => simp
  | cons x ds ih =>
    have h0 := h 0 (by simp)
    have := ih fun i hi => by have := h (i + 1) (by simpa using hi); simpa using this
    simp at h0
    simp only [List.map_cons, List.sum_cons, List.length_cons, Nat.mul_add, Nat.mul_one]
    omega
/-- Right inodes are small. -/
theorem ins_small {ds : List ID} (h : insF ds = 0) : sizeInos ds ≤ 410 := by
  have h1 := isz_each fun i hi => ino_small (ins_ino h i hi)
  have h2 := insF_ten h
  unfold sizeInos
  omega
theorem fs_small {d : FD} (h : insF d.1 = 0) (h20 : d.2.length = 20) (h8 : ∀ i : Nat, (d.2[i]?.getD []).length ≤ 8) : sizeFs d ≤ 1000 := by
  have h1 := ins_small h
  have h2 := ylens_eight h8
  unfold sizeFs sizeByts
  omega
end Go.Proofs.YtaibcofendjnnaaGreatDoor

namespace Go.Proofs.YtaibcofendjnnaaGreatDoor
open Go.RowKit
set_option maxRecDepth 100000

theorem OwnRow.less {w : World} {b n m : Nat} {f : Nat → Value} (h : OwnRow w b n f) (hm : m ≤ n) : OwnRow w b m f := by
  obtain ⟨cur, t, h1, h2, h3⟩ := h
  exact ⟨cur, t, h1, by omega, fun i hi => h3 i (by omega)⟩
/-- A beginning of entries in own memory. -/
theorem EntsO.take {w : World} {a : Option Addr} {n c : Nat} {es : List EN} {F : Nat → Prop} (h : EntsO w (.slice a n c) es F) (k : Nat) (hk : k ≤ n) : EntsO w (.slice a k k) (es.take k) F := by
  rcases h with ⟨rfl, _, _, e⟩ | ⟨b, cap, hF, e, ⟨h1, h2, h3⟩, h4⟩
  · simp only [Value.slice.injEq] at e
    obtain ⟨rfl, rfl, rfl⟩ := e
    have : k = 0 := by omega
    subst this
    exact Or.inl ⟨rfl, _, _, rfl⟩
  · simp only [Value.slice.injEq] at e
    obtain ⟨rfl, rfl, rfl⟩ := e
    have hl : (es.take k).length = k := by rw [List.length_take]; omega
    have hg : ∀ i : Nat, i < k → (es.take k)[i]?.getD en0 = es[i]?.getD en0 := fun i hi => by rw [List.getElem?_take, if_pos hi]
    refine Or.inr ⟨b, k, hF, by rw [hl], ⟨by omega, by omega, fun i => ?_⟩, ?_⟩
    · by_cases hi : i < k
      · rw [hg i hi]; exact h3 i
      · rw [List.getElem?_take, if_neg hi]; simp [en0, ByteArray.size]
    · rw [hl]
      refine (h4.less (by omega)).congr fun i hi => ?_
      unfold enCell
      rw [hg _ (by omega)]
theorem append_none (w : World) (ty : TypeId) (av : Option Addr) (k : Nat) (a : Option Addr) (c : Nat) : (Builtin.append_ #[68, 68] ty #[.slice av k k, .slice a 0 c]).run Tryz.prog w = .ok (.slice av k k) w := by
  obtain ⟨i, hi, _, _, _⟩ := Tryz.infoEnt'
  cases a <;> cases av <;> simp [Builtin.append_, run_underlying Tryz.underlying68, sizeOf, typeInfo, hi, Builtin.lenOf, Builtin.firstCells, storeCells, loadCells, loadCellsFrom]
/-- The entries of an inode cut to a beginning of them, where they lie. -/
theorem FsS.entCut {w : World} {bI n cI bD cD : Nat} {d : FD} {F : Nat → Prop} (hfs : FsS w bI n cI bD 20 cD d F) (j : Nat) (hj : j < n) (hblk : (d.1[j]?.getD id0).2.2.2.1 = []) {aE : Option Addr} {m cE : Nat} (hc4 : w.cell? ⟨bI, j * 5 + 4, none⟩ = some (.slice aE m cE)) (k : Nat) (hk : k ≤ m) :
    FsS (w.setCell ⟨bI, j * 5 + 4, none⟩ (.slice aE k k)) bI n cI bD 20 cD (entD d j ((entA d j).take k)) F := by
  have h1 : Chg (fun c => c = bI) w (w.setCell ⟨bI, j * 5 + 4, none⟩ (.slice aE k k)) := Chg.set (F := fun c => c = bI) (Chg.refl _ w) rfl (j * 5 + 4) _
  obtain ⟨F1, G1, ⟨g0, gm, u, G, g1, g2, g3, g4, g5⟩, h2, h3, h4⟩ := hfs
  have e4 : (u j).2 = .slice aE m cE := by
    have := g4.cell (i := j * 5 + 4) (by omega)
    rw [hc4, inCell_4] at this
    exact (Option.some.inj this).symm
  unfold entD
  refine ⟨F1, G1, ⟨by simpa using g0, gm, fun i => if i = j then ((u j).1, .slice aE k k) else u i, G, g1, g2, g3, ?_, fun i hi => ?_⟩, h2.keep fun c hc hlt => h1.block c hlt fun e => h3 bI g1 (e ▸ hc), h3, fun b hb => ⟨(h4 b hb).1, by simpa [World.setCell] using (h4 b hb).2⟩⟩
  · refine (g4.set (j * 5 + 4) _).congr fun c _ => ?_
    rw [inCell_set d.1 u j (by omega)]
    by_cases q4 : c = j * 5 + 4
    · rw [if_pos q4, if_neg (by omega), if_neg (by omega), if_neg (by omega), if_neg (by omega)]
    · rw [if_neg q4]
      by_cases q0 : c = j * 5
      · rw [if_pos q0, q0, inCell_0]
      · rw [if_neg q0]
        by_cases q1 : c = j * 5 + 1
        · rw [if_pos q1, q1, inCell_1]
        · rw [if_neg q1]
          by_cases q2 : c = j * 5 + 2
          · rw [if_pos q2, q2, inCell_2]
          · rw [if_neg q2]
            by_cases q3 : c = j * 5 + 3
            · rw [if_pos q3, q3, inCell_3]
            · rw [if_neg q3]
  · dsimp only
    rw [set_getD _ _ _ _ _ (by omega)]
    have hk2 : ∀ c, G i c → c < w.heap.size → (w.setCell ⟨bI, j * 5 + 4, none⟩ (.slice aE k k)).heap[c]? = w.heap[c]? := fun c hc hlt => h1.block c hlt fun e => (g2 i c hc).2 e
    by_cases e : i = j
    · rw [if_pos e]
      simp only [e, if_true]
      have hv := (g5 i hi).keep hk2
      rw [e] at hv
      obtain ⟨⟨_, _, _, hcap⟩, P, Q, p1, p2, p3, p4⟩ := hv
      rw [e4] at p2
      rw [hblk] at p1
      exact ⟨⟨rfl, rfl, rfl, hcap⟩, P, Q, p1, p2.take k hk, p3, by rw [e] at *; exact p4⟩
    · rw [if_neg e]
      simp only [e, if_false]
      exact (g5 i hi).keep hk2
end Go.Proofs.YtaibcofendjnnaaGreatDoor

namespace Go.Proofs.YtaibcofendjnnaaGreatDoor
open Go.RowKit
set_option maxRecDepth 100000

theorem cloneS_any (w : World) (s : ByteArray) (hs : s.size ≤ 1048576) : Calls Tryz.prog 80 #[.string s] w fun e w' => e = .returned (.string s) ∧ Below w.heap.size w w' := by
  have := clone_any w s.data.toList (by have : s.data.toList.length = s.size := Array.length_toList; omega)
  rw [mkB_data] at this
  exact this
set_option maxHeartbeats 800000 in
theorem takesLink_any (w : World) (x0 x1 x2 : Int) (v3 v4 : Value) : Calls Tryz.prog 78 #[.agg #[.int .i64 x0, .int .i64 x1, .int .i64 x2, v3, v4]] w fun e w' => e = .returned (.bool (decide (¬ (x0 = 1 ∧ 60 ≤ x1)))) ∧ Below w.heap.size w w' := by
  by_cases h1 : x0 = 1
  · have hb : (x0 != 1) = false := by simpa using h1
    have HE : Hid (decide (x1 < 60) = decide (¬ (x0 = 1 ∧ 60 ≤ x1))) := by
      unfold Hid
      by_cases h2 : x1 < 60
      · rw [decide_eq_true h2, decide_eq_true (by omega)]
      · rw [decide_eq_false h2, decide_eq_false (by omega)]
    clear h1
    go_enter Tryz.func78, Tryz.ntmps78
    go_wp2
    go_ret
    exact ⟨ret_bool HE.out, later1 _ _⟩
  · have hb : (x0 != 1) = true := by simpa using h1
    have HE : Hid (decide (¬ (x0 = 1 ∧ 60 ≤ x1)) = true) := by unfold Hid; exact decide_eq_true (by omega)
    clear h1
    go_enter Tryz.func78, Tryz.ntmps78
    go_wp2
    go_ret
    exact ⟨ret_bool HE.out.symm, later1 _ _⟩
/-- What lies at a place. -/
theorem FsR.five {w : World} {b0 o0 n1 c1 : Nat} {v2 : Value} {d : FD} (h : FsR w (.slice (some ⟨b0, o0, none⟩) n1 c1) v2 d) {j : Nat} (hj : j < d.1.length) : ∃ aB cB aE cE, w.cell? ⟨b0, o0 + j * 5, none⟩ = some (.int .i64 (d.1[j]?.getD id0).1) ∧ w.cell? ⟨b0, o0 + j * 5 + 1, none⟩ = some (.int .i64 (d.1[j]?.getD id0).2.1) ∧ w.cell? ⟨b0, o0 + j * 5 + 2, none⟩ = some (.int .i64 (d.1[j]?.getD id0).2.2.1) ∧ w.cell? ⟨b0, o0 + j * 5 + 3, none⟩ = some (.slice aB (d.1[j]?.getD id0).2.2.2.1.length cB) ∧ w.cell? ⟨b0, o0 + j * 5 + 4, none⟩ = some (.slice aE (entA d j).length cE) ∧ Ents w (.slice aE (entA d j).length cE) (entA d j) := by
  obtain ⟨_, _, e1, _, hAt⟩ := h.1.open'
  simp only [Value.slice.injEq] at e1
  obtain ⟨rfl, rfl, rfl⟩ := e1
  obtain ⟨b, o, e, hI⟩ := hAt j hj
  simp only [Option.some.injEq, Addr.mk.injEq, and_true] at e
  obtain ⟨rfl, rfl⟩ := e
  obtain ⟨aB, cB, aE, cE, k0, k1, k2, k3, k4, hR⟩ := hI
  exact ⟨aB, cB, aE, cE, k0, k1, k2, k3, k4, hR.2.2⟩
theorem Ents.cap {w : World} {a : Option Addr} {n c : Nat} {es : List EN} (h : Ents w (.slice a n c) es) : es.length = n ∧ n ≤ c ∧ AtN w a n es ∧ (a = none → n = 0) ∧ ∀ k : Nat, (es[k]?.getD en0).1.size ≤ maxLen := by
  obtain ⟨a', c', e, ⟨_, h2, h3⟩, h4⟩ := h
  simp only [Value.slice.injEq] at e
  obtain ⟨rfl, rfl, rfl⟩ := e
  refine ⟨rfl, h2, h4, fun e => ?_, h3⟩
  by_cases h0 : es.length = 0
  · exact h0
  · obtain ⟨b, off, e2, _⟩ := h4 0 (by omega)
    rw [e] at e2
    simp at e2
theorem dir_blk {x : ID} (h : inoF x = 0) (hk : x.1 = 2) : x.2.2.2.1 = [] := by
  unfold inoF at h
  rw [if_neg (by omega), if_neg (by omega), if_pos hk] at h
  by_cases hd : fpB x = true
  · rw [if_pos hd] at h; omega
  · unfold fpB at hd
    simp at hd
    exact hd.2
theorem insE_size {es : List EN} {k : Nat} {s : ByteArray} {y : Int} (hz : ∀ k : Nat, (es[k]?.getD en0).1.size ≤ maxLen) (hs : s.size ≤ maxLen) (i : Nat) : ((insE es k (s, y))[i]?.getD en0).1.size ≤ maxLen := by
  have h0 : (en0 : EN).1.size ≤ maxLen := by simp [en0, ByteArray.size]
  have hm : ∀ e ∈ insE es k (s, y), e.1.size ≤ maxLen := fun e he => by
    unfold insE at he
    have hall : ∀ e ∈ es, e.1.size ≤ maxLen := fun e he => by
      obtain ⟨i, hi, rfl⟩ := List.mem_iff_getElem.1 he
      have := hz i
      rw [List.getElem?_eq_getElem hi] at this
      exact this
    rcases List.mem_append.1 he with he | he
    · rcases List.mem_append.1 he with he | he
      · exact hall e (List.mem_of_mem_take he)
      · simp at he; rw [he]; exact hs
    · exact hall e (List.mem_of_mem_drop he)
  cases hq : (insE es k (s, y))[i]? with
  | none => exact h0
  | some e => exact hm e (List.mem_of_getElem? hq)

theorem ino_lnk {x : ID} (h : inoF x = 0) (hk : x.1 = 1) : 1 ≤ x.2.1 ∧ x.2.1 ≤ 60 := by
  unfold inoF at h
  rw [if_neg (by omega), if_pos hk] at h
  by_cases hd : dpB x = true
  · rw [if_pos hd] at h; omega
  · rw [if_neg hd] at h
    unfold fileF at h
    by_cases hl : linkB x.2.1 = true ∧ sizeB x.2.2.1 = true
    · have := hl.1
      unfold linkB at this
      simpa using this
    · rw [if_neg hl] at h; omega
theorem entD_kind (d : FD) (j z : Nat) (es : List EN) (hj : j < d.1.length) : ((entD d j es).1[z]?.getD id0).1 = (d.1[z]?.getD id0).1 ∧ ((entD d j es).1[z]?.getD id0).2.1 = (d.1[z]?.getD id0).2.1 := by
  unfold entD
  dsimp only
  rw [set_getD _ _ _ _ _ hj]
  by_cases e : z = j
  · rw [if_pos e, e]; exact ⟨rfl, rfl⟩
  · rw [if_neg e]; exact ⟨rfl, rfl⟩
/-- What is answered where a file system in own memory is in a box. -/
theorem AnsFR.box {w W : World} {bI n cI bD cD rb : Nat} {d : FD} {F : Nat → Prop} (hB : Below w.heap.size w W) (hrb : w.heap.size ≤ rb) (h : FsS W bI n cI bD 20 cD d F) (hF : ∀ c, F c → w.heap.size ≤ c ∧ c ≠ rb) (x y z : Value) : AnsFR w (0, d) (.returned (.agg #[.int .i64 0, .slice (some ⟨bI, 0, none⟩) n cI, .slice (some ⟨bD, 0, none⟩) 20 cD])) (((W.setCell ⟨rb, 0, none⟩ x).setCell ⟨rb, 1, none⟩ y).setCell ⟨rb, 2, none⟩ z) :=
  AnsFR.put hB hrb (h.fsB.mono fun b hb => ⟨(hF b hb.1).1, hb.2, (hF b hb.1).2⟩) x y z
end Go.Proofs.YtaibcofendjnnaaGreatDoor
