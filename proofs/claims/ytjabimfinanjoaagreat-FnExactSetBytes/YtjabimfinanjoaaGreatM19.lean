/- The program's SetBytes, where all is right; the contract. Rows that grow by append, each element with bytes of its own. The specification's copying of a file system. The specification's DropFile. The specification's SetBytes: what it asks; two cells of an inode stored. The specification's SetBytes: a file with other bytes. -/
import Derived.Test.YtjabimfinanjoaaGreatM18
import Derived.Test.YtjabimfinanjoaaGreatM04
import Derived.Test.YtjabimfinanjoaaGreatM09
import Derived.Test.YtjabimfinanjoaaGreatM12
import Derived.Deep.RegionHeld3
import Derived.Deep.RegionLaw
import Derived.Test.YtjabimfinanjoaaGreatM07
import Derived.Test.YtjabimfinanjoaaGreatM06
import Derived.Test.YtjabimfinanjoaaGreatM08
import Derived.Deep.Cut
import Derived.Deep.CutRange
namespace Go.Proofs.YtjabimfinanjoaaGreat
open Go.RowKit
set_option maxRecDepth 100000

set_option maxHeartbeats 6400000 in
theorem implSet_ok (w : World) (a1 : Option Addr) (n1 c1 : Nat) (a2 : Option Addr) (n2 c2 : Nat) (d : FD) (j : Nat) (aT : Option Addr) (L cT : Nat) (data : List UInt8) (aB : Option Addr) (nB cB : Nat) (busy : List Int) (h : FsR w (.slice a1 n1 c1) (.slice a2 n2 c2) d) (ht : Byt w (.slice aT L cT) data) (hb : Ints w (.slice aB nB cB) busy) (hs : sizeFs d ≤ 1048576) (hbl : busy.length ≤ 1048576) (hc : askR d (j : Int) busy = 0) (hL : L ≤ 32) (k : Nat) (hk : (L + 7) / 8 = k) (bs : List Int) (hp : pickR d.1 busy (k : Int) = (0, bs)) :
    Calls Tryz.prog 9 #[.agg #[.slice a1 n1 c1, .slice a2 n2 c2], .int .i64 (j : Int), .slice aT L cT, .slice aB nB cB] w (AnsFR w (0, d.1.set j (setI d j bs L), putK (clrK d.2 (blkA d j) (blkA d j).length) bs data bs.length)) := by
  have hsd0 := sound (askR_code hc).1
  rw [Int.toNat_natCast] at hsd0
  have HSD : Hid (Sound d j) := hsd0
  have hpk : (pickR d.1 busy (k : Int)).1 = 0 := by rw [hp]
  have hpl := pick_ok hpk
  rw [hp] at hpl
  dsimp only at hpl
  have HB0 : Hid (Below w.heap.size w ((w.alloc (.cells #[.slice a1 n1 c1, .slice a2 n2 c2] 31)).alloc (.cells #[.int .i64 0, .slice none 0 0, .slice none 0 0] 33))) := later2 _ _ _
  have HBX : Hid (Bx ((w.alloc (.cells #[.slice a1 n1 c1, .slice a2 n2 c2] 31)).alloc (.cells #[.int .i64 0, .slice none 0 0, .slice none 0 0] 33)) w.heap.size [.slice a1 n1 c1, .slice a2 n2 c2]) := (Bx.new w [.slice a1 n1 c1, .slice a2 n2 c2] _).later (later1 _ _)
  have HRS : Hid (OwnRow ((w.alloc (.cells #[.slice a1 n1 c1, .slice a2 n2 c2] 31)).alloc (.cells #[.int .i64 0, .slice none 0 0, .slice none 0 0] 33)) (w.heap.size + 1) 3 (cel zero3)) := by
    have p2 := row3 (w.alloc (.cells #[.slice a1 n1 c1, .slice a2 n2 c2] 31)) 33
    rw [World.size_alloc] at p2
    exact p2
  have HBY : Hid (∀ W, Below w.heap.size w W → Calls Tryz.prog 25 #[.agg #[.slice a1 n1 c1, .slice a2 n2 c2], .int .i64 (j : Int), .slice aB nB cB] W (AnsYR W (askY d (j : Int) busy))) := fun W hW => bytesToWrite_any W a1 n1 c1 a2 n2 c2 d (j : Int) _ busy (h.later hW) hs (hb.later hW)
  have HBF : Hid (∀ W, Calls Tryz.prog 26 #[.int .i64 (L : Int)] W fun e w' => e = .returned (.agg #[.int .i64 0, .int .i64 (k : Int)]) ∧ Below W.heap.size W w') := fun W => by
    have := implBFor_any W (L : Int)
    have e : bforR (L : Int) = (0, (k : Int)) := by unfold bforR sizeB; rw [if_pos (by simp; omega)]; simp only [Prod.mk.injEq, true_and]; omega
    rw [e] at this
    exact this
  have HPK : Hid (∀ W, Below w.heap.size w W → Calls Tryz.prog 27 #[.slice a1 n1 c1, .slice aB nB cB, .int .i64 (k : Int)] W (AnsIC W (0, bs))) := fun W hW => by
    have := implPickC W a1 n1 c1 d.1 aB nB cB busy (k : Int) (h.1.later hW) (hb.later hW) (by unfold sizeFs at hs; omega) hbl
    rw [hp] at this
    exact this
  have HOP : Hid (∀ W, Below w.heap.size w W → Calls Tryz.prog 28 #[.agg #[.slice a1 n1 c1, .slice a2 n2 c2], .int .i64 (j : Int)] W fun e w' => ∃ bf bI cI bD cD aB cB aE cE, e = .returned (.pointer (some ⟨bf, 0, none⟩)) ∧ FileS W w' bf bI d.1.length cI bD cD d j (d.1[j]?.getD id0) aB cB aE cE) := fun W hW => openFile_any W a1 n1 c1 a2 n2 c2 d j (h.later hW) hs hsd0.dat hsd0.lt hsd0.ten
  have HWR : Hid (∀ (W w4 : World) (bf bI cI bD cD : Nat) (aB : Option Addr) (cB : Nat) (aE : Option Addr) (cE : Nat) (aP : Option Addr) (cP : Nat) (F : Nat → Prop), Below w.heap.size w W → FileS W w4 bf bI d.1.length cI bD cD d j (d.1[j]?.getD id0) aB cB aE cE → IntsO W (.slice aP bs.length cP) bs F → Calls Tryz.prog 29 #[.pointer (some ⟨bf, 0, none⟩), .slice aP bs.length cP, .slice aT L cT] w4 fun e w' => e = .returned (.tuple #[]) ∧ FileS W w' bf bI d.1.length cI bD cD (d.1, putK (clrK d.2 (blkA d j) (blkA d j).length) bs data bs.length) j (setI d j bs L) aP cP aE cE) := fun W w4 bf bI cI bD cD aB cB aE cE aP cP F hW hf hi => write_any W w4 bf bI d.1.length cI bD cD d j (d.1[j]?.getD id0) aB cB aE cE hf hsd0.blk hsd0.four aP cP bs F hi hpl.2 aT L cT data (ht.later hW) hL (by omega)
  have h0 : (askY d (j : Int) busy).1 = 0 := by rw [askY_code]; exact hc
  have HA0 : Hid ((askY d (j : Int) busy).1 = 0) := h0
  have HEN : Hid ((setI d j bs L).2.2.2.2 = []) := hsd0.ent
  have HBL : Hid ((setI d j bs L).2.2.2.1 = bs) := rfl
  have HLK : Hid (bs.length = k) := hpl.1
  clear h hs hc hb h0 hL hp hbl hk hpk hpl ht hsd0
  generalize setI d j bs L = xj at *
  generalize putK (clrK d.2 (blkA d j) (blkA d j).length) bs data bs.length = Z at *
  obtain ⟨y0, y1, y2, y3, y4⟩ := xj
  have e3 := HBL.out.symm
  have e4 := HEN.out
  dsimp only at e3 e4
  subst e3 e4
  clear HBL HEN
  go_enter Tryz.func9, Tryz.ntmps9
  go_wp2_with fail
  generalize ((w.alloc (.cells #[.slice a1 n1 c1, .slice a2 n2 c2] 31)).alloc (.cells #[.int .i64 0, .slice none 0 0, .slice none 0 0] 33)) = W0 at *
  refine (HBY.out _ HB0.out).mono ?_
  rintro e w1 ⟨ay, ny, cy, rfl, hb1, _⟩
  have HB1 : Hid (Below w.heap.size w w1) := HB0.out.trans (hb1.mono HB0.out.size)
  have HR1 : Hid (OwnRow w1 (w.heap.size + 1) 3 (cel zero3)) := HRS.out.later hb1
  have HX1 : Hid (Bx w1 w.heap.size [.slice a1 n1 c1, .slice a2 n2 c2]) := HBX.out.later hb1
  have hlw1 : w.heap.size + 1 < w1.heap.size := HR1.out.lt
  clear hb1
  rw [HA0.out]
  go_wp2_with fail
  refine (HBF.out _).mono ?_
  rintro e w2 ⟨rfl, hb2⟩
  have hb2' : Below w1.heap.size w1 w2 := (later1 _ _).trans (hb2.mono (by simp))
  have HB2 : Hid (Below w.heap.size w w2) := HB1.out.trans (hb2'.mono HB1.out.size)
  have HR2 : Hid (OwnRow w2 (w.heap.size + 1) 3 (cel zero3)) := HR1.out.later hb2'
  have HX2 : Hid (Bx w2 w.heap.size [.slice a1 n1 c1, .slice a2 n2 c2]) := HX1.out.later hb2'
  have x0 := HX2.out 0 _ rfl
  have x1 := HX2.out 1 _ rfl
  have hlw2 : w.heap.size + 1 < w2.heap.size := HR2.out.lt
  have hlw0 : w.heap.size < w2.heap.size := by omega
  clear hb2 hb2' HBY HBF HX1 HR1 HB1 HB0 HRS HBX
  go_wp2_with fail
  refine (HPK.out _ (HB2.out.trans ((later1 _ _).mono HB2.out.size))).mono ?_
  rintro e w3 ⟨⟨ap, np, cp, rfl, hb3, hi3⟩, hcap⟩
  have hcp : np ≤ cp := hcap _ _ _ _ rfl
  obtain ⟨_, _, en, _⟩ := hi3.reads.open'
  simp only [Value.slice.injEq] at en
  obtain ⟨rfl, rfl, rfl⟩ := en
  have hb3' : Below w2.heap.size w2 w3 := (later1 _ _).trans (hb3.mono (by simp))
  have HI3 : Hid (IntsO w3 (.slice ap bs.length cp) bs (fun c => w2.heap.size ≤ c ∧ c < w3.heap.size)) := hi3.mono fun c hc => ⟨by have := hc.1; simp at this; omega, hc.2⟩
  have HB3 : Hid (Below w.heap.size w (w3.alloc (.cells #[.int .i64 0, .slice ap bs.length cp] 60))) := (HB2.out.trans (hb3'.mono HB2.out.size)).trans ((later1 _ _).mono (HB2.out.trans (hb3'.mono HB2.out.size)).size)
  have HR3 : Hid (OwnRow (w3.alloc (.cells #[.int .i64 0, .slice ap bs.length cp] 60)) (w.heap.size + 1) 3 (cel zero3)) := (HR2.out.later hb3').later (later1 _ _)
  have HP3 : Hid (Bx (w3.alloc (.cells #[.int .i64 0, .slice ap bs.length cp] 60)) w3.heap.size [.int .i64 0, .slice ap bs.length cp]) := Bx.new w3 [.int .i64 0, .slice ap bs.length cp] _
  have HI3' : Hid (IntsO (w3.alloc (.cells #[.int .i64 0, .slice ap bs.length cp] 60)) (.slice ap bs.length cp) bs (fun c => w2.heap.size ≤ c ∧ c < w3.heap.size)) := HI3.out.later (later1 _ _)
  have hz3 : (w3.alloc (.cells #[.int .i64 0, .slice ap bs.length cp] 60)).heap.size = w3.heap.size + 1 := by simp
  have hl3 : w2.heap.size ≤ w3.heap.size := hb3'.size
  have u0 := (HX2.out.later hb3') 0 _ rfl
  have u1 := (HX2.out.later hb3') 1 _ rfl
  have hlw3 : w.heap.size < w3.heap.size := by omega
  clear hb3 hb3' HPK x0 x1 HX2 hi3 hcap HR2 HB2 HI3
  dsimp only
  go_wp2_with fail
  generalize (w3.alloc (.cells #[.int .i64 0, .slice ap bs.length cp] 60)) = W3 at *
  clear u0 u1
  refine (HOP.out _ HB3.out).mono ?_
  rintro e w4 ⟨bf, bI, cI, bD, cD, aX, cX, aE, cE, rfl, hfl⟩
  have HFL : Hid (FileS W3 w4 bf bI d.1.length cI bD cD d j (d.1[j]?.getD id0) aX cX aE cE) := hfl
  have hnf : W3.heap.size ≤ bf := hfl.new
  have p0 := (HP3.out.later hfl.below) 0 _ rfl
  have p1 := (HP3.out.later hfl.below) 1 _ rfl
  clear hfl HOP HP3
  go_wp2_with fail
  refine (HWR.out W3 w4 bf bI cI bD cD aX cX aE cE ap cp _ HB3.out HFL.out HI3'.out).mono ?_
  rintro e w5 ⟨rfl, hfl⟩
  have HF5 : Hid (FileS W3 w5 bf bI d.1.length cI bD cD (d.1, Z) j (y0, y1, y2, bs, []) ap cp aE cE) := hfl
  have hne := hfl.fs.ne
  clear hfl HWR HFL p0 p1
  have HV : Hid (InoU w5 (.int .i64 y0) (.int .i64 y1) (.int .i64 y2) (.slice ap bs.length cp) (.slice aE 0 cE) (y0, y1, y2, bs, []) (fun c => w2.heap.size ≤ c ∧ c < w3.heap.size)) :=
    ⟨⟨rfl, rfl, rfl, ap, _, cp, rfl, hcp⟩, fun c => w2.heap.size ≤ c ∧ c < w3.heap.size, fun _ => False, HI3'.out.later HF5.out.below, Or.inl ⟨rfl, aE, cE, rfl⟩, fun _ _ hh => hh, fun b hh => hh.elim id False.elim⟩
  have h5 : W3.heap.size ≤ w5.heap.size := HF5.out.below.size
  go_wp2_with fail
  refine (close_any w5 bf bI d.1.length cI bD cD (d.1, Z) _ _ j (y0, y1, y2, bs, []) ap bs.length cp aE 0 cE HF5.out.box HF5.out.fs (fun e => hne.2.1.1.2 e.symm) HSD.out.lt HSD.out.ten HV.out (fun c hc => ⟨fun hh => by have := hh.1; omega, by omega⟩)).mono ?_
  rintro e w6 ⟨rfl, hc6, hf6⟩
  have HB6 : Hid (Below W3.heap.size W3 w6) := HF5.out.below.trans (hc6.below HF5.out.below.size fun b hb => hb ▸ hne.2.1.1.1)
  have hs1 : w.heap.size + 1 < W3.heap.size := HR3.out.lt
  have HFS : Hid (FsU w6 (.slice (some ⟨bI, 0, none⟩) d.1.length cI) (.slice (some ⟨bD, 0, none⟩) 20 cD) (d.1.set j (y0, y1, y2, bs, []), Z) (fun b => w.heap.size ≤ b ∧ b < w6.heap.size ∧ b ≠ w.heap.size + 1)) := hf6.fsB.mono fun b hb => by
    rcases hb.1 with h | h
    · exact ⟨by omega, hb.2, by omega⟩
    · exact ⟨by omega, hb.2, by omega⟩
  have HB : Hid (Below w.heap.size w w6) := HB3.out.trans (HB6.out.mono HB3.out.size)
  have hrr := HR3.out.later HB6.out
  have t0 : w6.cell? ⟨w.heap.size + 1, 0, none⟩ = some (.int .i64 0) := hrr.cell (i := 0) (by omega)
  have t1 : w6.cell? ⟨w.heap.size + 1, 1, none⟩ = some (.slice none 0 0) := hrr.cell (i := 1) (by omega)
  have t2 : w6.cell? ⟨w.heap.size + 1, 2, none⟩ = some (.slice none 0 0) := hrr.cell (i := 2) (by omega)
  have s0 := hrr.frozen 0
  have s1 := hrr.frozen 1
  have s2 := hrr.frozen 2
  clear hrr hc6 hf6 HB6 HF5 HV
  go_wp2
  exact bodyPost_ret (v := .agg #[.int .i64 0, .slice (some ⟨bI, 0, none⟩) d.1.length cI, .slice (some ⟨bD, 0, none⟩) 20 cD]) (by simp [results, Tryz.results9, go_sem, t0, t1, t2]) rfl (AnsFR.put HB.out (by omega) HFS.out _ _ _)

theorem implSetU (w : World) (a1 : Option Addr) (n1 c1 : Nat) (a2 : Option Addr) (n2 c2 : Nat) (d : FD) (xx : Int) (aT : Option Addr) (L cT : Nat) (data : List UInt8) (aB : Option Addr) (nB cB : Nat) (busy : List Int) (h : FsR w (.slice a1 n1 c1) (.slice a2 n2 c2) d) (ht : Byt w (.slice aT L cT) data) (hb : Ints w (.slice aB nB cB) busy) (hs : sizeFs d ≤ 1048576) (_hl : data.length ≤ 1048576) (hbl : busy.length ≤ 1048576) :
    Calls Tryz.prog 9 #[.agg #[.slice a1 n1 c1, .slice a2 n2 c2], .int .i64 xx, .slice aT L cT, .slice aB nB cB] w (AnsFR w (setR d xx data busy)) := by
  have ht0 := ht
  obtain ⟨_, _, esh, _, _⟩ := ht0
  simp only [Value.slice.injEq] at esh
  obtain ⟨rfl, rfl, rfl⟩ := esh
  unfold setR
  by_cases hc : askR d xx busy = 0
  · rw [if_pos hc]
    unfold setQ
    by_cases hL : data.length ≤ 32
    · rw [if_pos hL]
      by_cases hp : (pickR d.1 busy (((data.length + 7) / 8 : Nat) : Int)).1 = 0
      · rw [if_pos hp]
        obtain ⟨_, _, hpl, _, _⟩ := bytR_code (askR_code hc).1
        obtain ⟨j, rfl⟩ : ∃ j : Nat, xx = (j : Int) := ⟨xx.toNat, by omega⟩
        rw [Int.toNat_natCast]
        exact implSet_ok w a1 n1 c1 a2 n2 c2 d j aT data.length cT data aB nB cB busy h ht hb hs hbl hc hL _ rfl _ (Prod.ext hp rfl)
      · rw [if_neg hp]
        exact implSet_full w a1 n1 c1 a2 n2 c2 d xx aT data.length cT aB nB cB busy h hb hs hbl hc hL _ rfl hp
    · rw [if_neg hL]
      exact implSet_long w a1 n1 c1 a2 n2 c2 d xx aT data.length cT aB nB cB busy h hb hs hc hL
  · rw [if_neg hc]
    exact implSet_bad w a1 n1 c1 a2 n2 c2 d xx aT data.length cT aB nB cB busy h hb hs hc
end Go.Proofs.YtjabimfinanjoaaGreat

namespace Go.Proofs.YtjabimfinanjoaaGreat
open Go.RowKit
set_option maxRecDepth 100000

/-- A row of n elements that the call owns; element i is told by C i (u i), where u i is a list of its own in block k i. -/
structure YRow (C : Nat → Value → List Value) (w : World) (base lo : Nat) (e : TypeId) (size : Nat) (v : Value) (n : Nat) (f : Nat → List UInt8) (k : Nat → Nat) (u : Nat → Value) : Prop where
  own : w.ownsRow base e size v n ((List.range n).flatMap fun i => C i (u i))
  lo : ∀ i, i < n → lo ≤ k i ∧ k i < w.heap.size
  ne : ∀ i, i < n → v.ownBlock ≠ some (k i)
  inj : ∀ i j, i < n → j < n → i ≠ j → k i ≠ k j
  sh : ∀ i, i < n → ∃ a c, u i = .slice a (f i).length c
  at' : ∀ i, i < n → BytO w (u i) (f i) (fun c => c = k i)

theorem YRow.nil {C : Nat → Value → List Value} (w : World) (base lo : Nat) (e : TypeId) (size : Nat) (f : Nat → List UInt8) : YRow C w base lo e size (.slice none 0 0) 0 f (fun _ => 0) (fun _ => .slice none 0 0) :=
  ⟨World.ownsRow_nil _ _ _ _, fun i hi => by omega, fun i hi => by omega, fun i j hi => by omega, fun i hi => by omega, fun i hi => by omega⟩
theorem YRow.keep {C : Nat → Value → List Value} {w w' : World} {base lo : Nat} {e : TypeId} {size : Nat} {v : Value} {n : Nat} {f : Nat → List UInt8} {k : Nat → Nat} {u : Nat → Value} (h : YRow C w base lo e size v n f k u) (hs : w.heap.size ≤ w'.heap.size)
    (hrow : ∀ g, v.ownBlock = some g → w'.heap[g]? = w.heap[g]?) (hk : ∀ i, i < n → w'.heap[k i]? = w.heap[k i]?) : YRow C w' base lo e size v n f k u := by
  refine ⟨?_, fun i hi => ⟨(h.lo i hi).1, Nat.lt_of_lt_of_le (h.lo i hi).2 hs⟩, h.ne, h.inj, h.sh, fun i hi => (h.at' i hi).keep fun b hb _ => by rw [hb]; exact hk i hi⟩
  obtain ⟨h1, h2⟩ := h.own
  refine ⟨h1, ?_⟩
  rcases h2 with h2 | ⟨g, cap, cur, hv, hg, hh, r⟩
  · exact Or.inl h2
  · exact Or.inr ⟨g, cap, cur, hv, hg, by rw [hrow g (by rw [hv]; rfl)]; exact hh, r⟩
theorem YRow.later {C : Nat → Value → List Value} {w w' : World} {base lo : Nat} {e : TypeId} {size : Nat} {v : Value} {n : Nat} {f : Nat → List UInt8} {k : Nat → Nat} {u : Nat → Value} (h : YRow C w base lo e size v n f k u) (hb : Below w.heap.size w w') : YRow C w' base lo e size v n f k u :=
  h.keep hb.size (fun g hg => hb.block g (h.own.lt g hg).2) (fun i hi => hb.block _ (h.lo i hi).2)
theorem YRow.store {C : Nat → Value → List Value} {w : World} {base lo : Nat} {e : TypeId} {size : Nat} {v : Value} {n : Nat} {f : Nat → List UInt8} {k : Nat → Nat} {u : Nat → Value} (h : YRow C w base lo e size v n f k u) {p : Addr} (h1 : p.block < base) (h2 : p.block < lo) (x : Value) : YRow C (w.setCell p x) base lo e size v n f k u :=
  h.keep (by simp [World.setCell]) (fun g hg => Below.heap_setCell _ _ _ _ (by have := (h.own.lt g hg).1; omega)) (fun i hi => Below.heap_setCell _ _ _ _ (by have := (h.lo i hi).1; omega))
theorem YRow.shape {C : Nat → Value → List Value} {w : World} {base lo : Nat} {e : TypeId} {size : Nat} {v : Value} {n : Nat} {f : Nat → List UInt8} {k : Nat → Nat} {u : Nat → Value} (h : YRow C w base lo e size v n f k u) : ∃ a c, v = .slice a n c := by
  rcases h.own.2 with ⟨rfl, rfl⟩ | ⟨g, c, cur, rfl, _⟩
  · exact ⟨_, _, rfl⟩
  · exact ⟨_, _, rfl⟩

/-- What 'append' of one element comes to. -/
theorem YRow.append {C : Nat → Value → List Value} (w w1 : World) (t ty e : TypeId) (i : TypeInfo) (z : Value) (size bytes : Nat) (ht : Tryz.prog.underlying t = some (.slice e)) (hi : Tryz.prog.info? e = some i) (hz : i.zero = some z) (hsize : i.size = size) (hby : i.bytes = bytes) (hzs : z.cells.size = size) (hsz : 0 < size) (hbb : bytes ≤ 1000)
    (base lo n : Nat) (v : Value) (f : Nat → List UInt8) (k : Nat → Nat) (u : Nat → Value) (h : YRow C w base lo e size v n f k u) (hb : base ≤ w.heap.size) (hn : n ≤ 1048600) (hb1 : Below w.heap.size w w1)
    (a : Option Addr) (c : Nat) (hlen : (C n (.slice a (f n).length c)).length = size) (hone : ∀ x ∈ C n (.slice a (f n).length c), x.oneCell' = true) (kb : Nat) (hk1 : lo ≤ kb) (hk2 : kb ≤ w1.heap.size) (hk3 : v.ownBlock ≠ some kb) (hk4 : ∀ i, i < n → k i ≠ kb) (hf : BytO w1 (.slice a (f n).length c) (f n) (fun x => x = kb)) :
    ∃ g cap X, (Builtin.append_ #[t, t] ty #[v, .slice (some ⟨w1.heap.size, 0, none⟩) 1 1]).run Tryz.prog (w1.alloc (.cells (C n (.slice a (f n).length c)).toArray e)) = .ok (.slice (some ⟨g, 0, none⟩) (n + 1) cap) X ∧
      (∀ b, b < w1.heap.size → v.ownBlock ≠ some b → X.heap[b]? = w1.heap[b]?) ∧ Below base w X ∧ w1.heap.size < X.heap.size ∧
      YRow C X base lo e size (.slice (some ⟨g, 0, none⟩) (n + 1) cap) (n + 1) f (fun j => if j = n then kb else k j) (fun j => if j = n then .slice a (f n).length c else u j) := by
  have hsz1 := hb1.size
  have hbW : Below w.heap.size w (w1.alloc (.cells (C n (.slice a (f n).length c)).toArray e)) := hb1.trans ((later1 _ _).mono hb1.size)
  have hW := h.later hbW
  obtain ⟨g, cap, X, hr, ho, hg, hat, hgX⟩ := run_append_lies (P := Tryz.prog) (w1.alloc (.cells (C n (.slice a (f n).length c)).toArray e)) t ty base e i z size bytes ht hi hz hsize hby hzs hsz v n _ hW.own ⟨w1.heap.size, 0, none⟩ 1 1 (C n (.slice a (f n).length c)) (by rw [hlen, Nat.one_mul])
    (fun j x hx => by
      rw [add_plain', Nat.zero_add, new_cell]
      simpa using hx) hone (by decide) (by unfold maxLen; omega) (by have : (n + 1) * bytes ≤ 1048601 * 1000 := Nat.mul_le_mul (by omega) hbb; omega) (by simp; omega) (w1.heap.size + 1) (by simp)
  have hrow : ∀ g, v.ownBlock = some g → g < w.heap.size := fun g hg => (h.own.lt g hg).2
  have hrowb : ∀ g, v.ownBlock = some g → base ≤ g := fun g hg => (h.own.lt g hg).1
  have hXb : ∀ b, b < w1.heap.size → v.ownBlock ≠ some b → X.heap[b]? = w1.heap[b]? := fun b hb' hne => (hg.block b (by simp; omega) (fun e => hne e.symm)).trans ((later1 _ _).block b hb')
  have hne : ∀ b, b ≤ w1.heap.size → v.ownBlock ≠ some b → g ≠ b := by
    intro b hb' hb2 e
    subst e
    rcases hat with h | h
    · exact hb2 h
    · omega
  have old : ∀ b, b < w.heap.size → v.ownBlock ≠ some b → X.heap[b]? = w.heap[b]? := fun b hb' hne => (hXb b (by omega) hne).trans (hb1.block b hb')
  have hXs : w1.heap.size < X.heap.size := by have := hg.size; simp at this; omega
  refine ⟨g, cap, X, hr, hXb, (hbW.mono hb).trans (below_grown hg (by simp; omega) (fun g hg' => hrowb g hg')), hXs, ⟨?_, fun j hj => ?_, fun j hj => ?_, fun j j' hj hj' e => ?_, fun j hj => ?_, fun j hj => ?_⟩⟩
  · rw [List.range_succ, List.flatMap_append]
    have e1 : (List.range n).flatMap (fun i => C i (if i = n then .slice a (f n).length c else u i)) = (List.range n).flatMap (fun i => C i (u i)) := by
      have e0 : (List.range n).map (fun i => C i (if i = n then .slice a (f n).length c else u i)) = (List.range n).map (fun i => C i (u i)) := List.map_congr_left fun i hi => by rw [if_neg (by have := List.mem_range.1 hi; omega)]
      rw [List.flatMap_def, List.flatMap_def, e0]
    have e2 : [n].flatMap (fun i => C i (if i = n then .slice a (f n).length c else u i)) = C n (.slice a (f n).length c) := by simp only [List.flatMap_cons, List.flatMap_nil, List.append_nil, if_true]
    rw [e1, e2]
    exact ho
  · by_cases e : j = n
    · subst e; simp; omega
    · have := h.lo j (by omega); simp [e]; omega
  · by_cases e : j = n
    · subst e
      simp only [if_true]
      exact fun e => hne kb hk2 hk3 (by simpa [Value.ownBlock] using e)
    · have hj' : j < n := by omega
      have hl := h.lo j hj'
      simp only [e, if_false]
      exact fun e => hne (k j) (by omega) (h.ne j hj') (by simpa [Value.ownBlock] using e)
  · by_cases e1 : j = n
    · by_cases e2 : j' = n
      · omega
      · simp [e1, e2]; exact fun e => hk4 j' (by omega) e.symm
    · by_cases e2 : j' = n
      · simp [e1, e2]; exact hk4 j (by omega)
      · simp [e1, e2]; exact h.inj j j' (by omega) (by omega) e
  · by_cases e : j = n
    · subst e; exact ⟨a, c, by simp⟩
    · simp only [e, if_false]; exact h.sh j (by omega)
  · by_cases e : j = n
    · subst e
      simp only [if_true]
      exact hf.keep fun b hb' hlt' => by subst hb'; exact hXb _ hlt' hk3
    · have hj' : j < n := by omega
      simp only [e, if_false]
      exact (h.at' j hj').keep fun b hb' hlt' => by rw [hb']; exact old _ (h.lo j hj').2 (h.ne j hj')

/-- The one block of a list that is fresh. -/
theorem BytO.one {w w1 : World} {v : Value} {zs : List UInt8} (h : BytO w1 v zs (fresh w w1)) (hlt : w.heap.size < w1.heap.size) : ∃ kb, w.heap.size ≤ kb ∧ kb < w1.heap.size ∧ BytO w1 v zs (fun c => c = kb) := by
  rcases h with h | ⟨b, cap, hF, r⟩
  · exact ⟨w.heap.size, Nat.le_refl _, hlt, Or.inl h⟩
  · exact ⟨b, hF.1, hF.2, Or.inr ⟨b, cap, rfl, r⟩⟩

/-- The cells of such a row. -/
theorem YRow.cells {C : Nat → Value → List Value} {w : World} {base lo : Nat} {e : TypeId} {size : Nat} {v : Value} {n : Nat} {f : Nat → List UInt8} {k : Nat → Nat} {u : Nat → Value} (h : YRow C w base lo e size v n f k u) (hsz : 0 < size) (hC : ∀ i, (C i (u i)).length = size) (hn : 0 < n) :
    ∃ g cap, v = .slice (some ⟨g, 0, none⟩) n cap ∧ base ≤ g ∧ g < w.heap.size ∧ n ≤ maxLen ∧ n ≤ cap ∧ OwnRow w g (n * size) (fun c => (C (c / size) (u (c / size)))[c % size]?.getD undef) := by
  obtain ⟨hl, h2 | ⟨g, cap, cur, rfl, hb, hh, hnc, hcm, hcs, htake⟩⟩ := h.own
  · omega
  · have hle : n * size ≤ cap * size := Nat.mul_le_mul_right _ hnc
    refine ⟨g, cap, rfl, hb, (Array.getElem?_eq_some_iff.1 hh).1, by omega, hnc, cur, e, hh, by omega, fun c hc => ?_⟩
    have hd : c / size < n := by rw [Nat.div_lt_iff_lt_mul hsz]; exact hc
    have hm : c % size < size := Nat.mod_lt _ hsz
    have hg := flat_get hsz u hC n (c / size) (c % size) hd hm
    rw [Nat.div_add_mod'] at hg
    have h1 : ((List.range n).flatMap fun i => C i (u i))[c]? = cur[c]? := by rw [← htake, List.getElem?_take, if_pos hc, Array.getElem?_toList]
    rw [h1] at hg
    have hlt : c < cur.size := by omega
    show cur[c]? = some ((C (c / size) (u (c / size)))[c % size]?.getD undef)
    rw [← hg, Array.getElem?_eq_getElem hlt]; rfl

theorem YRow.byts {w : World} {base lo : Nat} {e : TypeId} {v : Value} {n : Nat} {k : Nat → Nat} {u : Nat → Value} {zss : List (List UInt8)} (h : YRow C1 w base lo e 1 v n (fun i => zss[i]?.getD []) k u) (hn : zss.length = n) (F : Nat → Prop) (hF : ∀ c, base ≤ c → c < w.heap.size → F c) (hF' : ∀ c, lo ≤ c → c < w.heap.size → F c) : BytsO w v zss F := by
  subst hn
  by_cases h0 : zss.length = 0
  · obtain ⟨a, c, rfl⟩ := h.shape
    exact Or.inl ⟨List.eq_nil_of_length_eq_zero h0, a, c, by rw [h0]⟩
  · obtain ⟨g, cap, rfl, hb, hg, hm, hnc, hrow⟩ := h.cells (by decide) (fun _ => rfl) (by omega)
    refine Or.inr ⟨g, cap, u, fun i c => i < zss.length ∧ c = k i, hF g hb hg, fun i c hc => ?_, fun i j c e h1 h2 => h.inj i j h1.1 h2.1 e (h1.2.symm.trans h2.2), rfl, ⟨hm, hnc⟩, ?_, fun i hi => (h.at' i hi).mono fun c hc => ⟨hi, hc⟩⟩
    · have hl := h.lo i hc.1
      have hne := h.ne i hc.1
      rw [hc.2]
      exact ⟨hF' _ hl.1 hl.2, fun e => hne (by simp [Value.ownBlock, e])⟩
    · rw [Nat.mul_one] at hrow
      exact hrow.congr fun i hi => by simp [C1, Nat.mod_one]
end Go.Proofs.YtjabimfinanjoaaGreat

namespace Go.Proofs.YtjabimfinanjoaaGreat
open Go.RowKit
set_option maxRecDepth 100000

theorem Tryz.infoU8L' : ∃ i, Tryz.prog.info? 26 = some i ∧ i.zero = some (.slice none 0 0) ∧ i.size = 1 ∧ i.bytes = 24 := by
  have h : (Tryz.prog.info? 26).map (fun i => (i.zero, i.size, i.bytes)) = some (some (.slice none 0 0), 1, 24) := by kernel_rfl
  rw [Option.map_eq_some_iff] at h
  obtain ⟨i, hi, e⟩ := h
  simp only [Prod.mk.injEq] at e
  exact ⟨i, hi, e.1, e.2.1, e.2.2⟩
/-- A list's bytes copied, and the copy appended. -/
theorem rndYL (wr : World) (base n : Nat) (v : Value) (zss : List (List UInt8)) (k : Nat → Nat) (u : Nat → Value) (h : YRow C1 wr base base 26 1 v n (fun i => zss[i]?.getD []) k u) (hb : base ≤ wr.heap.size) (hn : n ≤ 1048576) (ua : Option Addr) (uc : Nat)
    (hy : Byt wr (.slice ua (zss[n]?.getD []).length uc) (zss[n]?.getD [])) (hl : (zss[n]?.getD []).length ≤ 1048576) :
    ∃ na nc X1 g cap X k' u', (Builtin.append_ #[26, 26] 26 #[.slice (some ⟨wr.heap.size, 0, none⟩) 0 0, .slice ua (zss[n]?.getD []).length uc]).run Tryz.prog (wr.drew.alloc (.cells #[] 5)) = .ok (.slice na (zss[n]?.getD []).length nc) X1 ∧
      (Builtin.append_ #[23, 23] 23 #[v, .slice (some ⟨X1.heap.size, 0, none⟩) 1 1]).run Tryz.prog (X1.alloc (.cells #[.slice na (zss[n]?.getD []).length nc] 26)) = .ok (.slice (some ⟨g, 0, none⟩) (n + 1) cap) X ∧
      Below wr.heap.size wr X1 ∧ Below base wr X ∧ YRow C1 X base base 26 1 (.slice (some ⟨g, 0, none⟩) (n + 1) cap) (n + 1) (fun i => zss[i]?.getD []) k' u' := by
  have hb0 : Below wr.heap.size wr (wr.drew.alloc (.cells #[] 5)) := (Below.refl _ _).drew.trans (by simpa using later1 wr.drew (.cells #[] 5))
  obtain ⟨v', X1, hr1, hw1, hB1⟩ := append_y (wr.drew.alloc (.cells #[] 5)) wr.heap.size _ [] (zss[n]?.getD []) ua _ uc (WdY.lit0 wr.drew wr.heap.size (by simp)) (by simp) (by simp) hl (hy.later hb0)
  rw [List.nil_append] at hw1
  obtain ⟨na, nc, rfl⟩ := hw1.shape
  have hbX1 : Below wr.heap.size wr X1 := hb0.trans hB1
  have hlt : wr.heap.size < X1.heap.size := by have := hB1.size; simp at this; omega
  obtain ⟨kb, hk1, hk2, hkf⟩ := (hw1.own (w0 := wr) (Nat.le_refl _)).one hlt
  obtain ⟨i, hi, h1, h2, h3⟩ := Tryz.infoU8L'
  obtain ⟨g, cap, X, hr2, _, hBX, _, hLX⟩ := YRow.append wr X1 23 23 26 i _ 1 24 Tryz.underlying23 hi h1 h2 h3 rfl (by decide) (by decide) base base n _ _ k u h hb (by omega) hbX1 na nc rfl (fun x hx => by simp [C1] at hx; subst hx; rfl) kb (Nat.le_trans hb hk1) (Nat.le_of_lt hk2) (fun e => by have := (h.own.lt kb e).2; omega) (fun i hi e => by have := (h.lo i hi).2; omega) hkf
  refine ⟨na, nc, X1, g, cap, X, _, _, ?_, hr2, hbX1, hBX, hLX⟩
  simpa using hr1

/-- What stands at the head of each round of the inodes. -/
def CpI (w : World) (d : FD) (vI vD : Value) (wr : World) (j : Nat) : Prop :=
  Below w.heap.size w wr ∧ w.heap.size + 3 ≤ wr.heap.size ∧ OwnRow wr w.heap.size 2 (fun i => if i = 0 then vI else vD) ∧ OwnRow wr (w.heap.size + 1) 2 (fun _ => .slice none 0 0) ∧
    ∃ aX cX u G, OwnRow wr (w.heap.size + 2) 2 (fun i => if i = 0 then .slice aX j cX else .slice none 0 0) ∧ IRow wr (w.heap.size + 3) (.slice aX j cX) j (fun i => d.1[i]?.getD id0) u G
theorem CpI.next {w wr X : World} {d : FD} {vI vD : Value} {j g cap : Nat} {u' : Nat → Value × Value} {G' : Nat → Nat → Prop} (h : CpI w d vI vD wr j) (hX : Below (w.heap.size + 3) wr X) (hL : IRow X (w.heap.size + 3) (.slice (some ⟨g, 0, none⟩) (j + 1) cap) (j + 1) (fun i => d.1[i]?.getD id0) u' G') :
    CpI w d vI vD (X.setCell ⟨w.heap.size + 2, 0, none⟩ (.slice (some ⟨g, 0, none⟩) (j + 1) cap)) (j + 1) := by
  obtain ⟨h1, h2, h3, h4, aX, cX, u, G, h5, _⟩ := h
  refine ⟨(h1.trans (hX.mono (by omega))).setCell (by simp) _, ?_, (h3.block (hX.block _ (by omega))).store (by simp) _, (h4.block (hX.block _ (by omega))).store (by simp) _, some ⟨g, 0, none⟩, cap, u', G', ((h5.block (hX.block _ (by omega))).set 0 _).congr fun i hi => ?_, hL.store (by simp) _⟩
  · have := hX.size; simp [World.setCell]; omega
  · match i, hi with
    | 0, _ => rfl
    | 1, _ => rfl
theorem CpI.row {w wr : World} {d : FD} {vI vD : Value} {j : Nat} (h : CpI w d vI vD wr j) : ∃ aX cX, (wr.cell? ⟨w.heap.size, 0, none⟩ = some vI ∧ wr.cell? ⟨w.heap.size, 1, none⟩ = some vD ∧ wr.cell? ⟨w.heap.size + 2, 0, none⟩ = some (.slice aX j cX) ∧ wr.frozen? ⟨w.heap.size + 2, 0, none⟩ = false) ∧ ∃ u G, IRow wr (w.heap.size + 3) (.slice aX j cX) j (fun i => d.1[i]?.getD id0) u G := by
  obtain ⟨_, _, h3, _, aX, cX, u, G, h5, h6⟩ := h
  exact ⟨aX, cX, ⟨h3.cell (i := 0) (by omega), h3.cell (i := 1) (by omega), h5.cell (i := 0) (by omega), h5.frozen 0⟩, u, G, h6⟩
/-- What stands at the head of each round of the data. -/
def CpD (w : World) (d : FD) (vI vD : Value) (mid : Nat) (wr : World) (j : Nat) : Prop :=
  Below w.heap.size w wr ∧ (w.heap.size + 3 ≤ mid ∧ mid ≤ wr.heap.size) ∧ OwnRow wr w.heap.size 2 (fun i => if i = 0 then vI else vD) ∧ OwnRow wr (w.heap.size + 1) 2 (fun _ => .slice none 0 0) ∧
    ∃ aI cI aX cX k u, OwnRow wr (w.heap.size + 2) 2 (fun i => if i = 0 then .slice aI d.1.length cI else .slice aX j cX) ∧ InosO wr (.slice aI d.1.length cI) d.1 (fun c => w.heap.size + 3 ≤ c ∧ c < mid) ∧ YRow C1 wr mid mid 26 1 (.slice aX j cX) j (fun i => d.2[i]?.getD []) k u
theorem CpD.start {w wr : World} {d : FD} {vI vD : Value} (h : CpI w d vI vD wr d.1.length) : CpD w d vI vD wr.heap.size wr 0 := by
  obtain ⟨h1, h2, h3, h4, aX, cX, u, G, h5, h6⟩ := h
  exact ⟨h1, ⟨h2, Nat.le_refl _⟩, h3, h4, aX, cX, none, 0, fun _ => 0, fun _ => .slice none 0 0, h5, (h6.inos rfl).mono fun c hc => ⟨hc.1, hc.2.1⟩, YRow.nil _ _ _ _ _ _⟩
theorem CpD.next {w wr X : World} {d : FD} {vI vD : Value} {mid j g cap : Nat} {k' : Nat → Nat} {u' : Nat → Value} (h : CpD w d vI vD mid wr j) (hX : Below mid wr X) (hL : YRow C1 X mid mid 26 1 (.slice (some ⟨g, 0, none⟩) (j + 1) cap) (j + 1) (fun i => d.2[i]?.getD []) k' u') :
    CpD w d vI vD mid (X.setCell ⟨w.heap.size + 2, 1, none⟩ (.slice (some ⟨g, 0, none⟩) (j + 1) cap)) (j + 1) := by
  obtain ⟨h1, h2, h3, h4, aI, cI, aX, cX, k, u, h5, h6, _⟩ := h
  refine ⟨(h1.trans (hX.mono (by omega))).setCell (by simp) _, ⟨h2.1, ?_⟩, (h3.block (hX.block _ (by omega))).store (by simp) _, (h4.block (hX.block _ (by omega))).store (by simp) _, aI, cI, some ⟨g, 0, none⟩, cap, k', u', ((h5.block (hX.block _ (by omega))).set 1 _).congr fun i hi => ?_, h6.keep fun c hc _ => ?_, hL.store (by simp; omega) (by simp; omega) _⟩
  · have := hX.size; simp [World.setCell]; omega
  · match i, hi with
    | 0, _ => rfl
    | 1, _ => rfl
  · rw [Below.heap_setCell _ _ _ _ (by simp; omega), hX.block c hc.2]
theorem CpD.row {w wr : World} {d : FD} {vI vD : Value} {mid j : Nat} (h : CpD w d vI vD mid wr j) : ∃ aI cI aX cX, (wr.cell? ⟨w.heap.size, 1, none⟩ = some vD ∧ wr.cell? ⟨w.heap.size + 2, 0, none⟩ = some (.slice aI d.1.length cI) ∧ wr.cell? ⟨w.heap.size + 2, 1, none⟩ = some (.slice aX j cX) ∧ wr.frozen? ⟨w.heap.size + 2, 1, none⟩ = false) ∧ InosO wr (.slice aI d.1.length cI) d.1 (fun c => w.heap.size + 3 ≤ c ∧ c < mid) ∧ ∃ k u, YRow C1 wr mid mid 26 1 (.slice aX j cX) j (fun i => d.2[i]?.getD []) k u := by
  obtain ⟨_, _, h3, _, aI, cI, aX, cX, k, u, h5, h6, h7⟩ := h
  exact ⟨aI, cI, aX, cX, ⟨h3.cell (i := 1) (by omega), h5.cell (i := 0) (by omega), h5.cell (i := 1) (by omega), h5.frozen 1⟩, h6, k, u, h7⟩

set_option maxHeartbeats 6400000 in
theorem l6Copy_any (w : World) (a1 : Option Addr) (n1 c1 : Nat) (a2 : Option Addr) (n2 c2 : Nat) (d : FD) (h : FsR w (.slice a1 n1 c1) (.slice a2 n2 c2) d) (hs : sizeFs d ≤ 1048576) :
    Calls Tryz.prog 43 #[.agg #[.slice a1 n1 c1, .slice a2 n2 c2]] w (AnsFs w d) := by
  obtain ⟨_, _, e1, hm1, hAt⟩ := h.1.open'
  obtain ⟨_, _, e2, hm2, hBt⟩ := h.2.open'
  simp only [Value.slice.injEq] at e1 e2
  obtain ⟨rfl, rfl, rfl⟩ := e1
  obtain ⟨rfl, rfl, rfl⟩ := e2
  have HAT : Hid (AtI w a1 d.1.length d.1) := hAt
  have HBT : Hid (AtYs w a2 d.2.length d.2) := hBt
  have hsz : d.1.length + (isz d.1).sum + (d.2.length + (ylens d.2).sum) ≤ 1048576 := hs
  have HSI : Hid (∀ k : Nat, (d.1[k]?.getD id0).2.2.2.1.length ≤ 1048576 ∧ (d.1[k]?.getD id0).2.2.2.2.length ≤ 1048576) := fun k => by
    have := isz_le d.1 k
    unfold sizeIno sizeN at this
    omega
  have HSY : Hid (∀ k : Nat, (d.2[k]?.getD []).length ≤ 1048576) := fun k => by have := ylens_le d.2 k; omega
  have hn1 : d.1.length ≤ 1048576 := by omega
  have hn2 : d.2.length ≤ 1048576 := by omega
  have HST : Hid (CpI w d (.slice a1 d.1.length c1) (.slice a2 d.2.length c2) (((w.alloc (.cells #[.slice a1 d.1.length c1, .slice a2 d.2.length c2] 31)).alloc (.cells #[.slice none 0 0, .slice none 0 0] 31)).alloc (.cells #[.slice none 0 0, .slice none 0 0] 31)) 0) := by
    have p1 := OwnRow.two w (.slice a1 d.1.length c1) (.slice a2 d.2.length c2) 31
    have p2 := OwnRow.two (w.alloc (.cells #[.slice a1 d.1.length c1, .slice a2 d.2.length c2] 31)) (.slice none 0 0) (.slice none 0 0) 31
    have p3 := OwnRow.two ((w.alloc (.cells #[.slice a1 d.1.length c1, .slice a2 d.2.length c2] 31)).alloc (.cells #[.slice none 0 0, .slice none 0 0] 31)) (.slice none 0 0) (.slice none 0 0) 31
    rw [World.size_alloc] at p2
    rw [World.size_alloc, World.size_alloc] at p3
    exact ⟨later3 _ _ _ _, by simp, p1.later (later2 _ _ _), (p2.later (later1 _ _)).congr fun i _ => by simp, none, 0, _, _, p3, IRow.nil _ _ _⟩
  have HLN : Hid (d.1.length = d.1.length ∧ d.2.length = d.2.length) := ⟨rfl, rfl⟩
  obtain ⟨n, hn⟩ : ∃ n, d.1.length = n := ⟨_, rfl⟩
  obtain ⟨m, hm⟩ : ∃ m, d.2.length = m := ⟨_, rfl⟩
  have HN : Hid (d.1.length = n) := hn
  have HM : Hid (d.2.length = m) := hm
  rw [hn] at HAT HST hn1 ⊢
  rw [hm] at HBT HST hn2 ⊢
  clear h hs hsz hAt hBt hm1 hm2 HLN hn hm
  go_enter Tryz.func43, Tryz.ntmps43
  go_wp2_with fail
  go_loopw [4] (fun i wr => ∃ j : Nat, j ≤ n ∧ i = .int .i64 j ∧ CpI w d (.slice a1 n c1) (.slice a2 m c2) wr j) (fun i _ => n - (intOf i).toNat)
  case atStart => exact ⟨0, Nat.zero_le _, rfl, HST.out⟩
  case round =>
    clear HST
    obtain ⟨j, hj, rfl, hsp⟩ := hrel
    have HSP : Hid (CpI w d (.slice a1 n c1) (.slice a2 m c2) wr j) := hsp
    obtain ⟨aX, cX, ⟨q0, q1, q2, q3⟩, u, G, hy⟩ := hsp.row
    have HY : Hid (IRow wr (w.heap.size + 3) (.slice aX j cX) j (fun i => d.1[i]?.getD id0) u G) := hy
    have hbig : w.heap.size + 3 ≤ wr.heap.size := hsp.2.1
    have HBW : Hid (Below w.heap.size w wr) := hsp.1
    clear hsp hy
    by_cases hlt : j < n
    · obtain ⟨b, off, e, hI⟩ := HAT.out j hlt
      subst e
      obtain ⟨aB, cB, aE, cE, p0, p1, p2, p3, p4, p5⟩ := hI.later HBW.out
      have hbl : b < wr.heap.size := lt_of_cell p0
      have HCP : Hid (Calls Tryz.prog 64 #[.agg #[.int .i64 (d.1[j]?.getD id0).1, .int .i64 (d.1[j]?.getD id0).2.1, .int .i64 (d.1[j]?.getD id0).2.2.1, .slice aB (d.1[j]?.getD id0).2.2.2.1.length cB, .slice aE (d.1[j]?.getD id0).2.2.2.2.length cE]] wr.drew fun e w1 => ∃ b1 m1 e1 b2 m2 e2 g cap X u' G', e = .returned (.agg #[.int .i64 (d.1[j]?.getD id0).1, .int .i64 (d.1[j]?.getD id0).2.1, .int .i64 (d.1[j]?.getD id0).2.2.1, .slice b1 m1 e1, .slice b2 m2 e2]) ∧ Hid (Below wr.heap.size wr w1) ∧
          Hid ((Builtin.append_ #[29, 29] 29 #[.slice aX j cX, .slice (some ⟨w1.heap.size, 0, none⟩) 1 1]).run Tryz.prog (w1.alloc (.cells #[.int .i64 (d.1[j]?.getD id0).1, .int .i64 (d.1[j]?.getD id0).2.1, .int .i64 (d.1[j]?.getD id0).2.2.1, .slice b1 m1 e1, .slice b2 m2 e2] 81)) = .ok (.slice (some ⟨g, 0, none⟩) (j + 1) cap) X) ∧ Hid (Below (w.heap.size + 3) wr X) ∧ Hid (IRow X (w.heap.size + 3) (.slice (some ⟨g, 0, none⟩) (j + 1) cap) (j + 1) (fun i => d.1[i]?.getD id0) u' G')) := by
        refine (l4Copy_any wr.drew aB _ cB aE _ cE (d.1[j]?.getD id0) (p5.later (Below.refl _ _).drew) (HSI.out j).1 (HSI.out j).2).mono ?_
        rintro e w1 ⟨b1, m1, e1, b2, m2, e2, rfl, hb1', ho1⟩
        have hb1 : Below wr.heap.size wr w1 := (Below.refl _ _).drew.trans hb1'
        obtain ⟨g, cap, X, u', G', hr, hBX, _, hL⟩ := IRow.append wr w1 29 (w.heap.size + 3) j _ _ u G HY.out hbig (by omega) hb1 b1 m1 e1 b2 m2 e2 ho1
        exact ⟨b1, m1, e1, b2, m2, e2, g, cap, X, u', G', rfl, hb1, hr, hBX, hL⟩
      clear hI p5 HAT HY HSI
      generalize (d.1[j]?.getD id0).2.2.2.1.length = lB at *
      generalize (d.1[j]?.getD id0).2.2.2.2.length = lE at *
      generalize (d.1[j]?.getD id0).1 = z0 at *
      generalize (d.1[j]?.getD id0).2.1 = z1 at *
      generalize (d.1[j]?.getD id0).2.2.1 = z2 at *
      go_wp2_with fail
      go_region_law (first
        | (refine step_append_run rfl _ _ 29 rfl _ _ rfl rfl _ _ HR.out ?_)
        | (try go_simp; go_at_call 64; refine HCP.out.mono ?_; rintro e w1 ⟨b1, m1, e1, b2, m2, e2, g, cap, X, u', G', rfl, HB1, HR, HBX, HL⟩
           have y2 := cell_later HB1.out q2
           have hw1 : w.heap.size + 2 < w1.heap.size := by have := HB1.out.size; omega
           have x0 : X.cell? ⟨w.heap.size + 2, 0, none⟩ = some (.slice aX j cX) := (HBX.out.cell (p := ⟨w.heap.size + 2, 0, none⟩) (by simp)).trans q2
           have x1 : X.frozen? ⟨w.heap.size + 2, 0, none⟩ = false := (HBX.out.frozen (p := ⟨w.heap.size + 2, 0, none⟩) (by simp)).trans q3))
      all_goals
        clear HCP HR
        go_wp2
        go_roundw
        case rel => exact ⟨j + 1, by omega, by go_num, HSP.out.next HBX.out HL.out⟩
        case measure => simp [intOf]; omega
    · have e : j = n := by omega
      subst e
      clear HY hlt hj HAT HSI hn1
      have HSD : Hid (CpD w d (.slice a1 j c1) (.slice a2 m c2) wr.heap.size wr 0) := CpD.start (by rw [HN.out]; exact HSP.out)
      clear HSP q2 q3 HBW
      generalize wr.heap.size = mid at *
      go_wp2_with fail
      go_loopw [5] (fun i wq => ∃ q : Nat, q ≤ m ∧ i = .int .i64 q ∧ CpD w d (.slice a1 j c1) (.slice a2 m c2) mid wq q) (fun i _ => m - (intOf i).toNat)
      case atStart => exact ⟨0, Nat.zero_le _, rfl, HSD.out⟩
      case round =>
        clear HSD q0 q1
        obtain ⟨q, hq, rfl, hsp⟩ := hrel
        have HSP : Hid (CpD w d (.slice a1 j c1) (.slice a2 m c2) mid wr q) := hsp
        obtain ⟨aI, cI, aX, cX, ⟨q0, q1, q2, q3⟩, hio, k, u, hy⟩ := hsp.row
        have hbig : w.heap.size + 3 ≤ mid ∧ mid ≤ wr.heap.size := hsp.2.1
        have hbig2 : w.heap.size + 2 < wr.heap.size := by omega
        have hbig0 : w.heap.size < wr.heap.size := by omega
        by_cases hlt : q < m
        · obtain ⟨b, off, ua, uc, e, c1', i1⟩ := HBT.out q hlt
          subst e
          have hbl : b < w.heap.size := lt_of_cell c1'
          have hbr : b < wr.heap.size := by omega
          replace c1' := cell_later hsp.1 c1'
          obtain ⟨na, nc, X1, g, cap, X, k', u', hr1, hr2, hb1, hBX, hL⟩ := rndYL wr mid q _ d.2 k u hy hbig.2 (by omega) ua uc (i1.later hsp.1) (HSY.out q)
          have HR1 : Hid (_ = _) := hr1
          have HR2 : Hid (_ = _) := hr2
          have HBX : Hid (Below mid wr X) := hBX
          have HL : Hid (YRow C1 X mid mid 26 1 (.slice (some ⟨g, 0, none⟩) (q + 1) cap) (q + 1) (fun i => d.2[i]?.getD []) k' u') := hL
          have z0 := cell_later hb1 q2
          have z1 := cell_later hb1 c1'
          have z2 := cell_later hb1 q0
          have hw1 : w.heap.size + 2 < X1.heap.size := Nat.lt_of_lt_of_le hbig2 hb1.size
          have hw2 : b < X1.heap.size := by omega
          have hw0 : w.heap.size < X1.heap.size := by omega
          have x0 : X.cell? ⟨w.heap.size + 2, 1, none⟩ = some (.slice aX q cX) := (hBX.cell (p := ⟨w.heap.size + 2, 1, none⟩) (by show w.heap.size + 2 < mid; omega)).trans q2
          have x1 : X.frozen? ⟨w.heap.size + 2, 1, none⟩ = false := (hBX.frozen (p := ⟨w.heap.size + 2, 1, none⟩) (by show w.heap.size + 2 < mid; omega)).trans q3
          clear hsp hy hr1 hr2 hb1 hBX hL i1 hio
          generalize (d.2[q]?.getD []).length = ln at *
          go_wp2_with fail
          go_region_law (first
            | (refine step_append_run rfl _ _ 26 rfl _ _ rfl rfl _ _ HR1.out ?_)
            | (refine step_append_run rfl _ _ 23 rfl _ _ rfl rfl _ _ HR2.out ?_))
          all_goals
            go_wp2
            go_roundw
            case rel => exact ⟨q + 1, by omega, by go_num, HSP.out.next HBX.out HL.out⟩
            case measure => simp [intOf]; omega
        · have e : q = m := by omega
          subst e
          have HIO : Hid (InosO wr (.slice aI d.1.length cI) d.1 (fun c => w.heap.size + 3 ≤ c ∧ c < mid)) := hio
          have HYO : Hid (BytsO wr (.slice aX q cX) d.2 (fun c => mid ≤ c ∧ c < wr.heap.size)) := hy.byts HM.out _ (fun c h1 h2 => ⟨h1, h2⟩) (fun c h1 h2 => ⟨h1, h2⟩)
          have HBW : Hid (Below w.heap.size w wr) := hsp.1
          have hrow := hsp.2.2.2.1
          have t0 := hrow.cell (i := 0) (by omega)
          have t1 := hrow.cell (i := 1) (by omega)
          have s0 := hrow.frozen 0
          have s1 := hrow.frozen 1
          clear hsp hy hio hrow HSP
          generalize d.1.length = nn at *
          go_wp2
          refine bodyPost_ret (v := .agg #[.slice aI nn cI, .slice aX q cX]) (by simp [results, Tryz.results43, go_sem, t0, t1]) rfl ⟨aI, nn, cI, aX, q, cX, rfl, (HBW.out.setCell (by simp) _).setCell (by simp) _, (fun c => w.heap.size + 3 ≤ c ∧ c < mid), (fun c => mid ≤ c ∧ c < wr.heap.size), HIO.out.keep fun b hb _ => ?_, HYO.out.keep fun b hb _ => ?_, fun b h1 h2 => by omega, fun b hb => ?_⟩
          · rw [Below.heap_setCell _ _ _ _ (by simp; omega), Below.heap_setCell _ _ _ _ (by simp; omega)]
          · rw [Below.heap_setCell _ _ _ _ (by simp; omega), Below.heap_setCell _ _ _ _ (by simp; omega)]
          · unfold fresh
            simp only [World.setCell, Array.size_modify]
            rcases hb with hb | hb <;> omega
end Go.Proofs.YtjabimfinanjoaaGreat

namespace Go.Proofs.YtjabimfinanjoaaGreat
open Go.RowKit
set_option maxRecDepth 100000

theorem field_byt (c : Int) (a : Option Addr) (n k : Nat) (w : World) : (Instr.field 54 (.agg #[.int .i64 c, .slice a n k]) 0).run Tryz.prog w = .ok (.int .i64 c) w := by kernel_rfl
set_option maxHeartbeats 800000 in
theorem l7Asked_any (w : World) (b : Nat) (d : FD) (a1 : Option Addr) (n1 c1 : Nat) (a2 : Option Addr) (n2 c2 : Nat) (x : Int) (h0 : w.cell? ⟨b, 0, none⟩ = some (.slice a1 n1 c1)) (h1 : w.cell? ⟨b, 1, none⟩ = some (.slice a2 n2 c2)) (h : FsR w (.slice a1 n1 c1) (.slice a2 n2 c2) d) (hs : sizeFs d ≤ 1048576) :
    Calls Tryz.prog 38 #[.pointer (some ⟨b, 0, none⟩), .int .i64 x] w fun e w' => e = .returned (.int .i64 (bytR d x).1) ∧ Below w.heap.size w w' := by
  have HBY : Hid (Calls Tryz.prog 60 #[.agg #[.slice a1 n1 c1, .slice a2 n2 c2], .int .i64 x] w (AnsYR w (bytR d x))) := specBytU w a1 n1 c1 a2 n2 c2 d x h hs
  have hf := fun c a n k w => field_byt c a n k w
  clear h hs
  go_enter Tryz.func38, Tryz.ntmps38
  go_wp2_with fail
  refine HBY.out.mono ?_
  rintro e w1 ⟨ay, ny, cy, rfl, hb1, _⟩
  go_wp2
  go_ret
  exact ⟨rfl, hb1⟩
theorem s5_chg (w : World) (b k : Nat) (x0 x1 x2 x3 x4 : Value) : Chg (fun c => c = b) w (set5F w b k x0 x1 x2 x3 x4) := by
  have h0 : Chg (fun c => c = b) w w := Chg.refl _ _
  have h1 := Chg.set (F := fun c => c = b) h0 rfl k x0
  have h2 := Chg.set (F := fun c => c = b) h1 rfl (k + 1) x1
  have h3 := Chg.set (F := fun c => c = b) h2 rfl (k + 2) x2
  have h4 := Chg.set (F := fun c => c = b) h3 rfl (k + 3) x3
  exact Chg.set (F := fun c => c = b) h4 rfl (k + 4) x4
theorem s5_fs {w : World} {bI n cI bD cD : Nat} {d : FD} {F G : Nat → Prop} (hfs : FsS w bI n cI bD 20 cD d F) (j : Nat) (hj : j < n) (x : ID) (vB vE : Value) (hv : InoU w (.int .i64 x.1) (.int .i64 x.2.1) (.int .i64 x.2.2.1) vB vE x G) (hG : ∀ c, G c → ¬ F c ∧ c < w.heap.size) : FsS (set5F w bI (j * 5) (.int .i64 x.1) (.int .i64 x.2.1) (.int .i64 x.2.2.1) vB vE) bI n cI bD 20 cD (d.1.set j x, d.2) (fun c => F c ∨ G c) := by
  have hne := hfs.ne
  have hl := hfs.len.1
  refine hfs.putI j hj x vB vE (fun u hu => ?_) (s5_chg w bI (j * 5) _ _ _ _ _) (hv.keep fun c hc hlt => (s5_chg w bI (j * 5) _ _ _ _ _).block c hlt fun e => (hG c hc).1 (e ▸ hne.2.1.1)) (fun c hc => ⟨(hG c hc).1, by rw [set5_size]; exact (hG c hc).2⟩)
  exact (hu.five (j * 5) _ _ _ _ _).congr fun c _ => (inCell_set d.1 u j (by omega) x vB vE c).symm

end Go.Proofs.YtjabimfinanjoaaGreat

namespace Go.Proofs.YtjabimfinanjoaaGreat
open Go.RowKit
set_option maxRecDepth 100000

set_option maxHeartbeats 800000 in
theorem l7With_any (w : World) (b : Nat) (d : FD) (a1 : Option Addr) (n1 c1 : Nat) (a2 : Option Addr) (n2 c2 : Nat) (x : Int) (vb : Value) (busy : List Int) (h0 : w.cell? ⟨b, 0, none⟩ = some (.slice a1 n1 c1)) (h1 : w.cell? ⟨b, 1, none⟩ = some (.slice a2 n2 c2)) (h : FsR w (.slice a1 n1 c1) (.slice a2 n2 c2) d) (hs : sizeFs d ≤ 1048576) (hb : Ints w vb busy) :
    Calls Tryz.prog 21 #[.pointer (some ⟨b, 0, none⟩), .int .i64 x, vb] w fun e w' => e = .returned (.int .i64 (askR d x busy)) ∧ Below w.heap.size w w' := by
  have HA : Hid (Calls Tryz.prog 38 #[.pointer (some ⟨b, 0, none⟩), .int .i64 x] w fun e w' => e = .returned (.int .i64 (bytR d x).1) ∧ Below w.heap.size w w') := l7Asked_any w b d a1 n1 c1 a2 n2 c2 x h0 h1 h hs
  have HB : Hid (∀ W, Below w.heap.size w W → Calls Tryz.prog 39 #[vb] W fun e w' => e = .returned (.int .i64 (busF busy)) ∧ ∃ m, w' = W.drewN m) := fun W hW => l5Busy_any (hb.later hW)
  have HR : Hid (askR d x busy = if (bytR d x).1 = 0 then busF busy else (bytR d x).1) := rfl
  rw [HR.out]
  clear h0 h1 h hs hb HR
  generalize (bytR d x).1 = r at *
  generalize busF busy = q at *
  by_cases hr : r = 0
  · rw [if_pos hr]
    subst hr
    go_enter Tryz.func21, Tryz.ntmps21
    go_wp2_with fail
    refine HA.out.mono ?_
    rintro e w1 ⟨rfl, hb1⟩
    have HB1 : Hid (Below w.heap.size w w1) := hb1
    clear hb1
    go_wp2_with fail
    refine (HB.out _ HB1.out).mono ?_
    rintro e w2 ⟨rfl, m, rfl⟩
    go_wp2
    go_ret
    exact ⟨rfl, below_drewN HB1.out m⟩
  · rw [if_neg hr]
    have hb : (r != 0) = true := by simpa using hr
    clear hr
    go_enter Tryz.func21, Tryz.ntmps21
    go_wp2_with fail
    refine HA.out.mono ?_
    rintro e w1 ⟨rfl, hb1⟩
    have HB1 : Hid (Below w.heap.size w w1) := hb1
    clear hb1
    go_wp2
    go_ret
    exact ⟨rfl, HB1.out⟩
/-- Blocks and size of a file stored into its inode. -/
theorem FsS.two {w : World} {bI n cI bD cD : Nat} {d : FD} {F G : Nat → Prop} (hfs : FsS w bI n cI bD 20 cD d F) (j : Nat) (hj : j < n) (hent : (d.1[j]?.getD id0).2.2.2.2 = []) (bs : List Int) (L : Nat) (ap : Option Addr) (cp : Nat) (hP : IntsO w (.slice ap bs.length cp) bs G) (hcp : bs.length ≤ cp) (hG : ∀ c, G c → ¬ F c ∧ c < w.heap.size) :
    FsS ((w.setCell ⟨bI, j * 5 + 3, none⟩ (.slice ap bs.length cp)).setCell ⟨bI, j * 5 + 2, none⟩ (.int .i64 (L : Int))) bI n cI bD 20 cD (d.1.set j (setI d j bs L), d.2) (fun c => F c ∨ G c) := by
  have hne := hfs.ne
  have hl := hfs.len.1
  obtain ⟨aB, cB, aE, cE, i0, i1, i2, i3, i4, _, _, _⟩ := hfs.ino j hj
  have h0 : Chg (fun c => c = bI) w w := Chg.refl _ _
  have h1 := Chg.set (F := fun c => c = bI) h0 rfl (j * 5 + 3) (.slice ap bs.length cp)
  have h2 := Chg.set (F := fun c => c = bI) h1 rfl (j * 5 + 2) (.int .i64 (L : Int))
  refine hfs.putI j hj (setI d j bs L) (.slice ap bs.length cp) (.slice aE 0 cE) (fun u hu => ?_) h2 ?_ (fun c hc => ⟨(hG c hc).1, by simpa [World.setCell] using (hG c hc).2⟩)
  · have c0 := hu.cell (i := j * 5) (by omega)
    have c1 := hu.cell (i := j * 5 + 1) (by omega)
    have c4 := hu.cell (i := j * 5 + 4) (by omega)
    rw [i0] at c0
    rw [i1] at c1
    rw [i4] at c4
    rw [hent] at c4
    have e0 := (Option.some.inj c0).symm
    have e1 := (Option.some.inj c1).symm
    have e4 := (Option.some.inj c4).symm
    refine ((hu.set (j * 5 + 3) _).set (j * 5 + 2) _).congr fun c _ => ?_
    rw [inCell_set d.1 u j (by omega)]
    by_cases q0 : c = j * 5
    · rw [if_pos q0, if_neg (by omega), if_neg (by omega), q0, e0]; rfl
    · rw [if_neg q0]
      by_cases q1 : c = j * 5 + 1
      · rw [if_pos q1, if_neg (by omega), if_neg (by omega), q1, e1]; rfl
      · rw [if_neg q1]
        by_cases q2 : c = j * 5 + 2
        · rw [if_pos q2, if_pos q2]; rfl
        · rw [if_neg q2, if_neg q2]
          by_cases q3 : c = j * 5 + 3
          · rw [if_pos q3, if_pos q3]
          · rw [if_neg q3, if_neg q3]
            by_cases q4 : c = j * 5 + 4
            · rw [if_pos q4, q4, e4]; rfl
            · rw [if_neg q4]
  · refine ⟨⟨rfl, rfl, rfl, ap, _, cp, rfl, hcp⟩, G, fun _ => False, hP.keep fun c hc hlt => h2.block c hlt fun e => (hG c hc).1 (e ▸ hne.2.1.1), Or.inl ⟨hent, aE, cE, rfl⟩, fun _ _ hh => hh, fun b hh => hh.elim id False.elim⟩
end Go.Proofs.YtjabimfinanjoaaGreat

namespace Go.Proofs.YtjabimfinanjoaaGreat
open Go.RowKit
set_option maxRecDepth 100000

set_option maxHeartbeats 1600000 in
theorem l7Set_long (w : World) (a1 : Option Addr) (n1 c1 : Nat) (a2 : Option Addr) (n2 c2 : Nat) (j : Nat) (aT : Option Addr) (L cT : Nat) (vb : Value) (hL : ¬ L ≤ 32) :
    Calls Tryz.prog 22 #[.agg #[.slice a1 n1 c1, .slice a2 n2 c2], .int .i64 (j : Int), .slice aT L cT, vb] w (AnsFR w (noFs 2)) := by
  have HB0 : Hid (Below w.heap.size w ((w.alloc (.cells #[.slice a1 n1 c1, .slice a2 n2 c2] 31)).alloc (.cells #[.int .i64 0, .slice none 0 0, .slice none 0 0] 33))) := later2 _ _ _
  have HRS : Hid (OwnRow ((w.alloc (.cells #[.slice a1 n1 c1, .slice a2 n2 c2] 31)).alloc (.cells #[.int .i64 0, .slice none 0 0, .slice none 0 0] 33)) (w.heap.size + 1) 3 (cel zero3)) := by
    have p2 := row3 (w.alloc (.cells #[.slice a1 n1 c1, .slice a2 n2 c2] 31)) 33
    rw [World.size_alloc] at p2
    exact p2
  have HSZ : Hid (sizeB (L : Int) = false) := by unfold Hid sizeB; simp; omega
  clear hL
  go_enter Tryz.func22, Tryz.ntmps22
  go_wp2_with fail
  refine (l4Size_any _ _).mono ?_
  rw [HSZ.out]
  rintro e w1 ⟨rfl, rfl⟩
  generalize ((w.alloc (.cells #[.slice a1 n1 c1, .slice a2 n2 c2] 31)).alloc (.cells #[.int .i64 0, .slice none 0 0, .slice none 0 0] 33)) = W0 at *
  have t0 : W0.cell? ⟨w.heap.size + 1, 0, none⟩ = some (.int .i64 0) := HRS.out.cell (i := 0) (by omega)
  have t1 : W0.cell? ⟨w.heap.size + 1, 1, none⟩ = some (.slice none 0 0) := HRS.out.cell (i := 1) (by omega)
  have t2 : W0.cell? ⟨w.heap.size + 1, 2, none⟩ = some (.slice none 0 0) := HRS.out.cell (i := 2) (by omega)
  have s0 := HRS.out.frozen 0
  have s1 := HRS.out.frozen 1
  have s2 := HRS.out.frozen 2
  go_wp2
  exact bodyPost_ret (v := .agg #[.int .i64 2, .slice none 0 0, .slice none 0 0]) (by simp [results, Tryz.results22, go_sem, t0, t1, t2]) rfl (AnsFR.none' 2 HB0.out (by omega) _ _ _)

/-- What stands behind the picks: they lie in a box at block g. -/
def Picked (W0 wx : World) (pc : Int) (pl : List Int) (g : Nat) (ap : Option Addr) (cp : Nat) : Prop :=
  Below W0.heap.size W0 wx ∧ W0.heap.size ≤ g ∧ Bx wx g [.int .i64 pc, .slice ap pl.length cp] ∧ pl.length ≤ cp ∧ IntsO wx (.slice ap pl.length cp) pl (fun c => W0.heap.size ≤ c ∧ c < wx.heap.size ∧ c ≠ g)
theorem Picked.after {W0 W1 w1 : World} {pc : Int} {pl : List Int} {ap : Option Addr} {cp : Nat} (h0 : Below W0.heap.size W0 W1) (hb : Below W1.heap.size W1 w1) (ho : IntsO w1 (.slice ap pl.length cp) pl (fresh W1 w1)) (hc : pl.length ≤ cp) (t : TypeId) : Picked W0 (w1.alloc (.cells #[.int .i64 pc, .slice ap pl.length cp] t)) pc pl w1.heap.size ap cp := by
  have hw := h0.trans (hb.mono h0.size)
  refine ⟨hw.trans ((later1 _ _).mono hw.size), hw.size, Bx.new w1 [.int .i64 pc, .slice ap pl.length cp] t, hc, (ho.later (later1 _ _)).mono fun c hh => ?_⟩
  have := hh.1
  have := hh.2
  have := h0.size
  exact ⟨by omega, by simp; omega, by omega⟩
theorem Picked.ahead {W0 W1 w1 : World} {pc : Int} {pl : List Int} {g : Nat} {ap : Option Addr} {cp : Nat} (h0 : Below W0.heap.size W0 W1) (hg : W0.heap.size ≤ g) (hg1 : g < W1.heap.size) (f : Nat → Value) (hr : OwnRow W1 g 2 f) (hb : Below W1.heap.size W1 w1) (ho : IntsO w1 (.slice ap pl.length cp) pl (fresh W1 w1)) (hc : pl.length ≤ cp) : Picked W0 ((w1.setCell ⟨g, 0, none⟩ (.int .i64 pc)).setCell ⟨g, 1, none⟩ (.slice ap pl.length cp)) pc pl g ap cp := by
  have hw := h0.trans (hb.mono h0.size)
  have hr1 := ((hr.later hb).set 0 (.int .i64 pc)).set 1 (.slice ap pl.length cp)
  refine ⟨(hw.setCell hg _).setCell hg _, hg, fun i v e => ?_, hc, (ho.keep fun c hh _ => ?_).mono fun c hh => ?_⟩
  · match i, e with
    | 0, e => have := hr1.cell (i := 0) (by omega); simp at this; rw [this]; simpa using e
    | 1, e => have := hr1.cell (i := 1) (by omega); simp at this; rw [this]; simpa using e
    | i + 2, e => simp at e
  · have := hh.1
    rw [Below.heap_setCell _ _ _ _ (show c ≠ g by omega), Below.heap_setCell _ _ _ _ (show c ≠ g by omega)]
  · have := hh.1
    have := hh.2
    have := h0.size
    simp only [World.setCell, Array.size_modify]
    exact ⟨by omega, by omega, by omega⟩
end Go.Proofs.YtjabimfinanjoaaGreat
