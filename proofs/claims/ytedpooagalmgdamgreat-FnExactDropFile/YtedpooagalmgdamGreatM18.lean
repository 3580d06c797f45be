/- The program's DropFile. Rows that grow by append, each element with bytes of its own. The specification's copying of a file system. The specification's DropFile. The specification's DropFile: the walk; how great what is answered is. -/
import Derived.Test.YtedpooagalmgdamGreatM17
import Derived.Test.YtedpooagalmgdamGreatM04
import Derived.Test.YtedpooagalmgdamGreatM09
import Derived.Test.YtedpooagalmgdamGreatM12
import Derived.Deep.RegionHeld3
import Derived.Deep.RegionLaw
namespace Go.Proofs.YtedpooagalmgdamGreat
open Go.RowKit
set_option maxRecDepth 100000

def zero3 : List Value := [.int .i64 0, .slice none 0 0, .slice none 0 0]
theorem row3 (w : World) (t : TypeId) : OwnRow (w.alloc (.cells #[.int .i64 0, .slice none 0 0, .slice none 0 0] t)) w.heap.size 3 (cel zero3) := newCel w zero3 t
theorem setZ_ino (w : World) (F : Nat → Prop) : InoU w (.int .i64 id0.1) (.int .i64 id0.2.1) (.int .i64 id0.2.2.1) (.slice none 0 0) (.slice none 0 0) id0 F := ⟨⟨rfl, rfl, rfl, none, 0, 0, rfl, Nat.le_refl _⟩, fun _ => False, fun _ => False, Or.inl ⟨rfl, none, 0, rfl⟩, Or.inl ⟨rfl, none, 0, rfl⟩, fun _ h => h.elim, fun _ h => h.elim False.elim False.elim⟩
set_option maxHeartbeats 1600000 in
theorem dropF_any (w0 w : World) (bf bI n cI bD cD : Nat) (d : FD) (j : Nat) (x : ID) (aB : Option Addr) (cB : Nat) (aE : Option Addr) (cE : Nat) (h : FileS w0 w bf bI n cI bD cD d j x aB cB aE cE) (hr : ∀ k : Nat, k < x.2.2.2.1.length → 0 ≤ x.2.2.2.1[k]?.getD 0 ∧ x.2.2.2.1[k]?.getD 0 < 20) (h4 : x.2.2.2.1.length ≤ 4) :
    Calls Tryz.prog 58 #[.pointer (some ⟨bf, 0, none⟩)] w fun e w' => e = .returned (.tuple #[]) ∧ FileS w0 w' bf bI n cI bD cD (d.1, clrK d.2 x.2.2.2.1 x.2.2.2.1.length) j id0 none 0 none 0 := by
  have HFL : Hid (FileS w0 w bf bI n cI bD cD d j x aB cB aE cE) := h
  have hne := h.fs.ne
  have hnf : w0.heap.size ≤ bf := h.new
  have HDB : Hid (Calls Tryz.prog 76 #[.pointer (some ⟨bf, 0, none⟩)] w fun e w' => e = .returned (.tuple #[]) ∧ Chg (fun c => c = bD) w w' ∧ FsS w' bI n cI bD 20 cD (d.1, clrK d.2 x.2.2.2.1 x.2.2.2.1.length) (fun c => w0.heap.size ≤ c ∧ c ≠ bf)) := dropBytes_any w bf bI n cI bD cD d _ _ aB cB x.2.2.2.1 rfl h.box rfl rfl h.fs (fun e => hne.2.2.1.2 e.symm) h.blk hr h4
  clear h hr h4
  go_enter Tryz.func58, Tryz.ntmps58
  go_wp2_with fail
  refine HDB.out.mono ?_
  rintro e w3 ⟨rfl, hc3, hf3⟩
  have HBX3 : Hid (OwnRow w3 bf 8 _) := HFL.out.box.block (hc3.block bf HFL.out.box.lt (fun e => hne.2.2.1.2 e.symm))
  have HB3 : Hid (Below w0.heap.size w0 w3) := HFL.out.below.trans (hc3.below HFL.out.below.size fun b hb => hb ▸ hne.2.2.1.1)
  have HF3 : Hid (FsS w3 bI n cI bD 20 cD (d.1, clrK d.2 x.2.2.2.1 x.2.2.2.1.length) (fun c => w0.heap.size ≤ c ∧ c ≠ bf)) := hf3
  clear hc3 hf3 HDB
  go_wp2_with fail
  refine (release_any w3 bf _ HBX3.out).mono ?_
  rintro e w4 ⟨rfl, hw4⟩
  have HC4 : Hid (Chg (fun c => c = bf) w3 w4) := by
    unfold Hid
    rw [hw4]
    have h0 : Chg (fun c => c = bf) w3 w3 := Chg.refl _ _
    have h1 := Chg.set (F := fun c => c = bf) h0 rfl 0 (.int .i64 0)
    have h2 := Chg.set (F := fun c => c = bf) h1 rfl (0 + 1) (.int .i64 0)
    have h3 := Chg.set (F := fun c => c = bf) h2 rfl (0 + 2) (.int .i64 0)
    have h4 := Chg.set (F := fun c => c = bf) h3 rfl (0 + 3) (.slice none 0 0)
    exact Chg.set (F := fun c => c = bf) h4 rfl (0 + 4) (.slice none 0 0)
  have HBX4 : Hid (OwnRow w4 bf 8 (cel [.int .i64 id0.1, .int .i64 id0.2.1, .int .i64 id0.2.2.1, .slice none 0 0, .slice none 0 0, .int .i64 (j : Int), .slice (some ⟨bI, 0, none⟩) n cI, .slice (some ⟨bD, 0, none⟩) 20 cD])) := by
    unfold Hid
    rw [hw4]
    refine (HBX3.out.five 0 _ _ _ _ _).congr fun i hi => ?_
    match i, hi with
    | 0, _ => rfl
    | 1, _ => rfl
    | 2, _ => rfl
    | 3, _ => rfl
    | 4, _ => rfl
    | 5, _ => rfl
    | 6, _ => rfl
    | 7, _ => rfl
  have HFIN : Hid (FileS w0 w4 bf bI n cI bD cD (d.1, clrK d.2 x.2.2.2.1 x.2.2.2.1.length) j id0 none 0 none 0) := ⟨HB3.out.trans (HC4.out.below HB3.out.size fun b hb => hb ▸ hnf), hnf, HBX4.out, HF3.out.chg HC4.out fun b hb e => hb.2 e, fun k hk => by simp [id0] at hk⟩
  clear hw4 HC4 HBX3 HF3 HB3
  go_wp2
  go_end0
  exact ⟨rfl, HFIN.out⟩
set_option maxHeartbeats 6400000 in
theorem implDropU (w : World) (a1 : Option Addr) (n1 c1 : Nat) (a2 : Option Addr) (n2 c2 : Nat) (d : FD) (xx : Int) (h : FsR w (.slice a1 n1 c1) (.slice a2 n2 c2) d) (hs : sizeFs d ≤ 1048576) :
    Calls Tryz.prog 28 #[.agg #[.slice a1 n1 c1, .slice a2 n2 c2], .int .i64 xx] w (AnsFR w (dropR d xx)) := by
  have HRR : Hid (dropR d xx = if (bytR d xx).1 = 0 then (0, dropD d xx.toNat) else noFs (bytR d xx).1) := rfl
  rw [HRR.out]
  clear HRR
  have HB0 : Hid (Below w.heap.size w ((w.alloc (.cells #[.slice a1 n1 c1, .slice a2 n2 c2] 31)).alloc (.cells #[.int .i64 0, .slice none 0 0, .slice none 0 0] 33))) := later2 _ _ _
  have hz0 : ((w.alloc (.cells #[.slice a1 n1 c1, .slice a2 n2 c2] 31)).alloc (.cells #[.int .i64 0, .slice none 0 0, .slice none 0 0] 33)).heap.size = w.heap.size + 2 := by simp
  have HBX : Hid (Bx ((w.alloc (.cells #[.slice a1 n1 c1, .slice a2 n2 c2] 31)).alloc (.cells #[.int .i64 0, .slice none 0 0, .slice none 0 0] 33)) w.heap.size [.slice a1 n1 c1, .slice a2 n2 c2]) := (Bx.new w [.slice a1 n1 c1, .slice a2 n2 c2] _).later (later1 _ _)
  have HRS : Hid (OwnRow ((w.alloc (.cells #[.slice a1 n1 c1, .slice a2 n2 c2] 31)).alloc (.cells #[.int .i64 0, .slice none 0 0, .slice none 0 0] 33)) (w.heap.size + 1) 3 (cel zero3)) := by
    have p2 := row3 (w.alloc (.cells #[.slice a1 n1 c1, .slice a2 n2 c2] 31)) 33
    rw [World.size_alloc] at p2
    exact p2
  have HBY : Hid (∀ W, Below w.heap.size w W → Calls Tryz.prog 57 #[.agg #[.slice a1 n1 c1, .slice a2 n2 c2], .int .i64 xx] W (AnsYR W (bytR d xx))) := fun W hW => implBytU W a1 n1 c1 a2 n2 c2 d xx (h.later hW) hs
  by_cases hc : (bytR d xx).1 = 0
  rotate_left
  · rw [if_neg hc]
    have hcb : ((bytR d xx).1 != 0) = true := by simpa using hc
    clear h hs hc
    go_enter Tryz.func28, Tryz.ntmps28
    go_wp2_with fail
    generalize ((w.alloc (.cells #[.slice a1 n1 c1, .slice a2 n2 c2] 31)).alloc (.cells #[.int .i64 0, .slice none 0 0, .slice none 0 0] 33)) = W0 at *
    refine (HBY.out _ HB0.out).mono ?_
    rintro e w1 ⟨ay, ny, cy, rfl, hb1, _⟩
    have HB1 : Hid (Below w.heap.size w w1) := HB0.out.trans (hb1.mono HB0.out.size)
    have hrr := HRS.out.later hb1
    have t0 : w1.cell? ⟨w.heap.size + 1, 0, none⟩ = some (.int .i64 0) := hrr.cell (i := 0) (by omega)
    have t1 : w1.cell? ⟨w.heap.size + 1, 1, none⟩ = some (.slice none 0 0) := hrr.cell (i := 1) (by omega)
    have t2 : w1.cell? ⟨w.heap.size + 1, 2, none⟩ = some (.slice none 0 0) := hrr.cell (i := 2) (by omega)
    have s0 := hrr.frozen 0
    have s1 := hrr.frozen 1
    have s2 := hrr.frozen 2
    have hlw : w.heap.size + 1 < w1.heap.size := hrr.lt
    clear hb1 hrr
    generalize (bytR d xx).1 = r at *
    go_wp2
    exact bodyPost_ret (v := .agg #[.int .i64 r, .slice none 0 0, .slice none 0 0]) (by simp [results, Tryz.results28, go_sem, t0, t1, t2, hlw]) rfl ((AnsFR.none' r HB1.out (by omega) _ _ _).later (later1 _ _))
  · rw [if_pos hc]
    have hsd := sound hc
    obtain ⟨_, _, hpl, _, _⟩ := bytR_code hc
    obtain ⟨j, rfl⟩ : ∃ j : Nat, xx = (j : Int) := ⟨xx.toNat, by omega⟩
    rw [Int.toNat_natCast] at hsd ⊢
    have HSD : Hid (Sound d j) := hsd
    have HOP : Hid (∀ W, Below w.heap.size w W → Calls Tryz.prog 40 #[.agg #[.slice a1 n1 c1, .slice a2 n2 c2], .int .i64 (j : Int)] W fun e w' => ∃ bf bI cI bD cD aB cB aE cE, e = .returned (.pointer (some ⟨bf, 0, none⟩)) ∧ FileS W w' bf bI d.1.length cI bD cD d j (d.1[j]?.getD id0) aB cB aE cE) := fun W hW => openFile_any W a1 n1 c1 a2 n2 c2 d j (h.later hW) hs hsd.dat hsd.lt hsd.ten
    have hcb : ((bytR d (j : Int)).1 != 0) = false := by simpa using hc
    clear h hs hc hpl hsd
    go_enter Tryz.func28, Tryz.ntmps28
    go_wp2_with fail
    generalize ((w.alloc (.cells #[.slice a1 n1 c1, .slice a2 n2 c2] 31)).alloc (.cells #[.int .i64 0, .slice none 0 0, .slice none 0 0] 33)) = W0 at *
    refine (HBY.out _ HB0.out).mono ?_
    rintro e w1 ⟨ay, ny, cy, rfl, hb1, _⟩
    have HB1 : Hid (Below w.heap.size w w1) := HB0.out.trans (hb1.mono HB0.out.size)
    have HR1 : Hid (OwnRow w1 (w.heap.size + 1) 3 (cel zero3)) := HRS.out.later hb1
    have x0 := (HBX.out.later hb1) 0 _ rfl
    have x1 := (HBX.out.later hb1) 1 _ rfl
    have hlw : w.heap.size + 1 < w1.heap.size := HR1.out.lt
    have hlw0 : w.heap.size < w1.heap.size := by omega
    clear hb1 HBY HBX HRS HB0 hz0
    generalize (bytR d (j : Int)).1 = r at *
    have HB1' : Hid (Below w.heap.size w (w1.alloc (.cells #[.int .i64 r, .slice ay ny cy] 62))) := HB1.out.trans ((later1 _ _).mono HB1.out.size)
    have HR1' : Hid (OwnRow (w1.alloc (.cells #[.int .i64 r, .slice ay ny cy] 62)) (w.heap.size + 1) 3 (cel zero3)) := HR1.out.later (later1 _ _)
    have hz1 : (w1.alloc (.cells #[.int .i64 r, .slice ay ny cy] 62)).heap.size = w1.heap.size + 1 := by simp
    go_wp2_with fail
    generalize (w1.alloc (.cells #[.int .i64 r, .slice ay ny cy] 62)) = W1 at *
    clear x0 x1 HB1 HR1
    refine (HOP.out _ HB1'.out).mono ?_
    rintro e w2 ⟨bf, bI, cI, bD, cD, aB, cB, aE, cE, rfl, hfl⟩
    have HFL : Hid (FileS W1 w2 bf bI d.1.length cI bD cD d j (d.1[j]?.getD id0) aB cB aE cE) := hfl
    have hne := hfl.fs.ne
    clear hfl HOP
    go_wp2_with fail
    refine (dropF_any W1 w2 bf bI d.1.length cI bD cD d j (d.1[j]?.getD id0) aB cB aE cE HFL.out HSD.out.blk HSD.out.four).mono ?_
    rintro e w4 ⟨rfl, hf4⟩
    have HBX4 : Hid (OwnRow w4 bf 8 (cel [.int .i64 id0.1, .int .i64 id0.2.1, .int .i64 id0.2.2.1, .slice none 0 0, .slice none 0 0, .int .i64 (j : Int), .slice (some ⟨bI, 0, none⟩) d.1.length cI, .slice (some ⟨bD, 0, none⟩) 20 cD])) := hf4.box
    have HF4 : Hid (FsS w4 bI d.1.length cI bD 20 cD (d.1, clrK d.2 (blkA d j) (blkA d j).length) (fun c => W1.heap.size ≤ c ∧ c ≠ bf)) := hf4.fs
    have HB4 : Hid (Below W1.heap.size W1 w4) := hf4.below
    clear hf4 HFL
    go_wp2_with fail
    refine (close_any w4 bf bI d.1.length cI bD cD _ _ (fun _ => False) j id0 none 0 0 none 0 0 HBX4.out HF4.out (fun e => hne.2.1.1.2 e.symm) HSD.out.lt HSD.out.ten (setZ_ino _ _) (fun c hc => hc.elim)).mono ?_
    rintro e w5 ⟨rfl, hc5, hf5⟩
    have HB5 : Hid (Below W1.heap.size W1 w5) := HB4.out.trans (hc5.below HB4.out.size fun b hb => hb ▸ hne.2.1.1.1)
    have hs1 : w.heap.size + 1 < W1.heap.size := HR1'.out.lt
    have HFS : Hid (FsU w5 (.slice (some ⟨bI, 0, none⟩) d.1.length cI) (.slice (some ⟨bD, 0, none⟩) 20 cD) (dropD d j) (fun b => w.heap.size ≤ b ∧ b < w5.heap.size ∧ b ≠ w.heap.size + 1)) := hf5.fsB.mono fun b hb => by
      rcases hb.1 with h | h
      · exact ⟨by omega, hb.2, by omega⟩
      · exact h.elim
    have HB : Hid (Below w.heap.size w w5) := HB1'.out.trans (HB5.out.mono HB1'.out.size)
    have hrr := HR1'.out.later HB5.out
    have t0 : w5.cell? ⟨w.heap.size + 1, 0, none⟩ = some (.int .i64 0) := hrr.cell (i := 0) (by omega)
    have t1 : w5.cell? ⟨w.heap.size + 1, 1, none⟩ = some (.slice none 0 0) := hrr.cell (i := 1) (by omega)
    have t2 : w5.cell? ⟨w.heap.size + 1, 2, none⟩ = some (.slice none 0 0) := hrr.cell (i := 2) (by omega)
    have s0 := hrr.frozen 0
    have s1 := hrr.frozen 1
    have s2 := hrr.frozen 2
    clear hrr hc5 hf5 HB5 HB4 HF4 HBX4
    go_wp2
    exact bodyPost_ret (v := .agg #[.int .i64 0, .slice (some ⟨bI, 0, none⟩) d.1.length cI, .slice (some ⟨bD, 0, none⟩) 20 cD]) (by simp [results, Tryz.results28, go_sem, t0, t1, t2]) rfl (AnsFR.put HB.out (by omega) HFS.out _ _ _)
end Go.Proofs.YtedpooagalmgdamGreat

namespace Go.Proofs.YtedpooagalmgdamGreat
open Go.RowKit
set_option maxRecDepth 100000

/-- A row of n elements that the call owns; element i is told by C i (u i), where u i is a list of its own in block k i. -/
structure YRow (C : Nat → Value → List Value) (w : World) (base lo : Nat) (e : TypeId) (size : Nat) (v : Value) (n : Nat) (f : Nat → List UInt8) (k : Nat → Nat) (u : Nat → Value) : Prop where
  own : w.ownsRow base e size v n ((List.range n).flatMap fun i => C i (u i))
  lo : ∀ i, i < n → lo ≤ k i ∧ k i < w.heap.size
  ne : ∀ i, i < n → v.ownBlock ≠ some (k i)
  inj : ∀ i j, i < n → j < n → i ≠ j → k i ≠ k j
  sh : ∀ i, i < n → ∃ a c, u i = .slice a (f i).length c
  at' : ∀ i, i < n → BytO w (u i) (f i) (fun c => c = k i)

theorem YRow.nil {C : Nat → Value → List Value} (w : World) (base lo : Nat) (e : TypeId) (size : Nat) (f : Nat → List UInt8) : YRow C w base lo e size (.slice none 0 0) 0 f (fun _ => 0) (fun _ => .slice none 0 0) :=
  ⟨World.ownsRow_nil _ _ _ _, fun i hi => by omega, fun i hi => by omega, fun i j hi => by omega, fun i hi => by omega, fun i hi => by omega⟩
theorem YRow.keep {C : Nat → Value → List Value} {w w' : World} {base lo : Nat} {e : TypeId} {size : Nat} {v : Value} {n : Nat} {f : Nat → List UInt8} {k : Nat → Nat} {u : Nat → Value} (h : YRow C w base lo e size v n f k u) (hs : w.heap.size ≤ w'.heap.size)
    (hrow : ∀ g, v.ownBlock = some g → w'.heap[g]? = w.heap[g]?) (hk : ∀ i, i < n → w'.heap[k i]? = w.heap[k i]?) : YRow C w' base lo e size v n f k u := by
  refine ⟨?_, fun i hi => ⟨(h.lo i hi).1, Nat.lt_of_lt_of_le (h.lo i hi).2 hs⟩, h.ne, h.inj, h.sh, fun i hi => (h.at' i hi).keep fun b hb _ => by rw [hb]; exact hk i hi⟩
  obtain ⟨h1, h2⟩ := h.own
  refine ⟨h1, ?_⟩
  rcases h2 with h2 | ⟨g, cap, cur, hv, hg, hh, r⟩
  · exact Or.inl h2
  · exact Or.inr ⟨g, cap, cur, hv, hg, by rw [hrow g (by rw [hv]; rfl)]; exact hh, r⟩
theorem YRow.later {C : Nat → Value → List Value} {w w' : World} {base lo : Nat} {e : TypeId} {size : Nat} {v : Value} {n : Nat} {f : Nat → List UInt8} {k : Nat → Nat} {u : Nat → Value} (h : YRow C w base lo e size v n f k u) (hb : Below w.heap.size w w') : YRow C w' base lo e size v n f k u :=
  h.keep hb.size (fun g hg => hb.block g (h.own.lt g hg).2) (fun i hi => hb.block _ (h.lo i hi).2)
theorem YRow.store {C : Nat → Value → List Value} {w : World} {base lo : Nat} {e : TypeId} {size : Nat} {v : Value} {n : Nat} {f : Nat → List UInt8} {k : Nat → Nat} {u : Nat → Value} (h : YRow C w base lo e size v n f k u) {p : Addr} (h1 : p.block < base) (h2 : p.block < lo) (x : Value) : YRow C (w.setCell p x) base lo e size v n f k u :=
  h.keep (by simp [World.setCell]) (fun g hg => Below.heap_setCell _ _ _ _ (by have := (h.own.lt g hg).1; omega)) (fun i hi => Below.heap_setCell _ _ _ _ (by have := (h.lo i hi).1; omega))
theorem YRow.shape {C : Nat → Value → List Value} {w : World} {base lo : Nat} {e : TypeId} {size : Nat} {v : Value} {n : Nat} {f : Nat → List UInt8} {k : Nat → Nat} {u : Nat → Value} (h : YRow C w base lo e size v n f k u) : ∃ a c, v = .slice a n c := by
  rcases h.own.2 with ⟨rfl, rfl⟩ | ⟨g, c, cur, rfl, _⟩
  · exact ⟨_, _, rfl⟩
  · exact ⟨_, _, rfl⟩

/-- What 'append' of one element comes to. -/
theorem YRow.append {C : Nat → Value → List Value} (w w1 : World) (t ty e : TypeId) (i : TypeInfo) (z : Value) (size bytes : Nat) (ht : Tryz.prog.underlying t = some (.slice e)) (hi : Tryz.prog.info? e = some i) (hz : i.zero = some z) (hsize : i.size = size) (hby : i.bytes = bytes) (hzs : z.cells.size = size) (hsz : 0 < size) (hbb : bytes ≤ 1000)
    (base lo n : Nat) (v : Value) (f : Nat → List UInt8) (k : Nat → Nat) (u : Nat → Value) (h : YRow C w base lo e size v n f k u) (hb : base ≤ w.heap.size) (hn : n ≤ 1048600) (hb1 : Below w.heap.size w w1)
    (a : Option Addr) (c : Nat) (hlen : (C n (.slice a (f n).length c)).length = size) (hone : ∀ x ∈ C n (.slice a (f n).length c), x.oneCell' = true) (kb : Nat) (hk1 : lo ≤ kb) (hk2 : kb ≤ w1.heap.size) (hk3 : v.ownBlock ≠ some kb) (hk4 : ∀ i, i < n → k i ≠ kb) (hf : BytO w1 (.slice a (f n).length c) (f n) (fun x => x = kb)) :
    ∃ g cap X, (Builtin.append_ #[t, t] ty #[v, .slice (some ⟨w1.heap.size, 0, none⟩) 1 1]).run Tryz.prog (w1.alloc (.cells (C n (.slice a (f n).length c)).toArray e)) = .ok (.slice (some ⟨g, 0, none⟩) (n + 1) cap) X ∧
      (∀ b, b < w1.heap.size → v.ownBlock ≠ some b → X.heap[b]? = w1.heap[b]?) ∧ Below base w X ∧ w1.heap.size < X.heap.size ∧
      YRow C X base lo e size (.slice (some ⟨g, 0, none⟩) (n + 1) cap) (n + 1) f (fun j => if j = n then kb else k j) (fun j => if j = n then .slice a (f n).length c else u j) := by
  have hsz1 := hb1.size
  have hbW : Below w.heap.size w (w1.alloc (.cells (C n (.slice a (f n).length c)).toArray e)) := hb1.trans ((later1 _ _).mono hb1.size)
  have hW := h.later hbW
  obtain ⟨g, cap, X, hr, ho, hg, hat, hgX⟩ := run_append_lies (P := Tryz.prog) (w1.alloc (.cells (C n (.slice a (f n).length c)).toArray e)) t ty base e i z size bytes ht hi hz hsize hby hzs hsz v n _ hW.own ⟨w1.heap.size, 0, none⟩ 1 1 (C n (.slice a (f n).length c)) (by rw [hlen, Nat.one_mul])
    (fun j x hx => by
      rw [add_plain', Nat.zero_add, new_cell]
      simpa using hx) hone (by decide) (by unfold maxLen; omega) (by have : (n + 1) * bytes ≤ 1048601 * 1000 := Nat.mul_le_mul (by omega) hbb; omega) (by simp; omega) (w1.heap.size + 1) (by simp)
  have hrow : ∀ g, v.ownBlock = some g → g < w.heap.size := fun g hg => (h.own.lt g hg).2
  have hrowb : ∀ g, v.ownBlock = some g → base ≤ g := fun g hg => (h.own.lt g hg).1
  have hXb : ∀ b, b < w1.heap.size → v.ownBlock ≠ some b → X.heap[b]? = w1.heap[b]? := fun b hb' hne => (hg.block b (by simp; omega) (fun e => hne e.symm)).trans ((later1 _ _).block b hb')
  have hne : ∀ b, b ≤ w1.heap.size → v.ownBlock ≠ some b → g ≠ b := by
    intro b hb' hb2 e
    subst e
    rcases hat with h | h
    · exact hb2 h
    · omega
  have old : ∀ b, b < w.heap.size → v.ownBlock ≠ some b → X.heap[b]? = w.heap[b]? := fun b hb' hne => (hXb b (by omega) hne).trans (hb1.block b hb')
  have hXs : w1.heap.size < X.heap.size := by have := hg.size; simp at this; omega
  refine ⟨g, cap, X, hr, hXb, (hbW.mono hb).trans (below_grown hg (by simp; omega) (fun g hg' => hrowb g hg')), hXs, ⟨?_, fun j hj => ?_, fun j hj => ?_, fun j j' hj hj' e => ?_, fun j hj => ?_, fun j hj => ?_⟩⟩
  · rw [List.range_succ, List.flatMap_append]
    have e1 : (List.range n).flatMap (fun i => C i (if i = n then .slice a (f n).length c else u i)) = (List.range n).flatMap (fun i => C i (u i)) := by
      have e0 : (List.range n).map (fun i => C i (if i = n then .slice a (f n).length c else u i)) = (List.range n).map (fun i => C i (u i)) := List.map_congr_left fun i hi => by rw [if_neg (by have := List.mem_range.1 hi; omega)]
      rw [List.flatMap_def, List.flatMap_def, e0]
    have e2 : [n].flatMap (fun i => C i (if i = n then .slice a (f n).length c else u i)) = C n (.slice a (f n).length c) := by simp only [List.flatMap_cons, List.flatMap_nil, List.append_nil, if_true]
    rw [e1, e2]
    exact ho
  · by_cases e : j = n
    · subst e; simp; omega
    · have := h.lo j (by omega); simp [e]; omega
  · by_cases e : j = n
    · subst e
      simp only [if_true]
      exact fun e => hne kb hk2 hk3 (by simpa [Value.ownBlock] using e)
    · have hj' : j < n := by omega
      have hl := h.lo j hj'
      simp only [e, if_false]
      exact fun e => hne (k j) (by omega) (h.ne j hj') (by simpa [Value.ownBlock] using e)
  · by_cases e1 : j = n
    · by_cases e2 : j' = n
      · omega
      · simp [e1, e2]; exact fun e => hk4 j' (by omega) e.symm
    · by_cases e2 : j' = n
      · simp [e1, e2]; exact hk4 j (by omega)
      · simp [e1, e2]; exact h.inj j j' (by omega) (by omega) e
  · by_cases e : j = n
    · subst e; exact ⟨a, c, by simp⟩
    · simp only [e, if_false]; exact h.sh j (by omega)
  · by_cases e : j = n
    · subst e
      simp only [if_true]
      exact hf.keep fun b hb' hlt' => by subst hb'; exact hXb _ hlt' hk3
    · have hj' : j < n := by omega
      simp only [e, if_false]
      exact (h.at' j hj').keep fun b hb' hlt' => by rw [hb']; exact old _ (h.lo j hj').2 (h.ne j hj')

/-- The one block of a list that is fresh. -/
theorem BytO.one {w w1 : World} {v : Value} {zs : List UInt8} (h : BytO w1 v zs (fresh w w1)) (hlt : w.heap.size < w1.heap.size) : ∃ kb, w.heap.size ≤ kb ∧ kb < w1.heap.size ∧ BytO w1 v zs (fun c => c = kb) := by
  rcases h with h | ⟨b, cap, hF, r⟩
  · exact ⟨w.heap.size, Nat.le_refl _, hlt, Or.inl h⟩
  · exact ⟨b, hF.1, hF.2, Or.inr ⟨b, cap, rfl, r⟩⟩

/-- The cells of such a row. -/
theorem YRow.cells {C : Nat → Value → List Value} {w : World} {base lo : Nat} {e : TypeId} {size : Nat} {v : Value} {n : Nat} {f : Nat → List UInt8} {k : Nat → Nat} {u : Nat → Value} (h : YRow C w base lo e size v n f k u) (hsz : 0 < size) (hC : ∀ i, (C i (u i)).length = size) (hn : 0 < n) :
    ∃ g cap, v = .slice (some ⟨g, 0, none⟩) n cap ∧ base ≤ g ∧ g < w.heap.size ∧ n ≤ maxLen ∧ n ≤ cap ∧ OwnRow w g (n * size) (fun c => (C (c / size) (u (c / size)))[c % size]?.getD undef) := by
  obtain ⟨hl, h2 | ⟨g, cap, cur, rfl, hb, hh, hnc, hcm, hcs, htake⟩⟩ := h.own
  · omega
  · have hle : n * size ≤ cap * size := Nat.mul_le_mul_right _ hnc
    refine ⟨g, cap, rfl, hb, (Array.getElem?_eq_some_iff.1 hh).1, by omega, hnc, cur, e, hh, by omega, fun c hc => ?_⟩
    have hd : c / size < n := by rw [Nat.div_lt_iff_lt_mul hsz]; exact hc
    have hm : c % size < size := Nat.mod_lt _ hsz
    have hg := flat_get hsz u hC n (c / size) (c % size) hd hm
    rw [Nat.div_add_mod'] at hg
    have h1 : ((List.range n).flatMap fun i => C i (u i))[c]? = cur[c]? := by rw [← htake, List.getElem?_take, if_pos hc, Array.getElem?_toList]
    rw [h1] at hg
    have hlt : c < cur.size := by omega
    show cur[c]? = some ((C (c / size) (u (c / size)))[c % size]?.getD undef)
    rw [← hg, Array.getElem?_eq_getElem hlt]; rfl

theorem YRow.byts {w : World} {base lo : Nat} {e : TypeId} {v : Value} {n : Nat} {k : Nat → Nat} {u : Nat → Value} {zss : List (List UInt8)} (h : YRow C1 w base lo e 1 v n (fun i => zss[i]?.getD []) k u) (hn : zss.length = n) (F : Nat → Prop) (hF : ∀ c, base ≤ c → c < w.heap.size → F c) (hF' : ∀ c, lo ≤ c → c < w.heap.size → F c) : BytsO w v zss F := by
  subst hn
  by_cases h0 : zss.length = 0
  · obtain ⟨a, c, rfl⟩ := h.shape
    exact Or.inl ⟨List.eq_nil_of_length_eq_zero h0, a, c, by rw [h0]⟩
  · obtain ⟨g, cap, rfl, hb, hg, hm, hnc, hrow⟩ := h.cells (by decide) (fun _ => rfl) (by omega)
    refine Or.inr ⟨g, cap, u, fun i c => i < zss.length ∧ c = k i, hF g hb hg, fun i c hc => ?_, fun i j c e h1 h2 => h.inj i j h1.1 h2.1 e (h1.2.symm.trans h2.2), rfl, ⟨hm, hnc⟩, ?_, fun i hi => (h.at' i hi).mono fun c hc => ⟨hi, hc⟩⟩
    · have hl := h.lo i hc.1
      have hne := h.ne i hc.1
      rw [hc.2]
      exact ⟨hF' _ hl.1 hl.2, fun e => hne (by simp [Value.ownBlock, e])⟩
    · rw [Nat.mul_one] at hrow
      exact hrow.congr fun i hi => by simp [C1, Nat.mod_one]
end Go.Proofs.YtedpooagalmgdamGreat

namespace Go.Proofs.YtedpooagalmgdamGreat
open Go.RowKit
set_option maxRecDepth 100000

theorem Tryz.infoU8L' : ∃ i, Tryz.prog.info? 26 = some i ∧ i.zero = some (.slice none 0 0) ∧ i.size = 1 ∧ i.bytes = 24 := by
  have h : (Tryz.prog.info? 26).map (fun i => (i.zero, i.size, i.bytes)) = some (some (.slice none 0 0), 1, 24) := by kernel_rfl
  rw [Option.map_eq_some_iff] at h
  obtain ⟨i, hi, e⟩ := h
  simp only [Prod.mk.injEq] at e
  exact ⟨i, hi, e.1, e.2.1, e.2.2⟩
/-- A list's bytes copied, and the copy appended. -/
theorem rndYL (wr : World) (base n : Nat) (v : Value) (zss : List (List UInt8)) (k : Nat → Nat) (u : Nat → Value) (h : YRow C1 wr base base 26 1 v n (fun i => zss[i]?.getD []) k u) (hb : base ≤ wr.heap.size) (hn : n ≤ 1048576) (ua : Option Addr) (uc : Nat)
    (hy : Byt wr (.slice ua (zss[n]?.getD []).length uc) (zss[n]?.getD [])) (hl : (zss[n]?.getD []).length ≤ 1048576) :
    ∃ na nc X1 g cap X k' u', (Builtin.append_ #[26, 26] 26 #[.slice (some ⟨wr.heap.size, 0, none⟩) 0 0, .slice ua (zss[n]?.getD []).length uc]).run Tryz.prog (wr.drew.alloc (.cells #[] 5)) = .ok (.slice na (zss[n]?.getD []).length nc) X1 ∧
      (Builtin.append_ #[23, 23] 23 #[v, .slice (some ⟨X1.heap.size, 0, none⟩) 1 1]).run Tryz.prog (X1.alloc (.cells #[.slice na (zss[n]?.getD []).length nc] 26)) = .ok (.slice (some ⟨g, 0, none⟩) (n + 1) cap) X ∧
      Below wr.heap.size wr X1 ∧ Below base wr X ∧ YRow C1 X base base 26 1 (.slice (some ⟨g, 0, none⟩) (n + 1) cap) (n + 1) (fun i => zss[i]?.getD []) k' u' := by
  have hb0 : Below wr.heap.size wr (wr.drew.alloc (.cells #[] 5)) := (Below.refl _ _).drew.trans (by simpa using later1 wr.drew (.cells #[] 5))
  obtain ⟨v', X1, hr1, hw1, hB1⟩ := append_y (wr.drew.alloc (.cells #[] 5)) wr.heap.size _ [] (zss[n]?.getD []) ua _ uc (WdY.lit0 wr.drew wr.heap.size (by simp)) (by simp) (by simp) hl (hy.later hb0)
  rw [List.nil_append] at hw1
  obtain ⟨na, nc, rfl⟩ := hw1.shape
  have hbX1 : Below wr.heap.size wr X1 := hb0.trans hB1
  have hlt : wr.heap.size < X1.heap.size := by have := hB1.size; simp at this; omega
  obtain ⟨kb, hk1, hk2, hkf⟩ := (hw1.own (w0 := wr) (Nat.le_refl _)).one hlt
  obtain ⟨i, hi, h1, h2, h3⟩ := Tryz.infoU8L'
  obtain ⟨g, cap, X, hr2, _, hBX, _, hLX⟩ := YRow.append wr X1 23 23 26 i _ 1 24 Tryz.underlying23 hi h1 h2 h3 rfl (by decide) (by decide) base base n _ _ k u h hb (by omega) hbX1 na nc rfl (fun x hx => by simp [C1] at hx; subst hx; rfl) kb (Nat.le_trans hb hk1) (Nat.le_of_lt hk2) (fun e => by have := (h.own.lt kb e).2; omega) (fun i hi e => by have := (h.lo i hi).2; omega) hkf
  refine ⟨na, nc, X1, g, cap, X, _, _, ?_, hr2, hbX1, hBX, hLX⟩
  simpa using hr1

/-- What stands at the head of each round of the inodes. -/
def CpI (w : World) (d : FD) (vI vD : Value) (wr : World) (j : Nat) : Prop :=
  Below w.heap.size w wr ∧ w.heap.size + 3 ≤ wr.heap.size ∧ OwnRow wr w.heap.size 2 (fun i => if i = 0 then vI else vD) ∧ OwnRow wr (w.heap.size + 1) 2 (fun _ => .slice none 0 0) ∧
    ∃ aX cX u G, OwnRow wr (w.heap.size + 2) 2 (fun i => if i = 0 then .slice aX j cX else .slice none 0 0) ∧ IRow wr (w.heap.size + 3) (.slice aX j cX) j (fun i => d.1[i]?.getD id0) u G
theorem CpI.next {w wr X : World} {d : FD} {vI vD : Value} {j g cap : Nat} {u' : Nat → Value × Value} {G' : Nat → Nat → Prop} (h : CpI w d vI vD wr j) (hX : Below (w.heap.size + 3) wr X) (hL : IRow X (w.heap.size + 3) (.slice (some ⟨g, 0, none⟩) (j + 1) cap) (j + 1) (fun i => d.1[i]?.getD id0) u' G') :
    CpI w d vI vD (X.setCell ⟨w.heap.size + 2, 0, none⟩ (.slice (some ⟨g, 0, none⟩) (j + 1) cap)) (j + 1) := by
  obtain ⟨h1, h2, h3, h4, aX, cX, u, G, h5, _⟩ := h
  refine ⟨(h1.trans (hX.mono (by omega))).setCell (by simp) _, ?_, (h3.block (hX.block _ (by omega))).store (by simp) _, (h4.block (hX.block _ (by omega))).store (by simp) _, some ⟨g, 0, none⟩, cap, u', G', ((h5.block (hX.block _ (by omega))).set 0 _).congr fun i hi => ?_, hL.store (by simp) _⟩
  · have := hX.size; simp [World.setCell]; omega
  · match i, hi with
    | 0, _ => rfl
    | 1, _ => rfl
theorem CpI.row {w wr : World} {d : FD} {vI vD : Value} {j : Nat} (h : CpI w d vI vD wr j) : ∃ aX cX, (wr.cell? ⟨w.heap.size, 0, none⟩ = some vI ∧ wr.cell? ⟨w.heap.size, 1, none⟩ = some vD ∧ wr.cell? ⟨w.heap.size + 2, 0, none⟩ = some (.slice aX j cX) ∧ wr.frozen? ⟨w.heap.size + 2, 0, none⟩ = false) ∧ ∃ u G, IRow wr (w.heap.size + 3) (.slice aX j cX) j (fun i => d.1[i]?.getD id0) u G := by
  obtain ⟨_, _, h3, _, aX, cX, u, G, h5, h6⟩ := h
  exact ⟨aX, cX, ⟨h3.cell (i := 0) (by omega), h3.cell (i := 1) (by omega), h5.cell (i := 0) (by omega), h5.frozen 0⟩, u, G, h6⟩
/-- What stands at the head of each round of the data. -/
def CpD (w : World) (d : FD) (vI vD : Value) (mid : Nat) (wr : World) (j : Nat) : Prop :=
  Below w.heap.size w wr ∧ (w.heap.size + 3 ≤ mid ∧ mid ≤ wr.heap.size) ∧ OwnRow wr w.heap.size 2 (fun i => if i = 0 then vI else vD) ∧ OwnRow wr (w.heap.size + 1) 2 (fun _ => .slice none 0 0) ∧
    ∃ aI cI aX cX k u, OwnRow wr (w.heap.size + 2) 2 (fun i => if i = 0 then .slice aI d.1.length cI else .slice aX j cX) ∧ InosO wr (.slice aI d.1.length cI) d.1 (fun c => w.heap.size + 3 ≤ c ∧ c < mid) ∧ YRow C1 wr mid mid 26 1 (.slice aX j cX) j (fun i => d.2[i]?.getD []) k u
theorem CpD.start {w wr : World} {d : FD} {vI vD : Value} (h : CpI w d vI vD wr d.1.length) : CpD w d vI vD wr.heap.size wr 0 := by
  obtain ⟨h1, h2, h3, h4, aX, cX, u, G, h5, h6⟩ := h
  exact ⟨h1, ⟨h2, Nat.le_refl _⟩, h3, h4, aX, cX, none, 0, fun _ => 0, fun _ => .slice none 0 0, h5, (h6.inos rfl).mono fun c hc => ⟨hc.1, hc.2.1⟩, YRow.nil _ _ _ _ _ _⟩
theorem CpD.next {w wr X : World} {d : FD} {vI vD : Value} {mid j g cap : Nat} {k' : Nat → Nat} {u' : Nat → Value} (h : CpD w d vI vD mid wr j) (hX : Below mid wr X) (hL : YRow C1 X mid mid 26 1 (.slice (some ⟨g, 0, none⟩) (j + 1) cap) (j + 1) (fun i => d.2[i]?.getD []) k' u') :
    CpD w d vI vD mid (X.setCell ⟨w.heap.size + 2, 1, none⟩ (.slice (some ⟨g, 0, none⟩) (j + 1) cap)) (j + 1) := by
  obtain ⟨h1, h2, h3, h4, aI, cI, aX, cX, k, u, h5, h6, _⟩ := h
  refine ⟨(h1.trans (hX.mono (by omega))).setCell (by simp) _, ⟨h2.1, ?_⟩, (h3.block (hX.block _ (by omega))).store (by simp) _, (h4.block (hX.block _ (by omega))).store (by simp) _, aI, cI, some ⟨g, 0, none⟩, cap, k', u', ((h5.block (hX.block _ (by omega))).set 1 _).congr fun i hi => ?_, h6.keep fun c hc _ => ?_, hL.store (by simp; omega) (by simp; omega) _⟩
  · have := hX.size; simp [World.setCell]; omega
  · match i, hi with
    | 0, _ => rfl
    | 1, _ => rfl
  · rw [Below.heap_setCell _ _ _ _ (by simp; omega), hX.block c hc.2]
theorem CpD.row {w wr : World} {d : FD} {vI vD : Value} {mid j : Nat} (h : CpD w d vI vD mid wr j) : ∃ aI cI aX cX, (wr.cell? ⟨w.heap.size, 1, none⟩ = some vD ∧ wr.cell? ⟨w.heap.size + 2, 0, none⟩ = some (.slice aI d.1.length cI) ∧ wr.cell? ⟨w.heap.size + 2, 1, none⟩ = some (.slice aX j cX) ∧ wr.frozen? ⟨w.heap.size + 2, 1, none⟩ = false) ∧ InosO wr (.slice aI d.1.length cI) d.1 (fun c => w.heap.size + 3 ≤ c ∧ c < mid) ∧ ∃ k u, YRow C1 wr mid mid 26 1 (.slice aX j cX) j (fun i => d.2[i]?.getD []) k u := by
  obtain ⟨_, _, h3, _, aI, cI, aX, cX, k, u, h5, h6, h7⟩ := h
  exact ⟨aI, cI, aX, cX, ⟨h3.cell (i := 1) (by omega), h5.cell (i := 0) (by omega), h5.cell (i := 1) (by omega), h5.frozen 1⟩, h6, k, u, h7⟩

set_option maxHeartbeats 6400000 in
theorem l6Copy_any (w : World) (a1 : Option Addr) (n1 c1 : Nat) (a2 : Option Addr) (n2 c2 : Nat) (d : FD) (h : FsR w (.slice a1 n1 c1) (.slice a2 n2 c2) d) (hs : sizeFs d ≤ 1048576) :
    Calls Tryz.prog 49 #[.agg #[.slice a1 n1 c1, .slice a2 n2 c2]] w (AnsFs w d) := by
  obtain ⟨_, _, e1, hm1, hAt⟩ := h.1.open'
  obtain ⟨_, _, e2, hm2, hBt⟩ := h.2.open'
  simp only [Value.slice.injEq] at e1 e2
  obtain ⟨rfl, rfl, rfl⟩ := e1
  obtain ⟨rfl, rfl, rfl⟩ := e2
  have HAT : Hid (AtI w a1 d.1.length d.1) := hAt
  have HBT : Hid (AtYs w a2 d.2.length d.2) := hBt
  have hsz : d.1.length + (isz d.1).sum + (d.2.length + (ylens d.2).sum) ≤ 1048576 := hs
  have HSI : Hid (∀ k : Nat, (d.1[k]?.getD id0).2.2.2.1.length ≤ 1048576 ∧ (d.1[k]?.getD id0).2.2.2.2.length ≤ 1048576) := fun k => by
    have := isz_le d.1 k
    unfold sizeIno sizeN at this
    omega
  have HSY : Hid (∀ k : Nat, (d.2[k]?.getD []).length ≤ 1048576) := fun k => by have := ylens_le d.2 k; omega
  have hn1 : d.1.length ≤ 1048576 := by omega
  have hn2 : d.2.length ≤ 1048576 := by omega
  have HST : Hid (CpI w d (.slice a1 d.1.length c1) (.slice a2 d.2.length c2) (((w.alloc (.cells #[.slice a1 d.1.length c1, .slice a2 d.2.length c2] 31)).alloc (.cells #[.slice none 0 0, .slice none 0 0] 31)).alloc (.cells #[.slice none 0 0, .slice none 0 0] 31)) 0) := by
    have p1 := OwnRow.two w (.slice a1 d.1.length c1) (.slice a2 d.2.length c2) 31
    have p2 := OwnRow.two (w.alloc (.cells #[.slice a1 d.1.length c1, .slice a2 d.2.length c2] 31)) (.slice none 0 0) (.slice none 0 0) 31
    have p3 := OwnRow.two ((w.alloc (.cells #[.slice a1 d.1.length c1, .slice a2 d.2.length c2] 31)).alloc (.cells #[.slice none 0 0, .slice none 0 0] 31)) (.slice none 0 0) (.slice none 0 0) 31
    rw [World.size_alloc] at p2
    rw [World.size_alloc, World.size_alloc] at p3
    exact ⟨later3 _ _ _ _, by simp, p1.later (later2 _ _ _), (p2.later (later1 _ _)).congr fun i _ => by simp, none, 0, _, _, p3, IRow.nil _ _ _⟩
  have HLN : Hid (d.1.length = d.1.length ∧ d.2.length = d.2.length) := ⟨rfl, rfl⟩
  obtain ⟨n, hn⟩ : ∃ n, d.1.length = n := ⟨_, rfl⟩
  obtain ⟨m, hm⟩ : ∃ m, d.2.length = m := ⟨_, rfl⟩
  have HN : Hid (d.1.length = n) := hn
  have HM : Hid (d.2.length = m) := hm
  rw [hn] at HAT HST hn1 ⊢
  rw [hm] at HBT HST hn2 ⊢
  clear h hs hsz hAt hBt hm1 hm2 HLN hn hm
  go_enter Tryz.func49, Tryz.ntmps49
  go_wp2_with fail
  go_loopw [4] (fun i wr => ∃ j : Nat, j ≤ n ∧ i = .int .i64 j ∧ CpI w d (.slice a1 n c1) (.slice a2 m c2) wr j) (fun i _ => n - (intOf i).toNat)
  case atStart => exact ⟨0, Nat.zero_le _, rfl, HST.out⟩
  case round =>
    clear HST
    obtain ⟨j, hj, rfl, hsp⟩ := hrel
    have HSP : Hid (CpI w d (.slice a1 n c1) (.slice a2 m c2) wr j) := hsp
    obtain ⟨aX, cX, ⟨q0, q1, q2, q3⟩, u, G, hy⟩ := hsp.row
    have HY : Hid (IRow wr (w.heap.size + 3) (.slice aX j cX) j (fun i => d.1[i]?.getD id0) u G) := hy
    have hbig : w.heap.size + 3 ≤ wr.heap.size := hsp.2.1
    have HBW : Hid (Below w.heap.size w wr) := hsp.1
    clear hsp hy
    by_cases hlt : j < n
    · obtain ⟨b, off, e, hI⟩ := HAT.out j hlt
      subst e
      obtain ⟨aB, cB, aE, cE, p0, p1, p2, p3, p4, p5⟩ := hI.later HBW.out
      have hbl : b < wr.heap.size := lt_of_cell p0
      have HCP : Hid (Calls Tryz.prog 84 #[.agg #[.int .i64 (d.1[j]?.getD id0).1, .int .i64 (d.1[j]?.getD id0).2.1, .int .i64 (d.1[j]?.getD id0).2.2.1, .slice aB (d.1[j]?.getD id0).2.2.2.1.length cB, .slice aE (d.1[j]?.getD id0).2.2.2.2.length cE]] wr.drew fun e w1 => ∃ b1 m1 e1 b2 m2 e2 g cap X u' G', e = .returned (.agg #[.int .i64 (d.1[j]?.getD id0).1, .int .i64 (d.1[j]?.getD id0).2.1, .int .i64 (d.1[j]?.getD id0).2.2.1, .slice b1 m1 e1, .slice b2 m2 e2]) ∧ Hid (Below wr.heap.size wr w1) ∧
          Hid ((Builtin.append_ #[29, 29] 29 #[.slice aX j cX, .slice (some ⟨w1.heap.size, 0, none⟩) 1 1]).run Tryz.prog (w1.alloc (.cells #[.int .i64 (d.1[j]?.getD id0).1, .int .i64 (d.1[j]?.getD id0).2.1, .int .i64 (d.1[j]?.getD id0).2.2.1, .slice b1 m1 e1, .slice b2 m2 e2] 92)) = .ok (.slice (some ⟨g, 0, none⟩) (j + 1) cap) X) ∧ Hid (Below (w.heap.size + 3) wr X) ∧ Hid (IRow X (w.heap.size + 3) (.slice (some ⟨g, 0, none⟩) (j + 1) cap) (j + 1) (fun i => d.1[i]?.getD id0) u' G')) := by
        refine (l4Copy_any wr.drew aB _ cB aE _ cE (d.1[j]?.getD id0) (p5.later (Below.refl _ _).drew) (HSI.out j).1 (HSI.out j).2).mono ?_
        rintro e w1 ⟨b1, m1, e1, b2, m2, e2, rfl, hb1', ho1⟩
        have hb1 : Below wr.heap.size wr w1 := (Below.refl _ _).drew.trans hb1'
        obtain ⟨g, cap, X, u', G', hr, hBX, _, hL⟩ := IRow.append wr w1 29 (w.heap.size + 3) j _ _ u G HY.out hbig (by omega) hb1 b1 m1 e1 b2 m2 e2 ho1
        exact ⟨b1, m1, e1, b2, m2, e2, g, cap, X, u', G', rfl, hb1, hr, hBX, hL⟩
      clear hI p5 HAT HY HSI
      generalize (d.1[j]?.getD id0).2.2.2.1.length = lB at *
      generalize (d.1[j]?.getD id0).2.2.2.2.length = lE at *
      generalize (d.1[j]?.getD id0).1 = z0 at *
      generalize (d.1[j]?.getD id0).2.1 = z1 at *
      generalize (d.1[j]?.getD id0).2.2.1 = z2 at *
      go_wp2_with fail
      go_region_law (first
        | (refine step_append_run rfl _ _ 29 rfl _ _ rfl rfl _ _ HR.out ?_)
        | (try go_simp; go_at_call 84; refine HCP.out.mono ?_; rintro e w1 ⟨b1, m1, e1, b2, m2, e2, g, cap, X, u', G', rfl, HB1, HR, HBX, HL⟩
           have y2 := cell_later HB1.out q2
           have hw1 : w.heap.size + 2 < w1.heap.size := by have := HB1.out.size; omega
           have x0 : X.cell? ⟨w.heap.size + 2, 0, none⟩ = some (.slice aX j cX) := (HBX.out.cell (p := ⟨w.heap.size + 2, 0, none⟩) (by simp)).trans q2
           have x1 : X.frozen? ⟨w.heap.size + 2, 0, none⟩ = false := (HBX.out.frozen (p := ⟨w.heap.size + 2, 0, none⟩) (by simp)).trans q3))
      all_goals
        clear HCP HR
        go_wp2
        go_roundw
        case rel => exact ⟨j + 1, by omega, by go_num, HSP.out.next HBX.out HL.out⟩
        case measure => simp [intOf]; omega
    · have e : j = n := by omega
      subst e
      clear HY hlt hj HAT HSI hn1
      have HSD : Hid (CpD w d (.slice a1 j c1) (.slice a2 m c2) wr.heap.size wr 0) := CpD.start (by rw [HN.out]; exact HSP.out)
      clear HSP q2 q3 HBW
      generalize wr.heap.size = mid at *
      go_wp2_with fail
      go_loopw [5] (fun i wq => ∃ q : Nat, q ≤ m ∧ i = .int .i64 q ∧ CpD w d (.slice a1 j c1) (.slice a2 m c2) mid wq q) (fun i _ => m - (intOf i).toNat)
      case atStart => exact ⟨0, Nat.zero_le _, rfl, HSD.out⟩
      case round =>
        clear HSD q0 q1
        obtain ⟨q, hq, rfl, hsp⟩ := hrel
        have HSP : Hid (CpD w d (.slice a1 j c1) (.slice a2 m c2) mid wr q) := hsp
        obtain ⟨aI, cI, aX, cX, ⟨q0, q1, q2, q3⟩, hio, k, u, hy⟩ := hsp.row
        have hbig : w.heap.size + 3 ≤ mid ∧ mid ≤ wr.heap.size := hsp.2.1
        have hbig2 : w.heap.size + 2 < wr.heap.size := by omega
        have hbig0 : w.heap.size < wr.heap.size := by omega
        by_cases hlt : q < m
        · obtain ⟨b, off, ua, uc, e, c1', i1⟩ := HBT.out q hlt
          subst e
          have hbl : b < w.heap.size := lt_of_cell c1'
          have hbr : b < wr.heap.size := by omega
          replace c1' := cell_later hsp.1 c1'
          obtain ⟨na, nc, X1, g, cap, X, k', u', hr1, hr2, hb1, hBX, hL⟩ := rndYL wr mid q _ d.2 k u hy hbig.2 (by omega) ua uc (i1.later hsp.1) (HSY.out q)
          have HR1 : Hid (_ = _) := hr1
          have HR2 : Hid (_ = _) := hr2
          have HBX : Hid (Below mid wr X) := hBX
          have HL : Hid (YRow C1 X mid mid 26 1 (.slice (some ⟨g, 0, none⟩) (q + 1) cap) (q + 1) (fun i => d.2[i]?.getD []) k' u') := hL
          have z0 := cell_later hb1 q2
          have z1 := cell_later hb1 c1'
          have z2 := cell_later hb1 q0
          have hw1 : w.heap.size + 2 < X1.heap.size := Nat.lt_of_lt_of_le hbig2 hb1.size
          have hw2 : b < X1.heap.size := by omega
          have hw0 : w.heap.size < X1.heap.size := by omega
          have x0 : X.cell? ⟨w.heap.size + 2, 1, none⟩ = some (.slice aX q cX) := (hBX.cell (p := ⟨w.heap.size + 2, 1, none⟩) (by show w.heap.size + 2 < mid; omega)).trans q2
          have x1 : X.frozen? ⟨w.heap.size + 2, 1, none⟩ = false := (hBX.frozen (p := ⟨w.heap.size + 2, 1, none⟩) (by show w.heap.size + 2 < mid; omega)).trans q3
          clear hsp hy hr1 hr2 hb1 hBX hL i1 hio
          generalize (d.2[q]?.getD []).length = ln at *
          go_wp2_with fail
          go_region_law (first
            | (refine step_append_run rfl _ _ 26 rfl _ _ rfl rfl _ _ HR1.out ?_)
            | (refine step_append_run rfl _ _ 23 rfl _ _ rfl rfl _ _ HR2.out ?_))
          all_goals
            go_wp2
            go_roundw
            case rel => exact ⟨q + 1, by omega, by go_num, HSP.out.next HBX.out HL.out⟩
            case measure => simp [intOf]; omega
        · have e : q = m := by omega
          subst e
          have HIO : Hid (InosO wr (.slice aI d.1.length cI) d.1 (fun c => w.heap.size + 3 ≤ c ∧ c < mid)) := hio
          have HYO : Hid (BytsO wr (.slice aX q cX) d.2 (fun c => mid ≤ c ∧ c < wr.heap.size)) := hy.byts HM.out _ (fun c h1 h2 => ⟨h1, h2⟩) (fun c h1 h2 => ⟨h1, h2⟩)
          have HBW : Hid (Below w.heap.size w wr) := hsp.1
          have hrow := hsp.2.2.2.1
          have t0 := hrow.cell (i := 0) (by omega)
          have t1 := hrow.cell (i := 1) (by omega)
          have s0 := hrow.frozen 0
          have s1 := hrow.frozen 1
          clear hsp hy hio hrow HSP
          generalize d.1.length = nn at *
          go_wp2
          refine bodyPost_ret (v := .agg #[.slice aI nn cI, .slice aX q cX]) (by simp [results, Tryz.results49, go_sem, t0, t1]) rfl ⟨aI, nn, cI, aX, q, cX, rfl, (HBW.out.setCell (by simp) _).setCell (by simp) _, (fun c => w.heap.size + 3 ≤ c ∧ c < mid), (fun c => mid ≤ c ∧ c < wr.heap.size), HIO.out.keep fun b hb _ => ?_, HYO.out.keep fun b hb _ => ?_, fun b h1 h2 => by omega, fun b hb => ?_⟩
          · rw [Below.heap_setCell _ _ _ _ (by simp; omega), Below.heap_setCell _ _ _ _ (by simp; omega)]
          · rw [Below.heap_setCell _ _ _ _ (by simp; omega), Below.heap_setCell _ _ _ _ (by simp; omega)]
          · unfold fresh
            simp only [World.setCell, Array.size_modify]
            rcases hb with hb | hb <;> omega
end Go.Proofs.YtedpooagalmgdamGreat

namespace Go.Proofs.YtedpooagalmgdamGreat
open Go.RowKit
set_option maxRecDepth 100000

theorem field_byt (c : Int) (a : Option Addr) (n k : Nat) (w : World) : (Instr.field 62 (.agg #[.int .i64 c, .slice a n k]) 0).run Tryz.prog w = .ok (.int .i64 c) w := by kernel_rfl
set_option maxHeartbeats 800000 in
theorem l7Asked_any (w : World) (b : Nat) (d : FD) (a1 : Option Addr) (n1 c1 : Nat) (a2 : Option Addr) (n2 c2 : Nat) (x : Int) (h0 : w.cell? ⟨b, 0, none⟩ = some (.slice a1 n1 c1)) (h1 : w.cell? ⟨b, 1, none⟩ = some (.slice a2 n2 c2)) (h : FsR w (.slice a1 n1 c1) (.slice a2 n2 c2) d) (hs : sizeFs d ≤ 1048576) :
    Calls Tryz.prog 55 #[.pointer (some ⟨b, 0, none⟩), .int .i64 x] w fun e w' => e = .returned (.int .i64 (bytR d x).1) ∧ Below w.heap.size w w' := by
  have HBY : Hid (Calls Tryz.prog 88 #[.agg #[.slice a1 n1 c1, .slice a2 n2 c2], .int .i64 x] w (AnsYR w (bytR d x))) := specBytU w a1 n1 c1 a2 n2 c2 d x h hs
  have hf := fun c a n k w => field_byt c a n k w
  clear h hs
  go_enter Tryz.func55, Tryz.ntmps55
  go_wp2_with fail
  refine HBY.out.mono ?_
  rintro e w1 ⟨ay, ny, cy, rfl, hb1, _⟩
  go_wp2
  go_ret
  exact ⟨rfl, hb1⟩
theorem s5_chg (w : World) (b k : Nat) (x0 x1 x2 x3 x4 : Value) : Chg (fun c => c = b) w (set5F w b k x0 x1 x2 x3 x4) := by
  have h0 : Chg (fun c => c = b) w w := Chg.refl _ _
  have h1 := Chg.set (F := fun c => c = b) h0 rfl k x0
  have h2 := Chg.set (F := fun c => c = b) h1 rfl (k + 1) x1
  have h3 := Chg.set (F := fun c => c = b) h2 rfl (k + 2) x2
  have h4 := Chg.set (F := fun c => c = b) h3 rfl (k + 3) x3
  exact Chg.set (F := fun c => c = b) h4 rfl (k + 4) x4
theorem s5_fs {w : World} {bI n cI bD cD : Nat} {d : FD} {F G : Nat → Prop} (hfs : FsS w bI n cI bD 20 cD d F) (j : Nat) (hj : j < n) (x : ID) (vB vE : Value) (hv : InoU w (.int .i64 x.1) (.int .i64 x.2.1) (.int .i64 x.2.2.1) vB vE x G) (hG : ∀ c, G c → ¬ F c ∧ c < w.heap.size) : FsS (set5F w bI (j * 5) (.int .i64 x.1) (.int .i64 x.2.1) (.int .i64 x.2.2.1) vB vE) bI n cI bD 20 cD (d.1.set j x, d.2) (fun c => F c ∨ G c) := by
  have hne := hfs.ne
  have hl := hfs.len.1
  refine hfs.putI j hj x vB vE (fun u hu => ?_) (s5_chg w bI (j * 5) _ _ _ _ _) (hv.keep fun c hc hlt => (s5_chg w bI (j * 5) _ _ _ _ _).block c hlt fun e => (hG c hc).1 (e ▸ hne.2.1.1)) (fun c hc => ⟨(hG c hc).1, by rw [set5_size]; exact (hG c hc).2⟩)
  exact (hu.five (j * 5) _ _ _ _ _).congr fun c _ => (inCell_set d.1 u j (by omega) x vB vE c).symm

set_option maxHeartbeats 3200000 in
theorem l7Drop_any (w : World) (bo bI n cI bD cD : Nat) (d : FD) (F : Nat → Prop) (j : Nat) (h0 : w.cell? ⟨bo, 0, none⟩ = some (.slice (some ⟨bI, 0, none⟩) n cI)) (h1 : w.cell? ⟨bo, 1, none⟩ = some (.slice (some ⟨bD, 0, none⟩) 20 cD)) (hfs : FsS w bI n cI bD 20 cD d F) (hFo : ¬ F bo) (hn : d.1.length = n) (hsd : Sound d j) :
    Calls Tryz.prog 56 #[.pointer (some ⟨bo, 0, none⟩), .int .i64 (j : Int)] w fun e w' => e = .returned (.tuple #[]) ∧ Chg (fun c => c = bI ∨ c = bD) w w' ∧ FsS w' bI n cI bD 20 cD (dropD d j) F := by
  obtain ⟨aB, cB, aE, cE, i0, i1, i2, i3, i4, _, i6, i7⟩ := hfs.ino j (by have := hsd.lt; omega)
  have hne := hfs.ne
  have hjn : j < n := by have := hsd.lt; omega
  have hn10 : n ≤ 10 := by have := hsd.ten; omega
  have hoI : bo ≠ bI := fun e => hFo (e ▸ hne.2.1.1)
  have hoD : bo ≠ bD := fun e => hFo (e ▸ hne.2.2.1)
  have hID : bI ≠ bD := hne.1
  have HFS : Hid (FsS w bI n cI bD 20 cD d F) := hfs
  have HBS : Hid (BlkR w bD aB (blkA d j)) := fun k hk => by
    obtain ⟨b, f1, _, _, f4, f5, f6⟩ := i7 k hk
    exact ⟨b, f1, f4, f5, f6⟩
  have HRG : Hid (∀ k : Nat, k < (blkA d j).length → 0 ≤ (blkA d j)[k]?.getD 0 ∧ (blkA d j)[k]?.getD 0 < 20) := hsd.blk
  have h4 := hsd.four
  have HDD : Hid (dropD d j = (d.1.set j id0, clrK d.2 (blkA d j) (blkA d j).length)) := rfl
  replace i3 : w.cell? ⟨bI, j * 5 + 3, none⟩ = some (.slice aB (blkA d j).length cB) := i3
  rw [HDD.out]
  generalize blkA d j = bs at *
  obtain ⟨nB, hnB⟩ : ∃ nB, bs.length = nB := ⟨_, rfl⟩
  have HNB : Hid (bs.length = nB) := hnB
  rw [hnB] at i3 HRG h4 ⊢
  have hjI : (j : Int) < (n : Int) := by omega
  clear hfs i7 hsd hnB HDD i0 i1 i2 i4 i6 hne
  go_enter Tryz.func56, Tryz.ntmps56
  go_wp2_with fail
  go_loopw [4] (fun i wr => ∃ k : Nat, k ≤ nB ∧ i = .int .i64 k ∧ Chg (fun c => c = bD) w wr ∧ FsS wr bI n cI bD 20 cD (d.1, clrK d.2 bs k) F) (fun i _ => nB - (intOf i).toNat)
  case atStart => exact ⟨0, Nat.zero_le _, rfl, Chg.refl _ _, HFS.out⟩
  case round =>
    obtain ⟨k, hk, rfl, hc, hf⟩ := hrel
    have HC : Hid (Chg (fun c => c = bD) w wr) := hc
    have HF : Hid (FsS wr bI n cI bD 20 cD (d.1, clrK d.2 bs k) F) := hf
    have r0 := hc.cellOf h0 hoD
    have r1 := hc.cellOf h1 hoD
    have r3 := hc.cellOf i3 hID
    clear hc hf
    by_cases hlt : k < nB
    · obtain ⟨b1, rfl, hb1, _, c1⟩ := HBS.out k (by rw [HNB.out]; exact hlt)
      have c1r := HC.out.cellOf c1 hb1
      have hrg := HRG.out k hlt
      have HCL : Hid (∀ y : Nat, y < 20 → bs[k]?.getD 0 = (y : Int) → FsS (wr.setCell ⟨bD, y, none⟩ (.slice none 0 0)) bI n cI bD 20 cD (d.1, clrK d.2 bs (k + 1)) F) := fun y hy e => HF.out.clr hy e
      generalize bs[k]?.getD 0 = x at *
      obtain ⟨y, rfl⟩ : ∃ y : Nat, x = (y : Int) := ⟨x.toNat, by omega⟩
      have hy : y < 20 := by omega
      have hyI : (y : Int) < 20 := by omega
      obtain ⟨ua, uc, d0, d1, _⟩ := HF.out.data y hy
      have HN : Hid (FsS (wr.setCell ⟨bD, y, none⟩ (.slice none 0 0)) bI n cI bD 20 cD (d.1, clrK d.2 bs (k + 1)) F) := HCL.out y hy rfl
      have hDb : bD ≠ b1 := fun e => hb1 e.symm
      have hDo : bD ≠ bo := fun e => hoD e.symm
      have hDI : bD ≠ bI := fun e => hID e.symm
      clear HCL hrg c1
      go_wp2_with fail
      go_region_held3 (fun W => W.cell? ⟨bo, 0, none⟩ = some (.slice (some ⟨bI, 0, none⟩) n cI) ∧ W.cell? ⟨bo, 1, none⟩ = some (.slice (some ⟨bD, 0, none⟩) 20 cD) ∧ W.cell? ⟨bI, j * 5 + 3, none⟩ = some (.slice (some ⟨b1, 0, none⟩) nB cB) ∧ W.cell? ⟨b1, k, none⟩ = some (.int .i64 (y : Int))) (go_keep) (fail)
      all_goals
        go_wp2
        go_roundw
        case rel => exact ⟨k + 1, by omega, by go_num, by first | exact HC.out.set rfl _ _ | exact (HC.out.set rfl _ _).trans (Chg.of_below (Below.refl _ _).drew) | exact (HC.out.trans (Chg.of_below (Below.refl _ _).drew)).set rfl _ _, by first | exact HN.out | exact HN.out.later (Below.refl _ _).drew⟩
        case measure => simp [intOf]; omega
    · have e : k = nB := by omega
      subst e
      obtain ⟨_, _, _, _, z0, z1, z2, z3, z4, _, z6, _⟩ := HF.out.ino j hjn
      have z50 := z6 (j * 5)
      have z51 := z6 (j * 5 + 1)
      have z52 := z6 (j * 5 + 2)
      have z53 := z6 (j * 5 + 3)
      have z54 := z6 (j * 5 + 4)
      have HN : Hid (FsS (set5F wr bI (j * 5) (.int .i64 0) (.int .i64 0) (.int .i64 0) (.slice none 0 0) (.slice none 0 0)) bI n cI bD 20 cD (d.1.set j id0, clrK d.2 bs k) F) := (s5_fs (G := fun _ => False) HF.out j hjn id0 (.slice none 0 0) (.slice none 0 0) (setZ_ino _ _) (fun c hc => hc.elim)).mono fun c hc => hc.elim id False.elim
      have HC2 : Hid (Chg (fun c => c = bI ∨ c = bD) w (set5F wr bI (j * 5) (.int .i64 0) (.int .i64 0) (.int .i64 0) (.slice none 0 0) (.slice none 0 0))) := (HC.out.mono fun b hb => Or.inr hb).trans ((s5_chg wr bI (j * 5) _ _ _ _ _).mono fun b hb => Or.inl hb)
      clear z6
      dsimp only at z0 z1 z2 z3 z4
      generalize (d.1[j]?.getD id0).2.2.2.2.length = l2 at *
      generalize (d.1[j]?.getD id0).1 = y0 at *
      generalize (d.1[j]?.getD id0).2.1 = y1 at *
      generalize (d.1[j]?.getD id0).2.2.1 = y2 at *
      generalize (d.1[j]?.getD id0).2.2.2.1.length = l3 at *
      go_wp2
      go_end0
      exact ⟨rfl, HC2.out, HN.out⟩
end Go.Proofs.YtedpooagalmgdamGreat

namespace Go.Proofs.YtedpooagalmgdamGreat
open Go.RowKit
set_option maxRecDepth 100000

set_option maxHeartbeats 6400000 in
theorem specDropU (w : World) (a1 : Option Addr) (n1 c1 : Nat) (a2 : Option Addr) (n2 c2 : Nat) (d : FD) (xx : Int) (h : FsR w (.slice a1 n1 c1) (.slice a2 n2 c2) d) (hs : sizeFs d ≤ 1048576) :
    Calls Tryz.prog 27 #[.agg #[.slice a1 n1 c1, .slice a2 n2 c2], .int .i64 xx] w (AnsFR w (dropR d xx)) := by
  have HRR : Hid (dropR d xx = if (bytR d xx).1 = 0 then (0, dropD d xx.toNat) else noFs (bytR d xx).1) := rfl
  rw [HRR.out]
  clear HRR
  have HB0 : Hid (Below w.heap.size w ((w.alloc (.cells #[.slice a1 n1 c1, .slice a2 n2 c2] 31)).alloc (.cells #[.int .i64 0, .slice none 0 0, .slice none 0 0] 33))) := later2 _ _ _
  have HBX : Hid (Bx ((w.alloc (.cells #[.slice a1 n1 c1, .slice a2 n2 c2] 31)).alloc (.cells #[.int .i64 0, .slice none 0 0, .slice none 0 0] 33)) w.heap.size [.slice a1 n1 c1, .slice a2 n2 c2]) := (Bx.new w [.slice a1 n1 c1, .slice a2 n2 c2] _).later (later1 _ _)
  have HRS : Hid (OwnRow ((w.alloc (.cells #[.slice a1 n1 c1, .slice a2 n2 c2] 31)).alloc (.cells #[.int .i64 0, .slice none 0 0, .slice none 0 0] 33)) (w.heap.size + 1) 3 (cel zero3)) := by
    have p2 := row3 (w.alloc (.cells #[.slice a1 n1 c1, .slice a2 n2 c2] 31)) 33
    rw [World.size_alloc] at p2
    exact p2
  have HAS : Hid (Calls Tryz.prog 55 #[.pointer (some ⟨w.heap.size, 0, none⟩), .int .i64 xx] ((w.alloc (.cells #[.slice a1 n1 c1, .slice a2 n2 c2] 31)).alloc (.cells #[.int .i64 0, .slice none 0 0, .slice none 0 0] 33)) fun e w' => e = .returned (.int .i64 (bytR d xx).1) ∧ Below ((w.alloc (.cells #[.slice a1 n1 c1, .slice a2 n2 c2] 31)).alloc (.cells #[.int .i64 0, .slice none 0 0, .slice none 0 0] 33)).heap.size ((w.alloc (.cells #[.slice a1 n1 c1, .slice a2 n2 c2] 31)).alloc (.cells #[.int .i64 0, .slice none 0 0, .slice none 0 0] 33)) w') := l7Asked_any _ _ d a1 n1 c1 a2 n2 c2 xx (HBX.out 0 _ rfl) (HBX.out 1 _ rfl) (h.later (later2 _ _ _)) hs
  have HCP : Hid (∀ W, Below w.heap.size w W → Calls Tryz.prog 49 #[.agg #[.slice a1 n1 c1, .slice a2 n2 c2]] W (AnsFs W d)) := fun W hW => l6Copy_any W a1 n1 c1 a2 n2 c2 d (h.later hW) hs
  by_cases hc : (bytR d xx).1 = 0
  rotate_left
  · rw [if_neg hc]
    have hcb : ((bytR d xx).1 != 0) = true := by simpa using hc
    clear h hs hc HCP
    go_enter Tryz.func27, Tryz.ntmps27
    go_wp2_with fail
    generalize ((w.alloc (.cells #[.slice a1 n1 c1, .slice a2 n2 c2] 31)).alloc (.cells #[.int .i64 0, .slice none 0 0, .slice none 0 0] 33)) = W0 at *
    refine HAS.out.mono ?_
    rintro e w1 ⟨rfl, hb1⟩
    have HB1 : Hid (Below w.heap.size w w1) := HB0.out.trans (hb1.mono HB0.out.size)
    have hrr := HRS.out.later hb1
    have t0 : w1.cell? ⟨w.heap.size + 1, 0, none⟩ = some (.int .i64 0) := hrr.cell (i := 0) (by omega)
    have t1 : w1.cell? ⟨w.heap.size + 1, 1, none⟩ = some (.slice none 0 0) := hrr.cell (i := 1) (by omega)
    have t2 : w1.cell? ⟨w.heap.size + 1, 2, none⟩ = some (.slice none 0 0) := hrr.cell (i := 2) (by omega)
    have s0 := hrr.frozen 0
    have s1 := hrr.frozen 1
    have s2 := hrr.frozen 2
    clear hb1 hrr
    generalize (bytR d xx).1 = r at *
    go_wp2
    exact bodyPost_ret (v := .agg #[.int .i64 r, .slice none 0 0, .slice none 0 0]) (by simp [results, Tryz.results27, go_sem, t0, t1, t2]) rfl (AnsFR.none' r HB1.out (by omega) _ _ _)
  · rw [if_pos hc]
    have hsd := sound hc
    obtain ⟨_, _, hpl, _, _⟩ := bytR_code hc
    obtain ⟨j, rfl⟩ : ∃ j : Nat, xx = (j : Int) := ⟨xx.toNat, by omega⟩
    rw [Int.toNat_natCast] at hsd ⊢
    have HSD : Hid (Sound d j) := hsd
    have hcb : ((bytR d (j : Int)).1 != 0) = false := by simpa using hc
    clear h hs hc hpl hsd
    go_enter Tryz.func27, Tryz.ntmps27
    go_wp2_with fail
    generalize ((w.alloc (.cells #[.slice a1 n1 c1, .slice a2 n2 c2] 31)).alloc (.cells #[.int .i64 0, .slice none 0 0, .slice none 0 0] 33)) = W0 at *
    refine HAS.out.mono ?_
    rintro e w1 ⟨rfl, hb1⟩
    have HB1 : Hid (Below w.heap.size w w1) := HB0.out.trans (hb1.mono HB0.out.size)
    have HR1 : Hid (OwnRow w1 (w.heap.size + 1) 3 (cel zero3)) := HRS.out.later hb1
    have x0 := (HBX.out.later hb1) 0 _ rfl
    have x1 := (HBX.out.later hb1) 1 _ rfl
    have hlw : w.heap.size + 1 < w1.heap.size := HR1.out.lt
    clear hb1 HAS HBX HRS HB0
    generalize (bytR d (j : Int)).1 = r at *
    go_wp2_with fail
    refine (HCP.out _ HB1.out).mono ?_
    rintro e w2 ⟨b1, m1, cI, b2, m2, cD, rfl, hb2, hf2⟩
    obtain ⟨bI, e1, bD, e2, eI, eD, hfs⟩ := FsS.of hf2 (by have := HSD.out.lt; omega) (by rw [HSD.out.dat]; omega)
    simp only [Value.slice.injEq] at eI eD
    obtain ⟨rfl, rfl, rfl⟩ := eI
    obtain ⟨rfl, rfl, rfl⟩ := eD
    rw [HSD.out.dat] at hfs ⊢
    have hsz2 := hb2.size
    have HB2 : Hid (Below w.heap.size w (w2.alloc (.cells #[.slice (some ⟨bI, 0, none⟩) d.1.length cI, .slice (some ⟨bD, 0, none⟩) 20 cD] 31))) := (HB1.out.trans (hb2.mono HB1.out.size)).trans ((later1 _ _).mono (HB1.out.trans (hb2.mono HB1.out.size)).size)
    have HR2 : Hid (OwnRow (w2.alloc (.cells #[.slice (some ⟨bI, 0, none⟩) d.1.length cI, .slice (some ⟨bD, 0, none⟩) 20 cD] 31)) (w.heap.size + 1) 3 (cel zero3)) := (HR1.out.later hb2).later (later1 _ _)
    have HF2 : Hid (FsS (w2.alloc (.cells #[.slice (some ⟨bI, 0, none⟩) d.1.length cI, .slice (some ⟨bD, 0, none⟩) 20 cD] 31)) bI d.1.length cI bD 20 cD d (fun c => w1.heap.size ≤ c ∧ c < w2.heap.size)) := hfs.later (later1 _ _)
    have HX2 : Hid (Bx (w2.alloc (.cells #[.slice (some ⟨bI, 0, none⟩) d.1.length cI, .slice (some ⟨bD, 0, none⟩) 20 cD] 31)) w2.heap.size [.slice (some ⟨bI, 0, none⟩) d.1.length cI, .slice (some ⟨bD, 0, none⟩) 20 cD]) := Bx.new _ _ _
    clear hfs hf2 hb2 HCP HB1 HR1 x0 x1
    go_wp2_with fail
    refine (l7Drop_any _ w2.heap.size bI d.1.length cI bD cD d _ j (HX2.out 0 _ rfl) (HX2.out 1 _ rfl) HF2.out (by omega) rfl HSD.out).mono ?_
    rintro e w3 ⟨rfl, hc3, hf3⟩
    have hne := HF2.out.ne
    have HB3 : Hid (Below w.heap.size w w3) := HB2.out.trans (hc3.below HB2.out.size fun b hb => by rcases hb with rfl | rfl <;> omega)
    have hX3 := HX2.out.chg hc3 (fun h => by rcases h with h | h <;> omega)
    have y0 := hX3 0 _ rfl
    have y1 := hX3 1 _ rfl
    have hrr := HR2.out.block (hc3.block _ HR2.out.lt (fun h => by rcases h with h | h <;> omega))
    have t0 : w3.cell? ⟨w.heap.size + 1, 0, none⟩ = some (.int .i64 0) := hrr.cell (i := 0) (by omega)
    have t1 : w3.cell? ⟨w.heap.size + 1, 1, none⟩ = some (.slice none 0 0) := hrr.cell (i := 1) (by omega)
    have t2 : w3.cell? ⟨w.heap.size + 1, 2, none⟩ = some (.slice none 0 0) := hrr.cell (i := 2) (by omega)
    have s0 := hrr.frozen 0
    have s1 := hrr.frozen 1
    have s2 := hrr.frozen 2
    have HFS : Hid (FsU w3 (.slice (some ⟨bI, 0, none⟩) d.1.length cI) (.slice (some ⟨bD, 0, none⟩) 20 cD) (dropD d j) (fun b => w.heap.size ≤ b ∧ b < w3.heap.size ∧ b ≠ w.heap.size + 1)) := hf3.fsB.mono fun b hb => ⟨by omega, hb.2, by omega⟩
    clear hrr hc3 hf3 hX3 HX2 HF2 HR2 HB2
    go_wp2
    exact bodyPost_ret (v := .agg #[.int .i64 0, .slice (some ⟨bI, 0, none⟩) d.1.length cI, .slice (some ⟨bD, 0, none⟩) 20 cD]) (by simp [results, Tryz.results27, go_sem, t0, t1, t2]) rfl (AnsFR.put HB3.out (by omega) HFS.out _ _ _)

theorem spanInos_each {ds : List ID} {m : Nat} (h : ∀ i : Nat, spanIno (ds[i]?.getD id0) ≤ m) : spanInos ds ≤ (3 + m) * ds.length := by
  unfold spanInos isp
  induction ds with
  | nil => simp
  | cons x ds ih =>
    have h0 := h 0
    have := ih fun i => by have := h (i + 1); simpa using this
    simp at h0
    simp only [List.map_cons, List.sum_cons, List.length_cons, Nat.mul_add, Nat.mul_one]
    omega
theorem fsF_spans {d : FD} (h : fsF d = 0) (i : Nat) : spanIno (d.1[i]?.getD id0) ≤ 16 := by
  obtain ⟨h1, _, _, _, _⟩ := fsE_zero (fsF_zero h)
  by_cases hi : i < d.1.length
  · have hz := ino_size (ins_ino h1 i hi)
    have h6 := ino_six (ins_ino h1 i hi)
    unfold spanIno
    omega
  · rw [List.getElem?_eq_none (by omega)]
    simp [spanIno, id0]
theorem set_span {ds : List ID} {m : Nat} (h : ∀ i : Nat, spanIno (ds[i]?.getD id0) ≤ m) (j : Nat) (x : ID) (hx : spanIno x ≤ m) (i : Nat) : spanIno ((ds.set j x)[i]?.getD id0) ≤ m := by
  rw [List.getElem?_set]
  by_cases e : j = i
  · rw [if_pos e]
    by_cases hl : j < ds.length
    · rw [if_pos hl]; exact hx
    · rw [if_neg hl]; simp [spanIno, id0]
  · rw [if_neg e]; exact h i
theorem noFs_span (c : Int) : spanFs (noFs c).2 = 0 := by simp [noFs, spanFs, spanInos, isp, ylens]
theorem dropR_span (d : FD) (x : Int) : spanFs (dropR d x).2 ≤ 1000 := by
  unfold dropR
  by_cases hc : (bytR d x).1 = 0
  · rw [if_pos hc]
    have hs := sound hc
    show spanFs (dropD d x.toNat) ≤ 1000
    unfold spanFs dropD
    have e1 := spanInos_each (set_span (fsF_spans hs.fs) x.toNat id0 (by simp [spanIno, id0]))
    have e2 := ylens_eight (clrK_le hs.eight (blkA d x.toNat) (blkA d x.toNat).length)
    rw [clrK_length, hs.dat] at e2
    rw [List.length_set] at e1
    have := hs.ten
    dsimp only
    omega
  · rw [if_neg hc, noFs_span]; omega
end Go.Proofs.YtedpooagalmgdamGreat
