/- The program's SetBytes. The program's SetBytes, where all is right; the contract. Bytes copied into a list of one's own; a text stretched. Rows that grow by append, each element with bytes of its own. -/
import Derived.Test.YtjabimfinanjoabGreatM18
import Derived.Test.YtjabimfinanjoabGreatM06
import Derived.Test.YtjabimfinanjoabGreatM04
namespace Go.Proofs.YtjabimfinanjoabGreat
open Go.RowKit
set_option maxRecDepth 100000

theorem selL_rng (p : Nat → Bool) (n k : Nat) (hk : k < (selL p n).length) : 0 ≤ (selL p n)[k]?.getD 0 ∧ (selL p n)[k]?.getD 0 < (n : Int) := by
  have hm : (selL p n)[k] ∈ selL p n := List.getElem_mem hk
  rw [List.getElem?_eq_getElem hk]
  show 0 ≤ (selL p n)[k] ∧ (selL p n)[k] < (n : Int)
  unfold selL at hm
  rw [List.mem_map] at hm
  obtain ⟨q, hq, e⟩ := hm
  have := List.mem_range.1 (List.mem_filter.1 hq).1
  unfold selL
  rw [← e]
  omega
theorem pick_ok {ds : List ID} {busy : List Int} {n : Nat} (h : (pickR ds busy (n : Int)).1 = 0) : (pickR ds busy (n : Int)).2.length = n ∧ ∀ k : Nat, k < (pickR ds busy (n : Int)).2.length → 0 ≤ (pickR ds busy (n : Int)).2[k]?.getD 0 ∧ (pickR ds busy (n : Int)).2[k]?.getD 0 < 20 := by
  unfold pickR at h ⊢
  by_cases ha : askF ds busy = 0
  · rw [if_pos ha] at h ⊢
    by_cases hn : 0 ≤ (n : Int) ∧ (n : Int) ≤ 4
    · rw [if_pos hn] at h ⊢
      by_cases hl : ((selL (freeP ds busy) 20).length : Int) < (n : Int)
      · rw [if_pos hl] at h; simp at h
      · rw [if_neg hl]
        have hlen : ((selL (freeP ds busy) 20).take n).length = n := by rw [List.length_take]; omega
        refine ⟨by simpa using hlen, fun k hk => ?_⟩
        have hk' : k < n := by
          have h2 : ((selL (freeP ds busy) 20).take ((n : Int)).toNat).length = n := by simpa using hlen
          have h3 : k < ((selL (freeP ds busy) 20).take ((n : Int)).toNat).length := hk
          omega
        have := selL_rng (freeP ds busy) 20 k (by omega)
        show 0 ≤ ((selL (freeP ds busy) 20).take ((n : Int)).toNat)[k]?.getD 0 ∧ ((selL (freeP ds busy) 20).take ((n : Int)).toNat)[k]?.getD 0 < 20
        rw [List.getElem?_take, if_pos (by simpa using hk')]
        exact this
    · rw [if_neg hn] at h; simp at h
  · rw [if_neg ha] at h; exact absurd h ha
theorem askY_code (d : FD) (x : Int) (busy : List Int) : (askY d x busy).1 = askR d x busy := by
  unfold askY askR
  by_cases h : (bytR d x).1 = 0
  · rw [if_pos h, if_pos h]
    by_cases h2 : busF busy = 0
    · rw [if_pos h2, h2]
    · rw [if_neg h2]
  · rw [if_neg h, if_neg h]
theorem askR_code {d : FD} {x : Int} {busy : List Int} (h : askR d x busy = 0) : (bytR d x).1 = 0 ∧ busF busy = 0 := by
  unfold askR at h
  by_cases h1 : (bytR d x).1 = 0
  · rw [if_pos h1] at h; exact ⟨h1, h⟩
  · rw [if_neg h1] at h; exact absurd h h1

set_option maxHeartbeats 6400000 in
theorem implSet_bad (w : World) (a1 : Option Addr) (n1 c1 : Nat) (a2 : Option Addr) (n2 c2 : Nat) (d : FD) (xx : Int) (aT : Option Addr) (L cT : Nat) (aB : Option Addr) (nB cB : Nat) (busy : List Int) (h : FsR w (.slice a1 n1 c1) (.slice a2 n2 c2) d) (hb : Ints w (.slice aB nB cB) busy) (hs : sizeFs d ≤ 1048576) (hc : ¬ askR d xx busy = 0) :
    Calls Tryz.prog 44 #[.agg #[.slice a1 n1 c1, .slice a2 n2 c2], .int .i64 xx, .slice aT L cT, .slice aB nB cB] w (AnsFR w (noFs (askR d xx busy))) := by
  have HB0 : Hid (Below w.heap.size w ((w.alloc (.cells #[.slice a1 n1 c1, .slice a2 n2 c2] 31)).alloc (.cells #[.int .i64 0, .slice none 0 0, .slice none 0 0] 33))) := later2 _ _ _
  have HRS : Hid (OwnRow ((w.alloc (.cells #[.slice a1 n1 c1, .slice a2 n2 c2] 31)).alloc (.cells #[.int .i64 0, .slice none 0 0, .slice none 0 0] 33)) (w.heap.size + 1) 3 (cel zero3)) := by
    have p2 := row3 (w.alloc (.cells #[.slice a1 n1 c1, .slice a2 n2 c2] 31)) 33
    rw [World.size_alloc] at p2
    exact p2
  have HBY : Hid (∀ W, Below w.heap.size w W → Calls Tryz.prog 40 #[.agg #[.slice a1 n1 c1, .slice a2 n2 c2], .int .i64 xx, .slice aB nB cB] W (AnsYR W (askY d xx busy))) := fun W hW => bytesToWrite_any W a1 n1 c1 a2 n2 c2 d xx _ busy (h.later hW) hs (hb.later hW)
  rw [← askY_code] at hc ⊢
  have hcb : ((askY d xx busy).1 != 0) = true := by simpa using hc
  clear h hs hc hb
  go_enter Tryz.func44, Tryz.ntmps44
  go_wp2_with fail
  generalize ((w.alloc (.cells #[.slice a1 n1 c1, .slice a2 n2 c2] 31)).alloc (.cells #[.int .i64 0, .slice none 0 0, .slice none 0 0] 33)) = W0 at *
  refine (HBY.out _ HB0.out).mono ?_
  rintro e w1 ⟨ay, ny, cy, rfl, hb1, _⟩
  have HB1 : Hid (Below w.heap.size w w1) := HB0.out.trans (hb1.mono HB0.out.size)
  have hrr := HRS.out.later hb1
  have t0 : w1.cell? ⟨w.heap.size + 1, 0, none⟩ = some (.int .i64 0) := hrr.cell (i := 0) (by omega)
  have t1 : w1.cell? ⟨w.heap.size + 1, 1, none⟩ = some (.slice none 0 0) := hrr.cell (i := 1) (by omega)
  have t2 : w1.cell? ⟨w.heap.size + 1, 2, none⟩ = some (.slice none 0 0) := hrr.cell (i := 2) (by omega)
  have s0 := hrr.frozen 0
  have s1 := hrr.frozen 1
  have s2 := hrr.frozen 2
  have hlw : w.heap.size + 1 < w1.heap.size := hrr.lt
  clear hb1 hrr
  generalize (askY d xx busy).1 = r at *
  go_wp2
  exact bodyPost_ret (v := .agg #[.int .i64 r, .slice none 0 0, .slice none 0 0]) (by simp [results, Tryz.results44, go_sem, t0, t1, t2, hlw]) rfl ((AnsFR.none' r HB1.out (by omega) _ _ _).later (later1 _ _))

set_option maxHeartbeats 6400000 in
theorem implSet_long (w : World) (a1 : Option Addr) (n1 c1 : Nat) (a2 : Option Addr) (n2 c2 : Nat) (d : FD) (xx : Int) (aT : Option Addr) (L cT : Nat) (aB : Option Addr) (nB cB : Nat) (busy : List Int) (h : FsR w (.slice a1 n1 c1) (.slice a2 n2 c2) d) (hb : Ints w (.slice aB nB cB) busy) (hs : sizeFs d ≤ 1048576) (hc : askR d xx busy = 0) (hL : ¬ L ≤ 32) :
    Calls Tryz.prog 44 #[.agg #[.slice a1 n1 c1, .slice a2 n2 c2], .int .i64 xx, .slice aT L cT, .slice aB nB cB] w (AnsFR w (noFs 2)) := by
  have HB0 : Hid (Below w.heap.size w ((w.alloc (.cells #[.slice a1 n1 c1, .slice a2 n2 c2] 31)).alloc (.cells #[.int .i64 0, .slice none 0 0, .slice none 0 0] 33))) := later2 _ _ _
  have HRS : Hid (OwnRow ((w.alloc (.cells #[.slice a1 n1 c1, .slice a2 n2 c2] 31)).alloc (.cells #[.int .i64 0, .slice none 0 0, .slice none 0 0] 33)) (w.heap.size + 1) 3 (cel zero3)) := by
    have p2 := row3 (w.alloc (.cells #[.slice a1 n1 c1, .slice a2 n2 c2] 31)) 33
    rw [World.size_alloc] at p2
    exact p2
  have HBY : Hid (∀ W, Below w.heap.size w W → Calls Tryz.prog 40 #[.agg #[.slice a1 n1 c1, .slice a2 n2 c2], .int .i64 xx, .slice aB nB cB] W (AnsYR W (askY d xx busy))) := fun W hW => bytesToWrite_any W a1 n1 c1 a2 n2 c2 d xx _ busy (h.later hW) hs (hb.later hW)
  have HBF : Hid (∀ W, Calls Tryz.prog 84 #[.int .i64 (L : Int)] W fun e w' => e = .returned (.agg #[.int .i64 3, .int .i64 0]) ∧ Below W.heap.size W w') := fun W => by
    have := implBFor_any W (L : Int)
    have e : bforR (L : Int) = (3, 0) := by unfold bforR sizeB; rw [if_neg (by simp; omega)]
    rw [e] at this
    exact this
  have h0 : (askY d xx busy).1 = 0 := by rw [askY_code]; exact hc
  have HA0 : Hid ((askY d xx busy).1 = 0) := h0
  clear h hs hc hb h0 hL
  go_enter Tryz.func44, Tryz.ntmps44
  go_wp2_with fail
  generalize ((w.alloc (.cells #[.slice a1 n1 c1, .slice a2 n2 c2] 31)).alloc (.cells #[.int .i64 0, .slice none 0 0, .slice none 0 0] 33)) = W0 at *
  refine (HBY.out _ HB0.out).mono ?_
  rintro e w1 ⟨ay, ny, cy, rfl, hb1, _⟩
  have HB1 : Hid (Below w.heap.size w w1) := HB0.out.trans (hb1.mono HB0.out.size)
  have HR1 : Hid (OwnRow w1 (w.heap.size + 1) 3 (cel zero3)) := HRS.out.later hb1
  have hlw1 : w.heap.size + 1 < w1.heap.size := HR1.out.lt
  clear hb1
  rw [HA0.out]
  go_wp2_with fail
  refine (HBF.out _).mono ?_
  rintro e w2 ⟨rfl, hb2⟩
  have hb2' : Below w1.heap.size w1 w2 := (later1 _ _).trans (hb2.mono (by simp))
  have HB2 : Hid (Below w.heap.size w w2) := HB1.out.trans (hb2'.mono HB1.out.size)
  have hrr := HR1.out.later hb2'
  have t0 : w2.cell? ⟨w.heap.size + 1, 0, none⟩ = some (.int .i64 0) := hrr.cell (i := 0) (by omega)
  have t1 : w2.cell? ⟨w.heap.size + 1, 1, none⟩ = some (.slice none 0 0) := hrr.cell (i := 1) (by omega)
  have t2 : w2.cell? ⟨w.heap.size + 1, 2, none⟩ = some (.slice none 0 0) := hrr.cell (i := 2) (by omega)
  have s0 := hrr.frozen 0
  have s1 := hrr.frozen 1
  have s2 := hrr.frozen 2
  have hlw : w.heap.size + 1 < w2.heap.size := hrr.lt
  clear hb2 hb2' hrr HBY HBF
  go_wp2
  exact bodyPost_ret (v := .agg #[.int .i64 2, .slice none 0 0, .slice none 0 0]) (by simp [results, Tryz.results44, go_sem, t0, t1, t2, hlw]) rfl ((AnsFR.none' 2 HB2.out (by omega) _ _ _).later (later1 _ _))

set_option maxHeartbeats 6400000 in
theorem implSet_full (w : World) (a1 : Option Addr) (n1 c1 : Nat) (a2 : Option Addr) (n2 c2 : Nat) (d : FD) (xx : Int) (aT : Option Addr) (L cT : Nat) (aB : Option Addr) (nB cB : Nat) (busy : List Int) (h : FsR w (.slice a1 n1 c1) (.slice a2 n2 c2) d) (hb : Ints w (.slice aB nB cB) busy) (hs : sizeFs d ≤ 1048576) (hbl : busy.length ≤ 1048576) (hc : askR d xx busy = 0) (hL : L ≤ 32) (k : Nat) (hk : (L + 7) / 8 = k) (hp : ¬ (pickR d.1 busy (k : Int)).1 = 0) :
    Calls Tryz.prog 44 #[.agg #[.slice a1 n1 c1, .slice a2 n2 c2], .int .i64 xx, .slice aT L cT, .slice aB nB cB] w (AnsFR w (noFs (pickR d.1 busy (k : Int)).1)) := by
  have HB0 : Hid (Below w.heap.size w ((w.alloc (.cells #[.slice a1 n1 c1, .slice a2 n2 c2] 31)).alloc (.cells #[.int .i64 0, .slice none 0 0, .slice none 0 0] 33))) := later2 _ _ _
  have HBX : Hid (Bx ((w.alloc (.cells #[.slice a1 n1 c1, .slice a2 n2 c2] 31)).alloc (.cells #[.int .i64 0, .slice none 0 0, .slice none 0 0] 33)) w.heap.size [.slice a1 n1 c1, .slice a2 n2 c2]) := (Bx.new w [.slice a1 n1 c1, .slice a2 n2 c2] _).later (later1 _ _)
  have HRS : Hid (OwnRow ((w.alloc (.cells #[.slice a1 n1 c1, .slice a2 n2 c2] 31)).alloc (.cells #[.int .i64 0, .slice none 0 0, .slice none 0 0] 33)) (w.heap.size + 1) 3 (cel zero3)) := by
    have p2 := row3 (w.alloc (.cells #[.slice a1 n1 c1, .slice a2 n2 c2] 31)) 33
    rw [World.size_alloc] at p2
    exact p2
  have HBY : Hid (∀ W, Below w.heap.size w W → Calls Tryz.prog 40 #[.agg #[.slice a1 n1 c1, .slice a2 n2 c2], .int .i64 xx, .slice aB nB cB] W (AnsYR W (askY d xx busy))) := fun W hW => bytesToWrite_any W a1 n1 c1 a2 n2 c2 d xx _ busy (h.later hW) hs (hb.later hW)
  have HBF : Hid (∀ W, Calls Tryz.prog 84 #[.int .i64 (L : Int)] W fun e w' => e = .returned (.agg #[.int .i64 0, .int .i64 (k : Int)]) ∧ Below W.heap.size W w') := fun W => by
    have := implBFor_any W (L : Int)
    have e : bforR (L : Int) = (0, (k : Int)) := by unfold bforR sizeB; rw [if_pos (by simp; omega)]; simp only [Prod.mk.injEq, true_and]; omega
    rw [e] at this
    exact this
  have HPK : Hid (∀ W, Below w.heap.size w W → Calls Tryz.prog 85 #[.slice a1 n1 c1, .slice aB nB cB, .int .i64 (k : Int)] W (AnsIC W (pickR d.1 busy (k : Int)))) := fun W hW => implPickC W a1 n1 c1 d.1 aB nB cB busy (k : Int) (h.1.later hW) (hb.later hW) (by unfold sizeFs at hs; omega) hbl
  have h0 : (askY d xx busy).1 = 0 := by rw [askY_code]; exact hc
  have HA0 : Hid ((askY d xx busy).1 = 0) := h0
  have hpb : ((pickR d.1 busy (k : Int)).1 != 0) = true := by simpa using hp
  clear h hs hc hb h0 hL hp hbl hk
  generalize (pickR d.1 busy (k : Int)) = pr at *
  obtain ⟨pc, pl⟩ := pr
  dsimp only at hpb ⊢
  go_enter Tryz.func44, Tryz.ntmps44
  go_wp2_with fail
  generalize ((w.alloc (.cells #[.slice a1 n1 c1, .slice a2 n2 c2] 31)).alloc (.cells #[.int .i64 0, .slice none 0 0, .slice none 0 0] 33)) = W0 at *
  refine (HBY.out _ HB0.out).mono ?_
  rintro e w1 ⟨ay, ny, cy, rfl, hb1, _⟩
  have HB1 : Hid (Below w.heap.size w w1) := HB0.out.trans (hb1.mono HB0.out.size)
  have HR1 : Hid (OwnRow w1 (w.heap.size + 1) 3 (cel zero3)) := HRS.out.later hb1
  have HX1 : Hid (Bx w1 w.heap.size _) := HBX.out.later hb1
  have hlw1 : w.heap.size + 1 < w1.heap.size := HR1.out.lt
  clear hb1
  rw [HA0.out]
  go_wp2_with fail
  refine (HBF.out _).mono ?_
  rintro e w2 ⟨rfl, hb2⟩
  have hb2' : Below w1.heap.size w1 w2 := (later1 _ _).trans (hb2.mono (by simp))
  have HB2 : Hid (Below w.heap.size w w2) := HB1.out.trans (hb2'.mono HB1.out.size)
  have HR2 : Hid (OwnRow w2 (w.heap.size + 1) 3 (cel zero3)) := HR1.out.later hb2'
  have x0 := (HX1.out.later hb2') 0 _ rfl
  have x1 := (HX1.out.later hb2') 1 _ rfl
  have hlw2 : w.heap.size + 1 < w2.heap.size := HR2.out.lt
  have hlw0 : w.heap.size < w2.heap.size := by omega
  clear hb2 hb2' HBY HBF
  go_wp2_with fail
  refine (HPK.out _ (HB2.out.trans ((later1 _ _).mono HB2.out.size))).mono ?_
  rintro e w3 ⟨⟨ap, np, cp, rfl, hb3, _⟩, _⟩
  have hb3' : Below w2.heap.size w2 w3 := (later1 _ _).trans (hb3.mono (by simp))
  have HB3 : Hid (Below w.heap.size w w3) := HB2.out.trans (hb3'.mono HB2.out.size)
  have hrr := HR2.out.later hb3'
  have t0 : w3.cell? ⟨w.heap.size + 1, 0, none⟩ = some (.int .i64 0) := hrr.cell (i := 0) (by omega)
  have t1 : w3.cell? ⟨w.heap.size + 1, 1, none⟩ = some (.slice none 0 0) := hrr.cell (i := 1) (by omega)
  have t2 : w3.cell? ⟨w.heap.size + 1, 2, none⟩ = some (.slice none 0 0) := hrr.cell (i := 2) (by omega)
  have s0 := hrr.frozen 0
  have s1 := hrr.frozen 1
  have s2 := hrr.frozen 2
  have hlw : w.heap.size + 1 < w3.heap.size := hrr.lt
  clear hb3 hb3' hrr HPK x0 x1
  dsimp only
  go_wp2
  exact bodyPost_ret (v := .agg #[.int .i64 pc, .slice none 0 0, .slice none 0 0]) (by simp [results, Tryz.results44, go_sem, t0, t1, t2, hlw]) rfl ((AnsFR.none' pc HB3.out (by omega) _ _ _).later (later1 _ _))
end Go.Proofs.YtjabimfinanjoabGreat

namespace Go.Proofs.YtjabimfinanjoabGreat
open Go.RowKit
set_option maxRecDepth 100000

set_option maxHeartbeats 6400000 in
theorem implSet_ok (w : World) (a1 : Option Addr) (n1 c1 : Nat) (a2 : Option Addr) (n2 c2 : Nat) (d : FD) (j : Nat) (aT : Option Addr) (L cT : Nat) (data : List UInt8) (aB : Option Addr) (nB cB : Nat) (busy : List Int) (h : FsR w (.slice a1 n1 c1) (.slice a2 n2 c2) d) (ht : Byt w (.slice aT L cT) data) (hb : Ints w (.slice aB nB cB) busy) (hs : sizeFs d ≤ 1048576) (hbl : busy.length ≤ 1048576) (hc : askR d (j : Int) busy = 0) (hL : L ≤ 32) (k : Nat) (hk : (L + 7) / 8 = k) (bs : List Int) (hp : pickR d.1 busy (k : Int) = (0, bs)) :
    Calls Tryz.prog 44 #[.agg #[.slice a1 n1 c1, .slice a2 n2 c2], .int .i64 (j : Int), .slice aT L cT, .slice aB nB cB] w (AnsFR w (0, d.1.set j (setI d j bs L), putK (clrK d.2 (blkA d j) (blkA d j).length) bs data bs.length)) := by
  have hsd0 := sound (askR_code hc).1
  rw [Int.toNat_natCast] at hsd0
  have HSD : Hid (Sound d j) := hsd0
  have hpk : (pickR d.1 busy (k : Int)).1 = 0 := by rw [hp]
  have hpl := pick_ok hpk
  rw [hp] at hpl
  dsimp only at hpl
  have HB0 : Hid (Below w.heap.size w ((w.alloc (.cells #[.slice a1 n1 c1, .slice a2 n2 c2] 31)).alloc (.cells #[.int .i64 0, .slice none 0 0, .slice none 0 0] 33))) := later2 _ _ _
  have HBX : Hid (Bx ((w.alloc (.cells #[.slice a1 n1 c1, .slice a2 n2 c2] 31)).alloc (.cells #[.int .i64 0, .slice none 0 0, .slice none 0 0] 33)) w.heap.size [.slice a1 n1 c1, .slice a2 n2 c2]) := (Bx.new w [.slice a1 n1 c1, .slice a2 n2 c2] _).later (later1 _ _)
  have HRS : Hid (OwnRow ((w.alloc (.cells #[.slice a1 n1 c1, .slice a2 n2 c2] 31)).alloc (.cells #[.int .i64 0, .slice none 0 0, .slice none 0 0] 33)) (w.heap.size + 1) 3 (cel zero3)) := by
    have p2 := row3 (w.alloc (.cells #[.slice a1 n1 c1, .slice a2 n2 c2] 31)) 33
    rw [World.size_alloc] at p2
    exact p2
  have HBY : Hid (∀ W, Below w.heap.size w W → Calls Tryz.prog 40 #[.agg #[.slice a1 n1 c1, .slice a2 n2 c2], .int .i64 (j : Int), .slice aB nB cB] W (AnsYR W (askY d (j : Int) busy))) := fun W hW => bytesToWrite_any W a1 n1 c1 a2 n2 c2 d (j : Int) _ busy (h.later hW) hs (hb.later hW)
  have HBF : Hid (∀ W, Calls Tryz.prog 84 #[.int .i64 (L : Int)] W fun e w' => e = .returned (.agg #[.int .i64 0, .int .i64 (k : Int)]) ∧ Below W.heap.size W w') := fun W => by
    have := implBFor_any W (L : Int)
    have e : bforR (L : Int) = (0, (k : Int)) := by unfold bforR sizeB; rw [if_pos (by simp; omega)]; simp only [Prod.mk.injEq, true_and]; omega
    rw [e] at this
    exact this
  have HPK : Hid (∀ W, Below w.heap.size w W → Calls Tryz.prog 85 #[.slice a1 n1 c1, .slice aB nB cB, .int .i64 (k : Int)] W (AnsIC W (0, bs))) := fun W hW => by
    have := implPickC W a1 n1 c1 d.1 aB nB cB busy (k : Int) (h.1.later hW) (hb.later hW) (by unfold sizeFs at hs; omega) hbl
    rw [hp] at this
    exact this
  have HOP : Hid (∀ W, Below w.heap.size w W → Calls Tryz.prog 54 #[.agg #[.slice a1 n1 c1, .slice a2 n2 c2], .int .i64 (j : Int)] W fun e w' => ∃ bf bI cI bD cD aB cB aE cE, e = .returned (.pointer (some ⟨bf, 0, none⟩)) ∧ FileS W w' bf bI d.1.length cI bD cD d j (d.1[j]?.getD id0) aB cB aE cE) := fun W hW => openFile_any W a1 n1 c1 a2 n2 c2 d j (h.later hW) hs hsd0.dat hsd0.lt hsd0.ten
  have HWR : Hid (∀ (W w4 : World) (bf bI cI bD cD : Nat) (aB : Option Addr) (cB : Nat) (aE : Option Addr) (cE : Nat) (aP : Option Addr) (cP : Nat) (F : Nat → Prop), Below w.heap.size w W → FileS W w4 bf bI d.1.length cI bD cD d j (d.1[j]?.getD id0) aB cB aE cE → IntsO W (.slice aP bs.length cP) bs F → Calls Tryz.prog 86 #[.pointer (some ⟨bf, 0, none⟩), .slice aP bs.length cP, .slice aT L cT] w4 fun e w' => e = .returned (.tuple #[]) ∧ FileS W w' bf bI d.1.length cI bD cD (d.1, putK (clrK d.2 (blkA d j) (blkA d j).length) bs data bs.length) j (setI d j bs L) aP cP aE cE) := fun W w4 bf bI cI bD cD aB cB aE cE aP cP F hW hf hi => write_any W w4 bf bI d.1.length cI bD cD d j (d.1[j]?.getD id0) aB cB aE cE hf hsd0.blk hsd0.four aP cP bs F hi hpl.2 aT L cT data (ht.later hW) hL (by omega)
  have h0 : (askY d (j : Int) busy).1 = 0 := by rw [askY_code]; exact hc
  have HA0 : Hid ((askY d (j : Int) busy).1 = 0) := h0
  have HEN : Hid ((setI d j bs L).2.2.2.2 = []) := hsd0.ent
  have HBL : Hid ((setI d j bs L).2.2.2.1 = bs) := rfl
  have HLK : Hid (bs.length = k) := hpl.1
  clear h hs hc hb h0 hL hp hbl hk hpk hpl ht hsd0
  generalize setI d j bs L = xj at *
  generalize putK (clrK d.2 (blkA d j) (blkA d j).length) bs data bs.length = Z at *
  obtain ⟨y0, y1, y2, y3, y4⟩ := xj
  have e3 := HBL.out.symm
  have e4 := HEN.out
  dsimp only at e3 e4
  subst e3 e4
  clear HBL HEN
  go_enter Tryz.func44, Tryz.ntmps44
  go_wp2_with fail
  generalize ((w.alloc (.cells #[.slice a1 n1 c1, .slice a2 n2 c2] 31)).alloc (.cells #[.int .i64 0, .slice none 0 0, .slice none 0 0] 33)) = W0 at *
  refine (HBY.out _ HB0.out).mono ?_
  rintro e w1 ⟨ay, ny, cy, rfl, hb1, _⟩
  have HB1 : Hid (Below w.heap.size w w1) := HB0.out.trans (hb1.mono HB0.out.size)
  have HR1 : Hid (OwnRow w1 (w.heap.size + 1) 3 (cel zero3)) := HRS.out.later hb1
  have HX1 : Hid (Bx w1 w.heap.size [.slice a1 n1 c1, .slice a2 n2 c2]) := HBX.out.later hb1
  have hlw1 : w.heap.size + 1 < w1.heap.size := HR1.out.lt
  clear hb1
  rw [HA0.out]
  go_wp2_with fail
  refine (HBF.out _).mono ?_
  rintro e w2 ⟨rfl, hb2⟩
  have hb2' : Below w1.heap.size w1 w2 := (later1 _ _).trans (hb2.mono (by simp))
  have HB2 : Hid (Below w.heap.size w w2) := HB1.out.trans (hb2'.mono HB1.out.size)
  have HR2 : Hid (OwnRow w2 (w.heap.size + 1) 3 (cel zero3)) := HR1.out.later hb2'
  have HX2 : Hid (Bx w2 w.heap.size [.slice a1 n1 c1, .slice a2 n2 c2]) := HX1.out.later hb2'
  have x0 := HX2.out 0 _ rfl
  have x1 := HX2.out 1 _ rfl
  have hlw2 : w.heap.size + 1 < w2.heap.size := HR2.out.lt
  have hlw0 : w.heap.size < w2.heap.size := by omega
  clear hb2 hb2' HBY HBF HX1 HR1 HB1 HB0 HRS HBX
  go_wp2_with fail
  refine (HPK.out _ (HB2.out.trans ((later1 _ _).mono HB2.out.size))).mono ?_
  rintro e w3 ⟨⟨ap, np, cp, rfl, hb3, hi3⟩, hcap⟩
  have hcp : np ≤ cp := hcap _ _ _ _ rfl
  obtain ⟨_, _, en, _⟩ := hi3.reads.open'
  simp only [Value.slice.injEq] at en
  obtain ⟨rfl, rfl, rfl⟩ := en
  have hb3' : Below w2.heap.size w2 w3 := (later1 _ _).trans (hb3.mono (by simp))
  have HI3 : Hid (IntsO w3 (.slice ap bs.length cp) bs (fun c => w2.heap.size ≤ c ∧ c < w3.heap.size)) := hi3.mono fun c hc => ⟨by have := hc.1; simp at this; omega, hc.2⟩
  have HB3 : Hid (Below w.heap.size w (w3.alloc (.cells #[.int .i64 0, .slice ap bs.length cp] 106))) := (HB2.out.trans (hb3'.mono HB2.out.size)).trans ((later1 _ _).mono (HB2.out.trans (hb3'.mono HB2.out.size)).size)
  have HR3 : Hid (OwnRow (w3.alloc (.cells #[.int .i64 0, .slice ap bs.length cp] 106)) (w.heap.size + 1) 3 (cel zero3)) := (HR2.out.later hb3').later (later1 _ _)
  have HP3 : Hid (Bx (w3.alloc (.cells #[.int .i64 0, .slice ap bs.length cp] 106)) w3.heap.size [.int .i64 0, .slice ap bs.length cp]) := Bx.new w3 [.int .i64 0, .slice ap bs.length cp] _
  have HI3' : Hid (IntsO (w3.alloc (.cells #[.int .i64 0, .slice ap bs.length cp] 106)) (.slice ap bs.length cp) bs (fun c => w2.heap.size ≤ c ∧ c < w3.heap.size)) := HI3.out.later (later1 _ _)
  have hz3 : (w3.alloc (.cells #[.int .i64 0, .slice ap bs.length cp] 106)).heap.size = w3.heap.size + 1 := by simp
  have hl3 : w2.heap.size ≤ w3.heap.size := hb3'.size
  have u0 := (HX2.out.later hb3') 0 _ rfl
  have u1 := (HX2.out.later hb3') 1 _ rfl
  have hlw3 : w.heap.size < w3.heap.size := by omega
  clear hb3 hb3' HPK x0 x1 HX2 hi3 hcap HR2 HB2 HI3
  dsimp only
  go_wp2_with fail
  generalize (w3.alloc (.cells #[.int .i64 0, .slice ap bs.length cp] 106)) = W3 at *
  clear u0 u1
  refine (HOP.out _ HB3.out).mono ?_
  rintro e w4 ⟨bf, bI, cI, bD, cD, aX, cX, aE, cE, rfl, hfl⟩
  have HFL : Hid (FileS W3 w4 bf bI d.1.length cI bD cD d j (d.1[j]?.getD id0) aX cX aE cE) := hfl
  have hnf : W3.heap.size ≤ bf := hfl.new
  have p0 := (HP3.out.later hfl.below) 0 _ rfl
  have p1 := (HP3.out.later hfl.below) 1 _ rfl
  clear hfl HOP HP3
  go_wp2_with fail
  refine (HWR.out W3 w4 bf bI cI bD cD aX cX aE cE ap cp _ HB3.out HFL.out HI3'.out).mono ?_
  rintro e w5 ⟨rfl, hfl⟩
  have HF5 : Hid (FileS W3 w5 bf bI d.1.length cI bD cD (d.1, Z) j (y0, y1, y2, bs, []) ap cp aE cE) := hfl
  have hne := hfl.fs.ne
  clear hfl HWR HFL p0 p1
  have HV : Hid (InoU w5 (.int .i64 y0) (.int .i64 y1) (.int .i64 y2) (.slice ap bs.length cp) (.slice aE 0 cE) (y0, y1, y2, bs, []) (fun c => w2.heap.size ≤ c ∧ c < w3.heap.size)) :=
    ⟨⟨rfl, rfl, rfl, ap, _, cp, rfl, hcp⟩, fun c => w2.heap.size ≤ c ∧ c < w3.heap.size, fun _ => False, HI3'.out.later HF5.out.below, Or.inl ⟨rfl, aE, cE, rfl⟩, fun _ _ hh => hh, fun b hh => hh.elim id False.elim⟩
  have h5 : W3.heap.size ≤ w5.heap.size := HF5.out.below.size
  go_wp2_with fail
  refine (close_any w5 bf bI d.1.length cI bD cD (d.1, Z) _ _ j (y0, y1, y2, bs, []) ap bs.length cp aE 0 cE HF5.out.box HF5.out.fs (fun e => hne.2.1.1.2 e.symm) HSD.out.lt HSD.out.ten HV.out (fun c hc => ⟨fun hh => by have := hh.1; omega, by omega⟩)).mono ?_
  rintro e w6 ⟨rfl, hc6, hf6⟩
  have HB6 : Hid (Below W3.heap.size W3 w6) := HF5.out.below.trans (hc6.below HF5.out.below.size fun b hb => hb ▸ hne.2.1.1.1)
  have hs1 : w.heap.size + 1 < W3.heap.size := HR3.out.lt
  have HFS : Hid (FsU w6 (.slice (some ⟨bI, 0, none⟩) d.1.length cI) (.slice (some ⟨bD, 0, none⟩) 20 cD) (d.1.set j (y0, y1, y2, bs, []), Z) (fun b => w.heap.size ≤ b ∧ b < w6.heap.size ∧ b ≠ w.heap.size + 1)) := hf6.fsB.mono fun b hb => by
    rcases hb.1 with h | h
    · exact ⟨by omega, hb.2, by omega⟩
    · exact ⟨by omega, hb.2, by omega⟩
  have HB : Hid (Below w.heap.size w w6) := HB3.out.trans (HB6.out.mono HB3.out.size)
  have hrr := HR3.out.later HB6.out
  have t0 : w6.cell? ⟨w.heap.size + 1, 0, none⟩ = some (.int .i64 0) := hrr.cell (i := 0) (by omega)
  have t1 : w6.cell? ⟨w.heap.size + 1, 1, none⟩ = some (.slice none 0 0) := hrr.cell (i := 1) (by omega)
  have t2 : w6.cell? ⟨w.heap.size + 1, 2, none⟩ = some (.slice none 0 0) := hrr.cell (i := 2) (by omega)
  have s0 := hrr.frozen 0
  have s1 := hrr.frozen 1
  have s2 := hrr.frozen 2
  clear hrr hc6 hf6 HB6 HF5 HV
  go_wp2
  exact bodyPost_ret (v := .agg #[.int .i64 0, .slice (some ⟨bI, 0, none⟩) d.1.length cI, .slice (some ⟨bD, 0, none⟩) 20 cD]) (by simp [results, Tryz.results44, go_sem, t0, t1, t2]) rfl (AnsFR.put HB.out (by omega) HFS.out _ _ _)

theorem implSetU (w : World) (a1 : Option Addr) (n1 c1 : Nat) (a2 : Option Addr) (n2 c2 : Nat) (d : FD) (xx : Int) (aT : Option Addr) (L cT : Nat) (data : List UInt8) (aB : Option Addr) (nB cB : Nat) (busy : List Int) (h : FsR w (.slice a1 n1 c1) (.slice a2 n2 c2) d) (ht : Byt w (.slice aT L cT) data) (hb : Ints w (.slice aB nB cB) busy) (hs : sizeFs d ≤ 1048576) (_hl : data.length ≤ 1048576) (hbl : busy.length ≤ 1048576) :
    Calls Tryz.prog 44 #[.agg #[.slice a1 n1 c1, .slice a2 n2 c2], .int .i64 xx, .slice aT L cT, .slice aB nB cB] w (AnsFR w (setR d xx data busy)) := by
  have ht0 := ht
  obtain ⟨_, _, esh, _, _⟩ := ht0
  simp only [Value.slice.injEq] at esh
  obtain ⟨rfl, rfl, rfl⟩ := esh
  unfold setR
  by_cases hc : askR d xx busy = 0
  · rw [if_pos hc]
    unfold setQ
    by_cases hL : data.length ≤ 32
    · rw [if_pos hL]
      by_cases hp : (pickR d.1 busy (((data.length + 7) / 8 : Nat) : Int)).1 = 0
      · rw [if_pos hp]
        obtain ⟨_, _, hpl, _, _⟩ := bytR_code (askR_code hc).1
        obtain ⟨j, rfl⟩ : ∃ j : Nat, xx = (j : Int) := ⟨xx.toNat, by omega⟩
        rw [Int.toNat_natCast]
        exact implSet_ok w a1 n1 c1 a2 n2 c2 d j aT data.length cT data aB nB cB busy h ht hb hs hbl hc hL _ rfl _ (Prod.ext hp rfl)
      · rw [if_neg hp]
        exact implSet_full w a1 n1 c1 a2 n2 c2 d xx aT data.length cT aB nB cB busy h hb hs hbl hc hL _ rfl hp
    · rw [if_neg hL]
      exact implSet_long w a1 n1 c1 a2 n2 c2 d xx aT data.length cT aB nB cB busy h hb hs hc hL
  · rw [if_neg hc]
    exact implSet_bad w a1 n1 c1 a2 n2 c2 d xx aT data.length cT aB nB cB busy h hb hs hc
end Go.Proofs.YtjabimfinanjoabGreat

namespace Go.Proofs.YtjabimfinanjoabGreat
open Go.RowKit
set_option maxRecDepth 100000

section
variable {P : Program} {w : World}
theorem wpList_copy_run {ops : Array Oper} {rest : List Oper} {o : Oper} {a : Act} {Q : Exit → Act → World → Prop} (hgd : o.guard = none) (s x : Operand) (t : TypeId)
    (ho : o.op = .call { callee := .builtin .copy, args := #[s, x], argTypes := #[t, t] }) (v y : Value) (hs : a.eval s = v) (hx : a.eval x = y) (v' : Value) (w' : World)
    (hr : (Builtin.copy_ #[t, t] o.type #[v, y]).run P w = .ok v' w') (h : wpList P ops Q rest (a.put o.dst v') w') : wpList P ops Q (o :: rest) a w := by
  refine wpList_plain hgd fun K hK => ?_
  unfold Oper.wp execOp
  simp only [ho, resolve, invoke, builtin, Sem.run_bind, Sem.run_pure, Result.andThen_ok, List.map_toArray, List.map_cons, List.map_nil, hs, hx, hr]
  exact hK _ _ h
end
theorem addr_add (b off k : Nat) : (⟨b, off, none⟩ : Addr).add k = ⟨b, off + k, none⟩ := by
  by_cases h : k = 0
  · subst h; simp [Addr.add]
  · simp [Addr.add, h]
/-- The cells of bytes. -/
def bytC (zs : List UInt8) (i : Nat) : Value := .int .u8 (((zs[i]?.getD 0).toNat : Nat) : Int)
theorem copyY_into (w : World) (g o dLen dCap N : Nat) (f : Nat → Value) (hr : OwnRow w g N f) (a : Option Addr) (sLen sCap : Nat) (ys : List UInt8) (hl : ys.length = sLen) (hat : AtY w a sLen ys) (m : Nat) (hm : Nat.min sLen dLen = m) (hfit : o + m ≤ N) :
    ∃ X, (Builtin.copy_ #[26, 26] 3 #[.slice (some ⟨g, o, none⟩) dLen dCap, .slice a sLen sCap]).run Tryz.prog w = .ok (goInt m) X ∧
      OwnRow X g N (fun i => if o ≤ i ∧ i < o + m then bytC ys (i - o) else f i) ∧ Chg (fun c => c = g) w X := by
  by_cases h0 : m = 0
  · have hn := run_copy_none (P := Tryz.prog) w 26 26 3 5 (some ⟨g, o, none⟩) a dLen dCap sLen sCap Tryz.underlying26 Tryz.sizeU8 (by rw [hm]; exact h0)
    refine ⟨w, by rw [hn, h0]; rfl, hr.congr fun i _ => ?_, Chg.refl _ _⟩
    rw [if_neg (by omega)]
  · have hms : m ≤ sLen := by rw [← hm]; exact Nat.min_le_left _ _
    obtain ⟨b, off, rfl, _⟩ := hat 0 (by omega)
    obtain ⟨cur, t, hg, hn, hcur⟩ := hr
    have hcs : ((ys.take m).map byteV).length = m := by rw [List.length_map, List.length_take]; omega
    have hcp := run_copy_row (P := Tryz.prog) w 26 26 3 5 g o dLen dCap ⟨b, off, none⟩ sLen sCap cur t ((ys.take m).map byteV) Tryz.underlying26 Tryz.sizeU8 hg (by rw [hcs, hm]) (fun j v hv => by
        rw [List.getElem?_map, Option.map_eq_some_iff] at hv
        obtain ⟨z, hz1, rfl⟩ := hv
        have hj : j < m := by
          have := (List.getElem?_eq_some_iff.1 hz1).1
          rw [List.length_take] at this
          omega
        rw [List.getElem?_take, if_pos hj] at hz1
        obtain ⟨b', off', e, h2⟩ := hat j (by omega)
        simp only [Option.some.injEq, Addr.mk.injEq, and_true] at e
        rw [hz1, Option.getD_some, ← e.1, ← e.2] at h2
        rw [addr_add]
        exact h2) (by rw [hcs]; omega) (fun v hv => by
        obtain ⟨z, _, rfl⟩ := List.mem_map.1 hv
        rfl)
    rw [hcs] at hcp
    refine ⟨_, hcp, ⟨_, t, setRow_heap _ _ _ _ _ _ hg, ?_, fun i hi => ?_⟩, ⟨rfl, rfl, rfl, by simp [World.setRow], fun c hlt hc => ?_⟩⟩
    · simp only [List.size_toArray, List.length_append, List.length_take, List.length_drop, hcs, Array.length_toList]
      omega
    · have hto : (cur.toList.take o).length = o := by rw [List.length_take, Array.length_toList]; omega
      rw [List.getElem?_toArray]
      dsimp only
      by_cases h1 : i < o
      · rw [if_neg (by omega), List.append_assoc, List.getElem?_append_left (by omega), List.getElem?_take, if_pos h1, Array.getElem?_toList]
        exact hcur i hi
      · by_cases h2 : i < o + m
        · rw [if_pos ⟨by omega, h2⟩, List.append_assoc, List.getElem?_append_right (by omega), hto, List.getElem?_append_left (by omega), List.getElem?_map, List.getElem?_take, if_pos (by omega)]
          have hlt : i - o < ys.length := by omega
          rw [List.getElem?_eq_getElem hlt]
          simp [bytC, byteV, List.getElem?_eq_getElem hlt]
        · rw [if_neg (by omega), List.getElem?_append_right (by rw [List.length_append, hto, hcs]; omega), List.length_append, hto, hcs, List.getElem?_drop, Array.getElem?_toList, show o + m + (i - (o + m)) = i by omega]
          exact hcur i hi
    · simp only [World.setRow]
      rw [Array.getElem?_modify, if_neg (fun e => hc e.symm)]

theorem strY_len (zs : List UInt8) (n : Nat) : (strY zs n).length = n := by
  unfold strY
  rw [List.length_take, List.length_append, List.length_replicate]
  omega
theorem strY_get (zs : List UInt8) {n i : Nat} (h : i < n) : (strY zs n)[i]?.getD 0 = zs[i]?.getD 0 := by
  unfold strY
  rw [List.getElem?_take, if_pos h]
  by_cases hi : i < zs.length
  · rw [List.getElem?_append_left hi]
  · rw [List.getElem?_append_right (by omega), List.getElem?_replicate, List.getElem?_eq_none (show zs.length ≤ i by omega)]
    split <;> rfl
set_option maxHeartbeats 800000 in
theorem stretched_any (w : World) (v : Value) (zs : List UInt8) (x : Int) (n : Nat) (hx : x = (n : Int)) (h : Byt w v zs) (hn : n ≤ 1048576) :
    Calls Tryz.prog 43 #[v, .int .i64 x] w fun e w' => e = .returned (.slice (some ⟨w.heap.size, 0, none⟩) n n) ∧ Below w.heap.size w w' ∧ OwnRow w' w.heap.size n (bytC (strY zs n)) := by
  subst hx
  obtain ⟨a, cap, rfl, hm, hat⟩ := h
  have hmk := fun w => run_make_row' (P := Tryz.prog) 26 5 (.int .u8 0) 1 Tryz.underlying26 Tryz.infoU8 rfl .i64 .i64 n (by omega) (by omega) w
  obtain ⟨X, hcp, hrX, hcX⟩ := copyY_into (w.alloc (.cells (madeCells #[.int .u8 0] n) 5)) w.heap.size 0 n n n _ (OwnRow.made w (.int .u8 0) n 5) a zs.length cap zs rfl (hat.later (later1 _ _)) _ rfl (by rw [Nat.zero_add]; exact Nat.min_le_right _ _)
  have HB : Hid (Below w.heap.size w X) := (later1 _ _).trans (hcX.below (by simp) fun b hb => by omega)
  have HR : Hid (OwnRow X w.heap.size n (bytC (strY zs n))) := hrX.congr fun i hi => by
    unfold bytC
    rw [strY_get zs hi]
    by_cases h1 : i < zs.length
    · rw [if_pos ⟨by omega, by rw [Nat.zero_add]; exact Nat.lt_min.2 ⟨h1, hi⟩⟩, Nat.sub_zero]
    · rw [if_neg (fun h => h1 (Nat.lt_of_lt_of_le h.2 (by rw [Nat.zero_add]; exact Nat.min_le_left _ _))), List.getElem?_eq_none (by omega)]
      rfl
  generalize Nat.min zs.length n = mm at *
  clear hrX hcX hat
  go_enter Tryz.func43, Tryz.ntmps43
  go_wp2
  go_ret
  exact ⟨rfl, HB.out, HR.out⟩
end Go.Proofs.YtjabimfinanjoabGreat

namespace Go.Proofs.YtjabimfinanjoabGreat
open Go.RowKit
set_option maxRecDepth 100000

/-- A row of n elements that the call owns; element i is told by C i (u i), where u i is a list of its own in block k i. -/
structure YRow (C : Nat → Value → List Value) (w : World) (base lo : Nat) (e : TypeId) (size : Nat) (v : Value) (n : Nat) (f : Nat → List UInt8) (k : Nat → Nat) (u : Nat → Value) : Prop where
  own : w.ownsRow base e size v n ((List.range n).flatMap fun i => C i (u i))
  lo : ∀ i, i < n → lo ≤ k i ∧ k i < w.heap.size
  ne : ∀ i, i < n → v.ownBlock ≠ some (k i)
  inj : ∀ i j, i < n → j < n → i ≠ j → k i ≠ k j
  sh : ∀ i, i < n → ∃ a c, u i = .slice a (f i).length c
  at' : ∀ i, i < n → BytO w (u i) (f i) (fun c => c = k i)

theorem YRow.nil {C : Nat → Value → List Value} (w : World) (base lo : Nat) (e : TypeId) (size : Nat) (f : Nat → List UInt8) : YRow C w base lo e size (.slice none 0 0) 0 f (fun _ => 0) (fun _ => .slice none 0 0) :=
  ⟨World.ownsRow_nil _ _ _ _, fun i hi => by omega, fun i hi => by omega, fun i j hi => by omega, fun i hi => by omega, fun i hi => by omega⟩
theorem YRow.keep {C : Nat → Value → List Value} {w w' : World} {base lo : Nat} {e : TypeId} {size : Nat} {v : Value} {n : Nat} {f : Nat → List UInt8} {k : Nat → Nat} {u : Nat → Value} (h : YRow C w base lo e size v n f k u) (hs : w.heap.size ≤ w'.heap.size)
    (hrow : ∀ g, v.ownBlock = some g → w'.heap[g]? = w.heap[g]?) (hk : ∀ i, i < n → w'.heap[k i]? = w.heap[k i]?) : YRow C w' base lo e size v n f k u := by
  refine ⟨?_, fun i hi => ⟨(h.lo i hi).1, Nat.lt_of_lt_of_le (h.lo i hi).2 hs⟩, h.ne, h.inj, h.sh, fun i hi => (h.at' i hi).keep fun b hb _ => by rw [hb]; exact hk i hi⟩
  obtain ⟨h1, h2⟩ := h.own
  refine ⟨h1, ?_⟩
  rcases h2 with h2 | ⟨g, cap, cur, hv, hg, hh, r⟩
  · exact Or.inl h2
  · exact Or.inr ⟨g, cap, cur, hv, hg, by rw [hrow g (by rw [hv]; rfl)]; exact hh, r⟩
theorem YRow.later {C : Nat → Value → List Value} {w w' : World} {base lo : Nat} {e : TypeId} {size : Nat} {v : Value} {n : Nat} {f : Nat → List UInt8} {k : Nat → Nat} {u : Nat → Value} (h : YRow C w base lo e size v n f k u) (hb : Below w.heap.size w w') : YRow C w' base lo e size v n f k u :=
  h.keep hb.size (fun g hg => hb.block g (h.own.lt g hg).2) (fun i hi => hb.block _ (h.lo i hi).2)
theorem YRow.store {C : Nat → Value → List Value} {w : World} {base lo : Nat} {e : TypeId} {size : Nat} {v : Value} {n : Nat} {f : Nat → List UInt8} {k : Nat → Nat} {u : Nat → Value} (h : YRow C w base lo e size v n f k u) {p : Addr} (h1 : p.block < base) (h2 : p.block < lo) (x : Value) : YRow C (w.setCell p x) base lo e size v n f k u :=
  h.keep (by simp [World.setCell]) (fun g hg => Below.heap_setCell _ _ _ _ (by have := (h.own.lt g hg).1; omega)) (fun i hi => Below.heap_setCell _ _ _ _ (by have := (h.lo i hi).1; omega))
theorem YRow.shape {C : Nat → Value → List Value} {w : World} {base lo : Nat} {e : TypeId} {size : Nat} {v : Value} {n : Nat} {f : Nat → List UInt8} {k : Nat → Nat} {u : Nat → Value} (h : YRow C w base lo e size v n f k u) : ∃ a c, v = .slice a n c := by
  rcases h.own.2 with ⟨rfl, rfl⟩ | ⟨g, c, cur, rfl, _⟩
  · exact ⟨_, _, rfl⟩
  · exact ⟨_, _, rfl⟩

/-- What 'append' of one element comes to. -/
theorem YRow.append {C : Nat → Value → List Value} (w w1 : World) (t ty e : TypeId) (i : TypeInfo) (z : Value) (size bytes : Nat) (ht : Tryz.prog.underlying t = some (.slice e)) (hi : Tryz.prog.info? e = some i) (hz : i.zero = some z) (hsize : i.size = size) (hby : i.bytes = bytes) (hzs : z.cells.size = size) (hsz : 0 < size) (hbb : bytes ≤ 1000)
    (base lo n : Nat) (v : Value) (f : Nat → List UInt8) (k : Nat → Nat) (u : Nat → Value) (h : YRow C w base lo e size v n f k u) (hb : base ≤ w.heap.size) (hn : n ≤ 1048600) (hb1 : Below w.heap.size w w1)
    (a : Option Addr) (c : Nat) (hlen : (C n (.slice a (f n).length c)).length = size) (hone : ∀ x ∈ C n (.slice a (f n).length c), x.oneCell' = true) (kb : Nat) (hk1 : lo ≤ kb) (hk2 : kb ≤ w1.heap.size) (hk3 : v.ownBlock ≠ some kb) (hk4 : ∀ i, i < n → k i ≠ kb) (hf : BytO w1 (.slice a (f n).length c) (f n) (fun x => x = kb)) :
    ∃ g cap X, (Builtin.append_ #[t, t] ty #[v, .slice (some ⟨w1.heap.size, 0, none⟩) 1 1]).run Tryz.prog (w1.alloc (.cells (C n (.slice a (f n).length c)).toArray e)) = .ok (.slice (some ⟨g, 0, none⟩) (n + 1) cap) X ∧
      (∀ b, b < w1.heap.size → v.ownBlock ≠ some b → X.heap[b]? = w1.heap[b]?) ∧ Below base w X ∧ w1.heap.size < X.heap.size ∧
      YRow C X base lo e size (.slice (some ⟨g, 0, none⟩) (n + 1) cap) (n + 1) f (fun j => if j = n then kb else k j) (fun j => if j = n then .slice a (f n).length c else u j) := by
  have hsz1 := hb1.size
  have hbW : Below w.heap.size w (w1.alloc (.cells (C n (.slice a (f n).length c)).toArray e)) := hb1.trans ((later1 _ _).mono hb1.size)
  have hW := h.later hbW
  obtain ⟨g, cap, X, hr, ho, hg, hat, hgX⟩ := run_append_lies (P := Tryz.prog) (w1.alloc (.cells (C n (.slice a (f n).length c)).toArray e)) t ty base e i z size bytes ht hi hz hsize hby hzs hsz v n _ hW.own ⟨w1.heap.size, 0, none⟩ 1 1 (C n (.slice a (f n).length c)) (by rw [hlen, Nat.one_mul])
    (fun j x hx => by
      rw [add_plain', Nat.zero_add, new_cell]
      simpa using hx) hone (by decide) (by unfold maxLen; omega) (by have : (n + 1) * bytes ≤ 1048601 * 1000 := Nat.mul_le_mul (by omega) hbb; omega) (by simp; omega) (w1.heap.size + 1) (by simp)
  have hrow : ∀ g, v.ownBlock = some g → g < w.heap.size := fun g hg => (h.own.lt g hg).2
  have hrowb : ∀ g, v.ownBlock = some g → base ≤ g := fun g hg => (h.own.lt g hg).1
  have hXb : ∀ b, b < w1.heap.size → v.ownBlock ≠ some b → X.heap[b]? = w1.heap[b]? := fun b hb' hne => (hg.block b (by simp; omega) (fun e => hne e.symm)).trans ((later1 _ _).block b hb')
  have hne : ∀ b, b ≤ w1.heap.size → v.ownBlock ≠ some b → g ≠ b := by
    intro b hb' hb2 e
    subst e
    rcases hat with h | h
    · exact hb2 h
    · omega
  have old : ∀ b, b < w.heap.size → v.ownBlock ≠ some b → X.heap[b]? = w.heap[b]? := fun b hb' hne => (hXb b (by omega) hne).trans (hb1.block b hb')
  have hXs : w1.heap.size < X.heap.size := by have := hg.size; simp at this; omega
  refine ⟨g, cap, X, hr, hXb, (hbW.mono hb).trans (below_grown hg (by simp; omega) (fun g hg' => hrowb g hg')), hXs, ⟨?_, fun j hj => ?_, fun j hj => ?_, fun j j' hj hj' e => ?_, fun j hj => ?_, fun j hj => ?_⟩⟩
  · rw [List.range_succ, List.flatMap_append]
    have e1 : (List.range n).flatMap (fun i => C i (if i = n then .slice a (f n).length c else u i)) = (List.range n).flatMap (fun i => C i (u i)) := by
      have e0 : (List.range n).map (fun i => C i (if i = n then .slice a (f n).length c else u i)) = (List.range n).map (fun i => C i (u i)) := List.map_congr_left fun i hi => by rw [if_neg (by have := List.mem_range.1 hi; omega)]
      rw [List.flatMap_def, List.flatMap_def, e0]
    have e2 : [n].flatMap (fun i => C i (if i = n then .slice a (f n).length c else u i)) = C n (.slice a (f n).length c) := by simp only [List.flatMap_cons, List.flatMap_nil, List.append_nil, if_true]
    rw [e1, e2]
    exact ho
  · by_cases e : j = n
    · subst e; simp; omega
    · have := h.lo j (by omega); simp [e]; omega
  · by_cases e : j = n
    · subst e
      simp only [if_true]
      exact fun e => hne kb hk2 hk3 (by simpa [Value.ownBlock] using e)
    · have hj' : j < n := by omega
      have hl := h.lo j hj'
      simp only [e, if_false]
      exact fun e => hne (k j) (by omega) (h.ne j hj') (by simpa [Value.ownBlock] using e)
  · by_cases e1 : j = n
    · by_cases e2 : j' = n
      · omega
      · simp [e1, e2]; exact fun e => hk4 j' (by omega) e.symm
    · by_cases e2 : j' = n
      · simp [e1, e2]; exact hk4 j (by omega)
      · simp [e1, e2]; exact h.inj j j' (by omega) (by omega) e
  · by_cases e : j = n
    · subst e; exact ⟨a, c, by simp⟩
    · simp only [e, if_false]; exact h.sh j (by omega)
  · by_cases e : j = n
    · subst e
      simp only [if_true]
      exact hf.keep fun b hb' hlt' => by subst hb'; exact hXb _ hlt' hk3
    · have hj' : j < n := by omega
      simp only [e, if_false]
      exact (h.at' j hj').keep fun b hb' hlt' => by rw [hb']; exact old _ (h.lo j hj').2 (h.ne j hj')

/-- The one block of a list that is fresh. -/
theorem BytO.one {w w1 : World} {v : Value} {zs : List UInt8} (h : BytO w1 v zs (fresh w w1)) (hlt : w.heap.size < w1.heap.size) : ∃ kb, w.heap.size ≤ kb ∧ kb < w1.heap.size ∧ BytO w1 v zs (fun c => c = kb) := by
  rcases h with h | ⟨b, cap, hF, r⟩
  · exact ⟨w.heap.size, Nat.le_refl _, hlt, Or.inl h⟩
  · exact ⟨b, hF.1, hF.2, Or.inr ⟨b, cap, rfl, r⟩⟩

/-- The cells of such a row. -/
theorem YRow.cells {C : Nat → Value → List Value} {w : World} {base lo : Nat} {e : TypeId} {size : Nat} {v : Value} {n : Nat} {f : Nat → List UInt8} {k : Nat → Nat} {u : Nat → Value} (h : YRow C w base lo e size v n f k u) (hsz : 0 < size) (hC : ∀ i, (C i (u i)).length = size) (hn : 0 < n) :
    ∃ g cap, v = .slice (some ⟨g, 0, none⟩) n cap ∧ base ≤ g ∧ g < w.heap.size ∧ n ≤ maxLen ∧ n ≤ cap ∧ OwnRow w g (n * size) (fun c => (C (c / size) (u (c / size)))[c % size]?.getD undef) := by
  obtain ⟨hl, h2 | ⟨g, cap, cur, rfl, hb, hh, hnc, hcm, hcs, htake⟩⟩ := h.own
  · omega
  · have hle : n * size ≤ cap * size := Nat.mul_le_mul_right _ hnc
    refine ⟨g, cap, rfl, hb, (Array.getElem?_eq_some_iff.1 hh).1, by omega, hnc, cur, e, hh, by omega, fun c hc => ?_⟩
    have hd : c / size < n := by rw [Nat.div_lt_iff_lt_mul hsz]; exact hc
    have hm : c % size < size := Nat.mod_lt _ hsz
    have hg := flat_get hsz u hC n (c / size) (c % size) hd hm
    rw [Nat.div_add_mod'] at hg
    have h1 : ((List.range n).flatMap fun i => C i (u i))[c]? = cur[c]? := by rw [← htake, List.getElem?_take, if_pos hc, Array.getElem?_toList]
    rw [h1] at hg
    have hlt : c < cur.size := by omega
    show cur[c]? = some ((C (c / size) (u (c / size)))[c % size]?.getD undef)
    rw [← hg, Array.getElem?_eq_getElem hlt]; rfl

theorem YRow.byts {w : World} {base lo : Nat} {e : TypeId} {v : Value} {n : Nat} {k : Nat → Nat} {u : Nat → Value} {zss : List (List UInt8)} (h : YRow C1 w base lo e 1 v n (fun i => zss[i]?.getD []) k u) (hn : zss.length = n) (F : Nat → Prop) (hF : ∀ c, base ≤ c → c < w.heap.size → F c) (hF' : ∀ c, lo ≤ c → c < w.heap.size → F c) : BytsO w v zss F := by
  subst hn
  by_cases h0 : zss.length = 0
  · obtain ⟨a, c, rfl⟩ := h.shape
    exact Or.inl ⟨List.eq_nil_of_length_eq_zero h0, a, c, by rw [h0]⟩
  · obtain ⟨g, cap, rfl, hb, hg, hm, hnc, hrow⟩ := h.cells (by decide) (fun _ => rfl) (by omega)
    refine Or.inr ⟨g, cap, u, fun i c => i < zss.length ∧ c = k i, hF g hb hg, fun i c hc => ?_, fun i j c e h1 h2 => h.inj i j h1.1 h2.1 e (h1.2.symm.trans h2.2), rfl, ⟨hm, hnc⟩, ?_, fun i hi => (h.at' i hi).mono fun c hc => ⟨hi, hc⟩⟩
    · have hl := h.lo i hc.1
      have hne := h.ne i hc.1
      rw [hc.2]
      exact ⟨hF' _ hl.1 hl.2, fun e => hne (by simp [Value.ownBlock, e])⟩
    · rw [Nat.mul_one] at hrow
      exact hrow.congr fun i hi => by simp [C1, Nat.mod_one]
end Go.Proofs.YtjabimfinanjoabGreat
