/- The puts of a file system's inodes: the specification. What is within what: by steps so many at most, and by any way. IsWithin, of the program. The puts of a file system's data: the specification. What can be reached: the specification's ReachOf. The blocks that are busy while a file system is kept: its used ones; both sides. Answers that are puts: held against one another, marked, held. -/
import Derived.Test.YtlacppjlclfpmaaM02
import Derived.Test.YtlacppjlclfpmaaM13
import Derived.Test.YtlacppjlclfpmaaM08
import Derived.Test.YtlacppjlclfpmaaM10
import Derived.Deep.QuietTactic
import Derived.BigQuiet
import Derived.Test.YtlacppjlclfpmaaM12
import Derived.Test.YtlacppjlclfpmaaM11
import Derived.Test.YtlacppjlclfpmaaM01
namespace Go.Proofs.Ytlacppjlclfpmaa
open Go.RowKit
set_option maxRecDepth 100000

def inoW (ds : List ID) (i : Nat) : List Int := if i < ds.length then packL (ds[i]?.getD id0) else []
def inoPuts (ds : List ID) : List (Int × List Int) := (List.range 10).map fun i : Nat => (17 + (i : Int), inoW ds i)
theorem inoPuts_get (ds : List ID) {i : Nat} (hi : i < 10) : (inoPuts ds)[i]?.getD (0, []) = (17 + (i : Int), inoW ds i) := by
  unfold inoPuts
  rw [List.getElem?_map, List.getElem?_range hi]
  rfl
theorem inoPuts_len (ds : List ID) : (inoPuts ds).length = 10 := by simp [inoPuts]
/-- What 'append' of one put comes to. -/
theorem append_putG (w w1 : World) (base n : Nat) (v : Value) (x : Nat → Int × List Int) (u : Nat → List Value) (G : Nat → Nat → Prop) (h : GRow PutP w base 100 2 v n x u G) (hb : base ≤ w.heap.size) (hn : n ≤ 1048600) (hb1 : Below w.heap.size w w1)
    (at_ : Int) (a : Option Addr) (m c : Nat) (ws : List Int) (hx : x n = (at_, ws)) (F : Nat → Prop) (hF : ∀ c, F c → w.heap.size ≤ c ∧ c < w1.heap.size) (hm : m = ws.length) (hf : IntsO w1 (.slice a m c) ws F) (B : Nat) (hB : w1.heap.size = B) :
    ∃ g cap X u' G', (Builtin.append_ #[42, 42] 42 #[v, .slice (some ⟨B, 0, none⟩) 1 1]).run Try.prog (w1.alloc (.cells #[.int .i64 at_, .slice a m c] 100)) = .ok (.slice (some ⟨g, 0, none⟩) (n + 1) cap) X ∧
      Below base w X ∧ w1.heap.size < X.heap.size ∧ GRow PutP X base 100 2 (.slice (some ⟨g, 0, none⟩) (n + 1) cap) (n + 1) x u' G' ∧ (∀ b, b < w1.heap.size → v.ownBlock ≠ some b → X.heap[b]? = w1.heap[b]? ∧ g ≠ b) := by
  subst hm
  subst hB
  obtain ⟨i, hi, i1, i2, i3⟩ := Try.infoPut'
  exact GRow.append PutP.steady w w1 42 42 100 i _ 2 32 Try.underlying42 hi i1 i2 i3 rfl (by decide) (by decide) base n v x u G h hb hn hb1 [.int .i64 at_, .slice a ws.length c] rfl (fun y hy => by
    simp only [List.mem_cons, List.not_mem_nil, or_false] at hy
    rcases hy with rfl | rfl <;> rfl) F hF ⟨a, c, by rw [hx], by rw [hx]; exact hf⟩

set_option maxHeartbeats 3200000 in
theorem l12Inodes_any (w : World) (b o : Nat) (d : FD) (aI : Option Addr) (cI : Nat) (aD : Option Addr) (cD : Nat) (h : FsX w b o d aI cI aD cD) (hs : sizeInos d.1 ≤ 1048576) :
    Calls Try.prog 50 #[.pointer (some ⟨b, o, none⟩)] w fun e w' => ∃ a n c, e = .returned (.slice a n c) ∧ Below w.heap.size w w' ∧ PutsO w' (.slice a n c) (inoPuts d.1) (fresh w w') := by
  have hss : (isz d.1).sum ≤ 1048576 ∧ d.1.length ≤ 1048576 := by unfold sizeInos at hs; omega
  obtain ⟨x0, _, hio, _⟩ := h
  obtain ⟨_, _, e2, _, hc⟩ := hio.open'
  simp only [Value.slice.injEq] at e2
  obtain ⟨rfl, -, rfl⟩ := e2
  have HC : Hid (AtI w aI d.1.length d.1) := hc
  have HX : Hid (w.cell? ⟨b, o, none⟩ = some (.slice aI d.1.length cI)) := x0
  have HZ : Hid (∀ j, sizeIno (d.1[j]?.getD id0) ≤ 1048576) := fun j => by have := isz_le d.1 j; omega
  have HG : Hid (∀ j : Nat, j < 10 → (inoPuts d.1)[j]?.getD (0, []) = (17 + (j : Int), inoW d.1 j)) := fun j hj => inoPuts_get d.1 hj
  have HWI : Hid (∀ j, j < d.1.length → inoW d.1 j = packL (d.1[j]?.getD id0)) := fun j hj => by unfold inoW; rw [if_pos hj]
  have HWO : Hid (∀ j, ¬ j < d.1.length → inoW d.1 j = []) := fun j hj => by unfold inoW; rw [if_neg hj]
  have HL : Hid ((inoPuts d.1).length = 10) := inoPuts_len d.1
  have hnm := hss.2
  clear hc x0 hs hss
  generalize inoW d.1 = IW at *
  generalize inoPuts d.1 = PS at *
  generalize d.1.length = n at *
  go_enter Try.func50, Try.ntmps50
  go_wp2
  go_loopw [3, 4] (fun q i wr => ∃ (j : Nat) (u : Nat → List Value) (G : Nat → Nat → Prop), j ≤ 10 ∧ i = .int .i64 j ∧ Below w.heap.size w wr ∧ GRow PutP wr w.heap.size 100 2 q j (fun k => PS[k]?.getD (0, [])) u G) (fun _ i _ => 10 - (intOf i).toNat)
  case atStart => exact ⟨0, _, _, Nat.zero_le _, rfl, later1 _ _, GRow.lit0 w _ (Nat.le_refl _) _ _ _⟩
  case round =>
    obtain ⟨j, u, G, hj, rfl, hbl, hrow⟩ := hrel
    obtain ⟨aQ, cQ, rfl⟩ := hrow.shape
    have HBL : Hid (Below w.heap.size w wr) := hbl
    have HRW : Hid (GRow PutP wr w.heap.size 100 2 (.slice aQ j cQ) j (fun k => PS[k]?.getD (0, [])) u G) := hrow
    clear hbl hrow
    by_cases hlt : j < 10
    · have hg := HG.out j hlt
      have HGJ : Hid (PS[j]?.getD (0, []) = (17 + (j : Int), IW j)) := hg
      have x0 := cell_later HBL.out HX.out
      have hbz := lt_of_cell x0
      clear hg
      by_cases hin : j < n
      · obtain ⟨b1, o1, rfl, hI⟩ := HC.out j hin
        obtain ⟨aB, cB, aE, cE, k0, k1, k2, k3, k4, k5⟩ := hI.later HBL.out
        have hbz1 := lt_of_cell k0
        have HPK : Hid (∀ W, Below wr.heap.size wr W → Calls Try.prog 80 _ W _) := fun W hW => l4Pack_any W _ _ _ aB _ cB aE _ cE (d.1[j]?.getD id0) (k5.later hW) (HZ.out j)
        rw [← HWI.out j hin] at HPK
        clear hI k5
        generalize (d.1[j]?.getD id0).2.2.2.1.length = lB at *
        generalize (d.1[j]?.getD id0).2.2.2.2.length = lE at *
        generalize (d.1[j]?.getD id0).1 = z0 at *
        generalize (d.1[j]?.getD id0).2.1 = z1 at *
        generalize (d.1[j]?.getD id0).2.2.1 = z2 at *
        go_wp2_with fail
        refine (HPK.out _ (later1 _ _)).mono ?_
        rintro e w1 ⟨v, rfl, hb1, hw⟩
        obtain ⟨av, cv, rfl⟩ := hw.shape
        have hrow := (OwnRow.newS wr (.int .i64 (17 + (j : Int))) (.slice none 0 0) 100).later hb1
        have p0 := hrow.cell (i := 0) (by omega)
        have p1 := hrow.cell (i := 1) (by omega)
        have f0 := hrow.frozen 0
        have f1 := hrow.frozen 1
        have hlr := hrow.lt
        simp at p0 p1
        have HB1 : Hid (Below wr.heap.size wr w1) := (later1 _ _).trans (hb1.mono (by simp))
        have HB2 : Hid (Below wr.heap.size wr (w1.setCell ⟨wr.heap.size, 1, none⟩ (.slice av (IW j).length cv))) := HB1.out.setCell (by simp) _
        have hso : IntsO (w1.setCell ⟨wr.heap.size, 1, none⟩ (.slice av (IW j).length cv)) (.slice av (IW j).length cv) (IW j) (fun c => wr.heap.size + 1 ≤ c ∧ c < w1.heap.size) := (hw.box (w := wr) (by simp)).keep fun c hc _ => Below.heap_setCell _ _ _ _ (by have := hc.1; show c ≠ wr.heap.size; omega)
        obtain ⟨g, cap, X, u', G', hr, hbx, _, hgx, -⟩ := append_putG wr _ w.heap.size j _ _ u G HRW.out HBL.out.size (by omega) HB2.out (17 + (j : Int)) av _ cv (IW j) HGJ.out (fun c => wr.heap.size + 1 ≤ c ∧ c < w1.heap.size) (fun c hc => by simp [World.setCell]; omega) rfl hso w1.heap.size (by simp [World.setCell])
        have HR : Hid (_ = _) := hr
        have HBX : Hid (Below w.heap.size w X) := (HBL.out.trans hbx)
        have HGX : Hid (GRow PutP X w.heap.size 100 2 _ (j + 1) (fun k => PS[k]?.getD (0, [])) u' G') := hgx
        clear hr hbx hgx hso hb1 hw hrow HRW HPK HGJ HB1 HB2 k0 k1 k2 k3 k4 x0
        go_wp2_with (at_builtin; refine wpList_append_run rfl _ _ 42 rfl _ _ rfl rfl _ _ HR.out ?_)
        go_roundw
        case rel => exact ⟨j + 1, _, _, by omega, by go_num, HBX.out, HGX.out⟩
        case measure => simp [intOf]; omega
      · have HWJ := HWO.out j hin
        rw [HWJ] at HGJ
        have hso : IntsO (wr.alloc (.cells #[.int .i64 (17 + (j : Int)), .slice none 0 0] 100)) (.slice none 0 0) [] (fun _ => False) := Or.inl ⟨rfl, _, _, rfl⟩
        obtain ⟨g, cap, X, u', G', hr, hbx, _, hgx, -⟩ := append_putG wr _ w.heap.size j _ _ u G HRW.out HBL.out.size (by omega) (later1 _ _) (17 + (j : Int)) none _ 0 [] HGJ.out (fun _ => False) (fun c hc => hc.elim) rfl hso (wr.heap.size + 1) (by simp)
        have HR : Hid (_ = _) := hr
        have HBX : Hid (Below w.heap.size w X) := (HBL.out.trans hbx)
        have HGX : Hid (GRow PutP X w.heap.size 100 2 _ (j + 1) (fun k => PS[k]?.getD (0, [])) u' G') := hgx
        clear hr hbx hgx hso HRW HGJ
        simp only [List.length_nil] at HR
        go_wp2_with (at_builtin; refine wpList_append_run rfl _ _ 42 rfl _ _ rfl rfl _ _ HR.out ?_)
        go_roundw
        case rel => exact ⟨j + 1, _, _, by omega, by go_num, HBX.out, HGX.out⟩
        case measure => simp [intOf]; omega
    · have e : j = 10 := by omega
      subst e
      have HF : Hid (PutsO wr (.slice aQ 10 cQ) PS (fresh w wr)) := HRW.out.puts HL.out _ fun c h1 h2 => ⟨h1, h2⟩
      clear HRW HC HG HWI HWO
      go_wp2
      go_ret
      exact ⟨_, _, _, rfl, HBL.out, HF.out⟩
end Go.Proofs.Ytlacppjlclfpmaa

namespace Go.Proofs.Ytlacppjlclfpmaa
open Go.RowKit
set_option maxRecDepth 100000

/-- Can a be reached from t by k steps at most? -/
def witB (E : Nat → List Int) (a : Int) : Nat → Int → Bool
  | 0, t => decide (a = t)
  | k + 1, t => decide (a = t) || (E t.toNat).any fun x => witB E a k x
theorem RT.head {E : Nat → List Int} {t i : Nat} {x : Int} (hx : x ∈ E t) (h : RT E x.toNat i) : RT E t i := by
  induction h with
  | zero => exact .step .zero hx
  | step _ hy ih => exact .step ih hy
theorem witB_sound {E : Nat → List Int} {a : Int} : ∀ (k : Nat) (t : Int), witB E a k t = true → RT E t.toNat a.toNat
  | 0, t, h => by
    have : a = t := by simpa [witB] using h
    rw [this]; exact .zero
  | k + 1, t, h => by
    unfold witB at h
    rw [Bool.or_eq_true] at h
    rcases h with h | h
    · have : a = t := by simpa using h
      rw [this]; exact .zero
    · obtain ⟨x, hx, hw⟩ := List.any_eq_true.1 h
      exact RT.head hx (witB_sound k x hw)
theorem witB_self (E : Nat → List Int) (a : Int) : ∀ k, witB E a k a = true
  | 0 => by simp [witB]
  | k + 1 => by simp [witB]
theorem witB_up {E : Nat → List Int} {a : Int} : ∀ (k : Nat) (t : Int), witB E a k t = true → witB E a (k + 1) t = true
  | 0, t, h => by
    have : a = t := by simpa [witB] using h
    rw [this]; exact witB_self _ _ _
  | k + 1, t, h => by
    unfold witB at h ⊢
    rw [Bool.or_eq_true] at h ⊢
    rcases h with h | h
    · exact Or.inl h
    · obtain ⟨x, hx, hw⟩ := List.any_eq_true.1 h
      exact Or.inr (List.any_eq_true.2 ⟨x, hx, witB_up k x hw⟩)
/-- One step more behind a way. -/
theorem witB_tail {E : Nat → List Int} {a x : Int} (hx : x ∈ E a.toNat) : ∀ (k : Nat) (t : Int), witB E a k t = true → witB E x (k + 1) t = true
  | 0, t, h => by
    have : a = t := by simpa [witB] using h
    subst this
    unfold witB
    rw [Bool.or_eq_true]
    exact Or.inr (List.any_eq_true.2 ⟨x, hx, witB_self _ _ _⟩)
  | k + 1, t, h => by
    unfold witB at h
    rw [Bool.or_eq_true] at h
    rcases h with h | h
    · have : a = t := by simpa using h
      subst this
      unfold witB
      rw [Bool.or_eq_true]
      exact Or.inr (List.any_eq_true.2 ⟨x, hx, witB_self _ _ _⟩)
    · obtain ⟨y, hy, hw⟩ := List.any_eq_true.1 h
      unfold witB
      rw [Bool.or_eq_true]
      exact Or.inr (List.any_eq_true.2 ⟨y, hy, witB_tail hx k y hw⟩)
/-- No more is reached by one step more. -/
def shutB (E : Nat → List Int) (n : Nat) (t : Int) (k : Nat) : Prop := ∀ i : Nat, i < n → witB E (i : Int) (k + 1) t = true → witB E (i : Int) k t = true
theorem shut_or (E : Nat → List Int) (n : Nat) (t : Nat) (ht : t < n) : ∀ k, (∃ q, q ≤ k ∧ shutB E n (t : Int) q) ∨ k + 1 ≤ cntG (fun i => witB E (i : Int) k (t : Int)) n
  | 0 => by
    right
    have := cntG_lt (g := fun _ => false) (g' := fun i => witB E (i : Int) 0 (t : Int)) (by simp) (j := t) (by simp [witB]) (by simp) n ht
    omega
  | k + 1 => by
    rcases shut_or E n t ht k with ⟨q, hq, hc⟩ | h
    · exact Or.inl ⟨q, by omega, hc⟩
    · by_cases hc : shutB E n (t : Int) k
      · exact Or.inl ⟨k, by omega, hc⟩
      · right
        have : ∃ j, j < n ∧ witB E (j : Int) (k + 1) (t : Int) = true ∧ ¬ witB E (j : Int) k (t : Int) = true := by
          apply Classical.byContradiction
          intro hno
          apply hc
          intro i hi hw
          apply Classical.byContradiction
          intro hn
          exact hno ⟨i, hi, hw, hn⟩
        obtain ⟨j, hj, h1, h2⟩ := this
        have := cntG_lt (g := fun i => witB E (i : Int) k (t : Int)) (g' := fun i => witB E (i : Int) (k + 1) (t : Int)) (fun i hi => witB_up k _ hi) h1 h2 n hj
        omega
theorem witB_mono {E : Nat → List Int} {a t : Int} {k : Nat} (h : witB E a k t = true) : ∀ q, witB E a (k + q) t = true
  | 0 => h
  | q + 1 => witB_up _ _ (witB_mono h q)
theorem wit_iff {ds : List ID} (hr : inRange ds) {n a t : Nat} (hn : ds.length = n) (h10 : n ≤ 10) (ht : t < n) : witB (entsOf ds) (a : Int) 10 (t : Int) = true ↔ RT (entsOf ds) t a := by
  subst hn
  refine ⟨fun h => by have := witB_sound _ _ h; simpa using this, fun h => ?_⟩
  rcases shut_or (entsOf ds) ds.length t ht ds.length with ⟨q, hq, hc⟩ | hbig
  · have key : a < ds.length ∧ witB (entsOf ds) (a : Int) q (t : Int) = true := by
      induction h with
      | zero => exact ⟨ht, witB_self _ _ _⟩
      | @step j x _ hx ih =>
        have hxr := hr j ih.1 x hx
        have he : ((x.toNat : Nat) : Int) = x := by omega
        refine ⟨by omega, hc _ (by omega) ?_⟩
        rw [he]
        exact witB_tail (a := (j : Int)) (by simpa using hx) q _ ih.2
    have := witB_mono key.2 (10 - q)
    rwa [show q + (10 - q) = 10 by omega] at this
  · have := cntG_le (fun i => witB (entsOf ds) (i : Int) ds.length (t : Int)) ds.length
    omega
/-- IsWithin. -/
def withinB (d : FD) (x y : Int) : Bool := decide (0 ≤ x ∧ x < (d.1.length : Int)) && !decide (kindAt d.1 x.toNat = 0) && (decide (0 ≤ y ∧ y < (d.1.length : Int)) && !decide (kindAt d.1 y.toNat = 0)) && witB (entsOf d.1) x 10 y
end Go.Proofs.Ytlacppjlclfpmaa

namespace Go.Proofs.Ytlacppjlclfpmaa
open Go.RowKit
set_option maxRecDepth 100000

/-- IsWithin. -/
def winB (d : FD) (x y : Int) : Bool := decide (fsF d = 0) && (thB d x && (thB d y && witB (entsOf d.1) x 10 y))
/-- What stands where nothing is wrong of a file system. -/
structure FsOk (d : FD) : Prop where
  ins : insF d.1 = 0
  pos : 0 < d.1.length
  ten : d.1.length ≤ 10
  rng : inRange d.1
  six : ∀ i, (entsOf d.1 i).length ≤ 6
  dat : d.2.length = 20
  top : kindAt d.1 0 = 2
theorem fsE_ok {d : FD} (h : fsE d = 0) : FsOk d := by
  obtain ⟨h1, g2, _, _, h5⟩ := fsE_zero h
  obtain ⟨g4, g5, g3⟩ := formB_no g2
  exact ⟨h1, by omega, insF_ten h1, range_of h1 h5, six_of h1, g3, g5⟩
theorem fsF_E {d : FD} (h : fsF d = 0) : fsE d = 0 := by
  unfold fsF at h
  by_cases e : fsE d = 0
  · exact e
  · rw [if_neg e] at h; exact absurd h e
theorem thB_in {d : FD} {x : Int} (h : thB d x = true) : ∃ j : Nat, x = (j : Int) ∧ j < d.1.length ∧ ¬ kindAt d.1 j = 0 := by
  unfold thB at h
  rw [Bool.and_eq_true] at h
  have h1 : 0 ≤ x ∧ x < (d.1.length : Int) := by simpa using h.1
  exact ⟨x.toNat, by omega, by omega, by simpa using h.2⟩

end Go.Proofs.Ytlacppjlclfpmaa

namespace Go.Proofs.Ytlacppjlclfpmaa
open Go.RowKit
set_option maxRecDepth 100000

def byteI (x : UInt8) : Int := ((x.toNat : Nat) : Int)
def datW (d : FD) (b : Int) : List Int := (d.2[b.toNat]?.getD []).map byteI
def datPuts (d : FD) : List (Int × List Int) := (selL (usedP d.1) 20).map fun b => (27 + b, datW d b)
theorem selL_lt (p : Nat → Bool) (n k : Nat) (hk : k < (selL p n).length) : 0 ≤ (selL p n)[k]?.getD 0 ∧ (selL p n)[k]?.getD 0 < (n : Int) := by
  have hm : (selL p n)[k] ∈ selL p n := List.getElem_mem hk
  rw [List.getElem?_eq_getElem hk]
  show 0 ≤ (selL p n)[k] ∧ (selL p n)[k] < (n : Int)
  unfold selL at hm
  rw [List.mem_map] at hm
  obtain ⟨q, hq, e⟩ := hm
  have := List.mem_range.1 (List.mem_filter.1 hq).1
  unfold selL
  rw [← e]
  omega
theorem byteI_take (ys : List UInt8) (k : Nat) (hk : k < ys.length) : (ys.map byteI).take (k + 1) = (ys.map byteI).take k ++ [(((ys[k]?.getD 0).toNat : Nat) : Int)] := by
  rw [List.take_succ_eq_append_getElem (by simpa using hk), List.getElem_map, List.getElem?_eq_getElem hk]
  rfl

theorem cell_block {w w' : World} {b : Nat} (h : w'.heap[b]? = w.heap[b]?) (o : Nat) : w'.cell? ⟨b, o, none⟩ = w.cell? ⟨b, o, none⟩ := by simp only [World.cell?, h]
set_option maxHeartbeats 6400000 in
theorem l12Data_any (w : World) (b o : Nat) (d : FD) (aI : Option Addr) (cI : Nat) (aD : Option Addr) (cD : Nat) (h : FsX w b o d aI cI aD cD) (hs : sizeInos d.1 ≤ 1048576) (h20 : d.2.length = 20) (h8 : ∀ i : Nat, (d.2[i]?.getD []).length ≤ 1048576) :
    Calls Try.prog 42 #[.pointer (some ⟨b, o, none⟩)] w fun e w' => ∃ a n c, e = .returned (.slice a n c) ∧ Below w.heap.size w w' ∧ PutsO w' (.slice a n c) (datPuts d) (fresh w w') := by
  have HU : Hid (∀ W, Below w.heap.size w W → Calls Try.prog 53 #[.slice aI d.1.length cI] W fun e w' => ∃ a c, e = .returned (.tuple #[.slice a (selL (usedP d.1) 20).length c, .bool (onceB d.1 20)]) ∧ Below W.heap.size W w' ∧ Wds w' W.heap.size (.slice a (selL (usedP d.1) 20).length c) (selL (usedP d.1) 20)) := fun W hW => l5Used_any (h.ins.later hW) hs
  obtain ⟨_, _, e2, hm2, hBt⟩ := h.byt.open'
  simp only [Value.slice.injEq] at e2
  obtain ⟨rfl, -, rfl⟩ := e2
  have c0 := h.c0
  have c1 := h.c1
  rw [h20] at c1 hBt
  have HBT : Hid (AtYs w aD 20 d.2) := hBt
  have H8 : Hid (∀ i : Nat, (d.2[i]?.getD []).length ≤ 1048576) := h8
  have HG : Hid (∀ k : Nat, k < (selL (usedP d.1) 20).length → (datPuts d)[k]?.getD (0, []) = (27 + (selL (usedP d.1) 20)[k]?.getD 0, datW d ((selL (usedP d.1) 20)[k]?.getD 0))) := fun k hk => by
    unfold datPuts
    rw [List.getElem?_map, List.getElem?_eq_getElem hk]; rfl
  have HL : Hid ((datPuts d).length = (selL (usedP d.1) 20).length) := by unfold Hid datPuts; simp
  have HRG : Hid (∀ k : Nat, k < (selL (usedP d.1) 20).length → 0 ≤ (selL (usedP d.1) 20)[k]?.getD 0 ∧ (selL (usedP d.1) 20)[k]?.getD 0 < 20) := fun k hk => by have := selL_lt (usedP d.1) 20 k hk; omega
  have hl20 : (selL (usedP d.1) 20).length ≤ 20 := selL_len _ _
  have HDW : Hid (∀ y : Nat, datW d (y : Int) = (d.2[y]?.getD []).map byteI) := fun y => by unfold datW; rw [Int.toNat_natCast]
  have hlt0 : b < w.heap.size := lt_of_cell c0
  clear h hs h20 h8 hBt hm2
  generalize datPuts d = PS at *
  generalize datW d = DW at *
  generalize selL (usedP d.1) 20 = zs at *
  generalize onceB d.1 20 = bo at *
  generalize d.1.length = n at *
  generalize d.2 = dd at *
  obtain ⟨m, hm⟩ : ∃ m, zs.length = m := ⟨_, rfl⟩
  have HM : Hid (zs.length = m) := hm
  rw [hm] at HU HG HL HRG hl20
  clear hm
  go_enter Try.func42, Try.ntmps42
  have x0 := cell_later (later1 w (.cells #[] 100)) c0
  go_wp2_with fail
  refine (HU.out _ (later1 _ _)).mono ?_
  rintro e w1 ⟨aU, cU, rfl, hb1, hwd⟩
  have HB1 : Hid (Below w.heap.size w w1) := (later1 _ _).trans (hb1.mono (by simp))
  have HZ : Hid (At1 w1 aU m (fun k => .int .i64 (zs[k]?.getD 0))) := by
    obtain ⟨_, _, ez, _, hz⟩ := (hwd.own' (w0 := w.alloc (.cells #[] 100)) (Nat.le_refl _)).reads.open'
    simp only [Value.slice.injEq] at ez
    obtain ⟨rfl, hm, rfl⟩ := ez
    rw [← hm] at hz
    exact hz
  have HZB : Hid (0 < m → ∃ b1, aU = some ⟨b1, 0, none⟩ ∧ w.heap.size < b1 ∧ b1 < w1.heap.size) := fun h0 => by
    rcases hwd.own' (w0 := w.alloc (.cells #[] 100)) (Nat.le_refl _) with ⟨e, _⟩ | ⟨b1, cap, hF, e, _⟩
    · have := HM.out; rw [e] at this; simp at this; omega
    · simp only [Value.slice.injEq] at e
      exact ⟨b1, e.1, by have := hF.1; simp at this; omega, hF.2⟩
  have HG0 : Hid (GRow PutP w1 w.heap.size 100 2 (.slice (some ⟨w.heap.size, 0, none⟩) 0 0) 0 (fun k => PS[k]?.getD (0, [])) (fun _ => []) (fun _ _ => False)) := (GRow.lit0 w _ (Nat.le_refl _) _ _ _).later PutP.steady hb1
  clear hb1 hwd x0 HU
  go_wp2
  go_loopw [3, 6] (fun q i wr => ∃ (j : Nat) (u : Nat → List Value) (G : Nat → Nat → Prop), j ≤ m ∧ i = .int .i64 j ∧ w1.heap.size ≤ wr.heap.size ∧ (∀ b1 o1, 0 < m → aU = some ⟨b1, o1, none⟩ → wr.heap[b1]? = w1.heap[b1]? ∧ q.ownBlock ≠ some b1) ∧ Below w.heap.size w wr ∧ GRow PutP wr w.heap.size 100 2 q j (fun k => PS[k]?.getD (0, [])) u G) (fun _ i _ => m - (intOf i).toNat)
  case atStart => exact ⟨0, _, _, Nat.zero_le _, rfl, Nat.le_refl _, fun b1 o1 h0 e => ⟨rfl, by
      obtain ⟨b2, e2, h1, _⟩ := HZB.out h0
      rw [e] at e2
      simp only [Option.some.injEq, Addr.mk.injEq] at e2
      obtain ⟨rfl, _⟩ := e2
      intro h
      simp [Value.ownBlock] at h
      omega⟩, HB1.out, HG0.out⟩
  case round =>
    clear HG0
    obtain ⟨j, u, G, hj, rfl, hz1w, hbl1, hbl, hrow⟩ := hrel
    obtain ⟨aQ, cQ, rfl⟩ := hrow.shape
    have HBL1 : Hid (∀ b1 o1, 0 < m → aU = some ⟨b1, o1, none⟩ → wr.heap[b1]? = w1.heap[b1]? ∧ (Value.slice aQ j cQ).ownBlock ≠ some b1) := hbl1
    clear hbl1
    have HBL : Hid (Below w.heap.size w wr) := hbl
    have HRW : Hid (GRow PutP wr w.heap.size 100 2 (.slice aQ j cQ) j (fun k => PS[k]?.getD (0, [])) u G) := hrow
    clear hrow
    by_cases hlt : j < m
    · have HGJ : Hid (PS[j]?.getD (0, []) = (27 + zs[j]?.getD 0, DW (zs[j]?.getD 0))) := HG.out j hlt
      obtain ⟨q1, q2⟩ := HRG.out j hlt
      obtain ⟨b1, o1, rfl, k0⟩ := HZ.out j hlt
      have hb1z := lt_of_cell k0
      have x0 : wr.cell? ⟨b1, o1 + j, none⟩ = some (.int .i64 (zs[j]?.getD 0)) := (cell_block (HBL1.out b1 o1 (by omega) rfl).1 _).trans k0
      have hnb := HBL1.out b1 o1 (by omega) rfl
      have HNB : Hid (wr.heap[b1]? = w1.heap[b1]? ∧ (Value.slice aQ j cQ).ownBlock ≠ some b1) := hnb
      clear k0 hnb HBL1
      generalize zs[j]?.getD 0 = x at *
      obtain ⟨y, rfl⟩ : ∃ y : Nat, x = (y : Int) := ⟨x.toNat, by omega⟩
      have hy : y < 20 := by omega
      obtain ⟨bD, oD, ua, uc, rfl, d0, iy⟩ := HBT.out y hy
      have hbDz := lt_of_cell d0
      have h8y := H8.out y
      rw [HDW.out y] at HGJ
      generalize dd[y]?.getD [] = ys at *
      have HIY : Hid (Byt w (.slice ua ys.length uc) ys) := iy
      have HBI : Hid (∀ k, k < ys.length → (ys.map byteI).take (k + 1) = (ys.map byteI).take k ++ [(((ys[k]?.getD 0).toNat : Nat) : Int)]) := fun k hk => byteI_take ys k hk
      have HBZ : Hid (∀ k, k ≤ ys.length → ((ys.map byteI).take k).length = k) := fun k hk => by rw [List.length_take, List.length_map]; omega
      have HBE : Hid ((ys.map byteI).take ys.length = ys.map byteI) := List.take_of_length_le (by simp)
      have HYA : Hid (∃ N, ys.length = N) := ⟨_, rfl⟩
      have hyn : (ys.map byteI).length = ys.length := by simp
      have HYN : Hid ((ys.map byteI).length = ys.length) := hyn
      clear iy hyn HYA
      have HY2 : Hid (∃ cap, Value.slice ua ys.length uc = .slice ua ys.length cap ∧ AtY w ua ys.length ys) := by
        obtain ⟨a', cap', e', -, hat⟩ := HIY.out
        simp only [Value.slice.injEq] at e'
        obtain ⟨rfl, -, rfl⟩ := e'
        exact ⟨_, rfl, hat⟩
      obtain ⟨_, -, hyt⟩ := HY2.out
      have HYT : Hid (AtY w ua ys.length ys) := hyt
      clear hyt HY2 HIY
      generalize ys.map byteI = yz at *
      obtain ⟨ly, hly⟩ : ∃ ly, ys.length = ly := ⟨_, rfl⟩
      rw [hly] at HBI HBZ HBE HYN HYT d0 h8y
      clear hly
      have y1 := cell_later hbl c1
      have y2 := cell_later hbl d0
      have hbz : b < wr.heap.size := by have := hbl.size; omega
      have hbz1 : b1 < wr.heap.size := by omega
      have hbzD : bD < wr.heap.size := by have := hbl.size; omega
      clear hbl
      obtain ⟨wo, rfl⟩ : ∃ wo, wo = wr := ⟨_, rfl⟩
      go_wp2
      go_loopw [8] (fun i wr => ∃ (k : Nat) (v : Value), k ≤ ly ∧ i = .int .i64 k ∧ Below wo.heap.size wo wr ∧ OwnRow wr wo.heap.size 2 (cel [.int .i64 (27 + (y : Int)), v]) ∧ Wds wr (wo.heap.size + 1) v (yz.take k)) (fun i _ => ly - (intOf i).toNat)
      case atStart => exact ⟨0, .slice none 0 0, Nat.zero_le _, rfl, later1 _ _, newCel wo [.int .i64 (27 + (y : Int)), .slice none 0 0] _, World.ownsRow_nil _ _ _ _⟩
      case round =>
        obtain ⟨k, v, hk, rfl, hbq, hpr, hwv⟩ := hrel
        have hzk := HBZ.out k hk
        obtain ⟨av, cv, rfl⟩ := hwv.shape
        rw [hzk] at hwv hpr
        have HBQ : Hid (Below wo.heap.size wo wr) := hbq
        have HPR : Hid (OwnRow wr wo.heap.size 2 (cel [.int .i64 (27 + (y : Int)), .slice av k cv])) := hpr
        have HWV : Hid (Wds wr (wo.heap.size + 1) (.slice av k cv) (yz.take k)) := hwv
        have p0 : wr.cell? ⟨wo.heap.size, 0, none⟩ = some (.int .i64 (27 + (y : Int))) := hpr.cell (i := 0) (by omega)
        have p1 : wr.cell? ⟨wo.heap.size, 1, none⟩ = some (.slice av k cv) := hpr.cell (i := 1) (by omega)
        have f1 := hpr.frozen 1
        have r0 := cell_later hbq x0
        have r1 := cell_later hbq y1
        have r2 := cell_later hbq y2
        have hlq := hpr.lt
        clear hbq hpr hwv x0 y1 y2
        by_cases hlk : k < ly
        · obtain ⟨bu, ou, rfl, t0⟩ := HYT.out k hlk
          have t1 := cell_later (HBL.out.trans (HBQ.out.mono HBL.out.size)) t0
          have hzl : 0 ≤ (((ys[k]?.getD 0).toNat : Nat) : Int) ∧ (((ys[k]?.getD 0).toNat : Nat) : Int) ≤ 255 := by have := (ys[k]?.getD 0).toNat_lt; omega
          have HBK : Hid (yz.take (k + 1) = yz.take k ++ [(((ys[k]?.getD 0).toNat : Nat) : Int)]) := HBI.out k hlk
          have hz1 := HBZ.out (k + 1) (by omega)
          go_wp2_with fail
          go_quiet (fail)
          obtain ⟨a2, c2, X, hr, hx, hb, -⟩ := append_w1 (wr.drewN (nq + 1)) (wo.heap.size + 1) _ (yz.take k) (((ys[k]?.getD 0).toNat : Nat) : Int) (HWV.out.later (below_drewN (Below.refl _ _) (nq + 1))) (by have := HBQ.out.size; show wo.heap.size + 1 ≤ wr.heap.size; omega) (by rw [hzk]; omega)
          rw [← HBK.out, hz1] at hr
          rw [← HBK.out, hz1] at hx
          have hwr := wrap_in (((ys[k]?.getD 0).toNat : Nat) : Int) (by omega) (by omega)
          have HR : Hid ((Builtin.append_ #[37, 37] 37 #[.slice av k cv, .slice (some ⟨wr.heap.size, 0, none⟩) 1 1]).run Try.prog ((wr.drewN (nq + 1)).alloc (.cells #[.int .i64 (IntKind.i64.wrap (((ys[k]?.getD 0).toNat : Nat) : Int))] 2)) = .ok (.slice a2 (k + 1) c2) X) := by unfold Hid; rw [hwr]; exact hr
          clear hwr
          have HBX : Hid (Below (wo.heap.size + 1) wr X) := (below_drewN (Below.refl _ _) (nq + 1)).trans hb
          have hpx : OwnRow X wo.heap.size 2 (cel [.int .i64 (27 + (y : Int)), .slice av k cv]) := HPR.out.block (HBX.out.block _ (by omega))
          have p3 : X.cell? ⟨wo.heap.size, 0, none⟩ = some (.int .i64 (27 + (y : Int))) := hpx.cell (i := 0) (by omega)
          have p4 : X.cell? ⟨wo.heap.size, 1, none⟩ = some (.slice av k cv) := hpx.cell (i := 1) (by omega)
          have f4 := hpx.frozen 1
          have HPX : Hid (OwnRow (X.setCell ⟨wo.heap.size, 1, none⟩ (.slice a2 (k + 1) c2)) wo.heap.size 2 (cel [.int .i64 (27 + (y : Int)), .slice a2 (k + 1) c2])) := (hpx.set 1 _).congr fun i hi => by rcases (show i = 0 ∨ i = 1 by omega) with rfl | rfl <;> rfl
          have HWX : Hid (Wds (X.setCell ⟨wo.heap.size, 1, none⟩ (.slice a2 (k + 1) c2)) (wo.heap.size + 1) (.slice a2 (k + 1) c2) (yz.take (k + 1))) := ownsRow_store hx (by show wo.heap.size < wo.heap.size + 1; omega) _
          have HBY : Hid (Below wo.heap.size wo (X.setCell ⟨wo.heap.size, 1, none⟩ (.slice a2 (k + 1) c2))) := (HBQ.out.trans (HBX.out.mono (by omega))).setCell (by simp) _
          clear hr hx hb hpx HBK HWV HPR HBI HBZ hzk hz1
          have s0 := cell_later (below_drewN (Below.refl _ _) nq) r0
          have s1 := cell_later (below_drewN (Below.refl _ _) nq) r1
          have s2 := cell_later (below_drewN (Below.refl _ _) nq) r2
          have s3 := cell_later (below_drewN (Below.refl _ _) nq) t1
          have s4 := cell_later (below_drewN (Below.refl _ _) nq) p1
          have s5 : ∀ ob, ((wr.drewN (nq + 1)).alloc ob).cell? ⟨wo.heap.size, 1, none⟩ = some (.slice av k cv) := fun ob => cell_later ((below_drewN (Below.refl _ _) (nq + 1)).trans (later1 (wr.drewN (nq + 1)) ob)) p1
          go_wp2_with fail
          go_region_law (first
            | (refine step_append_run rfl _ _ 37 rfl _ _ rfl rfl _ _ HR.out ?_))
          all_goals
            go_wp2
            go_roundw
            case rel => exact ⟨k + 1, _, by omega, by go_num, HBY.out, HPX.out, HWX.out⟩
            case measure => simp [intOf]; omega
        · have e : k = ly := by omega
          subst e
          have HWF : Hid (IntsO wr (.slice av k cv) yz (fun c => wo.heap.size + 1 ≤ c ∧ c < wr.heap.size)) := by
            have := HWV.out.own' (w0 := wo.alloc (.cells #[.int .i64 0, .int .i64 0] 100)) (by simp)
            rw [HBE.out] at this
            exact this.mono fun c hc => ⟨by have := hc.1; simpa using this, hc.2⟩
          go_wp2_with fail
          go_quiet (fail)
          obtain ⟨g, cap, X, u', G', hr, hbx, hxs, hgx, hot⟩ := append_putG wo (wr.drewN nq) w.heap.size j _ _ u G HRW.out HBL.out.size (by omega) (below_drewN HBQ.out nq) (27 + (y : Int)) av _ cv yz HGJ.out (fun c => wo.heap.size + 1 ≤ c ∧ c < wr.heap.size) (fun c hc => ⟨by omega, hc.2⟩) HYN.out.symm HWF.out wr.heap.size rfl
          have HR : Hid (_ = _) := hr
          have HBX : Hid (Below w.heap.size w X) := (HBL.out.trans hbx)
          have HXS : Hid (w1.heap.size ≤ X.heap.size) := by have : wr.heap.size < X.heap.size := hxs; unfold Hid; omega
          have HNX : Hid (X.heap[b1]? = w1.heap[b1]? ∧ (Value.slice (some ⟨g, 0, none⟩) (j + 1) cap).ownBlock ≠ some b1) := by
            obtain ⟨h1, h2⟩ := hot b1 (by show b1 < wr.heap.size; omega) HNB.out.2
            refine ⟨(h1.trans (HBQ.out.block b1 (by omega))).trans HNB.out.1, fun e => h2 (by simpa [Value.ownBlock] using e)⟩
          have HGX : Hid (GRow PutP X w.heap.size 100 2 _ (j + 1) (fun k => PS[k]?.getD (0, [])) u' G') := hgx
          have q0 := cell_later (below_drewN (Below.refl _ _) nq) p0
          have q1 := cell_later (below_drewN (Below.refl _ _) nq) p1
          clear hr hbx hgx hxs hot HWV HWF HRW HGJ HPR HBI HBZ HBE HYT HNB
          go_wp2_with (at_builtin; refine wpList_append_run rfl _ _ 42 rfl _ _ rfl rfl _ _ HR.out ?_)
          go_roundw
          case rel => exact ⟨j + 1, _, _, by omega, by go_num, HXS.out, fun b2 o2 _ e => by
            simp only [Option.some.injEq, Addr.mk.injEq] at e
            obtain ⟨rfl, _⟩ := e
            exact HNX.out, HBX.out, HGX.out⟩
          case measure => simp [intOf]; omega
    · have e : j = m := by omega
      subst e
      have HF : Hid (PutsO wr (.slice aQ j cQ) PS (fresh w wr)) := HRW.out.puts HL.out _ fun c h1 h2 => ⟨h1, h2⟩
      clear HRW HZ HG HDW HBT
      go_wp2
      go_ret
      exact ⟨_, _, _, rfl, HBL.out, HF.out⟩
end Go.Proofs.Ytlacppjlclfpmaa

namespace Go.Proofs.Ytlacppjlclfpmaa
open Go.RowKit
set_option maxRecDepth 100000

def reachR (d : FD) : Int × List Int := if fsE d = 0 then (0, selL (reachG d.1 d.1.length) d.1.length) else (fsE d, [])
theorem reachR_len (d : FD) : (reachR d).2.length ≤ 10 := by
  unfold reachR
  by_cases h : fsE d = 0
  · rw [if_pos h]
    have h1 := selL_len (reachG d.1 d.1.length) d.1.length
    have h2 := insF_ten (fsE_zero h).1
    show (selL (reachG d.1 d.1.length) d.1.length).length ≤ 10
    omega
  · rw [if_neg h]; simp
theorem AnsIR.putB {w W : World} {rb : Nat} {r : Int} {zs : List Int} {a : Option Addr} {n c : Nat} (hB : Below w.heap.size w W) (hrb : w.heap.size ≤ rb) (hY : IntsO W (.slice a n c) zs (fun b => rb < b ∧ b < W.heap.size)) (x y : Value) : AnsIR w (r, zs) (.returned (.agg #[.int .i64 r, .slice a n c])) ((W.setCell ⟨rb, 0, none⟩ x).setCell ⟨rb, 1, none⟩ y) := by
  refine ⟨a, n, c, rfl, (hB.setCell (by simpa using hrb) _).setCell (by simpa using hrb) _, (hY.keep fun b hb _ => ?_).mono fun b hb => ?_⟩
  · rw [Below.heap_setCell _ _ _ _ (by simp; omega), Below.heap_setCell _ _ _ _ (by simp; omega)]
  · unfold fresh
    simp only [World.setCell, Array.size_modify]
    exact ⟨by omega, hb.2⟩
theorem AnsIR.badB {w W : World} {rb : Nat} (r : Int) (hB : Below w.heap.size w W) (hrb : w.heap.size ≤ rb) (x y : Value) : AnsIR w (r, []) (.returned (.agg #[.int .i64 r, .slice none 0 0])) ((W.setCell ⟨rb, 0, none⟩ x).setCell ⟨rb, 1, none⟩ y) := AnsIR.putB hB hrb (Or.inl ⟨rfl, _, _, rfl⟩) x y

end Go.Proofs.Ytlacppjlclfpmaa

namespace Go.Proofs.Ytlacppjlclfpmaa
open Go.RowKit
set_option maxRecDepth 100000

/-- BusyOf. -/
def busyR (d : FD) : Int × List Int := if fsF d = 0 then (0, selL (usedP d.1) 20) else (fsF d, [])
theorem busyR_len (d : FD) : (busyR d).2.length ≤ 20 := by
  unfold busyR
  by_cases h : fsF d = 0
  · rw [if_pos h]; exact selL_len _ _
  · rw [if_neg h]; simp

set_option maxHeartbeats 3200000 in
theorem specBusyU (w : World) (a1 : Option Addr) (n1 c1 : Nat) (a2 : Option Addr) (n2 c2 : Nat) (d : FD) (h : FsR w (.slice a1 n1 c1) (.slice a2 n2 c2) d) (hs : sizeFs d ≤ 1048576) :
    Calls Try.prog 26 #[.agg #[.slice a1 n1 c1, .slice a2 n2 c2]] w (AnsIR w (busyR d)) := by
  obtain ⟨hx0, rfl, rfl⟩ := FsX.box h 32
  have hx := hx0.later (later1 _ (.cells #[.int .i64 0, .slice none 0 0] 50))
  have hsi : sizeInos d.1 ≤ 1048576 := by unfold sizeFs at hs; omega
  have hrow0 : OwnRow ((w.alloc (.cells #[.slice a1 d.1.length c1, .slice a2 d.2.length c2] 32)).alloc (.cells #[.int .i64 0, .slice none 0 0] 50)) (w.heap.size + 1) 2 (fun i => if i = 0 then .int .i64 0 else .slice none 0 0) := by
    have := box2 (w.alloc (.cells #[.slice a1 d.1.length c1, .slice a2 d.2.length c2] 32)) 50
    rw [World.size_alloc] at this
    exact this
  have HB0 : Hid (Below w.heap.size w ((w.alloc (.cells #[.slice a1 d.1.length c1, .slice a2 d.2.length c2] 32)).alloc (.cells #[.int .i64 0, .slice none 0 0] 50))) := later2 _ _ _
  have HRB : Hid (OwnRow _ (w.heap.size + 1) 2 _) := hrow0
  have HX : Hid (Bx ((w.alloc (.cells #[.slice a1 d.1.length c1, .slice a2 d.2.length c2] 32)).alloc (.cells #[.int .i64 0, .slice none 0 0] 50)) w.heap.size [.slice a1 d.1.length c1, .slice a2 d.2.length c2]) := (Bx.new w [.slice a1 d.1.length c1, .slice a2 d.2.length c2] _).later (later1 _ _)
  have HR : Hid (busyR d = if fsF d = 0 then (0, selL (usedP d.1) 20) else (fsF d, [])) := rfl
  rw [HR.out]
  have HF : Hid (Calls Try.prog 33 _ _ _) := l6Fault_any _ _ _ d _ _ _ _ hx hsi
  have HU : Hid (∀ W, Below w.heap.size w W → Calls Try.prog 53 #[.slice a1 d.1.length c1] W fun e w' => ∃ a c, e = .returned (.tuple #[.slice a (selL (usedP d.1) 20).length c, .bool (onceB d.1 20)]) ∧ Below W.heap.size W w' ∧ Wds w' W.heap.size (.slice a (selL (usedP d.1) 20).length c) (selL (usedP d.1) 20)) := fun W hW => l5Used_any (h.1.later hW) hsi
  have hwz : ((w.alloc (.cells #[.slice a1 d.1.length c1, .slice a2 d.2.length c2] 32)).alloc (.cells #[.int .i64 0, .slice none 0 0] 50)).heap.size = w.heap.size + 2 := by simp
  clear HR h hx hx0 hrow0 hs hsi
  generalize fsF d = r at *
  generalize onceB d.1 20 = bo at *
  generalize selL (usedP d.1) 20 = zs at *
  by_cases hf : r = 0
  rotate_left
  · rw [if_neg hf]
    have hb : (r != 0) = true := by simpa using hf
    clear hf
    go_enter Try.func26, Try.ntmps26
    go_wp2_with fail
    refine HF.out.mono ?_
    rintro e w1 ⟨rfl, hb1⟩
    have HB1 : Hid (Below w.heap.size w w1) := HB0.out.trans (hb1.mono HB0.out.size)
    have hrow := HRB.out.later hb1
    have t0 := hrow.cell (i := 0) (by omega)
    have t1 := hrow.cell (i := 1) (by omega)
    have s0 := hrow.frozen 0
    have s1 := hrow.frozen 1
    simp at t0 t1
    clear hb1 hrow
    go_wp2
    exact bodyPost_ret (v := .agg #[.int .i64 r, .slice none 0 0]) (by simp [results, Try.results26, go_sem, t0, t1]) rfl (AnsIR.badB r HB1.out (by omega) _ _)
  · rw [if_pos hf]
    subst hf
    go_enter Try.func26, Try.ntmps26
    go_wp2_with fail
    refine HF.out.mono ?_
    rintro e w1 ⟨rfl, hb1⟩
    have HB1 : Hid (Below w.heap.size w w1) := HB0.out.trans (hb1.mono HB0.out.size)
    have HRW : Hid (OwnRow w1 (w.heap.size + 1) 2 _) := HRB.out.later hb1
    have x0 := (HX.out.later hb1) 0 _ rfl
    have hw1 : w.heap.size + 2 ≤ w1.heap.size := by have := hb1.size; omega
    clear hb1
    go_wp2_with fail
    refine (HU.out _ HB1.out).mono ?_
    rintro e w2 ⟨av, cv, rfl, hb2, hwd⟩
    have HB2 : Hid (Below w.heap.size w w2) := HB1.out.trans (hb2.mono HB1.out.size)
    have hrow := HRW.out.later hb2
    have t0 := hrow.cell (i := 0) (by omega)
    have t1 := hrow.cell (i := 1) (by omega)
    have s0 := hrow.frozen 0
    have s1 := hrow.frozen 1
    simp at t0 t1
    have HI : Hid (IntsO w2 (.slice av zs.length cv) zs (fun b => w.heap.size + 1 < b ∧ b < w2.heap.size)) := (hwd.own' (w0 := w1) (Nat.le_refl _)).mono fun b hb => ⟨by have := hb.1; omega, hb.2⟩
    clear hb2 hwd hrow x0
    go_wp2
    exact bodyPost_ret (v := .agg #[.int .i64 0, .slice av zs.length cv]) (by simp [results, Try.results26, go_sem, t0, t1]) rfl (AnsIR.putB HB2.out (by omega) HI.out _ _)

set_option maxHeartbeats 3200000 in
theorem implBusyU (w : World) (a1 : Option Addr) (n1 c1 : Nat) (a2 : Option Addr) (n2 c2 : Nat) (d : FD) (h : FsR w (.slice a1 n1 c1) (.slice a2 n2 c2) d) (hs : sizeFs d ≤ 1048576) :
    Calls Try.prog 27 #[.agg #[.slice a1 n1 c1, .slice a2 n2 c2]] w (AnsIR w (busyR d)) := by
  have hsi : sizeInos d.1 ≤ 1048576 := by unfold sizeFs at hs; omega
  have HF : Hid (∀ W, Below w.heap.size w W → Calls Try.prog 36 #[.agg #[.slice a1 n1 c1, .slice a2 n2 c2]] W fun e w' => e = .returned (.int .i64 (fsF d)) ∧ Below W.heap.size W w') := fun W hW => implFsU W _ _ _ _ _ _ d (h.later hW) hs
  have HU : Hid (∀ W, Below w.heap.size w W → Calls Try.prog 54 #[.slice a1 n1 c1] W (AnsIR W (usedR d.1))) := fun W hW => implUsedU W _ _ _ d.1 (h.1.later hW) hsi
  have HUR : Hid (fsF d = 0 → usedR d.1 = (0, selL (usedP d.1) 20)) := fun hf => by
    obtain ⟨h1, _, _, h4, _⟩ := fsE_zero (fsF_zero hf)
    unfold usedR
    rw [if_pos h1, if_pos h4]
  have HR : Hid (busyR d = if fsF d = 0 then (0, selL (usedP d.1) 20) else (fsF d, [])) := rfl
  rw [HR.out]
  have hrow0 : OwnRow ((w.alloc (.cells #[.slice a1 n1 c1, .slice a2 n2 c2] 32)).alloc (.cells #[.int .i64 0, .slice none 0 0] 50)) (w.heap.size + 1) 2 (fun i => if i = 0 then .int .i64 0 else .slice none 0 0) := by
    have := box2 (w.alloc (.cells #[.slice a1 n1 c1, .slice a2 n2 c2] 32)) 50
    rw [World.size_alloc] at this
    exact this
  have HB0 : Hid (Below w.heap.size w ((w.alloc (.cells #[.slice a1 n1 c1, .slice a2 n2 c2] 32)).alloc (.cells #[.int .i64 0, .slice none 0 0] 50))) := later2 _ _ _
  have HRB : Hid (OwnRow _ (w.heap.size + 1) 2 _) := hrow0
  have HX : Hid (Bx ((w.alloc (.cells #[.slice a1 n1 c1, .slice a2 n2 c2] 32)).alloc (.cells #[.int .i64 0, .slice none 0 0] 50)) w.heap.size [.slice a1 n1 c1, .slice a2 n2 c2]) := (Bx.new w [.slice a1 n1 c1, .slice a2 n2 c2] _).later (later1 _ _)
  have x0 := HX.out 0 _ rfl
  have x1 := HX.out 1 _ rfl
  clear hrow0
  by_cases hf : fsF d = 0
  · rw [if_pos hf]
    rw [HUR.out hf] at HU
    rw [hf] at HF
    clear HUR HR h hs hsi hf
    generalize selL (usedP d.1) 20 = zs at *
    go_enter Try.func27, Try.ntmps27
    go_wp2_with fail
    refine (HF.out _ HB0.out).mono ?_
    rintro e w1 ⟨rfl, hb1⟩
    have HB1 : Hid (Below w.heap.size w w1) := HB0.out.trans (hb1.mono HB0.out.size)
    have HRW : Hid (OwnRow w1 (w.heap.size + 1) 2 _) := HRB.out.later hb1
    replace x0 := (HX.out.later hb1) 0 _ rfl
    have hw1 : w.heap.size + 2 ≤ w1.heap.size := by have := hb1.size; simp at this; omega
    clear hb1 x1
    go_wp2_with fail
    refine (HU.out _ HB1.out).mono ?_
    rintro e w2 ⟨av, nv, cv, rfl, hb2, ho⟩
    have HB2 : Hid (Below w.heap.size w w2) := HB1.out.trans (hb2.mono HB1.out.size)
    have hrow := HRW.out.later hb2
    have t0 := hrow.cell (i := 0) (by omega)
    have t1 := hrow.cell (i := 1) (by omega)
    have s0 := hrow.frozen 0
    have s1 := hrow.frozen 1
    simp at t0 t1
    have HI : Hid (IntsO w2 (.slice av nv cv) zs (fun b => w.heap.size + 1 < b ∧ b < w2.heap.size)) := ho.mono fun b hb => ⟨by have := hb.1; omega, hb.2⟩
    clear hb2 ho hrow x0
    go_wp2
    exact bodyPost_ret (v := .agg #[.int .i64 0, .slice av nv cv]) (by simp [results, Try.results27, go_sem, t0, t1]) rfl (AnsIR.putB HB2.out (by omega) HI.out _ _)
  · rw [if_neg hf]
    have hb : (fsF d != 0) = true := by simpa using hf
    clear HUR HR h hs hsi hf HU
    generalize fsF d = r at *
    go_enter Try.func27, Try.ntmps27
    go_wp2_with fail
    refine (HF.out _ HB0.out).mono ?_
    rintro e w1 ⟨rfl, hb1⟩
    have HB1 : Hid (Below w.heap.size w w1) := HB0.out.trans (hb1.mono HB0.out.size)
    have hrow := HRB.out.later hb1
    have t0 := hrow.cell (i := 0) (by omega)
    have t1 := hrow.cell (i := 1) (by omega)
    have s0 := hrow.frozen 0
    have s1 := hrow.frozen 1
    simp at t0 t1
    clear hb1 hrow x0 x1
    go_wp2
    exact bodyPost_ret (v := .agg #[.int .i64 r, .slice none 0 0]) (by simp [results, Try.results27, go_sem, t0, t1]) rfl (AnsIR.badB r HB1.out (by omega) _ _)
end Go.Proofs.Ytlacppjlclfpmaa

namespace Go.Proofs.Ytlacppjlclfpmaa
open Go.RowKit
set_option maxRecDepth 100000

def spanPs (ps : List (Int × List Int)) : Nat := ps.length + (wlens ps).sum
def mkPs (k : Int) (ps : List (Int × List Int)) : List (Int × List Int) := marksP k (wlens ps)
theorem eqPutsResultU (w : World) (c : Int) (va vb : Value) (zs : List (Int × List Int)) (h1 : Puts w va zs) (h2 : Puts w vb zs) :
    Calls Try.prog 20 #[.agg #[.int .i64 c, va], .agg #[.int .i64 c, vb]] w fun e w' => e = .returned (.bool true) ∧ Below w.heap.size w w' := by
  have H1 : Hid (Puts w va zs) := h1
  have H2 : Hid (Puts w vb zs) := h2
  clear h1 h2
  go_enter Try.func20, Try.ntmps20
  go_wp2_with fail
  refine (eqPuts_any (H1.out.later (later2 _ _ _)) (H2.out.later (later2 _ _ _))).mono ?_
  rw [beq_self_eq_true]
  rintro e w' ⟨rfl, hb⟩
  have HB : Hid (Below w.heap.size w w') := (later2 _ _ _).trans (hb.mono (by simp; omega))
  clear hb
  go_wp2
  go_ret
  exact ⟨rfl, HB.out⟩
theorem markPutsResultU (w : World) (c : Int) (v : Value) (zs : List (Int × List Int)) (F : Nat → Prop) (k : Int) (h : PutsO w v zs F) (hk0 : 0 ≤ k) (hk : k + (spanPs zs : Nat) ≤ 4611686018427387904) :
    Calls Try.prog 22 #[.agg #[.int .i64 c, v], .int .i64 k] w fun e w' => e = .returned (.int .i64 (k + (spanPs zs : Nat))) ∧ PutsO w' v (mkPs k zs) F ∧ Chg F w w' := by
  have H : Hid (PutsO w v zs F) := h
  clear h
  have HS : Hid (k + (zs.length : Int) + ((wlens zs).sum : Nat) = k + (spanPs zs : Nat)) := by unfold Hid spanPs; omega
  have hk' : k + (zs.length : Int) + ((wlens zs).sum : Nat) ≤ 4611686018427387904 := by rw [HS.out]; exact hk
  go_enter Try.func22, Try.ntmps22
  go_wp2_with fail
  refine (markPuts_any k (H.out.keep fun b _ hlt => (later1 _ _).block b hlt) hk0 hk').mono ?_
  rw [HS.out]
  rintro e w1 ⟨rfl, hm, hc⟩
  have HM : Hid (PutsO w1 v (mkPs k zs) F) := hm
  have HC : Hid (Chg F w w1) := (Chg.of_below (later1 _ _)).trans hc
  clear hm hc hk'
  go_wp2
  go_ret
  exact ⟨rfl, HM.out, HC.out⟩
theorem heldPutsResultU (w : World) (c : Int) (v : Value) (zs : List (Int × List Int)) (F : Nat → Prop) (k : Int) (h : PutsO w v (mkPs k zs) F) (hk0 : 0 ≤ k) (hk : k + (spanPs zs : Nat) ≤ 4611686018427387904) :
    Calls Try.prog 23 #[.agg #[.int .i64 c, v], .int .i64 k] w fun e w' => e = .returned (.int .i64 (k + (spanPs zs : Nat))) ∧ Below w.heap.size w w' := by
  have H : Hid (Puts w v (marksP k (wlens zs))) := h.puts
  clear h
  have HL : (wlens zs).length = zs.length := by simp [wlens]
  have HS : Hid (k + ((wlens zs).length : Int) + ((wlens zs).sum : Nat) = k + (spanPs zs : Nat)) := by unfold Hid spanPs; omega
  have hk' : k + ((wlens zs).length : Int) + ((wlens zs).sum : Nat) ≤ 4611686018427387904 := by rw [HS.out]; exact hk
  have l2 : ¬ (k + (spanPs zs : Nat) < 0) := by omega
  clear HL
  go_enter Try.func23, Try.ntmps23
  go_wp2_with fail
  refine (heldPuts_any k (wlens zs) (H.out.later (later1 _ _)) hk0 hk').mono ?_
  rw [HS.out]
  rintro e w1 ⟨rfl, rfl⟩
  clear hk'
  go_wp2
  go_ret
  exact ⟨rfl, later1 _ _⟩
end Go.Proofs.Ytlacppjlclfpmaa
