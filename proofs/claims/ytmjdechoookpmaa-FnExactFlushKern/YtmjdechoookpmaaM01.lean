/- Lists that a loop makes one behind the other, each in memory of its own. No program is named here. The walks of the copying functions. What 'append' comes to, as laws for the walk, and the specification's copying of a list. The specification's cutting of a text at each slash. The specification's l3Names and l3Split. The specification's l3Split. The specification's l3Split, whole. The last name of a path: the specification's side. Joining names to a path: the specification's side. The specification's draws: a chance, a name, a pick. The specification's draws: a path. Lists of texts: marking, holding, comparing. -/
import Derived.Test.YtmjdechoookpmaaM00
import Derived.Test.YtmjdechoookpmaaRows
import Derived.OwnWalk
import Derived.Deep.RegionLaw
import Derived.Deep.RegionHeld3
namespace Go.Proofs.Ytmjdechoookpmaa
open Go.RowKit
set_option maxRecDepth 100000

/-- What came between w and w'. -/
def fresh (w w' : World) (b : Nat) : Prop := w.heap.size ≤ b ∧ b < w'.heap.size

/-- The first j lists stand, list i in the blocks from s i up to s (i + 1), none below lo. -/
structure Built (w : World) (lo j : Nat) (u : Nat → Value) (f : Nat → List Int) (s : Nat → Nat) : Prop where
  lo : lo ≤ s 0
  mono : ∀ i, i < j → s i ≤ s (i + 1)
  hi : s j ≤ w.heap.size
  at' : ∀ i, i < j → IntsO w (u i) (f i) (fun b => s i ≤ b ∧ b < s (i + 1))

theorem Built.nil {w : World} {lo : Nat} (u : Nat → Value) (f : Nat → List Int) (h : lo ≤ w.heap.size) : Built w lo 0 u f (fun _ => w.heap.size) :=
  ⟨h, fun i hi => by omega, Nat.le_refl _, fun i hi => by omega⟩
theorem Built.le {w : World} {lo j : Nat} {u : Nat → Value} {f : Nat → List Int} {s : Nat → Nat} (h : Built w lo j u f s) : ∀ i k, i ≤ k → k ≤ j → s i ≤ s k := by
  intro i k hik
  induction k with
  | zero => intro _; have : i = 0 := by omega
            subst this; exact Nat.le_refl _
  | succ k ih =>
    intro hk
    by_cases e : i = k + 1
    · subst e; exact Nat.le_refl _
    · exact Nat.le_trans (ih (by omega) (by omega)) (h.mono k (by omega))
theorem Built.low {w : World} {lo j : Nat} {u : Nat → Value} {f : Nat → List Int} {s : Nat → Nat} (h : Built w lo j u f s) (i : Nat) (hi : i ≤ j) : lo ≤ s i := Nat.le_trans h.lo (h.le 0 i (Nat.zero_le _) hi)
theorem Built.keep {w w' : World} {lo j : Nat} {u : Nat → Value} {f : Nat → List Int} {s : Nat → Nat} (h : Built w lo j u f s) (hs : w.heap.size ≤ w'.heap.size) (e : ∀ b, lo ≤ b → b < w.heap.size → w'.heap[b]? = w.heap[b]?) : Built w' lo j u f s :=
  ⟨h.lo, h.mono, Nat.le_trans h.hi hs, fun i hi => (h.at' i hi).keep fun b hb hlt => e b (Nat.le_trans (h.low i (by omega)) hb.1) hlt⟩
theorem Built.later {w w' : World} {lo j : Nat} {u : Nat → Value} {f : Nat → List Int} {s : Nat → Nat} (h : Built w lo j u f s) (hb : Below w.heap.size w w') : Built w' lo j u f s := h.keep hb.size fun b _ hlt => hb.block b hlt
theorem Built.store {w : World} {lo j : Nat} {u : Nat → Value} {f : Nat → List Int} {s : Nat → Nat} (h : Built w lo j u f s) {p : Addr} (hp : p.block < lo) (v : Value) : Built (w.setCell p v) lo j u f s :=
  h.keep (by simp [World.setCell]) fun b hb _ => Below.heap_setCell _ _ _ _ (by omega)
theorem Built.next {w w' : World} {lo j : Nat} {u : Nat → Value} {f : Nat → List Int} {s : Nat → Nat} {v : Value} (h : Built w lo j u f s) (hb : Below w.heap.size w w') (hv : IntsO w' v (f j) (fresh w w')) :
    Built w' lo (j + 1) (fun i => if i = j then v else u i) f (fun i => if i ≤ j then s i else w'.heap.size) := by
  have h' := h.later hb
  have en : ∀ i : Nat, ¬ i + 1 ≤ i := fun i => by omega
  refine ⟨by simpa using h.lo, fun i hi => ?_, by simp [en], fun i hi => ?_⟩
  · by_cases e : i = j
    · subst e; simp [en]; exact h'.hi
    · simp [show i ≤ j by omega, show i + 1 ≤ j by omega]; exact h.mono i (by omega)
  · by_cases e : i = j
    · subst e
      simp [en]
      exact hv.mono fun b hb => ⟨Nat.le_trans h.hi hb.1, hb.2⟩
    · simp [e, show i ≤ j by omega, show i + 1 ≤ j by omega]
      exact h'.at' i (by omega)
theorem Built.apart {w : World} {lo n : Nat} {u : Nat → Value} {f : Nat → List Int} {s : Nat → Nat} (h : Built w lo n u f s) (i j c : Nat) (e : i ≠ j) (h1 : i < n ∧ s i ≤ c ∧ c < s (i + 1)) (h2 : j < n ∧ s j ≤ c ∧ c < s (j + 1)) : False := by
  rcases Nat.lt_or_gt_of_ne e with h3 | h3
  · have := h.le (i + 1) j (by omega) (by omega); omega
  · have := h.le (j + 1) i (by omega) (by omega); omega
theorem Built.ints {w : World} {lo n b cap : Nat} {u : Nat → Value} {f : Nat → List Int} {s : Nat → Nat} (h : Built w lo n u f s) (zss : List (List Int)) (hn : zss.length = n) (hf : ∀ i, i < n → f i = zss[i]?.getD []) (hm : n ≤ maxLen) (hb : b < lo) (hr : OwnRow w b n u) (F : Nat → Prop) (hF : F b) (hF' : ∀ c, lo ≤ c → c < w.heap.size → F c) :
    IntsSO w (.slice (some ⟨b, 0, none⟩) n cap) zss F := by
  subst hn
  refine Or.inr ⟨b, cap, u, fun i c => i < zss.length ∧ s i ≤ c ∧ c < s (i + 1), hF, fun i c hc => ?_, fun i j c e h1 h2 => h.apart i j c e h1 h2, rfl, hm, hr, fun i hi => ?_⟩
  · have h1 := h.low i (by omega)
    have h2 := h.le (i + 1) zss.length (by omega) (Nat.le_refl _)
    have h3 := h.hi
    exact ⟨hF' c (by omega) (by omega), by omega⟩
  · rw [← hf i hi]
    exact (h.at' i hi).mono fun c hc => ⟨hi, hc⟩
theorem Built.puts {w : World} {lo n b cap : Nat} {u : Nat → Value} {f : Nat → List Int} {s : Nat → Nat} (h : Built w lo n u f s) (ps : List (Int × List Int)) (hn : ps.length = n) (hf : ∀ i, i < n → f i = (ps[i]?.getD (0, [])).2) (hm : n ≤ maxLen) (hb : b < lo) (hr : OwnRow w b (n * 2) (putCell ps u)) (F : Nat → Prop) (hF : F b) (hF' : ∀ c, lo ≤ c → c < w.heap.size → F c) :
    PutsO w (.slice (some ⟨b, 0, none⟩) n cap) ps F := by
  subst hn
  refine Or.inr ⟨b, cap, u, fun i c => i < ps.length ∧ s i ≤ c ∧ c < s (i + 1), hF, fun i c hc => ?_, fun i j c e h1 h2 => h.apart i j c e h1 h2, rfl, hm, hr, fun i hi => ?_⟩
  · have h1 := h.low i (by omega)
    have h2 := h.le (i + 1) ps.length (by omega) (Nat.le_refl _)
    have h3 := h.hi
    exact ⟨hF' c (by omega) (by omega), by omega⟩
  · rw [← hf i hi]
    exact (h.at' i hi).mono fun c hc => ⟨hi, hc⟩

theorem OwnRow.made (w : World) (z : Value) (n : Nat) (t : TypeId) : OwnRow (w.alloc (.cells (madeCells #[z] n) t)) w.heap.size n (fun _ => z) := by
  obtain ⟨c, h1, h2, h3⟩ := World.rowIs_made w z n t
  exact ⟨c, t, h1, by omega, h3⟩
theorem bcell {W w1 : World} (hb : Below W.heap.size W w1) : (∀ b o, b < W.heap.size → w1.cell? ⟨b, o, none⟩ = W.cell? ⟨b, o, none⟩) ∧ (∀ b o, b < W.heap.size → w1.frozen? ⟨b, o, none⟩ = W.frozen? ⟨b, o, none⟩) :=
  ⟨fun b o h => hb.cell (p := ⟨b, o, none⟩) h, fun b o h => hb.frozen (p := ⟨b, o, none⟩) h⟩
theorem later3 (w : World) (o o' o'' : Obj) : Below w.heap.size w (((w.alloc o).alloc o').alloc o'') := (later2 w o o').alloc (by simp; omega) _

/-- 'make' of n pairs. -/
theorem run_make_pair {P : Program} (t e : TypeId) (x y : Value) (bytes : Nat) (ht : P.underlying t = some (.slice e)) (hinfo : (P.info? e).map (fun i => (i.zero, i.size, i.bytes)) = some (some (.agg #[x, y]), 2, bytes)) (hz : (Value.agg #[x, y]).cells = #[x, y])
    (kl kc : IntKind) (n : Nat) (hbytes : bytes * n ≤ 281474976710656) (h63 : n ≤ 9223372036854775807) (w : World) :
    (Instr.makeSlice t (.int kl (n : Int)) (.int kc (n : Int))).run P w = .ok (.slice (some ⟨w.heap.size, 0, none⟩) n n) (w.alloc (.cells (madeCells #[x, y] (n * 2)) e)) := by
  obtain ⟨i, hi, hzz⟩ := Option.map_eq_some_iff.1 hinfo
  simp only [Prod.mk.injEq] at hzz
  obtain ⟨h1, h2, h3⟩ := hzz
  have hb' : (i.bytes : Int) * (n : Int) ≤ 281474976710656 := by
    have h : ((i.bytes * n : Nat) : Int) ≤ 281474976710656 := by rw [h3]; omega
    rwa [Int.natCast_mul] at h
  have hr := run_make (P := P) w t e i _ ht hi h1 kl kc n n (by omega) (Int.le_refl _) hb' (by omega)
  simp only [Int.toNat_natCast, h2, hz] at hr
  exact hr
def pairCell (x y : Value) (j : Nat) : Value := if j % 2 = 0 then x else y
theorem OwnRow.madePair (w : World) (x y : Value) (n : Nat) (t : TypeId) : OwnRow (w.alloc (.cells (madeCells #[x, y] (n * 2)) t)) w.heap.size (n * 2) (pairCell x y) := by
  refine ⟨_, t, Go.Deep.blk_alloc_new _ _, by rw [size_madeCells]; exact Nat.le_refl _, fun i hi => ?_⟩
  unfold madeCells pairCell
  rw [Array.getElem?_map]
  have h1 : (Array.range (n * 2))[i]? = some i := by simp [hi]
  rw [h1]
  rcases Nat.mod_two_eq_zero_or_one i with h | h
  · simp [h]
  · simp [h]

theorem OwnRow.two (w : World) (x y : Value) (t : TypeId) : OwnRow (w.alloc (.cells #[x, y] t)) w.heap.size 2 (fun i => if i = 0 then x else y) := by
  refine ⟨_, t, Go.Deep.blk_alloc_new _ _, by simp, fun i hi => ?_⟩
  have : i = 0 ∨ i = 1 := by omega
  rcases this with rfl | rfl <;> simp
theorem OwnRow.later {w w' : World} {b n : Nat} {f : Nat → Value} (h : OwnRow w b n f) (hb : Below w.heap.size w w') : OwnRow w' b n f := h.block (hb.block b h.lt)

/-- Nothing but new memory has come, and in it an answer. -/
structure DiskNew (w : World) (bs : List (List Int)) (ps : List (Int × List Int)) (vB vC : Value) (w' : World) : Prop where
  below : Below w.heap.size w w'
  disk : DiskO w' vB vC bs ps (fun b => w.heap.size ≤ b ∧ b < w'.heap.size)

/-- An answer that is a disk: its code, its blocks and its cache, in new memory of its own. -/
def AnsDisk (w : World) (code : Int) (bs : List (List Int)) (ps : List (Int × List Int)) (e : Ending) (w' : World) : Prop :=
  ∃ aB nB cB aC nC cC, e = .returned (.agg #[.int .i64 code, .slice aB nB cB, .slice aC nC cC]) ∧ DiskNew w bs ps (.slice aB nB cB) (.slice aC nC cC) w'

theorem ans_bad {w w' : World} (hb : Below w.heap.size w w') (code : Int) : AnsDisk w code [] [] (.returned (.agg #[.int .i64 code, .slice none 0 0, .slice none 0 0])) w' :=
  ⟨none, 0, 0, none, 0, 0, rfl, hb, fun _ => False, fun _ => False, Or.inl ⟨rfl, none, 0, rfl⟩, Or.inl ⟨rfl, none, 0, rfl⟩, fun _ h => h.elim, fun _ h => h.elim False.elim False.elim⟩

end Go.Proofs.Ytmjdechoookpmaa

namespace Go.Proofs.Ytmjdechoookpmaa
open Go.RowKit
set_option maxRecDepth 100000

theorem Try.infoInt : (Try.prog.info? 2).map (fun i => (i.zero, i.size, i.bytes)) = some (some (.int .i64 0), 1, 8) := by kernel_rfl
theorem Try.infoInts : (Try.prog.info? 36).map (fun i => (i.zero, i.size, i.bytes)) = some (some (.slice none 0 0), 1, 24) := by kernel_rfl

set_option maxHeartbeats 400000 in
theorem toInts_nil (w : World) (a : Option Addr) (cap n : Nat) (hn : n ≤ 0) :
    Calls Try.prog 19 #[.slice a n cap] w fun e w' => e = .returned (.slice (some ⟨w.heap.size, 0, none⟩) n n) ∧ Below w.heap.size w w' := by
  have hmk := fun w => run_make_row' (P := Try.prog) 36 2 (.int .i64 0) 8 Try.underlying36 Try.infoInt rfl .i64 .i64 n (by omega) (by omega) w
  go_enter Try.func19, Try.ntmps19
  go_wp2
  go_loop [4] (fun i => i = .int .i64 0) (fun _ => 0)
  case atStart => rfl
  case round =>
    obtain rfl := hrel
    go_wp2
    go_ret
    exact ⟨rfl, later1 _ _⟩

set_option maxHeartbeats 400000 in
theorem toInts_walk (w : World) (b off cap n : Nat) (zs : List Int) (hn : n ≤ 1048576) (hc : ∀ k, k < n → w.cell? ⟨b, off + k, none⟩ = some (.int .i64 (zs[k]?.getD 0))) :
    Calls Try.prog 19 #[.slice (some ⟨b, off, none⟩) n cap] w fun e w' => e = .returned (.slice (some ⟨w.heap.size, 0, none⟩) n n) ∧ Below w.heap.size w w' ∧ OwnRow w' w.heap.size n (fun i => .int .i64 (zs[i]?.getD 0)) := by
  have hmk := fun w => run_make_row' (P := Try.prog) 36 2 (.int .i64 0) 8 Try.underlying36 Try.infoInt rfl .i64 .i64 n (by omega) (by omega) w
  go_enter Try.func19, Try.ntmps19
  go_wp2
  go_loopw [4] (fun i wr => ∃ j : Nat, j ≤ n ∧ i = .int .i64 j ∧ Below w.heap.size w wr ∧ OwnRow wr w.heap.size n (fun i => if i < j then .int .i64 (zs[i]?.getD 0) else .int .i64 0)) (fun i _ => n - (intOf i).toNat)
  case atStart => exact ⟨0, Nat.zero_le _, rfl, later1 _ _, (OwnRow.made w (.int .i64 0) n 2).congr fun i _ => by simp⟩
  case round =>
    obtain ⟨j, hj, rfl, hbl, hrow⟩ := hrel
    by_cases hlt : j < n
    · have c1 := cell_later hbl (hc j hlt)
      have d1 := hrow.cell hlt
      have d2 := hrow.frozen j
      simp only [Nat.lt_irrefl, if_false] at d1
      have HBL : Hid (Below w.heap.size w wr) := hbl
      have HROW : Hid (OwnRow wr w.heap.size n (fun i => if i < j then .int .i64 (zs[i]?.getD 0) else .int .i64 0)) := hrow
      clear hbl hrow hc
      go_wp2
      go_roundw
      case rel =>
        refine ⟨j + 1, by omega, by go_num, HBL.out.setCell (Nat.le_refl _) _, (HROW.out.set j _).congr fun i hi => ?_⟩
        by_cases e : i = j
        · subst e; simp
        · by_cases e2 : i < j
          · simp [e, e2, show i < j + 1 by omega]
          · simp [e, e2, show ¬ i < j + 1 by omega]
      case measure => simp [intOf]; omega
    · go_wp2
      go_ret
      have e : j = n := by omega
      subst e
      exact ⟨rfl, hbl, hrow.congr fun i hi => by simp [hi]⟩

theorem toInts_any {w : World} {v : Value} {zs : List Int} (h : Ints w v zs) (hn : zs.length ≤ 1048576) :
    Calls Try.prog 19 #[v] w fun e w' => e = .returned (.slice (some ⟨w.heap.size, 0, none⟩) zs.length zs.length) ∧ Below w.heap.size w w' ∧ IntsO w' (.slice (some ⟨w.heap.size, 0, none⟩) zs.length zs.length) zs (fresh w w') := by
  rcases h with ⟨rfl, a, cap, rfl⟩ | ⟨b, off, cap, rfl, hl, hc⟩
  · exact (toInts_nil w a cap 0 (Nat.le_refl _)).mono fun e w' ⟨he, hb⟩ => ⟨he, hb, Or.inl ⟨rfl, _, _, rfl⟩⟩
  · exact (toInts_walk w b off cap zs.length zs hn hc).mono fun e w' ⟨he, hb, hr⟩ => ⟨he, hb, Or.inr ⟨w.heap.size, _, ⟨Nat.le_refl _, hr.lt⟩, rfl, hl, hr⟩⟩

set_option maxHeartbeats 400000 in
theorem toIntsS_nil (w : World) (a : Option Addr) (cap n : Nat) (hn : n ≤ 0) :
    Calls Try.prog 84 #[.slice a n cap] w fun e w' => e = .returned (.slice (some ⟨w.heap.size, 0, none⟩) n n) ∧ Below w.heap.size w w' := by
  have hmk := fun w => run_make_row' (P := Try.prog) 24 36 (.slice none 0 0) 24 Try.underlying24 Try.infoInts rfl .i64 .i64 n (by omega) (by omega) w
  go_enter Try.func84, Try.ntmps84
  go_wp2
  go_loop [4] (fun i => i = .int .i64 0) (fun _ => 0)
  case atStart => rfl
  case round =>
    obtain rfl := hrel
    go_wp2
    go_ret
    exact ⟨rfl, later1 _ _⟩

set_option maxHeartbeats 400000 in
theorem toIntsS_walk (w : World) (b off cap n : Nat) (zss : List (List Int)) (u : Nat → Value) (hn : n ≤ 1048576) (hz : ∀ k, k < n → (zss[k]?.getD []).length ≤ 1048576)
    (hc : ∀ k, k < n → w.cell? ⟨b, off + k, none⟩ = some (u k) ∧ Ints w (u k) (zss[k]?.getD [])) :
    Calls Try.prog 84 #[.slice (some ⟨b, off, none⟩) n cap] w fun e w' => e = .returned (.slice (some ⟨w.heap.size, 0, none⟩) n n) ∧ Below w.heap.size w w' ∧
      ∃ u' s, OwnRow w' w.heap.size n u' ∧ Built w' (w.heap.size + 1) n u' (fun i => zss[i]?.getD []) s := by
  have hmk := fun w => run_make_row' (P := Try.prog) 24 36 (.slice none 0 0) 24 Try.underlying24 Try.infoInts rfl .i64 .i64 n (by omega) (by omega) w
  have HZ : Hid (∀ k, k < n → (zss[k]?.getD []).length ≤ 1048576) := hz
  have HCC : Hid (∀ k, k < n → w.cell? ⟨b, off + k, none⟩ = some (u k) ∧ Ints w (u k) (zss[k]?.getD [])) := hc
  clear hz hc
  go_enter Try.func84, Try.ntmps84
  go_wp2
  clear hmk
  go_loopw [4] (fun i wr => ∃ j : Nat, j ≤ n ∧ i = .int .i64 j ∧ Below w.heap.size w wr ∧ ∃ u' s, OwnRow wr w.heap.size n (fun i => if i < j then u' i else .slice none 0 0) ∧ Built wr (w.heap.size + 1) j u' (fun i => zss[i]?.getD []) s) (fun i _ => n - (intOf i).toNat)
  case atStart => exact ⟨0, Nat.zero_le _, rfl, later1 _ _, fun _ => .slice none 0 0, _, (OwnRow.made w (.slice none 0 0) n 36).congr fun i _ => by simp, Built.nil _ _ (by simp)⟩
  case round =>
    obtain ⟨j, hj, rfl, hbl, u', s, hrow, hbt⟩ := hrel
    by_cases hlt : j < n
    · obtain ⟨c0, i0⟩ := HCC.out j hlt
      have c1 := cell_later hbl c0
      have HI : Hid (Ints wr (u j) (zss[j]?.getD [])) := i0.later hbl
      have HBL : Hid (Below w.heap.size w wr) := hbl
      have HROW : Hid (OwnRow wr w.heap.size n (fun i => if i < j then u' i else .slice none 0 0)) := hrow
      have HBT : Hid (Built wr (w.heap.size + 1) j u' (fun i => zss[i]?.getD []) s) := hbt
      clear c0 i0 hbl hrow hbt
      go_wp2_with fail
      refine (toInts_any HI.out (HZ.out j hlt)).mono ?_
      rintro e w1 ⟨rfl, hb1, ho1⟩
      have HB1 : Hid (Below wr.heap.size wr w1) := hb1
      have HO1 : Hid (IntsO w1 (.slice (some ⟨wr.heap.size, 0, none⟩) (zss[j]?.getD []).length (zss[j]?.getD []).length) (zss[j]?.getD []) (fresh wr w1)) := ho1
      have HROW1 : Hid (OwnRow w1 w.heap.size n (fun i => if i < j then u' i else .slice none 0 0)) := HROW.out.block (hb1.block _ HROW.out.lt)
      have d1 := HROW1.out.cell hlt
      have d2 := HROW1.out.frozen j
      simp only [Nat.lt_irrefl, if_false] at d1
      clear hb1 ho1
      go_wp2
      go_roundw
      case rel =>
        refine ⟨j + 1, by omega, by go_num, (HBL.out.trans (HB1.out.mono HBL.out.size)).setCell (Nat.le_refl _) _, _, _, (HROW1.out.set j _).congr fun i hi => ?_, (HBT.out.next HB1.out HO1.out).store (by simp) _⟩
        by_cases e : i = j
        · subst e; simp
        · by_cases e2 : i < j
          · simp [e, e2, show i < j + 1 by omega]
          · simp [e, e2, show ¬ i < j + 1 by omega]
      case measure => simp [intOf]; omega
    · go_wp2
      go_ret
      have e : j = n := by omega
      subst e
      exact ⟨rfl, hbl, u', s, hrow.congr fun i hi => by simp [hi], hbt⟩

theorem len_le_sum (zss : List (List Int)) : ∀ k : Nat, (zss[k]?.getD []).length ≤ (zss.map List.length).sum := by
  intro k
  by_cases h : k < zss.length
  · have h1 := upto_succ (zss.map List.length) k (by simpa using h)
    rw [lens_get] at h1
    have h2 := upto_le (zss.map List.length) (k + 1)
    omega
  · rw [List.getElem?_eq_none (by omega)]; simp
theorem wlen_le_sum (ps : List (Int × List Int)) : ∀ k : Nat, (ps[k]?.getD (0, [])).2.length ≤ (wlens ps).sum := by
  intro k
  by_cases h : k < ps.length
  · have h1 := upto_succ (wlens ps) k (by rw [wlens_length]; exact h)
    rw [wlens_get] at h1
    have h2 := upto_le (wlens ps) (k + 1)
    omega
  · rw [List.getElem?_eq_none (by omega)]; simp

theorem toIntsS_any {w : World} {v : Value} {zss : List (List Int)} (h : IntsS w v zss) (hn : zss.length + (zss.map List.length).sum ≤ 1048576) :
    Calls Try.prog 84 #[v] w fun e w' => e = .returned (.slice (some ⟨w.heap.size, 0, none⟩) zss.length zss.length) ∧ Below w.heap.size w w' ∧ IntsSO w' (.slice (some ⟨w.heap.size, 0, none⟩) zss.length zss.length) zss (fresh w w') := by
  rcases h with ⟨rfl, a, cap, rfl⟩ | ⟨b, off, cap, u, rfl, hl, hc⟩
  · exact (toIntsS_nil w a cap 0 (Nat.le_refl _)).mono fun e w' ⟨he, hb⟩ => ⟨he, hb, Or.inl ⟨rfl, _, _, rfl⟩⟩
  · refine (toIntsS_walk w b off cap zss.length zss u (by omega) (fun k _ => by have := len_le_sum zss k; omega) hc).mono fun e w' ⟨he, hb, u', s, hr, hbt⟩ => ⟨he, hb, ?_⟩
    exact hbt.ints zss rfl (fun _ _ => rfl) hl (Nat.lt_succ_self _) hr _ ⟨Nat.le_refl _, hr.lt⟩ (fun c h1 h2 => ⟨by omega, h2⟩)

theorem Try.infoPut : (Try.prog.info? 38).map (fun i => (i.zero, i.size, i.bytes)) = some (some (.agg #[.int .i64 0, .slice none 0 0]), 2, 32) := by kernel_rfl

set_option maxHeartbeats 400000 in
theorem toPut_any (w : World) (v : Value) (a : Int) (zs : List Int) (h : Ints w v zs) (hn : zs.length ≤ 1048576) :
    Calls Try.prog 103 #[.agg #[.int .i64 a, v]] w fun e w' => ∃ b, e = .returned (.agg #[.int .i64 a, .slice (some ⟨b, 0, none⟩) zs.length zs.length]) ∧ Below w.heap.size w w' ∧ IntsO w' (.slice (some ⟨b, 0, none⟩) zs.length zs.length) zs (fresh w w') := by
  have HI : Hid (Ints w v zs) := h
  clear h
  go_enter Try.func103, Try.ntmps103
  go_wp2_with fail
  refine (toInts_any (HI.out.later (later3 _ _ _ _)) hn).mono ?_
  rintro e w1 ⟨rfl, hb1, ho1⟩
  have HB1 : Hid (Below _ _ w1) := hb1
  have HO1 : Hid (IntsO w1 _ zs _) := ho1
  obtain ⟨hc, hf⟩ := bcell hb1
  clear hb1 ho1
  go_wp2
  refine bodyPost_ret (v := .agg #[.int .i64 a, .slice (some ⟨w.heap.size + 1 + 1 + 1, 0, none⟩) zs.length zs.length]) (by simp [results, Try.results103, go_sem, hc]) rfl ⟨w.heap.size + 1 + 1 + 1, rfl, ?_, ?_⟩
  · exact ((((later3 _ _ _ _).trans (HB1.out.mono (by simp; omega))).setCell (by simp; omega) _).setCell (by simp) _).setCell (by simp) _
  · have h1 := HO1.out
    simp only [World.size_alloc] at h1
    refine (((h1.store (fun b hb => ?_) _).store (fun b hb => ?_) _).store (fun b hb => ?_) _).mono fun b hb => ?_
    · have := hb.1; simp at this ⊢; omega
    · have := hb.1; simp at this ⊢; omega
    · have := hb.1; simp at this ⊢; omega
    · exact ⟨by have := hb.1; simp at this; omega, by simpa [World.setCell] using hb.2⟩

set_option maxHeartbeats 400000 in
theorem toPuts_nil (w : World) (a : Option Addr) (cap n : Nat) (hn : n ≤ 0) :
    Calls Try.prog 85 #[.slice a n cap] w fun e w' => e = .returned (.slice (some ⟨w.heap.size, 0, none⟩) n n) ∧ Below w.heap.size w w' := by
  have hmk := fun w => run_make_pair (P := Try.prog) 25 38 (.int .i64 0) (.slice none 0 0) 32 Try.underlying25 Try.infoPut rfl .i64 .i64 n (by omega) (by omega) w
  go_enter Try.func85, Try.ntmps85
  go_wp2
  go_loop [4] (fun i => i = .int .i64 0) (fun _ => 0)
  case atStart => rfl
  case round =>
    obtain rfl := hrel
    go_wp2
    go_ret
    exact ⟨rfl, later1 _ _⟩

/-- The cells of a row of puts of which the first j stand. -/
def partCell (ps : List (Int × List Int)) (u : Nat → Value) (j c : Nat) : Value := if c < j * 2 then putCell ps u c else pairCell (.int .i64 0) (.slice none 0 0) c
theorem partCell_next (ps : List (Int × List Int)) (u : Nat → Value) (j c : Nat) (v : Value) : (if c = j * 2 + 1 then v else (if c = j * 2 then .int .i64 (ps[j]?.getD (0, [])).1 else partCell ps u j c)) = partCell ps (fun i => if i = j then v else u i) (j + 1) c := by
  unfold partCell
  by_cases e : c = j * 2 + 1
  · subst e; rw [if_pos rfl, if_pos (by omega), putCell_words]; simp
  · rw [if_neg e]
    by_cases e2 : c = j * 2
    · subst e2; rw [if_pos rfl, if_pos (by omega), putCell_at]
    · rw [if_neg e2]
      by_cases e3 : c < j * 2
      · rw [if_pos e3, if_pos (by omega)]
        unfold putCell
        by_cases e4 : c % 2 = 0
        · rw [if_pos e4, if_pos e4]
        · rw [if_neg e4, if_neg e4]
          show u (c / 2) = if c / 2 = j then v else u (c / 2)
          rw [if_neg (by omega)]
      · rw [if_neg e3, if_neg (by omega)]

set_option maxHeartbeats 800000 in
theorem toPuts_walk (w : World) (b off cap n : Nat) (ps : List (Int × List Int)) (u : Nat → Value) (hn : n ≤ 1048576) (hz : ∀ k, k < n → (ps[k]?.getD (0, [])).2.length ≤ 1048576)
    (hc : ∀ k, k < n → w.cell? ⟨b, off + k * 2, none⟩ = some (.int .i64 (ps[k]?.getD (0, [])).1) ∧ w.cell? ⟨b, off + k * 2 + 1, none⟩ = some (u k) ∧ Ints w (u k) (ps[k]?.getD (0, [])).2) :
    Calls Try.prog 85 #[.slice (some ⟨b, off, none⟩) n cap] w fun e w' => e = .returned (.slice (some ⟨w.heap.size, 0, none⟩) n n) ∧ Below w.heap.size w w' ∧
      ∃ u' s, OwnRow w' w.heap.size (n * 2) (putCell ps u') ∧ Built w' (w.heap.size + 1) n u' (fun i => (ps[i]?.getD (0, [])).2) s := by
  have hmk := fun w => run_make_pair (P := Try.prog) 25 38 (.int .i64 0) (.slice none 0 0) 32 Try.underlying25 Try.infoPut rfl .i64 .i64 n (by omega) (by omega) w
  have HZ : Hid (∀ k, k < n → (ps[k]?.getD (0, [])).2.length ≤ 1048576) := hz
  have HCC : Hid (∀ k, k < n → w.cell? ⟨b, off + k * 2, none⟩ = some (.int .i64 (ps[k]?.getD (0, [])).1) ∧ w.cell? ⟨b, off + k * 2 + 1, none⟩ = some (u k) ∧ Ints w (u k) (ps[k]?.getD (0, [])).2) := hc
  clear hz hc
  go_enter Try.func85, Try.ntmps85
  go_wp2
  clear hmk
  go_loopw [4] (fun i wr => ∃ j : Nat, j ≤ n ∧ i = .int .i64 j ∧ Below w.heap.size w wr ∧ ∃ u' s, OwnRow wr w.heap.size (n * 2) (partCell ps u' j) ∧ Built wr (w.heap.size + 1) j u' (fun i => (ps[i]?.getD (0, [])).2) s) (fun i _ => n - (intOf i).toNat)
  case atStart => exact ⟨0, Nat.zero_le _, rfl, later1 _ _, fun _ => .slice none 0 0, _, (OwnRow.madePair w (.int .i64 0) (.slice none 0 0) n 38).congr fun i _ => by simp [partCell], Built.nil _ _ (by simp)⟩
  case round =>
    obtain ⟨j, hj, rfl, hbl, u', s, hrow, hbt⟩ := hrel
    by_cases hlt : j < n
    · obtain ⟨c0, c0', i0⟩ := HCC.out j hlt
      have c1 := cell_later hbl c0
      have c2 := cell_later hbl c0'
      obtain ⟨ua, ucap, hu, _⟩ := i0.shape
      rw [hu] at c2
      have HI : Hid (Ints wr (.slice ua (ps[j]?.getD (0, [])).2.length ucap) (ps[j]?.getD (0, [])).2) := by rw [← hu]; exact i0.later hbl
      have HBL : Hid (Below w.heap.size w wr) := hbl
      have HROW : Hid (OwnRow wr w.heap.size (n * 2) (partCell ps u' j)) := hrow
      have HBT : Hid (Built wr (w.heap.size + 1) j u' (fun i => (ps[i]?.getD (0, [])).2) s) := hbt
      clear c0 c0' i0 hbl hrow hbt hu
      go_wp2_with fail
      refine (toPut_any _ _ _ _ HI.out (HZ.out j hlt)).mono ?_
      rintro e w1 ⟨nb, rfl, hb1, ho1⟩
      have HB1 : Hid (Below wr.heap.size wr w1) := hb1
      have HO1 : Hid (IntsO w1 (.slice (some ⟨nb, 0, none⟩) (ps[j]?.getD (0, [])).2.length (ps[j]?.getD (0, [])).2.length) (ps[j]?.getD (0, [])).2 (fresh wr w1)) := ho1
      have HROW1 : Hid (OwnRow w1 w.heap.size (n * 2) (partCell ps u' j)) := HROW.out.block (hb1.block _ HROW.out.lt)
      obtain ⟨y1, d1⟩ : ∃ y, w1.cell? ⟨w.heap.size, j * 2, none⟩ = some (.int .i64 y) := ⟨0, by rw [HROW1.out.cell (by omega)]; simp [partCell, pairCell]⟩
      obtain ⟨z1, z2, z3, d2⟩ : ∃ z1 z2 z3, w1.cell? ⟨w.heap.size, j * 2 + 1, none⟩ = some (.slice z1 z2 z3) := ⟨none, 0, 0, by rw [HROW1.out.cell (by omega)]; simp [partCell, pairCell]; omega⟩
      have d3 := HROW1.out.frozen (j * 2)
      have d4 := HROW1.out.frozen (j * 2 + 1)
      clear hb1 ho1
      go_wp2
      go_roundw
      case rel =>
        refine ⟨j + 1, by omega, by go_num, ((HBL.out.trans (HB1.out.mono HBL.out.size)).setCell (Nat.le_refl _) _).setCell (Nat.le_refl _) _, _, _, ((HROW1.out.set (j * 2) _).set (j * 2 + 1) _).congr fun c _ => partCell_next ps u' j c _, ((HBT.out.next HB1.out HO1.out).store (by simp) _).store (by simp) _⟩
      case measure => simp [intOf]; omega
    · go_wp2
      go_ret
      have e : j = n := by omega
      subst e
      exact ⟨rfl, hbl, u', s, hrow.congr fun i hi => by simp [partCell, hi], hbt⟩

theorem toPuts_any {w : World} {v : Value} {ps : List (Int × List Int)} (h : Puts w v ps) (hn : ps.length + (wlens ps).sum ≤ 1048576) :
    Calls Try.prog 85 #[v] w fun e w' => e = .returned (.slice (some ⟨w.heap.size, 0, none⟩) ps.length ps.length) ∧ Below w.heap.size w w' ∧ PutsO w' (.slice (some ⟨w.heap.size, 0, none⟩) ps.length ps.length) ps (fresh w w') := by
  rcases h with ⟨rfl, a, cap, rfl⟩ | ⟨b, off, cap, u, rfl, hl, hc⟩
  · exact (toPuts_nil w a cap 0 (Nat.le_refl _)).mono fun e w' ⟨he, hb⟩ => ⟨he, hb, Or.inl ⟨rfl, _, _, rfl⟩⟩
  · refine (toPuts_walk w b off cap ps.length ps u (by omega) (fun k _ => by have := wlen_le_sum ps k; omega) hc).mono fun e w' ⟨he, hb, u', s, hr, hbt⟩ => ⟨he, hb, ?_⟩
    exact hbt.puts ps rfl (fun _ _ => rfl) hl (Nat.lt_succ_self _) hr _ ⟨Nat.le_refl _, hr.lt⟩ (fun c h1 h2 => ⟨by omega, h2⟩)

/-- An answer that is a disk by itself. -/
def AnsBare (w : World) (bs : List (List Int)) (ps : List (Int × List Int)) (e : Ending) (w' : World) : Prop :=
  ∃ aB nB cB aC nC cC, e = .returned (.agg #[.slice aB nB cB, .slice aC nC cC]) ∧ Below w.heap.size w w' ∧ DiskO w' (.slice aB nB cB) (.slice aC nC cC) bs ps (fresh w w')

set_option maxHeartbeats 800000 in
theorem toDisk_any (w : World) (aB aC : Option Addr) (nB cB nC cC : Nat) (bs : List (List Int)) (ps : List (Int × List Int)) (h1 : IntsS w (.slice aB nB cB) bs) (h2 : Puts w (.slice aC nC cC) ps) (l1 : bs.length + (bs.map List.length).sum ≤ 1048576) (l2 : ps.length + (wlens ps).sum ≤ 1048576) :
    Calls Try.prog 52 #[.agg #[.slice aB nB cB, .slice aC nC cC]] w (AnsBare w bs ps) := by
  have H1 : Hid (IntsS w (.slice aB nB cB) bs) := h1
  have H2 : Hid (Puts w (.slice aC nC cC) ps) := h2
  clear h1 h2
  go_enter Try.func52, Try.ntmps52
  go_wp2_with fail
  refine (toIntsS_any (H1.out.later (later3 _ _ _ _)) l1).mono ?_
  rintro e w1 ⟨rfl, hb1, ho1⟩
  have HB1 : Hid (Below w.heap.size w w1) := (later3 _ _ _ _).trans (hb1.mono (by simp; omega))
  have O2 : OwnRow w1 (w.heap.size + 1 + 1) 2 (fun i => if i = 0 then .slice none 0 0 else .slice none 0 0) := by
    have := (OwnRow.two ((w.alloc (Obj.cells #[Value.slice aB nB cB, Value.slice aC nC cC] 47)).alloc (Obj.cells #[Value.slice none 0 0, Value.slice none 0 0] 27)) (.slice none 0 0) (.slice none 0 0) 27).later hb1
    simpa using this
  have O1 : OwnRow w1 (w.heap.size + 1) 2 (fun i => if i = 0 then .slice none 0 0 else .slice none 0 0) := by
    have := ((OwnRow.two (w.alloc (Obj.cells #[Value.slice aB nB cB, Value.slice aC nC cC] 47)) (.slice none 0 0) (.slice none 0 0) 27).later (later1 _ (Obj.cells #[Value.slice none 0 0, Value.slice none 0 0] 27))).later hb1
    simpa using this
  have P0 : w1.cell? ⟨w.heap.size, 1, none⟩ = some (.slice aC nC cC) := by
    rw [hb1.cell (by simp; omega)]
    have h := (OwnRow.two w (.slice aB nB cB) (.slice aC nC cC) 47)
    exact ((h.later (later1 _ _)).later (later1 _ _)).cell (i := 1) (by omega)
  have HO1 : Hid (IntsSO w1 (.slice (some ⟨w.heap.size + 1 + 1 + 1, 0, none⟩) bs.length bs.length) bs (fun b => w.heap.size + 1 + 1 + 1 ≤ b ∧ b < w1.heap.size)) := by
    have h := ho1
    simp only [World.size_alloc] at h
    exact h.mono fun b hb => ⟨by have := hb.1; simp at this; omega, hb.2⟩
  clear hb1 ho1
  have d1 := O2.cell (i := 0) (by omega)
  have d2 := O2.frozen 0
  simp at d1
  have HO2 : Hid (OwnRow w1 (w.heap.size + 1 + 1) 2 (fun i => if i = 0 then .slice none 0 0 else .slice none 0 0)) := O2
  have HR1 : Hid (OwnRow w1 (w.heap.size + 1) 2 (fun i => if i = 0 then .slice none 0 0 else .slice none 0 0)) := O1
  clear O1 O2
  go_wp2_with fail
  clear d1 d2 P0
  have HBX : Hid (Below w.heap.size w (w1.setCell ⟨w.heap.size + 1 + 1, 0, none⟩ (.slice (some ⟨w.heap.size + 1 + 1 + 1, 0, none⟩) bs.length bs.length))) := HB1.out.setCell (by simp; omega) _
  refine (toPuts_any (H2.out.later HBX.out) l2).mono ?_
  rintro e w2 ⟨rfl, hb2, ho2⟩
  have HOX := (HO2.out.set 0 (.slice (some ⟨w.heap.size + 1 + 1 + 1, 0, none⟩) bs.length bs.length)).later hb2
  have HRX := (HR1.out.store (p := ⟨w.heap.size + 1 + 1, 0, none⟩) (by simp) (.slice (some ⟨w.heap.size + 1 + 1 + 1, 0, none⟩) bs.length bs.length)).later hb2
  have HIX : Hid (IntsSO w2 (.slice (some ⟨w.heap.size + 1 + 1 + 1, 0, none⟩) bs.length bs.length) bs (fun b => w.heap.size + 1 + 1 + 1 ≤ b ∧ b < w1.heap.size)) :=
    (HO1.out.store (p := ⟨w.heap.size + 1 + 1, 0, none⟩) (fun b hb => by have := hb.1; simp; omega) _).keep fun b hb hlt => hb2.block b hlt
  have HPX : Hid (PutsO w2 (.slice (some ⟨w1.heap.size, 0, none⟩) ps.length ps.length) ps (fun b => w1.heap.size ≤ b ∧ b < w2.heap.size)) := by
    have h := ho2
    have e1 : (w1.setCell ⟨w.heap.size + 1 + 1, 0, none⟩ (.slice (some ⟨w.heap.size + 1 + 1 + 1, 0, none⟩) bs.length bs.length)).heap.size = w1.heap.size := by simp [World.setCell]
    unfold fresh at h
    rw [e1] at h
    exact h
  have HB2 : Hid (Below w.heap.size w w2) := HBX.out.trans (hb2.mono HBX.out.size)
  have e1 : w1.heap.size ≤ w2.heap.size := by have := hb2.size; simpa [World.setCell] using this
  have q0 := HOX.cell (i := 0) (by omega)
  have q1 := HOX.cell (i := 1) (by omega)
  have q2 := HOX.frozen 1
  have t0 := HRX.cell (i := 0) (by omega)
  have t1 := HRX.cell (i := 1) (by omega)
  have t2 := HRX.frozen 0
  have t3 := HRX.frozen 1
  simp at q0 q1 t0 t1
  clear HOX HRX hb2 ho2
  have hz1 : w.heap.size + 1 + 1 < w1.heap.size := HO2.out.lt
  go_wp2
  refine bodyPost_ret (v := .agg #[.slice (some ⟨w.heap.size + 1 + 1 + 1, 0, none⟩) bs.length bs.length, .slice (some ⟨w1.heap.size, 0, none⟩) ps.length ps.length]) (by simp [results, Try.results52, go_sem, t0, t1]) rfl ⟨_, _, _, _, _, _, rfl, ?_, ?_⟩
  · exact ((HB2.out.setCell (by simp; omega) _).setCell (by simp) _).setCell (by simp) _
  · refine ⟨_, _, ((HIX.out.store ?_ _).store ?_ _).store ?_ _, ((HPX.out.store ?_ _).store ?_ _).store ?_ _, fun b hb hb' => ?_, fun b hb => ?_⟩
    · intro b hb; have := hb.1; simp; omega
    · intro b hb; have := hb.1; simp; omega
    · intro b hb; have := hb.1; simp; omega
    · intro b hb; have := hb.1; simp; omega
    · intro b hb; have := hb.1; simp; omega
    · intro b hb; have := hb.1; simp; omega
    · have := hb.2; have := hb'.1; omega
    · unfold fresh
      simp only [World.setCell, Array.size_modify]
      rcases hb with hb | hb
      · exact ⟨by have := hb.1; omega, by have := hb.2; omega⟩
      · exact ⟨by have := hb.1; omega, hb.2⟩
end Go.Proofs.Ytmjdechoookpmaa

namespace Go.Proofs.Ytmjdechoookpmaa
open Go.RowKit
set_option maxRecDepth 100000

section
variable {P : Program} {w : World}
/-- An append whose run is known, at its place in a walk. -/
theorem wpList_append_run {ops : Array Oper} {rest : List Oper} {o : Oper} {a : Act} {Q : Exit → Act → World → Prop} (hgd : o.guard = none) (s x : Operand) (t : TypeId)
    (ho : o.op = .call { callee := .builtin .append, args := #[s, x], argTypes := #[t, t] }) (v y : Value) (hs : a.eval s = v) (hx : a.eval x = y) (v' : Value) (w' : World)
    (hr : (Builtin.append_ #[t, t] o.type #[v, y]).run P w = .ok v' w') (h : wpList P ops Q rest (a.put o.dst v') w') : wpList P ops Q (o :: rest) a w := by
  refine wpList_plain hgd fun K hK => ?_
  unfold Oper.wp execOp
  simp only [ho, resolve, invoke, builtin, Sem.run_bind, Sem.run_pure, Result.andThen_ok, List.map_toArray, List.map_cons, List.map_nil, hs, hx, hr]
  exact hK _ _ h
/-- The same inside a region that draws its order. -/
theorem step_append_run {ops : Array Oper} {o : Oper} {a : Act} {K : Act → World → Prop} {Q : Exit → Act → World → Prop} {E : Prop} (hgd : o.guard = none) (s x : Operand) (t : TypeId)
    (ho : o.op = .call { callee := .builtin .append, args := #[s, x], argTypes := #[t, t] }) (v y : Value) (hs : a.eval s = v) (hx : a.eval x = y) (v' : Value) (w' : World)
    (hr : (Builtin.append_ #[t, t] o.type #[v, y]).run P w = .ok v' w') (h : K (a.put o.dst v') w') : if Region.wanted o (yielded ops a.tmps) = true then Oper.wp P o a w K Q else E := by
  have hw : Region.wanted o (yielded ops a.tmps) = true := by simp [Region.wanted, hgd]
  rw [if_pos hw]
  unfold Oper.wp execOp
  simp only [ho, resolve, invoke, builtin, Sem.run_bind, Sem.run_pure, Result.andThen_ok, List.map_toArray, List.map_cons, List.map_nil, hs, hx, hr]
  exact h
end

theorem below_grown {w w' : World} {B : Nat} {row : Option Nat} (h : w.grownBy w' row) (hB : B ≤ w.heap.size) (hr : ∀ k, row = some k → B ≤ k) : Below B w w' := (Below.refl _ _).grown h hB hr

/-- A row of one cell an element that the call owns. -/
theorem ownsRow_row {w : World} {base n : Nat} {e : TypeId} {v : Value} {xs : List Value} (h : w.ownsRow base e 1 v n xs) (h0 : 0 < n) : ∃ g cap, v = .slice (some ⟨g, 0, none⟩) n cap ∧ base ≤ g ∧ g < w.heap.size ∧ n ≤ maxLen ∧ OwnRow w g n (fun i => xs[i]?.getD undef) := by
  obtain ⟨hl, h | ⟨g, cap, cur, rfl, hb, hh, hnc, hcm, hcs, htake⟩⟩ := h
  · omega
  · refine ⟨g, cap, rfl, hb, (Array.getElem?_eq_some_iff.1 hh).1, by omega, cur, e, hh, by omega, fun i hi => ?_⟩
    rw [Nat.mul_one] at htake
    have h1 : xs[i]? = cur[i]? := by rw [← htake, List.getElem?_take, if_pos hi, Array.getElem?_toList]
    show cur[i]? = some (xs[i]?.getD undef)
    have h2 : i < cur.size := by omega
    rw [h1, Array.getElem?_eq_getElem h2]; rfl

theorem add_plain' (b off k : Nat) : (⟨b, off, none⟩ : Addr).add k = ⟨b, off + k, none⟩ := by
  by_cases h : k = 0
  · subst h; simp [Addr.add]
  · simp [Addr.add, h]

theorem Try.infoInt' : ∃ i, Try.prog.info? 2 = some i ∧ i.zero = some (.int .i64 0) ∧ i.size = 1 ∧ i.bytes = 8 := by
  obtain ⟨i, hi, h⟩ := Option.map_eq_some_iff.1 Try.infoInt
  simp only [Prod.mk.injEq] at h
  exact ⟨i, hi, h.1, h.2.1, h.2.2⟩

theorem append_empty (w : World) (ty : TypeId) (a : Option Addr) (n cap : Nat) (zs : List Int) (hz : zs.length = n) (hn : n ≤ 1048576) (hc : At1 w a n (fun k => .int .i64 (zs[k]?.getD 0))) :
    ∃ v' X, (Builtin.append_ #[36, 36] ty #[.slice (some ⟨w.heap.size, 0, none⟩) 0 0, .slice a n cap]).run Try.prog (w.alloc (.cells #[] 2)) = .ok v' X ∧
      Below w.heap.size w X ∧ IntsO X v' zs (fresh w X) ∧ w.heap.size < X.heap.size ∧ ∃ a' c', v' = .slice a' n c' := by
  obtain ⟨i, hi, h1, h2, h3⟩ := Try.infoInt'
  have hown : (w.alloc (.cells #[] 2)).ownsRow w.heap.size 2 1 (.slice (some ⟨w.heap.size, 0, none⟩) 0 0) 0 [] := World.ownsRow_lit w #[] 0 (Nat.le_refl _) (by simp) rfl
  by_cases ha : a = none
  · subst ha
    have h0 : n = 0 := by
      by_cases h : n = 0
      · exact h
      · obtain ⟨_, _, e, _⟩ := hc 0 (by omega); cases e
    subst h0
    have hzs : zs = [] := List.eq_nil_of_length_eq_zero hz
    subst hzs
    refine ⟨.slice (some ⟨w.heap.size, 0, none⟩) 0 0, w.alloc (.cells #[] 2), ?_, later1 _ _, Or.inl ⟨rfl, _, _, rfl⟩, by simp, _, _, rfl⟩
    simp [Builtin.append_, run_underlying Try.underlying36, sizeOf, typeInfo, hi, Builtin.lenOf, Builtin.firstCells, storeCells]
  · obtain ⟨ad, rfl⟩ := Option.ne_none_iff_exists'.1 ha
    obtain ⟨v', X, hr, ho, hg, _⟩ := run_append_own (P := Try.prog) (w.alloc (.cells #[] 2)) w.heap.size 36 ty 2 i (.int .i64 0) 1 8 Try.underlying36 hi h1 h2 h3 rfl (by decide) _ 0 [] hown ad n cap (zs.map fun z => Value.int .i64 z)
      (by simp [hz]) (fun j u hu => by
        rw [List.getElem?_map, Option.map_eq_some_iff] at hu
        obtain ⟨z, hz1, rfl⟩ := hu
        have hj : j < n := by rw [← hz]; exact (List.getElem?_eq_some_iff.1 hz1).1
        obtain ⟨b, off, e, h⟩ := hc j hj
        simp only [Option.some.injEq] at e
        rw [e, add_plain']
        replace h : w.cell? ⟨b, off + j, none⟩ = some (.int .i64 (zs[j]?.getD 0)) := h
        rw [hz1, Option.getD_some] at h
        exact cell_later (later1 _ _) h) (fun u hu => by
        obtain ⟨z, _, rfl⟩ := List.mem_map.1 hu
        rfl) (by unfold maxLen; omega) (by omega) (by simp)
    have hB : Below w.heap.size w X := (later1 _ _).trans (below_grown hg (by simp) (fun k hk => by simp [Value.ownBlock] at hk; omega))
    simp only [Nat.zero_add, List.nil_append] at ho
    refine ⟨v', X, hr, hB, ?_, by have := hg.size; simp at this; omega, ?_⟩
    · by_cases h0 : n = 0
      · subst h0
        have hzs : zs = [] := List.eq_nil_of_length_eq_zero hz
        refine Or.inl ⟨hzs, ?_⟩
        rcases ho.2 with ⟨rfl, _⟩ | ⟨g, c, cur, rfl, _⟩
        · exact ⟨_, _, rfl⟩
        · exact ⟨_, _, rfl⟩
      · obtain ⟨g, c, rfl, hg1, hg2, hm, hrow⟩ := ownsRow_row ho (by omega)
        refine Or.inr ⟨g, c, ⟨hg1, hg2⟩, by rw [hz], by rw [hz]; exact hm, ?_⟩
        rw [hz]
        exact hrow.congr fun i hi => by
          have : i < zs.length := by omega
          simp [this]
    · rcases ho.2 with ⟨rfl, rfl⟩ | ⟨g, c, cur, rfl, _⟩
      · exact ⟨_, _, rfl⟩
      · exact ⟨_, _, rfl⟩

set_option maxHeartbeats 400000 in
theorem l1Ints_more {w : World} {v : Value} {zs : List Int} (h : Ints w v zs) (hn : zs.length ≤ 1048576) :
    Calls Try.prog 83 #[v] w fun e w' => ∃ a c, e = .returned (.slice a zs.length c) ∧ Below w.heap.size w w' ∧ IntsO w' (.slice a zs.length c) zs (fresh w w') ∧ w.heap.size < w'.heap.size := by
  obtain ⟨a, cap, rfl, hm, hc⟩ := h.open'
  clear h
  obtain ⟨v', X, hr, hbX, hoX, hsX, a', c', rfl⟩ := append_empty w 36 a zs.length cap zs rfl hn hc
  have HR : Hid (_ = _) := hr
  have HB : Hid (Below w.heap.size w X) := hbX
  have HO : Hid (IntsO X (.slice a' zs.length c') zs (fresh w X)) := hoX
  clear hbX hoX hc hr
  go_enter Try.func83, Try.ntmps83
  go_wp2_with (at_builtin; refine wpList_append_run rfl _ _ 36 rfl _ _ rfl rfl _ _ HR.out ?_)
  go_ret
  exact ⟨a', c', rfl, HB.out, HO.out, hsX⟩
theorem l1Ints_any {w : World} {v : Value} {zs : List Int} (h : Ints w v zs) (hn : zs.length ≤ 1048576) :
    Calls Try.prog 83 #[v] w fun e w' => ∃ a c, e = .returned (.slice a zs.length c) ∧ Below w.heap.size w w' ∧ IntsO w' (.slice a zs.length c) zs (fresh w w') :=
  (l1Ints_more h hn).mono fun _ _ ⟨a, c, h1, h2, h3, _⟩ => ⟨a, c, h1, h2, h3⟩
end Go.Proofs.Ytmjdechoookpmaa

namespace Go.Proofs.Ytmjdechoookpmaa
open Go.RowKit
set_option maxRecDepth 100000

theorem cut_at47 {l : List UInt8} {n : Nat} (h : ∀ k, k < n → l[k]?.getD 0 ≠ 47) (hn : n ≤ l.length) (he : n = l.length ∨ l[n]?.getD 0 = 47) : takeTo l = l.take n ∧ dropTo l = l.drop n := by
  induction l generalizing n with
  | nil => simp at hn; subst hn; exact ⟨rfl, rfl⟩
  | cons b t ih =>
    unfold takeTo dropTo
    cases n with
    | zero =>
      have hb : b = 47 := by rcases he with h | h <;> simp at h; exact h
      simp [hb]
    | succ n =>
      have hb : ¬ b = 47 := by have := h 0 (by omega); simpa using this
      have := ih (n := n) (fun k hk => by have := h (k + 1) (by omega); simpa using this) (by simpa using hn) (by simpa using he)
      unfold takeTo dropTo at this
      rw [List.takeWhile_cons, List.dropWhile_cons, if_pos (by simpa using hb), if_pos (by simpa using hb), this.1, this.2]
      exact ⟨rfl, rfl⟩
theorem run_mid (l : List UInt8) (f k : Nat) (hf : f ≤ k) (hk : k ≤ l.length) (W : World) : (Instr.slice 9 (.string (mkB l)) (some (.int .i64 (f : Int))) (some (.int .i64 (k : Int))) none).run Try.prog W = .ok (.string (mkB ((l.drop f).take (k - f)))) W := by
  have hs := mkB_size l
  have he : (mkB l).extract f k = mkB ((l.drop f).take (k - f)) := by
    have h : ((mkB l).extract f k).data.toList = (l.drop f).take (k - f) := by
      simp only [mkB, ByteArray.data_extract, Array.toList_extract, List.extract_eq_take_drop]
    rw [← mkB_data ((mkB l).extract f k), h]
  simp [Instr.slice, Instr.sliceBounds, Instr.sliceBound, asIntOf, run_underlying Try.underlying9, hs, hk, hf]
  exact he
theorem mkB_get (t : List UInt8) (j : Nat) (h : j < (mkB t).size) : (mkB t)[j] = t[j]?.getD 0 := by
  have h' : j < t.length := by rw [← mkB_size]; exact h
  rw [List.getElem?_eq_getElem h', Option.getD_some]
  show (mkB t).data[j] = _
  simp [mkB]
/-- How far the cutting is: 'done' pieces, the next one from f on. -/
def CutSt (t : List UInt8) (j f : Nat) (done : List (List UInt8)) : Prop :=
  (j ≤ t.length ∧ f ≤ j ∧ cutB t = done ++ cutB (t.drop f) ∧ (∀ k, f ≤ k → k < j → t[k]?.getD 0 ≠ 47) ∧ done.length ≤ j) ∨ (j = t.length + 1 ∧ done = cutB t)
theorem cut_here {t : List UInt8} {j f : Nat} {done : List (List UInt8)} (hf : f ≤ j) (hj : j ≤ t.length) (h1 : cutB t = done ++ cutB (t.drop f)) (h2 : ∀ k, f ≤ k → k < j → t[k]?.getD 0 ≠ 47) (he : j = t.length ∨ t[j]?.getD 0 = 47) :
    cutB t = (done ++ [(t.drop f).take (j - f)]) ++ restN (t.drop j) := by
  have := cut_at47 (l := t.drop f) (n := j - f) (fun k hk => by rw [List.getElem?_drop]; exact h2 (f + k) (by omega) (by omega)) (by simp; omega) (by
    rcases he with e | e
    · exact Or.inl (by simp; omega)
    · exact Or.inr (by rw [List.getElem?_drop, show f + (j - f) = j by omega]; exact e))
  rw [h1, cut_step (t.drop f), this.1, this.2, List.drop_drop, show f + (j - f) = j by omega, List.append_assoc]
  rfl

end Go.Proofs.Ytmjdechoookpmaa

namespace Go.Proofs.Ytmjdechoookpmaa
open Go.RowKit
set_option maxRecDepth 100000

/-- How a list of texts reads. -/
def AtT (w : World) (a : Option Addr) (n : Nat) (xs : List (List UInt8)) : Prop := ∀ k, k < n → ∃ b off, a = some ⟨b, off, none⟩ ∧ w.cell? ⟨b, off + k, none⟩ = some (.string (mkB (xs[k]?.getD [])))
theorem AtT.later {w w' : World} {a : Option Addr} {n : Nat} {xs : List (List UInt8)} (h : AtT w a n xs) (hb : Below w.heap.size w w') : AtT w' a n xs := fun k hk => by
  obtain ⟨b, off, e, c⟩ := h k hk
  exact ⟨b, off, e, cell_later hb c⟩
theorem ownsRow_at {w : World} {B : Nat} {e : TypeId} {a : Option Addr} {n c : Nat} {xs : List (List UInt8)} (h : w.ownsRow B e 1 (.slice a n c) xs.length (xs.map strV)) : n = xs.length ∧ AtT w a n xs := by
  obtain ⟨hl, ⟨h1, h2⟩ | ⟨g, cap, cur, h1, h2, h3, h4, h5, h6, h7⟩⟩ := h
  · simp only [Value.slice.injEq] at h1
    exact ⟨by rw [h1.2.1, h2], fun k hk => by rw [h1.2.1] at hk; omega⟩
  · simp only [Value.slice.injEq] at h1
    refine ⟨h1.2.1, fun k hk => ⟨g, 0, h1.1, ?_⟩⟩
    rw [h1.2.1] at hk
    have h8 : (xs.map strV)[k]? = some (.string (mkB (xs[k]?.getD []))) := by rw [List.getElem?_map, List.getElem?_eq_getElem hk]; rfl
    rw [← h7, List.getElem?_take, if_pos (by omega), Array.getElem?_toList] at h8
    rw [Nat.zero_add]
    simp only [World.cell?, h3]
    exact h8
def namesC (xs : List (List UInt8)) : Int := if 6 < xs.length then 2 else namesF xs
theorem namesF_at {xs : List (List UInt8)} {j : Nat} (h : ∀ i, i < j → nameF (mkB (xs[i]?.getD [])) = 0) (hj : j < xs.length) (hn : ¬ nameF (mkB (xs[j]?.getD [])) = 0) : namesF xs = nameF (mkB (xs[j]?.getD [])) := by
  induction xs generalizing j with
  | nil => simp at hj
  | cons x t ih =>
    cases j with
    | zero => simp at hn ⊢; simp [namesF, hn]
    | succ j =>
      have h0 : nameF (mkB x) = 0 := by simpa using h 0 (by omega)
      simp only [namesF, if_pos h0]
      have := ih (j := j) (fun i hi => by simpa using h (i + 1) (by omega)) (by simpa using hj) (by simpa using hn)
      simpa using this
theorem namesF_zero {xs : List (List UInt8)} (h : ∀ i, i < xs.length → nameF (mkB (xs[i]?.getD [])) = 0) : namesF xs = 0 := by
  induction xs with
  | nil => rfl
  | cons x t ih =>
    have h0 : nameF (mkB x) = 0 := by simpa using h 0 (by simp)
    simp only [namesF, if_pos h0]
    exact ih fun i hi => by simpa using h (i + 1) (by simpa using hi)

end Go.Proofs.Ytmjdechoookpmaa

namespace Go.Proofs.Ytmjdechoookpmaa
open Go.RowKit
set_option maxRecDepth 100000

theorem sufB_at {l : List UInt8} {m : Nat} (h : l.length = m + 1) : sufB l = (l[m]?.getD 0 == 47) := by
  unfold sufB
  rw [List.getLast?_eq_getElem?, h, Nat.add_sub_cancel, List.getElem?_eq_getElem (by omega)]
  rfl
theorem preB_at {l : List UInt8} (h : 0 < l.length) : preB l = (l[0]?.getD 0 == 47) := by
  cases l with
  | nil => simp at h
  | cons b t => rfl
theorem byte_eq (b : UInt8) : ((b.toNat : Int) == 47) = (b == 47) := by
  by_cases h : b = 47
  · subst h; rfl
  · have hne : b.toNat ≠ 47 := fun e => h (UInt8.toNat_inj.1 (by rw [e]; rfl))
    have h1 : (b == 47) = false := by simpa using h
    rw [h1]
    simp; omega
theorem namesL_cut {p : List UInt8} (h0 : topB p = false) (hp : 0 < p.length) : namesL p = cutB (p.drop 1) := by
  unfold namesL
  rw [if_neg (by simpa [topB] using h0)]
  cases p with
  | nil => simp at hp
  | cons b t => rfl
/-- Where the specification's split sees a fault of the path's form. -/
def formBad (p : List UInt8) : Prop := p.length = 0 ∨ ¬ p[0]?.getD 0 = 47 ∨ p[p.length - 1]?.getD 0 = 47
theorem pathF_form {p : List UInt8} (h30 : ¬ 30 < p.length) (ht : topB p = false) (hb : formBad p) : pathF p = 5 := by
  unfold pathF
  rw [if_neg h30]
  rcases Nat.eq_zero_or_pos p.length with h0 | h0
  · have : p = [] := List.length_eq_zero_iff.1 h0
    subst this; rfl
  · rcases hb with hb | hb | hb
    · omega
    · rw [preB_at h0, if_neg (by simpa using hb)]
    · have hs : sufB p = true := by rw [sufB_at (m := p.length - 1) (by omega), hb]; rfl
      split
      · rw [if_pos ⟨hs, ht⟩]
      · rfl
theorem pathF_good {p : List UInt8} (h30 : ¬ 30 < p.length) (ht : topB p = false) (hb : ¬ formBad p) : pathF p = namesC (cutB (p.drop 1)) := by
  unfold formBad at hb
  have h0 : 0 < p.length := by omega
  have h1 : p[0]?.getD 0 = 47 := by
    by_cases e : p[0]?.getD 0 = 47
    · exact e
    · exact absurd (Or.inr (Or.inl e)) hb
  have h2 : ¬ p[p.length - 1]?.getD 0 = 47 := fun e => hb (Or.inr (Or.inr e))
  unfold pathF namesC
  have hs : sufB p = false := by rw [sufB_at (m := p.length - 1) (by omega)]; simpa using h2
  have hq : preB p = true := by rw [preB_at h0, h1]; rfl
  rw [if_neg h30, if_pos hq, if_neg (by rw [hs]; simp), namesL_cut ht h0]

end Go.Proofs.Ytmjdechoookpmaa

namespace Go.Proofs.Ytmjdechoookpmaa
open Go.RowKit
set_option maxRecDepth 100000

theorem cutB_mem (t : List UInt8) (k : Nat) : ((cutB t)[k]?.getD []).length ≤ t.length := by
  induction t generalizing k with
  | nil => cases k <;> simp [cutB]
  | cons b l ih =>
    simp only [cutB]
    split
    · cases k with
      | zero => simp
      | succ k => have := ih k; simp at this ⊢; omega
    · cases h : cutB l with
      | nil => cases k <;> simp [cutHead]
      | cons x y =>
        have h1 := ih k
        rw [h] at h1
        cases k with
        | zero => simp [cutHead] at h1 ⊢; omega
        | succ k => simp [cutHead] at h1 ⊢; omega

end Go.Proofs.Ytmjdechoookpmaa

namespace Go.Proofs.Ytmjdechoookpmaa
open Go.RowKit
set_option maxRecDepth 100000

def lastC (p : List UInt8) : Int := if pathF p = 0 then (if (namesL p).length = 0 then 4 else 0) else pathF p
def lastT (p : List UInt8) : List UInt8 := if pathF p = 0 then (namesL p)[(namesL p).length - 1]?.getD [] else []

theorem ownsRow_cap {w : World} {B : Nat} {e : TypeId} {a : Option Addr} {n m c : Nat} {xs : List Value} (h : w.ownsRow B e 1 (.slice a n c) m xs) : n ≤ c := by
  rcases h.2 with ⟨h1, _⟩ | ⟨g, cap, cur, h1, _, _, h2, _⟩ <;> simp only [Value.slice.injEq] at h1 <;> omega
end Go.Proofs.Ytmjdechoookpmaa

namespace Go.Proofs.Ytmjdechoookpmaa
open Go.RowKit
set_option maxRecDepth 100000

def joinL (xs : List (List UInt8)) : List UInt8 := xs.flatMap (47 :: ·)
def joinT (xs : List (List UInt8)) : List UInt8 := if joinL xs = [] then [47] else joinL xs
theorem joinL_step {xs : List (List UInt8)} {j : Nat} (h : j < xs.length) : joinL (xs.take (j + 1)) = joinL (xs.take j) ++ (47 :: xs[j]?.getD []) := by
  unfold joinL
  rw [List.take_add_one, List.flatMap_append, List.getElem?_eq_getElem h]
  simp
theorem joinL_len {xs : List (List UInt8)} {j B : Nat} (h : ∀ k : Nat, (xs[k]?.getD []).length ≤ B) (hj : j ≤ xs.length) : (joinL (xs.take j)).length ≤ j * (B + 1) := by
  induction j with
  | zero => simp [joinL]
  | succ j ih =>
    rw [joinL_step (by omega), List.length_append, List.length_cons, Nat.succ_mul]
    have := ih (by omega)
    have := h j
    omega

end Go.Proofs.Ytmjdechoookpmaa

namespace Go.Proofs.Ytmjdechoookpmaa
open Go.RowKit
set_option maxRecDepth 100000

/-- A source that a call made since w0, as it stands in w. -/
structure DS (w0 w : World) (sb : Nat) (a : Option Addr) (n c at' : Nat) : Prop where
  src : Src w sb a n c at'
  below : Below w0.heap.size w0 w
  new : w0.heap.size ≤ sb
  len : n ≤ 1048576
  bytes : AtB w0 a n
theorem DS.lt {w0 w : World} {sb : Nat} {a : Option Addr} {n c at' : Nat} (h : DS w0 w sb a n c at') : sb < w.heap.size := OwnRow.lt h.src
theorem DS.chg {w0 w w' : World} {sb : Nat} {a : Option Addr} {n c at' : Nat} {F : Nat → Prop} (h : DS w0 w sb a n c at') (hc : Chg F w w') (hF : ∀ b, F b → w0.heap.size ≤ b) (hn : ¬ F sb) : DS w0 w' sb a n c at' :=
  ⟨OwnRow.block h.src (hc.block sb h.lt hn), h.below.trans (hc.below h.below.size hF), h.new, h.len, h.bytes⟩
theorem DS.later {w0 w w' : World} {sb : Nat} {a : Option Addr} {n c at' : Nat} (h : DS w0 w sb a n c at') (hb : Below w.heap.size w w') : DS w0 w' sb a n c at' :=
  ⟨OwnRow.block h.src (hb.block sb h.lt), h.below.trans (hb.mono h.below.size), h.new, h.len, h.bytes⟩
theorem Chg.drewN {F : Nat → Prop} {w w' : World} (h : Chg F w w') (m : Nat) : Chg F w (w'.drewN m) := h.trans (Chg.of_below (below_drewN (Below.refl _ _) m))
theorem l1Next_ds (w0 w : World) (sb : Nat) (a : Option Addr) (n c at' k : Nat) (h : DS w0 w sb a n c at') (hat : at' ≤ 1000000) (hk0 : 1 ≤ k) (hk : k ≤ 200) :
    Calls Try.prog 33 #[.pointer (some ⟨sb, 0, none⟩), .int .i64 (k : Int)] w fun e w' => ∃ r : Nat, e = .returned (.int .i64 (r : Int)) ∧ r < k ∧ DS w0 w' sb a n c (at' + 1) ∧ Chg (fun b => b = sb) w w' := by
  have hfin : ∀ m, DS w0 ((stepW w sb at').drewN m) sb a n c (at' + 1) ∧ Chg (fun b => b = sb) w ((stepW w sb at').drewN m) := fun m => by
    have hc : Chg (fun b => b = sb) w (stepW w sb at') := Chg.set (F := fun b => b = sb) (Chg.refl _ w) rfl 1 _
    exact ⟨⟨h.src.step, h.below.trans ((hc.drewN m).below h.below.size fun b hb => hb ▸ h.new), h.new, h.len, h.bytes⟩, hc.drewN m⟩
  by_cases h0 : n = 0
  · subst h0
    refine (l1Next_none w sb a c at' k h.src hat hk0 hk).mono ?_
    rintro e w' ⟨r, he, hr, m, rfl⟩
    exact ⟨r, he, hr, hfin m⟩
  · refine (l1Next_some w sb a n c at' k h.src h.len (by omega) (h.bytes.later h.below) (fun b off e => ?_) hat hk0 hk).mono ?_
    · obtain ⟨b', off', e', z, _, hc⟩ := h.bytes 0 (by omega)
      rw [e] at e'
      simp only [Option.some.injEq, Addr.mk.injEq, and_true] at e'
      have := World.block_lt_of_cell? _ _ hc
      have h2 := h.new
      have h3 : b' < w0.heap.size := this
      omega
    · rintro e w' ⟨r, he, hr, m, rfl⟩
      exact ⟨r, he, hr, hfin m⟩

set_option maxHeartbeats 1600000 in
theorem l1Chance_ds (w0 w : World) (sb : Nat) (a : Option Addr) (n c at' k : Nat) (h : DS w0 w sb a n c at') (hat : at' ≤ 1000000) (hk0 : 1 ≤ k) (hk : k ≤ 200) :
    Calls Try.prog 69 #[.pointer (some ⟨sb, 0, none⟩), .int .i64 (k : Int)] w fun e w' => ∃ b : Bool, e = .returned (.bool b) ∧ DS w0 w' sb a n c (at' + 1) ∧ Chg (fun b => b = sb) w w' := by
  have H : Hid (DS w0 w sb a n c at') := h
  clear h
  go_enter Try.func69, Try.ntmps69
  go_wp2_with fail
  refine (l1Next_ds w0 _ sb a n c at' k H.out hat hk0 hk).mono ?_
  rintro e w1 ⟨r, rfl, hr, hd, hc⟩
  have HD : Hid (DS w0 w1 sb a n c (at' + 1)) := hd
  have HC : Hid (Chg (fun b => b = sb) w w1) := hc
  clear hd hc
  go_wp2
  go_ret
  exact ⟨_, rfl, HD.out, HC.out⟩

/-- A list of texts that is written out. -/
def litA (ys : List (List UInt8)) : Array Value := (ys.map strV).toArray
theorem litRow (w : World) (ys : List (List UInt8)) (arr : Array Value) (he : arr = litA ys) (t : TypeId) : OwnRow (w.alloc (.cells arr t)) w.heap.size ys.length (fun i => strV (ys[i]?.getD [])) := by
  subst he
  refine ⟨_, t, Go.Deep.blk_alloc_new _ _, by simp [litA], fun i hi => ?_⟩
  simp [litA, List.getElem?_eq_getElem hi]
def names6 : List (List UInt8) := [[97], [98], [99], [100], [97, 98], [104, 97, 108, 108]]
theorem names6_len (r : Nat) : (names6[r]?.getD []).length ≤ 4 := by
  match r with
  | 0 => decide
  | 1 => decide
  | 2 => decide
  | 3 => decide
  | 4 => decide
  | 5 => decide
  | _ + 6 => simp [names6]

end Go.Proofs.Ytmjdechoookpmaa

namespace Go.Proofs.Ytmjdechoookpmaa
open Go.RowKit
set_option maxRecDepth 100000

theorem ownsRow_chg {w w' : World} {B : Nat} {e : TypeId} {k : Nat} {v : Value} {n : Nat} {xs : List Value} {sb : Nat} (h : w.ownsRow B e k v n xs) (hc : Chg (fun b => b = sb) w w') (hs : sb < B) : w'.ownsRow B e k v n xs := by
  obtain ⟨hl, h | ⟨g, cap, cur, h1, h2, h3, h4⟩⟩ := h
  · exact ⟨hl, Or.inl h⟩
  · exact ⟨hl, Or.inr ⟨g, cap, cur, h1, h2, (hc.block g (Array.getElem?_eq_some_iff.1 h3).1 (by omega)).trans h3, h4⟩⟩

set_option maxHeartbeats 3200000 in
theorem pick6_ds (w0 w : World) (sb : Nat) (a : Option Addr) (n c at' : Nat) (lb : Nat) (h : DS w0 w sb a n c at') (hat : at' ≤ 1000000) (hl : OwnRow w lb 6 (fun i => .int .i64 ([1, 1, 2, 2, 3, 0][i]?.getD 0))) (hne : lb ≠ sb) :
    Calls Try.prog 68 #[.pointer (some ⟨sb, 0, none⟩), .slice (some ⟨lb, 0, none⟩) 6 6] w fun e w' => ∃ r : Nat, e = .returned (.int .i64 (r : Int)) ∧ r ≤ 3 ∧ DS w0 w' sb a n c (at' + 1) ∧ Chg (fun b => b = sb) w w' := by
  have H : Hid (DS w0 w sb a n c at') := h
  have HL : Hid (OwnRow w lb 6 (fun i => .int .i64 ([1, 1, 2, 2, 3, 0][i]?.getD 0))) := hl
  clear h hl
  go_enter Try.func68, Try.ntmps68
  go_wp2_with fail
  refine (l1Next_ds w0 _ sb a n c at' 6 H.out hat (by omega) (by omega)).mono ?_
  rintro e w1 ⟨r, rfl, hr, hd, hc⟩
  have hrow := HL.out.block (hc.block lb HL.out.lt hne)
  have c0 := hrow.cell hr
  have HD : Hid (DS w0 w1 sb a n c (at' + 1)) := hd
  have HC : Hid (Chg (fun b => b = sb) w w1) := hc
  obtain ⟨q, hq, hq3⟩ : ∃ q : Nat, ([1, 1, 2, 2, 3, 0][r]?.getD (0 : Int)) = (q : Int) ∧ q ≤ 3 := by
    match r, hr with
    | 0, _ => exact ⟨1, rfl, by omega⟩
    | 1, _ => exact ⟨1, rfl, by omega⟩
    | 2, _ => exact ⟨2, rfl, by omega⟩
    | 3, _ => exact ⟨2, rfl, by omega⟩
    | 4, _ => exact ⟨3, rfl, by omega⟩
    | 5, _ => exact ⟨0, rfl, by omega⟩
  simp only [hq] at c0
  clear hd hc hrow hq
  go_wp2
  go_ret
  exact ⟨q, rfl, hq3, HD.out, HC.out⟩

def bent10 : List (List UInt8) := [[], [97], [47, 97, 47], [47, 47], [47, 65], [47, 97, 98, 99, 100, 101], [47, 97, 47, 98, 47, 99, 47, 100, 47, 97, 47, 98, 47, 99], [47, 97, 32, 98], [47, 104, 97, 108, 108, 47, 104, 97, 108, 108, 47, 104, 97, 108, 108, 47, 104, 97, 108, 108, 47, 104, 97, 108, 108, 47, 104, 97, 108, 108], [47, 104, 97, 108, 108, 47, 104, 97, 108, 108, 47, 104, 97, 108, 108, 47, 104, 97, 108, 108, 47, 104, 97, 108, 108, 47, 104, 97, 108, 108, 115]]
def names8 : List (List UInt8) := [[97], [97, 98, 99, 100], [97, 98, 99, 100, 101], [], [65], [97, 47], [122, 122], [97, 98, 99, 100, 69]]
theorem lit_len {ys : List (List UInt8)} (h : ∀ y ∈ ys, y.length ≤ 1048576) (r : Nat) : (ys[r]?.getD []).length ≤ 1048576 := by
  by_cases hr : r < ys.length
  · rw [List.getElem?_eq_getElem hr]; exact h _ (List.getElem_mem hr)
  · rw [List.getElem?_eq_none (by omega)]; simp

theorem source_any (w : World) (a : Option Addr) (n c : Nat) :
    Calls Try.prog 30 #[.slice a n c] w fun e w' => e = .returned (.pointer (some ⟨w.heap.size, 0, none⟩)) ∧ w' = w.alloc (.cells #[.slice a n c, .int .i64 0] 112) := by
  go_enter Try.func30, Try.ntmps30
  go_wp2
  go_ret
  exact ⟨rfl, rfl⟩
theorem DS.start (w : World) (a : Option Addr) (n c : Nat) (hn : n ≤ 1048576) (hb : AtB w a n) : DS w (w.alloc (.cells #[.slice a n c, .int .i64 0] 112)) w.heap.size a n c 0 :=
  ⟨OwnRow.newS w (.slice a n c) (.int .i64 0) 112, later1 _ _, Nat.le_refl _, hn, hb⟩

end Go.Proofs.Ytmjdechoookpmaa

namespace Go.Proofs.Ytmjdechoookpmaa
open Go.RowKit
set_option maxRecDepth 100000

def mkT (k : Nat) : Value := .string (mkB (109 :: dg k []))

end Go.Proofs.Ytmjdechoookpmaa
