/- Lists of inodes: how they read, what they own. No program is named here. Lists of steps: how they read, what they own. The walks of the laws' functions over lists of steps: how great they are, copied, held against each other. The walks of the laws' functions over lists of entries. Marks of lists of entries. The walks of the laws' functions over inodes. The law's copy of an inode. The walks of the laws' functions over lists of inodes: how great they are, copied, held against each other. Lists of bytes and lists of these: how they read, what they own. No program is named here. -/
import Derived.Test.YtagmmgcdebgfnaaM04
import Derived.Test.YtagmmgcdebgfnaaRows
import Derived.Deep.RegionWith
import Derived.Deep.RegionHeld3
import Derived.Test.YtagmmgcdebgfnaaM00
namespace Go.Proofs.Ytagmmgcdebgfnaa
open Go.RowKit
set_option maxRecDepth 100000

def id0 : ID := (0, 0, 0, [], [])
/-- The cells of a row of inodes. -/
def inCell (ds : List ID) (u : Nat → Value × Value) (j : Nat) : Value :=
  if j % 5 = 0 then .int .i64 (ds[j / 5]?.getD id0).1 else if j % 5 = 1 then .int .i64 (ds[j / 5]?.getD id0).2.1 else if j % 5 = 2 then .int .i64 (ds[j / 5]?.getD id0).2.2.1 else if j % 5 = 3 then (u (j / 5)).1 else (u (j / 5)).2
theorem inCell_0 (ds : List ID) (u : Nat → Value × Value) (k : Nat) : inCell ds u (k * 5) = .int .i64 (ds[k]?.getD id0).1 := by
  unfold inCell; rw [if_pos (by omega), show k * 5 / 5 = k by omega]
theorem inCell_1 (ds : List ID) (u : Nat → Value × Value) (k : Nat) : inCell ds u (k * 5 + 1) = .int .i64 (ds[k]?.getD id0).2.1 := by
  unfold inCell; rw [if_neg (by omega), if_pos (by omega), show (k * 5 + 1) / 5 = k by omega]
theorem inCell_2 (ds : List ID) (u : Nat → Value × Value) (k : Nat) : inCell ds u (k * 5 + 2) = .int .i64 (ds[k]?.getD id0).2.2.1 := by
  unfold inCell; rw [if_neg (by omega), if_neg (by omega), if_pos (by omega), show (k * 5 + 2) / 5 = k by omega]
theorem inCell_3 (ds : List ID) (u : Nat → Value × Value) (k : Nat) : inCell ds u (k * 5 + 3) = (u k).1 := by
  unfold inCell; rw [if_neg (by omega), if_neg (by omega), if_neg (by omega), if_pos (by omega), show (k * 5 + 3) / 5 = k by omega]
theorem inCell_4 (ds : List ID) (u : Nat → Value × Value) (k : Nat) : inCell ds u (k * 5 + 4) = (u k).2 := by
  unfold inCell; rw [if_neg (by omega), if_neg (by omega), if_neg (by omega), if_neg (by omega), show (k * 5 + 4) / 5 = k by omega]

/-- Inode d lies at block b, place o. -/
def InoAt (w : World) (b o : Nat) (d : ID) : Prop :=
  ∃ aB cB aE cE, w.cell? ⟨b, o, none⟩ = some (.int .i64 d.1) ∧ w.cell? ⟨b, o + 1, none⟩ = some (.int .i64 d.2.1) ∧ w.cell? ⟨b, o + 2, none⟩ = some (.int .i64 d.2.2.1) ∧
    w.cell? ⟨b, o + 3, none⟩ = some (.slice aB d.2.2.2.1.length cB) ∧ w.cell? ⟨b, o + 4, none⟩ = some (.slice aE d.2.2.2.2.length cE) ∧
    InoR w (.int .i64 d.1) (.int .i64 d.2.1) (.int .i64 d.2.2.1) (.slice aB d.2.2.2.1.length cB) (.slice aE d.2.2.2.2.length cE) d
theorem InoAt.later {w w' : World} {b o : Nat} {d : ID} (h : InoAt w b o d) (hb : Below w.heap.size w w') : InoAt w' b o d := by
  obtain ⟨aB, cB, aE, cE, h0, h1, h2, h3, h4, h5⟩ := h
  exact ⟨aB, cB, aE, cE, cell_later hb h0, cell_later hb h1, cell_later hb h2, cell_later hb h3, cell_later hb h4, h5.later hb⟩
theorem InoAt.mk' {w : World} {b o : Nat} {d : ID} {vB vE : Value} (h0 : w.cell? ⟨b, o, none⟩ = some (.int .i64 d.1)) (h1 : w.cell? ⟨b, o + 1, none⟩ = some (.int .i64 d.2.1)) (h2 : w.cell? ⟨b, o + 2, none⟩ = some (.int .i64 d.2.2.1)) (h3 : w.cell? ⟨b, o + 3, none⟩ = some vB) (h4 : w.cell? ⟨b, o + 4, none⟩ = some vE)
    (h : InoR w (.int .i64 d.1) (.int .i64 d.2.1) (.int .i64 d.2.2.1) vB vE d) : InoAt w b o d := by
  obtain ⟨aB, cB, eB, _, _⟩ := h.2.1.open'
  obtain ⟨aE, cE, eE, _, _⟩ := h.2.2.open'
  subst eB eE
  exact ⟨aB, cB, aE, cE, h0, h1, h2, h3, h4, h⟩

/-- Where the inodes of a list lie. -/
def AtI (w : World) (a : Option Addr) (n : Nat) (ds : List ID) : Prop :=
  ∀ k, k < n → ∃ b o, a = some ⟨b, o, none⟩ ∧ InoAt w b (o + k * 5) (ds[k]?.getD id0)
theorem AtI.later {w w' : World} {a : Option Addr} {n : Nat} {ds : List ID} (h : AtI w a n ds) (hb : Below w.heap.size w w') : AtI w' a n ds := fun k hk => by
  obtain ⟨b, o, e, h1⟩ := h k hk
  exact ⟨b, o, e, h1.later hb⟩
/-- The slice v reads as the inodes ds. -/
def Inos (w : World) (v : Value) (ds : List ID) : Prop := ∃ a cap, v = .slice a ds.length cap ∧ (ds.length ≤ maxLen ∧ ds.length ≤ cap) ∧ AtI w a ds.length ds
theorem Inos.later {w w' : World} {v : Value} {ds : List ID} (h : Inos w v ds) (hb : Below w.heap.size w w') : Inos w' v ds := by
  obtain ⟨a, cap, h1, h2, h3⟩ := h
  exact ⟨a, cap, h1, h2, h3.later hb⟩
theorem Inos.nil (w : World) (a : Option Addr) (cap : Nat) : Inos w (.slice a 0 cap) [] := ⟨a, cap, rfl, ⟨by simp, by simp⟩, fun k hk => by simp at hk⟩
theorem Inos.open' {w : World} {v : Value} {ds : List ID} (h : Inos w v ds) : ∃ a cap, v = .slice a ds.length cap ∧ (ds.length ≤ maxLen ∧ ds.length ≤ cap) ∧ AtI w a ds.length ds := h

/-- The slice v holds the inodes ds; no two of their lists, nor the outer one, lie in one block. -/
def InosO (w : World) (v : Value) (ds : List ID) (F : Nat → Prop) : Prop :=
  (ds = [] ∧ ∃ a cap, v = .slice a 0 cap) ∨
  (∃ b cap, ∃ u : Nat → Value × Value, ∃ G : Nat → Nat → Prop, F b ∧ (∀ i c, G i c → F c ∧ c ≠ b) ∧ (∀ i j c, i ≠ j → G i c → ¬ G j c) ∧
    v = .slice (some ⟨b, 0, none⟩) ds.length cap ∧ (ds.length ≤ maxLen ∧ ds.length ≤ cap) ∧ OwnRow w b (ds.length * 5) (inCell ds u) ∧
    ∀ i, i < ds.length → InoU w (.int .i64 (ds[i]?.getD id0).1) (.int .i64 (ds[i]?.getD id0).2.1) (.int .i64 (ds[i]?.getD id0).2.2.1) (u i).1 (u i).2 (ds[i]?.getD id0) (G i))
theorem InosO.reads {w : World} {v : Value} {ds : List ID} {F : Nat → Prop} (h : InosO w v ds F) : Inos w v ds := by
  rcases h with ⟨rfl, a, cap, rfl⟩ | ⟨b, cap, u, G, _, _, _, h1, h2, h3, h4⟩
  · exact Inos.nil w a cap
  · refine ⟨_, cap, h1, h2, fun k hk => ⟨b, 0, rfl, ?_⟩⟩
    rw [Nat.zero_add]
    have e0 := h3.cell (i := k * 5) (by omega)
    have e1 := h3.cell (i := k * 5 + 1) (by omega)
    have e2 := h3.cell (i := k * 5 + 2) (by omega)
    have e3 := h3.cell (i := k * 5 + 3) (by omega)
    have e4 := h3.cell (i := k * 5 + 4) (by omega)
    rw [inCell_0] at e0
    rw [inCell_1] at e1
    rw [inCell_2] at e2
    rw [inCell_3] at e3
    rw [inCell_4] at e4
    exact InoAt.mk' e0 e1 e2 e3 e4 (h4 k hk).reads
theorem InosO.keep {w w' : World} {v : Value} {ds : List ID} {F : Nat → Prop} (h : InosO w v ds F) (e : ∀ b, F b → b < w.heap.size → w'.heap[b]? = w.heap[b]?) : InosO w' v ds F := by
  rcases h with h | ⟨b, cap, u, G, hF, hG, hGG, h1, h2, h3, h4⟩
  · exact Or.inl h
  · exact Or.inr ⟨b, cap, u, G, hF, hG, hGG, h1, h2, h3.block (e b hF h3.lt), fun i hi => (h4 i hi).keep fun c hc => e c (hG i c hc).1⟩
theorem InosO.mono {w : World} {v : Value} {ds : List ID} {F F' : Nat → Prop} (h : InosO w v ds F) (e : ∀ b, F b → F' b) : InosO w v ds F' := by
  rcases h with h | ⟨b, cap, u, G, hF, hG, h1⟩
  · exact Or.inl h
  · exact Or.inr ⟨b, cap, u, G, e b hF, fun i c hc => ⟨e c (hG i c hc).1, (hG i c hc).2⟩, h1⟩
theorem InosO.later {w w' : World} {v : Value} {ds : List ID} {F : Nat → Prop} (h : InosO w v ds F) (hb : Below w.heap.size w w') : InosO w' v ds F := h.keep fun b _ hlt => hb.block b hlt
theorem InosO.chg {w w' : World} {v : Value} {ds : List ID} {F G : Nat → Prop} (h : InosO w v ds F) (hc : Chg G w w') (hd : ∀ b, F b → ¬ G b) : InosO w' v ds F := h.keep fun b hb hlt => hc.block b hlt (hd b hb)

/-- How great lists of inodes are, and how far they are marked. -/
def isz (ds : List ID) : List Nat := ds.map sizeIno
theorem isz_length (ds : List ID) : (isz ds).length = ds.length := by simp [isz]
theorem isz_get (ds : List ID) (i : Nat) : (isz ds)[i]?.getD 0 = sizeIno (ds[i]?.getD id0) := by
  unfold isz; rw [List.getElem?_map]; cases ds[i]? <;> rfl
def sizeInos (ds : List ID) : Nat := ds.length + (isz ds).sum
def isp (ds : List ID) : List Nat := ds.map fun d => 3 + spanIno d
theorem isp_length (ds : List ID) : (isp ds).length = ds.length := by simp [isp]
theorem isp_get (ds : List ID) (i : Nat) (h : i < ds.length) : (isp ds)[i]?.getD 0 = 3 + spanIno (ds[i]?.getD id0) := by
  unfold isp; rw [List.getElem?_map, List.getElem?_eq_getElem h]; rfl
def spanInos (ds : List ID) : Nat := (isp ds).sum
theorem spanInos_le (ds : List ID) : spanInos ds ≤ 3 * sizeInos ds := by
  unfold spanInos sizeInos isp isz
  induction ds with
  | nil => simp
  | cons d ds ih =>
    have := spanIno_le d
    simp only [List.map_cons, List.sum_cons, List.length_cons] at ih ⊢
    omega
theorem isz_le (ds : List ID) (k : Nat) : sizeIno (ds[k]?.getD id0) ≤ (isz ds).sum := by
  by_cases h : k < ds.length
  · have h1 := upto_succ (isz ds) k (by rw [isz_length]; exact h)
    rw [isz_get] at h1
    have h2 := upto_le (isz ds) (k + 1)
    omega
  · rw [List.getElem?_eq_none (by omega)]; simp [sizeIno, sizeN, nlens, id0]

/-- The first j inodes stand, inode i in the blocks from s i up to s (i + 1), none below lo. -/
structure BuiltI (w : World) (lo j : Nat) (u : Nat → Value × Value) (f : Nat → ID) (s : Nat → Nat) : Prop where
  lo : lo ≤ s 0
  mono : ∀ i, i < j → s i ≤ s (i + 1)
  hi : s j ≤ w.heap.size
  at' : ∀ i, i < j → InoU w (.int .i64 (f i).1) (.int .i64 (f i).2.1) (.int .i64 (f i).2.2.1) (u i).1 (u i).2 (f i) (fun b => s i ≤ b ∧ b < s (i + 1))
theorem BuiltI.nil {w : World} {lo : Nat} (u : Nat → Value × Value) (f : Nat → ID) (h : lo ≤ w.heap.size) : BuiltI w lo 0 u f (fun _ => w.heap.size) :=
  ⟨h, fun i hi => by omega, Nat.le_refl _, fun i hi => by omega⟩
theorem BuiltI.le {w : World} {lo j : Nat} {u : Nat → Value × Value} {f : Nat → ID} {s : Nat → Nat} (h : BuiltI w lo j u f s) : ∀ i k, i ≤ k → k ≤ j → s i ≤ s k := by
  intro i k hik
  induction k with
  | zero => intro _; have : i = 0 := by omega
            subst this; exact Nat.le_refl _
  | succ k ih =>
    intro hk
    by_cases e : i = k + 1
    · subst e; exact Nat.le_refl _
    · exact Nat.le_trans (ih (by omega) (by omega)) (h.mono k (by omega))
theorem BuiltI.low {w : World} {lo j : Nat} {u : Nat → Value × Value} {f : Nat → ID} {s : Nat → Nat} (h : BuiltI w lo j u f s) (i : Nat) (hi : i ≤ j) : lo ≤ s i := Nat.le_trans h.lo (h.le 0 i (Nat.zero_le _) hi)
theorem BuiltI.keep {w w' : World} {lo j : Nat} {u : Nat → Value × Value} {f : Nat → ID} {s : Nat → Nat} (h : BuiltI w lo j u f s) (hs : w.heap.size ≤ w'.heap.size) (e : ∀ b, lo ≤ b → b < w.heap.size → w'.heap[b]? = w.heap[b]?) : BuiltI w' lo j u f s :=
  ⟨h.lo, h.mono, Nat.le_trans h.hi hs, fun i hi => (h.at' i hi).keep fun b hb hlt => e b (Nat.le_trans (h.low i (by omega)) hb.1) hlt⟩
theorem BuiltI.later {w w' : World} {lo j : Nat} {u : Nat → Value × Value} {f : Nat → ID} {s : Nat → Nat} (h : BuiltI w lo j u f s) (hb : Below w.heap.size w w') : BuiltI w' lo j u f s := h.keep hb.size fun b _ hlt => hb.block b hlt
theorem BuiltI.store {w : World} {lo j : Nat} {u : Nat → Value × Value} {f : Nat → ID} {s : Nat → Nat} (h : BuiltI w lo j u f s) {p : Addr} (hp : p.block < lo) (v : Value) : BuiltI (w.setCell p v) lo j u f s :=
  h.keep (by simp [World.setCell]) fun b hb _ => Below.heap_setCell _ _ _ _ (by omega)
theorem BuiltI.next {w w' : World} {lo j : Nat} {u : Nat → Value × Value} {f : Nat → ID} {s : Nat → Nat} {vB vE : Value} (h : BuiltI w lo j u f s) (hb : Below w.heap.size w w') (hv : InoU w' (.int .i64 (f j).1) (.int .i64 (f j).2.1) (.int .i64 (f j).2.2.1) vB vE (f j) (fresh w w')) :
    BuiltI w' lo (j + 1) (fun i => if i = j then (vB, vE) else u i) f (fun i => if i ≤ j then s i else w'.heap.size) := by
  have h' := h.later hb
  have en : ∀ i : Nat, ¬ i + 1 ≤ i := fun i => by omega
  refine ⟨by simpa using h.lo, fun i hi => ?_, by simp [en], fun i hi => ?_⟩
  · by_cases e : i = j
    · subst e; simp [en]; exact h'.hi
    · simp [show i ≤ j by omega, show i + 1 ≤ j by omega]; exact h.mono i (by omega)
  · by_cases e : i = j
    · subst e
      simp [en]
      exact hv.mono fun b hb => ⟨Nat.le_trans h.hi hb.1, hb.2⟩
    · simp [e, show i ≤ j by omega, show i + 1 ≤ j by omega]
      exact h'.at' i (by omega)
theorem BuiltI.apart {w : World} {lo n : Nat} {u : Nat → Value × Value} {f : Nat → ID} {s : Nat → Nat} (h : BuiltI w lo n u f s) (i j c : Nat) (e : i ≠ j) (h1 : i < n ∧ s i ≤ c ∧ c < s (i + 1)) (h2 : j < n ∧ s j ≤ c ∧ c < s (j + 1)) : False := by
  rcases Nat.lt_or_gt_of_ne e with h3 | h3
  · have := h.le (i + 1) j (by omega) (by omega); omega
  · have := h.le (j + 1) i (by omega) (by omega); omega
theorem BuiltI.inos {w : World} {lo n b cap : Nat} {u : Nat → Value × Value} {s : Nat → Nat} (ds : List ID) (h : BuiltI w lo n u (fun i => ds[i]?.getD id0) s) (hn : ds.length = n) (hm : n ≤ maxLen ∧ n ≤ cap) (hb : b < lo) (hr : OwnRow w b (n * 5) (inCell ds u)) (F : Nat → Prop) (hF : F b) (hF' : ∀ c, lo ≤ c → c < w.heap.size → F c) :
    InosO w (.slice (some ⟨b, 0, none⟩) n cap) ds F := by
  subst hn
  refine Or.inr ⟨b, cap, u, fun i c => i < ds.length ∧ s i ≤ c ∧ c < s (i + 1), hF, fun i c hc => ?_, fun i j c e h1 h2 => h.apart i j c e h1 h2, rfl, hm, hr, fun i hi => ?_⟩
  · have h1 := h.low i (by omega)
    have h2 := h.le (i + 1) ds.length (by omega) (Nat.le_refl _)
    have h3 := h.hi
    exact ⟨hF' c (by omega) (by omega), by omega⟩
  · exact (h.at' i hi).mono fun c hc => ⟨hi, hc⟩

/-- The cells of a row of inodes of which the first j stand. -/
def zeroI (j : Nat) : Value := if j % 5 < 3 then .int .i64 0 else .slice none 0 0
def partI (ds : List ID) (u : Nat → Value × Value) (j c : Nat) : Value := if c < j * 5 then inCell ds u c else zeroI c
theorem partI_next (ds : List ID) (u : Nat → Value × Value) (j c : Nat) (vB vE : Value) :
    (if c = j * 5 + 4 then vE else if c = j * 5 + 3 then vB else if c = j * 5 + 2 then .int .i64 (ds[j]?.getD id0).2.2.1 else if c = j * 5 + 1 then .int .i64 (ds[j]?.getD id0).2.1 else if c = j * 5 then .int .i64 (ds[j]?.getD id0).1 else partI ds u j c) = partI ds (fun i => if i = j then (vB, vE) else u i) (j + 1) c := by
  unfold partI
  by_cases e4 : c = j * 5 + 4
  · subst e4; rw [if_pos rfl, if_pos (by omega), inCell_4]; simp
  · rw [if_neg e4]
    by_cases e3 : c = j * 5 + 3
    · subst e3; rw [if_pos rfl, if_pos (by omega), inCell_3]; simp
    · rw [if_neg e3]
      by_cases e2 : c = j * 5 + 2
      · subst e2; rw [if_pos rfl, if_pos (by omega), inCell_2]
      · rw [if_neg e2]
        by_cases e1 : c = j * 5 + 1
        · subst e1; rw [if_pos rfl, if_pos (by omega), inCell_1]
        · rw [if_neg e1]
          by_cases e0 : c = j * 5
          · subst e0; rw [if_pos rfl, if_pos (by omega), inCell_0]
          · rw [if_neg e0]
            by_cases e : c < j * 5
            · rw [if_pos e, if_pos (by omega)]
              unfold inCell
              dsimp only
              rw [if_neg (show ¬ c / 5 = j by omega)]
            · rw [if_neg e, if_neg (by omega)]

/-- 'make' of n inodes. -/
theorem run_make_five {P : Program} (t e : TypeId) (x0 x1 x2 x3 x4 : Value) (bytes : Nat) (ht : P.underlying t = some (.slice e)) (hinfo : (P.info? e).map (fun i => (i.zero, i.size, i.bytes)) = some (some (.agg #[x0, x1, x2, x3, x4]), 5, bytes)) (hz : (Value.agg #[x0, x1, x2, x3, x4]).cells = #[x0, x1, x2, x3, x4])
    (kl kc : IntKind) (n : Nat) (hbytes : bytes * n ≤ 281474976710656) (h63 : n ≤ 9223372036854775807) (w : World) :
    (Instr.makeSlice t (.int kl (n : Int)) (.int kc (n : Int))).run P w = .ok (.slice (some ⟨w.heap.size, 0, none⟩) n n) (w.alloc (.cells (madeCells #[x0, x1, x2, x3, x4] (n * 5)) e)) := by
  obtain ⟨i, hi, hzz⟩ := Option.map_eq_some_iff.1 hinfo
  simp only [Prod.mk.injEq] at hzz
  obtain ⟨h1, h2, h3⟩ := hzz
  have hb' : (i.bytes : Int) * (n : Int) ≤ 281474976710656 := by
    have h : ((i.bytes * n : Nat) : Int) ≤ 281474976710656 := by rw [h3]; omega
    rwa [Int.natCast_mul] at h
  have hr := run_make (P := P) w t e i _ ht hi h1 kl kc n n (by omega) (Int.le_refl _) hb' (by omega)
  simp only [Int.toNat_natCast, h2, hz] at hr
  exact hr
theorem OwnRow.madeFive (w : World) (n : Nat) (t : TypeId) : OwnRow (w.alloc (.cells (madeCells #[.int .i64 0, .int .i64 0, .int .i64 0, .slice none 0 0, .slice none 0 0] (n * 5)) t)) w.heap.size (n * 5) zeroI := by
  refine ⟨_, t, Go.Deep.blk_alloc_new _ _, by rw [size_madeCells]; exact Nat.le_refl _, fun i hi => ?_⟩
  unfold madeCells zeroI
  rw [Array.getElem?_map]
  have h1 : (Array.range (n * 5))[i]? = some i := by simp [hi]
  rw [h1]
  have : i % 5 = 0 ∨ i % 5 = 1 ∨ i % 5 = 2 ∨ i % 5 = 3 ∨ i % 5 = 4 := by omega
  rcases this with h | h | h | h | h <;> simp [h]
end Go.Proofs.Ytagmmgcdebgfnaa

namespace Go.Proofs.Ytagmmgcdebgfnaa
open Go.RowKit
set_option maxRecDepth 100000

def sd0 : SD := (false, 0, [])
/-- The cells of a row of steps. -/
def stCell (ds : List SD) (u : Nat → Value) (j : Nat) : Value :=
  if j % 3 = 0 then .bool (ds[j / 3]?.getD sd0).1 else if j % 3 = 1 then .int .i64 (ds[j / 3]?.getD sd0).2.1 else u (j / 3)
theorem stCell_0 (ds : List SD) (u : Nat → Value) (k : Nat) : stCell ds u (k * 3) = .bool (ds[k]?.getD sd0).1 := by
  unfold stCell; rw [if_pos (by omega), show k * 3 / 3 = k by omega]
theorem stCell_1 (ds : List SD) (u : Nat → Value) (k : Nat) : stCell ds u (k * 3 + 1) = .int .i64 (ds[k]?.getD sd0).2.1 := by
  unfold stCell; rw [if_neg (by omega), if_pos (by omega), show (k * 3 + 1) / 3 = k by omega]
theorem stCell_2 (ds : List SD) (u : Nat → Value) (k : Nat) : stCell ds u (k * 3 + 2) = u k := by
  unfold stCell; rw [if_neg (by omega), if_neg (by omega), show (k * 3 + 2) / 3 = k by omega]

/-- Step d lies at block b, place o. -/
def StpAt (w : World) (b o : Nat) (d : SD) : Prop :=
  ∃ aW cW, w.cell? ⟨b, o, none⟩ = some (.bool d.1) ∧ w.cell? ⟨b, o + 1, none⟩ = some (.int .i64 d.2.1) ∧ w.cell? ⟨b, o + 2, none⟩ = some (.slice aW d.2.2.length cW) ∧
    SteR w (.bool d.1) (.int .i64 d.2.1) (.slice aW d.2.2.length cW) d
theorem StpAt.later {w w' : World} {b o : Nat} {d : SD} (h : StpAt w b o d) (hb : Below w.heap.size w w') : StpAt w' b o d := by
  obtain ⟨aW, cW, h0, h1, h2, h3⟩ := h
  exact ⟨aW, cW, cell_later hb h0, cell_later hb h1, cell_later hb h2, h3.later hb⟩
theorem StpAt.mk' {w : World} {b o : Nat} {d : SD} {vW : Value} (h0 : w.cell? ⟨b, o, none⟩ = some (.bool d.1)) (h1 : w.cell? ⟨b, o + 1, none⟩ = some (.int .i64 d.2.1)) (h2 : w.cell? ⟨b, o + 2, none⟩ = some vW)
    (h : SteR w (.bool d.1) (.int .i64 d.2.1) vW d) : StpAt w b o d := by
  obtain ⟨aW, cW, eW, _, _⟩ := h.2.open'
  subst eW
  exact ⟨aW, cW, h0, h1, h2, h⟩

/-- Where the steps of a list lie. -/
def AtStp (w : World) (a : Option Addr) (n : Nat) (ds : List SD) : Prop :=
  ∀ k, k < n → ∃ b o, a = some ⟨b, o, none⟩ ∧ StpAt w b (o + k * 3) (ds[k]?.getD sd0)
theorem AtStp.later {w w' : World} {a : Option Addr} {n : Nat} {ds : List SD} (h : AtStp w a n ds) (hb : Below w.heap.size w w') : AtStp w' a n ds := fun k hk => by
  obtain ⟨b, o, e, h1⟩ := h k hk
  exact ⟨b, o, e, h1.later hb⟩
/-- The slice v reads as the steps ds. -/
def Stps (w : World) (v : Value) (ds : List SD) : Prop := ∃ a cap, v = .slice a ds.length cap ∧ (ds.length ≤ maxLen ∧ ds.length ≤ cap) ∧ AtStp w a ds.length ds
theorem Stps.later {w w' : World} {v : Value} {ds : List SD} (h : Stps w v ds) (hb : Below w.heap.size w w') : Stps w' v ds := by
  obtain ⟨a, cap, h1, h2, h3⟩ := h
  exact ⟨a, cap, h1, h2, h3.later hb⟩
theorem Stps.nil (w : World) (a : Option Addr) (cap : Nat) : Stps w (.slice a 0 cap) [] := ⟨a, cap, rfl, ⟨by simp, by simp⟩, fun k hk => by simp at hk⟩
theorem Stps.open' {w : World} {v : Value} {ds : List SD} (h : Stps w v ds) : ∃ a cap, v = .slice a ds.length cap ∧ (ds.length ≤ maxLen ∧ ds.length ≤ cap) ∧ AtStp w a ds.length ds := h

/-- The slice v holds the steps ds; no two of their lists, nor the outer one, lie in one block. -/
def StpsO (w : World) (v : Value) (ds : List SD) (F : Nat → Prop) : Prop :=
  (ds = [] ∧ ∃ a cap, v = .slice a 0 cap) ∨
  (∃ b cap, ∃ u : Nat → Value, ∃ G : Nat → Nat → Prop, F b ∧ (∀ i c, G i c → F c ∧ c ≠ b) ∧ (∀ i j c, i ≠ j → G i c → ¬ G j c) ∧
    v = .slice (some ⟨b, 0, none⟩) ds.length cap ∧ (ds.length ≤ maxLen ∧ ds.length ≤ cap) ∧ OwnRow w b (ds.length * 3) (stCell ds u) ∧
    ∀ i, i < ds.length → SteU w (.bool (ds[i]?.getD sd0).1) (.int .i64 (ds[i]?.getD sd0).2.1) (u i) (ds[i]?.getD sd0) (G i))
theorem StpsO.reads {w : World} {v : Value} {ds : List SD} {F : Nat → Prop} (h : StpsO w v ds F) : Stps w v ds := by
  rcases h with ⟨rfl, a, cap, rfl⟩ | ⟨b, cap, u, G, _, _, _, h1, h2, h3, h4⟩
  · exact Stps.nil w a cap
  · refine ⟨_, cap, h1, h2, fun k hk => ⟨b, 0, rfl, ?_⟩⟩
    rw [Nat.zero_add]
    have e0 := h3.cell (i := k * 3) (by omega)
    have e1 := h3.cell (i := k * 3 + 1) (by omega)
    have e2 := h3.cell (i := k * 3 + 2) (by omega)
    rw [stCell_0] at e0
    rw [stCell_1] at e1
    rw [stCell_2] at e2
    exact StpAt.mk' e0 e1 e2 (h4 k hk).reads
theorem StpsO.keep {w w' : World} {v : Value} {ds : List SD} {F : Nat → Prop} (h : StpsO w v ds F) (e : ∀ b, F b → b < w.heap.size → w'.heap[b]? = w.heap[b]?) : StpsO w' v ds F := by
  rcases h with h | ⟨b, cap, u, G, hF, hG, hGG, h1, h2, h3, h4⟩
  · exact Or.inl h
  · exact Or.inr ⟨b, cap, u, G, hF, hG, hGG, h1, h2, h3.block (e b hF h3.lt), fun i hi => (h4 i hi).keep fun c hc => e c (hG i c hc).1⟩
theorem StpsO.mono {w : World} {v : Value} {ds : List SD} {F F' : Nat → Prop} (h : StpsO w v ds F) (e : ∀ b, F b → F' b) : StpsO w v ds F' := by
  rcases h with h | ⟨b, cap, u, G, hF, hG, h1⟩
  · exact Or.inl h
  · exact Or.inr ⟨b, cap, u, G, e b hF, fun i c hc => ⟨e c (hG i c hc).1, (hG i c hc).2⟩, h1⟩
theorem StpsO.later {w w' : World} {v : Value} {ds : List SD} {F : Nat → Prop} (h : StpsO w v ds F) (hb : Below w.heap.size w w') : StpsO w' v ds F := h.keep fun b _ hlt => hb.block b hlt
theorem StpsO.chg {w w' : World} {v : Value} {ds : List SD} {F G : Nat → Prop} (h : StpsO w v ds F) (hc : Chg G w w') (hd : ∀ b, F b → ¬ G b) : StpsO w' v ds F := h.keep fun b hb hlt => hc.block b hlt (hd b hb)

/-- How great lists of steps are, and how far they are marked. -/
def stz (ds : List SD) : List Nat := ds.map sizeSte
theorem stz_length (ds : List SD) : (stz ds).length = ds.length := by simp [stz]
theorem stz_get (ds : List SD) (i : Nat) : (stz ds)[i]?.getD 0 = sizeSte (ds[i]?.getD sd0) := by
  unfold stz; rw [List.getElem?_map]; cases ds[i]? <;> rfl
def sizeStps (ds : List SD) : Nat := ds.length + (stz ds).sum
def stp (ds : List SD) : List Nat := ds.map fun d => 2 + spanSte d
theorem stp_length (ds : List SD) : (stp ds).length = ds.length := by simp [stp]
theorem stp_get (ds : List SD) (i : Nat) (h : i < ds.length) : (stp ds)[i]?.getD 0 = 2 + spanSte (ds[i]?.getD sd0) := by
  unfold stp; rw [List.getElem?_map, List.getElem?_eq_getElem h]; rfl
def spanStps (ds : List SD) : Nat := (stp ds).sum
theorem spanStps_le (ds : List SD) : spanStps ds ≤ 2 * sizeStps ds := by
  unfold spanStps sizeStps stp stz
  induction ds with
  | nil => simp
  | cons d ds ih =>
    have : spanSte d = sizeSte d := rfl
    simp only [List.map_cons, List.sum_cons, List.length_cons] at ih ⊢
    omega
theorem stz_le (ds : List SD) (k : Nat) : sizeSte (ds[k]?.getD sd0) ≤ (stz ds).sum := by
  by_cases h : k < ds.length
  · have h1 := upto_succ (stz ds) k (by rw [stz_length]; exact h)
    rw [stz_get] at h1
    have h2 := upto_le (stz ds) (k + 1)
    omega
  · rw [List.getElem?_eq_none (by omega)]; exact Nat.zero_le _

/-- The first j steps stand, step i in the blocks from s i up to s (i + 1), none below lo. -/
structure BuiltSt (w : World) (lo j : Nat) (u : Nat → Value) (f : Nat → SD) (s : Nat → Nat) : Prop where
  lo : lo ≤ s 0
  mono : ∀ i, i < j → s i ≤ s (i + 1)
  hi : s j ≤ w.heap.size
  at' : ∀ i, i < j → SteU w (.bool (f i).1) (.int .i64 (f i).2.1) (u i) (f i) (fun b => s i ≤ b ∧ b < s (i + 1))
theorem BuiltSt.nil {w : World} {lo : Nat} (u : Nat → Value) (f : Nat → SD) (h : lo ≤ w.heap.size) : BuiltSt w lo 0 u f (fun _ => w.heap.size) :=
  ⟨h, fun i hi => by omega, Nat.le_refl _, fun i hi => by omega⟩
theorem BuiltSt.le {w : World} {lo j : Nat} {u : Nat → Value} {f : Nat → SD} {s : Nat → Nat} (h : BuiltSt w lo j u f s) : ∀ i k, i ≤ k → k ≤ j → s i ≤ s k := by
  intro i k hik
  induction k with
  | zero => intro _; have : i = 0 := by omega
            subst this; exact Nat.le_refl _
  | succ k ih =>
    intro hk
    by_cases e : i = k + 1
    · subst e; exact Nat.le_refl _
    · exact Nat.le_trans (ih (by omega) (by omega)) (h.mono k (by omega))
theorem BuiltSt.low {w : World} {lo j : Nat} {u : Nat → Value} {f : Nat → SD} {s : Nat → Nat} (h : BuiltSt w lo j u f s) (i : Nat) (hi : i ≤ j) : lo ≤ s i := Nat.le_trans h.lo (h.le 0 i (Nat.zero_le _) hi)
theorem BuiltSt.keep {w w' : World} {lo j : Nat} {u : Nat → Value} {f : Nat → SD} {s : Nat → Nat} (h : BuiltSt w lo j u f s) (hs : w.heap.size ≤ w'.heap.size) (e : ∀ b, lo ≤ b → b < w.heap.size → w'.heap[b]? = w.heap[b]?) : BuiltSt w' lo j u f s :=
  ⟨h.lo, h.mono, Nat.le_trans h.hi hs, fun i hi => (h.at' i hi).keep fun b hb hlt => e b (Nat.le_trans (h.low i (by omega)) hb.1) hlt⟩
theorem BuiltSt.later {w w' : World} {lo j : Nat} {u : Nat → Value} {f : Nat → SD} {s : Nat → Nat} (h : BuiltSt w lo j u f s) (hb : Below w.heap.size w w') : BuiltSt w' lo j u f s := h.keep hb.size fun b _ hlt => hb.block b hlt
theorem BuiltSt.store {w : World} {lo j : Nat} {u : Nat → Value} {f : Nat → SD} {s : Nat → Nat} (h : BuiltSt w lo j u f s) {p : Addr} (hp : p.block < lo) (v : Value) : BuiltSt (w.setCell p v) lo j u f s :=
  h.keep (by simp [World.setCell]) fun b hb _ => Below.heap_setCell _ _ _ _ (by omega)
theorem BuiltSt.next {w w' : World} {lo j : Nat} {u : Nat → Value} {f : Nat → SD} {s : Nat → Nat} {vW : Value} (h : BuiltSt w lo j u f s) (hb : Below w.heap.size w w') (hv : SteU w' (.bool (f j).1) (.int .i64 (f j).2.1) vW (f j) (fresh w w')) :
    BuiltSt w' lo (j + 1) (fun i => if i = j then vW else u i) f (fun i => if i ≤ j then s i else w'.heap.size) := by
  have h' := h.later hb
  have en : ∀ i : Nat, ¬ i + 1 ≤ i := fun i => by omega
  refine ⟨by simpa using h.lo, fun i hi => ?_, by simp [en], fun i hi => ?_⟩
  · by_cases e : i = j
    · subst e; simp [en]; exact h'.hi
    · simp [show i ≤ j by omega, show i + 1 ≤ j by omega]; exact h.mono i (by omega)
  · by_cases e : i = j
    · subst e
      simp [en]
      exact hv.mono fun b hb => ⟨Nat.le_trans h.hi hb.1, hb.2⟩
    · simp [e, show i ≤ j by omega, show i + 1 ≤ j by omega]
      exact h'.at' i (by omega)
theorem BuiltSt.apart {w : World} {lo n : Nat} {u : Nat → Value} {f : Nat → SD} {s : Nat → Nat} (h : BuiltSt w lo n u f s) (i j c : Nat) (e : i ≠ j) (h1 : i < n ∧ s i ≤ c ∧ c < s (i + 1)) (h2 : j < n ∧ s j ≤ c ∧ c < s (j + 1)) : False := by
  rcases Nat.lt_or_gt_of_ne e with h3 | h3
  · have := h.le (i + 1) j (by omega) (by omega); omega
  · have := h.le (j + 1) i (by omega) (by omega); omega
theorem BuiltSt.inos {w : World} {lo n b cap : Nat} {u : Nat → Value} {s : Nat → Nat} (ds : List SD) (h : BuiltSt w lo n u (fun i => ds[i]?.getD sd0) s) (hn : ds.length = n) (hm : n ≤ maxLen ∧ n ≤ cap) (hb : b < lo) (hr : OwnRow w b (n * 3) (stCell ds u)) (F : Nat → Prop) (hF : F b) (hF' : ∀ c, lo ≤ c → c < w.heap.size → F c) :
    StpsO w (.slice (some ⟨b, 0, none⟩) n cap) ds F := by
  subst hn
  refine Or.inr ⟨b, cap, u, fun i c => i < ds.length ∧ s i ≤ c ∧ c < s (i + 1), hF, fun i c hc => ?_, fun i j c e h1 h2 => h.apart i j c e h1 h2, rfl, hm, hr, fun i hi => ?_⟩
  · have h1 := h.low i (by omega)
    have h2 := h.le (i + 1) ds.length (by omega) (Nat.le_refl _)
    have h3 := h.hi
    exact ⟨hF' c (by omega) (by omega), by omega⟩
  · exact (h.at' i hi).mono fun c hc => ⟨hi, hc⟩

/-- The cells of a row of steps of which the first j stand. -/
def zeroSt (j : Nat) : Value := if j % 3 = 0 then .bool false else if j % 3 = 1 then .int .i64 0 else .slice none 0 0
def partSt (ds : List SD) (u : Nat → Value) (j c : Nat) : Value := if c < j * 3 then stCell ds u c else zeroSt c
theorem partSt_next (ds : List SD) (u : Nat → Value) (j c : Nat) (vW : Value) :
    (if c = j * 3 + 2 then vW else if c = j * 3 + 1 then .int .i64 (ds[j]?.getD sd0).2.1 else if c = j * 3 then .bool (ds[j]?.getD sd0).1 else partSt ds u j c) = partSt ds (fun i => if i = j then vW else u i) (j + 1) c := by
  unfold partSt
  by_cases e2 : c = j * 3 + 2
  · subst e2; rw [if_pos rfl, if_pos (by omega), stCell_2]; simp
  · rw [if_neg e2]
    by_cases e1 : c = j * 3 + 1
    · subst e1; rw [if_pos rfl, if_pos (by omega), stCell_1]
    · rw [if_neg e1]
      by_cases e0 : c = j * 3
      · subst e0; rw [if_pos rfl, if_pos (by omega), stCell_0]
      · rw [if_neg e0]
        by_cases e : c < j * 3
        · rw [if_pos e, if_pos (by omega)]
          unfold stCell
          dsimp only
          rw [if_neg (show ¬ c / 3 = j by omega)]
        · rw [if_neg e, if_neg (by omega)]

/-- 'make' of n steps. -/
theorem run_make_three {P : Program} (t e : TypeId) (x0 x1 x2 : Value) (bytes : Nat) (ht : P.underlying t = some (.slice e)) (hinfo : (P.info? e).map (fun i => (i.zero, i.size, i.bytes)) = some (some (.agg #[x0, x1, x2]), 3, bytes)) (hz : (Value.agg #[x0, x1, x2]).cells = #[x0, x1, x2])
    (kl kc : IntKind) (n : Nat) (hbytes : bytes * n ≤ 281474976710656) (h63 : n ≤ 9223372036854775807) (w : World) :
    (Instr.makeSlice t (.int kl (n : Int)) (.int kc (n : Int))).run P w = .ok (.slice (some ⟨w.heap.size, 0, none⟩) n n) (w.alloc (.cells (madeCells #[x0, x1, x2] (n * 3)) e)) := by
  obtain ⟨i, hi, hzz⟩ := Option.map_eq_some_iff.1 hinfo
  simp only [Prod.mk.injEq] at hzz
  obtain ⟨h1, h2, h3⟩ := hzz
  have hb' : (i.bytes : Int) * (n : Int) ≤ 281474976710656 := by
    have h : ((i.bytes * n : Nat) : Int) ≤ 281474976710656 := by rw [h3]; omega
    rwa [Int.natCast_mul] at h
  have hr := run_make (P := P) w t e i _ ht hi h1 kl kc n n (by omega) (Int.le_refl _) hb' (by omega)
  simp only [Int.toNat_natCast, h2, hz] at hr
  exact hr
theorem OwnRow.madeThree (w : World) (n : Nat) (t : TypeId) : OwnRow (w.alloc (.cells (madeCells #[.bool false, .int .i64 0, .slice none 0 0] (n * 3)) t)) w.heap.size (n * 3) zeroSt := by
  refine ⟨_, t, Go.Deep.blk_alloc_new _ _, by rw [size_madeCells]; exact Nat.le_refl _, fun i hi => ?_⟩
  unfold madeCells zeroSt
  rw [Array.getElem?_map]
  have h1 : (Array.range (n * 3))[i]? = some i := by simp [hi]
  rw [h1]
  have : i % 3 = 0 ∨ i % 3 = 1 ∨ i % 3 = 2 := by omega
  rcases this with h | h | h <;> simp [h]
end Go.Proofs.Ytagmmgcdebgfnaa

namespace Go.Proofs.Ytagmmgcdebgfnaa
open Go.RowKit
set_option maxRecDepth 100000

set_option maxHeartbeats 400000 in
theorem szStps_many (w : World) (a : Option Addr) (n cap : Nat) (left : Int) (h0 : 0 ≤ left) (h1 : left ≤ 1048576) (hn : n ≤ maxLen) (h : left < (n : Int)) :
    Calls Try.prog 14 #[.slice a n cap, .int .i64 left] w fun e w' => e = .returned (.int .i64 (-1)) ∧ w' = w := by
  unfold maxLen at hn
  have h' : left - (n : Int) < 0 := by omega
  go_enter Try.func14, Try.ntmps14
  go_wp2
  go_ret
  exact ⟨rfl, rfl⟩

set_option maxHeartbeats 1600000 in
theorem szStps_walk (w : World) (a : Option Addr) (cap n : Nat) (left : Int) (ds : List SD) (hzn : ds.length = n) (h0 : 0 ≤ left) (h1 : left ≤ 1048576) (h2 : ¬ left < (n : Int)) (hc : AtStp w a n ds) :
    Calls Try.prog 14 #[.slice a n cap, .int .i64 left] w fun e w' => e = .returned (.int .i64 (szf left (n + (stz ds).sum))) ∧ Below w.heap.size w w' := by
  have HN : Hid (ds.length = n) := hzn
  have h2' : ¬ left - (n : Int) < 0 := by omega
  have HC : Hid (AtStp w a n ds) := hc
  clear hzn hc
  go_enter Try.func14, Try.ntmps14
  go_wp2
  go_loopw [1, 5] (fun q i wr => ∃ j : Nat, j ≤ n ∧ i = .int .i64 j ∧ q = .int .i64 (left - (n : Int) - (upto (stz ds) j : Nat)) ∧ 0 ≤ left - (n : Int) - (upto (stz ds) j : Nat) ∧ Below w.heap.size w wr) (fun _ i _ => n - (intOf i).toNat)
  case atStart => exact ⟨0, Nat.zero_le _, rfl, by simp [upto_zero], by simp [upto_zero]; omega, Below.refl _ _⟩
  case round =>
    obtain ⟨j, hj, rfl, rfl, hq, hbl⟩ := hrel
    by_cases hlt : j < n
    · obtain ⟨b, o, rfl, hI⟩ := HC.out j hlt
      obtain ⟨aB, cB, c0, c1, c2, hR⟩ := hI.later hbl
      have hs := upto_succ (stz ds) j (by rw [stz_length, HN.out]; exact hlt)
      rw [stz_get] at hs
      have hle := upto_le (stz ds) (j + 1)
      have HS : Hid (upto (stz ds) (j + 1) = upto (stz ds) j + sizeSte (ds[j]?.getD sd0)) := hs
      clear hs hI HC
      generalize upto (stz ds) j = U at *
      generalize ds[j]?.getD sd0 = d at *
      have HI : Hid (SteR wr _ _ _ d) := hR
      have HBL : Hid (Below w.heap.size w wr) := hbl
      clear hR hbl
      by_cases hm : left - (n : Int) - (U : Int) < ((sizeSte d : Nat) : Int)
      · have HM : Hid (szf left (n + (stz ds).sum) = -1) := szf_no (by have := HS.out; omega)
        have HR' : Hid (szf (left - (n : Int) - (U : Int)) (sizeSte d) = -1) := szf_no hm
        go_wp2_with fail
        refine (szStepU _ _ _ _ _ _ d HI.out _ hq (by omega)).mono ?_
        rw [HR'.out]
        rintro e w' ⟨rfl, hb⟩
        have HB : Hid (Below w.heap.size w w') := HBL.out.trans (hb.mono HBL.out.size)
        clear hb
        go_wp2
        go_ret
        exact ⟨ret_int HM.out.symm, HB.out⟩
      · have HR' : Hid (szf (left - (n : Int) - (U : Int)) (sizeSte d) = left - (n : Int) - (U : Int) - ((sizeSte d : Nat) : Int)) := szf_yes hm
        have hpos : ¬ (left - (n : Int) - (U : Int) - ((sizeSte d : Nat) : Int) < 0) := by omega
        go_wp2_with fail
        refine (szStepU _ _ _ _ _ _ d HI.out _ hq (by omega)).mono ?_
        rw [HR'.out]
        rintro e w' ⟨rfl, hb⟩
        have HB : Hid (Below w.heap.size w w') := HBL.out.trans (hb.mono HBL.out.size)
        clear hb
        go_wp2
        go_roundw
        case rel => exact ⟨j + 1, by omega, by go_num, by rw [HS.out]; go_num, by rw [HS.out]; omega, HB.out⟩
        case measure => simp [intOf]; omega
    · go_wp2
      go_ret
      have e : j = n := by omega
      subst e
      have ha := upto_all (stz ds)
      rw [stz_length, HN.out] at ha
      refine ⟨ret_int ?_, hbl⟩
      rw [ha] at hq ⊢
      rw [szf_yes (by omega)]
      omega

theorem szStpsU (w : World) (a : Option Addr) (n c : Nat) (d : List SD) (h : Stps w (.slice a n c) d) (left : Int) (l0 : 0 ≤ left) (l1 : left ≤ 1048576) :
    Calls Try.prog 14 #[.slice a n c, .int .i64 left] w fun e w' => e = .returned (.int .i64 (szf left (sizeStps d))) ∧ Below w.heap.size w w' := by
  obtain ⟨a', cap, e, hm, hc⟩ := h.open'
  simp only [Value.slice.injEq] at e
  obtain ⟨rfl, rfl, rfl⟩ := e
  by_cases h : left < (d.length : Int)
  · refine (szStps_many w _ d.length _ left l0 l1 hm.1 h).mono fun e w' ⟨he, hw⟩ => ⟨he.trans (ret_int ?_), hw ▸ Below.refl _ _⟩
    rw [szf_no (by unfold sizeStps; omega)]
  · exact szStps_walk w _ _ d.length left d rfl l0 l1 h hc

theorem toStepV (w : World) (aB : Option Addr) (nB cB : Nat) (d : SD) (h : SteR w (.bool d.1) (.int .i64 d.2.1) (.slice aB nB cB) d) (hs : sizeSte d ≤ 1048576) :
    Calls Try.prog 11 #[.agg #[.bool d.1, .int .i64 d.2.1, .slice aB nB cB]] w fun e w' => ∃ dB eB fB, e = .returned (.agg #[.bool d.1, .int .i64 d.2.1, .slice dB eB fB]) ∧ Below w.heap.size w w' ∧ SteU w' (.bool d.1) (.int .i64 d.2.1) (.slice dB eB fB) d (fresh w w') := by
  refine (toStepU w _ _ aB nB cB d h hs).mono ?_
  rintro e w' ⟨y0, y1, dB, eB, fB, rfl, hb, ⟨⟨e0, e1⟩, hu⟩⟩
  simp only [Value.int.injEq, Value.bool.injEq, true_and] at e0 e1
  subst e0 e1
  exact ⟨dB, eB, fB, rfl, hb, ⟨rfl, rfl⟩, hu⟩

theorem Try.infoSte : (Try.prog.info? 27).map (fun i => (i.zero, i.size, i.bytes)) = some (some (.agg #[.bool false, .int .i64 0, .slice none 0 0]), 3, 40) := by kernel_rfl

set_option maxHeartbeats 3200000 in
theorem toStps_walk (w : World) (a : Option Addr) (cap n : Nat) (ds : List SD) (hn : n ≤ 1048576) (hz : ∀ k : Nat, sizeSte (ds[k]?.getD sd0) ≤ 1048576) (hc : AtStp w a n ds) :
    Calls Try.prog 16 #[.slice a n cap] w fun e w' => e = .returned (.slice (some ⟨w.heap.size, 0, none⟩) n n) ∧ Below w.heap.size w w' ∧
      ∃ u s, OwnRow w' w.heap.size (n * 3) (stCell ds u) ∧ BuiltSt w' (w.heap.size + 1) n u (fun i => ds[i]?.getD sd0) s := by
  have hmk := fun w => run_make_three (P := Try.prog) 36 27 (.bool false) (.int .i64 0) (.slice none 0 0) 40 Try.underlying36 Try.infoSte rfl .i64 .i64 n (by omega) (by omega) w
  have HZ : Hid (∀ k : Nat, sizeSte (ds[k]?.getD sd0) ≤ 1048576) := hz
  have HC : Hid (AtStp w a n ds) := hc
  clear hz hc
  go_enter Try.func16, Try.ntmps16
  go_wp2
  clear hmk
  go_loopw [4] (fun i wr => ∃ j : Nat, j ≤ n ∧ i = .int .i64 j ∧ Below w.heap.size w wr ∧ ∃ u s, OwnRow wr w.heap.size (n * 3) (partSt ds u j) ∧ BuiltSt wr (w.heap.size + 1) j u (fun i => ds[i]?.getD sd0) s) (fun i _ => n - (intOf i).toNat)
  case atStart => exact ⟨0, Nat.zero_le _, rfl, later1 _ _, fun _ => .slice none 0 0, _, (OwnRow.madeThree w n 27).congr fun i _ => by simp [partSt], BuiltSt.nil _ _ (by simp)⟩
  case round =>
    obtain ⟨j, hj, rfl, hbl, u, s, hrow, hbt⟩ := hrel
    by_cases hlt : j < n
    · obtain ⟨b, o, rfl, hI⟩ := HC.out j hlt
      obtain ⟨aB, cB, c0, c1, c2, hR⟩ := hI.later hbl
      have HI : Hid (SteR wr _ _ _ (ds[j]?.getD sd0)) := hR
      have HBL : Hid (Below w.heap.size w wr) := hbl
      have HROW : Hid (OwnRow wr w.heap.size (n * 3) (partSt ds u j)) := hrow
      have HBT : Hid (BuiltSt wr (w.heap.size + 1) j u (fun i => ds[i]?.getD sd0) s) := hbt
      clear hI hR hbl hrow hbt HC
      go_wp2_with fail
      refine (toStepV _ _ _ _ _ HI.out (HZ.out j)).mono ?_
      rintro e w1 ⟨dB, eB, fB, rfl, hb1, ho1⟩
      have HB1 : Hid (Below wr.heap.size wr w1) := hb1
      have HO1 : Hid (SteU w1 _ _ (.slice dB eB fB) (ds[j]?.getD sd0) (fresh wr w1)) := ho1
      have HROW1 : Hid (OwnRow w1 w.heap.size (n * 3) (partSt ds u j)) := HROW.out.block (hb1.block _ HROW.out.lt)
      have zz : ∀ q, q < 3 → partSt ds u j (j * 3 + q) = zeroSt q := fun q hq => by unfold partSt zeroSt; rw [if_neg (by omega), show (j * 3 + q) % 3 = q % 3 by omega]
      have d0 : w1.cell? ⟨w.heap.size, j * 3, none⟩ = some (.bool false) := by rw [HROW1.out.cell (by omega)]; exact congrArg some (zz 0 (by omega))
      have d1 : w1.cell? ⟨w.heap.size, j * 3 + 1, none⟩ = some (.int .i64 0) := by rw [HROW1.out.cell (by omega), zz 1 (by omega)]; rfl
      have d2 : w1.cell? ⟨w.heap.size, j * 3 + 2, none⟩ = some (.slice none 0 0) := by rw [HROW1.out.cell (by omega), zz 2 (by omega)]; rfl
      have f0 := HROW1.out.frozen (j * 3)
      have f1 := HROW1.out.frozen (j * 3 + 1)
      have f2 := HROW1.out.frozen (j * 3 + 2)
      clear hb1 ho1 zz c0 c1 c2
      go_wp2
      go_roundw
      case rel =>
        refine ⟨j + 1, by omega, by go_num, (((HBL.out.trans (HB1.out.mono HBL.out.size)).setCell (Nat.le_refl _) _).setCell (Nat.le_refl _) _).setCell (Nat.le_refl _) _, _, _, (((HROW1.out.set (j * 3) _).set (j * 3 + 1) _).set (j * 3 + 2) _).congr fun c _ => partSt_next ds u j c _, (((HBT.out.next HB1.out HO1.out).store (by simp) _).store (by simp) _).store (by simp) _⟩
      case measure => simp [intOf]; omega
    · go_wp2
      go_ret
      have e : j = n := by omega
      subst e
      exact ⟨rfl, hbl, u, s, hrow.congr fun i hi => by simp [partSt, hi], hbt⟩

theorem toStpsU {w : World} {v : Value} {ds : List SD} (h : Stps w v ds) (hn : sizeStps ds ≤ 1048576) :
    Calls Try.prog 16 #[v] w fun e w' => ∃ a n c, e = .returned (.slice a n c) ∧ Below w.heap.size w w' ∧ StpsO w' (.slice a n c) ds (fresh w w') := by
  obtain ⟨a, cap, rfl, hm, hc⟩ := h.open'
  unfold sizeStps at hn
  refine (toStps_walk w a cap ds.length ds (by omega) (fun k => by have := stz_le ds k; omega) hc).mono fun e w' ⟨he, hb, u, s, hr, hbt⟩ => ⟨_, _, _, he, hb, ?_⟩
  exact BuiltSt.inos ds hbt rfl ⟨hm.1, Nat.le_refl _⟩ (Nat.lt_succ_self _) hr _ ⟨Nat.le_refl _, hr.lt⟩ (fun c h1 h2 => ⟨by omega, h2⟩)

set_option maxHeartbeats 3200000 in
theorem eqStps_walk (w : World) (a a' : Option Addr) (cap cap' n : Nat) (ds : List SD) (hn : n ≤ maxLen) (hc : AtStp w a n ds) (hc' : AtStp w a' n ds) :
    Calls Try.prog 19 #[.slice a n cap, .slice a' n cap'] w fun e w' => e = .returned (.bool true) ∧ Below w.heap.size w w' := by
  unfold maxLen at hn
  have HC : Hid (AtStp w a n ds) := hc
  have HC' : Hid (AtStp w a' n ds) := hc'
  clear hc hc'
  go_enter Try.func19, Try.ntmps19
  go_wp2
  go_loopw [5] (fun i wr => ∃ k : Nat, k ≤ n ∧ i = .int .i64 k ∧ Below w.heap.size w wr) (fun i _ => n - (intOf i).toNat)
  case atStart => exact ⟨0, Nat.zero_le _, rfl, Below.refl _ _⟩
  case round =>
    obtain ⟨j, hj, rfl, hbl⟩ := hrel
    by_cases hlt : j < n
    · obtain ⟨b, o, rfl, hI⟩ := HC.out j hlt
      obtain ⟨b', o', rfl, hI'⟩ := HC'.out j hlt
      obtain ⟨aB, cB, c0, c1, c2, hR⟩ := hI.later hbl
      obtain ⟨aB', cB', d0, d1, d2, hR'⟩ := hI'.later hbl
      clear hI hI' HC HC'
      have HI : Hid (SteR wr _ _ _ (ds[j]?.getD sd0)) := hR
      have HI' : Hid (SteR wr _ _ _ (ds[j]?.getD sd0)) := hR'
      have HBL : Hid (Below w.heap.size w wr) := hbl
      clear hbl hR hR'
      generalize ds[j]?.getD sd0 = d at *
      have HEQ : Hid (∀ W, Below wr.heap.size wr W → Calls Try.prog 13 #[.agg #[.bool d.1, .int .i64 d.2.1, .slice aB d.2.2.length cB], .agg #[.bool d.1, .int .i64 d.2.1, .slice aB' d.2.2.length cB']] W fun e w' => e = .returned (.bool true) ∧ Below W.heap.size W w') := fun W hW => eqStepU W _ _ _ _ _ _ d (HI.out.later hW) (HI'.out.later hW)
      clear HI HI'
      generalize d.2.2.length = m1 at *
      generalize d.1 = z0 at *
      generalize d.2.1 = z1 at *
      go_wp2_with fail
      go_region_with ((go_at_call 13; refine (HEQ.out _ (Below.refl _ _).drew).mono ?_; rintro e w' ⟨rfl, hb2⟩))
      all_goals
        go_wp2
        go_roundw
        case rel => exact ⟨j + 1, by omega, by go_num, (HBL.out.drew).trans (hb2.mono HBL.out.size)⟩
        case measure => simp [intOf]; omega
    · go_wp2
      go_ret
      exact ⟨rfl, hbl⟩
theorem eqStpsU {w : World} {v v' : Value} {ds : List SD} (h : Stps w v ds) (h' : Stps w v' ds) : Calls Try.prog 19 #[v, v'] w fun e w' => e = .returned (.bool true) ∧ Below w.heap.size w w' := by
  obtain ⟨a, cap, rfl, hm, hc⟩ := h.open'
  obtain ⟨a', cap', rfl, _, hc'⟩ := h'.open'
  exact eqStps_walk w a a' cap cap' ds.length ds hm.1 hc hc'
end Go.Proofs.Ytagmmgcdebgfnaa

namespace Go.Proofs.Ytagmmgcdebgfnaa
open Go.RowKit
set_option maxRecDepth 100000

theorem markCell_0 (k j : Nat) : markCell k (j * 2) = mkT (k + 2 * j) := by unfold markCell; rw [if_pos (by omega), show k + j * 2 = k + 2 * j by omega]
theorem markCell_1 (k j : Nat) : markCell k (j * 2 + 1) = .int .i64 ((k + 2 * j : Nat) + 1 : Int) := by unfold markCell; rw [if_neg (by omega)]; congr 1; omega

end Go.Proofs.Ytagmmgcdebgfnaa

namespace Go.Proofs.Ytagmmgcdebgfnaa
open Go.RowKit
set_option maxRecDepth 100000

theorem OwnRow.newV (w : World) (vs : List Value) (t : TypeId) : OwnRow (w.alloc (.cells vs.toArray t)) w.heap.size vs.length (fun i => vs[i]?.getD (.int .i64 0)) := by
  refine ⟨_, t, Go.Deep.blk_alloc_new _ _, by simp, fun i hi => ?_⟩
  simp [List.getElem?_eq_getElem hi]

/-- An inode whose lists are marked from k on. -/
def mkIno (k : Int) (d : ID) : ID := (d.1, d.2.1, d.2.2.1, marks k d.2.2.2.1.length, marksN (k + (d.2.2.2.1.length : Nat)).toNat d.2.2.2.2.length)

end Go.Proofs.Ytagmmgcdebgfnaa

namespace Go.Proofs.Ytagmmgcdebgfnaa
open Go.RowKit
set_option maxRecDepth 100000

def z5 : List Value := [.int .i64 0, .int .i64 0, .int .i64 0, .slice none 0 0, .slice none 0 0]
theorem box5 (w : World) (o1 o2 : Obj) (t : TypeId) (z0 z1 z2 : Value) :
    OwnRow (((w.alloc o1).alloc o2).alloc (.cells #[z0, z1, z2, .slice none 0 0, .slice none 0 0] t)) (w.heap.size + 1 + 1) 5 (fun i => if i = 0 then z0 else if i = 1 then z1 else if i = 2 then z2 else .slice none 0 0) := by
  have h := OwnRow.newV ((w.alloc o1).alloc o2) [z0, z1, z2, .slice none 0 0, .slice none 0 0] t
  simp only [World.size_alloc] at h
  refine OwnRow.congr (n := 5) h fun i hi => ?_
  have : i = 0 ∨ i = 1 ∨ i = 2 ∨ i = 3 ∨ i = 4 := by omega
  rcases this with rfl | rfl | rfl | rfl | rfl <;> simp
theorem box5' (w : World) (o1 o3 : Obj) (t : TypeId) :
    OwnRow (((w.alloc o1).alloc (.cells #[.int .i64 0, .int .i64 0, .int .i64 0, .slice none 0 0, .slice none 0 0] t)).alloc o3) (w.heap.size + 1) 5 (fun i => if i < 3 then .int .i64 0 else .slice none 0 0) := by
  have h := (OwnRow.newV (w.alloc o1) z5 t).later (later1 _ o3)
  simp only [World.size_alloc] at h
  refine OwnRow.congr (n := 5) h fun i hi => ?_
  have : i = 0 ∨ i = 1 ∨ i = 2 ∨ i = 3 ∨ i = 4 := by omega
  rcases this with rfl | rfl | rfl | rfl | rfl <;> simp [z5]
theorem box5p (w : World) (x0 x1 x2 x3 x4 : Value) (o2 o3 : Obj) (t : TypeId) :
    OwnRow (((w.alloc (.cells #[x0, x1, x2, x3, x4] t)).alloc o2).alloc o3) w.heap.size 5 (fun i => [x0, x1, x2, x3, x4][i]?.getD (.int .i64 0)) :=
  ((OwnRow.newV w [x0, x1, x2, x3, x4] t).later (later1 _ o2)).later (later1 _ o3)

theorem toIntsC {w : World} {v : Value} {zs : List Int} (h : Ints w v zs) (hn : zs.length ≤ 1048576) :
    Calls Try.prog 48 #[v] w fun e w' => ∃ a n c, e = .returned (.slice a n c) ∧ Below w.heap.size w w' ∧ IntsO w' (.slice a n c) zs (fresh w w') ∧ n ≤ c :=
  (toInts_any h hn).mono fun _ _ ⟨h1, h2, h3⟩ => ⟨_, _, _, h1, h2, h3, Nat.le_refl _⟩

end Go.Proofs.Ytagmmgcdebgfnaa

namespace Go.Proofs.Ytagmmgcdebgfnaa
open Go.RowKit
set_option maxRecDepth 100000

def byteV (b : UInt8) : Value := .int .u8 ((b.toNat : Nat) : Int)
def AtY (w : World) (a : Option Addr) (n : Nat) (zs : List UInt8) : Prop := ∀ k, k < n → ∃ b off, a = some ⟨b, off, none⟩ ∧ w.cell? ⟨b, off + k, none⟩ = some (.int .u8 (((zs[k]?.getD 0).toNat : Nat) : Int))
theorem AtY.later {w w' : World} {a : Option Addr} {n : Nat} {zs : List UInt8} (h : AtY w a n zs) (hb : Below w.heap.size w w') : AtY w' a n zs := fun k hk => by
  obtain ⟨b, off, e, c⟩ := h k hk
  exact ⟨b, off, e, cell_later hb c⟩
/-- The slice v reads as the bytes zs. -/
def Byt (w : World) (v : Value) (zs : List UInt8) : Prop := ∃ a cap, v = .slice a zs.length cap ∧ (zs.length ≤ maxLen ∧ zs.length ≤ cap) ∧ AtY w a zs.length zs
theorem Byt.later {w w' : World} {v : Value} {zs : List UInt8} (h : Byt w v zs) (hb : Below w.heap.size w w') : Byt w' v zs := by
  obtain ⟨a, cap, h1, h2, h3⟩ := h
  exact ⟨a, cap, h1, h2, h3.later hb⟩
theorem Byt.nil (w : World) (a : Option Addr) (cap : Nat) : Byt w (.slice a 0 cap) [] := ⟨a, cap, rfl, ⟨by simp, by simp⟩, fun k hk => by simp at hk⟩
/-- .. in one block of F. -/
def BytO (w : World) (v : Value) (zs : List UInt8) (F : Nat → Prop) : Prop :=
  (zs = [] ∧ ∃ a cap, v = .slice a 0 cap) ∨
  (∃ b cap, F b ∧ v = .slice (some ⟨b, 0, none⟩) zs.length cap ∧ (zs.length ≤ maxLen ∧ zs.length ≤ cap) ∧ OwnRow w b zs.length (fun i => .int .u8 (((zs[i]?.getD 0).toNat : Nat) : Int)))
theorem BytO.reads {w : World} {v : Value} {zs : List UInt8} {F : Nat → Prop} (h : BytO w v zs F) : Byt w v zs := by
  rcases h with ⟨rfl, a, cap, rfl⟩ | ⟨b, cap, _, h1, h2, h3⟩
  · exact Byt.nil w a cap
  · exact ⟨_, cap, h1, h2, fun k hk => ⟨b, 0, rfl, by rw [Nat.zero_add]; exact h3.cell hk⟩⟩
theorem BytO.keep {w w' : World} {v : Value} {zs : List UInt8} {F : Nat → Prop} (h : BytO w v zs F) (e : ∀ b, F b → b < w.heap.size → w'.heap[b]? = w.heap[b]?) : BytO w' v zs F := by
  rcases h with h | ⟨b, cap, hF, h1, h2, h3⟩
  · exact Or.inl h
  · exact Or.inr ⟨b, cap, hF, h1, h2, h3.block (e b hF h3.lt)⟩
theorem BytO.mono {w : World} {v : Value} {zs : List UInt8} {F G : Nat → Prop} (h : BytO w v zs F) (e : ∀ b, F b → G b) : BytO w v zs G := by
  rcases h with h | ⟨b, cap, hF, h1⟩
  · exact Or.inl h
  · exact Or.inr ⟨b, cap, e b hF, h1⟩
theorem BytO.bound {w : World} {v : Value} {zs : List UInt8} {F : Nat → Prop} (h : BytO w v zs F) : BytO w v zs (fun b => F b ∧ b < w.heap.size) := by
  rcases h with h | ⟨b, cap, hF, h1, h2, h3⟩
  · exact Or.inl h
  · exact Or.inr ⟨b, cap, ⟨hF, h3.lt⟩, h1, h2, h3⟩
theorem BytO.later {w w' : World} {v : Value} {zs : List UInt8} {F : Nat → Prop} (h : BytO w v zs F) (hb : Below w.heap.size w w') : BytO w' v zs F := h.keep fun b _ hlt => hb.block b hlt
theorem BytO.chg {w w' : World} {v : Value} {zs : List UInt8} {F G : Nat → Prop} (h : BytO w v zs F) (hc : Chg G w w') (hd : ∀ b, F b → ¬ G b) : BytO w' v zs F := h.keep fun b hb hlt => hc.block b hlt (hd b hb)

/-- Where lists of bytes lie. -/
def AtYs (w : World) (a : Option Addr) (n : Nat) (zss : List (List UInt8)) : Prop :=
  ∀ k, k < n → ∃ b off ua uc, a = some ⟨b, off, none⟩ ∧ w.cell? ⟨b, off + k, none⟩ = some (.slice ua (zss[k]?.getD []).length uc) ∧ Byt w (.slice ua (zss[k]?.getD []).length uc) (zss[k]?.getD [])
theorem AtYs.later {w w' : World} {a : Option Addr} {n : Nat} {zss : List (List UInt8)} (h : AtYs w a n zss) (hb : Below w.heap.size w w') : AtYs w' a n zss := fun k hk => by
  obtain ⟨b, off, ua, uc, e, c, r⟩ := h k hk
  exact ⟨b, off, ua, uc, e, cell_later hb c, r.later hb⟩
/-- The slice v reads as the lists of bytes zss. -/
def Byts (w : World) (v : Value) (zss : List (List UInt8)) : Prop := ∃ a cap, v = .slice a zss.length cap ∧ (zss.length ≤ maxLen ∧ zss.length ≤ cap) ∧ AtYs w a zss.length zss
theorem Byts.later {w w' : World} {v : Value} {zss : List (List UInt8)} (h : Byts w v zss) (hb : Below w.heap.size w w') : Byts w' v zss := by
  obtain ⟨a, cap, h1, h2, h3⟩ := h
  exact ⟨a, cap, h1, h2, h3.later hb⟩
theorem Byts.nil (w : World) (a : Option Addr) (cap : Nat) : Byts w (.slice a 0 cap) [] := ⟨a, cap, rfl, ⟨by simp, by simp⟩, fun k hk => by simp at hk⟩
theorem Byts.open' {w : World} {v : Value} {zss : List (List UInt8)} (h : Byts w v zss) : ∃ a cap, v = .slice a zss.length cap ∧ (zss.length ≤ maxLen ∧ zss.length ≤ cap) ∧ AtYs w a zss.length zss := h
/-- .. each in a block of its own. -/
def BytsO (w : World) (v : Value) (zss : List (List UInt8)) (F : Nat → Prop) : Prop :=
  (zss = [] ∧ ∃ a cap, v = .slice a 0 cap) ∨
  (∃ b cap, ∃ u : Nat → Value, ∃ G : Nat → Nat → Prop, F b ∧ (∀ i c, G i c → F c ∧ c ≠ b) ∧ (∀ i j c, i ≠ j → G i c → ¬ G j c) ∧
    v = .slice (some ⟨b, 0, none⟩) zss.length cap ∧ (zss.length ≤ maxLen ∧ zss.length ≤ cap) ∧ OwnRow w b zss.length u ∧ ∀ i, i < zss.length → BytO w (u i) (zss[i]?.getD []) (G i))
theorem BytsO.reads {w : World} {v : Value} {zss : List (List UInt8)} {F : Nat → Prop} (h : BytsO w v zss F) : Byts w v zss := by
  rcases h with ⟨rfl, a, cap, rfl⟩ | ⟨b, cap, u, G, _, _, _, h1, h2, h3, h4⟩
  · exact Byts.nil w a cap
  · refine ⟨_, cap, h1, h2, fun k hk => ?_⟩
    have hr := (h4 k hk).reads
    obtain ⟨ua, uc, e, h5, h6⟩ := hr
    have hc := h3.cell hk
    rw [e] at hc
    exact ⟨b, 0, ua, uc, rfl, by rw [Nat.zero_add]; exact hc, ua, uc, rfl, h5, h6⟩
theorem BytsO.keep {w w' : World} {v : Value} {zss : List (List UInt8)} {F : Nat → Prop} (h : BytsO w v zss F) (e : ∀ b, F b → b < w.heap.size → w'.heap[b]? = w.heap[b]?) : BytsO w' v zss F := by
  rcases h with h | ⟨b, cap, u, G, hF, hG, hGG, h1, h2, h3, h4⟩
  · exact Or.inl h
  · exact Or.inr ⟨b, cap, u, G, hF, hG, hGG, h1, h2, h3.block (e b hF h3.lt), fun i hi => (h4 i hi).keep fun c hc => e c (hG i c hc).1⟩
theorem BytsO.mono {w : World} {v : Value} {zss : List (List UInt8)} {F F' : Nat → Prop} (h : BytsO w v zss F) (e : ∀ b, F b → F' b) : BytsO w v zss F' := by
  rcases h with h | ⟨b, cap, u, G, hF, hG, h1⟩
  · exact Or.inl h
  · exact Or.inr ⟨b, cap, u, G, e b hF, fun i c hc => ⟨e c (hG i c hc).1, (hG i c hc).2⟩, h1⟩
theorem BytsO.bound {w : World} {v : Value} {zss : List (List UInt8)} {F : Nat → Prop} (h : BytsO w v zss F) : BytsO w v zss (fun b => F b ∧ b < w.heap.size) := by
  rcases h with h | ⟨b, cap, u, G, hF, hG, hGG, h1, h2, h3, h4⟩
  · exact Or.inl h
  · exact Or.inr ⟨b, cap, u, fun i c => G i c ∧ c < w.heap.size, ⟨hF, h3.lt⟩, fun i c hc => ⟨⟨(hG i c hc.1).1, hc.2⟩, (hG i c hc.1).2⟩, fun i j c e hc hc' => hGG i j c e hc.1 hc'.1, h1, h2, h3, fun i hi => (h4 i hi).bound⟩
theorem BytsO.later {w w' : World} {v : Value} {zss : List (List UInt8)} {F : Nat → Prop} (h : BytsO w v zss F) (hb : Below w.heap.size w w') : BytsO w' v zss F := h.keep fun b _ hlt => hb.block b hlt
theorem BytsO.chg {w w' : World} {v : Value} {zss : List (List UInt8)} {F G : Nat → Prop} (h : BytsO w v zss F) (hc : Chg G w w') (hd : ∀ b, F b → ¬ G b) : BytsO w' v zss F := h.keep fun b hb hlt => hc.block b hlt (hd b hb)
def ylens (zss : List (List UInt8)) : List Nat := zss.map List.length
theorem ylens_length (zss : List (List UInt8)) : (ylens zss).length = zss.length := by simp [ylens]
theorem ylens_get (zss : List (List UInt8)) (i : Nat) : (ylens zss)[i]?.getD 0 = (zss[i]?.getD []).length := by
  unfold ylens; rw [List.getElem?_map]; cases zss[i]? <;> rfl
def sizeByts (zss : List (List UInt8)) : Nat := zss.length + (ylens zss).sum
theorem ylens_le (zss : List (List UInt8)) (k : Nat) : (zss[k]?.getD []).length ≤ (ylens zss).sum := by
  by_cases h : k < zss.length
  · have h1 := upto_succ (ylens zss) k (by rw [ylens_length]; exact h)
    rw [ylens_get] at h1
    have h2 := upto_le (ylens zss) (k + 1)
    omega
  · rw [List.getElem?_eq_none (by omega)]; simp

/-- The first j lists stand, list i in the blocks from s i up to s (i + 1), none below lo. -/
structure BuiltY (w : World) (lo j : Nat) (u : Nat → Value) (f : Nat → List UInt8) (s : Nat → Nat) : Prop where
  lo : lo ≤ s 0
  mono : ∀ i, i < j → s i ≤ s (i + 1)
  hi : s j ≤ w.heap.size
  at' : ∀ i, i < j → BytO w (u i) (f i) (fun b => s i ≤ b ∧ b < s (i + 1))
theorem BuiltY.nil {w : World} {lo : Nat} (u : Nat → Value) (f : Nat → List UInt8) (h : lo ≤ w.heap.size) : BuiltY w lo 0 u f (fun _ => w.heap.size) :=
  ⟨h, fun i hi => by omega, Nat.le_refl _, fun i hi => by omega⟩
theorem BuiltY.le {w : World} {lo j : Nat} {u : Nat → Value} {f : Nat → List UInt8} {s : Nat → Nat} (h : BuiltY w lo j u f s) : ∀ i k, i ≤ k → k ≤ j → s i ≤ s k := by
  intro i k hik
  induction k with
  | zero => intro _; have : i = 0 := by omega
            subst this; exact Nat.le_refl _
  | succ k ih =>
    intro hk
    by_cases e : i = k + 1
    · subst e; exact Nat.le_refl _
    · exact Nat.le_trans (ih (by omega) (by omega)) (h.mono k (by omega))
theorem BuiltY.low {w : World} {lo j : Nat} {u : Nat → Value} {f : Nat → List UInt8} {s : Nat → Nat} (h : BuiltY w lo j u f s) (i : Nat) (hi : i ≤ j) : lo ≤ s i := Nat.le_trans h.lo (h.le 0 i (Nat.zero_le _) hi)
theorem BuiltY.keep {w w' : World} {lo j : Nat} {u : Nat → Value} {f : Nat → List UInt8} {s : Nat → Nat} (h : BuiltY w lo j u f s) (hs : w.heap.size ≤ w'.heap.size) (e : ∀ b, lo ≤ b → b < w.heap.size → w'.heap[b]? = w.heap[b]?) : BuiltY w' lo j u f s :=
  ⟨h.lo, h.mono, Nat.le_trans h.hi hs, fun i hi => (h.at' i hi).keep fun b hb hlt => e b (Nat.le_trans (h.low i (by omega)) hb.1) hlt⟩
theorem BuiltY.later {w w' : World} {lo j : Nat} {u : Nat → Value} {f : Nat → List UInt8} {s : Nat → Nat} (h : BuiltY w lo j u f s) (hb : Below w.heap.size w w') : BuiltY w' lo j u f s := h.keep hb.size fun b _ hlt => hb.block b hlt
theorem BuiltY.store {w : World} {lo j : Nat} {u : Nat → Value} {f : Nat → List UInt8} {s : Nat → Nat} (h : BuiltY w lo j u f s) {p : Addr} (hp : p.block < lo) (v : Value) : BuiltY (w.setCell p v) lo j u f s :=
  h.keep (by simp [World.setCell]) fun b hb _ => Below.heap_setCell _ _ _ _ (by omega)
theorem BuiltY.next {w w' : World} {lo j : Nat} {u : Nat → Value} {f : Nat → List UInt8} {s : Nat → Nat} {v : Value} (h : BuiltY w lo j u f s) (hb : Below w.heap.size w w') (hv : BytO w' v (f j) (fresh w w')) :
    BuiltY w' lo (j + 1) (fun i => if i = j then v else u i) f (fun i => if i ≤ j then s i else w'.heap.size) := by
  have h' := h.later hb
  have en : ∀ i : Nat, ¬ i + 1 ≤ i := fun i => by omega
  refine ⟨by simpa using h.lo, fun i hi => ?_, by simp [en], fun i hi => ?_⟩
  · by_cases e : i = j
    · subst e; simp [en]; exact h'.hi
    · simp [show i ≤ j by omega, show i + 1 ≤ j by omega]; exact h.mono i (by omega)
  · by_cases e : i = j
    · subst e
      simp [en]
      exact hv.mono fun b hb => ⟨Nat.le_trans h.hi hb.1, hb.2⟩
    · simp [e, show i ≤ j by omega, show i + 1 ≤ j by omega]
      exact h'.at' i (by omega)
theorem BuiltY.apart {w : World} {lo n : Nat} {u : Nat → Value} {f : Nat → List UInt8} {s : Nat → Nat} (h : BuiltY w lo n u f s) (i j c : Nat) (e : i ≠ j) (h1 : i < n ∧ s i ≤ c ∧ c < s (i + 1)) (h2 : j < n ∧ s j ≤ c ∧ c < s (j + 1)) : False := by
  rcases Nat.lt_or_gt_of_ne e with h3 | h3
  · have := h.le (i + 1) j (by omega) (by omega); omega
  · have := h.le (j + 1) i (by omega) (by omega); omega
theorem BuiltY.byts {w : World} {lo n b cap : Nat} {u : Nat → Value} {s : Nat → Nat} (zss : List (List UInt8)) (h : BuiltY w lo n u (fun i => zss[i]?.getD []) s) (hn : zss.length = n) (hm : n ≤ maxLen ∧ n ≤ cap) (hb : b < lo) (hr : OwnRow w b n u) (F : Nat → Prop) (hF : F b) (hF' : ∀ c, lo ≤ c → c < w.heap.size → F c) :
    BytsO w (.slice (some ⟨b, 0, none⟩) n cap) zss F := by
  subst hn
  refine Or.inr ⟨b, cap, u, fun i c => i < zss.length ∧ s i ≤ c ∧ c < s (i + 1), hF, fun i c hc => ?_, fun i j c e h1 h2 => h.apart i j c e h1 h2, rfl, hm, hr, fun i hi => ?_⟩
  · have h1 := h.low i (by omega)
    have h2 := h.le (i + 1) zss.length (by omega) (Nat.le_refl _)
    have h3 := h.hi
    exact ⟨hF' c (by omega) (by omega), by omega⟩
  · exact (h.at' i hi).mono fun c hc => ⟨hi, hc⟩
end Go.Proofs.Ytagmmgcdebgfnaa
