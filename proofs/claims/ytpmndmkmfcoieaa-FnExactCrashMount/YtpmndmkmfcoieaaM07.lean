/- Lists of inodes: how they read, what they own. No program is named here. Lists of steps: how they read, what they own. Lists of bits: how they read, and the walks of the laws' functions over them. The walk of the specification's copying of a disk: its two loops. FlushDisk and CrashDisk in the one form of the laws. The number of a disk: what SeqOf tells. Pure. -/
import Derived.Test.YtpmndmkmfcoieaaM06
import Derived.Test.YtpmndmkmfcoieaaM05
import Derived.Test.YtpmndmkmfcoieaaM04
import Derived.Test.YtpmndmkmfcoieaaM02
import Derived.Test.YtpmndmkmfcoieaaM03
namespace Go.Proofs.Ytpmndmkmfcoieaa
open Go.RowKit
set_option maxRecDepth 100000

def id0 : ID := (0, 0, 0, [], [])
/-- The cells of a row of inodes. -/
def inCell (ds : List ID) (u : Nat → Value × Value) (j : Nat) : Value :=
  if j % 5 = 0 then .int .i64 (ds[j / 5]?.getD id0).1 else if j % 5 = 1 then .int .i64 (ds[j / 5]?.getD id0).2.1 else if j % 5 = 2 then .int .i64 (ds[j / 5]?.getD id0).2.2.1 else if j % 5 = 3 then (u (j / 5)).1 else (u (j / 5)).2
theorem inCell_0 (ds : List ID) (u : Nat → Value × Value) (k : Nat) : inCell ds u (k * 5) = .int .i64 (ds[k]?.getD id0).1 := by
  unfold inCell; rw [if_pos (by omega), show k * 5 / 5 = k by omega]
theorem inCell_1 (ds : List ID) (u : Nat → Value × Value) (k : Nat) : inCell ds u (k * 5 + 1) = .int .i64 (ds[k]?.getD id0).2.1 := by
  unfold inCell; rw [if_neg (by omega), if_pos (by omega), show (k * 5 + 1) / 5 = k by omega]
theorem inCell_2 (ds : List ID) (u : Nat → Value × Value) (k : Nat) : inCell ds u (k * 5 + 2) = .int .i64 (ds[k]?.getD id0).2.2.1 := by
  unfold inCell; rw [if_neg (by omega), if_neg (by omega), if_pos (by omega), show (k * 5 + 2) / 5 = k by omega]
theorem inCell_3 (ds : List ID) (u : Nat → Value × Value) (k : Nat) : inCell ds u (k * 5 + 3) = (u k).1 := by
  unfold inCell; rw [if_neg (by omega), if_neg (by omega), if_neg (by omega), if_pos (by omega), show (k * 5 + 3) / 5 = k by omega]
theorem inCell_4 (ds : List ID) (u : Nat → Value × Value) (k : Nat) : inCell ds u (k * 5 + 4) = (u k).2 := by
  unfold inCell; rw [if_neg (by omega), if_neg (by omega), if_neg (by omega), if_neg (by omega), show (k * 5 + 4) / 5 = k by omega]

/-- Inode d lies at block b, place o. -/
def InoAt (w : World) (b o : Nat) (d : ID) : Prop :=
  ∃ aB cB aE cE, w.cell? ⟨b, o, none⟩ = some (.int .i64 d.1) ∧ w.cell? ⟨b, o + 1, none⟩ = some (.int .i64 d.2.1) ∧ w.cell? ⟨b, o + 2, none⟩ = some (.int .i64 d.2.2.1) ∧
    w.cell? ⟨b, o + 3, none⟩ = some (.slice aB d.2.2.2.1.length cB) ∧ w.cell? ⟨b, o + 4, none⟩ = some (.slice aE d.2.2.2.2.length cE) ∧
    InoR w (.int .i64 d.1) (.int .i64 d.2.1) (.int .i64 d.2.2.1) (.slice aB d.2.2.2.1.length cB) (.slice aE d.2.2.2.2.length cE) d
theorem InoAt.later {w w' : World} {b o : Nat} {d : ID} (h : InoAt w b o d) (hb : Below w.heap.size w w') : InoAt w' b o d := by
  obtain ⟨aB, cB, aE, cE, h0, h1, h2, h3, h4, h5⟩ := h
  exact ⟨aB, cB, aE, cE, cell_later hb h0, cell_later hb h1, cell_later hb h2, cell_later hb h3, cell_later hb h4, h5.later hb⟩
theorem InoAt.mk' {w : World} {b o : Nat} {d : ID} {vB vE : Value} (h0 : w.cell? ⟨b, o, none⟩ = some (.int .i64 d.1)) (h1 : w.cell? ⟨b, o + 1, none⟩ = some (.int .i64 d.2.1)) (h2 : w.cell? ⟨b, o + 2, none⟩ = some (.int .i64 d.2.2.1)) (h3 : w.cell? ⟨b, o + 3, none⟩ = some vB) (h4 : w.cell? ⟨b, o + 4, none⟩ = some vE)
    (h : InoR w (.int .i64 d.1) (.int .i64 d.2.1) (.int .i64 d.2.2.1) vB vE d) : InoAt w b o d := by
  obtain ⟨aB, cB, eB, _, _⟩ := h.2.1.open'
  obtain ⟨aE, cE, eE, _, _⟩ := h.2.2.open'
  subst eB eE
  exact ⟨aB, cB, aE, cE, h0, h1, h2, h3, h4, h⟩

/-- Where the inodes of a list lie. -/
def AtI (w : World) (a : Option Addr) (n : Nat) (ds : List ID) : Prop :=
  ∀ k, k < n → ∃ b o, a = some ⟨b, o, none⟩ ∧ InoAt w b (o + k * 5) (ds[k]?.getD id0)
theorem AtI.later {w w' : World} {a : Option Addr} {n : Nat} {ds : List ID} (h : AtI w a n ds) (hb : Below w.heap.size w w') : AtI w' a n ds := fun k hk => by
  obtain ⟨b, o, e, h1⟩ := h k hk
  exact ⟨b, o, e, h1.later hb⟩
/-- The slice v reads as the inodes ds. -/
def Inos (w : World) (v : Value) (ds : List ID) : Prop := ∃ a cap, v = .slice a ds.length cap ∧ (ds.length ≤ maxLen ∧ ds.length ≤ cap) ∧ AtI w a ds.length ds
theorem Inos.later {w w' : World} {v : Value} {ds : List ID} (h : Inos w v ds) (hb : Below w.heap.size w w') : Inos w' v ds := by
  obtain ⟨a, cap, h1, h2, h3⟩ := h
  exact ⟨a, cap, h1, h2, h3.later hb⟩
theorem Inos.nil (w : World) (a : Option Addr) (cap : Nat) : Inos w (.slice a 0 cap) [] := ⟨a, cap, rfl, ⟨by simp, by simp⟩, fun k hk => by simp at hk⟩
theorem Inos.open' {w : World} {v : Value} {ds : List ID} (h : Inos w v ds) : ∃ a cap, v = .slice a ds.length cap ∧ (ds.length ≤ maxLen ∧ ds.length ≤ cap) ∧ AtI w a ds.length ds := h

/-- The slice v holds the inodes ds; no two of their lists, nor the outer one, lie in one block. -/
def InosO (w : World) (v : Value) (ds : List ID) (F : Nat → Prop) : Prop :=
  (ds = [] ∧ ∃ a cap, v = .slice a 0 cap) ∨
  (∃ b cap, ∃ u : Nat → Value × Value, ∃ G : Nat → Nat → Prop, F b ∧ (∀ i c, G i c → F c ∧ c ≠ b) ∧ (∀ i j c, i ≠ j → G i c → ¬ G j c) ∧
    v = .slice (some ⟨b, 0, none⟩) ds.length cap ∧ (ds.length ≤ maxLen ∧ ds.length ≤ cap) ∧ OwnRow w b (ds.length * 5) (inCell ds u) ∧
    ∀ i, i < ds.length → InoU w (.int .i64 (ds[i]?.getD id0).1) (.int .i64 (ds[i]?.getD id0).2.1) (.int .i64 (ds[i]?.getD id0).2.2.1) (u i).1 (u i).2 (ds[i]?.getD id0) (G i))
theorem InosO.reads {w : World} {v : Value} {ds : List ID} {F : Nat → Prop} (h : InosO w v ds F) : Inos w v ds := by
  rcases h with ⟨rfl, a, cap, rfl⟩ | ⟨b, cap, u, G, _, _, _, h1, h2, h3, h4⟩
  · exact Inos.nil w a cap
  · refine ⟨_, cap, h1, h2, fun k hk => ⟨b, 0, rfl, ?_⟩⟩
    rw [Nat.zero_add]
    have e0 := h3.cell (i := k * 5) (by omega)
    have e1 := h3.cell (i := k * 5 + 1) (by omega)
    have e2 := h3.cell (i := k * 5 + 2) (by omega)
    have e3 := h3.cell (i := k * 5 + 3) (by omega)
    have e4 := h3.cell (i := k * 5 + 4) (by omega)
    rw [inCell_0] at e0
    rw [inCell_1] at e1
    rw [inCell_2] at e2
    rw [inCell_3] at e3
    rw [inCell_4] at e4
    exact InoAt.mk' e0 e1 e2 e3 e4 (h4 k hk).reads
theorem InosO.keep {w w' : World} {v : Value} {ds : List ID} {F : Nat → Prop} (h : InosO w v ds F) (e : ∀ b, F b → b < w.heap.size → w'.heap[b]? = w.heap[b]?) : InosO w' v ds F := by
  rcases h with h | ⟨b, cap, u, G, hF, hG, hGG, h1, h2, h3, h4⟩
  · exact Or.inl h
  · exact Or.inr ⟨b, cap, u, G, hF, hG, hGG, h1, h2, h3.block (e b hF h3.lt), fun i hi => (h4 i hi).keep fun c hc => e c (hG i c hc).1⟩
theorem InosO.mono {w : World} {v : Value} {ds : List ID} {F F' : Nat → Prop} (h : InosO w v ds F) (e : ∀ b, F b → F' b) : InosO w v ds F' := by
  rcases h with h | ⟨b, cap, u, G, hF, hG, h1⟩
  · exact Or.inl h
  · exact Or.inr ⟨b, cap, u, G, e b hF, fun i c hc => ⟨e c (hG i c hc).1, (hG i c hc).2⟩, h1⟩
theorem InosO.later {w w' : World} {v : Value} {ds : List ID} {F : Nat → Prop} (h : InosO w v ds F) (hb : Below w.heap.size w w') : InosO w' v ds F := h.keep fun b _ hlt => hb.block b hlt
theorem InosO.chg {w w' : World} {v : Value} {ds : List ID} {F G : Nat → Prop} (h : InosO w v ds F) (hc : Chg G w w') (hd : ∀ b, F b → ¬ G b) : InosO w' v ds F := h.keep fun b hb hlt => hc.block b hlt (hd b hb)

/-- How great lists of inodes are, and how far they are marked. -/
def isz (ds : List ID) : List Nat := ds.map sizeIno
theorem isz_length (ds : List ID) : (isz ds).length = ds.length := by simp [isz]
theorem isz_get (ds : List ID) (i : Nat) : (isz ds)[i]?.getD 0 = sizeIno (ds[i]?.getD id0) := by
  unfold isz; rw [List.getElem?_map]; cases ds[i]? <;> rfl
def sizeInos (ds : List ID) : Nat := ds.length + (isz ds).sum
def isp (ds : List ID) : List Nat := ds.map fun d => 3 + spanIno d
theorem isp_length (ds : List ID) : (isp ds).length = ds.length := by simp [isp]
theorem isp_get (ds : List ID) (i : Nat) (h : i < ds.length) : (isp ds)[i]?.getD 0 = 3 + spanIno (ds[i]?.getD id0) := by
  unfold isp; rw [List.getElem?_map, List.getElem?_eq_getElem h]; rfl
def spanInos (ds : List ID) : Nat := (isp ds).sum
theorem spanInos_le (ds : List ID) : spanInos ds ≤ 3 * sizeInos ds := by
  unfold spanInos sizeInos isp isz
  induction ds with
  | nil => simp
  | cons d ds ih =>
    have := spanIno_le d
    simp only [List.map_cons, List.sum_cons, List.length_cons] at ih ⊢
    omega
theorem isz_le (ds : List ID) (k : Nat) : sizeIno (ds[k]?.getD id0) ≤ (isz ds).sum := by
  by_cases h : k < ds.length
  · have h1 := upto_succ (isz ds) k (by rw [isz_length]; exact h)
    rw [isz_get] at h1
    have h2 := upto_le (isz ds) (k + 1)
    omega
  · rw [List.getElem?_eq_none (by omega)]; simp [sizeIno, sizeN, nlens, id0]

/-- The first j inodes stand, inode i in the blocks from s i up to s (i + 1), none below lo. -/
structure BuiltI (w : World) (lo j : Nat) (u : Nat → Value × Value) (f : Nat → ID) (s : Nat → Nat) : Prop where
  lo : lo ≤ s 0
  mono : ∀ i, i < j → s i ≤ s (i + 1)
  hi : s j ≤ w.heap.size
  at' : ∀ i, i < j → InoU w (.int .i64 (f i).1) (.int .i64 (f i).2.1) (.int .i64 (f i).2.2.1) (u i).1 (u i).2 (f i) (fun b => s i ≤ b ∧ b < s (i + 1))
theorem BuiltI.nil {w : World} {lo : Nat} (u : Nat → Value × Value) (f : Nat → ID) (h : lo ≤ w.heap.size) : BuiltI w lo 0 u f (fun _ => w.heap.size) :=
  ⟨h, fun i hi => by omega, Nat.le_refl _, fun i hi => by omega⟩
theorem BuiltI.le {w : World} {lo j : Nat} {u : Nat → Value × Value} {f : Nat → ID} {s : Nat → Nat} (h : BuiltI w lo j u f s) : ∀ i k, i ≤ k → k ≤ j → s i ≤ s k := by
  intro i k hik
  induction k with
  | zero => intro _; have : i = 0 := by omega
            subst this; exact Nat.le_refl _
  | succ k ih =>
    intro hk
    by_cases e : i = k + 1
    · subst e; exact Nat.le_refl _
    · exact Nat.le_trans (ih (by omega) (by omega)) (h.mono k (by omega))
theorem BuiltI.low {w : World} {lo j : Nat} {u : Nat → Value × Value} {f : Nat → ID} {s : Nat → Nat} (h : BuiltI w lo j u f s) (i : Nat) (hi : i ≤ j) : lo ≤ s i := Nat.le_trans h.lo (h.le 0 i (Nat.zero_le _) hi)
theorem BuiltI.keep {w w' : World} {lo j : Nat} {u : Nat → Value × Value} {f : Nat → ID} {s : Nat → Nat} (h : BuiltI w lo j u f s) (hs : w.heap.size ≤ w'.heap.size) (e : ∀ b, lo ≤ b → b < w.heap.size → w'.heap[b]? = w.heap[b]?) : BuiltI w' lo j u f s :=
  ⟨h.lo, h.mono, Nat.le_trans h.hi hs, fun i hi => (h.at' i hi).keep fun b hb hlt => e b (Nat.le_trans (h.low i (by omega)) hb.1) hlt⟩
theorem BuiltI.later {w w' : World} {lo j : Nat} {u : Nat → Value × Value} {f : Nat → ID} {s : Nat → Nat} (h : BuiltI w lo j u f s) (hb : Below w.heap.size w w') : BuiltI w' lo j u f s := h.keep hb.size fun b _ hlt => hb.block b hlt
theorem BuiltI.store {w : World} {lo j : Nat} {u : Nat → Value × Value} {f : Nat → ID} {s : Nat → Nat} (h : BuiltI w lo j u f s) {p : Addr} (hp : p.block < lo) (v : Value) : BuiltI (w.setCell p v) lo j u f s :=
  h.keep (by simp [World.setCell]) fun b hb _ => Below.heap_setCell _ _ _ _ (by omega)
theorem BuiltI.next {w w' : World} {lo j : Nat} {u : Nat → Value × Value} {f : Nat → ID} {s : Nat → Nat} {vB vE : Value} (h : BuiltI w lo j u f s) (hb : Below w.heap.size w w') (hv : InoU w' (.int .i64 (f j).1) (.int .i64 (f j).2.1) (.int .i64 (f j).2.2.1) vB vE (f j) (fresh w w')) :
    BuiltI w' lo (j + 1) (fun i => if i = j then (vB, vE) else u i) f (fun i => if i ≤ j then s i else w'.heap.size) := by
  have h' := h.later hb
  have en : ∀ i : Nat, ¬ i + 1 ≤ i := fun i => by omega
  refine ⟨by simpa using h.lo, fun i hi => ?_, by simp [en], fun i hi => ?_⟩
  · by_cases e : i = j
    · subst e; simp [en]; exact h'.hi
    · simp [show i ≤ j by omega, show i + 1 ≤ j by omega]; exact h.mono i (by omega)
  · by_cases e : i = j
    · subst e
      simp [en]
      exact hv.mono fun b hb => ⟨Nat.le_trans h.hi hb.1, hb.2⟩
    · simp [e, show i ≤ j by omega, show i + 1 ≤ j by omega]
      exact h'.at' i (by omega)
theorem BuiltI.apart {w : World} {lo n : Nat} {u : Nat → Value × Value} {f : Nat → ID} {s : Nat → Nat} (h : BuiltI w lo n u f s) (i j c : Nat) (e : i ≠ j) (h1 : i < n ∧ s i ≤ c ∧ c < s (i + 1)) (h2 : j < n ∧ s j ≤ c ∧ c < s (j + 1)) : False := by
  rcases Nat.lt_or_gt_of_ne e with h3 | h3
  · have := h.le (i + 1) j (by omega) (by omega); omega
  · have := h.le (j + 1) i (by omega) (by omega); omega
theorem BuiltI.inos {w : World} {lo n b cap : Nat} {u : Nat → Value × Value} {s : Nat → Nat} (ds : List ID) (h : BuiltI w lo n u (fun i => ds[i]?.getD id0) s) (hn : ds.length = n) (hm : n ≤ maxLen ∧ n ≤ cap) (hb : b < lo) (hr : OwnRow w b (n * 5) (inCell ds u)) (F : Nat → Prop) (hF : F b) (hF' : ∀ c, lo ≤ c → c < w.heap.size → F c) :
    InosO w (.slice (some ⟨b, 0, none⟩) n cap) ds F := by
  subst hn
  refine Or.inr ⟨b, cap, u, fun i c => i < ds.length ∧ s i ≤ c ∧ c < s (i + 1), hF, fun i c hc => ?_, fun i j c e h1 h2 => h.apart i j c e h1 h2, rfl, hm, hr, fun i hi => ?_⟩
  · have h1 := h.low i (by omega)
    have h2 := h.le (i + 1) ds.length (by omega) (Nat.le_refl _)
    have h3 := h.hi
    exact ⟨hF' c (by omega) (by omega), by omega⟩
  · exact (h.at' i hi).mono fun c hc => ⟨hi, hc⟩

/-- The cells of a row of inodes of which the first j stand. -/
def zeroI (j : Nat) : Value := if j % 5 < 3 then .int .i64 0 else .slice none 0 0
def partI (ds : List ID) (u : Nat → Value × Value) (j c : Nat) : Value := if c < j * 5 then inCell ds u c else zeroI c
theorem partI_next (ds : List ID) (u : Nat → Value × Value) (j c : Nat) (vB vE : Value) :
    (if c = j * 5 + 4 then vE else if c = j * 5 + 3 then vB else if c = j * 5 + 2 then .int .i64 (ds[j]?.getD id0).2.2.1 else if c = j * 5 + 1 then .int .i64 (ds[j]?.getD id0).2.1 else if c = j * 5 then .int .i64 (ds[j]?.getD id0).1 else partI ds u j c) = partI ds (fun i => if i = j then (vB, vE) else u i) (j + 1) c := by
  unfold partI
  by_cases e4 : c = j * 5 + 4
  · subst e4; rw [if_pos rfl, if_pos (by omega), inCell_4]; simp
  · rw [if_neg e4]
    by_cases e3 : c = j * 5 + 3
    · subst e3; rw [if_pos rfl, if_pos (by omega), inCell_3]; simp
    · rw [if_neg e3]
      by_cases e2 : c = j * 5 + 2
      · subst e2; rw [if_pos rfl, if_pos (by omega), inCell_2]
      · rw [if_neg e2]
        by_cases e1 : c = j * 5 + 1
        · subst e1; rw [if_pos rfl, if_pos (by omega), inCell_1]
        · rw [if_neg e1]
          by_cases e0 : c = j * 5
          · subst e0; rw [if_pos rfl, if_pos (by omega), inCell_0]
          · rw [if_neg e0]
            by_cases e : c < j * 5
            · rw [if_pos e, if_pos (by omega)]
              unfold inCell
              dsimp only
              rw [if_neg (show ¬ c / 5 = j by omega)]
            · rw [if_neg e, if_neg (by omega)]

/-- 'make' of n inodes. -/
theorem run_make_five {P : Program} (t e : TypeId) (x0 x1 x2 x3 x4 : Value) (bytes : Nat) (ht : P.underlying t = some (.slice e)) (hinfo : (P.info? e).map (fun i => (i.zero, i.size, i.bytes)) = some (some (.agg #[x0, x1, x2, x3, x4]), 5, bytes)) (hz : (Value.agg #[x0, x1, x2, x3, x4]).cells = #[x0, x1, x2, x3, x4])
    (kl kc : IntKind) (n : Nat) (hbytes : bytes * n ≤ 281474976710656) (h63 : n ≤ 9223372036854775807) (w : World) :
    (Instr.makeSlice t (.int kl (n : Int)) (.int kc (n : Int))).run P w = .ok (.slice (some ⟨w.heap.size, 0, none⟩) n n) (w.alloc (.cells (madeCells #[x0, x1, x2, x3, x4] (n * 5)) e)) := by
  obtain ⟨i, hi, hzz⟩ := Option.map_eq_some_iff.1 hinfo
  simp only [Prod.mk.injEq] at hzz
  obtain ⟨h1, h2, h3⟩ := hzz
  have hb' : (i.bytes : Int) * (n : Int) ≤ 281474976710656 := by
    have h : ((i.bytes * n : Nat) : Int) ≤ 281474976710656 := by rw [h3]; omega
    rwa [Int.natCast_mul] at h
  have hr := run_make (P := P) w t e i _ ht hi h1 kl kc n n (by omega) (Int.le_refl _) hb' (by omega)
  simp only [Int.toNat_natCast, h2, hz] at hr
  exact hr
theorem OwnRow.madeFive (w : World) (n : Nat) (t : TypeId) : OwnRow (w.alloc (.cells (madeCells #[.int .i64 0, .int .i64 0, .int .i64 0, .slice none 0 0, .slice none 0 0] (n * 5)) t)) w.heap.size (n * 5) zeroI := by
  refine ⟨_, t, Go.Deep.blk_alloc_new _ _, by rw [size_madeCells]; exact Nat.le_refl _, fun i hi => ?_⟩
  unfold madeCells zeroI
  rw [Array.getElem?_map]
  have h1 : (Array.range (n * 5))[i]? = some i := by simp [hi]
  rw [h1]
  have : i % 5 = 0 ∨ i % 5 = 1 ∨ i % 5 = 2 ∨ i % 5 = 3 ∨ i % 5 = 4 := by omega
  rcases this with h | h | h | h | h <;> simp [h]
end Go.Proofs.Ytpmndmkmfcoieaa

namespace Go.Proofs.Ytpmndmkmfcoieaa
open Go.RowKit
set_option maxRecDepth 100000

def sd0 : SD := (false, 0, [])
/-- The cells of a row of steps. -/
def stCell (ds : List SD) (u : Nat → Value) (j : Nat) : Value :=
  if j % 3 = 0 then .bool (ds[j / 3]?.getD sd0).1 else if j % 3 = 1 then .int .i64 (ds[j / 3]?.getD sd0).2.1 else u (j / 3)
theorem stCell_0 (ds : List SD) (u : Nat → Value) (k : Nat) : stCell ds u (k * 3) = .bool (ds[k]?.getD sd0).1 := by
  unfold stCell; rw [if_pos (by omega), show k * 3 / 3 = k by omega]
theorem stCell_1 (ds : List SD) (u : Nat → Value) (k : Nat) : stCell ds u (k * 3 + 1) = .int .i64 (ds[k]?.getD sd0).2.1 := by
  unfold stCell; rw [if_neg (by omega), if_pos (by omega), show (k * 3 + 1) / 3 = k by omega]
theorem stCell_2 (ds : List SD) (u : Nat → Value) (k : Nat) : stCell ds u (k * 3 + 2) = u k := by
  unfold stCell; rw [if_neg (by omega), if_neg (by omega), show (k * 3 + 2) / 3 = k by omega]

/-- Step d lies at block b, place o. -/
def StpAt (w : World) (b o : Nat) (d : SD) : Prop :=
  ∃ aW cW, w.cell? ⟨b, o, none⟩ = some (.bool d.1) ∧ w.cell? ⟨b, o + 1, none⟩ = some (.int .i64 d.2.1) ∧ w.cell? ⟨b, o + 2, none⟩ = some (.slice aW d.2.2.length cW) ∧
    SteR w (.bool d.1) (.int .i64 d.2.1) (.slice aW d.2.2.length cW) d
theorem StpAt.later {w w' : World} {b o : Nat} {d : SD} (h : StpAt w b o d) (hb : Below w.heap.size w w') : StpAt w' b o d := by
  obtain ⟨aW, cW, h0, h1, h2, h3⟩ := h
  exact ⟨aW, cW, cell_later hb h0, cell_later hb h1, cell_later hb h2, h3.later hb⟩
theorem StpAt.mk' {w : World} {b o : Nat} {d : SD} {vW : Value} (h0 : w.cell? ⟨b, o, none⟩ = some (.bool d.1)) (h1 : w.cell? ⟨b, o + 1, none⟩ = some (.int .i64 d.2.1)) (h2 : w.cell? ⟨b, o + 2, none⟩ = some vW)
    (h : SteR w (.bool d.1) (.int .i64 d.2.1) vW d) : StpAt w b o d := by
  obtain ⟨aW, cW, eW, _, _⟩ := h.2.open'
  subst eW
  exact ⟨aW, cW, h0, h1, h2, h⟩

/-- Where the steps of a list lie. -/
def AtStp (w : World) (a : Option Addr) (n : Nat) (ds : List SD) : Prop :=
  ∀ k, k < n → ∃ b o, a = some ⟨b, o, none⟩ ∧ StpAt w b (o + k * 3) (ds[k]?.getD sd0)
theorem AtStp.later {w w' : World} {a : Option Addr} {n : Nat} {ds : List SD} (h : AtStp w a n ds) (hb : Below w.heap.size w w') : AtStp w' a n ds := fun k hk => by
  obtain ⟨b, o, e, h1⟩ := h k hk
  exact ⟨b, o, e, h1.later hb⟩
/-- The slice v reads as the steps ds. -/
def Stps (w : World) (v : Value) (ds : List SD) : Prop := ∃ a cap, v = .slice a ds.length cap ∧ (ds.length ≤ maxLen ∧ ds.length ≤ cap) ∧ AtStp w a ds.length ds
theorem Stps.later {w w' : World} {v : Value} {ds : List SD} (h : Stps w v ds) (hb : Below w.heap.size w w') : Stps w' v ds := by
  obtain ⟨a, cap, h1, h2, h3⟩ := h
  exact ⟨a, cap, h1, h2, h3.later hb⟩
theorem Stps.nil (w : World) (a : Option Addr) (cap : Nat) : Stps w (.slice a 0 cap) [] := ⟨a, cap, rfl, ⟨by simp, by simp⟩, fun k hk => by simp at hk⟩
theorem Stps.open' {w : World} {v : Value} {ds : List SD} (h : Stps w v ds) : ∃ a cap, v = .slice a ds.length cap ∧ (ds.length ≤ maxLen ∧ ds.length ≤ cap) ∧ AtStp w a ds.length ds := h

/-- The slice v holds the steps ds; no two of their lists, nor the outer one, lie in one block. -/
def StpsO (w : World) (v : Value) (ds : List SD) (F : Nat → Prop) : Prop :=
  (ds = [] ∧ ∃ a cap, v = .slice a 0 cap) ∨
  (∃ b cap, ∃ u : Nat → Value, ∃ G : Nat → Nat → Prop, F b ∧ (∀ i c, G i c → F c ∧ c ≠ b) ∧ (∀ i j c, i ≠ j → G i c → ¬ G j c) ∧
    v = .slice (some ⟨b, 0, none⟩) ds.length cap ∧ (ds.length ≤ maxLen ∧ ds.length ≤ cap) ∧ OwnRow w b (ds.length * 3) (stCell ds u) ∧
    ∀ i, i < ds.length → SteU w (.bool (ds[i]?.getD sd0).1) (.int .i64 (ds[i]?.getD sd0).2.1) (u i) (ds[i]?.getD sd0) (G i))
theorem StpsO.reads {w : World} {v : Value} {ds : List SD} {F : Nat → Prop} (h : StpsO w v ds F) : Stps w v ds := by
  rcases h with ⟨rfl, a, cap, rfl⟩ | ⟨b, cap, u, G, _, _, _, h1, h2, h3, h4⟩
  · exact Stps.nil w a cap
  · refine ⟨_, cap, h1, h2, fun k hk => ⟨b, 0, rfl, ?_⟩⟩
    rw [Nat.zero_add]
    have e0 := h3.cell (i := k * 3) (by omega)
    have e1 := h3.cell (i := k * 3 + 1) (by omega)
    have e2 := h3.cell (i := k * 3 + 2) (by omega)
    rw [stCell_0] at e0
    rw [stCell_1] at e1
    rw [stCell_2] at e2
    exact StpAt.mk' e0 e1 e2 (h4 k hk).reads
theorem StpsO.keep {w w' : World} {v : Value} {ds : List SD} {F : Nat → Prop} (h : StpsO w v ds F) (e : ∀ b, F b → b < w.heap.size → w'.heap[b]? = w.heap[b]?) : StpsO w' v ds F := by
  rcases h with h | ⟨b, cap, u, G, hF, hG, hGG, h1, h2, h3, h4⟩
  · exact Or.inl h
  · exact Or.inr ⟨b, cap, u, G, hF, hG, hGG, h1, h2, h3.block (e b hF h3.lt), fun i hi => (h4 i hi).keep fun c hc => e c (hG i c hc).1⟩
theorem StpsO.mono {w : World} {v : Value} {ds : List SD} {F F' : Nat → Prop} (h : StpsO w v ds F) (e : ∀ b, F b → F' b) : StpsO w v ds F' := by
  rcases h with h | ⟨b, cap, u, G, hF, hG, h1⟩
  · exact Or.inl h
  · exact Or.inr ⟨b, cap, u, G, e b hF, fun i c hc => ⟨e c (hG i c hc).1, (hG i c hc).2⟩, h1⟩
theorem StpsO.later {w w' : World} {v : Value} {ds : List SD} {F : Nat → Prop} (h : StpsO w v ds F) (hb : Below w.heap.size w w') : StpsO w' v ds F := h.keep fun b _ hlt => hb.block b hlt
theorem StpsO.chg {w w' : World} {v : Value} {ds : List SD} {F G : Nat → Prop} (h : StpsO w v ds F) (hc : Chg G w w') (hd : ∀ b, F b → ¬ G b) : StpsO w' v ds F := h.keep fun b hb hlt => hc.block b hlt (hd b hb)

/-- How great lists of steps are, and how far they are marked. -/
def stz (ds : List SD) : List Nat := ds.map sizeSte
theorem stz_length (ds : List SD) : (stz ds).length = ds.length := by simp [stz]
theorem stz_get (ds : List SD) (i : Nat) : (stz ds)[i]?.getD 0 = sizeSte (ds[i]?.getD sd0) := by
  unfold stz; rw [List.getElem?_map]; cases ds[i]? <;> rfl
def sizeStps (ds : List SD) : Nat := ds.length + (stz ds).sum
def stp (ds : List SD) : List Nat := ds.map fun d => 2 + spanSte d
theorem stp_length (ds : List SD) : (stp ds).length = ds.length := by simp [stp]
theorem stp_get (ds : List SD) (i : Nat) (h : i < ds.length) : (stp ds)[i]?.getD 0 = 2 + spanSte (ds[i]?.getD sd0) := by
  unfold stp; rw [List.getElem?_map, List.getElem?_eq_getElem h]; rfl
def spanStps (ds : List SD) : Nat := (stp ds).sum
theorem spanStps_le (ds : List SD) : spanStps ds ≤ 2 * sizeStps ds := by
  unfold spanStps sizeStps stp stz
  induction ds with
  | nil => simp
  | cons d ds ih =>
    have : spanSte d = sizeSte d := rfl
    simp only [List.map_cons, List.sum_cons, List.length_cons] at ih ⊢
    omega
theorem stz_le (ds : List SD) (k : Nat) : sizeSte (ds[k]?.getD sd0) ≤ (stz ds).sum := by
  by_cases h : k < ds.length
  · have h1 := upto_succ (stz ds) k (by rw [stz_length]; exact h)
    rw [stz_get] at h1
    have h2 := upto_le (stz ds) (k + 1)
    omega
  · rw [List.getElem?_eq_none (by omega)]; exact Nat.zero_le _

/-- The first j steps stand, step i in the blocks from s i up to s (i + 1), none below lo. -/
structure BuiltSt (w : World) (lo j : Nat) (u : Nat → Value) (f : Nat → SD) (s : Nat → Nat) : Prop where
  lo : lo ≤ s 0
  mono : ∀ i, i < j → s i ≤ s (i + 1)
  hi : s j ≤ w.heap.size
  at' : ∀ i, i < j → SteU w (.bool (f i).1) (.int .i64 (f i).2.1) (u i) (f i) (fun b => s i ≤ b ∧ b < s (i + 1))
theorem BuiltSt.nil {w : World} {lo : Nat} (u : Nat → Value) (f : Nat → SD) (h : lo ≤ w.heap.size) : BuiltSt w lo 0 u f (fun _ => w.heap.size) :=
  ⟨h, fun i hi => by omega, Nat.le_refl _, fun i hi => by omega⟩
theorem BuiltSt.le {w : World} {lo j : Nat} {u : Nat → Value} {f : Nat → SD} {s : Nat → Nat} (h : BuiltSt w lo j u f s) : ∀ i k, i ≤ k → k ≤ j → s i ≤ s k := by
  intro i k hik
  induction k with
  | zero => intro _; have : i = 0 := by omega
            subst this; exact Nat.le_refl _
  | succ k ih =>
    intro hk
    by_cases e : i = k + 1
    · subst e; exact Nat.le_refl _
    · exact Nat.le_trans (ih (by omega) (by omega)) (h.mono k (by omega))
theorem BuiltSt.low {w : World} {lo j : Nat} {u : Nat → Value} {f : Nat → SD} {s : Nat → Nat} (h : BuiltSt w lo j u f s) (i : Nat) (hi : i ≤ j) : lo ≤ s i := Nat.le_trans h.lo (h.le 0 i (Nat.zero_le _) hi)
theorem BuiltSt.keep {w w' : World} {lo j : Nat} {u : Nat → Value} {f : Nat → SD} {s : Nat → Nat} (h : BuiltSt w lo j u f s) (hs : w.heap.size ≤ w'.heap.size) (e : ∀ b, lo ≤ b → b < w.heap.size → w'.heap[b]? = w.heap[b]?) : BuiltSt w' lo j u f s :=
  ⟨h.lo, h.mono, Nat.le_trans h.hi hs, fun i hi => (h.at' i hi).keep fun b hb hlt => e b (Nat.le_trans (h.low i (by omega)) hb.1) hlt⟩
theorem BuiltSt.later {w w' : World} {lo j : Nat} {u : Nat → Value} {f : Nat → SD} {s : Nat → Nat} (h : BuiltSt w lo j u f s) (hb : Below w.heap.size w w') : BuiltSt w' lo j u f s := h.keep hb.size fun b _ hlt => hb.block b hlt
theorem BuiltSt.store {w : World} {lo j : Nat} {u : Nat → Value} {f : Nat → SD} {s : Nat → Nat} (h : BuiltSt w lo j u f s) {p : Addr} (hp : p.block < lo) (v : Value) : BuiltSt (w.setCell p v) lo j u f s :=
  h.keep (by simp [World.setCell]) fun b hb _ => Below.heap_setCell _ _ _ _ (by omega)
theorem BuiltSt.next {w w' : World} {lo j : Nat} {u : Nat → Value} {f : Nat → SD} {s : Nat → Nat} {vW : Value} (h : BuiltSt w lo j u f s) (hb : Below w.heap.size w w') (hv : SteU w' (.bool (f j).1) (.int .i64 (f j).2.1) vW (f j) (fresh w w')) :
    BuiltSt w' lo (j + 1) (fun i => if i = j then vW else u i) f (fun i => if i ≤ j then s i else w'.heap.size) := by
  have h' := h.later hb
  have en : ∀ i : Nat, ¬ i + 1 ≤ i := fun i => by omega
  refine ⟨by simpa using h.lo, fun i hi => ?_, by simp [en], fun i hi => ?_⟩
  · by_cases e : i = j
    · subst e; simp [en]; exact h'.hi
    · simp [show i ≤ j by omega, show i + 1 ≤ j by omega]; exact h.mono i (by omega)
  · by_cases e : i = j
    · subst e
      simp [en]
      exact hv.mono fun b hb => ⟨Nat.le_trans h.hi hb.1, hb.2⟩
    · simp [e, show i ≤ j by omega, show i + 1 ≤ j by omega]
      exact h'.at' i (by omega)
theorem BuiltSt.apart {w : World} {lo n : Nat} {u : Nat → Value} {f : Nat → SD} {s : Nat → Nat} (h : BuiltSt w lo n u f s) (i j c : Nat) (e : i ≠ j) (h1 : i < n ∧ s i ≤ c ∧ c < s (i + 1)) (h2 : j < n ∧ s j ≤ c ∧ c < s (j + 1)) : False := by
  rcases Nat.lt_or_gt_of_ne e with h3 | h3
  · have := h.le (i + 1) j (by omega) (by omega); omega
  · have := h.le (j + 1) i (by omega) (by omega); omega
theorem BuiltSt.inos {w : World} {lo n b cap : Nat} {u : Nat → Value} {s : Nat → Nat} (ds : List SD) (h : BuiltSt w lo n u (fun i => ds[i]?.getD sd0) s) (hn : ds.length = n) (hm : n ≤ maxLen ∧ n ≤ cap) (hb : b < lo) (hr : OwnRow w b (n * 3) (stCell ds u)) (F : Nat → Prop) (hF : F b) (hF' : ∀ c, lo ≤ c → c < w.heap.size → F c) :
    StpsO w (.slice (some ⟨b, 0, none⟩) n cap) ds F := by
  subst hn
  refine Or.inr ⟨b, cap, u, fun i c => i < ds.length ∧ s i ≤ c ∧ c < s (i + 1), hF, fun i c hc => ?_, fun i j c e h1 h2 => h.apart i j c e h1 h2, rfl, hm, hr, fun i hi => ?_⟩
  · have h1 := h.low i (by omega)
    have h2 := h.le (i + 1) ds.length (by omega) (Nat.le_refl _)
    have h3 := h.hi
    exact ⟨hF' c (by omega) (by omega), by omega⟩
  · exact (h.at' i hi).mono fun c hc => ⟨hi, hc⟩

/-- The cells of a row of steps of which the first j stand. -/
def zeroSt (j : Nat) : Value := if j % 3 = 0 then .bool false else if j % 3 = 1 then .int .i64 0 else .slice none 0 0
def partSt (ds : List SD) (u : Nat → Value) (j c : Nat) : Value := if c < j * 3 then stCell ds u c else zeroSt c
theorem partSt_next (ds : List SD) (u : Nat → Value) (j c : Nat) (vW : Value) :
    (if c = j * 3 + 2 then vW else if c = j * 3 + 1 then .int .i64 (ds[j]?.getD sd0).2.1 else if c = j * 3 then .bool (ds[j]?.getD sd0).1 else partSt ds u j c) = partSt ds (fun i => if i = j then vW else u i) (j + 1) c := by
  unfold partSt
  by_cases e2 : c = j * 3 + 2
  · subst e2; rw [if_pos rfl, if_pos (by omega), stCell_2]; simp
  · rw [if_neg e2]
    by_cases e1 : c = j * 3 + 1
    · subst e1; rw [if_pos rfl, if_pos (by omega), stCell_1]
    · rw [if_neg e1]
      by_cases e0 : c = j * 3
      · subst e0; rw [if_pos rfl, if_pos (by omega), stCell_0]
      · rw [if_neg e0]
        by_cases e : c < j * 3
        · rw [if_pos e, if_pos (by omega)]
          unfold stCell
          dsimp only
          rw [if_neg (show ¬ c / 3 = j by omega)]
        · rw [if_neg e, if_neg (by omega)]

/-- 'make' of n steps. -/
theorem run_make_three {P : Program} (t e : TypeId) (x0 x1 x2 : Value) (bytes : Nat) (ht : P.underlying t = some (.slice e)) (hinfo : (P.info? e).map (fun i => (i.zero, i.size, i.bytes)) = some (some (.agg #[x0, x1, x2]), 3, bytes)) (hz : (Value.agg #[x0, x1, x2]).cells = #[x0, x1, x2])
    (kl kc : IntKind) (n : Nat) (hbytes : bytes * n ≤ 281474976710656) (h63 : n ≤ 9223372036854775807) (w : World) :
    (Instr.makeSlice t (.int kl (n : Int)) (.int kc (n : Int))).run P w = .ok (.slice (some ⟨w.heap.size, 0, none⟩) n n) (w.alloc (.cells (madeCells #[x0, x1, x2] (n * 3)) e)) := by
  obtain ⟨i, hi, hzz⟩ := Option.map_eq_some_iff.1 hinfo
  simp only [Prod.mk.injEq] at hzz
  obtain ⟨h1, h2, h3⟩ := hzz
  have hb' : (i.bytes : Int) * (n : Int) ≤ 281474976710656 := by
    have h : ((i.bytes * n : Nat) : Int) ≤ 281474976710656 := by rw [h3]; omega
    rwa [Int.natCast_mul] at h
  have hr := run_make (P := P) w t e i _ ht hi h1 kl kc n n (by omega) (Int.le_refl _) hb' (by omega)
  simp only [Int.toNat_natCast, h2, hz] at hr
  exact hr
theorem OwnRow.madeThree (w : World) (n : Nat) (t : TypeId) : OwnRow (w.alloc (.cells (madeCells #[.bool false, .int .i64 0, .slice none 0 0] (n * 3)) t)) w.heap.size (n * 3) zeroSt := by
  refine ⟨_, t, Go.Deep.blk_alloc_new _ _, by rw [size_madeCells]; exact Nat.le_refl _, fun i hi => ?_⟩
  unfold madeCells zeroSt
  rw [Array.getElem?_map]
  have h1 : (Array.range (n * 3))[i]? = some i := by simp [hi]
  rw [h1]
  have : i % 3 = 0 ∨ i % 3 = 1 ∨ i % 3 = 2 := by omega
  rcases this with h | h | h <;> simp [h]
end Go.Proofs.Ytpmndmkmfcoieaa

namespace Go.Proofs.Ytpmndmkmfcoieaa
open Go.RowKit
set_option maxRecDepth 100000

def Bools (w : World) (v : Value) (zs : List Bool) : Prop :=
  (zs = [] ∧ ∃ a cap, v = .slice a 0 cap) ∨
  (∃ b off cap, v = .slice (some ⟨b, off, none⟩) zs.length cap ∧ zs.length ≤ maxLen ∧ ∀ k, k < zs.length → w.cell? ⟨b, off + k, none⟩ = some (.bool (zs[k]?.getD false)))
theorem Bools.later {w wx : World} {v : Value} {zs : List Bool} (h : Bools w v zs) (hb : Below w.heap.size w wx) : Bools wx v zs := by
  rcases h with h | ⟨b, off, cap, h1, h2, h3⟩
  · exact Or.inl h
  · exact Or.inr ⟨b, off, cap, h1, h2, fun k hk => cell_later hb (h3 k hk)⟩
theorem Bools.open' {w : World} {v : Value} {zs : List Bool} (h : Bools w v zs) : ∃ a cap, v = .slice a zs.length cap ∧ zs.length ≤ maxLen ∧ AtBs w a zs.length zs := by
  rcases h with ⟨rfl, a, cap, rfl⟩ | ⟨b, off, cap, rfl, hl, hc⟩
  · exact ⟨a, cap, rfl, by simp, fun k hk => by simp at hk⟩
  · exact ⟨_, cap, rfl, hl, fun k hk => ⟨b, off, rfl, hc k hk⟩⟩
/-- .. in one block of F. -/
def BoolsO (w : World) (v : Value) (zs : List Bool) (F : Nat → Prop) : Prop :=
  (zs = [] ∧ ∃ a cap, v = .slice a 0 cap) ∨
  (∃ b cap, F b ∧ v = .slice (some ⟨b, 0, none⟩) zs.length cap ∧ zs.length ≤ maxLen ∧ OwnRow w b zs.length (fun i => .bool (zs[i]?.getD false)))
theorem BoolsO.reads {w : World} {v : Value} {zs : List Bool} {F : Nat → Prop} (h : BoolsO w v zs F) : Bools w v zs := by
  rcases h with h | ⟨b, cap, _, h1, h2, h3⟩
  · exact Or.inl h
  · exact Or.inr ⟨b, 0, cap, h1, h2, fun k hk => by rw [Nat.zero_add]; exact h3.cell hk⟩
theorem BoolsO.keep {w w' : World} {v : Value} {zs : List Bool} {F : Nat → Prop} (h : BoolsO w v zs F) (e : ∀ b, F b → b < w.heap.size → w'.heap[b]? = w.heap[b]?) : BoolsO w' v zs F := by
  rcases h with h | ⟨b, cap, hF, h1, h2, h3⟩
  · exact Or.inl h
  · exact Or.inr ⟨b, cap, hF, h1, h2, h3.block (e b hF h3.lt)⟩
theorem BoolsO.mono {w : World} {v : Value} {zs : List Bool} {F G : Nat → Prop} (h : BoolsO w v zs F) (e : ∀ b, F b → G b) : BoolsO w v zs G := by
  rcases h with h | ⟨b, cap, hF, h1⟩
  · exact Or.inl h
  · exact Or.inr ⟨b, cap, e b hF, h1⟩
theorem BoolsO.later {w w' : World} {v : Value} {zs : List Bool} {F : Nat → Prop} (h : BoolsO w v zs F) (hb : Below w.heap.size w w') : BoolsO w' v zs F := h.keep fun b _ hlt => hb.block b hlt
theorem BoolsO.chg {w w' : World} {v : Value} {zs : List Bool} {F G : Nat → Prop} (h : BoolsO w v zs F) (hc : Chg G w w') (hd : ∀ b, F b → ¬ G b) : BoolsO w' v zs F := h.keep fun b hb hlt => hc.block b hlt (hd b hb)

set_option maxHeartbeats 400000 in
theorem toBools_walk (w : World) (a : Option Addr) (cap n : Nat) (zs : List Bool) (hn : n ≤ 1048576) (hc : AtBs w a n zs) :
    Calls Try.prog 7 #[.slice a n cap] w fun e w' => e = .returned (.slice (some ⟨w.heap.size, 0, none⟩) n n) ∧ Below w.heap.size w w' ∧ OwnRow w' w.heap.size n (fun i => .bool (zs[i]?.getD false)) := by
  have hmk := fun w => run_make_row' (P := Try.prog) 26 4 (.bool false) 1 Try.underlying26 Try.infoBool rfl .i64 .i64 n (by omega) (by omega) w
  have HC : Hid (AtBs w a n zs) := hc
  clear hc
  go_enter Try.func7, Try.ntmps7
  go_wp2
  go_loopw [4] (fun i wr => ∃ j : Nat, j ≤ n ∧ i = .int .i64 j ∧ Below w.heap.size w wr ∧ OwnRow wr w.heap.size n (fun i => if i < j then .bool (zs[i]?.getD false) else .bool false)) (fun i _ => n - (intOf i).toNat)
  case atStart => exact ⟨0, Nat.zero_le _, rfl, later1 _ _, (OwnRow.made w (.bool false) n 4).congr fun i _ => by simp⟩
  case round =>
    obtain ⟨j, hj, rfl, hbl, hrow⟩ := hrel
    by_cases hlt : j < n
    · obtain ⟨b, off, rfl, c0⟩ := HC.out j hlt
      have c1 := cell_later hbl c0
      have d1 := hrow.cell hlt
      have d2 := hrow.frozen j
      simp only [Nat.lt_irrefl, if_false] at d1
      have HBL : Hid (Below w.heap.size w wr) := hbl
      have HROW : Hid (OwnRow wr w.heap.size n (fun i => if i < j then .bool (zs[i]?.getD false) else .bool false)) := hrow
      clear hbl hrow c0
      go_wp2
      go_roundw
      case rel =>
        refine ⟨j + 1, by omega, by go_num, HBL.out.setCell (Nat.le_refl _) _, (HROW.out.set j _).congr fun i hi => ?_⟩
        by_cases e : i = j
        · subst e; simp
        · by_cases e2 : i < j
          · simp [e, e2, show i < j + 1 by omega]
          · simp [e, e2, show ¬ i < j + 1 by omega]
      case measure => simp [intOf]; omega
    · go_wp2
      go_ret
      have e : j = n := by omega
      subst e
      exact ⟨rfl, hbl, hrow.congr fun i hi => by simp [hi]⟩
theorem toBoolsU {w : World} {v : Value} {zs : List Bool} (h : Bools w v zs) (hn : zs.length ≤ 1048576) :
    Calls Try.prog 7 #[v] w fun e w' => ∃ a n c, e = .returned (.slice a n c) ∧ Below w.heap.size w w' ∧ BoolsO w' (.slice a n c) zs (fresh w w') := by
  obtain ⟨a, cap, rfl, hm, hc⟩ := h.open'
  exact (toBools_walk w a cap zs.length zs hn hc).mono fun e w' ⟨he, hb, hr⟩ => ⟨_, _, _, he, hb, Or.inr ⟨w.heap.size, _, ⟨Nat.le_refl _, hr.lt⟩, rfl, hm, hr⟩⟩

set_option maxHeartbeats 400000 in
theorem eqBools_walk (w : World) (a a' : Option Addr) (cap cap' n : Nat) (zs : List Bool) (hn : n ≤ maxLen) (hc : AtBs w a n zs) (hc' : AtBs w a' n zs) :
    Calls Try.prog 11 #[.slice a n cap, .slice a' n cap'] w fun e w' => e = .returned (.bool true) ∧ ∃ m, w' = w.drewN m := by
  have HC : Hid (AtBs w a n zs) := hc
  have HC' : Hid (AtBs w a' n zs) := hc'
  unfold maxLen at hn
  clear hc hc'
  go_enter Try.func11, Try.ntmps11
  go_wp2
  go_loopw [5] (fun i wr => ∃ j : Nat, j ≤ n ∧ i = .int .i64 j ∧ ∃ m, wr = w.drewN m) (fun i _ => n - (intOf i).toNat)
  case atStart => exact ⟨0, Nat.zero_le _, rfl, 0, rfl⟩
  case round =>
    obtain ⟨j, hj, rfl, m, rfl⟩ := hrel
    by_cases hlt : j < n
    · obtain ⟨b, off, rfl, c0⟩ := HC.out j hlt
      obtain ⟨b', off', rfl, c1⟩ := HC'.out j hlt
      generalize zs[j]?.getD false = z at c0 c1
      cases z <;>
      · go_wp2_with fail
        go_quiet (fail)
        go_wp2
        go_roundw
        case rel => exact ⟨j + 1, by omega, by go_num, m + nq, rfl⟩
        case measure => simp [intOf]; omega
    · go_wp2
      go_ret
      exact ⟨rfl, m, rfl⟩
theorem eqBoolsU {w : World} {v v' : Value} {zs : List Bool} (h : Bools w v zs) (h' : Bools w v' zs) : Calls Try.prog 11 #[v, v'] w fun e w' => e = .returned (.bool true) ∧ Below w.heap.size w w' := by
  obtain ⟨a, cap, rfl, hm, hc⟩ := h.open'
  obtain ⟨a', cap', rfl, _, hc'⟩ := h'.open'
  exact (eqBools_walk w a a' cap cap' zs.length zs hm hc hc').mono fun _ _ ⟨h1, m, h2⟩ => ⟨h1, h2 ▸ below_drewN (Below.refl _ _) m⟩

theorem row_bool {w : World} {b n : Nat} {f : Nat → Bool} (h : OwnRow w b n (fun i => .bool (f i))) (j : Nat) (x : Bool) : ∃ g : Nat → Bool, OwnRow (w.setCell ⟨b, j, none⟩ (.bool x)) b n (fun i => .bool (g i)) :=
  ⟨fun i => if i = j then x else f i, (h.set j _).congr fun i _ => by by_cases e : i = j <;> simp [e]⟩

set_option maxHeartbeats 400000 in
theorem markBools_nil (w : World) (a : Option Addr) (cap : Nat) (k : Int) :
    Calls Try.prog 13 #[.slice a 0 cap, .int .i64 k] w fun e w' => e = .returned (.int .i64 k) ∧ w' = w := by
  go_enter Try.func13, Try.ntmps13
  go_wp2
  go_loop [1, 5] (fun q i => i = .int .i64 0 ∧ q = .int .i64 k) (fun _ _ => 0)
  case atStart => exact ⟨rfl, rfl⟩
  case round =>
    obtain ⟨rfl, rfl⟩ := hrel
    go_wp2
    go_ret
    exact ⟨rfl, rfl⟩

set_option maxHeartbeats 800000 in
theorem markBools_walk (w : World) (b cap n : Nat) (k : Int) (f : Nat → Bool) (hk0 : 0 ≤ k) (hk : k + (n : Int) ≤ 4611686018427387904) (hr : OwnRow w b n (fun i => .bool (f i))) :
    Calls Try.prog 13 #[.slice (some ⟨b, 0, none⟩) n cap, .int .i64 k] w fun e w' => e = .returned (.int .i64 (k + (n : Int))) ∧ Chg (fun c => c = b) w w' := by
  have HR : Hid (OwnRow w b n (fun i => .bool (f i))) := hr
  clear hr
  go_enter Try.func13, Try.ntmps13
  go_wp2
  go_loopw [1, 5] (fun q i wr => ∃ j : Nat, j ≤ n ∧ i = .int .i64 j ∧ q = .int .i64 (k + (j : Int)) ∧ Chg (fun c => c = b) w wr ∧ ∃ f : Nat → Bool, OwnRow wr b n (fun i => .bool (f i))) (fun _ i _ => n - (intOf i).toNat)
  case atStart => exact ⟨0, Nat.zero_le _, rfl, by simp, Chg.refl _ _, f, HR.out⟩
  case round =>
    obtain ⟨j, hj, rfl, rfl, hch, f', hrow⟩ := hrel
    by_cases hlt : j < n
    · have d1 := hrow.cell hlt
      have d2 := hrow.frozen j
      have HCH : Hid (Chg (fun c => c = b) w wr) := hch
      have HROW : Hid (OwnRow wr b n (fun i => .bool (f' i))) := hrow
      clear hch hrow
      generalize f' j = z at d1
      go_wp2
      go_roundw
      case rel =>
        exact ⟨j + 1, by omega, by go_num, by go_num, HCH.out.set rfl _ _, row_bool HROW.out j _⟩
      case measure => simp [intOf]; omega
    · go_wp2
      go_ret
      have e : j = n := by omega
      subst e
      exact ⟨rfl, hch⟩
theorem markBoolsU {w : World} {v : Value} {zs : List Bool} {F : Nat → Prop} (k : Int) (h : BoolsO w v zs F) (hk0 : 0 ≤ k) (hk : k + (zs.length : Nat) ≤ 4611686018427387904) :
    Calls Try.prog 13 #[v, .int .i64 k] w fun e w' => e = .returned (.int .i64 (k + (zs.length : Nat))) ∧ Chg F w w' := by
  rcases h with ⟨rfl, a, cap, rfl⟩ | ⟨b, cap, hF, rfl, hl, hr⟩
  · exact (markBools_nil w a cap k).mono fun e w' ⟨he, hw⟩ => ⟨by rw [he]; simp, hw ▸ Chg.refl _ _⟩
  · exact (markBools_walk w b cap zs.length k _ hk0 hk hr).mono fun e w' ⟨he, hc⟩ => ⟨he, hc.mono fun c hc => hc ▸ hF⟩
end Go.Proofs.Ytpmndmkmfcoieaa

namespace Go.Proofs.Ytpmndmkmfcoieaa
open Go.RowKit
set_option maxRecDepth 100000

set_option maxHeartbeats 6400000 in
theorem l1Copy_said : L1CopySaid := by
  intro w aB aC nB cB nC cC bs ps hbl hpl g1 g2 hz hzp hB hP
  have HBL : Hid (bs.length = nB) := hbl
  have HPL : Hid (ps.length = nC) := hpl
  have HZ : Hid (∀ k : Nat, (bs[k]?.getD []).length ≤ 1048576) := hz
  have HZP : Hid (∀ k : Nat, (ps[k]?.getD (0, [])).2.length ≤ 1048576) := hzp
  have HB : Hid (AtS w aB nB bs) := hB
  have HP : Hid (AtP w aC nC ps) := hP
  clear hbl hpl hz hzp hB hP
  obtain ⟨tj, hi, h1, h2, h3⟩ := Try.infoInts'
  have HTJ : Hid (Try.prog.info? 56 = some tj ∧ tj.zero = some (.slice none 0 0) ∧ tj.size = 1 ∧ tj.bytes = 24) := ⟨hi, h1, h2, h3⟩
  clear hi h1 h2 h3
  go_enter Try.func80, Try.ntmps80
  go_wp2_with fail
  go_loopw [4] (fun i wr => ∃ j : Nat, j ≤ nB ∧ i = .int .i64 j ∧ Below w.heap.size w wr ∧ w.heap.size + 3 ≤ wr.heap.size ∧ Box2 wr w.heap.size (.slice aB nB cB) (.slice aC nC cC) ∧ OwnRow wr (w.heap.size + 1) 2 (fun c => if c = 0 then .slice none 0 0 else .slice none 0 0) ∧
    ∃ aX cX k u, OwnRow wr (w.heap.size + 2) 2 (fun c => if c = 0 then .slice aX j cX else .slice none 0 0) ∧ LRow C1 wr (w.heap.size + 3) (w.heap.size + 3) 56 1 (.slice aX j cX) j (fun i => bs[i]?.getD []) k u) (fun i _ => nB - (intOf i).toNat)
  case atStart =>
    refine ⟨0, Nat.zero_le _, rfl, later3 _ _ _ _, by simp, ((Box2.new _ _ _ _).later (later1 _ _)).later (later1 _ _), ?_, none, 0, fun _ => 0, fun _ => .slice none 0 0, ?_, LRow.nil _ _ _ _ _ _⟩
    · have := (OwnRow.two (w.alloc (.cells #[.slice aB nB cB, .slice aC nC cC] 30)) (.slice none 0 0) (.slice none 0 0) 30).later (later1 _ (.cells #[.slice none 0 0, .slice none 0 0] 30))
      simpa using this
    · have := OwnRow.two ((w.alloc (.cells #[.slice aB nB cB, .slice aC nC cC] 30)).alloc (.cells #[.slice none 0 0, .slice none 0 0] 30)) (.slice none 0 0) (.slice none 0 0) 30
      simpa using this
  case round =>
    obtain ⟨j, hj, rfl, hbw, hsz, hbx, hres, aX, cX, k, u, hrow, hlr⟩ := hrel
    have HBW : Hid (Below w.heap.size w wr) := hbw
    have HBX : Hid (Box2 wr w.heap.size (.slice aB nB cB) (.slice aC nC cC)) := hbx
    have HRES : Hid (OwnRow wr (w.heap.size + 1) 2 (fun c => if c = 0 then .slice none 0 0 else .slice none 0 0)) := hres
    have HROW : Hid (OwnRow wr (w.heap.size + 2) 2 (fun c => if c = 0 then .slice aX j cX else .slice none 0 0)) := hrow
    have HLR : Hid (LRow C1 wr (w.heap.size + 3) (w.heap.size + 3) 56 1 (.slice aX j cX) j (fun i => bs[i]?.getD []) k u) := hlr
    clear hbw hbx hres hrow hlr
    obtain ⟨b0, b1⟩ := HBX.out
    by_cases hlt : j < nB
    · obtain ⟨b, off, ua, ucap, e, c1, i1⟩ := HB.out j hlt
      subst e
      replace c1 := cell_later HBW.out c1
      have HI : Hid (Ints wr (.slice ua (bs[j]?.getD []).length ucap) (bs[j]?.getD [])) := i1.later HBW.out
      clear i1
      have q0 := HROW.out.cell (i := 0) (by omega)
      have q1 := HROW.out.frozen 0
      simp at q0
      have hbig : w.heap.size + 2 < wr.heap.size := by omega
      go_wp2_with fail
      go_region_law (first
        | (refine step_append_run rfl _ _ 22 rfl _ _ rfl rfl _ _ HR.out ?_)
        | (go_simp; go_at_call 57; refine (l1Ints_more ?_ (HZ.out j)).mono ?_; exact HI.out; rintro e w1 ⟨na, nc, rfl, hb1, ho1, hs1⟩
           obtain ⟨kb, hk1, hk2, hkf⟩ := ho1.one hs1
           obtain ⟨hi, h1, h2, h3⟩ := HTJ.out
           obtain ⟨g2, cap2, X, hr, hXb, hBX, hXs, hLX⟩ := LRow.append wr w1 22 22 56 tj _ 1 24 Try.underlying22 hi h1 h2 h3 rfl (by decide) (by decide) (w.heap.size + 3) (w.heap.size + 3) j _ _ k u HLR.out hsz (by omega) ((Below.refl _ _).drew.trans hb1) na nc rfl (fun x hx => by simp [C1] at hx; subst hx; rfl) kb (Nat.le_trans hsz hk1) hk2 (fun e => by have := (HLR.out.own.lt _ e).2; exact absurd hk1 (by show ¬ wr.heap.size ≤ kb; omega)) (fun i hi e => by have := (HLR.out.lo i hi).2; exact absurd hk1 (by show ¬ wr.heap.size ≤ kb; omega)) hkf
           have HR : Hid (_ = _) := hr
           have z0 := cell_later hb1 q0
           have z3 := cell_later hb1 b0
           have z4 := cell_later hb1 c1
           have HBX2 : Hid (Below (w.heap.size + 3) wr X) := hBX
           have HLX := hLX
           have HLX2 : Hid (LRow C1 X (w.heap.size + 3) (w.heap.size + 3) 56 1 (.slice (some ⟨g2, 0, none⟩) (j + 1) cap2) (j + 1) (fun i => bs[i]?.getD []) _ _) := HLX
           have x0 : X.cell? ⟨w.heap.size + 2, 0, none⟩ = some (.slice aX j cX) := (hBX.cell (p := ⟨w.heap.size + 2, 0, none⟩) (by simp)).trans q0
           have x1 : X.frozen? ⟨w.heap.size + 2, 0, none⟩ = false := (hBX.frozen (p := ⟨w.heap.size + 2, 0, none⟩) (by simp)).trans q1
           have hw1 : w.heap.size + 2 < w1.heap.size := Nat.lt_of_lt_of_le hbig hb1.size
           have hw0 : w.heap.size < w1.heap.size := Nat.lt_of_le_of_lt (Nat.le_add_right _ 2) hw1
           clear hr hXb hBX hLX HLX hb1 ho1 hs1 hkf hk1 hk2 hi h1 h2 h3 hXs))
      all_goals
        go_wp2
        go_roundw
        case rel =>
          refine ⟨j + 1, by omega, by go_num, (HBW.out.trans (HBX2.out.mono (by omega))).setCell (by simp; omega) _, ?_, ?_, (HRES.out.block (HBX2.out.block _ (by omega))).store (by simp) _, some ⟨g2, 0, none⟩, cap2, _, _, ((HROW.out.block (HBX2.out.block _ (by omega))).set 0 _).congr fun c hc => ?_, HLX2.out.store (by simp) (by simp) _⟩
          · have := HBX2.out.size; simp [World.setCell]; omega
          · have hb := World.cell?_of_block (w := X) (a := ⟨w.heap.size, 0, none⟩) (Below.heap_setCell X ⟨w.heap.size + 2, 0, none⟩ (.slice (some ⟨g2, 0, none⟩) (j + 1) cap2) w.heap.size (by simp))
            have hb' := World.cell?_of_block (w := X) (a := ⟨w.heap.size, 1, none⟩) (Below.heap_setCell X ⟨w.heap.size + 2, 0, none⟩ (.slice (some ⟨g2, 0, none⟩) (j + 1) cap2) w.heap.size (by simp))
            exact ⟨hb.trans ((HBX2.out.cell (p := ⟨w.heap.size, 0, none⟩) (by simp)).trans b0), hb'.trans ((HBX2.out.cell (p := ⟨w.heap.size, 1, none⟩) (by simp)).trans b1)⟩
          · have : c = 0 ∨ c = 1 := by omega
            rcases this with rfl | rfl <;> simp
        case measure => simp [intOf]; omega
    · have e : j = nB := by omega
      subst e
      have HC0 : Hid (Copy2 w wr.heap.size aB aC aX j cB nC cC cX bs ps wr 0) := ⟨HBW.out, Nat.le_refl _, HBX.out, HRES.out, HLR.out.intsS HBL.out _ (fun c h1 h2 => ⟨h1, h2⟩) (fun c h1 h2 => ⟨h1, h2⟩), none, 0, fun _ => 0, fun _ => .slice none 0 0, HROW.out, LRow.nil _ _ _ _ _ _⟩
      clear HLR hlt hj HB HBW HBX HRES HROW
      go_wp2_with fail
      clear b0 b1
      generalize hS : wr.heap.size = S at *
      clear hS
      go_loopw [5] (fun i wq => ∃ q : Nat, q ≤ nC ∧ i = .int .i64 q ∧ Copy2 w S aB aC aX j cB nC cC cX bs ps wq q) (fun i _ => nC - (intOf i).toNat)
      case atStart => exact ⟨0, Nat.zero_le _, rfl, HC0.out⟩
      case round =>
        obtain ⟨q, hq, rfl, hcp⟩ := hrel
        have HCP : Hid (Copy2 w S aB aC aX j cB nC cC cX bs ps wr q) := hcp
        obtain ⟨hbw, hsq, ⟨b0, c0⟩, hres, his, aY, cY, k, u, hrow, hlr⟩ := hcp
        by_cases hqn : q < nC
        · obtain ⟨b, off, ua, ucap, e, c1, c2, i1⟩ := HP.out q hqn
          subst e
          have hblt : b < w.heap.size := World.block_lt_of_cell? _ _ c1
          replace c1 := cell_later hbw c1
          replace c2 := cell_later hbw c2
          have HK := l1Ints_put wr S q _ _ (fun i => ps[i]?.getD (0, [])) k u hlr hsq (by omega) (i1.later hbw) (HZP.out q)
          have HK2 : Hid (Calls _ _ _ _ _) := HK
          have p0 := hrow.cell (i := 1) (by omega)
          have p1 := hrow.frozen 1
          simp at p0
          have hbw2 : w.heap.size + 2 < wr.heap.size := hrow.lt
          have hS3 : w.heap.size + 2 < S := hsz
          clear i1 HK hbw hres his hrow hlr HC0 HP HZ HBL HPL HTJ b0
          go_wp2_with fail
          go_region_law
            (first
              | (refine step_append_run rfl _ _ 28 rfl _ _ rfl rfl _ _ HR.out ?_)
              | (go_simp; go_at_call 57; refine HK2.out.mono ?_; rintro e w1 ⟨na, nc, g2, cap2, X, k', u', rfl, HR, hb1, hBX, HL⟩
                 have o0 := cell_later hb1 p0
                 have z0 := cell_later hb1 c0
                 have z1 := cell_later hb1 c1
                 have z2 := cell_later hb1 c2
                 have x3 := (hBX.cell (p := ⟨w.heap.size + 2, 1, none⟩) hS3).trans p0
                 have x4 := (hBX.frozen (p := ⟨w.heap.size + 2, 1, none⟩) hS3).trans p1
                 have hw1 := Nat.lt_of_lt_of_le hbw2 hb1.size
                 have HX : Hid (Below S wr X) := hBX
                 clear hb1 hBX))
          all_goals
            go_wp2
            go_roundw
            case rel => exact ⟨q + 1, by omega, by go_num, HCP.out.next hS3 HX.out HL.out⟩
            case measure => simp [intOf]; omega
        · have e : q = nC := by omega
          subst e
          have q0 := hrow.cell (i := 0) (by omega)
          have q1 := hrow.cell (i := 1) (by omega)
          have r0 := hres.cell (i := 0) (by omega)
          have r1 := hres.cell (i := 1) (by omega)
          have r2 := hres.frozen 0
          have r3 := hres.frozen 1
          simp at q0 q1 r0 r1
          have HB5 : Hid (Below w.heap.size w wr) := hbw
          have HI5 : Hid (IntsSO wr (.slice aX j cX) bs (fun c => w.heap.size + 3 ≤ c ∧ c < S)) := his
          have HL5 : Hid (LRow (C2 fun i => (ps[i]?.getD (0, [])).1) wr S S 72 2 (.slice aY q cY) q (fun i => (ps[i]?.getD (0, [])).2) k u) := hlr
          clear hbw his hlr hrow hres
          go_wp2
          refine bodyPost_ret (v := .agg #[.slice aX j cX, .slice aY q cY]) (by simp [results, Try.results80, go_sem, r0, r1]) rfl ⟨S, aX, cX, aY, cY, k, u, rfl, (HB5.out.setCell (by simp) _).setCell (by simp) _, by omega, by simpa [World.setCell] using hsq, ?_, (HL5.out.store (by simp; omega) (by simp; omega) _).store (by simp; omega) (by simp; omega) _⟩
          exact ((HI5.out.store (fun b hb => by simp; omega) _).store (fun b hb => by simp; omega) _).mono fun b hb => ⟨by omega, hb.2⟩
end Go.Proofs.Ytpmndmkmfcoieaa

namespace Go.Proofs.Ytpmndmkmfcoieaa
open Go.RowKit
set_option maxRecDepth 100000

def flushR (d : DK) : Int × DK := (faultF d.1 d.2, keepBlocks (fun _ => true) d.1 d.2, [])
def crashR (d : DK) (bb : List Bool) : Int × DK := (faultF d.1 d.2, keepBlocks (fun i => bb[i]?.getD false) d.1 d.2, [])
theorem small_blocks {d : DK} (h : sizeDisk d ≤ 1048576) (k : Nat) : (d.1[k]?.getD []).length ≤ 1048576 := by
  have := len_le_sum d.1 k
  unfold sizeDisk dsize at h
  omega
theorem small_puts {d : DK} (h : sizeDisk d ≤ 1048576) (k : Nat) : (d.2[k]?.getD (0, [])).2.length ≤ 1048576 := by
  have := wlen_le_sum d.2 k
  unfold sizeDisk dsize at h
  omega
theorem sum_le_mul {zss : List (List Int)} {M : Nat} (h : ∀ i : Nat, (zss[i]?.getD []).length ≤ M) : (zss.map List.length).sum ≤ zss.length * M := by
  induction zss with
  | nil => simp
  | cons a t ih =>
    have h0 := h 0
    have ht := ih fun i => by simpa using h (i + 1)
    simp at h0
    simp only [List.map_cons, List.sum_cons, List.length_cons, Nat.add_mul, Nat.one_mul]
    omega
theorem keepSpan (pk : Nat → Bool) (d : DK) (h : sizeDisk d ≤ 1048576) : spanDisk (keepBlocks pk d.1 d.2, []) ≤ 70000000 := by
  unfold keepBlocks
  split
  · rename_i hf
    have h1 := sum_le_mul (keepTo_len pk d.1 d.2 (small_blocks h) (small_puts h) d.2.length)
    rw [keepTo_length] at h1
    have h2 := (faultF_lens hf).1
    have h3 := Nat.mul_le_mul_right 1048576 h2
    simp only [spanDisk, dspan, wlens, List.map_nil, List.sum_nil, List.length_nil]
    omega
  · simp [spanDisk, dspan, wlens]

theorem specCrashU (w : World) (aB : Option Addr) (nB cB : Nat) (aC : Option Addr) (nC cC : Nat) (d : DK) (a : Option Addr) (n c : Nat) (bb : List Bool) (h : DiskR w (.slice aB nB cB) (.slice aC nC cC) d) (hb : Bools w (.slice a n c) bb) (s : sizeDisk d ≤ 1048576) (_s : bb.length ≤ 1048576) :
    Calls Try.prog 33 #[.agg #[.slice aB nB cB, .slice aC nC cC], .slice a n c] w (AnsDR w (crashR d bb)) := by
  obtain ⟨a', c', e, _, hA⟩ := hb.open'
  rw [e]
  exact (specCrash_any l1Copy_said w _ _ a' c' d.1 d.2 bb h.1 h.2 hA (small_blocks s) (small_puts s)).mono fun _ _ h => h.uni
theorem implCrashU (w : World) (aB : Option Addr) (nB cB : Nat) (aC : Option Addr) (nC cC : Nat) (d : DK) (a : Option Addr) (n c : Nat) (bb : List Bool) (h : DiskR w (.slice aB nB cB) (.slice aC nC cC) d) (hb : Bools w (.slice a n c) bb) (s : sizeDisk d ≤ 1048576) (_s : bb.length ≤ 1048576) :
    Calls Try.prog 41 #[.agg #[.slice aB nB cB, .slice aC nC cC], .slice a n c] w (AnsDR w (crashR d bb)) := by
  obtain ⟨a', c', e, _, hA⟩ := hb.open'
  rw [e]
  exact (implCrash_any w _ _ a' c' d.1 d.2 bb h.1 h.2 hA (small_blocks s) (small_puts s)).mono fun _ _ h => h.uni
end Go.Proofs.Ytpmndmkmfcoieaa

namespace Go.Proofs.Ytpmndmkmfcoieaa
open Go.RowKit
set_option maxRecDepth 100000

/-- What is wrong of a disk that is to have a file system. -/
def sizF (d : DK) : Int := if faultF d.1 d.2 = 0 then (if d.1.length = 47 then 0 else 1) else faultF d.1 d.2
def superB (zs : List Int) : Bool := decide (zs.length = 2) && decide (zs[0]?.getD 0 = 7) && decide ((1 : Int) ≤ zs[1]?.getD 0 ∧ zs[1]?.getD 0 ≤ (60000 : Int))
def seqR (d : DK) : Int × Int := if sizF d = 0 then (if superB (atF d.1 d.2 0) = true then (0, (atF d.1 d.2 0)[1]?.getD 0) else (5, 0)) else (sizF d, 0)
theorem sizF_zero {d : DK} (h : sizF d = 0) : faultF d.1 d.2 = 0 ∧ d.1.length = 47 := by
  unfold sizF at h
  by_cases h1 : faultF d.1 d.2 = 0
  · rw [if_pos h1] at h
    by_cases h2 : d.1.length = 47
    · exact ⟨h1, h2⟩
    · rw [if_neg h2] at h; omega
  · rw [if_neg h1] at h; exact absurd h h1
theorem seqR_zero {d : DK} (h : (seqR d).1 = 0) : sizF d = 0 ∧ superB (atF d.1 d.2 0) = true ∧ (seqR d).2 = (atF d.1 d.2 0)[1]?.getD 0 := by
  unfold seqR at h ⊢
  by_cases h1 : sizF d = 0
  · rw [if_pos h1] at h ⊢
    by_cases h2 : superB (atF d.1 d.2 0) = true
    · rw [if_pos h2]; exact ⟨h1, h2, rfl⟩
    · rw [if_neg h2] at h; simp at h
  · rw [if_neg h1] at h; exact absurd h h1
theorem superB_in {zs : List Int} (h : superB zs = true) : zs.length = 2 ∧ zs[0]?.getD 0 = (7 : Int) ∧ (1 : Int) ≤ zs[1]?.getD 0 ∧ zs[1]?.getD 0 ≤ (60000 : Int) := by
  unfold superB at h
  simp only [Bool.and_eq_true, decide_eq_true_eq] at h
  exact ⟨h.1.1, h.1.2, h.2⟩

/-- A drive that is open: block bd leads to the disk d. -/
structure DrvK (w : World) (bd : Nat) (d : DK) : Prop where
  at' : ∃ aB cB aP cP, w.cell? ⟨bd, 0, none⟩ = some (.slice aB d.1.length cB) ∧ w.cell? ⟨bd, 1, none⟩ = some (.slice aP d.2.length cP) ∧ AtS w aB d.1.length d.1 ∧ AtC w aP d.2.length d.2
  g1 : d.1.length ≤ 60
  g2 : d.2.length ≤ 200
  hz : ∀ k : Nat, (d.1[k]?.getD []).length ≤ 1048576
  hzp : ∀ k : Nat, (d.2[k]?.getD (0, [])).2.length ≤ 1048576
theorem AtC.later {w w' : World} {a : Option Addr} {n : Nat} {ps : List (Int × List Int)} (h : AtC w a n ps) (hb : Below w.heap.size w w') : AtC w' a n ps := fun i hi => by
  obtain ⟨g, pb, ua, uc, e, c0, c1, c2, r⟩ := h i hi
  exact ⟨g, pb, ua, uc, e, cell_later hb c0, cell_later hb c1, cell_later hb c2, r.later hb⟩
theorem DrvK.later {w w' : World} {bd : Nat} {d : DK} (h : DrvK w bd d) (hb : Below w.heap.size w w') : DrvK w' bd d := by
  obtain ⟨aB, cB, aP, cP, c0, c1, h1, h2⟩ := h.at'
  exact ⟨⟨aB, cB, aP, cP, cell_later hb c0, cell_later hb c1, h1.later hb, h2.later hb⟩, h.g1, h.g2, h.hz, h.hzp⟩
/-- What a drive reads. -/
theorem read_drv {w : World} {bd : Nat} {d : DK} (h : DrvK w bd d) (x : Nat) (hx : x < d.1.length) :
    Calls Try.prog 64 #[.pointer (some ⟨bd, 0, none⟩), .int .i64 (x : Int)] w fun e w' => ∃ a n c, e = .returned (.slice a n c) ∧ Below w.heap.size w w' ∧ IntsO w' (.slice a n c) (atF d.1 d.2 x) (fresh w w') := by
  obtain ⟨aB, cB, aP, cP, c0, c1, h1, h2⟩ := h.at'
  exact read_any w bd aB aP d.1.length cB d.2.length cP d.1 d.2 x hx h.g1 rfl h.g2 c0 c1 h1 h2 h.hz h.hzp
theorem le_sumN (l : List Nat) (k : Nat) : l[k]?.getD 0 ≤ l.sum := by
  induction l generalizing k with
  | nil => simp
  | cons a l ih =>
    rw [List.sum_cons]
    cases k with
    | zero => simp
    | succ k => have := ih k; simp only [List.getElem?_cons_succ]; omega
theorem dsize_blk {d : DK} (hs : sizeDisk d ≤ 1048576) (k : Nat) : (d.1[k]?.getD []).length ≤ 1048576 := by
  have h1 := le_sumN (d.1.map List.length) k
  have h2 : (d.1.map List.length)[k]?.getD 0 = (d.1[k]?.getD []).length := by rw [List.getElem?_map]; cases d.1[k]? <;> rfl
  unfold sizeDisk dsize at hs
  omega
theorem dsize_put {d : DK} (hs : sizeDisk d ≤ 1048576) (k : Nat) : (d.2[k]?.getD (0, [])).2.length ≤ 1048576 := by
  have h1 := le_sumN (wlens d.2) k
  have h2 : (wlens d.2)[k]?.getD 0 = (d.2[k]?.getD (0, [])).2.length := by unfold wlens; rw [List.getElem?_map]; cases d.2[k]? <;> rfl
  unfold sizeDisk dsize at hs
  omega
/-- A disk is opened. -/
theorem open_drv {w : World} {aB aC : Option Addr} {nB cB nC cC : Nat} {d : DK} (h : DiskR w (.slice aB nB cB) (.slice aC nC cC) d) (hf : faultF d.1 d.2 = 0) (hs : sizeDisk d ≤ 1048576) :
    Calls Try.prog 59 #[.agg #[.slice aB nB cB, .slice aC nC cC]] w fun e w' => ∃ bd, e = .returned (.pointer (some ⟨bd, 0, none⟩)) ∧ Below w.heap.size w w' ∧ DrvK w' bd d := by
  obtain ⟨g1, g2⟩ := faultF_lens hf
  obtain ⟨_, _, e1, _, sB⟩ := h.1.open'
  simp only [Value.slice.injEq] at e1
  obtain ⟨rfl, rfl, rfl⟩ := e1
  obtain ⟨_, _, e2, _, sP⟩ := h.2.open'
  simp only [Value.slice.injEq] at e2
  obtain ⟨rfl, rfl, rfl⟩ := e2
  have hz : ∀ k : Nat, (d.1[k]?.getD []).length ≤ 1048576 := dsize_blk hs
  have hzp : ∀ k : Nat, (d.2[k]?.getD (0, [])).2.length ≤ 1048576 := dsize_put hs
  refine (openDisk_walk w _ _ _ cB _ cC d.1 d.2 rfl rfl g1 g2 (fun k _ => hz k) (fun k _ => hzp k) sB sP).mono ?_
  rintro e w2 ⟨bd, g, aP, cP, pb, k, u, rfl, hdr⟩
  have c0 := hdr.row.cell (i := 0) (by omega)
  have c1 := hdr.row.cell (i := 1) (by omega)
  simp at c0 c1
  obtain ⟨_, _, hvB, _, hSB⟩ := hdr.blocks.ints.open'
  simp only [Value.slice.injEq] at hvB
  obtain ⟨rfl, -, rfl⟩ := hvB
  exact ⟨bd, rfl, hdr.below, ⟨⟨_, _, _, _, c0, c1, hSB, hdr.cache.at⟩, g1, g2, hz, hzp⟩⟩
end Go.Proofs.Ytpmndmkmfcoieaa
