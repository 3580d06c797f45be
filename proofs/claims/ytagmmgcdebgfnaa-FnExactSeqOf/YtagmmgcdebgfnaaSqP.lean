
/- The number of a disk: what SeqOf tells. Pure. -/
import Derived.Test.YtagmmgcdebgfnaaUni
import Derived.Test.YtagmmgcdebgfnaaAtB
namespace Go.Proofs.Ytagmmgcdebgfnaa
open Go.RowKit
set_option maxRecDepth 100000

/-- What is wrong of a disk that is to have a file system. -/
def sizF (d : DK) : Int := if faultF d.1 d.2 = 0 then (if d.1.length = 47 then 0 else 1) else faultF d.1 d.2
def superB (zs : List Int) : Bool := decide (zs.length = 2) && decide (zs[0]?.getD 0 = 7) && decide ((1 : Int) ≤ zs[1]?.getD 0 ∧ zs[1]?.getD 0 ≤ (60000 : Int))
def seqR (d : DK) : Int × Int := if sizF d = 0 then (if superB (atF d.1 d.2 0) = true then (0, (atF d.1 d.2 0)[1]?.getD 0) else (5, 0)) else (sizF d, 0)
theorem sizF_zero {d : DK} (h : sizF d = 0) : faultF d.1 d.2 = 0 ∧ d.1.length = 47 := by
  unfold sizF at h
  by_cases h1 : faultF d.1 d.2 = 0
  · rw [if_pos h1] at h
    by_cases h2 : d.1.length = 47
    · exact ⟨h1, h2⟩
    · rw [if_neg h2] at h; omega
  · rw [if_neg h1] at h; exact absurd h h1
theorem seqR_zero {d : DK} (h : (seqR d).1 = 0) : sizF d = 0 ∧ superB (atF d.1 d.2 0) = true ∧ (seqR d).2 = (atF d.1 d.2 0)[1]?.getD 0 := by
  unfold seqR at h ⊢
  by_cases h1 : sizF d = 0
  · rw [if_pos h1] at h ⊢
    by_cases h2 : superB (atF d.1 d.2 0) = true
    · rw [if_pos h2]; exact ⟨h1, h2, rfl⟩
    · rw [if_neg h2] at h; simp at h
  · rw [if_neg h1] at h; exact absurd h h1
theorem superB_in {zs : List Int} (h : superB zs = true) : zs.length = 2 ∧ zs[0]?.getD 0 = (7 : Int) ∧ (1 : Int) ≤ zs[1]?.getD 0 ∧ zs[1]?.getD 0 ≤ (60000 : Int) := by
  unfold superB at h
  simp only [Bool.and_eq_true, decide_eq_true_eq] at h
  exact ⟨h.1.1, h.1.2, h.2⟩

/-- A drive that is open: block bd leads to the disk d. -/
structure DrvK (w : World) (bd : Nat) (d : DK) : Prop where
  at' : ∃ aB cB aP cP, w.cell? ⟨bd, 0, none⟩ = some (.slice aB d.1.length cB) ∧ w.cell? ⟨bd, 1, none⟩ = some (.slice aP d.2.length cP) ∧ AtS w aB d.1.length d.1 ∧ AtC w aP d.2.length d.2
  g1 : d.1.length ≤ 60
  g2 : d.2.length ≤ 200
  hz : ∀ k : Nat, (d.1[k]?.getD []).length ≤ 1048576
  hzp : ∀ k : Nat, (d.2[k]?.getD (0, [])).2.length ≤ 1048576
theorem AtC.later {w w' : World} {a : Option Addr} {n : Nat} {ps : List (Int × List Int)} (h : AtC w a n ps) (hb : Below w.heap.size w w') : AtC w' a n ps := fun i hi => by
  obtain ⟨g, pb, ua, uc, e, c0, c1, c2, r⟩ := h i hi
  exact ⟨g, pb, ua, uc, e, cell_later hb c0, cell_later hb c1, cell_later hb c2, r.later hb⟩
theorem DrvK.later {w w' : World} {bd : Nat} {d : DK} (h : DrvK w bd d) (hb : Below w.heap.size w w') : DrvK w' bd d := by
  obtain ⟨aB, cB, aP, cP, c0, c1, h1, h2⟩ := h.at'
  exact ⟨⟨aB, cB, aP, cP, cell_later hb c0, cell_later hb c1, h1.later hb, h2.later hb⟩, h.g1, h.g2, h.hz, h.hzp⟩
/-- What a drive reads. -/
theorem read_drv {w : World} {bd : Nat} {d : DK} (h : DrvK w bd d) (x : Nat) (hx : x < d.1.length) :
    Calls Try.prog 64 #[.pointer (some ⟨bd, 0, none⟩), .int .i64 (x : Int)] w fun e w' => ∃ a n c, e = .returned (.slice a n c) ∧ Below w.heap.size w w' ∧ IntsO w' (.slice a n c) (atF d.1 d.2 x) (fresh w w') := by
  obtain ⟨aB, cB, aP, cP, c0, c1, h1, h2⟩ := h.at'
  exact read_any w bd aB aP d.1.length cB d.2.length cP d.1 d.2 x hx h.g1 rfl h.g2 c0 c1 h1 h2 h.hz h.hzp
theorem le_sumN (l : List Nat) (k : Nat) : l[k]?.getD 0 ≤ l.sum := by
  induction l generalizing k with
  | nil => simp
  | cons a l ih =>
    rw [List.sum_cons]
    cases k with
    | zero => simp
    | succ k => have := ih k; simp only [List.getElem?_cons_succ]; omega
theorem dsize_blk {d : DK} (hs : sizeDisk d ≤ 1048576) (k : Nat) : (d.1[k]?.getD []).length ≤ 1048576 := by
  have h1 := le_sumN (d.1.map List.length) k
  have h2 : (d.1.map List.length)[k]?.getD 0 = (d.1[k]?.getD []).length := by rw [List.getElem?_map]; cases d.1[k]? <;> rfl
  unfold sizeDisk dsize at hs
  omega
theorem dsize_put {d : DK} (hs : sizeDisk d ≤ 1048576) (k : Nat) : (d.2[k]?.getD (0, [])).2.length ≤ 1048576 := by
  have h1 := le_sumN (wlens d.2) k
  have h2 : (wlens d.2)[k]?.getD 0 = (d.2[k]?.getD (0, [])).2.length := by unfold wlens; rw [List.getElem?_map]; cases d.2[k]? <;> rfl
  unfold sizeDisk dsize at hs
  omega
/-- A disk is opened. -/
theorem open_drv {w : World} {aB aC : Option Addr} {nB cB nC cC : Nat} {d : DK} (h : DiskR w (.slice aB nB cB) (.slice aC nC cC) d) (hf : faultF d.1 d.2 = 0) (hs : sizeDisk d ≤ 1048576) :
    Calls Try.prog 63 #[.agg #[.slice aB nB cB, .slice aC nC cC]] w fun e w' => ∃ bd, e = .returned (.pointer (some ⟨bd, 0, none⟩)) ∧ Below w.heap.size w w' ∧ DrvK w' bd d := by
  obtain ⟨g1, g2⟩ := faultF_lens hf
  obtain ⟨_, _, e1, _, sB⟩ := h.1.open'
  simp only [Value.slice.injEq] at e1
  obtain ⟨rfl, rfl, rfl⟩ := e1
  obtain ⟨_, _, e2, _, sP⟩ := h.2.open'
  simp only [Value.slice.injEq] at e2
  obtain ⟨rfl, rfl, rfl⟩ := e2
  have hz : ∀ k : Nat, (d.1[k]?.getD []).length ≤ 1048576 := dsize_blk hs
  have hzp : ∀ k : Nat, (d.2[k]?.getD (0, [])).2.length ≤ 1048576 := dsize_put hs
  refine (openDisk_walk w _ _ _ cB _ cC d.1 d.2 rfl rfl g1 g2 (fun k _ => hz k) (fun k _ => hzp k) sB sP).mono ?_
  rintro e w2 ⟨bd, g, aP, cP, pb, k, u, rfl, hdr⟩
  have c0 := hdr.row.cell (i := 0) (by omega)
  have c1 := hdr.row.cell (i := 1) (by omega)
  simp at c0 c1
  obtain ⟨_, _, hvB, _, hSB⟩ := hdr.blocks.ints.open'
  simp only [Value.slice.injEq] at hvB
  obtain ⟨rfl, -, rfl⟩ := hvB
  exact ⟨bd, rfl, hdr.below, ⟨⟨_, _, _, _, c0, c1, hSB, hdr.cache.at⟩, g1, g2, hz, hzp⟩⟩
end Go.Proofs.Ytagmmgcdebgfnaa
