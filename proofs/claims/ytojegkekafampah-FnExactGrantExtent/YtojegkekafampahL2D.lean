
/- The specification's copying of a kern. -/
import Derived.Test.YtojegkekafampahL2C
import Derived.Test.YtojegkekafampahNewK
import Derived.Test.YtojegkekafampahPutB
namespace Go.Proofs.Ytojegkekafampah
open Go.RowKit
set_option maxRecDepth 100000

/-- An answer that is a kern of its own memory. -/
def AnsKern (w : World) (d : KD) (e : Ending) (w' : World) : Prop := ∃ a1 n1 c1 a2 n2 c2 a3 n3 c3, e = .returned (.agg #[.slice a1 n1 c1, .slice a2 n2 c2, .slice a3 n3 c3]) ∧ Below w.heap.size w w' ∧ KernU w' (.slice a1 n1 c1) (.slice a2 n2 c2) (.slice a3 n3 c3) d (fresh w w')

theorem l1CopyU (hcp : L1CopySaid) (w : World) (aB aC : Option Addr) (cB cC : Nat) (bs : List (List Int)) (ps : List (Int × List Int)) (g1 : bs.length ≤ 60) (g2 : ps.length ≤ 200) (hz : ∀ k : Nat, (bs[k]?.getD []).length ≤ 1048576) (hzp : ∀ k : Nat, (ps[k]?.getD (0, [])).2.length ≤ 1048576) (hB : AtS w aB bs.length bs) (hP : AtP w aC ps.length ps) :
    Calls Try.prog 85 #[.agg #[.slice aB bs.length cB, .slice aC ps.length cC]] w fun e w' => ∃ aX nX cX aY nY cY, e = .returned (.agg #[.slice aX nX cX, .slice aY nY cY]) ∧ Below w.heap.size w w' ∧ DiskU w' (.slice aX nX cX) (.slice aY nY cY) (bs, ps) (fresh w w') := by
  refine (hcp w aB aC bs.length cB ps.length cC bs ps rfl rfl g1 g2 hz hzp hB hP).mono ?_
  rintro e w1 ⟨S, aX, cX, aY, cY, k, u, rfl, hb1, hS1, hS2, hio, hlr⟩
  refine ⟨_, _, _, _, _, _, rfl, hb1, fun c => w.heap.size ≤ c ∧ c < S, fun c => S ≤ c ∧ c < w1.heap.size, hio, ?_, fun b h1 h2 => by omega, fun b hb => ?_⟩
  · exact LRow.puts2 (ps := ps) hlr rfl _ (fun g hg => hlr.own.lt g hg) (fun i hi => hlr.lo i hi)
  · unfold fresh
    rcases hb with hb | hb <;> omega

/-- Behind the copying of the disk: what appending the extents comes to (the empty list lies at g). -/
theorem lit_after {w w1 : World} {g lo : Nat} {es : List E3} {aE : Option Addr} {cE : Nat} {f : Nat → Value} (hg : w1.heap[g]? = some (.cells #[] 70 (0, 0))) (hlg : lo ≤ g) (hwl : w.heap.size + 1 < lo) (hE : AtE w1 aE es.length es) (hn : es.length ≤ 1048576) (hR : OwnRow w1 (w.heap.size + 1) 3 f) :
    ∃ a' c' X, (Builtin.append_ #[34, 34] 34 #[.slice (some ⟨g, 0, none⟩) 0 0, .slice aE es.length cE]).run Try.prog w1 = .ok (.slice a' es.length c') X ∧ Below lo w1 X ∧ ExtsO X (.slice a' es.length c') es (fun b => (b = g ∨ w1.heap.size ≤ b) ∧ b < X.heap.size) ∧ (∀ b, b < w1.heap.size → b ≠ g → X.heap[b]? = w1.heap[b]?) ∧ OwnRow X (w.heap.size + 1) 3 f := by
  obtain ⟨a', c', X, hr, hBX, hEX, hKX⟩ := append_lit w1 34 lo g es hg hlg aE cE hn hE
  exact ⟨a', c', X, hr, hBX, hEX, hKX, hR.block (hKX _ hR.lt (by omega))⟩

set_option maxHeartbeats 3200000 in
theorem l2Copy_any (hcp : L1CopySaid) (w : World) (vB vC vE : Value) (bs : List (List Int)) (ps : List (Int × List Int)) (es : List E3) (h : KernR w vB vC vE ((bs, ps), es)) (hf : faultF bs ps = 0) (he : es.length ≤ 8)
    (hz : ∀ k : Nat, (bs[k]?.getD []).length ≤ 1048576) (hzp : ∀ k : Nat, (ps[k]?.getD (0, [])).2.length ≤ 1048576) :
    Calls Try.prog 48 #[.agg #[vB, vC, vE]] w (AnsKern w ((bs, ps), es)) := by
  obtain ⟨aB, cB, rfl, _, sB⟩ := h.1.1.open'
  obtain ⟨aC, cC, rfl, _, sP⟩ := h.1.2.open'
  obtain ⟨aE, cE, rfl, _, sE⟩ := h.2.open'
  dsimp only at sB sP sE ⊢
  have HCP : Hid L1CopySaid := hcp
  have SB : Hid (AtS w aB bs.length bs) := sB
  have SP : Hid (AtP w aC ps.length ps) := sP
  have SE : Hid (AtE w aE es.length es) := sE
  obtain ⟨g1, g2⟩ := faultF_lens hf
  have G1 : Hid (bs.length ≤ 60) := g1
  have G2 : Hid (ps.length ≤ 200) := g2
  have G3 : Hid (es.length ≤ 1048576) := by unfold Hid; omega
  have HZ : Hid (∀ k : Nat, (bs[k]?.getD []).length ≤ 1048576) := hz
  have HZP : Hid (∀ k : Nat, (ps[k]?.getD (0, [])).2.length ≤ 1048576) := hzp
  clear h hcp sB sP sE hf hz hzp g1 g2 he
  generalize hlB : bs.length = nB at *
  generalize hlC : ps.length = nC at *
  generalize hlE : es.length = nE at *
  have HLB : Hid (bs.length = nB) := hlB
  have HLC : Hid (ps.length = nC) := hlC
  have HLE : Hid (es.length = nE) := hlE
  clear hlB hlC hlE
  -- the two ways: the empty list behind the call, or ahead of it
  have HKA : Hid (∀ W0 : World, W0 = (((w.alloc (.cells #[.slice aB nB cB, .slice aC nC cC, .slice aE nE cE] 36)).alloc (.cells #[.slice none 0 0, .slice none 0 0, .slice none 0 0] 36))) →
      Calls Try.prog 85 #[.agg #[.slice aB nB cB, .slice aC nC cC]] W0.drew fun e w1 => ∃ aX nX cX aY nY cY a' c' X, e = .returned (.agg #[.slice aX nX cX, .slice aY nY cY]) ∧ Hid ((Builtin.append_ #[34, 34] 34 #[.slice (some ⟨w1.heap.size, 0, none⟩) 0 0, .slice aE nE cE]).run Try.prog (w1.alloc (.cells #[] 70)) = .ok (.slice a' nE c') X) ∧
        w.heap.size + 1 < w1.heap.size ∧ w1.cell? ⟨w.heap.size, 2, none⟩ = some (.slice aE nE cE) ∧ Hid (Below w.heap.size w X) ∧ Hid (KernU X (.slice aX nX cX) (.slice aY nY cY) (.slice a' nE c') ((bs, ps), es) (fun b => w.heap.size + 1 < b ∧ b < X.heap.size)) ∧ Hid (OwnRow X (w.heap.size + 1) 3 (fun i => [Value.slice none 0 0, .slice none 0 0, .slice none 0 0][i]?.getD (.bool false)))) := by
    intro W0 e0
    have hW0 : Below w.heap.size w W0 := by rw [e0]; exact later2 _ _ _
    have hz0 : W0.heap.size = w.heap.size + 2 := by rw [e0]; simp
    have hbx : Bx W0 w.heap.size [.slice aB nB cB, .slice aC nC cC, .slice aE nE cE] := by rw [e0]; exact (Bx.new w _ _).later (later1 _ _)
    have hrw : OwnRow W0 (w.heap.size + 1) 3 (fun i => [Value.slice none 0 0, .slice none 0 0, .slice none 0 0][i]?.getD (.bool false)) := by rw [e0]; exact resRowL _ [.slice none 0 0, .slice none 0 0, .slice none 0 0] 36 (Below.refl _ _)
    have h1 := l1CopyU HCP.out W0.drew aB aC cB cC bs ps (by rw [HLB.out]; exact G1.out) (by rw [HLC.out]; exact G2.out) HZ.out HZP.out (by rw [HLB.out]; exact SB.out.later hW0.drew) (by rw [HLC.out]; exact SP.out.later hW0.drew)
    rw [HLB.out, HLC.out] at h1
    refine h1.mono ?_
    rintro e w1 ⟨aX, nX, cX, aY, nY, cY, rfl, hb1', hd1⟩
    have hb1 : Below W0.heap.size W0 w1 := (Below.refl _ _).drew.trans hb1'
    have hfr : DiskU w1 (.slice aX nX cX) (.slice aY nY cY) (bs, ps) (fun b => W0.heap.size ≤ b ∧ b < w1.heap.size) := hd1
    have hW1 : Below w.heap.size w w1 := hW0.trans (hb1.mono hW0.size)
    have hz1 := hb1.size
    obtain ⟨a', c', X, hr, hBX, hEX, hKX, hRX⟩ := lit_after (w := w) (cE := cE) (Go.Deep.blk_alloc_new w1 (.cells #[] 70)) (Nat.le_refl w1.heap.size) (by omega) (by rw [HLE.out]; exact (SE.out.later hW1).later (later1 _ _)) (by rw [HLE.out]; exact G3.out) ((hrw.later hb1).later (later1 _ _))
    rw [HLE.out] at hr hEX
    have hBX' : Below w1.heap.size w1 X := (later1 _ _).trans hBX
    refine ⟨aX, nX, cX, aY, nY, cY, a', c', X, rfl, hr, by omega, cell_later hb1 (hbx 2 _ rfl), hW1.trans (hBX'.mono hW1.size), ?_, hRX⟩
    refine ⟨fun b => W0.heap.size ≤ b ∧ b < w1.heap.size, fun b => w1.heap.size ≤ b ∧ b < X.heap.size, hfr.later hBX', hEX.mono fun b hb => ⟨by have := hb.1; simp at this; omega, hb.2⟩, fun b h1 h2 => by omega, fun b hb => ?_⟩
    have := hBX'.size
    rcases hb with hb | hb <;> omega
  have HKB : Hid (∀ W0 : World, W0 = ((((w.alloc (.cells #[.slice aB nB cB, .slice aC nC cC, .slice aE nE cE] 36)).alloc (.cells #[.slice none 0 0, .slice none 0 0, .slice none 0 0] 36)).drew.alloc (.cells #[] 70))) →
      Calls Try.prog 85 #[.agg #[.slice aB nB cB, .slice aC nC cC]] W0 fun e w1 => ∃ aX nX cX aY nY cY a' c' X, e = .returned (.agg #[.slice aX nX cX, .slice aY nY cY]) ∧ Hid ((Builtin.append_ #[34, 34] 34 #[.slice (some ⟨w.heap.size + 1 + 1, 0, none⟩) 0 0, .slice aE nE cE]).run Try.prog w1 = .ok (.slice a' nE c') X) ∧
        w.heap.size + 1 < w1.heap.size ∧ w1.cell? ⟨w.heap.size, 2, none⟩ = some (.slice aE nE cE) ∧ Hid (Below w.heap.size w X) ∧ Hid (KernU X (.slice aX nX cX) (.slice aY nY cY) (.slice a' nE c') ((bs, ps), es) (fun b => w.heap.size + 1 < b ∧ b < X.heap.size)) ∧ Hid (OwnRow X (w.heap.size + 1) 3 (fun i => [Value.slice none 0 0, .slice none 0 0, .slice none 0 0][i]?.getD (.bool false)))) := by
    intro W0 e0
    have hW0 : Below w.heap.size w W0 := by rw [e0]; exact ((later2 _ _ _).drew).trans ((later1 _ _).mono (by simp [World.drew]; omega))
    have hz0 : W0.heap.size = w.heap.size + 3 := by rw [e0]; simp [World.drew]
    have hbx : Bx W0 w.heap.size [.slice aB nB cB, .slice aC nC cC, .slice aE nE cE] := by rw [e0]; exact (((Bx.new w _ _).later (later1 _ _)).later (Below.refl _ _).drew).later (later1 _ _)
    have hrw : OwnRow W0 (w.heap.size + 1) 3 (fun i => [Value.slice none 0 0, .slice none 0 0, .slice none 0 0][i]?.getD (.bool false)) := by rw [e0]; exact (resRowL _ [.slice none 0 0, .slice none 0 0, .slice none 0 0] 36 (Below.refl _ _).drew).later (later1 _ _)
    have hgw : W0.heap[w.heap.size + 1 + 1]? = some (.cells #[] 70 (0, 0)) := by
      rw [e0]
      have := Go.Deep.blk_alloc_new ((w.alloc (.cells #[.slice aB nB cB, .slice aC nC cC, .slice aE nE cE] 36)).alloc (.cells #[.slice none 0 0, .slice none 0 0, .slice none 0 0] 36)).drew (.cells #[] 70)
      simpa [World.drew] using this
    have h1 := l1CopyU HCP.out W0 aB aC cB cC bs ps (by rw [HLB.out]; exact G1.out) (by rw [HLC.out]; exact G2.out) HZ.out HZP.out (by rw [HLB.out]; exact SB.out.later hW0) (by rw [HLC.out]; exact SP.out.later hW0)
    rw [HLB.out, HLC.out] at h1
    refine h1.mono ?_
    rintro e w1 ⟨aX, nX, cX, aY, nY, cY, rfl, hb1, hd1⟩
    have hfr : DiskU w1 (.slice aX nX cX) (.slice aY nY cY) (bs, ps) (fun b => W0.heap.size ≤ b ∧ b < w1.heap.size) := hd1
    have hW1 : Below w.heap.size w w1 := hW0.trans (hb1.mono hW0.size)
    have hz1 := hb1.size
    obtain ⟨a', c', X, hr, hBX, hEX, hKX, hRX⟩ := lit_after (w := w) (w1 := w1) (g := w.heap.size + 1 + 1) (cE := cE) (lo := w.heap.size + 1 + 1) (by rw [hb1.block _ (by omega)]; exact hgw) (Nat.le_refl _) (by omega) (by rw [HLE.out]; exact SE.out.later hW1) (by rw [HLE.out]; exact G3.out) (hrw.later hb1)
    rw [HLE.out] at hr hEX
    refine ⟨aX, nX, cX, aY, nY, cY, a', c', X, rfl, hr, by omega, cell_later hb1 (hbx 2 _ rfl), hW1.trans (hBX.mono (by omega)), ?_, hRX⟩
    refine ⟨fun b => W0.heap.size ≤ b ∧ b < w1.heap.size, fun b => (b = w.heap.size + 1 + 1 ∨ w1.heap.size ≤ b) ∧ b < X.heap.size, hfr.keep fun b hb hlt => hKX b hlt (by omega), hEX, fun b h1 h2 => by omega, fun b hb => ?_⟩
    have := hBX.size
    rcases hb with hb | hb <;> omega
  clear HCP SB SP SE G1 G2 G3 HZ HZP HLB HLC HLE
  go_enter Try.func48, Try.ntmps48
  go_wp2_with fail
  go_region_law (first
    | (refine step_append_run rfl _ _ 34 rfl _ _ rfl rfl _ _ HR.out ?_)
    | (try go_simp; go_at_call 85; refine (HKA.out _ rfl).mono ?_; rintro e w1 ⟨aX, nX, cX, aY, nY, cY, a', c', X, rfl, HR, hz1, x2, HBX, HKX, HRX⟩
       have hz0 : w.heap.size < w1.heap.size := by omega
       have t0 := HRX.out.cell (i := 0) (by simp)
       have t1 := HRX.out.cell (i := 1) (by simp)
       have t2 := HRX.out.cell (i := 2) (by simp)
       have s0 := HRX.out.frozen 0
       have s1 := HRX.out.frozen 1
       have s2 := HRX.out.frozen 2
       simp at t0 t1 t2)
    | (try go_simp; go_at_call 85; refine (HKB.out _ rfl).mono ?_; rintro e w1 ⟨aX, nX, cX, aY, nY, cY, a', c', X, rfl, HR, hz1, x2, HBX, HKX, HRX⟩
       have hz0 : w.heap.size < w1.heap.size := by omega
       have t0 := HRX.out.cell (i := 0) (by simp)
       have t1 := HRX.out.cell (i := 1) (by simp)
       have t2 := HRX.out.cell (i := 2) (by simp)
       have s0 := HRX.out.frozen 0
       have s1 := HRX.out.frozen 1
       have s2 := HRX.out.frozen 2
       simp at t0 t1 t2))
  all_goals
    clear HKA HKB HR
    go_wp2
    refine bodyPost_ret (v := .agg #[.slice aX nX cX, .slice aY nY cY, .slice a' nE c']) (by simp [results, Try.results48, go_sem, t0, t1, t2]) rfl ⟨_, _, _, _, _, _, _, _, _, rfl, ((HBX.out.setCell (by simp) _).setCell (by simp) _).setCell (by simp) _, ?_⟩
    refine (HKX.out.keep fun b hb _ => ?_).mono fun b hb => ?_
    · rw [Below.heap_setCell _ _ _ _ (by simp; omega), Below.heap_setCell _ _ _ _ (by simp; omega), Below.heap_setCell _ _ _ _ (by simp; omega)]
    · unfold fresh
      simp only [World.setCell, Array.size_modify]
      omega
end Go.Proofs.Ytojegkekafampah
