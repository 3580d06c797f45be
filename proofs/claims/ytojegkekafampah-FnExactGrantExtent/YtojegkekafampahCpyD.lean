
/- The program's copying of a disk. -/
import Derived.Test.YtojegkekafampahPutC
import Derived.Test.YtojegkekafampahUni
namespace Go.Proofs.Ytojegkekafampah
open Go.RowKit
set_option maxRecDepth 100000

set_option maxHeartbeats 1600000 in
theorem copyOfDisk_ok (w : World) (aB aC : Option Addr) (cB cC : Nat) (bs : List (List Int)) (ps : List (Int × List Int)) (sB : AtS w aB bs.length bs) (sP : AtP w aC ps.length ps) (hff : faultF bs ps = 0)
    (hz : ∀ k : Nat, (bs[k]?.getD []).length ≤ 1048576) (hzp : ∀ k : Nat, (ps[k]?.getD (0, [])).2.length ≤ 1048576) :
    Calls Try.prog 50 #[.agg #[.slice aB bs.length cB, .slice aC ps.length cC]] w fun e w' => ∃ a1 n1 c1 a2 n2 c2, e = .returned (.agg #[.slice a1 n1 c1, .slice a2 n2 c2]) ∧ Below w.heap.size w w' ∧ DiskU w' (.slice a1 n1 c1) (.slice a2 n2 c2) (bs, ps) (fresh w w') := by
  have SB : Hid (AtS w aB bs.length bs) := sB
  have SP : Hid (AtP w aC ps.length ps) := sP
  obtain ⟨g1, g2⟩ := faultF_lens hff
  have G1 : Hid (bs.length ≤ 60) := g1
  have G2 : Hid (ps.length ≤ 200) := g2
  have HZ : Hid (∀ k : Nat, (bs[k]?.getD []).length ≤ 1048576) := hz
  have HZP : Hid (∀ k : Nat, (ps[k]?.getD (0, [])).2.length ≤ 1048576) := hzp
  clear sB sP hz hzp hff g1 g2
  go_enter Try.func50, Try.ntmps50
  go_wp2_with fail
  refine (openDisk_walk _ aB aC bs.length cB ps.length cC bs ps rfl rfl G1.out G2.out (fun k _ => HZ.out k) (fun k _ => HZP.out k) (SB.out.later (later2 _ _ _)) (SP.out.later (later2 _ _ _))).mono ?_
  rintro e w2 ⟨bd, g, aP, cP, pb, k, u, rfl, hdr⟩
  have HW2 : Hid (Below w.heap.size w w2) := (later2 _ _ _).trans (hdr.below.mono (by simp; omega))
  have HRW : Hid (OwnRow w2 bd 2 (fun c => if c = 0 then .slice (some ⟨g, 0, none⟩) bs.length bs.length else .slice aP ps.length cP)) := hdr.row
  have HCA : Hid (Cache w2 (bd + 1) (.slice aP ps.length cP) ps.length (fun i => ps[i]?.getD (0, [])) pb k u) := hdr.cache
  have hlo : w.heap.size + 2 ≤ bd := by have := hdr.lo; simp at this; omega
  have HIO : Hid (IntsSO w2 (.slice (some ⟨g, 0, none⟩) bs.length bs.length) bs (fun c => w.heap.size + 2 ≤ c ∧ c < bd)) := hdr.blocks.mono fun b hb => ⟨by have := hb.1; simp at this; omega, hb.2⟩
  have HR2 : Hid (OwnRow w2 (w.heap.size + 1) 2 (fun i => if i = 0 then .slice none 0 0 else .slice none 0 0)) := by
    have h := (OwnRow.two (w.alloc (.cells #[.slice aB bs.length cB, .slice aC ps.length cC] 33)) (.slice none 0 0) (.slice none 0 0) 33).later hdr.below
    rw [World.size_alloc] at h
    exact h
  have hbd : bd < w2.heap.size := hdr.row.lt
  clear hdr
  go_wp2_with fail
  refine (disk_any w2 bd (bd + 1) ps.length (some ⟨g, 0, none⟩) bs.length bs.length aP cP (fun i => ps[i]?.getD (0, [])) pb k u (by have := G2.out; omega) HRW.out HCA.out).mono ?_
  rintro e w4 ⟨aD, cD, rfl, hb4, hl4⟩
  have HL4 : Hid (LRow (C2 fun i => (ps[i]?.getD (0, [])).1) w4 w2.heap.size (bd + 1) 104 2 (.slice aD ps.length cD) ps.length (fun i => (ps[i]?.getD (0, [])).2) k u) := hl4
  have HI4 : Hid (IntsSO w4 (.slice (some ⟨g, 0, none⟩) bs.length bs.length) bs (fun c => w.heap.size + 2 ≤ c ∧ c < bd)) := HIO.out.keep fun b hb hlt => hb4.block b hlt
  have HW4 : Hid (Below w.heap.size w w4) := HW2.out.trans (hb4.mono HW2.out.size)
  have HR4 := HR2.out.later hb4
  have hz4 : w2.heap.size ≤ w4.heap.size := hb4.size
  have t0 := HR4.cell (i := 0) (by omega)
  have t1 := HR4.cell (i := 1) (by omega)
  have s0 := HR4.frozen 0
  have s1 := HR4.frozen 1
  simp at t0 t1
  clear hb4 hl4 HR4
  go_wp2
  refine bodyPost_ret (v := .agg #[.slice (some ⟨g, 0, none⟩) bs.length bs.length, .slice aD ps.length cD]) (by simp [results, Try.results50, go_sem, t0, t1]) rfl ⟨_, _, _, _, _, _, rfl, (HW4.out.setCell (by simp) _).setCell (by simp) _, ?_⟩
  refine ⟨fun c => w.heap.size + 2 ≤ c ∧ c < bd, fun c => bd < c ∧ c < w4.heap.size, (HI4.out.store (fun b hb => by simp; omega) _).store (fun b hb => by simp; omega) _, ?_, fun b h1 h2 => by omega, fun b hb => ?_⟩
  · have h1 : PutsO w4 (.slice aD ps.length cD) ps (fun c => bd < c ∧ c < w4.heap.size) :=
      LRow.puts2 (ps := ps) HL4.out rfl _ (fun g hg => by have := HL4.out.own.lt g hg; omega) (fun i hi => by have := HL4.out.lo i hi; omega)
    exact (h1.store (fun b hb => by simp; omega) _).store (fun b hb => by simp; omega) _
  · unfold fresh
    simp only [World.setCell, Array.size_modify]
    rcases hb with hb | hb <;> omega
end Go.Proofs.Ytojegkekafampah
