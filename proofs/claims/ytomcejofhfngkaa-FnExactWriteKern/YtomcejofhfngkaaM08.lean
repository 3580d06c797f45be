/- The walk of the specification's PutBlock where it puts. The walk of the program's PutBlock. The program's copying of a disk. Who may write or read: the walks of the specification's l2May and of the program's keyFault. Who may write or read: the walk of the program's keyFault. What appending extents to an empty list that was just built comes to. How an answer with a kern is put together; the walks of NewKern, both. The specification's copying of a kern. -/
import Derived.Test.YtomcejofhfngkaaM07
import Derived.Test.YtomcejofhfngkaaM03
import Derived.Test.YtomcejofhfngkaaM05
import Derived.Test.YtomcejofhfngkaaM06
import Derived.Deep.RegionLaw
import Derived.Test.YtomcejofhfngkaaM04
namespace Go.Proofs.Ytomcejofhfngkaa
open Go.RowKit
set_option maxRecDepth 100000

theorem LRow.puts2 {w : World} {base lo : Nat} {e : TypeId} {v : Value} {n : Nat} {k : Nat → Nat} {u : Nat → Value} {ps : List (Int × List Int)} (h : LRow (C2 fun i => (ps[i]?.getD (0, [])).1) w base lo e 2 v n (fun i => (ps[i]?.getD (0, [])).2) k u) (hn : ps.length = n) (F : Nat → Prop) (hF : ∀ g, v.ownBlock = some g → F g) (hF' : ∀ i, i < n → F (k i)) : PutsO w v ps F := by
  subst hn
  by_cases h0 : ps.length = 0
  · obtain ⟨a, c, rfl⟩ := h.shape
    exact Or.inl ⟨List.eq_nil_of_length_eq_zero h0, a, c, by rw [h0]⟩
  · obtain ⟨g, cap, rfl, _, _, hm, hrow⟩ := h.cells (by decide) (fun _ => rfl) (by omega)
    refine Or.inr ⟨g, cap, u, fun i c => i < ps.length ∧ c = k i, hF g rfl, fun i c hc => ?_, fun i j c e h1 h2 => h.inj i j h1.1 h2.1 e (h1.2.symm.trans h2.2), rfl, hm, ?_, fun i hi => (h.at' i hi).mono fun c hc => ⟨hi, hc⟩⟩
    · have hne := h.ne i hc.1
      rw [hc.2]
      exact ⟨hF' i hc.1, fun e => hne (by simp [Value.ownBlock, e])⟩
    · refine hrow.congr fun c hc => ?_
      unfold putCell C2
      rcases Nat.mod_two_eq_zero_or_one c with h | h <;> simp [h]

/-- The puts, and one more. -/
def more (ps : List (Int × List Int)) (x : Int) (ws : List Int) (i : Nat) : Int × List Int := (ps ++ [(x, ws)])[i]?.getD (0, [])
theorem more_old {ps : List (Int × List Int)} {x : Int} {ws : List Int} {i : Nat} (h : i < ps.length) : more ps x ws i = ps[i]?.getD (0, []) := by unfold more; rw [List.getElem?_append_left h]
theorem more_new {ps : List (Int × List Int)} {x : Int} {ws : List Int} : more ps x ws ps.length = (x, ws) := by unfold more; simp

set_option maxHeartbeats 3200000 in
theorem specPut_ok (hcp : L1CopySaid) (w : World) (aB aC : Option Addr) (cB cC : Nat) (v : Value) (bs : List (List Int)) (ps : List (Int × List Int)) (x : Int) (ws : List Int) (hB : IntsS w (.slice aB bs.length cB) bs) (hP : Puts w (.slice aC ps.length cC) ps) (sB : AtS w aB bs.length bs) (sP : AtP w aC ps.length ps) (hV : Ints w v ws) (hf : faultF bs ps = 0) (hp : placeB bs.length x = true) (hw : wordsF ws = 0) (hq : ¬ 200 ≤ ps.length)
    (hz : ∀ k : Nat, (bs[k]?.getD []).length ≤ 1048576) (hzp : ∀ k : Nat, (ps[k]?.getD (0, [])).2.length ≤ 1048576) (hzw : ws.length ≤ 1048576) :
    Calls Try.prog 9 #[.agg #[.slice aB bs.length cB, .slice aC ps.length cC], .int .i64 x, v] w (AnsDisk w 0 bs (ps ++ [(x, ws)])) := by
  have HCP : Hid L1CopySaid := hcp
  have HB : Hid (IntsS w (.slice aB bs.length cB) bs) := hB
  have HP : Hid (Puts w (.slice aC ps.length cC) ps) := hP
  have SB : Hid (AtS w aB bs.length bs) := sB
  have SP : Hid (AtP w aC ps.length ps) := sP
  have HV : Hid (Ints w v ws) := hV
  have HF : Hid (faultF bs ps = 0) := hf
  obtain ⟨g1, g2⟩ := faultF_lens hf
  have HPL : Hid (placeB bs.length x = true) := hp
  have HC : Hid (wordsF ws = 0) := hw
  have HZ : Hid (∀ k : Nat, (bs[k]?.getD []).length ≤ 1048576) := hz
  have HZP : Hid (∀ k : Nat, (ps[k]?.getD (0, [])).2.length ≤ 1048576) := hzp
  have HZW : Hid (ws.length ≤ 1048576) := hzw
  have G1 : Hid (bs.length ≤ 60) := g1
  have G2 : Hid (ps.length ≤ 200) := g2
  have hd : decide ((200 : Int) ≤ (ps.length : Int)) = false := by simp; omega
  have HMX : Hid (bs.length ≤ maxLen) := by unfold Hid maxLen; omega
  clear hB hP hf hp hV hw sB sP hz hzp hzw hcp hq g1 g2
  go_enter Try.func9, Try.ntmps9
  go_wp2_with fail
  refine (l1Fault_any (vB := .slice aB bs.length cB) (vC := .slice aC ps.length cC) ?_ ?_ (HB.out.later (later2 _ _ _)) (HP.out.later (later2 _ _ _))).mono ?_
  · exact ((Box2.new w (.slice aB bs.length cB) (.slice aC ps.length cC) 30).later (later1 _ _)).1
  · exact ((Box2.new w (.slice aB bs.length cB) (.slice aC ps.length cC) 30).later (later1 _ _)).2
  rw [HF.out]
  rintro e w' ⟨rfl, m, rfl⟩
  go_wp2_with fail
  refine (l1Place_any _ _ aB bs.length cB x HMX.out ?_).mono ?_
  · exact ((Box2.new w (.slice aB bs.length cB) (.slice aC ps.length cC) 30).later (later1 _ _)).1
  rw [HPL.out]
  rintro e w' ⟨rfl, rfl⟩
  go_wp2_with fail
  refine (l1Words_any (HV.out.later (below_drewN (later2 _ _ _) m))).mono ?_
  rw [HC.out]
  rintro e w' ⟨rfl, rfl⟩
  go_wp2_with fail
  refine (HCP.out _ aB aC bs.length cB ps.length cC bs ps rfl rfl G1.out G2.out HZ.out HZP.out (SB.out.later (below_drewN (later2 _ _ _) m)) (SP.out.later (below_drewN (later2 _ _ _) m))).mono ?_
  rintro e w1 ⟨S, aX, cX, aY, cY, k, u, rfl, hb1, hS1, hS2, hio, hlr⟩
  have hS0 : w.heap.size + 1 + 1 ≤ S := by have := hS1; simp [World.drewN] at this; omega
  have HW1 : Hid (Below w.heap.size w w1) := (below_drewN (later2 _ _ _) m).trans (hb1.mono (by simp [World.drewN]; omega))
  have HR1 : Hid (OwnRow w1 (w.heap.size + 1) 3 (fun i => if i = 0 then .int .i64 0 else if i = 1 then .slice none 0 0 else .slice none 0 0)) := by
    have h := (three (w.alloc (Obj.cells #[Value.slice aB bs.length cB, Value.slice aC ps.length cC] 30)) (.int .i64 0) (.slice none 0 0) (.slice none 0 0) 32)
    have h2 := (h.later (below_drewN (Below.refl _ _) m)).later hb1
    unfold Hid
    simpa using h2
  have HIO : Hid (IntsSO w1 (.slice aX bs.length cX) bs (fun c => w.heap.size + 1 + 1 ≤ c ∧ c < S)) := hio.mono fun b hb => ⟨by have := hb.1; simp [World.drewN] at this; omega, hb.2⟩
  have HLR : Hid (LRow (C2 fun i => (more ps x ws i).1) w1 S S 71 2 (.slice aY ps.length cY) ps.length (fun i => (more ps x ws i).2) k u) := hlr.congr2 (fun i hi => by rw [more_old hi]) (fun i hi => by rw [more_old hi])
  have hS2' : S ≤ w1.heap.size := hS2
  have HVW : Hid (Ints (w1.alloc (.cells #[.slice aX bs.length cX, .slice aY ps.length cY] 30)) v (more ps x ws ps.length).2) := by unfold Hid; rw [more_new]; exact (HV.out.later HW1.out).later (later1 _ _)
  have HK : Hid (Calls _ _ _ _ _) := l1Ints_put2 (w1.alloc (.cells #[.slice aX bs.length cX, .slice aY ps.length cY] 30)) S ps.length _ _ (more ps x ws) k u (HLR.out.later (later1 _ _)) (by simp; omega) (by have := G2.out; omega) HVW.out (by rw [more_new]; exact HZW.out)
  have hrowlt : ∀ g, (Value.slice aY ps.length cY).ownBlock = some g → g < w1.heap.size := fun g hg => (HLR.out.own.lt g hg).2
  have HNE : Hid ((Value.slice aY ps.length cY).ownBlock ≠ some w1.heap.size) := fun e => by have := hrowlt _ e; omega
  rw [more_new] at HK
  clear hb1 hS1 hS2 hio hlr
  go_wp2_with fail
  go_region_law
    (first
      | (refine step_append_run rfl _ _ 28 rfl _ _ rfl rfl _ _ HR.out ?_)
      | (go_simp; go_at_call 47; refine HK.out.mono ?_; rintro e w2 ⟨na, nc, g2', cap2, X, k', u', rfl, HR, hb2, hXb, hXs, hat, hkk, hBX, HL⟩
         have HXB : Hid (∀ b, b < (w1.alloc (.cells #[.slice aX bs.length cX, .slice aY ps.length cY] 30)).heap.size → (Value.slice aY ps.length cY).ownBlock ≠ some b → X.heap[b]? = (w1.alloc (.cells #[.slice aX bs.length cX, .slice aY ps.length cY] 30)).heap[b]?) := hXb
         have HOUT : OwnRow X w1.heap.size 2 (fun i => if i = 0 then .slice aX bs.length cX else .slice aY ps.length cY) := (OwnRow.two w1 (.slice aX bs.length cX) (.slice aY ps.length cY) 30).block (hXb _ (by simp) HNE.out)
         have x0 := HOUT.cell (i := 0) (by omega)
         have x1 := HOUT.cell (i := 1) (by omega)
         have x2 := HOUT.frozen 1
         have o0 := cell_later hb2 (show (w1.alloc (.cells #[.slice aX bs.length cX, .slice aY ps.length cY] 30)).cell? ⟨w1.heap.size, 1, none⟩ = some (.slice aY ps.length cY) by rw [new_cell]; rfl)
         have hw2 : w1.heap.size < w2.heap.size := by have := hb2.size; simp at this; omega
         have HBX : Hid (Below S (w1.alloc (.cells #[.slice aX bs.length cX, .slice aY ps.length cY] 30)) X) := hBX
         have HAT : Hid ((Value.slice aY ps.length cY).ownBlock = some g2' ∨ (w1.alloc (.cells #[.slice aX bs.length cX, .slice aY ps.length cY] 30)).heap.size < g2') := hat
         have HKK : Hid (∀ i, i < ps.length + 1 → k' i = k i ∧ i < ps.length ∨ (w1.alloc (.cells #[.slice aX bs.length cX, .slice aY ps.length cY] 30)).heap.size ≤ k' i) := hkk
         simp at x0 x1
         clear hb2 hXb hXs hat hkk hBX HOUT))
  all_goals
    have hz1 : w.heap.size + 1 < w1.heap.size := by omega
    have hzz : w.heap.size + 1 ≠ w1.heap.size := by omega
    have HRX : OwnRow X (w.heap.size + 1) 3 (fun i => if i = 0 then .int .i64 0 else if i = 1 then .slice none 0 0 else .slice none 0 0) := (HR1.out.later (later1 _ _)).block (HXB.out _ (by simp; omega) (fun e => by have := (HLR.out.own.lt _ e).1; omega))
    have r0 := HRX.cell (i := 0) (by omega)
    have r1 := HRX.cell (i := 1) (by omega)
    have r2 := HRX.cell (i := 2) (by omega)
    have s0 := HRX.frozen 0
    have s1 := HRX.frozen 1
    have s2 := HRX.frozen 2
    simp at r0 r1 r2
    clear HRX
    go_wp2
    refine bodyPost_ret (v := .agg #[.int .i64 0, .slice aX bs.length cX, .slice (some ⟨g2', 0, none⟩) (ps.length + 1) cap2]) (by simp [results, Try.results9, go_sem, r0, r1, r2]) rfl ⟨_, _, _, _, _, _, rfl, ?_, ?_⟩
    · exact (((((HW1.out.trans ((later1 _ _).mono HW1.out.size)).trans (HBX.out.mono (by omega))).setCell (by simp; omega) _).setCell (by simp) _).setCell (by simp) _).setCell (by simp) _
    · have hg : g2' ≠ w1.heap.size ∧ S ≤ g2' ∧ g2' < X.heap.size := by
        have h1 := HL.out.own.lt g2' rfl
        refine ⟨?_, h1.1, h1.2⟩
        rcases HAT.out with h | h
        · have := hrowlt _ h; omega
        · simp at h; omega
      have hk : ∀ i, i < ps.length + 1 → k' i ≠ w1.heap.size ∧ S ≤ k' i ∧ k' i < X.heap.size := by
        intro i hi
        have h1 := HL.out.lo i hi
        refine ⟨?_, h1.1, h1.2⟩
        rcases HKK.out i hi with ⟨h, h2⟩ | h
        · have := (HLR.out.lo i h2).2; omega
        · simp at h; omega
      refine ⟨fun c => w.heap.size + 1 + 1 ≤ c ∧ c < S, fun c => S ≤ c ∧ c ≠ w1.heap.size ∧ c < X.heap.size, ?_, ?_, fun b h1 h2 => by omega, fun b hb => ?_⟩
      · have h1 := (HIO.out.keep (w' := X) fun b hb hlt => (HBX.out.block b (by omega)).trans ((later1 _ _).block b hlt))
        exact (((h1.store (fun b hb => by simp; omega) _).store (fun b hb => by simp; omega) _).store (fun b hb => by simp; omega) _).store (fun b hb => by simp; omega) _
      · have h1 : PutsO X (.slice (some ⟨g2', 0, none⟩) (ps.length + 1) cap2) (ps ++ [(x, ws)]) (fun c => S ≤ c ∧ c ≠ w1.heap.size ∧ c < X.heap.size) :=
          LRow.puts2 (ps := ps ++ [(x, ws)]) HL.out (by simp) _ (fun g hg' => by
            have e : g2' = g := by simpa [Value.ownBlock] using hg'
            subst e; exact ⟨hg.2.1, hg.1, hg.2.2⟩) (fun i hi => ⟨(hk i hi).2.1, (hk i hi).1, (hk i hi).2.2⟩)
        exact (((h1.store (fun b hb => by simp; omega) _).store (fun b hb => by simp; omega) _).store (fun b hb => by simp; omega) _).store (fun b hb => by simp; omega) _
      · simp only [World.setCell, Array.size_modify]
        have := HBX.out.size
        simp at this
        rcases hb with hb | hb <;> omega

theorem specPut_any (hcp : L1CopySaid) (w : World) (vB vC v : Value) (bs : List (List Int)) (ps : List (Int × List Int)) (x : Int) (ws : List Int) (hB : IntsS w vB bs) (hP : Puts w vC ps) (hV : Ints w v ws) (hz : ∀ k : Nat, (bs[k]?.getD []).length ≤ 1048576) (hzp : ∀ k : Nat, (ps[k]?.getD (0, [])).2.length ≤ 1048576) (hzw : ws.length ≤ 1048576) :
    Calls Try.prog 9 #[.agg #[vB, vC], .int .i64 x, v] w (AnsDisk w (putCode bs ps x ws) (putBlocks bs ps x ws) (putCache bs ps x ws)) := by
  obtain ⟨aB, cB, rfl, m1, sB⟩ := hB.open'
  obtain ⟨aC, cC, rfl, m2, sP⟩ := hP.open'
  have bad : ∀ c : Int, ¬ c = 0 → putCode bs ps x ws = c → (∀ e w', (e = .returned (.agg #[.int .i64 c, .slice none 0 0, .slice none 0 0]) ∧ Below w.heap.size w w') → AnsDisk w (putCode bs ps x ws) (putBlocks bs ps x ws) (putCache bs ps x ws) e w') := by
    intro c hc he e w' ⟨h1, h2⟩
    have e1 : putBlocks bs ps x ws = [] := by unfold putBlocks; rw [he]; simp [hc]
    have e2 : putCache bs ps x ws = [] := by unfold putCache; rw [he]; simp [hc]
    rw [he, e1, e2, h1]
    exact ans_bad h2 c
  by_cases hf : faultF bs ps = 0
  · cases hp : placeB bs.length x
    · have e0 := placeF_no hf hp
      exact (specPut_place w aB _ cB _ v bs ps x m1 hB hP hf hp).mono fun e w' h => bad 3 (by decide) (by unfold putCode; rw [e0]; simp) e w' h
    · have e0 := placeF_ok hf hp
      by_cases hw : wordsF ws = 0
      · by_cases hq : 200 ≤ ps.length
        · exact (specPut_full w aB _ cB aC _ cC v bs ps x ws m1 hB hP hV hf hp hw hq).mono fun e w' h => bad 2 (by decide) (by unfold putCode; simp [e0, hw, hq]) e w' h
        · have ec : putCode bs ps x ws = 0 := by unfold putCode; simp [e0, hw, hq]
          have e1 : putBlocks bs ps x ws = bs := by unfold putBlocks; simp [ec]
          have e2 : putCache bs ps x ws = ps ++ [(x, ws)] := by unfold putCache; simp [ec]
          rw [ec, e1, e2]
          exact specPut_ok hcp w aB aC cB cC v bs ps x ws hB hP sB sP hV hf hp hw hq hz hzp hzw
      · exact (specPut_words w aB _ cB _ v bs ps x ws m1 hB hP hV hf hp hw).mono fun e w' h => bad _ hw (by unfold putCode; simp [e0, hw]) e w' h
  · have e0 := placeF_fault (x := x) hf
    exact (specPut_fault w _ _ v bs ps x hB hP hf).mono fun e w' h => bad _ hf (by unfold putCode; rw [e0]; simp [hf]) e w' h
end Go.Proofs.Ytomcejofhfngkaa

namespace Go.Proofs.Ytomcejofhfngkaa
open Go.RowKit
set_option maxRecDepth 100000

theorem resRow {w w1 : World} (x y : Value) (h : Below ((w.alloc (.cells #[x, y] 30)).alloc (.cells #[.int .i64 0, .slice none 0 0, .slice none 0 0] 32)).heap.size ((w.alloc (.cells #[x, y] 30)).alloc (.cells #[.int .i64 0, .slice none 0 0, .slice none 0 0] 32)) w1) :
    OwnRow w1 (w.heap.size + 1) 3 (fun i => if i = 0 then .int .i64 0 else if i = 1 then .slice none 0 0 else .slice none 0 0) := by
  have h2 := (three (w.alloc (.cells #[x, y] 30)) (.int .i64 0) (.slice none 0 0) (.slice none 0 0) 32).later h
  simpa using h2

set_option maxHeartbeats 1600000 in
theorem implPut_place (w : World) (aB : Option Addr) (cB : Nat) (aC : Option Addr) (nC cC : Nat) (v : Value) (bs : List (List Int)) (ps : List (Int × List Int)) (x : Int) (hB : IntsS w (.slice aB bs.length cB) bs) (hP : Puts w (.slice aC nC cC) ps) (hf : ¬ placeF bs ps x = 0) :
    Calls Try.prog 12 #[.agg #[.slice aB bs.length cB, .slice aC nC cC], .int .i64 x, v] w fun e w' => e = .returned (.agg #[.int .i64 (placeF bs ps x), .slice none 0 0, .slice none 0 0]) ∧ Below w.heap.size w w' := by
  have HB : Hid (IntsS w (.slice aB bs.length cB) bs) := hB
  have HP : Hid (Puts w (.slice aC nC cC) ps) := hP
  clear hB hP
  generalize hF : placeF bs ps x = F at *
  have HF : Hid (placeF bs ps x = F) := hF
  have hne : (F != 0) = true := by simpa using hf
  clear hF hf
  go_enter Try.func12, Try.ntmps12
  go_wp2_with fail
  refine (placeFault_any _ aB cB _ bs ps x (HB.out.later (later2 _ _ _)) (HP.out.later (later2 _ _ _))).mono ?_
  rw [HF.out]
  rintro e w1 ⟨rfl, hb1⟩
  have HW1 : Hid (Below w.heap.size w w1) := (later2 _ _ _).trans (hb1.mono (by simp; omega))
  have HR1 := resRow _ _ hb1
  have t0 := HR1.cell (i := 0) (by omega)
  have t1 := HR1.cell (i := 1) (by omega)
  have t2 := HR1.cell (i := 2) (by omega)
  have s0 := HR1.frozen 0
  have s1 := HR1.frozen 1
  have s2 := HR1.frozen 2
  simp at t0 t1 t2
  clear hb1 HR1
  go_wp2
  exact bodyPost_ret (v := .agg #[.int .i64 F, .slice none 0 0, .slice none 0 0]) (by simp [results, Try.results12, go_sem, t0, t1, t2]) rfl ⟨rfl, ((HW1.out.setCell (by simp) _).setCell (by simp) _).setCell (by simp) _⟩

set_option maxHeartbeats 1600000 in
theorem implPut_words (w : World) (aB : Option Addr) (cB : Nat) (aC : Option Addr) (nC cC : Nat) (v : Value) (bs : List (List Int)) (ps : List (Int × List Int)) (x : Int) (ws : List Int) (hB : IntsS w (.slice aB bs.length cB) bs) (hP : Puts w (.slice aC nC cC) ps) (hV : Ints w v ws) (hf : placeF bs ps x = 0) (hw : ¬ wordsF ws = 0) :
    Calls Try.prog 12 #[.agg #[.slice aB bs.length cB, .slice aC nC cC], .int .i64 x, v] w fun e w' => e = .returned (.agg #[.int .i64 (wordsF ws), .slice none 0 0, .slice none 0 0]) ∧ Below w.heap.size w w' := by
  have HB : Hid (IntsS w (.slice aB bs.length cB) bs) := hB
  have HP : Hid (Puts w (.slice aC nC cC) ps) := hP
  have HV : Hid (Ints w v ws) := hV
  have HF : Hid (placeF bs ps x = 0) := hf
  generalize hc : wordsF ws = c at *
  have HC : Hid (wordsF ws = c) := hc
  have hne : (c != 0) = true := by simpa using hw
  clear hB hP hV hf hw hc
  go_enter Try.func12, Try.ntmps12
  go_wp2_with fail
  refine (placeFault_any _ aB cB _ bs ps x (HB.out.later (later2 _ _ _)) (HP.out.later (later2 _ _ _))).mono ?_
  rw [HF.out]
  rintro e w1 ⟨rfl, hb1⟩
  have HW1 : Hid (Below w.heap.size w w1) := (later2 _ _ _).trans (hb1.mono (by simp; omega))
  have HR1 := resRow _ _ hb1
  have t0 := HR1.cell (i := 0) (by omega)
  have t1 := HR1.cell (i := 1) (by omega)
  have t2 := HR1.cell (i := 2) (by omega)
  have s0 := HR1.frozen 0
  have s1 := HR1.frozen 1
  have s2 := HR1.frozen 2
  simp at t0 t1 t2
  clear hb1 HR1
  go_wp2_with fail
  refine (words_any (HV.out.later HW1.out)).mono ?_
  rw [HC.out]
  rintro e w2 ⟨rfl, rfl⟩
  go_wp2
  exact bodyPost_ret (v := .agg #[.int .i64 c, .slice none 0 0, .slice none 0 0]) (by simp [results, Try.results12, go_sem, t0, t1, t2]) rfl ⟨rfl, ((HW1.out.setCell (by simp) _).setCell (by simp) _).setCell (by simp) _⟩

set_option maxHeartbeats 400000 in
theorem isFull_any (w : World) (bd : Nat) (aP : Option Addr) (nP cP : Nat) (h1 : w.cell? ⟨bd, 1, none⟩ = some (.slice aP nP cP)) (b : Bool) (hb : decide ((200 : Int) ≤ (nP : Int)) = b) :
    Calls Try.prog 53 #[.pointer (some ⟨bd, 0, none⟩)] w fun e w' => e = .returned (.bool b) ∧ w' = w := by
  go_enter Try.func53, Try.ntmps53
  go_wp2
  go_ret
  exact ⟨rfl, rfl⟩

set_option maxHeartbeats 3200000 in
theorem implPut_full (w : World) (aB aC : Option Addr) (cB cC : Nat) (v : Value) (bs : List (List Int)) (ps : List (Int × List Int)) (x : Int) (ws : List Int) (hB : IntsS w (.slice aB bs.length cB) bs) (hP : Puts w (.slice aC ps.length cC) ps) (sB : AtS w aB bs.length bs) (sP : AtP w aC ps.length ps) (hV : Ints w v ws) (hff : faultF bs ps = 0) (hf : placeF bs ps x = 0) (hw : wordsF ws = 0) (hq : 200 ≤ ps.length)
    (hz : ∀ k : Nat, (bs[k]?.getD []).length ≤ 1048576) (hzp : ∀ k : Nat, (ps[k]?.getD (0, [])).2.length ≤ 1048576) (hzw : ws.length ≤ 1048576) :
    Calls Try.prog 12 #[.agg #[.slice aB bs.length cB, .slice aC ps.length cC], .int .i64 x, v] w fun e w' => e = .returned (.agg #[.int .i64 2, .slice none 0 0, .slice none 0 0]) ∧ Below w.heap.size w w' := by
  have HB : Hid (IntsS w (.slice aB bs.length cB) bs) := hB
  have HP : Hid (Puts w (.slice aC ps.length cC) ps) := hP
  have SB : Hid (AtS w aB bs.length bs) := sB
  have SP : Hid (AtP w aC ps.length ps) := sP
  have HV : Hid (Ints w v ws) := hV
  have HF : Hid (placeF bs ps x = 0) := hf
  obtain ⟨g1, g2⟩ := faultF_lens hff
  have G1 : Hid (bs.length ≤ 60) := g1
  have G2 : Hid (ps.length ≤ 200) := g2
  have HC : Hid (wordsF ws = 0) := hw
  have HZ : Hid (∀ k : Nat, (bs[k]?.getD []).length ≤ 1048576) := hz
  have HZP : Hid (∀ k : Nat, (ps[k]?.getD (0, [])).2.length ≤ 1048576) := hzp
  have HZW : Hid (ws.length ≤ 1048576) := hzw
  have hd : decide ((200 : Int) ≤ (ps.length : Int)) = true := by simp; omega
  clear hB hP hV hf hw sB sP hz hzp hzw hff g1 g2 hq
  go_enter Try.func12, Try.ntmps12
  go_wp2_with fail
  refine (placeFault_any _ aB cB _ bs ps x (HB.out.later (later2 _ _ _)) (HP.out.later (later2 _ _ _))).mono ?_
  rw [HF.out]
  rintro e w1 ⟨rfl, hb1⟩
  have HW1 : Hid (Below w.heap.size w w1) := (later2 _ _ _).trans (hb1.mono (by simp; omega))
  have HX1 : Box2 w1 w.heap.size (.slice aB bs.length cB) (.slice aC ps.length cC) := ((Box2.new w _ _ 30).later (later1 _ _)).later hb1
  have HR1 : Hid (OwnRow w1 (w.heap.size + 1) 3 (fun i => if i = 0 then .int .i64 0 else if i = 1 then .slice none 0 0 else .slice none 0 0)) := resRow _ _ hb1
  have hz1 : w.heap.size + 1 < w1.heap.size := HR1.out.lt
  obtain ⟨x0, x1⟩ := HX1
  clear hb1
  go_wp2_with fail
  refine (words_any (HV.out.later HW1.out)).mono ?_
  rw [HC.out]
  rintro e w2 ⟨rfl, hw2⟩
  obtain rfl := hw2.symm
  go_wp2_with fail
  clear x0 x1
  refine (openDisk_walk _ aB aC bs.length cB ps.length cC bs ps rfl rfl G1.out G2.out (fun k _ => HZ.out k) (fun k _ => HZP.out k) (SB.out.later HW1.out) (SP.out.later HW1.out)).mono ?_
  rintro e w2 ⟨bd, g, aP, cP, pb, k, u, rfl, hdr⟩
  have HDR : Hid (Drive w1 w2 bd (some ⟨g, 0, none⟩) bs.length bs.length aP ps.length cP bs ps pb k u) := hdr
  have hbd1 : w1.heap.size ≤ bd := hdr.lo
  have hbd2 : bd < w2.heap.size := hdr.row.lt
  have HW2 : Hid (Below w.heap.size w w2) := HW1.out.trans (hdr.below.mono HW1.out.size)
  clear hdr
  have HR2 := HR1.out.later HDR.out.below
  have e1 := HDR.out.row.cell (i := 1) (by omega)
  simp at e1
  have t0 := HR2.cell (i := 0) (by omega)
  have t1 := HR2.cell (i := 1) (by omega)
  have t2 := HR2.cell (i := 2) (by omega)
  have s0 := HR2.frozen 0
  have s1 := HR2.frozen 1
  have s2 := HR2.frozen 2
  simp at t0 t1 t2
  clear HR2
  go_wp2_with fail
  refine (isFull_any w2 bd aP ps.length cP e1 true hd).mono ?_
  rintro e w3 ⟨rfl, hw3⟩
  obtain rfl := hw3.symm
  go_wp2
  exact bodyPost_ret (v := .agg #[.int .i64 2, .slice none 0 0, .slice none 0 0]) (by simp [results, Try.results12, go_sem, t0, t1, t2]) rfl ⟨rfl, ((HW2.out.setCell (by simp) _).setCell (by simp) _).setCell (by simp) _⟩

set_option maxHeartbeats 3200000 in
theorem implPut_ok (w : World) (aB aC : Option Addr) (cB cC : Nat) (v : Value) (bs : List (List Int)) (ps : List (Int × List Int)) (x : Int) (ws : List Int) (hB : IntsS w (.slice aB bs.length cB) bs) (hP : Puts w (.slice aC ps.length cC) ps) (sB : AtS w aB bs.length bs) (sP : AtP w aC ps.length ps) (hV : Ints w v ws) (hff : faultF bs ps = 0) (hf : placeF bs ps x = 0) (hw : wordsF ws = 0) (hq : ¬ 200 ≤ ps.length)
    (hz : ∀ k : Nat, (bs[k]?.getD []).length ≤ 1048576) (hzp : ∀ k : Nat, (ps[k]?.getD (0, [])).2.length ≤ 1048576) (hzw : ws.length ≤ 1048576) :
    Calls Try.prog 12 #[.agg #[.slice aB bs.length cB, .slice aC ps.length cC], .int .i64 x, v] w (AnsDisk w 0 bs (ps ++ [(x, ws)])) := by
  have HB : Hid (IntsS w (.slice aB bs.length cB) bs) := hB
  have HP : Hid (Puts w (.slice aC ps.length cC) ps) := hP
  have SB : Hid (AtS w aB bs.length bs) := sB
  have SP : Hid (AtP w aC ps.length ps) := sP
  have HV : Hid (Ints w v ws) := hV
  have HF : Hid (placeF bs ps x = 0) := hf
  obtain ⟨g1, g2⟩ := faultF_lens hff
  have G1 : Hid (bs.length ≤ 60) := g1
  have G2 : Hid (ps.length ≤ 200) := g2
  have HC : Hid (wordsF ws = 0) := hw
  have HZ : Hid (∀ k : Nat, (bs[k]?.getD []).length ≤ 1048576) := hz
  have HZP : Hid (∀ k : Nat, (ps[k]?.getD (0, [])).2.length ≤ 1048576) := hzp
  have HZW : Hid (ws.length ≤ 1048576) := hzw
  have hd : decide ((200 : Int) ≤ (ps.length : Int)) = false := by simp; omega
  clear hB hP hV hf hw sB sP hz hzp hzw hff g1 g2 hq
  go_enter Try.func12, Try.ntmps12
  go_wp2_with fail
  refine (placeFault_any _ aB cB _ bs ps x (HB.out.later (later2 _ _ _)) (HP.out.later (later2 _ _ _))).mono ?_
  rw [HF.out]
  rintro e w1 ⟨rfl, hb1⟩
  have HW1 : Hid (Below w.heap.size w w1) := (later2 _ _ _).trans (hb1.mono (by simp; omega))
  have HX1 : Box2 w1 w.heap.size (.slice aB bs.length cB) (.slice aC ps.length cC) := ((Box2.new w _ _ 30).later (later1 _ _)).later hb1
  have HR1 : Hid (OwnRow w1 (w.heap.size + 1) 3 (fun i => if i = 0 then .int .i64 0 else if i = 1 then .slice none 0 0 else .slice none 0 0)) := resRow _ _ hb1
  have hz1 : w.heap.size + 1 < w1.heap.size := HR1.out.lt
  obtain ⟨x0, x1⟩ := HX1
  clear hb1
  go_wp2_with fail
  refine (words_any (HV.out.later HW1.out)).mono ?_
  rw [HC.out]
  rintro e w2 ⟨rfl, hw2⟩
  obtain rfl := hw2.symm
  go_wp2_with fail
  clear x0 x1
  refine (openDisk_walk _ aB aC bs.length cB ps.length cC bs ps rfl rfl G1.out G2.out (fun k _ => HZ.out k) (fun k _ => HZP.out k) (SB.out.later HW1.out) (SP.out.later HW1.out)).mono ?_
  rintro e w2 ⟨bd, g, aP, cP, pb, k, u, rfl, hdr⟩
  have HDR : Hid (Drive w1 w2 bd (some ⟨g, 0, none⟩) bs.length bs.length aP ps.length cP bs ps pb k u) := hdr
  have hbd1 : w1.heap.size ≤ bd := hdr.lo
  have hbd2 : bd < w2.heap.size := hdr.row.lt
  have HW2 : Hid (Below w.heap.size w w2) := HW1.out.trans (hdr.below.mono HW1.out.size)
  have HCM : Hid (Cache w2 (bd + 1) (.slice aP ps.length cP) ps.length (more ps x ws) pb k u) := by
    have h := hdr.cache
    exact ⟨h.own, h.lo, h.ne, h.inj, fun i hi => by rw [more_old hi]; exact h.box i hi, fun i hi => by rw [more_old hi]; exact h.sh i hi, fun i hi => by rw [more_old hi]; exact h.at' i hi⟩
  clear hdr
  have HV2 : Hid (Ints w2 v (more ps x ws ps.length).2) := by unfold Hid; rw [more_new]; exact HV.out.later HW2.out
  have e1 := HDR.out.row.cell (i := 1) (by omega)
  simp at e1
  go_wp2_with fail
  refine (isFull_any w2 bd aP ps.length cP e1 false hd).mono ?_
  rintro e w3 ⟨rfl, hw3⟩
  obtain rfl := hw3.symm
  clear e1
  have HPUT : Hid (Calls _ _ _ _ _) := put_any w2 bd (bd + 1) ps.length _ aP cP (more ps x ws) pb k u (Nat.lt_succ_self _) (by omega) (by have := G2.out; omega) HDR.out.row HCM.out v HV2.out (by rw [more_new]; exact HZW.out)
  rw [more_new] at HPUT
  go_wp2_with fail
  refine HPUT.out.mono ?_
  rintro e w3 ⟨rfl, X, g', c', pb', k', u', rfl, hbX, hcX⟩
  have HX : Hid (Below (bd + 1) w2 X) := hbX
  have HCX : Hid (Cache (X.setCell ⟨bd, 1, none⟩ (.slice (some ⟨g', 0, none⟩) (ps.length + 1) c')) (bd + 1) (.slice (some ⟨g', 0, none⟩) (ps.length + 1) c') (ps.length + 1) (more ps x ws) pb' k' u') := hcX.store (by simp) _
  have HRX : Hid (OwnRow (X.setCell ⟨bd, 1, none⟩ (.slice (some ⟨g', 0, none⟩) (ps.length + 1) c')) bd 2 (fun c => if c = 0 then .slice (some ⟨g, 0, none⟩) bs.length bs.length else .slice (some ⟨g', 0, none⟩) (ps.length + 1) c')) :=
    ((HDR.out.row.block (hbX.block _ (by omega))).set 1 _).congr fun c hc => by
      have : c = 0 ∨ c = 1 := by omega
      rcases this with rfl | rfl <;> simp
  have HIX : Hid (IntsSO (X.setCell ⟨bd, 1, none⟩ (.slice (some ⟨g', 0, none⟩) (ps.length + 1) c')) (.slice (some ⟨g, 0, none⟩) bs.length bs.length) bs (fun c => w1.heap.size ≤ c ∧ c < bd)) := (HDR.out.blocks.keep fun b hb hlt => hbX.block b (by omega)).store (fun b hb => by simp; omega) _
  have HR3 : Hid (OwnRow (X.setCell ⟨bd, 1, none⟩ (.slice (some ⟨g', 0, none⟩) (ps.length + 1) c')) (w.heap.size + 1) 3 (fun i => if i = 0 then .int .i64 0 else if i = 1 then .slice none 0 0 else .slice none 0 0)) := ((HR1.out.later HDR.out.below).block (hbX.block _ (by omega))).store (by simp; omega) _
  have HW3 : Hid (Below w.heap.size w (X.setCell ⟨bd, 1, none⟩ (.slice (some ⟨g', 0, none⟩) (ps.length + 1) c'))) := (HW2.out.trans (hbX.mono (by have := HW1.out.size; omega))).setCell (by simp; have := HW1.out.size; omega) _
  clear hbX hcX HPUT
  generalize hW : X.setCell ⟨bd, 1, none⟩ (.slice (some ⟨g', 0, none⟩) (ps.length + 1) c') = W at *
  clear hW
  go_wp2_with fail
  refine (disk_any W bd (bd + 1) (ps.length + 1) (some ⟨g, 0, none⟩) bs.length bs.length (some ⟨g', 0, none⟩) c' (more ps x ws) pb' k' u' (by have := G2.out; omega) HRX.out HCX.out).mono ?_
  rintro e w4 ⟨aD, cD, rfl, hb4, hl4⟩
  have HL4 : Hid (LRow (C2 fun i => (more ps x ws i).1) w4 W.heap.size (bd + 1) 71 2 (.slice aD (ps.length + 1) cD) (ps.length + 1) (fun i => (more ps x ws i).2) k' u') := hl4
  have HI4 : Hid (IntsSO w4 (.slice (some ⟨g, 0, none⟩) bs.length bs.length) bs (fun c => w1.heap.size ≤ c ∧ c < bd)) := HIX.out.keep fun b hb hlt => hb4.block b hlt
  have HW4 : Hid (Below w.heap.size w w4) := HW3.out.trans (hb4.mono HW3.out.size)
  have HR4 := HR3.out.later hb4
  have hbdW : bd < W.heap.size := HRX.out.lt
  have hbd4 : bd < w4.heap.size := by have := hb4.size; omega
  have t0 := HR4.cell (i := 0) (by omega)
  have t1 := HR4.cell (i := 1) (by omega)
  have t2 := HR4.cell (i := 2) (by omega)
  have s0 := HR4.frozen 0
  have s1 := HR4.frozen 1
  have s2 := HR4.frozen 2
  simp at t0 t1 t2
  clear hb4 hl4 HR4
  go_wp2
  refine bodyPost_ret (v := .agg #[.int .i64 0, .slice (some ⟨g, 0, none⟩) bs.length bs.length, .slice aD (ps.length + 1) cD]) (by simp [results, Try.results12, go_sem, t0, t1, t2]) rfl ⟨_, _, _, _, _, _, rfl, ?_, ?_⟩
  · exact ((HW4.out.setCell (by simp) _).setCell (by simp) _).setCell (by simp) _
  · refine ⟨fun c => w1.heap.size ≤ c ∧ c < bd, fun c => bd < c ∧ c < w4.heap.size, ((HI4.out.store (fun b hb => by simp; omega) _).store (fun b hb => by simp; omega) _).store (fun b hb => by simp; omega) _, ?_, fun b h1 h2 => by omega, fun b hb => ?_⟩
    · have h1 : PutsO w4 (.slice aD (ps.length + 1) cD) (ps ++ [(x, ws)]) (fun c => bd < c ∧ c < w4.heap.size) :=
        LRow.puts2 (ps := ps ++ [(x, ws)]) HL4.out (by simp) _ (fun g hg => by have := HL4.out.own.lt g hg; omega) (fun i hi => by have := HL4.out.lo i hi; omega)
      exact ((h1.store (fun b hb => by simp; omega) _).store (fun b hb => by simp; omega) _).store (fun b hb => by simp; omega) _
    · simp only [World.setCell, Array.size_modify]
      have h0 := HW1.out.size
      rcases hb with hb | hb <;> omega

theorem implPut_any (w : World) (vB vC v : Value) (bs : List (List Int)) (ps : List (Int × List Int)) (x : Int) (ws : List Int) (hB : IntsS w vB bs) (hP : Puts w vC ps) (hV : Ints w v ws) (hz : ∀ k : Nat, (bs[k]?.getD []).length ≤ 1048576) (hzp : ∀ k : Nat, (ps[k]?.getD (0, [])).2.length ≤ 1048576) (hzw : ws.length ≤ 1048576) :
    Calls Try.prog 12 #[.agg #[vB, vC], .int .i64 x, v] w (AnsDisk w (putCode bs ps x ws) (putBlocks bs ps x ws) (putCache bs ps x ws)) := by
  obtain ⟨aB, cB, rfl, m1, sB⟩ := hB.open'
  obtain ⟨aC, cC, rfl, m2, sP⟩ := hP.open'
  have bad : ∀ c : Int, ¬ c = 0 → putCode bs ps x ws = c → (∀ e w', (e = .returned (.agg #[.int .i64 c, .slice none 0 0, .slice none 0 0]) ∧ Below w.heap.size w w') → AnsDisk w (putCode bs ps x ws) (putBlocks bs ps x ws) (putCache bs ps x ws) e w') := by
    intro c hc he e w' ⟨h1, h2⟩
    have e1 : putBlocks bs ps x ws = [] := by unfold putBlocks; rw [he]; simp [hc]
    have e2 : putCache bs ps x ws = [] := by unfold putCache; rw [he]; simp [hc]
    rw [he, e1, e2, h1]
    exact ans_bad h2 c
  by_cases h0 : placeF bs ps x = 0
  · by_cases hw : wordsF ws = 0
    · have hf : faultF bs ps = 0 := by
        by_cases hf : faultF bs ps = 0
        · exact hf
        · rw [placeF_fault hf] at h0; exact h0
      by_cases hq : 200 ≤ ps.length
      · exact (implPut_full w aB aC cB cC v bs ps x ws hB hP sB sP hV hf h0 hw hq hz hzp hzw).mono fun e w' h => bad 2 (by decide) (by unfold putCode; simp [h0, hw, hq]) e w' h
      · have ec : putCode bs ps x ws = 0 := by unfold putCode; simp [h0, hw, hq]
        have e1 : putBlocks bs ps x ws = bs := by unfold putBlocks; simp [ec]
        have e2 : putCache bs ps x ws = ps ++ [(x, ws)] := by unfold putCache; simp [ec]
        rw [ec, e1, e2]
        exact implPut_ok w aB aC cB cC v bs ps x ws hB hP sB sP hV hf h0 hw hq hz hzp hzw
    · exact (implPut_words w aB cB aC _ cC v bs ps x ws hB hP hV h0 hw).mono fun e w' h => bad _ hw (by unfold putCode; simp [h0, hw]) e w' h
  · exact (implPut_place w aB cB aC _ cC v bs ps x hB hP h0).mono fun e w' h => bad _ h0 (by unfold putCode; simp [h0]) e w' h
end Go.Proofs.Ytomcejofhfngkaa

namespace Go.Proofs.Ytomcejofhfngkaa
open Go.RowKit
set_option maxRecDepth 100000

def mayF (d : KD) (key x : Int) : Int := if (ownR d x).1 = 0 then (if (ownR d x).2 = key then 0 else 6) else (ownR d x).1

set_option maxHeartbeats 1600000 in
theorem l2May_any {w : World} {bk : Nat} {vB vC vE : Value} {d : KD} (key x : Int) (h0 : w.cell? ⟨bk, 0, none⟩ = some vB) (h1 : w.cell? ⟨bk, 1, none⟩ = some vC) (h2 : w.cell? ⟨bk, 2, none⟩ = some vE) (h : KernR w vB vC vE d) :
    Calls Try.prog 64 #[.pointer (some ⟨bk, 0, none⟩), .int .i64 key, .int .i64 x] w fun e w' => e = .returned (.int .i64 (mayF d key x)) ∧ Below w.heap.size w w' := by
  obtain ⟨a1, c1, rfl, _⟩ := h.1.1.open'
  obtain ⟨a2, c2, rfl, _⟩ := h.1.2.open'
  obtain ⟨a3, c3, rfl, _⟩ := h.2.open'
  have H : Hid (KernR w (.slice a1 d.1.1.length c1) (.slice a2 d.1.2.length c2) (.slice a3 d.2.length c3) d) := h
  have HM : Hid (mayF d key x = if (ownR d x).1 = 0 then (if (ownR d x).2 = key then 0 else 6) else (ownR d x).1) := rfl
  rw [HM.out]
  obtain ⟨c, v, hr⟩ : ∃ c v, ownR d x = (c, v) := ⟨_, _, rfl⟩
  have HR : Hid (ownR d x = (c, v)) := hr
  rw [hr]
  clear h hr HM
  generalize d.1.1.length = n1 at *
  generalize d.1.2.length = n2 at *
  generalize d.2.length = n3 at *
  by_cases hc : c = 0
  · subst hc
    by_cases hv : v = key
    · subst hv
      have hne : (v != v) = false := by simp
      rw [if_pos rfl, if_pos rfl]
      go_enter Try.func64, Try.ntmps64
      go_wp2_with fail
      refine (specOwner_any _ _ _ _ d x H.out).mono ?_
      rw [HR.out]
      rintro e w1 ⟨rfl, hb1⟩
      have HB1 : Hid (Below w.heap.size w w1) := hb1
      clear hb1
      go_wp2
      go_ret
      exact ⟨rfl, HB1.out.trans ((later1 _ _).mono HB1.out.size)⟩
    · have hne : (v != key) = true := by simpa using hv
      rw [if_pos rfl, if_neg hv]
      clear hv
      go_enter Try.func64, Try.ntmps64
      go_wp2_with fail
      refine (specOwner_any _ _ _ _ d x H.out).mono ?_
      rw [HR.out]
      rintro e w1 ⟨rfl, hb1⟩
      have HB1 : Hid (Below w.heap.size w w1) := hb1
      clear hb1
      go_wp2
      go_ret
      exact ⟨rfl, HB1.out.trans ((later1 _ _).mono HB1.out.size)⟩
  · have hne : (c != 0) = true := by simpa using hc
    rw [if_neg hc]
    clear hc
    go_enter Try.func64, Try.ntmps64
    go_wp2_with fail
    refine (specOwner_any _ _ _ _ d x H.out).mono ?_
    rw [HR.out]
    rintro e w1 ⟨rfl, hb1⟩
    have HB1 : Hid (Below w.heap.size w w1) := hb1
    clear hb1
    go_wp2
    go_ret
    exact ⟨rfl, HB1.out.trans ((later1 _ _).mono HB1.out.size)⟩
end Go.Proofs.Ytomcejofhfngkaa

namespace Go.Proofs.Ytomcejofhfngkaa
open Go.RowKit
set_option maxRecDepth 100000

theorem lockF_eq {z key : Int} (h1 : 1 ≤ z) (h2 : z ≤ 9999) : (lockF z == lockF key) = (z == key) := by
  unfold lockF
  rw [if_pos ⟨h1, h2⟩]
  split
  · rfl
  · rename_i h
    rw [beq_eq_false_iff_ne.2 (by omega), beq_eq_false_iff_ne.2 (by omega)]

set_option maxHeartbeats 800000 in
theorem opensTo_any (w : World) (p y z key : Int) :
    Calls Try.prog 100 #[.agg #[.int .i64 p, .int .i64 y, .int .i64 z], .int .i64 key] w fun e w' => e = .returned (.bool (lockF z == lockF key)) ∧ Below w.heap.size w w' := by
  go_enter Try.func100, Try.ntmps100
  go_wp2_with fail
  refine (lockOf_any _ _).mono ?_
  rintro e w1 ⟨rfl, rfl⟩
  go_wp2_with fail
  refine (lockOf_any _ _).mono ?_
  rintro e w1 ⟨rfl, rfl⟩
  go_wp2
  go_ret
  exact ⟨rfl, later1 _ _⟩

theorem ownR_ok {d : KD} {x v : Int} (h : ownR d x = (0, v)) : kernF d = 0 ∧ (ownE d.2 x).2.2 = v ∧ 1 ≤ v ∧ v ≤ 9999 := by
  unfold ownR at h
  split at h
  · rename_i hk
    split at h
    · split at h
      · simp at h
      · rename_i hne
        simp only [Prod.mk.injEq, true_and] at h
        refine ⟨hk, h, ?_⟩
        rcases ownE_cases d.2 x with ⟨j, hj, e⟩ | e
        · have := (rightB_iff.1 ((kernF_ok hk).2.2 j hj).1).1
          rw [← e, h] at this
          exact this
        · exact absurd (by rw [e]) hne
    · simp at h
  · rename_i hk
    simp only [Prod.mk.injEq] at h
    exact absurd h.1 hk

set_option maxHeartbeats 3200000 in
theorem keyFault_any (w : World) (vB vC vE : Value) (d : KD) (key x : Int) (h : KernR w vB vC vE d) :
    Calls Try.prog 68 #[.agg #[vB, vC, vE], .int .i64 key, .int .i64 x] w fun e w' => e = .returned (.int .i64 (mayF d key x)) ∧ Below w.heap.size w w' := by
  obtain ⟨a1, c1, rfl, hm1, _⟩ := h.1.1.open'
  obtain ⟨a2, c2, rfl, _⟩ := h.1.2.open'
  obtain ⟨a3, c3, rfl, _, hE⟩ := h.2.open'
  have H : Hid (KernR w (.slice a1 d.1.1.length c1) (.slice a2 d.1.2.length c2) (.slice a3 d.2.length c3) d) := h
  have HE : Hid (AtE w a3 d.2.length d.2) := hE
  clear h hE
  have HM : Hid (mayF d key x = if (ownR d x).1 = 0 then (if (ownR d x).2 = key then 0 else 6) else (ownR d x).1) := rfl
  rw [HM.out]
  obtain ⟨c, v, hr⟩ : ∃ c v, ownR d x = (c, v) := ⟨_, _, rfl⟩
  have HR : Hid (ownR d x = (c, v)) := hr
  have FACTS : Hid (kernF d = 0 → d.1.1.length ≤ 60 ∧ d.2.length ≤ 8 ∧ ∀ i, i < d.2.length → rightB (extAt d.2 i) d.1.1.length = true) := fun h => by
    obtain ⟨k1, k2, k3⟩ := kernF_ok h
    exact ⟨(faultF_lens k1).1, k2, fun i hi => (k3 i hi).1⟩
  rw [hr]
  clear hr HM hm1
  generalize hlB : d.1.1.length = nB at *
  generalize hlC : d.1.2.length = nC at *
  generalize hlE : d.2.length = nE at *
  have HLE : Hid (d.2.length = nE) := hlE
  clear hlB hlC hlE
  by_cases hc : c = 0
  · subst hc
    obtain ⟨hk, hv, hl1, hl2⟩ := ownR_ok HR.out
    obtain ⟨h60, h8, hrt⟩ := FACTS.out hk
    have HRT : Hid (∀ i, i < nE → rightB (extAt d.2 i) nB = true) := hrt
    have HLK := lockF_eq (key := key) hl1 hl2
    obtain ⟨p, y, z, hez⟩ : ∃ p y z, ownE d.2 x = (p, y, z) := ⟨_, _, _, rfl⟩
    have HEZ : Hid (ownE d.2 x = (p, y, z)) := hez
    rw [hez] at hv
    dsimp only at hv
    subst hv
    clear hk hrt FACTS hl1 hl2 hez
    rw [if_pos rfl]
    by_cases hv : z = key
    · have HLK2 : Hid ((lockF z == lockF key) = true) := by unfold Hid; rw [HLK]; simpa using hv
      rw [if_pos hv]
      clear HLK hv
      go_enter Try.func68, Try.ntmps68
      go_wp2_with fail
      refine (implOwner_any _ _ _ _ d x (H.out.later (later1 _ _))).mono ?_
      rw [HR.out]
      rintro e w1 ⟨rfl, hb1⟩
      have HW1 : Hid (Below w.heap.size w w1) := (later1 _ _).trans (hb1.mono (by simp))
      have HX1 : Hid (Bx w1 w.heap.size [.slice a1 nB c1, .slice a2 nC c2, .slice a3 nE c3]) := (Bx.new w [.slice a1 nB c1, .slice a2 nC c2, .slice a3 nE c3] _).later hb1
      have x2 := HX1.out 2 _ rfl
      have hz1 : w.heap.size < w1.heap.size := HX1.out.lt
      clear hb1
      go_wp2_with fail
      refine (extWith_walk _ a3 nE c3 nB d.2 x HLE.out (HE.out.later (HW1.out.trans ((later1 _ _).mono HW1.out.size))) h8 h60 HRT.out).mono ?_
      rw [HEZ.out]
      rintro e w2 ⟨rfl, hb2⟩
      have HW2 : Hid (Below w.heap.size w w2) := (HW1.out.trans ((later1 _ _).mono HW1.out.size)).trans (hb2.mono (by have := HW1.out.size; simp; omega))
      clear hb2 x2
      go_wp2_with fail
      refine (opensTo_any _ p y z key).mono ?_
      rw [HLK2.out]
      rintro e w3 ⟨rfl, hb3⟩
      have HW3 : Hid (Below w.heap.size w w3) := HW2.out.trans (hb3.mono HW2.out.size)
      clear hb3
      go_wp2
      go_ret
      exact ⟨rfl, HW3.out⟩
    · have HLK2 : Hid ((lockF z == lockF key) = false) := by unfold Hid; rw [HLK]; simpa using hv
      rw [if_neg hv]
      clear HLK hv
      go_enter Try.func68, Try.ntmps68
      go_wp2_with fail
      refine (implOwner_any _ _ _ _ d x (H.out.later (later1 _ _))).mono ?_
      rw [HR.out]
      rintro e w1 ⟨rfl, hb1⟩
      have HW1 : Hid (Below w.heap.size w w1) := (later1 _ _).trans (hb1.mono (by simp))
      have HX1 : Hid (Bx w1 w.heap.size [.slice a1 nB c1, .slice a2 nC c2, .slice a3 nE c3]) := (Bx.new w [.slice a1 nB c1, .slice a2 nC c2, .slice a3 nE c3] _).later hb1
      have x2 := HX1.out 2 _ rfl
      have hz1 : w.heap.size < w1.heap.size := HX1.out.lt
      clear hb1
      go_wp2_with fail
      refine (extWith_walk _ a3 nE c3 nB d.2 x HLE.out (HE.out.later (HW1.out.trans ((later1 _ _).mono HW1.out.size))) h8 h60 HRT.out).mono ?_
      rw [HEZ.out]
      rintro e w2 ⟨rfl, hb2⟩
      have HW2 : Hid (Below w.heap.size w w2) := (HW1.out.trans ((later1 _ _).mono HW1.out.size)).trans (hb2.mono (by have := HW1.out.size; simp; omega))
      clear hb2 x2
      go_wp2_with fail
      refine (opensTo_any _ p y z key).mono ?_
      rw [HLK2.out]
      rintro e w3 ⟨rfl, hb3⟩
      have HW3 : Hid (Below w.heap.size w w3) := HW2.out.trans (hb3.mono HW2.out.size)
      clear hb3
      go_wp2
      go_ret
      exact ⟨rfl, HW3.out⟩
  · have hne : (c != 0) = true := by simpa using hc
    rw [if_neg hc]
    clear hc FACTS
    go_enter Try.func68, Try.ntmps68
    go_wp2_with fail
    refine (implOwner_any _ _ _ _ d x (H.out.later (later1 _ _))).mono ?_
    rw [HR.out]
    rintro e w1 ⟨rfl, hb1⟩
    have HW1 : Hid (Below w.heap.size w w1) := (later1 _ _).trans (hb1.mono (by simp))
    clear hb1
    go_wp2
    go_ret
    exact ⟨rfl, HW1.out.trans ((later1 _ _).mono HW1.out.size)⟩
end Go.Proofs.Ytomcejofhfngkaa

namespace Go.Proofs.Ytomcejofhfngkaa
open Go.RowKit
set_option maxRecDepth 100000

theorem append_lit (W : World) (ty : TypeId) (base g : Nat) (fs : List E3) (hrow : W.heap[g]? = some (.cells #[] 104 (0, 0))) (hbg : base ≤ g) (a : Option Addr) (cap : Nat) (hn : fs.length ≤ 1048576) (hc : AtE W a fs.length fs) :
    ∃ a' c' X, (Builtin.append_ #[49, 49] ty #[.slice (some ⟨g, 0, none⟩) 0 0, .slice a fs.length cap]).run Try.prog W = .ok (.slice a' fs.length c') X ∧ Below base W X ∧ ExtsO X (.slice a' fs.length c') fs (fun b => (b = g ∨ W.heap.size ≤ b) ∧ b < X.heap.size) ∧
      (∀ b, b < W.heap.size → b ≠ g → X.heap[b]? = W.heap[b]?) := by
  have hgl : g < W.heap.size := (Array.getElem?_eq_some_iff.1 hrow).1
  have h : ERow W base (.slice (some ⟨g, 0, none⟩) 0 0) [] := ⟨by simp [exCells], Or.inr ⟨g, 0, #[], rfl, hbg, hrow, Nat.le_refl _, by unfold maxLen; omega, by simp, by simp [exCells]⟩⟩
  obtain ⟨v', X, hr, ho, hB, hk, hg, a', c', rfl⟩ := append_exts W ty base _ [] fs h (by omega) a cap (by simpa using hn) hc
  simp only [List.length_nil, Nat.zero_add, List.nil_append] at hr ho hg
  refine ⟨a', c', X, hr, hB, ho.exts.mono fun b hb => ⟨?_, hb.2.2⟩, fun b hb hne => hk b hb (by simp only [Value.ownBlock]; simpa using fun e => hne e.symm)⟩
  rcases hg b hb.1 with e | e
  · simp only [Value.ownBlock, Option.some.injEq] at e
    exact Or.inl e.symm
  · exact Or.inr e
end Go.Proofs.Ytomcejofhfngkaa

namespace Go.Proofs.Ytomcejofhfngkaa
open Go.RowKit
set_option maxRecDepth 100000

theorem KResU.of {w : World} {vW vB vC vE : Value} {ws : List Int} {d : DK} {es : List E3} {F1 F2 F3 F : Nat → Prop} (h1 : IntsO w vW ws F1) (h2 : DiskU w vB vC d F2) (h3 : ExtsO w vE es F3) (d12 : ∀ b, F1 b → ¬ F2 b) (d13 : ∀ b, F1 b → ¬ F3 b) (d23 : ∀ b, F2 b → ¬ F3 b) (hf : ∀ b, F1 b ∨ F2 b ∨ F3 b → F b) : KResU w vW vB vC vE (ws, d, es) F :=
  ⟨F1, fun b => F2 b ∨ F3 b, h1, ⟨F2, F3, h2, h3, d23, fun _ h => h⟩, fun b h h' => h'.elim (d12 b h) (d13 b h), hf⟩
theorem set5 {w : World} {β b : Nat} (v0 v1 v2 v3 v4 : Value) (hb : b ≠ β) : (((((w.setCell ⟨β, 0, none⟩ v0).setCell ⟨β, 1, none⟩ v1).setCell ⟨β, 2, none⟩ v2).setCell ⟨β, 3, none⟩ v3).setCell ⟨β, 4, none⟩ v4).heap[b]? = w.heap[b]? := by
  rw [Below.heap_setCell _ _ _ _ hb, Below.heap_setCell _ _ _ _ hb, Below.heap_setCell _ _ _ _ hb, Below.heap_setCell _ _ _ _ hb, Below.heap_setCell _ _ _ _ hb]
theorem ansK_ret {w W : World} {β : Nat} {code : Int} {aW : Option Addr} {nW cW : Nat} {aB : Option Addr} {nB cB : Nat} {aC : Option Addr} {nC cC : Nat} {aE : Option Addr} {nE cE : Nat} {d : KResD} {F : Nat → Prop} (hb : Below w.heap.size w W) (hβ : w.heap.size ≤ β) (h : KResU W (.slice aW nW cW) (.slice aB nB cB) (.slice aC nC cC) (.slice aE nE cE) d F) (hF : ∀ b, F b → w.heap.size ≤ b ∧ b < W.heap.size ∧ b ≠ β) :
    AnsKR w (code, d) (.returned (.agg #[.int .i64 code, .slice aW nW cW, .slice aB nB cB, .slice aC nC cC, .slice aE nE cE])) (((((W.setCell ⟨β, 0, none⟩ (.int .i64 code)).setCell ⟨β, 1, none⟩ (.slice aW nW cW)).setCell ⟨β, 2, none⟩ (.slice aB nB cB)).setCell ⟨β, 3, none⟩ (.slice aC nC cC)).setCell ⟨β, 4, none⟩ (.slice aE nE cE)) :=
  ⟨_, _, _, _, _, _, _, _, _, _, _, _, rfl, ((((hb.setCell hβ _).setCell hβ _).setCell hβ _).setCell hβ _).setCell hβ _, (h.keep fun b hf _ => set5 _ _ _ _ _ (hF b hf).2.2).mono fun b hf => ⟨(hF b hf).1, by simpa [World.setCell] using (hF b hf).2.1⟩⟩
theorem ansK_no {w W : World} {β : Nat} (hb : Below w.heap.size w W) (hβ : w.heap.size ≤ β) (code : Int) :
    AnsKR w (code, [], ([], []), []) (.returned (.agg #[.int .i64 code, .slice none 0 0, .slice none 0 0, .slice none 0 0, .slice none 0 0])) (((((W.setCell ⟨β, 0, none⟩ (.int .i64 code)).setCell ⟨β, 1, none⟩ (.slice none 0 0)).setCell ⟨β, 2, none⟩ (.slice none 0 0)).setCell ⟨β, 3, none⟩ (.slice none 0 0)).setCell ⟨β, 4, none⟩ (.slice none 0 0)) :=
  ansK_bad (((((hb.setCell hβ _).setCell hβ _).setCell hβ _).setCell hβ _).setCell hβ _) code

theorem AnsKR.later {w W W' : World} {r : Int × KResD} {e : Ending} (h : AnsKR w r e W) (hb : Below W.heap.size W W') : AnsKR w r e W' := by
  obtain ⟨aW, nW, cW, aB, nB, cB, aC, nC, cC, aE, nE, cE, h1, h2, h3⟩ := h
  exact ⟨aW, nW, cW, aB, nB, cB, aC, nC, cC, aE, nE, cE, h1, h2.trans (hb.mono h2.size), (h3.later hb).mono fun b hf => ⟨hf.1, Nat.lt_of_lt_of_le hf.2 hb.size⟩⟩

theorem l2Bad_any (w : World) (c : Int) : Calls Try.prog 65 #[.int .i64 c] w fun e w' => e = .returned (.agg #[.int .i64 c, .slice none 0 0, .slice none 0 0, .slice none 0 0, .slice none 0 0]) ∧ Below w.heap.size w w' := by
  go_enter Try.func65, Try.ntmps65
  go_wp2
  exact bodyPost_ret (v := .agg #[.int .i64 c, .slice none 0 0, .slice none 0 0, .slice none 0 0, .slice none 0 0]) (by simp [results, Try.results65, go_sem]) rfl ⟨rfl, later1 _ _⟩

def newK (size : Int) : Int × KResD := (newCode size, [], (newBlocks size, []), [])
/-- The cells of an empty answer. -/
def zero5 : List Value := [.int .i64 0, .slice none 0 0, .slice none 0 0, .slice none 0 0, .slice none 0 0]

theorem newSpan (size : Int) : spanKRes (newK size).2 = 0 := by
  simp only [newK, spanKRes, spanKern, spanDisk, dspan, newBlocks]
  split <;> simp [wlens]
end Go.Proofs.Ytomcejofhfngkaa

namespace Go.Proofs.Ytomcejofhfngkaa
open Go.RowKit
set_option maxRecDepth 100000

/-- An answer that is a kern of its own memory. -/
def AnsKern (w : World) (d : KD) (e : Ending) (w' : World) : Prop := ∃ a1 n1 c1 a2 n2 c2 a3 n3 c3, e = .returned (.agg #[.slice a1 n1 c1, .slice a2 n2 c2, .slice a3 n3 c3]) ∧ Below w.heap.size w w' ∧ KernU w' (.slice a1 n1 c1) (.slice a2 n2 c2) (.slice a3 n3 c3) d (fresh w w')

theorem l1CopyU (hcp : L1CopySaid) (w : World) (aB aC : Option Addr) (cB cC : Nat) (bs : List (List Int)) (ps : List (Int × List Int)) (g1 : bs.length ≤ 60) (g2 : ps.length ≤ 200) (hz : ∀ k : Nat, (bs[k]?.getD []).length ≤ 1048576) (hzp : ∀ k : Nat, (ps[k]?.getD (0, [])).2.length ≤ 1048576) (hB : AtS w aB bs.length bs) (hP : AtP w aC ps.length ps) :
    Calls Try.prog 46 #[.agg #[.slice aB bs.length cB, .slice aC ps.length cC]] w fun e w' => ∃ aX nX cX aY nY cY, e = .returned (.agg #[.slice aX nX cX, .slice aY nY cY]) ∧ Below w.heap.size w w' ∧ DiskU w' (.slice aX nX cX) (.slice aY nY cY) (bs, ps) (fresh w w') := by
  refine (hcp w aB aC bs.length cB ps.length cC bs ps rfl rfl g1 g2 hz hzp hB hP).mono ?_
  rintro e w1 ⟨S, aX, cX, aY, cY, k, u, rfl, hb1, hS1, hS2, hio, hlr⟩
  refine ⟨_, _, _, _, _, _, rfl, hb1, fun c => w.heap.size ≤ c ∧ c < S, fun c => S ≤ c ∧ c < w1.heap.size, hio, ?_, fun b h1 h2 => by omega, fun b hb => ?_⟩
  · exact LRow.puts2 (ps := ps) hlr rfl _ (fun g hg => hlr.own.lt g hg) (fun i hi => hlr.lo i hi)
  · unfold fresh
    rcases hb with hb | hb <;> omega

/-- Behind the copying of the disk: what appending the extents comes to (the empty list lies at g). -/
theorem lit_after {w w1 : World} {g lo : Nat} {es : List E3} {aE : Option Addr} {cE : Nat} {f : Nat → Value} (hg : w1.heap[g]? = some (.cells #[] 104 (0, 0))) (hlg : lo ≤ g) (hwl : w.heap.size + 1 < lo) (hE : AtE w1 aE es.length es) (hn : es.length ≤ 1048576) (hR : OwnRow w1 (w.heap.size + 1) 3 f) :
    ∃ a' c' X, (Builtin.append_ #[49, 49] 49 #[.slice (some ⟨g, 0, none⟩) 0 0, .slice aE es.length cE]).run Try.prog w1 = .ok (.slice a' es.length c') X ∧ Below lo w1 X ∧ ExtsO X (.slice a' es.length c') es (fun b => (b = g ∨ w1.heap.size ≤ b) ∧ b < X.heap.size) ∧ (∀ b, b < w1.heap.size → b ≠ g → X.heap[b]? = w1.heap[b]?) ∧ OwnRow X (w.heap.size + 1) 3 f := by
  obtain ⟨a', c', X, hr, hBX, hEX, hKX⟩ := append_lit w1 49 lo g es hg hlg aE cE hn hE
  exact ⟨a', c', X, hr, hBX, hEX, hKX, hR.block (hKX _ hR.lt (by omega))⟩

set_option maxHeartbeats 3200000 in
theorem l2Copy_any (hcp : L1CopySaid) (w : World) (vB vC vE : Value) (bs : List (List Int)) (ps : List (Int × List Int)) (es : List E3) (h : KernR w vB vC vE ((bs, ps), es)) (hf : faultF bs ps = 0) (he : es.length ≤ 8)
    (hz : ∀ k : Nat, (bs[k]?.getD []).length ≤ 1048576) (hzp : ∀ k : Nat, (ps[k]?.getD (0, [])).2.length ≤ 1048576) :
    Calls Try.prog 66 #[.agg #[vB, vC, vE]] w (AnsKern w ((bs, ps), es)) := by
  obtain ⟨aB, cB, rfl, _, sB⟩ := h.1.1.open'
  obtain ⟨aC, cC, rfl, _, sP⟩ := h.1.2.open'
  obtain ⟨aE, cE, rfl, _, sE⟩ := h.2.open'
  dsimp only at sB sP sE ⊢
  have HCP : Hid L1CopySaid := hcp
  have SB : Hid (AtS w aB bs.length bs) := sB
  have SP : Hid (AtP w aC ps.length ps) := sP
  have SE : Hid (AtE w aE es.length es) := sE
  obtain ⟨g1, g2⟩ := faultF_lens hf
  have G1 : Hid (bs.length ≤ 60) := g1
  have G2 : Hid (ps.length ≤ 200) := g2
  have G3 : Hid (es.length ≤ 1048576) := by unfold Hid; omega
  have HZ : Hid (∀ k : Nat, (bs[k]?.getD []).length ≤ 1048576) := hz
  have HZP : Hid (∀ k : Nat, (ps[k]?.getD (0, [])).2.length ≤ 1048576) := hzp
  clear h hcp sB sP sE hf hz hzp g1 g2 he
  generalize hlB : bs.length = nB at *
  generalize hlC : ps.length = nC at *
  generalize hlE : es.length = nE at *
  have HLB : Hid (bs.length = nB) := hlB
  have HLC : Hid (ps.length = nC) := hlC
  have HLE : Hid (es.length = nE) := hlE
  clear hlB hlC hlE
  -- the two ways: the empty list behind the call, or ahead of it
  have HKA : Hid (∀ W0 : World, W0 = (((w.alloc (.cells #[.slice aB nB cB, .slice aC nC cC, .slice aE nE cE] 51)).alloc (.cells #[.slice none 0 0, .slice none 0 0, .slice none 0 0] 51))) →
      Calls Try.prog 46 #[.agg #[.slice aB nB cB, .slice aC nC cC]] W0.drew fun e w1 => ∃ aX nX cX aY nY cY a' c' X, e = .returned (.agg #[.slice aX nX cX, .slice aY nY cY]) ∧ Hid ((Builtin.append_ #[49, 49] 49 #[.slice (some ⟨w1.heap.size, 0, none⟩) 0 0, .slice aE nE cE]).run Try.prog (w1.alloc (.cells #[] 104)) = .ok (.slice a' nE c') X) ∧
        w.heap.size + 1 < w1.heap.size ∧ w1.cell? ⟨w.heap.size, 2, none⟩ = some (.slice aE nE cE) ∧ Hid (Below w.heap.size w X) ∧ Hid (KernU X (.slice aX nX cX) (.slice aY nY cY) (.slice a' nE c') ((bs, ps), es) (fun b => w.heap.size + 1 < b ∧ b < X.heap.size)) ∧ Hid (OwnRow X (w.heap.size + 1) 3 (fun i => [Value.slice none 0 0, .slice none 0 0, .slice none 0 0][i]?.getD (.bool false)))) := by
    intro W0 e0
    have hW0 : Below w.heap.size w W0 := by rw [e0]; exact later2 _ _ _
    have hz0 : W0.heap.size = w.heap.size + 2 := by rw [e0]; simp
    have hbx : Bx W0 w.heap.size [.slice aB nB cB, .slice aC nC cC, .slice aE nE cE] := by rw [e0]; exact (Bx.new w _ _).later (later1 _ _)
    have hrw : OwnRow W0 (w.heap.size + 1) 3 (fun i => [Value.slice none 0 0, .slice none 0 0, .slice none 0 0][i]?.getD (.bool false)) := by rw [e0]; exact resRowL _ [.slice none 0 0, .slice none 0 0, .slice none 0 0] 51 (Below.refl _ _)
    have h1 := l1CopyU HCP.out W0.drew aB aC cB cC bs ps (by rw [HLB.out]; exact G1.out) (by rw [HLC.out]; exact G2.out) HZ.out HZP.out (by rw [HLB.out]; exact SB.out.later hW0.drew) (by rw [HLC.out]; exact SP.out.later hW0.drew)
    rw [HLB.out, HLC.out] at h1
    refine h1.mono ?_
    rintro e w1 ⟨aX, nX, cX, aY, nY, cY, rfl, hb1', hd1⟩
    have hb1 : Below W0.heap.size W0 w1 := (Below.refl _ _).drew.trans hb1'
    have hfr : DiskU w1 (.slice aX nX cX) (.slice aY nY cY) (bs, ps) (fun b => W0.heap.size ≤ b ∧ b < w1.heap.size) := hd1
    have hW1 : Below w.heap.size w w1 := hW0.trans (hb1.mono hW0.size)
    have hz1 := hb1.size
    obtain ⟨a', c', X, hr, hBX, hEX, hKX, hRX⟩ := lit_after (w := w) (cE := cE) (Go.Deep.blk_alloc_new w1 (.cells #[] 104)) (Nat.le_refl w1.heap.size) (by omega) (by rw [HLE.out]; exact (SE.out.later hW1).later (later1 _ _)) (by rw [HLE.out]; exact G3.out) ((hrw.later hb1).later (later1 _ _))
    rw [HLE.out] at hr hEX
    have hBX' : Below w1.heap.size w1 X := (later1 _ _).trans hBX
    refine ⟨aX, nX, cX, aY, nY, cY, a', c', X, rfl, hr, by omega, cell_later hb1 (hbx 2 _ rfl), hW1.trans (hBX'.mono hW1.size), ?_, hRX⟩
    refine ⟨fun b => W0.heap.size ≤ b ∧ b < w1.heap.size, fun b => w1.heap.size ≤ b ∧ b < X.heap.size, hfr.later hBX', hEX.mono fun b hb => ⟨by have := hb.1; simp at this; omega, hb.2⟩, fun b h1 h2 => by omega, fun b hb => ?_⟩
    have := hBX'.size
    rcases hb with hb | hb <;> omega
  have HKB : Hid (∀ W0 : World, W0 = ((((w.alloc (.cells #[.slice aB nB cB, .slice aC nC cC, .slice aE nE cE] 51)).alloc (.cells #[.slice none 0 0, .slice none 0 0, .slice none 0 0] 51)).drew.alloc (.cells #[] 104))) →
      Calls Try.prog 46 #[.agg #[.slice aB nB cB, .slice aC nC cC]] W0 fun e w1 => ∃ aX nX cX aY nY cY a' c' X, e = .returned (.agg #[.slice aX nX cX, .slice aY nY cY]) ∧ Hid ((Builtin.append_ #[49, 49] 49 #[.slice (some ⟨w.heap.size + 1 + 1, 0, none⟩) 0 0, .slice aE nE cE]).run Try.prog w1 = .ok (.slice a' nE c') X) ∧
        w.heap.size + 1 < w1.heap.size ∧ w1.cell? ⟨w.heap.size, 2, none⟩ = some (.slice aE nE cE) ∧ Hid (Below w.heap.size w X) ∧ Hid (KernU X (.slice aX nX cX) (.slice aY nY cY) (.slice a' nE c') ((bs, ps), es) (fun b => w.heap.size + 1 < b ∧ b < X.heap.size)) ∧ Hid (OwnRow X (w.heap.size + 1) 3 (fun i => [Value.slice none 0 0, .slice none 0 0, .slice none 0 0][i]?.getD (.bool false)))) := by
    intro W0 e0
    have hW0 : Below w.heap.size w W0 := by rw [e0]; exact ((later2 _ _ _).drew).trans ((later1 _ _).mono (by simp [World.drew]; omega))
    have hz0 : W0.heap.size = w.heap.size + 3 := by rw [e0]; simp [World.drew]
    have hbx : Bx W0 w.heap.size [.slice aB nB cB, .slice aC nC cC, .slice aE nE cE] := by rw [e0]; exact (((Bx.new w _ _).later (later1 _ _)).later (Below.refl _ _).drew).later (later1 _ _)
    have hrw : OwnRow W0 (w.heap.size + 1) 3 (fun i => [Value.slice none 0 0, .slice none 0 0, .slice none 0 0][i]?.getD (.bool false)) := by rw [e0]; exact (resRowL _ [.slice none 0 0, .slice none 0 0, .slice none 0 0] 51 (Below.refl _ _).drew).later (later1 _ _)
    have hgw : W0.heap[w.heap.size + 1 + 1]? = some (.cells #[] 104 (0, 0)) := by
      rw [e0]
      have := Go.Deep.blk_alloc_new ((w.alloc (.cells #[.slice aB nB cB, .slice aC nC cC, .slice aE nE cE] 51)).alloc (.cells #[.slice none 0 0, .slice none 0 0, .slice none 0 0] 51)).drew (.cells #[] 104)
      simpa [World.drew] using this
    have h1 := l1CopyU HCP.out W0 aB aC cB cC bs ps (by rw [HLB.out]; exact G1.out) (by rw [HLC.out]; exact G2.out) HZ.out HZP.out (by rw [HLB.out]; exact SB.out.later hW0) (by rw [HLC.out]; exact SP.out.later hW0)
    rw [HLB.out, HLC.out] at h1
    refine h1.mono ?_
    rintro e w1 ⟨aX, nX, cX, aY, nY, cY, rfl, hb1, hd1⟩
    have hfr : DiskU w1 (.slice aX nX cX) (.slice aY nY cY) (bs, ps) (fun b => W0.heap.size ≤ b ∧ b < w1.heap.size) := hd1
    have hW1 : Below w.heap.size w w1 := hW0.trans (hb1.mono hW0.size)
    have hz1 := hb1.size
    obtain ⟨a', c', X, hr, hBX, hEX, hKX, hRX⟩ := lit_after (w := w) (w1 := w1) (g := w.heap.size + 1 + 1) (cE := cE) (lo := w.heap.size + 1 + 1) (by rw [hb1.block _ (by omega)]; exact hgw) (Nat.le_refl _) (by omega) (by rw [HLE.out]; exact SE.out.later hW1) (by rw [HLE.out]; exact G3.out) (hrw.later hb1)
    rw [HLE.out] at hr hEX
    refine ⟨aX, nX, cX, aY, nY, cY, a', c', X, rfl, hr, by omega, cell_later hb1 (hbx 2 _ rfl), hW1.trans (hBX.mono (by omega)), ?_, hRX⟩
    refine ⟨fun b => W0.heap.size ≤ b ∧ b < w1.heap.size, fun b => (b = w.heap.size + 1 + 1 ∨ w1.heap.size ≤ b) ∧ b < X.heap.size, hfr.keep fun b hb hlt => hKX b hlt (by omega), hEX, fun b h1 h2 => by omega, fun b hb => ?_⟩
    have := hBX.size
    rcases hb with hb | hb <;> omega
  clear HCP SB SP SE G1 G2 G3 HZ HZP HLB HLC HLE
  go_enter Try.func66, Try.ntmps66
  go_wp2_with fail
  go_region_law (first
    | (refine step_append_run rfl _ _ 49 rfl _ _ rfl rfl _ _ HR.out ?_)
    | (try go_simp; go_at_call 46; refine (HKA.out _ rfl).mono ?_; rintro e w1 ⟨aX, nX, cX, aY, nY, cY, a', c', X, rfl, HR, hz1, x2, HBX, HKX, HRX⟩
       have hz0 : w.heap.size < w1.heap.size := by omega
       have t0 := HRX.out.cell (i := 0) (by simp)
       have t1 := HRX.out.cell (i := 1) (by simp)
       have t2 := HRX.out.cell (i := 2) (by simp)
       have s0 := HRX.out.frozen 0
       have s1 := HRX.out.frozen 1
       have s2 := HRX.out.frozen 2
       simp at t0 t1 t2)
    | (try go_simp; go_at_call 46; refine (HKB.out _ rfl).mono ?_; rintro e w1 ⟨aX, nX, cX, aY, nY, cY, a', c', X, rfl, HR, hz1, x2, HBX, HKX, HRX⟩
       have hz0 : w.heap.size < w1.heap.size := by omega
       have t0 := HRX.out.cell (i := 0) (by simp)
       have t1 := HRX.out.cell (i := 1) (by simp)
       have t2 := HRX.out.cell (i := 2) (by simp)
       have s0 := HRX.out.frozen 0
       have s1 := HRX.out.frozen 1
       have s2 := HRX.out.frozen 2
       simp at t0 t1 t2))
  all_goals
    clear HKA HKB HR
    go_wp2
    refine bodyPost_ret (v := .agg #[.slice aX nX cX, .slice aY nY cY, .slice a' nE c']) (by simp [results, Try.results66, go_sem, t0, t1, t2]) rfl ⟨_, _, _, _, _, _, _, _, _, rfl, ((HBX.out.setCell (by simp) _).setCell (by simp) _).setCell (by simp) _, ?_⟩
    refine (HKX.out.keep fun b hb _ => ?_).mono fun b hb => ?_
    · rw [Below.heap_setCell _ _ _ _ (by simp; omega), Below.heap_setCell _ _ _ _ (by simp; omega), Below.heap_setCell _ _ _ _ (by simp; omega)]
    · unfold fresh
      simp only [World.setCell, Array.size_modify]
      omega
end Go.Proofs.Ytomcejofhfngkaa
