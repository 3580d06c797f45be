
/- The walk of the specification's PutBlock where it puts. -/
import Derived.Test.YtomcejofhfngkaaPutA
namespace Go.Proofs.Ytomcejofhfngkaa
open Go.RowKit
set_option maxRecDepth 100000

theorem LRow.puts2 {w : World} {base lo : Nat} {e : TypeId} {v : Value} {n : Nat} {k : Nat → Nat} {u : Nat → Value} {ps : List (Int × List Int)} (h : LRow (C2 fun i => (ps[i]?.getD (0, [])).1) w base lo e 2 v n (fun i => (ps[i]?.getD (0, [])).2) k u) (hn : ps.length = n) (F : Nat → Prop) (hF : ∀ g, v.ownBlock = some g → F g) (hF' : ∀ i, i < n → F (k i)) : PutsO w v ps F := by
  subst hn
  by_cases h0 : ps.length = 0
  · obtain ⟨a, c, rfl⟩ := h.shape
    exact Or.inl ⟨List.eq_nil_of_length_eq_zero h0, a, c, by rw [h0]⟩
  · obtain ⟨g, cap, rfl, _, _, hm, hrow⟩ := h.cells (by decide) (fun _ => rfl) (by omega)
    refine Or.inr ⟨g, cap, u, fun i c => i < ps.length ∧ c = k i, hF g rfl, fun i c hc => ?_, fun i j c e h1 h2 => h.inj i j h1.1 h2.1 e (h1.2.symm.trans h2.2), rfl, hm, ?_, fun i hi => (h.at' i hi).mono fun c hc => ⟨hi, hc⟩⟩
    · have hne := h.ne i hc.1
      rw [hc.2]
      exact ⟨hF' i hc.1, fun e => hne (by simp [Value.ownBlock, e])⟩
    · refine hrow.congr fun c hc => ?_
      unfold putCell C2
      rcases Nat.mod_two_eq_zero_or_one c with h | h <;> simp [h]

/-- The puts, and one more. -/
def more (ps : List (Int × List Int)) (x : Int) (ws : List Int) (i : Nat) : Int × List Int := (ps ++ [(x, ws)])[i]?.getD (0, [])
theorem more_old {ps : List (Int × List Int)} {x : Int} {ws : List Int} {i : Nat} (h : i < ps.length) : more ps x ws i = ps[i]?.getD (0, []) := by unfold more; rw [List.getElem?_append_left h]
theorem more_new {ps : List (Int × List Int)} {x : Int} {ws : List Int} : more ps x ws ps.length = (x, ws) := by unfold more; simp

set_option maxHeartbeats 3200000 in
theorem specPut_ok (hcp : L1CopySaid) (w : World) (aB aC : Option Addr) (cB cC : Nat) (v : Value) (bs : List (List Int)) (ps : List (Int × List Int)) (x : Int) (ws : List Int) (hB : IntsS w (.slice aB bs.length cB) bs) (hP : Puts w (.slice aC ps.length cC) ps) (sB : AtS w aB bs.length bs) (sP : AtP w aC ps.length ps) (hV : Ints w v ws) (hf : faultF bs ps = 0) (hp : placeB bs.length x = true) (hw : wordsF ws = 0) (hq : ¬ 200 ≤ ps.length)
    (hz : ∀ k : Nat, (bs[k]?.getD []).length ≤ 1048576) (hzp : ∀ k : Nat, (ps[k]?.getD (0, [])).2.length ≤ 1048576) (hzw : ws.length ≤ 1048576) :
    Calls Try.prog 9 #[.agg #[.slice aB bs.length cB, .slice aC ps.length cC], .int .i64 x, v] w (AnsDisk w 0 bs (ps ++ [(x, ws)])) := by
  have HCP : Hid L1CopySaid := hcp
  have HB : Hid (IntsS w (.slice aB bs.length cB) bs) := hB
  have HP : Hid (Puts w (.slice aC ps.length cC) ps) := hP
  have SB : Hid (AtS w aB bs.length bs) := sB
  have SP : Hid (AtP w aC ps.length ps) := sP
  have HV : Hid (Ints w v ws) := hV
  have HF : Hid (faultF bs ps = 0) := hf
  obtain ⟨g1, g2⟩ := faultF_lens hf
  have HPL : Hid (placeB bs.length x = true) := hp
  have HC : Hid (wordsF ws = 0) := hw
  have HZ : Hid (∀ k : Nat, (bs[k]?.getD []).length ≤ 1048576) := hz
  have HZP : Hid (∀ k : Nat, (ps[k]?.getD (0, [])).2.length ≤ 1048576) := hzp
  have HZW : Hid (ws.length ≤ 1048576) := hzw
  have G1 : Hid (bs.length ≤ 60) := g1
  have G2 : Hid (ps.length ≤ 200) := g2
  have hd : decide ((200 : Int) ≤ (ps.length : Int)) = false := by simp; omega
  have HMX : Hid (bs.length ≤ maxLen) := by unfold Hid maxLen; omega
  clear hB hP hf hp hV hw sB sP hz hzp hzw hcp hq g1 g2
  go_enter Try.func9, Try.ntmps9
  go_wp2_with fail
  refine (l1Fault_any (vB := .slice aB bs.length cB) (vC := .slice aC ps.length cC) ?_ ?_ (HB.out.later (later2 _ _ _)) (HP.out.later (later2 _ _ _))).mono ?_
  · exact ((Box2.new w (.slice aB bs.length cB) (.slice aC ps.length cC) 30).later (later1 _ _)).1
  · exact ((Box2.new w (.slice aB bs.length cB) (.slice aC ps.length cC) 30).later (later1 _ _)).2
  rw [HF.out]
  rintro e w' ⟨rfl, m, rfl⟩
  go_wp2_with fail
  refine (l1Place_any _ _ aB bs.length cB x HMX.out ?_).mono ?_
  · exact ((Box2.new w (.slice aB bs.length cB) (.slice aC ps.length cC) 30).later (later1 _ _)).1
  rw [HPL.out]
  rintro e w' ⟨rfl, rfl⟩
  go_wp2_with fail
  refine (l1Words_any (HV.out.later (below_drewN (later2 _ _ _) m))).mono ?_
  rw [HC.out]
  rintro e w' ⟨rfl, rfl⟩
  go_wp2_with fail
  refine (HCP.out _ aB aC bs.length cB ps.length cC bs ps rfl rfl G1.out G2.out HZ.out HZP.out (SB.out.later (below_drewN (later2 _ _ _) m)) (SP.out.later (below_drewN (later2 _ _ _) m))).mono ?_
  rintro e w1 ⟨S, aX, cX, aY, cY, k, u, rfl, hb1, hS1, hS2, hio, hlr⟩
  have hS0 : w.heap.size + 1 + 1 ≤ S := by have := hS1; simp [World.drewN] at this; omega
  have HW1 : Hid (Below w.heap.size w w1) := (below_drewN (later2 _ _ _) m).trans (hb1.mono (by simp [World.drewN]; omega))
  have HR1 : Hid (OwnRow w1 (w.heap.size + 1) 3 (fun i => if i = 0 then .int .i64 0 else if i = 1 then .slice none 0 0 else .slice none 0 0)) := by
    have h := (three (w.alloc (Obj.cells #[Value.slice aB bs.length cB, Value.slice aC ps.length cC] 30)) (.int .i64 0) (.slice none 0 0) (.slice none 0 0) 32)
    have h2 := (h.later (below_drewN (Below.refl _ _) m)).later hb1
    unfold Hid
    simpa using h2
  have HIO : Hid (IntsSO w1 (.slice aX bs.length cX) bs (fun c => w.heap.size + 1 + 1 ≤ c ∧ c < S)) := hio.mono fun b hb => ⟨by have := hb.1; simp [World.drewN] at this; omega, hb.2⟩
  have HLR : Hid (LRow (C2 fun i => (more ps x ws i).1) w1 S S 71 2 (.slice aY ps.length cY) ps.length (fun i => (more ps x ws i).2) k u) := hlr.congr2 (fun i hi => by rw [more_old hi]) (fun i hi => by rw [more_old hi])
  have hS2' : S ≤ w1.heap.size := hS2
  have HVW : Hid (Ints (w1.alloc (.cells #[.slice aX bs.length cX, .slice aY ps.length cY] 30)) v (more ps x ws ps.length).2) := by unfold Hid; rw [more_new]; exact (HV.out.later HW1.out).later (later1 _ _)
  have HK : Hid (Calls _ _ _ _ _) := l1Ints_put2 (w1.alloc (.cells #[.slice aX bs.length cX, .slice aY ps.length cY] 30)) S ps.length _ _ (more ps x ws) k u (HLR.out.later (later1 _ _)) (by simp; omega) (by have := G2.out; omega) HVW.out (by rw [more_new]; exact HZW.out)
  have hrowlt : ∀ g, (Value.slice aY ps.length cY).ownBlock = some g → g < w1.heap.size := fun g hg => (HLR.out.own.lt g hg).2
  have HNE : Hid ((Value.slice aY ps.length cY).ownBlock ≠ some w1.heap.size) := fun e => by have := hrowlt _ e; omega
  rw [more_new] at HK
  clear hb1 hS1 hS2 hio hlr
  go_wp2_with fail
  go_region_law
    (first
      | (refine step_append_run rfl _ _ 28 rfl _ _ rfl rfl _ _ HR.out ?_)
      | (go_simp; go_at_call 47; refine HK.out.mono ?_; rintro e w2 ⟨na, nc, g2', cap2, X, k', u', rfl, HR, hb2, hXb, hXs, hat, hkk, hBX, HL⟩
         have HXB : Hid (∀ b, b < (w1.alloc (.cells #[.slice aX bs.length cX, .slice aY ps.length cY] 30)).heap.size → (Value.slice aY ps.length cY).ownBlock ≠ some b → X.heap[b]? = (w1.alloc (.cells #[.slice aX bs.length cX, .slice aY ps.length cY] 30)).heap[b]?) := hXb
         have HOUT : OwnRow X w1.heap.size 2 (fun i => if i = 0 then .slice aX bs.length cX else .slice aY ps.length cY) := (OwnRow.two w1 (.slice aX bs.length cX) (.slice aY ps.length cY) 30).block (hXb _ (by simp) HNE.out)
         have x0 := HOUT.cell (i := 0) (by omega)
         have x1 := HOUT.cell (i := 1) (by omega)
         have x2 := HOUT.frozen 1
         have o0 := cell_later hb2 (show (w1.alloc (.cells #[.slice aX bs.length cX, .slice aY ps.length cY] 30)).cell? ⟨w1.heap.size, 1, none⟩ = some (.slice aY ps.length cY) by rw [new_cell]; rfl)
         have hw2 : w1.heap.size < w2.heap.size := by have := hb2.size; simp at this; omega
         have HBX : Hid (Below S (w1.alloc (.cells #[.slice aX bs.length cX, .slice aY ps.length cY] 30)) X) := hBX
         have HAT : Hid ((Value.slice aY ps.length cY).ownBlock = some g2' ∨ (w1.alloc (.cells #[.slice aX bs.length cX, .slice aY ps.length cY] 30)).heap.size < g2') := hat
         have HKK : Hid (∀ i, i < ps.length + 1 → k' i = k i ∧ i < ps.length ∨ (w1.alloc (.cells #[.slice aX bs.length cX, .slice aY ps.length cY] 30)).heap.size ≤ k' i) := hkk
         simp at x0 x1
         clear hb2 hXb hXs hat hkk hBX HOUT))
  all_goals
    have hz1 : w.heap.size + 1 < w1.heap.size := by omega
    have hzz : w.heap.size + 1 ≠ w1.heap.size := by omega
    have HRX : OwnRow X (w.heap.size + 1) 3 (fun i => if i = 0 then .int .i64 0 else if i = 1 then .slice none 0 0 else .slice none 0 0) := (HR1.out.later (later1 _ _)).block (HXB.out _ (by simp; omega) (fun e => by have := (HLR.out.own.lt _ e).1; omega))
    have r0 := HRX.cell (i := 0) (by omega)
    have r1 := HRX.cell (i := 1) (by omega)
    have r2 := HRX.cell (i := 2) (by omega)
    have s0 := HRX.frozen 0
    have s1 := HRX.frozen 1
    have s2 := HRX.frozen 2
    simp at r0 r1 r2
    clear HRX
    go_wp2
    refine bodyPost_ret (v := .agg #[.int .i64 0, .slice aX bs.length cX, .slice (some ⟨g2', 0, none⟩) (ps.length + 1) cap2]) (by simp [results, Try.results9, go_sem, r0, r1, r2]) rfl ⟨_, _, _, _, _, _, rfl, ?_, ?_⟩
    · exact (((((HW1.out.trans ((later1 _ _).mono HW1.out.size)).trans (HBX.out.mono (by omega))).setCell (by simp; omega) _).setCell (by simp) _).setCell (by simp) _).setCell (by simp) _
    · have hg : g2' ≠ w1.heap.size ∧ S ≤ g2' ∧ g2' < X.heap.size := by
        have h1 := HL.out.own.lt g2' rfl
        refine ⟨?_, h1.1, h1.2⟩
        rcases HAT.out with h | h
        · have := hrowlt _ h; omega
        · simp at h; omega
      have hk : ∀ i, i < ps.length + 1 → k' i ≠ w1.heap.size ∧ S ≤ k' i ∧ k' i < X.heap.size := by
        intro i hi
        have h1 := HL.out.lo i hi
        refine ⟨?_, h1.1, h1.2⟩
        rcases HKK.out i hi with ⟨h, h2⟩ | h
        · have := (HLR.out.lo i h2).2; omega
        · simp at h; omega
      refine ⟨fun c => w.heap.size + 1 + 1 ≤ c ∧ c < S, fun c => S ≤ c ∧ c ≠ w1.heap.size ∧ c < X.heap.size, ?_, ?_, fun b h1 h2 => by omega, fun b hb => ?_⟩
      · have h1 := (HIO.out.keep (w' := X) fun b hb hlt => (HBX.out.block b (by omega)).trans ((later1 _ _).block b hlt))
        exact (((h1.store (fun b hb => by simp; omega) _).store (fun b hb => by simp; omega) _).store (fun b hb => by simp; omega) _).store (fun b hb => by simp; omega) _
      · have h1 : PutsO X (.slice (some ⟨g2', 0, none⟩) (ps.length + 1) cap2) (ps ++ [(x, ws)]) (fun c => S ≤ c ∧ c ≠ w1.heap.size ∧ c < X.heap.size) :=
          LRow.puts2 (ps := ps ++ [(x, ws)]) HL.out (by simp) _ (fun g hg' => by
            have e : g2' = g := by simpa [Value.ownBlock] using hg'
            subst e; exact ⟨hg.2.1, hg.1, hg.2.2⟩) (fun i hi => ⟨(hk i hi).2.1, (hk i hi).1, (hk i hi).2.2⟩)
        exact (((h1.store (fun b hb => by simp; omega) _).store (fun b hb => by simp; omega) _).store (fun b hb => by simp; omega) _).store (fun b hb => by simp; omega) _
      · simp only [World.setCell, Array.size_modify]
        have := HBX.out.size
        simp at this
        rcases hb with hb | hb <;> omega

theorem specPut_any (hcp : L1CopySaid) (w : World) (vB vC v : Value) (bs : List (List Int)) (ps : List (Int × List Int)) (x : Int) (ws : List Int) (hB : IntsS w vB bs) (hP : Puts w vC ps) (hV : Ints w v ws) (hz : ∀ k : Nat, (bs[k]?.getD []).length ≤ 1048576) (hzp : ∀ k : Nat, (ps[k]?.getD (0, [])).2.length ≤ 1048576) (hzw : ws.length ≤ 1048576) :
    Calls Try.prog 9 #[.agg #[vB, vC], .int .i64 x, v] w (AnsDisk w (putCode bs ps x ws) (putBlocks bs ps x ws) (putCache bs ps x ws)) := by
  obtain ⟨aB, cB, rfl, m1, sB⟩ := hB.open'
  obtain ⟨aC, cC, rfl, m2, sP⟩ := hP.open'
  have bad : ∀ c : Int, ¬ c = 0 → putCode bs ps x ws = c → (∀ e w', (e = .returned (.agg #[.int .i64 c, .slice none 0 0, .slice none 0 0]) ∧ Below w.heap.size w w') → AnsDisk w (putCode bs ps x ws) (putBlocks bs ps x ws) (putCache bs ps x ws) e w') := by
    intro c hc he e w' ⟨h1, h2⟩
    have e1 : putBlocks bs ps x ws = [] := by unfold putBlocks; rw [he]; simp [hc]
    have e2 : putCache bs ps x ws = [] := by unfold putCache; rw [he]; simp [hc]
    rw [he, e1, e2, h1]
    exact ans_bad h2 c
  by_cases hf : faultF bs ps = 0
  · cases hp : placeB bs.length x
    · have e0 := placeF_no hf hp
      exact (specPut_place w aB _ cB _ v bs ps x m1 hB hP hf hp).mono fun e w' h => bad 3 (by decide) (by unfold putCode; rw [e0]; simp) e w' h
    · have e0 := placeF_ok hf hp
      by_cases hw : wordsF ws = 0
      · by_cases hq : 200 ≤ ps.length
        · exact (specPut_full w aB _ cB aC _ cC v bs ps x ws m1 hB hP hV hf hp hw hq).mono fun e w' h => bad 2 (by decide) (by unfold putCode; simp [e0, hw, hq]) e w' h
        · have ec : putCode bs ps x ws = 0 := by unfold putCode; simp [e0, hw, hq]
          have e1 : putBlocks bs ps x ws = bs := by unfold putBlocks; simp [ec]
          have e2 : putCache bs ps x ws = ps ++ [(x, ws)] := by unfold putCache; simp [ec]
          rw [ec, e1, e2]
          exact specPut_ok hcp w aB aC cB cC v bs ps x ws hB hP sB sP hV hf hp hw hq hz hzp hzw
      · exact (specPut_words w aB _ cB _ v bs ps x ws m1 hB hP hV hf hp hw).mono fun e w' h => bad _ hw (by unfold putCode; simp [e0, hw]) e w' h
  · have e0 := placeF_fault (x := x) hf
    exact (specPut_fault w _ _ v bs ps x hB hP hf).mono fun e w' h => bad _ hf (by unfold putCode; rw [e0]; simp [hf]) e w' h
end Go.Proofs.Ytomcejofhfngkaa
