/- The walk of the specification's PutBlock where it puts. The walk of the program's PutBlock. The walk of the program's settling of what is picked. The walks of the program's FlushDisk and CrashDisk. The walks of the comparing functions over slices of integers and of slices. The walks of the comparing functions over puts and disks. -/
import Derived.Test.YtpmndmkmfcoieaaM03
import Derived.Test.YtpmndmkmfcoieaaRows
import Derived.Test.YtpmndmkmfcoieaaM00
import Derived.Deep.RegionWith
import Derived.Deep.RegionHeld3
namespace Go.Proofs.Ytpmndmkmfcoieaa
open Go.RowKit
set_option maxRecDepth 100000

theorem LRow.puts2 {w : World} {base lo : Nat} {e : TypeId} {v : Value} {n : Nat} {k : Nat → Nat} {u : Nat → Value} {ps : List (Int × List Int)} (h : LRow (C2 fun i => (ps[i]?.getD (0, [])).1) w base lo e 2 v n (fun i => (ps[i]?.getD (0, [])).2) k u) (hn : ps.length = n) (F : Nat → Prop) (hF : ∀ g, v.ownBlock = some g → F g) (hF' : ∀ i, i < n → F (k i)) : PutsO w v ps F := by
  subst hn
  by_cases h0 : ps.length = 0
  · obtain ⟨a, c, rfl⟩ := h.shape
    exact Or.inl ⟨List.eq_nil_of_length_eq_zero h0, a, c, by rw [h0]⟩
  · obtain ⟨g, cap, rfl, _, _, hm, hrow⟩ := h.cells (by decide) (fun _ => rfl) (by omega)
    refine Or.inr ⟨g, cap, u, fun i c => i < ps.length ∧ c = k i, hF g rfl, fun i c hc => ?_, fun i j c e h1 h2 => h.inj i j h1.1 h2.1 e (h1.2.symm.trans h2.2), rfl, hm, ?_, fun i hi => (h.at' i hi).mono fun c hc => ⟨hi, hc⟩⟩
    · have hne := h.ne i hc.1
      rw [hc.2]
      exact ⟨hF' i hc.1, fun e => hne (by simp [Value.ownBlock, e])⟩
    · refine hrow.congr fun c hc => ?_
      unfold putCell C2
      rcases Nat.mod_two_eq_zero_or_one c with h | h <;> simp [h]

/-- The puts, and one more. -/
def more (ps : List (Int × List Int)) (x : Int) (ws : List Int) (i : Nat) : Int × List Int := (ps ++ [(x, ws)])[i]?.getD (0, [])
theorem more_old {ps : List (Int × List Int)} {x : Int} {ws : List Int} {i : Nat} (h : i < ps.length) : more ps x ws i = ps[i]?.getD (0, []) := by unfold more; rw [List.getElem?_append_left h]
theorem more_new {ps : List (Int × List Int)} {x : Int} {ws : List Int} : more ps x ws ps.length = (x, ws) := by unfold more; simp

set_option maxHeartbeats 3200000 in
theorem specPut_ok (hcp : L1CopySaid) (w : World) (aB aC : Option Addr) (cB cC : Nat) (v : Value) (bs : List (List Int)) (ps : List (Int × List Int)) (x : Int) (ws : List Int) (hB : IntsS w (.slice aB bs.length cB) bs) (hP : Puts w (.slice aC ps.length cC) ps) (sB : AtS w aB bs.length bs) (sP : AtP w aC ps.length ps) (hV : Ints w v ws) (hf : faultF bs ps = 0) (hp : placeB bs.length x = true) (hw : wordsF ws = 0) (hq : ¬ 200 ≤ ps.length)
    (hz : ∀ k : Nat, (bs[k]?.getD []).length ≤ 1048576) (hzp : ∀ k : Nat, (ps[k]?.getD (0, [])).2.length ≤ 1048576) (hzw : ws.length ≤ 1048576) :
    Calls Try.prog 81 #[.agg #[.slice aB bs.length cB, .slice aC ps.length cC], .int .i64 x, v] w (AnsDisk w 0 bs (ps ++ [(x, ws)])) := by
  have HCP : Hid L1CopySaid := hcp
  have HB : Hid (IntsS w (.slice aB bs.length cB) bs) := hB
  have HP : Hid (Puts w (.slice aC ps.length cC) ps) := hP
  have SB : Hid (AtS w aB bs.length bs) := sB
  have SP : Hid (AtP w aC ps.length ps) := sP
  have HV : Hid (Ints w v ws) := hV
  have HF : Hid (faultF bs ps = 0) := hf
  obtain ⟨g1, g2⟩ := faultF_lens hf
  have HPL : Hid (placeB bs.length x = true) := hp
  have HC : Hid (wordsF ws = 0) := hw
  have HZ : Hid (∀ k : Nat, (bs[k]?.getD []).length ≤ 1048576) := hz
  have HZP : Hid (∀ k : Nat, (ps[k]?.getD (0, [])).2.length ≤ 1048576) := hzp
  have HZW : Hid (ws.length ≤ 1048576) := hzw
  have G1 : Hid (bs.length ≤ 60) := g1
  have G2 : Hid (ps.length ≤ 200) := g2
  have hd : decide ((200 : Int) ≤ (ps.length : Int)) = false := by simp; omega
  have HMX : Hid (bs.length ≤ maxLen) := by unfold Hid maxLen; omega
  clear hB hP hf hp hV hw sB sP hz hzp hzw hcp hq g1 g2
  go_enter Try.func81, Try.ntmps81
  go_wp2_with fail
  refine (l1Fault_any (vB := .slice aB bs.length cB) (vC := .slice aC ps.length cC) ?_ ?_ (HB.out.later (later2 _ _ _)) (HP.out.later (later2 _ _ _))).mono ?_
  · exact ((Box2.new w (.slice aB bs.length cB) (.slice aC ps.length cC) 30).later (later1 _ _)).1
  · exact ((Box2.new w (.slice aB bs.length cB) (.slice aC ps.length cC) 30).later (later1 _ _)).2
  rw [HF.out]
  rintro e w' ⟨rfl, m, rfl⟩
  go_wp2_with fail
  refine (l1Place_any _ _ aB bs.length cB x HMX.out ?_).mono ?_
  · exact ((Box2.new w (.slice aB bs.length cB) (.slice aC ps.length cC) 30).later (later1 _ _)).1
  rw [HPL.out]
  rintro e w' ⟨rfl, rfl⟩
  go_wp2_with fail
  refine (l1Words_any (HV.out.later (below_drewN (later2 _ _ _) m))).mono ?_
  rw [HC.out]
  rintro e w' ⟨rfl, rfl⟩
  go_wp2_with fail
  refine (HCP.out _ aB aC bs.length cB ps.length cC bs ps rfl rfl G1.out G2.out HZ.out HZP.out (SB.out.later (below_drewN (later2 _ _ _) m)) (SP.out.later (below_drewN (later2 _ _ _) m))).mono ?_
  rintro e w1 ⟨S, aX, cX, aY, cY, k, u, rfl, hb1, hS1, hS2, hio, hlr⟩
  have hS0 : w.heap.size + 1 + 1 ≤ S := by have := hS1; simp [World.drewN] at this; omega
  have HW1 : Hid (Below w.heap.size w w1) := (below_drewN (later2 _ _ _) m).trans (hb1.mono (by simp [World.drewN]; omega))
  have HR1 : Hid (OwnRow w1 (w.heap.size + 1) 3 (fun i => if i = 0 then .int .i64 0 else if i = 1 then .slice none 0 0 else .slice none 0 0)) := by
    have h := (three (w.alloc (Obj.cells #[Value.slice aB bs.length cB, Value.slice aC ps.length cC] 30)) (.int .i64 0) (.slice none 0 0) (.slice none 0 0) 32)
    have h2 := (h.later (below_drewN (Below.refl _ _) m)).later hb1
    unfold Hid
    simpa using h2
  have HIO : Hid (IntsSO w1 (.slice aX bs.length cX) bs (fun c => w.heap.size + 1 + 1 ≤ c ∧ c < S)) := hio.mono fun b hb => ⟨by have := hb.1; simp [World.drewN] at this; omega, hb.2⟩
  have HLR : Hid (LRow (C2 fun i => (more ps x ws i).1) w1 S S 72 2 (.slice aY ps.length cY) ps.length (fun i => (more ps x ws i).2) k u) := hlr.congr2 (fun i hi => by rw [more_old hi]) (fun i hi => by rw [more_old hi])
  have hS2' : S ≤ w1.heap.size := hS2
  have HVW : Hid (Ints (w1.alloc (.cells #[.slice aX bs.length cX, .slice aY ps.length cY] 30)) v (more ps x ws ps.length).2) := by unfold Hid; rw [more_new]; exact (HV.out.later HW1.out).later (later1 _ _)
  have HK : Hid (Calls _ _ _ _ _) := l1Ints_put2 (w1.alloc (.cells #[.slice aX bs.length cX, .slice aY ps.length cY] 30)) S ps.length _ _ (more ps x ws) k u (HLR.out.later (later1 _ _)) (by simp; omega) (by have := G2.out; omega) HVW.out (by rw [more_new]; exact HZW.out)
  have hrowlt : ∀ g, (Value.slice aY ps.length cY).ownBlock = some g → g < w1.heap.size := fun g hg => (HLR.out.own.lt g hg).2
  have HNE : Hid ((Value.slice aY ps.length cY).ownBlock ≠ some w1.heap.size) := fun e => by have := hrowlt _ e; omega
  rw [more_new] at HK
  clear hb1 hS1 hS2 hio hlr
  go_wp2_with fail
  go_region_law
    (first
      | (refine step_append_run rfl _ _ 28 rfl _ _ rfl rfl _ _ HR.out ?_)
      | (go_simp; go_at_call 57; refine HK.out.mono ?_; rintro e w2 ⟨na, nc, g2', cap2, X, k', u', rfl, HR, hb2, hXb, hXs, hat, hkk, hBX, HL⟩
         have HXB : Hid (∀ b, b < (w1.alloc (.cells #[.slice aX bs.length cX, .slice aY ps.length cY] 30)).heap.size → (Value.slice aY ps.length cY).ownBlock ≠ some b → X.heap[b]? = (w1.alloc (.cells #[.slice aX bs.length cX, .slice aY ps.length cY] 30)).heap[b]?) := hXb
         have HOUT : OwnRow X w1.heap.size 2 (fun i => if i = 0 then .slice aX bs.length cX else .slice aY ps.length cY) := (OwnRow.two w1 (.slice aX bs.length cX) (.slice aY ps.length cY) 30).block (hXb _ (by simp) HNE.out)
         have x0 := HOUT.cell (i := 0) (by omega)
         have x1 := HOUT.cell (i := 1) (by omega)
         have x2 := HOUT.frozen 1
         have o0 := cell_later hb2 (show (w1.alloc (.cells #[.slice aX bs.length cX, .slice aY ps.length cY] 30)).cell? ⟨w1.heap.size, 1, none⟩ = some (.slice aY ps.length cY) by rw [new_cell]; rfl)
         have hw2 : w1.heap.size < w2.heap.size := by have := hb2.size; simp at this; omega
         have HBX : Hid (Below S (w1.alloc (.cells #[.slice aX bs.length cX, .slice aY ps.length cY] 30)) X) := hBX
         have HAT : Hid ((Value.slice aY ps.length cY).ownBlock = some g2' ∨ (w1.alloc (.cells #[.slice aX bs.length cX, .slice aY ps.length cY] 30)).heap.size < g2') := hat
         have HKK : Hid (∀ i, i < ps.length + 1 → k' i = k i ∧ i < ps.length ∨ (w1.alloc (.cells #[.slice aX bs.length cX, .slice aY ps.length cY] 30)).heap.size ≤ k' i) := hkk
         simp at x0 x1
         clear hb2 hXb hXs hat hkk hBX HOUT))
  all_goals
    have hz1 : w.heap.size + 1 < w1.heap.size := by omega
    have hzz : w.heap.size + 1 ≠ w1.heap.size := by omega
    have HRX : OwnRow X (w.heap.size + 1) 3 (fun i => if i = 0 then .int .i64 0 else if i = 1 then .slice none 0 0 else .slice none 0 0) := (HR1.out.later (later1 _ _)).block (HXB.out _ (by simp; omega) (fun e => by have := (HLR.out.own.lt _ e).1; omega))
    have r0 := HRX.cell (i := 0) (by omega)
    have r1 := HRX.cell (i := 1) (by omega)
    have r2 := HRX.cell (i := 2) (by omega)
    have s0 := HRX.frozen 0
    have s1 := HRX.frozen 1
    have s2 := HRX.frozen 2
    simp at r0 r1 r2
    clear HRX
    go_wp2
    refine bodyPost_ret (v := .agg #[.int .i64 0, .slice aX bs.length cX, .slice (some ⟨g2', 0, none⟩) (ps.length + 1) cap2]) (by simp [results, Try.results81, go_sem, r0, r1, r2]) rfl ⟨_, _, _, _, _, _, rfl, ?_, ?_⟩
    · exact (((((HW1.out.trans ((later1 _ _).mono HW1.out.size)).trans (HBX.out.mono (by omega))).setCell (by simp; omega) _).setCell (by simp) _).setCell (by simp) _).setCell (by simp) _
    · have hg : g2' ≠ w1.heap.size ∧ S ≤ g2' ∧ g2' < X.heap.size := by
        have h1 := HL.out.own.lt g2' rfl
        refine ⟨?_, h1.1, h1.2⟩
        rcases HAT.out with h | h
        · have := hrowlt _ h; omega
        · simp at h; omega
      have hk : ∀ i, i < ps.length + 1 → k' i ≠ w1.heap.size ∧ S ≤ k' i ∧ k' i < X.heap.size := by
        intro i hi
        have h1 := HL.out.lo i hi
        refine ⟨?_, h1.1, h1.2⟩
        rcases HKK.out i hi with ⟨h, h2⟩ | h
        · have := (HLR.out.lo i h2).2; omega
        · simp at h; omega
      refine ⟨fun c => w.heap.size + 1 + 1 ≤ c ∧ c < S, fun c => S ≤ c ∧ c ≠ w1.heap.size ∧ c < X.heap.size, ?_, ?_, fun b h1 h2 => by omega, fun b hb => ?_⟩
      · have h1 := (HIO.out.keep (w' := X) fun b hb hlt => (HBX.out.block b (by omega)).trans ((later1 _ _).block b hlt))
        exact (((h1.store (fun b hb => by simp; omega) _).store (fun b hb => by simp; omega) _).store (fun b hb => by simp; omega) _).store (fun b hb => by simp; omega) _
      · have h1 : PutsO X (.slice (some ⟨g2', 0, none⟩) (ps.length + 1) cap2) (ps ++ [(x, ws)]) (fun c => S ≤ c ∧ c ≠ w1.heap.size ∧ c < X.heap.size) :=
          LRow.puts2 (ps := ps ++ [(x, ws)]) HL.out (by simp) _ (fun g hg' => by
            have e : g2' = g := by simpa [Value.ownBlock] using hg'
            subst e; exact ⟨hg.2.1, hg.1, hg.2.2⟩) (fun i hi => ⟨(hk i hi).2.1, (hk i hi).1, (hk i hi).2.2⟩)
        exact (((h1.store (fun b hb => by simp; omega) _).store (fun b hb => by simp; omega) _).store (fun b hb => by simp; omega) _).store (fun b hb => by simp; omega) _
      · simp only [World.setCell, Array.size_modify]
        have := HBX.out.size
        simp at this
        rcases hb with hb | hb <;> omega

theorem specPut_any (hcp : L1CopySaid) (w : World) (vB vC v : Value) (bs : List (List Int)) (ps : List (Int × List Int)) (x : Int) (ws : List Int) (hB : IntsS w vB bs) (hP : Puts w vC ps) (hV : Ints w v ws) (hz : ∀ k : Nat, (bs[k]?.getD []).length ≤ 1048576) (hzp : ∀ k : Nat, (ps[k]?.getD (0, [])).2.length ≤ 1048576) (hzw : ws.length ≤ 1048576) :
    Calls Try.prog 81 #[.agg #[vB, vC], .int .i64 x, v] w (AnsDisk w (putCode bs ps x ws) (putBlocks bs ps x ws) (putCache bs ps x ws)) := by
  obtain ⟨aB, cB, rfl, m1, sB⟩ := hB.open'
  obtain ⟨aC, cC, rfl, m2, sP⟩ := hP.open'
  have bad : ∀ c : Int, ¬ c = 0 → putCode bs ps x ws = c → (∀ e w', (e = .returned (.agg #[.int .i64 c, .slice none 0 0, .slice none 0 0]) ∧ Below w.heap.size w w') → AnsDisk w (putCode bs ps x ws) (putBlocks bs ps x ws) (putCache bs ps x ws) e w') := by
    intro c hc he e w' ⟨h1, h2⟩
    have e1 : putBlocks bs ps x ws = [] := by unfold putBlocks; rw [he]; simp [hc]
    have e2 : putCache bs ps x ws = [] := by unfold putCache; rw [he]; simp [hc]
    rw [he, e1, e2, h1]
    exact ans_bad h2 c
  by_cases hf : faultF bs ps = 0
  · cases hp : placeB bs.length x
    · have e0 := placeF_no hf hp
      exact (specPut_place w aB _ cB _ v bs ps x m1 hB hP hf hp).mono fun e w' h => bad 3 (by decide) (by unfold putCode; rw [e0]; simp) e w' h
    · have e0 := placeF_ok hf hp
      by_cases hw : wordsF ws = 0
      · by_cases hq : 200 ≤ ps.length
        · exact (specPut_full w aB _ cB aC _ cC v bs ps x ws m1 hB hP hV hf hp hw hq).mono fun e w' h => bad 2 (by decide) (by unfold putCode; simp [e0, hw, hq]) e w' h
        · have ec : putCode bs ps x ws = 0 := by unfold putCode; simp [e0, hw, hq]
          have e1 : putBlocks bs ps x ws = bs := by unfold putBlocks; simp [ec]
          have e2 : putCache bs ps x ws = ps ++ [(x, ws)] := by unfold putCache; simp [ec]
          rw [ec, e1, e2]
          exact specPut_ok hcp w aB aC cB cC v bs ps x ws hB hP sB sP hV hf hp hw hq hz hzp hzw
      · exact (specPut_words w aB _ cB _ v bs ps x ws m1 hB hP hV hf hp hw).mono fun e w' h => bad _ hw (by unfold putCode; simp [e0, hw]) e w' h
  · have e0 := placeF_fault (x := x) hf
    exact (specPut_fault w _ _ v bs ps x hB hP hf).mono fun e w' h => bad _ hf (by unfold putCode; rw [e0]; simp [hf]) e w' h
end Go.Proofs.Ytpmndmkmfcoieaa

namespace Go.Proofs.Ytpmndmkmfcoieaa
open Go.RowKit
set_option maxRecDepth 100000

theorem resRow {w w1 : World} (x y : Value) (h : Below ((w.alloc (.cells #[x, y] 30)).alloc (.cells #[.int .i64 0, .slice none 0 0, .slice none 0 0] 32)).heap.size ((w.alloc (.cells #[x, y] 30)).alloc (.cells #[.int .i64 0, .slice none 0 0, .slice none 0 0] 32)) w1) :
    OwnRow w1 (w.heap.size + 1) 3 (fun i => if i = 0 then .int .i64 0 else if i = 1 then .slice none 0 0 else .slice none 0 0) := by
  have h2 := (three (w.alloc (.cells #[x, y] 30)) (.int .i64 0) (.slice none 0 0) (.slice none 0 0) 32).later h
  simpa using h2

set_option maxHeartbeats 400000 in
theorem isFull_any (w : World) (bd : Nat) (aP : Option Addr) (nP cP : Nat) (h1 : w.cell? ⟨bd, 1, none⟩ = some (.slice aP nP cP)) (b : Bool) (hb : decide ((200 : Int) ≤ (nP : Int)) = b) :
    Calls Try.prog 86 #[.pointer (some ⟨bd, 0, none⟩)] w fun e w' => e = .returned (.bool b) ∧ w' = w := by
  go_enter Try.func86, Try.ntmps86
  go_wp2
  go_ret
  exact ⟨rfl, rfl⟩

end Go.Proofs.Ytpmndmkmfcoieaa

namespace Go.Proofs.Ytpmndmkmfcoieaa
open Go.RowKit
set_option maxRecDepth 100000

theorem IntsSO.row {w : World} {g n cap : Nat} {zss : List (List Int)} {F : Nat → Prop} (h : IntsSO w (.slice (some ⟨g, 0, none⟩) n cap) zss F) (h0 : 0 < zss.length) : ∃ u, OwnRow w g n u ∧ F g ∧ ∀ i, i < n → ∃ ua un uc, u i = .slice ua un uc := by
  rcases h with ⟨h, _⟩ | ⟨b, cap', u, G, hFb, _, _, h1, _, h3, h4⟩
  · subst h; simp at h0
  · simp only [Value.slice.injEq, Option.some.injEq, Addr.mk.injEq, and_true] at h1
    obtain ⟨rfl, rfl, rfl⟩ := h1
    refine ⟨u, h3, hFb, fun i hi => ?_⟩
    rcases h4 i hi with ⟨_, a, c, e⟩ | ⟨_, _, _, e, _⟩
    · exact ⟨_, _, _, e⟩
    · exact ⟨_, _, _, e⟩
theorem AtBs.set {w X : World} {a : Option Addr} {n g x : Nat} {v : Value} {pb : List Bool} (h : AtBs w a n pb) (hb : Below w.heap.size w X) (hg : ∀ b off, a = some ⟨b, off, none⟩ → b ≠ g) : AtBs (X.setCell ⟨g, x, none⟩ v) a n pb := fun k hk => by
  obtain ⟨b, off, e, c⟩ := h k hk
  exact ⟨b, off, e, (World.cell?_of_block (w := X) (Below.heap_setCell _ _ _ _ (hg b off e))).trans (cell_later hb c)⟩

set_option maxHeartbeats 3200000 in
theorem settle_any (w : World) (lo bd g nB n : Nat) (aP : Option Addr) (cP : Nat) (ap : Option Addr) (np cap : Nat) (bs : List (List Int)) (ps : List (Int × List Int)) (bb : List Bool) (pb k : Nat → Nat) (u : Nat → Value) (hlo : lo ≤ bd) (hbl : bs.length = nB) (hn : n ≤ 200) (hnB : nB ≤ 60) (hnp : bb.length = np) (hpl : ∀ i, i < n → ∃ x : Nat, (ps[i]?.getD (0, [])).1 = x ∧ x < nB) (hzp : ∀ k : Nat, (ps[k]?.getD (0, [])).2.length ≤ 1048576) (hA : AtBs w ap np bb) (hAg : 0 < nB → 0 < np → ∀ b off, ap = some ⟨b, off, none⟩ → b ≠ g)
    (hd : OwnRow w bd 2 (fun c => if c = 0 then .slice (some ⟨g, 0, none⟩) nB nB else .slice aP n cP)) (hc : Cache w (bd + 1) (.slice aP n cP) n (fun i => ps[i]?.getD (0, [])) pb k u) (hb : IntsSO w (.slice (some ⟨g, 0, none⟩) nB nB) bs (fun c => lo ≤ c ∧ c < bd)) :
    Calls Try.prog 63 #[.pointer (some ⟨bd, 0, none⟩), .slice ap np cap] w fun e w' => e = .returned (.tuple #[]) ∧ Below lo w w' ∧ OwnRow w' bd 2 (fun c => if c = 0 then .slice (some ⟨g, 0, none⟩) nB nB else .slice none 0 0) ∧ IntsSO w' (.slice (some ⟨g, 0, none⟩) nB nB) (keepTo (fun i => bb[i]?.getD false) bs ps n) (fun c => lo ≤ c ∧ c < w'.heap.size ∧ c ≠ bd) := by
  have HC : Hid (Cache w (bd + 1) (.slice aP n cP) n (fun i => ps[i]?.getD (0, [])) pb k u) := hc
  have HD : Hid (OwnRow w bd 2 (fun c => if c = 0 then .slice (some ⟨g, 0, none⟩) nB nB else .slice aP n cP)) := hd
  have HB : Hid (IntsSO w (.slice (some ⟨g, 0, none⟩) nB nB) bs (fun c => lo ≤ c ∧ c < bd)) := hb
  have HPL : Hid (∀ i, i < n → ∃ x : Nat, (ps[i]?.getD (0, [])).1 = x ∧ x < nB) := hpl
  have HZP : Hid (∀ k : Nat, (ps[k]?.getD (0, [])).2.length ≤ 1048576) := hzp
  have HA : Hid (AtBs w ap np bb) := hA
  have d0 := hd.cell (i := 0) (by omega)
  have d1 := hd.cell (i := 1) (by omega)
  simp at d0 d1
  have hlt : bd < w.heap.size := hd.lt
  have HAG : Hid (0 < nB → 0 < np → ∀ b off, ap = some ⟨b, off, none⟩ → b ≠ g) := hAg
  clear hc hd hb hpl hzp hA hAg
  go_enter Try.func63, Try.ntmps63
  go_wp2_with fail
  go_loopw [4, 5, 11] (fun _ _ i wr => ∃ j : Nat, j ≤ n ∧ i = .int .i64 j ∧ Below lo w wr ∧ OwnRow wr bd 2 (fun c => if c = 0 then .slice (some ⟨g, 0, none⟩) nB nB else .slice aP n cP) ∧ Cache wr (bd + 1) (.slice aP n cP) n (fun i => ps[i]?.getD (0, [])) pb k u ∧ AtBs wr ap np bb ∧
    IntsSO wr (.slice (some ⟨g, 0, none⟩) nB nB) (keepTo (fun i => bb[i]?.getD false) bs ps j) (fun c => lo ≤ c ∧ c < wr.heap.size ∧ (c < bd ∨ w.heap.size ≤ c))) (fun _ _ i _ => n - (intOf i).toNat)
  case atStart => exact ⟨0, Nat.zero_le _, rfl, Below.refl _ _, HD.out, HC.out, HA.out, HB.out.mono fun b hb => ⟨hb.1, by omega, Or.inl hb.2⟩⟩
  case round =>
    obtain ⟨j, hj, rfl, hbw, hrow, hca, hat, his⟩ := hrel
    have HBW : Hid (Below lo w wr) := hbw
    have HROW : Hid (OwnRow wr bd 2 (fun c => if c = 0 then .slice (some ⟨g, 0, none⟩) nB nB else .slice aP n cP)) := hrow
    have HCA : Hid (Cache wr (bd + 1) (.slice aP n cP) n (fun i => ps[i]?.getD (0, [])) pb k u) := hca
    have HAT : Hid (AtBs wr ap np bb) := hat
    have HIS : Hid (IntsSO wr (.slice (some ⟨g, 0, none⟩) nB nB) (keepTo (fun i => bb[i]?.getD false) bs ps j) (fun c => lo ≤ c ∧ c < wr.heap.size ∧ (c < bd ∨ w.heap.size ≤ c))) := his
    have hws : w.heap.size ≤ wr.heap.size := hbw.size
    clear hbw hrow hca hat his d0 d1
    have d0 := HROW.out.cell (i := 0) (by omega)
    have d1 := HROW.out.cell (i := 1) (by omega)
    have d2 := HROW.out.frozen 1
    simp at d0 d1
    by_cases hlt2 : j < n
    · obtain ⟨g', ua, uc, e, p0, p1, p2, hu⟩ := HCA.out.ptr hlt2
      subst e
      have HI0 := (HCA.out.at' j hlt2).ints
      rw [hu] at HI0
      obtain ⟨x, hx, hxl⟩ := HPL.out j hlt2
      simp only [hx] at p1
      generalize hwd : (ps[j]?.getD (0, [])).2 = wd at p2 HI0
      have HWD : Hid ((ps[j]?.getD (0, [])).2 = wd) := hwd
      have HLW : Hid (wd.length ≤ 1048576) := hwd ▸ HZP.out j
      have HXX : Hid ((ps[j]?.getD (0, [])).1 = (x : Int)) := hx
      have HI : Hid (Ints wr (.slice ua wd.length uc) wd) := HI0
      have HUU : Hid (u j = .slice ua wd.length uc) := by unfold Hid; rw [hu, hwd]
      clear HI0 hwd hx hu
      by_cases hqn : j < np
      · obtain ⟨b', off', e', c3⟩ := HAT.out j hqn
        subst e'
        cases hpk : bb[j]?.getD false
        · rw [hpk] at c3
          go_wp2
          go_roundw
          case rel => exact ⟨j + 1, by omega, by go_num, HBW.out, HROW.out, HCA.out, HAT.out, by rw [keepTo_skip (by simp [hpk])]; exact HIS.out⟩
          case measure => simp [intOf]; omega
        · rw [hpk] at c3
          obtain ⟨ur, hur, _, hsh⟩ := HIS.out.row (by rw [keepTo_length]; omega)
          have HUR : Hid (OwnRow wr g nB ur) := hur
          have HSX : Hid (∃ ua un uc, ur x = .slice ua un uc) := hsh x hxl
          have hgw : g < wr.heap.size := hur.lt
          have hgb : lo ≤ g ∧ g < bd := by
            obtain ⟨_, _, h, _⟩ := HB.out.row (by omega)
            exact h
          clear hur hsh
          go_wp2_with fail
          go_region_with ((go_at_call 90; refine (set_any _ bd 0 g nB nB x ur _ wd hnB hxl ?_ ?_ HSX.out ?_ HLW.out).mono ?_; exact d0; exact HUR.out; exact HI.out; rintro e w2 ⟨rfl, X, rfl, hbX, hoX⟩; have HX : Hid (Below wr.heap.size wr X) := (Below.refl _ _).drew.trans hbX; have HO : Hid (IntsO X (.slice (some ⟨wr.heap.size, 0, none⟩) wd.length wd.length) wd (fresh wr X)) := hoX; clear hbX hoX))
          all_goals
            go_wp2
            go_roundw
            case rel =>
              have hXs := HX.out.size
              refine ⟨j + 1, by omega, by go_num, (HBW.out.trans (HX.out.mono (by omega))).setCell (by simp; omega) _, (HROW.out.later HX.out).store (by simp; omega) _, (HCA.out.later HX.out).keep (by simp [World.setCell]) (fun b h1 _ => Below.heap_setCell _ _ _ _ (by simp; omega)), HAT.out.set HX.out (HAG.out (by omega) (by omega)), ?_⟩
              rw [keepTo_step (by simp [hpk]), HXX.out, HWD.out]
              refine (HIS.out.set (x := x) (by rw [keepTo_length]; omega) HX.out (fun b hb => hb.2.1) HO.out).mono fun c hc => ?_
              simp only [World.setCell, Array.size_modify]
              rcases hc with hc | hc
              · omega
              · have := hc.1; have := hc.2; omega
            case measure => simp [intOf]; omega
      · have hpk : bb[j]?.getD false = false := by rw [List.getElem?_eq_none (by omega)]; rfl
        go_wp2
        go_roundw
        case rel => exact ⟨j + 1, by omega, by go_num, HBW.out, HROW.out, HCA.out, HAT.out, by rw [keepTo_skip (by simp [hpk])]; exact HIS.out⟩
        case measure => simp [intOf]; omega
    · have e : j = n := by omega
      subst e
      go_wp2
      go_end0
      refine ⟨rfl, HBW.out.setCell hlo _, (HROW.out.set 1 _).congr fun c hc => ?_, (HIS.out.store (fun b hb => by simp; omega) _).mono fun b hb => ⟨hb.1, by simp [World.setCell]; omega, by omega⟩⟩
      have : c = 0 ∨ c = 1 := by omega
      rcases this with rfl | rfl <;> simp
end Go.Proofs.Ytpmndmkmfcoieaa

namespace Go.Proofs.Ytpmndmkmfcoieaa
open Go.RowKit
set_option maxRecDepth 100000

theorem Try.infoBool : (Try.prog.info? 4).map (fun i => (i.zero, i.size, i.bytes)) = some (some (.bool false), 1, 1) := by kernel_rfl

set_option maxHeartbeats 400000 in
theorem allPicked_any (w : World) (n : Nat) (hn : n ≤ 1048576) :
    Calls Try.prog 98 #[.int .i64 (n : Int)] w fun e w' => e = .returned (.slice (some ⟨w.heap.size, 0, none⟩) n n) ∧ Below w.heap.size w w' ∧ OwnRow w' w.heap.size n (fun _ => .bool true) := by
  have hmk := fun w => run_make_row' (P := Try.prog) 26 4 (.bool false) 1 Try.underlying26 Try.infoBool rfl .i64 .i64 n (by omega) (by omega) w
  go_enter Try.func98, Try.ntmps98
  go_wp2
  go_loopw [9] (fun i wr => ∃ j : Nat, j ≤ n ∧ i = .int .i64 j ∧ Below w.heap.size w wr ∧ OwnRow wr w.heap.size n (fun i => if i < j then .bool true else .bool false)) (fun i _ => n - (intOf i).toNat)
  case atStart => exact ⟨0, Nat.zero_le _, rfl, later1 _ _, (OwnRow.made w (.bool false) n 4).congr fun i _ => by simp⟩
  case round =>
    obtain ⟨j, hj, rfl, hbl, hrow⟩ := hrel
    by_cases hlt : j < n
    · have d1 := hrow.cell hlt
      have d2 := hrow.frozen j
      simp only [Nat.lt_irrefl, if_false] at d1
      have HBL : Hid (Below w.heap.size w wr) := hbl
      have HROW : Hid (OwnRow wr w.heap.size n (fun i => if i < j then .bool true else .bool false)) := hrow
      clear hbl hrow
      go_wp2
      go_roundw
      case rel =>
        refine ⟨j + 1, by omega, by go_num, HBL.out.setCell (Nat.le_refl _) _, (HROW.out.set j _).congr fun i hi => ?_⟩
        by_cases e : i = j
        · subst e; simp
        · by_cases e2 : i < j
          · simp [e, e2, show i < j + 1 by omega]
          · simp [e, e2, show ¬ i < j + 1 by omega]
      case measure => simp [intOf]; omega
    · go_wp2
      go_ret
      have e : j = n := by omega
      subst e
      exact ⟨rfl, hbl, hrow.congr fun i hi => by simp [hi]⟩

set_option maxHeartbeats 1600000 in
theorem implCrash_fault (w : World) (vB vC v : Value) (bs : List (List Int)) (ps : List (Int × List Int)) (hB : IntsS w vB bs) (hP : Puts w vC ps) (hf : ¬ faultF bs ps = 0) :
    Calls Try.prog 41 #[.agg #[vB, vC], v] w fun e w' => e = .returned (.agg #[.int .i64 (faultF bs ps), .slice none 0 0, .slice none 0 0]) ∧ Below w.heap.size w w' := by
  have HB : Hid (IntsS w vB bs) := hB
  have HP : Hid (Puts w vC ps) := hP
  generalize hF : faultF bs ps = F at *
  have HF : Hid (faultF bs ps = F) := hF
  have hne : (F != 0) = true := by simpa using hf
  clear hB hP hF hf
  go_enter Try.func41, Try.ntmps41
  go_wp2_with fail
  refine (fault_any _ _ _ bs ps (HB.out.later (later2 _ _ _)) (HP.out.later (later2 _ _ _))).mono ?_
  rw [HF.out]
  rintro e w1 ⟨rfl, hb1⟩
  have HW1 : Hid (Below w.heap.size w w1) := (later2 _ _ _).trans (hb1.mono (by simp; omega))
  have HR1 := resRow _ _ hb1
  have t0 := HR1.cell (i := 0) (by omega)
  have t1 := HR1.cell (i := 1) (by omega)
  have t2 := HR1.cell (i := 2) (by omega)
  have s0 := HR1.frozen 0
  have s1 := HR1.frozen 1
  have s2 := HR1.frozen 2
  simp at t0 t1 t2
  clear hb1 HR1
  go_wp2
  exact bodyPost_ret (v := .agg #[.int .i64 F, .slice none 0 0, .slice none 0 0]) (by simp [results, Try.results41, go_sem, t0, t1, t2]) rfl ⟨rfl, ((HW1.out.setCell (by simp) _).setCell (by simp) _).setCell (by simp) _⟩

set_option maxHeartbeats 3200000 in
theorem implCrash_ok (w : World) (aB aC ap : Option Addr) (cB cC cap : Nat) (bs : List (List Int)) (ps : List (Int × List Int)) (bb : List Bool) (hB : IntsS w (.slice aB bs.length cB) bs) (hP : Puts w (.slice aC ps.length cC) ps) (sB : AtS w aB bs.length bs) (sP : AtP w aC ps.length ps) (hA : AtBs w ap bb.length bb) (hab : ∀ b off, ap = some ⟨b, off, none⟩ → 0 < bb.length → b < w.heap.size) (hff : faultF bs ps = 0)
    (hz : ∀ k : Nat, (bs[k]?.getD []).length ≤ 1048576) (hzp : ∀ k : Nat, (ps[k]?.getD (0, [])).2.length ≤ 1048576) :
    Calls Try.prog 41 #[.agg #[.slice aB bs.length cB, .slice aC ps.length cC], .slice ap bb.length cap] w (AnsDisk w 0 (keepTo (fun i => bb[i]?.getD false) bs ps ps.length) []) := by
  have HB : Hid (IntsS w (.slice aB bs.length cB) bs) := hB
  have HP : Hid (Puts w (.slice aC ps.length cC) ps) := hP
  have SB : Hid (AtS w aB bs.length bs) := sB
  have SP : Hid (AtP w aC ps.length ps) := sP
  have HA : Hid (AtBs w ap bb.length bb) := hA
  have HF : Hid (faultF bs ps = 0) := hff
  obtain ⟨g1, g2⟩ := faultF_lens hff
  have G1 : Hid (bs.length ≤ 60) := g1
  have G2 : Hid (ps.length ≤ 200) := g2
  have HZ : Hid (∀ k : Nat, (bs[k]?.getD []).length ≤ 1048576) := hz
  have HZP : Hid (∀ k : Nat, (ps[k]?.getD (0, [])).2.length ≤ 1048576) := hzp
  clear hB hP sB sP hz hzp hff g1 g2 hA
  go_enter Try.func41, Try.ntmps41
  go_wp2_with fail
  refine (fault_any _ _ _ bs ps (HB.out.later (later2 _ _ _)) (HP.out.later (later2 _ _ _))).mono ?_
  rw [HF.out]
  rintro e w1 ⟨rfl, hb1⟩
  have HW1 : Hid (Below w.heap.size w w1) := (later2 _ _ _).trans (hb1.mono (by simp; omega))
  have HX1 : Box2 w1 w.heap.size (.slice aB bs.length cB) (.slice aC ps.length cC) := ((Box2.new w _ _ 30).later (later1 _ _)).later hb1
  have HR1 : Hid (OwnRow w1 (w.heap.size + 1) 3 (fun i => if i = 0 then .int .i64 0 else if i = 1 then .slice none 0 0 else .slice none 0 0)) := resRow _ _ hb1
  have hz1 : w.heap.size + 1 < w1.heap.size := HR1.out.lt
  obtain ⟨x0, x1⟩ := HX1
  clear hb1
  go_wp2_with fail
  clear x0 x1
  refine (openDisk_walk _ aB aC bs.length cB ps.length cC bs ps rfl rfl G1.out G2.out (fun k _ => HZ.out k) (fun k _ => HZP.out k) (SB.out.later HW1.out) (SP.out.later HW1.out)).mono ?_
  rintro e w2 ⟨bd, g, aP, cP, pb, k, u, rfl, hdr⟩
  have HDR : Hid (Drive w1 w2 bd (some ⟨g, 0, none⟩) bs.length bs.length aP ps.length cP bs ps pb k u) := hdr
  have hbd1 : w1.heap.size ≤ bd := hdr.lo
  have hbd2 : bd < w2.heap.size := hdr.row.lt
  have HW2 : Hid (Below w.heap.size w w2) := HW1.out.trans (hdr.below.mono HW1.out.size)
  clear hdr
  have HSET : Hid (Calls _ _ _ _ _) := settle_any w2 w1.heap.size bd g bs.length ps.length aP cP ap bb.length cap bs ps bb pb k u hbd1 rfl G2.out G1.out rfl (faultF_places HF.out) HZP.out (HA.out.later HW2.out) (fun h0 h1 b off e e2 => by
    obtain ⟨_, _, h, _⟩ := HDR.out.blocks.row h0
    have := hab b off e h1
    omega) HDR.out.row HDR.out.cache HDR.out.blocks
  go_wp2_with fail
  refine HSET.out.mono ?_
  rintro e w3 ⟨rfl, hb3, hr3, hi3⟩
  have HR3 : Hid (OwnRow w3 bd 2 (fun c => if c = 0 then .slice (some ⟨g, 0, none⟩) bs.length bs.length else .slice none 0 0)) := hr3
  have HI3 : Hid (IntsSO w3 (.slice (some ⟨g, 0, none⟩) bs.length bs.length) (keepTo (fun i => bb[i]?.getD false) bs ps ps.length) (fun c => w1.heap.size ≤ c ∧ c < w3.heap.size ∧ c ≠ bd)) := hi3
  have HW3 : Hid (Below w.heap.size w w3) := HW2.out.trans (hb3.mono HW1.out.size)
  have HQ3 : Hid (OwnRow w3 (w.heap.size + 1) 3 (fun i => if i = 0 then .int .i64 0 else if i = 1 then .slice none 0 0 else .slice none 0 0)) := (HR1.out.later HDR.out.below).block (hb3.block _ hz1)
  clear hb3 hr3 hi3 HSET
  have d0 := HR3.out.cell (i := 0) (by omega)
  have d1 := HR3.out.cell (i := 1) (by omega)
  simp at d0 d1
  go_wp2_with fail
  refine (disk_nil w3 bd 0 0 none (some ⟨g, 0, none⟩) bs.length bs.length d0 d1).mono ?_
  rintro e w4 ⟨rfl, hb4⟩
  have HW4 : Hid (Below w.heap.size w w4) := HW3.out.trans (hb4.mono HW3.out.size)
  have HI4 : Hid (IntsSO w4 (.slice (some ⟨g, 0, none⟩) bs.length bs.length) (keepTo (fun i => bb[i]?.getD false) bs ps ps.length) (fun c => w1.heap.size ≤ c ∧ c < w3.heap.size ∧ c ≠ bd)) := HI3.out.keep fun b hb hlt => hb4.block b hlt
  have HR4 := HQ3.out.later hb4
  have hz4 : w3.heap.size ≤ w4.heap.size := hb4.size
  have t0 := HR4.cell (i := 0) (by omega)
  have t1 := HR4.cell (i := 1) (by omega)
  have t2 := HR4.cell (i := 2) (by omega)
  have s0 := HR4.frozen 0
  have s1 := HR4.frozen 1
  have s2 := HR4.frozen 2
  simp at t0 t1 t2
  clear hb4 HR4 d0 d1
  go_wp2
  refine bodyPost_ret (v := .agg #[.int .i64 0, .slice (some ⟨g, 0, none⟩) bs.length bs.length, .slice none 0 0]) (by simp [results, Try.results41, go_sem, t0, t1, t2]) rfl ⟨_, _, _, _, _, _, rfl, ?_, ?_⟩
  · exact ((HW4.out.setCell (by simp) _).setCell (by simp) _).setCell (by simp) _
  · refine ⟨fun c => w1.heap.size ≤ c ∧ c < w3.heap.size ∧ c ≠ bd, fun _ => False, ((HI4.out.store (fun b hb => by simp; omega) _).store (fun b hb => by simp; omega) _).store (fun b hb => by simp; omega) _, Or.inl ⟨rfl, none, 0, rfl⟩, fun b _ h => h.elim, fun b hb => ?_⟩
    simp only [World.setCell, Array.size_modify]
    have h0 := HW1.out.size
    rcases hb with hb | hb
    · omega
    · exact hb.elim

set_option maxHeartbeats 1600000 in
theorem flush_any (w : World) (lo bd g nB n : Nat) (aP : Option Addr) (cP : Nat) (bs : List (List Int)) (ps : List (Int × List Int)) (pb k : Nat → Nat) (u : Nat → Value) (hlo : lo ≤ bd) (hbl : bs.length = nB) (hn : n ≤ 200) (hnB : nB ≤ 60) (hpl : ∀ i, i < n → ∃ x : Nat, (ps[i]?.getD (0, [])).1 = x ∧ x < nB) (hzp : ∀ k : Nat, (ps[k]?.getD (0, [])).2.length ≤ 1048576)
    (hd : OwnRow w bd 2 (fun c => if c = 0 then .slice (some ⟨g, 0, none⟩) nB nB else .slice aP n cP)) (hc : Cache w (bd + 1) (.slice aP n cP) n (fun i => ps[i]?.getD (0, [])) pb k u) (hb : IntsSO w (.slice (some ⟨g, 0, none⟩) nB nB) bs (fun c => lo ≤ c ∧ c < bd)) :
    Calls Try.prog 87 #[.pointer (some ⟨bd, 0, none⟩)] w fun e w' => e = .returned (.tuple #[]) ∧ Below lo w w' ∧ OwnRow w' bd 2 (fun c => if c = 0 then .slice (some ⟨g, 0, none⟩) nB nB else .slice none 0 0) ∧ IntsSO w' (.slice (some ⟨g, 0, none⟩) nB nB) (keepTo (fun i => (List.replicate n true)[i]?.getD false) bs ps n) (fun c => lo ≤ c ∧ c < w'.heap.size ∧ c ≠ bd) := by
  have hlt := hd.lt
  have HSET : Hid (∀ w2p, Below w.heap.size w w2p → OwnRow w2p w.heap.size n (fun _ => .bool true) → Calls Try.prog 63 #[.pointer (some ⟨bd, 0, none⟩), .slice (some ⟨w.heap.size, 0, none⟩) n n] w2p fun e w' => e = .returned (.tuple #[]) ∧ Below lo w2p w' ∧ OwnRow w' bd 2 (fun c => if c = 0 then .slice (some ⟨g, 0, none⟩) nB nB else .slice none 0 0) ∧ IntsSO w' (.slice (some ⟨g, 0, none⟩) nB nB) (keepTo (fun i => (List.replicate n true)[i]?.getD false) bs ps n) (fun c => lo ≤ c ∧ c < w'.heap.size ∧ c ≠ bd)) := fun w2p hbp hop =>
    settle_any w2p lo bd g nB n aP cP (some ⟨w.heap.size, 0, none⟩) n n bs ps (List.replicate n true) pb k u hlo hbl hn hnB (by simp) hpl hzp (fun k hk => ⟨w.heap.size, 0, rfl, by rw [Nat.zero_add, hop.cell hk]; simp [hk]⟩) (fun h0 h1 b off e e2 => by
      obtain ⟨_, h, _, _⟩ := hb.row (by omega)
      have h := h.lt
      simp only [Option.some.injEq, Addr.mk.injEq, and_true] at e
      omega) (hd.later hbp) (hc.later hbp) (hb.keep fun b _ hlt => hbp.block b hlt)
  have hlo2 : lo ≤ w.heap.size := by omega
  have e1 := hd.cell (i := 1) (by omega)
  simp at e1
  clear hd hc hb hpl hzp
  go_enter Try.func87, Try.ntmps87
  go_wp2_with fail
  clear e1
  refine (allPicked_any _ n (by omega)).mono ?_
  rintro e w2p ⟨rfl, hbp, hop⟩
  have HP := HSET.out w2p hbp hop
  have HBP : Hid (Below w.heap.size w w2p) := hbp
  clear HSET hbp hop
  go_wp2_with fail
  refine HP.mono ?_
  rintro e w3 ⟨rfl, hb3, hr3, hi3⟩
  have HB3 : Hid (Below lo w w3) := (HBP.out.mono hlo2).trans hb3
  have HR3 : Hid (OwnRow w3 bd 2 (fun c => if c = 0 then .slice (some ⟨g, 0, none⟩) nB nB else .slice none 0 0)) := hr3
  have HI3 : Hid (IntsSO w3 (.slice (some ⟨g, 0, none⟩) nB nB) (keepTo (fun i => (List.replicate n true)[i]?.getD false) bs ps n) (fun c => lo ≤ c ∧ c < w3.heap.size ∧ c ≠ bd)) := hi3
  clear hb3 hr3 hi3
  go_wp2
  go_end0
  exact ⟨rfl, HB3.out, HR3.out, HI3.out⟩

theorem keepTo_congr {pk pk' : Nat → Bool} {bs : List (List Int)} {ps : List (Int × List Int)} (n : Nat) (h : ∀ i, i < n → pk i = pk' i) : keepTo pk bs ps n = keepTo pk' bs ps n := by
  induction n with
  | zero => rfl
  | succ n ih =>
    unfold keepTo
    rw [ih fun i hi => h i (by omega), h n (by omega)]

theorem implCrash_any (w : World) (vB vC : Value) (ap : Option Addr) (cap : Nat) (bs : List (List Int)) (ps : List (Int × List Int)) (pb : List Bool) (hB : IntsS w vB bs) (hP : Puts w vC ps) (hA : AtBs w ap pb.length pb) (hz : ∀ k : Nat, (bs[k]?.getD []).length ≤ 1048576) (hzp : ∀ k : Nat, (ps[k]?.getD (0, [])).2.length ≤ 1048576) :
    Calls Try.prog 41 #[.agg #[vB, vC], .slice ap pb.length cap] w (AnsDisk w (faultF bs ps) (keepBlocks (fun i => pb[i]?.getD false) bs ps) []) := by
  obtain ⟨aB, cB, rfl, _, sB⟩ := hB.open'
  obtain ⟨aC, cC, rfl, _, sP⟩ := hP.open'
  unfold keepBlocks
  by_cases hf : faultF bs ps = 0
  · rw [if_pos hf, hf]
    refine implCrash_ok w aB aC ap cB cC cap bs ps pb hB hP sB sP hA (fun b off e h => ?_) hf hz hzp
    obtain ⟨b', off', e', c⟩ := hA 0 h
    rw [e] at e'
    simp only [Option.some.injEq, Addr.mk.injEq, and_true] at e'
    have := World.block_lt_of_cell? _ _ c
    simp at this
    omega
  · rw [if_neg hf]
    exact (implCrash_fault w _ _ _ bs ps hB hP hf).mono fun e w' ⟨h1, h2⟩ => by rw [h1]; exact ans_bad h2 _
end Go.Proofs.Ytpmndmkmfcoieaa

namespace Go.Proofs.Ytpmndmkmfcoieaa
open Go.RowKit
set_option maxRecDepth 100000

set_option maxHeartbeats 400000 in
theorem eqInts_len (w : World) (a a' : Option Addr) (cap cap' n n' : Nat) (hn : ¬ n = n') :
    Calls Try.prog 45 #[.slice a n cap, .slice a' n' cap'] w fun e w' => e = .returned (.bool false) ∧ w' = w := by
  have hb : ((n : Int) != (n' : Int)) = true := by simp; omega
  clear hn
  go_enter Try.func45, Try.ntmps45
  go_wp2
  go_ret
  exact ⟨rfl, rfl⟩

set_option maxHeartbeats 400000 in
theorem eqInts_nil (w : World) (a a' : Option Addr) (cap cap' : Nat) :
    Calls Try.prog 45 #[.slice a 0 cap, .slice a' 0 cap'] w fun e w' => e = .returned (.bool true) ∧ w' = w := by
  go_enter Try.func45, Try.ntmps45
  go_wp2
  go_loop [5] (fun i => i = .int .i64 0) (fun _ => 0)
  case atStart => rfl
  case round =>
    obtain rfl := hrel
    go_wp2
    go_ret
    exact ⟨rfl, rfl⟩

set_option maxHeartbeats 400000 in
theorem eqInts_walk (w : World) (b off cap b' off' cap' n : Nat) (xs ys : List Int) (hx : xs.length = n) (hy : ys.length = n) (hn : n ≤ maxLen)
    (cx : ∀ k, k < n → w.cell? ⟨b, off + k, none⟩ = some (.int .i64 (xs[k]?.getD 0)))
    (cy : ∀ k, k < n → w.cell? ⟨b', off' + k, none⟩ = some (.int .i64 (ys[k]?.getD 0))) :
    Calls Try.prog 45 #[.slice (some ⟨b, off, none⟩) n cap, .slice (some ⟨b', off', none⟩) n cap'] w fun e w' => e = .returned (.bool (xs == ys)) ∧ ∃ m, w' = w.drewN m := by
  unfold maxLen at hn
  have HX : Hid (xs.length = n) := hx
  have HY : Hid (ys.length = n) := hy
  clear hx hy
  go_enter Try.func45, Try.ntmps45
  go_wp2
  go_loopw [5] (fun i wr => ∃ k m : Nat, k ≤ n ∧ i = .int .i64 k ∧ wr = w.drewN m ∧ xs.take k = ys.take k) (fun i _ => n - (intOf i).toNat)
  case atStart => exact ⟨0, 0, Nat.zero_le _, rfl, rfl, rfl⟩
  case round =>
    obtain ⟨k, m, hk, rfl, rfl, ht⟩ := hrel
    by_cases hlt : k < n
    · have c1 := cx k hlt
      have c2 := cy k hlt
      clear cx cy
      have HT : Hid (xs.take k = ys.take k) := ht
      clear ht
      by_cases he : xs[k]?.getD 0 = ys[k]?.getD 0
      · have hb : (xs[k]?.getD 0 != ys[k]?.getD 0) = false := by simp [he]
        have HE : Hid (xs[k]?.getD 0 = ys[k]?.getD 0) := he
        clear he
        go_wp2_with fail
        go_quiet (fail)
        go_wp2
        go_roundw
        case rel => exact ⟨k + 1, m + nq, by omega, by go_num, rfl, take_more 0 HX.out HY.out hlt HT.out HE.out⟩
        case measure => simp [intOf]; omega
      · have hb : (xs[k]?.getD 0 != ys[k]?.getD 0) = true := by simp [he]
        go_wp2_with fail
        go_quiet (fail)
        go_wp2
        go_ret
        exact ⟨ret_bool (beq_at 0 he), m + nq, by rw [World.drewN_drewN]⟩
    · go_wp2
      go_ret
      exact ⟨ret_bool (beq_takes HX.out HY.out (by omega) ht), m, rfl⟩

theorem eqInts_any {w : World} {va vb : Value} {xs ys : List Int} (ha : Ints w va xs) (hb : Ints w vb ys) :
    Calls Try.prog 45 #[va, vb] w fun e w' => e = .returned (.bool (xs == ys)) ∧ ∃ m, w' = w.drewN m := by
  have base : ∀ a cap a' cap' (x y : List Int), x.length ≠ y.length ∨ (x = [] ∧ y = []) → Calls Try.prog 45 #[.slice a x.length cap, .slice a' y.length cap'] w fun e w' => e = .returned (.bool (x == y)) ∧ ∃ m, w' = w.drewN m := by
    intro a cap a' cap' x y h
    rcases h with h | ⟨rfl, rfl⟩
    · exact (eqInts_len w a a' cap cap' _ _ h).mono fun e w' ⟨he, hw⟩ => ⟨he.trans (ret_bool (beq_len h)), 0, hw⟩
    · exact (eqInts_nil w a a' cap cap').mono fun e w' ⟨he, hw⟩ => ⟨he, 0, hw⟩
  rcases ha with ⟨rfl, a, cap, rfl⟩ | ⟨b, off, cap, rfl, hl, hc⟩
  · rcases hb with ⟨rfl, a', cap', rfl⟩ | ⟨b', off', cap', rfl, hl', hc'⟩
    · exact base a cap a' cap' [] [] (Or.inr ⟨rfl, rfl⟩)
    · by_cases h : ys = []
      · subst h; exact base a cap _ cap' [] [] (Or.inr ⟨rfl, rfl⟩)
      · exact base a cap _ cap' [] ys (Or.inl (by cases ys <;> simp at h ⊢))
  · rcases hb with ⟨rfl, a', cap', rfl⟩ | ⟨b', off', cap', rfl, hl', hc'⟩
    · by_cases h : xs = []
      · subst h; exact base _ cap a' cap' [] [] (Or.inr ⟨rfl, rfl⟩)
      · exact base _ cap a' cap' xs [] (Or.inl (by cases xs <;> simp at h ⊢))
    · by_cases h : xs.length = ys.length
      · have := eqInts_walk w b off cap b' off' cap' ys.length xs ys h rfl hl' (fun k hk => hc k (by omega)) hc'
        rw [h]; exact this
      · exact base _ cap _ cap' xs ys (Or.inl h)

set_option maxHeartbeats 400000 in
theorem eqIntsS_len (w : World) (a a' : Option Addr) (cap cap' n n' : Nat) (hn : ¬ n = n') :
    Calls Try.prog 24 #[.slice a n cap, .slice a' n' cap'] w fun e w' => e = .returned (.bool false) ∧ w' = w := by
  have hb : ((n : Int) != (n' : Int)) = true := by simp; omega
  clear hn
  go_enter Try.func24, Try.ntmps24
  go_wp2
  go_ret
  exact ⟨rfl, rfl⟩

set_option maxHeartbeats 400000 in
theorem eqIntsS_nil (w : World) (a a' : Option Addr) (cap cap' : Nat) :
    Calls Try.prog 24 #[.slice a 0 cap, .slice a' 0 cap'] w fun e w' => e = .returned (.bool true) ∧ w' = w := by
  go_enter Try.func24, Try.ntmps24
  go_wp2
  go_loop [5] (fun i => i = .int .i64 0) (fun _ => 0)
  case atStart => rfl
  case round =>
    obtain rfl := hrel
    go_wp2
    go_ret
    exact ⟨rfl, rfl⟩

set_option maxHeartbeats 400000 in
theorem eqIntsS_walk (w : World) (b off cap b' off' cap' n : Nat) (xs ys : List (List Int)) (u u' : Nat → Value) (hx : xs.length = n) (hy : ys.length = n) (hn : n ≤ maxLen)
    (cx : ∀ k, k < n → w.cell? ⟨b, off + k, none⟩ = some (u k) ∧ Ints w (u k) (xs[k]?.getD []))
    (cy : ∀ k, k < n → w.cell? ⟨b', off' + k, none⟩ = some (u' k) ∧ Ints w (u' k) (ys[k]?.getD [])) :
    Calls Try.prog 24 #[.slice (some ⟨b, off, none⟩) n cap, .slice (some ⟨b', off', none⟩) n cap'] w fun e w' => e = .returned (.bool (xs == ys)) ∧ ∃ m, w' = w.drewN m := by
  unfold maxLen at hn
  have HX : Hid (xs.length = n) := hx
  have HY : Hid (ys.length = n) := hy
  clear hx hy
  go_enter Try.func24, Try.ntmps24
  go_wp2
  go_loopw [5] (fun i wr => ∃ k m : Nat, k ≤ n ∧ i = .int .i64 k ∧ wr = w.drewN m ∧ xs.take k = ys.take k) (fun i _ => n - (intOf i).toNat)
  case atStart => exact ⟨0, 0, Nat.zero_le _, rfl, rfl, rfl⟩
  case round =>
    obtain ⟨k, m, hk, rfl, rfl, ht⟩ := hrel
    by_cases hlt : k < n
    · obtain ⟨c1, i1⟩ := cx k hlt
      obtain ⟨c2, i2⟩ := cy k hlt
      clear cx cy
      have HT : Hid (xs.take k = ys.take k) := ht
      clear ht
      have I1 : Hid (Ints w (u k) (xs[k]?.getD [])) := i1
      have I2 : Hid (Ints w (u' k) (ys[k]?.getD [])) := i2
      clear i1 i2
      by_cases he : xs[k]?.getD [] = ys[k]?.getD []
      · have hb : (xs[k]?.getD [] == ys[k]?.getD []) = true := by simp [he]
        have HE : Hid (xs[k]?.getD [] = ys[k]?.getD []) := he
        clear he
        go_wp2_with fail
        go_quiet ((go_at_call 45; refine quiet_of2 (eqInts_any (xs := xs[k]?.getD []) (ys := ys[k]?.getD []) ?_ ?_) <;> first | exact I1.out | exact I2.out))
        go_wp2
        go_roundw
        case rel => exact ⟨k + 1, m + nq, by omega, by go_num, rfl, take_more [] HX.out HY.out hlt HT.out HE.out⟩
        case measure => simp [intOf]; omega
      · have hb : (xs[k]?.getD [] == ys[k]?.getD []) = false := by simp [he]
        go_wp2_with fail
        go_quiet ((go_at_call 45; refine quiet_of2 (eqInts_any (xs := xs[k]?.getD []) (ys := ys[k]?.getD []) ?_ ?_) <;> first | exact I1.out | exact I2.out))
        go_wp2
        go_ret
        exact ⟨ret_bool (beq_at [] he), m + nq, by rw [World.drewN_drewN]⟩
    · go_wp2
      go_ret
      exact ⟨ret_bool (beq_takes HX.out HY.out (by omega) ht), m, rfl⟩

theorem eqIntsS_any {w : World} {va vb : Value} {xs ys : List (List Int)} (ha : IntsS w va xs) (hb : IntsS w vb ys) :
    Calls Try.prog 24 #[va, vb] w fun e w' => e = .returned (.bool (xs == ys)) ∧ ∃ m, w' = w.drewN m := by
  have base : ∀ a cap a' cap' (x y : List (List Int)), x.length ≠ y.length ∨ (x = [] ∧ y = []) → Calls Try.prog 24 #[.slice a x.length cap, .slice a' y.length cap'] w fun e w' => e = .returned (.bool (x == y)) ∧ ∃ m, w' = w.drewN m := by
    intro a cap a' cap' x y h
    rcases h with h | ⟨rfl, rfl⟩
    · exact (eqIntsS_len w a a' cap cap' _ _ h).mono fun e w' ⟨he, hw⟩ => ⟨he.trans (ret_bool (beq_len h)), 0, hw⟩
    · exact (eqIntsS_nil w a a' cap cap').mono fun e w' ⟨he, hw⟩ => ⟨he, 0, hw⟩
  rcases ha with ⟨rfl, a, cap, rfl⟩ | ⟨b, off, cap, u, rfl, hl, hc⟩
  · rcases hb with ⟨rfl, a', cap', rfl⟩ | ⟨b', off', cap', u', rfl, hl', hc'⟩
    · exact base a cap a' cap' [] [] (Or.inr ⟨rfl, rfl⟩)
    · by_cases h : ys = []
      · subst h; exact base a cap _ cap' [] [] (Or.inr ⟨rfl, rfl⟩)
      · exact base a cap _ cap' [] ys (Or.inl (by cases ys <;> simp at h ⊢))
  · rcases hb with ⟨rfl, a', cap', rfl⟩ | ⟨b', off', cap', u', rfl, hl', hc'⟩
    · by_cases h : xs = []
      · subst h; exact base _ cap a' cap' [] [] (Or.inr ⟨rfl, rfl⟩)
      · exact base _ cap a' cap' xs [] (Or.inl (by cases xs <;> simp at h ⊢))
    · by_cases h : xs.length = ys.length
      · have := eqIntsS_walk w b off cap b' off' cap' ys.length xs ys u u' h rfl hl' (fun k hk => hc k (by omega)) hc'
        rw [h]; exact this
      · exact base _ cap _ cap' xs ys (Or.inl h)

end Go.Proofs.Ytpmndmkmfcoieaa

namespace Go.Proofs.Ytpmndmkmfcoieaa
open Go.RowKit
set_option maxRecDepth 100000

theorem beq_pair1 {a b : Int} (xs ys : List Int) (h : (a != b) = true) : false = ((a, xs) == (b, ys)) := by
  symm; rw [Bool.eq_false_iff]; intro e; simp at h; have := eq_of_beq e; simp at this; exact h this.1
theorem beq_pair2 {a b : Int} {xs ys : List Int} {r : Bool} (h : (a != b) = false) (hr : (xs == ys) = r) : r = ((a, xs) == (b, ys)) := by
  simp at h; subst h; rw [← hr]
  by_cases e : xs = ys
  · simp [e]
  · have h1 : (xs == ys) = false := by simp [e]
    rw [h1]; symm; rw [Bool.eq_false_iff]; intro h2; have := eq_of_beq h2; simp at this; exact e this

set_option maxHeartbeats 400000 in
theorem eqPut_any (w : World) (va vb : Value) (a b : Int) (xs ys : List Int) (ha : Ints w va xs) (hb : Ints w vb ys) :
    Calls Try.prog 46 #[.agg #[.int .i64 a, va], .agg #[.int .i64 b, vb]] w fun e w' => e = .returned (.bool ((a, xs) == (b, ys))) ∧ Below w.heap.size w w' := by
  have HA : Hid (Ints w va xs) := ha
  have HB : Hid (Ints w vb ys) := hb
  clear ha hb
  generalize hr : (xs == ys) = r
  have HR : Hid ((xs == ys) = r) := hr
  clear hr
  by_cases hab : (a != b) = true
  · go_enter Try.func46, Try.ntmps46
    go_wp2_with fail
    go_ret
    exact ⟨ret_bool (beq_pair1 xs ys hab), later2 _ _ _⟩
  · have hab' : (a != b) = false := by simpa using hab
    clear hab
    go_enter Try.func46, Try.ntmps46
    go_wp2_with fail
    refine (eqInts_any (HA.out.later (later2 _ _ _)) (HB.out.later (later2 _ _ _))).mono ?_
    rw [HR.out]
    rintro e w' ⟨rfl, m, rfl⟩
    cases r
    all_goals
      go_wp2
      go_ret
      exact ⟨ret_bool (beq_pair2 hab' HR.out), below_drewN (later2 _ _ _) m⟩

set_option maxHeartbeats 400000 in
theorem eqPuts_len (w : World) (a a' : Option Addr) (cap cap' n n' : Nat) (hn : ¬ n = n') :
    Calls Try.prog 25 #[.slice a n cap, .slice a' n' cap'] w fun e w' => e = .returned (.bool false) ∧ w' = w := by
  have hb : ((n : Int) != (n' : Int)) = true := by simp; omega
  clear hn
  go_enter Try.func25, Try.ntmps25
  go_wp2
  go_ret
  exact ⟨rfl, rfl⟩

set_option maxHeartbeats 400000 in
theorem eqPuts_nil (w : World) (a a' : Option Addr) (cap cap' : Nat) :
    Calls Try.prog 25 #[.slice a 0 cap, .slice a' 0 cap'] w fun e w' => e = .returned (.bool true) ∧ w' = w := by
  go_enter Try.func25, Try.ntmps25
  go_wp2
  go_loop [5] (fun i => i = .int .i64 0) (fun _ => 0)
  case atStart => rfl
  case round =>
    obtain rfl := hrel
    go_wp2
    go_ret
    exact ⟨rfl, rfl⟩

set_option maxHeartbeats 800000 in
theorem eqPuts_walk (w : World) (b off cap b' off' cap' n : Nat) (xs ys : List (Int × List Int)) (u u' : Nat → Value) (hx : xs.length = n) (hy : ys.length = n) (hn : n ≤ maxLen)
    (cx : ∀ k, k < n → w.cell? ⟨b, off + k * 2, none⟩ = some (.int .i64 (xs[k]?.getD (0, [])).1) ∧ w.cell? ⟨b, off + k * 2 + 1, none⟩ = some (u k) ∧ Ints w (u k) (xs[k]?.getD (0, [])).2)
    (cy : ∀ k, k < n → w.cell? ⟨b', off' + k * 2, none⟩ = some (.int .i64 (ys[k]?.getD (0, [])).1) ∧ w.cell? ⟨b', off' + k * 2 + 1, none⟩ = some (u' k) ∧ Ints w (u' k) (ys[k]?.getD (0, [])).2) :
    Calls Try.prog 25 #[.slice (some ⟨b, off, none⟩) n cap, .slice (some ⟨b', off', none⟩) n cap'] w fun e w' => e = .returned (.bool (xs == ys)) ∧ Below w.heap.size w w' := by
  unfold maxLen at hn
  have HX : Hid (xs.length = n) := hx
  have HY : Hid (ys.length = n) := hy
  clear hx hy
  go_enter Try.func25, Try.ntmps25
  go_wp2
  go_loopw [5] (fun i wr => ∃ k : Nat, k ≤ n ∧ i = .int .i64 k ∧ Below w.heap.size w wr ∧ xs.take k = ys.take k) (fun i _ => n - (intOf i).toNat)
  case atStart => exact ⟨0, Nat.zero_le _, rfl, Below.refl _ _, rfl⟩
  case round =>
    obtain ⟨k, hk, rfl, hbl, ht⟩ := hrel
    by_cases hlt : k < n
    · obtain ⟨c1, c2, i1⟩ := cx k hlt
      obtain ⟨d1, d2, i2⟩ := cy k hlt
      clear cx cy
      have HT : Hid (xs.take k = ys.take k) := ht
      clear ht
      replace c1 := cell_later hbl c1
      replace c2 := cell_later hbl c2
      replace d1 := cell_later hbl d1
      replace d2 := cell_later hbl d2
      replace i1 := i1.later hbl
      replace i2 := i2.later hbl
      have HBL : Hid (Below w.heap.size w wr) := hbl
      clear hbl
      have HI1 : Hid (Ints wr (u k) (xs[k]?.getD (0, [])).2) := i1
      have HI2 : Hid (Ints wr (u' k) (ys[k]?.getD (0, [])).2) := i2
      clear i1 i2
      by_cases he : xs[k]?.getD (0, []) = ys[k]?.getD (0, [])
      · have HE : Hid (xs[k]?.getD (0, []) = ys[k]?.getD (0, [])) := he
        have HB : Hid (((xs[k]?.getD (0, [])) == (ys[k]?.getD (0, []))) = true) := by simp [he, Hid]
        clear he
        go_wp2_with fail
        go_region_with ((go_at_call 46; refine (eqPut_any _ _ _ _ _ (xs[k]?.getD (0, [])).2 (ys[k]?.getD (0, [])).2 ?_ ?_).mono ?_; exact HI1.out; exact HI2.out; rw [show (((xs[k]?.getD (0, [])).1, (xs[k]?.getD (0, [])).2) == ((ys[k]?.getD (0, [])).1, (ys[k]?.getD (0, [])).2)) = true from HB.out]; rintro e w' ⟨rfl, hb2⟩))
        all_goals
          go_wp2
          go_roundw
          case rel => exact ⟨k + 1, by omega, by go_num, (HBL.out.drew).trans (hb2.mono HBL.out.size), take_more (0, []) HX.out HY.out hlt HT.out HE.out⟩
          case measure => simp [intOf]; omega
      · have HB : Hid (((xs[k]?.getD (0, [])) == (ys[k]?.getD (0, []))) = false) := by unfold Hid; rw [Bool.eq_false_iff]; intro h; exact he (eq_of_beq h)
        have HE : Hid (¬ xs[k]?.getD (0, []) = ys[k]?.getD (0, [])) := he
        clear he
        go_wp2_with fail
        go_region_with ((go_at_call 46; refine (eqPut_any _ _ _ _ _ (xs[k]?.getD (0, [])).2 (ys[k]?.getD (0, [])).2 ?_ ?_).mono ?_; exact HI1.out; exact HI2.out; rw [show (((xs[k]?.getD (0, [])).1, (xs[k]?.getD (0, [])).2) == ((ys[k]?.getD (0, [])).1, (ys[k]?.getD (0, [])).2)) = false from HB.out]; rintro e w' ⟨rfl, hb2⟩))
        all_goals
          go_wp2
          go_ret
          exact ⟨ret_bool (beq_at (0, []) HE.out), (HBL.out.drew).trans (hb2.mono HBL.out.size)⟩
    · go_wp2
      go_ret
      exact ⟨ret_bool (beq_takes HX.out HY.out (by omega) ht), hbl⟩

theorem eqPuts_any {w : World} {va vb : Value} {xs ys : List (Int × List Int)} (ha : Puts w va xs) (hb : Puts w vb ys) :
    Calls Try.prog 25 #[va, vb] w fun e w' => e = .returned (.bool (xs == ys)) ∧ Below w.heap.size w w' := by
  have base : ∀ a cap a' cap' (x y : List (Int × List Int)), x.length ≠ y.length ∨ (x = [] ∧ y = []) → Calls Try.prog 25 #[.slice a x.length cap, .slice a' y.length cap'] w fun e w' => e = .returned (.bool (x == y)) ∧ Below w.heap.size w w' := by
    intro a cap a' cap' x y h
    rcases h with h | ⟨rfl, rfl⟩
    · exact (eqPuts_len w a a' cap cap' _ _ h).mono fun e w' ⟨he, hw⟩ => ⟨he.trans (ret_bool (beq_len h)), hw ▸ Below.refl _ _⟩
    · exact (eqPuts_nil w a a' cap cap').mono fun e w' ⟨he, hw⟩ => ⟨he, hw ▸ Below.refl _ _⟩
  rcases ha with ⟨rfl, a, cap, rfl⟩ | ⟨b, off, cap, u, rfl, hl, hc⟩
  · rcases hb with ⟨rfl, a', cap', rfl⟩ | ⟨b', off', cap', u', rfl, hl', hc'⟩
    · exact base a cap a' cap' [] [] (Or.inr ⟨rfl, rfl⟩)
    · by_cases h : ys = []
      · subst h; exact base a cap _ cap' [] [] (Or.inr ⟨rfl, rfl⟩)
      · exact base a cap _ cap' [] ys (Or.inl (by cases ys <;> simp at h ⊢))
  · rcases hb with ⟨rfl, a', cap', rfl⟩ | ⟨b', off', cap', u', rfl, hl', hc'⟩
    · by_cases h : xs = []
      · subst h; exact base _ cap a' cap' [] [] (Or.inr ⟨rfl, rfl⟩)
      · exact base _ cap a' cap' xs [] (Or.inl (by cases xs <;> simp at h ⊢))
    · by_cases h : xs.length = ys.length
      · have := eqPuts_walk w b off cap b' off' cap' ys.length xs ys u u' h rfl hl' (fun k hk => hc k (by omega)) hc'
        rw [h]; exact this
      · exact base _ cap _ cap' xs ys (Or.inl h)

/-- Of two disks that read alike eqDisk tells true. -/
theorem eqDisk_true (w : World) (va vc va' vc' : Value) (bs : List (List Int)) (ps : List (Int × List Int)) (h1 : IntsS w va bs) (h2 : Puts w vc ps) (h3 : IntsS w va' bs) (h4 : Puts w vc' ps) :
    Calls Try.prog 10 #[.agg #[va, vc], .agg #[va', vc']] w fun e w' => e = .returned (.bool true) ∧ Below w.heap.size w w' := by
  have H1 : Hid (IntsS w va bs) := h1
  have H2 : Hid (Puts w vc ps) := h2
  have H3 : Hid (IntsS w va' bs) := h3
  have H4 : Hid (Puts w vc' ps) := h4
  clear h1 h2 h3 h4
  go_enter Try.func10, Try.ntmps10
  go_wp2_with fail
  refine (eqIntsS_any (H1.out.later (later2 _ _ _)) (H3.out.later (later2 _ _ _))).mono ?_
  rw [beq_self_eq_true]
  rintro e w' ⟨rfl, m, rfl⟩
  go_wp2_with fail
  refine (eqPuts_any ((H2.out.later (later2 _ _ _)).drewN m) ((H4.out.later (later2 _ _ _)).drewN m)).mono ?_
  rw [beq_self_eq_true]
  rintro e w' ⟨rfl, hb⟩
  go_wp2
  go_ret
  exact ⟨rfl, (below_drewN (later2 _ _ _) m).trans (hb.mono (by simp [World.drewN]; omega))⟩

theorem eqDiskResult_true (w : World) (c : Int) (va vc va' vc' : Value) (bs : List (List Int)) (ps : List (Int × List Int)) (h1 : IntsS w va bs) (h2 : Puts w vc ps) (h3 : IntsS w va' bs) (h4 : Puts w vc' ps) :
    Calls Try.prog 9 #[.agg #[.int .i64 c, va, vc], .agg #[.int .i64 c, va', vc']] w fun e w' => e = .returned (.bool true) ∧ Below w.heap.size w w' := by
  have H1 : Hid (IntsS w va bs) := h1
  have H2 : Hid (Puts w vc ps) := h2
  have H3 : Hid (IntsS w va' bs) := h3
  have H4 : Hid (Puts w vc' ps) := h4
  clear h1 h2 h3 h4
  go_enter Try.func9, Try.ntmps9
  go_wp2_with fail
  refine (eqDisk_true _ _ _ _ _ bs ps (H1.out.later (later2 _ _ _)) (H2.out.later (later2 _ _ _)) (H3.out.later (later2 _ _ _)) (H4.out.later (later2 _ _ _))).mono ?_
  rintro e w' ⟨rfl, hb⟩
  go_wp2
  go_ret
  exact ⟨rfl, (later2 _ _ _).trans (hb.mono (by simp; omega))⟩

end Go.Proofs.Ytpmndmkmfcoieaa
