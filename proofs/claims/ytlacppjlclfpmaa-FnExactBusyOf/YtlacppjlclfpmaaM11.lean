/- The specification's LinksOf. The specification: are links and places right? The program's PickBlocks and FreeInode. Lists of inodes are marked. The program's PackInode. PackInode, and answers that are words, in the one form of the laws. -/
import Derived.Test.YtlacppjlclfpmaaM08
import Derived.Test.YtlacppjlclfpmaaM10
import Derived.Test.YtlacppjlclfpmaaM04
namespace Go.Proofs.Ytlacppjlclfpmaa
open Go.RowKit
set_option maxRecDepth 100000

theorem entI_get (es : List EN) (k : Nat) : (entI es)[k]?.getD 0 = (es[k]?.getD en0).2 := by
  unfold entI; rw [List.getElem?_map]; cases es[k]? <;> rfl
theorem entI_len (es : List EN) : (entI es).length = es.length := by simp [entI]
theorem allE_bound (ds : List ID) (hs : sizeInos ds ≤ 1048576) (v : Int) : (allE ds).count v ≤ 1048576 := by
  have h2 := allE_len ds
  have h3 := List.count_le_length (a := v) (l := allE ds)
  unfold sizeInos at hs
  omega

set_option maxHeartbeats 1600000 in
theorem l5Links_walk (w : World) (a : Option Addr) (n c : Nat) (ds : List ID) (v : Int) (hn : n ≤ 1048576) (hdn : ds.length = n) (hs : (isz ds).sum ≤ 1048576) (hc : AtI w a n ds) :
    Calls Try.prog 89 #[.slice a n c, .int .i64 v] w fun e w' => e = .returned (.int .i64 (((allE ds).count v : Nat) : Int)) ∧ ∃ m, w' = w.drewN m := by
  have HC : Hid (AtI w a n ds) := hc
  have HN : Hid (ds.length = n) := hdn
  have HT : Hid ((allE ds).count v = (((ds.take n).flatMap fun d => entI d.2.2.2.2)).count v) := by unfold Hid allE; rw [List.take_of_length_le (by omega)]
  have HS : Hid (∀ j, (((ds.take j).flatMap fun d => entI d.2.2.2.2)).count v ≤ 1048576) := fun j => by
    have h1 := flat_take (fun d : ID => entI d.2.2.2.2) ds j
    have h2 := allE_len ds
    have h3 := List.count_le_length (a := v) (l := (ds.take j).flatMap fun d => entI d.2.2.2.2)
    unfold allE at h2
    omega
  have HX : Hid (∀ j, j < n → ((ds.take (j + 1)).flatMap fun d => entI d.2.2.2.2).count v = ((ds.take j).flatMap fun d => entI d.2.2.2.2).count v + (entI (ds[j]?.getD id0).2.2.2.2).count v) := fun j hj => by
    rw [flat_next (fun d : ID => entI d.2.2.2.2) ds id0 j (by omega), List.count_append]
  have HZ : Hid (∀ j, (ds[j]?.getD id0).2.2.2.2.length ≤ 1048576) := fun j => by
    have := isz_le ds j
    have hd : sizeIno (ds[j]?.getD id0) = (ds[j]?.getD id0).2.2.2.1.length + ((ds[j]?.getD id0).2.2.2.2.length + (nlens (ds[j]?.getD id0).2.2.2.2).sum) := rfl
    omega
  rw [HT.out]
  clear hc hdn hs HT
  generalize hG : (fun j => ((ds.take j).flatMap fun d => entI d.2.2.2.2).count v) = G at *
  have HG : Hid (∀ j, ((ds.take j).flatMap fun d => entI d.2.2.2.2).count v = G j) := fun j => congrFun hG j
  simp only [HG.out] at HS HX ⊢
  have HG0 : Hid (G 0 = 0) := by unfold Hid; rw [← HG.out 0]; simp
  clear hG HG
  go_enter Try.func89, Try.ntmps89
  go_wp2
  go_loopw [5, 6] (fun q i wr => ∃ j m : Nat, j ≤ n ∧ i = .int .i64 j ∧ q = .int .i64 ((G j : Nat) : Int) ∧ wr = w.drewN m) (fun _ i _ => n - (intOf i).toNat)
  case atStart => exact ⟨0, 0, Nat.zero_le _, rfl, by rw [HG0.out]; rfl, rfl⟩
  case round =>
    obtain ⟨j, m, hj, rfl, rfl, rfl⟩ := hrel
    by_cases hlt : j < n
    · obtain ⟨b, o, rfl, hI⟩ := HC.out j hlt
      obtain ⟨aB, cB, aE, cE, h0, h1, h2, h3, h4, h5⟩ := hI
      obtain ⟨_, _, e1, hm1, _, hc1⟩ := h5.2.2.open'
      simp only [Value.slice.injEq] at e1
      obtain ⟨rfl, _, rfl⟩ := e1
      have HZJ := HZ.out j
      have HSJ := HS.out (j + 1)
      have HXJ' : Hid (G (j + 1) = G j + (entI (ds[j]?.getD id0).2.2.2.2).count v) := HX.out j hlt
      clear h0 h1 h2 h3 h5 HC
      generalize (ds[j]?.getD id0).2.2.2.2 = es at *
      have HCB : Hid (AtN w aE es.length es) := hc1
      obtain ⟨nB, hnB⟩ : ∃ nB, nB = es.length := ⟨_, rfl⟩
      have HNB : Hid (nB = es.length) := hnB
      have HNI : Hid (nB = (entI es).length) := by unfold Hid; rw [entI_len]; exact hnB
      rw [← hnB] at h4 hm1 HZJ
      have hle : G j + (entI es).count v ≤ 1048576 := by have := HXJ'.out; omega
      have HEG : Hid (∀ k : Nat, (entI es)[k]?.getD 0 = (es[k]?.getD en0).2) := fun k => entI_get es k
      clear hc1 hnB HSJ
      generalize entI es = bs at *
      go_wp2
      go_loopw [5, 7] (fun q i wr => ∃ k m2 : Nat, k ≤ nB ∧ i = .int .i64 k ∧ q = .int .i64 (((G j + (bs.take k).count v : Nat)) : Int) ∧ wr = w.drewN m2) (fun _ i _ => nB - (intOf i).toNat)
      case atStart => exact ⟨0, m, Nat.zero_le _, rfl, by simp, rfl⟩
      case round =>
        obtain ⟨k, m2, hk, rfl, rfl, rfl⟩ := hrel
        by_cases hlk : k < nB
        · obtain ⟨b1, o1, rfl, _, d1⟩ := HCB.out k (by rw [← HNB.out]; exact hlk)
          rw [← HEG.out k] at d1
          have hcn := count_next bs v k (by rw [← HNI.out]; exact hlk)
          have HCN : Hid ((bs.take (k + 1)).count v = (bs.take k).count v + (if bs[k]?.getD 0 = v then 1 else 0)) := hcn
          have hct : (bs.take k).count v ≤ bs.count v := List.Sublist.count_le v (List.take_sublist k bs)
          generalize (bs.take k).count v = ck at *
          clear hcn HCB HEG
          generalize bs[k]?.getD 0 = x at *
          by_cases hxv : x = v
          · have hxb : (x == v) = true := by simpa using hxv
            have HCN' : Hid ((bs.take (k + 1)).count v = ck + 1) := by unfold Hid; rw [HCN.out, if_pos hxv]
            clear hxv HCN
            go_wp2
            go_roundw
            case rel => exact ⟨k + 1, _, by omega, by go_num, by rw [HCN'.out]; go_num, rfl⟩
            case measure => simp [intOf]; omega
          · have hxb : (x == v) = false := by simpa using hxv
            have HCN' : Hid ((bs.take (k + 1)).count v = ck) := by unfold Hid; rw [HCN.out, if_neg hxv, Nat.add_zero]
            clear hxv HCN
            go_wp2
            go_roundw
            case rel => exact ⟨k + 1, _, by omega, by go_num, by rw [HCN'.out], rfl⟩
            case measure => simp [intOf]; omega
        · have hkn : bs.take k = bs := List.take_of_length_le (by rw [← HNI.out]; omega)
          rw [hkn]
          clear hkn
          have HE : Hid (((G j + bs.count v : Nat) : Int) = ((G (j + 1) : Nat) : Int)) := by unfold Hid; rw [HXJ'.out]
          go_wp2
          go_roundw
          case rel => exact ⟨j + 1, _, by omega, by go_num, by rw [HE.out], rfl⟩
          case measure => simp [intOf]; omega
    · have HJ : Hid (G j = G n) := by unfold Hid; rw [show j = n by omega]
      go_wp2
      go_ret
      exact ⟨ret_int (by rw [HJ.out]), m, rfl⟩
theorem l5Links_any {w : World} {vv : Value} {ds : List ID} (h : Inos w vv ds) (hs : sizeInos ds ≤ 1048576) (v : Int) :
    Calls Try.prog 89 #[vv, .int .i64 v] w fun e w' => e = .returned (.int .i64 (((allE ds).count v : Nat) : Int)) ∧ ∃ m, w' = w.drewN m := by
  obtain ⟨a, cap, rfl, hm, hc⟩ := h.open'
  unfold sizeInos at hs
  exact l5Links_walk w a _ cap ds v (by omega) rfl (by omega) hc

end Go.Proofs.Ytlacppjlclfpmaa

namespace Go.Proofs.Ytlacppjlclfpmaa
open Go.RowKit
set_option maxRecDepth 100000

/-- How many entries have to name an inode. -/
def wantL (ds : List ID) (i : Nat) : Int := if kindAt ds i = 1 then (ds[i]?.getD id0).2.1 else if i = 0 then 0 else 1
def lnkOK (ds : List ID) (i : Nat) : Bool := decide (kindAt ds i = 0) || (decide ((((allE ds).count (i : Int) : Nat) : Int) = wantL ds i) && reachG ds ds.length i)
def linksB (ds : List ID) : Bool := (List.range ds.length).all (lnkOK ds)
theorem linksB_no {ds : List ID} {i : Nat} (hi : i < ds.length) (h : lnkOK ds i = false) : linksB ds = false := by
  unfold linksB
  rw [List.all_eq_false]
  exact ⟨i, by simpa using hi, by simp [h]⟩
theorem linksB_yes {ds : List ID} (h : ∀ i, i < ds.length → lnkOK ds i = true) : linksB ds = true := by
  unfold linksB
  rw [List.all_eq_true]
  intro i hi
  exact h i (by simpa using hi)
theorem selL_contains (p : Nat → Bool) {n i : Nat} (hi : i < n) : (selL p n).contains (i : Int) = p i := by
  cases hp : p i with
  | true =>
    rw [List.contains_iff_mem]
    unfold selL
    rw [List.mem_map]
    exact ⟨i, List.mem_filter.2 ⟨by simpa using hi, hp⟩, rfl⟩
  | false =>
    rw [Bool.eq_false_iff]
    intro hc
    rw [List.contains_iff_mem] at hc
    unfold selL at hc
    rw [List.mem_map] at hc
    obtain ⟨k, hk, e⟩ := hc
    have : k = i := by omega
    subst this
    rw [(List.mem_filter.1 hk).2] at hp
    cases hp

set_option maxHeartbeats 6400000 in
theorem l6Links_any (w : World) (b o : Nat) (d : FD) (aI : Option Addr) (cI : Nat) (aD : Option Addr) (cD : Nat) (h : FsX w b o d aI cI aD cD) (hs : sizeInos d.1 ≤ 1048576) (hn0 : ¬ d.1.length = 0) (hn : d.1.length ≤ 10)
    (hx : ∀ j, j < d.1.length → ∀ k, k < (d.1[j]?.getD id0).2.2.2.2.length → 0 ≤ ((d.1[j]?.getD id0).2.2.2.2[k]?.getD en0).2 ∧ ((d.1[j]?.getD id0).2.2.2.2[k]?.getD en0).2 < (d.1.length : Int)) :
    Calls Try.prog 60 #[.pointer (some ⟨b, o, none⟩)] w fun e w' => e = .returned (.bool (linksB d.1)) ∧ Below w.heap.size w w' := by
  have HRE : Hid (Calls Try.prog 88 #[.pointer (some ⟨b, o, none⟩)] w fun e w' => ∃ a c n₀, e = .returned (.slice a (selL (reachG d.1 d.1.length) d.1.length).length c) ∧ Below w.heap.size w w' ∧ w.heap.size ≤ n₀ ∧ Wds w' n₀ (.slice a (selL (reachG d.1 d.1.length) d.1.length).length c) (selL (reachG d.1 d.1.length) d.1.length)) := l6Reach_any w b o d aI cI aD cD h hn0 hn hx
  have HX : Hid (FsX w b o d aI cI aD cD) := h
  have HAM : Hid (∀ i : Nat, i < d.1.length → (selL (reachG d.1 d.1.length) d.1.length).contains (i : Int) = reachG d.1 d.1.length i) := fun i hi => selL_contains _ hi
  clear h hx
  generalize selL (reachG d.1 d.1.length) d.1.length = zs at *
  go_enter Try.func60, Try.ntmps60
  go_wp2_with fail
  refine HRE.out.mono ?_
  rintro e w1 ⟨ar, cr, n₀, rfl, hb1, hn1, hwd⟩
  have HB1 : Hid (Below w.heap.size w w1) := hb1
  have hX1 := HX.out.later hb1
  have HIN : Hid (Ints w1 (.slice ar zs.length cr) zs) := (hwd.own' hn1).reads
  have HAMO : Hid (∀ (m i : Nat), Calls Try.prog 71 #[.slice ar zs.length cr, .int .i64 (i : Int)] (w1.drewN m) fun e w' => e = .returned (.bool (zs.contains (i : Int))) ∧ ∃ m', w' = (w1.drewN m).drewN m') := fun m i => l5Among_any (HIN.out.drewN m) _
  have HLN : Hid (∀ (m i : Nat), Calls Try.prog 89 #[.slice aI d.1.length cI, .int .i64 (i : Int)] (w1.drewN m) fun e w' => e = .returned (.int .i64 (((allE d.1).count (i : Int) : Nat) : Int)) ∧ ∃ m', w' = (w1.drewN m).drewN m') := fun m i => l5Links_any (hX1.ins.later (below_drewN (Below.refl _ _) m)) hs _
  obtain ⟨_, _, e1, hm1, hAt⟩ := hX1.ins.open'
  simp only [Value.slice.injEq] at e1
  obtain ⟨rfl, -, rfl⟩ := e1
  have HAT : Hid (AtI w1 aI d.1.length d.1) := hAt
  have c0 := hX1.c0
  have HCL : Hid (∀ i, (allE d.1).count (i : Int) ≤ 1048576) := fun i => by
    have h1 := List.count_le_length (a := i) (l := allE d.1)
    have h2 := allE_len d.1
    unfold sizeInos at hs
    omega
  clear hb1 hwd HRE HX hX1 hAt hm1 hs
  obtain ⟨n, hnn⟩ : ∃ n, d.1.length = n := ⟨_, rfl⟩
  have HN : Hid (d.1.length = n) := hnn
  have HOK : Hid (∀ i : Nat, i < n → lnkOK d.1 i = (decide (kindAt d.1 i = 0) || (decide ((((allE d.1).count (i : Int) : Nat) : Int) = wantL d.1 i) && zs.contains (i : Int)))) := fun i hi => by
    rw [HAM.out i (by rw [hnn]; exact hi)]; rfl
  rw [hnn] at HLN HAT c0 hn0 hn
  clear hnn HAM
  generalize zs.length = nz at *
  go_wp2
  go_loopw [4] (fun i wr => ∃ j m : Nat, j ≤ n ∧ i = .int .i64 j ∧ wr = w1.drewN m ∧ ∀ k, k < j → lnkOK d.1 k = true) (fun i _ => n - (intOf i).toNat)
  case atStart => exact ⟨0, 0, Nat.zero_le _, rfl, rfl, fun k hk => by omega⟩
  case round =>
    obtain ⟨j, m, hj, rfl, rfl, hz⟩ := hrel
    have HZ : Hid (∀ k, k < j → lnkOK d.1 k = true) := hz
    clear hz
    by_cases hlt : j < n
    · obtain ⟨b0, o0, rfl, hI⟩ := HAT.out j hlt
      obtain ⟨_, _, _, _, k0, k1, _⟩ := hI
      have HL := HLN.out m j
      have HA := fun q => HAMO.out q j
      have hcl := HCL.out (j : Int)
      have HY : Hid (lnkOK d.1 j = true → ∀ k, k < j + 1 → lnkOK d.1 k = true) := fun hh k hk => by
        by_cases e : k = j
        · subst e; exact hh
        · exact HZ.out k (by omega)
      have HNO : Hid (lnkOK d.1 j = false → linksB d.1 = false) := fun hh => linksB_no (by rw [HN.out]; exact hlt) hh
      have HO : Hid (lnkOK d.1 j = (decide (kindAt d.1 j = 0) || (decide ((((allE d.1).count (j : Int) : Nat) : Int) = wantL d.1 j) && zs.contains (j : Int)))) := HOK.out j hlt
      have HW : Hid (wantL d.1 j = if (d.1[j]?.getD id0).1 = 1 then (d.1[j]?.getD id0).2.1 else if j = 0 then 0 else 1) := rfl
      have HK : Hid (kindAt d.1 j = (d.1[j]?.getD id0).1) := rfl
      have HL' : Hid (Calls Try.prog 89 _ _ _) := HL
      have HA' : Hid (∀ q, Calls Try.prog 71 _ (w1.drewN q) _) := HA
      clear HL HA
      generalize (d.1[j]?.getD id0).1 = kd at *
      generalize (d.1[j]?.getD id0).2.1 = lk at *
      generalize (allE d.1).count (j : Int) = cn at *
      generalize zs.contains (j : Int) = am at *
      by_cases hk0 : kd = 0
      · have hb0 : (kd == 0) = true := by simpa using hk0
        have HR : Hid (∀ k, k < j + 1 → lnkOK d.1 k = true) := HY.out (by rw [HO.out, HK.out]; simp [hk0])
        clear hk0 HO HW HK HY HNO
        go_wp2_with fail
        refine HL'.out.mono ?_
        rintro e w2 ⟨rfl, m', rfl⟩
        go_wp2
        go_roundw
        case rel => exact ⟨j + 1, _, by omega, by go_num, by first | rfl | rw [World.drewN_drewN], HR.out⟩
        case measure => simp [intOf]; omega
      · have hb0 : (kd == 0) = false := by simpa using hk0
        have HO2 : Hid (lnkOK d.1 j = (decide (((cn : Nat) : Int) = wantL d.1 j) && am)) := by unfold Hid; rw [HO.out, HK.out]; simp [hk0]
        clear hk0 HO HK
        by_cases hk1 : kd = 1
        · have hb1 : (kd == 1) = true := by simpa using hk1
          have HW2 : Hid (wantL d.1 j = lk) := by unfold Hid; rw [HW.out, if_pos hk1]
          clear hk1 HW
          have HW := HW2
          clear HW2
          by_cases hcw : ((cn : Nat) : Int) = lk
          rotate_left
          · have hbc : (((cn : Nat) : Int) != lk) = true := by simpa using hcw
            have HR : Hid (linksB d.1 = false) := HNO.out (by rw [HO2.out, HW.out, decide_eq_false hcw]; rfl)
            clear hcw HO2 HW HY HNO HA'
            go_wp2_with fail
            refine HL'.out.mono ?_
            rintro e w2 ⟨rfl, m', rfl⟩
            go_wp2
            go_ret
            exact ⟨ret_bool HR.out.symm, by first | exact below_drewN HB1.out _ | exact below_drewN (below_drewN HB1.out _) _⟩
          · have hbc : (((cn : Nat) : Int) != lk) = false := by simpa using hcw
            have HO3 : Hid (lnkOK d.1 j = am) := by unfold Hid; rw [HO2.out, HW.out, decide_eq_true hcw]; simp
            clear hcw HO2 HW
            cases am with
            | true =>
              have HR : Hid (∀ k, k < j + 1 → lnkOK d.1 k = true) := HY.out HO3.out
              clear HO3 HY HNO
              go_wp2_with fail
              refine HL'.out.mono ?_
              rintro e w2 ⟨rfl, m', rfl⟩
              rw [World.drewN_drewN]
              go_wp2_with fail
              refine (HA'.out _).mono ?_
              rintro e w3 ⟨rfl, m3, rfl⟩
              go_wp2
              go_roundw
              case rel => exact ⟨j + 1, _, by omega, by go_num, by first | rfl | rw [World.drewN_drewN], HR.out⟩
              case measure => simp [intOf]; omega
            | false =>
              have HR : Hid (linksB d.1 = false) := HNO.out HO3.out
              clear HO3 HY HNO
              go_wp2_with fail
              refine HL'.out.mono ?_
              rintro e w2 ⟨rfl, m', rfl⟩
              rw [World.drewN_drewN]
              go_wp2_with fail
              refine (HA'.out _).mono ?_
              rintro e w3 ⟨rfl, m3, rfl⟩
              go_wp2
              go_ret
              exact ⟨ret_bool HR.out.symm, by first | exact below_drewN HB1.out _ | exact below_drewN (below_drewN HB1.out _) _⟩
        · have hb1 : (kd == 1) = false := by simpa using hk1
          by_cases hj0 : j = 0
          · have hbj : ((j : Int) == 0) = true := by simp [hj0]
            have HW2 : Hid (wantL d.1 j = 0) := by unfold Hid; rw [HW.out, if_neg hk1, if_pos hj0]
            clear hk1 HW hj0
            have HW := HW2
            clear HW2
            by_cases hcw : ((cn : Nat) : Int) = 0
            rotate_left
            · have hbc : (((cn : Nat) : Int) != 0) = true := by simpa using hcw
              have HR : Hid (linksB d.1 = false) := HNO.out (by rw [HO2.out, HW.out, decide_eq_false hcw]; rfl)
              clear hcw HO2 HW HY HNO HA'
              go_wp2_with fail
              refine HL'.out.mono ?_
              rintro e w2 ⟨rfl, m', rfl⟩
              go_wp2
              go_ret
              exact ⟨ret_bool HR.out.symm, by first | exact below_drewN HB1.out _ | exact below_drewN (below_drewN HB1.out _) _⟩
            · have hbc : (((cn : Nat) : Int) != 0) = false := by simpa using hcw
              have HO3 : Hid (lnkOK d.1 j = am) := by unfold Hid; rw [HO2.out, HW.out, decide_eq_true hcw]; simp
              clear hcw HO2 HW
              cases am with
              | true =>
                have HR : Hid (∀ k, k < j + 1 → lnkOK d.1 k = true) := HY.out HO3.out
                clear HO3 HY HNO
                go_wp2_with fail
                refine HL'.out.mono ?_
                rintro e w2 ⟨rfl, m', rfl⟩
                rw [World.drewN_drewN]
                go_wp2_with fail
                refine (HA'.out _).mono ?_
                rintro e w3 ⟨rfl, m3, rfl⟩
                go_wp2
                go_roundw
                case rel => exact ⟨j + 1, _, by omega, by go_num, by first | rfl | rw [World.drewN_drewN], HR.out⟩
                case measure => simp [intOf]; omega
              | false =>
                have HR : Hid (linksB d.1 = false) := HNO.out HO3.out
                clear HO3 HY HNO
                go_wp2_with fail
                refine HL'.out.mono ?_
                rintro e w2 ⟨rfl, m', rfl⟩
                rw [World.drewN_drewN]
                go_wp2_with fail
                refine (HA'.out _).mono ?_
                rintro e w3 ⟨rfl, m3, rfl⟩
                go_wp2
                go_ret
                exact ⟨ret_bool HR.out.symm, by first | exact below_drewN HB1.out _ | exact below_drewN (below_drewN HB1.out _) _⟩
          · have hbj : ((j : Int) == 0) = false := by simp; omega
            have HW2 : Hid (wantL d.1 j = 1) := by unfold Hid; rw [HW.out, if_neg hk1, if_neg hj0]
            clear hk1 HW hj0
            have HW := HW2
            clear HW2
            by_cases hcw : ((cn : Nat) : Int) = 1
            rotate_left
            · have hbc : (((cn : Nat) : Int) != 1) = true := by simpa using hcw
              have HR : Hid (linksB d.1 = false) := HNO.out (by rw [HO2.out, HW.out, decide_eq_false hcw]; rfl)
              clear hcw HO2 HW HY HNO HA'
              go_wp2_with fail
              refine HL'.out.mono ?_
              rintro e w2 ⟨rfl, m', rfl⟩
              go_wp2
              go_ret
              exact ⟨ret_bool HR.out.symm, by first | exact below_drewN HB1.out _ | exact below_drewN (below_drewN HB1.out _) _⟩
            · have hbc : (((cn : Nat) : Int) != 1) = false := by simpa using hcw
              have HO3 : Hid (lnkOK d.1 j = am) := by unfold Hid; rw [HO2.out, HW.out, decide_eq_true hcw]; simp
              clear hcw HO2 HW
              cases am with
              | true =>
                have HR : Hid (∀ k, k < j + 1 → lnkOK d.1 k = true) := HY.out HO3.out
                clear HO3 HY HNO
                go_wp2_with fail
                refine HL'.out.mono ?_
                rintro e w2 ⟨rfl, m', rfl⟩
                rw [World.drewN_drewN]
                go_wp2_with fail
                refine (HA'.out _).mono ?_
                rintro e w3 ⟨rfl, m3, rfl⟩
                go_wp2
                go_roundw
                case rel => exact ⟨j + 1, _, by omega, by go_num, by first | rfl | rw [World.drewN_drewN], HR.out⟩
                case measure => simp [intOf]; omega
              | false =>
                have HR : Hid (linksB d.1 = false) := HNO.out HO3.out
                clear HO3 HY HNO
                go_wp2_with fail
                refine HL'.out.mono ?_
                rintro e w2 ⟨rfl, m', rfl⟩
                rw [World.drewN_drewN]
                go_wp2_with fail
                refine (HA'.out _).mono ?_
                rintro e w3 ⟨rfl, m3, rfl⟩
                go_wp2
                go_ret
                exact ⟨ret_bool HR.out.symm, by first | exact below_drewN HB1.out _ | exact below_drewN (below_drewN HB1.out _) _⟩
    · have HR : Hid (linksB d.1 = true) := linksB_yes fun i hi => HZ.out i (by rw [HN.out] at hi; omega)
      go_wp2
      go_ret
      exact ⟨ret_bool HR.out.symm, below_drewN HB1.out m⟩
end Go.Proofs.Ytlacppjlclfpmaa

namespace Go.Proofs.Ytlacppjlclfpmaa
open Go.RowKit
set_option maxRecDepth 100000

theorem AnsIR.gen {w w2 : World} {r : Int} {a : Option Addr} {n c : Nat} {zs : List Int} (hb : Below w.heap.size w w2) (ho : IntsO w2 (.slice a n c) zs (fun b => w.heap.size + 1 ≤ b ∧ b < w2.heap.size)) (x y : Value) :
    AnsIR w (r, zs) (.returned (.agg #[.int .i64 r, .slice a n c])) ((w2.setCell ⟨w.heap.size, 0, none⟩ x).setCell ⟨w.heap.size, 1, none⟩ y) := by
  refine ⟨_, _, _, rfl, (hb.setCell (by simp) _).setCell (by simp) _, (ho.keep fun b hb hlt => ?_).mono fun b hb => ⟨by omega, by simp only [World.setCell, Array.size_modify]; exact hb.2⟩⟩
  rw [Below.heap_setCell _ _ _ _ (by simp; omega), Below.heap_setCell _ _ _ _ (by simp; omega)]
theorem AnsIR.later {w w2 w3 : World} {r : Int × List Int} {e : Ending} (h : AnsIR w r e w2) (hb : Below w2.heap.size w2 w3) : AnsIR w r e w3 := by
  obtain ⟨a, n, c, h1, h2, h3⟩ := h
  exact ⟨a, n, c, h1, h2.trans (hb.mono h2.size), (h3.keep fun b _ hlt => hb.block b hlt).mono fun b hh => ⟨hh.1, Nat.lt_of_lt_of_le hh.2 hb.size⟩⟩

end Go.Proofs.Ytlacppjlclfpmaa

namespace Go.Proofs.Ytlacppjlclfpmaa
open Go.RowKit
set_option maxRecDepth 100000

/-- Where the marks of inode j begin. -/
def inum (k : Nat) (ds : List ID) (j : Nat) : Nat := k + upto (isp ds) j
/-- What stands of a list of inodes of which the first j are marked. -/
structure HalfI (w : World) (b n j : Nat) (ds : List ID) (u : Nat → Value × Value) (F1 G1 : Nat → Nat → Prop) : Prop where
  row : ∃ f, OwnRow w b (n * 5) f ∧ (∀ i, i < n → f (i * 5 + 3) = (u i).1 ∧ f (i * 5 + 4) = (u i).2) ∧ ∀ i, i < n → ∀ q, q < 3 → ∃ z, f (i * 5 + q) = .int .i64 z
  ints : ∀ i, j ≤ i → i < n → IntsO w (u i).1 (ds[i]?.getD id0).2.2.2.1 (F1 i)
  ents : ∀ i, j ≤ i → i < n → EntsO w (u i).2 (ds[i]?.getD id0).2.2.2.2 (G1 i)
theorem HalfI.row_set {w : World} {b n j q : Nat} {ds : List ID} {u : Nat → Value × Value} {F1 G1 : Nat → Nat → Prop} (h : HalfI w b n j ds u F1 G1) (i : Nat) (hq : q < 3) (z : Int) (hF : ∀ i, ¬ F1 i b) (hG : ∀ i, ¬ G1 i b) : HalfI (w.setCell ⟨b, i * 5 + q, none⟩ (.int .i64 z)) b n j ds u F1 G1 := by
  obtain ⟨f, hr, h1, h2⟩ := h.row
  refine ⟨⟨_, hr.set (i * 5 + q) (.int .i64 z), fun k hk => ?_, fun k hk p hp => ?_⟩, fun k hj hk => (h.ints k hj hk).keep fun c hc _ => Below.heap_setCell _ _ _ _ (fun e => hF k (by have e' : c = b := e; rwa [e'] at hc)), fun k hj hk => (h.ents k hj hk).keep fun c hc _ => Below.heap_setCell _ _ _ _ (fun e => hG k (by have e' : c = b := e; rwa [e'] at hc))⟩
  · rw [if_neg (by omega), if_neg (by omega)]
    exact h1 k hk
  · by_cases e : k * 5 + p = i * 5 + q
    · exact ⟨z, by rw [if_pos e]⟩
    · rw [if_neg e]; exact h2 k hk p hp

set_option maxHeartbeats 6400000 in
theorem markInos_walk (w : World) (b cap n k : Nat) (F : Nat → Prop) (ds : List ID) (u : Nat → Value × Value) (F1 G1 : Nat → Nat → Prop) (hF : F b) (hFF : ∀ i c, F1 i c → F c ∧ c ≠ b) (hGF : ∀ i c, G1 i c → F c ∧ c ≠ b) (hFG : ∀ i j c, F1 i c → ¬ G1 j c) (hFd : ∀ i j c, i ≠ j → F1 i c → ¬ F1 j c) (hGd : ∀ i j c, i ≠ j → G1 i c → ¬ G1 j c)
    (hn : ds.length = n) (hk0 : 1 ≤ k) (hk : k + spanInos ds ≤ 4294967296) (hn2 : n ≤ 9223372036854775807) (h0 : HalfI w b n 0 ds u F1 G1) :
    Calls Try.prog 46 #[.slice (some ⟨b, 0, none⟩) n cap, .int .i64 (k : Int)] w fun e w' => e = .returned (.int .i64 ((k + spanInos ds : Nat) : Int)) ∧ Chg F w w' := by
  have H0 : Hid (HalfI w b n 0 ds u F1 G1) := h0
  have HF : Hid (F b) := hF
  have HFF : Hid (∀ i c, F1 i c → F c ∧ c ≠ b) := hFF
  have HGF : Hid (∀ i c, G1 i c → F c ∧ c ≠ b) := hGF
  have HFG : Hid (∀ i j c, F1 i c → ¬ G1 j c) := hFG
  have HFD : Hid (∀ i j c, i ≠ j → F1 i c → ¬ F1 j c) := hFd
  have HGD : Hid (∀ i j c, i ≠ j → G1 i c → ¬ G1 j c) := hGd
  have HN : Hid (ds.length = n) := hn
  have HE : Hid (inum k ds n = k + spanInos ds) := by
    have := upto_all (isp ds)
    rw [isp_length, hn] at this
    unfold Hid inum spanInos
    rw [this]
  have HBD : Hid (∀ j, j < n → inum k ds j + 3 + (ds[j]?.getD id0).2.2.2.1.length + 2 * (ds[j]?.getD id0).2.2.2.2.length = inum k ds (j + 1) ∧ inum k ds (j + 1) ≤ 4294967296) := fun j hj => by
    have h1 := upto_succ (isp ds) j (by rw [isp_length]; omega)
    rw [isp_get ds j (by omega)] at h1
    have h2 := upto_le (isp ds) (j + 1)
    have h3 : spanIno (ds[j]?.getD id0) = (ds[j]?.getD id0).2.2.2.1.length + 2 * (ds[j]?.getD id0).2.2.2.2.length := rfl
    have h4 : spanInos ds = (isp ds).sum := rfl
    unfold inum
    omega
  have HI0 : Hid (inum k ds 0 = k) := by unfold Hid inum; rw [upto_zero, Nat.add_zero]
  have HK1 : Hid (∀ j, 1 ≤ inum k ds j) := fun j => by unfold inum; omega
  rw [← HE.out]
  clear h0 hF hFF hGF hFG hFd hGd hn hk HE
  generalize inum k ds = N at *
  go_enter Try.func46, Try.ntmps46
  go_wp2
  go_loopw [1, 5] (fun q i wr => ∃ j : Nat, j ≤ n ∧ i = .int .i64 j ∧ q = .int .i64 ((N j : Nat) : Int) ∧ HalfI wr b n j ds u F1 G1 ∧ Chg F w wr) (fun _ i _ => n - (intOf i).toNat)
  case atStart => exact ⟨0, Nat.zero_le _, rfl, by rw [HI0.out], H0.out, Chg.refl _ _⟩
  case round =>
    obtain ⟨j, hj, rfl, rfl, hh, hch⟩ := hrel
    have HH : Hid (HalfI wr b n j ds u F1 G1) := hh
    have HCH : Hid (Chg F w wr) := hch
    clear hh hch H0
    by_cases hlt : j < n
    · obtain ⟨hs, hle⟩ := HBD.out j hlt
      have hN1 := HK1.out j
      have hNb : N j + 3 ≤ 4294967296 := by omega
      have HSN : Hid (N j + 3 + (ds[j]?.getD id0).2.2.2.1.length + 2 * (ds[j]?.getD id0).2.2.2.2.length = N (j + 1)) := hs
      obtain ⟨f, hr, hu, hz⟩ := HH.out.row
      obtain ⟨z0, e0⟩ := hz j hlt 0 (by omega)
      obtain ⟨z1, e1⟩ := hz j hlt 1 (by omega)
      obtain ⟨z2, e2⟩ := hz j hlt 2 (by omega)
      have c0 : wr.cell? ⟨b, j * 5, none⟩ = some (.int .i64 z0) := by rw [hr.cell (by omega)]; exact congrArg some e0
      have c1 : wr.cell? ⟨b, j * 5 + 1, none⟩ = some (.int .i64 z1) := by rw [hr.cell (by omega), e1]
      have c2 : wr.cell? ⟨b, j * 5 + 2, none⟩ = some (.int .i64 z2) := by rw [hr.cell (by omega), e2]
      have c3 : wr.cell? ⟨b, j * 5 + 3, none⟩ = some (u j).1 := by rw [hr.cell (by omega), (hu j hlt).1]
      have c4 : wr.cell? ⟨b, j * 5 + 4, none⟩ = some (u j).2 := by rw [hr.cell (by omega), (hu j hlt).2]
      have f0 := hr.frozen (j * 5)
      have f1 := hr.frozen (j * 5 + 1)
      have f2 := hr.frozen (j * 5 + 2)
      have hbw := hr.lt
      clear hr hu hz e0 e1 e2 f
      have nF : ∀ i, ¬ F1 i b := fun i h => (HFF.out i b h).2 rfl
      have nG : ∀ i, ¬ G1 i b := fun i h => (HGF.out i b h).2 rfl
      have HH3 : Hid (HalfI (((wr.setCell ⟨b, j * 5, none⟩ (.int .i64 ((N j : Nat) : Int))).setCell ⟨b, j * 5 + 1, none⟩ (.int .i64 (((N j : Nat) : Int) + 1))).setCell ⟨b, j * 5 + 2, none⟩ (.int .i64 (((N j : Nat) : Int) + 1 + 1))) b n j ds u F1 G1) :=
        ((HH.out.row_set (q := 0) j (by omega) _ nF nG).row_set (q := 1) j (by omega) _ nF nG).row_set (q := 2) j (by omega) _ nF nG
      have HCH3 : Hid (Chg F w (((wr.setCell ⟨b, j * 5, none⟩ (.int .i64 ((N j : Nat) : Int))).setCell ⟨b, j * 5 + 1, none⟩ (.int .i64 (((N j : Nat) : Int) + 1))).setCell ⟨b, j * 5 + 2, none⟩ (.int .i64 (((N j : Nat) : Int) + 1 + 1)))) := ((HCH.out.set HF.out _ _).set HF.out _ _).set HF.out _ _
      have HIJ := HH3.out.ints j (Nat.le_refl _) hlt
      have HEJ := HH3.out.ents j (Nat.le_refl _) hlt
      obtain ⟨aB, cB, eB, _⟩ := HIJ.ints.shape
      obtain ⟨aE, cE, eE, _⟩ := HEJ.reads.open'
      rw [eB] at c3 HIJ
      rw [eE] at c4 HEJ
      have HEE : Hid ((u j).2 = .slice aE (ds[j]?.getD id0).2.2.2.2.length cE) := eE
      have HIJ' : Hid (IntsO _ (.slice aB (ds[j]?.getD id0).2.2.2.1.length cB) (ds[j]?.getD id0).2.2.2.1 (F1 j)) := HIJ
      clear HIJ HEJ eB eE nF nG hs
      go_wp2_with fail
      clear c0 c1 c2 c3 c4 f0 f1 f2
      refine (markInts_any (((N j : Nat) : Int) + 1 + 1 + 1) HIJ'.out (by omega) (by have := HSN.out; omega)).mono ?_
      rintro e w1 ⟨rfl, -, hc1⟩
      obtain ⟨q, hq⟩ : ∃ q : Nat, ((N j : Nat) : Int) + 1 + 1 + 1 + ((ds[j]?.getD id0).2.2.2.1.length : Nat) = (q : Int) := ⟨N j + 3 + (ds[j]?.getD id0).2.2.2.1.length, by omega⟩
      rw [hq]
      have hqn : q + 2 * (ds[j]?.getD id0).2.2.2.2.length = N (j + 1) := by have := HSN.out; omega
      have HQN : Hid (((q + 2 * (ds[j]?.getD id0).2.2.2.2.length : Nat) : Int) = ((N (j + 1) : Nat) : Int)) := by unfold Hid; rw [hqn]
      have hq1 : 1 ≤ q := by omega
      have hH1 : HalfI w1 b n (j + 1) ds u F1 G1 := ⟨by
        obtain ⟨f, hr, h1, h2⟩ := HH3.out.row
        exact ⟨f, hr.block (hc1.block b hr.lt (fun h => (HFF.out j b h).2 rfl)), h1, h2⟩, fun i hi hin => (HH3.out.ints i (by omega) hin).keep fun c hc hl => hc1.block c hl (HFD.out i j c (by omega) hc), fun i hi hin => (HH3.out.ents i (by omega) hin).keep fun c hc hl => hc1.block c hl (fun h => HFG.out j i c h hc)⟩
      have HEJ1 : Hid (EntsO w1 (.slice aE (ds[j]?.getD id0).2.2.2.2.length cE) (ds[j]?.getD id0).2.2.2.2 (G1 j)) := by
        have := (HH3.out.ents j (Nat.le_refl _) hlt).keep (w' := w1) fun c hc hl => hc1.block c hl (fun h => HFG.out j j c h hc)
        rw [HEE.out] at this
        exact this
      obtain ⟨f, hr, hu, hz⟩ := hH1.row
      have c4 : w1.cell? ⟨b, j * 5 + 4, none⟩ = some (.slice aE (ds[j]?.getD id0).2.2.2.2.length cE) := by rw [hr.cell (by omega), (hu j hlt).2, HEE.out]
      have HH1 : Hid (HalfI w1 b n (j + 1) ds u F1 G1) := hH1
      have HCH1 : Hid (Chg F w w1) := HCH3.out.trans (hc1.mono fun c hc => (HFF.out j c hc).1)
      clear hz hc1 hH1 hr hu f HH3 HCH3 HIJ' hq
      go_wp2_with fail
      refine (markEntsU q HEJ1.out hq1 (by omega)).mono ?_
      rintro e w2 ⟨rfl, -, hc2⟩
      rw [HQN.out]
      have HH2 : Hid (HalfI w2 b n (j + 1) ds u F1 G1) := ⟨by
        obtain ⟨f, hr, h1, h2⟩ := HH1.out.row
        exact ⟨f, hr.block (hc2.block b hr.lt (fun h => (HGF.out j b h).2 rfl)), h1, h2⟩, fun i hi hin => (HH1.out.ints i hi hin).keep fun c hc hl => hc2.block c hl (fun h => HFG.out i j c hc h), fun i hi hin => (HH1.out.ents i hi hin).keep fun c hc hl => hc2.block c hl (HGD.out i j c (by omega) hc)⟩
      have HCH2 : Hid (Chg F w w2) := HCH1.out.trans (hc2.mono fun c hc => (HGF.out j c hc).1)
      clear hc2 c4 HH1 HCH1 HEJ1
      go_wp2
      go_roundw
      case rel => exact ⟨j + 1, by omega, by go_num, rfl, HH2.out, HCH2.out⟩
      case measure => simp [intOf]; omega
    · have HJ : Hid (N j = N n) := by unfold Hid; rw [show j = n by omega]
      go_wp2
      go_ret
      exact ⟨ret_int (by rw [HJ.out]), HCH.out⟩

set_option maxHeartbeats 800000 in
theorem markInos_nil (w : World) (a : Option Addr) (cap : Nat) (k : Int) :
    Calls Try.prog 46 #[.slice a 0 cap, .int .i64 k] w fun e w' => e = .returned (.int .i64 k) ∧ w' = w := by
  go_enter Try.func46, Try.ntmps46
  go_wp2
  go_loop [1, 5] (fun q i => i = .int .i64 0 ∧ q = .int .i64 k) (fun _ _ => 0)
  case atStart => exact ⟨rfl, rfl⟩
  case round =>
    obtain ⟨rfl, rfl⟩ := hrel
    go_wp2
    go_ret
    exact ⟨rfl, rfl⟩

theorem choose_fg {n : Nat} {P : Nat → (Nat → Prop) → (Nat → Prop) → Prop} (h : ∀ i, i < n → ∃ F G, P i F G) : ∃ (F G : Nat → Nat → Prop), ∀ i, i < n → P i (F i) (G i) := by
  have h' : ∀ i, ∃ FG : (Nat → Prop) × (Nat → Prop), i < n → P i FG.1 FG.2 := fun i => by
    by_cases hi : i < n
    · obtain ⟨F, G, hp⟩ := h i hi
      exact ⟨(F, G), fun _ => hp⟩
    · exact ⟨(fun _ => False, fun _ => False), fun h => absurd h hi⟩
  exact ⟨fun i => (Classical.choose (h' i)).1, fun i => (Classical.choose (h' i)).2, fun i hi => Classical.choose_spec (h' i) hi⟩

theorem markInosU {w : World} {v : Value} {ds : List ID} {F : Nat → Prop} (k : Int) (h : InosO w v ds F) (hk0 : 1 ≤ k) (hk : k + (spanInos ds : Nat) ≤ 4294967296) :
    Calls Try.prog 46 #[v, .int .i64 k] w fun e w' => e = .returned (.int .i64 (k + (spanInos ds : Nat))) ∧ Chg F w w' := by
  rcases h with ⟨rfl, a, cap, rfl⟩ | ⟨b, cap, u, G, hF, hG, hGG, rfl, hl, hr, hu⟩
  · exact (markInos_nil w a cap k).mono fun e w' ⟨he, hw⟩ => ⟨by rw [he]; simp [spanInos, isp], hw ▸ Chg.refl _ _⟩
  · obtain ⟨q, rfl⟩ := Int.eq_ofNat_of_zero_le (a := k) (by omega)
    obtain ⟨F1, G1, hfg⟩ := choose_fg (fun i hi => (hu i hi).2)
    have hm : ds.length ≤ 9223372036854775807 := by have := hl.1; unfold maxLen at this; omega
    have := markInos_walk w b cap ds.length q F ds u (fun i c => i < ds.length ∧ F1 i c) (fun i c => i < ds.length ∧ G1 i c) hF (fun i c hc => hG i c ((hfg i hc.1).2.2.2 c (Or.inl hc.2))) (fun i c hc => hG i c ((hfg i hc.1).2.2.2 c (Or.inr hc.2)))
      (fun i j c hc hc' => by
        by_cases e : i = j
        · subst e; exact (hfg i hc.1).2.2.1 c hc.2 hc'.2
        · exact hGG i j c e ((hfg i hc.1).2.2.2 c (Or.inl hc.2)) ((hfg j hc'.1).2.2.2 c (Or.inr hc'.2)))
      (fun i j c e hc hc' => hGG i j c e ((hfg i hc.1).2.2.2 c (Or.inl hc.2)) ((hfg j hc'.1).2.2.2 c (Or.inl hc'.2)))
      (fun i j c e hc hc' => hGG i j c e ((hfg i hc.1).2.2.2 c (Or.inr hc.2)) ((hfg j hc'.1).2.2.2 c (Or.inr hc'.2))) rfl (by omega) (by omega) hm
      ⟨⟨_, hr, fun i _ => ⟨inCell_3 ds u i, inCell_4 ds u i⟩, fun i _ p hp => by
        have : p = 0 ∨ p = 1 ∨ p = 2 := by omega
        rcases this with rfl | rfl | rfl
        · exact ⟨_, inCell_0 ds u i⟩
        · exact ⟨_, inCell_1 ds u i⟩
        · exact ⟨_, inCell_2 ds u i⟩⟩, fun i _ hi => (hfg i hi).1.mono fun c hc => ⟨hi, hc⟩, fun i _ hi => (hfg i hi).2.1.mono fun c hc => ⟨hi, hc⟩⟩
    exact this.mono fun e w' ⟨h1, h2⟩ => ⟨by rw [h1]; congr 2, h2⟩
end Go.Proofs.Ytlacppjlclfpmaa

namespace Go.Proofs.Ytlacppjlclfpmaa
open Go.RowKit
set_option maxRecDepth 100000

set_option maxHeartbeats 3200000 in
theorem implPack_bad (w : World) (z0 z1 z2 : Int) (aB : Option Addr) (nB cB : Nat) (aE : Option Addr) (nE cE : Nat) (d : ID) (h : InoR w (.int .i64 z0) (.int .i64 z1) (.int .i64 z2) (.slice aB nB cB) (.slice aE nE cE) d) (hs : sizeIno d ≤ 1048576) (hf : ¬ inoF d = 0) :
    Calls Try.prog 82 #[.agg #[.int .i64 z0, .int .i64 z1, .int .i64 z2, .slice aB nB cB, .slice aE nE cE]] w (AnsIR w (inoF d, [])) := by
  have HIF : Hid (∀ W, Below w.heap.size w W → Calls Try.prog 100 #[.agg #[.int .i64 z0, .int .i64 z1, .int .i64 z2, .slice aB nB cB, .slice aE nE cE]] W fun e w' => e = .returned (.int .i64 (inoF d)) ∧ Below W.heap.size W w') := fun W hW => implInoU W z0 z1 z2 aB nB cB aE nE cE d (h.later hW) hs
  have HRB : Hid (OwnRow ((w.alloc (.cells #[.int .i64 z0, .int .i64 z1, .int .i64 z2, .slice aB nB cB, .slice aE nE cE] 60)).alloc (.cells #[.int .i64 0, .slice none 0 0] 50)) (w.heap.size + 1) 2 (fun i => if i = 0 then .int .i64 0 else .slice none 0 0)) := by
    have := OwnRow.newS (w.alloc (.cells #[.int .i64 z0, .int .i64 z1, .int .i64 z2, .slice aB nB cB, .slice aE nE cE] 60)) (.int .i64 0) (.slice none 0 0) 50
    simp only [World.size_alloc] at this
    exact this
  have HF : Hid (¬ inoF d = 0) := hf
  clear h hs hf
  generalize inoF d = r at *
  have hr : (r != 0) = true := by simpa using HF.out
  go_enter Try.func82, Try.ntmps82
  go_wp2_with fail
  refine (HIF.out _ (later2 _ _ _)).mono ?_
  rintro e w1 ⟨rfl, hb1⟩
  have HB1 : Hid (Below w.heap.size w w1) := (later2 _ _ _).trans (hb1.mono (by simp; omega))
  have hrow := HRB.out.later hb1
  have t0 := hrow.cell (i := 0) (by omega)
  have t1 := hrow.cell (i := 1) (by omega)
  have s0 := hrow.frozen 0
  have s1 := hrow.frozen 1
  simp at t0 t1
  clear hb1 hrow HRB
  go_wp2
  refine bodyPost_ret (v := .agg #[.int .i64 r, .slice none 0 0]) (by simp [results, Try.results82, go_sem, t0, t1]) rfl ⟨_, _, _, rfl, (HB1.out.setCell (by simp) _).setCell (by simp) _, Or.inl ⟨rfl, _, _, rfl⟩⟩

/-- Block b holds vs and is not frozen. -/
theorem Obx.row {w : World} {b : Nat} {x y : Value} {t : TypeId} (h : Obx w b [x, y] t) : OwnRow w b 2 (fun i => if i = 0 then x else y) := by
  refine ⟨_, _, h, by simp, fun i hi => ?_⟩
  have : i = 0 ∨ i = 1 := by omega
  rcases this with rfl | rfl <;> simp

set_option maxHeartbeats 3200000 in
theorem implPack_flat (w : World) (z0 z1 z2 : Int) (aB : Option Addr) (nB cB : Nat) (aE : Option Addr) (nE cE : Nat) (d : ID) (h : InoR w (.int .i64 z0) (.int .i64 z1) (.int .i64 z2) (.slice aB nB cB) (.slice aE nE cE) d) (hs : sizeIno d ≤ 1048576) (hf : inoF d = 0) (bs : List Int) (hn : nB ≤ 1048576) (hbn : bs.length = nB) (hc : At1 w aB nB (fun k => .int .i64 (bs[k]?.getD 0))) (hk : ¬ z0 = 2) (zs : List Int) (hzs : [z0, z1, z2] ++ bs = zs) :
    Calls Try.prog 82 #[.agg #[.int .i64 z0, .int .i64 z1, .int .i64 z2, .slice aB nB cB, .slice aE nE cE]] w (AnsIR w (0, zs)) := by
  have HZS : Hid ([z0, z1, z2] ++ bs = zs) := hzs
  clear hzs
  have HIF : Hid (∀ W, Below w.heap.size w W → Calls Try.prog 100 #[.agg #[.int .i64 z0, .int .i64 z1, .int .i64 z2, .slice aB nB cB, .slice aE nE cE]] W fun e w' => e = .returned (.int .i64 0) ∧ Below W.heap.size W w') := fun W hW => by rw [← hf]; exact implInoU W z0 z1 z2 aB nB cB aE nE cE d (h.later hW) hs
  have HRB : Hid (Obx ((w.alloc (.cells #[.int .i64 z0, .int .i64 z1, .int .i64 z2, .slice aB nB cB, .slice aE nE cE] 60)).alloc (.cells #[.int .i64 0, .slice none 0 0] 50)) (w.heap.size + 1) [.int .i64 0, .slice none 0 0] 50) := by
    have := Obx.new (w.alloc (.cells #[.int .i64 z0, .int .i64 z1, .int .i64 z2, .slice aB nB cB, .slice aE nE cE] 60)) [.int .i64 0, .slice none 0 0] 50
    simp only [World.size_alloc] at this
    exact this
  have HXB : Hid (Obx ((w.alloc (.cells #[.int .i64 z0, .int .i64 z1, .int .i64 z2, .slice aB nB cB, .slice aE nE cE] 60)).alloc (.cells #[.int .i64 0, .slice none 0 0] 50)) w.heap.size [.int .i64 z0, .int .i64 z1, .int .i64 z2, .slice aB nB cB, .slice aE nE cE] 60) := (Obx.new w [.int .i64 z0, .int .i64 z1, .int .i64 z2, .slice aB nB cB, .slice aE nE cE] 60).keep (KeepT.later (later1 _ _)) (by decide)
  have HC : Hid (At1 w aB nB (fun k => .int .i64 (bs[k]?.getD 0))) := hc
  have hk' : (z0 != 2) = true := by simpa using hk
  clear h hs hf hc hk
  go_enter Try.func82, Try.ntmps82
  go_wp2_with fail
  refine (HIF.out _ (later2 _ _ _)).mono ?_
  rintro e w1 ⟨rfl, hb1⟩
  have HB1 : Hid (Below w.heap.size w w1) := (later2 _ _ _).trans (hb1.mono (by simp; omega))
  have hxb := HXB.out.keep (KeepT.later hb1) (by decide)
  have hrb := HRB.out.keep (KeepT.later hb1) (by decide)
  have hw1s : w.heap.size + 2 ≤ w1.heap.size := by have := hb1.size; simp at this; omega
  have c0 := hxb.bx 0 _ rfl
  have c1 := hxb.bx 1 _ rfl
  have c2 := hxb.bx 2 _ rfl
  have hkl : KeepT w1 (w1.alloc (.cells #[.int .i64 z0, .int .i64 z1, .int .i64 z2] 2)) := KeepT.later (later1 _ _)
  have c0' := (hxb.keep hkl (by decide)).bx 0 _ rfl
  have c3 := (hxb.keep hkl (by decide)).bx 3 _ rfl
  obtain ⟨v1, X1, hr1, hw1, hb2, hk1⟩ := append_first w1 w1 (Below.refl _ _) z0 z1 z2 aB nB cB bs hn hbn (fun k hk => by
    obtain ⟨b, off, e, h⟩ := HC.out k hk
    exact ⟨b, off, e, cell_later HB1.out h⟩)
  have hzl : 0 < zs.length := by rw [← HZS.out]; simp
  rw [HZS.out] at hw1
  have hrb2 := (hrb.keep hk1 (by decide)).row
  have t0 := hrb2.cell (i := 0) (by omega)
  have t1 := hrb2.cell (i := 1) (by omega)
  have s0 := hrb2.frozen 0
  have s1 := hrb2.frozen 1
  simp at t0 t1
  obtain ⟨aV, cV, rfl⟩ := hw1.shape
  have HR : Hid (_ = _) := hr1
  have HB2 : Hid (Below w.heap.size w X1) := HB1.out.trans (hb2.mono HB1.out.size)
  have HI : Hid (IntsO X1 (.slice aV zs.length cV) zs (fun b => w.heap.size + 2 ≤ b ∧ b < X1.heap.size)) := (hw1.own (w0 := w1) hzl (Nat.le_refl _)).mono fun b hb => ⟨by have := hb.1; omega, hb.2⟩
  clear hr1 hw1 hb2 hk1 hrb2 hrb hxb hb1 hkl HRB HXB HC HIF
  go_wp2_with (at_builtin; refine wpList_append_run rfl _ _ 37 rfl _ _ rfl rfl _ _ HR.out ?_)
  refine bodyPost_ret (v := .agg #[.int .i64 0, .slice aV zs.length cV]) (by simp [results, Try.results82, go_sem, t0, t1]) rfl ⟨_, _, _, rfl, (HB2.out.setCell (by simp) _).setCell (by simp) _, (HI.out.keep fun b hb hlt => ?_).mono fun b hb => ⟨by omega, by simp only [World.setCell, Array.size_modify]; exact hb.2⟩⟩
  rw [Below.heap_setCell _ _ _ _ (by simp; omega), Below.heap_setCell _ _ _ _ (by simp; omega)]

set_option maxHeartbeats 12800000 in
theorem implPack_dir (w : World) (z1 z2 : Int) (aB : Option Addr) (nB cB : Nat) (aE : Option Addr) (nE cE : Nat) (d : ID) (h : InoR w (.int .i64 2) (.int .i64 z1) (.int .i64 z2) (.slice aB nB cB) (.slice aE nE cE) d) (hs : sizeIno d ≤ 1048576) (hf : inoF d = 0) (es : List EN) (hen : es.length = nE) (hnE : nE ≤ 1048576) (hsz : (entsW es).length ≤ 4194304) (hce : AtN w aE nE es) (pre zs : List Int) (hpre : [2, z1, z2] ++ [(nE : Int)] = pre) (hzs : pre ++ entsW es = zs) :
    Calls Try.prog 82 #[.agg #[.int .i64 2, .int .i64 z1, .int .i64 z2, .slice aB nB cB, .slice aE nE cE]] w (AnsIR w (0, zs)) := by
  have HZS : Hid (pre ++ entsW es = zs) := hzs
  have HPRE : Hid ([2, z1, z2] ++ [(nE : Int)] = pre) := hpre
  clear hpre hzs
  have HIF : Hid (∀ W, Below w.heap.size w W → Calls Try.prog 100 #[.agg #[.int .i64 2, .int .i64 z1, .int .i64 z2, .slice aB nB cB, .slice aE nE cE]] W fun e w' => e = .returned (.int .i64 0) ∧ Below W.heap.size W w') := fun W hW => by rw [← hf]; exact implInoU W 2 z1 z2 aB nB cB aE nE cE d (h.later hW) hs
  have HRB : Hid (Obx ((w.alloc (.cells #[.int .i64 2, .int .i64 z1, .int .i64 z2, .slice aB nB cB, .slice aE nE cE] 60)).alloc (.cells #[.int .i64 0, .slice none 0 0] 50)) (w.heap.size + 1) [.int .i64 0, .slice none 0 0] 50) := by
    have := Obx.new (w.alloc (.cells #[.int .i64 2, .int .i64 z1, .int .i64 z2, .slice aB nB cB, .slice aE nE cE] 60)) [.int .i64 0, .slice none 0 0] 50
    simp only [World.size_alloc] at this
    exact this
  have HXB : Hid (Obx ((w.alloc (.cells #[.int .i64 2, .int .i64 z1, .int .i64 z2, .slice aB nB cB, .slice aE nE cE] 60)).alloc (.cells #[.int .i64 0, .slice none 0 0] 50)) w.heap.size [.int .i64 2, .int .i64 z1, .int .i64 z2, .slice aB nB cB, .slice aE nE cE] 60) := (Obx.new w [.int .i64 2, .int .i64 z1, .int .i64 z2, .slice aB nB cB, .slice aE nE cE] 60).keep (KeepT.later (later1 _ _)) (by decide)
  have HCE : Hid (AtN w aE nE es) := hce
  have HEN : Hid (es.length = nE) := hen
  have HSZ : Hid ((entsW es).length ≤ 4194304) := hsz
  clear h hs hf hce hen hsz
  go_enter Try.func82, Try.ntmps82
  go_wp2_with fail
  refine (HIF.out _ (later2 _ _ _)).mono ?_
  rintro e w1 ⟨rfl, hb1⟩
  have HB1 : Hid (Below w.heap.size w w1) := (later2 _ _ _).trans (hb1.mono (by simp; omega))
  have hxb := HXB.out.keep (KeepT.later hb1) (by decide)
  have hrb := HRB.out.keep (KeepT.later hb1) (by decide)
  have hw1s : w.heap.size + 2 ≤ w1.heap.size := by have := hb1.size; simp at this; omega
  have c0 := hxb.bx 0 _ rfl
  have c1 := hxb.bx 1 _ rfl
  have c2 := hxb.bx 2 _ rfl
  have hl := Wds.lit w1 w1.heap.size (Nat.le_refl _) [2, z1, z2] #[.int .i64 2, .int .i64 z1, .int .i64 z2] rfl 3 rfl (by omega)
  have hkl : KeepT w1 (w1.alloc (.cells #[.int .i64 2, .int .i64 z1, .int .i64 z2] 2)) := KeepT.later (later1 _ _)
  obtain ⟨v2, X2, hr2, hw2, hb2, hk2⟩ := append_wds (w1.alloc (.cells #[.int .i64 2, .int .i64 z1, .int .i64 z2] 2)) w1.heap.size _ [2, z1, z2] [(nE : Int)] #[.int .i64 (nE : Int)] 1 rfl rfl hl (by simp) (by simp) (by simp) (by omega)
  have c4 := (hxb.keep hkl (by decide)).bx 4 _ rfl
  have c0' := (hxb.keep hkl (by decide)).bx 0 _ rfl
  simp only [World.size_alloc] at hr2
  have HR2 : Hid (_ = _) := hr2
  rw [HPRE.out] at hw2
  have HW2 : Hid (Wds X2 w1.heap.size v2 pre) := hw2
  have HB2 : Hid (Below w1.heap.size w1 X2) := (later1 _ _).trans hb2
  have HO2 : Hid (Obx X2 w.heap.size [.int .i64 2, .int .i64 z1, .int .i64 z2, .slice aB nB cB, .slice aE nE cE] 60) := (hxb.keep hkl (by decide)).keep hk2 (by decide)
  have HQ2 : Hid (Obx X2 (w.heap.size + 1) [.int .i64 0, .slice none 0 0] 50) := (hrb.keep hkl (by decide)).keep hk2 (by decide)
  have c4b := HO2.out.bx 4 _ rfl
  have HL : Hid (pre.length ≤ 1048580) := by unfold Hid; rw [← HPRE.out]; simp
  have HP : Hid (0 < pre.length) := by unfold Hid; rw [← HPRE.out]; simp
  clear hr2 hw2 hb2 hk2 hrb hxb hb1 HRB HXB HIF hl hkl
  go_wp2_with (at_builtin; refine wpList_append_run rfl _ _ 37 rfl _ _ rfl rfl _ _ HR2.out ?_)
  clear c0 c1 c2 c4 c0' c4b HR2
  go_loopw [4, 38] (fun o i wr => ∃ (j : Nat) (v : Value), o = v ∧ j ≤ nE ∧ i = .int .i64 j ∧ Below w1.heap.size w1 wr ∧ Obx wr (w.heap.size + 1) [.int .i64 0, .slice none 0 0] 50 ∧ Wds wr w1.heap.size v (pre ++ entsW (es.take j))) (fun _ i _ => nE - (intOf i).toNat)
  case atStart => exact ⟨0, _, rfl, Nat.zero_le _, rfl, HB2.out, HQ2.out, by simpa [entsW] using HW2.out⟩
  case round =>
    clear HB2 HQ2 HW2
    obtain ⟨j, v, rfl, hj, rfl, hbl, hqx, hwd⟩ := hrel
    have HBL : Hid (Below w1.heap.size w1 wr) := hbl
    have HBW : Hid (Below w.heap.size w wr) := HB1.out.trans (hbl.mono HB1.out.size)
    have HQX : Hid (Obx wr (w.heap.size + 1) [.int .i64 0, .slice none 0 0] 50) := hqx
    have HWD : Hid (Wds wr w1.heap.size _ (pre ++ entsW (es.take j))) := hwd
    obtain ⟨aV, cV, rfl⟩ := hwd.shape
    clear hbl hqx hwd
    by_cases hlt : j < nE
    · obtain ⟨b1, off, rfl, e0, e1⟩ := HCE.out j hlt
      replace e0 := cell_later HBW.out e0
      replace e1 := cell_later HBW.out e1
      have HTK : Hid (entsW (es.take (j + 1)) = entsW (es.take j) ++ entW (es[j]?.getD en0)) := entsW_take es j (by rw [HEN.out]; exact hlt)
      have HUP : Hid ((entsW (es.take j)).length + 2 + (es[j]?.getD en0).1.size ≤ (entsW es).length) := upto_size es j (by rw [HEN.out]; exact hlt)
      have HET : Hid (es[j]?.getD en0 = ((es[j]?.getD en0).1, (es[j]?.getD en0).2)) := rfl
      rw [HET.out] at HTK
      generalize (es[j]?.getD en0).1 = x at *
      generalize (es[j]?.getD en0).2 = y at *
      have hxs : x.size ≤ 4194304 := by have := HUP.out; have := HSZ.out; omega
      obtain ⟨v3, X3, hr3, hw3, hb3, hk3⟩ := append_wds (wr.alloc (.cells #[.string x, .int .i64 y] 109)) w1.heap.size _ (pre ++ entsW (es.take j)) [y, (x.size : Int)] #[.int .i64 y, .int .i64 (x.size : Int)] 2 rfl rfl (HWD.out.later (later1 _ _)) (by simp; have := HBL.out.size; omega) (by simp only [List.length_append]; have := HL.out; have := HUP.out; have := HSZ.out; omega) (by simp only [List.length_append]; have := HP.out; omega) (by omega)
      have hoe := (Obx.new wr [.string x, .int .i64 y] 109).keep hk3 (by decide)
      have hoq := (HQX.out.keep (KeepT.later (later1 wr (.cells #[.string x, .int .i64 y] 109))) (by decide)).keep hk3 (by decide)
      simp only [World.size_alloc] at hr3
      have c5 := hoe.bx 0 _ rfl
      have HR3 : Hid (_ = _) := hr3
      have HW3 : Hid (Wds X3 w1.heap.size v3 (pre ++ entsW (es.take j) ++ [y, (x.size : Int)])) := hw3
      have HB3 : Hid (Below w1.heap.size w1 X3) := (HBL.out.trans ((later1 _ _).mono HBL.out.size)).trans hb3
      have HOE : Hid (Obx X3 wr.heap.size [.string x, .int .i64 y] 109) := hoe
      have HOQ : Hid (Obx X3 (w.heap.size + 1) [.int .i64 0, .slice none 0 0] 50) := hoq
      clear hr3 hw3 hb3 hk3 hoe hoq
      go_wp2_with (at_builtin; refine wpList_append_run rfl _ _ 37 rfl _ _ rfl rfl _ _ HR3.out ?_)
      clear c5 e0 e1 HR3 HWD HQX
      generalize wr.heap.size = eb at *
      go_loopw [4, 53] (fun o i wr2 => ∃ (q : Nat) (v : Value), o = v ∧ q ≤ x.size ∧ i = .int .i64 q ∧ Below w1.heap.size w1 wr2 ∧ Obx wr2 (w.heap.size + 1) [.int .i64 0, .slice none 0 0] 50 ∧ Obx wr2 eb [.string x, .int .i64 y] 109 ∧ Wds wr2 w1.heap.size v (pre ++ entsW (es.take j) ++ [y, (x.size : Int)] ++ nameW x q)) (fun _ i _ => x.size - (intOf i).toNat)
      case atStart => exact ⟨0, _, rfl, Nat.zero_le _, rfl, HB3.out, HOQ.out, HOE.out, by simpa [nameW] using HW3.out⟩
      case round =>
        clear HB3 HOQ HOE HW3
        obtain ⟨q, v, rfl, hq, rfl, hbl2, hop2, hoe2, hwd2⟩ := hrel
        have HBL2 : Hid (Below w1.heap.size w1 wr) := hbl2
        have HOP2 : Hid (Obx wr (w.heap.size + 1) [.int .i64 0, .slice none 0 0] 50) := hop2
        have HOE2 : Hid (Obx wr eb [.string x, .int .i64 y] 109) := hoe2
        have HWD2 : Hid (Wds wr w1.heap.size _ (pre ++ entsW (es.take j) ++ [y, (x.size : Int)] ++ nameW x q)) := hwd2
        obtain ⟨aV2, cV2, rfl⟩ := hwd2.shape
        have c5 := hoe2.bx 0 _ rfl
        clear hbl2 hop2 hoe2 hwd2
        by_cases hlq : q < x.size
        · have HNN : Hid (nameW x (q + 1) = nameW x q ++ [((x[q]'hlq).toNat : Int)]) := nameW_next x q hlq
          obtain ⟨v4, X4, hr4, hw4, hb4, hk4⟩ := append_wds wr w1.heap.size _ (pre ++ entsW (es.take j) ++ [y, (x.size : Int)] ++ nameW x q) [((x[q]'hlq).toNat : Int)] #[.int .i64 ((x[q]'hlq).toNat : Int)] 1 rfl rfl HWD2.out HBL2.out.size (by simp only [List.length_append, List.length_cons, List.length_nil]; have := HL.out; have := HUP.out; have := HSZ.out; have := nameW_len x q; omega) (by simp only [List.length_append]; have := HP.out; omega) (by omega)
          have HR4 : Hid (_ = _) := hr4
          have HW4 : Hid (Wds X4 w1.heap.size v4 (pre ++ entsW (es.take j) ++ [y, (x.size : Int)] ++ nameW x (q + 1))) := by unfold Hid; rw [HNN.out, ← List.append_assoc]; exact hw4
          have HB4 : Hid (Below w1.heap.size w1 X4) := HBL2.out.trans hb4
          have HOP4 : Hid (Obx X4 (w.heap.size + 1) [.int .i64 0, .slice none 0 0] 50) := HOP2.out.keep hk4 (by decide)
          have HOE4 : Hid (Obx X4 eb [.string x, .int .i64 y] 109) := HOE2.out.keep hk4 (by decide)
          have hbyte : (x[q]'hlq).toNat < 256 := UInt8.toNat_lt _
          clear hr4 hw4 hb4 hk4 HNN HWD2 HOP2 HOE2
          go_wp2_with (at_builtin; refine wpList_append_run rfl _ _ 37 rfl _ _ rfl rfl _ _ HR4.out ?_)
          go_roundw
          case rel => exact ⟨q + 1, _, rfl, by omega, by go_num, HB4.out, HOP4.out, HOE4.out, HW4.out⟩
          case measure => simp [intOf]; omega
        · have HW4 : Hid (Wds wr w1.heap.size (.slice aV2 (pre ++ entsW (es.take j) ++ [y, (x.size : Int)] ++ nameW x q).length cV2) (pre ++ entsW (es.take (j + 1)))) := by
            have e : q = x.size := by omega
            have h2 : pre ++ entsW (es.take (j + 1)) = pre ++ entsW (es.take j) ++ [y, (x.size : Int)] ++ nameW x q := by rw [HTK.out, e, ← nameW_all]; simp only [List.append_assoc]
            unfold Hid
            rw [h2]
            exact HWD2.out
          go_wp2
          go_roundw
          case rel => exact ⟨j + 1, _, rfl, by omega, by go_num, HBL2.out, HOP2.out, HW4.out⟩
          case measure => simp [intOf]; omega
    · have HW4 : Hid (Wds wr w1.heap.size (.slice aV (pre ++ entsW (es.take j)).length cV) zs) := by
        have h2 : es.take j = es := List.take_of_length_le (by rw [HEN.out]; omega)
        unfold Hid
        rw [← HZS.out]
        have := HWD.out
        rw [h2] at this ⊢
        exact this
      have hzl : 0 < zs.length := by rw [← HZS.out, List.length_append]; have := HP.out; omega
      have hjj : (pre ++ entsW (es.take j)).length = zs.length := by
        have h2 : es.take j = es := List.take_of_length_le (by rw [HEN.out]; omega)
        rw [h2, HZS.out]
      rw [hjj] at HW4
      have HI : Hid (IntsO wr (.slice aV zs.length cV) zs (fun b => w.heap.size + 2 ≤ b ∧ b < wr.heap.size)) := (HW4.out.own (w0 := w1) hzl (Nat.le_refl _)).mono fun b hb => ⟨by have := hb.1; omega, hb.2⟩
      have hrb2 := HQX.out.row
      have t0 := hrb2.cell (i := 0) (by omega)
      have t1 := hrb2.cell (i := 1) (by omega)
      have s0 := hrb2.frozen 0
      have s1 := hrb2.frozen 1
      simp at t0 t1
      clear hrb2 HWD HW4
      go_wp2
      refine bodyPost_ret (v := .agg #[.int .i64 0, .slice aV zs.length cV]) (by simp [results, Try.results82, go_sem, t0, t1]) rfl ⟨_, _, _, rfl, (HBW.out.setCell (by simp) _).setCell (by simp) _, (HI.out.keep fun b hb hlt => ?_).mono fun b hb => ⟨by omega, by simp only [World.setCell, Array.size_modify]; exact hb.2⟩⟩
      rw [Below.heap_setCell _ _ _ _ (by simp; omega), Below.heap_setCell _ _ _ _ (by simp; omega)]
end Go.Proofs.Ytlacppjlclfpmaa

namespace Go.Proofs.Ytlacppjlclfpmaa
open Go.RowKit
set_option maxRecDepth 100000

theorem implPackU (w : World) (z0 z1 z2 : Int) (aB : Option Addr) (nB cB : Nat) (aE : Option Addr) (nE cE : Nat) (d : ID) (h : InoR w (.int .i64 z0) (.int .i64 z1) (.int .i64 z2) (.slice aB nB cB) (.slice aE nE cE) d) (hs : sizeIno d ≤ 1048576) :
    Calls Try.prog 82 #[.agg #[.int .i64 z0, .int .i64 z1, .int .i64 z2, .slice aB nB cB, .slice aE nE cE]] w (AnsIR w (packR d)) := by
  by_cases hf : inoF d = 0
  · have hpr : packR d = (0, packL d) := by unfold packR; rw [if_pos hf]
    rw [hpr]
    have h' := h
    obtain ⟨⟨h0, h1, h2, _⟩, hi, he⟩ := h
    simp only [Value.int.injEq, true_and] at h0 h1 h2
    obtain ⟨_, _, e1, hm1, hc1⟩ := hi.open'
    obtain ⟨_, _, e2, hm2, hz2, hc2⟩ := he.open'
    simp only [Value.slice.injEq] at e1 e2
    obtain ⟨rfl, rfl, rfl⟩ := e1
    obtain ⟨rfl, rfl, rfl⟩ := e2
    subst h0 h1 h2
    have hn1 : d.2.2.2.1.length ≤ 1048576 := by unfold sizeIno at hs; omega
    have hn2 : d.2.2.2.2.length ≤ 1048576 := by unfold sizeIno sizeN at hs; omega
    have hn3 : (entsW d.2.2.2.2).length ≤ 4194304 := by have := entsW_len d.2.2.2.2; unfold sizeIno at hs; omega
    by_cases hk : d.1 = 2
    · have hb : d.2.2.2.1 = [] := by
        unfold inoF at hf
        rw [if_neg (by omega), if_neg (by omega), if_pos hk] at hf
        by_cases hfp : fpB d = true
        · rw [if_pos hfp] at hf; simp at hf
        · unfold fpB at hfp
          simp at hfp
          exact hfp.2
      have hpk : [2, d.2.1, d.2.2.1] ++ [(d.2.2.2.2.length : Int)] ++ entsW d.2.2.2.2 = packL d := by unfold packL; rw [if_pos hk, hb, hk]; simp
      rw [hk] at h' ⊢
      exact implPack_dir w d.2.1 d.2.2.1 _ _ _ _ _ _ d h' hs hf d.2.2.2.2 rfl hn2 hn3 hc2 _ (packL d) rfl hpk
    · have hpk : [d.1, d.2.1, d.2.2.1] ++ d.2.2.2.1 = packL d := by unfold packL; rw [if_neg hk]; simp
      exact implPack_flat w d.1 d.2.1 d.2.2.1 _ _ _ _ _ _ d h' hs hf d.2.2.2.1 hn1 rfl hc1 hk (packL d) hpk
  · have hpr : packR d = (inoF d, []) := by unfold packR; rw [if_neg hf]
    rw [hpr]
    exact implPack_bad w z0 z1 z2 aB nB cB aE nE cE d h hs hf

theorem eqIntsResultU (w : World) (c : Int) (va vb : Value) (zs : List Int) (h1 : Ints w va zs) (h2 : Ints w vb zs) :
    Calls Try.prog 28 #[.agg #[.int .i64 c, va], .agg #[.int .i64 c, vb]] w fun e w' => e = .returned (.bool true) ∧ Below w.heap.size w w' := eqIntsResult_true w c va vb zs h1 h2
def mkInts (k : Int) (zs : List Int) : List Int := marks k zs.length
theorem markIntsResultU (w : World) (c : Int) (v : Value) (zs : List Int) (F : Nat → Prop) (k : Int) (h : IntsO w v zs F) (hk0 : 0 ≤ k) (hk : k + (List.length zs : Nat) ≤ 4611686018427387904) :
    Calls Try.prog 29 #[.agg #[.int .i64 c, v], .int .i64 k] w fun e w' => e = .returned (.int .i64 (k + (List.length zs : Nat))) ∧ IntsO w' v (mkInts k zs) F ∧ Chg F w w' := markIntsResult_any w c v zs F k h hk0 hk
theorem heldIntsResultU (w : World) (c : Int) (v : Value) (zs : List Int) (F : Nat → Prop) (k : Int) (h : IntsO w v (mkInts k zs) F) (hk0 : 0 ≤ k) (hk : k + (List.length zs : Nat) ≤ 4611686018427387904) :
    Calls Try.prog 30 #[.agg #[.int .i64 c, v], .int .i64 k] w fun e w' => e = .returned (.int .i64 (k + (List.length zs : Nat))) ∧ Below w.heap.size w w' := heldIntsResult_any w c v zs.length k h.reads hk0 hk
end Go.Proofs.Ytlacppjlclfpmaa
