
/- The specification's cutting of a text at each slash. -/
import Derived.Test.YtcmkfapgpolglaaSplA
import Derived.Test.YtcmkfapgpolglaaAppA
namespace Go.Proofs.Ytcmkfapgpolglaa
open Go.RowKit
set_option maxRecDepth 100000

theorem cut_at47 {l : List UInt8} {n : Nat} (h : ∀ k, k < n → l[k]?.getD 0 ≠ 47) (hn : n ≤ l.length) (he : n = l.length ∨ l[n]?.getD 0 = 47) : takeTo l = l.take n ∧ dropTo l = l.drop n := by
  induction l generalizing n with
  | nil => simp at hn; subst hn; exact ⟨rfl, rfl⟩
  | cons b t ih =>
    unfold takeTo dropTo
    cases n with
    | zero =>
      have hb : b = 47 := by rcases he with h | h <;> simp at h; exact h
      simp [hb]
    | succ n =>
      have hb : ¬ b = 47 := by have := h 0 (by omega); simpa using this
      have := ih (n := n) (fun k hk => by have := h (k + 1) (by omega); simpa using this) (by simpa using hn) (by simpa using he)
      unfold takeTo dropTo at this
      rw [List.takeWhile_cons, List.dropWhile_cons, if_pos (by simpa using hb), if_pos (by simpa using hb), this.1, this.2]
      exact ⟨rfl, rfl⟩
theorem run_mid (l : List UInt8) (f k : Nat) (hf : f ≤ k) (hk : k ≤ l.length) (W : World) : (Instr.slice 9 (.string (mkB l)) (some (.int .i64 (f : Int))) (some (.int .i64 (k : Int))) none).run Try.prog W = .ok (.string (mkB ((l.drop f).take (k - f)))) W := by
  have hs := mkB_size l
  have he : (mkB l).extract f k = mkB ((l.drop f).take (k - f)) := by
    have h : ((mkB l).extract f k).data.toList = (l.drop f).take (k - f) := by
      simp only [mkB, ByteArray.data_extract, Array.toList_extract, List.extract_eq_take_drop]
    rw [← mkB_data ((mkB l).extract f k), h]
  simp [Instr.slice, Instr.sliceBounds, Instr.sliceBound, asIntOf, run_underlying Try.underlying9, hs, hk, hf]
  exact he
theorem mkB_get (t : List UInt8) (j : Nat) (h : j < (mkB t).size) : (mkB t)[j] = t[j]?.getD 0 := by
  have h' : j < t.length := by rw [← mkB_size]; exact h
  rw [List.getElem?_eq_getElem h', Option.getD_some]
  show (mkB t).data[j] = _
  simp [mkB]
/-- One text more behind a row. -/
theorem append_strN (w : World) (n₀ : Nat) (v : Value) (n : Nat) (xs : List Value) (y : List UInt8) (hxn : xs.length = n) (hrow : w.ownsRow n₀ 9 1 v n xs) (hn₀ : n₀ ≤ w.heap.size) (hn : n ≤ 1048577) :
    ∃ v' X, (Builtin.append_ #[64, 64] 64 #[v, .slice (some ⟨w.heap.size, 0, none⟩) 1 1]).run Try.prog (w.alloc (.cells #[.string (mkB y)] 9)) = .ok v' X ∧ X.ownsRow n₀ 9 1 v' (n + 1) (xs ++ [strV y]) ∧ Below n₀ w X := by
  subst hxn
  obtain ⟨i0, hi, hz0, hz1, hz2⟩ := info_parts Try.infoStr
  obtain ⟨v', X, hr, hown, hgrow, _⟩ := run_append_own (P := Try.prog) (w.alloc (.cells #[strV y] 9)) n₀ 64 64 9 i0 (.string ⟨#[]⟩) 1 16 Try.underlying64 hi hz0 hz1 hz2 rfl (by decide) v xs.length xs (ownsRow_later hrow (later1 _ _)) ⟨w.heap.size, 0, none⟩ 1 1 [strV y] rfl (cell_one_new _ _ _) (by simp [Value.oneCell', strV]) (by unfold maxLen; omega) (by omega) (by simp; omega)
  refine ⟨v', X, hr, hown, ((later1 w _).mono hn₀).trans (below_grown hgrow (by simp; omega) (fun k hk => ?_))⟩
  rcases hrow.2 with ⟨rfl, _⟩ | ⟨g, cap, cur, rfl, hb, _⟩
  · simp [Value.ownBlock] at hk
  · simp [Value.ownBlock] at hk; omega

/-- How far the cutting is: 'done' pieces, the next one from f on. -/
def CutSt (t : List UInt8) (j f : Nat) (done : List (List UInt8)) : Prop :=
  (j ≤ t.length ∧ f ≤ j ∧ cutB t = done ++ cutB (t.drop f) ∧ (∀ k, f ≤ k → k < j → t[k]?.getD 0 ≠ 47) ∧ done.length ≤ j) ∨ (j = t.length + 1 ∧ done = cutB t)
theorem cut_here {t : List UInt8} {j f : Nat} {done : List (List UInt8)} (hf : f ≤ j) (hj : j ≤ t.length) (h1 : cutB t = done ++ cutB (t.drop f)) (h2 : ∀ k, f ≤ k → k < j → t[k]?.getD 0 ≠ 47) (he : j = t.length ∨ t[j]?.getD 0 = 47) :
    cutB t = (done ++ [(t.drop f).take (j - f)]) ++ restN (t.drop j) := by
  have := cut_at47 (l := t.drop f) (n := j - f) (fun k hk => by rw [List.getElem?_drop]; exact h2 (f + k) (by omega) (by omega)) (by simp; omega) (by
    rcases he with e | e
    · exact Or.inl (by simp; omega)
    · exact Or.inr (by rw [List.getElem?_drop, show f + (j - f) = j by omega]; exact e))
  rw [h1, cut_step (t.drop f), this.1, this.2, List.drop_drop, show f + (j - f) = j by omega, List.append_assoc]
  rfl

set_option maxHeartbeats 1600000 in
theorem l3Cut_any (w : World) (t : List UInt8) (ht : t.length ≤ 1048576) :
    Calls Try.prog 114 #[.string (mkB t), .int .u8 47] w fun e w' => ∃ v, e = .returned v ∧ Below w.heap.size w w' ∧ w'.ownsRow w.heap.size 9 1 v (cutB t).length ((cutB t).map strV) := by
  have hsz := mkB_size t
  go_enter Try.func114, Try.ntmps114
  go_wp2
  go_loopw [5, 6, 7] (fun o fr i wr => ∃ (j f : Nat) (v : Value) (done : List (List UInt8)), o = v ∧ fr = .int .i64 f ∧ i = .int .i64 j ∧ CutSt t j f done ∧ Below w.heap.size w wr ∧ wr.ownsRow w.heap.size 9 1 v done.length (done.map strV)) (fun _ _ i _ => t.length + 1 - (intOf i).toNat)
  case atStart => exact ⟨0, 0, _, [], rfl, rfl, rfl, Or.inl ⟨Nat.zero_le _, Nat.le_refl _, rfl, fun k h1 h2 => by omega, Nat.le_refl _⟩, later1 _ _, World.ownsRow_lit w #[] 0 (Nat.le_refl _) (by simp) rfl⟩
  case round =>
    obtain ⟨j, f, v, done, rfl, rfl, rfl, hst, hbl, hrow⟩ := hrel
    have HBL : Hid (Below w.heap.size w wr) := hbl
    have HROW : Hid (wr.ownsRow w.heap.size 9 1 _ done.length (done.map strV)) := hrow
    obtain ⟨aV, cV, rfl⟩ := ownsRow_shape hrow
    clear hbl hrow
    rcases hst with ⟨hj, hf, h1, h2, hdl⟩ | ⟨rfl, rfl⟩
    · have H1 : Hid (cutB t = done ++ cutB (t.drop f)) := h1
      have H2 : Hid (∀ k, f ≤ k → k < j → t[k]?.getD 0 ≠ 47) := h2
      have hj' : (j : Int) ≤ (t.length : Int) := by omega
      have hs2 := run_mid t f j hf hj
      obtain ⟨v', X, hap, hoX, hBX⟩ := append_strN wr w.heap.size _ done.length _ ((t.drop f).take (j - f)) (by simp) HROW.out HBL.out.size (by omega)
      have HAP : Hid (_ = _) := hap
      have HOX : Hid (X.ownsRow w.heap.size 9 1 v' (done.length + 1) (done.map strV ++ [strV ((t.drop f).take (j - f))])) := hoX
      have HBX : Hid (Below w.heap.size wr X) := hBX
      clear h1 h2 hap hoX hBX
      by_cases hje : j = t.length
      · have HC : Hid (done ++ [(t.drop f).take (j - f)] = cutB t) := by
          unfold Hid
          have := cut_here hf hj H1.out H2.out (Or.inl hje)
          rw [show t.drop j = [] by rw [hje]; simp] at this
          rw [this]; simp [restN]
        have hje' : ((j : Int) == (t.length : Int)) = true := by simp; omega
        generalize (t.drop f).take (j - f) = y at *
        have HJE : Hid (j = t.length) := hje
        clear hje
        go_wp2_with (at_builtin; refine wpList_append_run rfl _ _ 64 rfl _ _ rfl rfl _ _ HAP.out ?_)
        go_roundw
        case rel => exact ⟨j + 1, j + 1, _, done ++ [y], rfl, by go_num, by go_num, Or.inr ⟨by rw [HJE.out], HC.out⟩, HBL.out.trans (HBX.out.mono (Nat.le_refl _)), by rw [List.length_append, List.map_append]; exact HOX.out⟩
        case measure => simp [intOf]; omega
      · have hlt : j < (mkB t).size := by rw [hsz]; omega
        have hg := mkB_get t j hlt
        have hje' : ((j : Int) == (t.length : Int)) = false := by simp; omega
        by_cases hb : t[j]?.getD 0 = 47
        · have hb' : ((mkB t)[j].toNat : Int) = 47 := by rw [hg, hb]; rfl
          have HC : Hid (cutB t = (done ++ [(t.drop f).take (j - f)]) ++ cutB (t.drop (j + 1))) := by
            unfold Hid
            have := cut_here hf hj H1.out H2.out (Or.inr hb)
            rw [this]
            congr 1
            rw [List.drop_eq_getElem_cons (by omega)]
            rfl
          generalize (t.drop f).take (j - f) = y at *
          go_wp2_with (at_builtin; refine wpList_append_run rfl _ _ 64 rfl _ _ rfl rfl _ _ HAP.out ?_)
          go_roundw
          case rel => exact ⟨j + 1, j + 1, _, done ++ [y], rfl, by go_num, by go_num, Or.inl ⟨by omega, Nat.le_refl _, HC.out, fun k h1 h2 => by omega, by simp; omega⟩, HBL.out.trans (HBX.out.mono (Nat.le_refl _)), by rw [List.length_append, List.map_append]; exact HOX.out⟩
          case measure => simp [intOf]; omega
        · have hb' : (((mkB t)[j].toNat : Int) == 47) = false := by
            rw [hg]
            have hne : (t[j]?.getD 0).toNat ≠ 47 := fun e => hb (UInt8.toNat_inj.1 (by rw [e]; rfl))
            simp; omega
          have HB : Hid (t[j]?.getD 0 ≠ 47) := hb
          clear hb HAP HOX HBX hg
          go_wp2
          go_roundw
          case rel => exact ⟨j + 1, f, _, done, rfl, rfl, by go_num, Or.inl ⟨by omega, by omega, H1.out, fun k h1 h2 => by
            by_cases e : k = j
            · subst e; exact HB.out
            · exact H2.out k h1 (by omega), by omega⟩, HBL.out, HROW.out⟩
          case measure => simp [intOf]; omega
    · have hx : decide (((t.length + 1 : Nat) : Int) ≤ (t.length : Int)) = false := by simp; omega
      go_wp2
      go_ret
      exact ⟨_, rfl, HBL.out, HROW.out⟩
end Go.Proofs.Ytcmkfapgpolglaa
