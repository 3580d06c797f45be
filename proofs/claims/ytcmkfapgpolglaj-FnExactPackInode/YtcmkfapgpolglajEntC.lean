
/- Marks of lists of entries. -/
import Derived.Test.YtcmkfapgpolglajEntB
namespace Go.Proofs.Ytcmkfapgpolglaj
open Go.RowKit
set_option maxRecDepth 100000

set_option maxHeartbeats 400000 in
theorem markEnts_nil (w : World) (a : Option Addr) (cap k : Nat) :
    Calls Try.prog 44 #[.slice a 0 cap, .int .i64 (k : Int)] w fun e w' => e = .returned (.int .i64 (k : Int)) ∧ w' = w := by
  go_enter Try.func44, Try.ntmps44
  go_wp2
  go_loop [1, 5] (fun q i => i = .int .i64 0 ∧ q = .int .i64 (k : Int)) (fun _ _ => 0)
  case atStart => exact ⟨rfl, rfl⟩
  case round =>
    obtain ⟨rfl, rfl⟩ := hrel
    go_wp2
    go_ret
    exact ⟨rfl, rfl⟩

theorem markCell_0 (k j : Nat) : markCell k (j * 2) = mkT (k + 2 * j) := by unfold markCell; rw [if_pos (by omega), show k + j * 2 = k + 2 * j by omega]
theorem markCell_1 (k j : Nat) : markCell k (j * 2 + 1) = .int .i64 ((k + 2 * j : Nat) + 1 : Int) := by unfold markCell; rw [if_neg (by omega)]; congr 1; omega

set_option maxHeartbeats 1600000 in
theorem markEnts_walk (w : World) (b cap n k : Nat) (f : Nat → Value) (hk0 : 1 ≤ k) (hk : k + 2 * n ≤ 4294967296) (hr : OwnRow w b (n * 2) f) :
    Calls Try.prog 44 #[.slice (some ⟨b, 0, none⟩) n cap, .int .i64 (k : Int)] w fun e w' => e = .returned (.int .i64 ((k + 2 * n : Nat) : Int)) ∧ OwnRow w' b (n * 2) (markCell k) ∧ Chg (fun c => c = b) w w' := by
  have HR : Hid (OwnRow w b (n * 2) f) := hr
  clear hr
  go_enter Try.func44, Try.ntmps44
  go_wp2
  go_loopw [1, 5] (fun q i wr => ∃ j : Nat, j ≤ n ∧ i = .int .i64 j ∧ q = .int .i64 ((k + 2 * j : Nat) : Int) ∧ OwnRow wr b (n * 2) (fun c => if c < j * 2 then markCell k c else f c) ∧ Chg (fun c => c = b) w wr) (fun _ i _ => n - (intOf i).toNat)
  case atStart => exact ⟨0, Nat.zero_le _, rfl, by simp, HR.out.congr fun i _ => by simp, Chg.refl _ _⟩
  case round =>
    obtain ⟨j, hj, rfl, rfl, hrow, hch⟩ := hrel
    have HROW : Hid (OwnRow wr b (n * 2) (fun c => if c < j * 2 then markCell k c else f c)) := hrow
    have HCH : Hid (Chg (fun c => c = b) w wr) := hch
    clear hch
    by_cases hlt : j < n
    · have c3 := hrow.lt
      have c1 := hrow.cell (i := j * 2) (by omega)
      have c2 := hrow.frozen (j * 2)
      simp only [Nat.lt_irrefl, if_false] at c1
      clear hrow
      have hkk : k + 2 * j + 2 ≤ 4294967296 := by omega
      have hk1 : 1 ≤ k + 2 * j := by omega
      have HV : Hid (∀ c : Nat, (if c = j * 2 + 1 then Value.int .i64 (((k + 2 * j : Nat) : Int) + 1) else if c = j * 2 then mkT (k + 2 * j) else if c < j * 2 then markCell k c else f c) = if c < (j + 1) * 2 then markCell k c else f c) := by
        intro c
        by_cases e1 : c = j * 2 + 1
        · subst e1; rw [if_pos rfl, if_pos (by omega), markCell_1]
        · rw [if_neg e1]
          by_cases e0 : c = j * 2
          · subst e0; rw [if_pos rfl, if_pos (by omega), markCell_0]
          · rw [if_neg e0]
            by_cases h : c < j * 2
            · rw [if_pos h, if_pos (by omega)]
            · rw [if_neg h, if_neg (by omega)]
      have HQ : Hid (k + 2 * (j + 1) = k + 2 * j + 2) := by unfold Hid; omega
      generalize hq : k + 2 * j = q at *
      clear hq
      go_wp2_with fail
      refine (markText_any _ q hk1 (by omega)).mono ?_
      rintro e w1 ⟨rfl, hb1⟩
      have HCH1 : Hid (Chg (fun c => c = b) w w1) := HCH.out.trans (Chg.of_below hb1)
      have hrow1 := HROW.out.block (hb1.block b c3)
      have HROW1 : Hid (OwnRow w1 b (n * 2) (fun c => if c < j * 2 then markCell k c else f c)) := hrow1
      have d0 := hrow1.cell (i := j * 2) (by omega)
      have d1 := hrow1.cell (i := j * 2 + 1) (by omega)
      simp only [Nat.lt_irrefl, if_false] at d0
      rw [if_neg (by omega)] at d1
      have f0 := hrow1.frozen (j * 2)
      have f1 := hrow1.frozen (j * 2 + 1)
      have HT : Hid (mkT q = .string (mkB (109 :: dg q []))) := rfl
      rw [HT.out] at HV
      generalize mkB (109 :: dg q []) = v at *
      clear hb1 hrow1 HROW HCH HT c1 c2
      go_wp2
      go_roundw
      case rel =>
        refine ⟨j + 1, by omega, by go_num, by rw [HQ.out]; go_num, ((HROW1.out.set (j * 2) _).set (j * 2 + 1) _).congr fun c hc => ?_, (HCH1.out.set rfl _ _).set rfl _ _⟩
        rw [← HV.out c]
      case measure => simp [intOf]; omega
    · have hjn : j = n := by omega
      clear hrow
      go_wp2
      go_ret
      subst hjn
      exact ⟨rfl, HROW.out.congr fun i hi => by simp [hi], HCH.out⟩
theorem markEntsU {w : World} {v : Value} {es : List EN} {F : Nat → Prop} (k : Nat) (h : EntsO w v es F) (hk0 : 1 ≤ k) (hk : k + 2 * es.length ≤ 4294967296) :
    Calls Try.prog 44 #[v, .int .i64 (k : Int)] w fun e w' => e = .returned (.int .i64 ((k + 2 * es.length : Nat) : Int)) ∧ EntsO w' v (marksN k es.length) F ∧ Chg F w w' := by
  rcases h with ⟨rfl, a, cap, rfl⟩ | ⟨b, cap, hF, rfl, hl, hr⟩
  · exact (markEnts_nil w a cap k).mono fun e w' ⟨he, hw⟩ => ⟨by rw [he]; simp, Or.inl ⟨rfl, a, cap, rfl⟩, hw ▸ Chg.refl _ _⟩
  · refine (markEnts_walk w b cap es.length k _ hk0 hk hr).mono fun e w' ⟨he, hrow, hc⟩ => ⟨he, Or.inr ⟨b, cap, hF, by rw [marksN_length], by rw [marksN_length]; exact ⟨hl.1, hl.2.1, marksN_size k _ hk⟩, ?_⟩, hc.mono fun c hc => hc ▸ hF⟩
    rw [marksN_length]
    exact hrow.congr fun c hc => (enCell_marks k hc).symm

end Go.Proofs.Ytcmkfapgpolglaj
