
/- SameInodes, both sides. -/
import Derived.Test.YtcmkfapgpolglakSamA
namespace Go.Proofs.Ytcmkfapgpolglak
open Go.RowKit

/-- Whether two inodes are the same. -/
def sameB (d d' : ID) : Bool := decide (d = d')
theorem sameB_no {d d' : ID} (h : ¬ d = d') : sameB d d' = false := by unfold sameB; simpa using h
theorem sameB_yes {d d' : ID} (h : d = d') : sameB d d' = true := by unfold sameB; simpa using h

set_option maxHeartbeats 6400000 in
theorem l4Same_any (w : World) (pa pb : Nat) (d d' : ID) (a : Option Addr) (c : Nat) (ae : Option Addr) (ce : Nat) (a' : Option Addr) (c' : Nat) (ae' : Option Addr) (ce' : Nat)
    (hx : Bx w pa [.int .i64 d.1, .int .i64 d.2.1, .int .i64 d.2.2.1, .slice a d.2.2.2.1.length c, .slice ae d.2.2.2.2.length ce])
    (hx' : Bx w pb [.int .i64 d'.1, .int .i64 d'.2.1, .int .i64 d'.2.2.1, .slice a' d'.2.2.2.1.length c', .slice ae' d'.2.2.2.2.length ce'])
    (hi : Ints w (.slice a d.2.2.2.1.length c) d.2.2.2.1) (hi' : Ints w (.slice a' d'.2.2.2.1.length c') d'.2.2.2.1) (he : AtN w ae d.2.2.2.2.length d.2.2.2.2) (he' : AtN w ae' d'.2.2.2.2.length d'.2.2.2.2) (hm : d'.2.2.2.2.length ≤ maxLen) :
    Calls Try.prog 11 #[.pointer (some ⟨pa, 0, none⟩), .pointer (some ⟨pb, 0, none⟩)] w fun e w' => e = .returned (.bool (sameB d d')) ∧ ∃ m, w' = w.drewN m := by
  obtain ⟨k, l, s, bs, es⟩ := d
  obtain ⟨k', l', s', bs', es'⟩ := d'
  dsimp only at *
  have HLI : Hid (∀ m, Calls Try.prog 19 #[.slice a bs.length c, .slice a' bs'.length c'] (w.drewN m) fun e w' => e = .returned (.bool (decide (bs = bs'))) ∧ ∃ m', w' = (w.drewN m).drewN m') := fun m => l4Ints_any (hi.drewN m) (hi'.drewN m)
  have HE : Hid (AtN w ae es.length es) := he
  have HE' : Hid (AtN w ae' es'.length es') := he'
  have c0 := hx 0 _ rfl
  have c1 := hx 1 _ rfl
  have c2 := hx 2 _ rfl
  have c3 := hx 3 _ rfl
  have c4 := hx 4 _ rfl
  have e0 := hx' 0 _ rfl
  have e1 := hx' 1 _ rfl
  have e2 := hx' 2 _ rfl
  have e3 := hx' 3 _ rfl
  have e4 := hx' 4 _ rfl
  clear hx hx' hi hi' he he'
  by_cases hk : k = k'
  rotate_left
  · have HR : Hid (sameB (k, l, s, bs, es) (k', l', s', bs', es') = false) := sameB_no (by simp [hk])
    have hk' : (k != k') = true := by simpa using hk
    go_enter Try.func11, Try.ntmps11
    go_wp2_with fail
    go_quiet (fail)
    go_wp2
    go_ret
    exact ⟨ret_bool HR.out.symm, nq, rfl⟩
  · subst hk
    have hkk : (k != k) = false := by simp
    by_cases hl : l = l'
    rotate_left
    · have HR : Hid (sameB (k, l, s, bs, es) (k, l', s', bs', es') = false) := sameB_no (by simp [hl])
      have hl' : (l != l') = true := by simpa using hl
      go_enter Try.func11, Try.ntmps11
      go_wp2_with fail
      go_quiet (fail)
      go_wp2
      go_ret
      exact ⟨ret_bool HR.out.symm, nq, rfl⟩
    · subst hl
      have hll : (l != l) = false := by simp
      by_cases hs : s = s'
      rotate_left
      · have HR : Hid (sameB (k, l, s, bs, es) (k, l, s', bs', es') = false) := sameB_no (by simp [hs])
        have hs' : (s != s') = true := by simpa using hs
        go_enter Try.func11, Try.ntmps11
        go_wp2_with fail
        go_quiet (fail)
        go_wp2
        go_ret
        exact ⟨ret_bool HR.out.symm, nq, rfl⟩
      · subst hs
        have hss : (s != s) = false := by simp
        by_cases hb : bs = bs'
        rotate_left
        · have HR : Hid (sameB (k, l, s, bs, es) (k, l, s, bs', es') = false) := sameB_no (by simp [hb])
          rw [show decide (bs = bs') = false by simpa using hb] at HLI
          clear hb
          generalize bs.length = n at *
          generalize bs'.length = n' at *
          go_enter Try.func11, Try.ntmps11
          go_wp2_with fail
          go_quiet ((go_at_call 19; exact Calls.quiet_of (HLI.out _)))
          go_wp2
          go_ret
          exact ⟨ret_bool HR.out.symm, nq, rfl⟩
        · subst hb
          rw [show decide (bs = bs) = true by simp] at HLI
          by_cases hn : es.length = es'.length
          rotate_left
          · have HR : Hid (sameB (k, l, s, bs, es) (k, l, s, bs, es') = false) := sameB_no (by simp; intro h; exact hn (by rw [h]))
            have hn' : ((es.length : Int) != (es'.length : Int)) = true := by simp; omega
            clear hn
            generalize bs.length = n at *
            generalize es.length = m1 at *
            generalize es'.length = m2 at *
            go_enter Try.func11, Try.ntmps11
            go_wp2_with fail
            go_quiet ((go_at_call 19; exact Calls.quiet_of (HLI.out _)))
            go_wp2
            go_ret
            exact ⟨ret_bool HR.out.symm, nq, rfl⟩
          · have HS : Hid (sameB (k, l, s, bs, es) (k, l, s, bs, es') = decide (es = es')) := by unfold Hid sameB; simp
            have HN : Hid (es.length = es'.length) := hn
            have HNE : Hid (es'.length = es'.length) := rfl
            rw [hn] at c4 HE
            obtain ⟨ne, hne⟩ : ∃ ne, es'.length = ne := ⟨_, rfl⟩
            rw [hne] at c4 e4 HE HE' hm
            unfold maxLen at hm
            have HL1 : Hid (es.length = ne) := hn.trans hne
            have HL2 : Hid (es'.length = ne) := hne
            clear hn hne HN HNE
            generalize bs.length = n at *
            have hnn : ((ne : Int) != (ne : Int)) = false := by simp
            go_enter Try.func11, Try.ntmps11
            go_wp2_with fail
            go_quiet ((go_at_call 19; exact Calls.quiet_of (HLI.out _)))
            go_wp2
            go_loopw [5] (fun i wr => ∃ j m : Nat, j ≤ ne ∧ i = .int .i64 j ∧ wr = w.drewN m ∧ es.take j = es'.take j) (fun i _ => ne - (intOf i).toNat)
            case atStart => exact ⟨0, nq, Nat.zero_le _, rfl, rfl, rfl⟩
            case round =>
              obtain ⟨j, m, hj, rfl, rfl, ht⟩ := hrel
              have HT : Hid (es.take j = es'.take j) := ht
              clear ht
              by_cases hlt : j < ne
              · obtain ⟨b, off, rfl, f1, g1⟩ := HE.out j hlt
                obtain ⟨b', off', rfl, f2, g2⟩ := HE'.out j hlt
                by_cases heq : es[j]?.getD en0 = es'[j]?.getD en0
                · have HTT : Hid (es.take (j + 1) = es'.take (j + 1)) := take_more en0 HL1.out HL2.out hlt HT.out heq
                  rw [← heq] at f2 g2
                  generalize (es[j]?.getD en0).1 = x at *
                  generalize (es[j]?.getD en0).2 = z at *
                  have hb : (x.toList == x.toList) = true := by simp
                  have hb2 : (z == z) = true := by simp
                  clear heq
                  go_wp2_with fail
                  go_quiet (fail)
                  go_wp2
                  go_roundw
                  case rel => exact ⟨j + 1, m + nq, by omega, by go_num, by first | rfl | rw [World.drewN_drewN], HTT.out⟩
                  case measure => simp [intOf]; omega
                · have HR : Hid (sameB (k, l, s, bs, es) (k, l, s, bs, es') = false) := sameB_no (by simp; intro h; rw [h] at heq; exact heq rfl)
                  have HEN : Hid ((es[j]?.getD en0).1.toList = (es'[j]?.getD en0).1.toList → ¬ (es[j]?.getD en0).2 = (es'[j]?.getD en0).2) := fun h1 h2 => heq (Prod.ext (bytes_eq h1) h2)
                  clear heq
                  generalize (es[j]?.getD en0).1 = x at *
                  generalize (es[j]?.getD en0).2 = z at *
                  generalize (es'[j]?.getD en0).1 = x' at *
                  generalize (es'[j]?.getD en0).2 = z' at *
                  by_cases h1 : x.toList = x'.toList
                  · have hz : ¬ z = z' := HEN.out h1
                    have hb : (x.toList == x'.toList) = true := by simpa using h1
                    have hb2 : (z == z') = false := by simpa using hz
                    clear h1 hz HEN
                    go_wp2_with fail
                    go_quiet (fail)
                    go_wp2
                    go_ret
                    exact ⟨ret_bool HR.out.symm, m + nq, by first | rfl | rw [World.drewN_drewN]⟩
                  · have hb : (x.toList == x'.toList) = false := by simpa using h1
                    clear h1 HEN
                    go_wp2_with fail
                    go_quiet (fail)
                    go_wp2
                    go_ret
                    exact ⟨ret_bool HR.out.symm, m + nq, by first | rfl | rw [World.drewN_drewN]⟩
              · have HR : Hid (sameB (k, l, s, bs, es) (k, l, s, bs, es') = true) := by
                  have h := HT.out
                  rw [List.take_of_length_le (by rw [HL1.out]; omega), List.take_of_length_le (by rw [HL2.out]; omega)] at h
                  unfold Hid; rw [HS.out]; simp [h]
                go_wp2
                go_ret
                exact ⟨ret_bool HR.out.symm, m, rfl⟩

set_option maxHeartbeats 1600000 in
theorem specSameU (w : World) (z0 z1 z2 : Int) (aB : Option Addr) (nB cB : Nat) (aE : Option Addr) (nE cE : Nat) (d : ID) (y0 y1 y2 : Int) (aB' : Option Addr) (nB' cB' : Nat) (aE' : Option Addr) (nE' cE' : Nat) (d' : ID) (h : InoR w (.int .i64 z0) (.int .i64 z1) (.int .i64 z2) (.slice aB nB cB) (.slice aE nE cE) d) (h' : InoR w (.int .i64 y0) (.int .i64 y1) (.int .i64 y2) (.slice aB' nB' cB') (.slice aE' nE' cE') d') (_s : sizeIno d ≤ 1048576) (_s' : sizeIno d' ≤ 1048576) :
    Calls Try.prog 5 #[.agg #[.int .i64 z0, .int .i64 z1, .int .i64 z2, .slice aB nB cB, .slice aE nE cE], .agg #[.int .i64 y0, .int .i64 y1, .int .i64 y2, .slice aB' nB' cB', .slice aE' nE' cE']] w fun e w' => e = .returned (.bool (sameB d d')) ∧ Below w.heap.size w w' := by
  obtain ⟨⟨h0, h1, h2, _⟩, hi, he⟩ := h
  obtain ⟨⟨h0', h1', h2', _⟩, hi', he'⟩ := h'
  simp only [Value.int.injEq, true_and] at h0 h1 h2 h0' h1' h2'
  obtain ⟨_, _, e1, _⟩ := hi.open'
  obtain ⟨_, _, e2, hm2, _, hc2⟩ := he.open'
  obtain ⟨_, _, e1', _⟩ := hi'.open'
  obtain ⟨_, _, e2', hm2', _, hc2'⟩ := he'.open'
  simp only [Value.slice.injEq] at e1 e2 e1' e2'
  obtain ⟨rfl, rfl, rfl⟩ := e1
  obtain ⟨rfl, rfl, rfl⟩ := e2
  obtain ⟨rfl, rfl, rfl⟩ := e1'
  obtain ⟨rfl, rfl, rfl⟩ := e2'
  subst h0 h1 h2 h0' h1' h2'
  have HL : Hid (∀ o o' : Obj, o = .cells #[.int .i64 d.1, .int .i64 d.2.1, .int .i64 d.2.2.1, .slice aB d.2.2.2.1.length cB, .slice aE d.2.2.2.2.length cE] 30 → o' = .cells #[.int .i64 d'.1, .int .i64 d'.2.1, .int .i64 d'.2.2.1, .slice aB' d'.2.2.2.1.length cB', .slice aE' d'.2.2.2.2.length cE'] 30 → Calls Try.prog 11 #[.pointer (some ⟨w.heap.size, 0, none⟩), .pointer (some ⟨w.heap.size + 1, 0, none⟩)] ((w.alloc o).alloc o') fun e w' => e = .returned (.bool (sameB d d')) ∧ ∃ m, w' = ((w.alloc o).alloc o').drewN m) := fun o o' ho ho' => by
    subst ho ho'
    have hx := (Bx.new w [.int .i64 d.1, .int .i64 d.2.1, .int .i64 d.2.2.1, .slice aB d.2.2.2.1.length cB, .slice aE d.2.2.2.2.length cE] 30).later (later1 _ (.cells #[.int .i64 d'.1, .int .i64 d'.2.1, .int .i64 d'.2.2.1, .slice aB' d'.2.2.2.1.length cB', .slice aE' d'.2.2.2.2.length cE'] 30))
    have hx' := Bx.new (w.alloc (.cells #[.int .i64 d.1, .int .i64 d.2.1, .int .i64 d.2.2.1, .slice aB d.2.2.2.1.length cB, .slice aE d.2.2.2.2.length cE] 30)) [.int .i64 d'.1, .int .i64 d'.2.1, .int .i64 d'.2.2.1, .slice aB' d'.2.2.2.1.length cB', .slice aE' d'.2.2.2.2.length cE'] 30
    rw [World.size_alloc] at hx'
    exact l4Same_any _ w.heap.size (w.heap.size + 1) d d' aB cB aE cE aB' cB' aE' cE' hx hx' (hi.later (later2 _ _ _)) (hi'.later (later2 _ _ _)) (hc2.later (later2 _ _ _)) (hc2'.later (later2 _ _ _)) hm2'
  clear hi hi' hc2 hc2' hm2 hm2'
  generalize d.2.2.2.1.length = n1 at *
  generalize d.2.2.2.2.length = n2 at *
  generalize d'.2.2.2.1.length = n1' at *
  generalize d'.2.2.2.2.length = n2' at *
  generalize d.1 = z0 at *
  generalize d.2.1 = z1 at *
  generalize d.2.2.1 = z2 at *
  generalize d'.1 = y0 at *
  generalize d'.2.1 = y1 at *
  generalize d'.2.2.1 = y2 at *
  generalize sameB d d' = r at *
  go_enter Try.func5, Try.ntmps5
  go_wp2_with fail
  refine (HL.out _ _ rfl rfl).mono ?_
  rintro e w1 ⟨rfl, m, rfl⟩
  go_wp2
  go_ret
  exact ⟨rfl, below_drewN (later2 _ _ _) m⟩

set_option maxHeartbeats 6400000 in
theorem implSameU (w : World) (z0 z1 z2 : Int) (aB : Option Addr) (nB cB : Nat) (aE : Option Addr) (nE cE : Nat) (d : ID) (y0 y1 y2 : Int) (aB' : Option Addr) (nB' cB' : Nat) (aE' : Option Addr) (nE' cE' : Nat) (d' : ID) (h : InoR w (.int .i64 z0) (.int .i64 z1) (.int .i64 z2) (.slice aB nB cB) (.slice aE nE cE) d) (h' : InoR w (.int .i64 y0) (.int .i64 y1) (.int .i64 y2) (.slice aB' nB' cB') (.slice aE' nE' cE') d') (_s : sizeIno d ≤ 1048576) (_s' : sizeIno d' ≤ 1048576) :
    Calls Try.prog 7 #[.agg #[.int .i64 z0, .int .i64 z1, .int .i64 z2, .slice aB nB cB, .slice aE nE cE], .agg #[.int .i64 y0, .int .i64 y1, .int .i64 y2, .slice aB' nB' cB', .slice aE' nE' cE']] w fun e w' => e = .returned (.bool (sameB d d')) ∧ Below w.heap.size w w' := by
  obtain ⟨⟨h0, h1, h2, _⟩, hi, he⟩ := h
  obtain ⟨⟨h0', h1', h2', _⟩, hi', he'⟩ := h'
  simp only [Value.int.injEq, true_and] at h0 h1 h2 h0' h1' h2'
  obtain ⟨_, _, e1, _⟩ := hi.open'
  obtain ⟨_, _, e2, hm2, _, hc2⟩ := he.open'
  obtain ⟨_, _, e1', _⟩ := hi'.open'
  obtain ⟨_, _, e2', hm2', _, hc2'⟩ := he'.open'
  simp only [Value.slice.injEq] at e1 e2 e1' e2'
  obtain ⟨rfl, rfl, rfl⟩ := e1
  obtain ⟨rfl, rfl, rfl⟩ := e2
  obtain ⟨rfl, rfl, rfl⟩ := e1'
  obtain ⟨rfl, rfl, rfl⟩ := e2'
  subst h0 h1 h2 h0' h1' h2'
  have HLI : Hid (∀ (o o' : Obj) (m : Nat), Calls Try.prog 14 #[.slice aB d.2.2.2.1.length cB, .slice aB' d'.2.2.2.1.length cB'] (((w.alloc o).alloc o').drewN m) fun e w' => e = .returned (.bool (decide (d.2.2.2.1 = d'.2.2.2.1))) ∧ ∃ m', w' = (((w.alloc o).alloc o').drewN m).drewN m') := fun o o' m => equalI_any ((hi.later (later2 _ _ _)).drewN m) ((hi'.later (later2 _ _ _)).drewN m)
  have HLE : Hid (∀ (o o' : Obj) (m : Nat), Calls Try.prog 15 #[.slice aE d.2.2.2.2.length cE, .slice aE' d'.2.2.2.2.length cE'] (((w.alloc o).alloc o').drewN m) fun e w' => e = .returned (.bool (decide (d.2.2.2.2 = d'.2.2.2.2))) ∧ ∃ m', w' = (((w.alloc o).alloc o').drewN m).drewN m') := fun o o' m => equalE_any (w := ((w.alloc o).alloc o').drewN m) (he.later (below_drewN (later2 _ _ _) m)) (he'.later (below_drewN (later2 _ _ _) m))
  clear hi hi' he he' hc2 hc2' hm2 hm2'
  obtain ⟨k, l, s, bs, es⟩ := d
  obtain ⟨k', l', s', bs', es'⟩ := d'
  dsimp only at *
  have HS : Hid (sameB (k, l, s, bs, es) (k', l', s', bs', es') = (k == k' && (l == l' && (s == s' && (decide (bs = bs') && decide (es = es')))))) := by
    unfold Hid sameB
    by_cases h1 : k = k' <;> by_cases h2 : l = l' <;> by_cases h3 : s = s' <;> by_cases h4 : bs = bs' <;> by_cases h5 : es = es' <;> simp [h1, h2, h3, h4, h5]
  generalize decide (bs = bs') = r1 at *
  generalize decide (es = es') = r2 at *
  generalize sameB (k, l, s, bs, es) (k', l', s', bs', es') = r at *
  generalize bs.length = n1 at *
  generalize bs'.length = n1' at *
  generalize es.length = n2 at *
  generalize es'.length = n2' at *
  by_cases hk : k = k'
  rotate_left
  · have hk' : (k == k') = false := by simpa using hk
    have HR : Hid (r = false) := by unfold Hid; rw [HS.out, hk']; rfl
    go_enter Try.func7, Try.ntmps7
    go_wp2
    go_ret
    exact ⟨ret_bool HR.out.symm, later2 _ _ _⟩
  · subst hk
    have hkk : (k == k) = true := by simp
    by_cases hl : l = l'
    rotate_left
    · have hl' : (l == l') = false := by simpa using hl
      have HR : Hid (r = false) := by unfold Hid; rw [HS.out, hl']; simp
      go_enter Try.func7, Try.ntmps7
      go_wp2
      go_ret
      exact ⟨ret_bool HR.out.symm, later2 _ _ _⟩
    · subst hl
      have hll : (l == l) = true := by simp
      by_cases hs : s = s'
      rotate_left
      · have hs' : (s == s') = false := by simpa using hs
        have HR : Hid (r = false) := by unfold Hid; rw [HS.out, hs']; simp
        go_enter Try.func7, Try.ntmps7
        go_wp2
        go_ret
        exact ⟨ret_bool HR.out.symm, later2 _ _ _⟩
      · subst hs
        have hss : (s == s) = true := by simp
        cases r1
        · have HR : Hid (r = false) := by unfold Hid; rw [HS.out]; simp
          go_enter Try.func7, Try.ntmps7
          go_wp2_with fail
          refine (HLI.out _ _ 0).mono ?_
          rintro e w1 ⟨rfl, m, rfl⟩
          go_wp2
          go_ret
          exact ⟨ret_bool HR.out.symm, below_drewN (later2 _ _ _) m⟩
        · have HR : Hid (r = r2) := by unfold Hid; rw [HS.out]; simp
          go_enter Try.func7, Try.ntmps7
          go_wp2_with fail
          refine (HLI.out _ _ 0).mono ?_
          rintro e w1 ⟨rfl, m, rfl⟩
          go_wp2_with fail
          refine (HLE.out _ _ m).mono ?_
          rintro e w2 ⟨rfl, m2, rfl⟩
          go_wp2
          go_ret
          exact ⟨ret_bool HR.out.symm, below_drewN (later2 _ _ _) (m + m2)⟩
end Go.Proofs.Ytcmkfapgpolglak
