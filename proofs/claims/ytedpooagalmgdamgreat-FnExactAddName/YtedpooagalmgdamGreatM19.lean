/- Directories: what their functions ask alike, of the program and of the specification. Directories: where a name stands; IsEmptyDir and LookName, of the program and of the specification. Directories: LookName, of the program and of the specification. Entries that grow by append; cells of an inode of a file system in own memory that turn. The program's AddName: an entry put into its place. -/
import Derived.Test.YtedpooagalmgdamGreatM18
import Derived.Test.YtedpooagalmgdamGreatM17
import Derived.BigQuiet
import Derived.Test.YtedpooagalmgdamGreatM00
import Derived.Test.YtedpooagalmgdamGreatM02
import Derived.ArgAppend
import Derived.Deep.DeepAppendWide
namespace Go.Proofs.YtedpooagalmgdamGreat
open Go.RowKit
set_option maxRecDepth 100000

set_option maxHeartbeats 3200000 in
theorem dirPlaceFault_any (w : World) (a1 : Option Addr) (n1 c1 : Nat) (a2 : Option Addr) (n2 c2 : Nat) (d : FD) (x : Int) (h : FsR w (.slice a1 n1 c1) (.slice a2 n2 c2) d) (hsi : sizeInos d.1 ≤ 1048576) :
    Calls Tryz.prog 96 #[.agg #[.slice a1 n1 c1, .slice a2 n2 c2], .int .i64 x] w fun e w' => e = .returned (.int .i64 (dirQ d x)) ∧ Below w.heap.size w w' := by
  have HF : Hid (∀ W, Below w.heap.size w W → Calls Tryz.prog 120 #[.agg #[.slice a1 n1 c1, .slice a2 n2 c2]] W fun e w' => e = .returned (.int .i64 (fsE d)) ∧ Below W.heap.size W w') := fun W hW => reachFault_any W _ _ _ _ _ _ d (h.later hW) hsi
  have HX : Hid (Bx (w.alloc (.cells #[.slice a1 n1 c1, .slice a2 n2 c2] 31)) w.heap.size [.slice a1 n1 c1, .slice a2 n2 c2]) := Bx.new w [.slice a1 n1 c1, .slice a2 n2 c2] _
  have HR : Hid (dirQ d x = if fsE d = 0 then (if 0 ≤ x ∧ x < (d.1.length : Int) then (if kindAt d.1 x.toNat = 2 then 0 else 9) else 3) else fsE d) := rfl
  obtain ⟨_, _, e1, hm1, hAt⟩ := h.1.open'
  obtain ⟨_, _, e2, hm2, hBt⟩ := h.2.open'
  simp only [Value.slice.injEq] at e1 e2
  obtain ⟨rfl, rfl, rfl⟩ := e1
  obtain ⟨rfl, rfl, rfl⟩ := e2
  have HIN : Hid (∀ W, Calls Tryz.prog 63 #[.agg #[.slice a1 d.1.length c1, .slice a2 d.2.length c2], .int .i64 x] W fun e w' => e = .returned (.bool (decide (0 ≤ x ∧ x < (d.1.length : Int)))) ∧ Below W.heap.size W w') := fun W => isInode_any W _ _ _ _ _ _ x
  clear h hm1 hm2 hBt
  by_cases hf : fsE d = 0
  rotate_left
  · have HQ : Hid (dirQ d x = fsE d) := by unfold Hid; rw [HR.out, if_neg hf]
    rw [HQ.out]
    have hb : (fsE d != 0) = true := by simpa using hf
    clear hf hAt HR HQ HIN
    generalize fsE d = r at *
    generalize d.1.length = n at *
    generalize d.2.length = m at *
    go_enter Tryz.func96, Tryz.ntmps96
    go_wp2_with fail
    refine (HF.out _ (later1 _ _)).mono ?_
    rintro e w1 ⟨rfl, hb1⟩
    have HB1 : Hid (Below w.heap.size w w1) := (later1 _ _).trans (hb1.mono (by simp))
    clear hb1
    go_wp2
    go_ret
    exact ⟨rfl, HB1.out⟩
  · rw [hf] at HF
    by_cases hpl : 0 ≤ x ∧ x < (d.1.length : Int)
    rotate_left
    · have HQ : Hid (dirQ d x = 3) := by unfold Hid; rw [HR.out, if_pos hf, if_neg hpl]
      rw [HQ.out]
      rw [decide_eq_false hpl] at HIN
      clear hf hAt HR HQ hpl
      generalize d.1.length = n at *
      generalize d.2.length = m at *
      go_enter Tryz.func96, Tryz.ntmps96
      go_wp2_with fail
      refine (HF.out _ (later1 _ _)).mono ?_
      rintro e w1 ⟨rfl, hb1⟩
      have HB1 : Hid (Below w.heap.size w w1) := (later1 _ _).trans (hb1.mono (by simp))
      have y0 := (HX.out.later hb1) 0 _ rfl
      have y1 := (HX.out.later hb1) 1 _ rfl
      clear hb1
      go_wp2_with fail
      refine (HIN.out _).mono ?_
      rintro e w2 ⟨rfl, hb2⟩
      have HB2 : Hid (Below w.heap.size w w2) := HB1.out.trans (hb2.mono HB1.out.size)
      clear hb2 y0 y1
      go_wp2
      go_ret
      exact ⟨rfl, HB2.out⟩
    · rw [decide_eq_true hpl] at HIN
      obtain ⟨j, rfl⟩ : ∃ j : Nat, x = (j : Int) := ⟨x.toNat, by omega⟩
      have hj : j < d.1.length := by omega
      have HQ : Hid (dirQ d (j : Int) = if (d.1[j]?.getD id0).1 = 2 then 0 else 9) := by unfold Hid; rw [HR.out, if_pos hf, if_pos hpl]; rfl
      rw [HQ.out]
      have hjn : (j : Int) < ((d.1.length : Nat) : Int) := by omega
      obtain ⟨b0, o0, rfl, hI⟩ := hAt j hj
      obtain ⟨aB, cB, _, _, kc, _⟩ := hI
      have HKC : Hid (_ = some (Value.int .i64 (d.1[j]?.getD id0).1)) := kc
      clear kc hAt HR HQ hpl hf
      generalize (d.1[j]?.getD id0).1 = kd at *
      generalize d.1.length = n at *
      generalize d.2.length = m at *
      by_cases hk : kd = 2
      · rw [if_pos hk]
        have hb2 : (kd != 2) = false := by simpa using hk
        clear hk
        go_enter Tryz.func96, Tryz.ntmps96
        go_wp2_with fail
        refine (HF.out _ (later1 _ _)).mono ?_
        rintro e w1 ⟨rfl, hb1⟩
        have HB1 : Hid (Below w.heap.size w w1) := (later1 _ _).trans (hb1.mono (by simp))
        have HX1 : Hid (Bx w1 w.heap.size _) := HX.out.later hb1
        have y0 := HX1.out 0 _ rfl
        have y1 := HX1.out 1 _ rfl
        clear hb1
        go_wp2_with fail
        refine (HIN.out _).mono ?_
        rintro e w2 ⟨rfl, hb2⟩
        have HB2 : Hid (Below w.heap.size w w2) := HB1.out.trans (hb2.mono HB1.out.size)
        have z0 := (HX1.out.later hb2) 0 _ rfl
        have z1 := (HX1.out.later hb2) 1 _ rfl
        have kc2 := cell_later HB2.out HKC.out
        clear hb2 y0 y1
        go_wp2
        go_ret
        exact ⟨rfl, HB2.out⟩
      · rw [if_neg hk]
        have hb2 : (kd != 2) = true := by simpa using hk
        clear hk
        go_enter Tryz.func96, Tryz.ntmps96
        go_wp2_with fail
        refine (HF.out _ (later1 _ _)).mono ?_
        rintro e w1 ⟨rfl, hb1⟩
        have HB1 : Hid (Below w.heap.size w w1) := (later1 _ _).trans (hb1.mono (by simp))
        have HX1 : Hid (Bx w1 w.heap.size _) := HX.out.later hb1
        have y0 := HX1.out 0 _ rfl
        have y1 := HX1.out 1 _ rfl
        clear hb1
        go_wp2_with fail
        refine (HIN.out _).mono ?_
        rintro e w2 ⟨rfl, hb2⟩
        have HB2 : Hid (Below w.heap.size w w2) := HB1.out.trans (hb2.mono HB1.out.size)
        have z0 := (HX1.out.later hb2) 0 _ rfl
        have z1 := (HX1.out.later hb2) 1 _ rfl
        have kc2 := cell_later HB2.out HKC.out
        clear hb2 y0 y1
        go_wp2
        go_ret
        exact ⟨rfl, HB2.out⟩

set_option maxHeartbeats 1600000 in
theorem dirNameFault_any (w : World) (a1 : Option Addr) (n1 c1 : Nat) (a2 : Option Addr) (n2 c2 : Nat) (d : FD) (x : Int) (s : ByteArray) (h : FsR w (.slice a1 n1 c1) (.slice a2 n2 c2) d) (hsi : sizeInos d.1 ≤ 1048576) (hs : s.size ≤ maxLen) :
    Calls Tryz.prog 61 #[.agg #[.slice a1 n1 c1, .slice a2 n2 c2], .int .i64 x, .string s] w fun e w' => e = .returned (.int .i64 (dirN d x s)) ∧ Below w.heap.size w w' := by
  have HF : Hid (∀ W, Below w.heap.size w W → Calls Tryz.prog 96 #[.agg #[.slice a1 n1 c1, .slice a2 n2 c2], .int .i64 x] W fun e w' => e = .returned (.int .i64 (dirQ d x)) ∧ Below W.heap.size W w') := fun W hW => dirPlaceFault_any W _ _ _ _ _ _ d x (h.later hW) hsi
  have HN : Hid (∀ W, Calls Tryz.prog 97 #[.string s] W fun e w' => e = .returned (.int .i64 (nameF s)) ∧ w' = W) := fun W => implName_any W s hs
  have HR : Hid (dirN d x s = if dirQ d x = 0 then nameF s else dirQ d x) := rfl
  rw [HR.out]
  clear h hsi hs HR
  generalize dirQ d x = r at *
  generalize nameF s = q at *
  by_cases hr : r = 0
  · rw [if_pos hr]
    subst hr
    go_enter Tryz.func61, Tryz.ntmps61
    go_wp2_with fail
    first
      | refine (HF.out _ (later1 _ _)).mono ?_
      | refine (HF.out _ (Below.refl _ _)).mono ?_
    rintro e w1 ⟨rfl, hb1⟩
    have HB1 : Hid (Below w.heap.size w w1) := by first | exact (later1 _ _).trans (hb1.mono (by simp)) | exact hb1
    clear hb1
    go_wp2_with fail
    refine (HN.out _).mono ?_
    rintro e w2 ⟨rfl, rfl⟩
    go_wp2
    go_ret
    exact ⟨rfl, HB1.out⟩
  · rw [if_neg hr]
    have hb : (r != 0) = true := by simpa using hr
    clear hr
    go_enter Tryz.func61, Tryz.ntmps61
    go_wp2_with fail
    first
      | refine (HF.out _ (later1 _ _)).mono ?_
      | refine (HF.out _ (Below.refl _ _)).mono ?_
    rintro e w1 ⟨rfl, hb1⟩
    have HB1 : Hid (Below w.heap.size w w1) := by first | exact (later1 _ _).trans (hb1.mono (by simp)) | exact hb1
    clear hb1
    go_wp2
    go_ret
    exact ⟨rfl, HB1.out⟩

set_option maxHeartbeats 3200000 in
theorem l8Asked_any (w : World) (b o : Nat) (d : FD) (aI : Option Addr) (cI : Nat) (aD : Option Addr) (cD : Nat) (x : Int) (h : FsX w b o d aI cI aD cD) (hs : sizeInos d.1 ≤ 1048576) :
    Calls Tryz.prog 91 #[.pointer (some ⟨b, o, none⟩), .int .i64 x] w fun e w' => e = .returned (.int .i64 (dirQ d x)) ∧ Below w.heap.size w w' := by
  have HF : Hid (Calls Tryz.prog 123 #[.pointer (some ⟨b, o, none⟩)] w fun e w' => e = .returned (.int .i64 (fsE d)) ∧ Below w.heap.size w w') := l6Entries_any w b o d _ _ _ _ h hs
  have HP : Hid (∀ W, Below w.heap.size w W → Calls Tryz.prog 94 #[.pointer (some ⟨b, o, none⟩), .int .i64 x] W fun e w' => e = .returned (.bool (decide (0 ≤ x ∧ x < (d.1.length : Int)))) ∧ w' = W) := fun W hW => l6Place_any W b o d _ _ _ _ x (h.later hW)
  have HR : Hid (dirQ d x = if fsE d = 0 then (if 0 ≤ x ∧ x < (d.1.length : Int) then (if kindAt d.1 x.toNat = 2 then 0 else 9) else 3) else fsE d) := rfl
  by_cases hf : fsE d = 0
  rotate_left
  · have HQ : Hid (dirQ d x = fsE d) := by unfold Hid; rw [HR.out, if_neg hf]
    rw [HQ.out]
    have hb : (fsE d != 0) = true := by simpa using hf
    clear hf h HR HQ HP
    generalize fsE d = r at *
    go_enter Tryz.func91, Tryz.ntmps91
    go_wp2_with fail
    refine HF.out.mono ?_
    rintro e w1 ⟨rfl, hb1⟩
    have HB1 : Hid (Below w.heap.size w w1) := hb1
    clear hb1
    go_wp2
    go_ret
    exact ⟨rfl, HB1.out⟩
  · rw [hf] at HF
    by_cases hpl : 0 ≤ x ∧ x < (d.1.length : Int)
    rotate_left
    · have HQ : Hid (dirQ d x = 3) := by unfold Hid; rw [HR.out, if_pos hf, if_neg hpl]
      rw [HQ.out]
      rw [decide_eq_false hpl] at HP
      clear hf h HR HQ hpl
      go_enter Tryz.func91, Tryz.ntmps91
      go_wp2_with fail
      refine HF.out.mono ?_
      rintro e w1 ⟨rfl, hb1⟩
      have HB1 : Hid (Below w.heap.size w w1) := hb1
      clear hb1
      go_wp2_with fail
      refine (HP.out _ HB1.out).mono ?_
      rintro e w2 ⟨rfl, rfl⟩
      go_wp2
      go_ret
      exact ⟨rfl, HB1.out⟩
    · rw [decide_eq_true hpl] at HP
      obtain ⟨j, rfl⟩ : ∃ j : Nat, x = (j : Int) := ⟨x.toNat, by omega⟩
      have hj : j < d.1.length := by omega
      have HQ : Hid (dirQ d (j : Int) = if (d.1[j]?.getD id0).1 = 2 then 0 else 9) := by unfold Hid; rw [HR.out, if_pos hf, if_pos hpl]; rfl
      rw [HQ.out]
      have hjn : (j : Int) < ((d.1.length : Nat) : Int) := by omega
      obtain ⟨_, _, q1, _, hAt⟩ := h.ins.open'
      simp only [Value.slice.injEq] at q1
      obtain ⟨rfl, -, rfl⟩ := q1
      obtain ⟨b0, o0, rfl, hI⟩ := hAt j hj
      obtain ⟨aB, cB, _, _, kc, _⟩ := hI
      have HKC : Hid (_ = some (Value.int .i64 (d.1[j]?.getD id0).1)) := kc
      have HC0 : Hid (_ = _) := h.c0
      clear kc hAt HR HQ hpl hf h
      generalize (d.1[j]?.getD id0).1 = kd at *
      generalize d.1.length = n at *
      by_cases hk : kd = 2
      · rw [if_pos hk]
        have hb2 : (kd != 2) = false := by simpa using hk
        clear hk
        go_enter Tryz.func91, Tryz.ntmps91
        go_wp2_with fail
        refine HF.out.mono ?_
        rintro e w1 ⟨rfl, hb1⟩
        have HB1 : Hid (Below w.heap.size w w1) := hb1
        have kc1 := cell_later hb1 HKC.out
        have c01 := cell_later hb1 HC0.out
        clear hb1
        go_wp2_with fail
        refine (HP.out _ HB1.out).mono ?_
        rintro e w2 ⟨rfl, rfl⟩
        go_wp2
        go_ret
        exact ⟨rfl, HB1.out⟩
      · rw [if_neg hk]
        have hb2 : (kd != 2) = true := by simpa using hk
        clear hk
        go_enter Tryz.func91, Tryz.ntmps91
        go_wp2_with fail
        refine HF.out.mono ?_
        rintro e w1 ⟨rfl, hb1⟩
        have HB1 : Hid (Below w.heap.size w w1) := hb1
        have kc1 := cell_later hb1 HKC.out
        have c01 := cell_later hb1 HC0.out
        clear hb1
        go_wp2_with fail
        refine (HP.out _ HB1.out).mono ?_
        rintro e w2 ⟨rfl, rfl⟩
        go_wp2
        go_ret
        exact ⟨rfl, HB1.out⟩

set_option maxHeartbeats 1600000 in
theorem l8Name_any (w : World) (b o : Nat) (d : FD) (aI : Option Addr) (cI : Nat) (aD : Option Addr) (cD : Nat) (x : Int) (s : ByteArray) (h : FsX w b o d aI cI aD cD) (hsi : sizeInos d.1 ≤ 1048576) (hs : s.size ≤ maxLen) :
    Calls Tryz.prog 59 #[.pointer (some ⟨b, o, none⟩), .int .i64 x, .string s] w fun e w' => e = .returned (.int .i64 (dirN d x s)) ∧ Below w.heap.size w w' := by
  have HF : Hid (Calls Tryz.prog 91 #[.pointer (some ⟨b, o, none⟩), .int .i64 x] w fun e w' => e = .returned (.int .i64 (dirQ d x)) ∧ Below w.heap.size w w') := l8Asked_any w b o d _ _ _ _ x h hsi
  have HN : Hid (∀ W, Calls Tryz.prog 92 #[.string s] W fun e w' => e = .returned (.int .i64 (nameF s)) ∧ w' = W) := fun W => specName_any W s hs
  have HR : Hid (dirN d x s = if dirQ d x = 0 then nameF s else dirQ d x) := rfl
  rw [HR.out]
  clear h hsi hs HR
  generalize dirQ d x = r at *
  generalize nameF s = q at *
  by_cases hr : r = 0
  · rw [if_pos hr]
    subst hr
    go_enter Tryz.func59, Tryz.ntmps59
    go_wp2_with fail
    refine HF.out.mono ?_
    rintro e w1 ⟨rfl, hb1⟩
    have HB1 : Hid (Below w.heap.size w w1) := hb1
    clear hb1
    go_wp2_with fail
    refine (HN.out _).mono ?_
    rintro e w2 ⟨rfl, rfl⟩
    go_wp2
    go_ret
    exact ⟨rfl, HB1.out⟩
  · rw [if_neg hr]
    have hb : (r != 0) = true := by simpa using hr
    clear hr
    go_enter Tryz.func59, Tryz.ntmps59
    go_wp2_with fail
    refine HF.out.mono ?_
    rintro e w1 ⟨rfl, hb1⟩
    have HB1 : Hid (Below w.heap.size w w1) := hb1
    clear hb1
    go_wp2
    go_ret
    exact ⟨rfl, HB1.out⟩
end Go.Proofs.YtedpooagalmgdamGreat

namespace Go.Proofs.YtedpooagalmgdamGreat
open Go.RowKit
set_option maxRecDepth 100000

set_option maxHeartbeats 1600000 in
theorem placeOf_any (w : World) (a : Option Addr) (n c : Nat) (es : List EN) (s : ByteArray) (hn : es.length = n) (hm : n ≤ 4294967296) (hat : AtN w a n es) :
    Calls Tryz.prog 62 #[.slice a n c, .string s] w fun e w' => e = .returned (.tuple #[.int .i64 ((plcE es s : Nat) : Int), .bool (fndB es s)]) ∧ Below w.heap.size w w' := by
  have HAT : Hid (AtN w a n es) := hat
  have HN : Hid (es.length = n) := hn
  clear hat hn
  go_enter Tryz.func62, Tryz.ntmps62
  go_wp2
  go_loopw [10] (fun i wr => ∃ k : Nat, k ≤ n ∧ i = .int .i64 k ∧ Below w.heap.size w wr ∧ ∀ j, j < k → geE s (es[j]?.getD en0) = false) (fun i _ => n - (intOf i).toNat)
  case atStart => exact ⟨0, Nat.zero_le _, rfl, Below.refl _ _, fun j hj => by omega⟩
  case round =>
    obtain ⟨k, hk, rfl, hbl, hz⟩ := hrel
    have HBL : Hid (Below w.heap.size w wr) := hbl
    have HZ : Hid (∀ j, j < k → geE s (es[j]?.getD en0) = false) := hz
    clear hbl hz
    by_cases hlt : k < n
    · obtain ⟨b, off, rfl, c0, c1⟩ := HAT.out k hlt
      replace c0 := cell_later HBL.out c0
      replace c1 := cell_later HBL.out c1
      have HBX : Hid (∀ o : Obj, Below w.heap.size w (wr.alloc o)) := fun o => HBL.out.trans ((later1 _ _).mono HBL.out.size)
      cases hge : geE s (es[k]?.getD en0) with
      | false =>
        have HNX : Hid (∀ j, j < k + 1 → geE s (es[j]?.getD en0) = false) := fun j hj => by
          by_cases e : j = k
          · rw [e]; exact hge
          · exact HZ.out j (by omega)
        have hlt2 : Op.bytesLess (es[k]?.getD en0).1.toList s.toList = true := by unfold geE at hge; simpa using hge
        clear hge HZ
        generalize (es[k]?.getD en0).1 = x at *
        generalize (es[k]?.getD en0).2 = y at *
        go_wp2
        go_roundw
        case rel => exact ⟨k + 1, by omega, by go_num, HBX.out _, HNX.out⟩
        case measure => simp [intOf]; omega
      | true =>
        have HP : Hid (plcE es s = k) := findIdx_is (by rw [HN.out]; exact hlt) hge HZ.out
        have HF : Hid (fndB es s = ((es[k]?.getD en0).1.toList == s.toList)) := by
          unfold Hid fndB
          rw [HP.out, decide_eq_true (by rw [HN.out]; exact hlt), Bool.true_and]
          rfl
        have hlt2 : Op.bytesLess (es[k]?.getD en0).1.toList s.toList = false := by unfold geE at hge; simpa using hge
        clear hge HZ
        generalize (es[k]?.getD en0).1 = x at *
        generalize (es[k]?.getD en0).2 = y at *
        go_wp2_with fail
        go_quiet (fail)
        go_wp2
        go_ret2
        exact ⟨by rw [HP.out, HF.out]; rfl, below_drewN (HBX.out _) _⟩
    · have e : k = n := by omega
      have HP : Hid (plcE es s = n) := by
        have := findIdx_no (p := geE s) (es := es) fun j hj => HZ.out j (by rw [HN.out] at hj; omega)
        rw [HN.out] at this
        exact this
      have HF : Hid (fndB es s = false) := by unfold Hid fndB; rw [HP.out, decide_eq_false (by rw [HN.out]; omega)]; rfl
      subst e
      clear HZ
      go_wp2
      go_ret2
      exact ⟨by rw [HP.out, HF.out]; rfl, HBL.out⟩

/-- Where a name stands among entries, or -1. -/
def at8 (es : List EN) (s : ByteArray) : Int := if idxE es s < es.length then ((idxE es s : Nat) : Int) else -1
set_option maxHeartbeats 1600000 in
theorem l8At_any (w : World) (a : Option Addr) (n c : Nat) (es : List EN) (s : ByteArray) (hn : es.length = n) (hm : n ≤ 4294967296) (hat : AtN w a n es) :
    Calls Tryz.prog 93 #[.slice a n c, .string s] w fun e w' => e = .returned (.int .i64 (at8 es s)) ∧ w' = w := by
  have HAT : Hid (AtN w a n es) := hat
  have HN : Hid (es.length = n) := hn
  clear hat hn
  go_enter Tryz.func93, Tryz.ntmps93
  go_wp2
  go_loop [5] (fun i => ∃ k : Nat, k ≤ n ∧ i = .int .i64 k ∧ ∀ j, j < k → eqE s (es[j]?.getD en0) = false) (fun i => n - (intOf i).toNat)
  case atStart => exact ⟨0, Nat.zero_le _, rfl, fun j hj => by omega⟩
  case round =>
    obtain ⟨k, hk, rfl, hz⟩ := hrel
    have HZ : Hid (∀ j, j < k → eqE s (es[j]?.getD en0) = false) := hz
    clear hz
    by_cases hlt : k < n
    · obtain ⟨b, off, rfl, c0, c1⟩ := HAT.out k hlt
      cases hge : eqE s (es[k]?.getD en0) with
      | false =>
        have HNX : Hid (∀ j, j < k + 1 → eqE s (es[j]?.getD en0) = false) := fun j hj => by
          by_cases e : j = k
          · rw [e]; exact hge
          · exact HZ.out j (by omega)
        have hlt2 : ((es[k]?.getD en0).1.toList == s.toList) = false := hge
        clear hge HZ c1
        generalize (es[k]?.getD en0).1 = x at *
        go_wp2
        go_round
        case rel => exact ⟨k + 1, by omega, by go_num, HNX.out⟩
        case measure => simp [intOf]; omega
      | true =>
        have HP : Hid (at8 es s = (k : Int)) := by
          have h1 : idxE es s = k := findIdx_is (by rw [HN.out]; exact hlt) hge HZ.out
          unfold Hid at8
          rw [h1, if_pos (by rw [HN.out]; exact hlt)]
        have hlt2 : ((es[k]?.getD en0).1.toList == s.toList) = true := hge
        clear hge HZ c1
        generalize (es[k]?.getD en0).1 = x at *
        go_wp2
        go_ret
        exact ⟨ret_int HP.out.symm, rfl⟩
    · have HP : Hid (at8 es s = -1) := by
        have h1 : idxE es s = es.length := findIdx_no (p := eqE s) (es := es) fun j hj => HZ.out j (by rw [HN.out] at hj; omega)
        unfold Hid at8
        rw [h1, if_neg (by omega)]
      clear HZ
      go_wp2
      go_ret
      exact ⟨ret_int HP.out.symm, rfl⟩

/-- What lies at the place of a directory: its entries. -/
theorem FsR.dir {w : World} {a1 : Option Addr} {n1 c1 : Nat} {v2 : Value} {d : FD} (h : FsR w (.slice a1 n1 c1) v2 d) {j : Nat} (hj : j < d.1.length) : ∃ b0 o0 aE cE, a1 = some ⟨b0, o0, none⟩ ∧ n1 = d.1.length ∧ w.cell? ⟨b0, o0 + j * 5 + 4, none⟩ = some (.slice aE (entA d j).length cE) ∧ Ents w (.slice aE (entA d j).length cE) (entA d j) := by
  obtain ⟨_, _, e1, _, hAt⟩ := h.1.open'
  simp only [Value.slice.injEq] at e1
  obtain ⟨rfl, rfl, rfl⟩ := e1
  obtain ⟨b0, o0, rfl, hI⟩ := hAt j hj
  obtain ⟨aB, cB, aE, cE, _, _, _, _, k4, hR⟩ := hI
  exact ⟨b0, o0, aE, cE, rfl, rfl, k4, hR.2.2⟩

end Go.Proofs.YtedpooagalmgdamGreat

namespace Go.Proofs.YtedpooagalmgdamGreat
open Go.RowKit
set_option maxRecDepth 100000

theorem dirN_in {d : FD} {x : Int} {s : ByteArray} (h : dirN d x s = 0) : dirQ d x = 0 := by
  unfold dirN at h
  by_cases e : dirQ d x = 0
  · exact e
  · rw [if_neg e] at h; exact absurd h e
theorem dirN_name {d : FD} {x : Int} {s : ByteArray} (h : dirN d x s = 0) : nameF s = 0 := by
  have h' := dirN_in h
  unfold dirN at h
  rw [if_pos h'] at h
  exact h
end Go.Proofs.YtedpooagalmgdamGreat

namespace Go.Proofs.YtedpooagalmgdamGreat
open Go.RowKit
set_option maxRecDepth 100000

/-- Entries in memory that the call made since n₀. -/
def WdE (w : World) (n₀ : Nat) (v : Value) (es : List EN) : Prop := w.ownsRow n₀ 99 2 v es.length (enCells es)
theorem WdE.later {w w' : World} {n₀ : Nat} {v : Value} {es : List EN} (h : WdE w n₀ v es) (hb : Below w.heap.size w w') : WdE w' n₀ v es := ownsRow_later h hb
theorem WdE.shape {w : World} {n₀ : Nat} {v : Value} {es : List EN} (h : WdE w n₀ v es) : ∃ a c, v = .slice a es.length c := ownsRow_shape h
theorem WdE.nil (w : World) (n₀ : Nat) : WdE w n₀ (.slice none 0 0) [] := ⟨by simp [enCells], Or.inl ⟨rfl, rfl⟩⟩
theorem WdE.lit0 (w : World) (n₀ : Nat) (h : n₀ ≤ w.heap.size) : WdE (w.alloc (.cells #[] 99)) n₀ (.slice (some ⟨w.heap.size, 0, none⟩) 0 0) [] :=
  ⟨by simp [enCells], Or.inr ⟨w.heap.size, 0, #[], rfl, h, Go.Deep.blk_alloc_new _ _, Nat.le_refl _, by unfold maxLen; omega, by simp, by simp [enCells]⟩⟩
theorem WdE.own {w : World} {n₀ : Nat} {v : Value} {es : List EN} (h : WdE w n₀ v es) (hz : ∀ k : Nat, (es[k]?.getD en0).1.size ≤ maxLen) : EntsO w v es (fun b => n₀ ≤ b ∧ b < w.heap.size) := by
  obtain ⟨hl, h | ⟨g, cap, cur, rfl, hb, hh, hnc, hcm, hcs, htake⟩⟩ := h
  · exact Or.inl ⟨List.eq_nil_of_length_eq_zero h.2, _, _, by rw [h.1]⟩
  · refine Or.inr ⟨g, cap, ⟨hb, (Array.getElem?_eq_some_iff.1 hh).1⟩, rfl, ⟨by omega, hnc, hz⟩, cur, _, hh, by rw [hcs]; exact Nat.mul_le_mul_right 2 hnc, fun k hk => ?_⟩
    have h1 := enCells_get es k hk
    rw [← htake, List.getElem?_take, if_pos hk, Array.getElem?_toList] at h1
    exact h1
/-- Entries behind those that are there. -/
theorem WdE.push (w : World) (ty : TypeId) (n₀ : Nat) (v : Value) (es fs : List EN) (h : WdE w n₀ v es) (hn₀ : n₀ ≤ w.heap.size) (a : Option Addr) (m c : Nat) (hm : fs.length = m) (hc : AtN w a m fs) (hl : es.length + m ≤ 1048576) :
    ∃ v' X, (Builtin.append_ #[90, 90] ty #[v, .slice a m c]).run Tryz.prog w = .ok v' X ∧ WdE X n₀ v' (es ++ fs) ∧ Below n₀ w X := by
  subst hm
  obtain ⟨i, hi, h1, h2, h3⟩ := Tryz.infoEnt'
  by_cases h0 : fs.length = 0
  · have hfs : fs = [] := List.eq_nil_of_length_eq_zero h0
    subst hfs
    obtain ⟨av, cv, rfl⟩ := h.shape
    refine ⟨_, w, ?_, by rw [List.append_nil]; exact h, Below.refl _ _⟩
    have hcv : es.length ≤ cv := by
      obtain ⟨_, h | ⟨g, cap, cur, e, hb, hh, hnc, _⟩⟩ := h
      · have := h.2; omega
      · simp only [Value.slice.injEq] at e; omega
    cases a <;> cases av <;> simp [Builtin.append_, run_underlying Tryz.underlying90, sizeOf, typeInfo, hi, Builtin.lenOf, Builtin.firstCells, storeCells, loadCells, loadCellsFrom, hcv]
  · obtain ⟨b, off, rfl, _⟩ := hc 0 (by omega)
    obtain ⟨v', X, hr, ho, hg, _⟩ := run_append_own_wide (P := Tryz.prog) w n₀ 90 ty 99 i _ 2 24 Tryz.underlying90 hi h1 h2 h3 rfl (by decide) v es.length (enCells es) h ⟨b, off, none⟩ fs.length c (enCells fs) (enCells_length fs) (fun j u hu => hc.cells rfl j u hu) (enCells_one fs) (by unfold maxLen; omega) (by omega) hn₀
    refine ⟨v', X, hr, ?_, below_grown hg hn₀ (fun k hk => ?_)⟩
    · unfold WdE
      rw [List.length_append, enCells_append]
      exact ho
    · rcases h.2 with ⟨rfl, _⟩ | ⟨g, cap, cur, rfl, hb, _⟩
      · simp [Value.ownBlock] at hk
      · simp [Value.ownBlock] at hk; omega
/-- Entries behind others that have no room: new memory. -/
theorem push_ahead (w : World) (ty : TypeId) (es fs : List EN) (a : Option Addr) (n : Nat) (hn : es.length = n) (he : AtN w a n es) (ha : a = none → n = 0) (a' : Option Addr) (m c : Nat) (hm : fs.length = m) (hm0 : 0 < m) (hc : AtN w a' m fs) (hl : n + m ≤ 1048576) :
    ∃ v' X, (Builtin.append_ #[90, 90] ty #[.slice a n n, .slice a' m c]).run Tryz.prog w = .ok v' X ∧ WdE X w.heap.size v' (es ++ fs) ∧ Below w.heap.size w X := by
  cases a with
  | none =>
    have h0 := ha rfl
    have hes : es = [] := List.eq_nil_of_length_eq_zero (by omega)
    subst hes
    subst h0
    exact WdE.push w ty w.heap.size (.slice none 0 0) [] fs (WdE.nil _ _) (Nat.le_refl _) a' m c hm hc (by simpa using hl)
  | some p =>
    obtain ⟨i, hi, h1, h2, h3⟩ := Tryz.infoEnt'
    subst hn hm
    obtain ⟨b', off', rfl, _⟩ := hc 0 hm0
    have hp : ∀ j u, (enCells es)[j]? = some u → w.cell? (p.add j) = some u := fun j u hu => by
      have hj : j < es.length * 2 := by rw [← enCells_length]; exact (List.getElem?_eq_some_iff.1 hu).1
      obtain ⟨b, off, e, _⟩ := he 0 (by omega)
      simp only [Option.some.injEq] at e
      subst e
      exact he.cells rfl j u hu
    obtain ⟨v', X, hr, ho, hg⟩ := run_append_arg_grows (P := Tryz.prog) w 90 ty 99 i _ 2 24 Tryz.underlying90 hi h1 h2 h3 rfl (by decide) p es.length es.length (enCells es) (enCells_length es) hp ⟨b', off', none⟩ fs.length c (enCells fs) (enCells_length fs) (fun j u hu => hc.cells rfl j u hu) (by omega) (by unfold maxLen; omega) (by omega)
    refine ⟨v', X, hr, ?_, below_grown hg (Nat.le_refl _) (fun k hk => by simp at hk)⟩
    unfold WdE
    rw [List.length_append, enCells_append]
    exact ho
/-- One entry that was just built. -/
theorem lit1_E (w : World) (s : ByteArray) (y : Int) : AtN (w.alloc (.cells #[.string s, .int .i64 y] 99)) (some ⟨w.heap.size, 0, none⟩) 1 [(s, y)] := fun k hk => ⟨w.heap.size, 0, rfl, by
    have h0 : k = 0 := by omega
    subst h0
    rw [new_cell]
    rfl, by
    have h0 : k = 0 := by omega
    subst h0
    rw [new_cell]
    rfl⟩
theorem AtN.take {w : World} {a : Option Addr} {n : Nat} {es : List EN} (h : AtN w a n es) (k : Nat) (hk : k ≤ n) : AtN w a k (es.take k) := fun i hi => by
  obtain ⟨b, off, e, c0, c1⟩ := h i (by omega)
  exact ⟨b, off, e, by rw [List.getElem?_take, if_pos hi]; exact c0, by rw [List.getElem?_take, if_pos hi]; exact c1⟩
theorem AtN.drop {w : World} {b off n : Nat} {es : List EN} (h : AtN w (some ⟨b, off, none⟩) n es) (k : Nat) : AtN w (some ⟨b, off + k * 2, none⟩) (n - k) (es.drop k) := fun i hi => by
  obtain ⟨b', off', e, c0, c1⟩ := h (k + i) (by omega)
  simp only [Option.some.injEq, Addr.mk.injEq, and_true] at e
  obtain ⟨rfl, rfl⟩ := e
  refine ⟨b, off + k * 2, rfl, ?_, ?_⟩
  · rw [List.getElem?_drop, show off + k * 2 + i * 2 = off + (k + i) * 2 by omega]; exact c0
  · rw [List.getElem?_drop, show off + k * 2 + i * 2 + 1 = off + (k + i) * 2 + 1 by omega]; exact c1

/-- The entries of an inode without blocks stored. -/
theorem FsS.entS {w : World} {bI n cI bD cD : Nat} {d : FD} {F G : Nat → Prop} (hfs : FsS w bI n cI bD 20 cD d F) (j : Nat) (hj : j < n) (hblk : (d.1[j]?.getD id0).2.2.2.1 = []) (es : List EN) (vE : Value) (hE : EntsO w vE es G) (hG : ∀ c, G c → ¬ F c ∧ c < w.heap.size) :
    FsS (w.setCell ⟨bI, j * 5 + 4, none⟩ vE) bI n cI bD 20 cD (d.1.set j ((d.1[j]?.getD id0).1, (d.1[j]?.getD id0).2.1, (d.1[j]?.getD id0).2.2.1, [], es), d.2) (fun c => F c ∨ G c) := by
  have hne := hfs.ne
  have hl := hfs.len.1
  obtain ⟨aB, cB, aE, cE, i0, i1, i2, i3, i4, i5, _, _⟩ := hfs.ino j hj
  rw [hblk] at i3
  have h1 : Chg (fun c => c = bI) w (w.setCell ⟨bI, j * 5 + 4, none⟩ vE) := Chg.set (F := fun c => c = bI) (Chg.refl _ w) rfl (j * 5 + 4) vE
  refine hfs.putI j hj _ (.slice aB 0 cB) vE (fun u hu => ?_) h1 ?_ (fun c hc => ⟨(hG c hc).1, by simpa [World.setCell] using (hG c hc).2⟩)
  · have c0 := hu.cell (i := j * 5) (by omega)
    have c1 := hu.cell (i := j * 5 + 1) (by omega)
    have c2 := hu.cell (i := j * 5 + 2) (by omega)
    have c3 := hu.cell (i := j * 5 + 3) (by omega)
    rw [i0] at c0
    rw [i1] at c1
    rw [i2] at c2
    rw [i3] at c3
    have e0 := (Option.some.inj c0).symm
    have e1 := (Option.some.inj c1).symm
    have e2 := (Option.some.inj c2).symm
    have e3 := (Option.some.inj c3).symm
    refine (hu.set (j * 5 + 4) _).congr fun c _ => ?_
    rw [inCell_set d.1 u j (by omega)]
    by_cases q4 : c = j * 5 + 4
    · rw [if_pos q4, if_neg (by omega), if_neg (by omega), if_neg (by omega), if_neg (by omega)]
    · rw [if_neg q4]
      by_cases q0 : c = j * 5
      · rw [if_pos q0, q0, e0]
      · rw [if_neg q0]
        by_cases q1 : c = j * 5 + 1
        · rw [if_pos q1, q1, e1]
        · rw [if_neg q1]
          by_cases q2 : c = j * 5 + 2
          · rw [if_pos q2, q2, e2]
          · rw [if_neg q2]
            by_cases q3 : c = j * 5 + 3
            · rw [if_pos q3, q3, e3]; rfl
            · rw [if_neg q3]
  · exact ⟨⟨rfl, rfl, rfl, aB, 0, cB, rfl, Nat.zero_le _⟩, fun _ => False, G, Or.inl ⟨rfl, aB, cB, rfl⟩, hE.keep fun c hc hlt => h1.block c hlt fun e => (hG c hc).1 (e ▸ hne.2.1.1), fun _ hh => hh.elim, fun b hh => hh.elim False.elim id⟩
/-- The links of an inode stored. -/
theorem FsS.lnkS {w : World} {bI n cI bD cD : Nat} {d : FD} {F : Nat → Prop} (hfs : FsS w bI n cI bD 20 cD d F) (j : Nat) (hj : j < n) (l : Int) :
    FsS (w.setCell ⟨bI, j * 5 + 1, none⟩ (.int .i64 l)) bI n cI bD 20 cD (d.1.set j ((d.1[j]?.getD id0).1, l, (d.1[j]?.getD id0).2.2), d.2) F := by
  have h1 : Chg (fun c => c = bI) w (w.setCell ⟨bI, j * 5 + 1, none⟩ (.int .i64 l)) := Chg.set (F := fun c => c = bI) (Chg.refl _ w) rfl (j * 5 + 1) _
  obtain ⟨F1, G1, ⟨g0, gm, u, G, g1, g2, g3, g4, g5⟩, h2, h3, h4⟩ := hfs
  refine ⟨F1, G1, ⟨by simpa using g0, gm, u, G, g1, g2, g3, ?_, fun i hi => ?_⟩, h2.keep fun c hc hlt => h1.block c hlt fun e => h3 bI g1 (e ▸ hc), h3, fun b hb => ⟨(h4 b hb).1, by simpa [World.setCell] using (h4 b hb).2⟩⟩
  · refine (g4.set (j * 5 + 1) _).congr fun c _ => ?_
    have e := inCell_set d.1 u j (by omega) ((d.1[j]?.getD id0).1, l, (d.1[j]?.getD id0).2.2) (u j).1 (u j).2 c
    have eu : (fun i => if i = j then ((u j).1, (u j).2) else u i) = u := by
      funext i
      by_cases h : i = j
      · rw [if_pos h, h]
      · rw [if_neg h]
    rw [eu] at e
    rw [e]
    by_cases q1 : c = j * 5 + 1
    · rw [if_pos q1, if_neg (by omega), if_pos q1]
    · rw [if_neg q1]
      by_cases q0 : c = j * 5
      · rw [if_pos q0, q0, inCell_0]
      · rw [if_neg q0, if_neg q1]
        by_cases q2 : c = j * 5 + 2
        · rw [if_pos q2, q2, inCell_2]
        · rw [if_neg q2]
          by_cases q3 : c = j * 5 + 3
          · rw [if_pos q3, q3, inCell_3]
          · rw [if_neg q3]
            by_cases q4 : c = j * 5 + 4
            · rw [if_pos q4, q4, inCell_4]
            · rw [if_neg q4]
  · rw [set_getD _ _ _ _ _ (by omega)]
    have hk : ∀ c, G i c → c < w.heap.size → (w.setCell ⟨bI, j * 5 + 1, none⟩ (.int .i64 l)).heap[c]? = w.heap[c]? := fun c hc hlt => h1.block c hlt fun e => (g2 i c hc).2 e
    by_cases e : i = j
    · rw [if_pos e]
      have hv := (g5 i hi).keep hk
      rw [e] at hv ⊢
      obtain ⟨⟨_, _, _, hcap⟩, hrest⟩ := hv
      exact ⟨⟨rfl, rfl, rfl, hcap⟩, hrest⟩
    · rw [if_neg e]
      exact (g5 i hi).keep hk
end Go.Proofs.YtedpooagalmgdamGreat

namespace Go.Proofs.YtedpooagalmgdamGreat
open Go.RowKit
set_option maxRecDepth 100000

/-- An entry in its place; entries and links of an inode turned. -/
def insE (es : List EN) (k : Nat) (e : EN) : List EN := es.take k ++ [e] ++ es.drop k
def entD (d : FD) (j : Nat) (es : List EN) : FD := (d.1.set j ((d.1[j]?.getD id0).1, (d.1[j]?.getD id0).2.1, (d.1[j]?.getD id0).2.2.1, [], es), d.2)
def lnkD (d : FD) (j : Nat) (l : Int) : FD := (d.1.set j ((d.1[j]?.getD id0).1, l, (d.1[j]?.getD id0).2.2), d.2)
def addD (d : FD) (j : Nat) (s : ByteArray) (y : Nat) : FD := if kindAt d.1 y = 1 then lnkD (entD d j (insE (entA d j) (plcE (entA d j) s) (s, (y : Int)))) y ((d.1[y]?.getD id0).2.1 + 1) else entD d j (insE (entA d j) (plcE (entA d j) s) (s, (y : Int)))
/-- AddName behind its first codes; AddName. -/
def addQ (d : FD) (j : Nat) (s : ByteArray) (y : Int) : Int × FD :=
  if idxE (entA d j) s < (entA d j).length then noFs 7 else if 0 ≤ y ∧ y < (d.1.length : Int) ∧ ¬ kindAt d.1 y.toNat = 0 then (if (entA d j).length = 6 ∨ (kindAt d.1 y.toNat = 1 ∧ 60 ≤ (d.1[y.toNat]?.getD id0).2.1) then noFs 2 else (0, addD d j s y.toNat)) else noFs 4
def addR (d : FD) (x : Int) (s : ByteArray) (y : Int) : Int × FD := if dirN d x s = 0 then addQ d x.toNat s y else noFs (dirN d x s)

set_option maxHeartbeats 800000 in
theorem entriesAhead_any (w : World) (aE : Option Addr) (n cE k : Nat) (hk : k ≤ n) (hc : n ≤ cE) (_hn : n ≤ 1048576) :
    Calls Tryz.prog 98 #[.slice aE n cE, .int .i64 (k : Int)] w fun e w' => e = .returned (.slice aE k k) ∧ w' = w := by
  have hkc : k ≤ cE := by omega
  go_enter Tryz.func98, Tryz.ntmps98
  go_wp2
  go_ret
  exact ⟨rfl, rfl⟩

/-- Where the entries from a place on lie, as the walk has it. -/
def tailE (aE : Option Addr) (cE k : Nat) : Option Addr := if cE = k then aE else Option.map (fun x => x.add (k * 2)) aE
theorem AtN.tail {w : World} {aE : Option Addr} {n cE k : Nat} {es : List EN} (h : AtN w aE n es) (hc : n ≤ cE) : AtN w (tailE aE cE k) (n - k) (es.drop k) := fun i hi => by
  obtain ⟨b, off, rfl, _⟩ := h 0 (by omega)
  unfold tailE
  rw [if_neg (by omega), Option.map_some, add_plain']
  exact h.drop k i hi
set_option maxHeartbeats 3200000 in
theorem withEntry_any (w : World) (aE : Option Addr) (n cE k : Nat) (es : List EN) (s : ByteArray) (y : Int) (hn : es.length = n) (hc : n ≤ cE) (hk : k ≤ n) (h6 : n ≤ 6) (hat : AtN w aE n es) (ha : aE = none → n = 0) :
    Calls Tryz.prog 65 #[.slice aE n cE, .int .i64 (k : Int), .agg #[.string s, .int .i64 y]] w fun e w' => ∃ v, e = .returned v ∧ WdE w' w.heap.size v (insE es k (s, y)) ∧ Below w.heap.size w w' := by
  have HEA : Hid (∀ W, Calls Tryz.prog 98 #[.slice aE n cE, .int .i64 (k : Int)] W fun e w' => e = .returned (.slice aE k k) ∧ w' = W) := fun W => entriesAhead_any W aE n cE k hk hc (by omega)
  have hb1 : Below w.heap.size w (((w.alloc (.cells #[.string s, .int .i64 y] 99)).drew).alloc (.cells #[.string s, .int .i64 y] 99)) := ((later1 _ _).drew).trans ((later1 _ _).mono (by simp))
  have hlit := lit1_E (w.alloc (.cells #[.string s, .int .i64 y] 99)).drew s y
  obtain ⟨v1, X1, hr1, hw1, hbx1⟩ := push_ahead _ 90 (es.take k) [(s, y)] aE k (by rw [List.length_take]; omega) ((hat.take k hk).later hb1) (fun e => by have := ha e; omega) _ 1 1 rfl (by omega) hlit (by omega)
  have hbx1' : Below w.heap.size w X1 := hb1.trans (hbx1.mono hb1.size)
  obtain ⟨v2, X2, hr2, hw2, hbx2⟩ := WdE.push X1 90 _ v1 _ (es.drop k) hw1 hbx1.size (tailE aE cE k) (n - k) (cE - k) (by rw [List.length_drop]; omega) ((hat.tail hc).later hbx1') (by rw [List.length_append, List.length_take]; simp; omega)
  rw [show (w.alloc (.cells #[.string s, .int .i64 y] 99)).drew.heap.size = w.heap.size + 1 by simp] at hr1
  have HR1 : Hid ((Builtin.append_ #[90, 90] 90 #[.slice aE k k, .slice (some ⟨w.heap.size + 1, 0, none⟩) 1 1]).run Tryz.prog (((w.alloc (.cells #[.string s, .int .i64 y] 99)).alloc (.cells #[.string s, .int .i64 y] 99)).drew) = .ok v1 X1) := hr1
  unfold tailE at hr2
  have HR2 : Hid (_ = _) := hr2
  obtain ⟨a1', c1', rfl⟩ := hw1.shape
  have hlen : (es.take k ++ [(s, y)]).length = k + 1 := by rw [List.length_append, List.length_take]; simp; omega
  rw [hlen] at HR1 HR2
  have HW2 : Hid (WdE X2 w.heap.size v2 (insE es k (s, y))) := by
    unfold Hid insE
    exact ownsRow_base hw2 hb1.size
  have HB2 : Hid (Below w.heap.size w X2) := hbx1'.trans (hbx2.mono hb1.size)
  have hkI : (k : Int) ≤ (n : Int) := by omega
  clear hb1 hlit hr1 hr2 hw1 hbx1 hbx1' hw2 hbx2 hat ha hn hlen
  go_enter Tryz.func65, Tryz.ntmps65
  go_wp2_with fail
  go_region_law (first
    | (refine step_append_run rfl _ _ 90 rfl _ _ rfl rfl _ _ HR1.out ?_; clear HR1)
    | (refine step_append_run rfl _ _ 90 rfl _ _ rfl rfl _ _ HR2.out ?_; clear HR2)
    | (try go_simp; go_at_call 98; refine (HEA.out _).mono ?_; rintro e w2 ⟨rfl, rfl⟩)
    | fail)
  all_goals
    go_wp2
    all_goals
      go_ret
      exact ⟨_, rfl, HW2.out, HB2.out⟩
end Go.Proofs.YtedpooagalmgdamGreat
