/- The bytes of a file: the program. Directories: what their functions ask alike, of the program and of the specification. Directories: where a name stands; IsEmptyDir and LookName, of the program and of the specification. Directories: LookName, of the program and of the specification. From the reading of an argument to the lists that it holds. No program is named here. What the rows of this seat share: how a disk that came in is opened. How inodes that came in are opened. How lists of inodes that came in are opened. How file systems that came in are opened. -/
import Derived.Test.YtjabimfinanjoabM09
import Derived.Test.YtjabimfinanjoabM08
import Derived.BigQuiet
import Derived.Test.YtjabimfinanjoabM01
import Derived.Test.YtjabimfinanjoabM00
import Derived.ProofKit
import Derived.Deep.Slices
import Derived.Deep.SlicePairs
import Derived.Lib.SmallJoins
import Derived.Test.YtjabimfinanjoabRows
import Derived.Test.YtjabimfinanjoabM02
import Derived.Test.YtjabimfinanjoabM03
namespace Go.Proofs.Ytjabimfinanjoab
open Go.RowKit
set_option maxRecDepth 100000

theorem bytR_len (d : FD) (x : Int) : (bytR d x).2.length ≤ 32 := by
  unfold bytR
  by_cases hf : fsF d = 0
  · rw [if_pos hf]
    by_cases hp : 0 ≤ x ∧ x < (d.1.length : Int)
    · rw [if_pos hp]
      by_cases h2 : kindAt d.1 x.toNat = 2
      · rw [if_pos h2]; simp
      · rw [if_neg h2]
        by_cases h0 : kindAt d.1 x.toNat = 0
        · rw [if_pos h0]; simp
        · rw [if_neg h0]
          obtain ⟨h1, _, h3, _, _⟩ := fsE_zero (fsF_zero hf)
          have hsz := ino_size (ins_ino h1 x.toNat (by omega))
          have := bytK_len d (d.1[x.toNat]?.getD id0).2.2.2.1 (many_eight h3) _ (Nat.le_refl _)
          show (bytL d x.toNat).length ≤ 32
          unfold bytL
          omega
    · rw [if_neg hp]; simp
  · rw [if_neg hf]; simp
end Go.Proofs.Ytjabimfinanjoab

namespace Go.Proofs.Ytjabimfinanjoab
open Go.RowKit
set_option maxRecDepth 100000

set_option maxHeartbeats 3200000 in
theorem dirPlaceFault_any (w : World) (a1 : Option Addr) (n1 c1 : Nat) (a2 : Option Addr) (n2 c2 : Nat) (d : FD) (x : Int) (h : FsR w (.slice a1 n1 c1) (.slice a2 n2 c2) d) (hsi : sizeInos d.1 ≤ 1048576) :
    Calls Try.prog 26 #[.agg #[.slice a1 n1 c1, .slice a2 n2 c2], .int .i64 x] w fun e w' => e = .returned (.int .i64 (dirQ d x)) ∧ Below w.heap.size w w' := by
  have HF : Hid (∀ W, Below w.heap.size w W → Calls Try.prog 36 #[.agg #[.slice a1 n1 c1, .slice a2 n2 c2]] W fun e w' => e = .returned (.int .i64 (fsE d)) ∧ Below W.heap.size W w') := fun W hW => reachFault_any W _ _ _ _ _ _ d (h.later hW) hsi
  have HX : Hid (Bx (w.alloc (.cells #[.slice a1 n1 c1, .slice a2 n2 c2] 32)) w.heap.size [.slice a1 n1 c1, .slice a2 n2 c2]) := Bx.new w [.slice a1 n1 c1, .slice a2 n2 c2] _
  have HR : Hid (dirQ d x = if fsE d = 0 then (if 0 ≤ x ∧ x < (d.1.length : Int) then (if kindAt d.1 x.toNat = 2 then 0 else 9) else 3) else fsE d) := rfl
  obtain ⟨_, _, e1, hm1, hAt⟩ := h.1.open'
  obtain ⟨_, _, e2, hm2, hBt⟩ := h.2.open'
  simp only [Value.slice.injEq] at e1 e2
  obtain ⟨rfl, rfl, rfl⟩ := e1
  obtain ⟨rfl, rfl, rfl⟩ := e2
  have HIN : Hid (∀ W, Calls Try.prog 37 #[.agg #[.slice a1 d.1.length c1, .slice a2 d.2.length c2], .int .i64 x] W fun e w' => e = .returned (.bool (decide (0 ≤ x ∧ x < (d.1.length : Int)))) ∧ Below W.heap.size W w') := fun W => isInode_any W _ _ _ _ _ _ x
  clear h hm1 hm2 hBt
  by_cases hf : fsE d = 0
  rotate_left
  · have HQ : Hid (dirQ d x = fsE d) := by unfold Hid; rw [HR.out, if_neg hf]
    rw [HQ.out]
    have hb : (fsE d != 0) = true := by simpa using hf
    clear hf hAt HR HQ HIN
    generalize fsE d = r at *
    generalize d.1.length = n at *
    generalize d.2.length = m at *
    go_enter Try.func26, Try.ntmps26
    go_wp2_with fail
    refine (HF.out _ (later1 _ _)).mono ?_
    rintro e w1 ⟨rfl, hb1⟩
    have HB1 : Hid (Below w.heap.size w w1) := (later1 _ _).trans (hb1.mono (by simp))
    clear hb1
    go_wp2
    go_ret
    exact ⟨rfl, HB1.out⟩
  · rw [hf] at HF
    by_cases hpl : 0 ≤ x ∧ x < (d.1.length : Int)
    rotate_left
    · have HQ : Hid (dirQ d x = 3) := by unfold Hid; rw [HR.out, if_pos hf, if_neg hpl]
      rw [HQ.out]
      rw [decide_eq_false hpl] at HIN
      clear hf hAt HR HQ hpl
      generalize d.1.length = n at *
      generalize d.2.length = m at *
      go_enter Try.func26, Try.ntmps26
      go_wp2_with fail
      refine (HF.out _ (later1 _ _)).mono ?_
      rintro e w1 ⟨rfl, hb1⟩
      have HB1 : Hid (Below w.heap.size w w1) := (later1 _ _).trans (hb1.mono (by simp))
      have y0 := (HX.out.later hb1) 0 _ rfl
      have y1 := (HX.out.later hb1) 1 _ rfl
      clear hb1
      go_wp2_with fail
      refine (HIN.out _).mono ?_
      rintro e w2 ⟨rfl, hb2⟩
      have HB2 : Hid (Below w.heap.size w w2) := HB1.out.trans (hb2.mono HB1.out.size)
      clear hb2 y0 y1
      go_wp2
      go_ret
      exact ⟨rfl, HB2.out⟩
    · rw [decide_eq_true hpl] at HIN
      obtain ⟨j, rfl⟩ : ∃ j : Nat, x = (j : Int) := ⟨x.toNat, by omega⟩
      have hj : j < d.1.length := by omega
      have HQ : Hid (dirQ d (j : Int) = if (d.1[j]?.getD id0).1 = 2 then 0 else 9) := by unfold Hid; rw [HR.out, if_pos hf, if_pos hpl]; rfl
      rw [HQ.out]
      have hjn : (j : Int) < ((d.1.length : Nat) : Int) := by omega
      obtain ⟨b0, o0, rfl, hI⟩ := hAt j hj
      obtain ⟨aB, cB, _, _, kc, _⟩ := hI
      have HKC : Hid (_ = some (Value.int .i64 (d.1[j]?.getD id0).1)) := kc
      clear kc hAt HR HQ hpl hf
      generalize (d.1[j]?.getD id0).1 = kd at *
      generalize d.1.length = n at *
      generalize d.2.length = m at *
      by_cases hk : kd = 2
      · rw [if_pos hk]
        have hb2 : (kd != 2) = false := by simpa using hk
        clear hk
        go_enter Try.func26, Try.ntmps26
        go_wp2_with fail
        refine (HF.out _ (later1 _ _)).mono ?_
        rintro e w1 ⟨rfl, hb1⟩
        have HB1 : Hid (Below w.heap.size w w1) := (later1 _ _).trans (hb1.mono (by simp))
        have HX1 : Hid (Bx w1 w.heap.size _) := HX.out.later hb1
        have y0 := HX1.out 0 _ rfl
        have y1 := HX1.out 1 _ rfl
        clear hb1
        go_wp2_with fail
        refine (HIN.out _).mono ?_
        rintro e w2 ⟨rfl, hb2⟩
        have HB2 : Hid (Below w.heap.size w w2) := HB1.out.trans (hb2.mono HB1.out.size)
        have z0 := (HX1.out.later hb2) 0 _ rfl
        have z1 := (HX1.out.later hb2) 1 _ rfl
        have kc2 := cell_later HB2.out HKC.out
        clear hb2 y0 y1
        go_wp2
        go_ret
        exact ⟨rfl, HB2.out⟩
      · rw [if_neg hk]
        have hb2 : (kd != 2) = true := by simpa using hk
        clear hk
        go_enter Try.func26, Try.ntmps26
        go_wp2_with fail
        refine (HF.out _ (later1 _ _)).mono ?_
        rintro e w1 ⟨rfl, hb1⟩
        have HB1 : Hid (Below w.heap.size w w1) := (later1 _ _).trans (hb1.mono (by simp))
        have HX1 : Hid (Bx w1 w.heap.size _) := HX.out.later hb1
        have y0 := HX1.out 0 _ rfl
        have y1 := HX1.out 1 _ rfl
        clear hb1
        go_wp2_with fail
        refine (HIN.out _).mono ?_
        rintro e w2 ⟨rfl, hb2⟩
        have HB2 : Hid (Below w.heap.size w w2) := HB1.out.trans (hb2.mono HB1.out.size)
        have z0 := (HX1.out.later hb2) 0 _ rfl
        have z1 := (HX1.out.later hb2) 1 _ rfl
        have kc2 := cell_later HB2.out HKC.out
        clear hb2 y0 y1
        go_wp2
        go_ret
        exact ⟨rfl, HB2.out⟩

set_option maxHeartbeats 1600000 in
theorem dirNameFault_any (w : World) (a1 : Option Addr) (n1 c1 : Nat) (a2 : Option Addr) (n2 c2 : Nat) (d : FD) (x : Int) (s : ByteArray) (h : FsR w (.slice a1 n1 c1) (.slice a2 n2 c2) d) (hsi : sizeInos d.1 ≤ 1048576) (hs : s.size ≤ maxLen) :
    Calls Try.prog 16 #[.agg #[.slice a1 n1 c1, .slice a2 n2 c2], .int .i64 x, .string s] w fun e w' => e = .returned (.int .i64 (dirN d x s)) ∧ Below w.heap.size w w' := by
  have HF : Hid (∀ W, Below w.heap.size w W → Calls Try.prog 26 #[.agg #[.slice a1 n1 c1, .slice a2 n2 c2], .int .i64 x] W fun e w' => e = .returned (.int .i64 (dirQ d x)) ∧ Below W.heap.size W w') := fun W hW => dirPlaceFault_any W _ _ _ _ _ _ d x (h.later hW) hsi
  have HN : Hid (∀ W, Calls Try.prog 27 #[.string s] W fun e w' => e = .returned (.int .i64 (nameF s)) ∧ w' = W) := fun W => implName_any W s hs
  have HR : Hid (dirN d x s = if dirQ d x = 0 then nameF s else dirQ d x) := rfl
  rw [HR.out]
  clear h hsi hs HR
  generalize dirQ d x = r at *
  generalize nameF s = q at *
  by_cases hr : r = 0
  · rw [if_pos hr]
    subst hr
    go_enter Try.func16, Try.ntmps16
    go_wp2_with fail
    first
      | refine (HF.out _ (later1 _ _)).mono ?_
      | refine (HF.out _ (Below.refl _ _)).mono ?_
    rintro e w1 ⟨rfl, hb1⟩
    have HB1 : Hid (Below w.heap.size w w1) := by first | exact (later1 _ _).trans (hb1.mono (by simp)) | exact hb1
    clear hb1
    go_wp2_with fail
    refine (HN.out _).mono ?_
    rintro e w2 ⟨rfl, rfl⟩
    go_wp2
    go_ret
    exact ⟨rfl, HB1.out⟩
  · rw [if_neg hr]
    have hb : (r != 0) = true := by simpa using hr
    clear hr
    go_enter Try.func16, Try.ntmps16
    go_wp2_with fail
    first
      | refine (HF.out _ (later1 _ _)).mono ?_
      | refine (HF.out _ (Below.refl _ _)).mono ?_
    rintro e w1 ⟨rfl, hb1⟩
    have HB1 : Hid (Below w.heap.size w w1) := by first | exact (later1 _ _).trans (hb1.mono (by simp)) | exact hb1
    clear hb1
    go_wp2
    go_ret
    exact ⟨rfl, HB1.out⟩

set_option maxHeartbeats 3200000 in
theorem l8Asked_any (w : World) (b o : Nat) (d : FD) (aI : Option Addr) (cI : Nat) (aD : Option Addr) (cD : Nat) (x : Int) (h : FsX w b o d aI cI aD cD) (hs : sizeInos d.1 ≤ 1048576) :
    Calls Try.prog 22 #[.pointer (some ⟨b, o, none⟩), .int .i64 x] w fun e w' => e = .returned (.int .i64 (dirQ d x)) ∧ Below w.heap.size w w' := by
  have HF : Hid (Calls Try.prog 32 #[.pointer (some ⟨b, o, none⟩)] w fun e w' => e = .returned (.int .i64 (fsE d)) ∧ Below w.heap.size w w') := l6Entries_any w b o d _ _ _ _ h hs
  have HP : Hid (∀ W, Below w.heap.size w W → Calls Try.prog 33 #[.pointer (some ⟨b, o, none⟩), .int .i64 x] W fun e w' => e = .returned (.bool (decide (0 ≤ x ∧ x < (d.1.length : Int)))) ∧ w' = W) := fun W hW => l6Place_any W b o d _ _ _ _ x (h.later hW)
  have HR : Hid (dirQ d x = if fsE d = 0 then (if 0 ≤ x ∧ x < (d.1.length : Int) then (if kindAt d.1 x.toNat = 2 then 0 else 9) else 3) else fsE d) := rfl
  by_cases hf : fsE d = 0
  rotate_left
  · have HQ : Hid (dirQ d x = fsE d) := by unfold Hid; rw [HR.out, if_neg hf]
    rw [HQ.out]
    have hb : (fsE d != 0) = true := by simpa using hf
    clear hf h HR HQ HP
    generalize fsE d = r at *
    go_enter Try.func22, Try.ntmps22
    go_wp2_with fail
    refine HF.out.mono ?_
    rintro e w1 ⟨rfl, hb1⟩
    have HB1 : Hid (Below w.heap.size w w1) := hb1
    clear hb1
    go_wp2
    go_ret
    exact ⟨rfl, HB1.out⟩
  · rw [hf] at HF
    by_cases hpl : 0 ≤ x ∧ x < (d.1.length : Int)
    rotate_left
    · have HQ : Hid (dirQ d x = 3) := by unfold Hid; rw [HR.out, if_pos hf, if_neg hpl]
      rw [HQ.out]
      rw [decide_eq_false hpl] at HP
      clear hf h HR HQ hpl
      go_enter Try.func22, Try.ntmps22
      go_wp2_with fail
      refine HF.out.mono ?_
      rintro e w1 ⟨rfl, hb1⟩
      have HB1 : Hid (Below w.heap.size w w1) := hb1
      clear hb1
      go_wp2_with fail
      refine (HP.out _ HB1.out).mono ?_
      rintro e w2 ⟨rfl, rfl⟩
      go_wp2
      go_ret
      exact ⟨rfl, HB1.out⟩
    · rw [decide_eq_true hpl] at HP
      obtain ⟨j, rfl⟩ : ∃ j : Nat, x = (j : Int) := ⟨x.toNat, by omega⟩
      have hj : j < d.1.length := by omega
      have HQ : Hid (dirQ d (j : Int) = if (d.1[j]?.getD id0).1 = 2 then 0 else 9) := by unfold Hid; rw [HR.out, if_pos hf, if_pos hpl]; rfl
      rw [HQ.out]
      have hjn : (j : Int) < ((d.1.length : Nat) : Int) := by omega
      obtain ⟨_, _, q1, _, hAt⟩ := h.ins.open'
      simp only [Value.slice.injEq] at q1
      obtain ⟨rfl, -, rfl⟩ := q1
      obtain ⟨b0, o0, rfl, hI⟩ := hAt j hj
      obtain ⟨aB, cB, _, _, kc, _⟩ := hI
      have HKC : Hid (_ = some (Value.int .i64 (d.1[j]?.getD id0).1)) := kc
      have HC0 : Hid (_ = _) := h.c0
      clear kc hAt HR HQ hpl hf h
      generalize (d.1[j]?.getD id0).1 = kd at *
      generalize d.1.length = n at *
      by_cases hk : kd = 2
      · rw [if_pos hk]
        have hb2 : (kd != 2) = false := by simpa using hk
        clear hk
        go_enter Try.func22, Try.ntmps22
        go_wp2_with fail
        refine HF.out.mono ?_
        rintro e w1 ⟨rfl, hb1⟩
        have HB1 : Hid (Below w.heap.size w w1) := hb1
        have kc1 := cell_later hb1 HKC.out
        have c01 := cell_later hb1 HC0.out
        clear hb1
        go_wp2_with fail
        refine (HP.out _ HB1.out).mono ?_
        rintro e w2 ⟨rfl, rfl⟩
        go_wp2
        go_ret
        exact ⟨rfl, HB1.out⟩
      · rw [if_neg hk]
        have hb2 : (kd != 2) = true := by simpa using hk
        clear hk
        go_enter Try.func22, Try.ntmps22
        go_wp2_with fail
        refine HF.out.mono ?_
        rintro e w1 ⟨rfl, hb1⟩
        have HB1 : Hid (Below w.heap.size w w1) := hb1
        have kc1 := cell_later hb1 HKC.out
        have c01 := cell_later hb1 HC0.out
        clear hb1
        go_wp2_with fail
        refine (HP.out _ HB1.out).mono ?_
        rintro e w2 ⟨rfl, rfl⟩
        go_wp2
        go_ret
        exact ⟨rfl, HB1.out⟩

set_option maxHeartbeats 1600000 in
theorem l8Name_any (w : World) (b o : Nat) (d : FD) (aI : Option Addr) (cI : Nat) (aD : Option Addr) (cD : Nat) (x : Int) (s : ByteArray) (h : FsX w b o d aI cI aD cD) (hsi : sizeInos d.1 ≤ 1048576) (hs : s.size ≤ maxLen) :
    Calls Try.prog 12 #[.pointer (some ⟨b, o, none⟩), .int .i64 x, .string s] w fun e w' => e = .returned (.int .i64 (dirN d x s)) ∧ Below w.heap.size w w' := by
  have HF : Hid (Calls Try.prog 22 #[.pointer (some ⟨b, o, none⟩), .int .i64 x] w fun e w' => e = .returned (.int .i64 (dirQ d x)) ∧ Below w.heap.size w w') := l8Asked_any w b o d _ _ _ _ x h hsi
  have HN : Hid (∀ W, Calls Try.prog 23 #[.string s] W fun e w' => e = .returned (.int .i64 (nameF s)) ∧ w' = W) := fun W => specName_any W s hs
  have HR : Hid (dirN d x s = if dirQ d x = 0 then nameF s else dirQ d x) := rfl
  rw [HR.out]
  clear h hsi hs HR
  generalize dirQ d x = r at *
  generalize nameF s = q at *
  by_cases hr : r = 0
  · rw [if_pos hr]
    subst hr
    go_enter Try.func12, Try.ntmps12
    go_wp2_with fail
    refine HF.out.mono ?_
    rintro e w1 ⟨rfl, hb1⟩
    have HB1 : Hid (Below w.heap.size w w1) := hb1
    clear hb1
    go_wp2_with fail
    refine (HN.out _).mono ?_
    rintro e w2 ⟨rfl, rfl⟩
    go_wp2
    go_ret
    exact ⟨rfl, HB1.out⟩
  · rw [if_neg hr]
    have hb : (r != 0) = true := by simpa using hr
    clear hr
    go_enter Try.func12, Try.ntmps12
    go_wp2_with fail
    refine HF.out.mono ?_
    rintro e w1 ⟨rfl, hb1⟩
    have HB1 : Hid (Below w.heap.size w w1) := hb1
    clear hb1
    go_wp2
    go_ret
    exact ⟨rfl, HB1.out⟩
end Go.Proofs.Ytjabimfinanjoab

namespace Go.Proofs.Ytjabimfinanjoab
open Go.RowKit
set_option maxRecDepth 100000

set_option maxHeartbeats 1600000 in
theorem placeOf_any (w : World) (a : Option Addr) (n c : Nat) (es : List EN) (s : ByteArray) (hn : es.length = n) (hm : n ≤ 4294967296) (hat : AtN w a n es) :
    Calls Try.prog 17 #[.slice a n c, .string s] w fun e w' => e = .returned (.tuple #[.int .i64 ((plcE es s : Nat) : Int), .bool (fndB es s)]) ∧ Below w.heap.size w w' := by
  have HAT : Hid (AtN w a n es) := hat
  have HN : Hid (es.length = n) := hn
  clear hat hn
  go_enter Try.func17, Try.ntmps17
  go_wp2
  go_loopw [10] (fun i wr => ∃ k : Nat, k ≤ n ∧ i = .int .i64 k ∧ Below w.heap.size w wr ∧ ∀ j, j < k → geE s (es[j]?.getD en0) = false) (fun i _ => n - (intOf i).toNat)
  case atStart => exact ⟨0, Nat.zero_le _, rfl, Below.refl _ _, fun j hj => by omega⟩
  case round =>
    obtain ⟨k, hk, rfl, hbl, hz⟩ := hrel
    have HBL : Hid (Below w.heap.size w wr) := hbl
    have HZ : Hid (∀ j, j < k → geE s (es[j]?.getD en0) = false) := hz
    clear hbl hz
    by_cases hlt : k < n
    · obtain ⟨b, off, rfl, c0, c1⟩ := HAT.out k hlt
      replace c0 := cell_later HBL.out c0
      replace c1 := cell_later HBL.out c1
      have HBX : Hid (∀ o : Obj, Below w.heap.size w (wr.alloc o)) := fun o => HBL.out.trans ((later1 _ _).mono HBL.out.size)
      cases hge : geE s (es[k]?.getD en0) with
      | false =>
        have HNX : Hid (∀ j, j < k + 1 → geE s (es[j]?.getD en0) = false) := fun j hj => by
          by_cases e : j = k
          · rw [e]; exact hge
          · exact HZ.out j (by omega)
        have hlt2 : Op.bytesLess (es[k]?.getD en0).1.toList s.toList = true := by unfold geE at hge; simpa using hge
        clear hge HZ
        generalize (es[k]?.getD en0).1 = x at *
        generalize (es[k]?.getD en0).2 = y at *
        go_wp2
        go_roundw
        case rel => exact ⟨k + 1, by omega, by go_num, HBX.out _, HNX.out⟩
        case measure => simp [intOf]; omega
      | true =>
        have HP : Hid (plcE es s = k) := findIdx_is (by rw [HN.out]; exact hlt) hge HZ.out
        have HF : Hid (fndB es s = ((es[k]?.getD en0).1.toList == s.toList)) := by
          unfold Hid fndB
          rw [HP.out, decide_eq_true (by rw [HN.out]; exact hlt), Bool.true_and]
          rfl
        have hlt2 : Op.bytesLess (es[k]?.getD en0).1.toList s.toList = false := by unfold geE at hge; simpa using hge
        clear hge HZ
        generalize (es[k]?.getD en0).1 = x at *
        generalize (es[k]?.getD en0).2 = y at *
        go_wp2_with fail
        go_quiet (fail)
        go_wp2
        go_ret2
        exact ⟨by rw [HP.out, HF.out]; rfl, below_drewN (HBX.out _) _⟩
    · have e : k = n := by omega
      have HP : Hid (plcE es s = n) := by
        have := findIdx_no (p := geE s) (es := es) fun j hj => HZ.out j (by rw [HN.out] at hj; omega)
        rw [HN.out] at this
        exact this
      have HF : Hid (fndB es s = false) := by unfold Hid fndB; rw [HP.out, decide_eq_false (by rw [HN.out]; omega)]; rfl
      subst e
      clear HZ
      go_wp2
      go_ret2
      exact ⟨by rw [HP.out, HF.out]; rfl, HBL.out⟩

/-- Where a name stands among entries, or -1. -/
def at8 (es : List EN) (s : ByteArray) : Int := if idxE es s < es.length then ((idxE es s : Nat) : Int) else -1
set_option maxHeartbeats 1600000 in
theorem l8At_any (w : World) (a : Option Addr) (n c : Nat) (es : List EN) (s : ByteArray) (hn : es.length = n) (hm : n ≤ 4294967296) (hat : AtN w a n es) :
    Calls Try.prog 13 #[.slice a n c, .string s] w fun e w' => e = .returned (.int .i64 (at8 es s)) ∧ w' = w := by
  have HAT : Hid (AtN w a n es) := hat
  have HN : Hid (es.length = n) := hn
  clear hat hn
  go_enter Try.func13, Try.ntmps13
  go_wp2
  go_loop [5] (fun i => ∃ k : Nat, k ≤ n ∧ i = .int .i64 k ∧ ∀ j, j < k → eqE s (es[j]?.getD en0) = false) (fun i => n - (intOf i).toNat)
  case atStart => exact ⟨0, Nat.zero_le _, rfl, fun j hj => by omega⟩
  case round =>
    obtain ⟨k, hk, rfl, hz⟩ := hrel
    have HZ : Hid (∀ j, j < k → eqE s (es[j]?.getD en0) = false) := hz
    clear hz
    by_cases hlt : k < n
    · obtain ⟨b, off, rfl, c0, c1⟩ := HAT.out k hlt
      cases hge : eqE s (es[k]?.getD en0) with
      | false =>
        have HNX : Hid (∀ j, j < k + 1 → eqE s (es[j]?.getD en0) = false) := fun j hj => by
          by_cases e : j = k
          · rw [e]; exact hge
          · exact HZ.out j (by omega)
        have hlt2 : ((es[k]?.getD en0).1.toList == s.toList) = false := hge
        clear hge HZ c1
        generalize (es[k]?.getD en0).1 = x at *
        go_wp2
        go_round
        case rel => exact ⟨k + 1, by omega, by go_num, HNX.out⟩
        case measure => simp [intOf]; omega
      | true =>
        have HP : Hid (at8 es s = (k : Int)) := by
          have h1 : idxE es s = k := findIdx_is (by rw [HN.out]; exact hlt) hge HZ.out
          unfold Hid at8
          rw [h1, if_pos (by rw [HN.out]; exact hlt)]
        have hlt2 : ((es[k]?.getD en0).1.toList == s.toList) = true := hge
        clear hge HZ c1
        generalize (es[k]?.getD en0).1 = x at *
        go_wp2
        go_ret
        exact ⟨ret_int HP.out.symm, rfl⟩
    · have HP : Hid (at8 es s = -1) := by
        have h1 : idxE es s = es.length := findIdx_no (p := eqE s) (es := es) fun j hj => HZ.out j (by rw [HN.out] at hj; omega)
        unfold Hid at8
        rw [h1, if_neg (by omega)]
      clear HZ
      go_wp2
      go_ret
      exact ⟨ret_int HP.out.symm, rfl⟩

/-- What lies at the place of a directory: its entries. -/
theorem FsR.dir {w : World} {a1 : Option Addr} {n1 c1 : Nat} {v2 : Value} {d : FD} (h : FsR w (.slice a1 n1 c1) v2 d) {j : Nat} (hj : j < d.1.length) : ∃ b0 o0 aE cE, a1 = some ⟨b0, o0, none⟩ ∧ n1 = d.1.length ∧ w.cell? ⟨b0, o0 + j * 5 + 4, none⟩ = some (.slice aE (entA d j).length cE) ∧ Ents w (.slice aE (entA d j).length cE) (entA d j) := by
  obtain ⟨_, _, e1, _, hAt⟩ := h.1.open'
  simp only [Value.slice.injEq] at e1
  obtain ⟨rfl, rfl, rfl⟩ := e1
  obtain ⟨b0, o0, rfl, hI⟩ := hAt j hj
  obtain ⟨aB, cB, aE, cE, _, _, _, _, k4, hR⟩ := hI
  exact ⟨b0, o0, aE, cE, rfl, rfl, k4, hR.2.2⟩

end Go.Proofs.Ytjabimfinanjoab

namespace Go.Proofs.Ytjabimfinanjoab
open Go.RowKit
set_option maxRecDepth 100000

theorem dirN_in {d : FD} {x : Int} {s : ByteArray} (h : dirN d x s = 0) : dirQ d x = 0 := by
  unfold dirN at h
  by_cases e : dirQ d x = 0
  · exact e
  · rw [if_neg e] at h; exact absurd h e
theorem dirN_name {d : FD} {x : Int} {s : ByteArray} (h : dirN d x s = 0) : nameF s = 0 := by
  have h' := dirN_in h
  unfold dirN at h
  rw [if_pos h'] at h
  exact h
set_option maxHeartbeats 3200000 in
theorem implLookU (w : World) (a1 : Option Addr) (n1 c1 : Nat) (a2 : Option Addr) (n2 c2 : Nat) (d : FD) (x : Int) (s : ByteArray) (h : FsR w (.slice a1 n1 c1) (.slice a2 n2 c2) d) (hs : sizeFs d ≤ 1048576) (hl : s.size ≤ 1048576) :
    Calls Try.prog 7 #[.agg #[.slice a1 n1 c1, .slice a2 n2 c2], .int .i64 x, .string s] w fun e w' => e = .returned (.agg #[.int .i64 (lookR d x s).1, .int .i64 (lookR d x s).2]) ∧ Below w.heap.size w w' := by
  have hml : s.size ≤ maxLen := by unfold maxLen; omega
  have HB0 : Hid (Below w.heap.size w ((w.alloc (.cells #[.slice a1 n1 c1, .slice a2 n2 c2] 32)).alloc (.cells #[.int .i64 0, .int .i64 0] 28))) := later2 _ _ _
  have HX : Hid (Bx ((w.alloc (.cells #[.slice a1 n1 c1, .slice a2 n2 c2] 32)).alloc (.cells #[.int .i64 0, .int .i64 0] 28)) w.heap.size [.slice a1 n1 c1, .slice a2 n2 c2]) := (Bx.new w [.slice a1 n1 c1, .slice a2 n2 c2] _).later (later1 _ _)
  have HRB : Hid (OwnRow ((w.alloc (.cells #[.slice a1 n1 c1, .slice a2 n2 c2] 32)).alloc (.cells #[.int .i64 0, .int .i64 0] 28)) (w.heap.size + 1) 2 (fun i => if i = 0 then .int .i64 0 else .int .i64 0)) := by
    have := OwnRow.newS (w.alloc (.cells #[.slice a1 n1 c1, .slice a2 n2 c2] 32)) (.int .i64 0) (.int .i64 0) 28
    rw [World.size_alloc] at this
    exact this
  have HF : Hid (∀ W, Below w.heap.size w W → Calls Try.prog 16 #[.agg #[.slice a1 n1 c1, .slice a2 n2 c2], .int .i64 x, .string s] W fun e w' => e = .returned (.int .i64 (dirN d x s)) ∧ Below W.heap.size W w') := fun W hW => dirNameFault_any W _ _ _ _ _ _ d x s (h.later hW) (by unfold sizeFs at hs; omega) hml
  have HRR : Hid (lookR d x s = if dirN d x s = 0 then (if idxE (entA d x.toNat) s < (entA d x.toNat).length then (0, ((entA d x.toNat)[idxE (entA d x.toNat) s]?.getD en0).2) else (4, 0)) else (dirN d x s, 0)) := rfl
  rw [HRR.out]
  clear HRR
  by_cases hq : dirN d x s = 0
  rotate_left
  · rw [if_neg hq]
    have hb : (dirN d x s != 0) = true := by simpa using hq
    clear hq h hs
    generalize dirN d x s = r at *
    go_enter Try.func7, Try.ntmps7
    go_wp2_with fail
    generalize ((w.alloc (.cells #[.slice a1 n1 c1, .slice a2 n2 c2] 32)).alloc (.cells #[.int .i64 0, .int .i64 0] 28)) = W0 at *
    refine (HF.out _ HB0.out).mono ?_
    rintro e w1 ⟨rfl, hb1⟩
    have HB1 : Hid (Below w.heap.size w w1) := HB0.out.trans (hb1.mono HB0.out.size)
    have hrow := HRB.out.later hb1
    have t0 := hrow.cell (i := 0) (by omega)
    have t1 := hrow.cell (i := 1) (by omega)
    have s0 := hrow.frozen 0
    have s1 := hrow.frozen 1
    simp only [ite_self] at t0 t1
    clear hb1 hrow
    go_wp2
    exact bodyPost_ret (v := .agg #[.int .i64 r, .int .i64 0]) (by simp [results, Try.results7, go_sem, t0, t1]) rfl ⟨rfl, (HB1.out.setCell (by simp) _).setCell (by simp) _⟩
  · rw [if_pos hq]
    have hq0 : dirQ d x = 0 := dirN_in hq
    have hds := dirS hq0
    obtain ⟨_, hp, _⟩ := dirQ_in hq0
    obtain ⟨j, rfl⟩ : ∃ j : Nat, x = (j : Int) := ⟨x.toNat, by omega⟩
    rw [Int.toNat_natCast] at hds ⊢
    obtain ⟨b0, o0, aE, cE, rfl, rfl, k4, hE⟩ := h.dir hds.lt
    have HK4 : Hid (_ = _) := k4
    have hjn : (j : Int) < ((d.1.length : Nat) : Int) := by omega
    have hlt := hds.lt
    have h6 := hds.six
    obtain ⟨_, _, eE, _, _, hAt⟩ := hE.open'
    simp only [Value.slice.injEq] at eE
    obtain ⟨rfl, -, rfl⟩ := eE
    rw [hq] at HF
    have HPL : Hid (∀ W, Below w.heap.size w W → Calls Try.prog 17 #[.slice aE (entA d j).length cE, .string s] W fun e w' => e = .returned (.tuple #[.int .i64 ((plcE (entA d j) s : Nat) : Int), .bool (fndB (entA d j) s)]) ∧ Below W.heap.size W w') := fun W hW => placeOf_any W aE _ cE (entA d j) s rfl (by omega) (hAt.later hW)
    rw [fnd_iff hds.rises] at HPL
    by_cases hi : idxE (entA d j) s < (entA d j).length
    · rw [if_pos hi]
      rw [decide_eq_true hi, idx_plc hds.rises hi] at HPL
      obtain ⟨bE, oE, rfl, _, l1⟩ := hAt _ hi
      have HL1 : Hid (_ = _) := l1
      clear hq hds hp hE k4 h hAt l1 hq0
      generalize ((entA d j)[idxE (entA d j) s]?.getD en0).2 = y at *
      generalize idxE (entA d j) s = i at *
      generalize (entA d j).length = m at *
      generalize d.1.length = n at *
      have hiI : (i : Int) < (m : Int) := by omega
      go_enter Try.func7, Try.ntmps7
      go_wp2_with fail
      generalize ((w.alloc (.cells #[.slice (some ⟨b0, o0, none⟩) n c1, .slice a2 n2 c2] 32)).alloc (.cells #[.int .i64 0, .int .i64 0] 28)) = W0 at *
      refine (HF.out _ HB0.out).mono ?_
      rintro e w1 ⟨rfl, hb1⟩
      have HB1 : Hid (Below w.heap.size w w1) := HB0.out.trans (hb1.mono HB0.out.size)
      have HR1 : Hid (OwnRow w1 (w.heap.size + 1) 2 _) := HRB.out.later hb1
      have y0 := (HX.out.later hb1) 0 _ rfl
      have y1 := (HX.out.later hb1) 1 _ rfl
      have k1 := cell_later HB1.out HK4.out
      have l1 := cell_later HB1.out HL1.out
      clear hb1
      go_wp2_with fail
      refine (HPL.out _ HB1.out).mono ?_
      rintro e w2 ⟨rfl, hb2⟩
      have HB2 : Hid (Below w.heap.size w w2) := HB1.out.trans (hb2.mono HB1.out.size)
      have l2 := cell_later hb2 l1
      have hrow := HR1.out.later hb2
      have t0 := hrow.cell (i := 0) (by omega)
      have t1 := hrow.cell (i := 1) (by omega)
      have s0 := hrow.frozen 0
      have s1 := hrow.frozen 1
      simp only [ite_self] at t0 t1
      clear hb2 hrow y0 y1 k1 l1
      go_wp2
      exact bodyPost_ret (v := .agg #[.int .i64 0, .int .i64 y]) (by simp [results, Try.results7, go_sem, t0, t1]) rfl ⟨rfl, (HB2.out.setCell (by simp) _).setCell (by simp) _⟩
    · rw [if_neg hi]
      rw [decide_eq_false hi] at HPL
      clear hq hds hp hE k4 h hAt hq0 hi
      generalize plcE (entA d j) s = i at *
      generalize (entA d j).length = m at *
      generalize d.1.length = n at *
      go_enter Try.func7, Try.ntmps7
      go_wp2_with fail
      generalize ((w.alloc (.cells #[.slice (some ⟨b0, o0, none⟩) n c1, .slice a2 n2 c2] 32)).alloc (.cells #[.int .i64 0, .int .i64 0] 28)) = W0 at *
      refine (HF.out _ HB0.out).mono ?_
      rintro e w1 ⟨rfl, hb1⟩
      have HB1 : Hid (Below w.heap.size w w1) := HB0.out.trans (hb1.mono HB0.out.size)
      have HR1 : Hid (OwnRow w1 (w.heap.size + 1) 2 _) := HRB.out.later hb1
      have y0 := (HX.out.later hb1) 0 _ rfl
      have y1 := (HX.out.later hb1) 1 _ rfl
      have k1 := cell_later HB1.out HK4.out
      clear hb1
      go_wp2_with fail
      refine (HPL.out _ HB1.out).mono ?_
      rintro e w2 ⟨rfl, hb2⟩
      have HB2 : Hid (Below w.heap.size w w2) := HB1.out.trans (hb2.mono HB1.out.size)
      have hrow := HR1.out.later hb2
      have t0 := hrow.cell (i := 0) (by omega)
      have t1 := hrow.cell (i := 1) (by omega)
      have s0 := hrow.frozen 0
      have s1 := hrow.frozen 1
      simp only [ite_self] at t0 t1
      clear hb2 hrow y0 y1 k1
      go_wp2
      exact bodyPost_ret (v := .agg #[.int .i64 4, .int .i64 0]) (by simp [results, Try.results7, go_sem, t0, t1]) rfl ⟨rfl, (HB2.out.setCell (by simp) _).setCell (by simp) _⟩

set_option maxHeartbeats 3200000 in
theorem specLookU (w : World) (a1 : Option Addr) (n1 c1 : Nat) (a2 : Option Addr) (n2 c2 : Nat) (d : FD) (x : Int) (s : ByteArray) (h : FsR w (.slice a1 n1 c1) (.slice a2 n2 c2) d) (hs : sizeFs d ≤ 1048576) (hl : s.size ≤ 1048576) :
    Calls Try.prog 5 #[.agg #[.slice a1 n1 c1, .slice a2 n2 c2], .int .i64 x, .string s] w fun e w' => e = .returned (.agg #[.int .i64 (lookR d x s).1, .int .i64 (lookR d x s).2]) ∧ Below w.heap.size w w' := by
  have hml : s.size ≤ maxLen := by unfold maxLen; omega
  have HB0 : Hid (Below w.heap.size w ((w.alloc (.cells #[.slice a1 n1 c1, .slice a2 n2 c2] 32)).alloc (.cells #[.int .i64 0, .int .i64 0] 28))) := later2 _ _ _
  have HX : Hid (Bx ((w.alloc (.cells #[.slice a1 n1 c1, .slice a2 n2 c2] 32)).alloc (.cells #[.int .i64 0, .int .i64 0] 28)) w.heap.size [.slice a1 n1 c1, .slice a2 n2 c2]) := (Bx.new w [.slice a1 n1 c1, .slice a2 n2 c2] _).later (later1 _ _)
  have HRB : Hid (OwnRow ((w.alloc (.cells #[.slice a1 n1 c1, .slice a2 n2 c2] 32)).alloc (.cells #[.int .i64 0, .int .i64 0] 28)) (w.heap.size + 1) 2 (fun i => if i = 0 then .int .i64 0 else .int .i64 0)) := by
    have := OwnRow.newS (w.alloc (.cells #[.slice a1 n1 c1, .slice a2 n2 c2] 32)) (.int .i64 0) (.int .i64 0) 28
    rw [World.size_alloc] at this
    exact this
  obtain ⟨hx0, -, -⟩ := FsX.box h 32
  have HF : Hid (∀ W, Below ((w.alloc (.cells #[.slice a1 n1 c1, .slice a2 n2 c2] 32)).alloc (.cells #[.int .i64 0, .int .i64 0] 28)).heap.size ((w.alloc (.cells #[.slice a1 n1 c1, .slice a2 n2 c2] 32)).alloc (.cells #[.int .i64 0, .int .i64 0] 28)) W → Calls Try.prog 12 #[.pointer (some ⟨w.heap.size, 0, none⟩), .int .i64 x, .string s] W fun e w' => e = .returned (.int .i64 (dirN d x s)) ∧ Below W.heap.size W w') := fun W hW => l8Name_any W _ _ d _ _ _ _ x s ((hx0.later (later1 _ _)).later hW) (by unfold sizeFs at hs; omega) hml
  clear hx0
  have HRR : Hid (lookR d x s = if dirN d x s = 0 then (if idxE (entA d x.toNat) s < (entA d x.toNat).length then (0, ((entA d x.toNat)[idxE (entA d x.toNat) s]?.getD en0).2) else (4, 0)) else (dirN d x s, 0)) := rfl
  rw [HRR.out]
  clear HRR
  by_cases hq : dirN d x s = 0
  rotate_left
  · rw [if_neg hq]
    have hb : (dirN d x s != 0) = true := by simpa using hq
    clear hq h hs
    generalize dirN d x s = r at *
    go_enter Try.func5, Try.ntmps5
    go_wp2_with fail
    generalize ((w.alloc (.cells #[.slice a1 n1 c1, .slice a2 n2 c2] 32)).alloc (.cells #[.int .i64 0, .int .i64 0] 28)) = W0 at *
    refine (HF.out _ (Below.refl _ _)).mono ?_
    rintro e w1 ⟨rfl, hb1⟩
    have HB1 : Hid (Below w.heap.size w w1) := HB0.out.trans (hb1.mono HB0.out.size)
    have hrow := HRB.out.later hb1
    have t0 := hrow.cell (i := 0) (by omega)
    have t1 := hrow.cell (i := 1) (by omega)
    have s0 := hrow.frozen 0
    have s1 := hrow.frozen 1
    simp only [ite_self] at t0 t1
    clear hb1 hrow
    go_wp2
    exact bodyPost_ret (v := .agg #[.int .i64 r, .int .i64 0]) (by simp [results, Try.results5, go_sem, t0, t1]) rfl ⟨rfl, (HB1.out.setCell (by simp) _).setCell (by simp) _⟩
  · rw [if_pos hq]
    have hq0 : dirQ d x = 0 := dirN_in hq
    have hds := dirS hq0
    obtain ⟨_, hp, _⟩ := dirQ_in hq0
    obtain ⟨j, rfl⟩ : ∃ j : Nat, x = (j : Int) := ⟨x.toNat, by omega⟩
    rw [Int.toNat_natCast] at hds ⊢
    obtain ⟨b0, o0, aE, cE, rfl, rfl, k4, hE⟩ := h.dir hds.lt
    have HK4 : Hid (_ = _) := k4
    have hjn : (j : Int) < ((d.1.length : Nat) : Int) := by omega
    have hlt := hds.lt
    have h6 := hds.six
    obtain ⟨_, _, eE, _, _, hAt⟩ := hE.open'
    simp only [Value.slice.injEq] at eE
    obtain ⟨rfl, -, rfl⟩ := eE
    rw [hq] at HF
    have HPL : Hid (∀ W, Below w.heap.size w W → Calls Try.prog 13 #[.slice aE (entA d j).length cE, .string s] W fun e w' => e = .returned (.int .i64 (at8 (entA d j) s)) ∧ w' = W) := fun W hW => l8At_any W aE _ cE (entA d j) s rfl (by omega) (hAt.later hW)
    by_cases hi : idxE (entA d j) s < (entA d j).length
    · rw [if_pos hi]
      have ha8 : at8 (entA d j) s = ((idxE (entA d j) s : Nat) : Int) := by unfold at8; rw [if_pos hi]
      rw [ha8] at HPL
      clear ha8
      obtain ⟨bE, oE, rfl, _, l1⟩ := hAt _ hi
      have HL1 : Hid (_ = _) := l1
      clear hq hds hp hE k4 h hAt l1 hq0
      generalize ((entA d j)[idxE (entA d j) s]?.getD en0).2 = y at *
      generalize idxE (entA d j) s = i at *
      generalize (entA d j).length = m at *
      generalize d.1.length = n at *
      have hiI : (i : Int) < (m : Int) := by omega
      go_enter Try.func5, Try.ntmps5
      go_wp2_with fail
      generalize ((w.alloc (.cells #[.slice (some ⟨b0, o0, none⟩) n c1, .slice a2 n2 c2] 32)).alloc (.cells #[.int .i64 0, .int .i64 0] 28)) = W0 at *
      refine (HF.out _ (Below.refl _ _)).mono ?_
      rintro e w1 ⟨rfl, hb1⟩
      have HB1 : Hid (Below w.heap.size w w1) := HB0.out.trans (hb1.mono HB0.out.size)
      have HR1 : Hid (OwnRow w1 (w.heap.size + 1) 2 _) := HRB.out.later hb1
      have y0 := (HX.out.later hb1) 0 _ rfl
      have y1 := (HX.out.later hb1) 1 _ rfl
      have k1 := cell_later HB1.out HK4.out
      have l1 := cell_later HB1.out HL1.out
      have hrow := HR1.out
      have t0 := hrow.cell (i := 0) (by omega)
      have t1 := hrow.cell (i := 1) (by omega)
      have s0 := hrow.frozen 0
      have s1 := hrow.frozen 1
      simp only [ite_self] at t0 t1
      clear hb1 hrow
      go_wp2_with fail
      refine (HPL.out _ HB1.out).mono ?_
      rintro e w2 ⟨rfl, rfl⟩
      go_wp2
      exact bodyPost_ret (v := .agg #[.int .i64 0, .int .i64 y]) (by simp [results, Try.results5, go_sem, t0, t1]) rfl ⟨rfl, (HB1.out.setCell (by simp) _).setCell (by simp) _⟩
    · rw [if_neg hi]
      have ha8 : at8 (entA d j) s = -1 := by unfold at8; rw [if_neg hi]
      rw [ha8] at HPL
      clear ha8
      clear hq hds hp hE k4 h hAt hq0 hi
      generalize plcE (entA d j) s = i at *
      generalize (entA d j).length = m at *
      generalize d.1.length = n at *
      go_enter Try.func5, Try.ntmps5
      go_wp2_with fail
      generalize ((w.alloc (.cells #[.slice (some ⟨b0, o0, none⟩) n c1, .slice a2 n2 c2] 32)).alloc (.cells #[.int .i64 0, .int .i64 0] 28)) = W0 at *
      refine (HF.out _ (Below.refl _ _)).mono ?_
      rintro e w1 ⟨rfl, hb1⟩
      have HB1 : Hid (Below w.heap.size w w1) := HB0.out.trans (hb1.mono HB0.out.size)
      have HR1 : Hid (OwnRow w1 (w.heap.size + 1) 2 _) := HRB.out.later hb1
      have y0 := (HX.out.later hb1) 0 _ rfl
      have y1 := (HX.out.later hb1) 1 _ rfl
      have k1 := cell_later HB1.out HK4.out
      have hrow := HR1.out
      have t0 := hrow.cell (i := 0) (by omega)
      have t1 := hrow.cell (i := 1) (by omega)
      have s0 := hrow.frozen 0
      have s1 := hrow.frozen 1
      simp only [ite_self] at t0 t1
      clear hb1 hrow
      go_wp2_with fail
      refine (HPL.out _ HB1.out).mono ?_
      rintro e w2 ⟨rfl, rfl⟩
      go_wp2
      exact bodyPost_ret (v := .agg #[.int .i64 4, .int .i64 0]) (by simp [results, Try.results5, go_sem, t0, t1]) rfl ⟨rfl, (HB1.out.setCell (by simp) _).setCell (by simp) _⟩
end Go.Proofs.Ytjabimfinanjoab

namespace Go.Proofs.Ytjabimfinanjoab
open Go.ChangeShapes Go.WideShapes Go.ChangeAt Go.RowKit Go.Deep
set_option maxRecDepth 100000

section
variable {H : Type} {enc : TypeId × Value → H} {P : Program} {w : World} {base : Nat} {held : Bool}

theorem addr_of {a : Addr} {v : Value} (h : w.cell? (a.add 0) = some v) : a = ⟨a.block, a.off, none⟩ := by
  obtain ⟨b, o, s⟩ := a
  have : s = none := by simpa [Addr.add] using World.cell?_spot h
  subst this; rfl
theorem add_plain (b off k : Nat) : (⟨b, off, none⟩ : Addr).add k = ⟨b, off + k, none⟩ := by
  by_cases h : k = 0
  · subst h; simp [Addr.add]
  · simp [Addr.add, h]

theorem open_Ints {t e : TypeId} {fuel : Nat} {v : Value} {x : DataW H × List MemPlace} (ht : P.underlying t = some (.slice e)) (he : P.underlying e = some (.int .i64)) (ce : P.cellsOf e = 1) (h : DataW.trod enc P w base (fun _ => true) held fuel t [v] = some x) :
    ∃ zs, Ints w v zs := by
  rcases open_ints ht he ce h with ⟨hcs, _⟩ | ⟨a, len, cap, zs, hcs, _, hl, hm, hz, _, hcell, _⟩
  · simp only [List.cons.injEq, and_true] at hcs
    exact ⟨[], Or.inl ⟨rfl, none, 0, hcs⟩⟩
  · simp only [List.cons.injEq, and_true] at hcs
    simp only [if_true] at hz
    by_cases h0 : len = 0
    · subst h0; exact ⟨[], Or.inl ⟨rfl, some a, cap, hcs⟩⟩
    · have ha := addr_of (hcell 0 (by omega))
      refine ⟨zs.take len, Or.inr ⟨a.block, a.off, cap, ?_, ?_, fun k hk => ?_⟩⟩
      · rw [hcs, List.length_take, Nat.min_eq_left (by omega), ← ha]
      · rw [List.length_take]; omega
      · rw [List.length_take] at hk
        have h1 := hcell k (by omega)
        rw [ha, add_plain] at h1
        rw [h1, List.getElem?_take, if_pos (by omega)]
        rfl

theorem open_IntsS {t e q : TypeId} {fuel : Nat} {v : Value} {x : DataW H × List MemPlace} (ht : P.underlying t = some (.slice e)) (he : P.underlying e = some (.slice q)) (hq : P.underlying q = some (.int .i64)) (ce : P.cellsOf e = 1) (cq : P.cellsOf q = 1)
    (h : DataW.trod enc P w base (fun _ => true) held fuel t [v] = some x) : ∃ zss, IntsS w v zss := by
  rcases open_slice1 ht ce h with ⟨hcs, _⟩ | ⟨a, len, cap, m, n, V, D, Pl, hcs, _, hl, hm, hmm, _, hx⟩
  · simp only [List.cons.injEq, and_true] at hcs
    exact ⟨[], Or.inl ⟨rfl, none, 0, hcs⟩⟩
  · simp only [List.cons.injEq, and_true] at hcs
    simp only [if_true] at hmm
    by_cases h0 : len = 0
    · subst h0; exact ⟨[], Or.inl ⟨rfl, some a, cap, hcs⟩⟩
    · have ha := addr_of (hx 0 (by omega)).1
      obtain ⟨Z, hZ⟩ := choose_lt (α := List Int) (n := m) (p := fun i zs => Ints w (V i) zs) fun i hi => open_Ints he hq cq (hx i hi).2
      refine ⟨(List.range len).map Z, Or.inr ⟨a.block, a.off, cap, V, ?_, ?_, fun k hk => ?_⟩⟩
      · simp only [List.length_map, List.length_range]; rw [hcs, ← ha]
      · simp only [List.length_map, List.length_range]; omega
      · simp only [List.length_map, List.length_range] at hk
        have h1 := (hx k (by omega)).1
        rw [ha, add_plain] at h1
        refine ⟨h1, ?_⟩
        have := hZ k (by omega)
        simpa [hk] using this

theorem open_Puts {t e q : TypeId} {f0 f1 : Field} {fuel : Nat} {v : Value} {x : DataW H × List MemPlace} (ht : P.underlying t = some (.slice e)) (he : P.underlying e = some (.struct #[f0, f1]))
    (ce : P.cellsOf e = 2) (o0 : f0.offset = 0) (o1 : f1.offset = 1) (c0 : P.cellsOf f0.type = 1) (c1 : P.cellsOf f1.type = 1) (h0 : P.underlying f0.type = some (.int .i64)) (h1 : P.underlying f1.type = some (.slice q)) (hq : P.underlying q = some (.int .i64)) (cq : P.cellsOf q = 1)
    (h : DataW.trod enc P w base (fun _ => true) held fuel t [v] = some x) : ∃ ps, Puts w v ps := by
  rcases open_slice_pairs ht he ce o0 o1 c0 c1 h with ⟨hcs, _⟩ | ⟨a, len, cap, m, n, V0, V1, D0, D1, P0, P1, hcs, _, hl, hm, hmm, _, hx⟩
  · simp only [List.cons.injEq, and_true] at hcs
    exact ⟨[], Or.inl ⟨rfl, none, 0, hcs⟩⟩
  · simp only [List.cons.injEq, and_true] at hcs
    simp only [if_true] at hmm
    by_cases hl0 : len = 0
    · subst hl0; exact ⟨[], Or.inl ⟨rfl, some a, cap, hcs⟩⟩
    · have ha := addr_of (by simpa using (hx 0 (by omega)).1)
      obtain ⟨Z, hZ⟩ := choose_lt (α := Int × List Int) (n := m) (p := fun i z => V0 i = .int .i64 z.1 ∧ Ints w (V1 i) z.2) fun i hi => by
        obtain ⟨_, _, g0, g1⟩ := hx i hi
        obtain ⟨zs, hzs⟩ := open_Ints h1 hq cq g1
        obtain ⟨y, hy, _⟩ := DataW.trod_int h0 g0
        simp only [List.cons.injEq, and_true] at hy
        exact ⟨(y, zs), hy, hzs⟩
      refine ⟨(List.range len).map Z, Or.inr ⟨a.block, a.off, cap, V1, ?_, ?_, fun k hk => ?_⟩⟩
      · simp only [List.length_map, List.length_range]; rw [hcs, ← ha]
      · simp only [List.length_map, List.length_range]; omega
      · simp only [List.length_map, List.length_range] at hk
        obtain ⟨e0, e1, _, _⟩ := hx k (by omega)
        rw [ha, add_plain] at e0 e1
        obtain ⟨g0, g1⟩ := hZ k (by omega)
        rw [g0] at e0
        have hg : ((List.range len).map Z)[k]?.getD (0, []) = Z k := by simp [hk]
        rw [hg]
        exact ⟨e0, e1, g1⟩
end

end Go.Proofs.Ytjabimfinanjoab

namespace Go.Proofs.Ytjabimfinanjoab
open Go.ChangeShapes Go.WideShapes Go.ChangeAt Go.RowKit Go.Joins
set_option maxRecDepth 100000

theorem Try.own : ownKnob Try.prog.godebug = none := by kernel_rfl
theorem Try.laidOut : laidOutB Try.prog = true := by kernel_rfl
theorem Try.cellsInt : Try.prog.cellsOf 2 = 1 := by kernel_rfl
theorem Try.cellsInts : Try.prog.cellsOf 42 = 1 := by kernel_rfl

end Go.Proofs.Ytjabimfinanjoab

namespace Go.Proofs.Ytjabimfinanjoab
open Go.ChangeShapes Go.WideShapes Go.ChangeAt Go.RowKit Go.Joins Go.Deep
set_option maxRecDepth 100000

theorem open_Ents {H : Type} {enc : TypeId × Value → H} {P : Program} {w : World} {base : Nat} {held : Bool} {t e : TypeId} {f0 f1 : Field} {fuel : Nat} {v : Value} {x : DataW H × List MemPlace} (ht : P.underlying t = some (.slice e)) (he : P.underlying e = some (.struct #[f0, f1]))
    (ce : P.cellsOf e = 2) (o0 : f0.offset = 0) (o1 : f1.offset = 1) (c0 : P.cellsOf f0.type = 1) (c1 : P.cellsOf f1.type = 1) (h0 : P.underlying f0.type = some .string) (h1 : P.underlying f1.type = some (.int .i64))
    (h : DataW.trod enc P w base (fun _ => true) held fuel t [v] = some x) : ∃ es, Ents w v es := by
  rcases open_slice ht h with ⟨hcs, _⟩ | ⟨a, len, cap, m, n, D, Pl, hcs, hb, hl, hm, hmm, _, hx⟩
  · simp only [List.cons.injEq, and_true] at hcs
    exact ⟨[], by rw [hcs]; exact Ents.nil w none 0⟩
  · simp only [List.cons.injEq, and_true] at hcs
    simp only [if_true] at hmm
    by_cases hl0 : len = 0
    · subst hl0; exact ⟨[], by rw [hcs]; exact Ents.nil w (some a) cap⟩
    · have each : ∀ i, i < m → ∃ q : EN, w.cell? (a.add (i * 2)) = some (.string q.1) ∧ w.cell? (a.add (i * 2 + 1)) = some (.int .i64 q.2) ∧ q.1.size ≤ maxLen := by
        intro i hi
        obtain ⟨cs', k1, k2⟩ := hx i hi
        rw [ce] at k1
        obtain ⟨_, hlen, hcell⟩ := World.cells?_some k1
        obtain ⟨xs, k, hk, hxy, _, hxl, hf⟩ := DataW.trod_struct he k2
        match xs, hxl, cs', hlen with
        | [y0, y1], _, [v0, v1], _ =>
          have g0 := hf 0 f0 rfl
          have g1 := hf 1 f1 rfl
          simp [o0, o1, c0, c1] at g0 g1
          have e0 := hcell 0 (by omega)
          have e1 := hcell 1 (by omega)
          rw [add_add] at e0 e1
          obtain ⟨z0, hz0, _, hs⟩ := DataW.trod_string h0 g0
          obtain ⟨z1, hz1, _⟩ := DataW.trod_int h1 g1
          simp only [List.cons.injEq, and_true] at hz0 hz1
          subst hz0 hz1
          exact ⟨(z0, z1), by simpa using e0, by simpa using e1, hs⟩
      obtain ⟨q, hq⟩ := choose_lt each
      have ha := addr_of (by simpa using (hq 0 (by omega)).1)
      refine ⟨(List.range len).map q, some a, cap, ?_, ?_, fun k hk => ?_⟩
      · simp only [List.length_map, List.length_range]; exact hcs
      · simp only [List.length_map, List.length_range]
        refine ⟨by omega, by omega, fun k => ?_⟩
        by_cases hk : k < len
        · have hg : ((List.range len).map q)[k]?.getD en0 = q k := by simp [hk]
          rw [hg]
          exact (hq k (by omega)).2.2
        · rw [List.getElem?_eq_none (by simpa using Nat.le_of_not_lt hk)]
          simp [en0, ByteArray.size]
      · simp only [List.length_map, List.length_range] at hk
        obtain ⟨e0, e1, _⟩ := hq k (by omega)
        rw [ha, add_plain] at e0 e1
        have hg : ((List.range len).map q)[k]?.getD en0 = q k := by simp [hk]
        rw [hg]
        exact ⟨a.block, a.off, by rw [← ha], e0, e1⟩

theorem open_cap {H : Type} {enc : TypeId × Value → H} {P : Program} {w : World} {base : Nat} {held : Bool} {t e : TypeId} {fuel : Nat} {v : Value} {x : DataW H × List MemPlace} (ht : P.underlying t = some (.slice e)) (h : DataW.trod enc P w base (fun _ => true) held fuel t [v] = some x) : capOK v := by
  rcases DataW.trod_slice ht h with ⟨hcs, _⟩ | ⟨a, len, cap, _, _, _, _, hcs, _, _, hl, _⟩
  · simp only [List.cons.injEq, and_true] at hcs
    exact ⟨none, 0, 0, hcs, Nat.le_refl _⟩
  · simp only [List.cons.injEq, and_true] at hcs
    exact ⟨some a, len, cap, hcs, hl⟩
theorem Try.cellsStr : Try.prog.cellsOf 9 = 1 := by kernel_rfl
theorem Try.cellsEnt : Try.prog.cellsOf 80 = 2 := by kernel_rfl
theorem Try.cellsEnts : Try.prog.cellsOf 56 = 1 := by kernel_rfl
theorem Try.cellsIno : Try.prog.cellsOf 58 = 5 := by kernel_rfl
theorem array5 {α : Type} {a : Array α} (h : a.size = 5) : ∃ x0 x1 x2 x3 x4, a = #[x0, x1, x2, x3, x4] := by
  obtain ⟨l⟩ := a
  match l, h with
  | [x0, x1, x2, x3, x4], _ => exact ⟨x0, x1, x2, x3, x4, rfl⟩
theorem open_InoU {H : Type} {enc : TypeId × Value → H} {W : World} {r : Reach} {b0 : Nat} {v : Value} {d : DataW H} {p : List MemPlace} (hv : Value.okWide Try.prog W r b0 58 v) (h : DataW.Trod enc Try.prog W 0 (fun _ => true) true 58 v d p) :
    ∃ v0 v1 v2 vB vE id, v = .agg #[v0, v1, v2, vB, vE] ∧ InoR W v0 v1 v2 vB vE id := by
  obtain ⟨cs, rfl, hsz⟩ := okWide_struct Try.underlying58 hv
  obtain ⟨c0, c1, c2, c3, c4, rfl⟩ := array5 (hsz.trans Try.cellsIno)
  obtain ⟨fuel, hf⟩ := h
  obtain ⟨xs, k, hk, hxy, _, hxl, hg⟩ := DataW.trod_struct Try.underlying58 hf
  match xs, hxl with
  | [y0, y1, y2, y3, y4], _ =>
    have g0 : DataW.trod enc Try.prog W 0 (fun _ => true) true k 2 [c0] = some y0 := by simpa [Value.cells, Try.cellsInt] using hg 0 _ rfl
    have g1 : DataW.trod enc Try.prog W 0 (fun _ => true) true k 2 [c1] = some y1 := by simpa [Value.cells, Try.cellsInt] using hg 1 _ rfl
    have g2 : DataW.trod enc Try.prog W 0 (fun _ => true) true k 2 [c2] = some y2 := by simpa [Value.cells, Try.cellsInt] using hg 2 _ rfl
    have g3 : DataW.trod enc Try.prog W 0 (fun _ => true) true k 42 [c3] = some y3 := by simpa [Value.cells, Try.cellsInts] using hg 3 _ rfl
    have g4 : DataW.trod enc Try.prog W 0 (fun _ => true) true k 56 [c4] = some y4 := by simpa [Value.cells, Try.cellsEnts] using hg 4 _ rfl
    obtain ⟨z0, hz0, _⟩ := DataW.trod_int Try.underlying2 g0
    obtain ⟨z1, hz1, _⟩ := DataW.trod_int Try.underlying2 g1
    obtain ⟨z2, hz2, _⟩ := DataW.trod_int Try.underlying2 g2
    simp only [List.cons.injEq, and_true] at hz0 hz1 hz2
    obtain ⟨bs, hbs⟩ := open_Ints Try.underlying42 Try.underlying2 Try.cellsInt g3
    obtain ⟨es, hes⟩ := open_Ents Try.underlying56 Try.underlying80 Try.cellsEnt rfl rfl Try.cellsStr Try.cellsInt Try.underlying9 Try.underlying2 g4
    exact ⟨c0, c1, c2, c3, c4, (z0, z1, z2, bs, es), rfl, ⟨hz0, hz1, hz2, open_cap Try.underlying42 g3⟩, hbs, hes⟩
end Go.Proofs.Ytjabimfinanjoab

namespace Go.Proofs.Ytjabimfinanjoab
open Go.ChangeShapes Go.WideShapes Go.ChangeAt Go.RowKit Go.Joins Go.Deep
set_option maxRecDepth 100000

theorem open_Inos {H : Type} {enc : TypeId × Value → H} {w : World} {base : Nat} {held : Bool} {fuel : Nat} {v : Value} {x : DataW H × List MemPlace}
    (h : DataW.trod enc Try.prog w base (fun _ => true) held fuel 22 [v] = some x) : ∃ ds, Inos w v ds := by
  rcases open_slice Try.underlying22 h with ⟨hcs, _⟩ | ⟨a, len, cap, m, n, D, Pl, hcs, hb, hl, hm, hmm, _, hx⟩
  · simp only [List.cons.injEq, and_true] at hcs
    exact ⟨[], by rw [hcs]; exact Inos.nil w none 0⟩
  · simp only [List.cons.injEq, and_true] at hcs
    simp only [if_true] at hmm
    by_cases hl0 : len = 0
    · subst hl0; exact ⟨[], by rw [hcs]; exact Inos.nil w (some a) cap⟩
    · have each : ∀ i, i < m → ∃ q : ID, ∃ vB vE, w.cell? (a.add (i * 5)) = some (.int .i64 q.1) ∧ w.cell? (a.add (i * 5 + 1)) = some (.int .i64 q.2.1) ∧ w.cell? (a.add (i * 5 + 2)) = some (.int .i64 q.2.2.1) ∧ w.cell? (a.add (i * 5 + 3)) = some vB ∧ w.cell? (a.add (i * 5 + 4)) = some vE ∧ InoR w (.int .i64 q.1) (.int .i64 q.2.1) (.int .i64 q.2.2.1) vB vE q := by
        intro i hi
        obtain ⟨cs', k1, k2⟩ := hx i hi
        rw [Try.cellsIno] at k1
        obtain ⟨_, hlen, hcell⟩ := World.cells?_some k1
        obtain ⟨xs, k, hk, hxy, _, hxl, hg⟩ := DataW.trod_struct Try.underlying58 k2
        match xs, hxl, cs', hlen with
        | [y0, y1, y2, y3, y4], _, [c0, c1, c2, c3, c4], _ =>
          have g0 : DataW.trod enc Try.prog w base (fun _ => true) held k 2 [c0] = some y0 := by simpa [Try.cellsInt] using hg 0 _ rfl
          have g1 : DataW.trod enc Try.prog w base (fun _ => true) held k 2 [c1] = some y1 := by simpa [Try.cellsInt] using hg 1 _ rfl
          have g2 : DataW.trod enc Try.prog w base (fun _ => true) held k 2 [c2] = some y2 := by simpa [Try.cellsInt] using hg 2 _ rfl
          have g3 : DataW.trod enc Try.prog w base (fun _ => true) held k 42 [c3] = some y3 := by simpa [Try.cellsInts] using hg 3 _ rfl
          have g4 : DataW.trod enc Try.prog w base (fun _ => true) held k 56 [c4] = some y4 := by simpa [Try.cellsEnts] using hg 4 _ rfl
          have e0 := hcell 0 (by omega)
          have e1 := hcell 1 (by omega)
          have e2 := hcell 2 (by omega)
          have e3 := hcell 3 (by omega)
          have e4 := hcell 4 (by omega)
          rw [add_add] at e0 e1 e2 e3 e4
          obtain ⟨z0, hz0, _⟩ := DataW.trod_int Try.underlying2 g0
          obtain ⟨z1, hz1, _⟩ := DataW.trod_int Try.underlying2 g1
          obtain ⟨z2, hz2, _⟩ := DataW.trod_int Try.underlying2 g2
          simp only [List.cons.injEq, and_true] at hz0 hz1 hz2
          subst hz0 hz1 hz2
          obtain ⟨bs, hbs⟩ := open_Ints Try.underlying42 Try.underlying2 Try.cellsInt g3
          obtain ⟨es, hes⟩ := open_Ents Try.underlying56 Try.underlying80 Try.cellsEnt rfl rfl Try.cellsStr Try.cellsInt Try.underlying9 Try.underlying2 g4
          exact ⟨(z0, z1, z2, bs, es), c3, c4, by simpa using e0, by simpa using e1, by simpa using e2, by simpa using e3, by simpa using e4, ⟨rfl, rfl, rfl, open_cap Try.underlying42 g3⟩, hbs, hes⟩
      obtain ⟨q, hq⟩ := choose_lt each
      obtain ⟨_, _, hq0, _⟩ := hq 0 (by omega)
      have ha := addr_of (by simpa using hq0)
      refine ⟨(List.range len).map q, some a, cap, ?_, ?_, fun k hk => ?_⟩
      · simp only [List.length_map, List.length_range]; exact hcs
      · simp only [List.length_map, List.length_range]
        exact ⟨by omega, by omega⟩
      · simp only [List.length_map, List.length_range] at hk
        obtain ⟨vB, vE, e0, e1, e2, e3, e4, hR⟩ := hq k (by omega)
        rw [ha, add_plain] at e0 e1 e2 e3 e4
        have hg : ((List.range len).map q)[k]?.getD id0 = q k := by simp [hk]
        rw [hg]
        exact ⟨a.block, a.off, by rw [← ha], InoAt.mk' e0 e1 e2 e3 e4 hR⟩
end Go.Proofs.Ytjabimfinanjoab

namespace Go.Proofs.Ytjabimfinanjoab
open Go.ChangeShapes Go.WideShapes Go.ChangeAt Go.RowKit Go.Joins Go.Deep
set_option maxRecDepth 100000

theorem Try.cellsByteF : Try.prog.cellsOf 5 = 1 := by kernel_rfl
theorem Try.cellsBytF : Try.prog.cellsOf 60 = 1 := by kernel_rfl
theorem Try.cellsBytsF : Try.prog.cellsOf 23 = 1 := by kernel_rfl
theorem Try.cellsInosF : Try.prog.cellsOf 22 = 1 := by kernel_rfl
theorem Try.cellsFsF : Try.prog.cellsOf 25 = 2 := by kernel_rfl
theorem open_Byt {H : Type} {enc : TypeId × Value → H} {P : Program} {w : World} {base : Nat} {held : Bool} {t e : TypeId} {fuel : Nat} {v : Value} {x : DataW H × List MemPlace} (ht : P.underlying t = some (.slice e)) (he : P.underlying e = some (.int .u8)) (ce : P.cellsOf e = 1) (h : DataW.trod enc P w base (fun _ => true) held fuel t [v] = some x) :
    ∃ zs, Byt w v zs := by
  rcases open_slice1 ht ce h with ⟨hcs, _⟩ | ⟨a, len, cap, m, n, V, D, Pl, hcs, _, hl, hm, hmm, _, hx⟩
  · simp only [List.cons.injEq, and_true] at hcs
    exact ⟨[], by rw [hcs]; exact Byt.nil w none 0⟩
  · simp only [List.cons.injEq, and_true] at hcs
    simp only [if_true] at hmm
    by_cases h0 : len = 0
    · subst h0; exact ⟨[], by rw [hcs]; exact Byt.nil w (some a) cap⟩
    · have ha := addr_of (hx 0 (by omega)).1
      obtain ⟨Z, hZ⟩ := choose_lt (α := UInt8) (n := m) (p := fun i b => V i = .int .u8 ((b.toNat : Nat) : Int)) fun i hi => by
        obtain ⟨z, h1, _, hw⟩ := DataW.trod_int he (hx i hi).2
        have hz0 : IntKind.u8.min ≤ z ∧ z ≤ IntKind.u8.max := by simpa [Lit.wf] using hw
        have hz : 0 ≤ z ∧ z ≤ 255 := hz0
        refine ⟨UInt8.ofNat z.toNat, ?_⟩
        simp only [List.cons.injEq, and_true] at h1
        rw [h1]
        congr 1
        have : (UInt8.ofNat z.toNat).toNat = z.toNat := by simp; omega
        rw [this]; omega
      refine ⟨(List.range len).map Z, some a, cap, ?_, ?_, fun k hk => ?_⟩
      · simp only [List.length_map, List.length_range]; exact hcs
      · simp only [List.length_map, List.length_range]; exact ⟨by omega, by omega⟩
      · simp only [List.length_map, List.length_range] at hk
        have h1 := (hx k (by omega)).1
        rw [ha, add_plain] at h1
        refine ⟨a.block, a.off, by rw [← ha], ?_⟩
        rw [h1, hZ k (by omega)]
        simp [hk]
theorem open_Byts {H : Type} {enc : TypeId × Value → H} {P : Program} {w : World} {base : Nat} {held : Bool} {t e q : TypeId} {fuel : Nat} {v : Value} {x : DataW H × List MemPlace} (ht : P.underlying t = some (.slice e)) (he : P.underlying e = some (.slice q)) (hq : P.underlying q = some (.int .u8)) (ce : P.cellsOf e = 1) (cq : P.cellsOf q = 1)
    (h : DataW.trod enc P w base (fun _ => true) held fuel t [v] = some x) : ∃ zss, Byts w v zss := by
  rcases open_slice1 ht ce h with ⟨hcs, _⟩ | ⟨a, len, cap, m, n, V, D, Pl, hcs, _, hl, hm, hmm, _, hx⟩
  · simp only [List.cons.injEq, and_true] at hcs
    exact ⟨[], by rw [hcs]; exact Byts.nil w none 0⟩
  · simp only [List.cons.injEq, and_true] at hcs
    simp only [if_true] at hmm
    by_cases h0 : len = 0
    · subst h0; exact ⟨[], by rw [hcs]; exact Byts.nil w (some a) cap⟩
    · have ha := addr_of (hx 0 (by omega)).1
      obtain ⟨Z, hZ⟩ := choose_lt (α := List UInt8) (n := m) (p := fun i zs => Byt w (V i) zs) fun i hi => open_Byt he hq cq (hx i hi).2
      refine ⟨(List.range len).map Z, some a, cap, ?_, ?_, fun k hk => ?_⟩
      · simp only [List.length_map, List.length_range]; exact hcs
      · simp only [List.length_map, List.length_range]; exact ⟨by omega, by omega⟩
      · simp only [List.length_map, List.length_range] at hk
        have h1 := (hx k (by omega)).1
        rw [ha, add_plain] at h1
        have hg : ((List.range len).map Z)[k]?.getD [] = Z k := by simp [hk]
        rw [hg]
        obtain ⟨ua, uc, e1, e2, e3⟩ := hZ k (by omega)
        rw [e1] at h1
        exact ⟨a.block, a.off, ua, uc, by rw [← ha], h1, ua, uc, rfl, e2, e3⟩
theorem open_FsU {H : Type} {enc : TypeId × Value → H} {W : World} {r : Reach} {b0 : Nat} {v : Value} {d : DataW H} {p : List MemPlace} (hv : Value.okWide Try.prog W r b0 25 v) (h : DataW.Trod enc Try.prog W 0 (fun _ => true) true 25 v d p) :
    ∃ v0 v1 fd, v = .agg #[v0, v1] ∧ FsR W v0 v1 fd := by
  obtain ⟨cs, rfl, hsz⟩ := okWide_struct Try.underlying25 hv
  obtain ⟨c0, c1, rfl⟩ := array2 (hsz.trans Try.cellsFsF)
  obtain ⟨fuel, hf⟩ := h
  obtain ⟨xs, k, hk, hxy, _, hxl, hg⟩ := DataW.trod_struct Try.underlying25 hf
  match xs, hxl with
  | [y0, y1], _ =>
    have g0 : DataW.trod enc Try.prog W 0 (fun _ => true) true k 22 [c0] = some y0 := by simpa [Value.cells, Try.cellsInosF] using hg 0 _ rfl
    have g1 : DataW.trod enc Try.prog W 0 (fun _ => true) true k 23 [c1] = some y1 := by simpa [Value.cells, Try.cellsBytsF] using hg 1 _ rfl
    obtain ⟨ds, hds⟩ := open_Inos g0
    obtain ⟨zss, hz⟩ := open_Byts Try.underlying23 Try.underlying60 Try.underlying5 Try.cellsBytF Try.cellsByteF g1
    exact ⟨c0, c1, (ds, zss), rfl, hds, hz⟩
end Go.Proofs.Ytjabimfinanjoab
