/- The walks of the program's rack of bytes: lists of bytes that are copied and set one by one. The program's copying of an inode and of a file system. A file system in memory of its own, of which places turn. No program is named here. The specification: what is wrong of inodes, data and entries of a file system. The specification: what is wrong of inodes, data and entries of a file system, the rest. -/
import Derived.Test.YtlacppjlclfpmaaGreatM00
import Derived.Test.YtlacppjlclfpmaaGreatM05
import Derived.Deep.RegionWith
import Derived.Deep.RegionLaw
import Derived.Test.YtlacppjlclfpmaaGreatM07
import Derived.Test.YtlacppjlclfpmaaGreatM01
import Derived.Deep.RegionHeld3
import Derived.Test.YtlacppjlclfpmaaGreatM04
import Derived.Test.YtlacppjlclfpmaaGreatM06
namespace Go.Proofs.YtlacppjlclfpmaaGreat
open Go.RowKit
set_option maxRecDepth 100000

theorem Tryz.sizeU8 : (Tryz.prog.info? 5).map (·.size) = some 1 := by kernel_rfl

/-- What 'copy' into a list that was just made comes to. -/
theorem copyY_made (w : World) (a : Option Addr) (n cap : Nat) (zs : List UInt8) (hz : zs.length = n) (hc : AtY w a n zs) :
    ∃ X, (Builtin.copy_ #[22, 22] 3 #[.slice (some ⟨w.heap.size, 0, none⟩) n n, .slice a n cap]).run Tryz.prog (w.alloc (.cells (madeCells #[.int .u8 0] n) 5)) = .ok (goInt n) X ∧
      Below w.heap.size w X ∧ OwnRow X w.heap.size n (fun i => .int .u8 (((zs[i]?.getD 0).toNat : Nat) : Int)) := by
  by_cases h0 : n = 0
  · subst h0
    have hr := run_copy_none (P := Tryz.prog) (w.alloc (.cells (madeCells #[.int .u8 0] 0) 5)) 22 22 3 5 (some ⟨w.heap.size, 0, none⟩) a 0 0 0 cap Tryz.underlying22 Tryz.sizeU8 (by simp)
    exact ⟨_, hr, later1 _ _, (OwnRow.made w (.int .u8 0) 0 5).congr fun i hi => by omega⟩
  · obtain ⟨b, off, rfl, _⟩ := hc 0 (by omega)
    have hc' : ∀ k, k < n → w.cell? ⟨b, off + k, none⟩ = some (.int .u8 (((zs[k]?.getD 0).toNat : Nat) : Int)) := by
      intro k hk
      obtain ⟨b', off', e, h⟩ := hc k hk
      simp only [Option.some.injEq, Addr.mk.injEq, and_true] at e
      rw [e.1, e.2]; exact h
    have hcp := run_copy_row (P := Tryz.prog) (w.alloc (.cells (madeCells #[.int .u8 0] n) 5)) 22 22 3 5 w.heap.size 0 n n ⟨b, off, none⟩ n cap (madeCells #[.int .u8 0] n) 5 (zs.map fun z => byteV z) Tryz.underlying22 Tryz.sizeU8
      (Go.Deep.blk_alloc_new _ _) (by simp [hz]) (fun j v hv => by
        rw [List.getElem?_map, Option.map_eq_some_iff] at hv
        obtain ⟨z, hz1, rfl⟩ := hv
        have hj : j < n := by rw [← hz]; exact (List.getElem?_eq_some_iff.1 hz1).1
        have h2 := hc' j hj
        rw [hz1, Option.getD_some] at h2
        have ha : (⟨b, off, none⟩ : Addr).add j = ⟨b, off + j, none⟩ := by
          by_cases hj0 : j = 0
          · subst hj0; simp [Addr.add]
          · simp [Addr.add, hj0]
        rw [ha]
        exact cell_later (later1 _ _) h2) (by simp [size_madeCells, hz]) (fun v hv => by
        obtain ⟨z, _, rfl⟩ := List.mem_map.1 hv
        rfl)
    refine ⟨_, by rw [hcp, List.length_map, hz], below_setRow (later1 _ _) (Nat.le_refl _) _, ?_⟩
    refine ⟨_, 5, setRow_heap _ _ _ _ _ _ (Go.Deep.blk_alloc_new _ _), ?_, fun i hi => ?_⟩
    · simp [hz]
    · have hlen : i < zs.length := by omega
      simp [List.getElem?_append_left, hlen, byteV]
set_option maxHeartbeats 400000 in
theorem copyOfY_more {w : World} {v : Value} {zs : List UInt8} (h : Byt w v zs) (hn : zs.length ≤ 1048576) :
    Calls Tryz.prog 80 #[v] w fun e w' => e = .returned (.slice (some ⟨w.heap.size, 0, none⟩) zs.length zs.length) ∧ Below w.heap.size w w' ∧ BytO w' (.slice (some ⟨w.heap.size, 0, none⟩) zs.length zs.length) zs (fresh w w') ∧ w.heap.size < w'.heap.size := by
  obtain ⟨a, cap, rfl, hm, hc⟩ := h
  obtain ⟨X, hcp, hbX, hrX⟩ := copyY_made w a zs.length cap zs rfl hc
  have hmk := fun w => run_make_row' (P := Tryz.prog) 22 5 (.int .u8 0) 1 Tryz.underlying22 Tryz.infoU8 rfl .i64 .i64 zs.length (by omega) (by omega) w
  have HB : Hid (Below w.heap.size w X) := hbX
  have HR : Hid (OwnRow X w.heap.size zs.length (fun i => .int .u8 (((zs[i]?.getD 0).toNat : Nat) : Int))) := hrX
  clear hbX hrX hc
  go_enter Tryz.func80, Tryz.ntmps80
  go_wp2
  go_ret
  exact ⟨rfl, HB.out, Or.inr ⟨w.heap.size, _, ⟨Nat.le_refl _, HR.out.lt⟩, rfl, ⟨hm.1, Nat.le_refl _⟩, HR.out⟩, HR.out.lt⟩
theorem copyOfY_any {w : World} {v : Value} {zs : List UInt8} (h : Byt w v zs) (hn : zs.length ≤ 1048576) :
    Calls Tryz.prog 80 #[v] w fun e w' => e = .returned (.slice (some ⟨w.heap.size, 0, none⟩) zs.length zs.length) ∧ Below w.heap.size w w' ∧ BytO w' (.slice (some ⟨w.heap.size, 0, none⟩) zs.length zs.length) zs (fresh w w') :=
  (copyOfY_more h hn).mono fun _ _ ⟨h1, h2, h3, _⟩ => ⟨h1, h2, h3⟩

theorem newRackY_any (w : World) (n : Nat) (hn : n ≤ 60) :
    Calls Tryz.prog 54 #[.int .i64 (n : Int)] w fun e w' => ∃ b, w.heap.size ≤ b ∧ e = .returned (.agg #[.slice (some ⟨b, 0, none⟩) n n]) ∧ Below w.heap.size w w' ∧ OwnRow w' b n (fun _ => .slice none 0 0) := by
  have hmk := fun w => run_make_row' (P := Tryz.prog) 25 22 (.slice none 0 0) 24 Tryz.underlying25 Tryz.infoU8s rfl .i64 .i64 n (by omega) (by omega) w
  go_enter Tryz.func54, Tryz.ntmps54
  go_wp2
  refine bodyPost_ret (v := .agg #[.slice (some ⟨w.heap.size + 1, 0, none⟩) n n]) (by simp [results, Tryz.results54, go_sem]) rfl ⟨w.heap.size + 1, by omega, rfl, later2 _ _ _, ?_⟩
  have := OwnRow.made (w.alloc (Obj.cells #[Value.slice (some ⟨w.heap.size + 1, 0, none⟩) n n] 76)) (.slice none 0 0) n 22
  simpa using this

set_option maxHeartbeats 800000 in
theorem setY_any (w : World) (br o g n cap x : Nat) (u : Nat → Value) (v : Value) (zs : List UInt8) (_hn : n ≤ 60) (hx : x < n) (h0 : w.cell? ⟨br, o, none⟩ = some (.slice (some ⟨g, 0, none⟩) n cap)) (hr : OwnRow w g n u) (hu : ∃ ua un uc, u x = .slice ua un uc) (hi : Byt w v zs) (hl : zs.length ≤ 1048576) :
    Calls Tryz.prog 55 #[.pointer (some ⟨br, o, none⟩), .int .i64 (x : Int), v] w fun e w' => e = .returned (.tuple #[]) ∧
      ∃ X, w' = X.setCell ⟨g, x, none⟩ (.slice (some ⟨w.heap.size, 0, none⟩) zs.length zs.length) ∧ Below w.heap.size w X ∧ BytO X (.slice (some ⟨w.heap.size, 0, none⟩) zs.length zs.length) zs (fresh w X) := by
  obtain ⟨ua, un, uc, hux⟩ := hu
  have HI : Hid (Byt w v zs) := hi
  have HR : Hid (OwnRow w g n u) := hr
  have c1 := hr.cell hx
  rw [hux] at c1
  have c2 := hr.frozen x
  have HL : Hid (zs.length ≤ 1048576) := hl
  clear hi hr hl hux
  go_enter Tryz.func55, Tryz.ntmps55
  go_wp2_with fail
  go_region_with ((go_at_call 80; refine (copyOfY_any ?_ HL.out).mono ?_; exact HI.out; rintro e w1 ⟨rfl, hb1, ho1⟩; have d0 := cell_later hb1 h0; have d1 := cell_later hb1 c1; have d2 := (hb1.frozen (p := ⟨g, x, none⟩) (World.block_lt_of_cell? _ _ c1)).trans c2; have HB1 : Hid (Below w.heap.size w w1) := (Below.refl _ _).drew.trans hb1; have HO1 : Hid (BytO w1 (.slice (some ⟨w.heap.size, 0, none⟩) zs.length zs.length) zs (fresh w w1)) := ho1; clear hb1 ho1))
  all_goals
    go_wp2
    go_end0
    exact ⟨rfl, w1, rfl, HB1.out, HO1.out⟩

set_option maxHeartbeats 1600000 in
theorem rackOfY_walk (w : World) (a : Option Addr) (n cap : Nat) (bs : List (List UInt8)) (hbl : bs.length = n) (hn : n ≤ 60) (hz : ∀ k, k < n → (bs[k]?.getD []).length ≤ 1048576) (hB : AtYs w a n bs) :
    Calls Tryz.prog 30 #[.slice a n cap] w fun e w' => ∃ g, e = .returned (.agg #[.slice (some ⟨g, 0, none⟩) n n]) ∧ Below w.heap.size w w' ∧ BytsO w' (.slice (some ⟨g, 0, none⟩) n n) bs (fresh w w') := by
  have HBL : Hid (bs.length = n) := hbl
  have HZ : Hid (∀ k, k < n → (bs[k]?.getD []).length ≤ 1048576) := hz
  have HB : Hid (AtYs w a n bs) := hB
  clear hbl hz hB
  go_enter Tryz.func30, Tryz.ntmps30
  go_wp2_with fail
  refine (newRackY_any _ n hn).mono ?_
  rintro e w1 ⟨g, hg, rfl, hb1, hr1⟩
  simp at hg
  have HB1 : Hid (Below w.heap.size w w1) := (later1 _ _).trans (hb1.mono (by simp))
  have hgl : g < w1.heap.size := hr1.lt
  have HR1 : Hid (OwnRow w1 g n (fun _ => .slice none 0 0)) := hr1
  have t0 := cell_later hb1 (show (w.alloc (Obj.cells #[Value.slice none 0 0] 76)).cell? ⟨w.heap.size, 0, none⟩ = some (.slice none 0 0) by rw [new_cell]; rfl)
  have t1 : w1.frozen? ⟨w.heap.size, 0, none⟩ = false := by rw [hb1.frozen (by simp)]; simp
  have hz1 : w.heap.size < w1.heap.size := World.block_lt_of_cell? _ _ t0
  clear hb1 hr1
  go_wp2_with fail
  go_loopw [11] (fun i wr => ∃ j : Nat, j ≤ n ∧ i = .int .i64 j ∧ Below w.heap.size w wr ∧ wr.cell? ⟨w.heap.size, 0, none⟩ = some (.slice none 0 0) ∧ wr.frozen? ⟨w.heap.size, 0, none⟩ = false ∧ wr.cell? ⟨w1.heap.size, 0, none⟩ = some (.slice (some ⟨g, 0, none⟩) n n) ∧
    ∃ u s, OwnRow wr g n (fun i => if i < j then u i else .slice none 0 0) ∧ (∀ i, i < j → ∃ ua un uc, u i = .slice ua un uc) ∧ BuiltY wr (w1.heap.size + 1) j u (fun i => bs[i]?.getD []) s) (fun i _ => n - (intOf i).toNat)
  case atStart => exact ⟨0, Nat.zero_le _, rfl, HB1.out.trans ((later1 _ _).mono HB1.out.size), cell_later (later1 _ _) t0, by rw [(later1 w1 _).frozen (p := ⟨w.heap.size, 0, none⟩) hz1]; exact t1, by rw [new_cell]; rfl, fun _ => .slice none 0 0, _, (HR1.out.later (later1 _ _)).congr fun i _ => by simp, fun i hi => by omega, BuiltY.nil _ _ (by simp)⟩
  case round =>
    obtain ⟨j, hj, rfl, hbl, q0, q1, q2, u, s, hrow, hsh, hbt⟩ := hrel
    have HBW : Hid (Below w.heap.size w wr) := hbl
    have HROW : Hid (OwnRow wr g n (fun i => if i < j then u i else .slice none 0 0)) := hrow
    have HBT : Hid (BuiltY wr (w1.heap.size + 1) j u (fun i => bs[i]?.getD []) s) := hbt
    have HSH : Hid (∀ i, i < j → ∃ ua un uc, u i = .slice ua un uc) := hsh
    clear hbl hrow hbt hsh t0 t1
    by_cases hlt : j < n
    · obtain ⟨b, off, ua, ucap, e, c1, i1⟩ := HB.out j hlt
      clear HB
      subst e
      replace c1 := cell_later HBW.out c1
      have HI : Hid (Byt wr (.slice ua (bs[j]?.getD []).length ucap) (bs[j]?.getD [])) := i1.later HBW.out
      clear i1
      go_wp2_with fail
      refine (setY_any wr w1.heap.size 0 g n n j _ _ (bs[j]?.getD []) hn hlt q2 HROW.out ⟨none, 0, 0, by simp⟩ HI.out (HZ.out j hlt)).mono ?_
      rintro e w2 ⟨rfl, X, rfl, hbX, hoX⟩
      have HX : Hid (Below wr.heap.size wr X) := hbX
      have HO : Hid (BytO X (.slice (some ⟨wr.heap.size, 0, none⟩) (bs[j]?.getD []).length (bs[j]?.getD []).length) (bs[j]?.getD []) (fresh wr X)) := hoX
      clear hbX hoX
      go_wp2
      go_roundw
      case rel =>
        refine ⟨j + 1, by omega, by go_num, (HBW.out.trans (HX.out.mono HBW.out.size)).setCell (by simp; omega) _, ?_, ?_, ?_, _, _, ((HROW.out.later HX.out).set j _).congr fun i hi => ?_, fun i hi => ?_, (HBT.out.next HX.out HO.out).store (by simp; omega) _⟩
        · rw [World.cell?_of_block (w := X) (Below.heap_setCell _ _ _ _ (by simp; omega))]; exact cell_later HX.out q0
        · rw [World.frozen?_of_block (w := X) (Below.heap_setCell _ _ _ _ (by simp; omega)), HX.out.frozen (World.block_lt_of_cell? _ _ q0)]; exact q1
        · rw [World.cell?_of_block (w := X) (Below.heap_setCell _ _ _ _ (by simp; omega))]; exact cell_later HX.out q2
        · by_cases e : i = j
          · subst e; simp
          · by_cases e2 : i < j
            · simp [e, e2, show i < j + 1 by omega]
            · simp [e, e2, show ¬ i < j + 1 by omega]
        · by_cases e : i = j
          · subst e; exact ⟨_, _, _, by simp; exact ⟨rfl, rfl, rfl⟩⟩
          · obtain ⟨a1, a2, a3, h⟩ := HSH.out i (by omega)
            exact ⟨a1, a2, a3, by simp [e, h]⟩
      case measure => simp [intOf]; omega
    · go_wp2
      have e : j = n := by omega
      subst e
      refine bodyPost_ret (v := .agg #[.slice (some ⟨g, 0, none⟩) j j]) (by simp [results, Tryz.results30, go_sem, q0]) rfl ⟨g, rfl, HBW.out.setCell (Nat.le_refl _) _, ?_⟩
      have hB' := HBT.out.store (p := ⟨w.heap.size, 0, none⟩) (by simp; omega) (.slice (some ⟨g, 0, none⟩) j j)
      have hR' := (HROW.out.congr (g := u) fun i hi => by simp [hi]).store (p := ⟨w.heap.size, 0, none⟩) (by simp; omega) (.slice (some ⟨g, 0, none⟩) j j)
      exact hB'.byts bs HBL.out ⟨by unfold maxLen; omega, Nat.le_refl _⟩ (by omega) hR' _ ⟨by omega, hR'.lt⟩ (fun c h1 h2 => ⟨by omega, h2⟩)
end Go.Proofs.YtlacppjlclfpmaaGreat

namespace Go.Proofs.YtlacppjlclfpmaaGreat
open Go.RowKit Go.Shelf
set_option maxRecDepth 100000
attribute [local go_sem] Oper.semAt_some

theorem cloneB_any (w : World) (x : ByteArray) (hl : x.size ≤ 1048576) : Calls Tryz.prog 82 #[.string x] w fun e w' => e = .returned (.string x) ∧ Below w.heap.size w w' := by
  have hl' : x.size ≤ 281474976710656 := by omega
  clear hl
  go_enter Tryz.func82, Tryz.ntmps82
  go_wp2_with fail
  refine (Tryz.stringslite_Clone x _ hl').mono ?_
  rintro e w1 ⟨rfl, hb1⟩
  go_wp2
  go_ret
  exact ⟨rfl, hb1⟩

set_option maxHeartbeats 400000 in
theorem copyOfN_any {w : World} {v : Value} {es : List EN} (h : Ents w v es) (hn : es.length ≤ 1048576) :
    Calls Tryz.prog 81 #[v] w fun e w' => e = .returned (.slice (some ⟨w.heap.size, 0, none⟩) es.length es.length) ∧ Below w.heap.size w w' ∧ OwnRow w' w.heap.size (es.length * 2) (enCell es) := by
  obtain ⟨a, cap, rfl, hm, hz, hc⟩ := h.open'
  obtain ⟨X, hcp, hbX, hrX⟩ := copy_ents w a es.length cap es rfl hc
  have hmk := fun w => run_make_pair (P := Tryz.prog) 56 109 (.string ⟨#[]⟩) (.int .i64 0) 24 Tryz.underlying56 Tryz.infoEnt rfl .i64 .i64 es.length (by omega) (by omega) w
  have HB : Hid (Below w.heap.size w X) := hbX
  have HR : Hid (OwnRow X w.heap.size (es.length * 2) (enCell es)) := hrX
  clear hbX hrX hc
  go_enter Tryz.func81, Tryz.ntmps81
  go_wp2
  go_ret
  exact ⟨rfl, HB.out, HR.out⟩

set_option maxHeartbeats 400000 in
theorem copyOfI_any {w : World} {a : Option Addr} {n cap : Nat} (l : List ID) (u : Nat → Value × Value) (hn : n ≤ 1048576) (hs : ∀ i, i < n → (u i).1.oneCell' = true ∧ (u i).2.oneCell' = true) (hc : ∀ c, c < n * 5 → ∃ b off, a = some ⟨b, off, none⟩ ∧ w.cell? ⟨b, off + c, none⟩ = some (inCell l u c)) :
    Calls Tryz.prog 56 #[.slice a n cap] w fun e w' => e = .returned (.slice (some ⟨w.heap.size, 0, none⟩) n n) ∧ Below w.heap.size w w' ∧ OwnRow w' w.heap.size (n * 5) (inCell l u) := by
  obtain ⟨X, hcp, hbX, hrX⟩ := copy_inos w a n cap l u hs hc
  have hmk := fun w => run_make_five (P := Tryz.prog) 24 58 (.int .i64 0) (.int .i64 0) (.int .i64 0) (.slice none 0 0) (.slice none 0 0) 72 Tryz.underlying24 Tryz.infoIno rfl .i64 .i64 n (by omega) (by omega) w
  have HB : Hid (Below w.heap.size w X) := hbX
  have HR : Hid (OwnRow X w.heap.size (n * 5) (inCell l u)) := hrX
  clear hbX hrX hc hs
  go_enter Tryz.func56, Tryz.ntmps56
  go_wp2
  go_ret
  exact ⟨rfl, HB.out, HR.out⟩
theorem name_le (es : List EN) (k : Nat) : (es[k]?.getD en0).1.size ≤ (nlens es).sum := by
  by_cases h : k < es.length
  · have h1 := upto_succ (nlens es) k (by rw [nlens_length]; exact h)
    rw [nlens_get] at h1
    have h2 := upto_le (nlens es) (k + 1)
    omega
  · rw [List.getElem?_eq_none (by omega)]; simp [en0, ByteArray.size]
theorem enCell_same (es : List EN) (j c : Nat) : (if c = j * 2 then Value.string (es[j]?.getD en0).1 else enCell es c) = enCell es c := by
  by_cases e : c = j * 2
  · subst e; rw [if_pos rfl, enCell_0]
  · rw [if_neg e]

set_option maxHeartbeats 6400000 in
theorem copyOfInode_any (w : World) (aB : Option Addr) (nB cB : Nat) (aE : Option Addr) (nE cE : Nat) (d : ID) (h : InoR w (.int .i64 d.1) (.int .i64 d.2.1) (.int .i64 d.2.2.1) (.slice aB nB cB) (.slice aE nE cE) d) (hsz : sizeIno d ≤ 1048576) :
    Calls Tryz.prog 57 #[.agg #[.int .i64 d.1, .int .i64 d.2.1, .int .i64 d.2.2.1, .slice aB nB cB, .slice aE nE cE]] w (AnsIno w d) := by
  obtain ⟨k, l, s, bs, es⟩ := d
  have hB : bs.length ≤ 1048576 := by unfold sizeIno at hsz; dsimp only at hsz; omega
  have hE : es.length ≤ 1048576 := by unfold sizeIno sizeN at hsz; dsimp only at hsz; omega
  have HNM : Hid (∀ k : Nat, (es[k]?.getD en0).1.size ≤ 1048576) := fun k => by
    have := name_le es k
    unfold sizeIno sizeN at hsz
    dsimp only at hsz
    omega
  dsimp only at h ⊢
  obtain ⟨-, hI, hN⟩ := h
  dsimp only at hI hN
  clear hsz
  obtain ⟨aN, cN, eN, hmN, hzN, hatN⟩ := hN.open'
  simp only [Value.slice.injEq] at eN
  obtain ⟨rfl, rfl, rfl⟩ := eN
  have HI : Hid (Ints w (.slice aB nB cB) bs) := hI
  have HN : Hid (Ents w (.slice aE es.length cE) es) := hN
  have HZ : Hid (∀ k : Nat, (es[k]?.getD en0).1.size ≤ maxLen) := hzN
  have HBL : Hid (bs.length ≤ 1048576) := hB
  have HEL : Hid (es.length ≤ 1048576) := hE
  have hE' := hE
  have HX0 : Hid (OwnRow ((w.alloc (.cells #[.int .i64 k, .int .i64 l, .int .i64 s, .slice aB nB cB, .slice aE es.length cE] 58)).alloc (.cells #[.int .i64 0, .int .i64 0, .int .i64 0, .slice none 0 0, .slice none 0 0] 58)) w.heap.size 5 (fun i => [Value.int .i64 k, .int .i64 l, .int .i64 s, .slice aB nB cB, .slice aE es.length cE][i]?.getD (.int .i64 0))) := (rowVL w [.int .i64 k, .int .i64 l, .int .i64 s, .slice aB nB cB, .slice aE es.length cE] _).later (later1 _ _)
  have HR0 : Hid (OwnRow ((w.alloc (.cells #[.int .i64 k, .int .i64 l, .int .i64 s, .slice aB nB cB, .slice aE es.length cE] 58)).alloc (.cells #[.int .i64 0, .int .i64 0, .int .i64 0, .slice none 0 0, .slice none 0 0] 58)) (w.heap.size + 1) 5 (fun i => zero5F[i]?.getD (.int .i64 0))) := by
    have := rowVL (w.alloc (.cells #[.int .i64 k, .int .i64 l, .int .i64 s, .slice aB nB cB, .slice aE es.length cE] 58)) zero5F 58
    rw [World.size_alloc] at this
    exact this
  have hz0 : ((w.alloc (.cells #[.int .i64 k, .int .i64 l, .int .i64 s, .slice aB nB cB, .slice aE es.length cE] 58)).alloc (.cells #[.int .i64 0, .int .i64 0, .int .i64 0, .slice none 0 0, .slice none 0 0] 58)).heap.size = w.heap.size + 2 := by simp
  have HB0 : Hid (Below w.heap.size w ((w.alloc (.cells #[.int .i64 k, .int .i64 l, .int .i64 s, .slice aB nB cB, .slice aE es.length cE] 58)).alloc (.cells #[.int .i64 0, .int .i64 0, .int .i64 0, .slice none 0 0, .slice none 0 0] 58))) := later2 _ _ _
  clear hI hN hatN hzN hmN hB hE
  go_enter Tryz.func57, Tryz.ntmps57
  go_wp2_with fail
  generalize ((w.alloc (.cells #[.int .i64 k, .int .i64 l, .int .i64 s, .slice aB nB cB, .slice aE es.length cE] 58)).alloc (.cells #[.int .i64 0, .int .i64 0, .int .i64 0, .slice none 0 0, .slice none 0 0] 58)) = W0 at *
  refine (copyOf_more (HI.out.later HB0.out) HBL.out).mono ?_
  rintro e w1 ⟨rfl, hb1, ho1, hs1⟩
  have HB1 : Hid (Below w.heap.size w w1) := HB0.out.trans (hb1.mono HB0.out.size)
  have hX1 := HX0.out.later hb1
  have hR1 := HR0.out.later hb1
  rw [hz0] at ho1 ⊢
  have HO1 : Hid (IntsO w1 (.slice (some ⟨w.heap.size + 2, 0, none⟩) bs.length bs.length) bs (fun b => w.heap.size + 2 ≤ b ∧ b < w1.heap.size)) := ho1.mono fun b hb => ⟨by have := hb.1; omega, hb.2⟩
  have hw1 : w.heap.size + 2 < w1.heap.size := by omega
  have hlt1 : w.heap.size < w1.heap.size := by omega
  have q3 : w1.cell? ⟨w.heap.size, 3, none⟩ = some (.slice aB nB cB) := hX1.cell (i := 3) (by simp)
  have q4 : w1.cell? ⟨w.heap.size, 4, none⟩ = some (.slice aE es.length cE) := hX1.cell (i := 4) (by simp)
  have f3 := hX1.frozen 3
  have HX2 : Hid (OwnRow (w1.setCell ⟨w.heap.size, 3, none⟩ (.slice (some ⟨w.heap.size + 2, 0, none⟩) bs.length bs.length)) w.heap.size 5 (fun i => [Value.int .i64 k, .int .i64 l, .int .i64 s, .slice (some ⟨w.heap.size + 2, 0, none⟩) bs.length bs.length, .slice aE es.length cE][i]?.getD (.int .i64 0))) := (hX1.set 3 _).congr fun i hi => by
    match i, hi with
    | 0, _ => rfl
    | 1, _ => rfl
    | 2, _ => rfl
    | 3, _ => rfl
    | 4, _ => rfl
  have HR2 : Hid (OwnRow (w1.setCell ⟨w.heap.size, 3, none⟩ (.slice (some ⟨w.heap.size + 2, 0, none⟩) bs.length bs.length)) (w.heap.size + 1) 5 (fun i => zero5F[i]?.getD (.int .i64 0))) := hR1.store (by simp) _
  have HO2 : Hid (IntsO (w1.setCell ⟨w.heap.size, 3, none⟩ (.slice (some ⟨w.heap.size + 2, 0, none⟩) bs.length bs.length)) (.slice (some ⟨w.heap.size + 2, 0, none⟩) bs.length bs.length) bs (fun b => w.heap.size + 2 ≤ b ∧ b < w1.heap.size)) := HO1.out.store (fun b hb => by show b ≠ w.heap.size; omega) _
  have HB2 : Hid (Below w.heap.size w (w1.setCell ⟨w.heap.size, 3, none⟩ (.slice (some ⟨w.heap.size + 2, 0, none⟩) bs.length bs.length))) := HB1.out.setCell (Nat.le_refl _) _
  have hz2 : (w1.setCell ⟨w.heap.size, 3, none⟩ (.slice (some ⟨w.heap.size + 2, 0, none⟩) bs.length bs.length)).heap.size = w1.heap.size := by simp [World.setCell]
  clear HO1 HX0 HR0 HB0 hb1 ho1 hs1 hX1 hR1 HI HB1
  go_wp2_with fail
  generalize w1.setCell ⟨w.heap.size, 3, none⟩ (.slice (some ⟨w.heap.size + 2, 0, none⟩) bs.length bs.length) = W2 at *
  clear q3 q4 f3
  refine (copyOfN_any (HN.out.later HB2.out) HEL.out).mono ?_
  rintro e w3 ⟨rfl, hb3, ho3⟩
  rw [hz2] at ho3 ⊢
  have HB3 : Hid (Below w.heap.size w w3) := HB2.out.trans (hb3.mono (by rw [hz2]; omega))
  have hX3 := HX2.out.later hb3
  have hR3 := HR2.out.later hb3
  have hw3 : w1.heap.size < w3.heap.size := ho3.lt
  have HO3 : Hid (IntsO w3 (.slice (some ⟨w.heap.size + 2, 0, none⟩) bs.length bs.length) bs (fun b => w.heap.size + 2 ≤ b ∧ b < w1.heap.size)) := HO2.out.keep fun b hb hlt => hb3.block b hlt
  have q4 : w3.cell? ⟨w.heap.size, 4, none⟩ = some (.slice aE es.length cE) := hX3.cell (i := 4) (by simp)
  have f4 := hX3.frozen 4
  have HX4 : Hid (OwnRow (w3.setCell ⟨w.heap.size, 4, none⟩ (.slice (some ⟨w1.heap.size, 0, none⟩) es.length es.length)) w.heap.size 5 (fun i => [Value.int .i64 k, .int .i64 l, .int .i64 s, .slice (some ⟨w.heap.size + 2, 0, none⟩) bs.length bs.length, .slice (some ⟨w1.heap.size, 0, none⟩) es.length es.length][i]?.getD (.int .i64 0))) := (hX3.set 4 _).congr fun i hi => by
    match i, hi with
    | 0, _ => rfl
    | 1, _ => rfl
    | 2, _ => rfl
    | 3, _ => rfl
    | 4, _ => rfl
  have HR4 : Hid (OwnRow (w3.setCell ⟨w.heap.size, 4, none⟩ (.slice (some ⟨w1.heap.size, 0, none⟩) es.length es.length)) (w.heap.size + 1) 5 (fun i => zero5F[i]?.getD (.int .i64 0))) := hR3.store (by simp) _
  have HO4 : Hid (IntsO (w3.setCell ⟨w.heap.size, 4, none⟩ (.slice (some ⟨w1.heap.size, 0, none⟩) es.length es.length)) (.slice (some ⟨w.heap.size + 2, 0, none⟩) bs.length bs.length) bs (fun b => w.heap.size + 2 ≤ b ∧ b < w1.heap.size)) := HO3.out.store (fun b hb => by show b ≠ w.heap.size; omega) _
  have HE4 : Hid (OwnRow (w3.setCell ⟨w.heap.size, 4, none⟩ (.slice (some ⟨w1.heap.size, 0, none⟩) es.length es.length)) w1.heap.size (es.length * 2) (enCell es)) := ho3.store (by simp; omega) _
  have HB4 : Hid (Below w.heap.size w (w3.setCell ⟨w.heap.size, 4, none⟩ (.slice (some ⟨w1.heap.size, 0, none⟩) es.length es.length))) := HB3.out.setCell (Nat.le_refl _) _
  have hz4 : (w3.setCell ⟨w.heap.size, 4, none⟩ (.slice (some ⟨w1.heap.size, 0, none⟩) es.length es.length)).heap.size = w3.heap.size := by simp [World.setCell]
  clear HO3 HX2 HR2 HB2 hb3 ho3 hX3 hR3 HN HB3 HO2
  go_wp2_with fail
  generalize w3.setCell ⟨w.heap.size, 4, none⟩ (.slice (some ⟨w1.heap.size, 0, none⟩) es.length es.length) = W4 at *
  clear q4 f4
  obtain ⟨nE, hnE⟩ : ∃ nE, es.length = nE := ⟨_, rfl⟩
  have HNE : Hid (es.length = nE) := hnE
  rw [hnE] at HX4 HE4 hE' ⊢
  clear hnE
  go_loopw [16] (fun i wr => ∃ j : Nat, j ≤ nE ∧ i = .int .i64 j ∧ Below w.heap.size w wr ∧ w3.heap.size ≤ wr.heap.size ∧ OwnRow wr w.heap.size 5 (fun i => [Value.int .i64 k, .int .i64 l, .int .i64 s, .slice (some ⟨w.heap.size + 2, 0, none⟩) bs.length bs.length, .slice (some ⟨w1.heap.size, 0, none⟩) nE nE][i]?.getD (.int .i64 0)) ∧ OwnRow wr (w.heap.size + 1) 5 (fun i => zero5F[i]?.getD (.int .i64 0)) ∧ OwnRow wr w1.heap.size (nE * 2) (enCell es) ∧ IntsO wr (.slice (some ⟨w.heap.size + 2, 0, none⟩) bs.length bs.length) bs (fun b => w.heap.size + 2 ≤ b ∧ b < w1.heap.size)) (fun i _ => nE - (intOf i).toNat)
  case atStart => exact ⟨0, Nat.zero_le _, rfl, HB4.out, by omega, HX4.out, HR4.out, HE4.out, HO4.out⟩
  case round =>
    clear HB4 HX4 HR4 HE4 HO4
    obtain ⟨j, hj, rfl, hbw, hsz, hx, hr, he, ho⟩ := hrel
    have HBW : Hid (Below w.heap.size w wr) := hbw
    have HX : Hid (OwnRow wr w.heap.size 5 _) := hx
    have HR : Hid (OwnRow wr (w.heap.size + 1) 5 _) := hr
    have HE : Hid (OwnRow wr w1.heap.size (nE * 2) (enCell es)) := he
    have HO : Hid (IntsO wr (.slice (some ⟨w.heap.size + 2, 0, none⟩) bs.length bs.length) bs (fun b => w.heap.size + 2 ≤ b ∧ b < w1.heap.size)) := ho
    have x4 : wr.cell? ⟨w.heap.size, 4, none⟩ = some (.slice (some ⟨w1.heap.size, 0, none⟩) nE nE) := hx.cell (i := 4) (by simp)
    have hl0 : w.heap.size < wr.heap.size := by omega
    have hl1 : w1.heap.size < wr.heap.size := by omega
    by_cases hlt : j < nE
    · have e0 : wr.cell? ⟨w1.heap.size, j * 2, none⟩ = some (.string (es[j]?.getD en0).1) := by rw [he.cell (by omega), enCell_0]
      have e1 : wr.cell? ⟨w1.heap.size, j * 2 + 1, none⟩ = some (.int .i64 (es[j]?.getD en0).2) := by rw [he.cell (by omega), enCell_1]
      have HSM : Hid (∀ c, (if c = j * 2 then Value.string (es[j]?.getD en0).1 else enCell es c) = enCell es c) := enCell_same es j
      have HZJ : Hid ((es[j]?.getD en0).1.size ≤ 1048576) := HNM.out j
      clear hbw hx hr he ho HZ HNM
      generalize (es[j]?.getD en0).1 = xs at *
      generalize (es[j]?.getD en0).2 = xi at *
      go_wp2_with fail
      have hne1 : w.heap.size ≠ w1.heap.size := by omega
      have hne2 : w1.heap.size ≠ w.heap.size := by omega
      have hne3 : wr.heap.size ≠ w1.heap.size := by omega
      have hne4 : w1.heap.size ≠ wr.heap.size := by omega
      go_region_held3 (fun W => W.cell? ⟨w.heap.size, 4, none⟩ = some (.slice (some ⟨w1.heap.size, 0, none⟩) nE nE) ∧ W.cell? ⟨wr.heap.size, 0, none⟩ = some (.string xs)) (go_keep) (first
        | (go_at_call 82; refine (cloneB_any _ xs HZJ.out).mono ?_; rintro e u1 ⟨rfl, hb⟩
           have HB1 : Hid (Below wr.heap.size wr u1) := ((later1 wr _).drew).trans (hb.mono (by simp [World.drew]))
           have y4 := cell_later HB1.out x4
           have d0 := cell_later HB1.out e0
           have d1 : u1.frozen? ⟨w1.heap.size, j * 2, none⟩ = false := (HE.out.later HB1.out).frozen _
           have y5 : u1.cell? ⟨wr.heap.size, 0, none⟩ = some (.string xs) := cell_later hb (by first | (rw [new_cell]; rfl) | exact cell_later (Below.refl _ _).drew (by rw [new_cell]; rfl)))
        | fail)
      all_goals
        have HSX : Hid (OwnRow (u1.setCell ⟨w1.heap.size, j * 2, none⟩ (.string xs)) w1.heap.size (nE * 2) (enCell es)) := ((HE.out.later HB1.out).set _ _).congr fun c _ => HSM.out c
        go_wp2
        go_roundw
        case rel => exact ⟨j + 1, by omega, by go_num, (HBW.out.trans (HB1.out.mono HBW.out.size)).setCell (by simp; omega) _, by have := HB1.out.size; simp [World.setCell]; omega, (HX.out.later HB1.out).store (by simp; omega) _, (HR.out.later HB1.out).store (by simp; omega) _, HSX.out, (HO.out.keep fun b hb hlt => HB1.out.block b hlt).store (fun b hb => by show b ≠ w1.heap.size; omega) _⟩
        case measure => simp [intOf]; omega
    · have x0 : wr.cell? ⟨w.heap.size, 0, none⟩ = some (.int .i64 k) := hx.cell (i := 0) (by simp)
      have x1 : wr.cell? ⟨w.heap.size, 1, none⟩ = some (.int .i64 l) := hx.cell (i := 1) (by simp)
      have x2 : wr.cell? ⟨w.heap.size, 2, none⟩ = some (.int .i64 s) := hx.cell (i := 2) (by simp)
      have x3 : wr.cell? ⟨w.heap.size, 3, none⟩ = some (.slice (some ⟨w.heap.size + 2, 0, none⟩) bs.length bs.length) := hx.cell (i := 3) (by simp)
      have r0 : wr.cell? ⟨w.heap.size + 1, 0, none⟩ = some (.int .i64 0) := hr.cell (i := 0) (by simp)
      have r1 : wr.cell? ⟨w.heap.size + 1, 1, none⟩ = some (.int .i64 0) := hr.cell (i := 1) (by simp)
      have r2 : wr.cell? ⟨w.heap.size + 1, 2, none⟩ = some (.int .i64 0) := hr.cell (i := 2) (by simp)
      have r3 : wr.cell? ⟨w.heap.size + 1, 3, none⟩ = some (.slice none 0 0) := hr.cell (i := 3) (by simp)
      have r4 : wr.cell? ⟨w.heap.size + 1, 4, none⟩ = some (.slice none 0 0) := hr.cell (i := 4) (by simp)
      have s0 := hr.frozen 0
      have s1 := hr.frozen 1
      have s2 := hr.frozen 2
      have s3 := hr.frozen 3
      have s4 := hr.frozen 4
      have HEO : Hid (EntsO wr (.slice (some ⟨w1.heap.size, 0, none⟩) nE nE) es (fun b => b = w1.heap.size)) := Or.inr ⟨w1.heap.size, nE, rfl, by rw [HNE.out], ⟨by rw [HNE.out]; unfold maxLen; omega, by rw [HNE.out]; exact Nat.le_refl _, HZ.out⟩, by rw [HNE.out]; exact he⟩
      clear hbw hx hr he ho
      go_wp2
      refine bodyPost_ret (v := .agg #[.int .i64 k, .int .i64 l, .int .i64 s, .slice (some ⟨w.heap.size + 2, 0, none⟩) bs.length bs.length, .slice (some ⟨w1.heap.size, 0, none⟩) nE nE]) (by simp [results, Tryz.results57, go_sem, r0, r1, r2, r3, r4]) rfl ⟨_, _, _, _, _, _, rfl, ((((HBW.out.setCell (by simp) _).setCell (by simp) _).setCell (by simp) _).setCell (by simp) _).setCell (by simp) _, ⟨rfl, rfl, rfl, _, _, _, rfl, Nat.le_refl _⟩, (fun b => w.heap.size + 2 ≤ b ∧ b < w1.heap.size), (fun b => b = w1.heap.size), HO.out.keep fun b hb _ => ?_, HEO.out.keep fun b hb _ => ?_, fun b h1 h2 => by omega, fun b hb => ?_⟩
      · rw [Below.heap_setCell _ _ _ _ (by simp; omega), Below.heap_setCell _ _ _ _ (by simp; omega), Below.heap_setCell _ _ _ _ (by simp; omega), Below.heap_setCell _ _ _ _ (by simp; omega), Below.heap_setCell _ _ _ _ (by simp; omega)]
      · rw [Below.heap_setCell _ _ _ _ (by simp; omega), Below.heap_setCell _ _ _ _ (by simp; omega), Below.heap_setCell _ _ _ _ (by simp; omega), Below.heap_setCell _ _ _ _ (by simp; omega), Below.heap_setCell _ _ _ _ (by simp; omega)]
      · unfold fresh
        simp only [World.setCell, Array.size_modify]
        rcases hb with hb | hb <;> omega
end Go.Proofs.YtlacppjlclfpmaaGreat

namespace Go.Proofs.YtlacppjlclfpmaaGreat
open Go.RowKit
set_option maxRecDepth 100000

theorem set_getD {α : Type} (l : List α) (j : Nat) (x z : α) (i : Nat) (hj : j < l.length) : (l.set j x)[i]?.getD z = if i = j then x else l[i]?.getD z := by
  rw [List.getElem?_set]
  by_cases e : i = j
  · subst e; simp [hj]
  · rw [if_neg (fun h => e h.symm), if_neg e]

/-- Lists of bytes stand in the row at block b. -/
structure YsS (w : World) (b n cap : Nat) (zss : List (List UInt8)) (F : Nat → Prop) : Prop where
  len : zss.length = n
  max : n ≤ maxLen ∧ n ≤ cap
  own : ∃ (u : Nat → Value) (G : Nat → Nat → Prop), F b ∧ (∀ i c, G i c → F c ∧ c ≠ b) ∧ (∀ i j c, i ≠ j → G i c → ¬ G j c) ∧ OwnRow w b n u ∧ ∀ i, i < n → BytO w (u i) (zss[i]?.getD []) (G i)
theorem YsS.byts {w : World} {b n cap : Nat} {zss : List (List UInt8)} {F : Nat → Prop} (h : YsS w b n cap zss F) : BytsO w (.slice (some ⟨b, 0, none⟩) n cap) zss F := by
  obtain ⟨rfl, hm, u, G, h1, h2, h3, h4, h5⟩ := h
  exact Or.inr ⟨b, cap, u, G, h1, h2, h3, rfl, hm, h4, h5⟩
theorem YsS.of {w : World} {v : Value} {zss : List (List UInt8)} {F : Nat → Prop} (h : BytsO w v zss F) (h0 : 0 < zss.length) : ∃ b cap, v = .slice (some ⟨b, 0, none⟩) zss.length cap ∧ YsS w b zss.length cap zss F := by
  rcases h with ⟨rfl, _⟩ | ⟨b, cap, u, G, hF, hG, hGG, h1, h2, h3, h4⟩
  · simp at h0
  · exact ⟨b, cap, h1, rfl, h2, u, G, hF, hG, hGG, h3, h4⟩
theorem YsS.keep {w w' : World} {b n cap : Nat} {zss : List (List UInt8)} {F : Nat → Prop} (h : YsS w b n cap zss F) (e : ∀ c, F c → c < w.heap.size → w'.heap[c]? = w.heap[c]?) : YsS w' b n cap zss F := by
  obtain ⟨h0, hm, u, G, h1, h2, h3, h4, h5⟩ := h
  exact ⟨h0, hm, u, G, h1, h2, h3, h4.block (e b h1 h4.lt), fun i hi => (h5 i hi).keep fun c hc => e c (h2 i c hc).1⟩
theorem YsS.mono {w : World} {b n cap : Nat} {zss : List (List UInt8)} {F F' : Nat → Prop} (h : YsS w b n cap zss F) (e : ∀ c, F c → F' c) : YsS w b n cap zss F' := by
  obtain ⟨h0, hm, u, G, h1, h2, h3, h4, h5⟩ := h
  exact ⟨h0, hm, u, G, e b h1, fun i c hc => ⟨e c (h2 i c hc).1, (h2 i c hc).2⟩, h3, h4, h5⟩
theorem YsS.bound {w : World} {b n cap : Nat} {zss : List (List UInt8)} {F : Nat → Prop} (h : YsS w b n cap zss F) : YsS w b n cap zss (fun c => F c ∧ c < w.heap.size) := by
  obtain ⟨h0, hm, u, G, h1, h2, h3, h4, h5⟩ := h
  exact ⟨h0, hm, u, fun i c => G i c ∧ c < w.heap.size, ⟨h1, h4.lt⟩, fun i c hc => ⟨⟨(h2 i c hc.1).1, hc.2⟩, (h2 i c hc.1).2⟩, fun i j c e hc hc' => h3 i j c e hc.1 hc'.1, h4, fun i hi => (h5 i hi).bound⟩
theorem YsS.cell {w : World} {b n cap : Nat} {zss : List (List UInt8)} {F : Nat → Prop} (h : YsS w b n cap zss F) (y : Nat) (hy : y < n) : ∃ ua uc, w.cell? ⟨b, y, none⟩ = some (.slice ua (zss[y]?.getD []).length uc) ∧ w.frozen? ⟨b, y, none⟩ = false ∧ Byt w (.slice ua (zss[y]?.getD []).length uc) (zss[y]?.getD []) := by
  obtain ⟨h0, hm, u, G, h1, h2, h3, h4, h5⟩ := h
  obtain ⟨ua, uc, e, h6, h7⟩ := (h5 y hy).reads
  have := h4.cell hy
  rw [e] at this
  exact ⟨ua, uc, this, h4.frozen y, ua, uc, rfl, h6, h7⟩
/-- One list turns. -/
theorem YsS.put {w W : World} {b n cap : Nat} {zss : List (List UInt8)} {F G' : Nat → Prop} (h : YsS w b n cap zss F) (y : Nat) (hy : y < n) (hk : ∀ c, F c → c < w.heap.size → W.heap[c]? = w.heap[c]?) (v : Value) (zs : List UInt8) (hv : BytO W v zs G') (hG : ∀ c, G' c → w.heap.size ≤ c ∧ ¬ c = b) :
    YsS (W.setCell ⟨b, y, none⟩ v) b n cap (zss.set y zs) (fun c => F c ∨ G' c) := by
  obtain ⟨h0, hm, u, G, h1, h2, h3, h4, h5⟩ := h.bound
  refine ⟨by simpa using h0, hm, fun i => if i = y then v else u i, fun i c => if i = y then G' c else G i c, Or.inl h1.1, fun i c hc => ?_, fun i j c e hc hc' => ?_, ((h4.block (hk b h1.1 h1.2)).set y v).congr fun i _ => rfl, fun i hi => ?_⟩
  · by_cases e : i = y
    · simp only [e, if_true] at hc
      exact ⟨Or.inr hc, (hG c hc).2⟩
    · simp only [e, if_false] at hc
      exact ⟨Or.inl (h2 i c hc).1.1, (h2 i c hc).2⟩
  · by_cases ei : i = y
    · have ej : ¬ j = y := fun ej => e (ei.trans ej.symm)
      simp only [ei, ej, if_true, if_false] at hc hc'
      have := (h2 j c hc').1.2
      have := (hG c hc).1
      omega
    · by_cases ej : j = y
      · simp only [ei, ej, if_true, if_false] at hc hc'
        have := (h2 i c hc).1.2
        have := (hG c hc').1
        omega
      · simp only [ei, ej, if_false] at hc hc'
        exact h3 i j c e hc hc'
  · rw [set_getD _ _ _ _ _ (by omega)]
    by_cases e : i = y
    · simp only [e, if_true]
      exact hv.keep fun c hc _ => Below.heap_setCell _ _ _ _ (hG c hc).2
    · simp only [e, if_false]
      exact ((h5 i hi).keep fun c hc hlt => hk c (h2 i c hc).1.1 hlt).keep fun c hc _ => Below.heap_setCell _ _ _ _ (h2 i c hc).2

/-- Inodes stand in the row at block b. -/
structure InS (w : World) (b n cap : Nat) (ds : List ID) (F : Nat → Prop) : Prop where
  len : ds.length = n
  max : n ≤ maxLen ∧ n ≤ cap
  own : ∃ (u : Nat → Value × Value) (G : Nat → Nat → Prop), F b ∧ (∀ i c, G i c → F c ∧ c ≠ b) ∧ (∀ i j c, i ≠ j → G i c → ¬ G j c) ∧ OwnRow w b (n * 5) (inCell ds u) ∧
    ∀ i, i < n → InoU w (.int .i64 (ds[i]?.getD id0).1) (.int .i64 (ds[i]?.getD id0).2.1) (.int .i64 (ds[i]?.getD id0).2.2.1) (u i).1 (u i).2 (ds[i]?.getD id0) (G i)
theorem InS.inos {w : World} {b n cap : Nat} {ds : List ID} {F : Nat → Prop} (h : InS w b n cap ds F) : InosO w (.slice (some ⟨b, 0, none⟩) n cap) ds F := by
  obtain ⟨rfl, hm, u, G, h1, h2, h3, h4, h5⟩ := h
  exact Or.inr ⟨b, cap, u, G, h1, h2, h3, rfl, hm, h4, h5⟩
theorem InS.of {w : World} {v : Value} {ds : List ID} {F : Nat → Prop} (h : InosO w v ds F) (h0 : 0 < ds.length) : ∃ b cap, v = .slice (some ⟨b, 0, none⟩) ds.length cap ∧ InS w b ds.length cap ds F := by
  rcases h with ⟨rfl, _⟩ | ⟨b, cap, u, G, hF, hG, hGG, h1, h2, h3, h4⟩
  · simp at h0
  · exact ⟨b, cap, h1, rfl, h2, u, G, hF, hG, hGG, h3, h4⟩
theorem InS.keep {w w' : World} {b n cap : Nat} {ds : List ID} {F : Nat → Prop} (h : InS w b n cap ds F) (e : ∀ c, F c → c < w.heap.size → w'.heap[c]? = w.heap[c]?) : InS w' b n cap ds F := by
  obtain ⟨h0, hm, u, G, h1, h2, h3, h4, h5⟩ := h
  exact ⟨h0, hm, u, G, h1, h2, h3, h4.block (e b h1 h4.lt), fun i hi => (h5 i hi).keep fun c hc => e c (h2 i c hc).1⟩
theorem InS.mono {w : World} {b n cap : Nat} {ds : List ID} {F F' : Nat → Prop} (h : InS w b n cap ds F) (e : ∀ c, F c → F' c) : InS w b n cap ds F' := by
  obtain ⟨h0, hm, u, G, h1, h2, h3, h4, h5⟩ := h
  exact ⟨h0, hm, u, G, e b h1, fun i c hc => ⟨e c (h2 i c hc).1, (h2 i c hc).2⟩, h3, h4, h5⟩
theorem InS.bound {w : World} {b n cap : Nat} {ds : List ID} {F : Nat → Prop} (h : InS w b n cap ds F) : InS w b n cap ds (fun c => F c ∧ c < w.heap.size) := by
  obtain ⟨h0, hm, u, G, h1, h2, h3, h4, h5⟩ := h
  exact ⟨h0, hm, u, fun i c => G i c ∧ c < w.heap.size, ⟨h1, h4.lt⟩, fun i c hc => ⟨⟨(h2 i c hc.1).1, hc.2⟩, (h2 i c hc.1).2⟩, fun i j c e hc hc' => h3 i j c e hc.1 hc'.1, h4, fun i hi => (h5 i hi).bound⟩
/-- What lies at place j: its cells, and its blocks, each in memory of F and none of it the row. -/
theorem InS.at' {w : World} {b n cap : Nat} {ds : List ID} {F : Nat → Prop} (h : InS w b n cap ds F) (j : Nat) (hj : j < n) : ∃ aB cB aE cE,
    w.cell? ⟨b, j * 5, none⟩ = some (.int .i64 (ds[j]?.getD id0).1) ∧ w.cell? ⟨b, j * 5 + 1, none⟩ = some (.int .i64 (ds[j]?.getD id0).2.1) ∧ w.cell? ⟨b, j * 5 + 2, none⟩ = some (.int .i64 (ds[j]?.getD id0).2.2.1) ∧
    w.cell? ⟨b, j * 5 + 3, none⟩ = some (.slice aB (ds[j]?.getD id0).2.2.2.1.length cB) ∧ w.cell? ⟨b, j * 5 + 4, none⟩ = some (.slice aE (ds[j]?.getD id0).2.2.2.2.length cE) ∧
    ((ds[j]?.getD id0).2.2.2.1.length ≤ cB) ∧ (∀ i, w.frozen? ⟨b, i, none⟩ = false) ∧ b < w.heap.size ∧
    (∀ k, k < (ds[j]?.getD id0).2.2.2.1.length → ∃ b1, aB = some ⟨b1, 0, none⟩ ∧ F b1 ∧ b1 ≠ b ∧ b1 < w.heap.size ∧ w.cell? ⟨b1, k, none⟩ = some (.int .i64 ((ds[j]?.getD id0).2.2.2.1[k]?.getD 0))) ∧
    InoR w (.int .i64 (ds[j]?.getD id0).1) (.int .i64 (ds[j]?.getD id0).2.1) (.int .i64 (ds[j]?.getD id0).2.2.1) (.slice aB (ds[j]?.getD id0).2.2.2.1.length cB) (.slice aE (ds[j]?.getD id0).2.2.2.2.length cE) (ds[j]?.getD id0) := by
  obtain ⟨h0, hm, u, G, h1, h2, h3, h4, h5⟩ := h
  have hu := h5 j hj
  obtain ⟨aB, cB, eB, _, _⟩ := hu.reads.2.1.open'
  obtain ⟨aE, cE, eE, _, _⟩ := hu.reads.2.2.open'
  have e0 := h4.cell (i := j * 5) (by omega)
  have e1 := h4.cell (i := j * 5 + 1) (by omega)
  have e2 := h4.cell (i := j * 5 + 2) (by omega)
  have e3 := h4.cell (i := j * 5 + 3) (by omega)
  have e4 := h4.cell (i := j * 5 + 4) (by omega)
  rw [inCell_0] at e0
  rw [inCell_1] at e1
  rw [inCell_2] at e2
  rw [inCell_3, eB] at e3
  rw [inCell_4, eE] at e4
  have hr := hu.reads
  rw [eB, eE] at hr
  refine ⟨aB, cB, aE, cE, e0, e1, e2, e3, e4, ?_, h4.frozen, h4.lt, fun k hk => ?_, hr⟩
  · obtain ⟨_, _, _, e, hle⟩ := hr.1.2.2.2
    simp only [Value.slice.injEq] at e
    obtain ⟨_, rfl, rfl⟩ := e
    exact hle
  · obtain ⟨_, F1, G1, hI, _, _, hf⟩ := hu
    rcases hI with ⟨hI, _⟩ | ⟨b1, cap1, hF1, hv, hl, hr1⟩
    · rw [hI] at hk; simp at hk
    · rw [eB] at hv
      simp only [Value.slice.injEq] at hv
      obtain ⟨rfl, _, rfl⟩ := hv
      have := h2 j b1 (hf b1 (Or.inl hF1))
      exact ⟨b1, rfl, this.1, this.2, hr1.lt, hr1.cell hk⟩
/-- One inode turns. -/
theorem InS.put {w W : World} {b n cap : Nat} {ds : List ID} {F G' : Nat → Prop} (h : InS w b n cap ds F) (j : Nat) (_hj : j < n) (d' : ID) (vB vE : Value)
    (hrow : ∀ u, OwnRow w b (n * 5) (inCell ds u) → OwnRow W b (n * 5) (inCell (ds.set j d') (fun i => if i = j then (vB, vE) else u i)))
    (hk : ∀ c, F c → c ≠ b → c < w.heap.size → W.heap[c]? = w.heap[c]?) (hv : InoU W (.int .i64 d'.1) (.int .i64 d'.2.1) (.int .i64 d'.2.2.1) vB vE d' G') (hG : ∀ c, G' c → ¬ F c ∧ c ≠ b) :
    InS W b n cap (ds.set j d') (fun c => F c ∨ G' c) := by
  obtain ⟨h0, hm, u, G, h1, h2, h3, h4, h5⟩ := h
  refine ⟨by simpa using h0, hm, fun i => if i = j then (vB, vE) else u i, fun i c => if i = j then G' c else G i c, Or.inl h1, fun i c hc => ?_, fun i k c e hc hc' => ?_, hrow u h4, fun i hi => ?_⟩
  · by_cases e : i = j
    · simp only [e, if_true] at hc
      exact ⟨Or.inr hc, (hG c hc).2⟩
    · simp only [e, if_false] at hc
      exact ⟨Or.inl (h2 i c hc).1, (h2 i c hc).2⟩
  · by_cases ei : i = j
    · have ej : ¬ k = j := fun ej => e (ei.trans ej.symm)
      simp only [ei, ej, if_true, if_false] at hc hc'
      exact (hG c hc).1 (h2 k c hc').1
    · by_cases ej : k = j
      · simp only [ei, ej, if_true, if_false] at hc hc'
        exact (hG c hc').1 (h2 i c hc).1
      · simp only [ei, ej, if_false] at hc hc'
        exact h3 i k c e hc hc'
  · rw [set_getD _ _ _ _ _ (by omega)]
    by_cases e : i = j
    · simp only [e, if_true]
      exact hv
    · simp only [e, if_false]
      exact (h5 i hi).keep fun c hc hlt => hk c (h2 i c hc).1 (h2 i c hc).2 hlt

/-- How the row's cells turn where an inode does. -/
theorem inCell_set (ds : List ID) (u : Nat → Value × Value) (j : Nat) (hj : j < ds.length) (d' : ID) (vB vE : Value) (c : Nat) :
    inCell (ds.set j d') (fun i => if i = j then (vB, vE) else u i) c = if c = j * 5 then .int .i64 d'.1 else if c = j * 5 + 1 then .int .i64 d'.2.1 else if c = j * 5 + 2 then .int .i64 d'.2.2.1 else if c = j * 5 + 3 then vB else if c = j * 5 + 4 then vE else inCell ds u c := by
  unfold inCell
  dsimp only
  rw [set_getD _ _ _ _ _ hj]
  by_cases e : c / 5 = j
  · have : c % 5 = 0 ∨ c % 5 = 1 ∨ c % 5 = 2 ∨ c % 5 = 3 ∨ c % 5 = 4 := by omega
    rcases this with h | h | h | h | h
    · rw [if_pos e, if_pos h, if_pos (by omega)]
    · rw [if_pos e, if_neg (by omega), if_pos h, if_neg (by omega), if_pos (by omega)]
    · rw [if_pos e, if_neg (by omega), if_neg (by omega), if_pos h, if_neg (by omega), if_neg (by omega), if_pos (by omega)]
    · rw [if_neg (by omega), if_neg (by omega), if_neg (by omega), if_pos h, if_pos e, if_neg (by omega), if_neg (by omega), if_neg (by omega), if_pos (by omega)]
    · rw [if_neg (by omega), if_neg (by omega), if_neg (by omega), if_neg (by omega), if_pos e, if_neg (by omega), if_neg (by omega), if_neg (by omega), if_neg (by omega), if_pos (by omega)]
  · rw [if_neg e, if_neg e, if_neg (show ¬ c = j * 5 by omega), if_neg (show ¬ c = j * 5 + 1 by omega), if_neg (show ¬ c = j * 5 + 2 by omega), if_neg (show ¬ c = j * 5 + 3 by omega), if_neg (show ¬ c = j * 5 + 4 by omega)]

/-- A file system whose two rows stand at blocks bI and bD. -/
structure FsS (w : World) (bI n cI bD m cD : Nat) (d : FD) (F : Nat → Prop) : Prop where
  own : ∃ F1 G1 : Nat → Prop, InS w bI n cI d.1 F1 ∧ YsS w bD m cD d.2 G1 ∧ (∀ b, F1 b → ¬ G1 b) ∧ ∀ b, F1 b ∨ G1 b → F b ∧ b < w.heap.size
theorem FsS.fs {w : World} {bI n cI bD m cD : Nat} {d : FD} {F : Nat → Prop} (h : FsS w bI n cI bD m cD d F) : FsU w (.slice (some ⟨bI, 0, none⟩) n cI) (.slice (some ⟨bD, 0, none⟩) m cD) d F := by
  obtain ⟨F1, G1, h1, h2, h3, h4⟩ := h
  exact ⟨F1, G1, h1.inos, h2.byts, h3, fun b hb => (h4 b hb).1⟩
theorem FsS.of {w : World} {v1 v2 : Value} {d : FD} {F : Nat → Prop} (h : FsU w v1 v2 d F) (h1 : 0 < d.1.length) (h2 : 0 < d.2.length) : ∃ bI cI bD cD, v1 = .slice (some ⟨bI, 0, none⟩) d.1.length cI ∧ v2 = .slice (some ⟨bD, 0, none⟩) d.2.length cD ∧ FsS w bI d.1.length cI bD d.2.length cD d F := by
  obtain ⟨F1, G1, i1, i2, i3, i4⟩ := h
  obtain ⟨bI, cI, rfl, k1⟩ := InS.of i1 h1
  obtain ⟨bD, cD, rfl, k2⟩ := YsS.of i2 h2
  exact ⟨bI, cI, bD, cD, rfl, rfl, _, _, k1.bound, k2.bound, fun b hb hb' => i3 b hb.1 hb'.1, fun b hb => by
    rcases hb with hb | hb
    · exact ⟨i4 b (Or.inl hb.1), hb.2⟩
    · exact ⟨i4 b (Or.inr hb.1), hb.2⟩⟩
theorem FsS.later {w w' : World} {bI n cI bD m cD : Nat} {d : FD} {F : Nat → Prop} (h : FsS w bI n cI bD m cD d F) (hb : Below w.heap.size w w') : FsS w' bI n cI bD m cD d F := by
  obtain ⟨F1, G1, h1, h2, h3, h4⟩ := h
  exact ⟨F1, G1, h1.keep fun c _ hlt => hb.block c hlt, h2.keep fun c _ hlt => hb.block c hlt, h3, fun b hb' => ⟨(h4 b hb').1, Nat.lt_of_lt_of_le (h4 b hb').2 hb.size⟩⟩
theorem FsS.mono {w : World} {bI n cI bD m cD : Nat} {d : FD} {F F' : Nat → Prop} (h : FsS w bI n cI bD m cD d F) (e : ∀ c, F c → F' c) : FsS w bI n cI bD m cD d F' := by
  obtain ⟨F1, G1, h1, h2, h3, h4⟩ := h
  exact ⟨F1, G1, h1, h2, h3, fun b hb => ⟨e b (h4 b hb).1, (h4 b hb).2⟩⟩
/-- Stores elsewhere. -/
theorem FsS.chg {w w' : World} {bI n cI bD m cD : Nat} {d : FD} {F G : Nat → Prop} (h : FsS w bI n cI bD m cD d F) (hc : Chg G w w') (hd : ∀ b, F b → ¬ G b) : FsS w' bI n cI bD m cD d F := by
  obtain ⟨F1, G1, h1, h2, h3, h4⟩ := h
  exact ⟨F1, G1, h1.keep fun c hc' hlt => hc.block c hlt (hd c (h4 c (Or.inl hc')).1), h2.keep fun c hc' hlt => hc.block c hlt (hd c (h4 c (Or.inr hc')).1), h3, fun b hb' => ⟨(h4 b hb').1, Nat.lt_of_lt_of_le (h4 b hb').2 hc.size⟩⟩
theorem FsS.len {w : World} {bI n cI bD m cD : Nat} {d : FD} {F : Nat → Prop} (h : FsS w bI n cI bD m cD d F) : d.1.length = n ∧ d.2.length = m := by
  obtain ⟨F1, G1, h1, h2, h3, h4⟩ := h
  exact ⟨h1.len, h2.len⟩
theorem FsS.ne {w : World} {bI n cI bD m cD : Nat} {d : FD} {F : Nat → Prop} (h : FsS w bI n cI bD m cD d F) : bI ≠ bD ∧ (F bI ∧ bI < w.heap.size) ∧ (F bD ∧ bD < w.heap.size) := by
  obtain ⟨F1, G1, h1, h2, h3, h4⟩ := h
  obtain ⟨_, _, u, G, a1, _⟩ := h1
  obtain ⟨_, _, u', G', b1, _⟩ := h2
  exact ⟨fun e => h3 bI a1 (e ▸ b1), h4 _ (Or.inl a1), h4 _ (Or.inr b1)⟩
theorem FsS.data {w : World} {bI n cI bD m cD : Nat} {d : FD} {F : Nat → Prop} (h : FsS w bI n cI bD m cD d F) (y : Nat) (hy : y < m) : ∃ ua uc, w.cell? ⟨bD, y, none⟩ = some (.slice ua (d.2[y]?.getD []).length uc) ∧ w.frozen? ⟨bD, y, none⟩ = false ∧ Byt w (.slice ua (d.2[y]?.getD []).length uc) (d.2[y]?.getD []) := by
  obtain ⟨F1, G1, h1, h2, h3, h4⟩ := h
  exact h2.cell y hy
/-- The bytes of one block turn. -/
theorem FsS.put {w W : World} {bI n cI bD m cD : Nat} {d : FD} {F G : Nat → Prop} (h : FsS w bI n cI bD m cD d F) (y : Nat) (hy : y < m) (hb : Below w.heap.size w W) (v : Value) (zs : List UInt8) (hv : BytO W v zs G) (hG : ∀ c, G c → F c ∧ w.heap.size ≤ c ∧ c < W.heap.size) :
    FsS (W.setCell ⟨bD, y, none⟩ v) bI n cI bD m cD (d.1, d.2.set y zs) F := by
  have hne := h.ne
  obtain ⟨F1, G1, h1, h2, h3, h4⟩ := h
  refine ⟨F1, fun c => G1 c ∨ G c, h1.keep fun c hc hlt => ?_, h2.put y hy (fun c _ hlt => hb.block c hlt) v zs hv (fun c hc => ⟨(hG c hc).2.1, ?_⟩), fun b hb1 hb2 => ?_, fun b hb' => ?_⟩
  · rw [Below.heap_setCell _ _ _ _ (fun e => h3 c hc (by
      obtain ⟨_, _, u', G', b1, _⟩ := h2
      show G1 c
      rw [show c = bD from e]
      exact b1)), hb.block c hlt]
  · have := (hG c hc).2.1
    have := hne.2.2.2
    omega
  · rcases hb2 with hb2 | hb2
    · exact h3 b hb1 hb2
    · have := (h4 b (Or.inl hb1)).2
      have := (hG b hb2).2.1
      omega
  · have hs := hb.size
    have e : (W.setCell ⟨bD, y, none⟩ v).heap.size = W.heap.size := by simp [World.setCell]
    rw [e]
    rcases hb' with hb' | hb' | hb'
    · exact ⟨(h4 b (Or.inl hb')).1, Nat.lt_of_lt_of_le (h4 b (Or.inl hb')).2 hs⟩
    · exact ⟨(h4 b (Or.inr hb')).1, Nat.lt_of_lt_of_le (h4 b (Or.inr hb')).2 hs⟩
    · exact ⟨(hG b hb').1, (hG b hb').2.2⟩
/-- The inode at a place turns: its row is stored into, and its blocks are a list in block kb. -/
theorem FsS.putI {w W : World} {bI n cI bD m cD : Nat} {d : FD} {F G : Nat → Prop} (h : FsS w bI n cI bD m cD d F) (j : Nat) (hj : j < n) (d' : ID) (vB vE : Value)
    (hrow : ∀ u, OwnRow w bI (n * 5) (inCell d.1 u) → OwnRow W bI (n * 5) (inCell (d.1.set j d') (fun i => if i = j then (vB, vE) else u i)))
    (hc : Chg (fun c => c = bI) w W) (hv : InoU W (.int .i64 d'.1) (.int .i64 d'.2.1) (.int .i64 d'.2.2.1) vB vE d' G) (hG : ∀ c, G c → ¬ F c ∧ c < W.heap.size) :
    FsS W bI n cI bD m cD (d.1.set j d', d.2) (fun c => F c ∨ G c) := by
  have hne := h.ne
  obtain ⟨F1, G1, h1, h2, h3, h4⟩ := h
  refine ⟨fun c => F1 c ∨ G c, G1, h1.put j hj d' vB vE hrow (fun c _ hc1 hlt => hc.block c hlt hc1) hv (fun c hc' => ⟨fun h => (hG c hc').1 (h4 c (Or.inl h)).1, fun e => (hG c hc').1 (e ▸ hne.2.1.1)⟩), h2.keep fun c hc' hlt => hc.block c hlt (fun e => ?_), fun b hb1 hb2 => ?_, fun b hb' => ?_⟩
  · obtain ⟨_, _, u, G, a1, _⟩ := h1
    exact h3 bI a1 (e ▸ hc')
  · rcases hb1 with hb1 | hb1
    · exact h3 b hb1 hb2
    · exact (hG b hb1).1 (h4 b (Or.inr hb2)).1
  · have hs := hc.size
    rcases hb' with (hb' | hb') | hb'
    · exact ⟨Or.inl (h4 b (Or.inl hb')).1, Nat.lt_of_lt_of_le (h4 b (Or.inl hb')).2 hs⟩
    · exact ⟨Or.inr hb', (hG b hb').2⟩
    · exact ⟨Or.inl (h4 b (Or.inr hb')).1, Nat.lt_of_lt_of_le (h4 b (Or.inr hb')).2 hs⟩
/-- What lies at place j. -/
theorem FsS.ino {w : World} {bI n cI bD m cD : Nat} {d : FD} {F : Nat → Prop} (h : FsS w bI n cI bD m cD d F) (j : Nat) (hj : j < n) : ∃ aB cB aE cE,
    w.cell? ⟨bI, j * 5, none⟩ = some (.int .i64 (d.1[j]?.getD id0).1) ∧ w.cell? ⟨bI, j * 5 + 1, none⟩ = some (.int .i64 (d.1[j]?.getD id0).2.1) ∧ w.cell? ⟨bI, j * 5 + 2, none⟩ = some (.int .i64 (d.1[j]?.getD id0).2.2.1) ∧
    w.cell? ⟨bI, j * 5 + 3, none⟩ = some (.slice aB (d.1[j]?.getD id0).2.2.2.1.length cB) ∧ w.cell? ⟨bI, j * 5 + 4, none⟩ = some (.slice aE (d.1[j]?.getD id0).2.2.2.2.length cE) ∧
    ((d.1[j]?.getD id0).2.2.2.1.length ≤ cB) ∧ (∀ i, w.frozen? ⟨bI, i, none⟩ = false) ∧
    (∀ k, k < (d.1[j]?.getD id0).2.2.2.1.length → ∃ b1, aB = some ⟨b1, 0, none⟩ ∧ F b1 ∧ b1 ≠ bI ∧ b1 ≠ bD ∧ b1 < w.heap.size ∧ w.cell? ⟨b1, k, none⟩ = some (.int .i64 ((d.1[j]?.getD id0).2.2.2.1[k]?.getD 0))) := by
  obtain ⟨F1, G1, h1, h2, h3, h4⟩ := h
  obtain ⟨aB, cB, aE, cE, e0, e1, e2, e3, e4, e5, e6, e7, e8, e9⟩ := h1.at' j hj
  refine ⟨aB, cB, aE, cE, e0, e1, e2, e3, e4, e5, e6, fun k hk => ?_⟩
  obtain ⟨b1, f1, f2, f3, f4, f5⟩ := e8 k hk
  refine ⟨b1, f1, (h4 b1 (Or.inl f2)).1, f3, fun e => ?_, f4, f5⟩
  obtain ⟨_, _, u', G', g1, _⟩ := h2
  exact h3 b1 f2 (e ▸ g1)
end Go.Proofs.YtlacppjlclfpmaaGreat

namespace Go.Proofs.YtlacppjlclfpmaaGreat
open Go.RowKit
set_option maxRecDepth 100000

/-- A file system lies at b, o. -/
structure FsX (w : World) (b o : Nat) (d : FD) (aI : Option Addr) (cI : Nat) (aD : Option Addr) (cD : Nat) : Prop where
  c0 : w.cell? ⟨b, o, none⟩ = some (.slice aI d.1.length cI)
  c1 : w.cell? ⟨b, o + 1, none⟩ = some (.slice aD d.2.length cD)
  ins : Inos w (.slice aI d.1.length cI) d.1
  byt : Byts w (.slice aD d.2.length cD) d.2
theorem FsX.later {w w' : World} {b o : Nat} {d : FD} {aI : Option Addr} {cI : Nat} {aD : Option Addr} {cD : Nat} (h : FsX w b o d aI cI aD cD) (hb : Below w.heap.size w w') : FsX w' b o d aI cI aD cD :=
  ⟨cell_later hb h.c0, cell_later hb h.c1, h.ins.later hb, h.byt.later hb⟩
theorem FsX.drew {w : World} {b o : Nat} {d : FD} {aI : Option Addr} {cI : Nat} {aD : Option Addr} {cD : Nat} (h : FsX w b o d aI cI aD cD) (m : Nat) : FsX (w.drewN m) b o d aI cI aD cD := h.later (below_drewN (Below.refl _ _) m)

/-- An entry that leads nowhere. -/
def lostB (ds : List ID) (x : Int) : Bool := decide ((ds.length : Int) ≤ x) || decide (kindAt ds x.toNat = 0)
def formB (d : FD) : Bool := decide (d.1.length = 0) || decide (kindAt d.1 0 ≠ 2) || decide (d.2.length ≠ 20)
def manyF (zss : List (List UInt8)) (i : Nat) : Int := if 8 < (zss[i]?.getD []).length then 2 else 0
def lostF (ds : List ID) : Int := if (allE ds).any (lostB ds) then 4 else 0
/-- What is wrong of inodes, data and entries. -/
def fsE (d : FD) : Int := if insF d.1 = 0 then (if formB d then 1 else if fstNZ (manyF d.2) d.2.length = 0 then (if onceB d.1 20 then lostF d.1 else 7) else fstNZ (manyF d.2) d.2.length) else insF d.1

end Go.Proofs.YtlacppjlclfpmaaGreat

namespace Go.Proofs.YtlacppjlclfpmaaGreat
open Go.RowKit
set_option maxRecDepth 100000

theorem ins_ino {ds : List ID} (h : insF ds = 0) : ∀ j, j < ds.length → inoF (ds[j]?.getD id0) = 0 := by
  unfold insF at h
  by_cases h1 : 10 < ds.length
  · rw [if_pos h1] at h; omega
  · rw [if_neg h1] at h; exact fstNZ_inv h
theorem ino_ent {d : ID} (h : inoF d = 0) : ∀ k, k < d.2.2.2.2.length → 0 ≤ (d.2.2.2.2[k]?.getD en0).2 := by
  intro k hk
  have hd : dpB d = true := by unfold dpB; simpa using by omega
  unfold inoF at h
  by_cases h0 : d.1 = 0
  · rw [if_pos h0, hd, Bool.or_true, if_pos rfl] at h; omega
  · rw [if_neg h0] at h
    by_cases h1 : d.1 = 1
    · rw [if_pos h1, hd, if_pos rfl] at h; omega
    · rw [if_neg h1] at h
      by_cases h2 : d.1 = 2
      · rw [if_pos h2] at h
        by_cases h3 : fpB d = true
        · rw [if_pos h3] at h; omega
        · rw [if_neg h3] at h
          unfold dirF at h
          by_cases h4 : 6 < d.2.2.2.2.length
          · rw [if_pos h4] at h; omega
          · rw [if_neg h4] at h
            have h5 := fstNZ_inv h k hk
            unfold entF at h5
            by_cases h6 : nameF (d.2.2.2.2[k]?.getD en0).1 = 0
            · rw [if_pos h6] at h5
              by_cases h7 : 0 ≤ (d.2.2.2.2[k]?.getD en0).2 ∧ (d.2.2.2.2[k]?.getD en0).2 ≤ 9
              · exact h7.1
              · rw [if_neg h7] at h5; omega
            · rw [if_neg h6] at h5; exact absurd h5 h6
      · rw [if_neg h2] at h; omega
theorem mem_allE {ds : List ID} {x : Int} : x ∈ allE ds ↔ ∃ j, j < ds.length ∧ ∃ k, k < (ds[j]?.getD id0).2.2.2.2.length ∧ ((ds[j]?.getD id0).2.2.2.2[k]?.getD en0).2 = x := by
  unfold allE entI
  simp only [List.mem_flatMap, List.mem_map]
  constructor
  · rintro ⟨d, hd, e, he, rfl⟩
    obtain ⟨j, hj, rfl⟩ := List.getElem_of_mem hd
    obtain ⟨k, hk, rfl⟩ := List.getElem_of_mem he
    have e1 : ds[j]?.getD id0 = ds[j] := by simp [hj]
    exact ⟨j, hj, k, by rw [e1]; exact hk, by rw [e1]; simp [hk]⟩
  · rintro ⟨j, hj, k, hk, rfl⟩
    have e1 : ds[j]?.getD id0 = ds[j] := by simp [hj]
    rw [e1] at hk ⊢
    exact ⟨ds[j], List.getElem_mem hj, ds[j].2.2.2.2[k], List.getElem_mem hk, by simp [hk]⟩
theorem lost_yes {ds : List ID} {j k : Nat} (hj : j < ds.length) (hk : k < (ds[j]?.getD id0).2.2.2.2.length) (h : lostB ds ((ds[j]?.getD id0).2.2.2.2[k]?.getD en0).2 = true) : lostF ds = 4 := by
  unfold lostF; rw [if_pos (List.any_eq_true.2 ⟨_, mem_allE.2 ⟨j, hj, k, hk, rfl⟩, h⟩)]
theorem lost_no {ds : List ID} (h : ∀ j, j < ds.length → ∀ k, k < (ds[j]?.getD id0).2.2.2.2.length → lostB ds ((ds[j]?.getD id0).2.2.2.2[k]?.getD en0).2 = false) : lostF ds = 0 := by
  unfold lostF; rw [if_neg]
  intro h1
  obtain ⟨x, hx, h2⟩ := List.any_eq_true.1 h1
  obtain ⟨j, hj, k, hk, rfl⟩ := mem_allE.1 hx
  rw [h j hj k hk] at h2
  exact Bool.noConfusion h2

end Go.Proofs.YtlacppjlclfpmaaGreat
