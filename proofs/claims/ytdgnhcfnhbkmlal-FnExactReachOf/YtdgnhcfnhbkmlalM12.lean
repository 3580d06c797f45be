/- Contracts of the library, laid from the shelf for this program. What can be reached: the program's ReachOf. Bytes and lists of bytes are marked, and the marks are held. A file system is copied. File systems are marked; answers that hold bytes. -/
import Derived.Shelf.SlIterI.Nil
import Derived.Shelf.SortM.Plain
import Derived.Shelf.SortM.SortNone
import Derived.Test.YtdgnhcfnhbkmlalRows
import Derived.Test.YtdgnhcfnhbkmlalM08
import Derived.Test.YtdgnhcfnhbkmlalM11
import Derived.Test.YtdgnhcfnhbkmlalM03
import Derived.Test.YtdgnhcfnhbkmlalM01
import Derived.Test.YtdgnhcfnhbkmlalM10
namespace Go.Proofs.Ytdgnhcfnhbkmlal
open Go.Shelf
set_option maxRecDepth 100000
def Try.keysA_ren : Go.Shelf.Ren := ⟨fun | 7 => 57 | 10 => 88 | n => n, fun | 23 => 81 | 26 => 2 | 3 => 2 | 28 => 79 | 0 => 0 | 27 => 78 | 33 => 113 | 4 => 4 | n => n, fun | n => n⟩
theorem Try.keysA : Go.Proofs.SlLaysZI.n7 Try.prog Try.keysA_ren := {
  mixed := by kernel_rfl
  f7 := ⟨Try.f57.name, by decide, Try.func57.trans (congrArg some (by kernel_rfl))⟩
  f10 := ⟨Try.f88.name, by decide, Try.func88.trans (congrArg some (by kernel_rfl))⟩
  t0 := Try.underlying0
  a0 := Try.isAgg0
  z0 := Try.sizeOf0
  v0 := Try.zeroValue0
  t4 := Try.underlying4
  a4 := Try.isAgg4
  z4 := Try.sizeOf4
  v4 := Try.zeroValue4
  t23 := Try.underlying81
  a23 := Try.isAgg81
  z23 := Try.sizeOf81
  v23 := Try.zeroValue81
  t26 := Try.underlying2
  a26 := Try.isAgg2
  z26 := Try.sizeOf2
  v26 := Try.zeroValue2
  t27 := Try.underlying78
  a27 := Try.isAgg78
  z27 := Try.sizeOf78
  v27 := Try.zeroValue78
  t28 := Try.underlying79
  a28 := Try.isAgg79
  z28 := Try.sizeOf79
  v28 := Try.zeroValue79
  t33 := Try.underlying113
  a33 := Try.isAgg113
  z33 := Try.sizeOf113
  v33 := Try.zeroValue113 }
def Try.sortedA_ren : Go.Shelf.Ren := ⟨fun | 6 => 56 | 8 => 86 | 9 => 87 | 11 => 108 | 13 => 110 | 12 => 109 | 23 => 130 | 24 => 131 | 14 => 121 | 15 => 122 | 16 => 123 | 17 => 124 | 18 => 125 | 19 => 126 | 20 => 127 | 21 => 128 | 22 => 129 | 25 => 140 | 26 => 141 | 27 => 142 | 28 => 143 | 29 => 144 | 30 => 145 | 31 => 148 | n => n, fun | 26 => 2 | 28 => 79 | 24 => 51 | 0 => 0 | 3 => 3 | 37 => 132 | 48 => 148 | 50 => 150 | 4 => 4 | 40 => 140 | 39 => 139 | 45 => 145 | 5 => 5 | 9 => 9 | 51 => 155 | 55 => 159 | 57 => 162 | 58 => 163 | 33 => 113 | n => n, fun | n => n⟩
theorem Try.sortedA : Go.Proofs.SlLaysZI.n6 Try.prog Try.sortedA_ren := {
  mixed := by kernel_rfl
  f6 := ⟨Try.f56.name, by decide, Try.func56.trans (congrArg some (by kernel_rfl))⟩
  f8 := ⟨Try.f86.name, by decide, Try.func86.trans (congrArg some (by kernel_rfl))⟩
  f11 := ⟨Try.f108.name, by decide, Try.func108.trans (congrArg some (by kernel_rfl))⟩
  t0 := Try.underlying0
  a0 := Try.isAgg0
  z0 := Try.sizeOf0
  v0 := Try.zeroValue0
  t24 := Try.underlying51
  a24 := Try.isAgg51
  z24 := Try.sizeOf51
  v24 := Try.zeroValue51
  t26 := Try.underlying2
  a26 := Try.isAgg2
  z26 := Try.sizeOf2
  v26 := Try.zeroValue2
  t28 := Try.underlying79
  a28 := Try.isAgg79
  z28 := Try.sizeOf79
  v28 := Try.zeroValue79
  i26 := by kernel_rfl }
def Try.sortA_ren : Go.Shelf.Ren := ⟨fun | 5 => 87 | 8 => 110 | 7 => 109 | 19 => 130 | 20 => 131 | 10 => 121 | 11 => 122 | 12 => 123 | 13 => 124 | 14 => 125 | 15 => 126 | 16 => 127 | 17 => 128 | 18 => 129 | 30 => 140 | 31 => 141 | 32 => 142 | 33 => 143 | 34 => 144 | 35 => 145 | 40 => 148 | n => n, fun | 23 => 51 | 25 => 2 | 3 => 3 | 32 => 132 | 22 => 51 | 0 => 0 | 44 => 148 | 46 => 150 | 4 => 4 | 36 => 140 | 35 => 139 | 41 => 145 | 5 => 5 | 9 => 9 | 53 => 155 | 57 => 159 | 63 => 162 | 64 => 163 | n => n, fun | n => n⟩
theorem Try.sortA : Go.Proofs.SlLaysM.n5 Try.prog Try.sortA_ren := {
  mixed := by kernel_rfl
  f5 := ⟨Try.f87.name, by decide, Try.func87.trans (congrArg some (by kernel_rfl))⟩
  f7 := ⟨Try.f109.name, by decide, Try.func109.trans (congrArg some (by kernel_rfl))⟩
  f8 := Try.func110.trans (congrArg some (by kernel_rfl))
  f10 := ⟨Try.f121.name, by decide, Try.func121.trans (congrArg some (by kernel_rfl))⟩
  f11 := ⟨Try.f122.name, by decide, Try.func122.trans (congrArg some (by kernel_rfl))⟩
  f12 := ⟨Try.f123.name, by decide, Try.func123.trans (congrArg some (by kernel_rfl))⟩
  f13 := ⟨Try.f124.name, by decide, Try.func124.trans (congrArg some (by kernel_rfl))⟩
  f14 := ⟨Try.f125.name, by decide, Try.func125.trans (congrArg some (by kernel_rfl))⟩
  f15 := ⟨Try.f126.name, by decide, Try.func126.trans (congrArg some (by kernel_rfl))⟩
  f16 := ⟨Try.f127.name, by decide, Try.func127.trans (congrArg some (by kernel_rfl))⟩
  f17 := ⟨Try.f128.name, by decide, Try.func128.trans (congrArg some (by kernel_rfl))⟩
  f18 := ⟨Try.f129.name, by decide, Try.func129.trans (congrArg some (by kernel_rfl))⟩
  f19 := Try.func130.trans (congrArg some (by kernel_rfl))
  f20 := Try.func131.trans (congrArg some (by kernel_rfl))
  f30 := ⟨Try.f140.name, by decide, Try.func140.trans (congrArg some (by kernel_rfl))⟩
  f31 := Try.func141.trans (congrArg some (by kernel_rfl))
  f32 := Try.func142.trans (congrArg some (by kernel_rfl))
  f33 := ⟨Try.f143.name, by decide, Try.func143.trans (congrArg some (by kernel_rfl))⟩
  f34 := ⟨Try.f144.name, by decide, Try.func144.trans (congrArg some (by kernel_rfl))⟩
  f35 := ⟨Try.f145.name, by decide, Try.func145.trans (congrArg some (by kernel_rfl))⟩
  f40 := ⟨Try.f148.name, by decide, Try.func148.trans (congrArg some (by kernel_rfl))⟩
  t0 := Try.underlying0
  a0 := Try.isAgg0
  z0 := Try.sizeOf0
  v0 := Try.zeroValue0
  t3 := Try.underlying3
  a3 := Try.isAgg3
  z3 := Try.sizeOf3
  v3 := Try.zeroValue3
  t4 := Try.underlying4
  a4 := Try.isAgg4
  z4 := Try.sizeOf4
  v4 := Try.zeroValue4
  t5 := Try.underlying5
  a5 := Try.isAgg5
  z5 := Try.sizeOf5
  v5 := Try.zeroValue5
  t9 := Try.underlying9
  a9 := Try.isAgg9
  z9 := Try.sizeOf9
  v9 := Try.zeroValue9
  t22 := Try.underlying51
  a22 := Try.isAgg51
  z22 := Try.sizeOf51
  v22 := Try.zeroValue51
  t23 := Try.underlying51
  a23 := Try.isAgg51
  z23 := Try.sizeOf51
  v23 := Try.zeroValue51
  t25 := Try.underlying2
  a25 := Try.isAgg2
  z25 := Try.sizeOf2
  v25 := Try.zeroValue2
  t32 := Try.underlying132
  a32 := Try.isAgg132
  z32 := Try.sizeOf132
  v32 := Try.zeroValue132
  t35 := Try.underlying139
  a35 := Try.isAgg139
  z35 := Try.sizeOf139
  v35 := Try.zeroValue139
  t36 := Try.underlying140
  a36 := Try.isAgg140
  z36 := Try.sizeOf140
  v36 := Try.zeroValue140
  t41 := Try.underlying145
  a41 := Try.isAgg145
  z41 := Try.sizeOf145
  v41 := Try.zeroValue145
  t44 := Try.underlying148
  a44 := Try.isAgg148
  z44 := Try.sizeOf148
  v44 := Try.zeroValue148
  t46 := Try.underlying150
  a46 := Try.isAgg150
  z46 := Try.sizeOf150
  v46 := Try.zeroValue150
  t53 := Try.underlying155
  a53 := Try.isAgg155
  z53 := Try.sizeOf155
  v53 := Try.zeroValue155
  t57 := Try.underlying159
  a57 := Try.isAgg159
  z57 := Try.sizeOf159
  v57 := Try.zeroValue159
  t63 := Try.underlying162
  a63 := Try.isAgg162
  z63 := Try.sizeOf162
  v63 := Try.zeroValue162
  t64 := Try.underlying163
  a64 := Try.isAgg163
  z64 := Try.sizeOf163
  v64 := Try.zeroValue163 }
end Go.Proofs.Ytdgnhcfnhbkmlal

namespace Go.Proofs.Ytdgnhcfnhbkmlal
open Go.RowKit Go.Maps Go.Sort Go.Shelf
set_option maxRecDepth 100000

/-- slices.Sort at int64. -/
theorem Try.sortsA (m : Nat) : AnyZI.SortsIn Try.prog Try.sortedA_ren Fence.wide m :=
  ⟨fun blk off cap ss W hH hblk hsz => callsIn_wide.2 (AnyM.slices_Sort_int Try.sortA blk off cap ss W hH hblk hsz),
   fun p cap W => callsIn_wide.2 (AnyM.slices_Sort_int_none Try.sortA p cap W)⟩
theorem mapsKeys_any (mb : Option Nat) (W : World) : Calls Try.prog 57 #[.map mb] W fun e w' => e = .returned (.func (.func 88) #[] #[.pointer (some ⟨W.heap.size, 0, none⟩)]) ∧ w' = W.alloc (.cells #[.map mb] 81) :=
  (callsIn_wide (n := 5)).1 (AnyZI.keys_in Try.keysA Fence.wide 5 trivial rfl mb W)
set_option maxHeartbeats 1000000 in
theorem sortedKeys_any {H : Type} (b nn : Nat) (D0 : DataW H) (R : Value → Option (DataW H × List MemPlace)) (w : World) (hown : w.ownsMap Try.prog 2 R b nn D0) (hmax : Maps.size D0 ≤ maxLen) (hbytes : Maps.size D0 * 8 ≤ 140737488355328) :
    Calls Try.prog 56 #[.func (.func 88) #[] #[.pointer (some ⟨w.heap.size, 0, none⟩)]] (w.alloc (.cells #[.map (some b)] 81)) fun e w' => ∃ (v : Value) (ss : List Int), e = .returned v ∧ ss.Perm (intKeys D0) ∧
      w'.ownsRow w.heap.size 2 1 v ss.length ((ss.mergeSort (fun x y => decide (x ≤ y))).map encZ) ∧ Below w.heap.size w w' := by
  have hbl := hown.lt
  have hseq : SeqGives Fence.wide 2 Try.prog 88 #[.pointer (some ⟨w.heap.size, 0, none⟩)] encZ (fun ss => ss.Perm (intKeys D0)) (Maps.size D0) (w.alloc (.cells #[.map (some b)] 81)) :=
    AnyZI.keys_gives (ρ := Try.keysA_ren) { Try.keysA with } Fence.wide _ trivial rfl (by omega) w.heap.size b nn D0 _ (by simp) (by simp) (by
      obtain ⟨es, clock, hb, Ft, hs, hD⟩ := hown
      exact ⟨es, clock, (Below.heap_alloc _ _ b hbl).trans hb, Ft, hs, hD⟩)
  have cS := AnyZI.sorted_in Try.sortedA Fence.wide 5 trivial trivial trivial trivial rfl (by omega) (Try.sortsA _) (enters_of Try.func87 (by kernel_rfl) rfl) 88 #[.pointer (some ⟨w.heap.size, 0, none⟩)] trivial (enters_of Try.func88 (by kernel_rfl) rfl) _ _ hmax hbytes _ hseq
  change CallsIn _ _ Try.prog 56 _ _ _ at cS
  refine ((callsIn_wide (n := 5)).1 cS).mono ?_
  rintro e w' ⟨v, ss, rfl, hS, hrow, hnil, hb⟩
  exact ⟨v, ss, rfl, hS, ownsRow_base_a hrow (by simp), ((Below.refl _ w).alloc (Nat.le_refl _) _).trans (hb.mono (by simp))⟩

theorem selL_nodup (p : Nat → Bool) (n : Nat) : (selL p n).Nodup := by
  unfold selL
  exact List.Pairwise.map _ (fun a b h => by omega) (List.nodup_range.filter p)
theorem selL_mem (p : Nat → Bool) (n : Nat) (x : Int) : x ∈ selL p n ↔ 0 ≤ x ∧ x < (n : Int) ∧ p x.toNat = true := by
  unfold selL
  rw [List.mem_map]
  constructor
  · rintro ⟨k, hk, rfl⟩
    obtain ⟨h1, h2⟩ := List.mem_filter.1 hk
    have := List.mem_range.1 h1
    exact ⟨by omega, by omega, by simpa using h2⟩
  · rintro ⟨h0, h1, h2⟩
    exact ⟨x.toNat, List.mem_filter.2 ⟨List.mem_range.2 (by omega), h2⟩, by omega⟩
theorem selL_sorted (p : Nat → Bool) (n : Nat) : (selL p n).mergeSort (fun x y => decide (x ≤ y)) = selL p n := by
  refine List.mergeSort_of_pairwise ?_
  unfold selL
  refine List.Pairwise.map _ (fun a b (h : a < b) => by simp; omega) ?_
  exact List.pairwise_lt_range.filter p
open Go.WideElems (rd_key rg_of) in
open Go.ChangeMaps Go.WideShapes in
theorem entries64 {w : World} {b N : Nat} {D : DataW Unit} (h : w.ownsMap Try.prog 2 (plainElem Try.prog 2) b N D) : ∃ es, D = .map es ∧ es.Pairwise (fun p q => p.1 ≠ q.1) ∧ ∀ p ∈ es, ∃ x, p.1 = .int .i64 x ∧ wf64 x := by
  obtain ⟨es, clock, _, F, _, rfl⟩ := h
  refine ⟨_, rfl, ((sorted_perm _).pairwise_iff (fun {_ _} hne => Ne.symm hne)).2 (Maps.fit_apart Try.keyInt F), fun p hp => ?_⟩
  obtain ⟨x, hx, rfl⟩ := List.mem_map.1 (mem_sorted.1 hp)
  obtain ⟨y, hy⟩ := F.reads x hx
  rw [rg_of hy]
  obtain ⟨z, _, e, hw⟩ := Maps.keyOf_i64 Try.underlying2 (rd_key hy)
  exact ⟨z, e, hw⟩
/-- The keys of the map that is left. -/
theorem keysPerm {w : World} {b N n : Nat} {m : Int → Int} {D : DataW Unit} (hn : n ≤ 10) (ho : w.ownsMap Try.prog 2 (plainElem Try.prog 2) b N D) (ht : Tells D (fun x => decide (0 ≤ x ∧ x < (n : Int)) && !decide (m x = 0)) m) (G : Nat → Bool) (hg : ∀ j : Nat, (m (j : Int) == 0) = !G j) :
    (selL G n).Perm (intKeys D) ∧ Maps.size D ≤ 10 := by
  obtain ⟨es, rfl, hap, hk⟩ := entries64 ho
  have hgx : ∀ x : Int, 0 ≤ x → ((m x == 0) = !G x.toNat) := fun x hx => by
    have := hg x.toNat
    rwa [show ((x.toNat : Nat) : Int) = x by omega] at this
  have h2 : (selL G n).Perm (intKeys (.map es)) := perm_intKeys hap (fun p hp => by obtain ⟨x, h, _⟩ := hk p hp; exact ⟨x, h⟩) (selL_nodup G n) fun x => by
    rw [selL_mem]
    constructor
    · rintro ⟨h0, h1, hG⟩
      have hw : wf64 x := wf64_of h0 (by omega)
      rw [ht.has x hw]
      have := hgx x h0
      rw [hG] at this
      have hm : ¬ m x = 0 := by simpa using this
      simp [h0, h1, hm]
    · intro hh
      have hw : wf64 x := by
        rw [Maps.has_eq, List.any_eq_true] at hh
        obtain ⟨p, hp, hs⟩ := hh
        obtain ⟨y, hy, hwy⟩ := hk p hp
        have e := WideAt.sameKey_eq hs
        rw [hy] at e
        have : y = x := by simpa using e
        rw [← this]; exact hwy
      rw [ht.has x hw] at hh
      simp at hh
      obtain ⟨⟨h0, h1⟩, hm⟩ := hh
      refine ⟨h0, h1, ?_⟩
      have := hgx x h0
      have hb : (m x == 0) = false := by simpa using hm
      rw [hb] at this
      simpa using this.symm
  refine ⟨h2, ?_⟩
  have hl := h2.length_eq
  have hl2 := selL_len G n
  have hl3 : (intKeys (.map es)).length = es.length := by simp [intKeys]
  show es.length ≤ 10
  omega
theorem keysSorted {G : Nat → Bool} {n : Nat} {D : DataW Unit} {ss : List Int} (h2 : (selL G n).Perm (intKeys D)) (hp : ss.Perm (intKeys D)) : ss.mergeSort (fun x y => decide (x ≤ y)) = selL G n := by
  rw [mergeSort_of_perm_i (hp.trans h2.symm)]
  exact selL_sorted G n

set_option maxHeartbeats 3200000 in
theorem implReaU (w : World) (a1 : Option Addr) (n1 c1 : Nat) (a2 : Option Addr) (n2 c2 : Nat) (d : FD) (h : FsR w (.slice a1 n1 c1) (.slice a2 n2 c2) d) (hs : sizeFs d ≤ 1048576) :
    Calls Try.prog 29 #[.agg #[.slice a1 n1 c1, .slice a2 n2 c2]] w (AnsIR w (reachR d)) := by
  have hsi : sizeInos d.1 ≤ 1048576 := by unfold sizeFs at hs; omega
  have HF : Hid (∀ W, Below w.heap.size w W → Calls Try.prog 38 #[.agg #[.slice a1 n1 c1, .slice a2 n2 c2]] W fun e w' => e = .returned (.int .i64 (fsE d)) ∧ Below W.heap.size W w') := fun W hW => reachFault_any W _ _ _ _ _ _ d (h.later hW) hsi
  have hrow0 : OwnRow ((w.alloc (.cells #[.slice a1 n1 c1, .slice a2 n2 c2] 30)).alloc (.cells #[.int .i64 0, .slice none 0 0] 53)) (w.heap.size + 1) 2 (fun i => if i = 0 then .int .i64 0 else .slice none 0 0) := by
    have := box2 (w.alloc (.cells #[.slice a1 n1 c1, .slice a2 n2 c2] 30)) 53
    rw [World.size_alloc] at this
    exact this
  have HB0 : Hid (Below w.heap.size w ((w.alloc (.cells #[.slice a1 n1 c1, .slice a2 n2 c2] 30)).alloc (.cells #[.int .i64 0, .slice none 0 0] 53))) := later2 _ _ _
  have HX : Hid (Bx ((w.alloc (.cells #[.slice a1 n1 c1, .slice a2 n2 c2] 30)).alloc (.cells #[.int .i64 0, .slice none 0 0] 53)) w.heap.size [.slice a1 n1 c1, .slice a2 n2 c2]) := (Bx.new w [.slice a1 n1 c1, .slice a2 n2 c2] _).later (later1 _ _)
  have HRB : Hid (OwnRow _ (w.heap.size + 1) 2 _) := hrow0
  have HR : Hid (reachR d = if fsE d = 0 then (0, selL (reachG d.1 d.1.length) d.1.length) else (fsE d, [])) := rfl
  rw [HR.out]
  have x0 := HX.out 0 _ rfl
  have x1 := HX.out 1 _ rfl
  have hwz : ((w.alloc (.cells #[.slice a1 n1 c1, .slice a2 n2 c2] 30)).alloc (.cells #[.int .i64 0, .slice none 0 0] 53)).heap.size = w.heap.size + 2 := by simp
  clear HR hrow0
  by_cases hf : fsE d = 0
  rotate_left
  · rw [if_neg hf]
    have hb : (fsE d != 0) = true := by simpa using hf
    clear hf h
    generalize fsE d = r at *
    go_enter Try.func29, Try.ntmps29
    go_wp2_with fail
    refine (HF.out _ HB0.out).mono ?_
    rintro e w1 ⟨rfl, hb1⟩
    have HB1 : Hid (Below w.heap.size w w1) := HB0.out.trans (hb1.mono HB0.out.size)
    have hrow := HRB.out.later hb1
    have t0 := hrow.cell (i := 0) (by omega)
    have t1 := hrow.cell (i := 1) (by omega)
    have s0 := hrow.frozen 0
    have s1 := hrow.frozen 1
    simp at t0 t1
    clear hb1 hrow
    go_wp2
    exact bodyPost_ret (v := .agg #[.int .i64 r, .slice none 0 0]) (by simp [results, Try.results29, go_sem, t0, t1]) rfl (AnsIR.badB r HB1.out (by omega) _ _)
  · rw [if_pos hf]
    obtain ⟨h1, h2, _, _, h5⟩ := fsE_zero hf
    obtain ⟨g1, _, _⟩ := formB_no h2
    have hten := insF_ten h1
    rw [hf] at HF
    obtain ⟨_, _, e1, hm1, hAt⟩ := h.1.open'
    simp only [Value.slice.injEq] at e1
    obtain ⟨rfl, rfl, rfl⟩ := e1
    have HRF : Hid (∀ W, Below w.heap.size w W → Calls Try.prog 58 #[.slice a1 d.1.length c1, .int .i64 0] W fun e w' => ∃ b N m, e = .returned (.map (some b)) ∧ Below W.heap.size W w' ∧ W.heap.size ≤ b ∧ Mp w' b N (fun x => decide (0 ≤ x ∧ x < (d.1.length : Int)) && !decide (m x = 0)) m ∧ (∀ i : Nat, 0 < m (i : Int) ↔ RP (entsOf d.1) i) ∧ ∀ x, 0 ≤ m x) := fun W hW => reachFrom_any W a1 _ c1 d.1 rfl (by omega) hten (hAt.later hW) (range_of h1 h5) (six_of h1)
    have HMZ : Hid (∀ (m : Int → Int), (∀ i : Nat, 0 < m (i : Int) ↔ RP (entsOf d.1) i) → (∀ x, 0 ≤ m x) → ∀ j : Nat, (m (j : Int) == 0) = !reachG d.1 d.1.length j) := fun m h3 h4 j => map_zero (range_of h1 h5) (by omega) h3 h4 j
    clear hf h h1 h2 h5 g1 hAt hm1
    generalize reachG d.1 d.1.length = G at *
    generalize d.1.length = n at *
    go_enter Try.func29, Try.ntmps29
    go_wp2_with fail
    refine (HF.out _ HB0.out).mono ?_
    rintro e w1 ⟨rfl, hb1⟩
    have HB1 : Hid (Below w.heap.size w w1) := HB0.out.trans (hb1.mono HB0.out.size)
    have HRW : Hid (OwnRow w1 (w.heap.size + 1) 2 _) := HRB.out.later hb1
    have y0 := (HX.out.later hb1) 0 _ rfl
    have hw1 : w.heap.size + 2 ≤ w1.heap.size := by have := hb1.size; omega
    clear hb1 x0 x1
    go_wp2_with fail
    refine (HRF.out _ HB1.out).mono ?_
    rintro e w2 ⟨bm, N, m, rfl, hb2, hbm, hmp, hpos, hnn⟩
    have HB2 : Hid (Below w.heap.size w w2) := HB1.out.trans (hb2.mono HB1.out.size)
    have HRW2 : Hid (OwnRow w2 (w.heap.size + 1) 2 _) := HRW.out.later hb2
    have hw2 : w.heap.size + 2 ≤ w2.heap.size := by have := hb2.size; omega
    have hmz := HMZ.out m hpos hnn
    obtain ⟨D, ho, ht⟩ := hmp
    obtain ⟨hpe, hsz⟩ := keysPerm hten ho ht G hmz
    have HSK : Hid (Calls Try.prog 56 _ _ _) := sortedKeys_any bm N D _ w2 ho (by unfold maxLen; omega) (by omega)
    have HKS : Hid (∀ ss : List Int, ss.Perm (intKeys D) → ss.mergeSort (fun x y => decide (x ≤ y)) = selL G n) := fun ss hp => keysSorted hpe hp
    have HMK : Hid (∀ W, Calls Try.prog 57 #[.map (some bm)] W fun e w' => e = .returned (.func (.func 88) #[] #[.pointer (some ⟨W.heap.size, 0, none⟩)]) ∧ w' = W.alloc (.cells #[.map (some bm)] 81)) := fun W => mapsKeys_any _ W
    clear hb2 hbm hpos hnn ho ht hpe hsz hmz y0
    go_wp2_with fail
    refine (HMK.out _).mono ?_
    rintro e w3 ⟨rfl, rfl⟩
    go_wp2_with fail
    refine HSK.out.mono ?_
    rintro e w4 ⟨v, ss, rfl, hperm, hrow4, hb4⟩
    have hsrt := HKS.out ss hperm
    rw [hsrt] at hrow4
    have hlen : ss.length = (selL G n).length := by rw [← hsrt, List.length_mergeSort]
    rw [hlen] at hrow4
    have hwd : Wds w4 w2.heap.size v (selL G n) := hrow4
    obtain ⟨av, cv, rfl⟩ := hwd.shape
    have HB4 : Hid (Below w.heap.size w w4) := HB2.out.trans (hb4.mono HB2.out.size)
    have hrow := HRW2.out.later hb4
    have t0 := hrow.cell (i := 0) (by omega)
    have t1 := hrow.cell (i := 1) (by omega)
    have s0 := hrow.frozen 0
    have s1 := hrow.frozen 1
    simp at t0 t1
    have HY : Hid (IntsO w4 (.slice av (selL G n).length cv) (selL G n) (fun b => w.heap.size + 1 < b ∧ b < w4.heap.size)) := (hwd.own' (w0 := w2) (Nat.le_refl _)).mono fun b hb => ⟨by have := hb.1; omega, hb.2⟩
    clear hb4 hrow hwd hrow4 hlen hsrt hperm
    generalize (selL G n).length = ln at *
    go_wp2
    exact bodyPost_ret (v := .agg #[.int .i64 0, .slice av ln cv]) (by simp [results, Try.results29, go_sem, t0, t1]) rfl (AnsIR.putB HB4.out (by omega) HY.out _ _)
end Go.Proofs.Ytdgnhcfnhbkmlal

namespace Go.Proofs.Ytdgnhcfnhbkmlal
open Go.RowKit
set_option maxRecDepth 100000

/-- The marks of n bytes from k on. -/
def marksY (k n : Nat) : List UInt8 := (List.range n).map fun i => UInt8.ofNat (k + i)
theorem marksY_length (k n : Nat) : (marksY k n).length = n := by simp [marksY]
theorem marksY_get (k : Nat) {n i : Nat} (h : i < n) : (marksY k n)[i]?.getD 0 = UInt8.ofNat (k + i) := by
  unfold marksY; rw [List.getElem?_map, List.getElem?_range h]; rfl
theorem u8_ofNat (k : Nat) : (((UInt8.ofNat k).toNat : Nat) : Int) = (k : Int) % 256 := by
  rw [UInt8.toNat_ofNat']; omega

set_option maxHeartbeats 400000 in
theorem markByt_nil (w : World) (a : Option Addr) (cap : Nat) (k : Int) :
    Calls Try.prog 47 #[.slice a 0 cap, .int .i64 k] w fun e w' => e = .returned (.int .i64 k) ∧ w' = w := by
  go_enter Try.func47, Try.ntmps47
  go_wp2
  go_loop [1, 5] (fun q i => i = .int .i64 0 ∧ q = .int .i64 k) (fun _ _ => 0)
  case atStart => exact ⟨rfl, rfl⟩
  case round =>
    obtain ⟨rfl, rfl⟩ := hrel
    go_wp2
    go_ret
    exact ⟨rfl, rfl⟩

set_option maxHeartbeats 800000 in
theorem markByt_walk (w : World) (b cap n k : Nat) (F : Nat → Prop) (f : Nat → Value) (hF : F b) (hk : k + n ≤ 4611686018427387904) (hr : OwnRow w b n f) :
    Calls Try.prog 47 #[.slice (some ⟨b, 0, none⟩) n cap, .int .i64 (k : Int)] w fun e w' => e = .returned (.int .i64 ((k + n : Nat) : Int)) ∧ OwnRow w' b n (fun i => .int .u8 (((k : Int) + (i : Int)) % 256)) ∧ Chg F w w' := by
  have HR : Hid (OwnRow w b n f) := hr
  have HF : Hid (F b) := hF
  clear hr hF
  go_enter Try.func47, Try.ntmps47
  go_wp2
  go_loopw [1, 5] (fun q i wr => ∃ j : Nat, j ≤ n ∧ i = .int .i64 j ∧ q = .int .i64 ((k : Int) + (j : Int)) ∧ OwnRow wr b n (fun i => if i < j then .int .u8 (((k : Int) + (i : Int)) % 256) else f i) ∧ Chg F w wr) (fun _ i _ => n - (intOf i).toNat)
  case atStart => exact ⟨0, Nat.zero_le _, rfl, by simp, HR.out.congr fun i _ => by simp, Chg.refl _ _⟩
  case round =>
    obtain ⟨j, hj, rfl, rfl, hrow, hch⟩ := hrel
    by_cases hlt : j < n
    · have c1 := hrow.cell hlt
      have c2 := hrow.frozen j
      have HROW : Hid (OwnRow wr b n (fun i => if i < j then .int .u8 (((k : Int) + (i : Int)) % 256) else f i)) := hrow
      have HCH : Hid (Chg F w wr) := hch
      clear hrow hch
      simp only [Nat.lt_irrefl, if_false] at c1
      have hwr : IntKind.u8.wrap ((k : Int) + (j : Int)) = ((k : Int) + (j : Int)) % 256 := by
        unfold IntKind.wrap
        simp [IntKind.signed, IntKind.bits]
      generalize hX : ((k : Int) + (j : Int)) % 256 = X at *
      have HX : Hid (((k : Int) + (j : Int)) % 256 = X) := hX
      clear hX
      go_wp2
      go_roundw
      case rel =>
        refine ⟨j + 1, by omega, by go_num, by go_num, (HROW.out.set j _).congr fun i hi => ?_, HCH.out.set HF.out _ _⟩
        by_cases e : i = j
        · subst e; simp [HX.out]
        · by_cases e2 : i < j
          · simp [e, e2, show i < j + 1 by omega]
          · simp [e, e2, show ¬ i < j + 1 by omega]
      case measure => simp [intOf]; omega
    · go_wp2
      go_ret
      have e : j = n := by omega
      subst e
      exact ⟨by first | rfl | (congr 2; omega), hrow.congr fun i hi => by simp [hi], hch⟩
def mkByt (k : Int) (zs : List UInt8) : List UInt8 := marksY k.toNat zs.length
theorem mkByt_length (k : Int) (zs : List UInt8) : (mkByt k zs).length = zs.length := marksY_length _ _
theorem markBytU {w : World} {v : Value} {zs : List UInt8} {F : Nat → Prop} (k : Int) (h : BytO w v zs F) (hk0 : 0 ≤ k) (hk : k + (zs.length : Nat) ≤ 4611686018427387904) :
    Calls Try.prog 47 #[v, .int .i64 k] w fun e w' => e = .returned (.int .i64 (k + (zs.length : Nat))) ∧ BytO w' v (mkByt k zs) F ∧ Chg F w w' := by
  obtain ⟨q, rfl⟩ := Int.eq_ofNat_of_zero_le hk0
  rcases h with ⟨rfl, a, cap, rfl⟩ | ⟨b, cap, hF, rfl, hl, hr⟩
  · exact (markByt_nil w a cap _).mono fun e w' ⟨he, hw⟩ => ⟨by rw [he]; simp, Or.inl ⟨by simp [mkByt, marksY], _, _, rfl⟩, hw ▸ Chg.refl _ _⟩
  · refine (markByt_walk w b cap zs.length q F _ hF (by omega) hr).mono fun e w' ⟨he, hro, hc⟩ => ⟨by rw [he]; simp, Or.inr ⟨b, cap, hF, by rw [mkByt_length], by rw [mkByt_length]; exact hl, ?_⟩, hc⟩
    rw [mkByt_length]
    refine hro.congr fun i hi => ?_
    unfold mkByt
    rw [marksY_get _ hi, u8_ofNat]
    congr 1
set_option maxHeartbeats 400000 in
theorem heldByt_nil (w : World) (a : Option Addr) (cap : Nat) (k : Int) :
    Calls Try.prog 53 #[.slice a 0 cap, .int .i64 k] w fun e w' => e = .returned (.int .i64 k) ∧ w' = w := by
  go_enter Try.func53, Try.ntmps53
  go_wp2
  go_loop [1, 5] (fun q i => i = .int .i64 0 ∧ q = .int .i64 k) (fun _ _ => 0)
  case atStart => exact ⟨rfl, rfl⟩
  case round =>
    obtain ⟨rfl, rfl⟩ := hrel
    go_wp2
    go_ret
    exact ⟨rfl, rfl⟩
set_option maxHeartbeats 800000 in
theorem heldByt_walk (w : World) (b off cap n k : Nat) (hk : k + n ≤ 4611686018427387904) (hc : ∀ i : Nat, i < n → w.cell? ⟨b, off + i, none⟩ = some (.int .u8 (((k : Int) + (i : Int)) % 256))) :
    Calls Try.prog 53 #[.slice (some ⟨b, off, none⟩) n cap, .int .i64 (k : Int)] w fun e w' => e = .returned (.int .i64 ((k + n : Nat) : Int)) ∧ w' = w := by
  have HC : Hid (∀ i : Nat, i < n → w.cell? ⟨b, off + i, none⟩ = some (.int .u8 (((k : Int) + (i : Int)) % 256))) := hc
  clear hc
  go_enter Try.func53, Try.ntmps53
  go_wp2
  go_loopw [1, 5] (fun q i wr => ∃ j : Nat, j ≤ n ∧ i = .int .i64 j ∧ q = .int .i64 ((k : Int) + (j : Int)) ∧ wr = w) (fun _ i _ => n - (intOf i).toNat)
  case atStart => exact ⟨0, Nat.zero_le _, rfl, by simp, rfl⟩
  case round =>
    obtain ⟨j, hj, rfl, rfl, rfl⟩ := hrel
    by_cases hlt : j < n
    · have c1 := HC.out j hlt
      have hwr : IntKind.u8.wrap ((k : Int) + (j : Int)) = ((k : Int) + (j : Int)) % 256 := by
        unfold IntKind.wrap
        simp [IntKind.signed, IntKind.bits]
      generalize ((k : Int) + (j : Int)) % 256 = X at *
      have hxx : (X != X) = false := by simp
      go_wp2
      go_roundw
      case rel => exact ⟨j + 1, by omega, by go_num, by go_num, by first | rfl | trivial⟩
      case measure => simp [intOf]; omega
    · go_wp2
      go_ret
      have e : j = n := by omega
      subst e
      exact ⟨by first | rfl | (congr 2; omega), rfl⟩
theorem heldBytU {w : World} {v : Value} {zs : List UInt8} (k : Int) (h : Byt w v (mkByt k zs)) (hk0 : 0 ≤ k) (hk : k + (zs.length : Nat) ≤ 4611686018427387904) :
    Calls Try.prog 53 #[v, .int .i64 k] w fun e w' => e = .returned (.int .i64 (k + (zs.length : Nat))) ∧ Below w.heap.size w w' := by
  obtain ⟨q, rfl⟩ := Int.eq_ofNat_of_zero_le hk0
  obtain ⟨a, cap, rfl, hm, hc⟩ := h
  rw [mkByt_length] at hc hm ⊢
  by_cases h0 : zs.length = 0
  · rw [h0]
    exact (heldByt_nil w a cap _).mono fun e w' ⟨he, hw⟩ => ⟨by rw [he]; simp, hw ▸ Below.refl _ _⟩
  · obtain ⟨b, off, rfl, _⟩ := hc 0 (by omega)
    refine (heldByt_walk w b off cap zs.length q (by omega) fun i hi => ?_).mono fun e w' ⟨he, hw⟩ => ⟨by rw [he]; simp, hw ▸ Below.refl _ _⟩
    obtain ⟨b', off', e, hcell⟩ := hc i hi
    simp only [Option.some.injEq, Addr.mk.injEq] at e
    obtain ⟨rfl, rfl, _⟩ := e
    rw [hcell]
    unfold mkByt
    rw [marksY_get _ hi, u8_ofNat]
    simp

set_option maxHeartbeats 400000 in
theorem markByts_nil (w : World) (a : Option Addr) (cap : Nat) (k : Int) :
    Calls Try.prog 19 #[.slice a 0 cap, .int .i64 k] w fun e w' => e = .returned (.int .i64 k) ∧ w' = w := by
  go_enter Try.func19, Try.ntmps19
  go_wp2
  go_loop [1, 5] (fun q i => i = .int .i64 0 ∧ q = .int .i64 k) (fun _ _ => 0)
  case atStart => exact ⟨rfl, rfl⟩
  case round =>
    obtain ⟨rfl, rfl⟩ := hrel
    go_wp2
    go_ret
    exact ⟨rfl, rfl⟩
set_option maxHeartbeats 800000 in
theorem markByts_walk (w : World) (b cap n : Nat) (k : Int) (F : Nat → Prop) (zss : List (List UInt8)) (u : Nat → Value) (G : Nat → Nat → Prop) (hG : ∀ i c, G i c → F c ∧ c ≠ b) (hGG : ∀ i j c, i ≠ j → G i c → ¬ G j c)
    (hn : zss.length = n) (hk0 : 0 ≤ k) (hk : k + ((ylens zss).sum : Nat) ≤ 4611686018427387904) (hn2 : n ≤ 9223372036854775807) (hr : OwnRow w b n u) (hu : ∀ i, i < n → BytO w (u i) (zss[i]?.getD []) (G i)) :
    Calls Try.prog 19 #[.slice (some ⟨b, 0, none⟩) n cap, .int .i64 k] w fun e w' => e = .returned (.int .i64 (k + ((ylens zss).sum : Nat))) ∧ Chg F w w' := by
  have HR : Hid (OwnRow w b n u) := hr
  have HU : Hid (∀ i, i < n → BytO w (u i) (zss[i]?.getD []) (G i)) := hu
  have HG : Hid (∀ i c, G i c → F c ∧ c ≠ b) := hG
  have HGG : Hid (∀ i j c, i ≠ j → G i c → ¬ G j c) := hGG
  have HN : Hid (zss.length = n) := hn
  clear hr hu hG hGG hn
  go_enter Try.func19, Try.ntmps19
  go_wp2
  go_loopw [1, 5] (fun q i wr => ∃ j : Nat, j ≤ n ∧ i = .int .i64 j ∧ q = .int .i64 (k + (upto (ylens zss) j : Nat)) ∧ OwnRow wr b n u ∧ (∀ i, j ≤ i → i < n → BytO wr (u i) (zss[i]?.getD []) (G i)) ∧ Chg F w wr) (fun _ i _ => n - (intOf i).toNat)
  case atStart => exact ⟨0, Nat.zero_le _, rfl, by simp [upto_zero], HR.out, fun i _ hi => HU.out i hi, Chg.refl _ _⟩
  case round =>
    obtain ⟨j, hj, rfl, rfl, hrow, hin, hch⟩ := hrel
    by_cases hlt : j < n
    · have c1 := hrow.cell hlt
      have HROW : Hid (OwnRow wr b n u) := hrow
      have HIN : Hid (∀ i, j ≤ i → i < n → BytO wr (u i) (zss[i]?.getD []) (G i)) := hin
      have HCH : Hid (Chg F w wr) := hch
      clear hrow hin hch
      have hs := upto_succ (ylens zss) j (by rw [ylens_length, HN.out]; exact hlt)
      rw [ylens_get] at hs
      have hle := upto_le (ylens zss) (j + 1)
      have HS : Hid (upto (ylens zss) (j + 1) = upto (ylens zss) j + (zss[j]?.getD []).length) := hs
      clear hs
      generalize hU : upto (ylens zss) j = U at *
      have HIJ : Hid (BytO wr (u j) (zss[j]?.getD []) (G j)) := HIN.out j (Nat.le_refl _) hlt
      go_wp2_with fail
      refine (markBytU (k + (U : Int)) HIJ.out (by omega) (by have := HS.out; omega)).mono ?_
      rintro e w' ⟨rfl, _, hc⟩
      have HC : Hid (Chg (G j) wr w') := hc
      clear hc
      go_wp2
      go_roundw
      case rel =>
        refine ⟨j + 1, by omega, by go_num, by rw [HS.out]; go_num, HROW.out.block (HC.out.block b HROW.out.lt (fun h => (HG.out j b h).2 rfl)), fun i hij hi => ?_, HCH.out.trans (HC.out.mono fun c hc => (HG.out j c hc).1)⟩
        exact (HIN.out i (by omega) hi).keep (w' := w') fun c hc hlt => HC.out.block c hlt (HGG.out i j c (by omega) hc)
      case measure => simp [intOf]; omega
    · go_wp2
      go_ret
      have e : j = n := by omega
      subst e
      exact ⟨ret_int (by rw [← HN.out, ← upto_all, ylens_length]), hch⟩
theorem markBytsU {w : World} {v : Value} {zss : List (List UInt8)} {F : Nat → Prop} (k : Int) (h : BytsO w v zss F) (hk0 : 0 ≤ k) (hk : k + ((ylens zss).sum : Nat) ≤ 4611686018427387904) :
    Calls Try.prog 19 #[v, .int .i64 k] w fun e w' => e = .returned (.int .i64 (k + ((ylens zss).sum : Nat))) ∧ Chg F w w' := by
  rcases h with ⟨rfl, a, cap, rfl⟩ | ⟨b, cap, u, G, hF, hG, hGG, rfl, hl, hr, hu⟩
  · exact (markByts_nil w a cap k).mono fun e w' ⟨he, hw⟩ => ⟨by rw [he]; simp [ylens], hw ▸ Chg.refl _ _⟩
  · exact markByts_walk w b cap zss.length k F zss u G hG hGG rfl hk0 hk (by have := hl.1; unfold maxLen at this; omega) hr hu
end Go.Proofs.Ytdgnhcfnhbkmlal

namespace Go.Proofs.Ytdgnhcfnhbkmlal
open Go.RowKit
set_option maxRecDepth 100000

set_option maxHeartbeats 3200000 in
theorem toFsU (w : World) (a1 : Option Addr) (n1 c1 : Nat) (a2 : Option Addr) (n2 c2 : Nat) (d : FD) (h : FsR w (.slice a1 n1 c1) (.slice a2 n2 c2) d) (hs : sizeFs d ≤ 1048576) :
    Calls Try.prog 10 #[.agg #[.slice a1 n1 c1, .slice a2 n2 c2]] w fun e w' => ∃ b1 m1 k1 b2 m2 k2, e = .returned (.agg #[.slice b1 m1 k1, .slice b2 m2 k2]) ∧ Below w.heap.size w w' ∧ FsU w' (.slice b1 m1 k1) (.slice b2 m2 k2) d (fresh w w') := by
  have H1 : Hid (Inos w (.slice a1 n1 c1) d.1) := h.1
  have H2 : Hid (Byts w (.slice a2 n2 c2) d.2) := h.2
  have L1 : Hid (sizeInos d.1 ≤ 1048576) := by unfold sizeFs at hs; unfold Hid; omega
  have L2 : Hid (sizeByts d.2 ≤ 1048576) := by unfold sizeFs at hs; unfold Hid; omega
  clear h hs
  go_enter Try.func10, Try.ntmps10
  go_wp2_with fail
  have O2 : OwnRow (((w.alloc (.cells #[.slice a1 n1 c1, .slice a2 n2 c2] 25)).alloc (.cells #[.slice none 0 0, .slice none 0 0] 30)).alloc (.cells #[.slice none 0 0, .slice none 0 0] 30)) (w.heap.size + 1 + 1) 2 (fun i => if i = 0 then .slice none 0 0 else .slice none 0 0) := by
    have := OwnRow.two ((w.alloc (.cells #[.slice a1 n1 c1, .slice a2 n2 c2] 25)).alloc (.cells #[.slice none 0 0, .slice none 0 0] 30)) (.slice none 0 0) (.slice none 0 0) 30
    simpa using this
  have O1 : OwnRow (((w.alloc (.cells #[.slice a1 n1 c1, .slice a2 n2 c2] 25)).alloc (.cells #[.slice none 0 0, .slice none 0 0] 30)).alloc (.cells #[.slice none 0 0, .slice none 0 0] 30)) (w.heap.size + 1) 2 (fun i => if i = 0 then .slice none 0 0 else .slice none 0 0) := by
    have := (OwnRow.two (w.alloc (.cells #[.slice a1 n1 c1, .slice a2 n2 c2] 25)) (.slice none 0 0) (.slice none 0 0) 30).later (later1 _ (.cells #[.slice none 0 0, .slice none 0 0] 30))
    simpa using this
  have O0 : OwnRow (((w.alloc (.cells #[.slice a1 n1 c1, .slice a2 n2 c2] 25)).alloc (.cells #[.slice none 0 0, .slice none 0 0] 30)).alloc (.cells #[.slice none 0 0, .slice none 0 0] 30)) w.heap.size 2 (fun i => if i = 0 then .slice a1 n1 c1 else .slice a2 n2 c2) := ((OwnRow.two w (.slice a1 n1 c1) (.slice a2 n2 c2) 25).later (later1 _ _)).later (later1 _ _)
  have HBA : Hid (Below w.heap.size w (((w.alloc (.cells #[.slice a1 n1 c1, .slice a2 n2 c2] 25)).alloc (.cells #[.slice none 0 0, .slice none 0 0] 30)).alloc (.cells #[.slice none 0 0, .slice none 0 0] 30))) := later3 _ _ _ _
  have hWs : (((w.alloc (.cells #[.slice a1 n1 c1, .slice a2 n2 c2] 25)).alloc (.cells #[.slice none 0 0, .slice none 0 0] 30)).alloc (.cells #[.slice none 0 0, .slice none 0 0] 30)).heap.size = w.heap.size + 3 := by simp
  generalize hW : (((w.alloc (.cells #[.slice a1 n1 c1, .slice a2 n2 c2] 25)).alloc (.cells #[.slice none 0 0, .slice none 0 0] 30)).alloc (.cells #[.slice none 0 0, .slice none 0 0] 30)) = W at *
  clear hW
  refine (toInosU (H1.out.later HBA.out) L1.out).mono ?_
  rintro e w1 ⟨b1, m1, k1, rfl, hb1, ho1⟩
  have HB1 : Hid (Below w.heap.size w w1) := HBA.out.trans (hb1.mono HBA.out.size)
  replace O2 := O2.later hb1
  replace O1 := O1.later hb1
  replace O0 := O0.later hb1
  have HO1 : Hid (InosO w1 (.slice b1 m1 k1) d.1 (fun b => w.heap.size + 3 ≤ b ∧ b < w1.heap.size)) := ho1.mono fun b hb => ⟨by have := hb.1; omega, hb.2⟩
  clear hb1 ho1
  have P0 := O0.cell (i := 1) (by omega)
  have d0 := O2.cell (i := 0) (by omega)
  have f0 := O2.frozen 0
  simp at P0 d0
  have HO2 : Hid (OwnRow w1 (w.heap.size + 1 + 1) 2 (fun i => if i = 0 then .slice none 0 0 else .slice none 0 0)) := O2
  have HR1 : Hid (OwnRow w1 (w.heap.size + 1) 2 (fun i => if i = 0 then .slice none 0 0 else .slice none 0 0)) := O1
  have hz1 : w.heap.size + 1 + 1 < w1.heap.size := O2.lt
  clear O0 O1 O2
  go_wp2_with fail
  clear d0 f0 P0
  have HBX : Hid (Below w.heap.size w (w1.setCell ⟨w.heap.size + 1 + 1, 0, none⟩ (.slice b1 m1 k1))) := HB1.out.setCell (by simp; omega) _
  refine (toBytsU (H2.out.later HBX.out) L2.out).mono ?_
  rintro e w2 ⟨b2, m2, k2, rfl, hb2, ho2⟩
  have HOX := (HO2.out.set 0 (.slice b1 m1 k1)).later hb2
  have HRX := (HR1.out.store (p := ⟨w.heap.size + 1 + 1, 0, none⟩) (by simp) (.slice b1 m1 k1)).later hb2
  have e1 : (w1.setCell ⟨w.heap.size + 1 + 1, 0, none⟩ (.slice b1 m1 k1)).heap.size = w1.heap.size := by simp [World.setCell]
  have HIX : Hid (InosO w2 (.slice b1 m1 k1) d.1 (fun b => w.heap.size + 3 ≤ b ∧ b < w1.heap.size)) := HO1.out.keep fun b hb hlt => by
    rw [hb2.block b (by rw [e1]; exact hlt), Below.heap_setCell _ _ _ _ (by simp; omega)]
  have HPX : Hid (BytsO w2 (.slice b2 m2 k2) d.2 (fun b => w1.heap.size ≤ b ∧ b < w2.heap.size)) := by
    unfold fresh at ho2
    rw [e1] at ho2
    exact ho2
  have HB2 : Hid (Below w.heap.size w w2) := HBX.out.trans (hb2.mono HBX.out.size)
  have e2 : w1.heap.size ≤ w2.heap.size := by have := hb2.size; rwa [e1] at this
  have q0 := HOX.cell (i := 0) (by omega)
  have q1 := HOX.cell (i := 1) (by omega)
  have qf := HOX.frozen 1
  have t0 := HRX.cell (i := 0) (by omega)
  have t1 := HRX.cell (i := 1) (by omega)
  have s0 := HRX.frozen 0
  have s1 := HRX.frozen 1
  simp at q0 q1 t0 t1
  clear HOX HRX hb2 ho2
  go_wp2
  refine bodyPost_ret (v := .agg #[.slice b1 m1 k1, .slice b2 m2 k2]) (by simp [results, Try.results10, go_sem, t0, t1]) rfl ⟨_, _, _, _, _, _, rfl, ?_, ?_⟩
  · exact ((HB2.out.setCell (by simp; omega) _).setCell (by simp) _).setCell (by simp) _
  · refine ⟨fun b => w.heap.size + 3 ≤ b ∧ b < w1.heap.size, fun b => w1.heap.size ≤ b ∧ b < w2.heap.size, HIX.out.keep fun b hb hlt => ?_, HPX.out.keep fun b hb hlt => ?_, fun b hb hb' => by omega, fun b hb => ?_⟩
    · rw [Below.heap_setCell _ _ _ _ (by simp; omega), Below.heap_setCell _ _ _ _ (by simp; omega), Below.heap_setCell _ _ _ _ (by simp; omega)]
    · rw [Below.heap_setCell _ _ _ _ (by simp; omega), Below.heap_setCell _ _ _ _ (by simp; omega), Below.heap_setCell _ _ _ _ (by simp; omega)]
    · unfold fresh
      simp only [World.setCell, Array.size_modify]
      rcases hb with hb | hb <;> omega
end Go.Proofs.Ytdgnhcfnhbkmlal

namespace Go.Proofs.Ytdgnhcfnhbkmlal
open Go.RowKit
set_option maxRecDepth 100000

theorem InoU.bound {w : World} {v0 v1 v2 vB vE : Value} {d : ID} {F : Nat → Prop} (h : InoU w v0 v1 v2 vB vE d F) : InoU w v0 v1 v2 vB vE d (fun b => F b ∧ b < w.heap.size) := by
  obtain ⟨h0, F1, G1, h1, h2, hd, hf⟩ := h
  exact ⟨h0, _, _, h1.bound, h2.bound, fun b hb hb' => hd b hb.1 hb'.1, fun b hb => by
    rcases hb with hb | hb
    · exact ⟨hf b (Or.inl hb.1), hb.2⟩
    · exact ⟨hf b (Or.inr hb.1), hb.2⟩⟩
theorem InosO.bound {w : World} {v : Value} {ds : List ID} {F : Nat → Prop} (h : InosO w v ds F) : InosO w v ds (fun b => F b ∧ b < w.heap.size) := by
  rcases h with h | ⟨b, cap, u, G, hF, hG, hGG, h1, h2, h3, h4⟩
  · exact Or.inl h
  · exact Or.inr ⟨b, cap, u, fun i c => G i c ∧ c < w.heap.size, ⟨hF, h3.lt⟩, fun i c hc => ⟨⟨(hG i c hc.1).1, hc.2⟩, (hG i c hc.1).2⟩, fun i j c e hc hc' => hGG i j c e hc.1 hc'.1, h1, h2, h3, fun i hi => (h4 i hi).bound⟩
set_option maxHeartbeats 800000 in
theorem markFsU (w : World) (v1 v2 : Value) (d : FD) (F : Nat → Prop) (k : Int) (h : FsU w v1 v2 d F) (hk0 : 1 ≤ k) (hk : k + (spanFs d : Nat) ≤ 4294967296) :
    Calls Try.prog 25 #[.agg #[v1, v2], .int .i64 k] w fun e w' => e = .returned (.int .i64 (k + (spanFs d : Nat))) ∧ Chg F w w' := by
  obtain ⟨F1, G1, h1, h2, hd, hf⟩ := h
  have H1 : Hid (InosO w v1 d.1 F1) := h1
  have H2 : Hid (BytsO w v2 d.2 G1) := h2
  have HD : Hid (∀ b, F1 b → ¬ G1 b) := hd
  have HF : Hid (∀ b, F1 b ∨ G1 b → F b) := hf
  have HE : Hid (k + (spanFs d : Nat) = k + (spanInos d.1 : Nat) + ((ylens d.2).sum : Nat)) := by unfold Hid spanFs; omega
  have hk2 : k + (spanInos d.1 : Nat) + ((ylens d.2).sum : Nat) ≤ 4294967296 := by unfold spanFs at hk; omega
  rw [HE.out]
  clear h1 h2 hd hf hk HE
  go_enter Try.func25, Try.ntmps25
  go_wp2_with fail
  refine (markInosU k (H1.out.bound.keep fun b hb hlt => (later1 _ _).block b hlt) hk0 (by omega)).mono ?_
  rintro e w1 ⟨rfl, hc⟩
  have c1 : w1.cell? ⟨w.heap.size, 1, none⟩ = some v2 := by
    rw [World.cell?_of_block (w := w.alloc (.cells #[v1, v2] 30)) (box_later hc fun b hb => hb.2), new_cell]; rfl
  have HC : Hid (Chg (fun b => F1 b ∧ b < w.heap.size) (w.alloc (.cells #[v1, v2] 30)) w1) := hc
  have H2' : Hid (BytsO w1 v2 d.2 (fun b => G1 b ∧ b < w.heap.size)) := H2.out.bound.keep fun b hb hlt => (HC.out.block b (by simp; omega) (fun h => HD.out b h.1 hb.1)).trans ((later1 _ _).block b hlt)
  clear hc
  go_wp2_with fail
  refine (markBytsU _ H2'.out (by omega) (by omega)).mono ?_
  rintro e w2 ⟨rfl, hc2⟩
  have HC2 : Hid (Chg (fun b => G1 b ∧ b < w.heap.size) w1 w2) := hc2
  clear hc2
  go_wp2
  go_ret
  exact ⟨rfl, (Chg.of_below (later1 _ _)).trans ((HC.out.mono fun b hb => HF.out b (Or.inl hb.1)).trans (HC2.out.mono fun b hb => HF.out b (Or.inr hb.1)))⟩

/-- Answers that are a code and bytes. -/
def AnsYR (w : World) (r : Int × List UInt8) (e : Ending) (w' : World) : Prop := ∃ a n c, e = .returned (.agg #[.int .i64 r.1, .slice a n c]) ∧ Below w.heap.size w w' ∧ BytO w' (.slice a n c) r.2 (fresh w w')
set_option maxHeartbeats 400000 in
theorem eqBytesResultU (w : World) (c : Int) (va vb : Value) (zs : List UInt8) (h1 : Byt w va zs) (h2 : Byt w vb zs) :
    Calls Try.prog 24 #[.agg #[.int .i64 c, va], .agg #[.int .i64 c, vb]] w fun e w' => e = .returned (.bool true) ∧ Below w.heap.size w w' := by
  have H1 : Hid (Byt w va zs) := h1
  have H2 : Hid (Byt w vb zs) := h2
  clear h1 h2
  go_enter Try.func24, Try.ntmps24
  go_wp2_with fail
  refine (eqBytU (H1.out.later (later2 _ _ _)) (H2.out.later (later2 _ _ _))).mono ?_
  rintro e w' ⟨rfl, hb⟩
  have HB : Hid (Below w.heap.size w w') := by first | exact (later2 _ _ _).trans (hb.mono (by simp; omega)) | (obtain ⟨m, rfl⟩ := hb; exact below_drewN (later2 _ _ _) m)
  clear hb
  go_wp2
  go_ret
  exact ⟨rfl, HB.out⟩
set_option maxHeartbeats 400000 in
theorem markBytesResultU (w : World) (c : Int) (v : Value) (zs : List UInt8) (F : Nat → Prop) (k : Int) (h : BytO w v zs F) (hk0 : 0 ≤ k) (hk : k + (List.length zs : Nat) ≤ 4611686018427387904) :
    Calls Try.prog 26 #[.agg #[.int .i64 c, v], .int .i64 k] w fun e w' => e = .returned (.int .i64 (k + (List.length zs : Nat))) ∧ BytO w' v (mkByt k zs) F ∧ Chg F w w' := by
  have H : Hid (BytO w v zs F) := h
  clear h
  go_enter Try.func26, Try.ntmps26
  go_wp2_with fail
  refine (markBytU k (H.out.keep fun b _ hlt => (later1 _ _).block b hlt) hk0 hk).mono ?_
  rintro e w1 ⟨rfl, hm, hc⟩
  have HM : Hid (BytO w1 v (mkByt k zs) F) := hm
  have HC : Hid (Chg F w w1) := (Chg.of_below (later1 _ _)).trans hc
  clear hm hc
  go_wp2
  go_ret
  exact ⟨rfl, HM.out, HC.out⟩
set_option maxHeartbeats 400000 in
theorem heldBytesResultU (w : World) (c : Int) (v : Value) (zs : List UInt8) (F : Nat → Prop) (k : Int) (h : BytO w v (mkByt k zs) F) (hk0 : 0 ≤ k) (hk : k + (List.length zs : Nat) ≤ 4611686018427387904) :
    Calls Try.prog 27 #[.agg #[.int .i64 c, v], .int .i64 k] w fun e w' => e = .returned (.int .i64 (k + (List.length zs : Nat))) ∧ Below w.heap.size w w' := by
  have H : Hid (Byt w v (mkByt k zs)) := h.reads
  clear h
  have l2 : ¬ (k + (List.length zs : Nat) < 0) := by omega
  go_enter Try.func27, Try.ntmps27
  go_wp2_with fail
  refine (heldBytU k (H.out.later (later1 _ _)) hk0 hk).mono ?_
  rintro e w1 ⟨rfl, hb⟩
  have HB : Hid (Below w.heap.size w w1) := (later1 _ _).trans (hb.mono (by simp))
  clear hb
  go_wp2
  go_ret
  exact ⟨rfl, HB.out⟩

/-- Bytes in memory that the call made since n₀. -/
def WdY (w : World) (n₀ : Nat) (v : Value) (zs : List UInt8) : Prop := w.ownsRow n₀ 5 1 v zs.length (zs.map byteV)
theorem WdY.later {w w' : World} {n₀ : Nat} {v : Value} {zs : List UInt8} (h : WdY w n₀ v zs) (hb : Below w.heap.size w w') : WdY w' n₀ v zs := ownsRow_later h hb
theorem WdY.shape {w : World} {n₀ : Nat} {v : Value} {zs : List UInt8} (h : WdY w n₀ v zs) : ∃ a c, v = .slice a zs.length c := ownsRow_shape h
theorem WdY.nil (w : World) (n₀ : Nat) : WdY w n₀ (.slice none 0 0) [] := ⟨by simp, Or.inl ⟨rfl, rfl⟩⟩
theorem WdY.lit0 (w : World) (n₀ : Nat) (h : n₀ ≤ w.heap.size) : WdY (w.alloc (.cells #[] 5)) n₀ (.slice (some ⟨w.heap.size, 0, none⟩) 0 0) [] := by
  have := World.ownsRow_lit (e := 5) (size := 1) w (#[] : Array Value) 0 h (by unfold maxLen; omega) (by simp)
  simpa [WdY] using this
theorem WdY.own {w w0 : World} {n₀ : Nat} {v : Value} {zs : List UInt8} (h : WdY w n₀ v zs) (hn : w0.heap.size ≤ n₀) : BytO w v zs (fresh w0 w) := by
  obtain ⟨hl, h | ⟨g, cap, cur, rfl, hb, hh, hnc, hcm, hcs, htake⟩⟩ := h
  · exact Or.inl ⟨List.eq_nil_of_length_eq_zero h.2, _, _, by rw [h.1]⟩
  · refine Or.inr ⟨g, cap, ⟨by omega, (Array.getElem?_eq_some_iff.1 hh).1⟩, rfl, ⟨by omega, hnc⟩, cur, 5, hh, by omega, fun i hi => ?_⟩
    rw [Nat.mul_one] at htake
    have h1 : (zs.map byteV)[i]? = cur[i]? := by rw [← htake, List.getElem?_take, if_pos hi, Array.getElem?_toList]
    rw [← h1, List.getElem?_map, List.getElem?_eq_getElem hi]
    simp [List.getElem?_eq_getElem hi, byteV]
theorem Try.infoByte' : ∃ i, Try.prog.info? 5 = some i ∧ i.zero = some (.int .u8 0) ∧ i.size = 1 ∧ i.bytes = 1 := by
  have h : (Try.prog.info? 5).map (fun i => (i.zero, i.size, i.bytes)) = some (some (.int .u8 0), 1, 1) := by kernel_rfl
  obtain ⟨i, hi, h⟩ := Option.map_eq_some_iff.1 h
  simp only [Prod.mk.injEq] at h
  exact ⟨i, hi, h.1, h.2.1, h.2.2⟩
theorem append_y (w : World) (n₀ : Nat) (v : Value) (zs ys : List UInt8) (a : Option Addr) (m c : Nat) (hrow : WdY w n₀ v zs) (hn₀ : n₀ ≤ w.heap.size) (hz : zs.length ≤ 16777216) (hy : ys.length ≤ 1048576) (hc : Byt w (.slice a m c) ys) :
    ∃ v' X, (Builtin.append_ #[43, 43] 43 #[v, .slice a m c]).run Try.prog w = .ok v' X ∧ WdY X n₀ v' (zs ++ ys) ∧ Below n₀ w X := by
  obtain ⟨i, hi, h1, h2, h3⟩ := Try.infoByte'
  obtain ⟨a', cap', e, hm, hat⟩ := hc
  simp only [Value.slice.injEq] at e
  obtain ⟨rfl, rfl, rfl⟩ := e
  by_cases ha : a = none
  · subst ha
    have h0 : ys = [] := by
      by_cases h : ys.length = 0
      · exact List.eq_nil_of_length_eq_zero h
      · obtain ⟨_, _, e, _⟩ := hat 0 (by omega); cases e
    subst h0
    refine ⟨v, w, ?_, by rw [List.append_nil]; exact hrow, Below.refl _ _⟩
    rcases hrow.2 with ⟨rfl, _⟩ | ⟨g, cap, cur, rfl, _, _, hnc, _⟩
    · simp [Builtin.append_, run_underlying Try.underlying43, sizeOf, typeInfo, hi, Builtin.lenOf, Builtin.firstCells]
    · simp [Builtin.append_, run_underlying Try.underlying43, sizeOf, typeInfo, hi, Builtin.lenOf, Builtin.firstCells, storeCells, hnc]
  · obtain ⟨ad, rfl⟩ := Option.ne_none_iff_exists'.1 ha
    obtain ⟨v', X, hr, ho, hg, _⟩ := run_append_own (P := Try.prog) w n₀ 43 43 5 i (.int .u8 0) 1 1 Try.underlying43 hi h1 h2 h3 rfl (by decide) _ zs.length _ hrow ad ys.length c (ys.map byteV)
      (by simp) (fun j u hu => by
        rw [List.getElem?_map, Option.map_eq_some_iff] at hu
        obtain ⟨z, hz1, rfl⟩ := hu
        have hj : j < ys.length := (List.getElem?_eq_some_iff.1 hz1).1
        obtain ⟨b, off, e, h⟩ := hat j hj
        simp only [Option.some.injEq] at e
        rw [e, add_plain', h, hz1]
        rfl) (fun u hu => by
        obtain ⟨z, _, rfl⟩ := List.mem_map.1 hu
        rfl) (by unfold maxLen; omega) (by omega) hn₀
    refine ⟨v', X, hr, ?_, below_grown hg hn₀ (fun k hk => (hrow.lt k hk).1)⟩
    unfold WdY
    rw [List.length_append, List.map_append]
    exact ho
end Go.Proofs.Ytdgnhcfnhbkmlal
