/- The specification's draw of a disk: how it stands while it is drawn. A list of a row of lists is put in the place of another: what the row is behind it. What a flush or a crash keeps. No program is named here. The walks of the functions that copy a list of integers: the specification's by append, the program's by copy. The walks of the program's rack: lists that are set one by one. -/
import Derived.Test.YtmjdechoookpmaaM05
import Derived.Deep.RegionHeld3
import Derived.Test.YtmjdechoookpmaaM01
import Derived.Laws.CopyOwn
import Derived.Deep.RegionWith
import Derived.Deep.RegionLaw
namespace Go.Proofs.Ytmjdechoookpmaa
open Go.RowKit
set_option maxRecDepth 100000

theorem l1New_x (w : World) (n lo : Nat) (hn : n ≤ 60) (hlo : lo ≤ w.heap.size) :
    Calls Try.prog 66 #[.int .i64 (n : Int)] w fun e w' => ∃ b, lo ≤ b ∧ e = .returned (.agg #[.slice (some ⟨b, 0, none⟩) n n, .slice none 0 0]) ∧ Below w.heap.size w w' ∧ RowX w' lo b n := by
  have hmk := fun w => run_make_row' (P := Try.prog) 24 36 (.slice none 0 0) 24 Try.underlying24 Try.infoInts rfl .i64 .i64 n (by omega) (by omega) w
  go_enter Try.func66, Try.ntmps66
  go_wp2
  refine bodyPost_ret (v := .agg #[.slice (some ⟨w.heap.size + 1, 0, none⟩) n n, .slice none 0 0]) (by simp [results, Try.results66, go_sem]) rfl ⟨w.heap.size + 1, by omega, rfl, later2 _ _ _, ?_⟩
  have := RowX.made (w.alloc (Obj.cells #[Value.slice (some ⟨w.heap.size + 1, 0, none⟩) n n, Value.slice none 0 0] 27)) lo n
  simpa using this

/-- A disk while it is drawn: the source in sb, the answer's box in lo, the disk's in db, its blocks in bb. -/
structure DDS (w0 w : World) (sb lo db bb : Nat) (a : Option Addr) (n c at' nb m : Nat) (vC : Value) : Prop where
  ds : DS w0 w sb a n c at'
  res : w.heap[lo]? = some (.cells #[.slice none 0 0, .slice none 0 0] 27)
  box : w.heap[db]? = some (.cells #[.slice (some ⟨bb, 0, none⟩) nb nb, vC] 27)
  row : RowX w lo bb nb
  puts : PutX w lo vC m
  s1 : sb < lo
  s2 : lo < db
  s3 : lo ≤ bb
  s4 : w0.heap.size ≤ lo
theorem DDS.drew {w0 w : World} {sb lo db bb : Nat} {a : Option Addr} {n c at' nb m : Nat} {vC : Value} (h : DDS w0 w sb lo db bb a n c at' nb m vC) : DDS w0 w.drew sb lo db bb a n c at' nb m vC :=
  ⟨⟨h.ds.src, h.ds.below.drew, h.ds.new, h.ds.len, h.ds.bytes⟩, h.res, h.box, h.row, h.puts, h.s1, h.s2, h.s3, h.s4⟩
theorem DDS.next {w0 w w' : World} {sb lo db bb : Nat} {a : Option Addr} {n c at' at2 nb m : Nat} {vC : Value} (h : DDS w0 w sb lo db bb a n c at' nb m vC) (hd : DS w0 w' sb a n c at2) (hc : Chg (fun b => b = sb) w w') : DDS w0 w' sb lo db bb a n c at2 nb m vC := by
  have h1 := h.s1
  have h2 := h.s2
  have h3 := h.s3
  refine ⟨hd, ?_, ?_, h.row.keep (hc.block bb h.row.lt (by omega)) (KeepX.chg hc h1), h.puts.move (fun g cur hg hb => hc.block g (Array.getElem?_eq_some_iff.1 hb).1 (by omega)) (KeepX.chg hc h1), h1, h2, h3, h.s4⟩
  · exact (hc.block lo (Array.getElem?_eq_some_iff.1 h.res).1 (by omega)).trans h.res
  · exact (hc.block db (Array.getElem?_eq_some_iff.1 h.box).1 (by omega)).trans h.box
theorem DDS.later {w0 w w' : World} {sb lo db bb : Nat} {a : Option Addr} {n c at' nb m : Nat} {vC : Value} (h : DDS w0 w sb lo db bb a n c at' nb m vC) (hb : Below w.heap.size w w') : DDS w0 w' sb lo db bb a n c at' nb m vC :=
  ⟨h.ds.later hb, (hb.block lo (Array.getElem?_eq_some_iff.1 h.res).1).trans h.res, (hb.block db (Array.getElem?_eq_some_iff.1 h.box).1).trans h.box, h.row.keep (hb.block bb h.row.lt) (KeepX.later hb), h.puts.move (fun g _ _ hh => hb.block g (Array.getElem?_eq_some_iff.1 hh).1) (KeepX.later hb), h.s1, h.s2, h.s3, h.s4⟩
theorem ne_of_type {w : World} {a b : Nat} {c c' : Array Value} {t t' : TypeId} {f f' : Nat × Nat} (ha : w.heap[a]? = some (.cells c t f)) (hb : w.heap[b]? = some (.cells c' t' f')) (ht : t ≠ t') : a ≠ b := fun e => by
  subst e
  rw [ha] at hb
  simp only [Option.some.injEq, Obj.cells.injEq] at hb
  exact ht hb.2.1
theorem DDS.setRow {w0 w : World} {sb lo db bb : Nat} {a : Option Addr} {n c at' nb m : Nat} {vC : Value} (h : DDS w0 w sb lo db bb a n c at' nb m vC) (i : Nat) {v : Value} {zs : List Int} (hv : IntsX w lo v zs) : DDS w0 (w.setCell ⟨bb, i, none⟩ v) sb lo db bb a n c at' nb m vC := by
  have h1 := h.s1
  have h2 := h.s2
  have h3 := h.s3
  obtain ⟨hr, hk⟩ := h.row.set i hv
  obtain ⟨us, _, hrb, _⟩ := h.row
  have n1 : lo ≠ bb := ne_of_type h.res hrb (by decide)
  have n2 : db ≠ bb := ne_of_type h.box hrb (by decide)
  have hB : Below lo w (w.setCell ⟨bb, i, none⟩ v) := (Below.refl lo w).setCell (by simp; omega) v
  refine ⟨h.ds.low hB h1 h.s4, (Below.heap_setCell _ _ _ _ n1).trans h.res, (Below.heap_setCell _ _ _ _ n2).trans h.box, hr, h.puts.move (fun g cur hg hb => Below.heap_setCell _ _ _ _ (ne_of_type hb hrb (by decide))) hk, h1, h2, h3, h.s4⟩
theorem DDS.put {w0 w X : World} {sb lo db bb : Nat} {a : Option Addr} {n c at' nb m m' : Nat} {vC vC' : Value} (h : DDS w0 w sb lo db bb a n c at' nb m vC) (hX : PutX X lo vC' m') (hB : Below lo w X) (hK : KeepP w X) : DDS w0 (X.setCell ⟨db, 1, none⟩ vC') sb lo db bb a n c at' nb m' vC' := by
  have h1 := h.s1
  have h2 := h.s2
  have h3 := h.s3
  have hbx := hK _ _ _ _ (by decide) h.box
  have hrs := hK _ _ _ _ (by decide) h.res
  obtain ⟨us, hul, hrb, hui⟩ := h.row
  have hrx := hK _ _ _ _ (by decide) hrb
  have hB2 : Below lo X (X.setCell ⟨db, 1, none⟩ vC') := (Below.refl lo X).setCell (by simp; omega) vC'
  have hk2 : KeepX lo X (X.setCell ⟨db, 1, none⟩ vC') := KeepX.set (p := ⟨db, 1, none⟩) hbx (by decide) vC'
  refine ⟨(h.ds.low hB h1 h.s4).low hB2 h1 h.s4, (Below.heap_setCell _ _ _ _ (by simp; omega)).trans hrs, ?_, ⟨us, hul, (Below.heap_setCell _ _ _ _ (ne_of_type hrx hbx (by decide))).trans hrx, fun i hi => by obtain ⟨zs, hz⟩ := hui i hi; exact ⟨zs, (hz.keep hK.x).keep hk2⟩⟩, hX.move (fun g cur hg hb => Below.heap_setCell _ _ _ _ (ne_of_type hb hbx (by decide))) hk2, h1, h2, h3, h.s4⟩
  simp [World.setCell, Array.getElem?_modify, hbx]
theorem DDS.cell0 {w0 w : World} {sb lo db bb : Nat} {a : Option Addr} {n c at' nb m : Nat} {vC : Value} (h : DDS w0 w sb lo db bb a n c at' nb m vC) : w.cell? ⟨db, 0, none⟩ = some (.slice (some ⟨bb, 0, none⟩) nb nb) := by simp [World.cell?, h.box]
theorem DDS.cell1 {w0 w : World} {sb lo db bb : Nat} {a : Option Addr} {n c at' nb m : Nat} {vC : Value} (h : DDS w0 w sb lo db bb a n c at' nb m vC) : w.cell? ⟨db, 1, none⟩ = some vC := by simp [World.cell?, h.box]
theorem DDS.frozen {w0 w : World} {sb lo db bb : Nat} {a : Option Addr} {n c at' nb m : Nat} {vC : Value} (h : DDS w0 w sb lo db bb a n c at' nb m vC) (i : Nat) : w.frozen? ⟨db, i, none⟩ = false := by simp [World.frozen?, h.box]
theorem DDS.size {w0 w : World} {sb lo db bb : Nat} {a : Option Addr} {n c at' nb m : Nat} {vC : Value} (h : DDS w0 w sb lo db bb a n c at' nb m vC) : lo < w.heap.size ∧ db < w.heap.size := ⟨(Array.getElem?_eq_some_iff.1 h.res).1, (Array.getElem?_eq_some_iff.1 h.box).1⟩

theorem alloc_set (w : World) (p : Addr) (v : Value) (o : Obj) (hp : p.block < w.heap.size) : (w.setCell p v).alloc o = (w.alloc o).setCell p v := by
  simp only [World.setCell, World.alloc]
  congr 1
  apply Array.ext_getElem?
  intro i
  rw [Array.getElem?_push, Array.getElem?_modify, Array.getElem?_modify, Array.getElem?_push, Array.size_modify]
  by_cases h1 : i = w.heap.size
  · subst h1
    simp [show ¬ p.block = w.heap.size by omega]
  · simp [h1]
theorem DDS.apart {w0 w : World} {sb lo db bb : Nat} {a : Option Addr} {n c at' nb m : Nat} {vC : Value} (h : DDS w0 w sb lo db bb a n c at' nb m vC) : bb ≠ db := by
  obtain ⟨us, _, hrb, _⟩ := h.row
  exact ne_of_type hrb h.box (by decide)

theorem IntsX.low {w : World} {lo lo' : Nat} {v : Value} {zs : List Int} (h : IntsX w lo' v zs) (hl : lo ≤ lo') : IntsX w lo v zs := by
  obtain ⟨a, n, c, e, hn, h70, h0 | ⟨b, cs, fr, ea, hlo, hb, hc⟩⟩ := h
  · exact ⟨a, n, c, e, hn, h70, Or.inl h0⟩
  · exact ⟨a, n, c, e, hn, h70, Or.inr ⟨b, cs, fr, ea, by omega, hb, hc⟩⟩
theorem DDS.resc {w0 w : World} {sb lo db bb : Nat} {a : Option Addr} {n c at' nb m : Nat} {vC : Value} (h : DDS w0 w sb lo db bb a n c at' nb m vC) : w.cell? ⟨lo, 0, none⟩ = some (.slice none 0 0) ∧ w.cell? ⟨lo, 1, none⟩ = some (.slice none 0 0) ∧ w.frozen? ⟨lo, 0, none⟩ = false ∧ w.frozen? ⟨lo, 1, none⟩ = false := by
  simp [World.cell?, World.frozen?, h.res]
/-- What is answered: a disk that can be read. -/
def DAns (w0 : World) (sb : Nat) (a : Option Addr) (n c lim lo : Nat) (e : Ending) (w' : World) : Prop := ∃ vB vC bs ps at2, e = .returned (.agg #[vB, vC]) ∧ at2 ≤ lim ∧ DS w0 w' sb a n c at2 ∧ (∀ W : World, (∀ b, lo ≤ b → b < w'.heap.size → W.heap[b]? = w'.heap[b]?) → IntsS W vB bs ∧ Puts W vC ps) ∧ (1 ≤ bs.length ∧ bs.length ≤ 61) ∧ ps.length ≤ 201 ∧ (∀ k : Nat, (bs[k]?.getD []).length ≤ 70) ∧ (∀ k : Nat, (ps[k]?.getD (0, [])).2.length ≤ 70)
theorem DDS.fin {w0 w : World} {sb lo db bb : Nat} {a : Option Addr} {n c at' nb m lim : Nat} {vC : Value} (h : DDS w0 w sb lo db bb a n c at' nb m vC) (hnb : 1 ≤ nb ∧ nb ≤ 61) (hm : m ≤ 201) (hl : at' ≤ lim) (x y : Value) :
    DAns w0 sb a n c lim lo (.returned (.agg #[.slice (some ⟨bb, 0, none⟩) nb nb, vC])) ((w.setCell ⟨lo, 0, none⟩ x).setCell ⟨lo, 1, none⟩ y) := by
  have hB : Below lo w ((w.setCell ⟨lo, 0, none⟩ x).setCell ⟨lo, 1, none⟩ y) := ((Below.refl lo w).setCell (by simp) x).setCell (by simp) y
  have hx1 : (w.setCell ⟨lo, 0, none⟩ x).heap[lo]? = some (.cells #[x, .slice none 0 0] 27) := by simp [World.setCell, Array.getElem?_modify, h.res]
  have hk : KeepX lo w ((w.setCell ⟨lo, 0, none⟩ x).setCell ⟨lo, 1, none⟩ y) := (KeepX.set (p := ⟨lo, 0, none⟩) h.res (by decide) x).trans (KeepX.set (p := ⟨lo, 1, none⟩) hx1 (by decide) y)
  have hblk : ∀ b, b ≠ lo → ((w.setCell ⟨lo, 0, none⟩ x).setCell ⟨lo, 1, none⟩ y).heap[b]? = w.heap[b]? := fun b hb => (Below.heap_setCell _ _ _ _ hb).trans (Below.heap_setCell _ _ _ _ hb)
  obtain ⟨us, _, hrb, _⟩ := h.row
  have h3 := h.s3
  have hrw := h.row.keep (hblk bb (ne_of_type hrb h.res (by decide))) hk
  have hpw := h.puts.move (fun g cur _ hg => hblk g (ne_of_type hg h.res (by decide))) hk
  obtain ⟨bs, hbl, hbs, hbz⟩ := hrw.ints (c := nb) (by omega)
  obtain ⟨ps, hpl, hps, hpz⟩ := hpw.puts (by omega)
  exact ⟨_, _, bs, ps, at', rfl, hl, h.ds.low hB h.s1 h.s4, fun W hW => ⟨hbs W (hW bb h3 hrw.lt) (fun b _ _ hl hb => (hW b hl (Array.getElem?_eq_some_iff.1 hb).1).trans hb), hps W (fun g cur hg hh => hW g hg (Array.getElem?_eq_some_iff.1 hh).1) (fun b _ _ hl hb => (hW b hl (Array.getElem?_eq_some_iff.1 hb).1).trans hb)⟩, by omega, by omega, hbz, hpz⟩
theorem DDS.newRow {w0 w : World} {sb lo db bb : Nat} {a : Option Addr} {n c at' nb m : Nat} {vC : Value} (h : DDS w0 w sb lo db bb a n c at' nb m vC) (k : Nat) : DDS w0 ((w.alloc (.cells (madeCells #[.slice none 0 0] k) 36)).setCell ⟨db, 0, none⟩ (.slice (some ⟨w.heap.size, 0, none⟩) k k)) sb lo db w.heap.size a n c at' k m vC := by
  have h' := h.later (later1 w (.cells (madeCells #[.slice none 0 0] k) 36))
  have h1 := h.s1
  have h2 := h.s2
  have hs := h.size
  have hB : Below lo (w.alloc (.cells (madeCells #[.slice none 0 0] k) 36)) ((w.alloc (.cells (madeCells #[.slice none 0 0] k) 36)).setCell ⟨db, 0, none⟩ (.slice (some ⟨w.heap.size, 0, none⟩) k k)) := (Below.refl lo _).setCell (by simp; omega) _
  have hk : KeepX lo (w.alloc (.cells (madeCells #[.slice none 0 0] k) 36)) ((w.alloc (.cells (madeCells #[.slice none 0 0] k) 36)).setCell ⟨db, 0, none⟩ (.slice (some ⟨w.heap.size, 0, none⟩) k k)) := KeepX.set (p := ⟨db, 0, none⟩) h'.box (by decide) _
  have hr := RowX.made w lo k
  refine ⟨h'.ds.low hB h1 h.s4, (Below.heap_setCell _ _ _ _ (by simp; omega)).trans h'.res, ?_, hr.keep (Below.heap_setCell _ _ _ _ (by simp; omega)) hk, h'.puts.move (fun g cur _ hg => Below.heap_setCell _ _ _ _ (ne_of_type hg h'.box (by decide))) hk, h1, h2, by omega, h.s4⟩
  have hb := h'.box
  simp [World.setCell, Array.getElem?_modify, hb]
theorem PutX.made (w : World) (lo k : Nat) (hlo : lo ≤ w.heap.size) (hk : k ≤ 1000) : PutX (w.alloc (.cells (madeCells #[.int .i64 0, .slice none 0 0] (k * 2)) 38)) lo (.slice (some ⟨w.heap.size, 0, none⟩) k k) k := by
  have hsz := size_madeCells #[Value.int .i64 0, .slice none 0 0] (k * 2)
  have hget : ∀ i, i < k * 2 → (madeCells #[Value.int .i64 0, .slice none 0 0] (k * 2))[i]? = some (pairCell (.int .i64 0) (.slice none 0 0) i) := fun i hi => by
    unfold madeCells pairCell
    rw [Array.getElem?_map]
    have h1 : (Array.range (k * 2))[i]? = some i := by simp [hi]
    rw [h1]
    rcases Nat.mod_two_eq_zero_or_one i with h | h
    · simp [h]
    · simp [h]
  refine ⟨(madeCells #[Value.int .i64 0, .slice none 0 0] (k * 2)).toList, ⟨by rw [Array.length_toList, hsz], Or.inr ⟨w.heap.size, k, _, rfl, hlo, Go.Deep.blk_alloc_new _ _, Nat.le_refl _, by unfold maxLen; omega, hsz, List.take_of_length_le (by rw [Array.length_toList, hsz]; omega)⟩⟩, fun i hi => ?_⟩
  refine ⟨0, .slice none 0 0, [], ?_, ?_, IntsX.nil _ _ _ _⟩
  · rw [Array.getElem?_toList, hget _ (by omega)]; unfold pairCell; rw [if_pos (by omega)]
  · rw [Array.getElem?_toList, hget _ (by omega)]; unfold pairCell; rw [if_neg (by omega)]

set_option maxHeartbeats 12800000 in
theorem l1Disk_ds (w0 w : World) (sb : Nat) (a : Option Addr) (n c at' : Nat) (h : DS w0 w sb a n c at') (hat : at' ≤ 1000) :
    Calls Try.prog 31 #[.pointer (some ⟨sb, 0, none⟩)] w (DAns w0 sb a n c (at' + 100) w.heap.size) := by
  have H : Hid (DS w0 w sb a n c at') := h
  have hsb := h.lt
  have hw0 : w0.heap.size ≤ w.heap.size := h.below.size
  clear h
  go_enter Try.func31, Try.ntmps31
  go_wp2_with fail
  have hres0 : (w.alloc (.cells #[.slice none 0 0, .slice none 0 0] 27)).heap[w.heap.size]? = some (.cells #[.slice none 0 0, .slice none 0 0] 27) := Go.Deep.blk_alloc_new _ _
  refine (l1Next_ds w0 _ sb a n c at' 8 (H.out.later (later1 _ _)) (by omega) (by omega) (by omega)).mono ?_
  rintro e w1 ⟨r, rfl, hr, hd, hc⟩
  have hres1 := (hc.block w.heap.size (by simp) (by omega)).trans hres0
  have HD1 : Hid (DS w0 w1 sb a n c (at' + 1)) := hd
  have hs1 : w.heap.size < w1.heap.size := by have := hc.size; simp at this; omega
  have HR1 : Hid (w1.heap[w.heap.size]? = some (.cells #[.slice none 0 0, .slice none 0 0] 27)) := hres1
  obtain ⟨nb, hnb⟩ : ∃ nb : Nat, nb = r + 1 := ⟨_, rfl⟩
  have HNBI : Hid ((1 : Int) + (r : Int) = (nb : Int)) := by unfold Hid; omega
  have hnb1 : 1 ≤ nb := by omega
  have hnb8 : nb ≤ 8 := by omega
  clear hd hc hres0 hres1 H
  go_wp2_with fail
  rw [HNBI.out]
  refine (l1New_x _ nb w.heap.size (by omega) (by omega)).mono ?_
  rintro e w2 ⟨bb, hbb, rfl, hb2, hrow⟩
  have HDD : Hid (DDS w0 (w2.alloc (.cells #[.slice (some ⟨bb, 0, none⟩) nb nb, .slice none 0 0] 27)) sb w.heap.size w2.heap.size bb a n c (at' + 1) nb 0 (.slice none 0 0)) := by
    have hl2 := later1 w2 (.cells #[.slice (some ⟨bb, 0, none⟩) nb nb, .slice none 0 0] 27)
    have hs2 := hb2.size
    exact ⟨(HD1.out.later hb2).later hl2, (hl2.block _ (by omega)).trans ((hb2.block _ hs1).trans HR1.out), Go.Deep.blk_alloc_new _ _, hrow.keep (hl2.block bb hrow.lt) (KeepX.later hl2), PutX.nil _ _, hsb, by omega, hbb, hw0⟩
  have hsz2 : w.heap.size < w2.heap.size := by have := hb2.size; omega
  clear hb2 hrow HD1 HR1 hnb HNBI
  go_wp2_with fail
  generalize (w2.alloc (.cells #[.slice (some ⟨bb, 0, none⟩) nb nb, .slice none 0 0] 27)) = w3 at *
  generalize hlo : w.heap.size = lo at *
  generalize hdb : w2.heap.size = db at *
  clear hlo hdb
  refine (l1Next_ds w0 _ sb a n c _ 6 HDD.out.ds (by omega) (by omega) (by omega)).mono ?_
  rintro e w4 ⟨k0, rfl, hk0, hd, hc⟩
  have HDD4 : Hid (DDS w0 w4 sb lo db bb a n c (at' + 1 + 1) nb 0 (.slice none 0 0)) := HDD.out.next hd hc
  clear hd hc HDD
  go_wp2
  go_loopw [5] (fun i wr => ∃ j at2 : Nat, i = .int .i64 (j : Int) ∧ j ≤ 5 ∧ at2 + 2 * j ≤ at' + 12 ∧ DDS w0 wr sb lo db bb a n c at2 nb 0 (.slice none 0 0)) (fun i _ => (intOf i).toNat)
  case atStart => exact ⟨k0, _, rfl, by omega, by omega, HDD4.out⟩
  case round =>
    clear HDD4
    obtain ⟨j, at2, rfl, hj5, hj2, hdd⟩ := hrel
    have HS : Hid (DDS w0 wr sb lo db bb a n c at2 nb 0 (.slice none 0 0)) := hdd
    clear hdd
    by_cases hj : 0 < j
    · have hj' : decide ((0 : Int) < (j : Int)) = true := by simp; omega
      have x0 := HS.out.cell0
      have nbd : bb ≠ db := HS.out.apart
      have ndb : db ≠ bb := fun e => nbd e.symm
      go_wp2_with fail
      go_region_held3 (fun W => W.cell? ⟨db, 0, none⟩ = some (.slice (some ⟨bb, 0, none⟩) nb nb)) (go_keep) (first
        | (have h0 := HS.out.drew; clear HS; go_at_call 33; refine (l1Next_ds w0 _ sb a n c at2 nb h0.ds (by omega) (by omega) (by omega)).mono ?_; rintro e u1 ⟨r1, rfl, hr1, hd, hc⟩; have HS1 : Hid (DDS w0 u1 sb lo db bb a n c (at2 + 1) nb 0 (.slice none 0 0)) := h0.next hd hc; have y0 := HS1.out.cell0; clear h0 hd hc)
        | (have h0 := HS1.out; clear HS1; go_at_call 33; refine (l1Next_ds w0 _ sb a n c (at2 + 1) 99 h0.ds (by omega) (by omega) (by omega)).mono ?_; rintro e u2 ⟨r2, rfl, hr2, hd, hc⟩; have HS2 : Hid (DDS w0 u2 sb lo db bb a n c (at2 + 1 + 1) nb 0 (.slice none 0 0)) := h0.next hd hc; have z0 := HS2.out.cell0; obtain ⟨ca, cm, cc, d0⟩ := HS2.out.row.cell hr1; have d1 := HS2.out.row.frozen r1; have hbu := HS2.out.row.lt; have hdu := HS2.out.size.2; clear h0 hd hc))
      all_goals
        have HSX : Hid (DDS w0 ((u2.setCell ⟨bb, r1, none⟩ (.slice (some ⟨u2.heap.size, 0, none⟩) 1 1)).alloc (.cells #[.int .i64 (r2 : Int)] 2)) sb lo db bb a n c (at2 + 1 + 1) nb 0 (.slice none 0 0)) := by
          unfold Hid
          rw [alloc_set _ _ _ _ hbu]
          exact (HS2.out.later (later1 _ _)).setRow r1 (IntsX.lit u2 lo [(r2 : Int)] _ 1 rfl rfl (by omega) (by have := HS2.out.size.1; omega))
        clear x0 y0 z0 d0 d1 HS2
        go_wp2
        go_roundw
        case rel => exact ⟨j - 1, at2 + 1 + 1, by congr 1; omega, by omega, by omega, HSX.out⟩
        case measure => simp [intOf]; omega
    · have hj' : decide ((0 : Int) < (j : Int)) = false := by simp; omega
      go_wp2_with fail
      refine (l1Next_ds w0 _ sb a n c _ 6 HS.out.ds (by omega) (by omega) (by omega)).mono ?_
      rintro e w5 ⟨k1, rfl, hk1, hd, hc⟩
      have HDD5 : Hid (DDS w0 w5 sb lo db bb a n c (at2 + 1) nb 0 (.slice none 0 0)) := HS.out.next hd hc
      clear hd hc HS
      go_wp2
      go_loopw [6] (fun i wr => ∃ (j at3 m : Nat) (vC : Value), i = .int .i64 (j : Int) ∧ j + m ≤ 5 ∧ at3 + 2 * j ≤ at' + 24 ∧ DDS w0 wr sb lo db bb a n c at3 nb m vC) (fun i _ => (intOf i).toNat)
      case atStart => exact ⟨k1, _, 0, _, rfl, by omega, by omega, HDD5.out⟩
      case round =>
        clear HDD5
        obtain ⟨j2, at3, m, vC, rfl, hj5', hj2', hdd⟩ := hrel
        obtain ⟨aV, cV, rfl⟩ := hdd.puts.shape
        have HS : Hid (DDS w0 wr sb lo db bb a n c at3 nb m (.slice aV m cV)) := hdd
        clear hdd
        by_cases hj2 : 0 < j2
        · have hj2d : decide ((0 : Int) < (j2 : Int)) = true := by simp; omega
          have x1 := HS.out.cell1
          go_wp2_with fail
          go_region_law (first
            | (refine step_append_run rfl _ _ 25 rfl _ _ rfl rfl _ _ HR.out ?_)
            | (have h0 := HS.out.drew; clear HS; go_simp; go_at_call 33; refine (l1Next_ds w0 _ sb a n c at3 nb h0.ds (by omega) (by omega) (by omega)).mono ?_; rintro e u1 ⟨r1, rfl, hr1, hd, hc⟩; have HS1 : Hid (DDS w0 u1 sb lo db bb a n c (at3 + 1) nb m (.slice aV m cV)) := h0.next hd hc; have y1 := HS1.out.cell1; clear h0 hd hc)
            | (have h0 := HS1.out; clear HS1; go_simp; go_at_call 33; refine (l1Next_ds w0 _ sb a n c (at3 + 1) 99 h0.ds (by omega) (by omega) (by omega)).mono ?_; rintro e u2 ⟨r2, rfl, hr2, hd, hc⟩; have HS2 : Hid (DDS w0 u2 sb lo db bb a n c (at3 + 1 + 1) nb m (.slice aV m cV)) := h0.next hd hc; have z1 := HS2.out.cell1
               have hlu := HS2.out.size
               have HS3 := HS2.out.later (later1 u2 (.cells #[.int .i64 (r2 : Int), .int .i64 3] 2))
               obtain ⟨g, cap, X, hr, hpx, hbx, hkx⟩ := PutX.append (u2.alloc (.cells #[.int .i64 (r2 : Int), .int .i64 3] 2)) lo m (.slice aV m cV) (r1 : Int) (some ⟨u2.heap.size, 0, none⟩) 2 2 [(r2 : Int), 3] HS3.puts (by omega) (by simp; omega) (IntsX.lit u2 lo [(r2 : Int), 3] _ 2 rfl rfl (by omega) (by omega))
               rw [World.size_alloc] at hr
               have HR : Hid (_ = _) := hr
               have hbxx := hkx _ _ _ _ (by decide) HS3.box
               have cX : X.cell? ⟨db, 1, none⟩ = some (.slice aV m cV) := by simp [World.cell?, hbxx]
               have fX : X.frozen? ⟨db, 1, none⟩ = false := by simp [World.frozen?, hbxx]
               have HSX : Hid (DDS w0 (X.setCell ⟨db, 1, none⟩ (.slice (some ⟨g, 0, none⟩) (m + 1) cap)) sb lo db bb a n c (at3 + 1 + 1) nb (m + 1) (.slice (some ⟨g, 0, none⟩) (m + 1) cap)) := HS3.put hpx hbx hkx
               clear h0 hd hc hr hpx hbx hkx hbxx HS3 HS2))
          all_goals
            go_wp2
            go_roundw
            case rel => exact ⟨j2 - 1, at3 + 1 + 1, m + 1, _, by congr 1; omega, by omega, by omega, HSX.out⟩
            case measure => simp [intOf]; omega
        · have hj2d : decide ((0 : Int) < (j2 : Int)) = false := by simp; omega
          go_wp2_with fail
          refine (l1Next_ds w0 _ sb a n c _ 18 HS.out.ds (by omega) (by omega) (by omega)).mono ?_
          rintro e w6 ⟨q, rfl, hq, hd, hc⟩
          have HD6 : Hid (DDS w0 w6 sb lo db bb a n c (at3 + 1) nb m (.slice aV m cV)) := HS.out.next hd hc
          clear hd hc HS
          have nbd : bb ≠ db := HD6.out.apart
          have ndb : db ≠ bb := fun e => nbd e.symm
          have hnbp : (0 : Int) < (nb : Int) := by omega
          have hnbq : 0 < nb := by omega
          have nld : lo ≠ db := by omega
          have ndl : db ≠ lo := by omega
          by_cases h0 : q = 0
          · subst h0
            have x0 := HD6.out.cell0
            go_wp2_with fail
            go_region_held3 (fun W => W.cell? ⟨db, 0, none⟩ = some (.slice (some ⟨bb, 0, none⟩) nb nb)) (go_keep) (first
              | (have h0 := HD6.out.drew; clear HD6; go_at_call 67; refine (drawWords_ds w0 _ sb a n c (at3 + 1) h0.ds (by omega)).mono ?_; rintro e u1 ⟨vW, zs, at4, rfl, hix, ha4, hd, hc⟩; have HS1 : Hid (DDS w0 u1 sb lo db bb a n c at4 nb m (.slice aV m cV)) := h0.next hd hc; have hlu := h0.size; obtain ⟨aW, nW, cW, rfl, hrest⟩ := hix; have HIX : Hid (IntsX u1 lo (.slice aW nW cW) zs) := IntsX.low ⟨aW, nW, cW, rfl, hrest⟩ (by omega); have z0 := HS1.out.cell0; obtain ⟨ca, cm, cc, d0⟩ := HS1.out.row.cell (i := 0) (by omega); have d1 := HS1.out.row.frozen 0; have hbu := HS1.out.row.lt; have hdu := HS1.out.size.2; clear h0 hd hc hrest))
            all_goals
              have HSX : Hid (DDS w0 (u1.setCell ⟨bb, 0, none⟩ (.slice aW nW cW)) sb lo db bb a n c at4 nb m (.slice aV m cV)) := HS1.out.setRow 0 HIX.out
              generalize u1.setCell ⟨bb, 0, none⟩ (.slice aW nW cW) = W at *
              clear x0 z0 d0 d1 HS1 HIX
              have x0 := HSX.out.cell0
              have x1 := HSX.out.cell1
              obtain ⟨r0, r1, f0, f1⟩ := HSX.out.resc
              go_wp2
              exact bodyPost_ret (v := .agg #[.slice (some ⟨bb, 0, none⟩) nb nb, .slice aV m cV]) (by simp [results, Try.results31, go_sem, r0, r1]) rfl (HSX.out.fin (by omega) (by omega) (by omega) _ _)
          · have hq0 : ((q : Int) == 0) = false := by rw [beq_eq_false_iff_ne]; omega
            by_cases h1 : q = 1
            · subst h1
              have x1 := HD6.out.cell1
              have hdu6 := HD6.out.size.2
              have HLR : Hid (∀ (W : World) (i : Nat), i < 3 → (W.alloc (.cells #[.int .i64 (-1), .int .i64 (nb : Int), .int .i64 0] 2)).cell? ⟨W.heap.size, i, none⟩ = some (.int .i64 (([-1, (nb : Int), 0] : List Int)[i]?.getD 0))) := fun W i hi => by
                rw [new_cell]
                match i, hi with
                | 0, _ => rfl
                | 1, _ => rfl
                | 2, _ => rfl
              go_wp2_with fail
              go_region_law (first
                | (refine step_append_run rfl _ _ 25 rfl _ _ rfl rfl _ _ HR.out ?_)
                | (have h0 := (HD6.out.later (later1 _ (.cells #[.int .i64 (-1), .int .i64 (nb : Int), .int .i64 0] 2))).drew; clear HD6; go_simp; go_at_call 68; refine (pickN_ds w0 _ sb a n c (at3 + 1) w6.heap.size 3 [-1, (nb : Int), 0] h0.ds (by omega) (by omega) (by omega) (fun i hi => HLR.out w6 i hi) (by omega)).mono ?_; rintro e u1 ⟨r1, hr1, rfl, hd, hc⟩; have HS1 : Hid (DDS w0 u1 sb lo db bb a n c (at3 + 1 + 1) nb m (.slice aV m cV)) := h0.next hd hc; have y1 := HS1.out.cell1; generalize ([-1, (nb : Int), 0] : List Int)[r1]?.getD 0 = zz at *; clear h0 hd hc hr1)
                | (have h0 := HS1.out; clear HS1; go_simp; go_at_call 67; refine (drawWords_ds w0 _ sb a n c (at3 + 1 + 1) h0.ds (by omega)).mono ?_; rintro e u2 ⟨vW, zs, at4, rfl, hix, ha4, hd, hc⟩; have HS2 := h0.next hd hc; have hlu := h0.size; obtain ⟨aW, nW, cW, rfl, hrest⟩ := hix; have hIX : IntsX u2 lo (.slice aW nW cW) zs := IntsX.low ⟨aW, nW, cW, rfl, hrest⟩ (by omega); have z1 := HS2.cell1
                   have hlu2 := HS2.size
                   obtain ⟨g, cap, X, hr, hpx, hbx, hkx⟩ := PutX.append u2 lo m (.slice aV m cV) zz aW nW cW zs HS2.puts (by omega) (by omega) hIX
                   have HR : Hid (_ = _) := hr
                   have hbxx := hkx _ _ _ _ (by decide) HS2.box
                   have cX : X.cell? ⟨db, 1, none⟩ = some (.slice aV m cV) := by simp [World.cell?, hbxx]
                   have fX : X.frozen? ⟨db, 1, none⟩ = false := by simp [World.frozen?, hbxx]
                   have HSX : Hid (DDS w0 (X.setCell ⟨db, 1, none⟩ (.slice (some ⟨g, 0, none⟩) (m + 1) cap)) sb lo db bb a n c at4 nb (m + 1) (.slice (some ⟨g, 0, none⟩) (m + 1) cap)) := HS2.put hpx hbx hkx
                   clear h0 hd hc hr hpx hbx hkx hbxx HS2 hrest hIX))
              all_goals
                generalize X.setCell ⟨db, 1, none⟩ (.slice (some ⟨g, 0, none⟩) (m + 1) cap) = W at *
                clear x1 y1 z1 cX fX
                have x0 := HSX.out.cell0
                have x1 := HSX.out.cell1
                obtain ⟨r0, r1, f0, f1⟩ := HSX.out.resc
                go_wp2
                exact bodyPost_ret (v := .agg #[.slice (some ⟨bb, 0, none⟩) nb nb, .slice (some ⟨g, 0, none⟩) (m + 1) cap]) (by simp [results, Try.results31, go_sem, r0, r1]) rfl (HSX.out.fin (by omega) (by omega) (by omega) _ _)
            · have hq1 : ((q : Int) == 1) = false := by rw [beq_eq_false_iff_ne]; omega
              by_cases h2 : q = 2
              · subst h2
                have hmk : ∀ W : World, (Instr.makeSlice 24 (.int .i64 61) (.int .i64 61)).run Try.prog W = .ok (.slice (some ⟨W.heap.size, 0, none⟩) 61 61) (W.alloc (.cells (madeCells #[.slice none 0 0] 61) 36)) := fun W => run_make_row' (P := Try.prog) 24 36 (.slice none 0 0) 24 Try.underlying24 Try.infoInts rfl .i64 .i64 61 (by omega) (by omega) W
                have HSX := HD6.out.newRow 61
                have x0 := HD6.out.cell0
                have x1 := HD6.out.cell1
                have x2 := HD6.out.frozen 0
                obtain ⟨r0, r1, f0, f1⟩ := HD6.out.resc
                have hdu6 := HD6.out.size.2
                have hlu6 := HD6.out.size.1
                have FIN : Hid (∀ x y, DAns w0 sb a n c (at' + 100) lo (.returned (.agg #[.slice (some ⟨w6.heap.size, 0, none⟩) 61 61, .slice aV m cV])) ((((w6.alloc (.cells (madeCells #[.slice none 0 0] 61) 36)).setCell ⟨db, 0, none⟩ (.slice (some ⟨w6.heap.size, 0, none⟩) 61 61)).setCell ⟨lo, 0, none⟩ x).setCell ⟨lo, 1, none⟩ y)) := fun x y => HSX.fin (by omega) (by omega) (by omega) x y
                clear HSX HD6
                go_wp2
                exact bodyPost_ret (v := .agg #[.slice (some ⟨w6.heap.size, 0, none⟩) 61 61, .slice aV m cV]) (by simp [results, Try.results31, go_sem, r0, r1, hlu6]) rfl (by first | exact FIN.out _ _ | (rw [alloc_set _ _ _ _ (by simp [World.setCell]; omega), alloc_set _ _ _ _ (by simp [World.setCell]; omega), alloc_set _ _ _ _ (by omega)]; exact FIN.out _ _))
              · have hq2 : ((q : Int) == 2) = false := by rw [beq_eq_false_iff_ne]; omega
                by_cases h3 : q = 3
                · subst h3
                  have hls6 : lo < w6.heap.size := HD6.out.size.1
                  go_wp2_with fail
                  refine (l1Next_ds w0 _ sb a n c _ 2 HD6.out.ds (by omega) (by omega) (by omega)).mono ?_
                  rintro e w7 ⟨q2, rfl, hq2', hd, hc⟩
                  have HD7 : Hid (DDS w0 w7 sb lo db bb a n c (at3 + 1 + 1) nb m (.slice aV m cV)) := HD6.out.next hd hc
                  clear hd hc HD6
                  obtain ⟨kk, hkk⟩ : ∃ kk : Nat, kk = 200 + q2 := ⟨_, rfl⟩
                  have HKK : Hid ((200 : Int) + (q2 : Int) = (kk : Int)) := by unfold Hid; omega
                  have hkb : kk ≤ 201 := by omega
                  have hmk : ∀ W : World, (Instr.makeSlice 25 (.int .i64 (200 + (q2 : Int))) (.int .i64 (200 + (q2 : Int)))).run Try.prog W = .ok (.slice (some ⟨W.heap.size, 0, none⟩) kk kk) (W.alloc (.cells (madeCells #[.int .i64 0, .slice none 0 0] (kk * 2)) 38)) := fun W => by
                    rw [HKK.out]
                    exact run_make_pair (P := Try.prog) 25 38 (.int .i64 0) (.slice none 0 0) 32 Try.underlying25 Try.infoPut rfl .i64 .i64 kk (by omega) (by omega) W
                  have hdu7 := HD7.out.size.2
                  have hlu7 := HD7.out.size.1
                  have HSX := HD7.out.put (X := w7.alloc (.cells (madeCells #[.int .i64 0, .slice none 0 0] (kk * 2)) 38)) (PutX.made w7 lo kk (by omega) (by omega)) ((later1 w7 _).mono (by omega)) (KeepP.later (later1 w7 _))
                  have x0 := HD7.out.cell0
                  have x1 := HD7.out.cell1
                  have x2 := HD7.out.frozen 1
                  obtain ⟨r0, r1, f0, f1⟩ := HD7.out.resc
                  have FIN : Hid (∀ x y, DAns w0 sb a n c (at' + 100) lo (.returned (.agg #[.slice (some ⟨bb, 0, none⟩) nb nb, .slice (some ⟨w7.heap.size, 0, none⟩) kk kk])) ((((w7.alloc (.cells (madeCells #[.int .i64 0, .slice none 0 0] (kk * 2)) 38)).setCell ⟨db, 1, none⟩ (.slice (some ⟨w7.heap.size, 0, none⟩) kk kk)).setCell ⟨lo, 0, none⟩ x).setCell ⟨lo, 1, none⟩ y)) := fun x y => HSX.fin (by omega) (by omega) (by omega) x y
                  clear HSX HD7 hkk HKK
                  go_wp2
                  exact bodyPost_ret (v := .agg #[.slice (some ⟨bb, 0, none⟩) nb nb, .slice (some ⟨w7.heap.size, 0, none⟩) kk kk]) (by simp [results, Try.results31, go_sem, r0, r1, hlu7]) rfl (by first | exact FIN.out _ _ | (rw [alloc_set _ _ _ _ (by simp [World.setCell]; omega), alloc_set _ _ _ _ (by simp [World.setCell]; omega), alloc_set _ _ _ _ (by omega)]; exact FIN.out _ _))
                · have hq3 : ((q : Int) == 3) = false := by rw [beq_eq_false_iff_ne]; omega
                  have HSX : Hid (DDS w0 w6 sb lo db bb a n c (at3 + 1) nb m (.slice aV m cV)) := HD6.out
                  clear HD6
                  have x0 := HSX.out.cell0
                  have x1 := HSX.out.cell1
                  obtain ⟨r0, r1, f0, f1⟩ := HSX.out.resc
                  go_wp2
                  exact bodyPost_ret (v := .agg #[.slice (some ⟨bb, 0, none⟩) nb nb, .slice aV m cV]) (by simp [results, Try.results31, go_sem, r0, r1]) rfl (HSX.out.fin (by omega) (by omega) (by omega) _ _)
end Go.Proofs.Ytmjdechoookpmaa

namespace Go.Proofs.Ytmjdechoookpmaa
open Go.RowKit
set_option maxRecDepth 100000

theorem IntsSO.set {w X : World} {g n cap : Nat} {v : Value} {zs : List Int} {zss : List (List Int)} {F : Nat → Prop} (h : IntsSO w (.slice (some ⟨g, 0, none⟩) n cap) zss F) {x : Nat} (hx : x < zss.length) (hb : Below w.heap.size w X) (hF : ∀ b, F b → b < w.heap.size) (hv : IntsO X v zs (fresh w X)) :
    IntsSO (X.setCell ⟨g, x, none⟩ v) (.slice (some ⟨g, 0, none⟩) n cap) (zss.set x zs) (fun b => F b ∨ fresh w X b) := by
  rcases h with ⟨h, _⟩ | ⟨b, cap', u, G, hFb, hG, hGG, h1, h2, h3, h4⟩
  · subst h; simp at hx
  · simp only [Value.slice.injEq, Option.some.injEq, Addr.mk.injEq, and_true] at h1
    obtain ⟨rfl, rfl, rfl⟩ := h1
    have hgl := h3.lt
    refine Or.inr ⟨g, cap, fun j => if j = x then v else u j, fun i c => (i = x ∧ fresh w X c) ∨ (i ≠ x ∧ G i c), Or.inl hFb, fun i c hc => ?_, fun i j c e h5 h6 => ?_, by simp, by simpa using h2, by simpa using (h3.block (hb.block g hgl)).set x v, fun i hi => ?_⟩
    · rcases hc with ⟨_, hc⟩ | ⟨_, hc⟩
      · exact ⟨Or.inr hc, fun e => by have := hc.1; omega⟩
      · exact ⟨Or.inl (hG i c hc).1, (hG i c hc).2⟩
    · rcases h5 with ⟨e5, h5⟩ | ⟨e5, h5⟩ <;> rcases h6 with ⟨e6, h6⟩ | ⟨e6, h6⟩
      · omega
      · have := h5.1; have := hF c (hG j c h6).1; omega
      · have := h6.1; have := hF c (hG i c h5).1; omega
      · exact hGG i j c e h5 h6
    · simp only [List.length_set] at hi
      by_cases e : i = x
      · subst e
        have h7 : IntsO X v zs (fun c => (i = i ∧ fresh w X c) ∨ (i ≠ i ∧ G i c)) := hv.mono fun c hc => Or.inl ⟨rfl, hc⟩
        show IntsO _ (if i = i then v else u i) _ (fun c => (i = i ∧ fresh w X c) ∨ (i ≠ i ∧ G i c))
        rw [if_pos rfl, List.getElem?_set_self hx, Option.getD_some]
        refine h7.keep fun c hc _ => Below.heap_setCell _ _ _ _ ?_
        rcases hc with ⟨_, hc⟩ | ⟨hc, _⟩
        · show c ≠ g
          have := hc.1; omega
        · exact absurd rfl hc
      · show IntsO _ (if i = x then v else u i) _ (fun c => (i = x ∧ fresh w X c) ∨ (i ≠ x ∧ G i c))
        rw [if_neg e, List.getElem?_set_ne (fun h => e h.symm)]
        have h7 : IntsO w (u i) (zss[i]?.getD []) (fun c => (i = x ∧ fresh w X c) ∨ (i ≠ x ∧ G i c)) := (h4 i hi).mono fun c hc => Or.inr ⟨e, hc⟩
        refine h7.keep fun c hc hlt => ?_
        rcases hc with ⟨hc, _⟩ | ⟨_, hc⟩
        · exact absurd hc e
        · rw [Below.heap_setCell _ _ _ _ (show c ≠ g from (hG i c hc).2), hb.block c hlt]

theorem Box2.store {w : World} {b : Nat} {x y : Value} (h : Box2 w b x y) {p : Addr} (hp : b ≠ p.block) (v : Value) : Box2 (w.setCell p v) b x y :=
  ⟨(World.cell?_of_block (w := w) (a := ⟨b, 0, none⟩) (Below.heap_setCell _ _ _ _ hp)).trans h.1, (World.cell?_of_block (w := w) (a := ⟨b, 1, none⟩) (Below.heap_setCell _ _ _ _ hp)).trans h.2⟩
theorem IntsSO.cell {w : World} {a : Option Addr} {n cap : Nat} {zss : List (List Int)} {F : Nat → Prop} (h : IntsSO w (.slice a n cap) zss F) {x : Nat} (hx : x < zss.length) :
    ∃ g ua un uc, a = some ⟨g, 0, none⟩ ∧ F g ∧ g < w.heap.size ∧ w.cell? ⟨g, x, none⟩ = some (.slice ua un uc) ∧ w.frozen? ⟨g, x, none⟩ = false := by
  rcases h with ⟨h, _⟩ | ⟨b, cap', u, G, hFb, _, _, h1, _, h3, h4⟩
  · subst h; simp at hx
  · simp only [Value.slice.injEq] at h1
    obtain ⟨rfl, rfl, rfl⟩ := h1
    have hu : ∃ ua un uc, u x = .slice ua un uc := by
      rcases h4 x hx with ⟨_, a, c, e⟩ | ⟨_, _, _, e, _⟩
      · exact ⟨_, _, _, e⟩
      · exact ⟨_, _, _, e⟩
    obtain ⟨ua, un, uc, e⟩ := hu
    exact ⟨b, ua, un, uc, rfl, hFb, h3.lt, by rw [h3.cell hx, e], h3.frozen x⟩

/-- The blocks behind the first k puts of those that are picked. -/
def keepTo (pk : Nat → Bool) (bs : List (List Int)) (ps : List (Int × List Int)) : Nat → List (List Int)
  | 0 => bs
  | k + 1 => if pk k then (keepTo pk bs ps k).set (ps[k]?.getD (0, [])).1.toNat (ps[k]?.getD (0, [])).2 else keepTo pk bs ps k
theorem keepTo_length (pk : Nat → Bool) (bs : List (List Int)) (ps : List (Int × List Int)) (k : Nat) : (keepTo pk bs ps k).length = bs.length := by
  induction k with
  | zero => rfl
  | succ k ih => unfold keepTo; split <;> simp [ih]
theorem keepTo_len (pk : Nat → Bool) (bs : List (List Int)) (ps : List (Int × List Int)) {M : Nat} (hz : ∀ k : Nat, (bs[k]?.getD []).length ≤ M) (hzp : ∀ k : Nat, (ps[k]?.getD (0, [])).2.length ≤ M) (k : Nat) : ∀ i : Nat, ((keepTo pk bs ps k)[i]?.getD []).length ≤ M := by
  induction k with
  | zero => exact hz
  | succ k ih =>
    intro i
    unfold keepTo
    split
    · rw [List.getElem?_set]
      split
      · split
        · exact hzp k
        · simp
      · exact ih i
    · exact ih i
theorem keepTo_step {pk : Nat → Bool} {bs : List (List Int)} {ps : List (Int × List Int)} {k : Nat} (h : pk k = true) : keepTo pk bs ps (k + 1) = (keepTo pk bs ps k).set (ps[k]?.getD (0, [])).1.toNat (ps[k]?.getD (0, [])).2 := by simp [keepTo, h]
theorem keepTo_skip {pk : Nat → Bool} {bs : List (List Int)} {ps : List (Int × List Int)} {k : Nat} (h : pk k = false) : keepTo pk bs ps (k + 1) = keepTo pk bs ps k := by simp [keepTo, h]
end Go.Proofs.Ytmjdechoookpmaa

namespace Go.Proofs.Ytmjdechoookpmaa
open Go.RowKit
set_option maxRecDepth 100000

theorem Try.sizeInt : (Try.prog.info? 2).map (·.size) = some 1 := by kernel_rfl

/-- What 'copy' into a list that was just made comes to. -/
theorem copy_made (w : World) (a : Option Addr) (n cap : Nat) (zs : List Int) (hz : zs.length = n) (hc : At1 w a n (fun k => .int .i64 (zs[k]?.getD 0))) :
    ∃ X, (Builtin.copy_ #[36, 36] 3 #[.slice (some ⟨w.heap.size, 0, none⟩) n n, .slice a n cap]).run Try.prog (w.alloc (.cells (madeCells #[.int .i64 0] n) 2)) = .ok (goInt n) X ∧
      Below w.heap.size w X ∧ OwnRow X w.heap.size n (fun i => .int .i64 (zs[i]?.getD 0)) := by
  by_cases h0 : n = 0
  · subst h0
    have hr := run_copy_none (P := Try.prog) (w.alloc (.cells (madeCells #[.int .i64 0] 0) 2)) 36 36 3 2 (some ⟨w.heap.size, 0, none⟩) a 0 0 0 cap Try.underlying36 Try.sizeInt (by simp)
    exact ⟨_, hr, later1 _ _, (OwnRow.made w (.int .i64 0) 0 2).congr fun i hi => by omega⟩
  · obtain ⟨b, off, rfl, _⟩ := hc 0 (by omega)
    have hc' : ∀ k, k < n → w.cell? ⟨b, off + k, none⟩ = some (.int .i64 (zs[k]?.getD 0)) := by
      intro k hk
      obtain ⟨b', off', e, h⟩ := hc k hk
      simp only [Option.some.injEq, Addr.mk.injEq, and_true] at e
      rw [e.1, e.2]; exact h
    have hcp := run_copy_row (P := Try.prog) (w.alloc (.cells (madeCells #[.int .i64 0] n) 2)) 36 36 3 2 w.heap.size 0 n n ⟨b, off, none⟩ n cap (madeCells #[.int .i64 0] n) 2 (zs.map fun z => Value.int .i64 z) Try.underlying36 Try.sizeInt
      (Go.Deep.blk_alloc_new _ _) (by simp [hz]) (fun j v hv => by
        rw [List.getElem?_map, Option.map_eq_some_iff] at hv
        obtain ⟨z, hz1, rfl⟩ := hv
        have hj : j < n := by rw [← hz]; exact (List.getElem?_eq_some_iff.1 hz1).1
        have h2 := hc' j hj
        rw [hz1, Option.getD_some] at h2
        have ha : (⟨b, off, none⟩ : Addr).add j = ⟨b, off + j, none⟩ := by
          by_cases hj0 : j = 0
          · subst hj0; simp [Addr.add]
          · simp [Addr.add, hj0]
        rw [ha]
        exact cell_later (later1 _ _) h2) (by simp [size_madeCells, hz]) (fun v hv => by
        obtain ⟨z, _, rfl⟩ := List.mem_map.1 hv
        rfl)
    refine ⟨_, by rw [hcp, List.length_map, hz], below_setRow (later1 _ _) (Nat.le_refl _) _, ?_⟩
    refine ⟨_, 2, setRow_heap _ _ _ _ _ _ (Go.Deep.blk_alloc_new _ _), ?_, fun i hi => ?_⟩
    · simp [hz]
    · have hlen : i < zs.length := by omega
      simp [List.getElem?_append_left, hlen]
set_option maxHeartbeats 400000 in
theorem copyOf_more {w : World} {v : Value} {zs : List Int} (h : Ints w v zs) (hn : zs.length ≤ 1048576) :
    Calls Try.prog 76 #[v] w fun e w' => e = .returned (.slice (some ⟨w.heap.size, 0, none⟩) zs.length zs.length) ∧ Below w.heap.size w w' ∧ IntsO w' (.slice (some ⟨w.heap.size, 0, none⟩) zs.length zs.length) zs (fresh w w') ∧ w.heap.size < w'.heap.size := by
  obtain ⟨a, cap, rfl, hm, hc⟩ := h.open'
  clear h
  obtain ⟨X, hcp, hbX, hrX⟩ := copy_made w a zs.length cap zs rfl hc
  have hmk := fun w => run_make_row' (P := Try.prog) 36 2 (.int .i64 0) 8 Try.underlying36 Try.infoInt rfl .i64 .i64 zs.length (by omega) (by omega) w
  have HB : Hid (Below w.heap.size w X) := hbX
  have HR : Hid (OwnRow X w.heap.size zs.length (fun i => .int .i64 (zs[i]?.getD 0))) := hrX
  clear hbX hrX hc
  go_enter Try.func76, Try.ntmps76
  go_wp2
  go_ret
  exact ⟨rfl, HB.out, Or.inr ⟨w.heap.size, _, ⟨Nat.le_refl _, HR.out.lt⟩, rfl, hm, HR.out⟩, HR.out.lt⟩
theorem copyOf_any {w : World} {v : Value} {zs : List Int} (h : Ints w v zs) (hn : zs.length ≤ 1048576) :
    Calls Try.prog 76 #[v] w fun e w' => e = .returned (.slice (some ⟨w.heap.size, 0, none⟩) zs.length zs.length) ∧ Below w.heap.size w w' ∧ IntsO w' (.slice (some ⟨w.heap.size, 0, none⟩) zs.length zs.length) zs (fresh w w') :=
  (copyOf_more h hn).mono fun _ _ ⟨h1, h2, h3, _⟩ => ⟨h1, h2, h3⟩
end Go.Proofs.Ytmjdechoookpmaa

namespace Go.Proofs.Ytmjdechoookpmaa
open Go.RowKit
set_option maxRecDepth 100000

set_option maxHeartbeats 800000 in
theorem set_any (w : World) (br o g n cap x : Nat) (u : Nat → Value) (v : Value) (zs : List Int) (_hn : n ≤ 60) (hx : x < n) (h0 : w.cell? ⟨br, o, none⟩ = some (.slice (some ⟨g, 0, none⟩) n cap)) (hr : OwnRow w g n u) (hu : ∃ ua un uc, u x = .slice ua un uc) (hi : Ints w v zs) (hl : zs.length ≤ 1048576) :
    Calls Try.prog 71 #[.pointer (some ⟨br, o, none⟩), .int .i64 (x : Int), v] w fun e w' => e = .returned (.tuple #[]) ∧
      ∃ X, w' = X.setCell ⟨g, x, none⟩ (.slice (some ⟨w.heap.size, 0, none⟩) zs.length zs.length) ∧ Below w.heap.size w X ∧ IntsO X (.slice (some ⟨w.heap.size, 0, none⟩) zs.length zs.length) zs (fresh w X) := by
  obtain ⟨ua, un, uc, hux⟩ := hu
  have HI : Hid (Ints w v zs) := hi
  have HR : Hid (OwnRow w g n u) := hr
  have c1 := hr.cell hx
  rw [hux] at c1
  have c2 := hr.frozen x
  have HL : Hid (zs.length ≤ 1048576) := hl
  clear hi hr hl hux
  go_enter Try.func71, Try.ntmps71
  go_wp2_with fail
  go_region_with ((go_at_call 76; refine (copyOf_any ?_ HL.out).mono ?_; exact HI.out; rintro e w1 ⟨rfl, hb1, ho1⟩; have d0 := cell_later hb1 h0; have d1 := cell_later hb1 c1; have d2 := (hb1.frozen (p := ⟨g, x, none⟩) (World.block_lt_of_cell? _ _ c1)).trans c2; have HB1 : Hid (Below w.heap.size w w1) := (Below.refl _ _).drew.trans hb1; have HO1 : Hid (IntsO w1 (.slice (some ⟨w.heap.size, 0, none⟩) zs.length zs.length) zs (fresh w w1)) := ho1; clear hb1 ho1))
  all_goals
    go_wp2
    go_end0
    exact ⟨rfl, w1, rfl, HB1.out, HO1.out⟩

set_option maxHeartbeats 1600000 in
theorem rackOf_walk (w : World) (a : Option Addr) (n cap : Nat) (bs : List (List Int)) (hbl : bs.length = n) (hn : n ≤ 60) (hz : ∀ k, k < n → (bs[k]?.getD []).length ≤ 1048576) (hB : AtS w a n bs) :
    Calls Try.prog 70 #[.slice a n cap] w fun e w' => ∃ g, e = .returned (.agg #[.slice (some ⟨g, 0, none⟩) n n]) ∧ Below w.heap.size w w' ∧ IntsSO w' (.slice (some ⟨g, 0, none⟩) n n) bs (fresh w w') := by
  have HBL : Hid (bs.length = n) := hbl
  have HZ : Hid (∀ k, k < n → (bs[k]?.getD []).length ≤ 1048576) := hz
  have HB : Hid (AtS w a n bs) := hB
  clear hbl hz hB
  go_enter Try.func70, Try.ntmps70
  go_wp2_with fail
  refine (newRack_any _ n hn).mono ?_
  rintro e w1 ⟨g, hg, rfl, hb1, hr1⟩
  simp at hg
  have HB1 : Hid (Below w.heap.size w w1) := (later1 _ _).trans (hb1.mono (by simp))
  have hgl : g < w1.heap.size := hr1.lt
  have HR1 : Hid (OwnRow w1 g n (fun _ => .slice none 0 0)) := hr1
  have t0 := cell_later hb1 (show (w.alloc (Obj.cells #[Value.slice none 0 0] 86)).cell? ⟨w.heap.size, 0, none⟩ = some (.slice none 0 0) by rw [new_cell]; rfl)
  have t1 : w1.frozen? ⟨w.heap.size, 0, none⟩ = false := by rw [hb1.frozen (by simp)]; simp
  have hz1 : w.heap.size < w1.heap.size := World.block_lt_of_cell? _ _ t0
  clear hb1 hr1
  go_wp2_with fail
  go_loopw [11] (fun i wr => ∃ j : Nat, j ≤ n ∧ i = .int .i64 j ∧ Below w.heap.size w wr ∧ wr.cell? ⟨w.heap.size, 0, none⟩ = some (.slice none 0 0) ∧ wr.frozen? ⟨w.heap.size, 0, none⟩ = false ∧ wr.cell? ⟨w1.heap.size, 0, none⟩ = some (.slice (some ⟨g, 0, none⟩) n n) ∧
    ∃ u s, OwnRow wr g n (fun i => if i < j then u i else .slice none 0 0) ∧ (∀ i, i < j → ∃ ua un uc, u i = .slice ua un uc) ∧ Built wr (w1.heap.size + 1) j u (fun i => bs[i]?.getD []) s) (fun i _ => n - (intOf i).toNat)
  case atStart => exact ⟨0, Nat.zero_le _, rfl, HB1.out.trans ((later1 _ _).mono HB1.out.size), cell_later (later1 _ _) t0, by rw [(later1 w1 _).frozen (p := ⟨w.heap.size, 0, none⟩) hz1]; exact t1, by rw [new_cell]; rfl, fun _ => .slice none 0 0, _, (HR1.out.later (later1 _ _)).congr fun i _ => by simp, fun i hi => by omega, Built.nil _ _ (by simp)⟩
  case round =>
    obtain ⟨j, hj, rfl, hbl, q0, q1, q2, u, s, hrow, hsh, hbt⟩ := hrel
    have HBW : Hid (Below w.heap.size w wr) := hbl
    have HROW : Hid (OwnRow wr g n (fun i => if i < j then u i else .slice none 0 0)) := hrow
    have HBT : Hid (Built wr (w1.heap.size + 1) j u (fun i => bs[i]?.getD []) s) := hbt
    have HSH : Hid (∀ i, i < j → ∃ ua un uc, u i = .slice ua un uc) := hsh
    clear hbl hrow hbt hsh t0 t1
    by_cases hlt : j < n
    · obtain ⟨b, off, ua, ucap, e, c1, i1⟩ := HB.out j hlt
      clear HB
      subst e
      replace c1 := cell_later HBW.out c1
      have HI : Hid (Ints wr (.slice ua (bs[j]?.getD []).length ucap) (bs[j]?.getD [])) := i1.later HBW.out
      clear i1
      go_wp2_with fail
      refine (set_any wr w1.heap.size 0 g n n j _ _ (bs[j]?.getD []) hn hlt q2 HROW.out ⟨none, 0, 0, by simp⟩ HI.out (HZ.out j hlt)).mono ?_
      rintro e w2 ⟨rfl, X, rfl, hbX, hoX⟩
      have HX : Hid (Below wr.heap.size wr X) := hbX
      have HO : Hid (IntsO X (.slice (some ⟨wr.heap.size, 0, none⟩) (bs[j]?.getD []).length (bs[j]?.getD []).length) (bs[j]?.getD []) (fresh wr X)) := hoX
      clear hbX hoX
      go_wp2
      go_roundw
      case rel =>
        refine ⟨j + 1, by omega, by go_num, (HBW.out.trans (HX.out.mono HBW.out.size)).setCell (by simp; omega) _, ?_, ?_, ?_, _, _, ((HROW.out.later HX.out).set j _).congr fun i hi => ?_, fun i hi => ?_, (HBT.out.next HX.out HO.out).store (by simp; omega) _⟩
        · rw [World.cell?_of_block (w := X) (Below.heap_setCell _ _ _ _ (by simp; omega))]; exact cell_later HX.out q0
        · rw [World.frozen?_of_block (w := X) (Below.heap_setCell _ _ _ _ (by simp; omega)), HX.out.frozen (World.block_lt_of_cell? _ _ q0)]; exact q1
        · rw [World.cell?_of_block (w := X) (Below.heap_setCell _ _ _ _ (by simp; omega))]; exact cell_later HX.out q2
        · by_cases e : i = j
          · subst e; simp
          · by_cases e2 : i < j
            · simp [e, e2, show i < j + 1 by omega]
            · simp [e, e2, show ¬ i < j + 1 by omega]
        · by_cases e : i = j
          · subst e; exact ⟨_, _, _, by simp; exact ⟨rfl, rfl, rfl⟩⟩
          · obtain ⟨a1, a2, a3, h⟩ := HSH.out i (by omega)
            exact ⟨a1, a2, a3, by simp [e, h]⟩
      case measure => simp [intOf]; omega
    · go_wp2
      have e : j = n := by omega
      subst e
      refine bodyPost_ret (v := .agg #[.slice (some ⟨g, 0, none⟩) j j]) (by simp [results, Try.results70, go_sem, q0]) rfl ⟨g, rfl, HBW.out.setCell (Nat.le_refl _) _, ?_⟩
      have hB' := HBT.out.store (p := ⟨w.heap.size, 0, none⟩) (by simp; omega) (.slice (some ⟨g, 0, none⟩) j j)
      have hR' := (HROW.out.congr (g := u) fun i hi => by simp [hi]).store (p := ⟨w.heap.size, 0, none⟩) (by simp; omega) (.slice (some ⟨g, 0, none⟩) j j)
      exact hB'.ints bs HBL.out (fun _ _ => rfl) (by unfold maxLen; omega) (by omega) hR' _ ⟨by omega, hR'.lt⟩ (fun c h1 h2 => ⟨by omega, h2⟩)
end Go.Proofs.Ytmjdechoookpmaa
