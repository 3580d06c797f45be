/- The plain mathematics of chapter 1: the codes of words, puts and disks. No program, no world. The walks of the codes of words and disks, the program's and the specification's. The walks of NewDisk, the program's and the specification's. The walks of the program's rack: lists that are set one by one. What 'append' comes to, as laws for the walk, and the specification's copying of a list. The walks of the program's drive: a cache of pointers that grows. The walks of DiskFault, the specification's and the program's. The walks of the specification's look at a block. The walks of the program's look at a block. The number of a disk: what SeqOf tells. Pure. Rows told by the list of their values. SeqOf, both sides; what is wrong of a disk that is to have a file system. Rows that grow by append, each element with a list of its own. -/
import Derived.Test.YtlohgnidbkechaaRows
import Derived.Test.YtlohgnidbkechaaM01
import Derived.Deep.RegionWith
import Derived.Deep.RegionLaw
import Derived.OwnWalk
import Derived.Deep.AppendLies
namespace Go.Proofs.Ytlohgnidbkechaa

def okW (z : Int) : Bool := decide (0 ≤ z ∧ z ≤ 65535)
def wordsF (ws : List Int) : Int := if 64 < ws.length then 2 else if ws.all okW then 0 else 3
/-- The first code that is not 0. -/
def firstF : List Int → Int
  | [] => 0
  | c :: cs => if c = 0 then firstF cs else c
def placeB (n : Nat) (x : Int) : Bool := decide (0 ≤ x ∧ x < (n : Int))
def putF (n : Nat) (p : Int × List Int) : Int := if placeB n p.1 = true then wordsF p.2 else 3
def faultF (bs : List (List Int)) (ps : List (Int × List Int)) : Int :=
  if 60 < bs.length ∨ 200 < ps.length then 2 else if firstF (bs.map wordsF) = 0 then firstF (ps.map (putF bs.length)) else firstF (bs.map wordsF)

theorem all_ok {ws : List Int} (h : ∀ i : Nat, i < ws.length → okW (ws[i]?.getD 0) = true) : ws.all okW = true := by
  rw [List.all_eq_true]
  intro x hx
  obtain ⟨i, hi, rfl⟩ := List.getElem_of_mem hx
  have := h i hi
  rwa [List.getElem?_eq_getElem hi, Option.getD_some] at this
theorem not_ok {ws : List Int} {i : Nat} (hi : i < ws.length) (h : okW (ws[i]?.getD 0) = false) : ws.all okW = false := by
  rw [List.getElem?_eq_getElem hi, Option.getD_some] at h
  rw [Bool.eq_false_iff]
  intro ha
  rw [List.all_eq_true] at ha
  have := ha _ (List.getElem_mem hi)
  rw [h] at this; cases this
theorem wordsF_many {ws : List Int} (h : 64 < ws.length) : wordsF ws = 2 := by simp [wordsF, h]
theorem wordsF_ok {ws : List Int} (h : ¬ 64 < ws.length) (ha : ∀ i : Nat, i < ws.length → okW (ws[i]?.getD 0) = true) : wordsF ws = 0 := by simp [wordsF, h, all_ok ha]
theorem wordsF_bad {ws : List Int} {i : Nat} (h : ¬ 64 < ws.length) (hi : i < ws.length) (ha : okW (ws[i]?.getD 0) = false) : wordsF ws = 3 := by simp [wordsF, h, not_ok hi ha]
theorem firstF_zero (l : List Int) : (∀ i : Nat, i < l.length → l[i]?.getD 0 = 0) → firstF l = 0 := by
  induction l with
  | nil => intro _; rfl
  | cons c cs ih =>
    intro h
    have h0 : c = 0 := by simpa using h 0 (by simp)
    have : firstF cs = 0 := ih fun i hi => by have := h (i + 1) (by simpa using hi); simpa using this
    simp [firstF, h0, this]
theorem firstF_at (l : List Int) : ∀ j : Nat, j < l.length → (∀ i : Nat, i < j → l[i]?.getD 0 = 0) → ¬ l[j]?.getD 0 = 0 → firstF l = l[j]?.getD 0 := by
  induction l with
  | nil => intro j hj; simp at hj
  | cons c cs ih =>
    intro j hj hz hn
    cases j with
    | zero => simp at hn; simp [firstF, hn]
    | succ j =>
      have h0 : c = 0 := by simpa using hz 0 (by omega)
      have := ih j (by simpa using hj) (fun i hi => by have := hz (i + 1) (by omega); simpa using this) (by simpa using hn)
      simp [firstF, h0, this]
theorem mapW_get (bs : List (List Int)) {i : Nat} (h : i < bs.length) : (bs.map wordsF)[i]?.getD 0 = wordsF (bs[i]?.getD []) := by
  rw [List.getElem?_map, List.getElem?_eq_getElem h]; rfl
theorem mapP_get (n : Nat) (ps : List (Int × List Int)) {i : Nat} (h : i < ps.length) : (ps.map (putF n))[i]?.getD 0 = putF n (ps[i]?.getD (0, [])) := by
  rw [List.getElem?_map, List.getElem?_eq_getElem h]; rfl
theorem faultF_many {bs : List (List Int)} {ps : List (Int × List Int)} (h : 60 < bs.length ∨ 200 < ps.length) : faultF bs ps = 2 := by simp [faultF, h]
theorem faultF_block {bs : List (List Int)} {ps : List (Int × List Int)} {j : Nat} (h : ¬ (60 < bs.length ∨ 200 < ps.length)) (hj : j < bs.length) (hz : ∀ i : Nat, i < j → wordsF (bs[i]?.getD []) = 0) (hn : ¬ wordsF (bs[j]?.getD []) = 0) : faultF bs ps = wordsF (bs[j]?.getD []) := by
  have e := firstF_at (bs.map wordsF) j (by simpa using hj) (fun i hi => by rw [mapW_get bs (by omega)]; exact hz i hi) (by rw [mapW_get bs hj]; exact hn)
  rw [mapW_get bs hj] at e
  simp [faultF, h, e, hn]
theorem faultF_put {bs : List (List Int)} {ps : List (Int × List Int)} {j : Nat} (h : ¬ (60 < bs.length ∨ 200 < ps.length)) (hb : ∀ i : Nat, i < bs.length → wordsF (bs[i]?.getD []) = 0) (hj : j < ps.length) (hz : ∀ i : Nat, i < j → putF bs.length (ps[i]?.getD (0, [])) = 0) (hn : ¬ putF bs.length (ps[j]?.getD (0, [])) = 0) : faultF bs ps = putF bs.length (ps[j]?.getD (0, [])) := by
  have e0 := firstF_zero (bs.map wordsF) (fun i hi => by rw [List.length_map] at hi; rw [mapW_get bs hi]; exact hb i hi)
  have e := firstF_at (ps.map (putF bs.length)) j (by simpa using hj) (fun i hi => by rw [mapP_get _ ps (by omega)]; exact hz i hi) (by rw [mapP_get _ ps hj]; exact hn)
  rw [mapP_get _ ps hj] at e
  simp [faultF, h, e0, e]
theorem faultF_ok {bs : List (List Int)} {ps : List (Int × List Int)} (h : ¬ (60 < bs.length ∨ 200 < ps.length)) (hb : ∀ i : Nat, i < bs.length → wordsF (bs[i]?.getD []) = 0) (hz : ∀ i : Nat, i < ps.length → putF bs.length (ps[i]?.getD (0, [])) = 0) : faultF bs ps = 0 := by
  have e0 := firstF_zero (bs.map wordsF) (fun i hi => by rw [List.length_map] at hi; rw [mapW_get bs hi]; exact hb i hi)
  have e := firstF_zero (ps.map (putF bs.length)) (fun i hi => by rw [List.length_map] at hi; rw [mapP_get _ ps hi]; exact hz i hi)
  simp [faultF, h, e0, e]

/-- The words that stand at place x while only the first k puts are looked at, the last one first. -/
def atK (bs : List (List Int)) (ps : List (Int × List Int)) (x : Int) : Nat → List Int
  | 0 => bs[x.toNat]?.getD []
  | k + 1 => if (ps[k]?.getD (0, [])).1 = x then (ps[k]?.getD (0, [])).2 else atK bs ps x k
def atF (bs : List (List Int)) (ps : List (Int × List Int)) (x : Int) : List Int := atK bs ps x ps.length
theorem atK_hit {bs : List (List Int)} {ps : List (Int × List Int)} {x : Int} {k : Nat} (h : (ps[k]?.getD (0, [])).1 = x) : atK bs ps x (k + 1) = (ps[k]?.getD (0, [])).2 := by simp [atK, h]
theorem atK_miss {bs : List (List Int)} {ps : List (Int × List Int)} {x : Int} {k : Nat} (h : ¬ (ps[k]?.getD (0, [])).1 = x) : atK bs ps x (k + 1) = atK bs ps x k := by simp [atK, h]
/-- The codes of PutBlock and of BlockAt. -/
def placeF (bs : List (List Int)) (ps : List (Int × List Int)) (x : Int) : Int := if faultF bs ps = 0 then (if placeB bs.length x = true then 0 else 3) else faultF bs ps

end Go.Proofs.Ytlohgnidbkechaa

namespace Go.Proofs.Ytlohgnidbkechaa
open Go.RowKit
set_option maxRecDepth 100000

theorem l1In_any (w : World) (v low high : Int) :
    Calls Try.prog 21 #[.int .i64 v, .int .i64 low, .int .i64 high] w fun e w' => e = .returned (.bool (decide (low ≤ v ∧ v ≤ high))) ∧ w' = w := by
  by_cases h1 : low ≤ v
  · by_cases h2 : v ≤ high
    · have e1 : decide (low ≤ v ∧ v ≤ high) = true := by simp [h1, h2]
      rw [e1]
      go_enter Try.func21, Try.ntmps21
      go_wp2
      go_ret
      exact ⟨rfl, rfl⟩
    · have e1 : decide (low ≤ v ∧ v ≤ high) = false := by simp [h2]
      rw [e1]
      go_enter Try.func21, Try.ntmps21
      go_wp2
      go_ret
      exact ⟨rfl, rfl⟩
  · have e1 : decide (low ≤ v ∧ v ≤ high) = false := by simp [h1]
    have hd : decide (low ≤ v) = false := by simpa using h1
    rw [e1]
    go_enter Try.func21, Try.ntmps21
    go_wp2
    go_ret
    exact ⟨rfl, rfl⟩

theorem l1In_is {w : World} {v low high : Int} {r : Bool} (h : decide (low ≤ v ∧ v ≤ high) = r) :
    Calls Try.prog 21 #[.int .i64 v, .int .i64 low, .int .i64 high] w fun e w' => e = .returned (.bool r) ∧ w' = w := by
  subst h; exact l1In_any w v low high

theorem place_l1 (n : Nat) (x : Int) : decide (0 ≤ x ∧ x ≤ (n : Int) - 1) = placeB n x := by
  unfold placeB
  by_cases h : 0 ≤ x ∧ x < (n : Int)
  · simp [h]; omega
  · simp [h]; omega

end Go.Proofs.Ytlohgnidbkechaa

namespace Go.Proofs.Ytlohgnidbkechaa
open Go.RowKit
set_option maxRecDepth 100000

theorem l1New_any (w : World) (n : Nat) (hn : n ≤ 60) :
    Calls Try.prog 22 #[.int .i64 (n : Int)] w fun e w' => ∃ b, w.heap.size ≤ b ∧ e = .returned (.agg #[.slice (some ⟨b, 0, none⟩) n n, .slice none 0 0]) ∧ Below w.heap.size w w' ∧ OwnRow w' b n (fun _ => .slice none 0 0) := by
  have hmk := fun w => run_make_row' (P := Try.prog) 22 40 (.slice none 0 0) 24 Try.underlying22 Try.infoInts rfl .i64 .i64 n (by omega) (by omega) w
  go_enter Try.func22, Try.ntmps22
  go_wp2
  refine bodyPost_ret (v := .agg #[.slice (some ⟨w.heap.size + 1, 0, none⟩) n n, .slice none 0 0]) (by simp [results, Try.results22, go_sem]) rfl ⟨w.heap.size + 1, by omega, rfl, later2 _ _ _, ?_⟩
  have := OwnRow.made (w.alloc (Obj.cells #[Value.slice (some ⟨w.heap.size + 1, 0, none⟩) n n, Value.slice none 0 0] 25)) (.slice none 0 0) n 40
  simpa using this

theorem newRack_any (w : World) (n : Nat) (hn : n ≤ 60) :
    Calls Try.prog 12 #[.int .i64 (n : Int)] w fun e w' => ∃ b, w.heap.size ≤ b ∧ e = .returned (.agg #[.slice (some ⟨b, 0, none⟩) n n]) ∧ Below w.heap.size w w' ∧ OwnRow w' b n (fun _ => .slice none 0 0) := by
  have hmk := fun w => run_make_row' (P := Try.prog) 22 40 (.slice none 0 0) 24 Try.underlying22 Try.infoInts rfl .i64 .i64 n (by omega) (by omega) w
  go_enter Try.func12, Try.ntmps12
  go_wp2
  refine bodyPost_ret (v := .agg #[.slice (some ⟨w.heap.size + 1, 0, none⟩) n n]) (by simp [results, Try.results12, go_sem]) rfl ⟨w.heap.size + 1, by omega, rfl, later2 _ _ _, ?_⟩
  have := OwnRow.made (w.alloc (Obj.cells #[Value.slice (some ⟨w.heap.size + 1, 0, none⟩) n n] 34)) (.slice none 0 0) n 40
  simpa using this

/-- n empty lists in one row that the call made. -/
theorem empties {w' : World} {b n : Nat} (F : Nat → Prop) (hF : F b) (hn : n ≤ 60) (h : OwnRow w' b n (fun _ => .slice none 0 0)) : IntsSO w' (.slice (some ⟨b, 0, none⟩) n n) (List.replicate n []) F := by
  refine Or.inr ⟨b, n, fun _ => .slice none 0 0, fun _ _ => False, hF, fun _ _ h => h.elim, fun _ _ _ _ h => h.elim, by simp, by unfold maxLen; simp; omega, by simpa using h, fun i hi => Or.inl ⟨?_, none, 0, rfl⟩⟩
  simp at hi
  simp [hi]

/-- The codes and the blocks of a new disk. -/
def newCode (size : Int) : Int := if 0 ≤ size ∧ size ≤ 60 then 0 else 3
def newBlocks (size : Int) : List (List Int) := if 0 ≤ size ∧ size ≤ 60 then List.replicate size.toNat [] else []

/-- A drive whose cache is empty. -/
theorem disk_nil (w : World) (bd off cap : Nat) (a ab : Option Addr) (nb cb : Nat) (h0 : w.cell? ⟨bd, off, none⟩ = some (.slice ab nb cb)) (h1 : w.cell? ⟨bd, off + 1, none⟩ = some (.slice a 0 cap)) :
    Calls Try.prog 17 #[.pointer (some ⟨bd, off, none⟩)] w fun e w' => e = .returned (.agg #[.slice ab nb cb, .slice none 0 0]) ∧ Below w.heap.size w w' := by
  have hlt := World.block_lt_of_cell? _ _ h0
  simp at hlt
  go_enter Try.func17, Try.ntmps17
  go_wp2
  go_loop [17] (fun i => i = .int .i64 0) (fun _ => 0)
  case atStart => rfl
  case round =>
    obtain rfl := hrel
    go_wp2
    exact bodyPost_ret (v := .agg #[.slice ab nb cb, .slice none 0 0]) (by simp [results, Try.results17, go_sem]) rfl ⟨rfl, later2 _ _ _⟩

theorem ans_new {w w' : World} {b n : Nat} (hn : n ≤ 60) (hb : w.heap.size ≤ b) (hbel : Below w.heap.size w w') (hr : OwnRow w' b n (fun _ => .slice none 0 0)) : AnsDisk w 0 (List.replicate n []) [] (.returned (.agg #[.int .i64 0, .slice (some ⟨b, 0, none⟩) n n, .slice none 0 0])) w' :=
  ⟨_, n, n, none, 0, 0, rfl, hbel, fun c => c = b, fun _ => False, empties _ rfl hn hr, Or.inl ⟨rfl, none, 0, rfl⟩, fun _ _ h => h.elim, fun c h => by have := hr.lt; exact h.elim (fun h => ⟨by omega, by omega⟩) False.elim⟩

end Go.Proofs.Ytlohgnidbkechaa

namespace Go.Proofs.Ytlohgnidbkechaa
open Go.RowKit
set_option maxRecDepth 100000

set_option maxHeartbeats 800000 in
theorem set_any (w : World) (br o g n cap x : Nat) (u : Nat → Value) (v : Value) (zs : List Int) (_hn : n ≤ 60) (hx : x < n) (h0 : w.cell? ⟨br, o, none⟩ = some (.slice (some ⟨g, 0, none⟩) n cap)) (hr : OwnRow w g n u) (hu : ∃ ua un uc, u x = .slice ua un uc) (hi : Ints w v zs) (hl : zs.length ≤ 1048576) :
    Calls Try.prog 13 #[.pointer (some ⟨br, o, none⟩), .int .i64 (x : Int), v] w fun e w' => e = .returned (.tuple #[]) ∧
      ∃ X, w' = X.setCell ⟨g, x, none⟩ (.slice (some ⟨w.heap.size, 0, none⟩) zs.length zs.length) ∧ Below w.heap.size w X ∧ IntsO X (.slice (some ⟨w.heap.size, 0, none⟩) zs.length zs.length) zs (fresh w X) := by
  obtain ⟨ua, un, uc, hux⟩ := hu
  have HI : Hid (Ints w v zs) := hi
  have HR : Hid (OwnRow w g n u) := hr
  have c1 := hr.cell hx
  rw [hux] at c1
  have c2 := hr.frozen x
  have HL : Hid (zs.length ≤ 1048576) := hl
  clear hi hr hl hux
  go_enter Try.func13, Try.ntmps13
  go_wp2_with fail
  go_region_with ((go_at_call 24; refine (copyOf_any ?_ HL.out).mono ?_; exact HI.out; rintro e w1 ⟨rfl, hb1, ho1⟩; have d0 := cell_later hb1 h0; have d1 := cell_later hb1 c1; have d2 := (hb1.frozen (p := ⟨g, x, none⟩) (World.block_lt_of_cell? _ _ c1)).trans c2; have HB1 : Hid (Below w.heap.size w w1) := (Below.refl _ _).drew.trans hb1; have HO1 : Hid (IntsO w1 (.slice (some ⟨w.heap.size, 0, none⟩) zs.length zs.length) zs (fresh w w1)) := ho1; clear hb1 ho1))
  all_goals
    go_wp2
    go_end0
    exact ⟨rfl, w1, rfl, HB1.out, HO1.out⟩

end Go.Proofs.Ytlohgnidbkechaa

namespace Go.Proofs.Ytlohgnidbkechaa
open Go.RowKit
set_option maxRecDepth 100000

section
variable {P : Program} {w : World}
/-- An append whose run is known, at its place in a walk. -/
theorem wpList_append_run {ops : Array Oper} {rest : List Oper} {o : Oper} {a : Act} {Q : Exit → Act → World → Prop} (hgd : o.guard = none) (s x : Operand) (t : TypeId)
    (ho : o.op = .call { callee := .builtin .append, args := #[s, x], argTypes := #[t, t] }) (v y : Value) (hs : a.eval s = v) (hx : a.eval x = y) (v' : Value) (w' : World)
    (hr : (Builtin.append_ #[t, t] o.type #[v, y]).run P w = .ok v' w') (h : wpList P ops Q rest (a.put o.dst v') w') : wpList P ops Q (o :: rest) a w := by
  refine wpList_plain hgd fun K hK => ?_
  unfold Oper.wp execOp
  simp only [ho, resolve, invoke, builtin, Sem.run_bind, Sem.run_pure, Result.andThen_ok, List.map_toArray, List.map_cons, List.map_nil, hs, hx, hr]
  exact hK _ _ h
/-- The same inside a region that draws its order. -/
theorem step_append_run {ops : Array Oper} {o : Oper} {a : Act} {K : Act → World → Prop} {Q : Exit → Act → World → Prop} {E : Prop} (hgd : o.guard = none) (s x : Operand) (t : TypeId)
    (ho : o.op = .call { callee := .builtin .append, args := #[s, x], argTypes := #[t, t] }) (v y : Value) (hs : a.eval s = v) (hx : a.eval x = y) (v' : Value) (w' : World)
    (hr : (Builtin.append_ #[t, t] o.type #[v, y]).run P w = .ok v' w') (h : K (a.put o.dst v') w') : if Region.wanted o (yielded ops a.tmps) = true then Oper.wp P o a w K Q else E := by
  have hw : Region.wanted o (yielded ops a.tmps) = true := by simp [Region.wanted, hgd]
  rw [if_pos hw]
  unfold Oper.wp execOp
  simp only [ho, resolve, invoke, builtin, Sem.run_bind, Sem.run_pure, Result.andThen_ok, List.map_toArray, List.map_cons, List.map_nil, hs, hx, hr]
  exact h
end

theorem below_grown {w w' : World} {B : Nat} {row : Option Nat} (h : w.grownBy w' row) (hB : B ≤ w.heap.size) (hr : ∀ k, row = some k → B ≤ k) : Below B w w' := (Below.refl _ _).grown h hB hr

/-- A row of one cell an element that the call owns. -/
theorem ownsRow_row {w : World} {base n : Nat} {e : TypeId} {v : Value} {xs : List Value} (h : w.ownsRow base e 1 v n xs) (h0 : 0 < n) : ∃ g cap, v = .slice (some ⟨g, 0, none⟩) n cap ∧ base ≤ g ∧ g < w.heap.size ∧ n ≤ maxLen ∧ OwnRow w g n (fun i => xs[i]?.getD undef) := by
  obtain ⟨hl, h | ⟨g, cap, cur, rfl, hb, hh, hnc, hcm, hcs, htake⟩⟩ := h
  · omega
  · refine ⟨g, cap, rfl, hb, (Array.getElem?_eq_some_iff.1 hh).1, by omega, cur, e, hh, by omega, fun i hi => ?_⟩
    rw [Nat.mul_one] at htake
    have h1 : xs[i]? = cur[i]? := by rw [← htake, List.getElem?_take, if_pos hi, Array.getElem?_toList]
    show cur[i]? = some (xs[i]?.getD undef)
    have h2 : i < cur.size := by omega
    rw [h1, Array.getElem?_eq_getElem h2]; rfl

theorem add_plain' (b off k : Nat) : (⟨b, off, none⟩ : Addr).add k = ⟨b, off + k, none⟩ := by
  by_cases h : k = 0
  · subst h; simp [Addr.add]
  · simp [Addr.add, h]

theorem Try.infoInt' : ∃ i, Try.prog.info? 2 = some i ∧ i.zero = some (.int .i64 0) ∧ i.size = 1 ∧ i.bytes = 8 := by
  obtain ⟨i, hi, h⟩ := Option.map_eq_some_iff.1 Try.infoInt
  simp only [Prod.mk.injEq] at h
  exact ⟨i, hi, h.1, h.2.1, h.2.2⟩

theorem append_empty (w : World) (ty : TypeId) (a : Option Addr) (n cap : Nat) (zs : List Int) (hz : zs.length = n) (hn : n ≤ 1048576) (hc : At1 w a n (fun k => .int .i64 (zs[k]?.getD 0))) :
    ∃ v' X, (Builtin.append_ #[40, 40] ty #[.slice (some ⟨w.heap.size, 0, none⟩) 0 0, .slice a n cap]).run Try.prog (w.alloc (.cells #[] 2)) = .ok v' X ∧
      Below w.heap.size w X ∧ IntsO X v' zs (fresh w X) ∧ w.heap.size < X.heap.size ∧ ∃ a' c', v' = .slice a' n c' := by
  obtain ⟨i, hi, h1, h2, h3⟩ := Try.infoInt'
  have hown : (w.alloc (.cells #[] 2)).ownsRow w.heap.size 2 1 (.slice (some ⟨w.heap.size, 0, none⟩) 0 0) 0 [] := World.ownsRow_lit w #[] 0 (Nat.le_refl _) (by simp) rfl
  by_cases ha : a = none
  · subst ha
    have h0 : n = 0 := by
      by_cases h : n = 0
      · exact h
      · obtain ⟨_, _, e, _⟩ := hc 0 (by omega); cases e
    subst h0
    have hzs : zs = [] := List.eq_nil_of_length_eq_zero hz
    subst hzs
    refine ⟨.slice (some ⟨w.heap.size, 0, none⟩) 0 0, w.alloc (.cells #[] 2), ?_, later1 _ _, Or.inl ⟨rfl, _, _, rfl⟩, by simp, _, _, rfl⟩
    simp [Builtin.append_, run_underlying Try.underlying40, sizeOf, typeInfo, hi, Builtin.lenOf, Builtin.firstCells, storeCells]
  · obtain ⟨ad, rfl⟩ := Option.ne_none_iff_exists'.1 ha
    obtain ⟨v', X, hr, ho, hg, _⟩ := run_append_own (P := Try.prog) (w.alloc (.cells #[] 2)) w.heap.size 40 ty 2 i (.int .i64 0) 1 8 Try.underlying40 hi h1 h2 h3 rfl (by decide) _ 0 [] hown ad n cap (zs.map fun z => Value.int .i64 z)
      (by simp [hz]) (fun j u hu => by
        rw [List.getElem?_map, Option.map_eq_some_iff] at hu
        obtain ⟨z, hz1, rfl⟩ := hu
        have hj : j < n := by rw [← hz]; exact (List.getElem?_eq_some_iff.1 hz1).1
        obtain ⟨b, off, e, h⟩ := hc j hj
        simp only [Option.some.injEq] at e
        rw [e, add_plain']
        replace h : w.cell? ⟨b, off + j, none⟩ = some (.int .i64 (zs[j]?.getD 0)) := h
        rw [hz1, Option.getD_some] at h
        exact cell_later (later1 _ _) h) (fun u hu => by
        obtain ⟨z, _, rfl⟩ := List.mem_map.1 hu
        rfl) (by unfold maxLen; omega) (by omega) (by simp)
    have hB : Below w.heap.size w X := (later1 _ _).trans (below_grown hg (by simp) (fun k hk => by simp [Value.ownBlock] at hk; omega))
    simp only [Nat.zero_add, List.nil_append] at ho
    refine ⟨v', X, hr, hB, ?_, by have := hg.size; simp at this; omega, ?_⟩
    · by_cases h0 : n = 0
      · subst h0
        have hzs : zs = [] := List.eq_nil_of_length_eq_zero hz
        refine Or.inl ⟨hzs, ?_⟩
        rcases ho.2 with ⟨rfl, _⟩ | ⟨g, c, cur, rfl, _⟩
        · exact ⟨_, _, rfl⟩
        · exact ⟨_, _, rfl⟩
      · obtain ⟨g, c, rfl, hg1, hg2, hm, hrow⟩ := ownsRow_row ho (by omega)
        refine Or.inr ⟨g, c, ⟨hg1, hg2⟩, by rw [hz], by rw [hz]; exact hm, ?_⟩
        rw [hz]
        exact hrow.congr fun i hi => by
          have : i < zs.length := by omega
          simp [this]
    · rcases ho.2 with ⟨rfl, rfl⟩ | ⟨g, c, cur, rfl, _⟩
      · exact ⟨_, _, rfl⟩
      · exact ⟨_, _, rfl⟩

end Go.Proofs.Ytlohgnidbkechaa

namespace Go.Proofs.Ytlohgnidbkechaa
open Go.RowKit
set_option maxRecDepth 100000

/-- The cache of a drive: a row of pointers to puts, each with a list of its own. -/
structure Cache (w : World) (base : Nat) (v : Value) (n : Nat) (f : Nat → Int × List Int) (pb k : Nat → Nat) (u : Nat → Value) : Prop where
  own : w.ownsRow base 73 1 v n ((List.range n).map fun i => Value.pointer (some ⟨pb i, 0, none⟩))
  lo : ∀ i, i < n → base ≤ pb i ∧ base ≤ k i ∧ k i < w.heap.size
  ne : ∀ i, i < n → v.ownBlock ≠ some (pb i) ∧ v.ownBlock ≠ some (k i)
  inj : ∀ i j, i < n → j < n → i ≠ j → k i ≠ k j
  box : ∀ i, i < n → OwnRow w (pb i) 2 (fun c => if c = 0 then .int .i64 (f i).1 else u i)
  sh : ∀ i, i < n → ∃ a c, u i = .slice a (f i).2.length c
  at' : ∀ i, i < n → IntsO w (u i) (f i).2 (fun c => c = k i)

theorem Cache.nil (w : World) (base : Nat) (f : Nat → Int × List Int) : Cache w base (.slice none 0 0) 0 f (fun _ => 0) (fun _ => 0) (fun _ => .slice none 0 0) :=
  ⟨World.ownsRow_nil _ _ _ _, fun i hi => by omega, fun i hi => by omega, fun i j hi => by omega, fun i hi => by omega, fun i hi => by omega, fun i hi => by omega⟩
/-- What turns no block from base on leaves the cache. -/
theorem Cache.keep {w w' : World} {base n : Nat} {v : Value} {f : Nat → Int × List Int} {pb k : Nat → Nat} {u : Nat → Value} (h : Cache w base v n f pb k u) (hs : w.heap.size ≤ w'.heap.size) (e : ∀ b, base ≤ b → b < w.heap.size → w'.heap[b]? = w.heap[b]?) : Cache w' base v n f pb k u := by
  refine ⟨?_, fun i hi => ⟨(h.lo i hi).1, (h.lo i hi).2.1, Nat.lt_of_lt_of_le (h.lo i hi).2.2 hs⟩, h.ne, h.inj, fun i hi => (h.box i hi).block (e _ (h.lo i hi).1 (h.box i hi).lt), h.sh, fun i hi => (h.at' i hi).keep fun b hb hlt => e b (by rw [hb]; exact (h.lo i hi).2.1) hlt⟩
  obtain ⟨h1, h2⟩ := h.own
  refine ⟨h1, ?_⟩
  rcases h2 with h2 | ⟨g, cap, cur, hv, hg, hh, r⟩
  · exact Or.inl h2
  · exact Or.inr ⟨g, cap, cur, hv, hg, by rw [e g hg (Array.getElem?_eq_some_iff.1 hh).1]; exact hh, r⟩
theorem Cache.later {w w' : World} {base n : Nat} {v : Value} {f : Nat → Int × List Int} {pb k : Nat → Nat} {u : Nat → Value} (h : Cache w base v n f pb k u) (hb : Below w.heap.size w w') : Cache w' base v n f pb k u :=
  h.keep hb.size fun b _ hlt => hb.block b hlt
theorem Cache.store {w : World} {base n : Nat} {v : Value} {f : Nat → Int × List Int} {pb k : Nat → Nat} {u : Nat → Value} (h : Cache w base v n f pb k u) {p : Addr} (hp : p.block < base) (x : Value) : Cache (w.setCell p x) base v n f pb k u :=
  h.keep (by simp [World.setCell]) fun b hb _ => Below.heap_setCell _ _ _ _ (by omega)
theorem Cache.shape {w : World} {base n : Nat} {v : Value} {f : Nat → Int × List Int} {pb k : Nat → Nat} {u : Nat → Value} (h : Cache w base v n f pb k u) : ∃ a c, v = .slice a n c := by
  rcases h.own.2 with ⟨rfl, rfl⟩ | ⟨g, c, cur, rfl, _⟩
  · exact ⟨_, _, rfl⟩
  · exact ⟨_, _, rfl⟩

theorem Try.infoPtr : (Try.prog.info? 73).map (fun i => (i.zero, i.size, i.bytes)) = some (some (.pointer none), 1, 8) := by kernel_rfl
theorem Try.infoPtr' : ∃ i, Try.prog.info? 73 = some i ∧ i.zero = some (.pointer none) ∧ i.size = 1 ∧ i.bytes = 8 := by
  obtain ⟨i, hi, h⟩ := Option.map_eq_some_iff.1 Try.infoPtr
  simp only [Prod.mk.injEq] at h
  exact ⟨i, hi, h.1, h.2.1, h.2.2⟩

/-- One put more, behind the cache: what 'append' comes to there. -/
theorem cache_append (w w1 : World) (ty : TypeId) (base n : Nat) (v : Value) (f : Nat → Int × List Int) (pb k : Nat → Nat) (u : Nat → Value) (h : Cache w base v n f pb k u) (hb : base ≤ w.heap.size) (hn : n ≤ 100000) (hb1 : Below w.heap.size w w1) (hlt : w.heap.size < w1.heap.size)
    (a : Option Addr) (c : Nat) (hf : IntsO w1 (.slice a (f n).2.length c) (f n).2 (fresh w w1)) :
    ∃ g cap X pb' k' u', (Builtin.append_ #[36, 36] ty #[v, .slice (some ⟨w1.heap.size + 1, 0, none⟩) 1 1]).run Try.prog ((w1.alloc (.cells #[.int .i64 (f n).1, .slice a (f n).2.length c] 53)).alloc (.cells #[.pointer (some ⟨w1.heap.size, 0, none⟩)] 73)) = .ok (.slice (some ⟨g, 0, none⟩) (n + 1) cap) X ∧
      Below base w X ∧ Cache X base (.slice (some ⟨g, 0, none⟩) (n + 1) cap) (n + 1) f pb' k' u' := by
  obtain ⟨i, hi, h1, h2, h3⟩ := Try.infoPtr'
  have hbW : Below w.heap.size w ((w1.alloc (.cells #[.int .i64 (f n).1, .slice a (f n).2.length c] 53)).alloc (.cells #[.pointer (some ⟨w1.heap.size, 0, none⟩)] 73)) := hb1.trans ((later2 _ _ _).mono hb1.size)
  have hW := h.later hbW
  obtain ⟨g, cap, X, hr, ho, hg, hat, hgX⟩ := run_append_lies (P := Try.prog) ((w1.alloc (.cells #[.int .i64 (f n).1, .slice a (f n).2.length c] 53)).alloc (.cells #[.pointer (some ⟨w1.heap.size, 0, none⟩)] 73)) 36 ty base 73 i (.pointer none) 1 8 Try.underlying36 hi h1 h2 h3 rfl (by decide) v n _ hW.own ⟨w1.heap.size + 1, 0, none⟩ 1 1 [.pointer (some ⟨w1.heap.size, 0, none⟩)] rfl
    (fun j x hx => by
      cases j with
      | zero =>
        simp at hx; subst hx
        simp [Addr.add]
      | succ j => simp at hx) (fun x hx => by simp at hx; subst hx; rfl) (by decide) (by unfold maxLen; omega) (by omega) (by have := hb1.size; simp; omega) (w1.heap.size + 2) (by simp)
  have hsz1 := hb1.size
  have hrow : ∀ g, v.ownBlock = some g → g < w.heap.size := fun g hg => (h.own.lt g hg).2
  have hrowb : ∀ g, v.ownBlock = some g → base ≤ g := fun g hg => (h.own.lt g hg).1
  have hXb : ∀ b, b < w1.heap.size + 2 → v.ownBlock ≠ some b → X.heap[b]? = ((w1.alloc (.cells #[.int .i64 (f n).1, .slice a (f n).2.length c] 53)).alloc (.cells #[.pointer (some ⟨w1.heap.size, 0, none⟩)] 73)).heap[b]? := fun b hb' hne => hg.block b (by simp; omega) (fun e => hne e.symm)
  have hXs : w1.heap.size + 2 ≤ X.heap.size := by have := hg.size; simp at this; omega
  have hBX : Below base w X := (hbW.mono hb).trans (below_grown hg (by simp; omega) (fun g hg' => hrowb g hg'))
  obtain ⟨kb, hkb1, hkb2, hkf⟩ : ∃ kb, w.heap.size ≤ kb ∧ kb < w1.heap.size ∧ IntsO w1 (.slice a (f n).2.length c) (f n).2 (fun c => c = kb) := by
    rcases hf with hf | ⟨b, cap, hF, r⟩
    · exact ⟨w.heap.size, Nat.le_refl _, hlt, Or.inl hf⟩
    · exact ⟨b, hF.1, hF.2, Or.inr ⟨b, cap, rfl, r⟩⟩
  -- g is the elder row, or a block behind all others
  have hne : ∀ b, b < w1.heap.size + 2 → v.ownBlock ≠ some b → g ≠ b := by
    intro b hb' hb2 e
    subst e
    rcases hat with h | h
    · exact hb2 h
    · omega
  have hfar : ∀ b, w.heap.size ≤ b → v.ownBlock ≠ some b := fun b hb' e => by have := hrow b e; omega
  have old : ∀ b, b < w.heap.size → v.ownBlock ≠ some b → X.heap[b]? = w.heap[b]? := fun b hb' hne => (hXb b (by omega) hne).trans (hbW.block b hb')
  refine ⟨g, cap, X, fun j => if j = n then w1.heap.size else pb j, fun j => if j = n then kb else k j, fun j => if j = n then .slice a (f n).2.length c else u j, hr, hBX, ⟨?_, fun j hj => ?_, fun j hj => ?_, fun j j' hj hj' e => ?_, fun j hj => ?_, fun j hj => ?_, fun j hj => ?_⟩⟩
  · rw [List.range_succ, List.map_append]
    have e1 : (List.range n).map (fun i => Value.pointer (some ⟨if i = n then w1.heap.size else pb i, 0, none⟩)) = (List.range n).map (fun i => Value.pointer (some ⟨pb i, 0, none⟩)) :=
      List.map_congr_left fun i hi => by simp [show i ≠ n by have := List.mem_range.1 hi; omega]
    rw [e1]
    simpa using ho
  · by_cases e : j = n
    · subst e; simp; omega
    · have := h.lo j (by omega); simp [e]; omega
  · by_cases e : j = n
    · subst e
      simp only [if_true]
      exact ⟨fun e => hne w1.heap.size (by omega) (hfar _ hsz1) (by simpa [Value.ownBlock] using e), fun e => hne kb (by omega) (hfar _ hkb1) (by simpa [Value.ownBlock] using e)⟩
    · have hj' : j < n := by omega
      have hl := h.lo j hj'
      have hb2 := (h.box j hj').lt
      simp only [e, if_false]
      exact ⟨fun e => hne (pb j) (by omega) (h.ne j hj').1 (by simpa [Value.ownBlock] using e), fun e => hne (k j) (by omega) (h.ne j hj').2 (by simpa [Value.ownBlock] using e)⟩
  · by_cases e1 : j = n
    · by_cases e2 : j' = n
      · omega
      · have := (h.lo j' (by omega)).2.2
        simp [e1, e2]; omega
    · by_cases e2 : j' = n
      · have := (h.lo j (by omega)).2.2
        simp [e1, e2]; omega
      · simp [e1, e2]; exact h.inj j j' (by omega) (by omega) e
  · by_cases e : j = n
    · subst e
      simp only [if_true]
      have hb2 := (OwnRow.two w1 (.int .i64 (f j).1) (.slice a (f j).2.length c) 53).later (later1 _ (.cells #[.pointer (some ⟨w1.heap.size, 0, none⟩)] 73))
      exact hb2.block (hXb _ (by omega) (hfar _ (by omega)))
    · have hj' : j < n := by omega
      simp only [e, if_false]
      exact (h.box j hj').block (old _ (h.box j hj').lt (h.ne j hj').1)
  · by_cases e : j = n
    · subst e; exact ⟨a, c, by simp⟩
    · simp only [e, if_false]; exact h.sh j (by omega)
  · by_cases e : j = n
    · subst e
      simp only [if_true]
      exact hkf.keep fun b hb' hlt' => by
        rw [hb', hXb kb (by omega) (hfar _ hkb1)]
        exact (later2 _ _ _).block kb hkb2
    · have hj' : j < n := by omega
      simp only [e, if_false]
      exact (h.at' j hj').keep fun b hb' hlt' => by rw [hb']; exact old _ (h.lo j hj').2.2 (h.ne j hj').2

/-- A drive that was opened: its blocks and its cache in new memory, the cache behind the drive itself. -/
structure Drive (w w' : World) (bd : Nat) (aB : Option Addr) (nB cB : Nat) (aP : Option Addr) (nP cP : Nat) (bs : List (List Int)) (ps : List (Int × List Int)) (pb k : Nat → Nat) (u : Nat → Value) : Prop where
  below : Below w.heap.size w w'
  lo : w.heap.size ≤ bd
  row : OwnRow w' bd 2 (fun c => if c = 0 then .slice aB nB cB else .slice aP nP cP)
  blocks : IntsSO w' (.slice aB nB cB) bs (fun c => w.heap.size ≤ c ∧ c < bd)
  cache : Cache w' (bd + 1) (.slice aP nP cP) nP (fun i => ps[i]?.getD (0, [])) pb k u

end Go.Proofs.Ytlohgnidbkechaa

namespace Go.Proofs.Ytlohgnidbkechaa
open Go.RowKit
set_option maxRecDepth 100000

/-- An answer that is a code and a list. -/
def AnsInts (w : World) (code : Int) (zs : List Int) (e : Ending) (w' : World) : Prop :=
  ∃ a n c, e = .returned (.agg #[.int .i64 code, .slice a n c]) ∧ Below w.heap.size w w' ∧ IntsO w' (.slice a n c) zs (fresh w w')
theorem ansInts_bad {w w' : World} (hb : Below w.heap.size w w') (code : Int) : AnsInts w code [] (.returned (.agg #[.int .i64 code, .slice none 0 0])) w' := ⟨none, 0, 0, rfl, hb, Or.inl ⟨rfl, none, 0, rfl⟩⟩

def atCode (bs : List (List Int)) (ps : List (Int × List Int)) (x : Int) : Int := placeF bs ps x
def atList (bs : List (List Int)) (ps : List (Int × List Int)) (x : Int) : List Int := if placeF bs ps x = 0 then atF bs ps x else []

theorem faultF_lens {bs : List (List Int)} {ps : List (Int × List Int)} (h : faultF bs ps = 0) : bs.length ≤ 60 ∧ ps.length ≤ 200 := by
  by_cases g : 60 < bs.length ∨ 200 < ps.length
  · rw [faultF_many g] at h; omega
  · omega

end Go.Proofs.Ytlohgnidbkechaa

namespace Go.Proofs.Ytlohgnidbkechaa
open Go.RowKit
set_option maxRecDepth 100000

theorem placeF_fault {bs : List (List Int)} {ps : List (Int × List Int)} {x : Int} (h : ¬ faultF bs ps = 0) : placeF bs ps x = faultF bs ps := by simp [placeF, h]
theorem placeF_no {bs : List (List Int)} {ps : List (Int × List Int)} {x : Int} (h : faultF bs ps = 0) (h2 : placeB bs.length x = false) : placeF bs ps x = 3 := by simp [placeF, h, h2]
theorem placeF_ok {bs : List (List Int)} {ps : List (Int × List Int)} {x : Int} (h : faultF bs ps = 0) (h2 : placeB bs.length x = true) : placeF bs ps x = 0 := by simp [placeF, h, h2]

/-- How the cache of a drive is read. -/
def AtC (w : World) (a : Option Addr) (n : Nat) (ps : List (Int × List Int)) : Prop :=
  ∀ i, i < n → ∃ g pb ua uc, a = some ⟨g, 0, none⟩ ∧ w.cell? ⟨g, i, none⟩ = some (.pointer (some ⟨pb, 0, none⟩)) ∧ w.cell? ⟨pb, 0, none⟩ = some (.int .i64 (ps[i]?.getD (0, [])).1) ∧ w.cell? ⟨pb, 1, none⟩ = some (.slice ua (ps[i]?.getD (0, [])).2.length uc) ∧ Ints w (.slice ua (ps[i]?.getD (0, [])).2.length uc) (ps[i]?.getD (0, [])).2
theorem Cache.at {w : World} {base n c : Nat} {a : Option Addr} {ps : List (Int × List Int)} {pb k : Nat → Nat} {u : Nat → Value} (h : Cache w base (.slice a n c) n (fun i => ps[i]?.getD (0, [])) pb k u) : AtC w a n ps := by
  intro i hi
  obtain ⟨g, cap, e, _, _, _, hrow⟩ := ownsRow_row h.own (by omega)
  simp only [Value.slice.injEq, true_and] at e
  obtain ⟨ua, uc, hu⟩ := h.sh i hi
  have hb := h.box i hi
  have b0 := hb.cell (i := 0) (by omega)
  have b1 := hb.cell (i := 1) (by omega)
  simp at b0 b1
  rw [hu] at b1
  have hio := (h.at' i hi).ints
  rw [hu] at hio
  refine ⟨g, pb i, ua, uc, e.1, ?_, b0, b1, hio⟩
  have := hrow.cell hi
  rw [this]
  simp [hi]

theorem atF_len {bs : List (List Int)} {ps : List (Int × List Int)} {x : Int} {M : Nat} (hz : ∀ k : Nat, (bs[k]?.getD []).length ≤ M) (hzp : ∀ k : Nat, (ps[k]?.getD (0, [])).2.length ≤ M) : (atF bs ps x).length ≤ M := by
  unfold atF
  generalize ps.length = n
  induction n with
  | zero => exact hz _
  | succ n ih =>
    by_cases h : (ps[n]?.getD (0, [])).1 = x
    · rw [atK_hit h]; exact hzp n
    · rw [atK_miss h]; exact ih

end Go.Proofs.Ytlohgnidbkechaa

namespace Go.Proofs.Ytlohgnidbkechaa
open Go.RowKit
set_option maxRecDepth 100000

/-- What is wrong of a disk that is to have a file system. -/
def sizF (d : DK) : Int := if faultF d.1 d.2 = 0 then (if d.1.length = 47 then 0 else 1) else faultF d.1 d.2
def superB (zs : List Int) : Bool := decide (zs.length = 2) && decide (zs[0]?.getD 0 = 7) && decide ((1 : Int) ≤ zs[1]?.getD 0 ∧ zs[1]?.getD 0 ≤ (60000 : Int))
def seqR (d : DK) : Int × Int := if sizF d = 0 then (if superB (atF d.1 d.2 0) = true then (0, (atF d.1 d.2 0)[1]?.getD 0) else (5, 0)) else (sizF d, 0)
theorem sizF_zero {d : DK} (h : sizF d = 0) : faultF d.1 d.2 = 0 ∧ d.1.length = 47 := by
  unfold sizF at h
  by_cases h1 : faultF d.1 d.2 = 0
  · rw [if_pos h1] at h
    by_cases h2 : d.1.length = 47
    · exact ⟨h1, h2⟩
    · rw [if_neg h2] at h; omega
  · rw [if_neg h1] at h; exact absurd h h1
theorem seqR_zero {d : DK} (h : (seqR d).1 = 0) : sizF d = 0 ∧ superB (atF d.1 d.2 0) = true ∧ (seqR d).2 = (atF d.1 d.2 0)[1]?.getD 0 := by
  unfold seqR at h ⊢
  by_cases h1 : sizF d = 0
  · rw [if_pos h1] at h ⊢
    by_cases h2 : superB (atF d.1 d.2 0) = true
    · rw [if_pos h2]; exact ⟨h1, h2, rfl⟩
    · rw [if_neg h2] at h; simp at h
  · rw [if_neg h1] at h; exact absurd h h1
theorem superB_in {zs : List Int} (h : superB zs = true) : zs.length = 2 ∧ zs[0]?.getD 0 = (7 : Int) ∧ (1 : Int) ≤ zs[1]?.getD 0 ∧ zs[1]?.getD 0 ≤ (60000 : Int) := by
  unfold superB at h
  simp only [Bool.and_eq_true, decide_eq_true_eq] at h
  exact ⟨h.1.1, h.1.2, h.2⟩

/-- A drive that is open: block bd leads to the disk d. -/
structure DrvK (w : World) (bd : Nat) (d : DK) : Prop where
  at' : ∃ aB cB aP cP, w.cell? ⟨bd, 0, none⟩ = some (.slice aB d.1.length cB) ∧ w.cell? ⟨bd, 1, none⟩ = some (.slice aP d.2.length cP) ∧ AtS w aB d.1.length d.1 ∧ AtC w aP d.2.length d.2
  g1 : d.1.length ≤ 60
  g2 : d.2.length ≤ 200
  hz : ∀ k : Nat, (d.1[k]?.getD []).length ≤ 1048576
  hzp : ∀ k : Nat, (d.2[k]?.getD (0, [])).2.length ≤ 1048576
theorem AtC.later {w w' : World} {a : Option Addr} {n : Nat} {ps : List (Int × List Int)} (h : AtC w a n ps) (hb : Below w.heap.size w w') : AtC w' a n ps := fun i hi => by
  obtain ⟨g, pb, ua, uc, e, c0, c1, c2, r⟩ := h i hi
  exact ⟨g, pb, ua, uc, e, cell_later hb c0, cell_later hb c1, cell_later hb c2, r.later hb⟩
theorem DrvK.later {w w' : World} {bd : Nat} {d : DK} (h : DrvK w bd d) (hb : Below w.heap.size w w') : DrvK w' bd d := by
  obtain ⟨aB, cB, aP, cP, c0, c1, h1, h2⟩ := h.at'
  exact ⟨⟨aB, cB, aP, cP, cell_later hb c0, cell_later hb c1, h1.later hb, h2.later hb⟩, h.g1, h.g2, h.hz, h.hzp⟩
theorem le_sumN (l : List Nat) (k : Nat) : l[k]?.getD 0 ≤ l.sum := by
  induction l generalizing k with
  | nil => simp
  | cons a l ih =>
    rw [List.sum_cons]
    cases k with
    | zero => simp
    | succ k => have := ih k; simp only [List.getElem?_cons_succ]; omega
theorem dsize_blk {d : DK} (hs : sizeDisk d ≤ 1048576) (k : Nat) : (d.1[k]?.getD []).length ≤ 1048576 := by
  have h1 := le_sumN (d.1.map List.length) k
  have h2 : (d.1.map List.length)[k]?.getD 0 = (d.1[k]?.getD []).length := by rw [List.getElem?_map]; cases d.1[k]? <;> rfl
  unfold sizeDisk dsize at hs
  omega
theorem dsize_put {d : DK} (hs : sizeDisk d ≤ 1048576) (k : Nat) : (d.2[k]?.getD (0, [])).2.length ≤ 1048576 := by
  have h1 := le_sumN (wlens d.2) k
  have h2 : (wlens d.2)[k]?.getD 0 = (d.2[k]?.getD (0, [])).2.length := by unfold wlens; rw [List.getElem?_map]; cases d.2[k]? <;> rfl
  unfold sizeDisk dsize at hs
  omega
end Go.Proofs.Ytlohgnidbkechaa

namespace Go.Proofs.Ytlohgnidbkechaa
open Go.RowKit
set_option maxRecDepth 100000

theorem rowVL (w : World) (vs : List Value) (t : TypeId) : OwnRow (w.alloc (.cells vs.toArray t)) w.heap.size vs.length (fun i => vs[i]?.getD (.int .i64 0)) := by
  refine ⟨_, t, Go.Deep.blk_alloc_new _ _, by simp, fun i hi => ?_⟩
  simp [hi]

def cel (vs : List Value) (i : Nat) : Value := vs[i]?.getD (.int .i64 0)
theorem newCel (w : World) (vs : List Value) (t : TypeId) : OwnRow (w.alloc (.cells vs.toArray t)) w.heap.size vs.length (cel vs) := rowVL w vs t
end Go.Proofs.Ytlohgnidbkechaa

namespace Go.Proofs.Ytlohgnidbkechaa
open Go.RowKit
set_option maxRecDepth 100000

def seqB (x : Int) : Bool := decide (1 ≤ x ∧ x ≤ 60000)
theorem isSeq_any (w : World) (x : Int) : Calls Try.prog 11 #[.int .i64 x] w fun e w' => e = .returned (.bool (seqB x)) ∧ w' = w := by
  by_cases h1 : 1 ≤ x
  · have HE : Hid (seqB x = decide (x ≤ 60000)) := by unfold Hid seqB; simp [h1]
    go_enter Try.func11, Try.ntmps11
    go_wp2
    go_ret
    exact ⟨ret_bool (by rw [HE.out]), rfl⟩
  · have HE : Hid (seqB x = false) := by unfold Hid seqB; simp [h1]
    have hd : decide (1 ≤ x) = false := by simpa using h1
    go_enter Try.func11, Try.ntmps11
    go_wp2
    go_ret
    exact ⟨ret_bool (by rw [HE.out]), rfl⟩
theorem l12Seq_any (w : World) (x : Int) : Calls Try.prog 9 #[.int .i64 x] w fun e w' => e = .returned (.bool (seqB x)) ∧ w' = w := by
  have HE : Hid ((decide (1 ≤ x) && decide (x ≤ 60000)) = seqB x) := by unfold Hid seqB; simp
  go_enter Try.func9, Try.ntmps9
  go_wp2_with fail
  refine (l1In_any _ _ _ _).mono ?_
  rintro e w1 ⟨rfl, rfl⟩
  go_wp2
  go_ret
  exact ⟨ret_bool HE.out, rfl⟩
theorem superB_two (z0 z1 : Int) : superB [z0, z1] = (decide (z0 = 7) && seqB z1) := by unfold superB seqB; simp
theorem superB_len {zs : List Int} (h : ¬ zs.length = 2) : superB zs = false := by unfold superB; simp [h]
theorem two_of {zs : List Int} (h : zs.length = 2) : ∃ z0 z1, zs = [z0, z1] := by
  match zs, h with
  | [a, b], _ => exact ⟨a, b, rfl⟩

end Go.Proofs.Ytlohgnidbkechaa

namespace Go.Proofs.Ytlohgnidbkechaa
open Go.RowKit
set_option maxRecDepth 100000

/-- A row of n elements that the call owns; element i is told by C i (u i), where u i is a list of its own in block k i. -/
structure LRow (C : Nat → Value → List Value) (w : World) (base lo : Nat) (e : TypeId) (size : Nat) (v : Value) (n : Nat) (f : Nat → List Int) (k : Nat → Nat) (u : Nat → Value) : Prop where
  own : w.ownsRow base e size v n ((List.range n).flatMap fun i => C i (u i))
  lo : ∀ i, i < n → lo ≤ k i ∧ k i < w.heap.size
  ne : ∀ i, i < n → v.ownBlock ≠ some (k i)
  inj : ∀ i j, i < n → j < n → i ≠ j → k i ≠ k j
  sh : ∀ i, i < n → ∃ a c, u i = .slice a (f i).length c
  at' : ∀ i, i < n → IntsO w (u i) (f i) (fun c => c = k i)

theorem LRow.nil {C : Nat → Value → List Value} (w : World) (base lo : Nat) (e : TypeId) (size : Nat) (f : Nat → List Int) : LRow C w base lo e size (.slice none 0 0) 0 f (fun _ => 0) (fun _ => .slice none 0 0) :=
  ⟨World.ownsRow_nil _ _ _ _, fun i hi => by omega, fun i hi => by omega, fun i j hi => by omega, fun i hi => by omega, fun i hi => by omega⟩
theorem LRow.keep {C : Nat → Value → List Value} {w w' : World} {base lo : Nat} {e : TypeId} {size : Nat} {v : Value} {n : Nat} {f : Nat → List Int} {k : Nat → Nat} {u : Nat → Value} (h : LRow C w base lo e size v n f k u) (hs : w.heap.size ≤ w'.heap.size)
    (hrow : ∀ g, v.ownBlock = some g → w'.heap[g]? = w.heap[g]?) (hk : ∀ i, i < n → w'.heap[k i]? = w.heap[k i]?) : LRow C w' base lo e size v n f k u := by
  refine ⟨?_, fun i hi => ⟨(h.lo i hi).1, Nat.lt_of_lt_of_le (h.lo i hi).2 hs⟩, h.ne, h.inj, h.sh, fun i hi => (h.at' i hi).keep fun b hb _ => by rw [hb]; exact hk i hi⟩
  obtain ⟨h1, h2⟩ := h.own
  refine ⟨h1, ?_⟩
  rcases h2 with h2 | ⟨g, cap, cur, hv, hg, hh, r⟩
  · exact Or.inl h2
  · exact Or.inr ⟨g, cap, cur, hv, hg, by rw [hrow g (by rw [hv]; rfl)]; exact hh, r⟩
theorem LRow.later {C : Nat → Value → List Value} {w w' : World} {base lo : Nat} {e : TypeId} {size : Nat} {v : Value} {n : Nat} {f : Nat → List Int} {k : Nat → Nat} {u : Nat → Value} (h : LRow C w base lo e size v n f k u) (hb : Below w.heap.size w w') : LRow C w' base lo e size v n f k u :=
  h.keep hb.size (fun g hg => hb.block g (h.own.lt g hg).2) (fun i hi => hb.block _ (h.lo i hi).2)
theorem LRow.store {C : Nat → Value → List Value} {w : World} {base lo : Nat} {e : TypeId} {size : Nat} {v : Value} {n : Nat} {f : Nat → List Int} {k : Nat → Nat} {u : Nat → Value} (h : LRow C w base lo e size v n f k u) {p : Addr} (h1 : p.block < base) (h2 : p.block < lo) (x : Value) : LRow C (w.setCell p x) base lo e size v n f k u :=
  h.keep (by simp [World.setCell]) (fun g hg => Below.heap_setCell _ _ _ _ (by have := (h.own.lt g hg).1; omega)) (fun i hi => Below.heap_setCell _ _ _ _ (by have := (h.lo i hi).1; omega))
theorem LRow.shape {C : Nat → Value → List Value} {w : World} {base lo : Nat} {e : TypeId} {size : Nat} {v : Value} {n : Nat} {f : Nat → List Int} {k : Nat → Nat} {u : Nat → Value} (h : LRow C w base lo e size v n f k u) : ∃ a c, v = .slice a n c := by
  rcases h.own.2 with ⟨rfl, rfl⟩ | ⟨g, c, cur, rfl, _⟩
  · exact ⟨_, _, rfl⟩
  · exact ⟨_, _, rfl⟩

/-- What 'append' of one element comes to. -/
theorem LRow.append {C : Nat → Value → List Value} (w w1 : World) (t ty e : TypeId) (i : TypeInfo) (z : Value) (size bytes : Nat) (ht : Try.prog.underlying t = some (.slice e)) (hi : Try.prog.info? e = some i) (hz : i.zero = some z) (hsize : i.size = size) (hby : i.bytes = bytes) (hzs : z.cells.size = size) (hsz : 0 < size) (hbb : bytes ≤ 1000)
    (base lo n : Nat) (v : Value) (f : Nat → List Int) (k : Nat → Nat) (u : Nat → Value) (h : LRow C w base lo e size v n f k u) (hb : base ≤ w.heap.size) (hn : n ≤ 100000) (hb1 : Below w.heap.size w w1)
    (a : Option Addr) (c : Nat) (hlen : (C n (.slice a (f n).length c)).length = size) (hone : ∀ x ∈ C n (.slice a (f n).length c), x.oneCell' = true) (kb : Nat) (hk1 : lo ≤ kb) (hk2 : kb < w1.heap.size) (hk3 : v.ownBlock ≠ some kb) (hk4 : ∀ i, i < n → k i ≠ kb) (hf : IntsO w1 (.slice a (f n).length c) (f n) (fun x => x = kb)) :
    ∃ g cap X, (Builtin.append_ #[t, t] ty #[v, .slice (some ⟨w1.heap.size, 0, none⟩) 1 1]).run Try.prog (w1.alloc (.cells (C n (.slice a (f n).length c)).toArray e)) = .ok (.slice (some ⟨g, 0, none⟩) (n + 1) cap) X ∧
      (∀ b, b < w1.heap.size → v.ownBlock ≠ some b → X.heap[b]? = w1.heap[b]?) ∧ Below base w X ∧ w1.heap.size < X.heap.size ∧
      LRow C X base lo e size (.slice (some ⟨g, 0, none⟩) (n + 1) cap) (n + 1) f (fun j => if j = n then kb else k j) (fun j => if j = n then .slice a (f n).length c else u j) := by
  have hsz1 := hb1.size
  have hbW : Below w.heap.size w (w1.alloc (.cells (C n (.slice a (f n).length c)).toArray e)) := hb1.trans ((later1 _ _).mono hb1.size)
  have hW := h.later hbW
  obtain ⟨g, cap, X, hr, ho, hg, hat, hgX⟩ := run_append_lies (P := Try.prog) (w1.alloc (.cells (C n (.slice a (f n).length c)).toArray e)) t ty base e i z size bytes ht hi hz hsize hby hzs hsz v n _ hW.own ⟨w1.heap.size, 0, none⟩ 1 1 (C n (.slice a (f n).length c)) (by rw [hlen, Nat.one_mul])
    (fun j x hx => by
      rw [add_plain', Nat.zero_add, new_cell]
      simpa using hx) hone (by decide) (by unfold maxLen; omega) (by have : (n + 1) * bytes ≤ 100001 * 1000 := Nat.mul_le_mul (by omega) hbb; omega) (by simp; omega) (w1.heap.size + 1) (by simp)
  have hrow : ∀ g, v.ownBlock = some g → g < w.heap.size := fun g hg => (h.own.lt g hg).2
  have hrowb : ∀ g, v.ownBlock = some g → base ≤ g := fun g hg => (h.own.lt g hg).1
  have hXb : ∀ b, b < w1.heap.size → v.ownBlock ≠ some b → X.heap[b]? = w1.heap[b]? := fun b hb' hne => (hg.block b (by simp; omega) (fun e => hne e.symm)).trans ((later1 _ _).block b hb')
  have hne : ∀ b, b < w1.heap.size → v.ownBlock ≠ some b → g ≠ b := by
    intro b hb' hb2 e
    subst e
    rcases hat with h | h
    · exact hb2 h
    · omega
  have old : ∀ b, b < w.heap.size → v.ownBlock ≠ some b → X.heap[b]? = w.heap[b]? := fun b hb' hne => (hXb b (by omega) hne).trans (hb1.block b hb')
  have hXs : w1.heap.size < X.heap.size := by have := hg.size; simp at this; omega
  refine ⟨g, cap, X, hr, hXb, (hbW.mono hb).trans (below_grown hg (by simp; omega) (fun g hg' => hrowb g hg')), hXs, ⟨?_, fun j hj => ?_, fun j hj => ?_, fun j j' hj hj' e => ?_, fun j hj => ?_, fun j hj => ?_⟩⟩
  · rw [List.range_succ, List.flatMap_append]
    have e1 : (List.range n).flatMap (fun i => C i (if i = n then .slice a (f n).length c else u i)) = (List.range n).flatMap (fun i => C i (u i)) := by
      have e0 : (List.range n).map (fun i => C i (if i = n then .slice a (f n).length c else u i)) = (List.range n).map (fun i => C i (u i)) := List.map_congr_left fun i hi => by rw [if_neg (by have := List.mem_range.1 hi; omega)]
      rw [List.flatMap_def, List.flatMap_def, e0]
    have e2 : [n].flatMap (fun i => C i (if i = n then .slice a (f n).length c else u i)) = C n (.slice a (f n).length c) := by simp only [List.flatMap_cons, List.flatMap_nil, List.append_nil, if_true]
    rw [e1, e2]
    exact ho
  · by_cases e : j = n
    · subst e; simp; omega
    · have := h.lo j (by omega); simp [e]; omega
  · by_cases e : j = n
    · subst e
      simp only [if_true]
      exact fun e => hne kb hk2 hk3 (by simpa [Value.ownBlock] using e)
    · have hj' : j < n := by omega
      have hl := h.lo j hj'
      simp only [e, if_false]
      exact fun e => hne (k j) (by omega) (h.ne j hj') (by simpa [Value.ownBlock] using e)
  · by_cases e1 : j = n
    · by_cases e2 : j' = n
      · omega
      · simp [e1, e2]; exact fun e => hk4 j' (by omega) e.symm
    · by_cases e2 : j' = n
      · simp [e1, e2]; exact hk4 j (by omega)
      · simp [e1, e2]; exact h.inj j j' (by omega) (by omega) e
  · by_cases e : j = n
    · subst e; exact ⟨a, c, by simp⟩
    · simp only [e, if_false]; exact h.sh j (by omega)
  · by_cases e : j = n
    · subst e
      simp only [if_true]
      exact hf.keep fun b hb' hlt' => by rw [hb']; exact hXb kb hk2 hk3
    · have hj' : j < n := by omega
      simp only [e, if_false]
      exact (h.at' j hj').keep fun b hb' hlt' => by rw [hb']; exact old _ (h.lo j hj').2 (h.ne j hj')

/-- The one block of a list that is fresh. -/
theorem IntsO.one {w w1 : World} {v : Value} {zs : List Int} (h : IntsO w1 v zs (fresh w w1)) (hlt : w.heap.size < w1.heap.size) : ∃ kb, w.heap.size ≤ kb ∧ kb < w1.heap.size ∧ IntsO w1 v zs (fun c => c = kb) := by
  rcases h with h | ⟨b, cap, hF, r⟩
  · exact ⟨w.heap.size, Nat.le_refl _, hlt, Or.inl h⟩
  · exact ⟨b, hF.1, hF.2, Or.inr ⟨b, cap, rfl, r⟩⟩

/-- A row of lists. -/
def C1 : Nat → Value → List Value := fun _ v => [v]
/-- A row of puts. -/
def C2 (f : Nat → Int) : Nat → Value → List Value := fun i v => [.int .i64 (f i), v]

theorem flat_len {C : Nat → Value → List Value} {size : Nat} (u : Nat → Value) (hC : ∀ i, (C i (u i)).length = size) (n : Nat) : ((List.range n).flatMap fun i => C i (u i)).length = n * size := by
  induction n with
  | zero => simp
  | succ n ih => rw [List.range_succ, List.flatMap_append, List.length_append, ih]; simp [hC, Nat.add_mul]
theorem flat_get {C : Nat → Value → List Value} {size : Nat} (_hsz : 0 < size) (u : Nat → Value) (hC : ∀ i, (C i (u i)).length = size) (n : Nat) : ∀ i j, i < n → j < size → ((List.range n).flatMap fun i => C i (u i))[i * size + j]? = (C i (u i))[j]? := by
  induction n with
  | zero => intro i j hi; omega
  | succ n ih =>
    intro i j hi hj
    have hl := flat_len u hC n
    rw [List.range_succ, List.flatMap_append]
    by_cases e : i = n
    · subst e
      rw [List.getElem?_append_right (by rw [hl]; omega), hl]
      simp
    · rw [List.getElem?_append_left (by rw [hl]; have : (i + 1) * size ≤ n * size := Nat.mul_le_mul_right _ (by omega); rw [Nat.add_mul] at this; omega)]
      exact ih i j (by omega) hj

/-- The cells of such a row. -/
theorem LRow.cells {C : Nat → Value → List Value} {w : World} {base lo : Nat} {e : TypeId} {size : Nat} {v : Value} {n : Nat} {f : Nat → List Int} {k : Nat → Nat} {u : Nat → Value} (h : LRow C w base lo e size v n f k u) (hsz : 0 < size) (hC : ∀ i, (C i (u i)).length = size) (hn : 0 < n) :
    ∃ g cap, v = .slice (some ⟨g, 0, none⟩) n cap ∧ base ≤ g ∧ g < w.heap.size ∧ n ≤ maxLen ∧ OwnRow w g (n * size) (fun c => (C (c / size) (u (c / size)))[c % size]?.getD undef) := by
  obtain ⟨hl, h2 | ⟨g, cap, cur, rfl, hb, hh, hnc, hcm, hcs, htake⟩⟩ := h.own
  · omega
  · have hle : n * size ≤ cap * size := Nat.mul_le_mul_right _ hnc
    refine ⟨g, cap, rfl, hb, (Array.getElem?_eq_some_iff.1 hh).1, by omega, cur, e, hh, by omega, fun c hc => ?_⟩
    have hd : c / size < n := by rw [Nat.div_lt_iff_lt_mul hsz]; exact hc
    have hm : c % size < size := Nat.mod_lt _ hsz
    have hg := flat_get hsz u hC n (c / size) (c % size) hd hm
    rw [Nat.div_add_mod'] at hg
    have h1 : ((List.range n).flatMap fun i => C i (u i))[c]? = cur[c]? := by rw [← htake, List.getElem?_take, if_pos hc, Array.getElem?_toList]
    rw [h1] at hg
    have hlt : c < cur.size := by omega
    show cur[c]? = some ((C (c / size) (u (c / size)))[c % size]?.getD undef)
    rw [← hg, Array.getElem?_eq_getElem hlt]; rfl

theorem LRow.intsS {w : World} {base lo : Nat} {e : TypeId} {v : Value} {n : Nat} {k : Nat → Nat} {u : Nat → Value} {zss : List (List Int)} (h : LRow C1 w base lo e 1 v n (fun i => zss[i]?.getD []) k u) (hn : zss.length = n) (F : Nat → Prop) (hF : ∀ c, base ≤ c → c < w.heap.size → F c) (hF' : ∀ c, lo ≤ c → c < w.heap.size → F c) : IntsSO w v zss F := by
  subst hn
  by_cases h0 : zss.length = 0
  · obtain ⟨a, c, rfl⟩ := h.shape
    exact Or.inl ⟨List.eq_nil_of_length_eq_zero h0, a, c, by rw [h0]⟩
  · obtain ⟨g, cap, rfl, hb, hg, hm, hrow⟩ := h.cells (by decide) (fun _ => rfl) (by omega)
    refine Or.inr ⟨g, cap, u, fun i c => i < zss.length ∧ c = k i, hF g hb hg, fun i c hc => ?_, fun i j c e h1 h2 => h.inj i j h1.1 h2.1 e (h1.2.symm.trans h2.2), rfl, hm, ?_, fun i hi => (h.at' i hi).mono fun c hc => ⟨hi, hc⟩⟩
    · have hl := h.lo i hc.1
      have hne := h.ne i hc.1
      rw [hc.2]
      exact ⟨hF' _ hl.1 hl.2, fun e => hne (by simp [Value.ownBlock, e])⟩
    · rw [Nat.mul_one] at hrow
      exact hrow.congr fun i hi => by simp [C1, Nat.mod_one]
theorem LRow.puts {w : World} {base lo : Nat} {e : TypeId} {v : Value} {n : Nat} {k : Nat → Nat} {u : Nat → Value} {ps : List (Int × List Int)} (h : LRow (C2 fun i => (ps[i]?.getD (0, [])).1) w base lo e 2 v n (fun i => (ps[i]?.getD (0, [])).2) k u) (hn : ps.length = n) (F : Nat → Prop) (hF : ∀ c, base ≤ c → c < w.heap.size → F c) (hF' : ∀ i, i < n → F (k i)) : PutsO w v ps F := by
  subst hn
  by_cases h0 : ps.length = 0
  · obtain ⟨a, c, rfl⟩ := h.shape
    exact Or.inl ⟨List.eq_nil_of_length_eq_zero h0, a, c, by rw [h0]⟩
  · obtain ⟨g, cap, rfl, hb, hg, hm, hrow⟩ := h.cells (by decide) (fun _ => rfl) (by omega)
    refine Or.inr ⟨g, cap, u, fun i c => i < ps.length ∧ c = k i, hF g hb hg, fun i c hc => ?_, fun i j c e h1 h2 => h.inj i j h1.1 h2.1 e (h1.2.symm.trans h2.2), rfl, hm, ?_, fun i hi => (h.at' i hi).mono fun c hc => ⟨hi, hc⟩⟩
    · have hne := h.ne i hc.1
      rw [hc.2]
      exact ⟨hF' i hc.1, fun e => hne (by simp [Value.ownBlock, e])⟩
    · refine hrow.congr fun c hc => ?_
      unfold putCell C2
      rcases Nat.mod_two_eq_zero_or_one c with h | h <;> simp [h]
end Go.Proofs.Ytlohgnidbkechaa
