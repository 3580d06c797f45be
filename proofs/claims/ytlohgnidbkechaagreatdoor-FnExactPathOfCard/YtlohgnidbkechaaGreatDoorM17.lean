/- A range over an iterator whose rounds own blocks: the iterator may range over itself. PathsOf, of the program: the iterator that ranges over itself. Texts that grow by a list of texts. -/
import Derived.Test.YtlohgnidbkechaaGreatDoorM01
import Derived.Test.YtlohgnidbkechaaGreatDoorM00
import Derived.Test.YtlohgnidbkechaaGreatDoorM15
import Derived.Test.YtlohgnidbkechaaGreatDoorM14
namespace Go.Proofs.YtlohgnidbkechaaGreatDoor
open Go.RowKit Go.Shelf
set_option maxRecDepth 100000

/-- What a caller owns between two rounds hangs on its own blocks alone. -/
def Stab {β : Type} (J : β → (Nat → Prop) → World → Prop) : Prop := ∀ s F W W', J s F W → Chg (fun b => ¬ F b) W W' → J s F W'
def Lts {β : Type} (J : β → (Nat → Prop) → World → Prop) : Prop := ∀ s F W, J s F W → ∀ b, F b → b < W.heap.size
/-- What is owned later was owned, or is new. -/
def NewF (F F' : Nat → Prop) (n : Nat) : Prop := ∀ b, F' b → F b ∨ n ≤ b
theorem NewF.refl (F : Nat → Prop) (n : Nat) : NewF F F n := fun _ h => Or.inl h
theorem NewF.trans {F G H : Nat → Prop} {n m : Nat} (h : NewF F G n) (k : NewF G H m) (hnm : n ≤ m) : NewF F H n := fun b hb => by
  rcases k b hb with h1 | h1
  · exact h b h1
  · exact Or.inr (Nat.le_trans hnm h1)
theorem Chg.step {F F' : Nat → Prop} {a b c : World} (h : Chg F a b) (hn : NewF F F' a.heap.size) (k : Chg F' b c) : Chg F a c :=
  ⟨k.os.trans h.os, k.tape.trans h.tape, k.output.trans h.output, Nat.le_trans h.size k.size, fun i hi hf => (k.block i (Nat.lt_of_lt_of_le hi h.size) (fun hg => by
    rcases hn i hg with h1 | h1
    · exact hf h1
    · omega)).trans (h.block i hi hf)⟩
theorem Chg.putObj {F : Nat → Prop} {w : World} {l : Nat} (h : F l) (o : Obj) : Chg F w (w.putObj l o) :=
  ⟨rfl, rfl, rfl, by simp, fun k _ hk => World.putObj_heap_other (fun e => hk (e ▸ h))⟩
theorem Chg.put1 (w : World) (l : Nat) (o : Obj) : Chg (fun b => b = l) w (w.putObj l o) := Chg.putObj (F := fun b => b = l) rfl o
/-- An iterator that tells xs, one behind the other, as long as it is let; it changes nothing but what is new. -/
def TellsP {α : Type} (P : Program) (g : Nat) (lb : Array Value) (encs : α → Array Value) (xs : List α) (F0 : Nat → Prop) (W : World) : Prop :=
  ∀ (l : Nat) (J Jx : List α → (Nat → Prop) → World → Prop), Stab J → Lts J → Stab Jx → Lts Jx → J [] F0 W →
    (∀ pre x F W1, J pre F W1 → Chg F0 W W1 → NewF F0 F W.heap.size → (pre ++ [x]) <+: xs → YieldAt Fence.wide 0 P l (encs x) W1 fun e W' => ∃ F', Chg F W1 W' ∧ NewF F F' W1.heap.size ∧
      ((e = .returned (.bool true) ∧ J (pre ++ [x]) F' W') ∨ (e = .returned (.bool false) ∧ Jx (pre ++ [x]) F' W'))) →
    CallsIn Fence.wide 0 P g (#[.func (.yield l) #[] #[]] ++ lb) W fun e W' => (∃ v, e = .returned v) ∧ ∃ F', Chg F0 W W' ∧ NewF F0 F' W.heap.size ∧ (J xs F' W' ∨ ∃ pre, pre <+: xs ∧ Jx pre F' W')
theorem RoundIn.wide {n m : Nat} {P : Program} {l k : Nat} {f : FuncId} {tmps : Array Value} {assign body : Code} {w : World} {R : Ending → World → Prop} (h : RoundIn Fence.wide n P l f tmps assign body w R) : RoundIn (Fence.wide.inRound k) m P l f tmps assign body w R :=
  ⟨trivial, fun c cs _ => h.2 c cs (room_wide _)⟩
theorem RoundIn.wide' {n m : Nat} {P : Program} {l : Nat} {f : FuncId} {tmps : Array Value} {assign body : Code} {w : World} {R : Ending → World → Prop} (h : RoundIn Fence.wide n P l f tmps assign body w R) : RoundIn Fence.wide m P l f tmps assign body w R :=
  ⟨trivial, fun c cs _ => h.2 c cs (room_wide _)⟩
/-- How a round may be left. -/
def ownPostT {α : Type} (I : List α → (Nat → Prop) → World → Prop) (Ix : Code → List α → (Nat → Prop) → World → Prop) (xs : List α) (F : Nat → Prop) (W : World) : Exit → Act → World → Prop
  | .normal, _, W' => ∃ F', Chg F W W' ∧ NewF F F' W.heap.size ∧ I xs F' W'
  | .ret, _, W' => ∃ F', Chg F W W' ∧ NewF F F' W.heap.size ∧ Ix .ret xs F' W'
  | .exit id, _, W' => ∃ F', Chg F W W' ∧ NewF F F' W.heap.size ∧ Ix (.exit id) xs F' W'
  | .goto t, _, W' => ∃ F', Chg F W W' ∧ NewF F F' W.heap.size ∧ Ix (.goto t) xs F' W'
  | .panic _, _, _ => False
  | .outgrown, _, _ => False
set_option maxHeartbeats 1600000 in
theorem wpIn_range_tells {P : Program} {α : Type} {g : Operand} {ps : Array Tmp} {assign body : Code} {Q : Exit → Act → World → Prop} {a : Act} {w : World} {n : Nat}
    {gf : Nat} {lb : Array Value} (hg : a.eval g = .func (.func gf) #[] lb) (eg : ∀ args w, (callFunc gf args).run P w = .ok (.enter gf args) w)
    {encs : α → Array Value} {xs : List α} (hps : ∀ x, (encs x).size = ps.size) (F0 : Nat → Prop)
    (hseq : ∀ W F1, Below w.heap.size w W → w.heap.size + 2 ≤ W.heap.size → (∀ b, F1 b ↔ F0 b ∨ b = w.heap.size ∨ b = w.heap.size + 1) → TellsP P gf lb encs xs F1 W)
    (I : List α → (Nat → Prop) → World → Prop) (Ix : Code → List α → (Nat → Prop) → World → Prop) (hI : Stab I) (hIl : Lts I) (hIx : ∀ c, Stab (Ix c)) (hIxl : ∀ c, Lts (Ix c)) (h0 : I [] F0 w) (a₁ : α → Act)
    (hassign : ∀ (l : Nat) (x : α) (W : World) (K : Act → World → Prop), K (a₁ x) W →
      assign.wpIn (Fence.wide.inRound l) 0 P (Exit.then K (fun _ _ _ => False)) { tmps := (ps.zip (encs x)).foldl (fun t (p, v) => t.setIfInBounds p v) a.tmps, defers := [] } W)
    (hbody : ∀ (l : Nat) (pre : List α) (x : α) (F : Nat → Prop) (W : World), I pre F W → Chg F0 w W → NewF F0 F w.heap.size → w.heap.size ≤ W.heap.size → (pre ++ [x]) <+: xs → body.wpIn (Fence.wide.inRound l) 0 P (ownPostT I Ix (pre ++ [x]) F W) (a₁ x) W)
    (hdone : ∀ (F : Nat → Prop) (W : World), I xs F W → Chg F0 w W → NewF F0 F w.heap.size → ¬ F w.heap.size → W.heap[w.heap.size]? = some (.deferred (some [])) → Q .normal { a with defers := { target := .collected w.heap.size, args := #[] } :: a.defers } W)
    (hstop : ∀ (c : Code) (pre : List α) (F : Nat → Prop) (W : World), pre <+: xs → Ix c pre F W → Chg F0 w W → NewF F0 F w.heap.size → ¬ F w.heap.size → W.heap[w.heap.size]? = some (.deferred (some [])) → c.wpIn Fence.wide n P Q { a with defers := { target := .collected w.heap.size, args := #[] } :: a.defers } W) :
    (Code.rangeFunc g ps assign body).wpIn Fence.wide n P Q a w := by
  refine wpIn_rangeFunc ?_
  intro fn hfn
  obtain ⟨rec, hrec⟩ : ∃ rec : LoopState → Option Code → Loop, rec = fun st pe => { state := st, pending := pe, fn, tmps := a.tmps, params := ps, assign, body, defers := w.heap.size } := ⟨_, rfl⟩
  obtain ⟨W1, hW1⟩ : ∃ W1, (w.alloc (.deferred (some []))).alloc (.loop (rec .ready none)) = W1 := ⟨_, rfl⟩
  have hL1 : W1.heap[w.heap.size + 1]? = some (.loop (rec .ready none)) := by
    rw [← hW1]; have := World.alloc_heap_new (w.alloc (.deferred (some []))) (.loop (rec .ready none)); rwa [World.size_alloc] at this
  have hK1 : W1.heap[w.heap.size]? = some (.deferred (some [])) := by
    rw [← hW1]; exact (Below.heap_alloc _ _ _ (by simp)).trans (World.alloc_heap_new w _)
  have hb1 : Below w.heap.size w W1 := by
    rw [← hW1]; exact ((Below.refl _ w).alloc (Nat.le_refl _) _).alloc (by simp) _
  have hsz1 : W1.heap.size = w.heap.size + 2 := by rw [← hW1]; simp
  have hF0 : ∀ b, F0 b → b < w.heap.size := hIl _ _ _ h0
  refine ⟨w.heap.size + 1, [{ target := .collected w.heap.size, args := #[] }], W1, { target := .fn (.func gf) lb, args := #[.func (.yield (w.heap.size + 1)) #[] #[]] }, W1, gf,
    #[.func (.yield (w.heap.size + 1)) #[] #[]] ++ lb, W1, ?_, ?_, ?_, ?_, fun h => by simp [Fence.wide] at h, ?_⟩
  · rw [← hW1, hrec]; exact run_enterLoop_outer _ _ _ _ _
  · simp only [resolve, hg]
    simp [go_sem]
  · intro f' _; trivial
  · simp [invoke, go_sem, eg]
  -- the caller's own blocks, with those of the loop
  obtain ⟨U, hU⟩ : ∃ U : (Nat → Prop) → Nat → Prop, U = fun F b => F b ∨ b = w.heap.size ∨ b = w.heap.size + 1 := ⟨_, rfl⟩
  have hUm : ∀ F b, F b → U F b := fun F b h => by rw [hU]; exact Or.inl h
  have hUd : ∀ F, U F w.heap.size := fun F => by rw [hU]; exact Or.inr (Or.inl rfl)
  have hUl : ∀ F, U F (w.heap.size + 1) := fun F => by rw [hU]; exact Or.inr (Or.inr rfl)
  have hUe : ∀ F b, U F b → F b ∨ b = w.heap.size ∨ b = w.heap.size + 1 := fun F b h => by rw [hU] at h; exact h
  have hUn : ∀ F F' m, w.heap.size + 2 ≤ m → NewF F F' m → NewF (U F) (U F') m := fun F F' m hm h b hb => by
    rcases hUe _ _ hb with h1 | h1 | h1
    · rcases h b h1 with h2 | h2
      · exact Or.inl (hUm _ _ h2)
      · exact Or.inr h2
    · subst h1; exact Or.inl (hUd _)
    · subst h1; exact Or.inl (hUl _)
  have call := hseq W1 (U F0) hb1 (by omega) (fun b => by rw [hU]) (w.heap.size + 1)
    (fun pre G W => ∃ F, G = U F ∧ ¬ F w.heap.size ∧ ¬ F (w.heap.size + 1) ∧ w.heap.size + 2 ≤ W.heap.size ∧ I pre F W ∧ W.heap[w.heap.size + 1]? = some (.loop (rec .ready none)) ∧ W.heap[w.heap.size]? = some (.deferred (some [])))
    (fun pre G W => ∃ F c, G = U F ∧ ¬ F w.heap.size ∧ ¬ F (w.heap.size + 1) ∧ w.heap.size + 2 ≤ W.heap.size ∧ Ix c pre F W ∧ W.heap[w.heap.size + 1]? = some (.loop (rec .done (some c))) ∧ W.heap[w.heap.size]? = some (.deferred (some [])))
    (fun s G W W' hs hc => by
      obtain ⟨F, rfl, h1, h2, h3, h4, h5, h6⟩ := hs
      exact ⟨F, rfl, h1, h2, Nat.le_trans h3 hc.size, hI _ _ _ _ h4 (hc.mono fun b hb hf => hb (hUm _ _ hf)), (hc.block _ (by omega) (fun hh => hh (hUl _))).trans h5, (hc.block _ (by omega) (fun hh => hh (hUd _))).trans h6⟩)
    (fun s G W hs b hb => by
      obtain ⟨F, rfl, h1, h2, h3, h4, h5, h6⟩ := hs
      rcases hUe _ _ hb with e | e | e
      · exact hIl _ _ _ h4 b e
      · omega
      · omega)
    (fun s G W W' hs hc => by
      obtain ⟨F, c, rfl, h1, h2, h3, h4, h5, h6⟩ := hs
      exact ⟨F, c, rfl, h1, h2, Nat.le_trans h3 hc.size, hIx _ _ _ _ _ h4 (hc.mono fun b hb hf => hb (hUm _ _ hf)), (hc.block _ (by omega) (fun hh => hh (hUl _))).trans h5, (hc.block _ (by omega) (fun hh => hh (hUd _))).trans h6⟩)
    (fun s G W hs b hb => by
      obtain ⟨F, c, rfl, h1, h2, h3, h4, h5, h6⟩ := hs
      rcases hUe _ _ hb with e | e | e
      · exact hIxl _ _ _ _ h4 b e
      · omega
      · omega)
    ⟨F0, rfl, fun h => by have := hF0 _ h; omega, fun h => by have := hF0 _ h; omega, by omega, hI _ _ _ _ h0 (Chg.of_below hb1), hL1, hK1⟩
    (by
      rintro pre x G W ⟨F, rfl, h1, h2, h3, h4, hl, hk⟩ hcG hnG hpre
      have hy := run_yield (P := P) (args := encs x) hl (by rw [hrec]; exact hps x)
      rw [hrec] at hy
      refine ⟨fn, _, assign, body, hy, roundIn_of_wpIn hfn (hassign _ x W _ ?_)⟩
      refine ⟨_, run_beginRound hl (by rw [hrec]), ?_⟩
      have hlt : w.heap.size + 1 < W.heap.size := by omega
      obtain ⟨W2, hW2⟩ : ∃ W2, W.putObj (w.heap.size + 1) (.loop { rec .ready none with state := .busy }) = W2 := ⟨_, rfl⟩
      have hc12 : Chg (fun b => b = w.heap.size + 1) W W2 := by rw [← hW2]; exact Chg.put1 _ _ _
      have hsz2 : W2.heap.size = W.heap.size := by rw [← hW2]; simp
      have hl2 : W2.heap[w.heap.size + 1]? = some (.loop { rec .ready none with state := .busy }) := by rw [← hW2]; exact World.putObj_heap_same hlt
      have hk2 : W2.heap[w.heap.size]? = some (.deferred (some [])) := (hc12.block _ (by omega) (by omega)).trans hk
      have hI2 : I pre F W2 := hI _ _ _ _ h4 (hc12.mono fun b hb hf => by subst hb; exact h2 hf)
      have hcW : Chg F0 w W := ⟨hcG.os.trans hb1.os, hcG.tape.trans hb1.tape, hcG.output.trans hb1.output, by have := hcG.size; omega, fun b hb hf => (hcG.block b (by omega) (fun hh => by
        rcases hUe _ _ hh with e | e | e
        · exact hf e
        · omega
        · omega)).trans (hb1.block b hb)⟩
      have hcW2 : Chg F0 w W2 := ⟨hc12.os.trans hcW.os, hc12.tape.trans hcW.tape, hc12.output.trans hcW.output, by have := hcW.size; omega, fun b hb hf => (hc12.block b (by omega) (by omega)).trans (hcW.block b hb hf)⟩
      have hnF : NewF F0 F w.heap.size := fun b hb => by
        rcases hnG b (hUm _ _ hb) with e | e
        · rcases hUe _ _ e with e | e | e
          · exact Or.inl e
          · exact Or.inr (by omega)
          · exact Or.inr (by omega)
        · exact Or.inr (by omega)
      rw [hW2]
      refine wpIn_mono (hbody _ pre x F W2 hI2 hcW2 hnF (by omega) hpre) ?_
      -- how the record stands behind the round
      have fin : ∀ (jump : Option Code) (F' : Nat → Prop) (W3 : World), Chg F W2 W3 → NewF F F' W2.heap.size →
          ∃ W4, (Instr.endRound (w.heap.size + 1) jump).run P W3 = .ok (.bool jump.isNone) W4 ∧ Chg (fun b => b = w.heap.size + 1) W3 W4 ∧
          ¬ F' w.heap.size ∧ ¬ F' (w.heap.size + 1) ∧ w.heap.size + 2 ≤ W4.heap.size ∧ Chg (U F) W W4 ∧ NewF (U F) (U F') W.heap.size ∧
          W4.heap[w.heap.size + 1]? = some (.loop (rec (if jump.isNone then .ready else .done) jump)) ∧ W4.heap[w.heap.size]? = some (.deferred (some [])) := fun jump F' W3 hc3 hn3 => by
        have hl3 : W3.heap[w.heap.size + 1]? = some (.loop { rec .ready none with state := .busy }) := (hc3.block _ (by omega) h2).trans hl2
        have hk3 : W3.heap[w.heap.size]? = some (.deferred (some [])) := (hc3.block _ (by omega) h1).trans hk2
        have hs3 := hc3.size
        have hr := run_endRound (P := P) jump hl3
        have hc34 : Chg (fun b => b = w.heap.size + 1) W3 (W3.putObj (w.heap.size + 1) (.loop (rec (if jump.isNone then .ready else .done) jump))) := Chg.put1 _ _ _
        refine ⟨_, by rw [hrec] at hr ⊢; exact hr, hc34, fun h => ?_, fun h => ?_, by simp; omega, ?_, ?_, World.putObj_heap_same (by omega), (hc34.block _ (by omega) (by omega)).trans hk3⟩
        · rcases hn3 _ h with e | e
          · exact h1 e
          · omega
        · rcases hn3 _ h with e | e
          · exact h2 e
          · omega
        · exact ((hc12.mono fun b hb => by subst hb; exact hUl _).trans (hc3.mono fun b hb => hUm _ _ hb)).trans (hc34.mono fun b hb => by subst hb; exact hUl _)
        · exact hUn _ _ _ (by omega) (by rw [hsz2] at hn3; exact hn3)
      rintro e a3 W3 hp
      cases e with
      | normal =>
        obtain ⟨F', hc3, hn3, hi3⟩ := hp
        obtain ⟨W4, hr, hc34, q1, q2, q3, q4, q5, q6, q7⟩ := fin none F' W3 hc3 hn3
        exact ⟨_, _, hr, U F', q4, q5, Or.inl ⟨rfl, F', rfl, q1, q2, q3, hI _ _ _ _ hi3 (hc34.mono fun b hb hf => by subst hb; exact q2 hf), q6, q7⟩⟩
      | ret =>
        obtain ⟨F', hc3, hn3, hi3⟩ := hp
        obtain ⟨W4, hr, hc34, q1, q2, q3, q4, q5, q6, q7⟩ := fin (some .ret) F' W3 hc3 hn3
        exact ⟨_, _, hr, U F', q4, q5, Or.inr ⟨rfl, F', _, rfl, q1, q2, q3, hIx _ _ _ _ _ hi3 (hc34.mono fun b hb hf => by subst hb; exact q2 hf), q6, q7⟩⟩
      | exit id =>
        obtain ⟨F', hc3, hn3, hi3⟩ := hp
        obtain ⟨W4, hr, hc34, q1, q2, q3, q4, q5, q6, q7⟩ := fin (some (.exit id)) F' W3 hc3 hn3
        exact ⟨_, _, hr, U F', q4, q5, Or.inr ⟨rfl, F', _, rfl, q1, q2, q3, hIx _ _ _ _ _ hi3 (hc34.mono fun b hb hf => by subst hb; exact q2 hf), q6, q7⟩⟩
      | goto t =>
        obtain ⟨F', hc3, hn3, hi3⟩ := hp
        obtain ⟨W4, hr, hc34, q1, q2, q3, q4, q5, q6, q7⟩ := fin (some (.goto t)) F' W3 hc3 hn3
        exact ⟨_, _, hr, U F', q4, q5, Or.inr ⟨rfl, F', _, rfl, q1, q2, q3, hIx _ _ _ _ _ hi3 (hc34.mono fun b hb hf => by subst hb; exact q2 hf), q6, q7⟩⟩
      | panic ch => exact hp.elim
      | outgrown => exact hp.elim)
  refine callsIn_wide.2 ((callsIn_wide.1 call).mono ?_)
  have leave : ∀ (G : Nat → Prop) (W2 : World), Chg (U F0) W1 W2 → Chg F0 w W2 := fun G W2 hc => ⟨hc.os.trans hb1.os, hc.tape.trans hb1.tape, hc.output.trans hb1.output, by have := hc.size; omega, fun b hb hf => (hc.block b (by omega) (fun hh => by
        rcases hUe _ _ hh with e | e | e
        · exact hf e
        · omega
        · omega)).trans (hb1.block b hb)⟩
  have newer : ∀ (F : Nat → Prop), NewF (U F0) (U F) W1.heap.size → NewF F0 F w.heap.size := fun F h b hb => by
    rcases h b (hUm _ _ hb) with e | e
    · rcases hUe _ _ e with e | e | e
      · exact Or.inl e
      · exact Or.inr (by omega)
      · exact Or.inr (by omega)
    · exact Or.inr (by omega)
  rintro e W2 ⟨⟨v, rfl⟩, G, hc, hn, (⟨F, rfl, q1, q2, q3, hi, hl, hk⟩ | ⟨pre, hpre, F, c, rfl, q1, q2, q3, hi, hl, hk⟩)⟩
  · have hr := run_endLoop (P := P) hl (by rw [hrec]; simp)
    have hce : Chg (fun b => b = w.heap.size + 1) W2 (W2.putObj (w.heap.size + 1) (.loop { rec .ready none with state := .exhausted })) := Chg.put1 _ _ _
    refine ⟨none, _, by rw [hrec] at hr; exact hr, ?_⟩
    have hcw := leave (U F) W2 hc
    have := hdone F _ (hI _ _ _ _ hi (hce.mono fun b hb hf => by subst hb; exact q2 hf)) ⟨hce.os.trans hcw.os, hce.tape.trans hcw.tape, hce.output.trans hcw.output, Nat.le_trans hcw.size hce.size, fun b hb hf => (hce.block b (by have := hcw.size; omega) (by omega)).trans (hcw.block b hb hf)⟩ (newer F hn) q1 ((hce.block _ (by omega) (by omega)).trans hk)
    rw [hrec] at this
    exact this
  · have hr := run_endLoop (P := P) hl (by rw [hrec]; simp)
    have hce : Chg (fun b => b = w.heap.size + 1) W2 (W2.putObj (w.heap.size + 1) (.loop { rec .done (some c) with state := .exhausted })) := Chg.put1 _ _ _
    refine ⟨some c, _, by rw [hrec] at hr; exact hr, ?_⟩
    have hcw := leave (U F) W2 hc
    have := hstop c pre F _ hpre (hIx _ _ _ _ _ hi (hce.mono fun b hb hf => by subst hb; exact q2 hf)) ⟨hce.os.trans hcw.os, hce.tape.trans hcw.tape, hce.output.trans hcw.output, Nat.le_trans hcw.size hce.size, fun b hb hf => (hce.block b (by have := hcw.size; omega) (by omega)).trans (hcw.block b hb hf)⟩ (newer F hn) q1 ((hce.block _ (by omega) (by omega)).trans hk)
    rw [hrec] at this
    exact this
abbrev markOf (D : Nat) : Deferred := { target := .collected D, args := #[] }
/-- A function leaves over the marks of its loops. -/
theorem leaves_marks {P : Program} {F : Fence} {n : Nat} {fn : Func} {tmps : Array Value} {R : Ending → World → Prop} : ∀ (ms : List Nat) (W : World), ms.Nodup → (∀ D ∈ ms, W.heap[D]? = some (.deferred (some []))) → (∀ W', Chg (fun b => b ∈ ms) W W' → LeavesIn F n P fn tmps R [] .returning W') → LeavesInM F n P fn tmps R (ms.map markOf) .returning W
  | [], W, _, _, h => h W (Chg.refl _ _)
  | D :: ms, W, hn, hd, h => by
    obtain ⟨h1, h2⟩ := List.nodup_cons.1 hn
    refine ⟨by simp, .inl ⟨D, _, rfl, run_takeDeferred (hd D (by simp)), leaves_marks ms _ h2 (fun E hE => ?_) (fun W' hc => h W' ?_)⟩⟩
    · exact (World.putObj_heap_other (k := E) (fun e => h1 (by subst e; exact hE))).trans (hd E (by simp [hE]))
    · exact ((Chg.put1 _ _ _).mono fun b hb => by subst hb; simp).trans (hc.mono fun b hb => by simp [hb])
end Go.Proofs.YtlohgnidbkechaaGreatDoor

namespace Go.Proofs.YtlohgnidbkechaaGreatDoor
open Go.RowKit Go.Shelf
set_option maxRecDepth 100000
attribute [local go_sem] Oper.semAt_some

theorem pathsBelow_any (w : World) (aL : Option Addr) (nL cL : Nat) (t k : Int) (s : ByteArray) : Calls Tryz.prog 66 #[.slice aL nL cL, .int .i64 t, .string s, .int .i64 k] w fun e w' => e = .returned (.func (.func 99) #[] #[.pointer (some ⟨w.heap.size + 3, 0, none⟩), .pointer (some ⟨w.heap.size, 0, none⟩), .pointer (some ⟨w.heap.size + 1, 0, none⟩), .pointer (some ⟨w.heap.size + 2, 0, none⟩)]) ∧ Below w.heap.size w w' ∧ w'.heap.size = w.heap.size + 4 ∧ w'.cell? ⟨w.heap.size + 3, 0, none⟩ = some (.int .i64 k) ∧ w'.cell? ⟨w.heap.size, 0, none⟩ = some (.slice aL nL cL) ∧ w'.cell? ⟨w.heap.size + 1, 0, none⟩ = some (.int .i64 t) ∧ w'.cell? ⟨w.heap.size + 2, 0, none⟩ = some (.string s) := by
  go_enter Tryz.func66, Tryz.ntmps66
  go_wp2
  go_ret
  refine ⟨rfl, ((((Below.refl _ w).alloc (Nat.le_refl _) _).alloc (by simp) _).alloc (by simp; omega) _).alloc (by simp; omega) _, by simp, ?_, ?_, ?_, ?_⟩ <;> simp [go_sem]
theorem chg_cellP {F : Nat → Prop} {w w' : World} (h : Chg F w w') {b o : Nat} {v : Value} (hv : w.cell? ⟨b, o, none⟩ = some v) (hf : ¬ F b) : w'.cell? ⟨b, o, none⟩ = some v := (h.cell (a := ⟨b, o, none⟩) (World.block_lt_of_cell? _ _ hv) hf).trans hv
/-- A path as it is told. -/
abbrev encP (s : List UInt8) : Array Value := #[.string (mkB s)]
set_option maxRecDepth 100000 in
set_option maxHeartbeats 6400000 in
theorem below1_tells (w0 : World) (aL : Option Addr) (nL cL : Nat) (ds : List ID) (hdn : ds.length = nL) (hr : inRange ds) (hins : insF ds = 0) (h6 : ∀ i : Nat, (ds[i]?.getD id0).2.2.2.2.length ≤ 6) (hAI : AtI w0 aL nL ds) :
    ∀ (k : Nat), k ≤ 6 → ∀ (t : Nat) (ah : List UInt8), t < nL → ah.length + 5 * k ≤ 30 → ∀ (W : World) (F0 : Nat → Prop) (Bd Bl Ba Bp : Nat), Below w0.heap.size w0 W → (∀ b, F0 b → w0.heap.size ≤ b) →
      W.cell? ⟨Bd, 0, none⟩ = some (.int .i64 ((6 - k : Nat) : Int)) → W.cell? ⟨Bl, 0, none⟩ = some (.slice aL nL cL) → W.cell? ⟨Ba, 0, none⟩ = some (.int .i64 (t : Int)) → W.cell? ⟨Bp, 0, none⟩ = some (.string (mkB ah)) →
      ¬ F0 Bd → ¬ F0 Bl → ¬ F0 Ba → ¬ F0 Bp → Bd < W.heap.size → Bl < W.heap.size → Ba < W.heap.size → Bp < W.heap.size →
      TellsP Tryz.prog 99 #[.pointer (some ⟨Bd, 0, none⟩), .pointer (some ⟨Bl, 0, none⟩), .pointer (some ⟨Ba, 0, none⟩), .pointer (some ⟨Bp, 0, none⟩)] encP (belL ds k ah t) F0 W := by
  intro k
  induction k with
  | zero =>
    intro _ t ah ht _ W F0 Bd Bl Ba Bp hbW hF0 cd cl ca cp nd nl na np ld ll la lp l J Jx hJ hJl hJx hJxl h0 hY
    refine callsIn_of_wp_marks Tryz.func99 rfl trivial ?_ rfl
    simp only [Tryz.ntmps99, List.size_toArray, List.length_cons, List.length_nil, Nat.reduceAdd, Nat.reduceSub, Array.replicate_succ, Array.replicate_zero, List.push_toArray, List.append_toArray, List.nil_append, List.cons_append]
    have HJ0 : Hid (∀ W', Below W.heap.size W W' → J [] F0 W') := fun W' hb => hJ _ _ _ _ h0 (Chg.of_below hb)
    have HCG : Hid (∀ W', Below W.heap.size W W' → Chg F0 W W') := fun W' hb => Chg.of_below hb
    have HL : Hid (belL ds 0 ah t = []) := rfl
    rw [HL.out]
    clear hY hJ hJl hJx hJxl h0 hAI
    gi_wp2
    exact ⟨_, results_none rfl _ _ _, ⟨_, rfl⟩, F0, HCG.out _ (later1 _ _), NewF.refl _ _, Or.inl (HJ0.out _ (later1 _ _))⟩
  | succ k ih =>
    intro hk6 t ah ht hah W F0 Bd Bl Ba Bp hbW hF0 cd cl ca cp nd nl na np ld ll la lp l J Jx hJ hJl hJx hJxl h0 hY
    refine callsIn_of_wp_marks Tryz.func99 rfl trivial ?_ rfl
    simp only [Tryz.ntmps99, List.size_toArray, List.length_cons, List.length_nil, Nat.reduceAdd, Nat.reduceSub, Array.replicate_succ, Array.replicate_zero, List.push_toArray, List.append_toArray, List.nil_append, List.cons_append]
    obtain ⟨D6, hD6⟩ : ∃ D6 : Nat, 6 - (k + 1) = D6 := ⟨_, rfl⟩
    rw [hD6] at cd
    have hd6 : ((D6 : Int) == 6) = false := by simp; omega
    have hd7 : (D6 : Int) + 1 = ((6 - k : Nat) : Int) := by omega
    have HAI : Hid (AtI w0 aL nL ds) := hAI
    obtain ⟨b0, o0, rfl, hIt⟩ := hAI t ht
    obtain ⟨aB, cB, aE, cE, -, -, -, -, c4, h5⟩ := hIt
    obtain ⟨_, _, e3, -, -, hEt⟩ := h5.2.2.open'
    simp only [Value.slice.injEq] at e3
    obtain ⟨rfl, -, rfl⟩ := e3
    have HC4 : Hid (_ = _) := c4
    have c4W := cell_later hbW c4
    have hb0 : b0 < W.heap.size := lt_of_cell c4W
    have HEN : Hid (AtN w0 aE (ds[t]?.getD id0).2.2.2.2.length (ds[t]?.getD id0).2.2.2.2) := hEt
    have HY : Hid (∀ pre x F W1, J pre F W1 → Chg F0 W W1 → NewF F0 F W.heap.size → (pre ++ [x]) <+: belL ds (k + 1) ah t → YieldAt Fence.wide 0 Tryz.prog l (encP x) W1 fun e W' => ∃ F', Chg F W1 W' ∧ NewF F F' W1.heap.size ∧ ((e = .returned (.bool true) ∧ J (pre ++ [x]) F' W') ∨ (e = .returned (.bool false) ∧ Jx (pre ++ [x]) F' W'))) := hY
    have HIH : Hid (∀ (u : Nat) (p : List UInt8), u < nL → p.length + 5 * k ≤ 30 → ∀ (W : World) (F0 : Nat → Prop) (Bd Bl Ba Bp : Nat), Below w0.heap.size w0 W → (∀ b, F0 b → w0.heap.size ≤ b) →
      W.cell? ⟨Bd, 0, none⟩ = some (.int .i64 ((6 - k : Nat) : Int)) → W.cell? ⟨Bl, 0, none⟩ = some (.slice (some ⟨b0, o0, none⟩) nL cL) → W.cell? ⟨Ba, 0, none⟩ = some (.int .i64 (u : Int)) → W.cell? ⟨Bp, 0, none⟩ = some (.string (mkB p)) →
      ¬ F0 Bd → ¬ F0 Bl → ¬ F0 Ba → ¬ F0 Bp → Bd < W.heap.size → Bl < W.heap.size → Ba < W.heap.size → Bp < W.heap.size →
      TellsP Tryz.prog 99 #[.pointer (some ⟨Bd, 0, none⟩), .pointer (some ⟨Bl, 0, none⟩), .pointer (some ⟨Ba, 0, none⟩), .pointer (some ⟨Bp, 0, none⟩)] encP (belL ds k p u) F0 W) := ih (by omega)
    have HJ : Hid (Stab J) := hJ
    have HJL : Hid (Lts J) := hJl
    have HJX : Hid (Stab Jx) := hJx
    have HJXL : Hid (Lts Jx) := hJxl
    have HBW : Hid (Below w0.heap.size w0 W) := hbW
    have HF0 : Hid (∀ b, F0 b → w0.heap.size ≤ b) := hF0
    have htI : (t : Int) < (nL : Int) := by omega
    have HRNG : Hid (∀ q, q < (ds[t]?.getD id0).2.2.2.2.length → ∃ u : Nat, ((ds[t]?.getD id0).2.2.2.2[q]?.getD en0).2 = (u : Int) ∧ u < nL) := fun q hq => by rw [← hdn]; exact rng_nat hr (by rw [hdn]; exact ht) hq
    have HFOUR : Hid (∀ q, q < (ds[t]?.getD id0).2.2.2.2.length → ((ds[t]?.getD id0).2.2.2.2[q]?.getD en0).1.toList.length ≤ 4) := fun q hq => ents_four hins (by rw [hdn]; exact ht) hq
    have HSUC : Hid (∀ q, q < (ds[t]?.getD id0).2.2.2.2.length → ∀ y : Nat, ((ds[t]?.getD id0).2.2.2.2[q]?.getD en0).2 = (y : Int) → belK ds k ah t (q + 1) = belK ds k ah t q ++ [ah ++ 47 :: ((ds[t]?.getD id0).2.2.2.2[q]?.getD en0).1.toList] ++ belL ds k (ah ++ 47 :: ((ds[t]?.getD id0).2.2.2.2[q]?.getD en0).1.toList) y) := fun q hq y hy => by
      rw [belK_succ hq, hy, Int.toNat_natCast, List.append_assoc]; rfl
    have HPRE : Hid (∀ q, belK ds k ah t q <+: belL ds (k + 1) ah t) := fun q => belK_pre
    have HALL : Hid (belK ds k ah t (ds[t]?.getD id0).2.2.2.2.length = belL ds (k + 1) ah t) := belK_all ds k ah t
    have HAH : Hid (ah.length + 5 * (k + 1) ≤ 30) := hah
    have HZ : Hid (belK ds k ah t 0 = []) := belK_zero _ _ _ _
    have HCELLS : Hid (∀ wr, Chg F0 W wr → wr.cell? ⟨Bd, 0, none⟩ = some (.int .i64 (D6 : Int)) ∧ wr.cell? ⟨Bl, 0, none⟩ = some (.slice (some ⟨b0, o0, none⟩) nL cL) ∧ wr.cell? ⟨Bp, 0, none⟩ = some (.string (mkB ah))) := fun wr hc => ⟨(hc.cell ld nd).trans cd, (hc.cell ll nl).trans cl, (hc.cell lp np).trans cp⟩
    have hE6 := h6 t
    have HJ0 : Hid (J [] F0 W) := h0
    clear hY ih h5 hEt hAI c4 hJ hJl hJx hJxl hbW hF0 h6 hins hr h0 hah
    generalize (ds[t]?.getD id0).2.2.2.2 = es at *
    generalize hnn : es.length = nE at *
    clear hnn
    gi_wp2
    generalize hW0 : World.alloc W (Obj.cells #[Value.func (Fn.yield l) #[] #[]] 133) = W0
    have hs0 : W0.heap.size = W.heap.size + 1 := by rw [← hW0]; simp
    have hb00 : Below W.heap.size W W0 := by rw [← hW0]; exact later1 _ _
    have hy0 : W0.cell? ⟨W.heap.size, 0, none⟩ = some (.func (.yield l) #[] #[]) := by rw [← hW0]; simp [go_sem]
    have hF0l : ∀ b, F0 b → b < W.heap.size := HJL.out _ _ _ HJ0.out
    clear c4W cd cl ca cp
    refine wpIn_loop (fun a wr => ∃ (q : Nat) (F : Nat → Prop) (ms : List Nat) (x7 x8 x9 x19 x20 x21 x22 x23 x24 x25 x26 x27 x28 x29 x30 x31 x32 x33 x34 x35 x36 x37 x38 x39 x40 x41 x42 x43 : Value), a = { tmps := #[.func (.yield l) #[] #[], .pointer (some ⟨Bd, 0, none⟩), .pointer (some ⟨Bl, 0, none⟩), .pointer (some ⟨Ba, 0, none⟩), .pointer (some ⟨Bp, 0, none⟩), .pointer (some ⟨W.heap.size, 0, none⟩), undef, x7, x8, x9, .int .i64 (D6 : Int), .bool false, .slice (some ⟨b0, o0, none⟩) nL cL, .int .i64 (t : Int), .pointer (some ⟨b0, o0 + t * 5, none⟩), .pointer (some ⟨b0, o0 + t * 5 + 4, none⟩), .slice aE nE cE, .int .i64 (nE : Int), .int .i64 (q : Int), x19, x20, x21, x22, x23, x24, x25, x26, x27, x28, x29, x30, x31, x32, x33, x34, x35, x36, x37, x38, x39, x40, x41, x42, x43], defers := ms.map markOf } ∧ q ≤ nE ∧ J (belK ds k ah t q) F wr ∧ Chg F0 W wr ∧ NewF F0 F (W.heap.size + 1) ∧ W.heap.size + 1 ≤ wr.heap.size ∧ wr.cell? ⟨W.heap.size, 0, none⟩ = some (.func (.yield l) #[] #[]) ∧ ms.Nodup ∧ (∀ D ∈ ms, W.heap.size < D ∧ D < wr.heap.size ∧ ¬ F D ∧ wr.heap[D]? = some (.deferred (some [])))) (fun a _ => nE - (intOf (a.tmps.getD 18 undef)).toNat)
      ⟨0, F0, [], _, _, _, _, _, _, _, _, _, _, _, _, _, _, _, _, _, _, _, _, _, _, _, _, _, _, _, _, rfl, Nat.zero_le _, by rw [HZ.out]; exact HJ.out _ _ _ _ HJ0.out (Chg.of_below hb00), Chg.of_below hb00, NewF.refl _ _, by omega, hy0, List.nodup_nil, fun D hD => by cases hD⟩ ?_
    clear hy0 hb00 hs0 hW0 W0
    rintro a wr ⟨q, F, ms, x7, x8, x9, x19, x20, x21, x22, x23, x24, x25, x26, x27, x28, x29, x30, x31, x32, x33, x34, x35, x36, x37, x38, x39, x40, x41, x42, x43, rfl, hq, hJq, hc, hnf, hsz, hyc, hnd, hms⟩
    have HJQ : Hid (J (belK ds k ah t q) F wr) := hJq
    have HCW : Hid (Chg F0 W wr) := hc
    have HNF : Hid (NewF F0 F (W.heap.size + 1)) := hnf
    have HSZ : Hid (W.heap.size + 1 ≤ wr.heap.size) := hsz
    have HYC : Hid (wr.cell? ⟨W.heap.size, 0, none⟩ = some (.func (.yield l) #[] #[])) := hyc
    have HND : Hid (ms.Nodup) := hnd
    have HMS : Hid (∀ D ∈ ms, W.heap.size < D ∧ D < wr.heap.size ∧ ¬ F D ∧ wr.heap[D]? = some (.deferred (some []))) := hms
    have HFL : Hid (∀ b, F b → b < wr.heap.size) := HJL.out _ _ _ hJq
    have HBWR : Hid (Below w0.heap.size w0 wr) := HBW.out.trans (hc.below HBW.out.size HF0.out)
    clear hJq hc hnf hsz hnd hms hyc
    by_cases hlt : q < nE
    rotate_left
    · obtain rfl : q = nE := by omega
      rw [HALL.out] at HJQ
      have hx1 : decide ((q : Int) < (q : Int)) = false := by simp
      gi_wp2
      refine leaves_marks ms wr HND.out (fun D hD => (HMS.out D hD).2.2.2) (fun W' hc' => ⟨_, results_none rfl _ _ _, ⟨_, rfl⟩, F, ?_, ?_, Or.inl (HJ.out _ _ _ _ HJQ.out (hc'.mono fun b hb => (HMS.out b hb).2.2.1))⟩)
      · exact ⟨hc'.os.trans HCW.out.os, hc'.tape.trans HCW.out.tape, hc'.output.trans HCW.out.output, Nat.le_trans HCW.out.size hc'.size, fun b hb hf => (hc'.block b (by have := HSZ.out; omega) (fun hm => by have := (HMS.out b hm).1; omega)).trans (HCW.out.block b hb hf)⟩
      · exact fun b hb => by rcases HNF.out b hb with e | e
                             · exact Or.inl e
                             · exact Or.inr (by omega)
    · obtain ⟨b1, o1, rfl, d0, d1⟩ := HEN.out q hlt
      obtain ⟨u, hu, hul⟩ := HRNG.out q hlt
      have h4 := HFOUR.out q hlt
      have HS := HSUC.out q hlt u hu
      rw [hu] at d1
      have HMB : Hid (mkB (es[q]?.getD en0).1.toList = (es[q]?.getD en0).1) := mkB_of _
      rw [← HMB.out] at d0
      generalize (es[q]?.getD en0).1.toList = nm at *
      clear HMB hu
      obtain ⟨p, hp⟩ : ∃ p, ah ++ 47 :: nm = p := ⟨_, rfl⟩
      rw [hp] at HS
      have HSS : Hid (belK ds k ah t (q + 1) = belK ds k ah t q ++ [p] ++ belL ds k p u) := HS
      have hpl : p.length + 5 * k ≤ 30 := by rw [← hp]; have := HAH.out; simp; omega
      have hah30 : ah.length ≤ 30 := by have := HAH.out; omega
      have z1 : (9223372036854775807 < (mkB ah).size + (mkB [47]).size) = False := by rw [mkB_size, mkB_size]; simp; omega
      have z2 : (9223372036854775807 < (mkB ah ++ mkB [47]).size + (mkB nm).size) = False := by rw [mkB_app, mkB_size, mkB_size]; simp; omega
      have z3 : (9223372036854775807 < (mkB ah).size + (mkB [47]).size + (mkB nm).size) = False := by rw [mkB_size, mkB_size, mkB_size]; simp; omega
      have hE : mkB ah ++ mkB [47] ++ mkB nm = mkB p := by rw [← hp, mkB_app, mkB_app, List.append_assoc]; rfl
      have hs47 : (⟨#[47]⟩ : ByteArray) = mkB [47] := rfl
      have e0 := cell_later HBWR.out d0
      have e1 := cell_later HBWR.out d1
      obtain ⟨q1, q2, q3⟩ := HCELLS.out wr HCW.out
      have hyc := HYC.out
      have l1 : b1 < wr.heap.size := lt_of_cell e0
      have l2 : Bd < wr.heap.size := lt_of_cell q1
      have l3 : Bl < wr.heap.size := lt_of_cell q2
      have l4 : Bp < wr.heap.size := lt_of_cell q3
      have l5 : W.heap.size < wr.heap.size := lt_of_cell hyc
      obtain ⟨V, hV⟩ : ∃ V, V = wr.alloc (.cells #[.string (mkB nm), .int .i64 (u : Int)] 97) := ⟨_, rfl⟩
      have hVb : Below wr.heap.size wr V := by rw [hV]; exact later1 _ _
      have hVs : V.heap.size = wr.heap.size + 1 := by rw [hV]; simp
      have hVe : V.cell? ⟨wr.heap.size, 1, none⟩ = some (.int .i64 (u : Int)) := by rw [hV]; simp [go_sem]
      have hVn : V.cell? ⟨wr.heap.size, 0, none⟩ = some (.string (mkB nm)) := by rw [hV]; simp [go_sem]
      have hJV : J (belK ds k ah t q) F V := HJ.out _ _ _ _ HJQ.out (Chg.of_below hVb)
      have hcV : Chg F0 W V := HCW.out.trans (Chg.of_below hVb)
      have hpre1 : (belK ds k ah t q ++ [p]) <+: belL ds (k + 1) ah t := by
        refine List.IsPrefix.trans ⟨belL ds k p u, HSS.out.symm⟩ (HPRE.out (q + 1))
      have hnfW : NewF F0 F W.heap.size := fun b hb => by
        rcases HNF.out b hb with e | e
        · exact Or.inl e
        · exact Or.inr (by omega)
      obtain ⟨fn, tmps, assign, body, hy, hR⟩ := HY.out (belK ds k ah t q) p F V hJV hcV hnfW hpre1
      dsimp only [encP] at hy
      have HRR : Hid (RoundIn Fence.wide 0 Tryz.prog l fn tmps assign body V _) := hR
      have HVB : Hid (Below wr.heap.size wr V) := hVb
      have HVE : Hid (V.cell? ⟨wr.heap.size, 1, none⟩ = some (.int .i64 (u : Int))) := hVe
      have HCV : Hid (Chg F0 W V) := hcV
      have HVS : Hid (V.heap.size = wr.heap.size + 1) := hVs
      clear hR hVb hVs hVe hVn hJV hcV HS HSUC HFOUR HRNG h4 hnfW
      subst hV
      gi_wp2
      refine ⟨rfl, HRR.out.mono ?_⟩
      rintro e W3 ⟨F', hcF, hnF, hend⟩
      have hnfW : NewF F0 F W.heap.size := fun b hb => by
        rcases HNF.out b hb with e | e
        · exact Or.inl e
        · exact Or.inr (by omega)
      have HCW3 : Hid (Chg F0 W W3) := HCV.out.step hnfW hcF
      have HNF3 : Hid (NewF F0 F' (W.heap.size + 1)) := HNF.out.trans hnF (by rw [HVS.out]; have := HSZ.out; omega)
      have HMS3 : Hid (∀ D ∈ ms, W.heap.size < D ∧ D < W3.heap.size ∧ ¬ F' D ∧ W3.heap[D]? = some (.deferred (some []))) := fun D hD => by
        obtain ⟨m1, m2, m3, m4⟩ := HMS.out D hD
        refine ⟨m1, ?_, fun h => ?_, ?_⟩
        · have h1 := hcF.size
          have h2 := HVB.out.size
          omega
        · rcases hnF D h with h1 | h1
          · exact m3 h1
          · rw [HVS.out] at h1; omega
        · exact (hcF.block D (by rw [HVS.out]; omega) m3).trans ((HVB.out.block D m2).trans m4)
      have HPRE1 : Hid ((belK ds k ah t q ++ [p]) <+: belL ds (k + 1) ah t) := hpre1
      have HSZ3 : Hid (wr.heap.size + 1 ≤ W3.heap.size) := by have h1 := hcF.size; rw [HVS.out] at h1; exact h1
      have Y3 : W3.cell? ⟨W.heap.size, 0, none⟩ = some (.func (.yield l) #[] #[]) := by
        refine chg_cellP hcF (cell_later HVB.out hyc) (fun h => ?_)
        rcases HNF.out _ h with h1 | h1
        · have := hF0l _ h1; omega
        · omega
      have E3 : W3.cell? ⟨wr.heap.size, 1, none⟩ = some (.int .i64 (u : Int)) := by
        refine chg_cellP hcF HVE.out (fun h => ?_)
        have := HFL.out _ h; omega
      obtain ⟨r1, r2, r3⟩ := HCELLS.out W3 HCW3.out
      have HHY : Hid (wr.cell? ⟨W.heap.size, 0, none⟩ = some (.func (.yield l) #[] #[])) := hyc
      clear hcF hnF hnfW hpre1 hyc hy q1 q2 q3 e0 e1 HRR HVE HVB HCV HVS l1 l2 l3 l4 l5 d0 d1 HYC
      have HEND : Hid _ := hend
      clear hend
      rcases HEND.out with ⟨rfl, hJ3⟩ | ⟨rfl, hJx3⟩
      rotate_left
      · have HX3 : Hid (Jx (belK ds k ah t q ++ [p]) F' W3) := hJx3
        clear hJx3 HEND
        gi_wp2
        refine leaves_marks ms W3 HND.out (fun D hD => (HMS3.out D hD).2.2.2) (fun W' hc' => ⟨_, results_none rfl _ _ _, ⟨_, rfl⟩, F', ?_, ?_, Or.inr ⟨_, HPRE1.out, HJX.out _ _ _ _ HX3.out (hc'.mono fun b hb => (HMS3.out b hb).2.2.1)⟩⟩)
        · exact ⟨hc'.os.trans HCW3.out.os, hc'.tape.trans HCW3.out.tape, hc'.output.trans HCW3.out.output, Nat.le_trans HCW3.out.size hc'.size, fun b hb hf => (hc'.block b (by have := HSZ.out; have := HSZ3.out; omega) (fun hm => by have := (HMS3.out b hm).1; omega)).trans (HCW3.out.block b hb hf)⟩
        · exact fun b hb => by rcases HNF3.out b hb with e | e
                               · exact Or.inl e
                               · exact Or.inr (by omega)
      · have HJ3 : Hid (J (belK ds k ah t q ++ [p]) F' W3) := hJ3
        clear hJ3 HEND HJQ HCW HMS HNF
        have l1 : W.heap.size < W3.heap.size := lt_of_cell Y3
        have l2 : Bd < W3.heap.size := lt_of_cell r1
        have l3 : Bl < W3.heap.size := lt_of_cell r2
        have l4 : wr.heap.size < W3.heap.size := lt_of_cell E3
        gi_wp2
        refine ⟨trivial, rfl, callsIn_wide.2 ((pathsBelow_any W3 (some ⟨b0, o0, none⟩) nL cL u ((6 - k : Nat) : Int) (mkB p)).mono ?_)⟩
        rintro e W4 ⟨rfl, hb4, hs4, g1, g2, g3, g4⟩
        have HB4 : Hid (Below W3.heap.size W3 W4) := hb4
        have HS4 : Hid (W4.heap.size = W3.heap.size + 4) := hs4
        have HG1 : Hid (_ = _) := g1
        have HG2 : Hid (_ = _) := g2
        have HG3 : Hid (_ = _) := g3
        have HG4 : Hid (_ = _) := g4
        have HY3 : Hid (_ = _) := Y3
        clear hb4 hs4 g1 g2 g3 g4 r1 r2 r3 E3 Y3 l2 l3 l4
        gi_wp2
        have hFl3 : ∀ b, F' b → b < W3.heap.size := HJL.out _ _ _ HJ3.out
        have HFL3 : Hid (∀ b, F' b → b < W3.heap.size) := hFl3
        have hJ4 : J (belK ds k ah t q ++ [p]) F' W4 := HJ.out _ _ _ _ HJ3.out (Chg.of_below HB4.out)
        have HB3 : Hid (Below w0.heap.size w0 W3) := HBW.out.trans (HCW3.out.below HBW.out.size HF0.out)
        have HB04 : Hid (Below w0.heap.size w0 W4) := HB3.out.trans (HB4.out.mono HB3.out.size)
        have HNY : Hid (¬ F' W.heap.size) := fun h => by
          rcases HNF3.out _ h with h1 | h1
          · have := hF0l _ h1; omega
          · omega
        have HF3 : Hid (∀ b, F' b → w0.heap.size ≤ b) := fun b hb => by
          rcases HNF3.out _ hb with h1 | h1
          · exact HF0.out _ h1
          · have := HBW.out.size; omega
        have HY4 : Hid (W4.cell? ⟨W.heap.size, 0, none⟩ = some (.func (.yield l) #[] #[])) := cell_later HB4.out HY3.out
        have HC4W : Hid (Chg F0 W W4) := HCW3.out.trans (Chg.of_below HB4.out)
        have HN4 : Hid (NewF F0 F' W.heap.size) := fun b hb => by
          rcases HNF3.out b hb with e | e
          · exact Or.inl e
          · exact Or.inr (by omega)
        clear hFl3 HJ3
        refine wpIn_range_tells (gf := 99) (lb := #[.pointer (some ⟨W3.heap.size + 3, 0, none⟩), .pointer (some ⟨W3.heap.size, 0, none⟩), .pointer (some ⟨W3.heap.size + 1, 0, none⟩), .pointer (some ⟨W3.heap.size + 2, 0, none⟩)]) rfl (enters_of Tryz.func99 (by kernel_rfl) rfl) (encs := encP) (xs := belL ds k p u) (fun _ => rfl) F' ?seq
          (fun pre G X => J (belK ds k ah t q ++ [p] ++ pre) G X) (fun c pre G X => c = .ret ∧ Jx (belK ds k ah t q ++ [p] ++ pre) G X)
          (fun s G X X' h hc => HJ.out _ _ _ _ h hc) (fun s G X h => HJL.out _ _ _ h) (fun c s G X X' h hc => ⟨h.1, HJX.out _ _ _ _ h.2 hc⟩) (fun c s G X h => HJXL.out _ _ _ h.2) (by rw [List.append_nil]; exact hJ4)
          (fun x => { tmps := #[.func (.yield l) #[] #[], .pointer (some ⟨Bd, 0, none⟩), .pointer (some ⟨Bl, 0, none⟩), .pointer (some ⟨Ba, 0, none⟩), .pointer (some ⟨Bp, 0, none⟩), .pointer (some ⟨W.heap.size, 0, none⟩), undef, .pointer (some ⟨wr.heap.size, 0, none⟩), .string (mkB p), .string (mkB x), .int .i64 (D6 : Int), .bool false, .slice (some ⟨b0, o0, none⟩) nL cL, .int .i64 (t : Int), .pointer (some ⟨b0, o0 + t * 5, none⟩), .pointer (some ⟨b0, o0 + t * 5 + 4, none⟩), .slice (some ⟨b1, o1, none⟩) nE cE, .int .i64 (nE : Int), .int .i64 (q : Int), .bool true, .pointer (some ⟨b1, o1 + q * 2, none⟩), .agg #[.string (mkB nm), .int .i64 (u : Int)], .string (mkB ah), .string (mkB ah ++ mkB [47]), .pointer (some ⟨wr.heap.size, 0, none⟩), .string (mkB nm), .string (mkB p), .func (.yield l) #[] #[], .string (mkB p), .bool true, .bool false, .slice (some ⟨b0, o0, none⟩) nL cL, .pointer (some ⟨wr.heap.size, 1, none⟩), .int .i64 (u : Int), .string (mkB p), .int .i64 (D6 : Int), .int .i64 ((6 - k : Nat) : Int), .func (.func 99) #[] #[.pointer (some ⟨W3.heap.size + 3, 0, none⟩), .pointer (some ⟨W3.heap.size, 0, none⟩), .pointer (some ⟨W3.heap.size + 1, 0, none⟩), .pointer (some ⟨W3.heap.size + 2, 0, none⟩)], .string (mkB x), x39, x40, x41, x42, x43], defers := [] }) ?assign ?body ?done ?stop
        case seq =>
          intro X F1 hbX hsX hF1
          have hs4 := HS4.out
          have hno : ∀ b, W3.heap.size ≤ b → b < W3.heap.size + 4 → ¬ F1 b := fun b h1 h2 h => by
            rcases (hF1 b).1 h with e | e | e
            · have := HFL3.out b e; omega
            · omega
            · omega
          refine HIH.out u p hul hpl X F1 _ _ _ _ (HB04.out.trans (hbX.mono HB04.out.size)) (fun b hb => ?_) (cell_later hbX HG1.out) (cell_later hbX HG2.out) (cell_later hbX HG3.out) (cell_later hbX HG4.out) (hno _ (by omega) (by omega)) (hno _ (by omega) (by omega)) (hno _ (by omega) (by omega)) (hno _ (by omega) (by omega)) (by omega) (by omega) (by omega) (by omega)
          rcases (hF1 b).1 hb with e | e | e
          · exact HF3.out b e
          · have := HB04.out.size; omega
          · have := HB04.out.size; omega
        case assign =>
          intro l x X K hK
          dsimp only [encP]
          gi_wp2
          simpa using hK
        case body =>
          intro l' pre x F2 X hJ5 hc5 hn5 hsX hpx
          have hy5 : X.cell? ⟨W.heap.size, 0, none⟩ = some (.func (.yield l) #[] #[]) := chg_cellP hc5 HY4.out HNY.out
          have hcX : Chg F0 W X := HC4W.out.step HN4.out hc5
          have hnX : NewF F0 F2 W.heap.size := HN4.out.trans hn5 HC4W.out.size
          have hpx2 : (belK ds k ah t q ++ [p] ++ pre ++ [x]) <+: belL ds (k + 1) ah t := by
            refine List.IsPrefix.trans ?_ (HPRE.out (q + 1))
            rw [HSS.out, List.append_assoc (belK ds k ah t q ++ [p]) pre [x]]
            exact (List.prefix_append_right_inj _).2 hpx
          obtain ⟨fn2, tmps2, assign2, body2, hy, hR⟩ := HY.out (belK ds k ah t q ++ [p] ++ pre) x F2 X hJ5 hcX hnX hpx2
          dsimp only [encP] at hy
          have HRR : Hid (RoundIn Fence.wide 0 Tryz.prog l fn2 tmps2 assign2 body2 X _) := hR
          clear hR hcX hnX hpx2 hJ5 hc5 hn5 hJ4
          have l9 : W.heap.size < X.heap.size := lt_of_cell hy5
          gi_wp2
          refine ⟨rfl, RoundIn.wide (HRR.out.mono ?_)⟩
          rintro e X2 ⟨F3, c3, n3, h3⟩
          have HE3 : Hid (Chg F2 X X2 ∧ NewF F2 F3 X.heap.size) := ⟨c3, n3⟩
          clear c3 n3
          rcases h3 with ⟨rfl, h3⟩ | ⟨rfl, h3⟩
          · have H3 : Hid _ := h3
            clear h3
            gi_wp2
            exact ⟨F3, HE3.out.1, HE3.out.2, by
              show J (belK ds k ah t q ++ [p] ++ (pre ++ [x])) F3 X2
              rw [← List.append_assoc]; exact H3.out⟩
          · have H3 : Hid _ := h3
            clear h3
            gi_wp2
            exact ⟨F3, HE3.out.1, HE3.out.2, rfl, by
              show Jx (belK ds k ah t q ++ [p] ++ (pre ++ [x])) F3 X2
              rw [← List.append_assoc]; exact H3.out⟩
        case done =>
          intro F2 X hJ5 hc5 hn5 hnD hD
          have HD : Hid (_ = _) := hD
          have HJ5 : Hid (J (belK ds k ah t (q + 1)) F2 X) := by rw [HSS.out]; exact hJ5
          have HC5 : Hid (Chg F' W4 X) := hc5
          have HN5 : Hid (NewF F' F2 W4.heap.size) := hn5
          have HNDD : Hid (¬ F2 W4.heap.size) := hnD
          clear hJ5 hc5 hn5 hnD hD hJ4
          gi_wp2
          have hs3 := HB4.out.size
          have hs5 := HC5.out.size
          have HX : Hid (Chg F0 W X) := HC4W.out.step HN4.out HC5.out
          have HMS5 : Hid (∀ D ∈ W4.heap.size :: ms, W.heap.size < D ∧ D < X.heap.size ∧ ¬ F2 D ∧ X.heap[D]? = some (.deferred (some []))) := fun D hD => by
            rcases List.mem_cons.1 hD with rfl | hD
            · exact ⟨by omega, (Array.getElem?_eq_some_iff.1 HD.out).1, HNDD.out, HD.out⟩
            · obtain ⟨m1, m2, m3, m4⟩ := HMS3.out D hD
              refine ⟨m1, by omega, fun h => ?_, (HC5.out.block D (by omega) m3).trans ((HB4.out.block D m2).trans m4)⟩
              rcases HN5.out D h with h1 | h1
              · exact m3 h1
              · omega
          have HND5 : Hid ((W4.heap.size :: ms).Nodup) := List.nodup_cons.2 ⟨fun h => by have := (HMS3.out _ h).2.1; omega, HND.out⟩
          have HNF5 : Hid (NewF F0 F2 (W.heap.size + 1)) := HNF3.out.trans HN5.out (by omega)
          refine ⟨⟨q + 1, F2, W4.heap.size :: ms, _, _, _, _, _, _, _, _, _, _, _, _, _, _, _, _, _, _, _, _, _, _, _, _, _, _, _, _, rfl, hlt, HJ5.out, HX.out, HNF5.out, by omega, chg_cellP HC5.out HY4.out HNY.out, HND5.out, HMS5.out⟩, ?_⟩
          show nE - ((q : Int) + 1).toNat < nE - (q : Int).toNat
          omega
        case stop =>
          rintro c pre F2 X hpx ⟨rfl, hJ5⟩ hc5 hn5 hnD hD
          have HD : Hid (_ = _) := hD
          have HJ5 : Hid (Jx (belK ds k ah t q ++ [p] ++ pre) F2 X) := hJ5
          have HC5 : Hid (Chg F' W4 X) := hc5
          have HN5 : Hid (NewF F' F2 W4.heap.size) := hn5
          have HNDD : Hid (¬ F2 W4.heap.size) := hnD
          clear hJ5 hc5 hn5 hnD hD hJ4
          gi_wp2
          have hs3 := HB4.out.size
          have hs5 := HC5.out.size
          have HX : Hid (Chg F0 W X) := HC4W.out.step HN4.out HC5.out
          have HMS5 : Hid (∀ D ∈ W4.heap.size :: ms, W.heap.size < D ∧ D < X.heap.size ∧ ¬ F2 D ∧ X.heap[D]? = some (.deferred (some []))) := fun D hD => by
            rcases List.mem_cons.1 hD with rfl | hD
            · exact ⟨by omega, (Array.getElem?_eq_some_iff.1 HD.out).1, HNDD.out, HD.out⟩
            · obtain ⟨m1, m2, m3, m4⟩ := HMS3.out D hD
              refine ⟨m1, by omega, fun h => ?_, (HC5.out.block D (by omega) m3).trans ((HB4.out.block D m2).trans m4)⟩
              rcases HN5.out D h with h1 | h1
              · exact m3 h1
              · omega
          have HND5 : Hid ((W4.heap.size :: ms).Nodup) := List.nodup_cons.2 ⟨fun h => by have := (HMS3.out _ h).2.1; omega, HND.out⟩
          have HNF5 : Hid (NewF F0 F2 (W.heap.size + 1)) := HNF3.out.trans HN5.out (by omega)
          refine leaves_marks (W4.heap.size :: ms) X HND5.out (fun D hD => (HMS5.out D hD).2.2.2) (fun W' hc' => ⟨_, results_none rfl _ _ _, ⟨_, rfl⟩, F2, ?_, ?_, Or.inr ⟨_, ?_, HJX.out _ _ _ _ HJ5.out (hc'.mono fun b hb => (HMS5.out b hb).2.2.1)⟩⟩)
          · exact ⟨hc'.os.trans HX.out.os, hc'.tape.trans HX.out.tape, hc'.output.trans HX.out.output, Nat.le_trans HX.out.size hc'.size, fun b hb hf => (hc'.block b (by omega) (fun hm => by have := (HMS5.out b hm).1; omega)).trans (HX.out.block b hb hf)⟩
          · exact fun b hb => by rcases HNF5.out b hb with e | e
                                 · exact Or.inl e
                                 · exact Or.inr (by omega)
          · refine List.IsPrefix.trans ?_ (HPRE.out (q + 1))
            rw [HSS.out]
            exact (List.prefix_append_right_inj _).2 hpx
end Go.Proofs.YtlohgnidbkechaaGreatDoor

namespace Go.Proofs.YtlohgnidbkechaaGreatDoor
open Go.RowKit
set_option maxRecDepth 100000

/-- Texts that grow by a list of texts. -/
theorem WdT.pushL (w : World) (n₀ : Nat) (v : Value) (xs ys : List (List UInt8)) (a : Addr) (m c : Nat) (h : WdT w n₀ v xs) (hn₀ : n₀ ≤ w.heap.size) (hm : ys.length = m) (hy : AtT w (some a) m ys) (hn : xs.length + m ≤ 1048577) :
    ∃ v' X, (Builtin.append_ #[62, 62] 62 #[v, .slice (some a) m c]).run Tryz.prog w = .ok v' X ∧ WdT X n₀ v' (xs ++ ys) ∧ Below n₀ w X ∧ (v ≠ .slice none 0 0 → v' ≠ .slice none 0 0) ∧ (∀ b, b < w.heap.size → some b ≠ v.ownBlock → X.heap[b]? = w.heap[b]?) := by
  subst hm
  obtain ⟨i0, hi, hz0, hz1, hz2⟩ := info_parts Tryz.infoStr
  obtain ⟨v', X, hr, hown, hgrow, hnil⟩ := run_append_own (P := Tryz.prog) w n₀ 62 62 9 i0 (.string ⟨#[]⟩) 1 16 Tryz.underlying62 hi hz0 hz1 hz2 rfl (by decide) v xs.length (xs.map strV) h a ys.length c (ys.map strV) (by simp) (fun j u hj => by
      rw [List.getElem?_map] at hj
      cases hq : ys[j]? with
      | none => rw [hq] at hj; cases hj
      | some y =>
        rw [hq] at hj
        obtain ⟨hlt, _⟩ := List.getElem?_eq_some_iff.1 hq
        obtain ⟨b, off, e, hc⟩ := hy j hlt
        cases e
        rw [hq] at hc
        cases hj
        rw [show (⟨b, off, none⟩ : Addr).add j = ⟨b, off + j, none⟩ by unfold Addr.add; split <;> simp_all]; exact hc) (fun u hu => by
      obtain ⟨y, _, rfl⟩ := List.mem_map.1 hu
      rfl) (by unfold maxLen; omega) (by omega) hn₀
  refine ⟨v', X, hr, by unfold WdT; rw [List.length_append, List.map_append]; exact hown, below_grown hgrow hn₀ (fun k hk => ?_), fun hv hv' => ?_, fun b hb hne => hgrow.block b hb hne⟩
  · rcases h.2 with ⟨rfl, _⟩ | ⟨g, cap, cur, rfl, hb, _⟩
    · simp [Value.ownBlock] at hk
    · simp [Value.ownBlock] at hk; omega
  · exact hv (hnil.1 hv').1
theorem WdT.push' (w : World) (n₀ : Nat) (v : Value) (xs : List (List UInt8)) (y : List UInt8) (h : WdT w n₀ v xs) (hn₀ : n₀ ≤ w.heap.size) (hn : xs.length ≤ 1048576) (hv : v ≠ .slice none 0 0) :
    ∃ v' X, (Builtin.append_ #[62, 62] 62 #[v, .slice (some ⟨w.heap.size, 0, none⟩) 1 1]).run Tryz.prog (w.alloc (.cells #[.string (mkB y)] 9)) = .ok v' X ∧ WdT X n₀ v' (xs ++ [y]) ∧ Below n₀ w X ∧ v' ≠ .slice none 0 0 ∧ (∀ b, b < w.heap.size → some b ≠ v.ownBlock → X.heap[b]? = w.heap[b]?) := by
  obtain ⟨v', X, h1, h2, h3, h4, h5⟩ := WdT.pushL (w.alloc (.cells #[.string (mkB y)] 9)) n₀ v xs [y] ⟨w.heap.size, 0, none⟩ 1 1 (h.later (later1 _ _)) (by simp; omega) rfl (fun k hk => ⟨w.heap.size, 0, rfl, by
    obtain rfl : k = 0 := by omega
    simp [go_sem]⟩) (by omega)
  exact ⟨v', X, h1, h2, ((later1 w _).mono hn₀).trans h3, h4 hv, fun b hb hne => (h5 b (by simp; omega) hne).trans ((later1 w _).block b hb)⟩
theorem WdT.some {w : World} {n₀ : Nat} {v : Value} {xs : List (List UInt8)} (h : WdT w n₀ v xs) (hv : v ≠ .slice none 0 0) : ∃ g c, v = .slice (some ⟨g, 0, none⟩) xs.length c ∧ n₀ ≤ g ∧ g < w.heap.size := by
  rcases h.2 with ⟨rfl, _⟩ | ⟨g, cap, cur, rfl, hb, hh, _⟩
  · exact absurd rfl hv
  · exact ⟨g, cap, rfl, hb, (Array.getElem?_eq_some_iff.1 hh).1⟩
end Go.Proofs.YtlohgnidbkechaaGreatDoor
