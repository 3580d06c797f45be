/- What the walks of this seat share:how slices of integers,of slices and of puts read in a world. No program is named here. Memory that a call made itself,block by block:which blocks a list lies in,what a store turns,what qbO are. No program is named here. Lists that a loop makes one behind the other,each in memory of its own. No program is named here. Lists of bytes and lists of these:how they read,what they own. No program is named here. The walks of the functions that tell how great an argument is. The walks of the copying functions. -/
import Derived.WalkKit
import Derived.WalkSpells
import Derived.WalkLawsBesides
import Derived.Deep.QuietTactic
import Derived.BigQuiet
import Derived.Deep.OwnRows
import Derived.Test.YthnmlipnoajmkaaGreatDoorRows
namespace Go.Proofs.YthnmlipnoajmkaaGreatDoor
open Go.RowKit
set_option maxRecDepth 100000

def qb1 (w:World) (v:Value) (zs:List Int):Prop:=
 (zs= []∧ ∃a cap,v= .slice a 0 cap)∨
 (∃b off cap,v= .slice (some ⟨b,off,none⟩) zs.length cap∧zs.length≤maxLen∧ ∀k,k<zs.length→w.cell? ⟨b,off+k,none⟩=some (.int .i64 (zs[k]?.getD 0)))

def qfd (w:World) (v:Value) (zss:List (List Int)):Prop:=
 (zss= []∧ ∃a cap,v= .slice a 0 cap)∨
 (∃b off cap,∃u:Nat→Value,v= .slice (some ⟨b,off,none⟩) zss.length cap∧zss.length≤maxLen∧ ∀k,k<zss.length→w.cell? ⟨b,off+k,none⟩=some (u k)∧qb1 w (u k) (zss[k]?.getD []))

def qlX (w:World) (v:Value) (ps:List (Int×List Int)):Prop:=
 (ps= []∧ ∃a cap,v= .slice a 0 cap)∨
 (∃b off cap,∃u:Nat→Value,v= .slice (some ⟨b,off,none⟩) ps.length cap∧ps.length≤maxLen∧ ∀k,k<ps.length→
   w.cell? ⟨b,off+k*2,none⟩=some (.int .i64 (ps[k]?.getD (0, [])).1)∧w.cell? ⟨b,off+k*2+1,none⟩=some (u k)∧qb1 w (u k) (ps[k]?.getD (0, [])).2)

theorem qaB {a b:Bool} (h:a=b):Ending.returned (.bool a)=Ending.returned (.bool b):=by rw [h]
theorem qad {k:IntKind} {a b:Int} (h:a=b):Ending.returned (.int k a)=Ending.returned (.int k b):=by rw [h]

theorem ql4 {α:Type} [BEq α] [LawfulBEq α] {xs ys:List α} {n k:Nat} (hx:xs.length=n) (hy:ys.length=n) (hk:n≤k) (h:xs.take k=ys.take k):true= (xs==ys):=by
 rw [List.take_of_length_le (by omega),List.take_of_length_le (by omega)] at h
 simp [h]
theorem ql5 {α:Type} {xs ys:List α} {n k:Nat} (z:α) (hx:xs.length=n) (hy:ys.length=n) (hk:k<n) (h:xs.take k=ys.take k) (he:xs[k]?.getD z=ys[k]?.getD z):xs.take (k+1)=ys.take (k+1):=by
 have e1:xs.take (k+1)=xs.take k++ [xs[k]]:=List.take_succ_eq_append_getElem (by omega)
 have e2:ys.take (k+1)=ys.take k++ [ys[k]]:=List.take_succ_eq_append_getElem (by omega)
 rw [List.getElem?_eq_getElem (by omega),List.getElem?_eq_getElem (by omega)] at he
 simp only [Option.getD_some] at he
 rw [e1,e2,h,he]
theorem qqO {α:Type} [BEq α] [LawfulBEq α] {xs ys:List α} {k:Nat} (z:α) (he: ¬xs[k]?.getD z=ys[k]?.getD z):false= (xs==ys):=by
 symm
 rw [Bool.eq_false_iff];intro h;exact he (by rw [eq_of_beq h])
theorem qpf {α:Type} [BEq α] [LawfulBEq α] {xs ys:List α} (he: ¬xs.length=ys.length):false= (xs==ys):=by
 symm
 rw [Bool.eq_false_iff];intro h;exact he (by rw [eq_of_beq h])

theorem ql6 {P:Program} {f:FuncId} {args:Array Value} {w:World} {m x:Nat} {v:Value}
 (h:Calls P f args (w.drewN (m+x)) fun e w'=>e= .returned v∧ ∃j,w'= (w.drewN (m+x)).drewN j):Calls P f args (w.drewN (m+x)) fun e w''=>e= .returned v∧ ∃n,w''=w.drewN (m+n):=
 h.mono fun _ _ ⟨he,j,hj⟩=> ⟨he,x+j,by rw [hj,World.drewN_drewN,Nat.add_assoc]⟩

theorem qfB {P:Program} {f:FuncId} {args:Array Value} {w:World} {m x:Nat} {v:Value}
 (h:Calls P f args (w.drewN (m+x)) fun e w'=>e= .returned v∧w'=w.drewN (m+x)):Calls P f args (w.drewN (m+x)) fun e w''=>e= .returned v∧ ∃n,w''=w.drewN (m+n):=
 h.mono fun _ _ ⟨he,hj⟩=> ⟨he,x,hj⟩

theorem qb1.drewN {w:World} {v:Value} {zs:List Int} (h:qb1 w v zs) (m:Nat):qb1 (w.drewN m) v zs:=h
theorem qfd.drewN {w:World} {v:Value} {zs:List (List Int)} (h:qfd w v zs) (m:Nat):qfd (w.drewN m) v zs:=h
theorem qlX.drewN {w:World} {v:Value} {zs:List (Int×List Int)} (h:qlX w v zs) (m:Nat):qlX (w.drewN m) v zs:=h

theorem qb1.later {w wx:World} {v:Value} {zs:List Int} (h:qb1 w v zs) (hb:Below w.heap.size w wx):qb1 wx v zs:=by
 rcases h with h| ⟨b,off,cap,h1,h2,h3⟩
 · exact Or.inl h
 · exact Or.inr ⟨b,off,cap,h1,h2,fun k hk=>cell_later hb (h3 k hk)⟩
theorem qfd.later {w wx:World} {v:Value} {zs:List (List Int)} (h:qfd w v zs) (hb:Below w.heap.size w wx):qfd wx v zs:=by
 rcases h with h| ⟨b,off,cap,u,h1,h2,h3⟩
 · exact Or.inl h
 · exact Or.inr ⟨b,off,cap,u,h1,h2,fun k hk=> ⟨cell_later hb (h3 k hk).1,(h3 k hk).2.later hb⟩⟩
theorem qlX.later {w wx:World} {v:Value} {zs:List (Int×List Int)} (h:qlX w v zs) (hb:Below w.heap.size w wx):qlX wx v zs:=by
 rcases h with h| ⟨b,off,cap,u,h1,h2,h3⟩
 · exact Or.inl h
 · exact Or.inr ⟨b,off,cap,u,h1,h2,fun k hk=> ⟨cell_later hb (h3 k hk).1,cell_later hb (h3 k hk).2.1,(h3 k hk).2.2.later hb⟩⟩
theorem qab (w:World) (o:Obj):Below w.heap.size w (w.alloc o):= (Below.refl _ _).alloc (Nat.le_refl _) _
theorem qam (w:World) (o o':Obj):Below w.heap.size w ((w.alloc o).alloc o'):= (qab w o).alloc (by simp) _

theorem qb1.shape {w:World} {v:Value} {zs:List Int} (h:qb1 w v zs): ∃a cap,v= .slice a zs.length cap∧zs.length≤maxLen:=by
 rcases h with ⟨rfl,a,cap,rfl⟩| ⟨b,off,cap,rfl,hl,_⟩
 · exact ⟨a,cap,rfl,by simp⟩
 · exact ⟨_,cap,rfl,hl⟩

def At1 (w:World) (a:Option Addr) (n:Nat) (f:Nat→Value):Prop:= ∀k,k<n→ ∃b off,a=some ⟨b,off,none⟩∧w.cell? ⟨b,off+k,none⟩=some (f k)
theorem qb1.open' {w:World} {v:Value} {zs:List Int} (h:qb1 w v zs): ∃a cap,v= .slice a zs.length cap∧zs.length≤maxLen∧At1 w a zs.length (fun k=> .int .i64 (zs[k]?.getD 0)):=by
 rcases h with ⟨rfl,a,cap,rfl⟩| ⟨b,off,cap,rfl,hl,hc⟩
 · exact ⟨a,cap,rfl,by simp,fun k hk=>by simp at hk⟩
 · exact ⟨_,cap,rfl,hl,fun k hk=> ⟨b,off,rfl,hc k hk⟩⟩

def AtS (w:World) (a:Option Addr) (n:Nat) (zss:List (List Int)):Prop:=
 ∀k,k<n→ ∃b off ua ucap,a=some ⟨b,off,none⟩∧w.cell? ⟨b,off+k,none⟩=some (.slice ua (zss[k]?.getD []).length ucap)∧qb1 w (.slice ua (zss[k]?.getD []).length ucap) (zss[k]?.getD [])
theorem qfd.open' {w:World} {v:Value} {zss:List (List Int)} (h:qfd w v zss): ∃a cap,v= .slice a zss.length cap∧zss.length≤maxLen∧AtS w a zss.length zss:=by
 rcases h with ⟨rfl,a,cap,rfl⟩| ⟨b,off,cap,u,rfl,hl,hc⟩
 · exact ⟨a,cap,rfl,by simp,fun k hk=>by simp at hk⟩
 · refine ⟨_,cap,rfl,hl,fun k hk=> ?_⟩
   obtain ⟨h1,h2⟩:=hc k hk
   obtain ⟨ua,ucap,hu,_⟩:=h2.shape
   rw [hu] at h1 h2
   exact ⟨b,off,ua,ucap,rfl,h1,h2⟩
theorem AtS.later {w w':World} {a:Option Addr} {n:Nat} {zss:List (List Int)} (h:AtS w a n zss) (hb:Below w.heap.size w w'):AtS w' a n zss:=by
 intro k hk
 obtain ⟨b,off,ua,ucap,h1,h2,h3⟩:=h k hk
 exact ⟨b,off,ua,ucap,h1,cell_later hb h2,h3.later hb⟩
def AtP (w:World) (a:Option Addr) (n:Nat) (ps:List (Int×List Int)):Prop:=
 ∀k,k<n→ ∃b off ua ucap,a=some ⟨b,off,none⟩∧w.cell? ⟨b,off+k*2,none⟩=some (.int .i64 (ps[k]?.getD (0, [])).1)∧w.cell? ⟨b,off+k*2+1,none⟩=some (.slice ua (ps[k]?.getD (0, [])).2.length ucap)∧qb1 w (.slice ua (ps[k]?.getD (0, [])).2.length ucap) (ps[k]?.getD (0, [])).2
theorem qlX.open' {w:World} {v:Value} {ps:List (Int×List Int)} (h:qlX w v ps): ∃a cap,v= .slice a ps.length cap∧ps.length≤maxLen∧AtP w a ps.length ps:=by
 rcases h with ⟨rfl,a,cap,rfl⟩| ⟨b,off,cap,u,rfl,hl,hc⟩
 · exact ⟨a,cap,rfl,by simp,fun k hk=>by simp at hk⟩
 · refine ⟨_,cap,rfl,hl,fun k hk=> ?_⟩
   obtain ⟨h1,h1',h2⟩:=hc k hk
   obtain ⟨ua,ucap,hu,_⟩:=h2.shape
   rw [hu] at h1' h2
   exact ⟨b,off,ua,ucap,rfl,h1,h1',h2⟩
theorem AtP.later {w w':World} {a:Option Addr} {n:Nat} {ps:List (Int×List Int)} (h:AtP w a n ps) (hb:Below w.heap.size w w'):AtP w' a n ps:=by
 intro k hk
 obtain ⟨b,off,ua,ucap,h1,h2,h2',h3⟩:=h k hk
 exact ⟨b,off,ua,ucap,h1,cell_later hb h2,cell_later hb h2',h3.later hb⟩

end Go.Proofs.YthnmlipnoajmkaaGreatDoor

namespace Go.Proofs.YthnmlipnoajmkaaGreatDoor
open Go.RowKit
set_option maxRecDepth 100000

def qaa (w:World) (b n:Nat) (f:Nat→Value):Prop:=
 ∃c t,w.heap[b]?=some (.cells c t (0,0))∧n≤c.size∧ ∀i,i<n→c[i]?=some (f i)

theorem qaa.cell {w:World} {b n:Nat} {f:Nat→Value} (h:qaa w b n f) {i:Nat} (hi:i<n):w.cell? ⟨b,i,none⟩=some (f i):=by
 obtain ⟨c,t,hb,_,hc⟩:=h
 simp [World.cell?,hb,hc i hi]
theorem qaa.frozen {w:World} {b n:Nat} {f:Nat→Value} (h:qaa w b n f) (i:Nat):w.frozen? ⟨b,i,none⟩=false:=by
 obtain ⟨c,t,hb,_,_⟩:=h
 simp [World.frozen?,hb]
theorem qaa.lt {w:World} {b n:Nat} {f:Nat→Value} (h:qaa w b n f):b<w.heap.size:=by
 obtain ⟨c,t,hb,_,_⟩:=h
 exact (Array.getElem?_eq_some_iff.1 hb).1
theorem qaa.congr {w:World} {b n:Nat} {f g:Nat→Value} (h:qaa w b n f) (e: ∀i,i<n→f i=g i):qaa w b n g:=by
 obtain ⟨c,t,hb,hn,hc⟩:=h
 exact ⟨c,t,hb,hn,fun i hi=>by rw [hc i hi,e i hi]⟩
theorem qaa.block {w w':World} {b n:Nat} {f:Nat→Value} (h:qaa w b n f) (e:w'.heap[b]?=w.heap[b]?):qaa w' b n f:=by
 obtain ⟨c,t,hb,hn,hc⟩:=h
 exact ⟨c,t,e.trans hb,hn,hc⟩
theorem qaa.set {w:World} {b n:Nat} {f:Nat→Value} (h:qaa w b n f) (i:Nat) (v:Value):qaa (w.setCell ⟨b,i,none⟩ v) b n (fun j=>if j=i then v else f j):=by
 obtain ⟨c,t,hb,hn,hc⟩:=h
 refine ⟨c.setIfInBounds i v,t, ?_,by simpa using hn,fun j hj=> ?_⟩
 · simp [World.setCell,Array.getElem?_modify,hb]
 · rw [Array.getElem?_setIfInBounds]
   by_cases e:i=j
   · subst e
     simp [show i<c.size by omega]
   · rw [if_neg e]
     show c[j]?=some (if j=i then v else f j)
     rw [if_neg (fun h:j=i=>e h.symm)]
     exact hc j hj

theorem qaa.store {w:World} {b n:Nat} {f:Nat→Value} (h:qaa w b n f) {p:Addr} (hp:b≠p.block) (u:Value):qaa (w.setCell p u) b n f:=h.block (Below.heap_setCell _ _ _ _ hp)

structure Chg (F:Nat→Prop) (w w':World):Prop where
 os:w'.os=w.os
 tape:w'.tape=w.tape
 output:w'.output=w.output
 size:w.heap.size≤w'.heap.size
 block: ∀b,b<w.heap.size→ ¬F b→w'.heap[b]?=w.heap[b]?
theorem Chg.refl (F:Nat→Prop) (w:World):Chg F w w:= ⟨rfl,rfl,rfl,Nat.le_refl _,fun _ _ _=>rfl⟩
theorem Chg.trans {F:Nat→Prop} {a b c:World} (h:Chg F a b) (k:Chg F b c):Chg F a c:=
 ⟨k.os.trans h.os,k.tape.trans h.tape,k.output.trans h.output,Nat.le_trans h.size k.size,fun i hi hf=> (k.block i (Nat.lt_of_lt_of_le hi h.size) hf).trans (h.block i hi hf)⟩
theorem Chg.mono {F G:Nat→Prop} {w w':World} (h:Chg F w w') (hFG: ∀b,F b→G b):Chg G w w':= ⟨h.os,h.tape,h.output,h.size,fun b hb hg=>h.block b hb (fun hf=>hg (hFG b hf))⟩
theorem Chg.of_below {F:Nat→Prop} {w w':World} (h:Below w.heap.size w w'):Chg F w w':= ⟨h.os,h.tape,h.output,h.size,fun b hb _=>h.block b hb⟩
theorem Chg.below {F:Nat→Prop} {w w':World} {B:Nat} (h:Chg F w w') (hB:B≤w.heap.size) (hF: ∀b,F b→B≤b):Below B w w':=
 ⟨h.os,h.tape,h.output,h.size,fun b hb=>h.block b (by omega) (fun hf=>by have:=hF b hf;omega)⟩
theorem Chg.set {F:Nat→Prop} {w wr:World} (h:Chg F w wr) {b:Nat} (hF:F b) (i:Nat) (v:Value):Chg F w (wr.setCell ⟨b,i,none⟩ v):=
 h.trans ⟨rfl,rfl,rfl,by simp [World.setCell],fun k _ hf=>Below.heap_setCell _ _ _ _ (fun e=>hf (e▸hF))⟩

def qak (w:World) (v:Value) (zs:List Int) (F:Nat→Prop):Prop:=
 (zs= []∧ ∃a cap,v= .slice a 0 cap)∨
 (∃b cap,F b∧v= .slice (some ⟨b,0,none⟩) zs.length cap∧zs.length≤maxLen∧qaa w b zs.length (fun i=> .int .i64 (zs[i]?.getD 0)))
theorem qak.ints {w:World} {v:Value} {zs:List Int} {F:Nat→Prop} (h:qak w v zs F):qb1 w v zs:=by
 rcases h with h| ⟨b,cap,_,h1,h2,h3⟩
 · exact Or.inl h
 · exact Or.inr ⟨b,0,cap,h1,h2,fun k hk=>by rw [Nat.zero_add];exact h3.cell hk⟩
theorem qak.keep {w w':World} {v:Value} {zs:List Int} {F:Nat→Prop} (h:qak w v zs F) (e: ∀b,F b→b<w.heap.size→w'.heap[b]?=w.heap[b]?):qak w' v zs F:=by
 rcases h with h| ⟨b,cap,hF,h1,h2,h3⟩
 · exact Or.inl h
 · exact Or.inr ⟨b,cap,hF,h1,h2,h3.block (e b hF h3.lt)⟩
theorem qak.mono {w:World} {v:Value} {zs:List Int} {F G:Nat→Prop} (h:qak w v zs F) (e: ∀b,F b→G b):qak w v zs G:=by
 rcases h with h| ⟨b,cap,hF,h1⟩
 · exact Or.inl h
 · exact Or.inr ⟨b,cap,e b hF,h1⟩

theorem qak.store {w:World} {v:Value} {zs:List Int} {F:Nat→Prop} (h:qak w v zs F) {p:Addr} (hp: ∀b,F b→b≠p.block) (x:Value):qak (w.setCell p x) v zs F:=h.keep fun b hb _=>Below.heap_setCell _ _ _ _ (hp b hb)

def qa3 (w:World) (v:Value) (zss:List (List Int)) (F:Nat→Prop):Prop:=
 (zss= []∧ ∃a cap,v= .slice a 0 cap)∨
 (∃b cap,∃u:Nat→Value,∃G:Nat→Nat→Prop,F b∧ (∀i c,G i c→F c∧c≠b)∧ (∀i j c,i≠j→G i c→ ¬G j c)∧
   v= .slice (some ⟨b,0,none⟩) zss.length cap∧zss.length≤maxLen∧qaa w b zss.length u∧ ∀i,i<zss.length→qak w (u i) (zss[i]?.getD []) (G i))
theorem qa3.ints {w:World} {v:Value} {zss:List (List Int)} {F:Nat→Prop} (h:qa3 w v zss F):qfd w v zss:=by
 rcases h with h| ⟨b,cap,u,G,_,_,_,h1,h2,h3,h4⟩
 · exact Or.inl h
 · exact Or.inr ⟨b,0,cap,u,h1,h2,fun k hk=> ⟨by rw [Nat.zero_add];exact h3.cell hk,(h4 k hk).ints⟩⟩
theorem qa3.keep {w w':World} {v:Value} {zss:List (List Int)} {F:Nat→Prop} (h:qa3 w v zss F) (e: ∀b,F b→b<w.heap.size→w'.heap[b]?=w.heap[b]?):qa3 w' v zss F:=by
 rcases h with h| ⟨b,cap,u,G,hF,hG,hGG,h1,h2,h3,h4⟩
 · exact Or.inl h
 · exact Or.inr ⟨b,cap,u,G,hF,hG,hGG,h1,h2,h3.block (e b hF h3.lt),fun i hi=> (h4 i hi).keep fun c hc=>e c (hG i c hc).1⟩
theorem qa3.mono {w:World} {v:Value} {zss:List (List Int)} {F F':Nat→Prop} (h:qa3 w v zss F) (e: ∀b,F b→F' b):qa3 w v zss F':=by
 rcases h with h| ⟨b,cap,u,G,hF,hG,h1⟩
 · exact Or.inl h
 · exact Or.inr ⟨b,cap,u,G,e b hF,fun i c hc=> ⟨e c (hG i c hc).1,(hG i c hc).2⟩,h1⟩

theorem qa3.store {w:World} {v:Value} {zss:List (List Int)} {F:Nat→Prop} (h:qa3 w v zss F) {p:Addr} (hp: ∀b,F b→b≠p.block) (x:Value):qa3 (w.setCell p x) v zss F:=h.keep fun b hb _=>Below.heap_setCell _ _ _ _ (hp b hb)

def qcy (ps:List (Int×List Int)) (u:Nat→Value) (j:Nat):Value:=if j % 2=0 then .int .i64 (ps[j/2]?.getD (0, [])).1 else u (j/2)
theorem qgt (ps:List (Int×List Int)) (u:Nat→Value) (k:Nat):qcy ps u (k*2)= .int .i64 (ps[k]?.getD (0, [])).1:=by
 unfold qcy;rw [if_pos (by omega),show k*2/2=k by omega]
theorem qd8 (ps:List (Int×List Int)) (u:Nat→Value) (k:Nat):qcy ps u (k*2+1)=u k:=by
 unfold qcy;rw [if_neg (by omega),show (k*2+1)/2=k by omega]
def qde (w:World) (v:Value) (ps:List (Int×List Int)) (F:Nat→Prop):Prop:=
 (ps= []∧ ∃a cap,v= .slice a 0 cap)∨
 (∃b cap,∃u:Nat→Value,∃G:Nat→Nat→Prop,F b∧ (∀i c,G i c→F c∧c≠b)∧ (∀i j c,i≠j→G i c→ ¬G j c)∧
   v= .slice (some ⟨b,0,none⟩) ps.length cap∧ps.length≤maxLen∧qaa w b (ps.length*2) (qcy ps u)∧ ∀i,i<ps.length→qak w (u i) (ps[i]?.getD (0, [])).2 (G i))
theorem qde.puts {w:World} {v:Value} {ps:List (Int×List Int)} {F:Nat→Prop} (h:qde w v ps F):qlX w v ps:=by
 rcases h with h| ⟨b,cap,u,G,_,_,_,h1,h2,h3,h4⟩
 · exact Or.inl h
 · refine Or.inr ⟨b,0,cap,u,h1,h2,fun k hk=> ⟨?_, ?_,(h4 k hk).ints⟩⟩
   · rw [Nat.zero_add,h3.cell (by omega),qgt]
   · rw [Nat.zero_add,h3.cell (by omega),qd8]
theorem qde.keep {w w':World} {v:Value} {ps:List (Int×List Int)} {F:Nat→Prop} (h:qde w v ps F) (e: ∀b,F b→b<w.heap.size→w'.heap[b]?=w.heap[b]?):qde w' v ps F:=by
 rcases h with h| ⟨b,cap,u,G,hF,hG,hGG,h1,h2,h3,h4⟩
 · exact Or.inl h
 · exact Or.inr ⟨b,cap,u,G,hF,hG,hGG,h1,h2,h3.block (e b hF h3.lt),fun i hi=> (h4 i hi).keep fun c hc=>e c (hG i c hc).1⟩
theorem qde.mono {w:World} {v:Value} {ps:List (Int×List Int)} {F F':Nat→Prop} (h:qde w v ps F) (e: ∀b,F b→F' b):qde w v ps F':=by
 rcases h with h| ⟨b,cap,u,G,hF,hG,h1⟩
 · exact Or.inl h
 · exact Or.inr ⟨b,cap,u,G,e b hF,fun i c hc=> ⟨e c (hG i c hc).1,(hG i c hc).2⟩,h1⟩

theorem qde.store {w:World} {v:Value} {ps:List (Int×List Int)} {F:Nat→Prop} (h:qde w v ps F) {p:Addr} (hp: ∀b,F b→b≠p.block) (x:Value):qde (w.setCell p x) v ps F:=h.keep fun b hb _=>Below.heap_setCell _ _ _ _ (hp b hb)
theorem qak.bound {w:World} {v:Value} {zs:List Int} {F:Nat→Prop} (h:qak w v zs F):qak w v zs (fun b=>F b∧b<w.heap.size):=by
 rcases h with h| ⟨b,cap,hF,h1,h2,h3⟩
 · exact Or.inl h
 · exact Or.inr ⟨b,cap,⟨hF,h3.lt⟩,h1,h2,h3⟩
theorem qa3.bound {w:World} {v:Value} {zss:List (List Int)} {F:Nat→Prop} (h:qa3 w v zss F):qa3 w v zss (fun b=>F b∧b<w.heap.size):=by
 rcases h with h| ⟨b,cap,u,G,hF,hG,hGG,h1,h2,h3,h4⟩
 · exact Or.inl h
 · exact Or.inr ⟨b,cap,u,fun i c=>G i c∧c<w.heap.size,⟨hF,h3.lt⟩,fun i c hc=> ⟨⟨(hG i c hc.1).1,hc.2⟩,(hG i c hc.1).2⟩,fun i j c e hc hc'=>hGG i j c e hc.1 hc'.1,h1,h2,h3,fun i hi=> (h4 i hi).bound⟩
theorem qde.bound {w:World} {v:Value} {ps:List (Int×List Int)} {F:Nat→Prop} (h:qde w v ps F):qde w v ps (fun b=>F b∧b<w.heap.size):=by
 rcases h with h| ⟨b,cap,u,G,hF,hG,hGG,h1,h2,h3,h4⟩
 · exact Or.inl h
 · exact Or.inr ⟨b,cap,u,fun i c=>G i c∧c<w.heap.size,⟨hF,h3.lt⟩,fun i c hc=> ⟨⟨(hG i c hc.1).1,hc.2⟩,(hG i c hc.1).2⟩,fun i j c e hc hc'=>hGG i j c e hc.1 hc'.1,h1,h2,h3,fun i hi=> (h4 i hi).bound⟩
theorem qar (w:World) (c:Array Value) (t:TypeId) (i:Nat): (w.alloc (.cells c t)).cell? ⟨w.heap.size,i,none⟩=c[i]?:=by
 have h: (w.alloc (.cells c t)).heap[w.heap.size]?=some (.cells c t):=Go.Deep.blk_alloc_new _ _
 simp only [World.cell?,h]
 rfl
theorem qhV {w w':World} {F:Nat→Prop} {o:Obj} (h:Chg F (w.alloc o) w') (hF: ∀b,F b→b<w.heap.size):w'.heap[w.heap.size]?= (w.alloc o).heap[w.heap.size]?:=
 h.block _ (by simp) (fun hf=>by have:=hF _ hf;omega)

def qbO (k:Int) (n:Nat):List Int:= (List.range n).map fun i:Nat=>k+ (i:Int)
theorem qbP (k:Int) (n:Nat): (qbO k n).length=n:=by simp [qbO]
theorem qhW (k:Int) {n i:Nat} (h:i<n): (qbO k n)[i]?.getD 0=k+ (i:Int):=by simp [qbO,h]
def qe0:Int→List Nat→List (List Int)
 |_, []=> []
 |k,n::ns=>qbO k n::qe0 (k+n) ns
def qe1:Int→List Nat→List (Int×List Int)
 |_, []=> []
 |k,n::ns=> (k,qbO (k+1) n)::qe1 (k+1+n) ns
theorem qg1 (ns:List Nat): ∀k,(qe0 k ns).length=ns.length:=by
 induction ns with
 |nil=>intro k;rfl
 |cons n ns ih=>intro k;simp [qe0,ih]
theorem qg2 (ns:List Nat): ∀k,(qe1 k ns).length=ns.length:=by
 induction ns with
 |nil=>intro k;rfl
 |cons n ns ih=>intro k;simp [qe1,ih]
def upto (ns:List Nat) (j:Nat):Nat:= (ns.take j).sum
theorem qa4 (ns:List Nat):upto ns 0=0:=by simp [upto]
theorem qdl (n:Nat) (ns:List Nat) (j:Nat):upto (n::ns) (j+1)=n+upto ns j:=by simp [upto]
theorem qaU (ns:List Nat): ∀j,j<ns.length→upto ns (j+1)=upto ns j+ns[j]?.getD 0:=by
 induction ns with
 |nil=>intro j h;simp at h
 | cons n ns ih=>
   intro j h
   cases j with
   |zero=>simp [upto]
   |succ j=>rw [qdl,qdl,ih j (by simpa using h)];simp;omega
theorem qbJ (ns:List Nat): ∀j,upto ns j≤ns.sum:=by
 induction ns with
 |nil=>intro j;simp [upto]
 | cons n ns ih=>
   intro j
   cases j with
   |zero=>simp [upto]
   |succ j=>rw [qdl];have:=ih j;simp;omega
theorem qcT (ns:List Nat):upto ns ns.length=ns.sum:=by simp [upto]
theorem qqj (ns:List Nat): ∀k i,i<ns.length→ (qe0 k ns)[i]?.getD []=qbO (k+ (upto ns i:Nat)) (ns[i]?.getD 0):=by
 induction ns with
 |nil=>intro k i h;simp at h
 | cons n ns ih=>
   intro k i h
   cases i with
   |zero=>simp [qe0,upto]
   | succ i=>
     have:=ih (k+n) i (by simpa using h)
     simp only [qe0,List.getElem?_cons_succ,qdl]
     rw [this];congr 1;omega
theorem qqk (ns:List Nat): ∀k i,i<ns.length→ (qe1 k ns)[i]?.getD (0, [])= (k+i+ (upto ns i:Nat),qbO (k+i+ (upto ns i:Nat)+1) (ns[i]?.getD 0)):=by
 induction ns with
 |nil=>intro k i h;simp at h
 | cons n ns ih=>
   intro k i h
   cases i with
   |zero=>simp [qe1,upto]
   | succ i=>
     have:=ih (k+1+n) i (by simpa using h)
     simp only [qe1,List.getElem?_cons_succ,qdl]
     rw [this,Prod.mk.injEq]
     refine ⟨by omega, ?_⟩
     congr 1;omega


theorem qnS (zss:List (List Int)) (i:Nat): (zss.map List.length)[i]?.getD 0= (zss[i]?.getD []).length:=by
 rw [List.getElem?_map];cases zss[i]?<;>simp
def qeH (ps:List (Int×List Int)):List Nat:=ps.map fun p=>p.2.length
theorem ql7 (ps:List (Int×List Int)) (i:Nat): (qeH ps)[i]?.getD 0= (ps[i]?.getD (0, [])).2.length:=by
 unfold qeH;rw [List.getElem?_map];cases ps[i]?<;>simp
theorem qhX (ps:List (Int×List Int)): (qeH ps).length=ps.length:=by simp [qeH]
def qqP (bs:List (List Int)) (ps:List (Int×List Int)):Nat:= (bs.map List.length).sum+ps.length+ (qeH ps).sum

def qbs (w:World) (vB vC:Value) (bs:List (List Int)) (ps:List (Int×List Int)) (F:Nat→Prop):Prop:=
 ∃F1 G1:Nat→Prop,qa3 w vB bs F1∧qde w vC ps G1∧ (∀b,F1 b→ ¬G1 b)∧ ∀b,F1 b∨G1 b→F b
theorem qbs.ints {w:World} {vB vC:Value} {bs:List (List Int)} {ps:List (Int×List Int)} {F:Nat→Prop} (h:qbs w vB vC bs ps F):qfd w vB bs:=by
 obtain ⟨_,_,h1,_⟩:=h;exact h1.ints
theorem qbs.puts {w:World} {vB vC:Value} {bs:List (List Int)} {ps:List (Int×List Int)} {F:Nat→Prop} (h:qbs w vB vC bs ps F):qlX w vC ps:=by
 obtain ⟨_,_,_,h1,_⟩:=h;exact h1.puts
theorem qbs.keep {w w':World} {vB vC:Value} {bs:List (List Int)} {ps:List (Int×List Int)} {F:Nat→Prop} (h:qbs w vB vC bs ps F) (e: ∀b,F b→b<w.heap.size→w'.heap[b]?=w.heap[b]?):qbs w' vB vC bs ps F:=by
 obtain ⟨F1,G1,h1,h2,hd,hf⟩:=h
 exact ⟨F1,G1,h1.keep fun b hb=>e b (hf b (Or.inl hb)),h2.keep fun b hb=>e b (hf b (Or.inr hb)),hd,hf⟩
theorem qbs.later {w w':World} {vB vC:Value} {bs:List (List Int)} {ps:List (Int×List Int)} {F:Nat→Prop} (h:qbs w vB vC bs ps F) (hb:Below w.heap.size w w'):qbs w' vB vC bs ps F:=h.keep fun b _ hlt=>hb.block b hlt
theorem qbs.mono {w:World} {vB vC:Value} {bs:List (List Int)} {ps:List (Int×List Int)} {F G:Nat→Prop} (h:qbs w vB vC bs ps F) (e: ∀b,F b→G b):qbs w vB vC bs ps G:=by
 obtain ⟨F1,G1,h1,h2,hd,hf⟩:=h
 exact ⟨F1,G1,h1,h2,hd,fun b hb=>e b (hf b hb)⟩
theorem qbs.bound {w:World} {vB vC:Value} {bs:List (List Int)} {ps:List (Int×List Int)} {F:Nat→Prop} (h:qbs w vB vC bs ps F):qbs w vB vC bs ps (fun b=>F b∧b<w.heap.size):=by
 obtain ⟨F1,G1,h1,h2,hd,hf⟩:=h
 exact ⟨_,_,h1.bound,h2.bound,fun b hb hb'=>hd b hb.1 hb'.1,fun b hb=>hb.elim (fun h=> ⟨hf b (Or.inl h.1),h.2⟩) (fun h=> ⟨hf b (Or.inr h.1),h.2⟩)⟩
theorem qbs.chg {w w':World} {vB vC:Value} {bs:List (List Int)} {ps:List (Int×List Int)} {F G:Nat→Prop} (h:qbs w vB vC bs ps F) (hc:Chg G w w') (hd: ∀b,F b→ ¬G b):qbs w' vB vC bs ps F:=h.keep fun b hb hlt=>hc.block b hlt (hd b hb)

def qnJ (w:World) (b:Nat) (c:Int) (x y:Value):Prop:=w.cell? ⟨b,0,none⟩=some (.int .i64 c)∧w.cell? ⟨b,1,none⟩=some x∧w.cell? ⟨b,2,none⟩=some y
theorem qnJ.new (w:World) (c:Int) (x y:Value) (t:TypeId):qnJ (w.alloc (.cells #[.int .i64 c,x,y] t)) w.heap.size c x y:= ⟨by rw [qar];rfl,by rw [qar];rfl,by rw [qar];rfl⟩
theorem qnJ.later {w w':World} {b:Nat} {c:Int} {x y:Value} (h:qnJ w b c x y) (hb:Below w.heap.size w w'):qnJ w' b c x y:= ⟨cell_later hb h.1,cell_later hb h.2.1,cell_later hb h.2.2⟩
theorem qnJ.lt {w:World} {b:Nat} {c:Int} {x y:Value} (h:qnJ w b c x y):b<w.heap.size:=World.block_lt_of_cell? _ _ h.1
theorem Chg.cell {F:Nat→Prop} {w w':World} (h:Chg F w w') {a:Addr} (hl:a.block<w.heap.size) (hf: ¬F a.block):w'.cell? a=w.cell? a:=World.cell?_of_block (w:=w) (h.block a.block hl hf)
theorem qnJ.chg {w w':World} {b:Nat} {c:Int} {x y:Value} {F:Nat→Prop} (h:qnJ w b c x y) (hc:Chg F w w') (hf: ¬F b):qnJ w' b c x y:=
 ⟨(hc.cell h.lt hf).trans h.1,(hc.cell h.lt hf).trans h.2.1,(hc.cell h.lt hf).trans h.2.2⟩

def qk3 (w:World) (b:Nat) (x y:Value):Prop:=w.cell? ⟨b,0,none⟩=some x∧w.cell? ⟨b,1,none⟩=some y
theorem qk3.new (w:World) (x y:Value) (t:TypeId):qk3 (w.alloc (.cells #[x,y] t)) w.heap.size x y:= ⟨by rw [qar];rfl,by rw [qar];rfl⟩
theorem qk3.later {w w':World} {b:Nat} {x y:Value} (h:qk3 w b x y) (hb:Below w.heap.size w w'):qk3 w' b x y:= ⟨cell_later hb h.1,cell_later hb h.2⟩
theorem qk3.lt {w:World} {b:Nat} {x y:Value} (h:qk3 w b x y):b<w.heap.size:=World.block_lt_of_cell? _ _ h.1

end Go.Proofs.YthnmlipnoajmkaaGreatDoor

namespace Go.Proofs.YthnmlipnoajmkaaGreatDoor
open Go.RowKit
set_option maxRecDepth 100000

def qaj (w w':World) (b:Nat):Prop:=w.heap.size≤b∧b<w'.heap.size

structure Built (w:World) (lo j:Nat) (u:Nat→Value) (f:Nat→List Int) (s:Nat→Nat):Prop where
 lo:lo≤s 0
 mono: ∀i,i<j→s i≤s (i+1)
 hi:s j≤w.heap.size
 at': ∀i,i<j→qak w (u i) (f i) (fun b=>s i≤b∧b<s (i+1))

theorem Built.nil {w:World} {lo:Nat} (u:Nat→Value) (f:Nat→List Int) (h:lo≤w.heap.size):Built w lo 0 u f (fun _=>w.heap.size):=
 ⟨h,fun i hi=>by omega,Nat.le_refl _,fun i hi=>by omega⟩
theorem Built.le {w:World} {lo j:Nat} {u:Nat→Value} {f:Nat→List Int} {s:Nat→Nat} (h:Built w lo j u f s): ∀i k,i≤k→k≤j→s i≤s k:=by
 intro i k hik
 induction k with
 | zero => intro _;have:i=0:=by omega
           subst this;exact Nat.le_refl _
 | succ k ih=>
   intro hk
   by_cases e:i=k+1
   · subst e;exact Nat.le_refl _
   · exact Nat.le_trans (ih (by omega) (by omega)) (h.mono k (by omega))
theorem Built.low {w:World} {lo j:Nat} {u:Nat→Value} {f:Nat→List Int} {s:Nat→Nat} (h:Built w lo j u f s) (i:Nat) (hi:i≤j):lo≤s i:=Nat.le_trans h.lo (h.le 0 i (Nat.zero_le _) hi)
theorem Built.keep {w w':World} {lo j:Nat} {u:Nat→Value} {f:Nat→List Int} {s:Nat→Nat} (h:Built w lo j u f s) (hs:w.heap.size≤w'.heap.size) (e: ∀b,lo≤b→b<w.heap.size→w'.heap[b]?=w.heap[b]?):Built w' lo j u f s:=
 ⟨h.lo,h.mono,Nat.le_trans h.hi hs,fun i hi=> (h.at' i hi).keep fun b hb hlt=>e b (Nat.le_trans (h.low i (by omega)) hb.1) hlt⟩
theorem Built.later {w w':World} {lo j:Nat} {u:Nat→Value} {f:Nat→List Int} {s:Nat→Nat} (h:Built w lo j u f s) (hb:Below w.heap.size w w'):Built w' lo j u f s:=h.keep hb.size fun b _ hlt=>hb.block b hlt
theorem Built.store {w:World} {lo j:Nat} {u:Nat→Value} {f:Nat→List Int} {s:Nat→Nat} (h:Built w lo j u f s) {p:Addr} (hp:p.block<lo) (v:Value):Built (w.setCell p v) lo j u f s:=
 h.keep (by simp [World.setCell]) fun b hb _=>Below.heap_setCell _ _ _ _ (by omega)
theorem Built.next {w w':World} {lo j:Nat} {u:Nat→Value} {f:Nat→List Int} {s:Nat→Nat} {v:Value} (h:Built w lo j u f s) (hb:Below w.heap.size w w') (hv:qak w' v (f j) (qaj w w')):
 Built w' lo (j+1) (fun i=>if i=j then v else u i) f (fun i=>if i≤j then s i else w'.heap.size):=by
 have h':=h.later hb
 have en: ∀i:Nat,¬i+1≤i:=fun i=>by omega
 refine ⟨by simpa using h.lo,fun i hi=> ?_,by simp [en],fun i hi=> ?_⟩
 · by_cases e:i=j
   · subst e;simp [en];exact h'.hi
   · simp [show i≤j by omega,show i+1≤j by omega];exact h.mono i (by omega)
 · by_cases e:i=j
   · subst e
     simp [en]
     exact hv.mono fun b hb=> ⟨Nat.le_trans h.hi hb.1,hb.2⟩
   · simp [e,show i≤j by omega,show i+1≤j by omega]
     exact h'.at' i (by omega)
theorem Built.apart {w:World} {lo n:Nat} {u:Nat→Value} {f:Nat→List Int} {s:Nat→Nat} (h:Built w lo n u f s) (i j c:Nat) (e:i≠j) (h1:i<n∧s i≤c∧c<s (i+1)) (h2:j<n∧s j≤c∧c<s (j+1)):False:=by
 rcases Nat.lt_or_gt_of_ne e with h3|h3
 · have:=h.le (i+1) j (by omega) (by omega);omega
 · have:=h.le (j+1) i (by omega) (by omega);omega
theorem Built.ints {w:World} {lo n b cap:Nat} {u:Nat→Value} {f:Nat→List Int} {s:Nat→Nat} (h:Built w lo n u f s) (zss:List (List Int)) (hn:zss.length=n) (hf: ∀i,i<n→f i=zss[i]?.getD []) (hm:n≤maxLen) (hb:b<lo) (hr:qaa w b n u) (F:Nat→Prop) (hF:F b) (hF': ∀c,lo≤c→c<w.heap.size→F c):
 qa3 w (.slice (some ⟨b,0,none⟩) n cap) zss F:=by
 subst hn
 refine Or.inr ⟨b,cap,u,fun i c=>i<zss.length∧s i≤c∧c<s (i+1),hF,fun i c hc=> ?_,fun i j c e h1 h2=>h.apart i j c e h1 h2,rfl,hm,hr,fun i hi=> ?_⟩
 · have h1:=h.low i (by omega)
   have h2:=h.le (i+1) zss.length (by omega) (Nat.le_refl _)
   have h3:=h.hi
   exact ⟨hF' c (by omega) (by omega),by omega⟩
 · rw [←hf i hi]
   exact (h.at' i hi).mono fun c hc=> ⟨hi,hc⟩
theorem Built.puts {w:World} {lo n b cap:Nat} {u:Nat→Value} {f:Nat→List Int} {s:Nat→Nat} (h:Built w lo n u f s) (ps:List (Int×List Int)) (hn:ps.length=n) (hf: ∀i,i<n→f i= (ps[i]?.getD (0, [])).2) (hm:n≤maxLen) (hb:b<lo) (hr:qaa w b (n*2) (qcy ps u)) (F:Nat→Prop) (hF:F b) (hF': ∀c,lo≤c→c<w.heap.size→F c):
 qde w (.slice (some ⟨b,0,none⟩) n cap) ps F:=by
 subst hn
 refine Or.inr ⟨b,cap,u,fun i c=>i<ps.length∧s i≤c∧c<s (i+1),hF,fun i c hc=> ?_,fun i j c e h1 h2=>h.apart i j c e h1 h2,rfl,hm,hr,fun i hi=> ?_⟩
 · have h1:=h.low i (by omega)
   have h2:=h.le (i+1) ps.length (by omega) (Nat.le_refl _)
   have h3:=h.hi
   exact ⟨hF' c (by omega) (by omega),by omega⟩
 · rw [←hf i hi]
   exact (h.at' i hi).mono fun c hc=> ⟨hi,hc⟩

theorem qaa.made (w:World) (z:Value) (n:Nat) (t:TypeId):qaa (w.alloc (.cells (madeCells #[z] n) t)) w.heap.size n (fun _=>z):=by
 obtain ⟨c,h1,h2,h3⟩:=World.rowIs_made w z n t
 exact ⟨c,t,h1,by omega,h3⟩
theorem qsZ {W w1:World} (hb:Below W.heap.size W w1): (∀b o,b<W.heap.size→w1.cell? ⟨b,o,none⟩=W.cell? ⟨b,o,none⟩)∧ (∀b o,b<W.heap.size→w1.frozen? ⟨b,o,none⟩=W.frozen? ⟨b,o,none⟩):=
 ⟨fun b o h=>hb.cell (p:= ⟨b,o,none⟩) h,fun b o h=>hb.frozen (p:= ⟨b,o,none⟩) h⟩
theorem qkr (w:World) (o o' o'':Obj):Below w.heap.size w (((w.alloc o).alloc o').alloc o''):= (qam w o o').alloc (by simp;omega) _

theorem qd9 {P:Program} (t e:TypeId) (x y:Value) (bytes:Nat) (ht:P.underlying t=some (.slice e)) (hinfo: (P.info? e).map (fun i=> (i.zero,i.size,i.bytes))=some (some (.agg #[x,y]),2,bytes)) (hz: (Value.agg #[x,y]).cells= #[x,y])
 (kl kc:IntKind) (n:Nat) (hbytes:bytes*n≤281474976710656) (h63:n≤9223372036854775807) (w:World):
 (Instr.makeSlice t (.int kl (n:Int)) (.int kc (n:Int))).run P w= .ok (.slice (some ⟨w.heap.size,0,none⟩) n n) (w.alloc (.cells (madeCells #[x,y] (n*2)) e)):=by
 obtain ⟨i,hi,hzz⟩:=Option.map_eq_some_iff.1 hinfo
 simp only [Prod.mk.injEq] at hzz
 obtain ⟨h1,h2,h3⟩:=hzz
 have hb': (i.bytes:Int)* (n:Int)≤281474976710656:=by
  have h: ((i.bytes*n:Nat):Int)≤281474976710656:=by rw [h3];omega
  rwa [Int.natCast_mul] at h
 have hr:=run_make (P:=P) w t e i _ ht hi h1 kl kc n n (by omega) (Int.le_refl _) hb' (by omega)
 simp only [Int.toNat_natCast,h2,hz] at hr
 exact hr
def qdv (x y:Value) (j:Nat):Value:=if j % 2=0 then x else y
theorem qaa.madePair (w:World) (x y:Value) (n:Nat) (t:TypeId):qaa (w.alloc (.cells (madeCells #[x,y] (n*2)) t)) w.heap.size (n*2) (qdv x y):=by
 refine ⟨_,t,Go.Deep.blk_alloc_new _ _,by rw [size_madeCells];exact Nat.le_refl _,fun i hi=> ?_⟩
 unfold madeCells qdv
 rw [Array.getElem?_map]
 have h1: (Array.range (n*2))[i]?=some i:=by simp [hi]
 rw [h1]
 rcases Nat.mod_two_eq_zero_or_one i with h|h
 · simp [h]
 · simp [h]

theorem qaa.two (w:World) (x y:Value) (t:TypeId):qaa (w.alloc (.cells #[x,y] t)) w.heap.size 2 (fun i=>if i=0 then x else y):=by
 refine ⟨_,t,Go.Deep.blk_alloc_new _ _,by simp,fun i hi=> ?_⟩
 have:i=0∨i=1:=by omega
 rcases this with rfl|rfl<;>simp
theorem qaa.later {w w':World} {b n:Nat} {f:Nat→Value} (h:qaa w b n f) (hb:Below w.heap.size w w'):qaa w' b n f:=h.block (hb.block b h.lt)

structure DiskNew (w:World) (bs:List (List Int)) (ps:List (Int×List Int)) (vB vC:Value) (w':World):Prop where
 below:Below w.heap.size w w'
 disk:qbs w' vB vC bs ps (fun b=>w.heap.size≤b∧b<w'.heap.size)

def qg3 (w:World) (code:Int) (bs:List (List Int)) (ps:List (Int×List Int)) (e:Ending) (w':World):Prop:=
 ∃aB nB cB aC nC cC,e= .returned (.agg #[.int .i64 code, .slice aB nB cB, .slice aC nC cC])∧DiskNew w bs ps (.slice aB nB cB) (.slice aC nC cC) w'

theorem qsi {w w':World} (hb:Below w.heap.size w w') (code:Int):qg3 w code [] [] (.returned (.agg #[.int .i64 code, .slice none 0 0, .slice none 0 0])) w':=
 ⟨none,0,0,none,0,0,rfl,hb,fun _=>False,fun _=>False,Or.inl ⟨rfl,none,0,rfl⟩,Or.inl ⟨rfl,none,0,rfl⟩,fun _ h=>h.elim,fun _ h=>h.elim False.elim False.elim⟩

end Go.Proofs.YthnmlipnoajmkaaGreatDoor

namespace Go.Proofs.YthnmlipnoajmkaaGreatDoor
open Go.RowKit
set_option maxRecDepth 100000

def qk4 (b:UInt8):Value:= .int .u8 ((b.toNat:Nat):Int)
def AtY (w:World) (a:Option Addr) (n:Nat) (zs:List UInt8):Prop:= ∀k,k<n→ ∃b off,a=some ⟨b,off,none⟩∧w.cell? ⟨b,off+k,none⟩=some (.int .u8 (((zs[k]?.getD 0).toNat:Nat):Int))
theorem AtY.later {w w':World} {a:Option Addr} {n:Nat} {zs:List UInt8} (h:AtY w a n zs) (hb:Below w.heap.size w w'):AtY w' a n zs:=fun k hk=>by
 obtain ⟨b,off,e,c⟩:=h k hk
 exact ⟨b,off,e,cell_later hb c⟩
def Byt (w:World) (v:Value) (zs:List UInt8):Prop:= ∃a cap,v= .slice a zs.length cap∧ (zs.length≤maxLen∧zs.length≤cap)∧AtY w a zs.length zs
theorem Byt.later {w w':World} {v:Value} {zs:List UInt8} (h:Byt w v zs) (hb:Below w.heap.size w w'):Byt w' v zs:=by
 obtain ⟨a,cap,h1,h2,h3⟩:=h
 exact ⟨a,cap,h1,h2,h3.later hb⟩
theorem Byt.nil (w:World) (a:Option Addr) (cap:Nat):Byt w (.slice a 0 cap) []:= ⟨a,cap,rfl,⟨by simp,by simp⟩,fun k hk=>by simp at hk⟩
def qbt (w:World) (v:Value) (zs:List UInt8) (F:Nat→Prop):Prop:=
 (zs= []∧ ∃a cap,v= .slice a 0 cap)∨
 (∃b cap,F b∧v= .slice (some ⟨b,0,none⟩) zs.length cap∧ (zs.length≤maxLen∧zs.length≤cap)∧qaa w b zs.length (fun i=> .int .u8 (((zs[i]?.getD 0).toNat:Nat):Int)))
theorem qbt.reads {w:World} {v:Value} {zs:List UInt8} {F:Nat→Prop} (h:qbt w v zs F):Byt w v zs:=by
 rcases h with ⟨rfl,a,cap,rfl⟩| ⟨b,cap,_,h1,h2,h3⟩
 · exact Byt.nil w a cap
 · exact ⟨_,cap,h1,h2,fun k hk=> ⟨b,0,rfl,by rw [Nat.zero_add];exact h3.cell hk⟩⟩
theorem qbt.keep {w w':World} {v:Value} {zs:List UInt8} {F:Nat→Prop} (h:qbt w v zs F) (e: ∀b,F b→b<w.heap.size→w'.heap[b]?=w.heap[b]?):qbt w' v zs F:=by
 rcases h with h| ⟨b,cap,hF,h1,h2,h3⟩
 · exact Or.inl h
 · exact Or.inr ⟨b,cap,hF,h1,h2,h3.block (e b hF h3.lt)⟩
theorem qbt.mono {w:World} {v:Value} {zs:List UInt8} {F G:Nat→Prop} (h:qbt w v zs F) (e: ∀b,F b→G b):qbt w v zs G:=by
 rcases h with h| ⟨b,cap,hF,h1⟩
 · exact Or.inl h
 · exact Or.inr ⟨b,cap,e b hF,h1⟩
theorem qbt.bound {w:World} {v:Value} {zs:List UInt8} {F:Nat→Prop} (h:qbt w v zs F):qbt w v zs (fun b=>F b∧b<w.heap.size):=by
 rcases h with h| ⟨b,cap,hF,h1,h2,h3⟩
 · exact Or.inl h
 · exact Or.inr ⟨b,cap,⟨hF,h3.lt⟩,h1,h2,h3⟩
theorem qbt.later {w w':World} {v:Value} {zs:List UInt8} {F:Nat→Prop} (h:qbt w v zs F) (hb:Below w.heap.size w w'):qbt w' v zs F:=h.keep fun b _ hlt=>hb.block b hlt
theorem qbt.chg {w w':World} {v:Value} {zs:List UInt8} {F G:Nat→Prop} (h:qbt w v zs F) (hc:Chg G w w') (hd: ∀b,F b→ ¬G b):qbt w' v zs F:=h.keep fun b hb hlt=>hc.block b hlt (hd b hb)

def qgi (w:World) (a:Option Addr) (n:Nat) (zss:List (List UInt8)):Prop:=
 ∀k,k<n→ ∃b off ua uc,a=some ⟨b,off,none⟩∧w.cell? ⟨b,off+k,none⟩=some (.slice ua (zss[k]?.getD []).length uc)∧Byt w (.slice ua (zss[k]?.getD []).length uc) (zss[k]?.getD [])
theorem qgi.later {w w':World} {a:Option Addr} {n:Nat} {zss:List (List UInt8)} (h:qgi w a n zss) (hb:Below w.heap.size w w'):qgi w' a n zss:=fun k hk=>by
 obtain ⟨b,off,ua,uc,e,c,r⟩:=h k hk
 exact ⟨b,off,ua,uc,e,cell_later hb c,r.later hb⟩
def qfn (w:World) (v:Value) (zss:List (List UInt8)):Prop:= ∃a cap,v= .slice a zss.length cap∧ (zss.length≤maxLen∧zss.length≤cap)∧qgi w a zss.length zss
theorem qfn.later {w w':World} {v:Value} {zss:List (List UInt8)} (h:qfn w v zss) (hb:Below w.heap.size w w'):qfn w' v zss:=by
 obtain ⟨a,cap,h1,h2,h3⟩:=h
 exact ⟨a,cap,h1,h2,h3.later hb⟩
theorem qfn.nil (w:World) (a:Option Addr) (cap:Nat):qfn w (.slice a 0 cap) []:= ⟨a,cap,rfl,⟨by simp,by simp⟩,fun k hk=>by simp at hk⟩
theorem qfn.open' {w:World} {v:Value} {zss:List (List UInt8)} (h:qfn w v zss): ∃a cap,v= .slice a zss.length cap∧ (zss.length≤maxLen∧zss.length≤cap)∧qgi w a zss.length zss:=h
def qaR (w:World) (v:Value) (zss:List (List UInt8)) (F:Nat→Prop):Prop:=
 (zss= []∧ ∃a cap,v= .slice a 0 cap)∨
 (∃b cap,∃u:Nat→Value,∃G:Nat→Nat→Prop,F b∧ (∀i c,G i c→F c∧c≠b)∧ (∀i j c,i≠j→G i c→ ¬G j c)∧
   v= .slice (some ⟨b,0,none⟩) zss.length cap∧ (zss.length≤maxLen∧zss.length≤cap)∧qaa w b zss.length u∧ ∀i,i<zss.length→qbt w (u i) (zss[i]?.getD []) (G i))
theorem qaR.reads {w:World} {v:Value} {zss:List (List UInt8)} {F:Nat→Prop} (h:qaR w v zss F):qfn w v zss:=by
 rcases h with ⟨rfl,a,cap,rfl⟩| ⟨b,cap,u,G,_,_,_,h1,h2,h3,h4⟩
 · exact qfn.nil w a cap
 · refine ⟨_,cap,h1,h2,fun k hk=> ?_⟩
   have hr:= (h4 k hk).reads
   obtain ⟨ua,uc,e,h5,h6⟩:=hr
   have hc:=h3.cell hk
   rw [e] at hc
   exact ⟨b,0,ua,uc,rfl,by rw [Nat.zero_add];exact hc,ua,uc,rfl,h5,h6⟩
theorem qaR.keep {w w':World} {v:Value} {zss:List (List UInt8)} {F:Nat→Prop} (h:qaR w v zss F) (e: ∀b,F b→b<w.heap.size→w'.heap[b]?=w.heap[b]?):qaR w' v zss F:=by
 rcases h with h| ⟨b,cap,u,G,hF,hG,hGG,h1,h2,h3,h4⟩
 · exact Or.inl h
 · exact Or.inr ⟨b,cap,u,G,hF,hG,hGG,h1,h2,h3.block (e b hF h3.lt),fun i hi=> (h4 i hi).keep fun c hc=>e c (hG i c hc).1⟩
theorem qaR.mono {w:World} {v:Value} {zss:List (List UInt8)} {F F':Nat→Prop} (h:qaR w v zss F) (e: ∀b,F b→F' b):qaR w v zss F':=by
 rcases h with h| ⟨b,cap,u,G,hF,hG,h1⟩
 · exact Or.inl h
 · exact Or.inr ⟨b,cap,u,G,e b hF,fun i c hc=> ⟨e c (hG i c hc).1,(hG i c hc).2⟩,h1⟩
theorem qaR.bound {w:World} {v:Value} {zss:List (List UInt8)} {F:Nat→Prop} (h:qaR w v zss F):qaR w v zss (fun b=>F b∧b<w.heap.size):=by
 rcases h with h| ⟨b,cap,u,G,hF,hG,hGG,h1,h2,h3,h4⟩
 · exact Or.inl h
 · exact Or.inr ⟨b,cap,u,fun i c=>G i c∧c<w.heap.size,⟨hF,h3.lt⟩,fun i c hc=> ⟨⟨(hG i c hc.1).1,hc.2⟩,(hG i c hc.1).2⟩,fun i j c e hc hc'=>hGG i j c e hc.1 hc'.1,h1,h2,h3,fun i hi=> (h4 i hi).bound⟩
theorem qaR.later {w w':World} {v:Value} {zss:List (List UInt8)} {F:Nat→Prop} (h:qaR w v zss F) (hb:Below w.heap.size w w'):qaR w' v zss F:=h.keep fun b _ hlt=>hb.block b hlt
theorem qaR.chg {w w':World} {v:Value} {zss:List (List UInt8)} {F G:Nat→Prop} (h:qaR w v zss F) (hc:Chg G w w') (hd: ∀b,F b→ ¬G b):qaR w' v zss F:=h.keep fun b hb hlt=>hc.block b hlt (hd b hb)
def qax (zss:List (List UInt8)):List Nat:=zss.map List.length
theorem qba (zss:List (List UInt8)): (qax zss).length=zss.length:=by simp [qax]
theorem qea (zss:List (List UInt8)) (i:Nat): (qax zss)[i]?.getD 0= (zss[i]?.getD []).length:=by
 unfold qax;rw [List.getElem?_map];cases zss[i]?<;>rfl
def qb2 (zss:List (List UInt8)):Nat:=zss.length+ (qax zss).sum
theorem qg4 (zss:List (List UInt8)) (k:Nat): (zss[k]?.getD []).length≤ (qax zss).sum:=by
 by_cases h:k<zss.length
 · have h1:=qaU (qax zss) k (by rw [qba];exact h)
   rw [qea] at h1
   have h2:=qbJ (qax zss) (k+1)
   omega
 · rw [List.getElem?_eq_none (by omega)];simp

structure BuiltY (w:World) (lo j:Nat) (u:Nat→Value) (f:Nat→List UInt8) (s:Nat→Nat):Prop where
 lo:lo≤s 0
 mono: ∀i,i<j→s i≤s (i+1)
 hi:s j≤w.heap.size
 at': ∀i,i<j→qbt w (u i) (f i) (fun b=>s i≤b∧b<s (i+1))
theorem BuiltY.nil {w:World} {lo:Nat} (u:Nat→Value) (f:Nat→List UInt8) (h:lo≤w.heap.size):BuiltY w lo 0 u f (fun _=>w.heap.size):=
 ⟨h,fun i hi=>by omega,Nat.le_refl _,fun i hi=>by omega⟩
theorem BuiltY.le {w:World} {lo j:Nat} {u:Nat→Value} {f:Nat→List UInt8} {s:Nat→Nat} (h:BuiltY w lo j u f s): ∀i k,i≤k→k≤j→s i≤s k:=by
 intro i k hik
 induction k with
 | zero => intro _;have:i=0:=by omega
           subst this;exact Nat.le_refl _
 | succ k ih=>
   intro hk
   by_cases e:i=k+1
   · subst e;exact Nat.le_refl _
   · exact Nat.le_trans (ih (by omega) (by omega)) (h.mono k (by omega))
theorem BuiltY.low {w:World} {lo j:Nat} {u:Nat→Value} {f:Nat→List UInt8} {s:Nat→Nat} (h:BuiltY w lo j u f s) (i:Nat) (hi:i≤j):lo≤s i:=Nat.le_trans h.lo (h.le 0 i (Nat.zero_le _) hi)
theorem BuiltY.keep {w w':World} {lo j:Nat} {u:Nat→Value} {f:Nat→List UInt8} {s:Nat→Nat} (h:BuiltY w lo j u f s) (hs:w.heap.size≤w'.heap.size) (e: ∀b,lo≤b→b<w.heap.size→w'.heap[b]?=w.heap[b]?):BuiltY w' lo j u f s:=
 ⟨h.lo,h.mono,Nat.le_trans h.hi hs,fun i hi=> (h.at' i hi).keep fun b hb hlt=>e b (Nat.le_trans (h.low i (by omega)) hb.1) hlt⟩
theorem BuiltY.later {w w':World} {lo j:Nat} {u:Nat→Value} {f:Nat→List UInt8} {s:Nat→Nat} (h:BuiltY w lo j u f s) (hb:Below w.heap.size w w'):BuiltY w' lo j u f s:=h.keep hb.size fun b _ hlt=>hb.block b hlt
theorem BuiltY.store {w:World} {lo j:Nat} {u:Nat→Value} {f:Nat→List UInt8} {s:Nat→Nat} (h:BuiltY w lo j u f s) {p:Addr} (hp:p.block<lo) (v:Value):BuiltY (w.setCell p v) lo j u f s:=
 h.keep (by simp [World.setCell]) fun b hb _=>Below.heap_setCell _ _ _ _ (by omega)
theorem BuiltY.next {w w':World} {lo j:Nat} {u:Nat→Value} {f:Nat→List UInt8} {s:Nat→Nat} {v:Value} (h:BuiltY w lo j u f s) (hb:Below w.heap.size w w') (hv:qbt w' v (f j) (qaj w w')):
 BuiltY w' lo (j+1) (fun i=>if i=j then v else u i) f (fun i=>if i≤j then s i else w'.heap.size):=by
 have h':=h.later hb
 have en: ∀i:Nat,¬i+1≤i:=fun i=>by omega
 refine ⟨by simpa using h.lo,fun i hi=> ?_,by simp [en],fun i hi=> ?_⟩
 · by_cases e:i=j
   · subst e;simp [en];exact h'.hi
   · simp [show i≤j by omega,show i+1≤j by omega];exact h.mono i (by omega)
 · by_cases e:i=j
   · subst e
     simp [en]
     exact hv.mono fun b hb=> ⟨Nat.le_trans h.hi hb.1,hb.2⟩
   · simp [e,show i≤j by omega,show i+1≤j by omega]
     exact h'.at' i (by omega)
theorem BuiltY.apart {w:World} {lo n:Nat} {u:Nat→Value} {f:Nat→List UInt8} {s:Nat→Nat} (h:BuiltY w lo n u f s) (i j c:Nat) (e:i≠j) (h1:i<n∧s i≤c∧c<s (i+1)) (h2:j<n∧s j≤c∧c<s (j+1)):False:=by
 rcases Nat.lt_or_gt_of_ne e with h3|h3
 · have:=h.le (i+1) j (by omega) (by omega);omega
 · have:=h.le (j+1) i (by omega) (by omega);omega
theorem BuiltY.byts {w:World} {lo n b cap:Nat} {u:Nat→Value} {s:Nat→Nat} (zss:List (List UInt8)) (h:BuiltY w lo n u (fun i=>zss[i]?.getD []) s) (hn:zss.length=n) (hm:n≤maxLen∧n≤cap) (hb:b<lo) (hr:qaa w b n u) (F:Nat→Prop) (hF:F b) (hF': ∀c,lo≤c→c<w.heap.size→F c):
 qaR w (.slice (some ⟨b,0,none⟩) n cap) zss F:=by
 subst hn
 refine Or.inr ⟨b,cap,u,fun i c=>i<zss.length∧s i≤c∧c<s (i+1),hF,fun i c hc=> ?_,fun i j c e h1 h2=>h.apart i j c e h1 h2,rfl,hm,hr,fun i hi=> ?_⟩
 · have h1:=h.low i (by omega)
   have h2:=h.le (i+1) zss.length (by omega) (Nat.le_refl _)
   have h3:=h.hi
   exact ⟨hF' c (by omega) (by omega),by omega⟩
 · exact (h.at' i hi).mono fun c hc=> ⟨hi,hc⟩
end Go.Proofs.YthnmlipnoajmkaaGreatDoor

namespace Go.Proofs.YthnmlipnoajmkaaGreatDoor
open Go.RowKit
set_option maxRecDepth 100000

def szf (left:Int) (n:Nat):Int:=if left< (n:Int) then -1 else left- (n:Int)
theorem qbQ {left:Int} {n:Nat} (h:left< (n:Int)):szf left n= -1:=by simp [szf,h]
theorem qbY {left:Int} {n:Nat} (h: ¬left< (n:Int)):szf left n=left- (n:Int):=by simp [szf,h]

theorem qjg (w:World) (a:Option Addr) (n cap:Nat) (left:Int) (h0:0≤left) (h1:left≤1048576) (hn:n≤maxLen):
 Calls Tryz.prog 71 #[.slice a n cap, .int .i64 left] w fun e w'=>e= .returned (.int .i64 (szf left n))∧w'=w:=by
 unfold maxLen at hn
 by_cases h:left< (n:Int)
 · rw [qbQ h]
   have h':left- (n:Int)<0:=by omega
   go_enter Tryz.func71,Tryz.ntmps71
   go_wp2
   go_ret
   exact ⟨rfl,rfl⟩
 · rw [qbY h]
   have h': ¬left- (n:Int)<0:=by omega
   go_enter Tryz.func71,Tryz.ntmps71
   go_wp2
   go_ret
   exact ⟨rfl,rfl⟩

theorem qeI {w:World} {v:Value} {zs:List Int} (h:qb1 w v zs) (left:Int) (h0:0≤left) (h1:left≤1048576):
 Calls Tryz.prog 71 #[v, .int .i64 left] w fun e w'=>e= .returned (.int .i64 (szf left zs.length))∧w'=w:=by
 obtain ⟨a,cap,rfl,hn⟩:=h.shape
 exact qjg w a _ cap left h0 h1 hn

def qqQ (bs:List (List Int)) (ps:List (Int×List Int)):Nat:=bs.length+ (bs.map List.length).sum+ (ps.length+ (qeH ps).sum)

end Go.Proofs.YthnmlipnoajmkaaGreatDoor

namespace Go.Proofs.YthnmlipnoajmkaaGreatDoor
open Go.RowKit
set_option maxRecDepth 100000

theorem Tryz.infoInt: (Tryz.prog.info? 2).map (fun i=> (i.zero,i.size,i.bytes))=some (some (.int .i64 0),1,8):=by kernel_rfl
theorem Tryz.infoInts: (Tryz.prog.info? 64).map (fun i=> (i.zero,i.size,i.bytes))=some (some (.slice none 0 0),1,24):=by kernel_rfl

set_option maxHeartbeats 400000 in
theorem qk5 (w:World) (a:Option Addr) (cap n:Nat) (hn:n≤0):
 Calls Tryz.prog 83 #[.slice a n cap] w fun e w'=>e= .returned (.slice (some ⟨w.heap.size,0,none⟩) n n)∧Below w.heap.size w w':=by
 have hmk:=fun w=>run_make_row' (P:=Tryz.prog) 64 2 (.int .i64 0) 8 Tryz.underlying64 Tryz.infoInt rfl .i64 .i64 n (by omega) (by omega) w
 go_enter Tryz.func83,Tryz.ntmps83
 go_wp2
 go_loop [4] (fun i=>i= .int .i64 0) (fun _=>0)
 case atStart=>rfl
 case round=>
  obtain rfl:=hrel
  go_wp2
  go_ret
  exact ⟨rfl,qab _ _⟩

set_option maxHeartbeats 400000 in
theorem qjh (w:World) (b off cap n:Nat) (zs:List Int) (hn:n≤1048576) (hc: ∀k,k<n→w.cell? ⟨b,off+k,none⟩=some (.int .i64 (zs[k]?.getD 0))):
 Calls Tryz.prog 83 #[.slice (some ⟨b,off,none⟩) n cap] w fun e w'=>e= .returned (.slice (some ⟨w.heap.size,0,none⟩) n n)∧Below w.heap.size w w'∧qaa w' w.heap.size n (fun i=> .int .i64 (zs[i]?.getD 0)):=by
 have hmk:=fun w=>run_make_row' (P:=Tryz.prog) 64 2 (.int .i64 0) 8 Tryz.underlying64 Tryz.infoInt rfl .i64 .i64 n (by omega) (by omega) w
 go_enter Tryz.func83,Tryz.ntmps83
 go_wp2
 go_loopw [4] (fun i wr=> ∃j:Nat,j≤n∧i= .int .i64 j∧Below w.heap.size w wr∧qaa wr w.heap.size n (fun i=>if i<j then .int .i64 (zs[i]?.getD 0) else .int .i64 0)) (fun i _=>n- (intOf i).toNat)
 case atStart=>exact ⟨0,Nat.zero_le _,rfl,qab _ _,(qaa.made w (.int .i64 0) n 2).congr fun i _=>by simp⟩
 case round=>
  obtain ⟨j,hj,rfl,hbl,hrow⟩:=hrel
  by_cases hlt:j<n
  · have c1:=cell_later hbl (hc j hlt)
    have d1:=hrow.cell hlt
    have d2:=hrow.frozen j
    simp only [Nat.lt_irrefl,if_false] at d1
    have HBL:Hid (Below w.heap.size w wr):=hbl
    have HROW:Hid (qaa wr w.heap.size n (fun i=>if i<j then .int .i64 (zs[i]?.getD 0) else .int .i64 0)):=hrow
    clear hbl hrow hc
    go_wp2
    go_roundw
    case rel=>
     refine ⟨j+1,by omega,by go_num,HBL.out.setCell (Nat.le_refl _) _,(HROW.out.set j _).congr fun i hi=> ?_⟩
     by_cases e:i=j
     · subst e;simp
     · by_cases e2:i<j
       · simp [e,e2,show i<j+1 by omega]
       · simp [e,e2,show ¬i<j+1 by omega]
    case measure=>simp [intOf];omega
  · go_wp2
    go_ret
    have e:j=n:=by omega
    subst e
    exact ⟨rfl,hbl,hrow.congr fun i hi=>by simp [hi]⟩

theorem qgu {w:World} {v:Value} {zs:List Int} (h:qb1 w v zs) (hn:zs.length≤1048576):
 Calls Tryz.prog 83 #[v] w fun e w'=>e= .returned (.slice (some ⟨w.heap.size,0,none⟩) zs.length zs.length)∧Below w.heap.size w w'∧qak w' (.slice (some ⟨w.heap.size,0,none⟩) zs.length zs.length) zs (qaj w w'):=by
 rcases h with ⟨rfl,a,cap,rfl⟩| ⟨b,off,cap,rfl,hl,hc⟩
 · exact (qk5 w a cap 0 (Nat.le_refl _)).mono fun e w' ⟨he,hb⟩=> ⟨he,hb,Or.inl ⟨rfl,_,_,rfl⟩⟩
 · exact (qjh w b off cap zs.length zs hn hc).mono fun e w' ⟨he,hb,hr⟩=> ⟨he,hb,Or.inr ⟨w.heap.size,_,⟨Nat.le_refl _,hr.lt⟩,rfl,hl,hr⟩⟩

theorem qql (zss:List (List Int)): ∀k:Nat,(zss[k]?.getD []).length≤ (zss.map List.length).sum:=by
 intro k
 by_cases h:k<zss.length
 · have h1:=qaU (zss.map List.length) k (by simpa using h)
   rw [qnS] at h1
   have h2:=qbJ (zss.map List.length) (k+1)
   omega
 · rw [List.getElem?_eq_none (by omega)];simp
theorem qpg (ps:List (Int×List Int)): ∀k:Nat,(ps[k]?.getD (0, [])).2.length≤ (qeH ps).sum:=by
 intro k
 by_cases h:k<ps.length
 · have h1:=qaU (qeH ps) k (by rw [qhX];exact h)
   rw [ql7] at h1
   have h2:=qbJ (qeH ps) (k+1)
   omega
 · rw [List.getElem?_eq_none (by omega)];simp

def qg5 (ps:List (Int×List Int)) (u:Nat→Value) (j c:Nat):Value:=if c<j*2 then qcy ps u c else qdv (.int .i64 0) (.slice none 0 0) c
theorem qnT (ps:List (Int×List Int)) (u:Nat→Value) (j c:Nat) (v:Value): (if c=j*2+1 then v else (if c=j*2 then .int .i64 (ps[j]?.getD (0, [])).1 else qg5 ps u j c))=qg5 ps (fun i=>if i=j then v else u i) (j+1) c:=by
 unfold qg5
 by_cases e:c=j*2+1
 · subst e;rw [if_pos rfl,if_pos (by omega),qd8];simp
 · rw [if_neg e]
   by_cases e2:c=j*2
   · subst e2;rw [if_pos rfl,if_pos (by omega),qgt]
   · rw [if_neg e2]
     by_cases e3:c<j*2
     · rw [if_pos e3,if_pos (by omega)]
       unfold qcy
       by_cases e4:c % 2=0
       · rw [if_pos e4,if_pos e4]
       · rw [if_neg e4,if_neg e4]
         show u (c/2)=if c/2=j then v else u (c/2)
         rw [if_neg (by omega)]
     · rw [if_neg e3,if_neg (by omega)]

def qsj (w:World) (bs:List (List Int)) (ps:List (Int×List Int)) (e:Ending) (w':World):Prop:=
 ∃aB nB cB aC nC cC,e= .returned (.agg #[.slice aB nB cB, .slice aC nC cC])∧Below w.heap.size w w'∧qbs w' (.slice aB nB cB) (.slice aC nC cC) bs ps (qaj w w')

end Go.Proofs.YthnmlipnoajmkaaGreatDoor
