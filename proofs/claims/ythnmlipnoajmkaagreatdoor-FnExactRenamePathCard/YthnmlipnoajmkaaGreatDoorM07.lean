/- The last name of a path:both sides. Lists of texts as arguments;the specification's JoinPath;the law of JoinPath. Whether a path lies below another one:the specification's side. Splitting a path:the contracts of the law. Lists of texts in own memory;answers that hold one,in the one form. Lists of bytes as arguments:compared and marked,in the one form. Rows told by the list of their values. Lists of extents:how they read,what they own. No program is named here. The walks of the laws' functions over lists of extents. What 'append' and 'copy' of extents come to. The walks of the functions that copy a list of integers:the specification's by append,the program's by copy. The program's copying of a list of extents. What 'append' and 'copy' of entries come to. Rows that grow by append,each element with a list of its own. -/
import Derived.Test.YthnmlipnoajmkaaGreatDoorM06
import Derived.Test.YthnmlipnoajmkaaGreatDoorM03
import Derived.Test.YthnmlipnoajmkaaGreatDoorM00
import Derived.Test.YthnmlipnoajmkaaGreatDoorM01
import Derived.Test.YthnmlipnoajmkaaGreatDoorRows
import Derived.Deep.RegionWith
import Derived.Deep.RegionHeld3
import Derived.Test.YthnmlipnoajmkaaGreatDoorM02
import Derived.Deep.AppendLies
import Derived.Laws.CopyOwn
import Derived.Test.YthnmlipnoajmkaaGreatDoorM04
namespace Go.Proofs.YthnmlipnoajmkaaGreatDoor
open Go.RowKit
set_option maxRecDepth 100000

theorem qqo (w:World) (p:List UInt8):
 Calls Tryz.prog 79 #[.string (mkB p)] w fun e w'=> ∃v,e= .returned (.tuple #[v, .string (mkB (qc0 p)), .int .i64 (qeN p)])∧Below w.heap.size w w':=by
 by_cases h:qan p=0
 · rcases hm: (qaf p).length with _|m
   · refine (qfI w p h hm).mono ?_
     rintro e w' ⟨rfl,hb⟩
     have:qaf p= []:=List.length_eq_zero_iff.1 hm
     exact ⟨_,by unfold qc0 qeN;rw [if_pos h,if_pos h,if_pos hm,this];rfl,hb⟩
   · refine (qih w p h m hm).mono ?_
     rintro e w' ⟨A,C,rfl,hb,_⟩
     exact ⟨_,by unfold qc0 qeN;rw [if_pos h,if_pos h,if_neg (by omega),hm];rfl,hb⟩
 · refine (qgE w p h).mono ?_
   rintro e w' ⟨rfl,hb⟩
   exact ⟨_,by unfold qc0 qeN;rw [if_neg h,if_neg h];rfl,hb⟩
theorem qq0 {p:List UInt8} (h: ¬qeN p=0):qc0 p= []:=by
 unfold qeN at h
 unfold qc0
 by_cases h0:qan p=0
 · rw [if_pos h0] at h ⊢
   have h1: (qaf p).length=0:=by
    by_cases e: (qaf p).length=0
    · exact e
    · rw [if_neg e] at h;omega
   have:qaf p= []:=List.length_eq_zero_iff.1 h1
   rw [this];rfl
 · rw [if_neg h0]

set_option maxHeartbeats 1600000 in
theorem qpw (w:World) (p:List UInt8) (hp:p.length≤1048576) (h: ¬qan p=0):
 Calls Tryz.prog 94 #[.string (mkB p)] w fun e w'=>e= .returned (.tuple #[.slice none 0 0, .int .i64 (qan p)])∧Below w.heap.size w w':=by
 have HC:Hid (∀W,Calls Tryz.prog 119 #[.string (mkB p)] W fun e w'=>e= .returned (.agg #[.int .i64 (qan p), .slice none 0 0])∧Below W.heap.size W w'):=fun W=>qb4 W p hp h
 generalize qan p=z at*
 have hne: (z !=0)=true:=by simpa using h
 clear h
 go_enter Tryz.func94,Tryz.ntmps94
 go_wp2_with fail
 refine (HC.out _).mono ?_
 rintro e w1 ⟨rfl,hb1⟩
 have HW1:Hid (Below w.heap.size w w1):=hb1
 clear HC hb1
 go_wp2
 go_quiet (fail)
 go_wp2
 go_ret2
 exact ⟨rfl,below_drewN (HW1.out.trans ((qab _ _).mono HW1.out.size)) nq⟩

set_option maxHeartbeats 1600000 in
theorem qn5 (w:World) (p:List UInt8) (hp:p.length≤1048576) (h:qan p=0) (h0: (qaf p).length=0):
 Calls Tryz.prog 94 #[.string (mkB p)] w fun e w'=>e= .returned (.tuple #[.slice none 0 0, .int .i64 4])∧Below w.heap.size w w':=by
 have HC:Hid (∀W,Calls Tryz.prog 119 #[.string (mkB p)] W fun e w'=> ∃a c,e= .returned (.agg #[.int .i64 0, .slice a 0 c])∧Below W.heap.size W w'):=fun W=> (qbS W p hp h).mono (by
  rintro e w' ⟨a,c,rfl,hb,_⟩
  exact ⟨a,c,by rw [h0],hb⟩)
 clear h h0
 go_enter Tryz.func94,Tryz.ntmps94
 go_wp2_with fail
 refine (HC.out _).mono ?_
 rintro e w1 ⟨a,c,rfl,hb1⟩
 have HW1:Hid (Below w.heap.size w w1):=hb1
 clear HC hb1
 go_wp2
 go_ret2
 exact ⟨rfl,HW1.out.trans ((qab _ _).mono HW1.out.size)⟩

set_option maxHeartbeats 1600000 in
theorem qq1 (w:World) (p:List UInt8) (hp:p.length≤1048576) (h:qan p=0) (m:Nat) (h0: (qaf p).length=m+1):
 Calls Tryz.prog 94 #[.string (mkB p)] w fun e w'=> ∃a c,e= .returned (.tuple #[.slice a (m+1) c, .int .i64 0])∧Below w.heap.size w w'∧AtT w' a (m+1) (qaf p)∧m+1≤c:=by
 have HC:Hid (∀W,Calls Tryz.prog 119 #[.string (mkB p)] W fun e w'=> ∃a c,e= .returned (.agg #[.int .i64 0, .slice a (m+1) c])∧Below W.heap.size W w'∧AtT w' a (m+1) (qaf p)∧m+1≤c):=fun W=> (qbS W p hp h).mono (by
  rintro e w' ⟨a,c,rfl,hb,hr⟩
  rw [h0] at hr
  rw [←h0] at hr
  exact ⟨a,c,by rw [h0],hb,by have:= (qbr hr).2;rwa [h0] at this,by have:=qcg hr;omega⟩)
 clear h h0
 generalize qaf p=xs at*
 have hnz: (((m+1:Nat):Int)==0)=false:=by rw [beq_eq_false_iff_ne];omega
 generalize hM:m+1=M at*
 go_enter Tryz.func94,Tryz.ntmps94
 go_wp2_with fail
 refine (HC.out _).mono ?_
 rintro e w1 ⟨a,c,rfl,hb1,hat,hc⟩
 have HW1:Hid (Below w.heap.size w w1):=hb1
 have HAT:Hid (AtT w1 a M xs):=hat
 have HCC:Hid (M≤c):=hc
 clear HC hb1 hat hc
 go_wp2
 go_ret2
 exact ⟨a,c,rfl,HW1.out.trans ((qab _ _).mono HW1.out.size),HAT.out.later (qab _ _),HCC.out⟩
end Go.Proofs.YthnmlipnoajmkaaGreatDoor

namespace Go.Proofs.YthnmlipnoajmkaaGreatDoor
open Go.RowKit
set_option maxRecDepth 100000

def qtj (w:World) (v:Value) (xs:List (List UInt8)):Prop:= ∃a c,v= .slice a xs.length c∧xs.length≤maxLen∧ (∀k:Nat,(xs[k]?.getD []).length≤maxLen)∧AtT w a xs.length xs
def qii (xs:List (List UInt8)):List Nat:=xs.map List.length
theorem qij (xs:List (List UInt8)): (qii xs).length=xs.length:=by simp [qii]
theorem qmG (xs:List (List UInt8)) (i:Nat): (qii xs)[i]?.getD 0= (xs[i]?.getD []).length:=by
 unfold qii;rw [List.getElem?_map];cases xs[i]?<;>rfl
def qs3 (xs:List (List UInt8)):Nat:=xs.length+ (qii xs).sum
theorem qrK (xs:List (List UInt8)) (k:Nat): (xs[k]?.getD []).length≤ (qii xs).sum:=by
 by_cases h:k<xs.length
 · have h1:=qaU (qii xs) k (by rw [qij];exact h)
   have h2:=qbJ (qii xs) (k+1)
   rw [qmG] at h1
   omega
 · rw [List.getElem?_eq_none (by omega)];simp

def qs4 (xs:List (List UInt8)):List UInt8:=if qcG xs=0 then qff xs else []
end Go.Proofs.YthnmlipnoajmkaaGreatDoor

namespace Go.Proofs.YthnmlipnoajmkaaGreatDoor
open Go.RowKit
set_option maxRecDepth 100000

def Spl (w w':World) (p:List UInt8) (a:Option Addr) (c:Nat):Prop:=Below w.heap.size w w'∧AtT w' a (qah p).length (qah p)∧ (qah p).length≤c
theorem qgG (p:List UInt8) (hp:p.length≤1048576): (qah p).length≤1048577:=by
 unfold qah
 split
 · have:=qcE p;omega
 · simp
theorem qn6 (w:World) (p:List UInt8):
 Calls Tryz.prog 112 #[.string (mkB p)] w fun e w'=> ∃a c,e= .returned (.tuple #[.slice a (qah p).length c, .int .i64 (qan p)])∧Spl w w' p a c:=by
 by_cases h:qan p=0
 · refine (qct w p h).mono ?_
   rintro e w' ⟨a,c,rfl,hb,hr⟩
   have hs:qah p=qaf p:=if_pos h
   unfold Spl
   rw [hs,h]
   exact ⟨a,c,rfl,hb,(qbr hr).2,qcg hr⟩
 · refine (qcZ w p h).mono ?_
   rintro e w' ⟨rfl,hb⟩
   have hs:qah p= []:=if_neg h
   unfold Spl
   rw [hs]
   exact ⟨none,0,rfl,hb,fun k hk=>by simp at hk,Nat.le_refl _⟩
theorem qn7 (w:World) (p:List UInt8) (hp:p.length≤1048576):
 Calls Tryz.prog 119 #[.string (mkB p)] w fun e w'=> ∃a c,e= .returned (.agg #[.int .i64 (qan p), .slice a (qah p).length c])∧Spl w w' p a c:=by
 by_cases h:qan p=0
 · refine (qbS w p hp h).mono ?_
   rintro e w' ⟨a,c,rfl,hb,hr⟩
   have hs:qah p=qaf p:=if_pos h
   unfold Spl
   rw [hs,h]
   exact ⟨a,c,rfl,hb,(qbr hr).2,qcg hr⟩
 · refine (qb4 w p hp h).mono ?_
   rintro e w' ⟨rfl,hb⟩
   have hs:qah p= []:=if_neg h
   unfold Spl
   rw [hs]
   exact ⟨none,0,rfl,hb,fun k hk=>by simp at hk,Nat.le_refl _⟩
def qsL (p t:List UInt8):Bool:=decide (qan p=0)&& (decide (qan t=0)&& (decide ((qah t).length< (qah p).length)&&decide ((qah p).take (qah t).length=qah t)))
theorem qsr {xs ys:List (List UInt8)} {j:Nat} (hj:j<ys.length) (h: ¬xs[j]?.getD []=ys[j]?.getD []): ¬xs.take ys.length=ys:=fun e=>h (by
 have:=congrArg (fun l=>l[j]?.getD []) e
 simpa [List.getElem?_take,hj] using this)
theorem qrL {xs ys:List (List UInt8)} (hl:ys.length<xs.length) (h: ∀j,j<ys.length→xs[j]?.getD []=ys[j]?.getD []):xs.take ys.length=ys:=by
 refine List.ext_getElem (by simp;omega) fun i h1 h2=> ?_
 have:=h i h2
 rw [List.getElem?_eq_getElem (by omega),List.getElem?_eq_getElem h2] at this
 simpa using this

end Go.Proofs.YthnmlipnoajmkaaGreatDoor

namespace Go.Proofs.YthnmlipnoajmkaaGreatDoor
open Go.RowKit
set_option maxRecDepth 100000

def qnL (w:World) (a:Option Addr) (n:Nat) (f:Nat→Value) (lo hi:Nat):Prop:=n=0∨ ∃g,a=some ⟨g,0,none⟩∧lo≤g∧g<hi∧qaa w g n f
def qs5 (a:Option Addr) (lo hi b:Nat):Prop:=a=some ⟨b,0,none⟩∧lo≤b∧b<hi
theorem qnL.later {w w':World} {a:Option Addr} {n:Nat} {f:Nat→Value} {lo hi:Nat} (h:qnL w a n f lo hi) (hb:Below w.heap.size w w'):qnL w' a n f lo hi:=by
 rcases h with h| ⟨g,e,h1,h2,h3⟩
 · exact Or.inl h
 · exact Or.inr ⟨g,e,h1,h2,h3.block (hb.block g h3.lt)⟩
theorem qkD {w:World} {B:Nat} {e:TypeId} {a:Option Addr} {n c:Nat} {xs:List (List UInt8)} (h:w.ownsRow B e 1 (.slice a n c) xs.length (xs.map qdf)):qnL w a n (fun i=>qdf (xs[i]?.getD [])) B w.heap.size:=by
 obtain ⟨hl,⟨h1,h2⟩| ⟨g,cap,cur,h1,h2,h3,h4,h5,h6,h7⟩⟩:=h
 · simp only [Value.slice.injEq] at h1
   exact Or.inl h1.2.1
 · simp only [Value.slice.injEq] at h1
   refine Or.inr ⟨g,h1.1,h2,(Array.getElem?_eq_some_iff.1 h3).1,cur,e,h3,by rw [h1.2.1];omega,fun i hi=> ?_⟩
   rw [h1.2.1] at hi
   have h8: (xs.map qdf)[i]?=some (qdf (xs[i]?.getD [])):=by rw [List.getElem?_map,List.getElem?_eq_getElem hi];rfl
   rw [←h7,List.getElem?_take,if_pos (by omega),Array.getElem?_toList] at h8
   exact h8
theorem qn8 (w:World) (p:List UInt8) (hp:p.length≤1048576):
 Calls Tryz.prog 119 #[.string (mkB p)] w fun e w'=> ∃a c,e= .returned (.agg #[.int .i64 (qan p), .slice a (qah p).length c])∧Below w.heap.size w w'∧AtT w' a (qah p).length (qah p)∧qnL w' a (qah p).length (fun i=>qdf ((qah p)[i]?.getD [])) w.heap.size w'.heap.size:=by
 by_cases h:qan p=0
 · refine (qbS w p hp h).mono ?_
   rintro e w' ⟨a,c,rfl,hb,hr⟩
   have hs:qah p=qaf p:=if_pos h
   rw [hs,h]
   exact ⟨a,c,rfl,hb,(qbr hr).2,qkD hr⟩
 · refine (qb4 w p hp h).mono ?_
   rintro e w' ⟨rfl,hb⟩
   have hs:qah p= []:=if_neg h
   rw [hs]
   exact ⟨none,0,rfl,hb,fun k hk=>by simp at hk,Or.inl rfl⟩
theorem qn9 (w:World) (p:List UInt8):
 Calls Tryz.prog 112 #[.string (mkB p)] w fun e w'=> ∃a c,e= .returned (.tuple #[.slice a (qah p).length c, .int .i64 (qan p)])∧Below w.heap.size w w'∧AtT w' a (qah p).length (qah p)∧qnL w' a (qah p).length (fun i=>qdf ((qah p)[i]?.getD [])) w.heap.size w'.heap.size:=by
 by_cases h:qan p=0
 · refine (qct w p h).mono ?_
   rintro e w' ⟨a,c,rfl,hb,hr⟩
   have hs:qah p=qaf p:=if_pos h
   rw [hs,h]
   exact ⟨a,c,rfl,hb,(qbr hr).2,qkD hr⟩
 · refine (qcZ w p h).mono ?_
   rintro e w' ⟨rfl,hb⟩
   have hs:qah p= []:=if_neg h
   rw [hs]
   exact ⟨none,0,rfl,hb,fun k hk=>by simp at hk,Or.inl rfl⟩
theorem AtT.store {w:World} {a:Option Addr} {n:Nat} {xs:List (List UInt8)} {f:Nat→Value} {lo hi:Nat} (h:AtT w a n xs) (ho:qnL w a n f lo hi) {p:Addr} (hp:p.block<lo) (v:Value):AtT (w.setCell p v) a n xs:=fun k hk=>by
 rcases ho with h0| ⟨g,e,h1,_,_⟩
 · omega
 · obtain ⟨b,off,e2,c0⟩:=h k hk
   refine ⟨b,off,e2, ?_⟩
   rw [e] at e2
   cases e2
   rw [←c0]
   exact World.cell?_of_block (Below.heap_setCell _ _ _ _ (fun e=>by simp at e;omega))
theorem qnL.store {w:World} {a:Option Addr} {n:Nat} {f:Nat→Value} {lo hi:Nat} (ho:qnL w a n f lo hi) {p:Addr} (hp:p.block<lo) (v:Value):qnL (w.setCell p v) a n f lo hi:=by
 rcases ho with h0| ⟨g,e,h1,h2,h3⟩
 · exact Or.inl h0
 · exact Or.inr ⟨g,e,h1,h2,h3.store (by omega) v⟩
end Go.Proofs.YthnmlipnoajmkaaGreatDoor

namespace Go.Proofs.YthnmlipnoajmkaaGreatDoor
open Go.RowKit
set_option maxRecDepth 100000

def qoa (w:World) (v:Value) (xs:List (List UInt8)):Prop:= ∃a c,v= .slice a xs.length c∧xs.length≤1048577∧AtT w a xs.length xs
theorem qoa.later {w w':World} {v:Value} {xs:List (List UInt8)} (h:qoa w v xs) (hb:Below w.heap.size w w'):qoa w' v xs:=by
 obtain ⟨a,c,h1,h2,h3⟩:=h
 exact ⟨a,c,h1,h2,h3.later hb⟩
def qbE (w:World) (v:Value) (xs:List (List UInt8)) (F:Nat→Prop):Prop:=
 (xs= []∧ ∃a cap,v= .slice a 0 cap)∨ (∃b cap,F b∧v= .slice (some ⟨b,0,none⟩) xs.length cap∧xs.length≤1048577∧qaa w b xs.length (fun i=>qdf (xs[i]?.getD [])))
theorem qbE.reads {w:World} {v:Value} {xs:List (List UInt8)} {F:Nat→Prop} (h:qbE w v xs F):qoa w v xs:=by
 rcases h with ⟨rfl,a,cap,rfl⟩| ⟨b,cap,_,h1,h2,h3⟩
 · exact ⟨a,cap,rfl,by simp,fun k hk=>by simp at hk⟩
 · exact ⟨_,cap,h1,h2,fun k hk=> ⟨b,0,rfl,by rw [Nat.zero_add];exact h3.cell hk⟩⟩
theorem qbE.keep {w w':World} {v:Value} {xs:List (List UInt8)} {F:Nat→Prop} (h:qbE w v xs F) (e: ∀b,F b→b<w.heap.size→w'.heap[b]?=w.heap[b]?):qbE w' v xs F:=by
 rcases h with h| ⟨b,cap,hF,h1,h2,h3⟩
 · exact Or.inl h
 · exact Or.inr ⟨b,cap,hF,h1,h2,h3.block (e b hF h3.lt)⟩
theorem qbE.mono {w:World} {v:Value} {xs:List (List UInt8)} {F G:Nat→Prop} (h:qbE w v xs F) (e: ∀b,F b→G b):qbE w v xs G:=by
 rcases h with h| ⟨b,cap,hF,h1⟩
 · exact Or.inl h
 · exact Or.inr ⟨b,cap,e b hF,h1⟩
theorem qbE.later {w w':World} {v:Value} {xs:List (List UInt8)} {F:Nat→Prop} (h:qbE w v xs F) (hb:Below w.heap.size w w'):qbE w' v xs F:=h.keep fun b _ hlt=>hb.block b hlt
theorem qbE.chg {w w':World} {v:Value} {xs:List (List UInt8)} {F G:Nat→Prop} (h:qbE w v xs F) (hc:Chg G w w') (hd: ∀b,F b→ ¬G b):qbE w' v xs F:=h.keep fun b hb hlt=>hc.block b hlt (hd b hb)
def qik (w:World) (r:Int×List (List UInt8)) (e:Ending) (w':World):Prop:= ∃a n c,e= .returned (.agg #[.int .i64 r.1, .slice a n c])∧Below w.heap.size w w'∧qbE w' (.slice a n c) r.2 (qaj w w')
theorem qik.later {w w2 w3:World} {r:Int×List (List UInt8)} {e:Ending} (h:qik w r e w2) (hb:Below w2.heap.size w2 w3):qik w r e w3:=by
 obtain ⟨a,n,c,h1,h2,h3⟩:=h
 exact ⟨a,n,c,h1,h2.trans (hb.mono h2.size),(h3.later hb).mono fun b hh=> ⟨hh.1,Nat.lt_of_lt_of_le hh.2 hb.size⟩⟩
theorem qik.boxed {w W:World} {rb:Nat} {r:Int} {xs:List (List UInt8)} {a:Option Addr} {n c:Nat} (hB:Below w.heap.size w W) (hrb:w.heap.size≤rb) (hY:qbE W (.slice a n c) xs (fun b=>w.heap.size≤b∧b<W.heap.size∧b≠rb)) (x y:Value):qik w (r,xs) (.returned (.agg #[.int .i64 r, .slice a n c])) ((W.setCell ⟨rb,0,none⟩ x).setCell ⟨rb,1,none⟩ y):=by
 refine ⟨a,n,c,rfl,(hB.setCell hrb _).setCell hrb _,(hY.keep fun b hb _=> ?_).mono fun b hb=> ?_⟩
 · rw [Below.heap_setCell _ _ _ _ hb.2.2,Below.heap_setCell _ _ _ _ hb.2.2]
 · unfold qaj
   simp only [World.setCell,Array.size_modify]
   exact ⟨hb.1,hb.2.1⟩
theorem qik.none' {w W:World} {rb:Nat} (r:Int) (hB:Below w.heap.size w W) (hrb:w.heap.size≤rb) (x y:Value):qik w (r, []) (.returned (.agg #[.int .i64 r, .slice none 0 0])) ((W.setCell ⟨rb,0,none⟩ x).setCell ⟨rb,1,none⟩ y):=qik.boxed hB hrb (Or.inl ⟨rfl,_,_,rfl⟩) x y

def qdc (k:Int) (xs:List (List UInt8)):List (List UInt8):= (List.range xs.length).map fun i=>109::dg (k.toNat+i) []
theorem qbw (k:Int) (xs:List (List UInt8)): (qdc k xs).length=xs.length:=by simp [qdc]
theorem qgH (k:Int) (xs:List (List UInt8)) {i:Nat} (h:i<xs.length):qdf ((qdc k xs)[i]?.getD [])=mkT (k.toNat+i):=by
 simp [qdc,h,qdf,mkT]
end Go.Proofs.YthnmlipnoajmkaaGreatDoor

namespace Go.Proofs.YthnmlipnoajmkaaGreatDoor
open Go.RowKit
set_option maxRecDepth 100000

theorem Tryz.cellsU8V:Tryz.prog.cellsOf 5=1:=by kernel_rfl
theorem qq2 {w:World} {v v':Value} {zs:List UInt8} (h:Byt w v zs) (h':Byt w v' zs):Calls Tryz.prog 25 #[v,v'] w fun e w'=>e= .returned (.bool true)∧Below w.heap.size w w':=
 (qoW h h').mono fun _ _ ⟨h1,m,h2⟩=> ⟨h1,h2▸below_drewN (Below.refl _ _) m⟩
theorem qrM {w:World} {v:Value} {zs:List UInt8} {F:Nat→Prop} (k:Int) (h:qbt w v zs F) (hk0:0≤k) (hk:k+ (zs.length:Nat)≤4611686018427387904):
 Calls Tryz.prog 31 #[v, .int .i64 k] w fun e w'=>e= .returned (.int .i64 (k+ (zs.length:Nat)))∧Chg F w w':=
 (qfo k h hk0 hk).mono fun _ _ ⟨h1,_,h2⟩=> ⟨h1,h2⟩
end Go.Proofs.YthnmlipnoajmkaaGreatDoor

namespace Go.Proofs.YthnmlipnoajmkaaGreatDoor
open Go.RowKit
set_option maxRecDepth 100000

theorem qmH (w:World) (vs:List Value) (t:TypeId):qaa (w.alloc (.cells vs.toArray t)) w.heap.size vs.length (fun i=>vs[i]?.getD (.int .i64 0)):=by
 refine ⟨_,t,Go.Deep.blk_alloc_new _ _,by simp,fun i hi=> ?_⟩
 simp [hi]

def cel (vs:List Value) (i:Nat):Value:=vs[i]?.getD (.int .i64 0)
theorem qdQ (w:World) (vs:List Value) (t:TypeId):qaa (w.alloc (.cells vs.toArray t)) w.heap.size vs.length (cel vs):=qmH w vs t
end Go.Proofs.YthnmlipnoajmkaaGreatDoor

namespace Go.Proofs.YthnmlipnoajmkaaGreatDoor
open Go.RowKit
set_option maxRecDepth 100000

abbrev E3:=Int×Int×Int
def qbU (es:List E3) (j:Nat):Value:= .int .i64 (if j % 3=0 then (es[j/3]?.getD (0,0,0)).1 else if j % 3=1 then (es[j/3]?.getD (0,0,0)).2.1 else (es[j/3]?.getD (0,0,0)).2.2)
theorem qkE (es:List E3) (k:Nat):qbU es (k*3)= .int .i64 (es[k]?.getD (0,0,0)).1:=by
 unfold qbU;rw [if_pos (by omega),show k*3/3=k by omega]
theorem qkF (es:List E3) (k:Nat):qbU es (k*3+1)= .int .i64 (es[k]?.getD (0,0,0)).2.1:=by
 unfold qbU;rw [if_neg (by omega),if_pos (by omega),show (k*3+1)/3=k by omega]
theorem qkG (es:List E3) (k:Nat):qbU es (k*3+2)= .int .i64 (es[k]?.getD (0,0,0)).2.2:=by
 unfold qbU;rw [if_neg (by omega),if_neg (by omega),show (k*3+2)/3=k by omega]

def AtE (w:World) (a:Option Addr) (n:Nat) (es:List E3):Prop:=
 ∀k,k<n→ ∃b off,a=some ⟨b,off,none⟩∧w.cell? ⟨b,off+k*3,none⟩=some (.int .i64 (es[k]?.getD (0,0,0)).1)∧w.cell? ⟨b,off+k*3+1,none⟩=some (.int .i64 (es[k]?.getD (0,0,0)).2.1)∧w.cell? ⟨b,off+k*3+2,none⟩=some (.int .i64 (es[k]?.getD (0,0,0)).2.2)
theorem AtE.later {w w':World} {a:Option Addr} {n:Nat} {es:List E3} (h:AtE w a n es) (hb:Below w.heap.size w w'):AtE w' a n es:=fun k hk=>by
 obtain ⟨b,off,e,c0,c1,c2⟩:=h k hk
 exact ⟨b,off,e,cell_later hb c0,cell_later hb c1,cell_later hb c2⟩
def qlY (w:World) (v:Value) (es:List E3):Prop:= ∃a cap,v= .slice a es.length cap∧ (es.length≤maxLen∧es.length≤cap)∧AtE w a es.length es
theorem qlY.later {w w':World} {v:Value} {es:List E3} (h:qlY w v es) (hb:Below w.heap.size w w'):qlY w' v es:=by
 obtain ⟨a,cap,h1,h2,h3⟩:=h
 exact ⟨a,cap,h1,h2,h3.later hb⟩
theorem qlY.open' {w:World} {v:Value} {es:List E3} (h:qlY w v es): ∃a cap,v= .slice a es.length cap∧es.length≤maxLen∧AtE w a es.length es:=by
 obtain ⟨a,cap,h1,h2,h3⟩:=h
 exact ⟨a,cap,h1,h2.1,h3⟩
theorem qlY.cap {w:World} {a:Option Addr} {n c:Nat} {es:List E3} (h:qlY w (.slice a n c) es):es.length≤c:=by
 obtain ⟨a',c',h1,h2,_⟩:=h
 simp only [Value.slice.injEq] at h1
 rw [h1.2.2]
 exact h2.2
theorem qlY.nil (w:World) (a:Option Addr) (cap:Nat):qlY w (.slice a 0 cap) []:= ⟨a,cap,rfl,by simp,fun k hk=>by simp at hk⟩

def qdg (w:World) (v:Value) (es:List E3) (F:Nat→Prop):Prop:=
 (es= []∧ ∃a cap,v= .slice a 0 cap)∨
 (∃b cap,F b∧v= .slice (some ⟨b,0,none⟩) es.length cap∧ (es.length≤maxLen∧es.length≤cap)∧qaa w b (es.length*3) (qbU es))
theorem qaa.atE {w:World} {b n:Nat} {es:List E3} (h:qaa w b (n*3) (qbU es)):AtE w (some ⟨b,0,none⟩) n es:=fun k hk=>
 ⟨b,0,rfl,by rw [Nat.zero_add,h.cell (by omega),qkE],by rw [Nat.zero_add,h.cell (by omega),qkF],by rw [Nat.zero_add,h.cell (by omega),qkG]⟩
theorem qdg.reads {w:World} {v:Value} {es:List E3} {F:Nat→Prop} (h:qdg w v es F):qlY w v es:=by
 rcases h with ⟨rfl,a,cap,rfl⟩| ⟨b,cap,_,h1,h2,h3⟩
 · exact qlY.nil w a cap
 · exact ⟨_,cap,h1,h2,h3.atE⟩
theorem qdg.keep {w w':World} {v:Value} {es:List E3} {F:Nat→Prop} (h:qdg w v es F) (e: ∀b,F b→b<w.heap.size→w'.heap[b]?=w.heap[b]?):qdg w' v es F:=by
 rcases h with h| ⟨b,cap,hF,h1,h2,h3⟩
 · exact Or.inl h
 · exact Or.inr ⟨b,cap,hF,h1,h2,h3.block (e b hF h3.lt)⟩
theorem qdg.mono {w:World} {v:Value} {es:List E3} {F G:Nat→Prop} (h:qdg w v es F) (e: ∀b,F b→G b):qdg w v es G:=by
 rcases h with h| ⟨b,cap,hF,h1⟩
 · exact Or.inl h
 · exact Or.inr ⟨b,cap,e b hF,h1⟩
theorem qdg.bound {w:World} {v:Value} {es:List E3} {F:Nat→Prop} (h:qdg w v es F):qdg w v es (fun b=>F b∧b<w.heap.size):=by
 rcases h with h| ⟨b,cap,hF,h1,h2,h3⟩
 · exact Or.inl h
 · exact Or.inr ⟨b,cap,⟨hF,h3.lt⟩,h1,h2,h3⟩
theorem qdg.later {w w':World} {v:Value} {es:List E3} {F:Nat→Prop} (h:qdg w v es F) (hb:Below w.heap.size w w'):qdg w' v es F:=h.keep fun b _ hlt=>hb.block b hlt
theorem qdg.store {w:World} {v:Value} {es:List E3} {F:Nat→Prop} (h:qdg w v es F) {p:Addr} (hp: ∀b,F b→b≠p.block) (x:Value):qdg (w.setCell p x) v es F:=h.keep fun b hb _=>Below.heap_setCell _ _ _ _ (hp b hb)

def qgI (k:Int) (n:Nat):List E3:= (List.range n).map fun i:Nat=> (k+3* (i:Int),k+3* (i:Int)+1,k+3* (i:Int)+2)
theorem qob (k:Int) (n:Nat): (qgI k n).length=n:=by simp [qgI]
theorem qlm (k:Int) {n i:Nat} (h:i<n): (qgI k n)[i]?.getD (0,0,0)= (k+3* (i:Int),k+3* (i:Int)+1,k+3* (i:Int)+2):=by simp [qgI,h]
theorem qoY (k:Int) {n c:Nat} (h:c<n*3):qbU (qgI k n) c= .int .i64 (k+ (c:Int)):=by
 have h3:c/3<n:=by omega
 unfold qbU
 rw [qlm k h3]
 congr 1
 have:c % 3=0∨c % 3=1∨c % 3=2:=by omega
 rcases this with e|e|e
 · rw [if_pos e];omega
 · rw [if_neg (by omega),if_pos e];show k+3* ((c/3:Nat):Int)+1=k+ (c:Int);omega
 · rw [if_neg (by omega),if_neg (by omega)];show k+3* ((c/3:Nat):Int)+2=k+ (c:Int);omega

theorem qoc {P:Program} (t e:TypeId) (x y z:Value) (bytes:Nat) (ht:P.underlying t=some (.slice e)) (hinfo: (P.info? e).map (fun i=> (i.zero,i.size,i.bytes))=some (some (.agg #[x,y,z]),3,bytes)) (hz: (Value.agg #[x,y,z]).cells= #[x,y,z])
 (kl kc:IntKind) (n:Nat) (hbytes:bytes*n≤281474976710656) (h63:n≤9223372036854775807) (w:World):
 (Instr.makeSlice t (.int kl (n:Int)) (.int kc (n:Int))).run P w= .ok (.slice (some ⟨w.heap.size,0,none⟩) n n) (w.alloc (.cells (madeCells #[x,y,z] (n*3)) e)):=by
 obtain ⟨i,hi,hzz⟩:=Option.map_eq_some_iff.1 hinfo
 simp only [Prod.mk.injEq] at hzz
 obtain ⟨h1,h2,h3⟩:=hzz
 have hb': (i.bytes:Int)* (n:Int)≤281474976710656:=by
  have h: ((i.bytes*n:Nat):Int)≤281474976710656:=by rw [h3];omega
  rwa [Int.natCast_mul] at h
 have hr:=run_make (P:=P) w t e i _ ht hi h1 kl kc n n (by omega) (Int.le_refl _) hb' (by omega)
 simp only [Int.toNat_natCast,h2,hz] at hr
 exact hr
theorem qaa.madeTrip (w:World) (n:Nat) (t:TypeId):qaa (w.alloc (.cells (madeCells #[.int .i64 0, .int .i64 0, .int .i64 0] (n*3)) t)) w.heap.size (n*3) (fun _=> .int .i64 0):=by
 refine ⟨_,t,Go.Deep.blk_alloc_new _ _,by rw [size_madeCells];exact Nat.le_refl _,fun i hi=> ?_⟩
 unfold madeCells
 rw [Array.getElem?_map]
 have h1: (Array.range (n*3))[i]?=some i:=by simp [hi]
 rw [h1]
 have:i % 3=0∨i % 3=1∨i % 3=2:=by omega
 rcases this with e|e|e<;>simp [e]
def qpx (es:List E3) (j c:Nat):Value:=if c<j*3 then qbU es c else .int .i64 0
theorem qqp (es:List E3) (j c:Nat): (if c=j*3+2 then .int .i64 (es[j]?.getD (0,0,0)).2.2 else (if c=j*3+1 then .int .i64 (es[j]?.getD (0,0,0)).2.1 else (if c=j*3 then .int .i64 (es[j]?.getD (0,0,0)).1 else qpx es j c)))=qpx es (j+1) c:=by
 unfold qpx
 by_cases e2:c=j*3+2
 · subst e2;rw [if_pos rfl,if_pos (by omega),qkG]
 · rw [if_neg e2]
   by_cases e1:c=j*3+1
   · subst e1;rw [if_pos rfl,if_pos (by omega),qkF]
   · rw [if_neg e1]
     by_cases e0:c=j*3
     · subst e0;rw [if_pos rfl,if_pos (by omega),qkE]
     · rw [if_neg e0]
       by_cases h:c<j*3
       · rw [if_pos h,if_pos (by omega)]
       · rw [if_neg h,if_neg (by omega)]
end Go.Proofs.YthnmlipnoajmkaaGreatDoor

namespace Go.Proofs.YthnmlipnoajmkaaGreatDoor
open Go.RowKit
set_option maxRecDepth 100000

def qbp (es:List E3):List Value:=es.flatMap fun e=> [.int .i64 e.1, .int .i64 e.2.1, .int .i64 e.2.2]
theorem qgm (es:List E3): (qbp es).length=es.length*3:=by
 induction es with
 |nil=>rfl
 | cons a t ih=>
   have:qbp (a::t)= [.int .i64 a.1, .int .i64 a.2.1, .int .i64 a.2.2]++qbp t:=by simp [qbp]
   rw [this,List.length_append,ih]
   simp [Nat.add_mul]
   omega
theorem qnM (es fs:List E3):qbp (es++fs)=qbp es++qbp fs:=by simp [qbp]
theorem qjM (es:List E3) (j:Nat) (h:j<es.length*3): (qbp es)[j]?=some (qbU es j):=by
 induction es generalizing j with
 |nil=>simp at h
 | cons a t ih=>
   have e:qbp (a::t)= .int .i64 a.1:: .int .i64 a.2.1:: .int .i64 a.2.2::qbp t:=by simp [qbp]
   rw [e]
   match j with
   |0=>simp [qbU]
   |1=>simp [qbU]
   |2=>simp [qbU]
   | j+3=>
     simp only [List.getElem?_cons_succ]
     rw [ih j (by simp at h;omega)]
     unfold qbU
     have h1: (j+3) % 3=j % 3:=by omega
     have h2: (j+3)/3=j/3+1:=by omega
     rw [h1,h2]
     simp
theorem qpy (es:List E3): ∀u∈qbp es,u.oneCell'=true:=by
 intro u hu
 simp only [qbp,List.mem_flatMap] at hu
 obtain ⟨e,_,hu⟩:=hu
 simp at hu
 rcases hu with rfl|rfl|rfl<;>rfl
theorem AtE.cells {w:World} {b off n:Nat} {es:List E3} (h:AtE w (some ⟨b,off,none⟩) n es) (hn:es.length=n) (j:Nat) (u:Value) (hu: (qbp es)[j]?=some u):w.cell? ((⟨b,off,none⟩:Addr).add j)=some u:=by
 have hj:j<es.length*3:=by rw [←qgm];exact (List.getElem?_eq_some_iff.1 hu).1
 rw [qjM es j hj] at hu
 simp only [Option.some.injEq] at hu
 subst hu
 obtain ⟨b',off',e,c0,c1,c2⟩:=h (j/3) (by omega)
 simp only [Option.some.injEq,Addr.mk.injEq,and_true] at e
 obtain ⟨rfl,rfl⟩:=e
 rw [qaA]
 have:j % 3=0∨j % 3=1∨j % 3=2:=by omega
 unfold qbU
 rcases this with e|e|e
 · rw [if_pos e,←c0,show off+j=off+j/3*3 by omega]
 · rw [if_neg (by omega),if_pos e,←c1,show off+j=off+j/3*3+1 by omega]
 · rw [if_neg (by omega),if_neg (by omega),←c2,show off+j=off+j/3*3+2 by omega]

end Go.Proofs.YthnmlipnoajmkaaGreatDoor

namespace Go.Proofs.YthnmlipnoajmkaaGreatDoor
open Go.RowKit
set_option maxRecDepth 100000

theorem Tryz.sizeInt: (Tryz.prog.info? 2).map (·.size)=some 1:=by kernel_rfl

theorem qmI (w:World) (a:Option Addr) (n cap:Nat) (zs:List Int) (hz:zs.length=n) (hc:At1 w a n (fun k=> .int .i64 (zs[k]?.getD 0))):
 ∃ X,(Builtin.copy_ #[64,64] 3 #[.slice (some ⟨w.heap.size,0,none⟩) n n, .slice a n cap]).run Tryz.prog (w.alloc (.cells (madeCells #[.int .i64 0] n) 2))= .ok (goInt n) X∧
  Below w.heap.size w X∧qaa X w.heap.size n (fun i=> .int .i64 (zs[i]?.getD 0)):=by
 by_cases h0:n=0
 · subst h0
   have hr:=run_copy_none (P:=Tryz.prog) (w.alloc (.cells (madeCells #[.int .i64 0] 0) 2)) 64 64 3 2 (some ⟨w.heap.size,0,none⟩) a 0 0 0 cap Tryz.underlying64 Tryz.sizeInt (by simp)
   exact ⟨_,hr,qab _ _,(qaa.made w (.int .i64 0) 0 2).congr fun i hi=>by omega⟩
 · obtain ⟨b,off,rfl,_⟩:=hc 0 (by omega)
   have hc': ∀k,k<n→w.cell? ⟨b,off+k,none⟩=some (.int .i64 (zs[k]?.getD 0)):=by
    intro k hk
    obtain ⟨b',off',e,h⟩:=hc k hk
    simp only [Option.some.injEq,Addr.mk.injEq,and_true] at e
    rw [e.1,e.2];exact h
   have hcp:=run_copy_row (P:=Tryz.prog) (w.alloc (.cells (madeCells #[.int .i64 0] n) 2)) 64 64 3 2 w.heap.size 0 n n ⟨b,off,none⟩ n cap (madeCells #[.int .i64 0] n) 2 (zs.map fun z=>Value.int .i64 z) Tryz.underlying64 Tryz.sizeInt
    (Go.Deep.blk_alloc_new _ _) (by simp [hz]) (fun j v hv=>by
      rw [List.getElem?_map,Option.map_eq_some_iff] at hv
      obtain ⟨z,hz1,rfl⟩:=hv
      have hj:j<n:=by rw [←hz];exact (List.getElem?_eq_some_iff.1 hz1).1
      have h2:=hc' j hj
      rw [hz1,Option.getD_some] at h2
      have ha: (⟨b,off,none⟩:Addr).add j= ⟨b,off+j,none⟩:=by
       by_cases hj0:j=0
       · subst hj0;simp [Addr.add]
       · simp [Addr.add,hj0]
      rw [ha]
      exact cell_later (qab _ _) h2) (by simp [size_madeCells,hz]) (fun v hv=>by
      obtain ⟨z,_,rfl⟩:=List.mem_map.1 hv
      rfl)
   refine ⟨_,by rw [hcp,List.length_map,hz],below_setRow (qab _ _) (Nat.le_refl _) _, ?_⟩
   refine ⟨_,2,setRow_heap _ _ _ _ _ _ (Go.Deep.blk_alloc_new _ _), ?_,fun i hi=> ?_⟩
   · simp [hz]
   · have hlen:i<zs.length:=by omega
     simp [List.getElem?_append_left,hlen]
set_option maxHeartbeats 400000 in
theorem qfJ {w:World} {v:Value} {zs:List Int} (h:qb1 w v zs) (hn:zs.length≤1048576):
 Calls Tryz.prog 127 #[v] w fun e w'=>e= .returned (.slice (some ⟨w.heap.size,0,none⟩) zs.length zs.length)∧Below w.heap.size w w'∧qak w' (.slice (some ⟨w.heap.size,0,none⟩) zs.length zs.length) zs (qaj w w')∧w.heap.size<w'.heap.size:=by
 obtain ⟨a,cap,rfl,hm,hc⟩:=h.open'
 clear h
 obtain ⟨X,hcp,hbX,hrX⟩:=qmI w a zs.length cap zs rfl hc
 have hmk:=fun w=>run_make_row' (P:=Tryz.prog) 64 2 (.int .i64 0) 8 Tryz.underlying64 Tryz.infoInt rfl .i64 .i64 zs.length (by omega) (by omega) w
 have HB:Hid (Below w.heap.size w X):=hbX
 have HR:Hid (qaa X w.heap.size zs.length (fun i=> .int .i64 (zs[i]?.getD 0))):=hrX
 clear hbX hrX hc
 go_enter Tryz.func127,Tryz.ntmps127
 go_wp2
 go_ret
 exact ⟨rfl,HB.out,Or.inr ⟨w.heap.size,_,⟨Nat.le_refl _,HR.out.lt⟩,rfl,hm,HR.out⟩,HR.out.lt⟩
theorem qqq {w:World} {v:Value} {zs:List Int} (h:qb1 w v zs) (hn:zs.length≤1048576):
 Calls Tryz.prog 127 #[v] w fun e w'=>e= .returned (.slice (some ⟨w.heap.size,0,none⟩) zs.length zs.length)∧Below w.heap.size w w'∧qak w' (.slice (some ⟨w.heap.size,0,none⟩) zs.length zs.length) zs (qaj w w'):=
 (qfJ h hn).mono fun _ _ ⟨h1,h2,h3,_⟩=> ⟨h1,h2,h3⟩
end Go.Proofs.YthnmlipnoajmkaaGreatDoor

namespace Go.Proofs.YthnmlipnoajmkaaGreatDoor
open Go.RowKit
set_option maxRecDepth 100000

theorem qej {P:Program} (w:World) (dT sT ty elem:TypeId) (g n dCap:Nat) (a:Addr) (sCap size:Nat) (cur:Array Value) (t:TypeId) (cs:List Value)
 (hu:P.underlying dT=some (.slice elem)) (hs: (P.info? elem).map (·.size)=some size)
 (hg:w.heap[g]?=some (.cells cur t (0,0))) (hn:cs.length=n*size)
 (hsrc: ∀j v,cs[j]?=some v→w.cell? (a.add j)=some v) (hfit:cs.length≤cur.size) (h1: ∀v∈cs,v.oneCell'=true):
 (Builtin.copy_ #[dT,sT] ty #[.slice (some ⟨g,0,none⟩) n dCap, .slice (some a) n sCap]).run P w= .ok (goInt n) (w.setRow g (cs++cur.toList.drop cs.length).toArray):=by
 have hl:=run_loadCells_list (P:=P) w a cs hsrc
 have hst:=run_storeCells_at P g 0 t cs 0 cur w hg (by simpa using hfit) h1
 simp only [Nat.zero_add,List.take_zero,List.nil_append] at hst
 cases hq:P.info? elem with
 |none=>simp [hq] at hs
 | some i=>
   have hi:i.size=size:=by simpa [hq] using hs
   have hm:Nat.min n n=n:=Nat.min_self n
   simp [Builtin.copy_,run_underlying hu,Builtin.lenOf,Builtin.firstCells,sizeOf,typeInfo,hq,hi,hm,←hn,hl,hst]
theorem qek {P:Program} (w:World) (dT sT ty elem:TypeId) (d a:Option Addr) (dCap sCap size:Nat) (hu:P.underlying dT=some (.slice elem)) (hs: (P.info? elem).map (·.size)=some size):
 (Builtin.copy_ #[dT,sT] ty #[.slice d 0 dCap, .slice a 0 sCap]).run P w= .ok (goInt 0) w:=by
 cases hq:P.info? elem with
 |none=>simp [hq] at hs
 |some i=>cases a<;>cases d<;>simp [Builtin.copy_,run_underlying hu,Builtin.lenOf,Builtin.firstCells,sizeOf,typeInfo,hq,storeCells,loadCells,loadCellsFrom]

end Go.Proofs.YthnmlipnoajmkaaGreatDoor

namespace Go.Proofs.YthnmlipnoajmkaaGreatDoor
open Go.RowKit
set_option maxRecDepth 100000

def qaz (es:List EN):List Value:=es.flatMap fun e=> [.string e.1, .int .i64 e.2]
theorem qau (es:List EN): (qaz es).length=es.length*2:=by
 induction es with
 |nil=>rfl
 | cons a t ih=>
   have:qaz (a::t)= [.string a.1, .int .i64 a.2]++qaz t:=by simp [qaz]
   rw [this,List.length_append,ih]
   simp [Nat.add_mul]
   omega
theorem qcz (es fs:List EN):qaz (es++fs)=qaz es++qaz fs:=by simp [qaz]
theorem qc1 (es:List EN) (j:Nat) (h:j<es.length*2): (qaz es)[j]?=some (qaV es j):=by
 induction es generalizing j with
 |nil=>simp at h
 | cons a t ih=>
   have e:qaz (a::t)= .string a.1:: .int .i64 a.2::qaz t:=by simp [qaz]
   rw [e]
   match j with
   |0=>simp [qaV]
   |1=>simp [qaV]
   | j+2=>
     simp only [List.getElem?_cons_succ]
     rw [ih j (by simp at h;omega)]
     unfold qaV
     have h1: (j+2) % 2=j % 2:=by omega
     have h2: (j+2)/2=j/2+1:=by omega
     rw [h1,h2]
     simp
theorem qc2 (es:List EN): ∀u∈qaz es,u.oneCell'=true:=by
 intro u hu
 simp only [qaz,List.mem_flatMap] at hu
 obtain ⟨e,_,hu⟩:=hu
 simp at hu
 rcases hu with rfl|rfl<;>rfl
theorem AtN.cells {w:World} {b off n:Nat} {es:List EN} (h:AtN w (some ⟨b,off,none⟩) n es) (hn:es.length=n) (j:Nat) (u:Value) (hu: (qaz es)[j]?=some u):w.cell? ((⟨b,off,none⟩:Addr).add j)=some u:=by
 have hj:j<es.length*2:=by rw [←qau];exact (List.getElem?_eq_some_iff.1 hu).1
 rw [qc1 es j hj] at hu
 simp only [Option.some.injEq] at hu
 subst hu
 obtain ⟨b',off',e,c0,c1⟩:=h (j/2) (by omega)
 simp only [Option.some.injEq,Addr.mk.injEq,and_true] at e
 obtain ⟨rfl,rfl⟩:=e
 rw [qaA]
 have:j % 2=0∨j % 2=1:=by omega
 unfold qaV
 rcases this with e|e
 · rw [if_pos e,←c0,show off+j=off+j/2*2 by omega]
 · rw [if_neg (by omega),←c1,show off+j=off+j/2*2+1 by omega]
theorem Tryz.infoEnt': ∃i,Tryz.prog.info? 76=some i∧i.zero=some (.agg #[.string ⟨#[]⟩, .int .i64 0])∧i.size=2∧i.bytes=24:=by
 obtain ⟨i,hi,h⟩:=Option.map_eq_some_iff.1 Tryz.infoEnt
 simp only [Prod.mk.injEq] at h
 exact ⟨i,hi,h.1,h.2.1,h.2.2⟩
theorem Tryz.sizeEnt: (Tryz.prog.info? 76).map (·.size)=some 2:=by kernel_rfl

theorem qjN (W:World) (ty:TypeId) (base g:Nat) (fs:List EN) (hrow:W.heap[g]?=some (.cells #[] 76 (0,0))) (hbg:base≤g) (a:Option Addr) (cap:Nat) (hn:fs.length≤1048576) (hz: ∀k:Nat,(fs[k]?.getD en0).1.size≤maxLen) (hc:AtN W a fs.length fs):
 ∃ a' c' X,(Builtin.append_ #[72,72] ty #[.slice (some ⟨g,0,none⟩) 0 0, .slice a fs.length cap]).run Tryz.prog W= .ok (.slice a' fs.length c') X∧Below base W X∧qbc X (.slice a' fs.length c') fs (fun b=> (b=g∨W.heap.size≤b)∧b<X.heap.size)∧
  (∀b,b<W.heap.size→b≠g→X.heap[b]?=W.heap[b]?):=by
 have hgl:g<W.heap.size:= (Array.getElem?_eq_some_iff.1 hrow).1
 obtain ⟨i,hi,h1,h2,h3⟩:=Tryz.infoEnt'
 by_cases h0:fs.length=0
 · have hfs:fs= []:=List.eq_nil_of_length_eq_zero h0
   subst hfs
   refine ⟨some ⟨g,0,none⟩,0,W, ?_,Below.refl _ _,Or.inl ⟨rfl,_,_,rfl⟩,fun _ _ _=>rfl⟩
   cases a<;>simp [Builtin.append_,run_underlying Tryz.underlying72,sizeOf,typeInfo,hi,Builtin.lenOf,Builtin.firstCells,storeCells,loadCells,loadCellsFrom]
 · have h:W.ownsRow base 76 2 (.slice (some ⟨g,0,none⟩) 0 0) 0 []:= ⟨by simp,Or.inr ⟨g,0, #[],rfl,hbg,hrow,Nat.le_refl _,by unfold maxLen;omega,by simp,by simp⟩⟩
   obtain ⟨b,off,rfl,_⟩:=hc 0 (by omega)
   obtain ⟨g',c',X,hr,ho,hg,hat,hgX⟩:=run_append_lies (P:=Tryz.prog) W 72 ty base 76 i _ 2 24 Tryz.underlying72 hi h1 h2 h3 rfl (by decide) _ 0 _ h ⟨b,off,none⟩ fs.length cap (qaz fs) (qau fs) (fun j u hu=>hc.cells rfl j u hu) (qc2 fs) (by omega) (by unfold maxLen;omega) (by omega) (by omega) W.heap.size rfl
   simp only [Nat.zero_add,List.nil_append] at hr ho
   refine ⟨_,c',X,hr,qaw hg (by omega) (fun k hk=>by simp only [Value.ownBlock,Option.some.injEq] at hk;omega), ?_,fun b hb hne=>hg.block b hb (fun e=>hne (by simpa [Value.ownBlock] using e))⟩
   obtain ⟨hl,h'| ⟨g2,cap2,cur,e2,hb2,hh2,hnc,hcm,hcs,htake⟩⟩:=ho
   · simp at h'
   · simp only [Value.slice.injEq,Option.some.injEq,Addr.mk.injEq,and_true,true_and] at e2
     obtain ⟨rfl,rfl⟩:=e2
     refine Or.inr ⟨g',c',⟨?_,(Array.getElem?_eq_some_iff.1 hh2).1⟩,rfl,⟨by unfold maxLen;omega,hnc,hz⟩,cur,_,hh2,by rw [hcs];exact Nat.mul_le_mul_right 2 hnc,fun k hk=> ?_⟩
     · rcases hat with h|h
       · simp only [Value.ownBlock,Option.some.injEq] at h
         exact Or.inl h.symm
       · exact Or.inr (by omega)
     · have h1:=qc1 fs k hk
       rw [←htake,List.getElem?_take,if_pos hk,Array.getElem?_toList] at h1
       exact h1

theorem qmJ (w:World) (a:Option Addr) (n cap:Nat) (es:List EN) (hz:es.length=n) (hc:AtN w a n es):
 ∃ X,(Builtin.copy_ #[72,72] 3 #[.slice (some ⟨w.heap.size,0,none⟩) n n, .slice a n cap]).run Tryz.prog (w.alloc (.cells (madeCells #[.string ⟨#[]⟩, .int .i64 0] (n*2)) 76))= .ok (goInt n) X∧
  Below w.heap.size w X∧qaa X w.heap.size (n*2) (qaV es):=by
 by_cases h0:n=0
 · subst h0
   have hr:=qek (P:=Tryz.prog) (w.alloc (.cells (madeCells #[.string ⟨#[]⟩, .int .i64 0] (0*2)) 76)) 72 72 3 76 (some ⟨w.heap.size,0,none⟩) a 0 cap 2 Tryz.underlying72 Tryz.sizeEnt
   exact ⟨_,hr,qab _ _,(qaa.madePair w (.string ⟨#[]⟩) (.int .i64 0) 0 76).congr fun i hi=>by omega⟩
 · obtain ⟨b,off,rfl,_⟩:=hc 0 (by omega)
   have hcp:=qej (P:=Tryz.prog) (w.alloc (.cells (madeCells #[.string ⟨#[]⟩, .int .i64 0] (n*2)) 76)) 72 72 3 76 w.heap.size n n ⟨b,off,none⟩ cap 2 (madeCells #[.string ⟨#[]⟩, .int .i64 0] (n*2)) 76 (qaz es) Tryz.underlying72 Tryz.sizeEnt
    (Go.Deep.blk_alloc_new _ _) (by rw [qau,hz]) (fun j v hv=>cell_later (qab _ _) (hc.cells hz j v hv)) (by simp [size_madeCells,qau,hz]) (qc2 es)
   refine ⟨_,hcp,below_setRow (qab _ _) (Nat.le_refl _) _, ?_⟩
   refine ⟨_,76,setRow_heap _ _ _ _ _ _ (Go.Deep.blk_alloc_new _ _), ?_,fun i hi=> ?_⟩
   · simp [qau,hz,size_madeCells]
   · have hlen:i< (qaz es).length:=by rw [qau,hz];exact hi
     rw [List.getElem?_toArray,List.getElem?_append_left hlen,qc1 es i (by rw [hz];exact hi)]
end Go.Proofs.YthnmlipnoajmkaaGreatDoor

namespace Go.Proofs.YthnmlipnoajmkaaGreatDoor
open Go.RowKit
set_option maxRecDepth 100000

structure LRow (C:Nat→Value→List Value) (w:World) (base lo:Nat) (e:TypeId) (size:Nat) (v:Value) (n:Nat) (f:Nat→List Int) (k:Nat→Nat) (u:Nat→Value):Prop where
 own:w.ownsRow base e size v n ((List.range n).flatMap fun i=>C i (u i))
 lo: ∀i,i<n→lo≤k i∧k i<w.heap.size
 ne: ∀i,i<n→v.ownBlock≠some (k i)
 inj: ∀i j,i<n→j<n→i≠j→k i≠k j
 sh: ∀i,i<n→ ∃a c,u i= .slice a (f i).length c
 at': ∀i,i<n→qak w (u i) (f i) (fun c=>c=k i)

theorem LRow.nil {C:Nat→Value→List Value} (w:World) (base lo:Nat) (e:TypeId) (size:Nat) (f:Nat→List Int):LRow C w base lo e size (.slice none 0 0) 0 f (fun _=>0) (fun _=> .slice none 0 0):=
 ⟨World.ownsRow_nil _ _ _ _,fun i hi=>by omega,fun i hi=>by omega,fun i j hi=>by omega,fun i hi=>by omega,fun i hi=>by omega⟩
theorem LRow.keep {C:Nat→Value→List Value} {w w':World} {base lo:Nat} {e:TypeId} {size:Nat} {v:Value} {n:Nat} {f:Nat→List Int} {k:Nat→Nat} {u:Nat→Value} (h:LRow C w base lo e size v n f k u) (hs:w.heap.size≤w'.heap.size)
 (hrow: ∀g,v.ownBlock=some g→w'.heap[g]?=w.heap[g]?) (hk: ∀i,i<n→w'.heap[k i]?=w.heap[k i]?):LRow C w' base lo e size v n f k u:=by
 refine ⟨?_,fun i hi=> ⟨(h.lo i hi).1,Nat.lt_of_lt_of_le (h.lo i hi).2 hs⟩,h.ne,h.inj,h.sh,fun i hi=> (h.at' i hi).keep fun b hb _=>by rw [hb];exact hk i hi⟩
 obtain ⟨h1,h2⟩:=h.own
 refine ⟨h1, ?_⟩
 rcases h2 with h2| ⟨g,cap,cur,hv,hg,hh,r⟩
 · exact Or.inl h2
 · exact Or.inr ⟨g,cap,cur,hv,hg,by rw [hrow g (by rw [hv];rfl)];exact hh,r⟩
theorem LRow.later {C:Nat→Value→List Value} {w w':World} {base lo:Nat} {e:TypeId} {size:Nat} {v:Value} {n:Nat} {f:Nat→List Int} {k:Nat→Nat} {u:Nat→Value} (h:LRow C w base lo e size v n f k u) (hb:Below w.heap.size w w'):LRow C w' base lo e size v n f k u:=
 h.keep hb.size (fun g hg=>hb.block g (h.own.lt g hg).2) (fun i hi=>hb.block _ (h.lo i hi).2)
theorem LRow.store {C:Nat→Value→List Value} {w:World} {base lo:Nat} {e:TypeId} {size:Nat} {v:Value} {n:Nat} {f:Nat→List Int} {k:Nat→Nat} {u:Nat→Value} (h:LRow C w base lo e size v n f k u) {p:Addr} (h1:p.block<base) (h2:p.block<lo) (x:Value):LRow C (w.setCell p x) base lo e size v n f k u:=
 h.keep (by simp [World.setCell]) (fun g hg=>Below.heap_setCell _ _ _ _ (by have:= (h.own.lt g hg).1;omega)) (fun i hi=>Below.heap_setCell _ _ _ _ (by have:= (h.lo i hi).1;omega))
theorem LRow.shape {C:Nat→Value→List Value} {w:World} {base lo:Nat} {e:TypeId} {size:Nat} {v:Value} {n:Nat} {f:Nat→List Int} {k:Nat→Nat} {u:Nat→Value} (h:LRow C w base lo e size v n f k u): ∃a c,v= .slice a n c:=by
 rcases h.own.2 with ⟨rfl,rfl⟩| ⟨g,c,cur,rfl,_⟩
 · exact ⟨_,_,rfl⟩
 · exact ⟨_,_,rfl⟩

theorem LRow.append {C:Nat→Value→List Value} (w w1:World) (t ty e:TypeId) (i:TypeInfo) (z:Value) (size bytes:Nat) (ht:Tryz.prog.underlying t=some (.slice e)) (hi:Tryz.prog.info? e=some i) (hz:i.zero=some z) (hsize:i.size=size) (hby:i.bytes=bytes) (hzs:z.cells.size=size) (hsz:0<size) (hbb:bytes≤1000)
 (base lo n:Nat) (v:Value) (f:Nat→List Int) (k:Nat→Nat) (u:Nat→Value) (h:LRow C w base lo e size v n f k u) (hb:base≤w.heap.size) (hn:n≤100000) (hb1:Below w.heap.size w w1)
 (a:Option Addr) (c:Nat) (hlen: (C n (.slice a (f n).length c)).length=size) (hone: ∀x∈C n (.slice a (f n).length c),x.oneCell'=true) (kb:Nat) (hk1:lo≤kb) (hk2:kb<w1.heap.size) (hk3:v.ownBlock≠some kb) (hk4: ∀i,i<n→k i≠kb) (hf:qak w1 (.slice a (f n).length c) (f n) (fun x=>x=kb)):
 ∃ g cap X,(Builtin.append_ #[t,t] ty #[v, .slice (some ⟨w1.heap.size,0,none⟩) 1 1]).run Tryz.prog (w1.alloc (.cells (C n (.slice a (f n).length c)).toArray e))= .ok (.slice (some ⟨g,0,none⟩) (n+1) cap) X∧
  (∀b,b<w1.heap.size→v.ownBlock≠some b→X.heap[b]?=w1.heap[b]?)∧Below base w X∧w1.heap.size<X.heap.size∧
  LRow C X base lo e size (.slice (some ⟨g,0,none⟩) (n+1) cap) (n+1) f (fun j=>if j=n then kb else k j) (fun j=>if j=n then .slice a (f n).length c else u j):=by
 have hsz1:=hb1.size
 have hbW:Below w.heap.size w (w1.alloc (.cells (C n (.slice a (f n).length c)).toArray e)):=hb1.trans ((qab _ _).mono hb1.size)
 have hW:=h.later hbW
 obtain ⟨g,cap,X,hr,ho,hg,hat,hgX⟩:=run_append_lies (P:=Tryz.prog) (w1.alloc (.cells (C n (.slice a (f n).length c)).toArray e)) t ty base e i z size bytes ht hi hz hsize hby hzs hsz v n _ hW.own ⟨w1.heap.size,0,none⟩ 1 1 (C n (.slice a (f n).length c)) (by rw [hlen,Nat.one_mul])
  (fun j x hx=>by
    rw [qaA,Nat.zero_add,qar]
    simpa using hx) hone (by decide) (by unfold maxLen;omega) (by have: (n+1)*bytes≤100001*1000:=Nat.mul_le_mul (by omega) hbb;omega) (by simp;omega) (w1.heap.size+1) (by simp)
 have hrow: ∀g,v.ownBlock=some g→g<w.heap.size:=fun g hg=> (h.own.lt g hg).2
 have hrowb: ∀g,v.ownBlock=some g→base≤g:=fun g hg=> (h.own.lt g hg).1
 have hXb: ∀b,b<w1.heap.size→v.ownBlock≠some b→X.heap[b]?=w1.heap[b]?:=fun b hb' hne=> (hg.block b (by simp;omega) (fun e=>hne e.symm)).trans ((qab _ _).block b hb')
 have hne: ∀b,b<w1.heap.size→v.ownBlock≠some b→g≠b:=by
  intro b hb' hb2 e
  subst e
  rcases hat with h|h
  · exact hb2 h
  · omega
 have old: ∀b,b<w.heap.size→v.ownBlock≠some b→X.heap[b]?=w.heap[b]?:=fun b hb' hne=> (hXb b (by omega) hne).trans (hb1.block b hb')
 have hXs:w1.heap.size<X.heap.size:=by have:=hg.size;simp at this;omega
 refine ⟨g,cap,X,hr,hXb,(hbW.mono hb).trans (qaw hg (by simp;omega) (fun g hg'=>hrowb g hg')),hXs,⟨?_,fun j hj=> ?_,fun j hj=> ?_,fun j j' hj hj' e=> ?_,fun j hj=> ?_,fun j hj=> ?_⟩⟩
 · rw [List.range_succ,List.flatMap_append]
   have e1: (List.range n).flatMap (fun i=>C i (if i=n then .slice a (f n).length c else u i))= (List.range n).flatMap (fun i=>C i (u i)):=by
    have e0: (List.range n).map (fun i=>C i (if i=n then .slice a (f n).length c else u i))= (List.range n).map (fun i=>C i (u i)):=List.map_congr_left fun i hi=>by rw [if_neg (by have:=List.mem_range.1 hi;omega)]
    rw [List.flatMap_def,List.flatMap_def,e0]
   have e2: [n].flatMap (fun i=>C i (if i=n then .slice a (f n).length c else u i))=C n (.slice a (f n).length c):=by simp only [List.flatMap_cons,List.flatMap_nil,List.append_nil,if_true]
   rw [e1,e2]
   exact ho
 · by_cases e:j=n
   · subst e;simp;omega
   · have:=h.lo j (by omega);simp [e];omega
 · by_cases e:j=n
   · subst e
     simp only [if_true]
     exact fun e=>hne kb hk2 hk3 (by simpa [Value.ownBlock] using e)
   · have hj':j<n:=by omega
     have hl:=h.lo j hj'
     simp only [e,if_false]
     exact fun e=>hne (k j) (by omega) (h.ne j hj') (by simpa [Value.ownBlock] using e)
 · by_cases e1:j=n
   · by_cases e2:j'=n
     · omega
     · simp [e1,e2];exact fun e=>hk4 j' (by omega) e.symm
   · by_cases e2:j'=n
     · simp [e1,e2];exact hk4 j (by omega)
     · simp [e1,e2];exact h.inj j j' (by omega) (by omega) e
 · by_cases e:j=n
   · subst e;exact ⟨a,c,by simp⟩
   · simp only [e,if_false];exact h.sh j (by omega)
 · by_cases e:j=n
   · subst e
     simp only [if_true]
     exact hf.keep fun b hb' hlt'=>by rw [hb'];exact hXb kb hk2 hk3
   · have hj':j<n:=by omega
     simp only [e,if_false]
     exact (h.at' j hj').keep fun b hb' hlt'=>by rw [hb'];exact old _ (h.lo j hj').2 (h.ne j hj')

theorem qak.one {w w1:World} {v:Value} {zs:List Int} (h:qak w1 v zs (qaj w w1)) (hlt:w.heap.size<w1.heap.size): ∃kb,w.heap.size≤kb∧kb<w1.heap.size∧qak w1 v zs (fun c=>c=kb):=by
 rcases h with h| ⟨b,cap,hF,r⟩
 · exact ⟨w.heap.size,Nat.le_refl _,hlt,Or.inl h⟩
 · exact ⟨b,hF.1,hF.2,Or.inr ⟨b,cap,rfl,r⟩⟩

def C1:Nat→Value→List Value:=fun _ v=> [v]
def C2 (f:Nat→Int):Nat→Value→List Value:=fun i v=> [.int .i64 (f i),v]

theorem qod {C:Nat→Value→List Value} {size:Nat} (u:Nat→Value) (hC: ∀i,(C i (u i)).length=size) (n:Nat): ((List.range n).flatMap fun i=>C i (u i)).length=n*size:=by
 induction n with
 |zero=>simp
 |succ n ih=>rw [List.range_succ,List.flatMap_append,List.length_append,ih];simp [hC,Nat.add_mul]
theorem qkH {C:Nat→Value→List Value} {size:Nat} (_hsz:0<size) (u:Nat→Value) (hC: ∀i,(C i (u i)).length=size) (n:Nat): ∀i j,i<n→j<size→ ((List.range n).flatMap fun i=>C i (u i))[i*size+j]?= (C i (u i))[j]?:=by
 induction n with
 |zero=>intro i j hi;omega
 | succ n ih=>
   intro i j hi hj
   have hl:=qod u hC n
   rw [List.range_succ,List.flatMap_append]
   by_cases e:i=n
   · subst e
     rw [List.getElem?_append_right (by rw [hl];omega),hl]
     simp
   · rw [List.getElem?_append_left (by rw [hl];have: (i+1)*size≤n*size:=Nat.mul_le_mul_right _ (by omega);rw [Nat.add_mul] at this;omega)]
     exact ih i j (by omega) hj

theorem LRow.cells {C:Nat→Value→List Value} {w:World} {base lo:Nat} {e:TypeId} {size:Nat} {v:Value} {n:Nat} {f:Nat→List Int} {k:Nat→Nat} {u:Nat→Value} (h:LRow C w base lo e size v n f k u) (hsz:0<size) (hC: ∀i,(C i (u i)).length=size) (hn:0<n):
 ∃g cap,v= .slice (some ⟨g,0,none⟩) n cap∧base≤g∧g<w.heap.size∧n≤maxLen∧qaa w g (n*size) (fun c=> (C (c/size) (u (c/size)))[c % size]?.getD undef):=by
 obtain ⟨hl,h2| ⟨g,cap,cur,rfl,hb,hh,hnc,hcm,hcs,htake⟩⟩:=h.own
 · omega
 · have hle:n*size≤cap*size:=Nat.mul_le_mul_right _ hnc
   refine ⟨g,cap,rfl,hb,(Array.getElem?_eq_some_iff.1 hh).1,by omega,cur,e,hh,by omega,fun c hc=> ?_⟩
   have hd:c/size<n:=by rw [Nat.div_lt_iff_lt_mul hsz];exact hc
   have hm:c % size<size:=Nat.mod_lt _ hsz
   have hg:=qkH hsz u hC n (c/size) (c % size) hd hm
   rw [Nat.div_add_mod'] at hg
   have h1: ((List.range n).flatMap fun i=>C i (u i))[c]?=cur[c]?:=by rw [←htake,List.getElem?_take,if_pos hc,Array.getElem?_toList]
   rw [h1] at hg
   have hlt:c<cur.size:=by omega
   show cur[c]?=some ((C (c/size) (u (c/size)))[c % size]?.getD undef)
   rw [←hg,Array.getElem?_eq_getElem hlt];rfl

theorem LRow.intsS {w:World} {base lo:Nat} {e:TypeId} {v:Value} {n:Nat} {k:Nat→Nat} {u:Nat→Value} {zss:List (List Int)} (h:LRow C1 w base lo e 1 v n (fun i=>zss[i]?.getD []) k u) (hn:zss.length=n) (F:Nat→Prop) (hF: ∀c,base≤c→c<w.heap.size→F c) (hF': ∀c,lo≤c→c<w.heap.size→F c):qa3 w v zss F:=by
 subst hn
 by_cases h0:zss.length=0
 · obtain ⟨a,c,rfl⟩:=h.shape
   exact Or.inl ⟨List.eq_nil_of_length_eq_zero h0,a,c,by rw [h0]⟩
 · obtain ⟨g,cap,rfl,hb,hg,hm,hrow⟩:=h.cells (by decide) (fun _=>rfl) (by omega)
   refine Or.inr ⟨g,cap,u,fun i c=>i<zss.length∧c=k i,hF g hb hg,fun i c hc=> ?_,fun i j c e h1 h2=>h.inj i j h1.1 h2.1 e (h1.2.symm.trans h2.2),rfl,hm, ?_,fun i hi=> (h.at' i hi).mono fun c hc=> ⟨hi,hc⟩⟩
   · have hl:=h.lo i hc.1
     have hne:=h.ne i hc.1
     rw [hc.2]
     exact ⟨hF' _ hl.1 hl.2,fun e=>hne (by simp [Value.ownBlock,e])⟩
   · rw [Nat.mul_one] at hrow
     exact hrow.congr fun i hi=>by simp [C1,Nat.mod_one]
theorem LRow.puts {w:World} {base lo:Nat} {e:TypeId} {v:Value} {n:Nat} {k:Nat→Nat} {u:Nat→Value} {ps:List (Int×List Int)} (h:LRow (C2 fun i=> (ps[i]?.getD (0, [])).1) w base lo e 2 v n (fun i=> (ps[i]?.getD (0, [])).2) k u) (hn:ps.length=n) (F:Nat→Prop) (hF: ∀c,base≤c→c<w.heap.size→F c) (hF': ∀i,i<n→F (k i)):qde w v ps F:=by
 subst hn
 by_cases h0:ps.length=0
 · obtain ⟨a,c,rfl⟩:=h.shape
   exact Or.inl ⟨List.eq_nil_of_length_eq_zero h0,a,c,by rw [h0]⟩
 · obtain ⟨g,cap,rfl,hb,hg,hm,hrow⟩:=h.cells (by decide) (fun _=>rfl) (by omega)
   refine Or.inr ⟨g,cap,u,fun i c=>i<ps.length∧c=k i,hF g hb hg,fun i c hc=> ?_,fun i j c e h1 h2=>h.inj i j h1.1 h2.1 e (h1.2.symm.trans h2.2),rfl,hm, ?_,fun i hi=> (h.at' i hi).mono fun c hc=> ⟨hi,hc⟩⟩
   · have hne:=h.ne i hc.1
     rw [hc.2]
     exact ⟨hF' i hc.1,fun e=>hne (by simp [Value.ownBlock,e])⟩
   · refine hrow.congr fun c hc=> ?_
     unfold qcy C2
     rcases Nat.mod_two_eq_zero_or_one c with h|h<;>simp [h]
end Go.Proofs.YthnmlipnoajmkaaGreatDoor
