/- Rows of inodes that grow by append,each with lists of its own;rows of inodes copied. What an inode's fault is. No program is named here. Words that grow by append;what PackInode answers. Which blocks are used and which are free. No program is named here. The plain mathematics of chapter 1:the codes of words,puts and disks. No program,no world. The walks of the codes of words and disks,the program's and the specification's. BlocksFor. The specification's InodeFault. The specification's l4File. -/
import Derived.Test.YthnmlipnoajmkaaGreatDoorM04
import Derived.Test.YthnmlipnoajmkaaGreatDoorM05
import Derived.Test.YthnmlipnoajmkaaGreatDoorM07
import Derived.Test.YthnmlipnoajmkaaGreatDoorM03
import Derived.Test.YthnmlipnoajmkaaGreatDoorM02
import Derived.Test.YthnmlipnoajmkaaGreatDoorRows
import Derived.Test.YthnmlipnoajmkaaGreatDoorM00
namespace Go.Proofs.YthnmlipnoajmkaaGreatDoor
open Go.RowKit
set_option maxRecDepth 100000

def C5 (d:ID) (u:Value×Value):List Value:= [.int .i64 d.1, .int .i64 d.2.1, .int .i64 d.2.2.1,u.1,u.2]
def qbZ (ds:Nat→ID) (u:Nat→Value×Value) (n:Nat):List Value:= (List.range n).flatMap fun i=>C5 (ds i) (u i)
theorem qaE (ds:Nat→ID) (u:Nat→Value×Value) (n:Nat): (qbZ ds u n).length=n*5:=by
 unfold qbZ
 induction n with
 |zero=>simp
 |succ n ih=>rw [List.range_succ,List.flatMap_append,List.length_append,ih];simp [C5,Nat.add_mul]
theorem qe6 (ds:Nat→ID) (u:Nat→Value×Value) (n:Nat):qbZ ds u (n+1)=qbZ ds u n++C5 (ds n) (u n):=by
 unfold qbZ
 rw [List.range_succ,List.flatMap_append]
 simp
theorem qhi {ds:Nat→ID} {u u':Nat→Value×Value} {n:Nat} (h: ∀i,i<n→u i=u' i):qbZ ds u n=qbZ ds u' n:=by
 unfold qbZ
 have e0: (List.range n).map (fun i=>C5 (ds i) (u i))= (List.range n).map (fun i=>C5 (ds i) (u' i)):=List.map_congr_left fun i hi=>by rw [h i (List.mem_range.1 hi)]
 rw [List.flatMap_def,List.flatMap_def,e0]
theorem qc3 (l:List ID) (u:Nat→Value×Value) (n:Nat): ∀c,c<n*5→ (qbZ (fun i=>l[i]?.getD id0) u n)[c]?=some (qao l u c):=by
 induction n with
 |zero=>intro c hc;omega
 | succ n ih=>
   intro c hc
   rw [qe6]
   by_cases h:c<n*5
   · rw [List.getElem?_append_left (by rw [qaE];exact h)]
     exact ih c h
   · rw [List.getElem?_append_right (by rw [qaE];omega),qaE]
     have:c=n*5∨c=n*5+1∨c=n*5+2∨c=n*5+3∨c=n*5+4:=by omega
     rcases this with e|e|e|e|e
     · subst e;rw [Nat.sub_self,qb5];rfl
     · subst e;rw [show n*5+1-n*5=1 by omega,qcs];rfl
     · subst e;rw [show n*5+2-n*5=2 by omega,qb6];rfl
     · subst e;rw [show n*5+3-n*5=3 by omega,qbL];rfl
     · subst e;rw [show n*5+4-n*5=4 by omega,qbv];rfl
theorem Tryz.infoIno': ∃i,Tryz.prog.info? 74=some i∧i.zero=some (.agg #[.int .i64 0, .int .i64 0, .int .i64 0, .slice none 0 0, .slice none 0 0])∧i.size=5∧i.bytes=72:=by
 obtain ⟨i,hi,h⟩:=Option.map_eq_some_iff.1 Tryz.infoIno
 simp only [Prod.mk.injEq] at h
 exact ⟨i,hi,h.1,h.2.1,h.2.2⟩
theorem Tryz.sizeInoT: (Tryz.prog.info? 74).map (·.size)=some 5:=by kernel_rfl

structure IRow (w:World) (base:Nat) (v:Value) (n:Nat) (ds:Nat→ID) (u:Nat→Value×Value) (G:Nat→Nat→Prop):Prop where
 own:w.ownsRow base 74 5 v n (qbZ ds u n)
 lo: ∀i c,i<n→G i c→base≤c∧c<w.heap.size
 ne: ∀i c,i<n→G i c→v.ownBlock≠some c
 inj: ∀i j c,i<n→j<n→i≠j→G i c→ ¬G j c
 at': ∀i,i<n→qdo w (.int .i64 (ds i).1) (.int .i64 (ds i).2.1) (.int .i64 (ds i).2.2.1) (u i).1 (u i).2 (ds i) (G i)
theorem IRow.nil (w:World) (base:Nat) (ds:Nat→ID):IRow w base (.slice none 0 0) 0 ds (fun _=> (.slice none 0 0, .slice none 0 0)) (fun _ _=>False):=
 ⟨World.ownsRow_nil _ _ _ _,fun i _ hi=>by omega,fun i _ hi=>by omega,fun i _ _ hi=>by omega,fun i hi=>by omega⟩
theorem IRow.keep {w w':World} {base:Nat} {v:Value} {n:Nat} {ds:Nat→ID} {u:Nat→Value×Value} {G:Nat→Nat→Prop} (h:IRow w base v n ds u G) (hs:w.heap.size≤w'.heap.size) (e: ∀c,base≤c→c<w.heap.size→w'.heap[c]?=w.heap[c]?):IRow w' base v n ds u G:=by
 refine ⟨?_,fun i c hi hc=> ⟨(h.lo i c hi hc).1,Nat.lt_of_lt_of_le (h.lo i c hi hc).2 hs⟩,h.ne,h.inj,fun i hi=> (h.at' i hi).keep fun c hc hlt=>e c (h.lo i c hi hc).1 hlt⟩
 obtain ⟨h1,h2⟩:=h.own
 refine ⟨h1, ?_⟩
 rcases h2 with h2| ⟨g,cap,cur,hv,hg,hh,r⟩
 · exact Or.inl h2
 · exact Or.inr ⟨g,cap,cur,hv,hg,by rw [e g hg (Array.getElem?_eq_some_iff.1 hh).1];exact hh,r⟩
theorem IRow.later {w w':World} {base:Nat} {v:Value} {n:Nat} {ds:Nat→ID} {u:Nat→Value×Value} {G:Nat→Nat→Prop} (h:IRow w base v n ds u G) (hb:Below w.heap.size w w'):IRow w' base v n ds u G:=h.keep hb.size fun c _ hlt=>hb.block c hlt
theorem IRow.store {w:World} {base:Nat} {v:Value} {n:Nat} {ds:Nat→ID} {u:Nat→Value×Value} {G:Nat→Nat→Prop} (h:IRow w base v n ds u G) {p:Addr} (hp:p.block<base) (x:Value):IRow (w.setCell p x) base v n ds u G:=
 h.keep (by simp [World.setCell]) fun c hc _=>Below.heap_setCell _ _ _ _ (by omega)
theorem IRow.shape {w:World} {base:Nat} {v:Value} {n:Nat} {ds:Nat→ID} {u:Nat→Value×Value} {G:Nat→Nat→Prop} (h:IRow w base v n ds u G): ∃a c,v= .slice a n c:=by
 rcases h.own.2 with ⟨rfl,rfl⟩| ⟨g,c,cur,rfl,_⟩
 · exact ⟨_,_,rfl⟩
 · exact ⟨_,_,rfl⟩
theorem IRow.append (w w1:World) (ty:TypeId) (base n:Nat) (v:Value) (ds:Nat→ID) (u:Nat→Value×Value) (G:Nat→Nat→Prop) (h:IRow w base v n ds u G) (hb:base≤w.heap.size) (hn:n≤1048600) (hb1:Below w.heap.size w w1)
 (aB:Option Addr) (nB cB:Nat) (aE:Option Addr) (nE cE:Nat) (hf:qdo w1 (.int .i64 (ds n).1) (.int .i64 (ds n).2.1) (.int .i64 (ds n).2.2.1) (.slice aB nB cB) (.slice aE nE cE) (ds n) (qaj w w1)):
 ∃ g cap X u' G',(Builtin.append_ #[29,29] ty #[v, .slice (some ⟨w1.heap.size,0,none⟩) 1 1]).run Tryz.prog (w1.alloc (.cells #[.int .i64 (ds n).1, .int .i64 (ds n).2.1, .int .i64 (ds n).2.2.1, .slice aB nB cB, .slice aE nE cE] 74))= .ok (.slice (some ⟨g,0,none⟩) (n+1) cap) X∧
  Below base w X∧w1.heap.size<X.heap.size∧IRow X base (.slice (some ⟨g,0,none⟩) (n+1) cap) (n+1) ds u' G':=by
 obtain ⟨i,hi,i1,i2,i3⟩:=Tryz.infoIno'
 have hsz1:=hb1.size
 have hbW:Below w.heap.size w (w1.alloc (.cells #[.int .i64 (ds n).1, .int .i64 (ds n).2.1, .int .i64 (ds n).2.2.1, .slice aB nB cB, .slice aE nE cE] 74)):=hb1.trans ((qab _ _).mono hb1.size)
 have hW:=h.later hbW
 obtain ⟨g,cap,X,hr,ho,hg,hat,hgX⟩:=run_append_lies (P:=Tryz.prog) (w1.alloc (.cells #[.int .i64 (ds n).1, .int .i64 (ds n).2.1, .int .i64 (ds n).2.2.1, .slice aB nB cB, .slice aE nE cE] 74)) 29 ty base 74 i _ 5 72 Tryz.underlying29 hi i1 i2 i3 rfl (by decide) v n _ hW.own ⟨w1.heap.size,0,none⟩ 1 1 (C5 (ds n) (.slice aB nB cB, .slice aE nE cE)) (by simp [C5])
  (fun j x hx=>by
    rw [qaA,Nat.zero_add,qar]
    simpa [C5] using hx) (fun x hx=>by
    simp only [C5,List.mem_cons,List.not_mem_nil,or_false] at hx
    rcases hx with rfl|rfl|rfl|rfl|rfl<;>rfl) (by decide) (by unfold maxLen;omega) (by omega) (by simp;omega) (w1.heap.size+1) (by simp)
 have hrowb: ∀g,v.ownBlock=some g→base≤g∧g<w.heap.size:=fun g hg=>h.own.lt g hg
 have hXb: ∀b,b<w1.heap.size→v.ownBlock≠some b→X.heap[b]?=w1.heap[b]?:=fun b hb' hne=> (hg.block b (by simp;omega) (fun e=>hne e.symm)).trans ((qab _ _).block b hb')
 have hne: ∀b,b≤w1.heap.size→v.ownBlock≠some b→g≠b:=by
  intro b hb' hb2 e
  subst e
  rcases hat with h|h
  · exact hb2 h
  · omega
 have old: ∀b,b<w.heap.size→v.ownBlock≠some b→X.heap[b]?=w.heap[b]?:=fun b hb' hne=> (hXb b (by omega) hne).trans (hb1.block b hb')
 have hXs:w1.heap.size<X.heap.size:=by have:=hg.size;simp at this;omega
 have hfr: ∀c,qaj w w1 c→v.ownBlock≠some c:=fun c hc e=>by have:= (hrowb c e).2;have:=hc.1;omega
 refine ⟨g,cap,X,fun j=>if j=n then (.slice aB nB cB, .slice aE nE cE) else u j,fun j c=>if j=n then qaj w w1 c else G j c,hr,(hbW.mono hb).trans (qaw hg (by simp;omega) (fun g hg'=> (hrowb g hg').1)),hXs,⟨?_,fun j c hj hc=> ?_,fun j c hj hc=> ?_,fun j j' c hj hj' e hc hc'=> ?_,fun j hj=> ?_⟩⟩
 · rw [qe6,qhi (u':=u) (fun i hi=>by rw [if_neg (by omega)])]
   simp only [if_true]
   exact ho
 · by_cases e:j=n
   · simp only [e,if_true] at hc
     have:=hc.1
     have:=hc.2
     omega
   · simp only [e,if_false] at hc
     have:=h.lo j c (by omega) hc
     omega
 · by_cases e:j=n
   · simp only [e,if_true] at hc
     exact fun e'=>hne c (Nat.le_of_lt hc.2) (hfr c hc) (by simpa [Value.ownBlock] using e')
   · simp only [e,if_false] at hc
     have hl:=h.lo j c (by omega) hc
     exact fun e'=>hne c (by omega) (h.ne j c (by omega) hc) (by simpa [Value.ownBlock] using e')
 · by_cases e1:j=n
   · by_cases e2:j'=n
     · omega
     · simp only [e1,e2,if_true,if_false] at hc hc'
       have:= (h.lo j' c (by omega) hc').2
       have:=hc.1
       omega
   · by_cases e2:j'=n
     · simp only [e1,e2,if_true,if_false] at hc hc'
       have:= (h.lo j c (by omega) hc).2
       have:=hc'.1
       omega
     · simp only [e1,e2,if_false] at hc hc'
       exact h.inj j j' c (by omega) (by omega) e hc hc'
 · by_cases e:j=n
   · subst e
     simp only [if_true]
     exact hf.keep fun c hc hlt=>hXb c hlt (hfr c hc)
   · simp only [e,if_false]
     exact (h.at' j (by omega)).keep fun c hc hlt=>old c hlt (h.ne j c (by omega) hc)
theorem IRow.inos {w:World} {base:Nat} {v:Value} {n:Nat} {u:Nat→Value×Value} {G:Nat→Nat→Prop} {l:List ID} (h:IRow w base v n (fun i=>l[i]?.getD id0) u G) (hn:l.length=n):qbk w v l (fun c=>base≤c∧c<w.heap.size∧ (v.ownBlock=some c∨ ∃i,i<n∧G i c)):=by
 subst hn
 obtain ⟨hl,h2| ⟨g,cap,cur,rfl,hb,hh,hnc,hcm,hcs,htake⟩⟩:=h.own
 · obtain ⟨rfl,h0⟩:=h2
   exact Or.inl ⟨List.eq_nil_of_length_eq_zero h0,none,0,rfl⟩
 · refine Or.inr ⟨g,cap,u,fun i c=>i<l.length∧G i c,⟨hb,(Array.getElem?_eq_some_iff.1 hh).1,Or.inl rfl⟩,fun i c hc=> ⟨⟨(h.lo i c hc.1 hc.2).1,(h.lo i c hc.1 hc.2).2,Or.inr ⟨i,hc⟩⟩,fun e=>h.ne i c hc.1 hc.2 (by simp [Value.ownBlock,e])⟩,fun i j c e h1 h2=>h.inj i j c h1.1 h2.1 e h1.2 h2.2,rfl,⟨by omega,hnc⟩,⟨cur,_,hh,by rw [hcs];exact Nat.mul_le_mul_right 5 hnc,fun c hc=> ?_⟩,fun i hi=> (h.at' i hi).mono fun c hc=> ⟨hi,hc⟩⟩
   have h1:=qc3 l u l.length c hc
   rw [←htake,List.getElem?_take,if_pos hc,Array.getElem?_toList] at h1
   exact h1

theorem qmK (w:World) (a:Option Addr) (n cap:Nat) (l:List ID) (u:Nat→Value×Value) (hs: ∀i,i<n→ (u i).1.oneCell'=true∧ (u i).2.oneCell'=true) (hc: ∀c,c<n*5→ ∃b off,a=some ⟨b,off,none⟩∧w.cell? ⟨b,off+c,none⟩=some (qao l u c)):
 ∃ X,(Builtin.copy_ #[29,29] 3 #[.slice (some ⟨w.heap.size,0,none⟩) n n, .slice a n cap]).run Tryz.prog (w.alloc (.cells (madeCells #[.int .i64 0, .int .i64 0, .int .i64 0, .slice none 0 0, .slice none 0 0] (n*5)) 74))= .ok (goInt n) X∧
  Below w.heap.size w X∧qaa X w.heap.size (n*5) (qao l u):=by
 by_cases h0:n=0
 · subst h0
   have hr:=qek (P:=Tryz.prog) (w.alloc (.cells (madeCells #[.int .i64 0, .int .i64 0, .int .i64 0, .slice none 0 0, .slice none 0 0] (0*5)) 74)) 29 29 3 74 (some ⟨w.heap.size,0,none⟩) a 0 cap 5 Tryz.underlying29 Tryz.sizeInoT
   exact ⟨_,hr,qab _ _,(qaa.madeFive w 0 74).congr fun i hi=>by omega⟩
 · obtain ⟨b,off,rfl,_⟩:=hc 0 (by omega)
   have hcp:=qej (P:=Tryz.prog) (w.alloc (.cells (madeCells #[.int .i64 0, .int .i64 0, .int .i64 0, .slice none 0 0, .slice none 0 0] (n*5)) 74)) 29 29 3 74 w.heap.size n n ⟨b,off,none⟩ cap 5 (madeCells #[.int .i64 0, .int .i64 0, .int .i64 0, .slice none 0 0, .slice none 0 0] (n*5)) 74 (qbZ (fun i=>l[i]?.getD id0) u n) Tryz.underlying29 Tryz.sizeInoT
    (Go.Deep.blk_alloc_new _ _) (qaE _ _ _) (fun j v hv=>by
      have hj:j<n*5:=by rw [←qaE (fun i=>l[i]?.getD id0) u n];exact (List.getElem?_eq_some_iff.1 hv).1
      rw [qc3 l u n j hj] at hv
      simp only [Option.some.injEq] at hv
      subst hv
      obtain ⟨b',off',e,h⟩:=hc j hj
      simp only [Option.some.injEq,Addr.mk.injEq,and_true] at e
      rw [qaA,e.1,e.2]
      exact cell_later (qab _ _) h) (by simp [size_madeCells,qaE]) (fun v hv=>by
      obtain ⟨j,hj,e⟩:=List.mem_iff_getElem.1 hv
      have hj':j<n*5:=by rw [←qaE (fun i=>l[i]?.getD id0) u n];exact hj
      have h1:=qc3 l u n j hj'
      rw [List.getElem?_eq_getElem hj,e] at h1
      simp only [Option.some.injEq] at h1
      subst h1
      have hd:j/5<n:=by omega
      unfold qao
      split
      · rfl
      · split
        · rfl
        · split
          · rfl
          · split
            · exact (hs _ hd).1
            · exact (hs _ hd).2)
   refine ⟨_,hcp,below_setRow (qab _ _) (Nat.le_refl _) _, ?_⟩
   refine ⟨_,74,setRow_heap _ _ _ _ _ _ (Go.Deep.blk_alloc_new _ _), ?_,fun i hi=> ?_⟩
   · simp [qaE,size_madeCells]
   · have hlen:i< (qbZ (fun i=>l[i]?.getD id0) u n).length:=by rw [qaE];exact hi
     rw [List.getElem?_toArray,List.getElem?_append_left hlen,qc3 l u n i hi]
end Go.Proofs.YthnmlipnoajmkaaGreatDoor

namespace Go.Proofs.YthnmlipnoajmkaaGreatDoor
open Go.RowKit
set_option maxRecDepth 100000

def qaJ (f:Nat→Int):Nat→Int
 |0=>0
 |n+1=>if qaJ f n=0 then f n else qaJ f n
theorem qaG {f:Nat→Int}: ∀ {n:Nat},(∀i,i<n→f i=0)→qaJ f n=0
 |0,_=>rfl
 | n+1,h=>by
   show (if qaJ f n=0 then f n else qaJ f n)=0
   rw [if_pos (qaG fun i hi=>h i (by omega))]
   exact h n (by omega)
theorem qbx {f:Nat→Int} {j:Nat} (h: ∀i,i<j→f i=0) (hj: ¬f j=0): ∀ {n:Nat},j<n→qaJ f n=f j
 |0,hn=>by omega
 | n +1,hn=>by
   show (if qaJ f n=0 then f n else qaJ f n)=f j
   by_cases e:j=n
   · subst e
     rw [if_pos (qaG h)]
   · have:=qbx h hj (n:=n) (by omega)
     rw [this,if_neg hj]
theorem qby {f:Nat→Int}: ∀ {n:Nat},qaJ f n=0→ ∀i,i<n→f i=0
 |0,_,i,hi=>by omega
 | n +1,h,i,hi=>by
   have h': (if qaJ f n=0 then f n else qaJ f n)=0:=h
   by_cases e:qaJ f n=0
   · rw [if_pos e] at h'
     by_cases e2:i=n
     · rw [e2];exact h'
     · exact qby e i (by omega)
   · rw [if_neg e] at h';exact absurd h' e

def qil (bs:List Int) (i:Nat):Int:=if 0≤bs[i]?.getD 0∧bs[i]?.getD 0≤19 then 0 else 3
def qq3 (bs:List Int) (i:Nat):Bool:= (List.range i).any fun k=>bs[k]?.getD 0==bs[i]?.getD 0
def qkI (bs:List Int) (i:Nat):Int:=if qq3 bs i then 7 else 0
theorem qoe {bs:List Int} {i k:Nat} (hk:k<i) (e:bs[k]?.getD 0=bs[i]?.getD 0):qq3 bs i=true:=by
 unfold qq3;rw [List.any_eq_true];exact ⟨k,by simpa using hk,by simp [e]⟩
theorem qpz {bs:List Int} {i:Nat} (h: ∀k,k<i→ ¬bs[k]?.getD 0=bs[i]?.getD 0):qq3 bs i=false:=by
 unfold qq3;rw [List.any_eq_false];intro k hk;simp at hk;simp [h k hk]
def qgn (bs:List Int):Int:=if qaJ (qil bs) bs.length=0 then qaJ (qkI bs) bs.length else qaJ (qil bs) bs.length
def qeO (x:Int):Bool:=decide (1≤x∧x≤60)
def qcJ (x:Int):Bool:=decide (0≤x∧x≤32)
def qof (x:Int):Int×Int:=if qcJ x then (0,(x+7)/8) else (3,0)
def qcK (l s:Int) (bs:List Int):Int:=if qeO l=true∧qcJ s=true then (if (bs.length:Int)= (s+7)/8 then qgn bs else 1) else 3
def qdZ (a b:ByteArray):Bool:=Op.bytesLess a.toList b.toList||a.toList==b.toList
def qdy (es:List EN) (i:Nat):Int:=if qal (es[i]?.getD en0).1=0 then (if 0≤ (es[i]?.getD en0).2∧ (es[i]?.getD en0).2≤9 then (if 0<i∧qdZ (es[i]?.getD en0).1 (es[i-1]?.getD en0).1=true then 1 else 0) else 3) else qal (es[i]?.getD en0).1
def qel (es:List EN):Int:=if 6<es.length then 2 else qaJ (qdy es) es.length
def fpB (d:ID):Bool:=decide (d.2.1≠0)||decide (d.2.2.1≠0)||decide (0<d.2.2.2.1.length)
def dpB (d:ID):Bool:=decide (0<d.2.2.2.2.length)
def qbl (d:ID):Int:=if d.1=0 then (if fpB d||dpB d then 1 else 0) else if d.1=1 then (if dpB d then 1 else qcK d.2.1 d.2.2.1 d.2.2.2.1) else if d.1=2 then (if fpB d then 1 else qel d.2.2.2.2) else 1
end Go.Proofs.YthnmlipnoajmkaaGreatDoor

namespace Go.Proofs.YthnmlipnoajmkaaGreatDoor
open Go.RowKit
set_option maxRecDepth 100000

def qjO (z:Int):Value:= .int .i64 z
def Wds (w:World) (n₀:Nat) (v:Value) (zs:List Int):Prop:=w.ownsRow n₀ 2 1 v zs.length (zs.map qjO)
theorem Wds.later {w w':World} {n₀:Nat} {v:Value} {zs:List Int} (h:Wds w n₀ v zs) (hb:Below w.heap.size w w'):Wds w' n₀ v zs:=qbh h hb
theorem Wds.shape {w:World} {n₀:Nat} {v:Value} {zs:List Int} (h:Wds w n₀ v zs): ∃a c,v= .slice a zs.length c:=qa1 h
theorem Wds.lit (w:World) (n₀:Nat) (hn:n₀≤w.heap.size) (zs:List Int) (arr:Array Value) (he:arr= (zs.map qjO).toArray) (n:Nat) (hz:zs.length=n) (hm:n≤1048576):Wds (w.alloc (.cells arr 2)) n₀ (.slice (some ⟨w.heap.size,0,none⟩) n n) zs:=by
 subst he
 subst hz
 have:=World.ownsRow_lit (e:=2) (size:=1) w (zs.map qjO).toArray zs.length hn (by unfold maxLen;omega) (by simp)
 simpa [Wds] using this
def qcn (w w':World):Prop:= ∀ (b:Nat) (c:Array Value) (t:TypeId) (fr:Nat×Nat),t≠2→w.heap[b]?=some (Obj.cells c t fr)→w'.heap[b]?=some (Obj.cells c t fr)
theorem qcn.refl (w:World):qcn w w:=fun _ _ _ _ _ h=>h
theorem qcn.trans {a b c:World} (h:qcn a b) (k:qcn b c):qcn a c:=fun i cs t fr ht hi=>k i cs t fr ht (h i cs t fr ht hi)
theorem qcn.later {w w':World} (hb:Below w.heap.size w w'):qcn w w':=fun b _ _ _ _ h=> (hb.block b (Array.getElem?_eq_some_iff.1 h).1).trans h
theorem qcn.grown {w w':World} {n₀:Nat} {v:Value} {zs:List Int} (h:Wds w n₀ v zs) (hg:w.grownBy w' v.ownBlock):qcn w w':=fun b c t fr ht hb=>by
 refine (hg.block b (Array.getElem?_eq_some_iff.1 hb).1 fun e=> ?_).trans hb
 rcases h.2 with ⟨rfl,_⟩| ⟨g,cap,cur,rfl,_,hh,_⟩
 · simp [Value.ownBlock] at e
 · simp only [Value.ownBlock,Option.some.injEq] at e
   subst e
   rw [hh] at hb
   simp only [Option.some.injEq,Obj.cells.injEq] at hb
   exact ht hb.2.1.symm
theorem qeP (w:World) (n₀:Nat) (v:Value) (zs ys:List Int) (a:Option Addr) (m c:Nat) (hrow:Wds w n₀ v zs) (hn₀:n₀≤w.heap.size) (hm:ys.length=m) (hz:zs.length≤16777216) (hy:m≤1048576) (hc:At1 w a m (fun k=> .int .i64 (ys[k]?.getD 0))) (hnn: ∃g cap,v= .slice (some ⟨g,0,none⟩) zs.length cap∧n₀≤g):
 ∃v' X,(Builtin.append_ #[64,64] 64 #[v, .slice a m c]).run Tryz.prog w= .ok v' X∧Wds X n₀ v' (zs++ys)∧Below n₀ w X∧qcn w X:=by
 obtain ⟨i,hi,h1,h2,h3⟩:=Tryz.infoInt'
 obtain ⟨g,cap,rfl,hg0⟩:=hnn
 by_cases ha:a=none
 · subst ha
   have h0:m=0:=by
    by_cases h:m=0
    · exact h
    · obtain ⟨_,_,e,_⟩:=hc 0 (by omega);cases e
   subst h0
   have hys:ys= []:=List.eq_nil_of_length_eq_zero hm
   subst hys
   have hlc:zs.length≤cap:=by
    rcases hrow.2 with ⟨e,_⟩| ⟨g',cap',cur,e,_,_,hnc,_⟩
    · cases e
    · simp only [Value.slice.injEq] at e
      rw [e.2.2];exact hnc
   refine ⟨.slice (some ⟨g,0,none⟩) zs.length cap,w, ?_,by rw [List.append_nil];exact hrow,Below.refl _ _,qcn.refl _⟩
   simp [Builtin.append_,run_underlying Tryz.underlying64,sizeOf,typeInfo,hi,Builtin.lenOf,Builtin.firstCells,storeCells,hlc]
 · obtain ⟨ad,rfl⟩:=Option.ne_none_iff_exists'.1 ha
   obtain ⟨v',X,hr,ho,hg,_⟩:=run_append_own (P:=Tryz.prog) w n₀ 64 64 2 i (.int .i64 0) 1 8 Tryz.underlying64 hi h1 h2 h3 rfl (by decide) _ zs.length _ hrow ad m c (ys.map qjO)
    (by simp [hm]) (fun j u hu=>by
      rw [List.getElem?_map,Option.map_eq_some_iff] at hu
      obtain ⟨z,hz1,rfl⟩:=hu
      have hj:j<m:=by rw [←hm];exact (List.getElem?_eq_some_iff.1 hz1).1
      obtain ⟨b,off,e,h⟩:=hc j hj
      simp only [Option.some.injEq] at e
      rw [e,qaA]
      replace h:w.cell? ⟨b,off+j,none⟩=some (.int .i64 (ys[j]?.getD 0)):=h
      rw [hz1,Option.getD_some] at h
      exact h) (fun u hu=>by
      obtain ⟨z,_,rfl⟩:=List.mem_map.1 hu
      rfl) (by unfold maxLen;omega) (by omega) hn₀
   refine ⟨v',X,hr, ?_,qaw hg hn₀ (fun k hk=> ?_),qcn.grown hrow hg⟩
   · unfold Wds
     rw [List.length_append,List.map_append,hm]
     exact ho
   · simp [Value.ownBlock] at hk;omega
theorem Wds.some {w:World} {n₀:Nat} {v:Value} {zs:List Int} (h:Wds w n₀ v zs) (h0:0<zs.length): ∃g cap,v= .slice (some ⟨g,0,none⟩) zs.length cap∧n₀≤g:=by
 obtain ⟨g,cap,h1,h2,_⟩:=qdY h h0
 exact ⟨g,cap,h1,h2⟩
theorem Wds.own {w w0:World} {n₀:Nat} {v:Value} {zs:List Int} (h:Wds w n₀ v zs) (h0:0<zs.length) (hn:w0.heap.size≤n₀):qak w v zs (qaj w0 w):=by
 obtain ⟨g,cap,rfl,h2,h3,h4,h5⟩:=qdY h h0
 refine Or.inr ⟨g,cap,⟨by omega,h3⟩,rfl,h4,h5.congr fun i hi=> ?_⟩
 rw [List.getElem?_map,List.getElem?_eq_getElem hi]
 rfl
theorem qqr (w:World) (n₀:Nat) (v:Value) (zs ys:List Int) (arr:Array Value) (m:Nat) (he:arr= (ys.map qjO).toArray) (hm:ys.length=m) (hrow:Wds w n₀ v zs) (hn₀:n₀≤w.heap.size) (hz:zs.length≤16777216) (hz0:0<zs.length) (hy:m≤1048576):
 ∃v' X,(Builtin.append_ #[64,64] 64 #[v, .slice (some ⟨w.heap.size,0,none⟩) m m]).run Tryz.prog (w.alloc (.cells arr 2))= .ok v' X∧Wds X n₀ v' (zs++ys)∧Below n₀ w X∧qcn w X:=by
 subst he
 obtain ⟨v',X,h1,h2,h3,h4⟩:=qeP (w.alloc (.cells (ys.map qjO).toArray 2)) n₀ v zs ys (some ⟨w.heap.size,0,none⟩) m m (hrow.later (qab _ _)) (by simp;omega) hm hz hy (fun k hk=> ⟨w.heap.size,0,rfl,by
  rw [Nat.zero_add,qar]
  have:k<ys.length:=by omega
  simp [List.getElem?_eq_getElem this,qjO]⟩) (hrow.some hz0)
 exact ⟨v',X,h1,h2,((qab w _).mono hn₀).trans h3,(qcn.later (qab _ _)).trans h4⟩

def Obx (w:World) (b:Nat) (vs:List Value) (t:TypeId):Prop:=w.heap[b]?=some (.cells vs.toArray t)
theorem Obx.new (w:World) (vs:List Value) (t:TypeId):Obx (w.alloc (.cells vs.toArray t)) w.heap.size vs t:=Go.Deep.blk_alloc_new _ _
theorem Obx.keep {w w':World} {b:Nat} {vs:List Value} {t:TypeId} (h:Obx w b vs t) (hk:qcn w w') (ht:t≠2):Obx w' b vs t:=hk _ _ _ _ ht h
theorem Obx.bx {w:World} {b:Nat} {vs:List Value} {t:TypeId} (h:Obx w b vs t):Bx w b vs:=fun i v hv=>by
 unfold Obx at h
 simp [World.cell?,h,hv]
theorem Obx.lt {w:World} {b:Nat} {vs:List Value} {t:TypeId} (h:Obx w b vs t):b<w.heap.size:= (Array.getElem?_eq_some_iff.1 h).1

def qpA (b:UInt8):Int:= (b.toNat:Int)
def qpB (e:EN):List Int:=e.2:: (e.1.size:Int)::e.1.data.toList.map qpA
def qdh (es:List EN):List Int:=es.flatMap qpB
def qog (d:ID):List Int:= [d.1,d.2.1,d.2.2.1]++d.2.2.2.1++ (if d.1=2 then ((d.2.2.2.2.length:Nat):Int)::qdh d.2.2.2.2 else [])
def qq4 (d:ID):Int×List Int:=if qbl d=0 then (0,qog d) else (qbl d, [])
theorem qkJ (e:EN): (qpB e).length=2+e.1.size:=by
 show (e.2:: (e.1.size:Int)::e.1.data.toList.map qpA).length=_
 rw [List.length_cons,List.length_cons,List.length_map,Array.length_toList];show e.1.size+1+1=2+e.1.size;omega
theorem qmL (es:List EN): (qdh es).length≤2*qcH es:=by
 unfold qcH
 induction es with
 |nil=>simp [qdh,qbj]
 | cons e t ih=>
   have h1: (qdh (e::t)).length= (qpB e).length+ (qdh t).length:=by simp [qdh]
   have h2: (qbj (e::t)).sum=e.1.size+ (qbj t).sum:=by simp [qbj]
   rw [h1,h2,qkJ]
   simp only [List.length_cons]
   omega
theorem qmM (d:ID): (qog d).length≤4+2*sizeIno d:=by
 have:=qmL d.2.2.2.2
 unfold qog sizeIno
 split<;>simp<;>omega
theorem qrN (d:ID) (h:sizeIno d≤1048576): ((qq4 d).2.length:Int)≤100000000:=by
 unfold qq4
 split
 · have:=qmM d
   show ((qog d).length:Int)≤_
   omega
 · simp
def qjP (x:ByteArray) (k:Nat):List Int:= (x.data.toList.take k).map qpA
theorem qqs (x:ByteArray) (k:Nat) (hk:k<x.size):qjP x (k+1)=qjP x k++ [((x[k]'hk).toNat:Int)]:=by
 unfold qjP
 have h:k<x.data.toList.length:=by rw [Array.length_toList];exact hk
 rw [List.take_succ_eq_append_getElem h,List.map_append]
 rfl
theorem qq5 (x:ByteArray) (k:Nat): (qjP x k).length≤x.size:=by
 unfold qjP
 rw [List.length_map,List.length_take,Array.length_toList]
 exact Nat.min_le_right _ _
theorem qq6 (x:ByteArray) (y:Int): [y,(x.size:Int)]++qjP x x.size=qpB (x,y):=by
 unfold qjP qpB
 rw [List.take_of_length_le (by rw [Array.length_toList];exact Nat.le_refl _)]
 rfl
theorem qq7 (es:List EN) (j:Nat) (hj:j<es.length): (qdh (es.take j)).length+2+ (es[j]?.getD en0).1.size≤ (qdh es).length:=by
 have h1:es=es.take (j+1)++es.drop (j+1):= (List.take_append_drop _ _).symm
 have h2: (qdh es).length= (qdh (es.take (j+1))).length+ (qdh (es.drop (j+1))).length:=by
  conv=>lhs;rw [h1]
  unfold qdh
  rw [List.flatMap_append,List.length_append]
 have h3:qdh (es.take (j+1))=qdh (es.take j)++qpB (es[j]?.getD en0):=by
  unfold qdh
  rw [List.take_succ_eq_append_getElem hj,List.flatMap_append,List.getElem?_eq_getElem hj]
  simp
 rw [h2,h3,List.length_append,qkJ]
 omega
theorem qqt (es:List EN) (j:Nat) (hj:j<es.length):qdh (es.take (j+1))=qdh (es.take j)++qpB (es[j]?.getD en0):=by
 unfold qdh
 rw [List.take_succ_eq_append_getElem hj,List.flatMap_append,List.getElem?_eq_getElem hj]
 simp
end Go.Proofs.YthnmlipnoajmkaaGreatDoor

namespace Go.Proofs.YthnmlipnoajmkaaGreatDoor
open Go.RowKit
set_option maxRecDepth 100000

def qaY (ds:List ID):Int:=if 10<ds.length then 2 else qaJ (fun i=>qbl (ds[i]?.getD id0)) ds.length
def qqu (bs:List Int):Int:=if 20<bs.length then 2 else qaJ (qil bs) bs.length
def qoh (ds:List ID):List Int:=ds.flatMap fun d=>d.2.2.2.1
def cntB (ds:List ID) (v:Int):Nat:= (qoh ds).count v
def qb7 (es:List EN):List Int:=es.map fun e=>e.2
def qco (ds:List ID):List Int:=ds.flatMap fun d=>qb7 d.2.2.2.2
theorem qem {α β:Type} (f:α→List β) (l:List α) (z:α) (j:Nat) (h:j<l.length): (l.take (j+1)).flatMap f= (l.take j).flatMap f++f (l[j]?.getD z):=by
 rw [List.take_succ_eq_append_getElem h,List.flatMap_append,List.getElem?_eq_getElem h]
 simp
theorem qdz (l:List Int) (v:Int) (k:Nat) (h:k<l.length): (l.take (k+1)).count v= (l.take k).count v+ (if l[k]?.getD 0=v then 1 else 0):=by
 rw [List.take_succ_eq_append_getElem h,List.count_append,List.getElem?_eq_getElem h,List.count_singleton]
 simp only [Option.getD_some]
 by_cases e:l[k]=v
 · rw [if_pos e,e,beq_self_eq_true];rfl
 · rw [if_neg e,show (l[k]==v)=false by simpa using e];rfl
theorem qft (ds:List ID): (qoh ds).length≤ (isz ds).sum:=by
 unfold qoh isz
 induction ds with
 |nil=>simp
 | cons d ds ih=>
   simp only [List.flatMap_cons,List.length_append,List.map_cons,List.sum_cons]
   have hd:sizeIno d=d.2.2.2.1.length+qcH d.2.2.2.2:=rfl
   omega
theorem qfu (ds:List ID): (qco ds).length≤ (isz ds).sum:=by
 unfold qco isz
 induction ds with
 |nil=>simp
 | cons d ds ih=>
   simp only [List.flatMap_cons,List.length_append,List.map_cons,List.sum_cons]
   have: (qb7 d.2.2.2.2).length=d.2.2.2.2.length:=by simp [qb7]
   have hd:sizeIno d=d.2.2.2.1.length+ (d.2.2.2.2.length+ (qbj d.2.2.2.2).sum):=rfl
   omega
theorem qen {α β:Type} (f:α→List β) (l:List α) (j:Nat): ((l.take j).flatMap f).length≤ (l.flatMap f).length:=by
 conv=>rhs;rw [←List.take_append_drop j l]
 rw [List.flatMap_append,List.length_append]
 omega

def qbH (p:Nat→Bool) (j:Nat):List Int:= ((List.range j).filter p).map fun k:Nat=> (k:Int)
theorem qkK {p:Nat→Bool} {j:Nat} (h:p j=true):qbH p (j+1)=qbH p j++ [(j:Int)]:=by simp [qbH,List.range_succ,h]
theorem qmN {p:Nat→Bool} {j:Nat} (h:p j=false):qbH p (j+1)=qbH p j:=by simp [qbH,List.range_succ,h]
theorem qeo (p:Nat→Bool) (j:Nat): (qbH p j).length≤j:=by
 unfold qbH
 rw [List.length_map]
 have:=List.length_filter_le p (List.range j)
 simpa using this

def qdM (ds:List ID) (k:Nat):Bool:=decide (0<cntB ds (k:Int))
def qb8 (ds:List ID) (j:Nat):Bool:= (List.range j).all fun k=>decide (cntB ds (k:Int)≤1)
theorem qln (ds:List ID) (j:Nat):qb8 ds (j+1)= (qb8 ds j&&decide (cntB ds (j:Int)≤1)):=by
 unfold qb8
 rw [List.range_succ,List.all_append]
 simp
def qq8 (ds:List ID):Int×List Int:=if qaY ds=0 then (if qb8 ds 20=true then (0,qbH (qdM ds) 20) else (7, [])) else (qaY ds, [])
def qim (ds:List ID) (bs:List Int) (k:Nat):Bool:=decide (cntB ds (k:Int)=0)&& !(bs.contains (k:Int))
def qrO (ds:List ID) (bs:List Int):Int:=if qaY ds=0 then qqu bs else qaY ds
def qq9 (ds:List ID) (bs:List Int):Int×List Int:=if qrO ds bs=0 then (0,qbH (qim ds bs) 20) else (qrO ds bs, [])
def qmO (ds:List ID) (bs:List Int) (n:Int):Int×List Int:=
 if qrO ds bs=0 then (if 0≤n∧n≤4 then (if ((qbH (qim ds bs) 20).length:Int)<n then (8, []) else (0,(qbH (qim ds bs) 20).take n.toNat)) else (3, [])) else (qrO ds bs, [])
def qae (ds:List ID) (k:Nat):Int:= (ds[k]?.getD id0).1
def qoZ (ds:List ID):Nat→Int
 |0=>if ds.length<10 then (ds.length:Int) else -1
 |m+1=>if qae ds (ds.length- (m+1))=0 then ((ds.length- (m+1):Nat):Int) else qoZ ds m
theorem qrP (ds:List ID) {j:Nat} (hj:j<ds.length) (h:qae ds j=0):qoZ ds (ds.length-j)= (j:Int):=by
 obtain ⟨m,hm⟩: ∃m,ds.length-j=m+1:= ⟨ds.length-j-1,by omega⟩
 rw [hm]
 show (if qae ds (ds.length- (m+1))=0 then ((ds.length- (m+1):Nat):Int) else qoZ ds m)=_
 rw [show ds.length- (m+1)=j by omega,if_pos h]
theorem qss (ds:List ID) {j:Nat} (hj:j<ds.length) (h: ¬qae ds j=0):qoZ ds (ds.length- (j+1))=qoZ ds (ds.length-j):=by
 obtain ⟨m,hm⟩: ∃m,ds.length-j=m+1:= ⟨ds.length-j-1,by omega⟩
 rw [hm,show ds.length- (j+1)=m by omega]
 show _= (if qae ds (ds.length- (m+1))=0 then ((ds.length- (m+1):Nat):Int) else qoZ ds m)
 rw [show ds.length- (m+1)=j by omega,if_neg h]
def qtk (ds:List ID):Int×Int:=if qaY ds=0 then (if qoZ ds ds.length<0 then (8,0) else (0,qoZ ds ds.length)) else (qaY ds,0)
def qqv (ds:List ID) (at_:Int):Int×Int:=if qaY ds=0 then (if 0≤at_∧at_≤ (ds.length:Int)-1 then (0,((qco ds).count at_:Nat)) else (3,0)) else (qaY ds,0)

theorem qfK (w:World) (n₀:Nat) (v:Value) (zs:List Int) (y:Int) (hrow:Wds w n₀ v zs) (hn₀:n₀≤w.heap.size) (hz:zs.length≤16777216):
 ∃a c X,(Builtin.append_ #[64,64] 64 #[v, .slice (some ⟨w.heap.size,0,none⟩) 1 1]).run Tryz.prog (w.alloc (.cells #[.int .i64 y] 2))= .ok (.slice a (zs++ [y]).length c) X∧Wds X n₀ (.slice a (zs++ [y]).length c) (zs++ [y])∧Below n₀ w X∧qcn w X:=by
 obtain ⟨i,hi,h1,h2,h3⟩:=Tryz.infoInt'
 have hrow2:Wds (w.alloc (.cells #[.int .i64 y] 2)) n₀ v zs:=hrow.later (qab _ _)
 obtain ⟨v',X,hr,ho,hg,_⟩:=run_append_own (P:=Tryz.prog) (w.alloc (.cells #[.int .i64 y] 2)) n₀ 64 64 2 i (.int .i64 0) 1 8 Tryz.underlying64 hi h1 h2 h3 rfl (by decide) v zs.length _ hrow2 ⟨w.heap.size,0,none⟩ 1 1 [qjO y]
  (by simp) (fun j u hu=>by
    have hj:j=0:=by
     have:= (List.getElem?_eq_some_iff.1 hu).1
     simp at this;omega
    subst hj
    simp only [List.getElem?_cons_zero,Option.some.injEq] at hu
    subst hu
    rw [qaA,Nat.add_zero,qar]
    rfl) (fun u hu=>by
    simp only [List.mem_singleton] at hu
    subst hu
    rfl) (by unfold maxLen;omega) (by omega) (by simp;omega)
 have how:Wds X n₀ v' (zs++ [y]):=by
  unfold Wds
  rw [List.length_append,List.map_append]
  exact ho
 obtain ⟨a,c,rfl⟩:=how.shape
 refine ⟨a,c,X,hr,how,((qab w _).mono hn₀).trans (qaw hg (by simp;omega) (fun k hk=> ?_)),(qcn.later (qab _ _)).trans (qcn.grown hrow2 hg)⟩
 rcases hrow.2 with ⟨e,_⟩| ⟨g,cap,cur,e,hb,_⟩
 · rw [e] at hk;simp [Value.ownBlock] at hk
 · rw [e] at hk
   simp only [Value.ownBlock,Option.some.injEq] at hk
   omega
theorem Wds.nil (w:World) (n₀:Nat):Wds w n₀ (.slice none 0 0) []:= ⟨by simp,Or.inl ⟨rfl,rfl⟩⟩
theorem Wds.own' {w w0:World} {n₀:Nat} {v:Value} {zs:List Int} (h:Wds w n₀ v zs) (hn:w0.heap.size≤n₀):qak w v zs (qaj w0 w):=by
 by_cases h0:0<zs.length
 · exact h.own h0 hn
 · obtain ⟨a,c,rfl⟩:=h.shape
   have:zs= []:=List.eq_nil_of_length_eq_zero (by omega)
   subst this
   exact Or.inl ⟨rfl,a,c,rfl⟩
end Go.Proofs.YthnmlipnoajmkaaGreatDoor

namespace Go.Proofs.YthnmlipnoajmkaaGreatDoor

def okW (z:Int):Bool:=decide (0≤z∧z≤65535)
def qbd (ws:List Int):Int:=if 64<ws.length then 2 else if ws.all okW then 0 else 3
def qdR:List Int→Int
 | []=>0
 |c::cs=>if c=0 then qdR cs else c
def qfL (n:Nat) (x:Int):Bool:=decide (0≤x∧x< (n:Int))
def qlZ (n:Nat) (p:Int×List Int):Int:=if qfL n p.1=true then qbd p.2 else 3
def qbV (bs:List (List Int)) (ps:List (Int×List Int)):Int:=
 if 60<bs.length∨200<ps.length then 2 else if qdR (bs.map qbd)=0 then qdR (ps.map (qlZ bs.length)) else qdR (bs.map qbd)

theorem qra {ws:List Int} (h: ∀i:Nat,i<ws.length→okW (ws[i]?.getD 0)=true):ws.all okW=true:=by
 rw [List.all_eq_true]
 intro x hx
 obtain ⟨i,hi,rfl⟩:=List.getElem_of_mem hx
 have:=h i hi
 rwa [List.getElem?_eq_getElem hi,Option.getD_some] at this
theorem qrb {ws:List Int} {i:Nat} (hi:i<ws.length) (h:okW (ws[i]?.getD 0)=false):ws.all okW=false:=by
 rw [List.getElem?_eq_getElem hi,Option.getD_some] at h
 rw [Bool.eq_false_iff]
 intro ha
 rw [List.all_eq_true] at ha
 have:=ha _ (List.getElem_mem hi)
 rw [h] at this;cases this
theorem qpC {ws:List Int} (h:64<ws.length):qbd ws=2:=by simp [qbd,h]
theorem qrc {ws:List Int} (h: ¬64<ws.length) (ha: ∀i:Nat,i<ws.length→okW (ws[i]?.getD 0)=true):qbd ws=0:=by simp [qbd,h,qra ha]
theorem qqw {ws:List Int} {i:Nat} (h: ¬64<ws.length) (hi:i<ws.length) (ha:okW (ws[i]?.getD 0)=false):qbd ws=3:=by simp [qbd,h,qrb hi ha]
theorem qd0 (l:List Int): (∀i:Nat,i<l.length→l[i]?.getD 0=0)→qdR l=0:=by
 induction l with
 |nil=>intro _;rfl
 | cons c cs ih=>
   intro h
   have h0:c=0:=by simpa using h 0 (by simp)
   have:qdR cs=0:=ih fun i hi=>by have:=h (i+1) (by simpa using hi);simpa using this
   simp [qdR,h0,this]
theorem qin (l:List Int): ∀j:Nat,j<l.length→ (∀i:Nat,i<j→l[i]?.getD 0=0)→ ¬l[j]?.getD 0=0→qdR l=l[j]?.getD 0:=by
 induction l with
 |nil=>intro j hj;simp at hj
 | cons c cs ih=>
   intro j hj hz hn
   cases j with
   |zero=>simp at hn;simp [qdR,hn]
   | succ j=>
     have h0:c=0:=by simpa using hz 0 (by omega)
     have:=ih j (by simpa using hj) (fun i hi=>by have:=hz (i+1) (by omega);simpa using this) (by simpa using hn)
     simp [qdR,h0,this]
theorem qep (bs:List (List Int)) {i:Nat} (h:i<bs.length): (bs.map qbd)[i]?.getD 0=qbd (bs[i]?.getD []):=by
 rw [List.getElem?_map,List.getElem?_eq_getElem h];rfl
theorem qfv (n:Nat) (ps:List (Int×List Int)) {i:Nat} (h:i<ps.length): (ps.map (qlZ n))[i]?.getD 0=qlZ n (ps[i]?.getD (0, [])):=by
 rw [List.getElem?_map,List.getElem?_eq_getElem h];rfl
theorem qjQ {bs:List (List Int)} {ps:List (Int×List Int)} (h:60<bs.length∨200<ps.length):qbV bs ps=2:=by simp [qbV,h]
theorem qio {bs:List (List Int)} {ps:List (Int×List Int)} {j:Nat} (h: ¬ (60<bs.length∨200<ps.length)) (hj:j<bs.length) (hz: ∀i:Nat,i<j→qbd (bs[i]?.getD [])=0) (hn: ¬qbd (bs[j]?.getD [])=0):qbV bs ps=qbd (bs[j]?.getD []):=by
 have e:=qin (bs.map qbd) j (by simpa using hj) (fun i hi=>by rw [qep bs (by omega)];exact hz i hi) (by rw [qep bs hj];exact hn)
 rw [qep bs hj] at e
 simp [qbV,h,e,hn]
theorem qlo {bs:List (List Int)} {ps:List (Int×List Int)} {j:Nat} (h: ¬ (60<bs.length∨200<ps.length)) (hb: ∀i:Nat,i<bs.length→qbd (bs[i]?.getD [])=0) (hj:j<ps.length) (hz: ∀i:Nat,i<j→qlZ bs.length (ps[i]?.getD (0, []))=0) (hn: ¬qlZ bs.length (ps[j]?.getD (0, []))=0):qbV bs ps=qlZ bs.length (ps[j]?.getD (0, [])):=by
 have e0:=qd0 (bs.map qbd) (fun i hi=>by rw [List.length_map] at hi;rw [qep bs hi];exact hb i hi)
 have e:=qin (ps.map (qlZ bs.length)) j (by simpa using hj) (fun i hi=>by rw [qfv _ ps (by omega)];exact hz i hi) (by rw [qfv _ ps hj];exact hn)
 rw [qfv _ ps hj] at e
 simp [qbV,h,e0,e]
theorem qrd {bs:List (List Int)} {ps:List (Int×List Int)} (h: ¬ (60<bs.length∨200<ps.length)) (hb: ∀i:Nat,i<bs.length→qbd (bs[i]?.getD [])=0) (hz: ∀i:Nat,i<ps.length→qlZ bs.length (ps[i]?.getD (0, []))=0):qbV bs ps=0:=by
 have e0:=qd0 (bs.map qbd) (fun i hi=>by rw [List.length_map] at hi;rw [qep bs hi];exact hb i hi)
 have e:=qd0 (ps.map (qlZ bs.length)) (fun i hi=>by rw [List.length_map] at hi;rw [qfv _ ps hi];exact hz i hi)
 simp [qbV,h,e0,e]

def atK (bs:List (List Int)) (ps:List (Int×List Int)) (x:Int):Nat→List Int
 |0=>bs[x.toNat]?.getD []
 |k+1=>if (ps[k]?.getD (0, [])).1=x then (ps[k]?.getD (0, [])).2 else atK bs ps x k
def atF (bs:List (List Int)) (ps:List (Int×List Int)) (x:Int):List Int:=atK bs ps x ps.length
theorem qpD {bs:List (List Int)} {ps:List (Int×List Int)} {x:Int} {k:Nat} (h: (ps[k]?.getD (0, [])).1=x):atK bs ps x (k+1)= (ps[k]?.getD (0, [])).2:=by simp [atK,h]
theorem qoi {bs:List (List Int)} {ps:List (Int×List Int)} {x:Int} {k:Nat} (h: ¬ (ps[k]?.getD (0, [])).1=x):atK bs ps x (k+1)=atK bs ps x k:=by simp [atK,h]
def qdS (bs:List (List Int)) (ps:List (Int×List Int)) (x:Int):Int:=if qbV bs ps=0 then (if qfL bs.length x=true then 0 else 3) else qbV bs ps

end Go.Proofs.YthnmlipnoajmkaaGreatDoor

namespace Go.Proofs.YthnmlipnoajmkaaGreatDoor
open Go.RowKit
set_option maxRecDepth 100000

theorem qoj (w:World) (v low high:Int):
 Calls Tryz.prog 134 #[.int .i64 v, .int .i64 low, .int .i64 high] w fun e w'=>e= .returned (.bool (decide (low≤v∧v≤high)))∧w'=w:=by
 by_cases h1:low≤v
 · by_cases h2:v≤high
   · have e1:decide (low≤v∧v≤high)=true:=by simp [h1,h2]
     rw [e1]
     go_enter Tryz.func134,Tryz.ntmps134
     go_wp2
     go_ret
     exact ⟨rfl,rfl⟩
   · have e1:decide (low≤v∧v≤high)=false:=by simp [h2]
     rw [e1]
     go_enter Tryz.func134,Tryz.ntmps134
     go_wp2
     go_ret
     exact ⟨rfl,rfl⟩
 · have e1:decide (low≤v∧v≤high)=false:=by simp [h1]
   have hd:decide (low≤v)=false:=by simpa using h1
   rw [e1]
   go_enter Tryz.func134,Tryz.ntmps134
   go_wp2
   go_ret
   exact ⟨rfl,rfl⟩

theorem qaL {w:World} {v low high:Int} {r:Bool} (h:decide (low≤v∧v≤high)=r):
 Calls Tryz.prog 134 #[.int .i64 v, .int .i64 low, .int .i64 high] w fun e w'=>e= .returned (.bool r)∧w'=w:=by
 subst h;exact qoj w v low high

theorem qrQ (n:Nat) (x:Int):decide (0≤x∧x≤ (n:Int)-1)=qfL n x:=by
 unfold qfL
 by_cases h:0≤x∧x< (n:Int)
 · simp [h];omega
 · simp [h];omega

end Go.Proofs.YthnmlipnoajmkaaGreatDoor

namespace Go.Proofs.YthnmlipnoajmkaaGreatDoor
open Go.RowKit
set_option maxRecDepth 100000

theorem qip (w:World) (x:Int):
 Calls Tryz.prog 171 #[.int .i64 x] w fun e w'=>e= .returned (.agg #[.int .i64 (qof x).1, .int .i64 (qof x).2])∧Below w.heap.size w w':=by
 unfold qof qcJ
 by_cases h0:x<0
 · rw [show decide (0≤x∧x≤32)=false by simp;omega]
   go_enter Tryz.func171,Tryz.ntmps171
   go_wp2
   exact bodyPost_ret (v:= .agg #[.int .i64 3, .int .i64 0]) (by simp [results,Tryz.results171,go_sem]) rfl ⟨rfl,by first|exact qab _ _|exact ((qab _ _).setCell (by simp) _).setCell (by simp) _|exact ((qam _ _ _).setCell (by simp) _).setCell (by simp) _⟩
 · by_cases h1:32<x
   · rw [show decide (0≤x∧x≤32)=false by simp;omega]
     go_enter Tryz.func171,Tryz.ntmps171
     go_wp2
     exact bodyPost_ret (v:= .agg #[.int .i64 3, .int .i64 0]) (by simp [results,Tryz.results171,go_sem]) rfl ⟨rfl,by first|exact qab _ _|exact ((qab _ _).setCell (by simp) _).setCell (by simp) _|exact ((qam _ _ _).setCell (by simp) _).setCell (by simp) _⟩
   · rw [show decide (0≤x∧x≤32)=true by simp;omega]
     go_enter Tryz.func171,Tryz.ntmps171
     go_wp2
     exact bodyPost_ret (v:= .agg #[.int .i64 0, .int .i64 ((x+7)/8)]) (by simp [results,Tryz.results171,go_sem];omega) rfl ⟨rfl,by first|exact qab _ _|exact ((qab _ _).setCell (by simp) _).setCell (by simp) _⟩
end Go.Proofs.YthnmlipnoajmkaaGreatDoor

namespace Go.Proofs.YthnmlipnoajmkaaGreatDoor
open Go.RowKit
set_option maxRecDepth 100000

theorem qeQ (w:World) (x:Int):Calls Tryz.prog 154 #[.int .i64 x] w fun e w'=>e= .returned (.bool (qcJ x))∧w'=w:=by
 go_enter Tryz.func154,Tryz.ntmps154
 go_wp2_with fail
 refine (qaL (r:=qcJ x) rfl).mono ?_
 rintro e w1 ⟨rfl,rfl⟩
 go_wp2
 go_ret
 exact ⟨rfl,rfl⟩
theorem qiq (w:World) (x:Int) (h0:0≤x) (h1:x≤32):Calls Tryz.prog 155 #[.int .i64 x] w fun e w'=>e= .returned (.int .i64 ((x+7)/8))∧w'=w:=by
 go_enter Tryz.func155,Tryz.ntmps155
 go_wp2
 go_ret
 exact ⟨qad (by omega),rfl⟩
def BxO (w:World) (b o:Nat) (vs:List Value):Prop:= ∀i v,vs[i]?=some v→w.cell? ⟨b,o+i,none⟩=some v
theorem Bx.zero {w:World} {b:Nat} {vs:List Value} (h:Bx w b vs):BxO w b 0 vs:=fun i v e=>by rw [Nat.zero_add];exact h i v e
end Go.Proofs.YthnmlipnoajmkaaGreatDoor

namespace Go.Proofs.YthnmlipnoajmkaaGreatDoor
open Go.RowKit
set_option maxRecDepth 100000

set_option maxHeartbeats 3200000 in
theorem qlp (w:World) (b o:Nat) (k l s:Int) (a:Option Addr) (n c:Nat) (vE:Value) (hx:BxO w b o [.int .i64 k, .int .i64 l, .int .i64 s, .slice a n c,vE]) (h: ¬ (qeO l=true∧qcJ s=true)):
 Calls Tryz.prog 135 #[.pointer (some ⟨b,o,none⟩)] w fun e w'=>e= .returned (.int .i64 3)∧w'=w:=by
 have c1:=hx 1 _ rfl
 have c2:=hx 2 _ rfl
 clear hx
 by_cases hl:qeO l=true
 · have HL:Hid (decide (1≤l∧l≤60)=true):=hl
   have HS:Hid (qcJ s=false):=by unfold Hid;simp [hl] at h;exact h
   clear h hl
   go_enter Tryz.func135,Tryz.ntmps135
   go_wp2_with fail
   refine (qaL HL.out).mono ?_
   rintro e w1 ⟨rfl,rfl⟩
   go_wp2_with fail
   refine (qeQ _ s).mono ?_
   rw [HS.out]
   rintro e w1 ⟨rfl,rfl⟩
   go_wp2
   go_ret
   exact ⟨rfl,rfl⟩
 · have HL:Hid (decide (1≤l∧l≤60)=false):=by unfold Hid;simpa [qeO] using hl
   clear h hl
   go_enter Tryz.func135,Tryz.ntmps135
   go_wp2_with fail
   refine (qaL HL.out).mono ?_
   rintro e w1 ⟨rfl,rfl⟩
   go_wp2
   go_ret
   exact ⟨rfl,rfl⟩

set_option maxHeartbeats 3200000 in
theorem qlq (w:World) (b o:Nat) (k l s:Int) (a:Option Addr) (n c:Nat) (vE:Value) (hx:BxO w b o [.int .i64 k, .int .i64 l, .int .i64 s, .slice a n c,vE]) (hl:qeO l=true) (hs:qcJ s=true) (_hn:n≤maxLen) (h: ¬ (n:Int)= (s+7)/8):
 Calls Tryz.prog 135 #[.pointer (some ⟨b,o,none⟩)] w fun e w'=>e= .returned (.int .i64 1)∧ ∃m,w'=w.drewN m:=by
 have c1:=hx 1 _ rfl
 have c2:=hx 2 _ rfl
 have c3:=hx 3 _ rfl
 have HL:Hid (decide (1≤l∧l≤60)=true):=hl
 have HS:Hid (qcJ s=true):=hs
 have h01:0≤s∧s≤32:=by simpa [qcJ] using hs
 have hne: ((n:Int) != (s+7)/8)=true:=by simpa using h

 clear hx hl hs h
 go_enter Tryz.func135,Tryz.ntmps135
 go_wp2_with fail
 refine (qaL HL.out).mono ?_
 rintro e w1 ⟨rfl,rfl⟩
 go_wp2_with fail
 refine (qeQ _ s).mono ?_
 rw [HS.out]
 rintro e w1 ⟨rfl,rfl⟩
 have HFO:Hid (∀W,Calls Tryz.prog 155 #[.int .i64 s] W fun e w'=>e= .returned (.int .i64 ((s+7)/8))∧w'=W):=fun W=>qiq W s h01.1 h01.2
 generalize (s+7)/8=q at*
 go_wp2_with fail
 go_quiet ((go_at_call 155;exact Calls.quiet_of_same (HFO.out _)))
 go_wp2
 go_ret
 exact ⟨rfl,nq,rfl⟩

set_option maxHeartbeats 6400000 in
theorem qmP (w:World) (b o:Nat) (k l s:Int) (a:Option Addr) (n c:Nat) (vE:Value) (bs:List Int) (hx:BxO w b o [.int .i64 k, .int .i64 l, .int .i64 s, .slice a n c,vE]) (hl:qeO l=true) (hs:qcJ s=true) (h: (n:Int)= (s+7)/8) (hbn:bs.length=n) (hc:At1 w a n (fun k=> .int .i64 (bs[k]?.getD 0))):
 Calls Tryz.prog 135 #[.pointer (some ⟨b,o,none⟩)] w fun e w'=>e= .returned (.int .i64 (qgn bs))∧ ∃m,w'=w.drewN m:=by
 have c1:=hx 1 _ rfl
 have c2:=hx 2 _ rfl
 have c3:=hx 3 _ rfl
 have HL:Hid (decide (1≤l∧l≤60)=true):=hl
 have HS:Hid (qcJ s=true):=hs
 have h01:0≤s∧s≤32:=by simpa [qcJ] using hs
 have hn5:n≤5:=by omega
 have HF:Hid ((n:Int)= (s+7)/8):=h
 have HC:Hid (At1 w a n (fun k=> .int .i64 (bs[k]?.getD 0))):=hc
 have HN:Hid (bs.length=n):=hbn
 have hnn: ((n:Int) != (n:Int))=false:=by simp
 clear hx hl hs h hc hbn
 go_enter Tryz.func135,Tryz.ntmps135
 go_wp2_with fail
 refine (qaL HL.out).mono ?_
 rintro e w1 ⟨rfl,rfl⟩
 go_wp2_with fail
 refine (qeQ _ s).mono ?_
 rw [HS.out]
 rintro e w1 ⟨rfl,rfl⟩
 have HFO:Hid (∀W,Calls Tryz.prog 155 #[.int .i64 s] W fun e w'=>e= .returned (.int .i64 (n:Int))∧w'=W):=fun W=>by rw [HF.out];exact qiq W s h01.1 h01.2
 go_wp2_with fail
 go_quiet ((go_at_call 155;exact Calls.quiet_of_same (HFO.out _)))
 go_wp2
 go_loopw [3] (fun i wr=> ∃j m:Nat,j≤n∧i= .int .i64 j∧wr=w1.drewN m∧ ∀i:Nat,i<j→qil bs i=0) (fun i _=>n- (intOf i).toNat)
 case atStart=>exact ⟨0,nq,Nat.zero_le _,rfl,rfl,fun i hi=>by omega⟩
 case round=>
  obtain ⟨j,m,hj,rfl,rfl,hall⟩:=hrel
  have HA:Hid (∀i:Nat,i<j→qil bs i=0):=hall
  clear hall
  by_cases hlt:j<n
  · obtain ⟨b1,off,rfl,e1⟩:=HC.out j hlt
    dsimp only at e1
    have HRF:Hid (qil bs j=if 0≤bs[j]?.getD 0∧bs[j]?.getD 0≤19 then 0 else 3):=rfl
    generalize bs[j]?.getD 0=x at*
    by_cases hr:0≤x∧x≤19
    · have HQ:Hid (decide (0≤x∧x≤19)=true):=by unfold Hid;simpa using hr
      have HZ:Hid (qil bs j=0):=by unfold Hid;rw [HRF.out,if_pos hr]
      clear hr
      go_wp2_with fail
      refine (qaL HQ.out).mono ?_
      rintro e w2 ⟨rfl,rfl⟩
      go_wp2
      go_roundw
      case rel=>
       refine ⟨j+1,m,by omega,by go_num,rfl,fun i hi=> ?_⟩
       by_cases e:i=j
       · subst e;exact HZ.out
       · exact HA.out i (by omega)
      case measure=>simp [intOf];omega
    · have HQ:Hid (decide (0≤x∧x≤19)=false):=by unfold Hid;simpa using hr
      have HZ:Hid (qil bs j=3):=by unfold Hid;rw [HRF.out,if_neg hr]
      have HB:Hid (qgn bs=3):=by
       have h3:qaJ (qil bs) bs.length=3:=by rw [qbx HA.out (by rw [HZ.out];decide) (by rw [HN.out];exact hlt),HZ.out]
       unfold Hid qgn;rw [h3];rfl
      clear hr
      go_wp2_with fail
      refine (qaL HQ.out).mono ?_
      rintro e w2 ⟨rfl,rfl⟩
      go_wp2
      go_ret
      exact ⟨qad HB.out.symm,m,rfl⟩
  · have HB : Hid (qgn bs=qaJ (qkI bs) bs.length):=by
     unfold Hid qgn;rw [if_pos (qaG fun i hi=>HA.out i (by rw [HN.out] at hi;omega))]
    clear HA
    go_wp2
    go_loopw [4] (fun i wr=> ∃j m:Nat,j≤n∧i= .int .i64 j∧wr=w1.drewN m∧ ∀i:Nat,i<j→qkI bs i=0) (fun i _=>n- (intOf i).toNat)
    case atStart=>exact ⟨0,m,Nat.zero_le _,rfl,rfl,fun i hi=>by omega⟩
    case round=>
     obtain ⟨j2,m2,hj2,rfl,rfl,hall⟩:=hrel
     have HA:Hid (∀i:Nat,i<j2→qkI bs i=0):=hall
     clear hall
     by_cases hlt2:j2<n
     · go_wp2
       go_loopw [5] (fun i wr=> ∃k2 m:Nat,k2≤j2∧i= .int .i64 k2∧wr=w1.drewN m∧ ∀i:Nat,i<k2→ ¬bs[i]?.getD 0=bs[j2]?.getD 0) (fun i _=>j2- (intOf i).toNat)
       case atStart=>exact ⟨0,m2,Nat.zero_le _,rfl,rfl,fun i hi=>by omega⟩
       case round=>
        obtain ⟨k2,m3,hk2,rfl,rfl,hall⟩:=hrel
        have HA2:Hid (∀i:Nat,i<k2→ ¬bs[i]?.getD 0=bs[j2]?.getD 0):=hall
        clear hall
        by_cases hlt3:k2<j2
        · obtain ⟨b1,off,rfl,e1⟩:=HC.out j2 hlt2
          obtain ⟨b2,off2,h12,e2⟩:=HC.out k2 (by omega)
          simp only [Option.some.injEq,Addr.mk.injEq,and_true] at h12
          obtain ⟨rfl,rfl⟩:=h12
          dsimp only at e1 e2
          have HX:Hid (bs[k2]?.getD 0=bs[k2]?.getD 0):=rfl
          by_cases he:bs[k2]?.getD 0=bs[j2]?.getD 0
          · have HD:Hid (qkI bs j2=7):=by unfold Hid qkI;rw [qoe hlt3 he];rfl
            have HR:Hid (qgn bs=7):=by
             unfold Hid;rw [HB.out,qbx HA.out (by rw [HD.out];decide) (by rw [HN.out];exact hlt2),HD.out]
            rw [he] at e2
            generalize bs[j2]?.getD 0=x at*
            go_wp2_with fail
            go_quiet (fail)
            go_wp2
            go_ret
            exact ⟨qad HR.out.symm,m3+nq,by first|rfl|rw [World.drewN_drewN]⟩
          · have HNE:Hid (∀i:Nat,i<k2+1→ ¬bs[i]?.getD 0=bs[j2]?.getD 0):=fun i hi=>by
             by_cases e:i=k2
             · rw [e];exact he
             · exact HA2.out i (by omega)
            have he': (bs[k2]?.getD 0==bs[j2]?.getD 0)=false:=by simpa using he
            generalize bs[j2]?.getD 0=x at*
            generalize bs[k2]?.getD 0=y at*
            go_wp2_with fail
            go_quiet (fail)
            go_wp2
            go_roundw
            case rel=>exact ⟨k2+1,m3+nq,by omega,by go_num,by first|rfl|rw [World.drewN_drewN],HNE.out⟩
            case measure=>simp [intOf];omega
        · have HZ:Hid (∀i:Nat,i<j2+1→qkI bs i=0):=fun i hi=>by
           by_cases e:i=j2
           · subst e
             unfold qkI
             rw [qpz fun k hk=>HA2.out k (by omega)]
             rfl
           · exact HA.out i (by omega)
          go_wp2
          go_roundw
          case rel=>exact ⟨j2+1,m3,by omega,by go_num,rfl,HZ.out⟩
          case measure=>simp [intOf];omega
     · have HZ:Hid (qgn bs=0):=by unfold Hid;rw [HB.out,qaG fun i hi=>HA.out i (by rw [HN.out] at hi;omega)]
       go_wp2
       go_ret
       exact ⟨qad HZ.out.symm,m2,rfl⟩
theorem qlr (w:World) (b o:Nat) (k l s:Int) (a:Option Addr) (n c:Nat) (vE:Value) (bs:List Int) (hx:BxO w b o [.int .i64 k, .int .i64 l, .int .i64 s, .slice a n c,vE]) (hi:qb1 w (.slice a n c) bs):
 Calls Tryz.prog 135 #[.pointer (some ⟨b,o,none⟩)] w fun e w'=>e= .returned (.int .i64 (qcK l s bs))∧ ∃m,w'=w.drewN m:=by
 obtain ⟨a',cap,h1,hm,hc⟩:=hi.open'
 simp only [Value.slice.injEq] at h1
 obtain ⟨rfl,rfl,rfl⟩:=h1
 unfold qcK
 by_cases h:qeO l=true∧qcJ s=true
 · rw [if_pos h]
   by_cases hl: (bs.length:Int)= (s+7)/8
   · rw [if_pos hl]
     exact qmP w b o k l s _ _ _ vE bs hx h.1 h.2 hl rfl hc
   · rw [if_neg hl]
     exact qlq w b o k l s _ _ _ vE hx h.1 h.2 hm hl
 · rw [if_neg h]
   exact (qlp w b o k l s _ _ _ vE hx h).mono fun e w' ⟨h1,h2⟩=> ⟨h1,0,h2⟩
end Go.Proofs.YthnmlipnoajmkaaGreatDoor
