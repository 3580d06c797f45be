/- Directories:what stays right where an entry goes;how great right inodes are. No program is named here. The program's DropName:an entry taken out of its place. The program's AddName:what it asks;places of a file system that are told. A directory's entry that is entered or struck where it lies. The program's AddName. The program's WalkParent. The specification's WalkParent. -/
import Derived.Test.YthnmlipnoajmkaaGreatDoorM15
import Derived.Test.YthnmlipnoajmkaaGreatDoorM21
import Derived.Test.YthnmlipnoajmkaaGreatDoorM20
import Derived.Deep.Cut
import Derived.Deep.CutRange
import Derived.Test.YthnmlipnoajmkaaGreatDoorM06
namespace Go.Proofs.YthnmlipnoajmkaaGreatDoor
open Go.RowKit
set_option maxRecDepth 100000

def qaO (es:List EN) (k:Nat):List EN:=es.take k++es.drop (k+1)
theorem qhO {es:List EN} {k:Nat} (h:k<es.length): (qaO es k).length=es.length-1:=by
 unfold qaO
 rw [List.length_append,List.length_take,List.length_drop];omega
theorem qnm {es:List EN} {k:Nat} (h:k+1=es.length):qaO es k=es.take k:=by
 unfold qaO
 rw [List.drop_of_length_le (by omega),List.append_nil]
theorem qc9 {es:List EN} {k:Nat} (h:k<es.length) (i:Nat): (qaO es k)[i]?.getD en0=es[if i<k then i else i+1]?.getD en0:=by
 unfold qaO
 by_cases hi:i<k
 · rw [if_pos hi,List.getElem?_append_left (by rw [List.length_take];omega),List.getElem?_take,if_pos hi]
 · rw [if_neg hi,List.getElem?_append_right (by rw [List.length_take];omega),List.length_take,List.getElem?_drop,show k+1+ (i-min k es.length)=i+1 by omega]
theorem qiW {es:List EN} {k:Nat} (h:k<es.length) (hz: ∀k:Nat,(es[k]?.getD en0).1.size≤maxLen) (i:Nat): ((qaO es k)[i]?.getD en0).1.size≤maxLen:=by
 rw [qc9 h];exact hz _
structure DirE (es:List EN):Prop where
 six:es.length≤6
 names: ∀i,i<es.length→qal (es[i]?.getD en0).1=0
 nums: ∀i,i<es.length→0≤ (es[i]?.getD en0).2∧ (es[i]?.getD en0).2≤9
 rises:qeu es
theorem qnn {es:List EN} (h:qel es=0):DirE es:=by
 obtain ⟨h1,h2,h3⟩:=qiF h
 refine ⟨h3,h2,fun i hi=> ?_,h1⟩
 unfold qel at h
 rw [if_neg (by omega)] at h
 have:=qby h i hi
 unfold qdy at this
 rw [if_pos (h2 i hi)] at this
 by_cases e:0≤ (es[i]?.getD en0).2∧ (es[i]?.getD en0).2≤9
 · exact e
 · rw [if_neg e] at this;omega
theorem DirE.fault {es:List EN} (h:DirE es):qel es=0:=by
 unfold qel
 rw [if_neg (by have:=h.six;omega)]
 refine qaG fun i hi=> ?_
 unfold qdy
 rw [if_pos (h.names i hi),if_pos (h.nums i hi),if_neg]
 rintro ⟨h0,hs⟩
 have hr:=h.rises (i-1) (by omega)
 rw [show i-1+1=i by omega] at hr
 unfold qdZ at hs
 rw [Bool.or_eq_true] at hs
 rcases hs with hs|hs
 · have:=qhx hr hs
   rw [qgN] at this;exact absurd this (by decide)
 · have e: (es[i]?.getD en0).1.toList= (es[i-1]?.getD en0).1.toList:=by simpa using hs
   rw [e,qgN] at hr;exact absurd hr (by decide)
theorem DirE.del {es:List EN} (h:DirE es) {k:Nat} (hk:k<es.length):DirE (qaO es k):=by
 have hl:=qhO hk
 refine ⟨by have:=h.six;omega,fun i hi=> ?_,fun i hi=> ?_,fun i hi=> ?_⟩
 · rw [qc9 hk];exact h.names _ (by split<;>omega)
 · rw [qc9 hk];exact h.nums _ (by split<;>omega)
 · rw [qc9 hk,qc9 hk]
   by_cases h1:i+1<k
   · rw [if_pos h1,if_pos (by omega)];exact h.rises i (by omega)
   · rw [if_neg h1]
     by_cases h2:i<k
     · rw [if_pos h2];exact h.rises.lt (by omega) (by omega)
     · rw [if_neg h2];exact h.rises (i+1) (by omega)
theorem qoC {ds:List ID} (h:qaY ds=0) (j:Nat) (x:ID) (hx:qbl x=0):qaY (ds.set j x)=0:=by
 have ht:=qbM h
 unfold qaY
 rw [List.length_set,if_neg (by omega)]
 refine qaG fun i hi=> ?_
 rw [List.getElem?_set]
 by_cases e:j=i
 · rw [if_pos e]
   by_cases hl:j<ds.length
   · rw [if_pos (by omega)];exact hx
   · omega
 · rw [if_neg e];exact qaM h i hi
theorem qoD {x:ID} (hk:x.1=2) (h:qbl x=0) {es:List EN} (he:DirE es):qbl (x.1,x.2.1,x.2.2.1, [],es)=0:=by
 unfold qbl at h ⊢
 rw [if_neg (by omega),if_neg (by omega),if_pos hk] at h
 dsimp only
 rw [if_neg (by omega),if_neg (by omega),if_pos hk]
 by_cases hf:fpB x=true
 · rw [if_pos hf] at h;omega
 · have hf2:fpB (x.1,x.2.1,x.2.2.1, [],es)=false:=by
    unfold fpB at hf ⊢
    simp at hf ⊢
    exact hf.1
   rw [hf2]
   exact he.fault
theorem qaX {s:ByteArray} (h:qal s=0):s.size≤4∧1≤s.size:=by
 unfold qal at h
 by_cases h0:s.size=0
 · rw [if_pos h0] at h;omega
 · rw [if_neg h0] at h
   by_cases h1:s.data.toList.all byB=true
   · rw [if_pos h1] at h
     by_cases h2:4<s.size
     · rw [if_pos h2] at h;omega
     · omega
   · rw [if_neg h1] at h;omega
theorem qlO {es:List EN} (h: ∀i,i<es.length→ (es[i]?.getD en0).1.size≤4): (qbj es).sum≤4*es.length:=by
 unfold qbj
 induction es with
 |nil=>simp
 | cons x es ih=>
   have h0:=h 0 (by simp)
   have:=ih fun i hi=>by have:=h (i+1) (by simpa using hi);simpa using this
   simp at h0
   simp only [List.map_cons,List.sum_cons,List.length_cons,Nat.mul_add,Nat.mul_one]
   omega
theorem qno {x:ID} (h:qbl x=0):sizeIno x≤40:=by
 have h1:=qb9 h
 have h6:=qhq h
 have h4 : (qbj x.2.2.2.2).sum≤4*x.2.2.2.2.length:=by
  by_cases hk:x.1=2
  · exact qlO fun i hi=> (qaX ((qnn (qhA h hk)).names i hi)).1
  · have he:x.2.2.2.2.length=0:=by
     unfold qbl at h
     have dp:dpB x=false→x.2.2.2.2.length=0:=fun hd=>by unfold dpB at hd;simp at hd;rw [hd];rfl
     by_cases h0:x.1=0
     · rw [if_pos h0] at h
       by_cases hd:dpB x=true
       · rw [hd,Bool.or_true,if_pos rfl] at h;omega
       · exact dp (by simpa using hd)
     · rw [if_neg h0] at h
       by_cases h1:x.1=1
       · rw [if_pos h1] at h
         by_cases hd:dpB x=true
         · rw [if_pos hd] at h;omega
         · exact dp (by simpa using hd)
       · rw [if_neg h1,if_neg hk] at h;omega
    rw [List.eq_nil_of_length_eq_zero he];simp [qbj]
 unfold sizeIno qcH
 omega
theorem qoE {ds:List ID} {m:Nat} (h: ∀i:Nat,i<ds.length→sizeIno (ds[i]?.getD id0)≤m): (isz ds).sum≤m*ds.length:=by
 unfold isz
 induction ds with
 |nil=>simp
 | cons x ds ih=>
   have h0:=h 0 (by simp)
   have:=ih fun i hi=>by have:=h (i+1) (by simpa using hi);simpa using this
   simp at h0
   simp only [List.map_cons,List.sum_cons,List.length_cons,Nat.mul_add,Nat.mul_one]
   omega
theorem qiX {ds:List ID} (h:qaY ds=0):qag ds≤410:=by
 have h1:=qoE fun i hi=>qno (qaM h i hi)
 have h2:=qbM h
 unfold qag
 omega
theorem qoF {d:FD} (h:qaY d.1=0) (h20:d.2.length=20) (h8: ∀i:Nat,(d.2[i]?.getD []).length≤8):sizeFs d≤1000:=by
 have h1:=qiX h
 have h2:=qbq h8
 unfold sizeFs qb2
 omega
end Go.Proofs.YthnmlipnoajmkaaGreatDoor

namespace Go.Proofs.YthnmlipnoajmkaaGreatDoor
open Go.RowKit
set_option maxRecDepth 100000

theorem qaa.less {w:World} {b n m:Nat} {f:Nat→Value} (h:qaa w b n f) (hm:m≤n):qaa w b m f:=by
 obtain ⟨cur,t,h1,h2,h3⟩:=h
 exact ⟨cur,t,h1,by omega,fun i hi=>h3 i (by omega)⟩
theorem qbc.take {w:World} {a:Option Addr} {n c:Nat} {es:List EN} {F:Nat→Prop} (h:qbc w (.slice a n c) es F) (k:Nat) (hk:k≤n):qbc w (.slice a k k) (es.take k) F:=by
 rcases h with ⟨rfl,_,_,e⟩| ⟨b,cap,hF,e,⟨h1,h2,h3⟩,h4⟩
 · simp only [Value.slice.injEq] at e
   obtain ⟨rfl,rfl,rfl⟩:=e
   have:k=0:=by omega
   subst this
   exact Or.inl ⟨rfl,_,_,rfl⟩
 · simp only [Value.slice.injEq] at e
   obtain ⟨rfl,rfl,rfl⟩:=e
   have hl: (es.take k).length=k:=by rw [List.length_take];omega
   have hg: ∀i:Nat,i<k→ (es.take k)[i]?.getD en0=es[i]?.getD en0:=fun i hi=>by rw [List.getElem?_take,if_pos hi]
   refine Or.inr ⟨b,k,hF,by rw [hl],⟨by omega,by omega,fun i=> ?_⟩, ?_⟩
   · by_cases hi:i<k
     · rw [hg i hi];exact h3 i
     · rw [List.getElem?_take,if_neg hi];simp [en0,ByteArray.size]
   · rw [hl]
     refine (h4.less (by omega)).congr fun i hi=> ?_
     unfold qaV
     rw [hg _ (by omega)]
theorem qkl (w:World) (ty:TypeId) (av:Option Addr) (k:Nat) (a:Option Addr) (c:Nat): (Builtin.append_ #[72,72] ty #[.slice av k k, .slice a 0 c]).run Tryz.prog w= .ok (.slice av k k) w:=by
 obtain ⟨i,hi,_,_,_⟩:=Tryz.infoEnt'
 cases a<;>cases av<;>simp [Builtin.append_,run_underlying Tryz.underlying72,sizeOf,typeInfo,hi,Builtin.lenOf,Builtin.firstCells,storeCells,loadCells,loadCellsFrom]
set_option maxHeartbeats 3200000 in
theorem qfl (w:World) (aE:Option Addr) (n cE k:Nat) (es:List EN) (hn:es.length=n) (hc:n≤cE) (hk:k<n) (h6:n≤6) (hat:AtN w aE n es) (ha:aE=none→n=0):
 Calls Tryz.prog 103 #[.slice aE n cE, .int .i64 (k:Int)] w fun e w'=> ∃v,e= .returned v∧Below w.heap.size w w'∧ ((k+1<n∧WdE w' w.heap.size v (qaO es k))∨ (k+1=n∧v= .slice aE k k)):=by
 have HEA:Hid (∀W,Calls Tryz.prog 132 #[.slice aE n cE, .int .i64 (k:Int)] W fun e w'=>e= .returned (.slice aE k k)∧w'=W):=fun W=>qdd W aE n cE k (by omega) hc (by omega)
 obtain ⟨v1,X1,hr1,hfin⟩: ∃v1 X1,(Builtin.append_ #[72,72] 72 #[.slice aE k k, .slice (qkk aE cE (k+1)) (n- (k+1)) (cE- (k+1))]).run Tryz.prog w.drew= .ok v1 X1∧ (Below w.heap.size w X1∧ ((k+1<n∧WdE X1 w.heap.size v1 (qaO es k))∨ (k+1=n∧v1= .slice aE k k))):=by
  by_cases hl:k+1=n
  · have e0:n- (k+1)=0:=by omega
    rw [e0]
    exact ⟨_,w.drew,qkl w.drew _ aE k _ _,(Below.refl _ _).drew,Or.inr ⟨hl,rfl⟩⟩
  · obtain ⟨v1,X1,hr1,hw1,hbx1⟩:=qgV w.drew 72 (es.take k) (es.drop (k+1)) aE k (by rw [List.length_take];omega) ((hat.take k (by omega)).later (Below.refl _ _).drew) (fun e=>by have:=ha e;omega) (qkk aE cE (k+1)) (n- (k+1)) (cE- (k+1)) (by rw [List.length_drop];omega) (by omega) ((hat.tail hc).later (Below.refl _ _).drew) (by omega)
    exact ⟨v1,X1,hr1,(Below.refl _ _).drew.trans hbx1,Or.inl ⟨by omega,hw1⟩⟩
 unfold qkk at hr1
 have HR1:Hid (_=_):=hr1
 have HFIN:Hid (Below w.heap.size w X1∧ ((k+1<n∧WdE X1 w.heap.size v1 (qaO es k))∨ (k+1=n∧v1= .slice aE k k))):=hfin
 obtain ⟨k1,hk1⟩: ∃k1,k+1=k1:= ⟨_,rfl⟩
 have hwr:IntKind.i64.wrap ((k:Int)+1)= (k1:Int):=by
  rw [show (k:Int)+1= (k1:Int) by omega]
  exact qfS _ (by omega) (by omega)
 have hkI: (k1:Int)≤ (n:Int):=by omega
 have hkN:k1≤n:=by omega
 rw [hk1] at HR1
 clear hr1 hfin hat ha hn hk1
 go_enter Tryz.func103,Tryz.ntmps103
 go_wp2_with fail
 go_region_law (first
  | (refine qaK rfl _ _ 72 rfl _ _ rfl rfl _ _ HR1.out ?_;clear HR1)
  | (try go_simp;go_at_call 132;refine (HEA.out _).mono ?_;rintro e w2 ⟨rfl,rfl⟩)
  |fail)
 all_goals
  go_wp2
  all_goals
   go_ret
   exact ⟨_,rfl,HFIN.out⟩
theorem FsS.entCut {w:World} {bI n cI bD cD:Nat} {d:FD} {F:Nat→Prop} (hfs:FsS w bI n cI bD 20 cD d F) (j:Nat) (hj:j<n) (hblk: (d.1[j]?.getD id0).2.2.2.1= []) {aE:Option Addr} {m cE:Nat} (hc4:w.cell? ⟨bI,j*5+4,none⟩=some (.slice aE m cE)) (k:Nat) (hk:k≤m):
 FsS (w.setCell ⟨bI,j*5+4,none⟩ (.slice aE k k)) bI n cI bD 20 cD (qaH d j ((qac d j).take k)) F:=by
 have h1:Chg (fun c=>c=bI) w (w.setCell ⟨bI,j*5+4,none⟩ (.slice aE k k)):=Chg.set (F:=fun c=>c=bI) (Chg.refl _ w) rfl (j*5+4) _
 obtain ⟨F1,G1,⟨g0,gm,u,G,g1,g2,g3,g4,g5⟩,h2,h3,h4⟩:=hfs
 have e4: (u j).2= .slice aE m cE:=by
  have:=g4.cell (i:=j*5+4) (by omega)
  rw [hc4,qbv] at this
  exact (Option.some.inj this).symm
 unfold qaH
 refine ⟨F1,G1,⟨by simpa using g0,gm,fun i=>if i=j then ((u j).1, .slice aE k k) else u i,G,g1,g2,g3, ?_,fun i hi=> ?_⟩,h2.keep fun c hc hlt=>h1.block c hlt fun e=>h3 bI g1 (e▸hc),h3,fun b hb=> ⟨(h4 b hb).1,by simpa [World.setCell] using (h4 b hb).2⟩⟩
 · refine (g4.set (j*5+4) _).congr fun c _=> ?_
   rw [qcd d.1 u j (by omega)]
   by_cases q4:c=j*5+4
   · rw [if_pos q4,if_neg (by omega),if_neg (by omega),if_neg (by omega),if_neg (by omega)]
   · rw [if_neg q4]
     by_cases q0:c=j*5
     · rw [if_pos q0,q0,qb5]
     · rw [if_neg q0]
       by_cases q1:c=j*5+1
       · rw [if_pos q1,q1,qcs]
       · rw [if_neg q1]
         by_cases q2:c=j*5+2
         · rw [if_pos q2,q2,qb6]
         · rw [if_neg q2]
           by_cases q3:c=j*5+3
           · rw [if_pos q3,q3,qbL]
           · rw [if_neg q3]
 · dsimp only
   rw [qa2 _ _ _ _ _ (by omega)]
   have hk2: ∀c,G i c→c<w.heap.size→ (w.setCell ⟨bI,j*5+4,none⟩ (.slice aE k k)).heap[c]?=w.heap[c]?:=fun c hc hlt=>h1.block c hlt fun e=> (g2 i c hc).2 e
   by_cases e:i=j
   · rw [if_pos e]
     simp only [e,if_true]
     have hv:= (g5 i hi).keep hk2
     rw [e] at hv
     obtain ⟨⟨_,_,_,hcap⟩,P,Q,p1,p2,p3,p4⟩:=hv
     rw [e4] at p2
     rw [hblk] at p1
     exact ⟨⟨rfl,rfl,rfl,hcap⟩,P,Q,p1,p2.take k hk,p3,by rw [e] at*;exact p4⟩
   · rw [if_neg e]
     simp only [e,if_false]
     exact (g5 i hi).keep hk2
end Go.Proofs.YthnmlipnoajmkaaGreatDoor

namespace Go.Proofs.YthnmlipnoajmkaaGreatDoor
open Go.RowKit
set_option maxRecDepth 100000

theorem qqF (w:World) (s:ByteArray) (hs:s.size≤1048576):Calls Tryz.prog 129 #[.string s] w fun e w'=>e= .returned (.string s)∧Below w.heap.size w w':=by
 have:=qed w s.data.toList (by have:s.data.toList.length=s.size:=Array.length_toList;omega)
 rw [qb3] at this
 exact this
theorem FsR.five {w:World} {b0 o0 n1 c1:Nat} {v2:Value} {d:FD} (h:FsR w (.slice (some ⟨b0,o0,none⟩) n1 c1) v2 d) {j:Nat} (hj:j<d.1.length): ∃aB cB aE cE,w.cell? ⟨b0,o0+j*5,none⟩=some (.int .i64 (d.1[j]?.getD id0).1)∧w.cell? ⟨b0,o0+j*5+1,none⟩=some (.int .i64 (d.1[j]?.getD id0).2.1)∧w.cell? ⟨b0,o0+j*5+2,none⟩=some (.int .i64 (d.1[j]?.getD id0).2.2.1)∧w.cell? ⟨b0,o0+j*5+3,none⟩=some (.slice aB (d.1[j]?.getD id0).2.2.2.1.length cB)∧w.cell? ⟨b0,o0+j*5+4,none⟩=some (.slice aE (qac d j).length cE)∧qdw w (.slice aE (qac d j).length cE) (qac d j):=by
 obtain ⟨_,_,e1,_,hAt⟩:=h.1.open'
 simp only [Value.slice.injEq] at e1
 obtain ⟨rfl,rfl,rfl⟩:=e1
 obtain ⟨b,o,e,hI⟩:=hAt j hj
 simp only [Option.some.injEq,Addr.mk.injEq,and_true] at e
 obtain ⟨rfl,rfl⟩:=e
 obtain ⟨aB,cB,aE,cE,k0,k1,k2,k3,k4,hR⟩:=hI
 exact ⟨aB,cB,aE,cE,k0,k1,k2,k3,k4,hR.2.2⟩
theorem qdw.cap {w:World} {a:Option Addr} {n c:Nat} {es:List EN} (h:qdw w (.slice a n c) es):es.length=n∧n≤c∧AtN w a n es∧ (a=none→n=0)∧ ∀k:Nat,(es[k]?.getD en0).1.size≤maxLen:=by
 obtain ⟨a',c',e,⟨_,h2,h3⟩,h4⟩:=h
 simp only [Value.slice.injEq] at e
 obtain ⟨rfl,rfl,rfl⟩:=e
 refine ⟨rfl,h2,h4,fun e=> ?_,h3⟩
 by_cases h0:es.length=0
 · exact h0
 · obtain ⟨b,off,e2,_⟩:=h4 0 (by omega)
   rw [e] at e2
   simp at e2
theorem qnp {x:ID} (h:qbl x=0) (hk:x.1=2):x.2.2.2.1= []:=by
 unfold qbl at h
 rw [if_neg (by omega),if_neg (by omega),if_pos hk] at h
 by_cases hd:fpB x=true
 · rw [if_pos hd] at h;omega
 · unfold fpB at hd
   simp at hd
   exact hd.2
theorem qcj {es:List EN} {k:Nat} {s:ByteArray} {y:Int} (hz: ∀k:Nat,(es[k]?.getD en0).1.size≤maxLen) (hs:s.size≤maxLen) (i:Nat): ((qbF es k (s,y))[i]?.getD en0).1.size≤maxLen:=by
 have h0: (en0:EN).1.size≤maxLen:=by simp [en0,ByteArray.size]
 have hm: ∀e∈qbF es k (s,y),e.1.size≤maxLen:=fun e he=>by
  unfold qbF at he
  have hall: ∀e∈es,e.1.size≤maxLen:=fun e he=>by
   obtain ⟨i,hi,rfl⟩:=List.mem_iff_getElem.1 he
   have:=hz i
   rw [List.getElem?_eq_getElem hi] at this
   exact this
  rcases List.mem_append.1 he with he|he
  · rcases List.mem_append.1 he with he|he
    · exact hall e (List.mem_of_mem_take he)
    · simp at he;rw [he];exact hs
  · exact hall e (List.mem_of_mem_drop he)
 cases hq: (qbF es k (s,y))[i]? with
 |none=>exact h0
 |some e=>exact hm e (List.mem_of_getElem? hq)

theorem qnq {x:ID} (h:qbl x=0) (hk:x.1=1):1≤x.2.1∧x.2.1≤60:=by
 unfold qbl at h
 rw [if_neg (by omega),if_pos hk] at h
 by_cases hd:dpB x=true
 · rw [if_pos hd] at h;omega
 · rw [if_neg hd] at h
   unfold qcK at h
   by_cases hl:qeO x.2.1=true∧qcJ x.2.2.1=true
   · have:=hl.1
     unfold qeO at this
     simpa using this
   · rw [if_neg hl] at h;omega
theorem qnr (d:FD) (j z:Nat) (es:List EN) (hj:j<d.1.length): ((qaH d j es).1[z]?.getD id0).1= (d.1[z]?.getD id0).1∧ ((qaH d j es).1[z]?.getD id0).2.1= (d.1[z]?.getD id0).2.1:=by
 unfold qaH
 dsimp only
 rw [qa2 _ _ _ _ _ hj]
 by_cases e:z=j
 · rw [if_pos e,e];exact ⟨rfl,rfl⟩
 · rw [if_neg e];exact ⟨rfl,rfl⟩
theorem qdL.box {w W:World} {bI n cI bD cD rb:Nat} {d:FD} {F:Nat→Prop} (hB:Below w.heap.size w W) (hrb:w.heap.size≤rb) (h:FsS W bI n cI bD 20 cD d F) (hF: ∀c,F c→w.heap.size≤c∧c≠rb) (x y z:Value):qdL w (0,d) (.returned (.agg #[.int .i64 0, .slice (some ⟨bI,0,none⟩) n cI, .slice (some ⟨bD,0,none⟩) 20 cD])) (((W.setCell ⟨rb,0,none⟩ x).setCell ⟨rb,1,none⟩ y).setCell ⟨rb,2,none⟩ z):=
 qdL.put hB hrb (h.fsB.mono fun b hb=> ⟨(hF b hb.1).1,hb.2,(hF b hb.1).2⟩) x y z
end Go.Proofs.YthnmlipnoajmkaaGreatDoor

namespace Go.Proofs.YthnmlipnoajmkaaGreatDoor
open Go.RowKit
set_option maxRecDepth 100000

set_option maxHeartbeats 800000 in
theorem qgW (w:World) (x0 x1 x2:Int) (v3:Value) (a:Option Addr) (n c:Nat) (hn:n≤1048576):Calls Tryz.prog 61 #[.agg #[.int .i64 x0, .int .i64 x1, .int .i64 x2,v3, .slice a n c]] w fun e w'=>e= .returned (.bool (decide (n=6)))∧Below w.heap.size w w':=by
 have hd:decide (n=6)= ((n:Int)==6):=by
  by_cases h:n=6
  · subst h;rfl
  · rw [decide_eq_false h];exact (beq_eq_false_iff_ne.2 (by omega)).symm
 rw [hd]
 clear hd
 go_enter Tryz.func61,Tryz.ntmps61
 go_wp2
 go_ret
 exact ⟨rfl,qab _ _⟩

set_option maxHeartbeats 3200000 in
theorem qeV (w:World) (bI n cI bD cD:Nat) (d:FD) (F:Nat→Prop) (j:Nat) (s:ByteArray) (hfs:FsS w bI n cI bD 20 cD d F) (hj:j<n) (hri:qeu (qac d j)) (h6: (qac d j).length≤6) (hk:idxE (qac d j) s< (qac d j).length) (hblk: (d.1[j]?.getD id0).2.2.2.1= []):
 Calls Tryz.prog 63 #[.pointer (some ⟨bI,j*5,none⟩), .string s] w fun e w'=>e= .returned (.tuple #[])∧FsS w' bI n cI bD 20 cD (qaH d j (qaO (qac d j) (idxE (qac d j) s))) (fun c=>F c∨w.heap.size≤c)∧Chg (fun c=>c=bI) w w':=by
 obtain ⟨hlen,-⟩:=hfs.len
 obtain ⟨aB',cB',aE,cE,-,-,-,-,c4,hEn⟩:=FsR.five hfs.fs.reads (j:=j) (by omega)
 rw [Nat.zero_add] at c4
 have HEN:Hid (qdw w (.slice aE (qac d j).length cE) (qac d j)):=hEn
 obtain ⟨_,_,_,_,-,-,-,-,-,-,i6,-⟩:=hfs.ino j hj
 have HC4:Hid (w.cell? ⟨bI,j*5+4,none⟩=some (Value.slice aE (qac d j).length cE)):=c4
 have HC4F:Hid (w.frozen? ⟨bI,j*5+4,none⟩=false):=i6 (j*5+4)
 have hbI:bI<w.heap.size:=hfs.ne.2.1.2
 have hplc:=qhz hri hk
 have HPL:Hid (Calls Tryz.prog 96 #[.slice aE (qac d j).length cE, .string s] w fun e w'=>e= .returned (.tuple #[.int .i64 ((idxE (qac d j) s:Nat):Int), .bool true])∧Below w.heap.size w w'):=by
  have:=qd6 w aE _ cE (qac d j) s rfl (by omega) HEN.out.cap.2.2.1
  rw [qm6 hri,hplc,decide_eq_true hk] at this
  exact this
 have HWE:Hid (∀W,Below w.heap.size w W→Calls Tryz.prog 103 #[.slice aE (qac d j).length cE, .int .i64 ((idxE (qac d j) s:Nat):Int)] W fun e w'=> ∃a m c,e= .returned (.slice a m c)∧Below W.heap.size W w'∧ ((idxE (qac d j) s+1< (qac d j).length∧WdE w' W.heap.size (.slice a m c) (qaO (qac d j) (idxE (qac d j) s)))∨ (idxE (qac d j) s+1= (qac d j).length∧ (.slice a m c:Value)= .slice aE (idxE (qac d j) s) (idxE (qac d j) s)))):=fun W hW=>by
  obtain ⟨_,h2,h3,h4,_⟩:= (HEN.out.later hW).cap
  refine (qfl W aE _ cE (idxE (qac d j) s) (qac d j) rfl h2 hk h6 h3 h4).mono ?_
  rintro e w' ⟨v,rfl,hb,hv⟩
  rcases hv with ⟨hv1,hv2⟩| ⟨hv1,rfl⟩
  · obtain ⟨a,c,rfl⟩:=hv2.shape
    exact ⟨_,_,_,rfl,hb,Or.inl ⟨hv1,hv2⟩⟩
  · exact ⟨_,_,_,rfl,hb,Or.inr ⟨hv1,rfl⟩⟩
 have HEZ:Hid (∀i:Nat,((qaO (qac d j) (idxE (qac d j) s))[i]?.getD en0).1.size≤maxLen):=qiW hk HEN.out.cap.2.2.2.2
 have HBK:Hid ((d.1[j]?.getD id0).2.2.2.1= []):=hblk
 have HDL:Hid (idxE (qac d j) s+1= (qac d j).length→qaO (qac d j) (idxE (qac d j) s)= (qac d j).take (idxE (qac d j) s)):=fun e=>qnm e
 have HFS:Hid (FsS w bI n cI bD 20 cD d F):=hfs
 clear hfs hEn i6 hplc hblk hri hlen c4
 obtain ⟨nes,hnes⟩: ∃nes,qaO (qac d j) (idxE (qac d j) s)=nes:= ⟨_,rfl⟩
 rw [hnes] at HWE HEZ HDL ⊢
 obtain ⟨dn,hdn⟩: ∃dn,qaH d j nes=dn:= ⟨_,rfl⟩
 have HDN:Hid (qaH d j nes=dn):=hdn
 have HDT:Hid (idxE (qac d j) s+1= (qac d j).length→qaH d j ((qac d j).take (idxE (qac d j) s))=dn):=fun e=>by rw [←HDL.out e];exact hdn
 rw [hdn]
 clear hnes hdn HDL
 generalize idxE (qac d j) s=k at*
 obtain ⟨m,hm⟩: ∃m,(qac d j).length=m:= ⟨_,rfl⟩
 rw [hm] at HPL HWE HC4 HEN HDT
 have c4:=HC4.out
 clear hm h6 hk
 go_enter Tryz.func63,Tryz.ntmps63
 go_wp2_with fail
 refine HPL.out.mono ?_
 rintro e w1 ⟨rfl,hb1⟩
 have HB1:Hid (Below w.heap.size w w1):=hb1
 clear c4
 have c4:=cell_later hb1 HC4.out
 clear hb1
 go_wp2_with fail
 refine (HWE.out _ HB1.out).mono ?_
 rintro e w2 ⟨av,mv,cv,rfl,hb2,hv2⟩
 have HB2:Hid (Below w.heap.size w w2):=HB1.out.trans (hb2.mono HB1.out.size)
 clear c4
 have c4:=cell_later HB2.out HC4.out
 have c4f:= (HB2.out.frozen (p:= ⟨bI,j*5+4,none⟩) hbI).trans HC4F.out
 have hs1:=HB1.out.size
 have hs2:=HB2.out.size
 have HF3:Hid (FsS (w2.setCell ⟨bI,j*5+4,none⟩ (.slice av mv cv)) bI n cI bD 20 cD dn (fun c=>F c∨w.heap.size≤c)):=by
  unfold Hid
  have hbd:FsS w2 bI n cI bD 20 cD d (fun c=>F c∧c<w.heap.size):= (HFS.out.boundF).later HB2.out
  rcases hv2 with ⟨_,hw⟩| ⟨hk1,e⟩
  · have:= (hbd.entS j hj HBK.out nes _ (hw.own HEZ.out) (fun c hc=> ⟨fun hh=>by have:=hh.2;have:=hc.1;omega,hc.2⟩)).mono (F':=fun c=>F c∨w.heap.size≤c) fun c hh=>by
     rcases hh with hh|hh
     · exact Or.inl hh.1
     · exact Or.inr (by have:=hh.1;omega)
    rw [←HDN.out]
    exact this
  · simp only [Value.slice.injEq] at e
    obtain ⟨rfl,rfl,rfl⟩:=e
    have:= (hbd.entCut j hj HBK.out c4 cv (by omega)).mono (F':=fun c=>F c∨w.heap.size≤c) fun c hh=>Or.inl hh.1
    rw [HDT.out hk1] at this
    exact this
 have HC3:Hid (Chg (fun c=>c=bI) w (w2.setCell ⟨bI,j*5+4,none⟩ (.slice av mv cv))):= (Chg.of_below HB2.out).trans (Chg.set (F:=fun c=>c=bI) (Chg.refl _ w2) rfl _ _)
 clear hb2 hv2 hs1 hs2
 go_wp2
 first
  |exact bodyPost_ret (results_none rfl _ _ _) rfl ⟨rfl,HF3.out,HC3.out⟩
  | (go_end0;exact ⟨rfl,HF3.out,HC3.out⟩)

set_option maxHeartbeats 3200000 in
theorem qiY (w:World) (bI n cI bD cD:Nat) (d:FD) (F:Nat→Prop) (j:Nat) (s:ByteArray) (y:Int) (hfs:FsS w bI n cI bD 20 cD d F) (hj:j<n) (h6: (qac d j).length≤6) (hs:s.size≤maxLen) (hblk: (d.1[j]?.getD id0).2.2.2.1= []):
 Calls Tryz.prog 64 #[.pointer (some ⟨bI,j*5,none⟩), .string s, .int .i64 y] w fun e w'=>e= .returned (.tuple #[])∧FsS w' bI n cI bD 20 cD (qaH d j (qbF (qac d j) (plcE (qac d j) s) (s,y))) (fun c=>F c∨w.heap.size≤c)∧Chg (fun c=>c=bI) w w':=by
 obtain ⟨hlen,-⟩:=hfs.len
 obtain ⟨aB',cB',aE,cE,-,-,-,-,c4,hEn⟩:=FsR.five hfs.fs.reads (j:=j) (by omega)
 rw [Nat.zero_add] at c4
 have HEN:Hid (qdw w (.slice aE (qac d j).length cE) (qac d j)):=hEn
 obtain ⟨_,_,_,_,-,-,-,-,-,-,i6,-⟩:=hfs.ino j hj
 have HC4:Hid (w.cell? ⟨bI,j*5+4,none⟩=some (Value.slice aE (qac d j).length cE)):=c4
 have HC4F:Hid (w.frozen? ⟨bI,j*5+4,none⟩=false):=i6 (j*5+4)
 have hbI:bI<w.heap.size:=hfs.ne.2.1.2
 have HPL:Hid (Calls Tryz.prog 96 #[.slice aE (qac d j).length cE, .string s] w fun e w'=>e= .returned (.tuple #[.int .i64 ((plcE (qac d j) s:Nat):Int), .bool (qm5 (qac d j) s)])∧Below w.heap.size w w'):=qd6 w aE _ cE (qac d j) s rfl (by omega) HEN.out.cap.2.2.1
 have HWE:Hid (∀W,Below w.heap.size w W→Calls Tryz.prog 104 #[.slice aE (qac d j).length cE, .int .i64 ((plcE (qac d j) s:Nat):Int), .agg #[.string s, .int .i64 y]] W fun e w'=> ∃v,e= .returned v∧WdE w' W.heap.size v (qbF (qac d j) (plcE (qac d j) s) (s,y))∧Below W.heap.size W w'):=fun W hW=>by
  obtain ⟨_,h2,h3,h4,_⟩:= (HEN.out.later hW).cap
  exact qhN W aE _ cE _ (qac d j) s y rfl h2 (qgO _) h6 h3 h4
 have HEZ:Hid (∀i:Nat,((qbF (qac d j) (plcE (qac d j) s) (s,y))[i]?.getD en0).1.size≤maxLen):=qcj HEN.out.cap.2.2.2.2 hs
 have HBK:Hid ((d.1[j]?.getD id0).2.2.2.1= []):=hblk
 have HFS:Hid (FsS w bI n cI bD 20 cD d F):=hfs
 clear hfs hEn i6 hblk hlen c4 hs
 generalize qbF (qac d j) (plcE (qac d j) s) (s,y)=nes at*
 obtain ⟨dn,hdn⟩: ∃dn,qaH d j nes=dn:= ⟨_,rfl⟩
 have HDN:Hid (qaH d j nes=dn):=hdn
 rw [hdn]
 clear hdn
 generalize plcE (qac d j) s=k at*
 generalize qm5 (qac d j) s=fb at*
 obtain ⟨m,hm⟩: ∃m,(qac d j).length=m:= ⟨_,rfl⟩
 rw [hm] at HPL HWE HC4 HEN
 have c4:=HC4.out
 clear hm h6
 go_enter Tryz.func64,Tryz.ntmps64
 go_wp2_with fail
 refine HPL.out.mono ?_
 rintro e w1 ⟨rfl,hb1⟩
 have HB1:Hid (Below w.heap.size w w1):=hb1
 clear c4
 have c4:=cell_later hb1 HC4.out
 clear hb1
 go_wp2_with fail
 refine (HWE.out _ HB1.out).mono ?_
 rintro e w2 ⟨v,rfl,hw2,hb2⟩
 obtain ⟨av,cv,rfl⟩:=hw2.shape
 have HB2:Hid (Below w.heap.size w w2):=HB1.out.trans (hb2.mono HB1.out.size)
 clear c4
 have c4:=cell_later HB2.out HC4.out
 have c4f:= (HB2.out.frozen (p:= ⟨bI,j*5+4,none⟩) hbI).trans HC4F.out
 have hs1:=HB1.out.size
 have HF3:Hid (FsS (w2.setCell ⟨bI,j*5+4,none⟩ (.slice av nes.length cv)) bI n cI bD 20 cD dn (fun c=>F c∨w.heap.size≤c)):=by
  unfold Hid
  have hbd:FsS w2 bI n cI bD 20 cD d (fun c=>F c∧c<w.heap.size):= (HFS.out.boundF).later HB2.out
  have:= (hbd.entS j hj HBK.out nes _ (hw2.own HEZ.out) (fun c hc=> ⟨fun hh=>by have:=hh.2;have:=hc.1;omega,hc.2⟩)).mono (F':=fun c=>F c∨w.heap.size≤c) fun c hh=>by
   rcases hh with hh|hh
   · exact Or.inl hh.1
   · exact Or.inr (by have:=hh.1;omega)
  rw [←HDN.out]
  exact this
 have HC3:Hid (Chg (fun c=>c=bI) w (w2.setCell ⟨bI,j*5+4,none⟩ (.slice av nes.length cv))):= (Chg.of_below HB2.out).trans (Chg.set (F:=fun c=>c=bI) (Chg.refl _ w2) rfl _ _)
 clear hb2 hw2 hs1
 go_wp2
 first
  |exact bodyPost_ret (results_none rfl _ _ _) rfl ⟨rfl,HF3.out,HC3.out⟩
  | (go_end0;exact ⟨rfl,HF3.out,HC3.out⟩)
end Go.Proofs.YthnmlipnoajmkaaGreatDoor

namespace Go.Proofs.YthnmlipnoajmkaaGreatDoor
open Go.RowKit
set_option maxRecDepth 100000

theorem qqG {d:FD} {j:Nat} {s:ByteArray} {y:Int} (h:idxE (qac d j) s< (qac d j).length):qkj d j s y=qgh 7:=if_pos h
theorem qrx {d:FD} {j:Nat} {s:ByteArray} {y:Int} (h: ¬idxE (qac d j) s< (qac d j).length) (ht:thB d y=false):qkj d j s y=qgh 4:=by
 unfold qkj
 rw [if_neg h]
 refine if_neg fun hh=> ?_
 unfold thB at ht
 rw [decide_eq_true ⟨hh.1,hh.2.1⟩,decide_eq_false hh.2.2] at ht
 simp at ht
theorem qtf {d:FD} {y:Int} (h:thB d y=true): ∃z:Nat,y= (z:Int)∧z<d.1.length∧ ¬qae d.1 z=0:=by
 unfold thB at h
 simp only [Bool.and_eq_true,decide_eq_true_eq,Bool.not_eq_true',decide_eq_false_iff_not] at h
 obtain ⟨⟨h0,h1⟩,h2⟩:=h
 exact ⟨y.toNat,by omega,by omega,h2⟩
theorem qsH {d:FD} {j z:Nat} {s:ByteArray} (h: ¬idxE (qac d j) s< (qac d j).length) (hz:z<d.1.length) (hk: ¬qae d.1 z=0):qkj d j s (z:Int)=if (qac d j).length=6∨ (qae d.1 z=1∧60≤ (d.1[z]?.getD id0).2.1) then qgh 2 else (0,qsc d j s z):=by
 unfold qkj
 rw [if_neg h,if_pos ⟨by omega,by omega,by rw [Int.toNat_natCast];exact hk⟩,Int.toNat_natCast]

end Go.Proofs.YthnmlipnoajmkaaGreatDoor

namespace Go.Proofs.YthnmlipnoajmkaaGreatDoor
open Go.RowKit
set_option maxRecDepth 100000

def qjf (d:FD) (r:Int×Int):Int×Int:=if r.1=0 then (if qae d.1 r.2.toNat=2 then r else (9,0)) else r
def qgr (d:FD) (p:List UInt8):Int×Int:=if qan p=0 then (if (qah p).length=0 then (4,0) else qjf d (wkR d.1 0 ((qah p).take ((qah p).length-1)))) else (qan p,0)
def qas (d:FD) (s:ByteArray):Int×Int:=if qgT d s.data.toList=0 then (if (qah s.data.toList).length=0 then (4,0) else qjf d (wkR d.1 0 ((qah s.data.toList).take ((qah s.data.toList).length-1)))) else (qgT d s.data.toList,0)
theorem qeA (d:FD) (s:ByteArray):qas d s=if fsF d=0 then qgr d s.data.toList else (fsF d,0):=by
 unfold qas qgT qgr
 by_cases h0:fsF d=0
 · rw [if_pos h0,if_pos h0]
 · rw [if_neg h0,if_neg h0,if_neg h0]
theorem AtT.take {w:World} {a:Option Addr} {n:Nat} {xs:List (List UInt8)} (h:AtT w a n xs) (m:Nat) (hm:m≤n):AtT w a m (xs.take m):=fun k hk=>by
 obtain ⟨b,off,e,c⟩:=h k (by omega)
 exact ⟨b,off,e,by rw [List.getElem?_take,if_pos hk];exact c⟩
set_option maxHeartbeats 6400000 in
theorem qkm (w:World) (a1:Option Addr) (n1 c1:Nat) (a2:Option Addr) (n2 c2:Nat) (d:FD) (s:ByteArray) (h:FsR w (.slice a1 n1 c1) (.slice a2 n2 c2) d) (hs:sizeFs d≤1048576) (hl:s.size≤1048576) (hgl:Gl w):
 Calls Tryz.prog 55 #[.agg #[.slice a1 n1 c1, .slice a2 n2 c2], .string s] w fun e w'=>e= .returned (.agg #[.int .i64 (qas d s).1, .int .i64 (qas d s).2])∧Below w.heap.size w w':=by
 have HB0:Hid (Below w.heap.size w ((w.alloc (.cells #[.slice a1 n1 c1, .slice a2 n2 c2] 31)).alloc (.cells #[.int .i64 0, .int .i64 0] 86))):=qam _ _ _
 have HX:Hid (Bx ((w.alloc (.cells #[.slice a1 n1 c1, .slice a2 n2 c2] 31)).alloc (.cells #[.int .i64 0, .int .i64 0] 86)) w.heap.size [.slice a1 n1 c1, .slice a2 n2 c2]):= (Bx.new w [.slice a1 n1 c1, .slice a2 n2 c2] _).later (qab _ _)
 have HRS:Hid (qaa ((w.alloc (.cells #[.slice a1 n1 c1, .slice a2 n2 c2] 31)).alloc (.cells #[.int .i64 0, .int .i64 0] 86)) (w.heap.size+1) 2 (fun _=> .int .i64 0)):=by
  have p2:=qni (w.alloc (.cells #[.slice a1 n1 c1, .slice a2 n2 c2] 31)) 86
  rw [World.size_alloc] at p2
  exact p2
 have hsp:s.data.toList.length=s.size:=Array.length_toList
 have HN:Hid (∀W,Below w.heap.size w W→Calls Tryz.prog 92 #[.agg #[.slice a1 n1 c1, .slice a2 n2 c2], .string s] W fun e w'=> ∃a n c,e= .returned (.agg #[.int .i64 (qgT d s.data.toList), .slice a n c])∧Below W.heap.size W w'∧TxF w' W.heap.size a n c (qr9 d s.data.toList)):=fun W hW=>by
  have:=qf5 W a1 n1 c1 a2 n2 c2 d s.data.toList (h.later hW) hs (by omega)
  rw [qb3] at this
  exact this
 have HR:Hid (qas d s=if qgT d s.data.toList=0 then (if (qah s.data.toList).length=0 then (4,0) else qjf d (wkR d.1 0 ((qah s.data.toList).take ((qah s.data.toList).length-1)))) else (qgT d s.data.toList,0)):=rfl
 rw [HR.out]
 clear HR
 by_cases hf:qgT d s.data.toList=0
 rotate_left
 · rw [if_neg hf]
   have hb: (qgT d s.data.toList !=0)=true:=by simpa using hf
   clear hf h hs hl hsp hgl
   generalize qgT d s.data.toList=r at*
   have x0:=HX.out 0 _ rfl
   have x1:=HX.out 1 _ rfl
   go_enter Tryz.func55,Tryz.ntmps55
   go_wp2_with fail
   generalize ((w.alloc (.cells #[.slice a1 n1 c1, .slice a2 n2 c2] 31)).alloc (.cells #[.int .i64 0, .int .i64 0] 86))=W0 at*
   refine (HN.out _ HB0.out).mono ?_
   rintro e w1 ⟨a,n,c,rfl,hb1,-⟩
   have HB1:Hid (Below w.heap.size w w1):=HB0.out.trans (hb1.mono HB0.out.size)
   have hrr:=HRS.out.later hb1
   have hz1:w.heap.size+1<w1.heap.size:=hrr.lt
   have t0:w1.cell? ⟨w.heap.size+1,0,none⟩=some (.int .i64 0):=hrr.cell (i:=0) (by omega)
   have t1:w1.cell? ⟨w.heap.size+1,1,none⟩=some (.int .i64 0):=hrr.cell (i:=1) (by omega)
   have s0:=hrr.frozen 0
   have s1:=hrr.frozen 1
   clear hb1 hrr x0 x1
   go_wp2
   exact bodyPost_ret (v:=qhK (r,0)) (by simp [results,Tryz.results55,go_sem,t0,t1,hz1]) rfl ⟨rfl,((HB1.out.setCell (p:= ⟨w.heap.size+1,0,none⟩) (by show w.heap.size≤w.heap.size+1;omega) _).setCell (p:= ⟨w.heap.size+1,1,none⟩) (by show w.heap.size≤w.heap.size+1;omega) _).alloc (by have:=HB1.out.size;simpa [World.setCell] using this) _⟩
 · rw [if_pos hf]
   obtain ⟨hfs,_⟩:=qo9 hf
   have hL:qr9 d s.data.toList=qah s.data.toList:=if_pos hfs
   have hok:=qf2 (qhI hfs)
   have hb: (qgT d s.data.toList !=0)=false:=by simpa using hf
   rw [hL] at HN
   have hln:=qgG s.data.toList (by omega)
   by_cases hz: (qah s.data.toList).length=0
   · rw [if_pos hz]
     clear hf h hs hl hsp hgl hL hok hfs hln
     generalize qgT d s.data.toList=r at*
     generalize qah s.data.toList=xs at*
     have HZ:Hid (xs.length=0):=hz
     clear hz
     have x0:=HX.out 0 _ rfl
     have x1:=HX.out 1 _ rfl
     go_enter Tryz.func55,Tryz.ntmps55
     go_wp2_with fail
     generalize ((w.alloc (.cells #[.slice a1 n1 c1, .slice a2 n2 c2] 31)).alloc (.cells #[.int .i64 0, .int .i64 0] 86))=W0 at*
     refine (HN.out _ HB0.out).mono ?_
     rintro e w1 ⟨a,n,c,rfl,hb1,htx⟩
     have hn0:n=0:=by have:=htx.2.1;have:=HZ.out;omega
     subst hn0
     have HB1:Hid (Below w.heap.size w w1):=HB0.out.trans (hb1.mono HB0.out.size)
     have hrr:=HRS.out.later hb1
     have hz1:w.heap.size+1<w1.heap.size:=hrr.lt
     have t0:w1.cell? ⟨w.heap.size+1,0,none⟩=some (.int .i64 0):=hrr.cell (i:=0) (by omega)
     have t1:w1.cell? ⟨w.heap.size+1,1,none⟩=some (.int .i64 0):=hrr.cell (i:=1) (by omega)
     have s0:=hrr.frozen 0
     have s1:=hrr.frozen 1
     clear hb1 hrr x0 x1 htx
     go_wp2
     exact bodyPost_ret (v:=qhK (4,0)) (by simp [results,Tryz.results55,go_sem,t0,t1,hz1]) rfl ⟨rfl,((HB1.out.setCell (p:= ⟨w.heap.size+1,0,none⟩) (by show w.heap.size≤w.heap.size+1;omega) _).setCell (p:= ⟨w.heap.size+1,1,none⟩) (by show w.heap.size≤w.heap.size+1;omega) _).alloc (by have:=HB1.out.size;simpa [World.setCell] using this) _⟩
   · rw [if_neg hz]
     obtain ⟨m,hm⟩: ∃m,(qah s.data.toList).length=m+1:= ⟨(qah s.data.toList).length-1,by omega⟩
     have HW:Hid (∀ (W:World) (a:Option Addr) (c:Nat),Below w.heap.size w W→AtT W a (m+1) (qah s.data.toList)→Calls Tryz.prog 93 #[.agg #[.slice a1 n1 c1, .slice a2 n2 c2], .slice a m c] W fun e w'=>e= .returned (.agg #[.int .i64 (wkR d.1 0 ((qah s.data.toList).take m)).1, .int .i64 (wkR d.1 0 ((qah s.data.toList).take m)).2])∧Below W.heap.size W w'):=fun W a c hW hat=>
      qlK W a1 n1 c1 a2 n2 c2 d (h.later hW) hok (hgl.later hW) a m c ((qah s.data.toList).take m) (by rw [List.length_take];omega) (by omega) (hat.take m (by omega))
     have HK:Hid ((wkR d.1 0 ((qah s.data.toList).take m)).1=0→ ∃y:Nat,(wkR d.1 0 ((qah s.data.toList).take m)).2= (y:Int)∧y<d.1.length∧ ∃b0 o0,a1=some ⟨b0,o0,none⟩∧n1=d.1.length∧w.cell? ⟨b0,o0+y*5,none⟩=some (.int .i64 (d.1[y]?.getD id0).1)):=fun h0=>by
      obtain ⟨y,hy,hyl⟩:=qiQ hok.rng _ 0 hok.pos h0
      obtain ⟨_,_,e1,-,hAt⟩:=h.1.open'
      simp only [Value.slice.injEq] at e1
      obtain ⟨rfl,rfl,rfl⟩:=e1
      obtain ⟨b0,o0,rfl,hI⟩:=hAt y hyl
      obtain ⟨_,_,_,_,k0,_⟩:=hI
      exact ⟨y,hy,hyl,b0,o0,rfl,rfl,k0⟩
     have hme: (qah s.data.toList).length-1=m:=by omega
     rw [hme]
     have HTN:Hid (wkR d.1 0 ((qah s.data.toList).take m)=wkR d.1 0 ((qah s.data.toList).take m)):=rfl
     have H2:Hid (¬ (wkR d.1 0 ((qah s.data.toList).take m)).1=0→ (wkR d.1 0 ((qah s.data.toList).take m)).2=0):=qf7 _ 0
     have HM:Hid ((qah s.data.toList).length=m+1):=hm
     have hten:=hok.ten
     have hm7:m+1≤1048577:=by omega
     clear hf h hs hl hsp hgl hL hok hfs hln hz hm hme HTN
     generalize qgT d s.data.toList=r at*
     generalize wkR d.1 0 ((qah s.data.toList).take m)=wr at*
     generalize qah s.data.toList=xs at*
     obtain ⟨kc,kv⟩:=wr
     dsimp only at HW HK H2
     obtain ⟨RES,hRES⟩: ∃RES,qjf d (kc,kv)=RES:= ⟨_,rfl⟩
     have HRES:Hid (qjf d (kc,kv)=RES):=hRES
     rw [hRES]
     clear hRES
     have x0:=HX.out 0 _ rfl
     have x1:=HX.out 1 _ rfl
     go_enter Tryz.func55,Tryz.ntmps55
     go_wp2_with fail
     generalize ((w.alloc (.cells #[.slice a1 n1 c1, .slice a2 n2 c2] 31)).alloc (.cells #[.int .i64 0, .int .i64 0] 86))=W0 at*
     refine (HN.out _ HB0.out).mono ?_
     rintro e w1 ⟨a,n,c,rfl,hb1,htx⟩
     obtain ⟨nn,hnn⟩: ∃nn,n=nn:= ⟨_,rfl⟩
     have hn1:n=m+1:=by have:=htx.2.1;have:=HM.out;omega
     have HB1:Hid (Below w.heap.size w w1):=HB0.out.trans (hb1.mono HB0.out.size)
     have HR1:Hid (qaa w1 (w.heap.size+1) 2 (fun _=> .int .i64 0)):=HRS.out.later hb1
     have HX1:Hid (Bx w1 w.heap.size [.slice a1 n1 c1, .slice a2 n2 c2]):=HX.out.later hb1
     have HAT:Hid (AtT w1 a (m+1) xs):=by rw [←hn1];exact htx.1
     have hmc:m≤c:=by have:=htx.2.2.1;omega
     have hwr:IntKind.i64.wrap ((n:Int)-1)= (m:Int):=by
      rw [show (n:Int)-1= (m:Int) by omega]
      exact qfS _ (by omega) (by omega)
     have hnz: ((n:Int)==0)=false:=beq_eq_false_iff_ne.2 (by omega)
     have y0:=HX1.out 0 _ rfl
     have y1:=HX1.out 1 _ rfl
     have hz1:w.heap.size+1<w1.heap.size:=HR1.out.lt
     have hz2:w.heap.size<w1.heap.size:=by omega
     have hmI: (m:Int)≤ (n:Int):=by omega
     have hmN:m≤n:=by omega
     clear hb1 htx x0 x1 hn1 hnn
     go_wp2_with fail
     have z0: (w1.alloc (.cells #[.int .i64 r, .slice a n c] 126)).cell? ⟨w.heap.size,0,none⟩=some (.slice a1 n1 c1):= (HX1.out.later (qab _ _)) 0 _ rfl
     have z1: (w1.alloc (.cells #[.int .i64 r, .slice a n c] 126)).cell? ⟨w.heap.size,1,none⟩=some (.slice a2 n2 c2):= (HX1.out.later (qab _ _)) 1 _ rfl
     have v1: (w1.alloc (.cells #[.int .i64 r, .slice a n c] 126)).cell? ⟨w1.heap.size,1,none⟩=some (.slice a n c):=by rw [qar];rfl
     have HL2:Hid (∀W,Below (w1.alloc (.cells #[.int .i64 r, .slice a n c] 126)).heap.size (w1.alloc (.cells #[.int .i64 r, .slice a n c] 126)) W→Below w.heap.size w W∧AtT W a (m+1) xs∧qaa W (w.heap.size+1) 2 (fun _=> .int .i64 0)∧Bx W w.heap.size [.slice a1 n1 c1, .slice a2 n2 c2]):=fun W hW=>by
      have h1:Below w1.heap.size w1 W:= (qab _ _).trans (hW.mono (by simp))
      exact ⟨HB1.out.trans (h1.mono HB1.out.size),HAT.out.later h1,HR1.out.later h1,HX1.out.later h1⟩
     have hs2: (w1.alloc (.cells #[.int .i64 r, .slice a n c] 126)).heap.size=w1.heap.size+1:=by simp
     generalize (w1.alloc (.cells #[.int .i64 r, .slice a n c] 126))=W2 at*
     have HS2:Hid (W2.heap.size=w1.heap.size+1):=hs2
     have q1:w1.heap.size<W2.heap.size:=by omega
     have q2:w.heap.size<W2.heap.size:=by omega
     have q3:w.heap.size+1<W2.heap.size:=by omega
     clear y0 y1 HB1 HR1 HX1 HAT hs2
     have HA1:Hid (Below W2.heap.size W2 W2.drew):= (Below.refl _ _).drew
     have HA2:Hid (Below W2.heap.size W2 (W2.drew.alloc (.cells #[.int .i64 0, .int .i64 0] 86))):= (Below.refl _ _).drew.trans (qab W2.drew _)
     have HZ2:Hid (qaa (W2.drew.alloc (.cells #[.int .i64 0, .int .i64 0] 86)) W2.heap.size 2 (fun _=> .int .i64 0)):=qni W2.drew _
     go_cut [6] from 21 (fun s6 wx=> ∃g,s6= .pointer (some ⟨g,0,none⟩)∧Below W2.heap.size W2 wx∧wx.cell? ⟨g,0,none⟩=some (.int .i64 kc)∧wx.cell? ⟨g,1,none⟩=some (.int .i64 kv))
     case first=>
      go_wp2_with fail
      go_region_law (first
       | (try go_simp;go_at_call 93
          refine (HW.out W2.drew a c (HL2.out _ HA1.out).1 (HL2.out _ HA1.out).2.1).mono ?_
          rintro e w3 ⟨rfl,hb3⟩
          have HB3:Hid (Below W2.heap.size W2 w3):=HA1.out.trans (hb3.mono HA1.out.size)
          clear hb3)
       | (try go_simp;go_at_call 93
          refine (HW.out (W2.drew.alloc (.cells #[.int .i64 0, .int .i64 0] 86)) a c (HL2.out _ HA2.out).1 (HL2.out _ HA2.out).2.1).mono ?_
          rintro e w3 ⟨rfl,hb3⟩
          have HB3:Hid (Below W2.heap.size W2 w3):=HA2.out.trans (hb3.mono HA2.out.size)
          have HRZ:Hid (qaa w3 W2.heap.size 2 (fun _=> .int .i64 0)):=HZ2.out.later hb3
          have u0:w3.cell? ⟨W2.heap.size,0,none⟩=some (.int .i64 0):=HRZ.out.cell (i:=0) (by omega)
          have u1:w3.cell? ⟨W2.heap.size,1,none⟩=some (.int .i64 0):=HRZ.out.cell (i:=1) (by omega)
          have uf0:=HRZ.out.frozen 0
          have uf1:=HRZ.out.frozen 1
          clear hb3)
       |fail)
      all_goals
       go_wp2
       go_meet
       case rel=>first
        |exact ⟨_,rfl,HB3.out.trans ((qab _ _).mono HB3.out.size),by rw [qar];rfl,by rw [qar];rfl⟩
        |exact ⟨W2.heap.size,rfl,(HB3.out.setCell (p:= ⟨W2.heap.size,0,none⟩) (Nat.le_refl _) _).setCell (p:= ⟨W2.heap.size,1,none⟩) (Nat.le_refl _) _,((HRZ.out.set 0 (.int .i64 kc)).set 1 (.int .i64 kv)).cell (i:=0) (by omega),((HRZ.out.set 0 (.int .i64 kc)).set 1 (.int .i64 kv)).cell (i:=1) (by omega)⟩
     case rest=>
      obtain ⟨g,rfl,hbW,g0,g1⟩:=hcut
      obtain ⟨hbF,-,hrr,hxx⟩:=HL2.out _ hbW
      have HBF:Hid (Below w.heap.size w wc):=hbF
      have t0:wc.cell? ⟨w.heap.size+1,0,none⟩=some (.int .i64 0):=hrr.cell (i:=0) (by omega)
      have t1:wc.cell? ⟨w.heap.size+1,1,none⟩=some (.int .i64 0):=hrr.cell (i:=1) (by omega)
      have s0:=hrr.frozen 0
      have s1:=hrr.frozen 1
      have y0:=hxx 0 _ rfl
      have y1:=hxx 1 _ rfl
      have HEND:Hid (∀u v:Value,Below w.heap.size w ((wc.setCell ⟨w.heap.size+1,0,none⟩ u).setCell ⟨w.heap.size+1,1,none⟩ v)):=fun u v=> (hbF.setCell (p:= ⟨w.heap.size+1,0,none⟩) (by show w.heap.size≤w.heap.size+1;omega) _).setCell (p:= ⟨w.heap.size+1,1,none⟩) (by show w.heap.size≤w.heap.size+1;omega) _
      clear hbW hrr hxx hbF HW HL2 HA1 HA2 HZ2 z0 z1 v1 q1 q2 q3 HN
      by_cases hk:kc=0
      rotate_left
      · have hkb: (kc !=0)=true:=by simpa using hk
        have HR:Hid (RES= (kc,kv)):=by unfold Hid;rw [←HRES.out];exact if_neg hk
        clear hk HK H2
        go_wp2
        exact bodyPost_ret (v:=qhK (kc,kv)) (by simp [results,Tryz.results55,go_sem,t0,t1]) rfl ⟨by rw [HR.out],HEND.out _ _⟩
      · have hkb: (kc !=0)=false:=by simpa using hk
        obtain ⟨y,hy,hyl,b0,o0,rfl,rfl,k0⟩:=HK.out hk
        subst hy
        have k1:=cell_later HBF.out k0
        have hyI: (y:Int)< ((d.1.length:Nat):Int):=by omega
        have HRR:Hid (RES=if (d.1[y]?.getD id0).1=2 then (kc,(y:Int)) else (9,0)):=by
         unfold Hid
         rw [←HRES.out]
         show (if kc=0 then (if qae d.1 (y:Int).toNat=2 then (kc,(y:Int)) else (9,0)) else (kc,(y:Int)))=_
         rw [if_pos hk,Int.toNat_natCast];rfl
        clear hk HK H2 HRES k0
        generalize (d.1[y]?.getD id0).1=kd at*
        generalize d.1.length=nn at*
        by_cases h2:kd=2
        · have h2b: (kd !=2)=false:=by simpa using h2
          have HR:Hid (RES= (kc,(y:Int))):=by unfold Hid;rw [HRR.out,if_pos h2]
          clear h2 HRR
          go_wp2
          exact bodyPost_ret (v:=qhK (kc,(y:Int))) (by simp [results,Tryz.results55,go_sem,t0,t1]) rfl ⟨by rw [HR.out],HEND.out _ _⟩
        · have h2b: (kd !=2)=true:=by simpa using h2
          have HR:Hid (RES= (9,0)):=by unfold Hid;rw [HRR.out,if_neg h2]
          clear h2 HRR
          go_wp2
          exact bodyPost_ret (v:=qhK (9,0)) (by simp [results,Tryz.results55,go_sem,t0,t1]) rfl ⟨by rw [HR.out],HEND.out _ _⟩
end Go.Proofs.YthnmlipnoajmkaaGreatDoor

namespace Go.Proofs.YthnmlipnoajmkaaGreatDoor
open Go.RowKit
set_option maxRecDepth 100000

def ql2 (d:FD) (p:List UInt8):ByteArray:=if (qgr d p).1=0 then mkB ((qah p)[(qah p).length-1]?.getD []) else ⟨#[]⟩
theorem qoG {d:FD} {r:Int×Int} (h: ¬r.1=0→r.2=0) (hd: ¬ (qjf d r).1=0): (qjf d r).2=0:=by
 unfold qjf at hd ⊢
 by_cases h0:r.1=0
 · rw [if_pos h0] at hd ⊢
   by_cases hk:qae d.1 r.2.toNat=2
   · rw [if_pos hk] at hd;exact absurd h0 hd
   · rw [if_neg hk]
 · rw [if_neg h0];exact h h0
theorem qp7 (d:FD) (p:List UInt8) (h: ¬ (qgr d p).1=0): (qgr d p).2=0:=by
 unfold qgr at h ⊢
 by_cases h0:qan p=0
 · rw [if_pos h0] at h ⊢
   by_cases h1: (qah p).length=0
   · rw [if_pos h1]
   · rw [if_neg h1] at h ⊢
     exact qoG (qf7 _ 0) h
 · rw [if_neg h0]
theorem qsI (d:FD) (p:List UInt8): (if (qgr d p).1=0 then (0,(qgr d p).2) else ((qgr d p).1,0))=qgr d p:=by
 by_cases h0: (qgr d p).1=0
 · rw [if_pos h0];exact Prod.ext h0.symm rfl
 · rw [if_neg h0];exact Prod.ext rfl (qp7 d p h0).symm
set_option maxHeartbeats 6400000 in
theorem qfc (w:World) (b:Nat) (d:FD) (aI:Option Addr) (cI:Nat) (aD:Option Addr) (cD:Nat) (hx:FsX w b 0 d aI cI aD cD) (hok:FsOk d) (p:List UInt8) (hp:p.length≤1048576):
 Calls Tryz.prog 41 #[.pointer (some ⟨b,0,none⟩), .string (mkB p)] w fun e w'=>e= .returned (.tuple #[.int .i64 (qgr d p).2, .string (ql2 d p), .int .i64 (qgr d p).1])∧Below w.heap.size w w':=by
 have HP:Hid (qgr d p=if qan p=0 then (if (qah p).length=0 then (4,0) else qjf d (wkR d.1 0 ((qah p).take ((qah p).length-1)))) else (qan p,0)):=rfl
 have HLN:Hid (ql2 d p=if (qgr d p).1=0 then mkB ((qah p)[(qah p).length-1]?.getD []) else ⟨#[]⟩):=rfl
 by_cases h0:qan p=0
 rotate_left
 · have e1:qgr d p= (qan p,0):=by rw [HP.out,if_neg h0]
   rw [HLN.out,e1,if_neg h0]
   have HS:Hid (Calls Tryz.prog 79 #[.string (mkB p)] w fun e w'=>e= .returned (.tuple #[.slice none 0 0, .string ⟨#[]⟩, .int .i64 (qan p)])∧Below w.heap.size w w'):=qgE w p h0
   have hb: (qan p !=0)=true:=by simpa using h0
   clear hx hok hp h0 e1 HP HLN
   generalize mkB p=s at*
   generalize qan p=pc at*
   go_enter Tryz.func41,Tryz.ntmps41
   go_wp2_with fail
   refine HS.out.mono ?_
   rintro e w1 ⟨rfl,hb1⟩
   have HB1:Hid (Below w.heap.size w w1):=hb1
   clear hb1
   go_wp2
   go_ret3
   exact ⟨rfl,HB1.out⟩
 · have hsl:qah p=qaf p:=if_pos h0
   by_cases hz: (qaf p).length=0
   · have e1:qgr d p= (4,0):=by rw [HP.out,if_pos h0,hsl,if_pos hz]
     rw [HLN.out,e1,if_neg (by decide)]
     have HS:Hid (Calls Tryz.prog 79 #[.string (mkB p)] w fun e w'=>e= .returned (.tuple #[.slice none 0 0, .string ⟨#[]⟩, .int .i64 4])∧Below w.heap.size w w'):=qfI w p h0 hz
     clear hx hok hp h0 e1 HP HLN hsl hz
     generalize mkB p=s at*
     go_enter Tryz.func41,Tryz.ntmps41
     go_wp2_with fail
     refine HS.out.mono ?_
     rintro e w1 ⟨rfl,hb1⟩
     have HB1:Hid (Below w.heap.size w w1):=hb1
     clear hb1
     go_wp2
     go_ret3
     exact ⟨rfl,HB1.out⟩
   · obtain ⟨m,hm⟩: ∃m,(qaf p).length=m+1:= ⟨(qaf p).length-1,by omega⟩
     have hln:=qgG p hp
     rw [hsl] at hln
     have e1:qgr d p=qjf d (wkR d.1 0 ((qaf p).take m)):=by rw [HP.out,if_pos h0,hsl,if_neg hz,show (qaf p).length-1=m by omega]
     have e2:ql2 d p=if (qjf d (wkR d.1 0 ((qaf p).take m))).1=0 then mkB ((qaf p)[m]?.getD []) else ⟨#[]⟩:=by rw [HLN.out,e1,hsl,show (qaf p).length-1=m by omega]
     rw [e2,e1]
     have HS:Hid (Calls Tryz.prog 79 #[.string (mkB p)] w fun e w'=> ∃A C,e= .returned (.tuple #[.slice A m C, .string (mkB ((qaf p)[m]?.getD [])), .int .i64 0])∧Below w.heap.size w w'∧AtT w' A m (qaf p)):=qih w p h0 m hm
     have HW:Hid (∀ (W:World) (A:Option Addr) (C:Nat),Below w.heap.size w W→AtT W A m (qaf p)→Calls Tryz.prog 80 #[.pointer (some ⟨b,0,none⟩), .slice A m C] W fun e w'=>e= .returned (.tuple #[.int .i64 (wkR d.1 0 ((qaf p).take m)).2, .int .i64 (wkR d.1 0 ((qaf p).take m)).1])∧Below W.heap.size W w'):=fun W A C hW hat=>by
      refine (qlL W b d aI cI aD cD (hx.later hW) hok A m C ((qaf p).take m) (by rw [List.length_take];omega) (by omega) (hat.take m (Nat.le_refl _))).mono ?_
      rintro e w' ⟨rfl,q,rfl⟩
      exact ⟨rfl,below_drewN (Below.refl _ _) q⟩
     have HK:Hid ((wkR d.1 0 ((qaf p).take m)).1=0→ ∃y:Nat,(wkR d.1 0 ((qaf p).take m)).2= (y:Int)∧y<d.1.length∧ ∃b0 o0,aI=some ⟨b0,o0,none⟩∧w.cell? ⟨b,0,none⟩=some (.slice (some ⟨b0,o0,none⟩) d.1.length cI)∧w.cell? ⟨b0,o0+y*5,none⟩=some (.int .i64 (d.1[y]?.getD id0).1)):=fun hk0=>by
      obtain ⟨y,hy,hyl⟩:=qiQ hok.rng _ 0 hok.pos hk0
      obtain ⟨f0,-,hI,-⟩:=hx
      obtain ⟨_,_,e9,-,hAt⟩:=hI.open'
      simp only [Value.slice.injEq] at e9
      obtain ⟨rfl,-,rfl⟩:=e9
      obtain ⟨b0,o0,rfl,hIt⟩:=hAt y hyl
      obtain ⟨_,_,_,_,k0,_⟩:=hIt
      exact ⟨y,hy,hyl,b0,o0,rfl,f0,k0⟩
     have H2:Hid (¬ (wkR d.1 0 ((qaf p).take m)).1=0→ (wkR d.1 0 ((qaf p).take m)).2=0):=qf7 _ 0
     have hten:=hok.ten
     clear hx hok hp h0 e1 e2 HP HLN hsl hz hm hln
     generalize mkB ((qaf p)[m]?.getD [])=lst at*
     generalize wkR d.1 0 ((qaf p).take m)=wr at*
     generalize qaf p=xs at*
     generalize mkB p=s at*
     obtain ⟨kc,kv⟩:=wr
     dsimp only at HW HK H2
     have HDK:Hid (∀r,qjf d r=if r.1=0 then (if qae d.1 r.2.toNat=2 then r else (9,0)) else r):=fun _=>rfl
     by_cases hk:kc=0
     rotate_left
     · have e3:qjf d (kc,kv)= (kc,kv):=by rw [HDK.out];exact if_neg hk
       rw [e3,if_neg hk]
       have h20:=H2.out hk
       subst h20
       have hkb: (kc !=0)=true:=by simpa using hk
       clear hk HK H2 HDK e3
       go_enter Tryz.func41,Tryz.ntmps41
       go_wp2_with fail
       refine HS.out.mono ?_
       rintro e w1 ⟨A,C,rfl,hb1,hat⟩
       have HB1:Hid (Below w.heap.size w w1):=hb1
       have HAT:Hid (AtT w1 A m xs):=hat
       clear hb1 hat
       go_wp2_with fail
       refine (HW.out _ A C HB1.out HAT.out).mono ?_
       rintro e w2 ⟨rfl,hb2⟩
       have HB2:Hid (Below w.heap.size w w2):=HB1.out.trans (hb2.mono HB1.out.size)
       clear hb2
       go_wp2
       go_ret3
       exact ⟨rfl,HB2.out⟩
     · have hkb: (kc !=0)=false:=by simpa using hk
       obtain ⟨y,hy,hyl,b0,o0,rfl,f0,k0⟩:=HK.out hk
       subst hy
       subst hk
       have hyI: (y:Int)< ((d.1.length:Nat):Int):=by omega
       have HF0:Hid (_=_):=f0
       have HK0:Hid (_=_):=k0
       clear HK H2 f0 k0
       by_cases h2: (d.1[y]?.getD id0).1=2
       · have e3:qjf d (0,(y:Int))= (0,(y:Int)):=by
          rw [HDK.out,if_pos rfl]
          show (if qae d.1 (y:Int).toNat=2 then ((0:Int),(y:Int)) else (9,0))=_
          rw [Int.toNat_natCast];exact if_pos h2
         rw [e3,if_pos rfl]
         have h2b: ((d.1[y]?.getD id0).1 !=2)=false:=by simpa using h2
         clear h2 HDK e3
         generalize (d.1[y]?.getD id0).1=kd at*
         generalize d.1.length=nn at*
         go_enter Tryz.func41,Tryz.ntmps41
         go_wp2_with fail
         refine HS.out.mono ?_
         rintro e w1 ⟨A,C,rfl,hb1,hat⟩
         have HB1:Hid (Below w.heap.size w w1):=hb1
         have HAT:Hid (AtT w1 A m xs):=hat
         clear hb1 hat
         go_wp2_with fail
         refine (HW.out _ A C HB1.out HAT.out).mono ?_
         rintro e w2 ⟨rfl,hb2⟩
         have HB2:Hid (Below w.heap.size w w2):=HB1.out.trans (hb2.mono HB1.out.size)
         have g0:=cell_later HB2.out HF0.out
         have g1:=cell_later HB2.out HK0.out
         clear hb2
         go_wp2
         go_ret3
         exact ⟨rfl,HB2.out⟩
       · have e3:qjf d (0,(y:Int))= (9,0):=by
          rw [HDK.out,if_pos rfl]
          show (if qae d.1 (y:Int).toNat=2 then ((0:Int),(y:Int)) else (9,0))=_
          rw [Int.toNat_natCast];exact if_neg h2
         rw [e3,if_neg (by decide)]
         have h2b: ((d.1[y]?.getD id0).1 !=2)=true:=by simpa using h2
         clear h2 HDK e3
         generalize (d.1[y]?.getD id0).1=kd at*
         generalize d.1.length=nn at*
         go_enter Tryz.func41,Tryz.ntmps41
         go_wp2_with fail
         refine HS.out.mono ?_
         rintro e w1 ⟨A,C,rfl,hb1,hat⟩
         have HB1:Hid (Below w.heap.size w w1):=hb1
         have HAT:Hid (AtT w1 A m xs):=hat
         clear hb1 hat
         go_wp2_with fail
         refine (HW.out _ A C HB1.out HAT.out).mono ?_
         rintro e w2 ⟨rfl,hb2⟩
         have HB2:Hid (Below w.heap.size w w2):=HB1.out.trans (hb2.mono HB1.out.size)
         have g0:=cell_later HB2.out HF0.out
         have g1:=cell_later HB2.out HK0.out
         clear hb2
         go_wp2
         go_ret3
         exact ⟨rfl,HB2.out⟩
end Go.Proofs.YthnmlipnoajmkaaGreatDoor
