/- Lists of inodes:how they read,what they own. No program is named here. The walks of the laws' functions over lists of entries. Marks of lists of entries. The walks of the laws' functions over inodes. The law's copy of an inode. -/
import Derived.Test.YthnmlipnoajmkaaGreatDoorM03
import Derived.Test.YthnmlipnoajmkaaGreatDoorRows
import Derived.Deep.RegionWith
import Derived.Deep.RegionHeld3
namespace Go.Proofs.YthnmlipnoajmkaaGreatDoor
open Go.RowKit
set_option maxRecDepth 100000

def id0:ID:= (0,0,0, [], [])
def qao (ds:List ID) (u:Nat→Value×Value) (j:Nat):Value:=
 if j % 5=0 then .int .i64 (ds[j/5]?.getD id0).1 else if j % 5=1 then .int .i64 (ds[j/5]?.getD id0).2.1 else if j % 5=2 then .int .i64 (ds[j/5]?.getD id0).2.2.1 else if j % 5=3 then (u (j/5)).1 else (u (j/5)).2
theorem qb5 (ds:List ID) (u:Nat→Value×Value) (k:Nat):qao ds u (k*5)= .int .i64 (ds[k]?.getD id0).1:=by
 unfold qao;rw [if_pos (by omega),show k*5/5=k by omega]
theorem qcs (ds:List ID) (u:Nat→Value×Value) (k:Nat):qao ds u (k*5+1)= .int .i64 (ds[k]?.getD id0).2.1:=by
 unfold qao;rw [if_neg (by omega),if_pos (by omega),show (k*5+1)/5=k by omega]
theorem qb6 (ds:List ID) (u:Nat→Value×Value) (k:Nat):qao ds u (k*5+2)= .int .i64 (ds[k]?.getD id0).2.2.1:=by
 unfold qao;rw [if_neg (by omega),if_neg (by omega),if_pos (by omega),show (k*5+2)/5=k by omega]
theorem qbL (ds:List ID) (u:Nat→Value×Value) (k:Nat):qao ds u (k*5+3)= (u k).1:=by
 unfold qao;rw [if_neg (by omega),if_neg (by omega),if_neg (by omega),if_pos (by omega),show (k*5+3)/5=k by omega]
theorem qbv (ds:List ID) (u:Nat→Value×Value) (k:Nat):qao ds u (k*5+4)= (u k).2:=by
 unfold qao;rw [if_neg (by omega),if_neg (by omega),if_neg (by omega),if_neg (by omega),show (k*5+4)/5=k by omega]

def qfG (w:World) (b o:Nat) (d:ID):Prop:=
 ∃ aB cB aE cE,w.cell? ⟨b,o,none⟩=some (.int .i64 d.1)∧w.cell? ⟨b,o+1,none⟩=some (.int .i64 d.2.1)∧w.cell? ⟨b,o+2,none⟩=some (.int .i64 d.2.2.1)∧
  w.cell? ⟨b,o+3,none⟩=some (.slice aB d.2.2.2.1.length cB)∧w.cell? ⟨b,o+4,none⟩=some (.slice aE d.2.2.2.2.length cE)∧
  qfs w (.int .i64 d.1) (.int .i64 d.2.1) (.int .i64 d.2.2.1) (.slice aB d.2.2.2.1.length cB) (.slice aE d.2.2.2.2.length cE) d
theorem qfG.later {w w':World} {b o:Nat} {d:ID} (h:qfG w b o d) (hb:Below w.heap.size w w'):qfG w' b o d:=by
 obtain ⟨aB,cB,aE,cE,h0,h1,h2,h3,h4,h5⟩:=h
 exact ⟨aB,cB,aE,cE,cell_later hb h0,cell_later hb h1,cell_later hb h2,cell_later hb h3,cell_later hb h4,h5.later hb⟩
theorem qfG.mk' {w:World} {b o:Nat} {d:ID} {vB vE:Value} (h0:w.cell? ⟨b,o,none⟩=some (.int .i64 d.1)) (h1:w.cell? ⟨b,o+1,none⟩=some (.int .i64 d.2.1)) (h2:w.cell? ⟨b,o+2,none⟩=some (.int .i64 d.2.2.1)) (h3:w.cell? ⟨b,o+3,none⟩=some vB) (h4:w.cell? ⟨b,o+4,none⟩=some vE)
 (h:qfs w (.int .i64 d.1) (.int .i64 d.2.1) (.int .i64 d.2.2.1) vB vE d):qfG w b o d:=by
 obtain ⟨aB,cB,eB,_,_⟩:=h.2.1.open'
 obtain ⟨aE,cE,eE,_,_⟩:=h.2.2.open'
 subst eB eE
 exact ⟨aB,cB,aE,cE,h0,h1,h2,h3,h4,h⟩

def AtI (w:World) (a:Option Addr) (n:Nat) (ds:List ID):Prop:=
 ∀k,k<n→ ∃b o,a=some ⟨b,o,none⟩∧qfG w b (o+k*5) (ds[k]?.getD id0)
theorem AtI.later {w w':World} {a:Option Addr} {n:Nat} {ds:List ID} (h:AtI w a n ds) (hb:Below w.heap.size w w'):AtI w' a n ds:=fun k hk=>by
 obtain ⟨b,o,e,h1⟩:=h k hk
 exact ⟨b,o,e,h1.later hb⟩
def qdJ (w:World) (v:Value) (ds:List ID):Prop:= ∃a cap,v= .slice a ds.length cap∧ (ds.length≤maxLen∧ds.length≤cap)∧AtI w a ds.length ds
theorem qdJ.later {w w':World} {v:Value} {ds:List ID} (h:qdJ w v ds) (hb:Below w.heap.size w w'):qdJ w' v ds:=by
 obtain ⟨a,cap,h1,h2,h3⟩:=h
 exact ⟨a,cap,h1,h2,h3.later hb⟩
theorem qdJ.nil (w:World) (a:Option Addr) (cap:Nat):qdJ w (.slice a 0 cap) []:= ⟨a,cap,rfl,⟨by simp,by simp⟩,fun k hk=>by simp at hk⟩
theorem qdJ.open' {w:World} {v:Value} {ds:List ID} (h:qdJ w v ds): ∃a cap,v= .slice a ds.length cap∧ (ds.length≤maxLen∧ds.length≤cap)∧AtI w a ds.length ds:=h

def qbk (w:World) (v:Value) (ds:List ID) (F:Nat→Prop):Prop:=
 (ds= []∧ ∃a cap,v= .slice a 0 cap)∨
 (∃b cap,∃u:Nat→Value×Value,∃G:Nat→Nat→Prop,F b∧ (∀i c,G i c→F c∧c≠b)∧ (∀i j c,i≠j→G i c→ ¬G j c)∧
   v= .slice (some ⟨b,0,none⟩) ds.length cap∧ (ds.length≤maxLen∧ds.length≤cap)∧qaa w b (ds.length*5) (qao ds u)∧
   ∀i,i<ds.length→qdo w (.int .i64 (ds[i]?.getD id0).1) (.int .i64 (ds[i]?.getD id0).2.1) (.int .i64 (ds[i]?.getD id0).2.2.1) (u i).1 (u i).2 (ds[i]?.getD id0) (G i))
theorem qbk.reads {w:World} {v:Value} {ds:List ID} {F:Nat→Prop} (h:qbk w v ds F):qdJ w v ds:=by
 rcases h with ⟨rfl,a,cap,rfl⟩| ⟨b,cap,u,G,_,_,_,h1,h2,h3,h4⟩
 · exact qdJ.nil w a cap
 · refine ⟨_,cap,h1,h2,fun k hk=> ⟨b,0,rfl, ?_⟩⟩
   rw [Nat.zero_add]
   have e0:=h3.cell (i:=k*5) (by omega)
   have e1:=h3.cell (i:=k*5+1) (by omega)
   have e2:=h3.cell (i:=k*5+2) (by omega)
   have e3:=h3.cell (i:=k*5+3) (by omega)
   have e4:=h3.cell (i:=k*5+4) (by omega)
   rw [qb5] at e0
   rw [qcs] at e1
   rw [qb6] at e2
   rw [qbL] at e3
   rw [qbv] at e4
   exact qfG.mk' e0 e1 e2 e3 e4 (h4 k hk).reads
theorem qbk.keep {w w':World} {v:Value} {ds:List ID} {F:Nat→Prop} (h:qbk w v ds F) (e: ∀b,F b→b<w.heap.size→w'.heap[b]?=w.heap[b]?):qbk w' v ds F:=by
 rcases h with h| ⟨b,cap,u,G,hF,hG,hGG,h1,h2,h3,h4⟩
 · exact Or.inl h
 · exact Or.inr ⟨b,cap,u,G,hF,hG,hGG,h1,h2,h3.block (e b hF h3.lt),fun i hi=> (h4 i hi).keep fun c hc=>e c (hG i c hc).1⟩
theorem qbk.mono {w:World} {v:Value} {ds:List ID} {F F':Nat→Prop} (h:qbk w v ds F) (e: ∀b,F b→F' b):qbk w v ds F':=by
 rcases h with h| ⟨b,cap,u,G,hF,hG,h1⟩
 · exact Or.inl h
 · exact Or.inr ⟨b,cap,u,G,e b hF,fun i c hc=> ⟨e c (hG i c hc).1,(hG i c hc).2⟩,h1⟩
theorem qbk.later {w w':World} {v:Value} {ds:List ID} {F:Nat→Prop} (h:qbk w v ds F) (hb:Below w.heap.size w w'):qbk w' v ds F:=h.keep fun b _ hlt=>hb.block b hlt
theorem qbk.chg {w w':World} {v:Value} {ds:List ID} {F G:Nat→Prop} (h:qbk w v ds F) (hc:Chg G w w') (hd: ∀b,F b→ ¬G b):qbk w' v ds F:=h.keep fun b hb hlt=>hc.block b hlt (hd b hb)

def isz (ds:List ID):List Nat:=ds.map sizeIno
theorem qeM (ds:List ID): (isz ds).length=ds.length:=by simp [isz]
theorem qmm (ds:List ID) (i:Nat): (isz ds)[i]?.getD 0=sizeIno (ds[i]?.getD id0):=by
 unfold isz;rw [List.getElem?_map];cases ds[i]?<;>rfl
def qag (ds:List ID):Nat:=ds.length+ (isz ds).sum
def isp (ds:List ID):List Nat:=ds.map fun d=>3+qaF d
theorem qdx (ds:List ID): (isp ds).length=ds.length:=by simp [isp]
theorem qmn (ds:List ID) (i:Nat) (h:i<ds.length): (isp ds)[i]?.getD 0=3+qaF (ds[i]?.getD id0):=by
 unfold isp;rw [List.getElem?_map,List.getElem?_eq_getElem h];rfl
def spanInos (ds:List ID):Nat:= (isp ds).sum
theorem qjA (ds:List ID):spanInos ds≤3*qag ds:=by
 unfold spanInos qag isp isz
 induction ds with
 |nil=>simp
 | cons d ds ih=>
   have:=qlg d
   simp only [List.map_cons,List.sum_cons,List.length_cons] at ih ⊢
   omega
theorem qeg (ds:List ID) (k:Nat):sizeIno (ds[k]?.getD id0)≤ (isz ds).sum:=by
 by_cases h:k<ds.length
 · have h1:=qaU (isz ds) k (by rw [qeM];exact h)
   rw [qmm] at h1
   have h2:=qbJ (isz ds) (k+1)
   omega
 · rw [List.getElem?_eq_none (by omega)];simp [sizeIno,qcH,qbj,id0]

structure BuiltI (w:World) (lo j:Nat) (u:Nat→Value×Value) (f:Nat→ID) (s:Nat→Nat):Prop where
 lo:lo≤s 0
 mono: ∀i,i<j→s i≤s (i+1)
 hi:s j≤w.heap.size
 at': ∀i,i<j→qdo w (.int .i64 (f i).1) (.int .i64 (f i).2.1) (.int .i64 (f i).2.2.1) (u i).1 (u i).2 (f i) (fun b=>s i≤b∧b<s (i+1))
theorem BuiltI.nil {w:World} {lo:Nat} (u:Nat→Value×Value) (f:Nat→ID) (h:lo≤w.heap.size):BuiltI w lo 0 u f (fun _=>w.heap.size):=
 ⟨h,fun i hi=>by omega,Nat.le_refl _,fun i hi=>by omega⟩
theorem BuiltI.le {w:World} {lo j:Nat} {u:Nat→Value×Value} {f:Nat→ID} {s:Nat→Nat} (h:BuiltI w lo j u f s): ∀i k,i≤k→k≤j→s i≤s k:=by
 intro i k hik
 induction k with
 | zero => intro _;have:i=0:=by omega
           subst this;exact Nat.le_refl _
 | succ k ih=>
   intro hk
   by_cases e:i=k+1
   · subst e;exact Nat.le_refl _
   · exact Nat.le_trans (ih (by omega) (by omega)) (h.mono k (by omega))
theorem BuiltI.low {w:World} {lo j:Nat} {u:Nat→Value×Value} {f:Nat→ID} {s:Nat→Nat} (h:BuiltI w lo j u f s) (i:Nat) (hi:i≤j):lo≤s i:=Nat.le_trans h.lo (h.le 0 i (Nat.zero_le _) hi)
theorem BuiltI.keep {w w':World} {lo j:Nat} {u:Nat→Value×Value} {f:Nat→ID} {s:Nat→Nat} (h:BuiltI w lo j u f s) (hs:w.heap.size≤w'.heap.size) (e: ∀b,lo≤b→b<w.heap.size→w'.heap[b]?=w.heap[b]?):BuiltI w' lo j u f s:=
 ⟨h.lo,h.mono,Nat.le_trans h.hi hs,fun i hi=> (h.at' i hi).keep fun b hb hlt=>e b (Nat.le_trans (h.low i (by omega)) hb.1) hlt⟩
theorem BuiltI.later {w w':World} {lo j:Nat} {u:Nat→Value×Value} {f:Nat→ID} {s:Nat→Nat} (h:BuiltI w lo j u f s) (hb:Below w.heap.size w w'):BuiltI w' lo j u f s:=h.keep hb.size fun b _ hlt=>hb.block b hlt
theorem BuiltI.store {w:World} {lo j:Nat} {u:Nat→Value×Value} {f:Nat→ID} {s:Nat→Nat} (h:BuiltI w lo j u f s) {p:Addr} (hp:p.block<lo) (v:Value):BuiltI (w.setCell p v) lo j u f s:=
 h.keep (by simp [World.setCell]) fun b hb _=>Below.heap_setCell _ _ _ _ (by omega)
theorem BuiltI.next {w w':World} {lo j:Nat} {u:Nat→Value×Value} {f:Nat→ID} {s:Nat→Nat} {vB vE:Value} (h:BuiltI w lo j u f s) (hb:Below w.heap.size w w') (hv:qdo w' (.int .i64 (f j).1) (.int .i64 (f j).2.1) (.int .i64 (f j).2.2.1) vB vE (f j) (qaj w w')):
 BuiltI w' lo (j+1) (fun i=>if i=j then (vB,vE) else u i) f (fun i=>if i≤j then s i else w'.heap.size):=by
 have h':=h.later hb
 have en: ∀i:Nat,¬i+1≤i:=fun i=>by omega
 refine ⟨by simpa using h.lo,fun i hi=> ?_,by simp [en],fun i hi=> ?_⟩
 · by_cases e:i=j
   · subst e;simp [en];exact h'.hi
   · simp [show i≤j by omega,show i+1≤j by omega];exact h.mono i (by omega)
 · by_cases e:i=j
   · subst e
     simp [en]
     exact hv.mono fun b hb=> ⟨Nat.le_trans h.hi hb.1,hb.2⟩
   · simp [e,show i≤j by omega,show i+1≤j by omega]
     exact h'.at' i (by omega)
theorem BuiltI.apart {w:World} {lo n:Nat} {u:Nat→Value×Value} {f:Nat→ID} {s:Nat→Nat} (h:BuiltI w lo n u f s) (i j c:Nat) (e:i≠j) (h1:i<n∧s i≤c∧c<s (i+1)) (h2:j<n∧s j≤c∧c<s (j+1)):False:=by
 rcases Nat.lt_or_gt_of_ne e with h3|h3
 · have:=h.le (i+1) j (by omega) (by omega);omega
 · have:=h.le (j+1) i (by omega) (by omega);omega
theorem BuiltI.inos {w:World} {lo n b cap:Nat} {u:Nat→Value×Value} {s:Nat→Nat} (ds:List ID) (h:BuiltI w lo n u (fun i=>ds[i]?.getD id0) s) (hn:ds.length=n) (hm:n≤maxLen∧n≤cap) (hb:b<lo) (hr:qaa w b (n*5) (qao ds u)) (F:Nat→Prop) (hF:F b) (hF': ∀c,lo≤c→c<w.heap.size→F c):
 qbk w (.slice (some ⟨b,0,none⟩) n cap) ds F:=by
 subst hn
 refine Or.inr ⟨b,cap,u,fun i c=>i<ds.length∧s i≤c∧c<s (i+1),hF,fun i c hc=> ?_,fun i j c e h1 h2=>h.apart i j c e h1 h2,rfl,hm,hr,fun i hi=> ?_⟩
 · have h1:=h.low i (by omega)
   have h2:=h.le (i+1) ds.length (by omega) (Nat.le_refl _)
   have h3:=h.hi
   exact ⟨hF' c (by omega) (by omega),by omega⟩
 · exact (h.at' i hi).mono fun c hc=> ⟨hi,hc⟩

def qmo (j:Nat):Value:=if j % 5<3 then .int .i64 0 else .slice none 0 0
def qgj (ds:List ID) (u:Nat→Value×Value) (j c:Nat):Value:=if c<j*5 then qao ds u c else qmo c
theorem qlh (ds:List ID) (u:Nat→Value×Value) (j c:Nat) (vB vE:Value):
 (if c=j*5+4 then vE else if c=j*5+3 then vB else if c=j*5+2 then .int .i64 (ds[j]?.getD id0).2.2.1 else if c=j*5+1 then .int .i64 (ds[j]?.getD id0).2.1 else if c=j*5 then .int .i64 (ds[j]?.getD id0).1 else qgj ds u j c)=qgj ds (fun i=>if i=j then (vB,vE) else u i) (j+1) c:=by
 unfold qgj
 by_cases e4:c=j*5+4
 · subst e4;rw [if_pos rfl,if_pos (by omega),qbv];simp
 · rw [if_neg e4]
   by_cases e3:c=j*5+3
   · subst e3;rw [if_pos rfl,if_pos (by omega),qbL];simp
   · rw [if_neg e3]
     by_cases e2:c=j*5+2
     · subst e2;rw [if_pos rfl,if_pos (by omega),qb6]
     · rw [if_neg e2]
       by_cases e1:c=j*5+1
       · subst e1;rw [if_pos rfl,if_pos (by omega),qcs]
       · rw [if_neg e1]
         by_cases e0:c=j*5
         · subst e0;rw [if_pos rfl,if_pos (by omega),qb5]
         · rw [if_neg e0]
           by_cases e:c<j*5
           · rw [if_pos e,if_pos (by omega)]
             unfold qao
             dsimp only
             rw [if_neg (show ¬c/5=j by omega)]
           · rw [if_neg e,if_neg (by omega)]

theorem qeh {P:Program} (t e:TypeId) (x0 x1 x2 x3 x4:Value) (bytes:Nat) (ht:P.underlying t=some (.slice e)) (hinfo: (P.info? e).map (fun i=> (i.zero,i.size,i.bytes))=some (some (.agg #[x0,x1,x2,x3,x4]),5,bytes)) (hz: (Value.agg #[x0,x1,x2,x3,x4]).cells= #[x0,x1,x2,x3,x4])
 (kl kc:IntKind) (n:Nat) (hbytes:bytes*n≤281474976710656) (h63:n≤9223372036854775807) (w:World):
 (Instr.makeSlice t (.int kl (n:Int)) (.int kc (n:Int))).run P w= .ok (.slice (some ⟨w.heap.size,0,none⟩) n n) (w.alloc (.cells (madeCells #[x0,x1,x2,x3,x4] (n*5)) e)):=by
 obtain ⟨i,hi,hzz⟩:=Option.map_eq_some_iff.1 hinfo
 simp only [Prod.mk.injEq] at hzz
 obtain ⟨h1,h2,h3⟩:=hzz
 have hb': (i.bytes:Int)* (n:Int)≤281474976710656:=by
  have h: ((i.bytes*n:Nat):Int)≤281474976710656:=by rw [h3];omega
  rwa [Int.natCast_mul] at h
 have hr:=run_make (P:=P) w t e i _ ht hi h1 kl kc n n (by omega) (Int.le_refl _) hb' (by omega)
 simp only [Int.toNat_natCast,h2,hz] at hr
 exact hr
theorem qaa.madeFive (w:World) (n:Nat) (t:TypeId):qaa (w.alloc (.cells (madeCells #[.int .i64 0, .int .i64 0, .int .i64 0, .slice none 0 0, .slice none 0 0] (n*5)) t)) w.heap.size (n*5) qmo:=by
 refine ⟨_,t,Go.Deep.blk_alloc_new _ _,by rw [size_madeCells];exact Nat.le_refl _,fun i hi=> ?_⟩
 unfold madeCells qmo
 rw [Array.getElem?_map]
 have h1: (Array.range (n*5))[i]?=some i:=by simp [hi]
 rw [h1]
 have:i % 5=0∨i % 5=1∨i % 5=2∨i % 5=3∨i % 5=4:=by omega
 rcases this with h|h|h|h|h<;>simp [h]
end Go.Proofs.YthnmlipnoajmkaaGreatDoor

namespace Go.Proofs.YthnmlipnoajmkaaGreatDoor
open Go.RowKit
set_option maxRecDepth 100000

theorem Tryz.infoEnt: (Tryz.prog.info? 76).map (fun i=> (i.zero,i.size,i.bytes))=some (some (.agg #[.string ⟨#[]⟩, .int .i64 0]),2,24):=by kernel_rfl

set_option maxHeartbeats 400000 in
theorem qh9 (w:World) (s:ByteArray) (z left:Int) (hs:s.size≤maxLen) (h0:0≤left) (h1:left≤1048576):
 Calls Tryz.prog 109 #[.agg #[.string s, .int .i64 z], .int .i64 left] w fun e w'=>e= .returned (.int .i64 (szf left s.size))∧Below w.heap.size w w':=by
 unfold maxLen at hs
 by_cases h:left< (s.size:Int)
 · rw [qbQ h]
   have h':left- (s.size:Int)<0:=by omega
   go_enter Tryz.func109,Tryz.ntmps109
   go_wp2
   go_ret
   exact ⟨rfl,qab _ _⟩
 · rw [qbY h]
   have h': ¬left- (s.size:Int)<0:=by omega
   go_enter Tryz.func109,Tryz.ntmps109
   go_wp2
   go_ret
   exact ⟨rfl,qab _ _⟩

set_option maxHeartbeats 800000 in
theorem qjB (w:World) (a:Option Addr) (n cap:Nat) (es:List EN) (left:Int) (h0:0≤left) (h1:left≤1048576) (hl:es.length=n) (hn:n≤maxLen) (hz: ∀k:Nat,(es[k]?.getD en0).1.size≤maxLen) (hc:AtN w a n es):
 Calls Tryz.prog 72 #[.slice a n cap, .int .i64 left] w fun e w'=>e= .returned (.int .i64 (szf left (qcH es)))∧Below w.heap.size w w':=by
 have HC:Hid (AtN w a n es):=hc
 have HZ:Hid (∀k:Nat,(es[k]?.getD en0).1.size≤maxLen):=hz
 have HS:Hid (qcH es=n+ (qbj es).sum):=by unfold Hid qcH;rw [hl]
 have HL:Hid (es.length=n):=hl
 unfold maxLen at hn
 clear hc hz hl
 by_cases h:left< (n:Int)
 · rw [qbQ (by rw [HS.out];omega)]
   have h':left- (n:Int)<0:=by omega
   go_enter Tryz.func72,Tryz.ntmps72
   go_wp2
   go_ret
   exact ⟨rfl,Below.refl _ _⟩
 · have h': ¬left- (n:Int)<0:=by omega
   go_enter Tryz.func72,Tryz.ntmps72
   go_wp2
   go_loopw [1,5] (fun q i wr=> ∃j:Nat,j≤n∧i= .int .i64 j∧q= .int .i64 (left- (n:Int)- (upto (qbj es) j:Nat))∧0≤left- (n:Int)- (upto (qbj es) j:Nat)∧Below w.heap.size w wr) (fun _ i _=>n- (intOf i).toNat)
   case atStart=>exact ⟨0,Nat.zero_le _,rfl,by rw [qa4];simp,by rw [qa4];simp;omega,Below.refl _ _⟩
   case round=>
    obtain ⟨j,hj,rfl,rfl,hge,hbl⟩:=hrel
    have HBL:Hid (Below w.heap.size w wr):=hbl
    clear hbl
    by_cases hlt:j<n
    · obtain ⟨b,off,rfl,c0,c1⟩:=HC.out j hlt
      replace c0:=cell_later HBL.out c0
      replace c1:=cell_later HBL.out c1
      have HNX:Hid (upto (qbj es) (j+1)=upto (qbj es) j+ (es[j]?.getD en0).1.size):=by unfold Hid;rw [qaU _ _ (by rw [qdn,HL.out];exact hlt),qh8]
      have HSZ:Hid ((es[j]?.getD en0).1.size≤maxLen):=HZ.out j
      have HUP:Hid (upto (qbj es) (j+1)≤ (qbj es).sum):=qbJ _ _
      generalize hL:left- (n:Int)- ((upto (qbj es) j:Nat):Int)=L at*
      have HLL:Hid (left- (n:Int)- ((upto (qbj es) j:Nat):Int)=L):=hL
      have hL1:L≤1048576:=by omega
      clear hL
      generalize (es[j]?.getD en0).1=s at*
      generalize (es[j]?.getD en0).2=z at*
      by_cases hs:L< (s.size:Int)
      · have HR:Hid (szf L s.size= -1):=qbQ hs
        have HM:Hid (szf left (qcH es)= -1):=qbQ (by rw [HS.out];have:=HNX.out;have:=HUP.out;have:=HLL.out;omega)
        clear hs
        go_wp2_with fail
        refine (qh9 _ s z L HSZ.out hge hL1).mono ?_
        rw [HR.out]
        rintro e w1 ⟨rfl,hb1⟩
        have HB1:Hid (Below w.heap.size w w1):=HBL.out.trans (hb1.mono HBL.out.size)
        clear hb1
        go_wp2
        go_ret
        exact ⟨qad HM.out.symm,HB1.out⟩
      · have HR:Hid (szf L s.size=L- (s.size:Int)):=qbY hs
        have hs': ¬L- (s.size:Int)<0:=by omega
        have HE:Hid (left- (n:Int)- ((upto (qbj es) (j+1):Nat):Int)=L- (s.size:Int)):=by unfold Hid;rw [HNX.out];have:=HLL.out;omega
        clear hs
        go_wp2_with fail
        refine (qh9 _ s z L HSZ.out hge hL1).mono ?_
        rw [HR.out]
        rintro e w1 ⟨rfl,hb1⟩
        have HB1:Hid (Below w.heap.size w w1):=HBL.out.trans (hb1.mono HBL.out.size)
        clear hb1
        go_wp2
        go_roundw
        case rel=>exact ⟨j+1,by omega,by go_num,by rw [HE.out],by rw [HE.out];omega,HB1.out⟩
        case measure=>simp [intOf];omega
    · have e:j=n:=by omega
      have HE:Hid (left- (n:Int)- ((upto (qbj es) j:Nat):Int)=szf left (qcH es)):=by
       unfold Hid
       have h2:upto (qbj es) j= (qbj es).sum:=by rw [e,←HL.out,←qdn];exact qcT _
       rw [qbY (by rw [HS.out];omega),HS.out];omega
      go_wp2
      go_ret
      exact ⟨qad HE.out,HBL.out⟩
theorem qgA {w:World} {v:Value} {es:List EN} (h:qdw w v es) (left:Int) (h0:0≤left) (h1:left≤1048576):
 Calls Tryz.prog 72 #[v, .int .i64 left] w fun e w'=>e= .returned (.int .i64 (szf left (qcH es)))∧Below w.heap.size w w':=by
 obtain ⟨a,cap,rfl,hm,hz,hc⟩:=h.open'
 exact qjB w a _ cap es left h0 h1 rfl hm hz hc

theorem qmp (w:World) (s:ByteArray) (z:Int):
 Calls Tryz.prog 115 #[.agg #[.string s, .int .i64 z]] w fun e w'=>e= .returned (.agg #[.string s, .int .i64 z])∧Below w.heap.size w w':=by
 go_enter Tryz.func115,Tryz.ntmps115
 go_wp2
 exact bodyPost_ret (v:= .agg #[.string s, .int .i64 z]) (by simp [results,Tryz.results115,go_sem]) rfl ⟨rfl,qkr _ _ _ _⟩

set_option maxHeartbeats 800000 in
theorem qjC (w:World) (a:Option Addr) (cap n:Nat) (es:List EN) (hn:n≤1048576) (hc:AtN w a n es):
 Calls Tryz.prog 84 #[.slice a n cap] w fun e w'=>e= .returned (.slice (some ⟨w.heap.size,0,none⟩) n n)∧Below w.heap.size w w'∧qaa w' w.heap.size (n*2) (qaV es):=by
 have hmk:=fun w=>qd9 (P:=Tryz.prog) 72 76 (.string ⟨#[]⟩) (.int .i64 0) 24 Tryz.underlying72 Tryz.infoEnt rfl .i64 .i64 n (by omega) (by omega) w
 have HC:Hid (AtN w a n es):=hc
 clear hc
 go_enter Tryz.func84,Tryz.ntmps84
 go_wp2
 clear hmk
 go_loopw [4] (fun i wr=> ∃j:Nat,j≤n∧i= .int .i64 j∧Below w.heap.size w wr∧qaa wr w.heap.size (n*2) (qef es j)) (fun i _=>n- (intOf i).toNat)
 case atStart=>exact ⟨0,Nat.zero_le _,rfl,qab _ _,(qaa.madePair w (.string ⟨#[]⟩) (.int .i64 0) n 76).congr fun i _=>by simp [qef]⟩
 case round=>
  obtain ⟨j,hj,rfl,hbl,hrow⟩:=hrel
  by_cases hlt:j<n
  · obtain ⟨b,off,rfl,c0,c1⟩:=HC.out j hlt
    replace c0:=cell_later hbl c0
    replace c1:=cell_later hbl c1
    have HBL:Hid (Below w.heap.size w wr):=hbl
    have HROW:Hid (qaa wr w.heap.size (n*2) (qef es j)):=hrow
    have NX: ∀c,(if c=j*2+1 then .int .i64 (es[j]?.getD en0).2 else (if c=j*2 then .string (es[j]?.getD en0).1 else qef es j c))=qef es (j+1) c:=qle es j
    generalize (es[j]?.getD en0).1=x at c0 NX
    generalize (es[j]?.getD en0).2=y at c1 NX
    have HNX:Hid (∀c,(if c=j*2+1 then .int .i64 y else (if c=j*2 then .string x else qef es j c))=qef es (j+1) c):=NX
    clear hbl hrow NX
    go_wp2_with fail
    refine (qmp _ x y).mono ?_
    rintro e w1 ⟨rfl,hb1⟩
    have HB1:Hid (Below wr.heap.size wr w1):=hb1
    have HROW1:Hid (qaa w1 w.heap.size (n*2) (qef es j)):=HROW.out.block (hb1.block _ HROW.out.lt)
    have d0:w1.cell? ⟨w.heap.size,j*2,none⟩=some (.string ⟨#[]⟩):=by rw [HROW1.out.cell (by omega)];simp [qef,qdv]
    have d1:w1.cell? ⟨w.heap.size,j*2+1,none⟩=some (.int .i64 0):=by rw [HROW1.out.cell (by omega)];unfold qef qdv;rw [if_neg (by omega),if_neg (by omega)]
    have f0:=HROW1.out.frozen (j*2)
    have f1:=HROW1.out.frozen (j*2+1)
    clear hb1
    go_wp2
    go_roundw
    case rel=>
     refine ⟨j+1,by omega,by go_num,((HBL.out.trans (HB1.out.mono HBL.out.size)).setCell (Nat.le_refl _) _).setCell (Nat.le_refl _) _,((HROW1.out.set (j*2) _).set (j*2+1) _).congr fun c _=>HNX.out c⟩
    case measure=>simp [intOf];omega
  · go_wp2
    go_ret
    have e:j=n:=by omega
    subst e
    exact ⟨rfl,hbl,hrow.congr fun i hi=>by simp [qef,hi]⟩
theorem qpn {w:World} {v:Value} {es:List EN} (h:qdw w v es) (hn:es.length≤1048576):
 Calls Tryz.prog 84 #[v] w fun e w'=> ∃a n c,e= .returned (.slice a n c)∧Below w.heap.size w w'∧qbc w' (.slice a n c) es (qaj w w'):=by
 obtain ⟨a,cap,rfl,hm,hz,hc⟩:=h.open'
 exact (qjC w a cap es.length es hn hc).mono fun e w' ⟨he,hb,hr⟩=> ⟨_,_,_,he,hb,Or.inr ⟨w.heap.size,_,⟨Nat.le_refl _,hr.lt⟩,rfl,⟨hm,Nat.le_refl _,hz⟩,hr⟩⟩

theorem qli (w:World) (s:ByteArray) (z:Int):
 Calls Tryz.prog 133 #[.agg #[.string s, .int .i64 z], .agg #[.string s, .int .i64 z]] w fun e w'=>e= .returned (.bool true)∧Below w.heap.size w w':=by
 have h0: (s.toList !=s.toList)=false:=by simp
 have h2: (z !=z)=false:=by simp
 go_enter Tryz.func133,Tryz.ntmps133
 go_wp2
 go_ret
 exact ⟨rfl,qam _ _ _⟩

set_option maxHeartbeats 800000 in
theorem qjD (w:World) (a a':Option Addr) (cap cap' n:Nat) (es:List EN) (hn:n≤maxLen) (hc:AtN w a n es) (hc':AtN w a' n es):
 Calls Tryz.prog 106 #[.slice a n cap, .slice a' n cap'] w fun e w'=>e= .returned (.bool true)∧Below w.heap.size w w':=by
 unfold maxLen at hn
 have HC:Hid (AtN w a n es):=hc
 have HC':Hid (AtN w a' n es):=hc'
 clear hc hc'
 go_enter Tryz.func106,Tryz.ntmps106
 go_wp2
 go_loopw [5] (fun i wr=> ∃k:Nat,k≤n∧i= .int .i64 k∧Below w.heap.size w wr) (fun i _=>n- (intOf i).toNat)
 case atStart=>exact ⟨0,Nat.zero_le _,rfl,Below.refl _ _⟩
 case round=>
  obtain ⟨j,hj,rfl,hbl⟩:=hrel
  by_cases hlt:j<n
  · obtain ⟨b,off,rfl,c0,c1⟩:=HC.out j hlt
    obtain ⟨b',off',rfl,d0,d1⟩:=HC'.out j hlt
    replace c0:=cell_later hbl c0
    replace c1:=cell_later hbl c1
    replace d0:=cell_later hbl d0
    replace d1:=cell_later hbl d1
    generalize (es[j]?.getD en0).1=x at c0 d0
    generalize (es[j]?.getD en0).2=y at c1 d1
    have HBL:Hid (Below w.heap.size w wr):=hbl
    clear hbl
    go_wp2_with fail
    go_region_with ((go_at_call 133;refine (qli _ x y).mono ?_;rintro e w' ⟨rfl,hb2⟩))
    all_goals
     go_wp2
     go_roundw
     case rel=>exact ⟨j+1,by omega,by go_num,(HBL.out.drew).trans (hb2.mono HBL.out.size)⟩
     case measure=>simp [intOf];omega
  · go_wp2
    go_ret
    exact ⟨rfl,hbl⟩
theorem qpo {w:World} {v v':Value} {es:List EN} (h:qdw w v es) (h':qdw w v' es):Calls Tryz.prog 106 #[v,v'] w fun e w'=>e= .returned (.bool true)∧Below w.heap.size w w':=by
 obtain ⟨a,cap,rfl,hm,_,hc⟩:=h.open'
 obtain ⟨a',cap',rfl,_,hc'⟩:=h'
 exact qjD w a a' cap cap' es.length es hm hc hc'
end Go.Proofs.YthnmlipnoajmkaaGreatDoor

namespace Go.Proofs.YthnmlipnoajmkaaGreatDoor
open Go.RowKit
set_option maxRecDepth 100000

set_option maxHeartbeats 400000 in
theorem qia (w:World) (a:Option Addr) (cap k:Nat):
 Calls Tryz.prog 67 #[.slice a 0 cap, .int .i64 (k:Int)] w fun e w'=>e= .returned (.int .i64 (k:Int))∧w'=w:=by
 go_enter Tryz.func67,Tryz.ntmps67
 go_wp2
 go_loop [1,5] (fun q i=>i= .int .i64 0∧q= .int .i64 (k:Int)) (fun _ _=>0)
 case atStart=>exact ⟨rfl,rfl⟩
 case round=>
  obtain ⟨rfl,rfl⟩:=hrel
  go_wp2
  go_ret
  exact ⟨rfl,rfl⟩

theorem qlj (k j:Nat):qbn k (j*2)=mkT (k+2*j):=by unfold qbn;rw [if_pos (by omega),show k+j*2=k+2*j by omega]
theorem qlk (k j:Nat):qbn k (j*2+1)= .int .i64 ((k+2*j:Nat)+1:Int):=by unfold qbn;rw [if_neg (by omega)];congr 1;omega

set_option maxHeartbeats 1600000 in
theorem qhd (w:World) (b cap n k:Nat) (f:Nat→Value) (hk0:1≤k) (hk:k+2*n≤4294967296) (hr:qaa w b (n*2) f):
 Calls Tryz.prog 67 #[.slice (some ⟨b,0,none⟩) n cap, .int .i64 (k:Int)] w fun e w'=>e= .returned (.int .i64 ((k+2*n:Nat):Int))∧qaa w' b (n*2) (qbn k)∧Chg (fun c=>c=b) w w':=by
 have HR:Hid (qaa w b (n*2) f):=hr
 clear hr
 go_enter Tryz.func67,Tryz.ntmps67
 go_wp2
 go_loopw [1,5] (fun q i wr=> ∃j:Nat,j≤n∧i= .int .i64 j∧q= .int .i64 ((k+2*j:Nat):Int)∧qaa wr b (n*2) (fun c=>if c<j*2 then qbn k c else f c)∧Chg (fun c=>c=b) w wr) (fun _ i _=>n- (intOf i).toNat)
 case atStart=>exact ⟨0,Nat.zero_le _,rfl,by simp,HR.out.congr fun i _=>by simp,Chg.refl _ _⟩
 case round=>
  obtain ⟨j,hj,rfl,rfl,hrow,hch⟩:=hrel
  have HROW:Hid (qaa wr b (n*2) (fun c=>if c<j*2 then qbn k c else f c)):=hrow
  have HCH:Hid (Chg (fun c=>c=b) w wr):=hch
  clear hch
  by_cases hlt:j<n
  · have c3:=hrow.lt
    have c1:=hrow.cell (i:=j*2) (by omega)
    have c2:=hrow.frozen (j*2)
    simp only [Nat.lt_irrefl,if_false] at c1
    clear hrow
    have hkk:k+2*j+2≤4294967296:=by omega
    have hk1:1≤k+2*j:=by omega
    have HV:Hid (∀c:Nat,(if c=j*2+1 then Value.int .i64 (((k+2*j:Nat):Int)+1) else if c=j*2 then mkT (k+2*j) else if c<j*2 then qbn k c else f c)=if c< (j+1)*2 then qbn k c else f c):=by
     intro c
     by_cases e1:c=j*2+1
     · subst e1;rw [if_pos rfl,if_pos (by omega),qlk]
     · rw [if_neg e1]
       by_cases e0:c=j*2
       · subst e0;rw [if_pos rfl,if_pos (by omega),qlj]
       · rw [if_neg e0]
         by_cases h:c<j*2
         · rw [if_pos h,if_pos (by omega)]
         · rw [if_neg h,if_neg (by omega)]
    have HQ:Hid (k+2* (j+1)=k+2*j+2):=by unfold Hid;omega
    generalize hq:k+2*j=q at*
    clear hq
    go_wp2_with fail
    refine (qcq _ q hk1 (by omega)).mono ?_
    rintro e w1 ⟨rfl,hb1⟩
    have HCH1:Hid (Chg (fun c=>c=b) w w1):=HCH.out.trans (Chg.of_below hb1)
    have hrow1:=HROW.out.block (hb1.block b c3)
    have HROW1:Hid (qaa w1 b (n*2) (fun c=>if c<j*2 then qbn k c else f c)):=hrow1
    have d0:=hrow1.cell (i:=j*2) (by omega)
    have d1:=hrow1.cell (i:=j*2+1) (by omega)
    simp only [Nat.lt_irrefl,if_false] at d0
    rw [if_neg (by omega)] at d1
    have f0:=hrow1.frozen (j*2)
    have f1:=hrow1.frozen (j*2+1)
    have HT:Hid (mkT q= .string (mkB (109::dg q []))):=rfl
    rw [HT.out] at HV
    generalize mkB (109::dg q [])=v at*
    clear hb1 hrow1 HROW HCH HT c1 c2
    go_wp2
    go_roundw
    case rel=>
     refine ⟨j+1,by omega,by go_num,by rw [HQ.out];go_num,((HROW1.out.set (j*2) _).set (j*2+1) _).congr fun c hc=> ?_,(HCH1.out.set rfl _ _).set rfl _ _⟩
     rw [←HV.out c]
    case measure=>simp [intOf];omega
  · have hjn:j=n:=by omega
    clear hrow
    go_wp2
    go_ret
    subst hjn
    exact ⟨rfl,HROW.out.congr fun i hi=>by simp [hi],HCH.out⟩
theorem qib {w:World} {v:Value} {es:List EN} {F:Nat→Prop} (k:Nat) (h:qbc w v es F) (hk0:1≤k) (hk:k+2*es.length≤4294967296):
 Calls Tryz.prog 67 #[v, .int .i64 (k:Int)] w fun e w'=>e= .returned (.int .i64 ((k+2*es.length:Nat):Int))∧qbc w' v (qce k es.length) F∧Chg F w w':=by
 rcases h with ⟨rfl,a,cap,rfl⟩| ⟨b,cap,hF,rfl,hl,hr⟩
 · exact (qia w a cap k).mono fun e w' ⟨he,hw⟩=> ⟨by rw [he];simp,Or.inl ⟨rfl,a,cap,rfl⟩,hw▸Chg.refl _ _⟩
 · refine (qhd w b cap es.length k _ hk0 hk hr).mono fun e w' ⟨he,hrow,hc⟩=> ⟨he,Or.inr ⟨b,cap,hF,by rw [qbu],by rw [qbu];exact ⟨hl.1,hl.2.1,qjz k _ hk⟩, ?_⟩,hc.mono fun c hc=>hc▸hF⟩
   rw [qbu]
   exact hrow.congr fun c hc=> (qh7 k hc).symm

set_option maxHeartbeats 3200000 in
theorem qhe (w:World) (a:Option Addr) (cap n k:Nat) (hk0:1≤k) (hk:k+2*n≤4294967296) (hc:AtN w a n (qce k n)):
 Calls Tryz.prog 108 #[.slice a n cap, .int .i64 (k:Int)] w fun e w'=>e= .returned (.int .i64 ((k+2*n:Nat):Int))∧Below w.heap.size w w':=by
 have HC:Hid (AtN w a n (qce k n)):=hc
 clear hc
 go_enter Tryz.func108,Tryz.ntmps108
 go_wp2
 go_loopw [1,5] (fun q i wr=> ∃j:Nat,j≤n∧i= .int .i64 j∧q= .int .i64 ((k+2*j:Nat):Int)∧Below w.heap.size w wr) (fun _ i _=>n- (intOf i).toNat)
 case atStart=>exact ⟨0,Nat.zero_le _,rfl,by simp,Below.refl _ _⟩
 case round=>
  obtain ⟨j,hj,rfl,rfl,hbl⟩:=hrel
  have HBL:Hid (Below w.heap.size w wr):=hbl
  clear hbl
  by_cases hlt:j<n
  · obtain ⟨b,off,rfl,c0,c1⟩:=HC.out j hlt
    rw [qeL k hlt] at c0 c1
    dsimp only at c0 c1
    replace c0:=cell_later HBL.out c0
    replace c1:=cell_later HBL.out c1
    have hkk:k+2*j+2≤4294967296:=by omega
    have hk1:1≤k+2*j:=by omega
    have HQ:Hid (k+2* (j+1)=k+2*j+2):=by unfold Hid;omega
    generalize hq:k+2*j=q at*
    have HMT:Hid (∀W,Calls Tryz.prog 68 #[.int .i64 (q:Int)] W fun e w'=>e= .returned (.string (mkB (109::dg q [])))∧Below W.heap.size W w'):=fun W=>qcq W q hk1 (by omega)
    generalize mkB (109::dg q [])=v at*
    clear hq
    have hne: (v.toList !=v.toList)=false:=by simp
    have hnz: ((((q+1:Nat):Int)) != (q:Int)+1)=false:=by simp
    go_wp2_with fail
    go_region_held3 (fun W=>W.cell? ⟨b,off+j*2,none⟩=some (.string v)∧W.cell? ⟨b,off+j*2+1,none⟩=some (.int .i64 ((q+1:Nat):Int))) (go_keep) (first| (go_at_call 68;refine (HMT.out _).mono ?_;rintro e w2 ⟨rfl,hb2⟩;have HB2:Hid (Below wr.heap.size wr w2):= (Below.refl _ _).drew.trans hb2;have k0:=cell_later hb2 c0;have k1:=cell_later hb2 c1;clear hb2))
    all_goals
     go_wp2
     go_roundw
     case rel=>exact ⟨j+1,by omega,by go_num,by rw [HQ.out];go_num,HBL.out.trans (HB2.out.mono HBL.out.size)⟩
     case measure=>simp [intOf];omega
  · have hjn:j=n:=by omega
    go_wp2
    go_ret
    subst hjn
    exact ⟨rfl,HBL.out⟩
theorem qmq {w:World} {v:Value} (k n:Nat) (h:qdw w v (qce k n)) (hk0:1≤k) (hk:k+2*n≤4294967296):
 Calls Tryz.prog 108 #[v, .int .i64 (k:Int)] w fun e w'=>e= .returned (.int .i64 ((k+2*n:Nat):Int))∧Below w.heap.size w w':=by
 obtain ⟨a,cap,rfl,hm,_,hc⟩:=h.open'
 rw [qbu] at hm hc ⊢
 exact qhe w a cap n k hk0 hk hc
end Go.Proofs.YthnmlipnoajmkaaGreatDoor

namespace Go.Proofs.YthnmlipnoajmkaaGreatDoor
open Go.RowKit
set_option maxRecDepth 100000

theorem qaa.newV (w:World) (vs:List Value) (t:TypeId):qaa (w.alloc (.cells vs.toArray t)) w.heap.size vs.length (fun i=>vs[i]?.getD (.int .i64 0)):=by
 refine ⟨_,t,Go.Deep.blk_alloc_new _ _,by simp,fun i hi=> ?_⟩
 simp [List.getElem?_eq_getElem hi]

set_option maxHeartbeats 800000 in
theorem qkx (w:World) (z0 z1 z2:Int) (aB:Option Addr) (nB cB:Nat) (aE:Option Addr) (nE cE:Nat) (d:ID) (h:qfs w (.int .i64 z0) (.int .i64 z1) (.int .i64 z2) (.slice aB nB cB) (.slice aE nE cE) d) (left:Int) (l0:0≤left) (l1:left≤1048576):
 Calls Tryz.prog 36 #[.agg #[.int .i64 z0, .int .i64 z1, .int .i64 z2, .slice aB nB cB, .slice aE nE cE], .int .i64 left] w fun e w'=>e= .returned (.int .i64 (szf left (sizeIno d)))∧Below w.heap.size w w':=by
 have H1:Hid (qb1 w (.slice aB nB cB) d.2.2.2.1):=h.2.1
 have H2:Hid (qdw w (.slice aE nE cE) d.2.2.2.2):=h.2.2
 clear h
 by_cases hm:left< ((d.2.2.2.1.length:Nat):Int)
 · have HR:Hid (szf left d.2.2.2.1.length= -1):=qbQ hm
   have HM:Hid (szf left (sizeIno d)= -1):=qbQ (by unfold sizeIno;omega)
   rw [HM.out]
   go_enter Tryz.func36,Tryz.ntmps36
   go_wp2_with fail
   refine (qeI (H1.out.later (qab _ _)) _ l0 l1).mono ?_
   rw [HR.out]
   rintro e w1 ⟨rfl,rfl⟩
   go_wp2
   go_ret
   exact ⟨rfl,qab _ _⟩
 · have HR:Hid (szf left d.2.2.2.1.length=left- (d.2.2.2.1.length:Nat)):=qbY hm
   have hpos: ¬left- ((d.2.2.2.1.length:Nat):Int)<0:=by omega
   have HD:Hid (szf (left- ((d.2.2.2.1.length:Nat):Int)) (qcH d.2.2.2.2)=szf left (sizeIno d)):=by
    unfold Hid szf sizeIno
    split<;>split<;>omega
   have hx0: (0:Int)≤ ((d.2.2.2.1.length:Nat):Int):=by omega
   generalize ((d.2.2.2.1.length:Nat):Int)=X at*
   have hrr:szf left (sizeIno d)= -1∨0≤szf left (sizeIno d):=by unfold szf;split<;>omega
   generalize hr:szf left (sizeIno d)=r at*
   clear hr
   have step: ∀ (P:Prop),(r= -1→P)→ (0≤r→P)→P:=fun P h1 h2=>hrr.elim h1 h2
   apply step
   · intro hneg
     subst hneg
     clear step hrr
     go_enter Tryz.func36,Tryz.ntmps36
     go_wp2_with fail
     refine (qeI (H1.out.later (qab _ _)) _ l0 l1).mono ?_
     rw [HR.out]
     rintro e w1 ⟨rfl,rfl⟩
     go_wp2_with fail
     refine (qgA (H2.out.later (qab _ _)) _ (by omega) (by omega)).mono ?_
     rw [HD.out]
     rintro e w2 ⟨rfl,hb2⟩
     have HB2:Hid (Below w.heap.size w w2):= (qab _ _).trans (hb2.mono (by simp))
     clear hb2
     go_wp2
     go_ret
     exact ⟨rfl,HB2.out⟩
   · intro hge
     have hnn: ¬r<0:=by omega
     clear step hrr
     go_enter Tryz.func36,Tryz.ntmps36
     go_wp2_with fail
     refine (qeI (H1.out.later (qab _ _)) _ l0 l1).mono ?_
     rw [HR.out]
     rintro e w1 ⟨rfl,rfl⟩
     go_wp2_with fail
     refine (qgA (H2.out.later (qab _ _)) _ (by omega) (by omega)).mono ?_
     rw [HD.out]
     rintro e w2 ⟨rfl,hb2⟩
     have HB2:Hid (Below w.heap.size w w2):= (qab _ _).trans (hb2.mono (by simp))
     clear hb2
     go_wp2
     go_ret
     exact ⟨rfl,HB2.out⟩

set_option maxHeartbeats 1600000 in
theorem qn0 (w:World) (v0 v1 v2 vB vE v0' v1' v2' vB' vE':Value) (d:ID) (h:qfs w v0 v1 v2 vB vE d) (h':qfs w v0' v1' v2' vB' vE' d):
 Calls Tryz.prog 65 #[.agg #[v0,v1,v2,vB,vE], .agg #[v0',v1',v2',vB',vE']] w fun e w'=>e= .returned (.bool true)∧Below w.heap.size w w':=by
 obtain ⟨⟨rfl,rfl,rfl,_⟩,h1,h2⟩:=h
 obtain ⟨⟨rfl,rfl,rfl,_⟩,h1',h2'⟩:=h'
 obtain ⟨a1,c1,rfl,_⟩:=h1.open'
 obtain ⟨a2,c2,rfl,_⟩:=h2.open'
 obtain ⟨b1,k1,rfl,_⟩:=h1'.open'
 obtain ⟨b2,k2,rfl,_⟩:=h2'.open'
 have H1:Hid (qb1 w _ d.2.2.2.1):=h1
 have H1':Hid (qb1 w _ d.2.2.2.1):=h1'
 have H2:Hid (qdw w _ d.2.2.2.2):=h2
 have H2':Hid (qdw w _ d.2.2.2.2):=h2'
 clear h1 h2 h1' h2'
 generalize d.1=z0
 generalize d.2.1=z1
 generalize d.2.2.1=z2
 generalize d.2.2.2.1.length=m1 at*
 generalize d.2.2.2.2.length=m2 at*
 have e0: (z0 !=z0)=false:=by simp
 have e1: (z1 !=z1)=false:=by simp
 have e2: (z2 !=z2)=false:=by simp
 go_enter Tryz.func65,Tryz.ntmps65
 go_wp2_with fail
 refine (qpm (H1.out.later (qam _ _ _)) (H1'.out.later (qam _ _ _))).mono ?_
 rintro e w1 ⟨rfl,hb1⟩
 have HB1:Hid (Below w.heap.size w w1):= (qam _ _ _).trans (hb1.mono (by simp;omega))
 have x2:w1.cell? ⟨w.heap.size,4,none⟩=some (.slice a2 m2 c2):=by
  rw [hb1.cell (by simp;omega)]
  exact ((qaa.newV w [.int .i64 z0, .int .i64 z1, .int .i64 z2, .slice a1 m1 c1, .slice a2 m2 c2] 74).later (qab _ _)).cell (i:=4) (by simp)
 have y2:w1.cell? ⟨w.heap.size+1,4,none⟩=some (.slice b2 m2 k2):=by
  rw [hb1.cell (by simp)]
  have:= (qaa.newV (w.alloc (.cells #[.int .i64 z0, .int .i64 z1, .int .i64 z2, .slice a1 m1 c1, .slice a2 m2 c2] 74)) [.int .i64 z0, .int .i64 z1, .int .i64 z2, .slice b1 m1 k1, .slice b2 m2 k2] 74).cell (i:=4) (by simp)
  rw [World.size_alloc] at this
  exact this
 clear hb1
 go_wp2_with fail
 refine (qpo (H2.out.later HB1.out) (H2'.out.later HB1.out)).mono ?_
 rintro e w2 ⟨rfl,hb2⟩
 have HB2:Hid (Below w.heap.size w w2):=HB1.out.trans (hb2.mono HB1.out.size)
 clear hb2
 go_wp2
 go_ret
 exact ⟨rfl,HB2.out⟩

def qs1 (k:Int) (d:ID):ID:= (d.1,d.2.1,d.2.2.1,qbO k d.2.2.2.1.length,qce (k+ (d.2.2.2.1.length:Nat)).toNat d.2.2.2.2.length)

end Go.Proofs.YthnmlipnoajmkaaGreatDoor

namespace Go.Proofs.YthnmlipnoajmkaaGreatDoor
open Go.RowKit
set_option maxRecDepth 100000

def z5:List Value:= [.int .i64 0, .int .i64 0, .int .i64 0, .slice none 0 0, .slice none 0 0]
theorem qs2 (w:World) (o1 o2:Obj) (t:TypeId) (z0 z1 z2:Value):
 qaa (((w.alloc o1).alloc o2).alloc (.cells #[z0,z1,z2, .slice none 0 0, .slice none 0 0] t)) (w.heap.size+1+1) 5 (fun i=>if i=0 then z0 else if i=1 then z1 else if i=2 then z2 else .slice none 0 0):=by
 have h:=qaa.newV ((w.alloc o1).alloc o2) [z0,z1,z2, .slice none 0 0, .slice none 0 0] t
 simp only [World.size_alloc] at h
 refine qaa.congr (n:=5) h fun i hi=> ?_
 have:i=0∨i=1∨i=2∨i=3∨i=4:=by omega
 rcases this with rfl|rfl|rfl|rfl|rfl<;>simp
theorem qsp (w:World) (o1 o3:Obj) (t:TypeId):
 qaa (((w.alloc o1).alloc (.cells #[.int .i64 0, .int .i64 0, .int .i64 0, .slice none 0 0, .slice none 0 0] t)).alloc o3) (w.heap.size+1) 5 (fun i=>if i<3 then .int .i64 0 else .slice none 0 0):=by
 have h:= (qaa.newV (w.alloc o1) z5 t).later (qab _ o3)
 simp only [World.size_alloc] at h
 refine qaa.congr (n:=5) h fun i hi=> ?_
 have:i=0∨i=1∨i=2∨i=3∨i=4:=by omega
 rcases this with rfl|rfl|rfl|rfl|rfl<;>simp [z5]
theorem qsq (w:World) (x0 x1 x2 x3 x4:Value) (o2 o3:Obj) (t:TypeId):
 qaa (((w.alloc (.cells #[x0,x1,x2,x3,x4] t)).alloc o2).alloc o3) w.heap.size 5 (fun i=> [x0,x1,x2,x3,x4][i]?.getD (.int .i64 0)):=
 ((qaa.newV w [x0,x1,x2,x3,x4] t).later (qab _ o2)).later (qab _ o3)

theorem qpp {w:World} {v:Value} {zs:List Int} (h:qb1 w v zs) (hn:zs.length≤1048576):
 Calls Tryz.prog 83 #[v] w fun e w'=> ∃a n c,e= .returned (.slice a n c)∧Below w.heap.size w w'∧qak w' (.slice a n c) zs (qaj w w')∧n≤c:=
 (qgu h hn).mono fun _ _ ⟨h1,h2,h3⟩=> ⟨_,_,_,h1,h2,h3,Nat.le_refl _⟩

set_option maxHeartbeats 3200000 in
theorem qn1 (w:World) (z0 z1 z2:Int) (aB:Option Addr) (nB cB:Nat) (aE:Option Addr) (nE cE:Nat) (d:ID) (h:qfs w (.int .i64 z0) (.int .i64 z1) (.int .i64 z2) (.slice aB nB cB) (.slice aE nE cE) d) (hs:sizeIno d≤1048576):
 Calls Tryz.prog 50 #[.agg #[.int .i64 z0, .int .i64 z1, .int .i64 z2, .slice aB nB cB, .slice aE nE cE]] w fun e w'=> ∃y0 y1 y2 dB eB fB dE eE fE,e= .returned (.agg #[.int .i64 y0, .int .i64 y1, .int .i64 y2, .slice dB eB fB, .slice dE eE fE])∧Below w.heap.size w w'∧qdo w' (.int .i64 y0) (.int .i64 y1) (.int .i64 y2) (.slice dB eB fB) (.slice dE eE fE) d (qaj w w'):=by
 have H0:Hid (Value.int .i64 z0= .int .i64 d.1∧Value.int .i64 z1= .int .i64 d.2.1∧Value.int .i64 z2= .int .i64 d.2.2.1∧qlf (.slice aB nB cB)):=h.1
 have H1:Hid (qb1 w (.slice aB nB cB) d.2.2.2.1):=h.2.1
 have H2:Hid (qdw w (.slice aE nE cE) d.2.2.2.2):=h.2.2
 have L1:Hid (d.2.2.2.1.length≤1048576):=by unfold sizeIno at hs;unfold Hid;omega
 have L2:Hid (d.2.2.2.2.length≤1048576):=by unfold sizeIno qcH at hs;unfold Hid;omega
 clear h hs
 go_enter Tryz.func50,Tryz.ntmps50
 go_wp2_with fail
 have O2:=qs2 w (Obj.cells #[.int .i64 z0, .int .i64 z1, .int .i64 z2, .slice aB nB cB, .slice aE nE cE] 67) (Obj.cells #[.int .i64 0, .int .i64 0, .int .i64 0, .slice none 0 0, .slice none 0 0] 74) 74 (.int .i64 z0) (.int .i64 z1) (.int .i64 z2)
 have O1:=qsp w (Obj.cells #[.int .i64 z0, .int .i64 z1, .int .i64 z2, .slice aB nB cB, .slice aE nE cE] 67) (Obj.cells #[.int .i64 z0, .int .i64 z1, .int .i64 z2, .slice none 0 0, .slice none 0 0] 74) 74
 have O0:=qsq w (.int .i64 z0) (.int .i64 z1) (.int .i64 z2) (.slice aB nB cB) (.slice aE nE cE) (Obj.cells #[.int .i64 0, .int .i64 0, .int .i64 0, .slice none 0 0, .slice none 0 0] 74) (Obj.cells #[.int .i64 z0, .int .i64 z1, .int .i64 z2, .slice none 0 0, .slice none 0 0] 74) 67
 have HBA:Hid (Below w.heap.size w (((w.alloc (Obj.cells #[.int .i64 z0, .int .i64 z1, .int .i64 z2, .slice aB nB cB, .slice aE nE cE] 67)).alloc (Obj.cells #[.int .i64 0, .int .i64 0, .int .i64 0, .slice none 0 0, .slice none 0 0] 74)).alloc (Obj.cells #[.int .i64 z0, .int .i64 z1, .int .i64 z2, .slice none 0 0, .slice none 0 0] 74))):=qkr _ _ _ _
 have hWs: (((w.alloc (Obj.cells #[.int .i64 z0, .int .i64 z1, .int .i64 z2, .slice aB nB cB, .slice aE nE cE] 67)).alloc (Obj.cells #[.int .i64 0, .int .i64 0, .int .i64 0, .slice none 0 0, .slice none 0 0] 74)).alloc (Obj.cells #[.int .i64 z0, .int .i64 z1, .int .i64 z2, .slice none 0 0, .slice none 0 0] 74)).heap.size=w.heap.size+3:=by simp
 generalize hW: (((w.alloc (Obj.cells #[.int .i64 z0, .int .i64 z1, .int .i64 z2, .slice aB nB cB, .slice aE nE cE] 67)).alloc (Obj.cells #[.int .i64 0, .int .i64 0, .int .i64 0, .slice none 0 0, .slice none 0 0] 74)).alloc (Obj.cells #[.int .i64 z0, .int .i64 z1, .int .i64 z2, .slice none 0 0, .slice none 0 0] 74))=W at*
 clear hW
 have hz0:=O2.lt
 refine (qpp (H1.out.later HBA.out) L1.out).mono ?_
 rintro e w1 ⟨dB,eB,fB,rfl,hb1,ho1,hcap⟩
 have HCAP:Hid (qlf (.slice dB eB fB)):= ⟨_,_,_,rfl,hcap⟩
 clear hcap
 have HB1:Hid (Below w.heap.size w w1):=HBA.out.trans (hb1.mono HBA.out.size)
 replace O2:=O2.later hb1
 replace O1:=O1.later hb1
 replace O0:=O0.later hb1
 have HO1:Hid (qak w1 (.slice dB eB fB) d.2.2.2.1 (fun b=>w.heap.size+3≤b∧b<w1.heap.size)):=ho1.mono fun b hb=> ⟨by have:=hb.1;omega,hb.2⟩
 clear hb1 ho1
 have P0:=O0.cell (i:=4) (by omega)
 have d0:=O2.cell (i:=3) (by omega)
 have f0:=O2.frozen 3
 simp at P0 d0
 have HO2:Hid (qaa w1 (w.heap.size+1+1) 5 (fun i=>if i=0 then .int .i64 z0 else if i=1 then .int .i64 z1 else if i=2 then .int .i64 z2 else .slice none 0 0)):=O2
 have HR1:Hid (qaa w1 (w.heap.size+1) 5 (fun i=>if i<3 then .int .i64 0 else .slice none 0 0)):=O1
 have hz1:w.heap.size+1+1<w1.heap.size:=O2.lt
 clear O0 O1 O2
 go_wp2_with fail
 clear d0 f0 P0
 have HBX:Hid (Below w.heap.size w (w1.setCell ⟨w.heap.size+1+1,3,none⟩ (.slice dB eB fB))):=HB1.out.setCell (by simp;omega) _
 refine (qpn (H2.out.later HBX.out) L2.out).mono ?_
 rintro e w2 ⟨dE,eE,fE,rfl,hb2,ho2⟩
 have HOX:= (HO2.out.set 3 (.slice dB eB fB)).later hb2
 have HRX:= (HR1.out.store (p:= ⟨w.heap.size+1+1,3,none⟩) (by simp) (.slice dB eB fB)).later hb2
 have e1: (w1.setCell ⟨w.heap.size+1+1,3,none⟩ (.slice dB eB fB)).heap.size=w1.heap.size:=by simp [World.setCell]
 have HIX:Hid (qak w2 (.slice dB eB fB) d.2.2.2.1 (fun b=>w.heap.size+3≤b∧b<w1.heap.size)):=HO1.out.keep fun b hb hlt=>by
  rw [hb2.block b (by rw [e1];exact hlt),Below.heap_setCell _ _ _ _ (by simp;omega)]
 have HPX:Hid (qbc w2 (.slice dE eE fE) d.2.2.2.2 (fun b=>w1.heap.size≤b∧b<w2.heap.size)):=by
  unfold qaj at ho2
  rw [e1] at ho2
  exact ho2
 have HB2:Hid (Below w.heap.size w w2):=HBX.out.trans (hb2.mono HBX.out.size)
 have e2:w1.heap.size≤w2.heap.size:=by have:=hb2.size;rwa [e1] at this
 have q0:=HOX.cell (i:=0) (by omega)
 have q1:=HOX.cell (i:=1) (by omega)
 have q2:=HOX.cell (i:=2) (by omega)
 have q3:=HOX.cell (i:=3) (by omega)
 have q4:=HOX.cell (i:=4) (by omega)
 have qf:=HOX.frozen 4
 have t0:=HRX.cell (i:=0) (by omega)
 have t1:=HRX.cell (i:=1) (by omega)
 have t2:=HRX.cell (i:=2) (by omega)
 have t3:=HRX.cell (i:=3) (by omega)
 have t4:=HRX.cell (i:=4) (by omega)
 have s0:=HRX.frozen 0
 have s1:=HRX.frozen 1
 have s2:=HRX.frozen 2
 have s3:=HRX.frozen 3
 have s4:=HRX.frozen 4
 simp at q0 q1 q2 q3 q4 t0 t1 t2 t3 t4
 clear HOX HRX hb2 ho2
 go_wp2
 refine bodyPost_ret (v:= .agg #[.int .i64 z0, .int .i64 z1, .int .i64 z2, .slice dB eB fB, .slice dE eE fE]) (by simp [results,Tryz.results50,go_sem,t0,t1,t2,t3,t4]) rfl ⟨_,_,_,_,_,_,_,_,_,rfl, ?_, ?_⟩
 · exact (((((HB2.out.setCell (by simp;omega) _).setCell (by simp) _).setCell (by simp) _).setCell (by simp) _).setCell (by simp) _).setCell (by simp) _
 · refine ⟨⟨H0.out.1,H0.out.2.1,H0.out.2.2.1,HCAP.out⟩,fun b=>w.heap.size+3≤b∧b<w1.heap.size,fun b=>w1.heap.size≤b∧b<w2.heap.size,HIX.out.keep fun b hb hlt=> ?_,HPX.out.keep fun b hb hlt=> ?_,fun b hb hb'=>by omega,fun b hb=> ?_⟩
   · rw [Below.heap_setCell _ _ _ _ (by simp;omega),Below.heap_setCell _ _ _ _ (by simp;omega),Below.heap_setCell _ _ _ _ (by simp;omega),Below.heap_setCell _ _ _ _ (by simp;omega),Below.heap_setCell _ _ _ _ (by simp;omega),Below.heap_setCell _ _ _ _ (by simp;omega)]
   · rw [Below.heap_setCell _ _ _ _ (by simp;omega),Below.heap_setCell _ _ _ _ (by simp;omega),Below.heap_setCell _ _ _ _ (by simp;omega),Below.heap_setCell _ _ _ _ (by simp;omega),Below.heap_setCell _ _ _ _ (by simp;omega),Below.heap_setCell _ _ _ _ (by simp;omega)]
   · unfold qaj
     simp only [World.setCell,Array.size_modify]
     rcases hb with hb|hb<;>omega
end Go.Proofs.YthnmlipnoajmkaaGreatDoor
