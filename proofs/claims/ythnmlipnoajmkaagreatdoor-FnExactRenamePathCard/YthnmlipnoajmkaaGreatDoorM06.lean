/- Lists of inodes are marked,and the qbO are held. Lists of lists of bytes,and file systems:the qbO are held. Answers that hold a file system:compared,marked,held. strings.Builder:a byte and a text written. The library's iterator over a list of texts. slices.Values,and a builder's text. The specification's l3Split. The specification's l3Split,whole. The last name of a path:the specification's side. Joining names to a path:the specification's side. The program's JoinPath. -/
import Derived.Test.YthnmlipnoajmkaaGreatDoorM05
import Derived.Test.YthnmlipnoajmkaaGreatDoorM03
import Derived.Lib.Builder
import Derived.Lib.AppendStr
import Derived.Laws.Externs
import Derived.Test.YthnmlipnoajmkaaGreatDoorM02
import Derived.Lib.UnsafeStr
import Derived.Shelf.RegionOpenPlain
namespace Go.Proofs.YthnmlipnoajmkaaGreatDoor
open Go.RowKit
set_option maxRecDepth 100000

def mkI (N:Nat) (d:ID):ID:= (((N:Nat):Int),((N:Nat):Int)+1,((N:Nat):Int)+1+1,qbO (((N:Nat):Int)+1+1+1) d.2.2.2.1.length,qce (N+3+d.2.2.2.1.length) d.2.2.2.2.length)
def qdK (k:Nat) (ds:List ID):List ID:= (List.range ds.length).map fun i=>mkI (qcI k ds i) (ds[i]?.getD id0)
theorem qbT (k:Nat) (ds:List ID): (qdK k ds).length=ds.length:=by simp [qdK]
theorem qmv (k:Nat) (ds:List ID) {i:Nat} (hi:i<ds.length): (qdK k ds)[i]?.getD id0=mkI (qcI k ds i) (ds[i]?.getD id0):=by
 unfold qdK;rw [List.getElem?_map,List.getElem?_range hi];rfl
theorem qic (k:Nat) (ds:List ID) (hk:k+spanInos ds≤4294967296) (j:Nat) (hj:j<ds.length):qcI k ds j+3+ (ds[j]?.getD id0).2.2.2.1.length+2* (ds[j]?.getD id0).2.2.2.2.length=qcI k ds (j+1)∧qcI k ds (j+1)≤4294967296:=by
 have h1:=qaU (isp ds) j (by rw [qdx];omega)
 rw [qmn ds j hj] at h1
 have h2:=qbJ (isp ds) (j+1)
 have h3:qaF (ds[j]?.getD id0)= (ds[j]?.getD id0).2.2.2.1.length+2* (ds[j]?.getD id0).2.2.2.2.length:=rfl
 have h4:spanInos ds= (isp ds).sum:=rfl
 unfold qcI
 omega
theorem qky (k:Nat) (ds:List ID):qcI k ds ds.length=k+spanInos ds:=by
 have:=qcT (isp ds)
 rw [qdx] at this
 unfold qcI spanInos
 rw [this]

set_option maxHeartbeats 3200000 in
theorem qhg (w:World) (a:Option Addr) (cap n k:Nat) (ds:List ID) (hn:ds.length=n) (hk0:1≤k) (hk:k+spanInos ds≤4294967296) (hn2:n≤9223372036854775807) (hc:AtI w a n (qdK k ds)):
 Calls Tryz.prog 69 #[.slice a n cap, .int .i64 (k:Int)] w fun e w'=>e= .returned (.int .i64 ((k+spanInos ds:Nat):Int))∧Below w.heap.size w w':=by
 have HC:Hid (∀j,j<n→ ∃b o,a=some ⟨b,o,none⟩∧qfG w b (o+j*5) (mkI (qcI k ds j) (ds[j]?.getD id0))):=fun j hj=>by
  obtain ⟨b,o,e,h⟩:=hc j hj
  rw [qmv k ds (by omega)] at h
  exact ⟨b,o,e,h⟩
 have HBD:Hid (∀j,j<n→qcI k ds j+3+ (ds[j]?.getD id0).2.2.2.1.length+2* (ds[j]?.getD id0).2.2.2.2.length=qcI k ds (j+1)∧qcI k ds (j+1)≤4294967296):=fun j hj=>qic k ds hk j (by omega)
 have HE:Hid (qcI k ds n=k+spanInos ds):=by unfold Hid;rw [←hn];exact qky k ds
 have HI0:Hid (qcI k ds 0=k):=by unfold Hid qcI;rw [qa4,Nat.add_zero]
 have HK1:Hid (∀j,1≤qcI k ds j):=fun j=>by unfold qcI;omega
 rw [←HE.out]
 clear hc hn hk HE
 generalize qcI k ds=N at*
 go_enter Tryz.func69,Tryz.ntmps69
 go_wp2
 go_loopw [1,5] (fun q i wr=> ∃j:Nat,j≤n∧i= .int .i64 j∧q= .int .i64 ((N j:Nat):Int)∧Below w.heap.size w wr) (fun _ i _=>n- (intOf i).toNat)
 case atStart=>exact ⟨0,Nat.zero_le _,rfl,by rw [HI0.out],Below.refl _ _⟩
 case round=>
  obtain ⟨j,hj,rfl,rfl,hbl⟩:=hrel
  have HBL:Hid (Below w.heap.size w wr):=hbl
  clear hbl
  by_cases hlt:j<n
  · obtain ⟨b,o,rfl,hI⟩:=HC.out j hlt
    obtain ⟨aB,cB,aE,cE,c0,c1,c2,c3,c4,h5⟩:=hI
    obtain ⟨hs,hle⟩:=HBD.out j hlt
    have hN1:=HK1.out j
    have HSN:Hid (N j+3+ (ds[j]?.getD id0).2.2.2.1.length+2* (ds[j]?.getD id0).2.2.2.2.length=N (j+1)):=hs
    have HI:Hid (qb1 w (.slice aB (qbO (((N j:Nat):Int)+1+1+1) (ds[j]?.getD id0).2.2.2.1.length).length cB) (qbO (((N j:Nat):Int)+1+1+1) (ds[j]?.getD id0).2.2.2.1.length)):=h5.2.1
    have HEN:Hid (qdw w (.slice aE (qce (N j+3+ (ds[j]?.getD id0).2.2.2.1.length) (ds[j]?.getD id0).2.2.2.2.length).length cE) (qce (N j+3+ (ds[j]?.getD id0).2.2.2.1.length) (ds[j]?.getD id0).2.2.2.2.length)):=h5.2.2
    have g0:wr.cell? ⟨b,o+j*5,none⟩=some (.int .i64 ((N j:Nat):Int)):=cell_later HBL.out c0
    have g1:wr.cell? ⟨b,o+j*5+1,none⟩=some (.int .i64 (((N j:Nat):Int)+1)):=cell_later HBL.out c1
    have g2:wr.cell? ⟨b,o+j*5+2,none⟩=some (.int .i64 (((N j:Nat):Int)+1+1)):=cell_later HBL.out c2
    have g3:wr.cell? ⟨b,o+j*5+3,none⟩=some (.slice aB (qbO (((N j:Nat):Int)+1+1+1) (ds[j]?.getD id0).2.2.2.1.length).length cB):=cell_later HBL.out c3
    have g4:w.cell? ⟨b,o+j*5+4,none⟩=some (.slice aE (qce (N j+3+ (ds[j]?.getD id0).2.2.2.1.length) (ds[j]?.getD id0).2.2.2.2.length).length cE):=c4
    clear h5 c0 c1 c2 c3 c4 hs
    generalize (ds[j]?.getD id0).2.2.2.1.length=lB at*
    generalize (ds[j]?.getD id0).2.2.2.2.length=lE at*
    have hx0: (((N j:Nat):Int) != ((N j:Nat):Int))=false:=by simp
    have hx1: (((N j:Nat):Int)+1 != ((N j:Nat):Int)+1)=false:=by simp
    have hx2: (((N j:Nat):Int)+1+1 != ((N j:Nat):Int)+1+1)=false:=by simp
    have hNb:N j+3+lB+2*lE≤4294967296:=by have:=HSN.out;omega
    go_wp2_with fail
    refine (qh0 (((N j:Nat):Int)+1+1+1) lB (HI.out.later HBL.out) (by omega) (by omega)).mono ?_
    rintro e w1 ⟨rfl,hw1⟩
    have HB1:Hid (Below w.heap.size w w1):=by first| (subst hw1;exact HBL.out)|exact HBL.out.trans (hw1.mono HBL.out.size)
    have hq: ((N j:Nat):Int)+1+1+1+ (lB:Int)= ((N j+3+lB:Nat):Int):=by omega
    rw [hq]
    have g4':=cell_later HB1.out g4
    have hp: ¬ ((N j+3+lB:Nat):Int)<0:=by omega
    have hq1:1≤N j+3+lB:=by omega
    clear hq hw1 g0 g1 g2 g3
    generalize N j+3+lB=q at*
    go_wp2_with fail
    refine (qmq q lE (HEN.out.later HB1.out) (by omega) (by omega)).mono ?_
    rintro e w2 ⟨rfl,hw2⟩
    have HB2:Hid (Below w.heap.size w w2):=by first| (subst hw2;exact HB1.out)|exact HB1.out.trans (hw2.mono HB1.out.size)
    have HQ:Hid (((q+2*lE:Nat):Int)= ((N (j+1):Nat):Int)):=by unfold Hid;rw [HSN.out]
    have hp2: ¬ ((q+2*lE:Nat):Int)<0:=by omega
    clear hw2 g4 g4'
    rw [HQ.out] at hp2 ⊢
    go_wp2
    go_roundw
    case rel=>exact ⟨j+1,by omega,by go_num,rfl,HB2.out⟩
    case measure=>simp [intOf];omega
  · have HJ:Hid (N j=N n):=by unfold Hid;rw [show j=n by omega]
    go_wp2
    go_ret
    exact ⟨qad (by rw [HJ.out]),HBL.out⟩

def qei (k:Nat) (ds:List ID) (j:Nat):List ID:= (List.range ds.length).map fun i=>if i<j then mkI (qcI k ds i) (ds[i]?.getD id0) else ds[i]?.getD id0
theorem qe4 (k:Nat) (ds:List ID) (j:Nat): (qei k ds j).length=ds.length:=by simp [qei]
theorem qfH (k:Nat) (ds:List ID) (j:Nat) {i:Nat} (hi:i<ds.length): (qei k ds j)[i]?.getD id0=if i<j then mkI (qcI k ds i) (ds[i]?.getD id0) else ds[i]?.getD id0:=by
 unfold qei;rw [List.getElem?_map,List.getElem?_range hi];rfl
theorem qll (k:Nat) (ds:List ID):qei k ds 0=ds:=by
 apply List.ext_getElem?
 intro i
 unfold qei
 rw [List.getElem?_map]
 by_cases hi:i<ds.length
 · rw [List.getElem?_range hi];simp [List.getElem?_eq_getElem hi]
 · rw [List.getElem?_eq_none (by simpa using Nat.le_of_not_lt hi),List.getElem?_eq_none (by omega)];rfl
theorem qmw (k:Nat) (ds:List ID):qei k ds ds.length=qdK k ds:=by
 unfold qei qdK
 apply List.map_congr_left
 intro i hi
 rw [if_pos (List.mem_range.1 hi)]
structure HalfM (w:World) (b n:Nat) (cs:List ID) (u:Nat→Value×Value) (F1 G1:Nat→Nat→Prop):Prop where
 row:qaa w b (n*5) (qao cs u)
 ints: ∀i,i<n→qak w (u i).1 (cs[i]?.getD id0).2.2.2.1 (F1 i)
 ents: ∀i,i<n→qbc w (u i).2 (cs[i]?.getD id0).2.2.2.2 (G1 i)
theorem qid (cs cs':List ID) (u:Nat→Value×Value) (j:Nat) (x0 x1 x2:Int) (h0: ∀i,i≠j→ (cs'[i]?.getD id0)= (cs[i]?.getD id0)) (e0: (cs'[j]?.getD id0).1=x0) (e1: (cs'[j]?.getD id0).2.1=x1) (e2: (cs'[j]?.getD id0).2.2.1=x2) (c:Nat):
 (if c=j*5+2 then .int .i64 x2 else if c=j*5+1 then .int .i64 x1 else if c=j*5 then .int .i64 x0 else qao cs u c)=qao cs' u c:=by
 by_cases hj:c/5=j
 · unfold qao
   rw [hj,e0,e1,e2]
   by_cases h0:c % 5=0
   · rw [if_neg (by omega),if_neg (by omega),if_pos (by omega),if_pos h0]
   · by_cases h1:c % 5=1
     · rw [if_neg (by omega),if_pos (by omega),if_neg h0,if_pos h1]
     · by_cases h2:c % 5=2
       · rw [if_pos (by omega),if_neg h0,if_neg h1,if_pos h2]
       · rw [if_neg (by omega),if_neg (by omega),if_neg (by omega),if_neg h0,if_neg h1,if_neg h2,if_neg h0,if_neg h1,if_neg h2]
 · rw [if_neg (by omega),if_neg (by omega),if_neg (by omega)]
   unfold qao
   rw [h0 _ hj]

set_option maxHeartbeats 6400000 in
theorem qgk (w:World) (b cap n k:Nat) (F:Nat→Prop) (ds:List ID) (u:Nat→Value×Value) (F1 G1:Nat→Nat→Prop) (hF:F b) (hFF: ∀i c,F1 i c→F c∧c≠b) (hGF: ∀i c,G1 i c→F c∧c≠b) (hFG: ∀i j c,F1 i c→ ¬G1 j c) (hFd: ∀i j c,i≠j→F1 i c→ ¬F1 j c) (hGd: ∀i j c,i≠j→G1 i c→ ¬G1 j c)
 (hn:ds.length=n) (hk0:1≤k) (hk:k+spanInos ds≤4294967296) (hn2:n≤9223372036854775807) (h0:HalfM w b n ds u F1 G1):
 Calls Tryz.prog 29 #[.slice (some ⟨b,0,none⟩) n cap, .int .i64 (k:Int)] w fun e w'=>e= .returned (.int .i64 ((k+spanInos ds:Nat):Int))∧HalfM w' b n (qdK k ds) u F1 G1∧Chg F w w':=by
 have H0:Hid (HalfM w b n (qei k ds 0) u F1 G1):=by unfold Hid;rw [qll];exact h0
 have HF:Hid (F b):=hF
 have HFF:Hid (∀i c,F1 i c→F c∧c≠b):=hFF
 have HGF:Hid (∀i c,G1 i c→F c∧c≠b):=hGF
 have HFG:Hid (∀i j c,F1 i c→ ¬G1 j c):=hFG
 have HFD:Hid (∀i j c,i≠j→F1 i c→ ¬F1 j c):=hFd
 have HGD:Hid (∀i j c,i≠j→G1 i c→ ¬G1 j c):=hGd
 have HBD:Hid (∀j,j<n→qcI k ds j+3+ (ds[j]?.getD id0).2.2.2.1.length+2* (ds[j]?.getD id0).2.2.2.2.length=qcI k ds (j+1)∧qcI k ds (j+1)≤4294967296):=fun j hj=>qic k ds hk j (by omega)
 have HE:Hid (qcI k ds n=k+spanInos ds):=by unfold Hid;rw [←hn];exact qky k ds
 have HEL:Hid (qei k ds n=qdK k ds):=by unfold Hid;rw [←hn];exact qmw k ds
 have HI0:Hid (qcI k ds 0=k):=by unfold Hid qcI;rw [qa4,Nat.add_zero]
 have HK1:Hid (∀j,1≤qcI k ds j):=fun j=>by unfold qcI;omega
 have HGT:Hid (∀j i,i<n→ (qei k ds j)[i]?.getD id0=if i<j then mkI (qcI k ds i) (ds[i]?.getD id0) else ds[i]?.getD id0):=fun j i hi=>qfH k ds j (by omega)
 have HGO:Hid (∀j i,i≠j→ (qei k ds (j+1))[i]?.getD id0= (qei k ds j)[i]?.getD id0):=fun j i hij=>by
  by_cases hi:i<ds.length
  · rw [qfH _ _ _ hi,qfH _ _ _ hi]
    by_cases e:i<j
    · rw [if_pos e,if_pos (by omega)]
    · rw [if_neg e,if_neg (by omega)]
  · rw [List.getElem?_eq_none (by rw [qe4];omega),List.getElem?_eq_none (by rw [qe4];omega)]
 rw [←HE.out,←HEL.out]
 clear h0 hF hFF hGF hFG hFd hGd hn hk HE HEL
 generalize qcI k ds=N at*
 generalize qei k ds=CS at*
 go_enter Tryz.func29,Tryz.ntmps29
 go_wp2
 go_loopw [1,5] (fun q i wr=> ∃j:Nat,j≤n∧i= .int .i64 j∧q= .int .i64 ((N j:Nat):Int)∧HalfM wr b n (CS j) u F1 G1∧Chg F w wr) (fun _ i _=>n- (intOf i).toNat)
 case atStart=>exact ⟨0,Nat.zero_le _,rfl,by rw [HI0.out],H0.out,Chg.refl _ _⟩
 case round=>
  obtain ⟨j,hj,rfl,rfl,hh,hch⟩:=hrel
  have HH:Hid (HalfM wr b n (CS j) u F1 G1):=hh
  have HCH:Hid (Chg F w wr):=hch
  clear hh hch H0
  by_cases hlt:j<n
  · obtain ⟨hs,hle⟩:=HBD.out j hlt
    have hN1:=HK1.out j
    have hNb:N j+3≤4294967296:=by omega
    have HSN:Hid (N j+3+ (ds[j]?.getD id0).2.2.2.1.length+2* (ds[j]?.getD id0).2.2.2.2.length=N (j+1)):=hs
    have hgj: (CS j)[j]?.getD id0=ds[j]?.getD id0:=by rw [HGT.out j j hlt,if_neg (by omega)]
    have hgj': (CS (j+1))[j]?.getD id0=mkI (N j) (ds[j]?.getD id0):=by rw [HGT.out (j+1) j hlt,if_pos (by omega)]
    have HGJ:Hid ((CS (j+1))[j]?.getD id0=mkI (N j) (ds[j]?.getD id0)):=hgj'
    have hr:=HH.out.row
    have c0:=hr.cell (i:=j*5) (by omega)
    have c1:=hr.cell (i:=j*5+1) (by omega)
    have c2:=hr.cell (i:=j*5+2) (by omega)
    have c3:=hr.cell (i:=j*5+3) (by omega)
    have c4:=hr.cell (i:=j*5+4) (by omega)
    rw [qb5] at c0
    rw [qcs] at c1
    rw [qb6] at c2
    rw [qbL] at c3
    rw [qbv] at c4
    have f0:=hr.frozen (j*5)
    have f1:=hr.frozen (j*5+1)
    have f2:=hr.frozen (j*5+2)
    have hbw:=hr.lt
    have HR3:Hid (qaa (((wr.setCell ⟨b,j*5,none⟩ (.int .i64 ((N j:Nat):Int))).setCell ⟨b,j*5+1,none⟩ (.int .i64 (((N j:Nat):Int)+1))).setCell ⟨b,j*5+2,none⟩ (.int .i64 (((N j:Nat):Int)+1+1))) b (n*5) (qao (CS (j+1)) u)):=by
     have:= ((hr.set (j*5) (.int .i64 ((N j:Nat):Int))).set (j*5+1) (.int .i64 (((N j:Nat):Int)+1))).set (j*5+2) (.int .i64 (((N j:Nat):Int)+1+1))
     exact this.congr fun c _=>qid (CS j) (CS (j+1)) u j _ _ _ (HGO.out j) (by rw [hgj'];rfl) (by rw [hgj'];rfl) (by rw [hgj'];rfl) c
    have hset: ∀c,c≠b→ (((wr.setCell ⟨b,j*5,none⟩ (.int .i64 ((N j:Nat):Int))).setCell ⟨b,j*5+1,none⟩ (.int .i64 (((N j:Nat):Int)+1))).setCell ⟨b,j*5+2,none⟩ (.int .i64 (((N j:Nat):Int)+1+1))).heap[c]?=wr.heap[c]?:=fun c hc=>by
     rw [Below.heap_setCell _ _ _ _ hc,Below.heap_setCell _ _ _ _ hc,Below.heap_setCell _ _ _ _ hc]
    have HI3:Hid (∀i,i<n→qak (((wr.setCell ⟨b,j*5,none⟩ (.int .i64 ((N j:Nat):Int))).setCell ⟨b,j*5+1,none⟩ (.int .i64 (((N j:Nat):Int)+1))).setCell ⟨b,j*5+2,none⟩ (.int .i64 (((N j:Nat):Int)+1+1))) (u i).1 ((CS j)[i]?.getD id0).2.2.2.1 (F1 i)):=fun i hi=> (HH.out.ints i hi).keep fun c hc _=>hset c (HFF.out i c hc).2
    have HE3:Hid (∀i,i<n→qbc (((wr.setCell ⟨b,j*5,none⟩ (.int .i64 ((N j:Nat):Int))).setCell ⟨b,j*5+1,none⟩ (.int .i64 (((N j:Nat):Int)+1))).setCell ⟨b,j*5+2,none⟩ (.int .i64 (((N j:Nat):Int)+1+1))) (u i).2 ((CS j)[i]?.getD id0).2.2.2.2 (G1 i)):=fun i hi=> (HH.out.ents i hi).keep fun c hc _=>hset c (HGF.out i c hc).2
    have HCH3:Hid (Chg F w (((wr.setCell ⟨b,j*5,none⟩ (.int .i64 ((N j:Nat):Int))).setCell ⟨b,j*5+1,none⟩ (.int .i64 (((N j:Nat):Int)+1))).setCell ⟨b,j*5+2,none⟩ (.int .i64 (((N j:Nat):Int)+1+1)))):= ((HCH.out.set HF.out _ _).set HF.out _ _).set HF.out _ _
    have HIJ:=HI3.out j hlt
    have HEJ:=HE3.out j hlt
    rw [hgj] at HIJ HEJ c0 c1 c2
    obtain ⟨aB,cB,eB,_⟩:=HIJ.ints.shape
    obtain ⟨aE,cE,eE,_⟩:=HEJ.reads.open'
    have HEB:Hid ((u j).1= .slice aB (ds[j]?.getD id0).2.2.2.1.length cB):=eB
    have HEE:Hid ((u j).2= .slice aE (ds[j]?.getD id0).2.2.2.2.length cE):=eE
    rw [eB] at c3 HIJ
    rw [eE] at c4 HEJ
    have HIJ':Hid (qak _ (.slice aB (ds[j]?.getD id0).2.2.2.1.length cB) (ds[j]?.getD id0).2.2.2.1 (F1 j)):=HIJ
    have HEJ':Hid (qbc _ (.slice aE (ds[j]?.getD id0).2.2.2.2.length cE) (ds[j]?.getD id0).2.2.2.2 (G1 j)):=HEJ
    clear HIJ HEJ eB eE hs hgj hgj' hset hr
    go_wp2_with fail
    clear c0 c1 c2 c3 c4 f0 f1 f2
    refine (qdm (((N j:Nat):Int)+1+1+1) HIJ'.out (by omega) (by have:=HSN.out;omega)).mono ?_
    rintro e w1 ⟨rfl,hm1,hc1⟩
    have hr1:qaa w1 b (n*5) (qao (CS (j+1)) u):=HR3.out.block (hc1.block b HR3.out.lt (fun h=> (HFF.out j b h).2 rfl))
    have c4:=hr1.cell (i:=j*5+4) (by omega)
    rw [qbv,HEE.out] at c4
    have HR1:Hid (qaa w1 b (n*5) (qao (CS (j+1)) u)):=hr1
    have HM1:Hid (qak w1 (.slice aB (ds[j]?.getD id0).2.2.2.1.length cB) (qbO (((N j:Nat):Int)+1+1+1) (ds[j]?.getD id0).2.2.2.1.length) (F1 j)):=hm1
    have HI1:Hid (∀i,i<n→i≠j→qak w1 (u i).1 ((CS j)[i]?.getD id0).2.2.2.1 (F1 i)):=fun i hi hij=> (HI3.out i hi).keep fun c hc hl=>hc1.block c hl (HFD.out i j c hij hc)
    have HE1:Hid (∀i,i<n→qbc w1 (u i).2 ((CS j)[i]?.getD id0).2.2.2.2 (G1 i)):=fun i hi=> (HE3.out i hi).keep fun c hc hl=>hc1.block c hl (fun h=>HFG.out j i c h hc)
    have HEJ1:Hid (qbc w1 (.slice aE (ds[j]?.getD id0).2.2.2.2.length cE) (ds[j]?.getD id0).2.2.2.2 (G1 j)):=HEJ'.out.keep fun c hc hl=>hc1.block c hl (fun h=>HFG.out j j c h hc)
    have HCH1:Hid (Chg F w w1):=HCH3.out.trans (hc1.mono fun c hc=> (HFF.out j c hc).1)
    have hq: ((N j:Nat):Int)+1+1+1+ ((ds[j]?.getD id0).2.2.2.1.length:Nat)= ((N j+3+ (ds[j]?.getD id0).2.2.2.1.length:Nat):Int):=by omega
    rw [hq]
    clear hq hm1 hc1 hr1 HI3 HE3 HCH3 HR3 HIJ' HEJ'
    go_wp2_with fail
    refine (qib (N j+3+ (ds[j]?.getD id0).2.2.2.1.length) HEJ1.out (by omega) (by have:=HSN.out;omega)).mono ?_
    rintro e w2 ⟨rfl,hm2,hc2⟩
    have HQN:Hid (((N j+3+ (ds[j]?.getD id0).2.2.2.1.length+2* (ds[j]?.getD id0).2.2.2.2.length:Nat):Int)= ((N (j+1):Nat):Int)):=by unfold Hid;rw [HSN.out]
    rw [HQN.out]
    have HH2:Hid (HalfM w2 b n (CS (j+1)) u F1 G1):=by
     refine ⟨HR1.out.block (hc2.block b HR1.out.lt (fun h=> (HGF.out j b h).2 rfl)),fun i hi=> ?_,fun i hi=> ?_⟩
     · by_cases e:i=j
       · subst e
         rw [HGJ.out,HEB.out]
         exact HM1.out.keep fun c hc hl=>hc2.block c hl (fun h=>HFG.out i i c hc h)
       · rw [HGO.out j i e]
         exact (HI1.out i hi e).keep fun c hc hl=>hc2.block c hl (fun h=>HFG.out i j c hc h)
     · by_cases e:i=j
       · subst e
         rw [HGJ.out,HEE.out]
         exact hm2
       · rw [HGO.out j i e]
         exact (HE1.out i hi).keep fun c hc hl=>hc2.block c hl (HGD.out i j c e hc)
    have HCH2:Hid (Chg F w w2):=HCH1.out.trans (hc2.mono fun c hc=> (HGF.out j c hc).1)
    clear hc2 hm2 c4 HR1 HM1 HI1 HE1 HEJ1 HCH1
    go_wp2
    go_roundw
    case rel=>exact ⟨j+1,by omega,by go_num,rfl,HH2.out,HCH2.out⟩
    case measure=>simp [intOf];omega
  · have HJ:Hid (j=n):=by unfold Hid;omega
    go_wp2
    go_ret
    exact ⟨qad (by rw [HJ.out]),by have:=HH.out;rw [show CS j=CS n by rw [HJ.out]] at this;exact this,HCH.out⟩
end Go.Proofs.YthnmlipnoajmkaaGreatDoor

namespace Go.Proofs.YthnmlipnoajmkaaGreatDoor
open Go.RowKit
set_option maxRecDepth 100000

def ynum (k:Nat) (zss:List (List UInt8)) (j:Nat):Nat:=k+upto (qax zss) j
def qkz (k:Nat) (zss:List (List UInt8)):List (List UInt8):= (List.range zss.length).map fun i=>qcC ((ynum k zss i:Nat):Int) (zss[i]?.getD [])
theorem qcf (k:Nat) (zss:List (List UInt8)): (qkz k zss).length=zss.length:=by simp [qkz]
theorem qkA (k:Nat) (zss:List (List UInt8)) {i:Nat} (hi:i<zss.length): (qkz k zss)[i]?.getD []=qcC ((ynum k zss i:Nat):Int) (zss[i]?.getD []):=by
 unfold qkz;rw [List.getElem?_map,List.getElem?_range hi];rfl
theorem qie (k:Nat) (zss:List (List UInt8)) (j:Nat) (hj:j<zss.length):ynum k zss (j+1)=ynum k zss j+ (zss[j]?.getD []).length∧ynum k zss (j+1)≤k+ (qax zss).sum:=by
 have h1:=qaU (qax zss) j (by rw [qba];exact hj)
 rw [qea] at h1
 have h2:=qbJ (qax zss) (j+1)
 unfold ynum
 omega
theorem qkB (k:Nat) (zss:List (List UInt8)):ynum k zss zss.length=k+ (qax zss).sum:=by
 have:=qcT (qax zss)
 rw [qba] at this
 unfold ynum
 rw [this]
set_option maxHeartbeats 800000 in
theorem qhh (w:World) (a:Option Addr) (cap n k:Nat) (zss:List (List UInt8)) (hn:zss.length=n) (hk:k+ (qax zss).sum≤4294967296) (hn2:n≤9223372036854775807) (hc:qgi w a n (qkz k zss)):
 Calls Tryz.prog 70 #[.slice a n cap, .int .i64 (k:Int)] w fun e w'=>e= .returned (.int .i64 ((k+ (qax zss).sum:Nat):Int))∧Below w.heap.size w w':=by
 have HC:Hid (∀j,j<n→ ∃b off ua uc,a=some ⟨b,off,none⟩∧w.cell? ⟨b,off+j,none⟩=some (.slice ua (zss[j]?.getD []).length uc)∧Byt w (.slice ua (zss[j]?.getD []).length uc) (qcC ((ynum k zss j:Nat):Int) (zss[j]?.getD []))):=fun j hj=>by
  obtain ⟨b,o,ua,uc,e,h1,h2⟩:=hc j hj
  rw [qkA k zss (by omega),qbR] at h1 h2
  exact ⟨b,o,ua,uc,e,h1,h2⟩
 have HBD:Hid (∀j,j<n→ynum k zss (j+1)=ynum k zss j+ (zss[j]?.getD []).length∧ynum k zss (j+1)≤4294967296):=fun j hj=>by
  have:=qie k zss j (by omega)
  exact ⟨this.1,by omega⟩
 have HE:Hid (ynum k zss n=k+ (qax zss).sum):=by unfold Hid;rw [←hn];exact qkB k zss
 have HI0:Hid (ynum k zss 0=k):=by unfold Hid ynum;rw [qa4,Nat.add_zero]
 rw [←HE.out]
 clear hc hn hk HE
 generalize ynum k zss=N at*
 go_enter Tryz.func70,Tryz.ntmps70
 go_wp2
 go_loopw [1,5] (fun q i wr=> ∃j:Nat,j≤n∧i= .int .i64 j∧q= .int .i64 ((N j:Nat):Int)∧Below w.heap.size w wr) (fun _ i _=>n- (intOf i).toNat)
 case atStart=>exact ⟨0,Nat.zero_le _,rfl,by rw [HI0.out],Below.refl _ _⟩
 case round=>
  obtain ⟨j,hj,rfl,rfl,hbl⟩:=hrel
  have HBL:Hid (Below w.heap.size w wr):=hbl
  clear hbl
  by_cases hlt:j<n
  · obtain ⟨b,o,ua,uc,rfl,d0,hY⟩:=HC.out j hlt
    replace d0:=cell_later HBL.out d0
    obtain ⟨hs,hle⟩:=HBD.out j hlt
    have HY:Hid (Byt w (.slice ua (zss[j]?.getD []).length uc) (qcC ((N j:Nat):Int) (zss[j]?.getD []))):=hY
    have HS:Hid (((N j:Nat):Int)+ ((zss[j]?.getD []).length:Nat)= ((N (j+1):Nat):Int)):=by unfold Hid;omega
    have hb: ((N j:Nat):Int)+ ((zss[j]?.getD []).length:Nat)≤4611686018427387904:=by omega
    clear hY hs
    go_wp2_with fail
    refine (qkt ((N j:Nat):Int) (HY.out.later HBL.out) (by omega) hb).mono ?_
    rintro e w1 ⟨rfl,hb1⟩
    have HB1:Hid (Below w.heap.size w w1):=HBL.out.trans (hb1.mono HBL.out.size)
    rw [HS.out]
    have hp: ¬ ((N (j+1):Nat):Int)<0:=by omega
    clear hb1 d0 hb
    go_wp2
    go_roundw
    case rel=>exact ⟨j+1,by omega,by go_num,rfl,HB1.out⟩
    case measure=>simp [intOf];omega
  · have HJ:Hid (N j=N n):=by unfold Hid;rw [show j=n by omega]
    go_wp2
    go_ret
    exact ⟨qad (by rw [HJ.out]),HBL.out⟩

def qfe (k:Nat) (zss:List (List UInt8)) (j i:Nat):List UInt8:=if i<j then qcC ((ynum k zss i:Nat):Int) (zss[i]?.getD []) else zss[i]?.getD []
set_option maxHeartbeats 1600000 in
theorem qgl (w:World) (b cap n k:Nat) (F:Nat→Prop) (zss:List (List UInt8)) (u:Nat→Value) (G:Nat→Nat→Prop) (hG: ∀i c,G i c→F c∧c≠b) (hGG: ∀i j c,i≠j→G i c→ ¬G j c)
 (hn:zss.length=n) (hk:k+ (qax zss).sum≤4294967296) (hn2:n≤9223372036854775807) (hr:qaa w b n u) (hu: ∀i,i<n→qbt w (u i) (zss[i]?.getD []) (G i)):
 Calls Tryz.prog 30 #[.slice (some ⟨b,0,none⟩) n cap, .int .i64 (k:Int)] w fun e w'=>e= .returned (.int .i64 ((k+ (qax zss).sum:Nat):Int))∧qaa w' b n u∧ (∀i,i<n→qbt w' (u i) ((qkz k zss)[i]?.getD []) (G i))∧Chg F w w':=by
 have HR:Hid (qaa w b n u):=hr
 have HU:Hid (∀i,i<n→qbt w (u i) (qfe k zss 0 i) (G i)):=fun i hi=>by unfold qfe;rw [if_neg (by omega)];exact hu i hi
 have HG:Hid (∀i c,G i c→F c∧c≠b):=hG
 have HGG:Hid (∀i j c,i≠j→G i c→ ¬G j c):=hGG
 have HBD:Hid (∀j,j<n→ynum k zss (j+1)=ynum k zss j+ (zss[j]?.getD []).length∧ynum k zss (j+1)≤4294967296):=fun j hj=>by
  have:=qie k zss j (by omega)
  exact ⟨this.1,by omega⟩
 have HE:Hid (ynum k zss n=k+ (qax zss).sum):=by unfold Hid;rw [←hn];exact qkB k zss
 have HI0:Hid (ynum k zss 0=k):=by unfold Hid ynum;rw [qa4,Nat.add_zero]
 have HHJ:Hid (∀j,qfe k zss j j=zss[j]?.getD []):=fun j=>by unfold qfe;rw [if_neg (by omega)]
 have HHN:Hid (∀j,qfe k zss (j+1) j=qcC ((ynum k zss j:Nat):Int) (zss[j]?.getD [])):=fun j=>by unfold qfe;rw [if_pos (by omega)]
 have HHO:Hid (∀j i,i≠j→qfe k zss (j+1) i=qfe k zss j i):=fun j i e=>by
  unfold qfe
  by_cases e2:i<j
  · rw [if_pos e2,if_pos (by omega)]
  · rw [if_neg e2,if_neg (by omega)]
 have HHA:Hid (∀i,i<n→qfe k zss n i= (qkz k zss)[i]?.getD []):=fun i hi=>by rw [qkA k zss (by omega)];unfold qfe;rw [if_pos hi]
 rw [←HE.out]
 clear hr hu hG hGG hn hk HE
 generalize ynum k zss=N at*
 generalize qfe k zss=HY at*
 go_enter Tryz.func30,Tryz.ntmps30
 go_wp2
 go_loopw [1,5] (fun q i wr=> ∃j:Nat,j≤n∧i= .int .i64 j∧q= .int .i64 ((N j:Nat):Int)∧qaa wr b n u∧ (∀i,i<n→qbt wr (u i) (HY j i) (G i))∧Chg F w wr) (fun _ i _=>n- (intOf i).toNat)
 case atStart=>exact ⟨0,Nat.zero_le _,rfl,by rw [HI0.out],HR.out,HU.out,Chg.refl _ _⟩
 case round=>
  obtain ⟨j,hj,rfl,rfl,hrow,hin,hch⟩:=hrel
  have HROW:Hid (qaa wr b n u):=hrow
  have HIN:Hid (∀i,i<n→qbt wr (u i) (HY j i) (G i)):=hin
  have HCH:Hid (Chg F w wr):=hch
  by_cases hlt:j<n
  · have c1:=hrow.cell hlt
    clear hrow hin hch HU HR
    obtain ⟨hs,hle⟩:=HBD.out j hlt
    have HS:Hid (((N j:Nat):Int)+ ((zss[j]?.getD []).length:Nat)= ((N (j+1):Nat):Int)):=by unfold Hid;omega
    have HIJ:Hid (qbt wr (u j) (zss[j]?.getD []) (G j)):=by have:=HIN.out j hlt;rw [HHJ.out j] at this;exact this
    have hb: ((N j:Nat):Int)+ ((zss[j]?.getD []).length:Nat)≤4611686018427387904:=by omega
    clear hs
    go_wp2_with fail
    refine (qfo ((N j:Nat):Int) HIJ.out (by omega) hb).mono ?_
    rintro e w' ⟨rfl,hm,hc⟩
    have HM:Hid (qbt w' (u j) (qcC ((N j:Nat):Int) (zss[j]?.getD [])) (G j)):=hm
    have HC:Hid (Chg (G j) wr w'):=hc
    rw [HS.out]
    clear hm hc hb
    go_wp2
    go_roundw
    case rel=>
     refine ⟨j+1,by omega,by go_num,rfl,HROW.out.block (HC.out.block b HROW.out.lt (fun h=> (HG.out j b h).2 rfl)),fun i hi=> ?_,HCH.out.trans (HC.out.mono fun c hc=> (HG.out j c hc).1)⟩
     by_cases e:i=j
     · subst e
       rw [HHN.out];exact HM.out
     · rw [HHO.out j i e]
       exact (HIN.out i hi).keep (w':=w') fun c hc hlt=>HC.out.block c hlt (HGG.out i j c e hc)
    case measure=>simp [intOf];omega
  · have HJ:Hid (j=n):=by unfold Hid;omega
    clear hrow hin hch
    go_wp2
    go_ret
    exact ⟨qad (by rw [HJ.out]),HROW.out,fun i hi=>by have:=HIN.out i hi;rw [HJ.out,HHA.out i hi] at this;exact this,HCH.out⟩
theorem qmx {w:World} {v:Value} {zss:List (List UInt8)} {F:Nat→Prop} (k:Nat) (h:qaR w v zss F) (hk:k+ (qax zss).sum≤4294967296):
 Calls Tryz.prog 30 #[v, .int .i64 (k:Int)] w fun e w'=>e= .returned (.int .i64 ((k+ (qax zss).sum:Nat):Int))∧qaR w' v (qkz k zss) F∧Chg F w w':=by
 rcases h with ⟨rfl,a,cap,rfl⟩| ⟨b,cap,u,G,hF,hG,hGG,rfl,hl,hr,hu⟩
 · exact (qe2 w a cap _).mono fun e w' ⟨he,hw⟩=> ⟨by rw [he];simp [qax],Or.inl ⟨rfl,_,_,rfl⟩,hw▸Chg.refl _ _⟩
 · refine (qgl w b cap zss.length k F zss u G hG hGG rfl hk (by have:=hl.1;unfold maxLen at this;omega) hr hu).mono fun e w' ⟨he,h1,h2,hc⟩=> ⟨he,Or.inr ⟨b,cap,u,G,hF,hG,hGG,by rw [qcf],by rw [qcf];exact hl,by rw [qcf];exact h1,by rw [qcf];exact h2⟩,hc⟩
theorem qmy {w:World} {v:Value} (k:Nat) (zss:List (List UInt8)) (h:qfn w v (qkz k zss)) (hk:k+ (qax zss).sum≤4294967296):
 Calls Tryz.prog 70 #[v, .int .i64 (k:Int)] w fun e w'=>e= .returned (.int .i64 ((k+ (qax zss).sum:Nat):Int))∧Below w.heap.size w w':=by
 obtain ⟨a,cap,rfl,hm,hc⟩:=h.open'
 rw [qcf] at hm hc ⊢
 exact qhh w a cap zss.length k zss rfl hk (by have:=hm.1;unfold maxLen at this;omega) hc
end Go.Proofs.YthnmlipnoajmkaaGreatDoor

namespace Go.Proofs.YthnmlipnoajmkaaGreatDoor
open Go.RowKit
set_option maxRecDepth 100000

open Classical in
theorem qqY {α:Type} [Inhabited α] {n:Nat} {P:Nat→α→Prop} (h: ∀i,i<n→ ∃q,P i q): ∃f:Nat→α,∀i,i<n→P i (f i):=
 ⟨fun i=>if hi:i<n then Classical.choose (h i hi) else default,fun i hi=>by dsimp only;rw [dif_pos hi];exact Classical.choose_spec (h i hi)⟩
def qmz (k:Int) (d:FD):FD:= (qdK k.toNat d.1,qkz (k.toNat+spanInos d.1) d.2)
theorem qmA {w:World} {v:Value} {ds:List ID} {F:Nat→Prop} (k:Nat) (h:qbk w v ds F) (hk0:1≤k) (hk:k+spanInos ds≤4294967296):
 Calls Tryz.prog 29 #[v, .int .i64 (k:Int)] w fun e w'=>e= .returned (.int .i64 ((k+spanInos ds:Nat):Int))∧qbk w' v (qdK k ds) F∧Chg F w w':=by
 rcases h with ⟨rfl,a,cap,rfl⟩| ⟨b,cap,u,G,hF,hG,hGG,rfl,hl,hr,hu⟩
 · exact (qe3 w a cap _).mono fun e w' ⟨he,hw⟩=> ⟨by rw [he];simp [spanInos,isp],Or.inl ⟨rfl,_,_,rfl⟩,hw▸Chg.refl _ _⟩
 · have hch: ∀i,i<ds.length→ ∃q: (Nat→Prop)× (Nat→Prop),qak w (u i).1 (ds[i]?.getD id0).2.2.2.1 q.1∧qbc w (u i).2 (ds[i]?.getD id0).2.2.2.2 q.2∧ (∀c,q.1 c→ ¬q.2 c)∧ ∀c,q.1 c∨q.2 c→G i c:=fun i hi=>by
    obtain ⟨_,F1,G1,h1,h2,h3,h4⟩:=hu i hi
    exact ⟨(F1,G1),h1,h2,h3,h4⟩
   obtain ⟨Q,hQ⟩:=qqY hch
   have hcapu: ∀i,i<ds.length→qlf (u i).1:=fun i hi=> (hu i hi).1.2.2.2
   refine (qgk w b cap ds.length k F ds u (fun i c=>i<ds.length∧ (Q i).1 c) (fun i c=>i<ds.length∧ (Q i).2 c) hF (fun i c hc=>hG i c ((hQ i hc.1).2.2.2 c (Or.inl hc.2))) (fun i c hc=>hG i c ((hQ i hc.1).2.2.2 c (Or.inr hc.2))) (fun i j c hc hc'=> ?_) (fun i j c e hc hc'=>hGG i j c e ((hQ i hc.1).2.2.2 c (Or.inl hc.2)) ((hQ j hc'.1).2.2.2 c (Or.inl hc'.2))) (fun i j c e hc hc'=>hGG i j c e ((hQ i hc.1).2.2.2 c (Or.inr hc.2)) ((hQ j hc'.1).2.2.2 c (Or.inr hc'.2))) rfl hk0 hk (by have:=hl.1;unfold maxLen at this;omega)
    ⟨hr,fun i hi=> (hQ i hi).1.mono fun c hc=> ⟨hi,hc⟩,fun i hi=> (hQ i hi).2.1.mono fun c hc=> ⟨hi,hc⟩⟩).mono fun e w' ⟨he,hm,hc⟩=> ⟨he,Or.inr ⟨b,cap,u,G,hF,hG,hGG,by rw [qbT],by rw [qbT];exact hl,by rw [qbT];exact hm.row,fun i hi=> ?_⟩,hc⟩
   · by_cases e:i=j
     · subst e;exact (hQ i hc.1).2.2.1 c hc.2 hc'.2
     · exact hGG i j c e ((hQ i hc.1).2.2.2 c (Or.inl hc.2)) ((hQ j hc'.1).2.2.2 c (Or.inr hc'.2))
   · rw [qbT] at hi
     exact ⟨⟨rfl,rfl,rfl,hcapu i hi⟩,_,_,hm.ints i hi,hm.ents i hi,fun c hc hc'=> (hQ i hi).2.2.1 c hc.2 hc'.2,fun c hc=> (hQ i hi).2.2.2 c (hc.imp (·.2) (·.2))⟩
theorem qmB {w:World} {v:Value} (k:Nat) (ds:List ID) (h:qdJ w v (qdK k ds)) (hk0:1≤k) (hk:k+spanInos ds≤4294967296):
 Calls Tryz.prog 69 #[v, .int .i64 (k:Int)] w fun e w'=>e= .returned (.int .i64 ((k+spanInos ds:Nat):Int))∧Below w.heap.size w w':=by
 obtain ⟨a,cap,rfl,hm,hc⟩:=h.open'
 rw [qbT] at hm hc ⊢
 exact qhg w a cap ds.length k ds rfl hk0 hk (by have:=hm.1;unfold maxLen at this;omega) hc

set_option maxHeartbeats 800000 in
theorem qpu (w:World) (v1 v2:Value) (d:FD) (F:Nat→Prop) (k:Int) (h:FsU w v1 v2 d F) (hk0:1≤k) (hk:k+ (spanFs d:Nat)≤4294967296):
 Calls Tryz.prog 10 #[.agg #[v1,v2], .int .i64 k] w fun e w'=>e= .returned (.int .i64 (k+ (spanFs d:Nat)))∧FsU w' v1 v2 (qmz k d) F∧Chg F w w':=by
 obtain ⟨q,rfl⟩:=Int.eq_ofNat_of_zero_le (a:=k) (by omega)
 obtain ⟨F1,G1,h1,h2,hd,hf⟩:=h
 have H1:Hid (qbk w v1 d.1 F1):=h1
 have H2:Hid (qaR w v2 d.2 G1):=h2
 have HD:Hid (∀b,F1 b→ ¬G1 b):=hd
 have HF:Hid (∀b,F1 b∨G1 b→F b):=hf
 have HE:Hid (((q:Nat):Int)+ (spanFs d:Nat)= ((q+spanInos d.1+ (qax d.2).sum:Nat):Int)):=by unfold Hid spanFs;omega
 have HMK:Hid (qmz ((q:Nat):Int) d= (qdK q d.1,qkz (q+spanInos d.1) d.2)):=by unfold Hid qmz;simp
 have hk2:q+spanInos d.1+ (qax d.2).sum≤4294967296:=by unfold spanFs at hk;omega
 rw [HE.out,HMK.out]
 clear h1 h2 hd hf hk HE HMK
 go_enter Tryz.func10,Tryz.ntmps10
 go_wp2_with fail
 refine (qmA q (H1.out.bound.keep fun b hb hlt=> (qab _ _).block b hlt) (by omega) (by omega)).mono ?_
 rintro e w1 ⟨rfl,hm,hc⟩
 have c1:w1.cell? ⟨w.heap.size,1,none⟩=some v2:=by
  rw [World.cell?_of_block (w:=w.alloc (.cells #[v1,v2] 31)) (qhV hc fun b hb=>hb.2),qar];rfl
 have HM:Hid (qbk w1 v1 (qdK q d.1) (fun b=>F1 b∧b<w.heap.size)):=hm
 have HC:Hid (Chg (fun b=>F1 b∧b<w.heap.size) (w.alloc (.cells #[v1,v2] 31)) w1):=hc
 have H2':Hid (qaR w1 v2 d.2 (fun b=>G1 b∧b<w.heap.size)):=H2.out.bound.keep fun b hb hlt=> (HC.out.block b (by simp;omega) (fun h=>HD.out b h.1 hb.1)).trans ((qab _ _).block b hlt)
 clear hc hm
 go_wp2_with fail
 refine (qmx _ H2'.out (by omega)).mono ?_
 rintro e w2 ⟨rfl,hm2,hc2⟩
 have HM2:Hid (qaR w2 v2 (qkz (q+spanInos d.1) d.2) (fun b=>G1 b∧b<w.heap.size)):=hm2
 have HC2:Hid (Chg (fun b=>G1 b∧b<w.heap.size) w1 w2):=hc2
 clear hc2 hm2
 go_wp2
 go_ret
 exact ⟨rfl,⟨_,_,HM.out.keep fun b hb hlt=>HC2.out.block b hlt (fun h=>HD.out b hb.1 h.1),HM2.out,fun b hb hb'=>HD.out b hb.1 hb'.1,fun b hb=>HF.out b (hb.imp (·.1) (·.1))⟩,(Chg.of_below (qab _ _)).trans ((HC.out.mono fun b hb=>HF.out b (Or.inl hb.1)).trans (HC2.out.mono fun b hb=>HF.out b (Or.inr hb.1)))⟩
set_option maxHeartbeats 800000 in
theorem qpv (w:World) (v1 v2:Value) (d:FD) (k:Int) (h:FsR w v1 v2 (qmz k d)) (hk0:1≤k) (hk:k+ (spanFs d:Nat)≤4294967296):
 Calls Tryz.prog 35 #[.agg #[v1,v2], .int .i64 k] w fun e w'=>e= .returned (.int .i64 (k+ (spanFs d:Nat)))∧Below w.heap.size w w':=by
 obtain ⟨q,rfl⟩:=Int.eq_ofNat_of_zero_le (a:=k) (by omega)
 have HMK:Hid (qmz ((q:Nat):Int) d= (qdK q d.1,qkz (q+spanInos d.1) d.2)):=by unfold Hid qmz;simp
 rw [HMK.out] at h
 have H1:Hid (qdJ w v1 (qdK q d.1)):=h.1
 have H2:Hid (qfn w v2 (qkz (q+spanInos d.1) d.2)):=h.2
 have HE:Hid (((q:Nat):Int)+ (spanFs d:Nat)= ((q+spanInos d.1+ (qax d.2).sum:Nat):Int)):=by unfold Hid spanFs;omega
 have hk2:q+spanInos d.1+ (qax d.2).sum≤4294967296:=by unfold spanFs at hk;omega
 have HX:Hid (Bx (w.alloc (.cells #[v1,v2] 31)) w.heap.size [v1,v2]):=Bx.new w [v1,v2] _
 rw [HE.out]
 clear h hk HE HMK
 go_enter Tryz.func35,Tryz.ntmps35
 go_wp2_with fail
 refine (qmB q d.1 (H1.out.later (qab _ _)) (by omega) (by omega)).mono ?_
 rintro e w1 ⟨rfl,hb1⟩
 have HB1:Hid (Below w.heap.size w w1):= (qab _ _).trans (hb1.mono (by simp))
 have x1:= (HX.out.later hb1) 1 _ rfl
 have hp: ¬ ((q+spanInos d.1:Nat):Int)<0:=by omega
 clear hb1
 go_wp2_with fail
 refine (qmy (q+spanInos d.1) d.2 (H2.out.later HB1.out) (by omega)).mono ?_
 rintro e w2 ⟨rfl,hb2⟩
 have HB2:Hid (Below w.heap.size w w2):=HB1.out.trans (hb2.mono HB1.out.size)
 have hp2: ¬ ((q+spanInos d.1+ (qax d.2).sum:Nat):Int)<0:=by omega
 clear hb2 x1
 go_wp2
 go_ret
 exact ⟨rfl,HB2.out⟩

def qdL (w:World) (r:Int×FD) (e:Ending) (w':World):Prop:= ∃a1 n1 c1 a2 n2 c2,e= .returned (.agg #[.int .i64 r.1, .slice a1 n1 c1, .slice a2 n2 c2])∧Below w.heap.size w w'∧FsU w' (.slice a1 n1 c1) (.slice a2 n2 c2) r.2 (qaj w w')
end Go.Proofs.YthnmlipnoajmkaaGreatDoor

namespace Go.Proofs.YthnmlipnoajmkaaGreatDoor
open Go.RowKit
set_option maxRecDepth 100000

theorem Tryz.infoByte: (Tryz.prog.info? 5).map (fun i=> (i.zero,i.size,i.bytes))=some (some (.int .u8 0),1,1):=by kernel_rfl
end Go.Proofs.YthnmlipnoajmkaaGreatDoor

namespace Go.Proofs.YthnmlipnoajmkaaGreatDoor
open Go.RowKit
set_option maxRecDepth 100000

theorem Tryz.cellsByte:Tryz.prog.cellsOf 5=1:=by kernel_rfl
end Go.Proofs.YthnmlipnoajmkaaGreatDoor

namespace Go.Proofs.YthnmlipnoajmkaaGreatDoor
open Go.RowKit
set_option maxRecDepth 100000

theorem qmC {l:List UInt8} {m:Nat} (h:l.length=m+1):qh4 l= (l[m]?.getD 0==47):=by
 unfold qh4
 rw [List.getLast?_eq_getElem?,h,Nat.add_sub_cancel,List.getElem?_eq_getElem (by omega)]
 rfl
theorem qmD {l:List UInt8} (h:0<l.length):qjq l= (l[0]?.getD 0==47):=by
 cases l with
 |nil=>simp at h
 |cons b t=>rfl
theorem qmE (b:UInt8): ((b.toNat:Int)==47)= (b==47):=by
 by_cases h:b=47
 · subst h;rfl
 · have hne:b.toNat≠47:=fun e=>h (UInt8.toNat_inj.1 (by rw [e];rfl))
   have h1: (b==47)=false:=by simpa using h
   rw [h1]
   simp;omega
theorem qgB {p:List UInt8} (h0:qjc p=false) (hp:0<p.length):qaf p=qcD (p.drop 1):=by
 unfold qaf
 rw [if_neg (by simpa [qjc] using h0)]
 cases p with
 |nil=>simp at hp
 |cons b t=>rfl
def qcY (p:List UInt8):Prop:=p.length=0∨ ¬p[0]?.getD 0=47∨p[p.length-1]?.getD 0=47
theorem qgC {p:List UInt8} (h30: ¬30<p.length) (ht:qjc p=false) (hb:qcY p):qan p=5:=by
 unfold qan
 rw [if_neg h30]
 rcases Nat.eq_zero_or_pos p.length with h0|h0
 · have:p= []:=List.length_eq_zero_iff.1 h0
   subst this;rfl
 · rcases hb with hb|hb|hb
   · omega
   · rw [qmD h0,if_neg (by simpa using hb)]
   · have hs:qh4 p=true:=by rw [qmC (m:=p.length-1) (by omega),hb];rfl
     split
     · rw [if_pos ⟨hs,ht⟩]
     · rfl
theorem qgD {p:List UInt8} (h30: ¬30<p.length) (ht:qjc p=false) (hb: ¬qcY p):qan p=qcG (qcD (p.drop 1)):=by
 unfold qcY at hb
 have h0:0<p.length:=by omega
 have h1:p[0]?.getD 0=47:=by
  by_cases e:p[0]?.getD 0=47
  · exact e
  · exact absurd (Or.inr (Or.inl e)) hb
 have h2: ¬p[p.length-1]?.getD 0=47:=fun e=>hb (Or.inr (Or.inr e))
 unfold qan qcG
 have hs:qh4 p=false:=by rw [qmC (m:=p.length-1) (by omega)];simpa using h2
 have hq:qjq p=true:=by rw [qmD h0,h1];rfl
 rw [if_neg h30,if_pos hq,if_neg (by rw [hs];simp),qgB ht h0]

set_option maxHeartbeats 800000 in
theorem qif (w:World) (p:List UInt8) (h30: ¬30<p.length) (ht:qjc p=false) (hb:qcY p):
 Calls Tryz.prog 112 #[.string (mkB p)] w fun e w'=>e= .returned (.tuple #[.slice none 0 0, .int .i64 5])∧w'=w:=by
 have hsz:=qaC p
 have ht': ((mkB p).toList== [47])=false:=by rw [qbg];exact ht
 have h30':decide ((30:Int)< (p.length:Int))=false:=by simp;omega
 have h30'':decide (30<p.length)=false:=by simp;omega
 clear ht
 rcases Nat.eq_zero_or_pos p.length with h0|h0
 · clear hb h30
   go_enter Tryz.func112,Tryz.ntmps112
   go_wp2
   go_ret2
   exact ⟨rfl,rfl⟩
 · have h0': ((p.length:Int)==0)=false:=by rw [beq_eq_false_iff_ne];omega
   have h0'': (p.length==0)=false:=by rw [beq_eq_false_iff_ne];omega
   have h0p: (p= [])=False:=by simp;intro e;rw [e] at h0;simp at h0
   have hlt:0< (mkB p).size:=by rw [hsz];omega
   have hg:=qfF p 0 hlt
   by_cases h1:p[0]?.getD 0=47
   · have h2:p[p.length-1]?.getD 0=47:=by
      rcases hb with h|h|h
      · omega
      · exact absurd h1 h
      · exact h
     have hb0: (((mkB p)[0].toNat:Int) !=47)=false:=by rw [hg,h1];rfl
     obtain ⟨m,hm⟩: ∃m,p.length=m+1:= ⟨p.length-1,by omega⟩
     have hlm:m< (mkB p).size:=by rw [hsz];omega
     have hb1: (((mkB p)[m].toNat:Int)==47)=true:=by
      rw [qfF p m hlm,show m=p.length-1 by omega,h2];rfl
     have hwm: (p.length:Int)-1= (m:Int):=by omega
     have hwr:IntKind.i64.wrap (m:Int)= (m:Int):=by rw [IntKind.wrap_i64];omega
     clear hb hg h1 h2 hm h30
     go_enter Tryz.func112,Tryz.ntmps112
     go_wp2
     go_ret2
     exact ⟨rfl,rfl⟩
   · have hb0: (((mkB p)[0].toNat:Int) !=47)=true:=by rw [bne,qmE,hg];simpa using h1
     clear hb hg h1 h30
     go_enter Tryz.func112,Tryz.ntmps112
     go_wp2
     go_ret2
     exact ⟨rfl,rfl⟩
end Go.Proofs.YthnmlipnoajmkaaGreatDoor

namespace Go.Proofs.YthnmlipnoajmkaaGreatDoor
open Go.RowKit
set_option maxRecDepth 100000

theorem qkC (t:List UInt8) (k:Nat): ((qcD t)[k]?.getD []).length≤t.length:=by
 induction t generalizing k with
 |nil=>cases k<;>simp [qcD]
 | cons b l ih=>
   simp only [qcD]
   split
   · cases k with
     |zero=>simp
     |succ k=>have:=ih k;simp at this ⊢;omega
   · cases h:qcD l with
     |nil=>cases k<;>simp [qfE]
     | cons x y=>
       have h1:=ih k
       rw [h] at h1
       cases k with
       |zero=>simp [qfE] at h1 ⊢;omega
       |succ k=>simp [qfE] at h1 ⊢;omega

set_option maxHeartbeats 800000 in
theorem qig (w:World) (p:List UInt8) (h30:30<p.length):
 Calls Tryz.prog 112 #[.string (mkB p)] w fun e w'=>e= .returned (.tuple #[.slice none 0 0, .int .i64 2])∧w'=w:=by
 have hsz:=qaC p
 have h30': (30:Int)< (p.length:Int):=by omega
 go_enter Tryz.func112,Tryz.ntmps112
 go_wp2
 go_ret2
 exact ⟨rfl,rfl⟩

set_option maxHeartbeats 800000 in
theorem qjK (w:World):
 Calls Tryz.prog 112 #[.string (mkB [47])] w fun e w'=> ∃a c,e= .returned (.tuple #[.slice a 0 c, .int .i64 0])∧Below w.heap.size w w'∧w'.ownsRow w.heap.size 9 1 (.slice a 0 c) 0 []:=by
 have hsz: (mkB [47]).size=1:=rfl
 have ht': ((mkB [47]).toList== [47])=true:=by rw [qbg];rfl
 generalize mkB [47]=s at*
 go_enter Tryz.func112,Tryz.ntmps112
 go_wp2
 go_ret2
 exact ⟨_,_,rfl,qab _ _,World.ownsRow_lit w #[] 0 (Nat.le_refl _) (by simp) rfl⟩

set_option maxHeartbeats 1600000 in
theorem qe5 (w:World) (p:List UInt8) (h30: ¬30<p.length) (ht:qjc p=false) (hb: ¬qcY p):
 Calls Tryz.prog 112 #[.string (mkB p)] w fun e w'=>Below w.heap.size w w'∧ ((¬qcG (qcD (p.drop 1))=0∧e= .returned (.tuple #[.slice none 0 0, .int .i64 (qcG (qcD (p.drop 1)))]))∨ (qcG (qcD (p.drop 1))=0∧ ∃a c,e= .returned (.tuple #[.slice a (qcD (p.drop 1)).length c, .int .i64 0])∧w'.ownsRow w.heap.size 9 1 (.slice a (qcD (p.drop 1)).length c) (qcD (p.drop 1)).length ((qcD (p.drop 1)).map qdf))):=by
 have hsz:=qaC p
 have ht': ((mkB p).toList== [47])=false:=by rw [qbg];exact ht
 have h30':decide ((30:Int)< (p.length:Int))=false:=by simp;omega
 have h30'':decide (30<p.length)=false:=by simp;omega
 unfold qcY at hb
 have h0:0<p.length:=by omega
 have h1:p[0]?.getD 0=47:=by
  by_cases e:p[0]?.getD 0=47
  · exact e
  · exact absurd (Or.inr (Or.inl e)) hb
 have h2: ¬p[p.length-1]?.getD 0=47:=fun e=>hb (Or.inr (Or.inr e))
 have h0': ((p.length:Int)==0)=false:=by rw [beq_eq_false_iff_ne];omega
 have h0p: (p= [])=False:=by simp;intro e;rw [e] at h0;simp at h0
 have hlt:0< (mkB p).size:=by rw [hsz];omega
 have hg:=qfF p 0 hlt
 have hb0: (((mkB p)[0].toNat:Int) !=47)=false:=by rw [hg,h1];rfl
 obtain ⟨m,hm⟩: ∃m,p.length=m+1:= ⟨p.length-1,by omega⟩
 have hlm:m< (mkB p).size:=by rw [hsz];omega
 have hb1: (((mkB p)[m].toNat:Int)==47)=false:=by
  rw [qmE,qfF p m hlm,show m=p.length-1 by omega];simpa using h2
 have hwm: (p.length:Int)-1= (m:Int):=by omega
 have hwr:IntKind.i64.wrap (m:Int)= (m:Int):=by rw [IntKind.wrap_i64];omega
 have hs1: ∀W,(Instr.slice 9 (.string (mkB p)) (some (.int .i64 1)) none none).run Tryz.prog W= .ok (.string (mkB (p.drop 1))) W:=qfp p 1 (by omega)
 have HL:Hid ((p.drop 1).length≤1048576):=by unfold Hid;simp;omega
 have HLC:Hid ((qcD (p.drop 1)).length≤1048577):=by unfold Hid;have:=qkv (p.drop 1);have:=HL.out;omega
 have HLM:Hid (∀k:Nat,((qcD (p.drop 1))[k]?.getD []).length≤1048576):=fun k=>by have:=qkC (p.drop 1) k;have:=HL.out;omega
 have HCA:=fun W=>qmh W (p.drop 1) HL.out
 have HCB:Hid (∀W,Calls Tryz.prog 137 #[.string (mkB (p.drop 1)), .int .u8 47] W fun e w'=> ∃v,e= .returned v∧Below W.heap.size W w'∧w'.ownsRow W.heap.size 9 1 v (qcD (p.drop 1)).length ((qcD (p.drop 1)).map qdf)):=HCA
 clear hb hg h1 h2 hm h30 ht HL HCA
 generalize p.drop 1=t at*
 generalize qcD t=xs at*
 go_enter Tryz.func112,Tryz.ntmps112
 go_wp2_with fail
 refine (HCB.out _).mono ?_
 rintro e w1 ⟨v,rfl,hb1,hrow⟩
 have HW1:Hid (Below w.heap.size w w1):=hb1
 have HROW:Hid (w1.ownsRow w.heap.size 9 1 v xs.length (xs.map qdf)):=hrow
 obtain ⟨aV,cV,rfl⟩:=qa1 hrow
 have HAT:Hid (AtT w1 aV xs.length xs):= (qbr hrow).2
 clear hb1 hrow HCB
 go_wp2_with fail
 refine (qjv _ _ _ _ xs rfl HLC.out HLM.out HAT.out).mono ?_
 by_cases hz:qcG xs=0
 · rw [hz]
   have HZ:Hid (qcG xs=0):=hz
   clear hz
   rintro e w2 ⟨rfl,rfl⟩
   go_wp2
   go_ret2
   exact ⟨HW1.out,Or.inr ⟨HZ.out,_,_,rfl,HROW.out⟩⟩
 · generalize hq:qcG xs=z at*
   have HQ:Hid (qcG xs=z):=hq
   clear hq
   have HZ:Hid (¬z=0):=hz
   have hz1: (z !=0)=true:=by simpa using hz
   clear hz
   rintro e w2 ⟨rfl,rfl⟩
   go_wp2
   go_ret2
   exact ⟨HW1.out,Or.inl ⟨by rw [HQ.out];exact HZ.out,by rw [HQ.out];rfl⟩⟩

theorem qcZ (w:World) (p:List UInt8) (h: ¬qan p=0):
 Calls Tryz.prog 112 #[.string (mkB p)] w fun e w'=>e= .returned (.tuple #[.slice none 0 0, .int .i64 (qan p)])∧Below w.heap.size w w':=by
 by_cases h30:30<p.length
 · refine (qig w p h30).mono ?_
   rintro e w' ⟨rfl,rfl⟩
   exact ⟨by unfold qan;rw [if_pos h30],Below.refl _ _⟩
 · cases ht:qjc p
   · by_cases hb:qcY p
     · refine (qif w p h30 ht hb).mono ?_
       rintro e w' ⟨rfl,rfl⟩
       exact ⟨by rw [qgC h30 ht hb],Below.refl _ _⟩
     · refine (qe5 w p h30 ht hb).mono ?_
       rw [qgD h30 ht hb] at h ⊢
       rintro e w' ⟨h1,⟨_,rfl⟩| ⟨h2,_⟩⟩
       · exact ⟨rfl,h1⟩
       · exact absurd h2 h
   · have:p= [47]:=by simpa [qjc] using ht
     subst this
     exact absurd rfl h
theorem qct (w:World) (p:List UInt8) (h:qan p=0):
 Calls Tryz.prog 112 #[.string (mkB p)] w fun e w'=> ∃a c,e= .returned (.tuple #[.slice a (qaf p).length c, .int .i64 0])∧Below w.heap.size w w'∧w'.ownsRow w.heap.size 9 1 (.slice a (qaf p).length c) (qaf p).length ((qaf p).map qdf):=by
 by_cases h30:30<p.length
 · unfold qan at h;rw [if_pos h30] at h;omega
 · cases ht:qjc p
   · by_cases hb:qcY p
     · rw [qgC h30 ht hb] at h;omega
     · refine (qe5 w p h30 ht hb).mono ?_
       have hp:0<p.length:=by unfold qcY at hb;omega
       rw [qgD h30 ht hb] at h
       rw [qgB ht hp]
       rintro e w' ⟨h1,⟨h2,_⟩| ⟨_,a,c,rfl,hrow⟩⟩
       · exact absurd h h2
       · exact ⟨a,c,rfl,h1,hrow⟩
   · have:p= [47]:=by simpa [qjc] using ht
     subst this
     refine (qjK w).mono ?_
     rintro e w' ⟨a,c,rfl,hb,hr⟩
     exact ⟨a,c,rfl,hb,hr⟩
end Go.Proofs.YthnmlipnoajmkaaGreatDoor

namespace Go.Proofs.YthnmlipnoajmkaaGreatDoor
open Go.RowKit
set_option maxRecDepth 100000

def qeN (p:List UInt8):Int:=if qan p=0 then (if (qaf p).length=0 then 4 else 0) else qan p
def qc0 (p:List UInt8):List UInt8:=if qan p=0 then (qaf p)[(qaf p).length-1]?.getD [] else []

theorem qcg {w:World} {B:Nat} {e:TypeId} {a:Option Addr} {n m c:Nat} {xs:List Value} (h:w.ownsRow B e 1 (.slice a n c) m xs):n≤c:=by
 rcases h.2 with ⟨h1,_⟩| ⟨g,cap,cur,h1,_,_,h2,_⟩<;>simp only [Value.slice.injEq] at h1<;>omega
theorem qjL (a:Option Addr) (n c j:Nat) (hj:j≤c):
 ∃A C,(∀W:World,(Instr.slice 28 (.slice a n c) none (some (.int .i64 (j:Int))) none).run Tryz.prog W= .ok (.slice A j C) W)∧ ∀ (W:World) (xs:List (List UInt8)),j≤n→AtT W a n xs→AtT W A j xs:=by
 obtain ⟨i,hi,_⟩:=info_parts Tryz.infoStr
 refine ⟨if c=0 then a else a.map (·.add (0*1)),c-0,fun W=> ?_,fun W xs hjn h=> ?_⟩
 · simp [Instr.slice,Instr.sliceBounds,Instr.sliceBound,asIntOf,run_underlying Tryz.underlying28,sizeOf,typeInfo,hi,hj]
 · by_cases hc:c=0
   · intro k hk;omega
   · rw [if_neg hc]
     intro k hk
     obtain ⟨b,off,e,r⟩:=h k (by omega)
     subst e
     exact ⟨b,off,by simp [Addr.add],r⟩

set_option maxHeartbeats 1600000 in
theorem qgE (w:World) (p:List UInt8) (h: ¬qan p=0):
 Calls Tryz.prog 79 #[.string (mkB p)] w fun e w'=>e= .returned (.tuple #[.slice none 0 0, .string ⟨#[]⟩, .int .i64 (qan p)])∧Below w.heap.size w w':=by
 have HC:Hid (Calls Tryz.prog 112 #[.string (mkB p)] w fun e w'=>e= .returned (.tuple #[.slice none 0 0, .int .i64 (qan p)])∧Below w.heap.size w w'):=qcZ w p h
 generalize qan p=z at*
 have hz1: (z !=0)=true:=by simpa using h
 clear h
 go_enter Tryz.func79,Tryz.ntmps79
 go_wp2_with fail
 refine HC.out.mono ?_
 rintro e w1 ⟨rfl,hb1⟩
 have HB:Hid (Below w.heap.size w w1):=hb1
 clear HC hb1
 go_wp2
 go_ret3
 exact ⟨rfl,HB.out⟩

set_option maxHeartbeats 1600000 in
theorem qfI (w:World) (p:List UInt8) (h:qan p=0) (h0: (qaf p).length=0):
 Calls Tryz.prog 79 #[.string (mkB p)] w fun e w'=>e= .returned (.tuple #[.slice none 0 0, .string ⟨#[]⟩, .int .i64 4])∧Below w.heap.size w w':=by
 have HC:=qct w p h
 rw [h0] at HC
 have HCC:=HC.mono (R':=fun e w'=> ∃a c,e= .returned (.tuple #[.slice a 0 c, .int .i64 0])∧Below w.heap.size w w') (by rintro e w' ⟨a,c,rfl,hb,_⟩;exact ⟨a,c,rfl,hb⟩)
 have HD:Hid (Calls Tryz.prog 112 #[.string (mkB p)] w fun e w'=> ∃a c,e= .returned (.tuple #[.slice a 0 c, .int .i64 0])∧Below w.heap.size w w'):=HCC
 clear h h0 HC HCC
 go_enter Tryz.func79,Tryz.ntmps79
 go_wp2_with fail
 refine HD.out.mono ?_
 rintro e w1 ⟨a,c,rfl,hb1⟩
 have HB:Hid (Below w.heap.size w w1):=hb1
 clear HD hb1
 go_wp2
 go_ret3
 exact ⟨rfl,HB.out⟩

set_option maxHeartbeats 1600000 in
theorem qih (w:World) (p:List UInt8) (h:qan p=0) (m:Nat) (h0: (qaf p).length=m+1):
 Calls Tryz.prog 79 #[.string (mkB p)] w fun e w'=> ∃A C,e= .returned (.tuple #[.slice A m C, .string (mkB ((qaf p)[m]?.getD [])), .int .i64 0])∧Below w.heap.size w w'∧AtT w' A m (qaf p):=by
 have HC:=qct w p h
 have HD:Hid (Calls Tryz.prog 112 #[.string (mkB p)] w fun e w'=> ∃a c,e= .returned (.tuple #[.slice a (m+1) c, .int .i64 0])∧Below w.heap.size w w'∧w'.ownsRow w.heap.size 9 1 (.slice a (m+1) c) (qaf p).length ((qaf p).map qdf)):=HC.mono (by
  rintro e w' ⟨a,c,rfl,hb,hr⟩
  exact ⟨a,c,by rw [h0],hb,by rw [←h0];exact hr⟩)
 have hml:m+1≤1048577:=by
  have h2:qan p=if 30<p.length then 2 else if qjq p=true then (if qh4 p=true∧qjc p=false then 5 else if 6< (qaf p).length then 2 else qay (qaf p)) else 5:=rfl
  rw [h] at h2
  split at h2
  · omega
  · have:=qcE p;omega
 clear h HC h0
 generalize qaf p=xs at*
 have hnz: (((m+1:Nat):Int)==0)=false:=by rw [beq_eq_false_iff_ne];omega
 have hnm: ((m+1:Nat):Int)-1= (m:Int):=by omega
 have hwr:IntKind.i64.wrap (m:Int)= (m:Int):=by rw [IntKind.wrap_i64];omega
 have hmm:m<m+1:=by omega
 generalize hM:m+1=M at*
 go_enter Tryz.func79,Tryz.ntmps79
 go_wp2_with fail
 refine HD.out.mono ?_
 rintro e w1 ⟨a,c,rfl,hb1,hrow⟩
 have HB:Hid (Below w.heap.size w w1):=hb1
 have HAT:Hid (AtT w1 a M xs):= (qbr hrow).2
 obtain ⟨A,C,hrun,htk⟩:=qjL a M c m (by have:=qcg hrow;omega)
 have HTK:Hid (AtT w1 A m xs):=htk w1 xs (by omega) HAT.out
 obtain ⟨b,off,rfl,c0⟩:=HAT.out m hmm
 generalize hy:xs[m]?.getD []=y at c0 ⊢
 have HY:Hid (xs[m]?.getD []=y):=hy
 clear HD hb1 hrow htk hy
 go_wp2
 go_quiet (fail)
 go_wp2
 go_ret3
 exact ⟨A,C,by rw [HY.out];rfl,below_drewN HB.out nq,HTK.out.later (below_drewN (Below.refl _ _) nq)⟩
end Go.Proofs.YthnmlipnoajmkaaGreatDoor

namespace Go.Proofs.YthnmlipnoajmkaaGreatDoor
open Go.RowKit
set_option maxRecDepth 100000

def qbD (xs:List (List UInt8)):List UInt8:=xs.flatMap (47:: ·)
def qff (xs:List (List UInt8)):List UInt8:=if qbD xs= [] then [47] else qbD xs
theorem qgF {xs:List (List UInt8)} {j:Nat} (h:j<xs.length):qbD (xs.take (j+1))=qbD (xs.take j)++ (47::xs[j]?.getD []):=by
 unfold qbD
 rw [List.take_add_one,List.flatMap_append,List.getElem?_eq_getElem h]
 simp
theorem qqZ {xs:List (List UInt8)} {j B:Nat} (h: ∀k:Nat,(xs[k]?.getD []).length≤B) (hj:j≤xs.length): (qbD (xs.take j)).length≤j* (B+1):=by
 induction j with
 |zero=>simp [qbD]
 | succ j ih=>
   rw [qgF (by omega),List.length_append,List.length_cons,Nat.succ_mul]
   have:=ih (by omega)
   have:=h j
   omega

end Go.Proofs.YthnmlipnoajmkaaGreatDoor

namespace Go.Proofs.YthnmlipnoajmkaaGreatDoor
open Go.RowKit
set_option maxRecDepth 100000

theorem qmF (x:List UInt8):Lib.strCells (mkB x)=Lib.byteCells x:=by unfold Lib.strCells Lib.byteCells;rw [qcp]
theorem qqn {xs:List (List UInt8)} {j:Nat} (h:j<xs.length):Lib.byteCells (qbD (xs.take j))++ [.int .u8 47]++Lib.strCells (mkB (xs[j]?.getD []))=Lib.byteCells (qbD (xs.take (j+1))):=by
 rw [qgF h,qmF,Lib.byteCells_append]
 simp [Lib.byteCells]

end Go.Proofs.YthnmlipnoajmkaaGreatDoor
