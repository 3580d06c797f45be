/- A name that goes,and what it led to. A name that is renamed. -/
import Derived.Test.YthnmlipnoajmkaaGreatDoorM25
namespace Go.Proofs.YthnmlipnoajmkaaGreatDoor
open Go.RowKit
set_option maxRecDepth 100000

theorem qnB (c:Int) (a:Option Addr) (n k:Nat) (b:Option Addr) (m l:Nat) (w:World): (Instr.field 140 (.agg #[.int .i64 c, .slice a n k, .slice b m l]) 1).run Tryz.prog w= .ok (.agg #[.slice a n k, .slice b m l]) w:=by kernel_rfl
theorem qcS.putM {w W:World} {n bI cI bD cD m:Nat} {d:FD} (hB:Below w.heap.size w W) (h:FsS W bI n cI bD 20 cD d (fun c=>w.heap.size+m≤c)) {rb:Nat} (hrb:w.heap.size≤rb∧rb<w.heap.size+m) (x y:Value):qcS w n d (.returned (.agg #[.slice (some ⟨bI,0,none⟩) n cI, .slice (some ⟨bD,0,none⟩) 20 cD])) ((W.setCell ⟨rb,0,none⟩ x).setCell ⟨rb,1,none⟩ y):=
 have h1:Chg (fun c=>c=rb) W ((W.setCell ⟨rb,0,none⟩ x).setCell ⟨rb,1,none⟩ y):=Chg.set (F:=fun c=>c=rb) (Chg.set (F:=fun c=>c=rb) (Chg.refl _ W) rfl 0 x) rfl 1 y
 ⟨bI,cI,bD,cD,rfl,(hB.setCell hrb.1 _).setCell hrb.1 _,(h.chg h1 fun b hb e=>by omega).mono fun c hc=>by omega⟩
theorem qcS.later {w w2 w3:World} {n:Nat} {d:FD} {e:Ending} (h:qcS w n d e w2) (hb:Below w2.heap.size w2 w3):qcS w n d e w3:=by
 obtain ⟨bI,cI,bD,cD,h1,h2,h3⟩:=h
 exact ⟨bI,cI,bD,cD,h1,h2.trans (hb.mono h2.size),h3.later hb⟩
theorem qqg (d:FD) (z:Nat): (qgs d z).2.length=d.2.length:=by
 unfold qgs
 split
 · rfl
 · split
   · exact qch _ _ _
   · rfl
theorem qqh (d:FD) (j k:Nat): (qdk d j k).2.length=d.2.length:=by
 unfold qdk
 split
 · rw [qqg];rfl
 · rfl
set_option maxHeartbeats 1600000 in
theorem qi8 (w:World) (bI n cI bD cD:Nat) (d:FD) (F:Nat→Prop) (z:Nat) (hfs:FsS w bI n cI bD 20 cD d F) (hz:z<n):
 Calls Tryz.prog 102 #[.pointer (some ⟨bI,z*5,none⟩)] w fun e w'=>e= .returned (.tuple #[])∧Chg (fun c=>c=bI) w w'∧FsS w' bI n cI bD 20 cD (d.1.set z id0,d.2) F:=by
 have HN:Hid (FsS (qcB w bI (z*5) (.int .i64 0) (.int .i64 0) (.int .i64 0) (.slice none 0 0) (.slice none 0 0)) bI n cI bD 20 cD (d.1.set z id0,d.2) F):= (qp9 (G:=fun _=>False) hfs z hz id0 (.slice none 0 0) (.slice none 0 0) (qfx _ _) (fun c hc=>hc.elim)).mono fun c hc=>hc.elim id False.elim
 have HC:Hid (Chg (fun c=>c=bI) w (qcB w bI (z*5) (.int .i64 0) (.int .i64 0) (.int .i64 0) (.slice none 0 0) (.slice none 0 0))):=qi1 _ _ _ _ _ _ _ _
 obtain ⟨aB,cB,aE,cE,c0,c1,c2,c3,c4,-,hfr,-⟩:=hfs.ino z hz
 have f0:=hfr (z*5)
 have f1:=hfr (z*5+1)
 have f2:=hfr (z*5+2)
 have f3:=hfr (z*5+3)
 have f4:=hfr (z*5+4)
 clear hfr hfs
 go_enter Tryz.func102,Tryz.ntmps102
 go_wp2
 go_end0
 exact ⟨rfl,HC.out,HN.out⟩

set_option maxHeartbeats 6400000 in
theorem qge (w:World) (a1:Option Addr) (n1 c1:Nat) (a2:Option Addr) (n2 c2:Nat) (d:FD) (j:Nat) (s:ByteArray) (z:Nat) (h:FsR w (.slice a1 n1 c1) (.slice a2 n2 c2) d) (hs:sizeFs d≤1048576) (hds:DirS d j) (hq:qdG d (j:Int)=0) (hnm:qal s=0) (hi:idxE (qac d j) s< (qac d j).length) (_hz: ((qac d j)[idxE (qac d j) s]?.getD en0).2= (z:Int)) (hzn:z<d.1.length):
 Calls Tryz.prog 62 #[.agg #[.slice a1 n1 c1, .slice a2 n2 c2], .agg #[.int .i64 (j:Int), .string s, .bool true, .int .i64 (z:Int)]] w (qcS w d.1.length (qda d j (idxE (qac d j) s) z)):=by
 have hdr:qqM d (j:Int) s= (0,qdk d j (idxE (qac d j) s)):=by
  unfold qqM qcM qgp
  rw [if_pos hq,if_pos hnm,Int.toNat_natCast,if_pos hi,if_pos rfl]
 have HDR:Hid (∀W,Below w.heap.size w W→Calls Tryz.prog 101 #[.agg #[.slice a1 n1 c1, .slice a2 n2 c2], .int .i64 (j:Int), .string s] W (qdL W (0,qdk d j (idxE (qac d j) s)))):=fun W hW=>by
  have:=qoI W _ _ _ _ _ _ d (j:Int) s (h.later hW) hs (by have:=qaX hnm;omega)
  rw [hdr] at this
  exact this
 have HL1:Hid ((qdk d j (idxE (qac d j) s)).1.length=d.1.length∧ (qdk d j (idxE (qac d j) s)).2.length=20∧0<d.1.length):= ⟨qhQ _ _ _,by rw [qqh];exact hds.dat,by have:=hds.lt;omega⟩
 have HGD:Hid (qda d j (idxE (qac d j) s) z=if qae (qdk d j (idxE (qac d j) s)).1 z=2 then ((qdk d j (idxE (qac d j) s)).1.set z id0,(qdk d j (idxE (qac d j) s)).2) else qdk d j (idxE (qac d j) s)):=rfl
 have hten:=hds.ten
 obtain ⟨RES,hRES⟩: ∃r,qda d j (idxE (qac d j) s) z=r:= ⟨_,rfl⟩
 rw [hRES] at HGD ⊢
 clear hRES h hs hds hq hnm hi hdr
 generalize qdk d j (idxE (qac d j) s)=D at*
 generalize d.1.length=n at*
 have hzI: (z:Int)< (n:Int):=by omega
 have HB0:Hid (Below w.heap.size w (((w.alloc (.cells #[.slice a1 n1 c1, .slice a2 n2 c2] 31)).alloc (.cells #[.int .i64 (j:Int), .string s, .bool true, .int .i64 (z:Int)] 49)).alloc (.cells #[.slice none 0 0, .slice none 0 0] 31))):=qhS _ _ _ _
 have hbx:=qnA w [.slice a1 n1 c1, .slice a2 n2 c2] [.int .i64 (j:Int), .string s, .bool true, .int .i64 (z:Int)] [.slice none 0 0, .slice none 0 0] 31 49 31
 have HX0:Hid (Bx (((w.alloc (.cells #[.slice a1 n1 c1, .slice a2 n2 c2] 31)).alloc (.cells #[.int .i64 (j:Int), .string s, .bool true, .int .i64 (z:Int)] 49)).alloc (.cells #[.slice none 0 0, .slice none 0 0] 31)) w.heap.size [.slice a1 n1 c1, .slice a2 n2 c2]):=hbx.1
 have HQ0:Hid (Bx (((w.alloc (.cells #[.slice a1 n1 c1, .slice a2 n2 c2] 31)).alloc (.cells #[.int .i64 (j:Int), .string s, .bool true, .int .i64 (z:Int)] 49)).alloc (.cells #[.slice none 0 0, .slice none 0 0] 31)) (w.heap.size+1) [.int .i64 (j:Int), .string s, .bool true, .int .i64 (z:Int)]):=hbx.2.1
 have HR0:Hid (qaa (((w.alloc (.cells #[.slice a1 n1 c1, .slice a2 n2 c2] 31)).alloc (.cells #[.int .i64 (j:Int), .string s, .bool true, .int .i64 (z:Int)] 49)).alloc (.cells #[.slice none 0 0, .slice none 0 0] 31)) (w.heap.size+1+1) 2 (cel [.slice none 0 0, .slice none 0 0])):=by
  have p2:=qdQ ((w.alloc (.cells #[.slice a1 n1 c1, .slice a2 n2 c2] 31)).alloc (.cells #[.int .i64 (j:Int), .string s, .bool true, .int .i64 (z:Int)] 49)) [.slice none 0 0, .slice none 0 0] 31
  rw [World.size_alloc,World.size_alloc] at p2
  exact p2
 clear hbx
 have xHX0:=HX0.out 0 _ rfl
 have xHX1:=HX0.out 1 _ rfl
 have xHQ0:=HQ0.out 0 _ rfl
 have xHQ1:=HQ0.out 1 _ rfl
 have xHQ2:=HQ0.out 2 _ rfl
 have xHQ3:=HQ0.out 3 _ rfl
 have hff:=qnB
 go_enter Tryz.func62,Tryz.ntmps62
 go_wp2_with fail
 generalize (((w.alloc (.cells #[.slice a1 n1 c1, .slice a2 n2 c2] 31)).alloc (.cells #[.int .i64 (j:Int), .string s, .bool true, .int .i64 (z:Int)] 49)).alloc (.cells #[.slice none 0 0, .slice none 0 0] 31))=W0 at*
 clear xHX0 xHX1 xHQ0 xHQ1 xHQ2 xHQ3
 refine (HDR.out _ HB0.out).mono ?_
 rintro e w1 ⟨q1,m1,cI,q2,m2,cD,rfl,hb,hf5⟩
 obtain ⟨bI,e1,bD,e2,eI,eD,hfs⟩:=FsS.of hf5 (by show 0<D.1.length;have:=HL1.out.1;have:=HL1.out.2.2;omega) (by show 0<D.2.length;have:=HL1.out.2.1;omega)
 simp only [Value.slice.injEq] at eI eD
 obtain ⟨rfl,rfl,rfl⟩:=eI
 obtain ⟨rfl,rfl,rfl⟩:=eD
 dsimp only at hfs ⊢
 rw [HL1.out.1,HL1.out.2.1] at hfs
 rw [HL1.out.1,HL1.out.2.1]
 have hlw:w.heap.size+1+1<W0.heap.size:=HR0.out.lt
 have HSZ:Hid (W0.heap.size≤w1.heap.size):=hb.size
 have HBW:Hid (Below w.heap.size w w1):=HB0.out.trans (hb.mono HB0.out.size)
 have HFW:Hid (FsS w1 bI n cI bD 20 cD D (fun c=>w.heap.size+3≤c)):=hfs.mono fun c hh=>by have:=hh.1;omega
 have HRW:Hid (qaa w1 (w.heap.size+1+1) 2 (cel [.slice none 0 0, .slice none 0 0])):=HR0.out.later hb
 have hb':Below W0.heap.size W0 (w1.alloc (.cells #[.slice (some ⟨bI,0,none⟩) n cI, .slice (some ⟨bD,0,none⟩) 20 cD] 31)):=hb.trans ((qab _ _).mono hb.size)
 have HB1:Hid (Below w.heap.size w (w1.alloc (.cells #[.slice (some ⟨bI,0,none⟩) n cI, .slice (some ⟨bD,0,none⟩) 20 cD] 31))):=HB0.out.trans (hb'.mono HB0.out.size)
 have HX1:Hid (Bx (w1.alloc (.cells #[.slice (some ⟨bI,0,none⟩) n cI, .slice (some ⟨bD,0,none⟩) 20 cD] 31)) w.heap.size [.slice a1 n1 c1, .slice a2 n2 c2]):=HX0.out.later hb'
 have HQ1:Hid (Bx (w1.alloc (.cells #[.slice (some ⟨bI,0,none⟩) n cI, .slice (some ⟨bD,0,none⟩) 20 cD] 31)) (w.heap.size+1) [.int .i64 (j:Int), .string s, .bool true, .int .i64 (z:Int)]):=HQ0.out.later hb'
 have HR1:Hid (qaa (w1.alloc (.cells #[.slice (some ⟨bI,0,none⟩) n cI, .slice (some ⟨bD,0,none⟩) 20 cD] 31)) (w.heap.size+1+1) 2 (cel [.slice none 0 0, .slice none 0 0])):=HR0.out.later hb'
 clear hb hb'
 have HO1:Hid (Bx (w1.alloc (.cells #[.slice (some ⟨bI,0,none⟩) n cI, .slice (some ⟨bD,0,none⟩) 20 cD] 31)) w1.heap.size [.slice (some ⟨bI,0,none⟩) n cI, .slice (some ⟨bD,0,none⟩) 20 cD]):=Bx.new w1 [.slice (some ⟨bI,0,none⟩) n cI, .slice (some ⟨bD,0,none⟩) 20 cD] _
 have HF1:Hid (FsS (w1.alloc (.cells #[.slice (some ⟨bI,0,none⟩) n cI, .slice (some ⟨bD,0,none⟩) 20 cD] 31)) bI n cI bD 20 cD D (fun c=>W0.heap.size≤c∧c<w1.heap.size)):=hfs.later (qab _ _)
 clear hf5 hfs
 obtain ⟨_,_,_,_,z0,-,-,-,-,-,-,-⟩:=HF1.out.ino z hzn
 have z1:=z0
 have hne:=HF1.out.ne
 have xHO0:=HO1.out 0 _ rfl
 have xHO1:=HO1.out 1 _ rfl
 have xHQ3:=HQ1.out 3 _ rfl
 by_cases hk: (D.1[z]?.getD id0).1=2
 · have hkb: ((D.1[z]?.getD id0).1==2)=true:=by simpa using hk
   have HE:Hid (RES= (D.1.set z id0,D.2)):=by unfold Hid;rw [HGD.out];exact if_pos hk
   clear hk
   generalize (D.1[z]?.getD id0).1=kd at*
   go_wp2_with fail
   generalize (w1.alloc (.cells #[.slice (some ⟨bI,0,none⟩) n cI, .slice (some ⟨bD,0,none⟩) 20 cD] 31))=W1 at*
   clear xHO0 xHO1 xHQ3 z0 z1
   refine (qi8 W1 bI n cI bD cD D _ z HF1.out hzn).mono ?_
   rintro e w2 ⟨rfl,hc2,hf2⟩
   have hoI:w1.heap.size≠bI:=fun e=>by have:=hne.2.1.1.2;omega
   have p0:=hc2.cellOf (HO1.out 0 _ rfl) hoI
   have p1:=hc2.cellOf (HO1.out 1 _ rfl) hoI
   have HB2:Hid (Below w.heap.size w w2):=HB1.out.trans (hc2.below HB1.out.size fun b hb=>by have:=hne.2.1.1.1;omega)
   have HF2:Hid (FsS w2 bI n cI bD 20 cD (D.1.set z id0,D.2) (fun c=>w.heap.size+3≤c)):=hf2.mono fun c hh=>by have:=hh.1;omega
   have hrr:=HR1.out.block (hc2.block _ HR1.out.lt (fun e=>by have:=hne.2.1.1.1;omega))
   have t0:w2.cell? ⟨w.heap.size+1+1,0,none⟩=some (.slice none 0 0):=hrr.cell (i:=0) (by omega)
   have t1:w2.cell? ⟨w.heap.size+1+1,1,none⟩=some (.slice none 0 0):=hrr.cell (i:=1) (by omega)
   have s0:=hrr.frozen 0
   have s1:=hrr.frozen 1
   have hl2:=hrr.lt
   clear hrr hc2 hf2
   go_wp2
   exact bodyPost_ret (v:= .agg #[.slice (some ⟨bI,0,none⟩) n cI, .slice (some ⟨bD,0,none⟩) 20 cD]) (by simp [results,Tryz.results62,go_sem,t0,t1]) rfl (by rw [HE.out];exact qcS.putM HB2.out HF2.out ⟨by omega,by omega⟩ _ _)
 · have hkb: ((D.1[z]?.getD id0).1==2)=false:=by simpa using hk
   have HE:Hid (RES=D):=by unfold Hid;rw [HGD.out];exact if_neg hk
   clear hk
   generalize (D.1[z]?.getD id0).1=kd at*
   have hrr:=HRW.out
   have t0:w1.cell? ⟨w.heap.size+1+1,0,none⟩=some (.slice none 0 0):=hrr.cell (i:=0) (by omega)
   have t1:w1.cell? ⟨w.heap.size+1+1,1,none⟩=some (.slice none 0 0):=hrr.cell (i:=1) (by omega)
   have s0:=hrr.frozen 0
   have s1:=hrr.frozen 1
   have hl2:=hrr.lt
   clear hrr
   go_wp2
   exact bodyPost_ret (v:= .agg #[.slice (some ⟨bI,0,none⟩) n cI, .slice (some ⟨bD,0,none⟩) 20 cD]) (by simp [results,Tryz.results62,go_sem,t0,t1,hl2]) rfl (by rw [HE.out];exact (qcS.putM HBW.out HFW.out ⟨by omega,by omega⟩ _ _).later (qab _ _))
end Go.Proofs.YthnmlipnoajmkaaGreatDoor

namespace Go.Proofs.YthnmlipnoajmkaaGreatDoor
open Go.RowKit
set_option maxRecDepth 100000

theorem qaa.boxed {w:World} {b:Nat} {vs:List Value} (h:qaa w b vs.length (cel vs)):Bx w b vs:=fun i v hv=>by
 have hi:i<vs.length:=by
  rcases Nat.lt_or_ge i vs.length with hh|hh
  · exact hh
  · rw [List.getElem?_eq_none hh] at hv;exact absurd hv (by simp)
 have:=h.cell hi
 rw [this]
 unfold cel
 rw [hv]
 rfl
theorem qoN {w:World} {b:Nat} {u v:Value} (h:qaa w b 2 (cel [u,v])) (x y:Value):Bx ((w.setCell ⟨b,0,none⟩ x).setCell ⟨b,1,none⟩ y) b [x,y]:=by
 have h2:= (h.set 0 x).set 1 y
 intro i a ha
 match i,ha with
 |0,ha=>cases ha;exact h2.cell (i:=0) (by omega)
 |1,ha=>cases ha;exact h2.cell (i:=1) (by omega)
set_option maxHeartbeats 12800000 in
theorem qkq (w:World) (a1:Option Addr) (n1 c1:Nat) (a2:Option Addr) (n2 c2:Nat) (d:FD) (j:Nat) (s:ByteArray) (z tj:Nat) (t:ByteArray) (gf:Bool) (tz:Nat) (h:FsR w (.slice a1 n1 c1) (.slice a2 n2 c2) d) (hs:sizeFs d≤1048576) (hgf:gf=qbG d tj t) (htz:gf=true→atE d tj t= (tz:Int)) (hds:DirS d tj) (hq:qdG d (tj:Int)=0) (hnm:qal t=0) (hrs:RenS d (qaq d tj t) j s tj):
 Calls Tryz.prog 24 #[.agg #[.slice a1 n1 c1, .slice a2 n2 c2], .agg #[.int .i64 (j:Int), .string s, .bool true, .int .i64 (z:Int)], .agg #[.int .i64 (tj:Int), .string t, .bool gf, .int .i64 (tz:Int)]] w (qcS w d.1.length (qdu d j s tj t z)):=by
 have HCF:Hid (∀W,Below w.heap.size w W→Calls Tryz.prog 58 #[.agg #[.slice a1 n1 c1, .slice a2 n2 c2]] W (qiw W d)):=fun W hW=>qcv W _ _ _ _ _ _ d (h.later hW) hs (by have:=hds.dat;omega)
 have HWN:Hid (gf=true→ ∀W,Below w.heap.size w W→Calls Tryz.prog 62 #[.agg #[.slice a1 n1 c1, .slice a2 n2 c2], .agg #[.int .i64 (tj:Int), .string t, .bool true, .int .i64 (tz:Int)]] W (qcS W d.1.length (qaq d tj t))):=fun hg W hW=>by
  rw [hgf] at hg
  obtain ⟨z',hz',hl',hi'⟩:=qgc hds hg
  have ez:z'=tz:=by have:=htz (by rw [hgf];exact hg);omega
  subst ez
  have hw: ((qac d tj)[idxE (qac d tj) t]?.getD en0).2= (z':Int):=by rw [←hz'];unfold atE;rw [if_pos hi']
  have:=qge W _ _ _ _ _ _ d tj t z' (h.later hW) hs hds hq hnm hi' hw hl'
  unfold qaq
  rw [if_pos hg,hz',Int.toNat_natCast]
  exact this
 have HCL:Hid (gf=false→qaq d tj t=d):=fun hg=>by unfold qaq;rw [←hgf,hg];rfl
 have HMS:Hid (t.size≤maxLen):=by have:=qaX hnm;unfold Hid maxLen;omega
 have HRD:Hid (qdu d j s tj t z=qaH (qaH (qaq d tj t) j (qaO (qac (qaq d tj t) j) (idxE (qac (qaq d tj t) j) s))) tj (qbF (qac (qaH (qaq d tj t) j (qaO (qac (qaq d tj t) j) (idxE (qac (qaq d tj t) j) s))) tj) (plcE (qac (qaH (qaq d tj t) j (qaO (qac (qaq d tj t) j) (idxE (qac (qaq d tj t) j) s))) tj) t) (t,(z:Int)))):=rfl
 have HDAT:Hid (d.2.length=20):=hds.dat
 have HRS:Hid (RenS d (qaq d tj t) j s tj):=hrs
 have hjn:=hrs.jlt
 have htn:=hrs.tlt
 have hten:=hds.ten
 obtain ⟨RES,hRES⟩: ∃r,qdu d j s tj t z=r:= ⟨_,rfl⟩
 rw [hRES] at HRD ⊢
 clear hRES h hs hgf htz hds hq hnm hrs
 generalize qaq d tj t=D at*
 obtain ⟨n,hn⟩: ∃n,d.1.length=n:= ⟨_,rfl⟩
 have HN:Hid (d.1.length=n):=hn
 rw [hn] at hjn htn hten HWN ⊢
 clear hn
 have hjI: (j:Int)< (n:Int):=by omega
 have htI: (tj:Int)< (n:Int):=by omega
 have HB0:Hid (Below w.heap.size w ((((w.alloc (.cells #[.slice a1 n1 c1, .slice a2 n2 c2] 31)).alloc (.cells #[.int .i64 (j:Int), .string s, .bool true, .int .i64 (z:Int)] 49)).alloc (.cells #[.int .i64 (tj:Int), .string t, .bool gf, .int .i64 (tz:Int)] 49)).alloc (.cells #[.slice none 0 0, .slice none 0 0] 31))):= (qhS _ _ _ _).trans ((qab _ _).mono (qhS _ _ _ _).size)
 have hbx:=qnA w [.slice a1 n1 c1, .slice a2 n2 c2] [.int .i64 (j:Int), .string s, .bool true, .int .i64 (z:Int)] [.int .i64 (tj:Int), .string t, .bool gf, .int .i64 (tz:Int)] 31 49 49
 have HX0:Hid (Bx ((((w.alloc (.cells #[.slice a1 n1 c1, .slice a2 n2 c2] 31)).alloc (.cells #[.int .i64 (j:Int), .string s, .bool true, .int .i64 (z:Int)] 49)).alloc (.cells #[.int .i64 (tj:Int), .string t, .bool gf, .int .i64 (tz:Int)] 49)).alloc (.cells #[.slice none 0 0, .slice none 0 0] 31)) w.heap.size [.slice a1 n1 c1, .slice a2 n2 c2]):=hbx.1.later (qab _ _)
 have HP0:Hid (Bx ((((w.alloc (.cells #[.slice a1 n1 c1, .slice a2 n2 c2] 31)).alloc (.cells #[.int .i64 (j:Int), .string s, .bool true, .int .i64 (z:Int)] 49)).alloc (.cells #[.int .i64 (tj:Int), .string t, .bool gf, .int .i64 (tz:Int)] 49)).alloc (.cells #[.slice none 0 0, .slice none 0 0] 31)) (w.heap.size+1) [.int .i64 (j:Int), .string s, .bool true, .int .i64 (z:Int)]):=hbx.2.1.later (qab _ _)
 have HQ0:Hid (Bx ((((w.alloc (.cells #[.slice a1 n1 c1, .slice a2 n2 c2] 31)).alloc (.cells #[.int .i64 (j:Int), .string s, .bool true, .int .i64 (z:Int)] 49)).alloc (.cells #[.int .i64 (tj:Int), .string t, .bool gf, .int .i64 (tz:Int)] 49)).alloc (.cells #[.slice none 0 0, .slice none 0 0] 31)) (w.heap.size+1+1) [.int .i64 (tj:Int), .string t, .bool gf, .int .i64 (tz:Int)]):=hbx.2.2.later (qab _ _)
 have HR0:Hid (qaa ((((w.alloc (.cells #[.slice a1 n1 c1, .slice a2 n2 c2] 31)).alloc (.cells #[.int .i64 (j:Int), .string s, .bool true, .int .i64 (z:Int)] 49)).alloc (.cells #[.int .i64 (tj:Int), .string t, .bool gf, .int .i64 (tz:Int)] 49)).alloc (.cells #[.slice none 0 0, .slice none 0 0] 31)) (w.heap.size+1+1+1) 2 (cel [.slice none 0 0, .slice none 0 0])):=by
  have p2:=qdQ (((w.alloc (.cells #[.slice a1 n1 c1, .slice a2 n2 c2] 31)).alloc (.cells #[.int .i64 (j:Int), .string s, .bool true, .int .i64 (z:Int)] 49)).alloc (.cells #[.int .i64 (tj:Int), .string t, .bool gf, .int .i64 (tz:Int)] 49)) [.slice none 0 0, .slice none 0 0] 31
  rw [World.size_alloc,World.size_alloc,World.size_alloc] at p2
  exact p2
 clear hbx
 cases gf
 · skip
   have hcl:=HCL.out rfl
   subst hcl
   clear HCL HWN
   have xHX0:=HX0.out 0 _ rfl
   have xHX1:=HX0.out 1 _ rfl
   go_enter Tryz.func24,Tryz.ntmps24
   go_wp2_with fail
   generalize ((((w.alloc (.cells #[.slice a1 n1 c1, .slice a2 n2 c2] 31)).alloc (.cells #[.int .i64 (j:Int), .string s, .bool true, .int .i64 (z:Int)] 49)).alloc (.cells #[.int .i64 (tj:Int), .string t, .bool false, .int .i64 (tz:Int)] 49)).alloc (.cells #[.slice none 0 0, .slice none 0 0] 31))=W0 at*
   clear xHX0 xHX1
   have hlw:w.heap.size+1+1+1<W0.heap.size:=HR0.out.lt
   refine (HCF.out _ HB0.out).mono ?_
   rintro e w1 ⟨q1,m1,cI,q2,m2,cD,rfl,hb,hf5⟩
   obtain ⟨bI,e1,bD,e2,eI,eD,hfs⟩:=FsS.of hf5 (by have:=HN.out;omega) (by have:=HDAT.out;omega)
   simp only [Value.slice.injEq] at eI eD
   obtain ⟨rfl,rfl,rfl⟩:=eI
   obtain ⟨rfl,rfl,rfl⟩:=eD
   rw [HN.out,HDAT.out] at hfs
   rw [HN.out,HDAT.out]
   have hbo4:w.heap.size+1+1+1<w1.heap.size:=by have:=hb.size;omega
   have HS0:Hid (W0.heap.size≤w1.heap.size):=hb.size
   have hb':Below W0.heap.size W0 (w1.alloc (.cells #[.slice (some ⟨bI,0,none⟩) n cI, .slice (some ⟨bD,0,none⟩) 20 cD] 31)):=hb.trans ((qab _ _).mono hb.size)
   have HB1:Hid (Below w.heap.size w (w1.alloc (.cells #[.slice (some ⟨bI,0,none⟩) n cI, .slice (some ⟨bD,0,none⟩) 20 cD] 31))):=HB0.out.trans (hb'.mono HB0.out.size)
   have HX1:Hid (Bx (w1.alloc (.cells #[.slice (some ⟨bI,0,none⟩) n cI, .slice (some ⟨bD,0,none⟩) 20 cD] 31)) w.heap.size [.slice a1 n1 c1, .slice a2 n2 c2]):=HX0.out.later hb'
   have HP1:Hid (Bx (w1.alloc (.cells #[.slice (some ⟨bI,0,none⟩) n cI, .slice (some ⟨bD,0,none⟩) 20 cD] 31)) (w.heap.size+1) [.int .i64 (j:Int), .string s, .bool true, .int .i64 (z:Int)]):=HP0.out.later hb'
   have HQ1:Hid (Bx (w1.alloc (.cells #[.slice (some ⟨bI,0,none⟩) n cI, .slice (some ⟨bD,0,none⟩) 20 cD] 31)) (w.heap.size+1+1) [.int .i64 (tj:Int), .string t, .bool false, .int .i64 (tz:Int)]):=HQ0.out.later hb'
   have HR1:Hid (qaa (w1.alloc (.cells #[.slice (some ⟨bI,0,none⟩) n cI, .slice (some ⟨bD,0,none⟩) 20 cD] 31)) (w.heap.size+1+1+1) 2 (cel [.slice none 0 0, .slice none 0 0])):=HR0.out.later hb'
   clear hb hb'
   have HO1:Hid (Bx (w1.alloc (.cells #[.slice (some ⟨bI,0,none⟩) n cI, .slice (some ⟨bD,0,none⟩) 20 cD] 31)) w1.heap.size [.slice (some ⟨bI,0,none⟩) n cI, .slice (some ⟨bD,0,none⟩) 20 cD]):=Bx.new w1 [.slice (some ⟨bI,0,none⟩) n cI, .slice (some ⟨bD,0,none⟩) 20 cD] _
   clear hf5
   have HF1:Hid (FsS (w1.alloc (.cells #[.slice (some ⟨bI,0,none⟩) n cI, .slice (some ⟨bD,0,none⟩) 20 cD] 31)) bI n cI bD 20 cD D (fun c=>w.heap.size+4≤c∧c≠w1.heap.size)):= (hfs.later (qab _ _)).mono fun c hh=> ⟨by have:=hh.1;omega,by have:=hh.2;omega⟩
   clear hfs
   have xHQ2:=HQ1.out 2 _ rfl
   go_wp2_with fail
   generalize (w1.alloc (.cells #[.slice (some ⟨bI,0,none⟩) n cI, .slice (some ⟨bD,0,none⟩) 20 cD] 31))=W1 at*
   clear xHQ2
   have HS1:Hid (∀W,Below W1.heap.size W1 W→Calls Tryz.prog 63 #[.pointer (some ⟨bI,j*5,none⟩), .string s] W fun e w'=>e= .returned (.tuple #[])∧FsS w' bI n cI bD 20 cD (qaH D j (qaO (qac D j) (idxE (qac D j) s))) (fun c=> (w.heap.size+4≤c∧c≠w1.heap.size)∨W.heap.size≤c)∧Chg (fun c=>c=bI) W w'):=fun W hW=>qeV W bI n cI bD cD D _ j s (HF1.out.later hW) hjn HRS.out.rises HRS.out.six HRS.out.has HRS.out.blk
   have hbo:w1.heap.size<W1.heap.size:=HO1.out.lt
   have hro:w.heap.size+1+1+1<w1.heap.size:=hbo4
   have hne:=HF1.out.ne
   have hnb:bI≠w1.heap.size:=hne.2.1.1.2
   have hb:Below W1.heap.size W1 W1.drew:= (Below.refl _ _).drew
   have hbs:W1.drew.heap.size=W1.heap.size:=rfl
   have HB2:Hid (Below w.heap.size w W1.drew):=HB1.out.trans (hb.mono HB1.out.size)
   have HP2:Hid (Bx W1.drew (w.heap.size+1) [.int .i64 (j:Int), .string s, .bool true, .int .i64 (z:Int)]):=HP1.out.later hb
   have HQ2:Hid (Bx W1.drew (w.heap.size+1+1) [.int .i64 (tj:Int), .string t, .bool false, .int .i64 (tz:Int)]):=HQ1.out.later hb
   have HR2:Hid (qaa W1.drew (w.heap.size+1+1+1) 2 (cel [.slice none 0 0, .slice none 0 0])):=HR1.out.later hb
   have HO2:Hid (Bx W1.drew w1.heap.size [.slice (some ⟨bI,0,none⟩) n cI, .slice (some ⟨bD,0,none⟩) 20 cD]):=HO1.out.later hb
   have HF2:Hid (FsS W1.drew bI n cI bD 20 cD D (fun c=>w.heap.size+4≤c∧c≠w1.heap.size)):=HF1.out.later hb
   clear hb
   have l0:=HO1.out 0 _ rfl
   have l1:=HP1.out 0 _ rfl
   have l2:=HP1.out 1 _ rfl
   go_region_held3 (fun W=>W.cell? ⟨w1.heap.size,0,none⟩=some (.slice (some ⟨bI,0,none⟩) n cI)∧W.cell? ⟨w.heap.size+1,0,none⟩=some (.int .i64 (j:Int))∧W.cell? ⟨w.heap.size+1,1,none⟩=some (.string s)) (go_keep) (first
    | (go_at_call 63;refine (HS1.out _ (Below.refl _ _).drew).mono ?_;rintro e w5 ⟨rfl,hf5,hc5⟩
       have HB3:Hid (Below w.heap.size w w5):=HB2.out.trans (hc5.below HB2.out.size (fun b hb=>by have:=hne.2.1.1.1;omega))
       have HP3:Hid (Bx w5 (w.heap.size+1) [.int .i64 (j:Int), .string s, .bool true, .int .i64 (z:Int)]):=HP2.out.chg hc5 (fun e=>by have:=hne.2.1.1.1;omega)
       have HQ3:Hid (Bx w5 (w.heap.size+1+1) [.int .i64 (tj:Int), .string t, .bool false, .int .i64 (tz:Int)]):=HQ2.out.chg hc5 (fun e=>by have:=hne.2.1.1.1;omega)
       have HR3:Hid (qaa w5 (w.heap.size+1+1+1) 2 (cel [.slice none 0 0, .slice none 0 0])):=HR2.out.block (hc5.block _ HR2.out.lt (fun e=>by have:=hne.2.1.1.1;omega))
       have HO3:Hid (Bx w5 w1.heap.size [.slice (some ⟨bI,0,none⟩) n cI, .slice (some ⟨bD,0,none⟩) 20 cD]):=HO2.out.chg hc5 (fun e=>hnb e.symm)
       have HF3:Hid (FsS w5 bI n cI bD 20 cD (qaH D j (qaO (qac D j) (idxE (qac D j) s))) (fun c=>w.heap.size+4≤c∧c≠w1.heap.size)):=hf5.mono fun c hh=>by
        rcases hh with hh|hh
        · exact hh
        · exact ⟨by omega,by omega⟩
       have k0:=HO3.out 0 _ rfl
       have k1:=HP3.out 0 _ rfl
       have k2:=HP3.out 1 _ rfl
       clear hf5 hc5)
    |fail)
   clear l0 l1 l2
   go_wp2_with fail
   have HS2:Hid (∀W,Below w5.heap.size w5 W→Calls Tryz.prog 64 #[.pointer (some ⟨bI,tj*5,none⟩), .string t, .int .i64 (z:Int)] W fun e w'=>e= .returned (.tuple #[])∧FsS w' bI n cI bD 20 cD (qaH (qaH D j (qaO (qac D j) (idxE (qac D j) s))) tj (qbF (qac (qaH D j (qaO (qac D j) (idxE (qac D j) s))) tj) (plcE (qac (qaH D j (qaO (qac D j) (idxE (qac D j) s))) tj) t) (t,(z:Int)))) (fun c=> (w.heap.size+4≤c∧c≠w1.heap.size)∨W.heap.size≤c)∧Chg (fun c=>c=bI) W w'):=fun W hW=>qiY W bI n cI bD cD _ _ tj t (z:Int) (HF3.out.later hW) htn HRS.out.six2 HMS.out HRS.out.blk2
   clear k0 k1 k2
   have hbo5:w1.heap.size<w5.heap.size:=HO3.out.lt
   have hne5:=HF3.out.ne
   have hb:Below w5.heap.size w5 w5.drew:= (Below.refl _ _).drew
   have hbs5:w5.drew.heap.size=w5.heap.size:=rfl
   have HB4:Hid (Below w.heap.size w w5.drew):=HB3.out.trans (hb.mono HB3.out.size)
   have HP4:Hid (Bx w5.drew (w.heap.size+1) [.int .i64 (j:Int), .string s, .bool true, .int .i64 (z:Int)]):=HP3.out.later hb
   have HQ4:Hid (Bx w5.drew (w.heap.size+1+1) [.int .i64 (tj:Int), .string t, .bool false, .int .i64 (tz:Int)]):=HQ3.out.later hb
   have HR4:Hid (qaa w5.drew (w.heap.size+1+1+1) 2 (cel [.slice none 0 0, .slice none 0 0])):=HR3.out.later hb
   have HO4:Hid (Bx w5.drew w1.heap.size [.slice (some ⟨bI,0,none⟩) n cI, .slice (some ⟨bD,0,none⟩) 20 cD]):=HO3.out.later hb
   have HF4:Hid (FsS w5.drew bI n cI bD 20 cD (qaH D j (qaO (qac D j) (idxE (qac D j) s))) (fun c=>w.heap.size+4≤c∧c≠w1.heap.size)):=HF3.out.later hb
   clear hb
   have l0:=HO3.out 0 _ rfl
   have l1:=HQ3.out 0 _ rfl
   have l2:=HQ3.out 1 _ rfl
   have l3:=HP3.out 3 _ rfl
   go_region_held3 (fun W=>W.cell? ⟨w1.heap.size,0,none⟩=some (.slice (some ⟨bI,0,none⟩) n cI)∧W.cell? ⟨w.heap.size+1+1,0,none⟩=some (.int .i64 (tj:Int))∧W.cell? ⟨w.heap.size+1+1,1,none⟩=some (.string t)∧W.cell? ⟨w.heap.size+1,3,none⟩=some (.int .i64 (z:Int))) (go_keep) (first
    | (go_at_call 64;refine (HS2.out _ (Below.refl _ _).drew).mono ?_;rintro e w7 ⟨rfl,hf7,hc7⟩
       have HB5:Hid (Below w.heap.size w w7):=HB4.out.trans (hc7.below HB4.out.size (fun b hb=>by have:=hne5.2.1.1.1;omega))
       have HP5:Hid (Bx w7 (w.heap.size+1) [.int .i64 (j:Int), .string s, .bool true, .int .i64 (z:Int)]):=HP4.out.chg hc7 (fun e=>by have:=hne5.2.1.1.1;omega)
       have HQ5:Hid (Bx w7 (w.heap.size+1+1) [.int .i64 (tj:Int), .string t, .bool false, .int .i64 (tz:Int)]):=HQ4.out.chg hc7 (fun e=>by have:=hne5.2.1.1.1;omega)
       have HR5:Hid (qaa w7 (w.heap.size+1+1+1) 2 (cel [.slice none 0 0, .slice none 0 0])):=HR4.out.block (hc7.block _ HR4.out.lt (fun e=>by have:=hne5.2.1.1.1;omega))
       have HO5:Hid (Bx w7 w1.heap.size [.slice (some ⟨bI,0,none⟩) n cI, .slice (some ⟨bD,0,none⟩) 20 cD]):=HO4.out.chg hc7 (fun e=>hnb e.symm)
       have HF5:Hid (FsS w7 bI n cI bD 20 cD RES (fun c=>w.heap.size+4≤c)):=by
        unfold Hid
        rw [HRD.out]
        exact hf7.mono fun c hh=>by
         rcases hh with hh|hh
         · exact hh.1
         · omega
       have k0:=HO5.out 0 _ rfl
       have k1:=HQ5.out 0 _ rfl
       have k2:=HQ5.out 1 _ rfl
       have k3:=HP5.out 3 _ rfl
       clear hf7 hc7)
    |fail)
   clear l0 l1 l2 l3 k1 k2 k3
   have o1:=HO5.out 1 _ rfl
   have hrr:=HR5.out
   have t0:w7.cell? ⟨w.heap.size+1+1+1,0,none⟩=some (.slice none 0 0):=hrr.cell (i:=0) (by omega)
   have t1:w7.cell? ⟨w.heap.size+1+1+1,1,none⟩=some (.slice none 0 0):=hrr.cell (i:=1) (by omega)
   have s0:=hrr.frozen 0
   have s1:=hrr.frozen 1
   clear hrr
   go_wp2
   exact bodyPost_ret (v:= .agg #[.slice (some ⟨bI,0,none⟩) n cI, .slice (some ⟨bD,0,none⟩) 20 cD]) (by simp [results,Tryz.results24,go_sem,t0,t1]) rfl (qcS.putM HB5.out HF5.out ⟨by omega,by omega⟩ _ _)
 · skip
   have HW2:Hid (∀W,Below w.heap.size w W→_):=HWN.out rfl
   clear HCL HWN
   have xHX0:=HX0.out 0 _ rfl
   have xHX1:=HX0.out 1 _ rfl
   go_enter Tryz.func24,Tryz.ntmps24
   go_wp2_with fail
   generalize ((((w.alloc (.cells #[.slice a1 n1 c1, .slice a2 n2 c2] 31)).alloc (.cells #[.int .i64 (j:Int), .string s, .bool true, .int .i64 (z:Int)] 49)).alloc (.cells #[.int .i64 (tj:Int), .string t, .bool true, .int .i64 (tz:Int)] 49)).alloc (.cells #[.slice none 0 0, .slice none 0 0] 31))=W0 at*
   clear xHX0 xHX1
   have hlw:w.heap.size+1+1+1<W0.heap.size:=HR0.out.lt
   refine (HCF.out _ HB0.out).mono ?_
   rintro e w1 ⟨q1,m1,cI,q2,m2,cD,rfl,hb,hf5⟩
   obtain ⟨bI,e1,bD,e2,eI,eD,hfs⟩:=FsS.of hf5 (by have:=HN.out;omega) (by have:=HDAT.out;omega)
   simp only [Value.slice.injEq] at eI eD
   obtain ⟨rfl,rfl,rfl⟩:=eI
   obtain ⟨rfl,rfl,rfl⟩:=eD
   rw [HN.out,HDAT.out] at hfs
   rw [HN.out,HDAT.out]
   have hbo4:w.heap.size+1+1+1<w1.heap.size:=by have:=hb.size;omega
   have HS0:Hid (W0.heap.size≤w1.heap.size):=hb.size
   clear hf5 hfs
   have hb':Below W0.heap.size W0 (w1.alloc (.cells #[.slice (some ⟨bI,0,none⟩) n cI, .slice (some ⟨bD,0,none⟩) 20 cD] 31)):=hb.trans ((qab _ _).mono hb.size)
   have HB1:Hid (Below w.heap.size w (w1.alloc (.cells #[.slice (some ⟨bI,0,none⟩) n cI, .slice (some ⟨bD,0,none⟩) 20 cD] 31))):=HB0.out.trans (hb'.mono HB0.out.size)
   have HX1:Hid (Bx (w1.alloc (.cells #[.slice (some ⟨bI,0,none⟩) n cI, .slice (some ⟨bD,0,none⟩) 20 cD] 31)) w.heap.size [.slice a1 n1 c1, .slice a2 n2 c2]):=HX0.out.later hb'
   have HP1:Hid (Bx (w1.alloc (.cells #[.slice (some ⟨bI,0,none⟩) n cI, .slice (some ⟨bD,0,none⟩) 20 cD] 31)) (w.heap.size+1) [.int .i64 (j:Int), .string s, .bool true, .int .i64 (z:Int)]):=HP0.out.later hb'
   have HQ1:Hid (Bx (w1.alloc (.cells #[.slice (some ⟨bI,0,none⟩) n cI, .slice (some ⟨bD,0,none⟩) 20 cD] 31)) (w.heap.size+1+1) [.int .i64 (tj:Int), .string t, .bool true, .int .i64 (tz:Int)]):=HQ0.out.later hb'
   have HR1:Hid (qaa (w1.alloc (.cells #[.slice (some ⟨bI,0,none⟩) n cI, .slice (some ⟨bD,0,none⟩) 20 cD] 31)) (w.heap.size+1+1+1) 2 (cel [.slice none 0 0, .slice none 0 0])):=HR0.out.later hb'
   clear hb hb'
   have HO1:Hid (Bx (w1.alloc (.cells #[.slice (some ⟨bI,0,none⟩) n cI, .slice (some ⟨bD,0,none⟩) 20 cD] 31)) w1.heap.size [.slice (some ⟨bI,0,none⟩) n cI, .slice (some ⟨bD,0,none⟩) 20 cD]):=Bx.new w1 [.slice (some ⟨bI,0,none⟩) n cI, .slice (some ⟨bD,0,none⟩) 20 cD] _
   have HO1r:Hid (qaa (w1.alloc (.cells #[.slice (some ⟨bI,0,none⟩) n cI, .slice (some ⟨bD,0,none⟩) 20 cD] 31)) w1.heap.size 2 (cel [.slice (some ⟨bI,0,none⟩) n cI, .slice (some ⟨bD,0,none⟩) 20 cD])):=qdQ w1 [.slice (some ⟨bI,0,none⟩) n cI, .slice (some ⟨bD,0,none⟩) 20 cD] _
   have xHX0:=HX1.out 0 _ rfl
   have xHX1:=HX1.out 1 _ rfl
   have xHQ0:=HQ1.out 0 _ rfl
   have xHQ1:=HQ1.out 1 _ rfl
   have xHQ2:=HQ1.out 2 _ rfl
   have xHQ3:=HQ1.out 3 _ rfl
   go_wp2_with fail
   generalize (w1.alloc (.cells #[.slice (some ⟨bI,0,none⟩) n cI, .slice (some ⟨bD,0,none⟩) 20 cD] 31))=W1 at*
   clear xHX0 xHX1 xHQ0 xHQ1 xHQ2 xHQ3
   refine (HW2.out _ HB1.out).mono ?_
   rintro e w2 ⟨bI2,cI2,bD2,cD2,rfl,hb,hf⟩
   have HOr:Hid (qaa w2 w1.heap.size 2 (cel [.slice (some ⟨bI,0,none⟩) n cI, .slice (some ⟨bD,0,none⟩) 20 cD])):=HO1r.out.later hb
   have hbw:w1.heap.size<W1.heap.size:=HO1r.out.lt
   have HF2':Hid (FsS w2 bI2 n cI2 bD2 20 cD2 D (fun c=>W1.heap.size≤c)):=hf
   clear hf HO1r
   have HB2:Hid (Below w.heap.size w w2):=HB1.out.trans (hb.mono HB1.out.size)
   have HX2:Hid (Bx w2 w.heap.size [.slice a1 n1 c1, .slice a2 n2 c2]):=HX1.out.later hb
   have HP2:Hid (Bx w2 (w.heap.size+1) [.int .i64 (j:Int), .string s, .bool true, .int .i64 (z:Int)]):=HP1.out.later hb
   have HQ2:Hid (Bx w2 (w.heap.size+1+1) [.int .i64 (tj:Int), .string t, .bool true, .int .i64 (tz:Int)]):=HQ1.out.later hb
   have HR2:Hid (qaa w2 (w.heap.size+1+1+1) 2 (cel [.slice none 0 0, .slice none 0 0])):=HR1.out.later hb
   clear hb
   have hrr:=HOr.out
   have t0:w2.cell? ⟨w1.heap.size,0,none⟩=some (.slice (some ⟨bI,0,none⟩) n cI):=hrr.cell (i:=0) (by omega)
   have t1:w2.cell? ⟨w1.heap.size,1,none⟩=some (.slice (some ⟨bD,0,none⟩) 20 cD):=hrr.cell (i:=1) (by omega)
   have s0:=hrr.frozen 0
   have s1:=hrr.frozen 1
   clear hrr
   go_wp2_with fail
   have hcx:Chg (fun c=>c=w1.heap.size) w2 ((w2.setCell ⟨w1.heap.size,0,none⟩ (.slice (some ⟨bI2,0,none⟩) n cI2)).setCell ⟨w1.heap.size,1,none⟩ (.slice (some ⟨bD2,0,none⟩) 20 cD2)):=Chg.set (F:=fun c=>c=w1.heap.size) (Chg.set (F:=fun c=>c=w1.heap.size) (Chg.refl _ w2) rfl 0 _) rfl 1 _
   have HB3:Hid (Below w.heap.size w ((w2.setCell ⟨w1.heap.size,0,none⟩ (.slice (some ⟨bI2,0,none⟩) n cI2)).setCell ⟨w1.heap.size,1,none⟩ (.slice (some ⟨bD2,0,none⟩) 20 cD2))):=HB2.out.trans (hcx.below HB2.out.size (fun b hb=>by omega))
   have HX3:Hid (Bx ((w2.setCell ⟨w1.heap.size,0,none⟩ (.slice (some ⟨bI2,0,none⟩) n cI2)).setCell ⟨w1.heap.size,1,none⟩ (.slice (some ⟨bD2,0,none⟩) 20 cD2)) w.heap.size [.slice a1 n1 c1, .slice a2 n2 c2]):=HX2.out.chg hcx (fun e=>by omega)
   have HP3:Hid (Bx ((w2.setCell ⟨w1.heap.size,0,none⟩ (.slice (some ⟨bI2,0,none⟩) n cI2)).setCell ⟨w1.heap.size,1,none⟩ (.slice (some ⟨bD2,0,none⟩) 20 cD2)) (w.heap.size+1) [.int .i64 (j:Int), .string s, .bool true, .int .i64 (z:Int)]):=HP2.out.chg hcx (fun e=>by omega)
   have HQ3:Hid (Bx ((w2.setCell ⟨w1.heap.size,0,none⟩ (.slice (some ⟨bI2,0,none⟩) n cI2)).setCell ⟨w1.heap.size,1,none⟩ (.slice (some ⟨bD2,0,none⟩) 20 cD2)) (w.heap.size+1+1) [.int .i64 (tj:Int), .string t, .bool true, .int .i64 (tz:Int)]):=HQ2.out.chg hcx (fun e=>by omega)
   have HR3:Hid (qaa ((w2.setCell ⟨w1.heap.size,0,none⟩ (.slice (some ⟨bI2,0,none⟩) n cI2)).setCell ⟨w1.heap.size,1,none⟩ (.slice (some ⟨bD2,0,none⟩) 20 cD2)) (w.heap.size+1+1+1) 2 (cel [.slice none 0 0, .slice none 0 0])):=HR2.out.block (hcx.block _ HR2.out.lt (fun e=>by omega))
   have HO3:Hid (Bx ((w2.setCell ⟨w1.heap.size,0,none⟩ (.slice (some ⟨bI2,0,none⟩) n cI2)).setCell ⟨w1.heap.size,1,none⟩ (.slice (some ⟨bD2,0,none⟩) 20 cD2)) w1.heap.size [.slice (some ⟨bI2,0,none⟩) n cI2, .slice (some ⟨bD2,0,none⟩) 20 cD2]):=qoN HOr.out _ _
   have HF3:Hid (FsS ((w2.setCell ⟨w1.heap.size,0,none⟩ (.slice (some ⟨bI2,0,none⟩) n cI2)).setCell ⟨w1.heap.size,1,none⟩ (.slice (some ⟨bD2,0,none⟩) 20 cD2)) bI2 n cI2 bD2 20 cD2 D (fun c=>w.heap.size+4≤c∧c≠w1.heap.size)):= (HF2'.out.chg hcx (fun b hb e=>by omega)).mono fun c hh=> ⟨by omega,by omega⟩
   clear t0 t1 s0 s1 hcx HF2' HOr
   generalize ((w2.setCell ⟨w1.heap.size,0,none⟩ (.slice (some ⟨bI2,0,none⟩) n cI2)).setCell ⟨w1.heap.size,1,none⟩ (.slice (some ⟨bD2,0,none⟩) 20 cD2))=W3 at*
   have HS1:Hid (∀W,Below W3.heap.size W3 W→Calls Tryz.prog 63 #[.pointer (some ⟨bI2,j*5,none⟩), .string s] W fun e w'=>e= .returned (.tuple #[])∧FsS w' bI2 n cI2 bD2 20 cD2 (qaH D j (qaO (qac D j) (idxE (qac D j) s))) (fun c=> (w.heap.size+4≤c∧c≠w1.heap.size)∨W.heap.size≤c)∧Chg (fun c=>c=bI2) W w'):=fun W hW=>qeV W bI2 n cI2 bD2 cD2 D _ j s (HF3.out.later hW) hjn HRS.out.rises HRS.out.six HRS.out.has HRS.out.blk
   have hbo:w1.heap.size<W3.heap.size:=HO3.out.lt
   have hro:w.heap.size+1+1+1<w1.heap.size:=hbo4
   have hne:=HF3.out.ne
   have hnb:bI2≠w1.heap.size:=hne.2.1.1.2
   have hb:Below W3.heap.size W3 W3.drew:= (Below.refl _ _).drew
   have hbs:W3.drew.heap.size=W3.heap.size:=rfl
   have HB4:Hid (Below w.heap.size w W3.drew):=HB3.out.trans (hb.mono HB3.out.size)
   have HP4:Hid (Bx W3.drew (w.heap.size+1) [.int .i64 (j:Int), .string s, .bool true, .int .i64 (z:Int)]):=HP3.out.later hb
   have HQ4:Hid (Bx W3.drew (w.heap.size+1+1) [.int .i64 (tj:Int), .string t, .bool true, .int .i64 (tz:Int)]):=HQ3.out.later hb
   have HR4:Hid (qaa W3.drew (w.heap.size+1+1+1) 2 (cel [.slice none 0 0, .slice none 0 0])):=HR3.out.later hb
   have HO4:Hid (Bx W3.drew w1.heap.size [.slice (some ⟨bI2,0,none⟩) n cI2, .slice (some ⟨bD2,0,none⟩) 20 cD2]):=HO3.out.later hb
   have HF4:Hid (FsS W3.drew bI2 n cI2 bD2 20 cD2 D (fun c=>w.heap.size+4≤c∧c≠w1.heap.size)):=HF3.out.later hb
   clear hb
   have l0:=HO3.out 0 _ rfl
   have l1:=HP3.out 0 _ rfl
   have l2:=HP3.out 1 _ rfl
   go_region_held3 (fun W=>W.cell? ⟨w1.heap.size,0,none⟩=some (.slice (some ⟨bI2,0,none⟩) n cI2)∧W.cell? ⟨w.heap.size+1,0,none⟩=some (.int .i64 (j:Int))∧W.cell? ⟨w.heap.size+1,1,none⟩=some (.string s)) (go_keep) (first
    | (go_at_call 63;refine (HS1.out _ (Below.refl _ _).drew).mono ?_;rintro e w5 ⟨rfl,hf5,hc5⟩
       have HB5:Hid (Below w.heap.size w w5):=HB4.out.trans (hc5.below HB4.out.size (fun b hb=>by have:=hne.2.1.1.1;omega))
       have HP5:Hid (Bx w5 (w.heap.size+1) [.int .i64 (j:Int), .string s, .bool true, .int .i64 (z:Int)]):=HP4.out.chg hc5 (fun e=>by have:=hne.2.1.1.1;omega)
       have HQ5:Hid (Bx w5 (w.heap.size+1+1) [.int .i64 (tj:Int), .string t, .bool true, .int .i64 (tz:Int)]):=HQ4.out.chg hc5 (fun e=>by have:=hne.2.1.1.1;omega)
       have HR5:Hid (qaa w5 (w.heap.size+1+1+1) 2 (cel [.slice none 0 0, .slice none 0 0])):=HR4.out.block (hc5.block _ HR4.out.lt (fun e=>by have:=hne.2.1.1.1;omega))
       have HO5:Hid (Bx w5 w1.heap.size [.slice (some ⟨bI2,0,none⟩) n cI2, .slice (some ⟨bD2,0,none⟩) 20 cD2]):=HO4.out.chg hc5 (fun e=>hnb e.symm)
       have HF5:Hid (FsS w5 bI2 n cI2 bD2 20 cD2 (qaH D j (qaO (qac D j) (idxE (qac D j) s))) (fun c=>w.heap.size+4≤c∧c≠w1.heap.size)):=hf5.mono fun c hh=>by
        rcases hh with hh|hh
        · exact hh
        · exact ⟨by omega,by omega⟩
       have k0:=HO5.out 0 _ rfl
       have k1:=HP5.out 0 _ rfl
       have k2:=HP5.out 1 _ rfl
       clear hf5 hc5)
    |fail)
   clear l0 l1 l2
   go_wp2_with fail
   have HS2:Hid (∀W,Below w5.heap.size w5 W→Calls Tryz.prog 64 #[.pointer (some ⟨bI2,tj*5,none⟩), .string t, .int .i64 (z:Int)] W fun e w'=>e= .returned (.tuple #[])∧FsS w' bI2 n cI2 bD2 20 cD2 (qaH (qaH D j (qaO (qac D j) (idxE (qac D j) s))) tj (qbF (qac (qaH D j (qaO (qac D j) (idxE (qac D j) s))) tj) (plcE (qac (qaH D j (qaO (qac D j) (idxE (qac D j) s))) tj) t) (t,(z:Int)))) (fun c=> (w.heap.size+4≤c∧c≠w1.heap.size)∨W.heap.size≤c)∧Chg (fun c=>c=bI2) W w'):=fun W hW=>qiY W bI2 n cI2 bD2 cD2 _ _ tj t (z:Int) (HF5.out.later hW) htn HRS.out.six2 HMS.out HRS.out.blk2
   clear k0 k1 k2
   have hbo5:w1.heap.size<w5.heap.size:=HO5.out.lt
   have hne5:=HF5.out.ne
   have hb:Below w5.heap.size w5 w5.drew:= (Below.refl _ _).drew
   have hbs5:w5.drew.heap.size=w5.heap.size:=rfl
   have HB6:Hid (Below w.heap.size w w5.drew):=HB5.out.trans (hb.mono HB5.out.size)
   have HP6:Hid (Bx w5.drew (w.heap.size+1) [.int .i64 (j:Int), .string s, .bool true, .int .i64 (z:Int)]):=HP5.out.later hb
   have HQ6:Hid (Bx w5.drew (w.heap.size+1+1) [.int .i64 (tj:Int), .string t, .bool true, .int .i64 (tz:Int)]):=HQ5.out.later hb
   have HR6:Hid (qaa w5.drew (w.heap.size+1+1+1) 2 (cel [.slice none 0 0, .slice none 0 0])):=HR5.out.later hb
   have HO6:Hid (Bx w5.drew w1.heap.size [.slice (some ⟨bI2,0,none⟩) n cI2, .slice (some ⟨bD2,0,none⟩) 20 cD2]):=HO5.out.later hb
   have HF6:Hid (FsS w5.drew bI2 n cI2 bD2 20 cD2 (qaH D j (qaO (qac D j) (idxE (qac D j) s))) (fun c=>w.heap.size+4≤c∧c≠w1.heap.size)):=HF5.out.later hb
   clear hb
   have l0:=HO5.out 0 _ rfl
   have l1:=HQ5.out 0 _ rfl
   have l2:=HQ5.out 1 _ rfl
   have l3:=HP5.out 3 _ rfl
   go_region_held3 (fun W=>W.cell? ⟨w1.heap.size,0,none⟩=some (.slice (some ⟨bI2,0,none⟩) n cI2)∧W.cell? ⟨w.heap.size+1+1,0,none⟩=some (.int .i64 (tj:Int))∧W.cell? ⟨w.heap.size+1+1,1,none⟩=some (.string t)∧W.cell? ⟨w.heap.size+1,3,none⟩=some (.int .i64 (z:Int))) (go_keep) (first
    | (go_at_call 64;refine (HS2.out _ (Below.refl _ _).drew).mono ?_;rintro e w7 ⟨rfl,hf7,hc7⟩
       have HB7:Hid (Below w.heap.size w w7):=HB6.out.trans (hc7.below HB6.out.size (fun b hb=>by have:=hne5.2.1.1.1;omega))
       have HP7:Hid (Bx w7 (w.heap.size+1) [.int .i64 (j:Int), .string s, .bool true, .int .i64 (z:Int)]):=HP6.out.chg hc7 (fun e=>by have:=hne5.2.1.1.1;omega)
       have HQ7:Hid (Bx w7 (w.heap.size+1+1) [.int .i64 (tj:Int), .string t, .bool true, .int .i64 (tz:Int)]):=HQ6.out.chg hc7 (fun e=>by have:=hne5.2.1.1.1;omega)
       have HR7:Hid (qaa w7 (w.heap.size+1+1+1) 2 (cel [.slice none 0 0, .slice none 0 0])):=HR6.out.block (hc7.block _ HR6.out.lt (fun e=>by have:=hne5.2.1.1.1;omega))
       have HO7:Hid (Bx w7 w1.heap.size [.slice (some ⟨bI2,0,none⟩) n cI2, .slice (some ⟨bD2,0,none⟩) 20 cD2]):=HO6.out.chg hc7 (fun e=>hnb e.symm)
       have HF7:Hid (FsS w7 bI2 n cI2 bD2 20 cD2 RES (fun c=>w.heap.size+4≤c)):=by
        unfold Hid
        rw [HRD.out]
        exact hf7.mono fun c hh=>by
         rcases hh with hh|hh
         · exact hh.1
         · omega
       have k0:=HO7.out 0 _ rfl
       have k1:=HQ7.out 0 _ rfl
       have k2:=HQ7.out 1 _ rfl
       have k3:=HP7.out 3 _ rfl
       clear hf7 hc7)
    |fail)
   clear l0 l1 l2 l3 k1 k2 k3
   have o1:=HO7.out 1 _ rfl
   have hrr:=HR7.out
   have t0:w7.cell? ⟨w.heap.size+1+1+1,0,none⟩=some (.slice none 0 0):=hrr.cell (i:=0) (by omega)
   have t1:w7.cell? ⟨w.heap.size+1+1+1,1,none⟩=some (.slice none 0 0):=hrr.cell (i:=1) (by omega)
   have s0:=hrr.frozen 0
   have s1:=hrr.frozen 1
   clear hrr
   go_wp2
   exact bodyPost_ret (v:= .agg #[.slice (some ⟨bI2,0,none⟩) n cI2, .slice (some ⟨bD2,0,none⟩) 20 cD2]) (by simp [results,Tryz.results24,go_sem,t0,t1]) rfl (qcS.putM HB7.out HF7.out ⟨by omega,by omega⟩ _ _)
end Go.Proofs.YthnmlipnoajmkaaGreatDoor
