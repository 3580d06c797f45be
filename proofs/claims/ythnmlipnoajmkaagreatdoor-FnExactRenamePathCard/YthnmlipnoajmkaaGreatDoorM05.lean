/- The walks of the laws' functions over lists of inodes:how great they are,copied,held against each other. Lists of inodes are marked. File systems:a list of inodes and a list of lists of bytes;the walks of the laws' functions over them. A file system is copied. File systems are marked;answers that hold bytes. -/
import Derived.Test.YthnmlipnoajmkaaGreatDoorM04
import Derived.Test.YthnmlipnoajmkaaGreatDoorM01
namespace Go.Proofs.YthnmlipnoajmkaaGreatDoor
open Go.RowKit
set_option maxRecDepth 100000

set_option maxHeartbeats 400000 in
theorem qjE (w:World) (a:Option Addr) (n cap:Nat) (left:Int) (h0:0≤left) (h1:left≤1048576) (hn:n≤maxLen) (h:left< (n:Int)):
 Calls Tryz.prog 13 #[.slice a n cap, .int .i64 left] w fun e w'=>e= .returned (.int .i64 (-1))∧w'=w:=by
 unfold maxLen at hn
 have h':left- (n:Int)<0:=by omega
 go_enter Tryz.func13,Tryz.ntmps13
 go_wp2
 go_ret
 exact ⟨rfl,rfl⟩

set_option maxHeartbeats 1600000 in
theorem qjF (w:World) (a:Option Addr) (cap n:Nat) (left:Int) (ds:List ID) (hzn:ds.length=n) (h0:0≤left) (h1:left≤1048576) (h2: ¬left< (n:Int)) (hc:AtI w a n ds):
 Calls Tryz.prog 13 #[.slice a n cap, .int .i64 left] w fun e w'=>e= .returned (.int .i64 (szf left (n+ (isz ds).sum)))∧Below w.heap.size w w':=by
 have HN:Hid (ds.length=n):=hzn
 have h2': ¬left- (n:Int)<0:=by omega
 have HC:Hid (AtI w a n ds):=hc
 clear hzn hc
 go_enter Tryz.func13,Tryz.ntmps13
 go_wp2
 go_loopw [1,5] (fun q i wr=> ∃j:Nat,j≤n∧i= .int .i64 j∧q= .int .i64 (left- (n:Int)- (upto (isz ds) j:Nat))∧0≤left- (n:Int)- (upto (isz ds) j:Nat)∧Below w.heap.size w wr) (fun _ i _=>n- (intOf i).toNat)
 case atStart=>exact ⟨0,Nat.zero_le _,rfl,by simp [qa4],by simp [qa4];omega,Below.refl _ _⟩
 case round=>
  obtain ⟨j,hj,rfl,rfl,hq,hbl⟩:=hrel
  by_cases hlt:j<n
  · obtain ⟨b,o,rfl,hI⟩:=HC.out j hlt
    obtain ⟨aB,cB,aE,cE,c0,c1,c2,c3,c4,hR⟩:=hI.later hbl
    have hs:=qaU (isz ds) j (by rw [qeM,HN.out];exact hlt)
    rw [qmm] at hs
    have hle:=qbJ (isz ds) (j+1)
    have HS:Hid (upto (isz ds) (j+1)=upto (isz ds) j+sizeIno (ds[j]?.getD id0)):=hs
    clear hs hI HC
    generalize upto (isz ds) j=U at*
    generalize ds[j]?.getD id0=d at*
    have HI:Hid (qfs wr _ _ _ _ _ d):=hR
    have HBL:Hid (Below w.heap.size w wr):=hbl
    clear hR hbl
    by_cases hm:left- (n:Int)- (U:Int)< ((sizeIno d:Nat):Int)
    · have HM:Hid (szf left (n+ (isz ds).sum)= -1):=qbQ (by have:=HS.out;omega)
      have HR':Hid (szf (left- (n:Int)- (U:Int)) (sizeIno d)= -1):=qbQ hm
      go_wp2_with fail
      refine (qkx _ _ _ _ _ _ _ _ _ _ d HI.out _ hq (by omega)).mono ?_
      rw [HR'.out]
      rintro e w' ⟨rfl,hb⟩
      have HB:Hid (Below w.heap.size w w'):=HBL.out.trans (hb.mono HBL.out.size)
      clear hb
      go_wp2
      go_ret
      exact ⟨qad HM.out.symm,HB.out⟩
    · have HR':Hid (szf (left- (n:Int)- (U:Int)) (sizeIno d)=left- (n:Int)- (U:Int)- ((sizeIno d:Nat):Int)):=qbY hm
      have hpos: ¬ (left- (n:Int)- (U:Int)- ((sizeIno d:Nat):Int)<0):=by omega
      go_wp2_with fail
      refine (qkx _ _ _ _ _ _ _ _ _ _ d HI.out _ hq (by omega)).mono ?_
      rw [HR'.out]
      rintro e w' ⟨rfl,hb⟩
      have HB:Hid (Below w.heap.size w w'):=HBL.out.trans (hb.mono HBL.out.size)
      clear hb
      go_wp2
      go_roundw
      case rel=>exact ⟨j+1,by omega,by go_num,by rw [HS.out];go_num,by rw [HS.out];omega,HB.out⟩
      case measure=>simp [intOf];omega
  · go_wp2
    go_ret
    have e:j=n:=by omega
    subst e
    have ha:=qcT (isz ds)
    rw [qeM,HN.out] at ha
    refine ⟨qad ?_,hbl⟩
    rw [ha] at hq ⊢
    rw [qbY (by omega)]
    omega

theorem qjG (w:World) (a:Option Addr) (n c:Nat) (d:List ID) (h:qdJ w (.slice a n c) d) (left:Int) (l0:0≤left) (l1:left≤1048576):
 Calls Tryz.prog 13 #[.slice a n c, .int .i64 left] w fun e w'=>e= .returned (.int .i64 (szf left (qag d)))∧Below w.heap.size w w':=by
 obtain ⟨a',cap,e,hm,hc⟩:=h.open'
 simp only [Value.slice.injEq] at e
 obtain ⟨rfl,rfl,rfl⟩:=e
 by_cases h:left< (d.length:Int)
 · refine (qjE w _ d.length _ left l0 l1 hm.1 h).mono fun e w' ⟨he,hw⟩=> ⟨he.trans (qad ?_),hw▸Below.refl _ _⟩
   rw [qbQ (by unfold qag;omega)]
 · exact qjF w _ _ d.length left d rfl l0 l1 h hc

theorem qn2 (w:World) (aB:Option Addr) (nB cB:Nat) (aE:Option Addr) (nE cE:Nat) (d:ID) (h:qfs w (.int .i64 d.1) (.int .i64 d.2.1) (.int .i64 d.2.2.1) (.slice aB nB cB) (.slice aE nE cE) d) (hs:sizeIno d≤1048576):
 Calls Tryz.prog 50 #[.agg #[.int .i64 d.1, .int .i64 d.2.1, .int .i64 d.2.2.1, .slice aB nB cB, .slice aE nE cE]] w fun e w'=> ∃dB eB fB dE eE fE,e= .returned (.agg #[.int .i64 d.1, .int .i64 d.2.1, .int .i64 d.2.2.1, .slice dB eB fB, .slice dE eE fE])∧Below w.heap.size w w'∧qdo w' (.int .i64 d.1) (.int .i64 d.2.1) (.int .i64 d.2.2.1) (.slice dB eB fB) (.slice dE eE fE) d (qaj w w'):=by
 refine (qn1 w _ _ _ aB nB cB aE nE cE d h hs).mono ?_
 rintro e w' ⟨y0,y1,y2,dB,eB,fB,dE,eE,fE,rfl,hb,⟨⟨e0,e1,e2,hcap⟩,hu⟩⟩
 simp only [Value.int.injEq,true_and] at e0 e1 e2
 subst e0 e1 e2
 exact ⟨dB,eB,fB,dE,eE,fE,rfl,hb,⟨rfl,rfl,rfl,hcap⟩,hu⟩

theorem Tryz.infoIno: (Tryz.prog.info? 74).map (fun i=> (i.zero,i.size,i.bytes))=some (some (.agg #[.int .i64 0, .int .i64 0, .int .i64 0, .slice none 0 0, .slice none 0 0]),5,72):=by kernel_rfl

set_option maxHeartbeats 3200000 in
theorem qjH (w:World) (a:Option Addr) (cap n:Nat) (ds:List ID) (hn:n≤1048576) (hz: ∀k:Nat,sizeIno (ds[k]?.getD id0)≤1048576) (hc:AtI w a n ds):
 Calls Tryz.prog 17 #[.slice a n cap] w fun e w'=>e= .returned (.slice (some ⟨w.heap.size,0,none⟩) n n)∧Below w.heap.size w w'∧
  ∃u s,qaa w' w.heap.size (n*5) (qao ds u)∧BuiltI w' (w.heap.size+1) n u (fun i=>ds[i]?.getD id0) s:=by
 have hmk:=fun w=>qeh (P:=Tryz.prog) 29 74 (.int .i64 0) (.int .i64 0) (.int .i64 0) (.slice none 0 0) (.slice none 0 0) 72 Tryz.underlying29 Tryz.infoIno rfl .i64 .i64 n (by omega) (by omega) w
 have HZ:Hid (∀k:Nat,sizeIno (ds[k]?.getD id0)≤1048576):=hz
 have HC:Hid (AtI w a n ds):=hc
 clear hz hc
 go_enter Tryz.func17,Tryz.ntmps17
 go_wp2
 clear hmk
 go_loopw [4] (fun i wr=> ∃j:Nat,j≤n∧i= .int .i64 j∧Below w.heap.size w wr∧ ∃u s,qaa wr w.heap.size (n*5) (qgj ds u j)∧BuiltI wr (w.heap.size+1) j u (fun i=>ds[i]?.getD id0) s) (fun i _=>n- (intOf i).toNat)
 case atStart=>exact ⟨0,Nat.zero_le _,rfl,qab _ _,fun _=> (.slice none 0 0, .slice none 0 0),_,(qaa.madeFive w n 74).congr fun i _=>by simp [qgj],BuiltI.nil _ _ (by simp)⟩
 case round=>
  obtain ⟨j,hj,rfl,hbl,u,s,hrow,hbt⟩:=hrel
  by_cases hlt:j<n
  · obtain ⟨b,o,rfl,hI⟩:=HC.out j hlt
    obtain ⟨aB,cB,aE,cE,c0,c1,c2,c3,c4,hR⟩:=hI.later hbl
    have HI:Hid (qfs wr _ _ _ _ _ (ds[j]?.getD id0)):=hR
    have HBL:Hid (Below w.heap.size w wr):=hbl
    have HROW:Hid (qaa wr w.heap.size (n*5) (qgj ds u j)):=hrow
    have HBT:Hid (BuiltI wr (w.heap.size+1) j u (fun i=>ds[i]?.getD id0) s):=hbt
    clear hI hR hbl hrow hbt HC
    go_wp2_with fail
    refine (qn2 _ _ _ _ _ _ _ _ HI.out (HZ.out j)).mono ?_
    rintro e w1 ⟨dB,eB,fB,dE,eE,fE,rfl,hb1,ho1⟩
    have HB1:Hid (Below wr.heap.size wr w1):=hb1
    have HO1:Hid (qdo w1 _ _ _ (.slice dB eB fB) (.slice dE eE fE) (ds[j]?.getD id0) (qaj wr w1)):=ho1
    have HROW1:Hid (qaa w1 w.heap.size (n*5) (qgj ds u j)):=HROW.out.block (hb1.block _ HROW.out.lt)
    have zz: ∀q,q<5→qgj ds u j (j*5+q)=qmo q:=fun q hq=>by unfold qgj qmo;rw [if_neg (by omega),show (j*5+q) % 5=q % 5 by omega]
    have d0:w1.cell? ⟨w.heap.size,j*5,none⟩=some (.int .i64 0):=by rw [HROW1.out.cell (by omega)];exact congrArg some (zz 0 (by omega))
    have d1:w1.cell? ⟨w.heap.size,j*5+1,none⟩=some (.int .i64 0):=by rw [HROW1.out.cell (by omega),zz 1 (by omega)];rfl
    have d2:w1.cell? ⟨w.heap.size,j*5+2,none⟩=some (.int .i64 0):=by rw [HROW1.out.cell (by omega),zz 2 (by omega)];rfl
    have d3:w1.cell? ⟨w.heap.size,j*5+3,none⟩=some (.slice none 0 0):=by rw [HROW1.out.cell (by omega),zz 3 (by omega)];rfl
    have d4:w1.cell? ⟨w.heap.size,j*5+4,none⟩=some (.slice none 0 0):=by rw [HROW1.out.cell (by omega),zz 4 (by omega)];rfl
    have f0:=HROW1.out.frozen (j*5)
    have f1:=HROW1.out.frozen (j*5+1)
    have f2:=HROW1.out.frozen (j*5+2)
    have f3:=HROW1.out.frozen (j*5+3)
    have f4:=HROW1.out.frozen (j*5+4)
    clear hb1 ho1 zz c0 c1 c2 c3 c4
    go_wp2
    go_roundw
    case rel=>
     refine ⟨j+1,by omega,by go_num,(((((HBL.out.trans (HB1.out.mono HBL.out.size)).setCell (Nat.le_refl _) _).setCell (Nat.le_refl _) _).setCell (Nat.le_refl _) _).setCell (Nat.le_refl _) _).setCell (Nat.le_refl _) _,_,_,(((((HROW1.out.set (j*5) _).set (j*5+1) _).set (j*5+2) _).set (j*5+3) _).set (j*5+4) _).congr fun c _=>qlh ds u j c _ _,(((((HBT.out.next HB1.out HO1.out).store (by simp) _).store (by simp) _).store (by simp) _).store (by simp) _).store (by simp) _⟩
    case measure=>simp [intOf];omega
  · go_wp2
    go_ret
    have e:j=n:=by omega
    subst e
    exact ⟨rfl,hbl,u,s,hrow.congr fun i hi=>by simp [qgj,hi],hbt⟩

theorem qpq {w:World} {v:Value} {ds:List ID} (h:qdJ w v ds) (hn:qag ds≤1048576):
 Calls Tryz.prog 17 #[v] w fun e w'=> ∃a n c,e= .returned (.slice a n c)∧Below w.heap.size w w'∧qbk w' (.slice a n c) ds (qaj w w'):=by
 obtain ⟨a,cap,rfl,hm,hc⟩:=h.open'
 unfold qag at hn
 refine (qjH w a cap ds.length ds (by omega) (fun k=>by have:=qeg ds k;omega) hc).mono fun e w' ⟨he,hb,u,s,hr,hbt⟩=> ⟨_,_,_,he,hb, ?_⟩
 exact BuiltI.inos ds hbt rfl ⟨hm.1,Nat.le_refl _⟩ (Nat.lt_succ_self _) hr _ ⟨Nat.le_refl _,hr.lt⟩ (fun c h1 h2=> ⟨by omega,h2⟩)

set_option maxHeartbeats 3200000 in
theorem qjI (w:World) (a a':Option Addr) (cap cap' n:Nat) (ds:List ID) (hn:n≤maxLen) (hc:AtI w a n ds) (hc':AtI w a' n ds):
 Calls Tryz.prog 27 #[.slice a n cap, .slice a' n cap'] w fun e w'=>e= .returned (.bool true)∧Below w.heap.size w w':=by
 unfold maxLen at hn
 have HC:Hid (AtI w a n ds):=hc
 have HC':Hid (AtI w a' n ds):=hc'
 clear hc hc'
 go_enter Tryz.func27,Tryz.ntmps27
 go_wp2
 go_loopw [5] (fun i wr=> ∃k:Nat,k≤n∧i= .int .i64 k∧Below w.heap.size w wr) (fun i _=>n- (intOf i).toNat)
 case atStart=>exact ⟨0,Nat.zero_le _,rfl,Below.refl _ _⟩
 case round=>
  obtain ⟨j,hj,rfl,hbl⟩:=hrel
  by_cases hlt:j<n
  · obtain ⟨b,o,rfl,hI⟩:=HC.out j hlt
    obtain ⟨b',o',rfl,hI'⟩:=HC'.out j hlt
    obtain ⟨aB,cB,aE,cE,c0,c1,c2,c3,c4,hR⟩:=hI.later hbl
    obtain ⟨aB',cB',aE',cE',d0,d1,d2,d3,d4,hR'⟩:=hI'.later hbl
    clear hI hI' HC HC'
    have HI:Hid (qfs wr _ _ _ _ _ (ds[j]?.getD id0)):=hR
    have HI':Hid (qfs wr _ _ _ _ _ (ds[j]?.getD id0)):=hR'
    have HBL:Hid (Below w.heap.size w wr):=hbl
    clear hbl hR hR'
    generalize ds[j]?.getD id0=d at*
    have HEQ:Hid (∀W,Below wr.heap.size wr W→Calls Tryz.prog 65 #[.agg #[.int .i64 d.1, .int .i64 d.2.1, .int .i64 d.2.2.1, .slice aB d.2.2.2.1.length cB, .slice aE d.2.2.2.2.length cE], .agg #[.int .i64 d.1, .int .i64 d.2.1, .int .i64 d.2.2.1, .slice aB' d.2.2.2.1.length cB', .slice aE' d.2.2.2.2.length cE']] W fun e w'=>e= .returned (.bool true)∧Below W.heap.size W w'):=fun W hW=>qn0 W _ _ _ _ _ _ _ _ _ _ d (HI.out.later hW) (HI'.out.later hW)
    clear HI HI'
    generalize d.2.2.2.1.length=m1 at*
    generalize d.2.2.2.2.length=m2 at*
    generalize d.1=z0 at*
    generalize d.2.1=z1 at*
    generalize d.2.2.1=z2 at*
    go_wp2_with fail
    go_region_with ((go_at_call 65;refine (HEQ.out _ (Below.refl _ _).drew).mono ?_;rintro e w' ⟨rfl,hb2⟩))
    all_goals
     go_wp2
     go_roundw
     case rel=>exact ⟨j+1,by omega,by go_num,(HBL.out.drew).trans (hb2.mono HBL.out.size)⟩
     case measure=>simp [intOf];omega
  · go_wp2
    go_ret
    exact ⟨rfl,hbl⟩
theorem qpr {w:World} {v v':Value} {ds:List ID} (h:qdJ w v ds) (h':qdJ w v' ds):Calls Tryz.prog 27 #[v,v'] w fun e w'=>e= .returned (.bool true)∧Below w.heap.size w w':=by
 obtain ⟨a,cap,rfl,hm,hc⟩:=h.open'
 obtain ⟨a',cap',rfl,_,hc'⟩:=h'.open'
 exact qjI w a a' cap cap' ds.length ds hm.1 hc hc'
end Go.Proofs.YthnmlipnoajmkaaGreatDoor

namespace Go.Proofs.YthnmlipnoajmkaaGreatDoor
open Go.RowKit
set_option maxRecDepth 100000

def qcI (k:Nat) (ds:List ID) (j:Nat):Nat:=k+upto (isp ds) j
structure HalfI (w:World) (b n j:Nat) (ds:List ID) (u:Nat→Value×Value) (F1 G1:Nat→Nat→Prop):Prop where
 row: ∃f,qaa w b (n*5) f∧ (∀i,i<n→f (i*5+3)= (u i).1∧f (i*5+4)= (u i).2)∧ ∀i,i<n→ ∀q,q<3→ ∃z,f (i*5+q)= .int .i64 z
 ints: ∀i,j≤i→i<n→qak w (u i).1 (ds[i]?.getD id0).2.2.2.1 (F1 i)
 ents: ∀i,j≤i→i<n→qbc w (u i).2 (ds[i]?.getD id0).2.2.2.2 (G1 i)
theorem HalfI.row_set {w:World} {b n j q:Nat} {ds:List ID} {u:Nat→Value×Value} {F1 G1:Nat→Nat→Prop} (h:HalfI w b n j ds u F1 G1) (i:Nat) (hq:q<3) (z:Int) (hF: ∀i,¬F1 i b) (hG: ∀i,¬G1 i b):HalfI (w.setCell ⟨b,i*5+q,none⟩ (.int .i64 z)) b n j ds u F1 G1:=by
 obtain ⟨f,hr,h1,h2⟩:=h.row
 refine ⟨⟨_,hr.set (i*5+q) (.int .i64 z),fun k hk=> ?_,fun k hk p hp=> ?_⟩,fun k hj hk=> (h.ints k hj hk).keep fun c hc _=>Below.heap_setCell _ _ _ _ (fun e=>hF k (by have e':c=b:=e;rwa [e'] at hc)),fun k hj hk=> (h.ents k hj hk).keep fun c hc _=>Below.heap_setCell _ _ _ _ (fun e=>hG k (by have e':c=b:=e;rwa [e'] at hc))⟩
 · rw [if_neg (by omega),if_neg (by omega)]
   exact h1 k hk
 · by_cases e:k*5+p=i*5+q
   · exact ⟨z,by rw [if_pos e]⟩
   · rw [if_neg e];exact h2 k hk p hp

set_option maxHeartbeats 6400000 in
theorem qhf (w:World) (b cap n k:Nat) (F:Nat→Prop) (ds:List ID) (u:Nat→Value×Value) (F1 G1:Nat→Nat→Prop) (hF:F b) (hFF: ∀i c,F1 i c→F c∧c≠b) (hGF: ∀i c,G1 i c→F c∧c≠b) (hFG: ∀i j c,F1 i c→ ¬G1 j c) (hFd: ∀i j c,i≠j→F1 i c→ ¬F1 j c) (hGd: ∀i j c,i≠j→G1 i c→ ¬G1 j c)
 (hn:ds.length=n) (hk0:1≤k) (hk:k+spanInos ds≤4294967296) (hn2:n≤9223372036854775807) (h0:HalfI w b n 0 ds u F1 G1):
 Calls Tryz.prog 29 #[.slice (some ⟨b,0,none⟩) n cap, .int .i64 (k:Int)] w fun e w'=>e= .returned (.int .i64 ((k+spanInos ds:Nat):Int))∧Chg F w w':=by
 have H0:Hid (HalfI w b n 0 ds u F1 G1):=h0
 have HF:Hid (F b):=hF
 have HFF:Hid (∀i c,F1 i c→F c∧c≠b):=hFF
 have HGF:Hid (∀i c,G1 i c→F c∧c≠b):=hGF
 have HFG:Hid (∀i j c,F1 i c→ ¬G1 j c):=hFG
 have HFD:Hid (∀i j c,i≠j→F1 i c→ ¬F1 j c):=hFd
 have HGD:Hid (∀i j c,i≠j→G1 i c→ ¬G1 j c):=hGd
 have HN:Hid (ds.length=n):=hn
 have HE:Hid (qcI k ds n=k+spanInos ds):=by
  have:=qcT (isp ds)
  rw [qdx,hn] at this
  unfold Hid qcI spanInos
  rw [this]
 have HBD:Hid (∀j,j<n→qcI k ds j+3+ (ds[j]?.getD id0).2.2.2.1.length+2* (ds[j]?.getD id0).2.2.2.2.length=qcI k ds (j+1)∧qcI k ds (j+1)≤4294967296):=fun j hj=>by
  have h1:=qaU (isp ds) j (by rw [qdx];omega)
  rw [qmn ds j (by omega)] at h1
  have h2:=qbJ (isp ds) (j+1)
  have h3:qaF (ds[j]?.getD id0)= (ds[j]?.getD id0).2.2.2.1.length+2* (ds[j]?.getD id0).2.2.2.2.length:=rfl
  have h4:spanInos ds= (isp ds).sum:=rfl
  unfold qcI
  omega
 have HI0:Hid (qcI k ds 0=k):=by unfold Hid qcI;rw [qa4,Nat.add_zero]
 have HK1:Hid (∀j,1≤qcI k ds j):=fun j=>by unfold qcI;omega
 rw [←HE.out]
 clear h0 hF hFF hGF hFG hFd hGd hn hk HE
 generalize qcI k ds=N at*
 go_enter Tryz.func29,Tryz.ntmps29
 go_wp2
 go_loopw [1,5] (fun q i wr=> ∃j:Nat,j≤n∧i= .int .i64 j∧q= .int .i64 ((N j:Nat):Int)∧HalfI wr b n j ds u F1 G1∧Chg F w wr) (fun _ i _=>n- (intOf i).toNat)
 case atStart=>exact ⟨0,Nat.zero_le _,rfl,by rw [HI0.out],H0.out,Chg.refl _ _⟩
 case round=>
  obtain ⟨j,hj,rfl,rfl,hh,hch⟩:=hrel
  have HH:Hid (HalfI wr b n j ds u F1 G1):=hh
  have HCH:Hid (Chg F w wr):=hch
  clear hh hch H0
  by_cases hlt:j<n
  · obtain ⟨hs,hle⟩:=HBD.out j hlt
    have hN1:=HK1.out j
    have hNb:N j+3≤4294967296:=by omega
    have HSN:Hid (N j+3+ (ds[j]?.getD id0).2.2.2.1.length+2* (ds[j]?.getD id0).2.2.2.2.length=N (j+1)):=hs
    obtain ⟨f,hr,hu,hz⟩:=HH.out.row
    obtain ⟨z0,e0⟩:=hz j hlt 0 (by omega)
    obtain ⟨z1,e1⟩:=hz j hlt 1 (by omega)
    obtain ⟨z2,e2⟩:=hz j hlt 2 (by omega)
    have c0:wr.cell? ⟨b,j*5,none⟩=some (.int .i64 z0):=by rw [hr.cell (by omega)];exact congrArg some e0
    have c1:wr.cell? ⟨b,j*5+1,none⟩=some (.int .i64 z1):=by rw [hr.cell (by omega),e1]
    have c2:wr.cell? ⟨b,j*5+2,none⟩=some (.int .i64 z2):=by rw [hr.cell (by omega),e2]
    have c3:wr.cell? ⟨b,j*5+3,none⟩=some (u j).1:=by rw [hr.cell (by omega),(hu j hlt).1]
    have c4:wr.cell? ⟨b,j*5+4,none⟩=some (u j).2:=by rw [hr.cell (by omega),(hu j hlt).2]
    have f0:=hr.frozen (j*5)
    have f1:=hr.frozen (j*5+1)
    have f2:=hr.frozen (j*5+2)
    have hbw:=hr.lt
    clear hr hu hz e0 e1 e2 f
    have nF: ∀i,¬F1 i b:=fun i h=> (HFF.out i b h).2 rfl
    have nG: ∀i,¬G1 i b:=fun i h=> (HGF.out i b h).2 rfl
    have HH3:Hid (HalfI (((wr.setCell ⟨b,j*5,none⟩ (.int .i64 ((N j:Nat):Int))).setCell ⟨b,j*5+1,none⟩ (.int .i64 (((N j:Nat):Int)+1))).setCell ⟨b,j*5+2,none⟩ (.int .i64 (((N j:Nat):Int)+1+1))) b n j ds u F1 G1):=
     ((HH.out.row_set (q:=0) j (by omega) _ nF nG).row_set (q:=1) j (by omega) _ nF nG).row_set (q:=2) j (by omega) _ nF nG
    have HCH3:Hid (Chg F w (((wr.setCell ⟨b,j*5,none⟩ (.int .i64 ((N j:Nat):Int))).setCell ⟨b,j*5+1,none⟩ (.int .i64 (((N j:Nat):Int)+1))).setCell ⟨b,j*5+2,none⟩ (.int .i64 (((N j:Nat):Int)+1+1)))):= ((HCH.out.set HF.out _ _).set HF.out _ _).set HF.out _ _
    have HIJ:=HH3.out.ints j (Nat.le_refl _) hlt
    have HEJ:=HH3.out.ents j (Nat.le_refl _) hlt
    obtain ⟨aB,cB,eB,_⟩:=HIJ.ints.shape
    obtain ⟨aE,cE,eE,_⟩:=HEJ.reads.open'
    rw [eB] at c3 HIJ
    rw [eE] at c4 HEJ
    have HEE:Hid ((u j).2= .slice aE (ds[j]?.getD id0).2.2.2.2.length cE):=eE
    have HIJ':Hid (qak _ (.slice aB (ds[j]?.getD id0).2.2.2.1.length cB) (ds[j]?.getD id0).2.2.2.1 (F1 j)):=HIJ
    clear HIJ HEJ eB eE nF nG hs
    go_wp2_with fail
    clear c0 c1 c2 c3 c4 f0 f1 f2
    refine (qdm (((N j:Nat):Int)+1+1+1) HIJ'.out (by omega) (by have:=HSN.out;omega)).mono ?_
    rintro e w1 ⟨rfl,-,hc1⟩
    obtain ⟨q,hq⟩: ∃q:Nat,((N j:Nat):Int)+1+1+1+ ((ds[j]?.getD id0).2.2.2.1.length:Nat)= (q:Int):= ⟨N j+3+ (ds[j]?.getD id0).2.2.2.1.length,by omega⟩
    rw [hq]
    have hqn:q+2* (ds[j]?.getD id0).2.2.2.2.length=N (j+1):=by have:=HSN.out;omega
    have HQN:Hid (((q+2* (ds[j]?.getD id0).2.2.2.2.length:Nat):Int)= ((N (j+1):Nat):Int)):=by unfold Hid;rw [hqn]
    have hq1:1≤q:=by omega
    have hH1:HalfI w1 b n (j+1) ds u F1 G1:= ⟨by
     obtain ⟨f,hr,h1,h2⟩:=HH3.out.row
     exact ⟨f,hr.block (hc1.block b hr.lt (fun h=> (HFF.out j b h).2 rfl)),h1,h2⟩,fun i hi hin=> (HH3.out.ints i (by omega) hin).keep fun c hc hl=>hc1.block c hl (HFD.out i j c (by omega) hc),fun i hi hin=> (HH3.out.ents i (by omega) hin).keep fun c hc hl=>hc1.block c hl (fun h=>HFG.out j i c h hc)⟩
    have HEJ1:Hid (qbc w1 (.slice aE (ds[j]?.getD id0).2.2.2.2.length cE) (ds[j]?.getD id0).2.2.2.2 (G1 j)):=by
     have:= (HH3.out.ents j (Nat.le_refl _) hlt).keep (w':=w1) fun c hc hl=>hc1.block c hl (fun h=>HFG.out j j c h hc)
     rw [HEE.out] at this
     exact this
    obtain ⟨f,hr,hu,hz⟩:=hH1.row
    have c4:w1.cell? ⟨b,j*5+4,none⟩=some (.slice aE (ds[j]?.getD id0).2.2.2.2.length cE):=by rw [hr.cell (by omega),(hu j hlt).2,HEE.out]
    have HH1:Hid (HalfI w1 b n (j+1) ds u F1 G1):=hH1
    have HCH1:Hid (Chg F w w1):=HCH3.out.trans (hc1.mono fun c hc=> (HFF.out j c hc).1)
    clear hz hc1 hH1 hr hu f HH3 HCH3 HIJ' hq
    go_wp2_with fail
    refine (qib q HEJ1.out hq1 (by omega)).mono ?_
    rintro e w2 ⟨rfl,-,hc2⟩
    rw [HQN.out]
    have HH2:Hid (HalfI w2 b n (j+1) ds u F1 G1):= ⟨by
     obtain ⟨f,hr,h1,h2⟩:=HH1.out.row
     exact ⟨f,hr.block (hc2.block b hr.lt (fun h=> (HGF.out j b h).2 rfl)),h1,h2⟩,fun i hi hin=> (HH1.out.ints i hi hin).keep fun c hc hl=>hc2.block c hl (fun h=>HFG.out i j c hc h),fun i hi hin=> (HH1.out.ents i hi hin).keep fun c hc hl=>hc2.block c hl (HGD.out i j c (by omega) hc)⟩
    have HCH2:Hid (Chg F w w2):=HCH1.out.trans (hc2.mono fun c hc=> (HGF.out j c hc).1)
    clear hc2 c4 HH1 HCH1 HEJ1
    go_wp2
    go_roundw
    case rel=>exact ⟨j+1,by omega,by go_num,rfl,HH2.out,HCH2.out⟩
    case measure=>simp [intOf];omega
  · have HJ:Hid (N j=N n):=by unfold Hid;rw [show j=n by omega]
    go_wp2
    go_ret
    exact ⟨qad (by rw [HJ.out]),HCH.out⟩

set_option maxHeartbeats 800000 in
theorem qe3 (w:World) (a:Option Addr) (cap:Nat) (k:Int):
 Calls Tryz.prog 29 #[.slice a 0 cap, .int .i64 k] w fun e w'=>e= .returned (.int .i64 k)∧w'=w:=by
 go_enter Tryz.func29,Tryz.ntmps29
 go_wp2
 go_loop [1,5] (fun q i=>i= .int .i64 0∧q= .int .i64 k) (fun _ _=>0)
 case atStart=>exact ⟨rfl,rfl⟩
 case round=>
  obtain ⟨rfl,rfl⟩:=hrel
  go_wp2
  go_ret
  exact ⟨rfl,rfl⟩

theorem qmr {n:Nat} {P:Nat→ (Nat→Prop)→ (Nat→Prop)→Prop} (h: ∀i,i<n→ ∃F G,P i F G): ∃ (F G:Nat→Nat→Prop),∀i,i<n→P i (F i) (G i):=by
 have h': ∀i,∃FG: (Nat→Prop)× (Nat→Prop),i<n→P i FG.1 FG.2:=fun i=>by
  by_cases hi:i<n
  · obtain ⟨F,G,hp⟩:=h i hi
    exact ⟨(F,G),fun _=>hp⟩
  · exact ⟨(fun _=>False,fun _=>False),fun h=>absurd h hi⟩
 exact ⟨fun i=> (Classical.choose (h' i)).1,fun i=> (Classical.choose (h' i)).2,fun i hi=>Classical.choose_spec (h' i) hi⟩

theorem qms {w:World} {v:Value} {ds:List ID} {F:Nat→Prop} (k:Int) (h:qbk w v ds F) (hk0:1≤k) (hk:k+ (spanInos ds:Nat)≤4294967296):
 Calls Tryz.prog 29 #[v, .int .i64 k] w fun e w'=>e= .returned (.int .i64 (k+ (spanInos ds:Nat)))∧Chg F w w':=by
 rcases h with ⟨rfl,a,cap,rfl⟩| ⟨b,cap,u,G,hF,hG,hGG,rfl,hl,hr,hu⟩
 · exact (qe3 w a cap k).mono fun e w' ⟨he,hw⟩=> ⟨by rw [he];simp [spanInos,isp],hw▸Chg.refl _ _⟩
 · obtain ⟨q,rfl⟩:=Int.eq_ofNat_of_zero_le (a:=k) (by omega)
   obtain ⟨F1,G1,hfg⟩:=qmr (fun i hi=> (hu i hi).2)
   have hm:ds.length≤9223372036854775807:=by have:=hl.1;unfold maxLen at this;omega
   have:=qhf w b cap ds.length q F ds u (fun i c=>i<ds.length∧F1 i c) (fun i c=>i<ds.length∧G1 i c) hF (fun i c hc=>hG i c ((hfg i hc.1).2.2.2 c (Or.inl hc.2))) (fun i c hc=>hG i c ((hfg i hc.1).2.2.2 c (Or.inr hc.2)))
    (fun i j c hc hc'=>by
      by_cases e:i=j
      · subst e;exact (hfg i hc.1).2.2.1 c hc.2 hc'.2
      · exact hGG i j c e ((hfg i hc.1).2.2.2 c (Or.inl hc.2)) ((hfg j hc'.1).2.2.2 c (Or.inr hc'.2)))
    (fun i j c e hc hc'=>hGG i j c e ((hfg i hc.1).2.2.2 c (Or.inl hc.2)) ((hfg j hc'.1).2.2.2 c (Or.inl hc'.2)))
    (fun i j c e hc hc'=>hGG i j c e ((hfg i hc.1).2.2.2 c (Or.inr hc.2)) ((hfg j hc'.1).2.2.2 c (Or.inr hc'.2))) rfl (by omega) (by omega) hm
    ⟨⟨_,hr,fun i _=> ⟨qbL ds u i,qbv ds u i⟩,fun i _ p hp=>by
      have:p=0∨p=1∨p=2:=by omega
      rcases this with rfl|rfl|rfl
      · exact ⟨_,qb5 ds u i⟩
      · exact ⟨_,qcs ds u i⟩
      · exact ⟨_,qb6 ds u i⟩⟩,fun i _ hi=> (hfg i hi).1.mono fun c hc=> ⟨hi,hc⟩,fun i _ hi=> (hfg i hi).2.1.mono fun c hc=> ⟨hi,hc⟩⟩
   exact this.mono fun e w' ⟨h1,h2⟩=> ⟨by rw [h1];congr 2,h2⟩
end Go.Proofs.YthnmlipnoajmkaaGreatDoor

namespace Go.Proofs.YthnmlipnoajmkaaGreatDoor
open Go.RowKit
set_option maxRecDepth 100000

set_option maxHeartbeats 1600000 in
theorem qjJ (w:World) (a a':Option Addr) (cap cap' n:Nat) (zss:List (List UInt8)) (hn:n≤maxLen) (hc:qgi w a n zss) (hc':qgi w a' n zss):
 Calls Tryz.prog 28 #[.slice a n cap, .slice a' n cap'] w fun e w'=>e= .returned (.bool true)∧Below w.heap.size w w':=by
 unfold maxLen at hn
 have HC:Hid (qgi w a n zss):=hc
 have HC':Hid (qgi w a' n zss):=hc'
 clear hc hc'
 go_enter Tryz.func28,Tryz.ntmps28
 go_wp2
 go_loopw [5] (fun i wr=> ∃j m:Nat,j≤n∧i= .int .i64 j∧wr=w.drewN m) (fun i _=>n- (intOf i).toNat)
 case atStart=>exact ⟨0,0,Nat.zero_le _,rfl,rfl⟩
 case round=>
  obtain ⟨j,m,hj,rfl,rfl⟩:=hrel
  by_cases hlt:j<n
  · obtain ⟨b,o,ua,uc,rfl,d0,i0⟩:=HC.out j hlt
    obtain ⟨b',o',ua',uc',rfl,d1,i1⟩:=HC'.out j hlt
    have HEQ:Hid (∀q,Calls Tryz.prog 25 #[.slice ua (zss[j]?.getD []).length uc, .slice ua' (zss[j]?.getD []).length uc'] (w.drewN q) fun e w'=>e= .returned (.bool true)∧ ∃m',w'= (w.drewN q).drewN m'):=fun q=>qoW (w:=w.drewN q) (i0.later (below_drewN (Below.refl _ _) q)) (i1.later (below_drewN (Below.refl _ _) q))
    clear i0 i1 HC HC'
    generalize (zss[j]?.getD []).length=ln at*
    go_wp2_with fail
    go_quiet ((go_at_call 25;exact ql6 (HEQ.out _)))
    go_wp2
    go_roundw
    case rel=>exact ⟨j+1,_,by omega,by go_num,rfl⟩
    case measure=>simp [intOf];omega
  · go_wp2
    go_ret
    exact ⟨rfl,below_drewN (Below.refl _ _) m⟩
theorem qps {w:World} {v v':Value} {zss:List (List UInt8)} (h:qfn w v zss) (h':qfn w v' zss):Calls Tryz.prog 28 #[v,v'] w fun e w'=>e= .returned (.bool true)∧Below w.heap.size w w':=by
 obtain ⟨a,cap,rfl,hm,hc⟩:=h.open'
 obtain ⟨a',cap',rfl,_,hc'⟩:=h'.open'
 exact qjJ w a a' cap cap' _ zss hm.1 hc hc'

abbrev FD:=List ID×List (List UInt8)
def FsR (w:World) (v1 v2:Value) (d:FD):Prop:=qdJ w v1 d.1∧qfn w v2 d.2
theorem FsR.later {w w':World} {v1 v2:Value} {d:FD} (h:FsR w v1 v2 d) (hb:Below w.heap.size w w'):FsR w' v1 v2 d:= ⟨h.1.later hb,h.2.later hb⟩
def FsU (w:World) (v1 v2:Value) (d:FD) (F:Nat→Prop):Prop:= ∃F1 G1:Nat→Prop,qbk w v1 d.1 F1∧qaR w v2 d.2 G1∧ (∀b,F1 b→ ¬G1 b)∧ ∀b,F1 b∨G1 b→F b
theorem FsU.reads {w:World} {v1 v2:Value} {d:FD} {F:Nat→Prop} (h:FsU w v1 v2 d F):FsR w v1 v2 d:=by
 obtain ⟨_,_,h1,h2,_⟩:=h
 exact ⟨h1.reads,h2.reads⟩
theorem FsU.keep {w w':World} {v1 v2:Value} {d:FD} {F:Nat→Prop} (h:FsU w v1 v2 d F) (e: ∀b,F b→b<w.heap.size→w'.heap[b]?=w.heap[b]?):FsU w' v1 v2 d F:=by
 obtain ⟨F1,G1,h1,h2,hd,hf⟩:=h
 exact ⟨F1,G1,h1.keep fun b hb=>e b (hf b (Or.inl hb)),h2.keep fun b hb=>e b (hf b (Or.inr hb)),hd,hf⟩
theorem FsU.later {w w':World} {v1 v2:Value} {d:FD} {F:Nat→Prop} (h:FsU w v1 v2 d F) (hb:Below w.heap.size w w'):FsU w' v1 v2 d F:=h.keep fun b _ hlt=>hb.block b hlt
theorem FsU.mono {w:World} {v1 v2:Value} {d:FD} {F G:Nat→Prop} (h:FsU w v1 v2 d F) (e: ∀b,F b→G b):FsU w v1 v2 d G:=by
 obtain ⟨F1,G1,h1,h2,hd,hf⟩:=h
 exact ⟨F1,G1,h1,h2,hd,fun b hb=>e b (hf b hb)⟩
theorem FsU.chg {w w':World} {v1 v2:Value} {d:FD} {F G:Nat→Prop} (h:FsU w v1 v2 d F) (hc:Chg G w w') (hd: ∀b,F b→ ¬G b):FsU w' v1 v2 d F:=h.keep fun b hb hlt=>hc.block b hlt (hd b hb)
def sizeFs (d:FD):Nat:=qag d.1+qb2 d.2
def spanFs (d:FD):Nat:=spanInos d.1+ (qax d.2).sum
theorem qmt (d:FD):spanFs d≤3*sizeFs d:=by
 have:=qjA d.1
 unfold spanFs sizeFs qb2
 omega

set_option maxHeartbeats 800000 in
theorem qqW (w:World) (a1:Option Addr) (n1 c1:Nat) (a2:Option Addr) (n2 c2:Nat) (d:FD) (h:FsR w (.slice a1 n1 c1) (.slice a2 n2 c2) d) (left:Int) (l0:0≤left) (l1:left≤1048576):
 Calls Tryz.prog 4 #[.agg #[.slice a1 n1 c1, .slice a2 n2 c2], .int .i64 left] w fun e w'=>e= .returned (.int .i64 (szf left (sizeFs d)))∧Below w.heap.size w w':=by
 have H1:Hid (qdJ w (.slice a1 n1 c1) d.1):=h.1
 have H2:Hid (qfn w (.slice a2 n2 c2) d.2):=h.2
 have HX:Hid (Bx (w.alloc (.cells #[.slice a1 n1 c1, .slice a2 n2 c2] 25)) w.heap.size [.slice a1 n1 c1, .slice a2 n2 c2]):=Bx.new w [.slice a1 n1 c1, .slice a2 n2 c2] _
 clear h
 by_cases hm:left< ((qag d.1:Nat):Int)
 · have HR:Hid (szf left (qag d.1)= -1):=qbQ hm
   have HM:Hid (szf left (sizeFs d)= -1):=qbQ (by unfold sizeFs;omega)
   rw [HM.out]
   go_enter Tryz.func4,Tryz.ntmps4
   go_wp2_with fail
   refine (qjG _ _ _ _ d.1 (H1.out.later (qab _ _)) _ l0 l1).mono ?_
   rw [HR.out]
   rintro e w1 ⟨rfl,hb1⟩
   have HB1:Hid (Below w.heap.size w w1):= (qab _ _).trans (hb1.mono (by simp))
   clear hb1
   go_wp2
   go_ret
   exact ⟨rfl,HB1.out⟩
 · have HR:Hid (szf left (qag d.1)=left- ((qag d.1:Nat):Int)):=qbY hm
   have hpos: ¬left- ((qag d.1:Nat):Int)<0:=by omega
   have HD:Hid (szf (left- ((qag d.1:Nat):Int)) (qb2 d.2)=szf left (sizeFs d)):=by
    unfold Hid szf sizeFs
    split<;>split<;>omega
   have hx0: (0:Int)≤ ((qag d.1:Nat):Int):=by omega
   generalize ((qag d.1:Nat):Int)=X at*
   have hrr:szf left (sizeFs d)= -1∨0≤szf left (sizeFs d):=by unfold szf;split<;>omega
   generalize hr:szf left (sizeFs d)=r at*
   clear hr
   have step: ∀ (P:Prop),(r<0→r= -1→P)→ (¬r<0→P)→P:=fun P h1 h2=>hrr.elim (fun e=>h1 (by omega) e) (fun e=>h2 (by omega))
   apply step
   · intro hneg he
     subst he
     clear step hrr
     go_enter Tryz.func4,Tryz.ntmps4
     go_wp2_with fail
     refine (qjG _ _ _ _ d.1 (H1.out.later (qab _ _)) _ l0 l1).mono ?_
     rw [HR.out]
     rintro e w1 ⟨rfl,hb1⟩
     have HB1:Hid (Below w.heap.size w w1):= (qab _ _).trans (hb1.mono (by simp))
     have x1:= (HX.out.later hb1) 1 _ rfl
     clear hb1
     go_wp2_with fail
     refine (ql8 _ _ _ _ d.2 (H2.out.later HB1.out) _ (by omega) (by omega)).mono ?_
     rw [HD.out]
     rintro e w2 ⟨rfl,hb2⟩
     have HB2:Hid (Below w.heap.size w w2):=HB1.out.trans (hb2.mono HB1.out.size)
     clear hb2 x1
     go_wp2
     go_ret
     exact ⟨rfl,HB2.out⟩
   · intro hnn
     clear step hrr
     go_enter Tryz.func4,Tryz.ntmps4
     go_wp2_with fail
     refine (qjG _ _ _ _ d.1 (H1.out.later (qab _ _)) _ l0 l1).mono ?_
     rw [HR.out]
     rintro e w1 ⟨rfl,hb1⟩
     have HB1:Hid (Below w.heap.size w w1):= (qab _ _).trans (hb1.mono (by simp))
     have x1:= (HX.out.later hb1) 1 _ rfl
     clear hb1
     go_wp2_with fail
     refine (ql8 _ _ _ _ d.2 (H2.out.later HB1.out) _ (by omega) (by omega)).mono ?_
     rw [HD.out]
     rintro e w2 ⟨rfl,hb2⟩
     have HB2:Hid (Below w.heap.size w w2):=HB1.out.trans (hb2.mono HB1.out.size)
     clear hb2 x1
     go_wp2
     go_ret
     exact ⟨rfl,HB2.out⟩

set_option maxHeartbeats 1600000 in
theorem qqX (w:World) (v1 v2 v1' v2':Value) (d:FD) (h:FsR w v1 v2 d) (h':FsR w v1' v2' d):
 Calls Tryz.prog 9 #[.agg #[v1,v2], .agg #[v1',v2']] w fun e w'=>e= .returned (.bool true)∧Below w.heap.size w w':=by
 obtain ⟨a1,c1,rfl,_⟩:=h.1.open'
 obtain ⟨a2,c2,rfl,_⟩:=h.2.open'
 obtain ⟨b1,k1,rfl,_⟩:=h'.1.open'
 obtain ⟨b2,k2,rfl,_⟩:=h'.2.open'
 have H1:Hid (qdJ w _ d.1):=h.1
 have H2:Hid (qfn w _ d.2):=h.2
 have H1':Hid (qdJ w _ d.1):=h'.1
 have H2':Hid (qfn w _ d.2):=h'.2
 clear h h'
 generalize d.1.length=m1 at*
 generalize d.2.length=m2 at*
 have HX:Hid (Bx ((w.alloc (.cells #[.slice a1 m1 c1, .slice a2 m2 c2] 31)).alloc (.cells #[.slice b1 m1 k1, .slice b2 m2 k2] 31)) w.heap.size [.slice a1 m1 c1, .slice a2 m2 c2]):= (Bx.new w [.slice a1 m1 c1, .slice a2 m2 c2] _).later (qab _ _)
 have HY:Hid (Bx ((w.alloc (.cells #[.slice a1 m1 c1, .slice a2 m2 c2] 31)).alloc (.cells #[.slice b1 m1 k1, .slice b2 m2 k2] 31)) (w.heap.size+1) [.slice b1 m1 k1, .slice b2 m2 k2]):=by
  have:=Bx.new (w.alloc (.cells #[.slice a1 m1 c1, .slice a2 m2 c2] 31)) [.slice b1 m1 k1, .slice b2 m2 k2] 31
  rw [World.size_alloc] at this
  exact this
 go_enter Tryz.func9,Tryz.ntmps9
 go_wp2_with fail
 refine (qpr (H1.out.later (qam _ _ _)) (H1'.out.later (qam _ _ _))).mono ?_
 rintro e w1 ⟨rfl,hb1⟩
 have HB1:Hid (Below w.heap.size w w1):= (qam _ _ _).trans (hb1.mono (by simp;omega))
 have x1:= (HX.out.later hb1) 1 _ rfl
 have y1:= (HY.out.later hb1) 1 _ rfl
 clear hb1
 go_wp2_with fail
 refine (qps (H2.out.later HB1.out) (H2'.out.later HB1.out)).mono ?_
 rintro e w2 ⟨rfl,hb2⟩
 have HB2:Hid (Below w.heap.size w w2):=HB1.out.trans (hb2.mono HB1.out.size)
 clear hb2
 go_wp2
 go_ret
 exact ⟨rfl,HB2.out⟩
end Go.Proofs.YthnmlipnoajmkaaGreatDoor

namespace Go.Proofs.YthnmlipnoajmkaaGreatDoor
open Go.RowKit
set_option maxRecDepth 100000

set_option maxHeartbeats 3200000 in
theorem qn3 (w:World) (a1:Option Addr) (n1 c1:Nat) (a2:Option Addr) (n2 c2:Nat) (d:FD) (h:FsR w (.slice a1 n1 c1) (.slice a2 n2 c2) d) (hs:sizeFs d≤1048576):
 Calls Tryz.prog 6 #[.agg #[.slice a1 n1 c1, .slice a2 n2 c2]] w fun e w'=> ∃b1 m1 k1 b2 m2 k2,e= .returned (.agg #[.slice b1 m1 k1, .slice b2 m2 k2])∧Below w.heap.size w w'∧FsU w' (.slice b1 m1 k1) (.slice b2 m2 k2) d (qaj w w'):=by
 have H1:Hid (qdJ w (.slice a1 n1 c1) d.1):=h.1
 have H2:Hid (qfn w (.slice a2 n2 c2) d.2):=h.2
 have L1:Hid (qag d.1≤1048576):=by unfold sizeFs at hs;unfold Hid;omega
 have L2:Hid (qb2 d.2≤1048576):=by unfold sizeFs at hs;unfold Hid;omega
 clear h hs
 go_enter Tryz.func6,Tryz.ntmps6
 go_wp2_with fail
 have O2:qaa (((w.alloc (.cells #[.slice a1 n1 c1, .slice a2 n2 c2] 25)).alloc (.cells #[.slice none 0 0, .slice none 0 0] 31)).alloc (.cells #[.slice none 0 0, .slice none 0 0] 31)) (w.heap.size+1+1) 2 (fun i=>if i=0 then .slice none 0 0 else .slice none 0 0):=by
  have:=qaa.two ((w.alloc (.cells #[.slice a1 n1 c1, .slice a2 n2 c2] 25)).alloc (.cells #[.slice none 0 0, .slice none 0 0] 31)) (.slice none 0 0) (.slice none 0 0) 31
  simpa using this
 have O1:qaa (((w.alloc (.cells #[.slice a1 n1 c1, .slice a2 n2 c2] 25)).alloc (.cells #[.slice none 0 0, .slice none 0 0] 31)).alloc (.cells #[.slice none 0 0, .slice none 0 0] 31)) (w.heap.size+1) 2 (fun i=>if i=0 then .slice none 0 0 else .slice none 0 0):=by
  have:= (qaa.two (w.alloc (.cells #[.slice a1 n1 c1, .slice a2 n2 c2] 25)) (.slice none 0 0) (.slice none 0 0) 31).later (qab _ (.cells #[.slice none 0 0, .slice none 0 0] 31))
  simpa using this
 have O0:qaa (((w.alloc (.cells #[.slice a1 n1 c1, .slice a2 n2 c2] 25)).alloc (.cells #[.slice none 0 0, .slice none 0 0] 31)).alloc (.cells #[.slice none 0 0, .slice none 0 0] 31)) w.heap.size 2 (fun i=>if i=0 then .slice a1 n1 c1 else .slice a2 n2 c2):= ((qaa.two w (.slice a1 n1 c1) (.slice a2 n2 c2) 25).later (qab _ _)).later (qab _ _)
 have HBA:Hid (Below w.heap.size w (((w.alloc (.cells #[.slice a1 n1 c1, .slice a2 n2 c2] 25)).alloc (.cells #[.slice none 0 0, .slice none 0 0] 31)).alloc (.cells #[.slice none 0 0, .slice none 0 0] 31))):=qkr _ _ _ _
 have hWs: (((w.alloc (.cells #[.slice a1 n1 c1, .slice a2 n2 c2] 25)).alloc (.cells #[.slice none 0 0, .slice none 0 0] 31)).alloc (.cells #[.slice none 0 0, .slice none 0 0] 31)).heap.size=w.heap.size+3:=by simp
 generalize hW: (((w.alloc (.cells #[.slice a1 n1 c1, .slice a2 n2 c2] 25)).alloc (.cells #[.slice none 0 0, .slice none 0 0] 31)).alloc (.cells #[.slice none 0 0, .slice none 0 0] 31))=W at*
 clear hW
 refine (qpq (H1.out.later HBA.out) L1.out).mono ?_
 rintro e w1 ⟨b1,m1,k1,rfl,hb1,ho1⟩
 have HB1:Hid (Below w.heap.size w w1):=HBA.out.trans (hb1.mono HBA.out.size)
 replace O2:=O2.later hb1
 replace O1:=O1.later hb1
 replace O0:=O0.later hb1
 have HO1:Hid (qbk w1 (.slice b1 m1 k1) d.1 (fun b=>w.heap.size+3≤b∧b<w1.heap.size)):=ho1.mono fun b hb=> ⟨by have:=hb.1;omega,hb.2⟩
 clear hb1 ho1
 have P0:=O0.cell (i:=1) (by omega)
 have d0:=O2.cell (i:=0) (by omega)
 have f0:=O2.frozen 0
 simp at P0 d0
 have HO2:Hid (qaa w1 (w.heap.size+1+1) 2 (fun i=>if i=0 then .slice none 0 0 else .slice none 0 0)):=O2
 have HR1:Hid (qaa w1 (w.heap.size+1) 2 (fun i=>if i=0 then .slice none 0 0 else .slice none 0 0)):=O1
 have hz1:w.heap.size+1+1<w1.heap.size:=O2.lt
 clear O0 O1 O2
 go_wp2_with fail
 clear d0 f0 P0
 have HBX:Hid (Below w.heap.size w (w1.setCell ⟨w.heap.size+1+1,0,none⟩ (.slice b1 m1 k1))):=HB1.out.setCell (by simp;omega) _
 refine (qph (H2.out.later HBX.out) L2.out).mono ?_
 rintro e w2 ⟨b2,m2,k2,rfl,hb2,ho2⟩
 have HOX:= (HO2.out.set 0 (.slice b1 m1 k1)).later hb2
 have HRX:= (HR1.out.store (p:= ⟨w.heap.size+1+1,0,none⟩) (by simp) (.slice b1 m1 k1)).later hb2
 have e1: (w1.setCell ⟨w.heap.size+1+1,0,none⟩ (.slice b1 m1 k1)).heap.size=w1.heap.size:=by simp [World.setCell]
 have HIX:Hid (qbk w2 (.slice b1 m1 k1) d.1 (fun b=>w.heap.size+3≤b∧b<w1.heap.size)):=HO1.out.keep fun b hb hlt=>by
  rw [hb2.block b (by rw [e1];exact hlt),Below.heap_setCell _ _ _ _ (by simp;omega)]
 have HPX:Hid (qaR w2 (.slice b2 m2 k2) d.2 (fun b=>w1.heap.size≤b∧b<w2.heap.size)):=by
  unfold qaj at ho2
  rw [e1] at ho2
  exact ho2
 have HB2:Hid (Below w.heap.size w w2):=HBX.out.trans (hb2.mono HBX.out.size)
 have e2:w1.heap.size≤w2.heap.size:=by have:=hb2.size;rwa [e1] at this
 have q0:=HOX.cell (i:=0) (by omega)
 have q1:=HOX.cell (i:=1) (by omega)
 have qf:=HOX.frozen 1
 have t0:=HRX.cell (i:=0) (by omega)
 have t1:=HRX.cell (i:=1) (by omega)
 have s0:=HRX.frozen 0
 have s1:=HRX.frozen 1
 simp at q0 q1 t0 t1
 clear HOX HRX hb2 ho2
 go_wp2
 refine bodyPost_ret (v:= .agg #[.slice b1 m1 k1, .slice b2 m2 k2]) (by simp [results,Tryz.results6,go_sem,t0,t1]) rfl ⟨_,_,_,_,_,_,rfl, ?_, ?_⟩
 · exact ((HB2.out.setCell (by simp;omega) _).setCell (by simp) _).setCell (by simp) _
 · refine ⟨fun b=>w.heap.size+3≤b∧b<w1.heap.size,fun b=>w1.heap.size≤b∧b<w2.heap.size,HIX.out.keep fun b hb hlt=> ?_,HPX.out.keep fun b hb hlt=> ?_,fun b hb hb'=>by omega,fun b hb=> ?_⟩
   · rw [Below.heap_setCell _ _ _ _ (by simp;omega),Below.heap_setCell _ _ _ _ (by simp;omega),Below.heap_setCell _ _ _ _ (by simp;omega)]
   · rw [Below.heap_setCell _ _ _ _ (by simp;omega),Below.heap_setCell _ _ _ _ (by simp;omega),Below.heap_setCell _ _ _ _ (by simp;omega)]
   · unfold qaj
     simp only [World.setCell,Array.size_modify]
     rcases hb with hb|hb<;>omega
end Go.Proofs.YthnmlipnoajmkaaGreatDoor

namespace Go.Proofs.YthnmlipnoajmkaaGreatDoor
open Go.RowKit
set_option maxRecDepth 100000

theorem qdo.bound {w:World} {v0 v1 v2 vB vE:Value} {d:ID} {F:Nat→Prop} (h:qdo w v0 v1 v2 vB vE d F):qdo w v0 v1 v2 vB vE d (fun b=>F b∧b<w.heap.size):=by
 obtain ⟨h0,F1,G1,h1,h2,hd,hf⟩:=h
 exact ⟨h0,_,_,h1.bound,h2.bound,fun b hb hb'=>hd b hb.1 hb'.1,fun b hb=>by
  rcases hb with hb|hb
  · exact ⟨hf b (Or.inl hb.1),hb.2⟩
  · exact ⟨hf b (Or.inr hb.1),hb.2⟩⟩
theorem qbk.bound {w:World} {v:Value} {ds:List ID} {F:Nat→Prop} (h:qbk w v ds F):qbk w v ds (fun b=>F b∧b<w.heap.size):=by
 rcases h with h| ⟨b,cap,u,G,hF,hG,hGG,h1,h2,h3,h4⟩
 · exact Or.inl h
 · exact Or.inr ⟨b,cap,u,fun i c=>G i c∧c<w.heap.size,⟨hF,h3.lt⟩,fun i c hc=> ⟨⟨(hG i c hc.1).1,hc.2⟩,(hG i c hc.1).2⟩,fun i j c e hc hc'=>hGG i j c e hc.1 hc'.1,h1,h2,h3,fun i hi=> (h4 i hi).bound⟩
set_option maxHeartbeats 800000 in
theorem qpt (w:World) (v1 v2:Value) (d:FD) (F:Nat→Prop) (k:Int) (h:FsU w v1 v2 d F) (hk0:1≤k) (hk:k+ (spanFs d:Nat)≤4294967296):
 Calls Tryz.prog 10 #[.agg #[v1,v2], .int .i64 k] w fun e w'=>e= .returned (.int .i64 (k+ (spanFs d:Nat)))∧Chg F w w':=by
 obtain ⟨F1,G1,h1,h2,hd,hf⟩:=h
 have H1:Hid (qbk w v1 d.1 F1):=h1
 have H2:Hid (qaR w v2 d.2 G1):=h2
 have HD:Hid (∀b,F1 b→ ¬G1 b):=hd
 have HF:Hid (∀b,F1 b∨G1 b→F b):=hf
 have HE:Hid (k+ (spanFs d:Nat)=k+ (spanInos d.1:Nat)+ ((qax d.2).sum:Nat)):=by unfold Hid spanFs;omega
 have hk2:k+ (spanInos d.1:Nat)+ ((qax d.2).sum:Nat)≤4294967296:=by unfold spanFs at hk;omega
 rw [HE.out]
 clear h1 h2 hd hf hk HE
 go_enter Tryz.func10,Tryz.ntmps10
 go_wp2_with fail
 refine (qms k (H1.out.bound.keep fun b hb hlt=> (qab _ _).block b hlt) hk0 (by omega)).mono ?_
 rintro e w1 ⟨rfl,hc⟩
 have c1:w1.cell? ⟨w.heap.size,1,none⟩=some v2:=by
  rw [World.cell?_of_block (w:=w.alloc (.cells #[v1,v2] 31)) (qhV hc fun b hb=>hb.2),qar];rfl
 have HC:Hid (Chg (fun b=>F1 b∧b<w.heap.size) (w.alloc (.cells #[v1,v2] 31)) w1):=hc
 have H2':Hid (qaR w1 v2 d.2 (fun b=>G1 b∧b<w.heap.size)):=H2.out.bound.keep fun b hb hlt=> (HC.out.block b (by simp;omega) (fun h=>HD.out b h.1 hb.1)).trans ((qab _ _).block b hlt)
 clear hc
 go_wp2_with fail
 refine (ql9 _ H2'.out (by omega) (by omega)).mono ?_
 rintro e w2 ⟨rfl,hc2⟩
 have HC2:Hid (Chg (fun b=>G1 b∧b<w.heap.size) w1 w2):=hc2
 clear hc2
 go_wp2
 go_ret
 exact ⟨rfl,(Chg.of_below (qab _ _)).trans ((HC.out.mono fun b hb=>HF.out b (Or.inl hb.1)).trans (HC2.out.mono fun b hb=>HF.out b (Or.inr hb.1)))⟩

def qmu (w:World) (r:Int×List UInt8) (e:Ending) (w':World):Prop:= ∃a n c,e= .returned (.agg #[.int .i64 r.1, .slice a n c])∧Below w.heap.size w w'∧qbt w' (.slice a n c) r.2 (qaj w w')
def WdY (w:World) (n₀:Nat) (v:Value) (zs:List UInt8):Prop:=w.ownsRow n₀ 5 1 v zs.length (zs.map qk4)
theorem WdY.later {w w':World} {n₀:Nat} {v:Value} {zs:List UInt8} (h:WdY w n₀ v zs) (hb:Below w.heap.size w w'):WdY w' n₀ v zs:=qbh h hb
theorem WdY.shape {w:World} {n₀:Nat} {v:Value} {zs:List UInt8} (h:WdY w n₀ v zs): ∃a c,v= .slice a zs.length c:=qa1 h
theorem WdY.nil (w:World) (n₀:Nat):WdY w n₀ (.slice none 0 0) []:= ⟨by simp,Or.inl ⟨rfl,rfl⟩⟩
theorem WdY.lit0 (w:World) (n₀:Nat) (h:n₀≤w.heap.size):WdY (w.alloc (.cells #[] 5)) n₀ (.slice (some ⟨w.heap.size,0,none⟩) 0 0) []:=by
 have:=World.ownsRow_lit (e:=5) (size:=1) w (#[]:Array Value) 0 h (by unfold maxLen;omega) (by simp)
 simpa [WdY] using this
theorem WdY.own {w w0:World} {n₀:Nat} {v:Value} {zs:List UInt8} (h:WdY w n₀ v zs) (hn:w0.heap.size≤n₀):qbt w v zs (qaj w0 w):=by
 obtain ⟨hl,h| ⟨g,cap,cur,rfl,hb,hh,hnc,hcm,hcs,htake⟩⟩:=h
 · exact Or.inl ⟨List.eq_nil_of_length_eq_zero h.2,_,_,by rw [h.1]⟩
 · refine Or.inr ⟨g,cap,⟨by omega,(Array.getElem?_eq_some_iff.1 hh).1⟩,rfl,⟨by omega,hnc⟩,cur,5,hh,by omega,fun i hi=> ?_⟩
   rw [Nat.mul_one] at htake
   have h1: (zs.map qk4)[i]?=cur[i]?:=by rw [←htake,List.getElem?_take,if_pos hi,Array.getElem?_toList]
   rw [←h1,List.getElem?_map,List.getElem?_eq_getElem hi]
   simp [List.getElem?_eq_getElem hi,qk4]
theorem Tryz.infoByte': ∃i,Tryz.prog.info? 5=some i∧i.zero=some (.int .u8 0)∧i.size=1∧i.bytes=1:=by
 have h: (Tryz.prog.info? 5).map (fun i=> (i.zero,i.size,i.bytes))=some (some (.int .u8 0),1,1):=by kernel_rfl
 obtain ⟨i,hi,h⟩:=Option.map_eq_some_iff.1 h
 simp only [Prod.mk.injEq] at h
 exact ⟨i,hi,h.1,h.2.1,h.2.2⟩
theorem qn4 (w:World) (n₀:Nat) (v:Value) (zs ys:List UInt8) (a:Option Addr) (m c:Nat) (hrow:WdY w n₀ v zs) (hn₀:n₀≤w.heap.size) (hz:zs.length≤16777216) (hy:ys.length≤1048576) (hc:Byt w (.slice a m c) ys):
 ∃v' X,(Builtin.append_ #[27,27] 27 #[v, .slice a m c]).run Tryz.prog w= .ok v' X∧WdY X n₀ v' (zs++ys)∧Below n₀ w X:=by
 obtain ⟨i,hi,h1,h2,h3⟩:=Tryz.infoByte'
 obtain ⟨a',cap',e,hm,hat⟩:=hc
 simp only [Value.slice.injEq] at e
 obtain ⟨rfl,rfl,rfl⟩:=e
 by_cases ha:a=none
 · subst ha
   have h0:ys= []:=by
    by_cases h:ys.length=0
    · exact List.eq_nil_of_length_eq_zero h
    · obtain ⟨_,_,e,_⟩:=hat 0 (by omega);cases e
   subst h0
   refine ⟨v,w, ?_,by rw [List.append_nil];exact hrow,Below.refl _ _⟩
   rcases hrow.2 with ⟨rfl,_⟩| ⟨g,cap,cur,rfl,_,_,hnc,_⟩
   · simp [Builtin.append_,run_underlying Tryz.underlying27,sizeOf,typeInfo,hi,Builtin.lenOf,Builtin.firstCells]
   · simp [Builtin.append_,run_underlying Tryz.underlying27,sizeOf,typeInfo,hi,Builtin.lenOf,Builtin.firstCells,storeCells,hnc]
 · obtain ⟨ad,rfl⟩:=Option.ne_none_iff_exists'.1 ha
   obtain ⟨v',X,hr,ho,hg,_⟩:=run_append_own (P:=Tryz.prog) w n₀ 27 27 5 i (.int .u8 0) 1 1 Tryz.underlying27 hi h1 h2 h3 rfl (by decide) _ zs.length _ hrow ad ys.length c (ys.map qk4)
    (by simp) (fun j u hu=>by
      rw [List.getElem?_map,Option.map_eq_some_iff] at hu
      obtain ⟨z,hz1,rfl⟩:=hu
      have hj:j<ys.length:= (List.getElem?_eq_some_iff.1 hz1).1
      obtain ⟨b,off,e,h⟩:=hat j hj
      simp only [Option.some.injEq] at e
      rw [e,qaA,h,hz1]
      rfl) (fun u hu=>by
      obtain ⟨z,_,rfl⟩:=List.mem_map.1 hu
      rfl) (by unfold maxLen;omega) (by omega) hn₀
   refine ⟨v',X,hr, ?_,qaw hg hn₀ (fun k hk=> (hrow.lt k hk).1)⟩
   unfold WdY
   rw [List.length_append,List.map_append]
   exact ho
end Go.Proofs.YthnmlipnoajmkaaGreatDoor
