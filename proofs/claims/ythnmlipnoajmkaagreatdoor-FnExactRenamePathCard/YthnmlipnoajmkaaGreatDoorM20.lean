/- Directories:what their functions ask alike,of the program and of the specification. Directories:where a name stands;IsEmptyDir and LookName,of the program and of the specification. The specification's walk:where names lead (l9Walk,l9Path). The specification's WalkPath. StatOf:what it tells,of the program and of the specification. Rows that grow by append,each element with bytes of its own. The specification's copying of a file system. -/
import Derived.Test.YthnmlipnoajmkaaGreatDoorM15
import Derived.Test.YthnmlipnoajmkaaGreatDoorM19
import Derived.BigQuiet
import Derived.Test.YthnmlipnoajmkaaGreatDoorM14
import Derived.Test.YthnmlipnoajmkaaGreatDoorM07
import Derived.Test.YthnmlipnoajmkaaGreatDoorM00
import Derived.Test.YthnmlipnoajmkaaGreatDoorM10
import Derived.Test.YthnmlipnoajmkaaGreatDoorM13
import Derived.Deep.RegionHeld3
import Derived.Deep.RegionLaw
namespace Go.Proofs.YthnmlipnoajmkaaGreatDoor
open Go.RowKit
set_option maxRecDepth 100000

set_option maxHeartbeats 3200000 in
theorem qeU (w:World) (a1:Option Addr) (n1 c1:Nat) (a2:Option Addr) (n2 c2:Nat) (d:FD) (x:Int) (h:FsR w (.slice a1 n1 c1) (.slice a2 n2 c2) d) (hsi:qag d.1≤1048576):
 Calls Tryz.prog 123 #[.agg #[.slice a1 n1 c1, .slice a2 n2 c2], .int .i64 x] w fun e w'=>e= .returned (.int .i64 (qdG d x))∧Below w.heap.size w w':=by
 have HF:Hid (∀W,Below w.heap.size w W→Calls Tryz.prog 52 #[.agg #[.slice a1 n1 c1, .slice a2 n2 c2]] W fun e w'=>e= .returned (.int .i64 (fsE d))∧Below W.heap.size W w'):=fun W hW=>qdT W _ _ _ _ _ _ d (h.later hW) hsi
 have HX:Hid (Bx (w.alloc (.cells #[.slice a1 n1 c1, .slice a2 n2 c2] 31)) w.heap.size [.slice a1 n1 c1, .slice a2 n2 c2]):=Bx.new w [.slice a1 n1 c1, .slice a2 n2 c2] _
 have HR:Hid (qdG d x=if fsE d=0 then (if 0≤x∧x< (d.1.length:Int) then (if qae d.1 x.toNat=2 then 0 else 9) else 3) else fsE d):=rfl
 obtain ⟨_,_,e1,hm1,hAt⟩:=h.1.open'
 obtain ⟨_,_,e2,hm2,hBt⟩:=h.2.open'
 simp only [Value.slice.injEq] at e1 e2
 obtain ⟨rfl,rfl,rfl⟩:=e1
 obtain ⟨rfl,rfl,rfl⟩:=e2
 have HIN:Hid (∀W,Calls Tryz.prog 130 #[.agg #[.slice a1 d.1.length c1, .slice a2 d.2.length c2], .int .i64 x] W fun e w'=>e= .returned (.bool (decide (0≤x∧x< (d.1.length:Int))))∧Below W.heap.size W w'):=fun W=>qf0 W _ _ _ _ _ _ x
 clear h hm1 hm2 hBt
 by_cases hf:fsE d=0
 rotate_left
 · have HQ:Hid (qdG d x=fsE d):=by unfold Hid;rw [HR.out,if_neg hf]
   rw [HQ.out]
   have hb: (fsE d !=0)=true:=by simpa using hf
   clear hf hAt HR HQ HIN
   generalize fsE d=r at*
   generalize d.1.length=n at*
   generalize d.2.length=m at*
   go_enter Tryz.func123,Tryz.ntmps123
   go_wp2_with fail
   refine (HF.out _ (qab _ _)).mono ?_
   rintro e w1 ⟨rfl,hb1⟩
   have HB1:Hid (Below w.heap.size w w1):= (qab _ _).trans (hb1.mono (by simp))
   clear hb1
   go_wp2
   go_ret
   exact ⟨rfl,HB1.out⟩
 · rw [hf] at HF
   by_cases hpl:0≤x∧x< (d.1.length:Int)
   rotate_left
   · have HQ:Hid (qdG d x=3):=by unfold Hid;rw [HR.out,if_pos hf,if_neg hpl]
     rw [HQ.out]
     rw [decide_eq_false hpl] at HIN
     clear hf hAt HR HQ hpl
     generalize d.1.length=n at*
     generalize d.2.length=m at*
     go_enter Tryz.func123,Tryz.ntmps123
     go_wp2_with fail
     refine (HF.out _ (qab _ _)).mono ?_
     rintro e w1 ⟨rfl,hb1⟩
     have HB1:Hid (Below w.heap.size w w1):= (qab _ _).trans (hb1.mono (by simp))
     have y0:= (HX.out.later hb1) 0 _ rfl
     have y1:= (HX.out.later hb1) 1 _ rfl
     clear hb1
     go_wp2_with fail
     refine (HIN.out _).mono ?_
     rintro e w2 ⟨rfl,hb2⟩
     have HB2:Hid (Below w.heap.size w w2):=HB1.out.trans (hb2.mono HB1.out.size)
     clear hb2 y0 y1
     go_wp2
     go_ret
     exact ⟨rfl,HB2.out⟩
   · rw [decide_eq_true hpl] at HIN
     obtain ⟨j,rfl⟩: ∃j:Nat,x= (j:Int):= ⟨x.toNat,by omega⟩
     have hj:j<d.1.length:=by omega
     have HQ:Hid (qdG d (j:Int)=if (d.1[j]?.getD id0).1=2 then 0 else 9):=by unfold Hid;rw [HR.out,if_pos hf,if_pos hpl];rfl
     rw [HQ.out]
     have hjn: (j:Int)< ((d.1.length:Nat):Int):=by omega
     obtain ⟨b0,o0,rfl,hI⟩:=hAt j hj
     obtain ⟨aB,cB,_,_,kc,_⟩:=hI
     have HKC:Hid (_=some (Value.int .i64 (d.1[j]?.getD id0).1)):=kc
     clear kc hAt HR HQ hpl hf
     generalize (d.1[j]?.getD id0).1=kd at*
     generalize d.1.length=n at*
     generalize d.2.length=m at*
     by_cases hk:kd=2
     · rw [if_pos hk]
       have hb2: (kd !=2)=false:=by simpa using hk
       clear hk
       go_enter Tryz.func123,Tryz.ntmps123
       go_wp2_with fail
       refine (HF.out _ (qab _ _)).mono ?_
       rintro e w1 ⟨rfl,hb1⟩
       have HB1:Hid (Below w.heap.size w w1):= (qab _ _).trans (hb1.mono (by simp))
       have HX1:Hid (Bx w1 w.heap.size _):=HX.out.later hb1
       have y0:=HX1.out 0 _ rfl
       have y1:=HX1.out 1 _ rfl
       clear hb1
       go_wp2_with fail
       refine (HIN.out _).mono ?_
       rintro e w2 ⟨rfl,hb2⟩
       have HB2:Hid (Below w.heap.size w w2):=HB1.out.trans (hb2.mono HB1.out.size)
       have z0:= (HX1.out.later hb2) 0 _ rfl
       have z1:= (HX1.out.later hb2) 1 _ rfl
       have kc2:=cell_later HB2.out HKC.out
       clear hb2 y0 y1
       go_wp2
       go_ret
       exact ⟨rfl,HB2.out⟩
     · rw [if_neg hk]
       have hb2: (kd !=2)=true:=by simpa using hk
       clear hk
       go_enter Tryz.func123,Tryz.ntmps123
       go_wp2_with fail
       refine (HF.out _ (qab _ _)).mono ?_
       rintro e w1 ⟨rfl,hb1⟩
       have HB1:Hid (Below w.heap.size w w1):= (qab _ _).trans (hb1.mono (by simp))
       have HX1:Hid (Bx w1 w.heap.size _):=HX.out.later hb1
       have y0:=HX1.out 0 _ rfl
       have y1:=HX1.out 1 _ rfl
       clear hb1
       go_wp2_with fail
       refine (HIN.out _).mono ?_
       rintro e w2 ⟨rfl,hb2⟩
       have HB2:Hid (Below w.heap.size w w2):=HB1.out.trans (hb2.mono HB1.out.size)
       have z0:= (HX1.out.later hb2) 0 _ rfl
       have z1:= (HX1.out.later hb2) 1 _ rfl
       have kc2:=cell_later HB2.out HKC.out
       clear hb2 y0 y1
       go_wp2
       go_ret
       exact ⟨rfl,HB2.out⟩

set_option maxHeartbeats 1600000 in
theorem qfk (w:World) (a1:Option Addr) (n1 c1:Nat) (a2:Option Addr) (n2 c2:Nat) (d:FD) (x:Int) (s:ByteArray) (h:FsR w (.slice a1 n1 c1) (.slice a2 n2 c2) d) (hsi:qag d.1≤1048576) (hs:s.size≤maxLen):
 Calls Tryz.prog 95 #[.agg #[.slice a1 n1 c1, .slice a2 n2 c2], .int .i64 x, .string s] w fun e w'=>e= .returned (.int .i64 (qgp d x s))∧Below w.heap.size w w':=by
 have HF:Hid (∀W,Below w.heap.size w W→Calls Tryz.prog 123 #[.agg #[.slice a1 n1 c1, .slice a2 n2 c2], .int .i64 x] W fun e w'=>e= .returned (.int .i64 (qdG d x))∧Below W.heap.size W w'):=fun W hW=>qeU W _ _ _ _ _ _ d x (h.later hW) hsi
 have HN:Hid (∀W,Calls Tryz.prog 124 #[.string s] W fun e w'=>e= .returned (.int .i64 (qal s))∧w'=W):=fun W=>qaZ W s hs
 have HR:Hid (qgp d x s=if qdG d x=0 then qal s else qdG d x):=rfl
 rw [HR.out]
 clear h hsi hs HR
 generalize qdG d x=r at*
 generalize qal s=q at*
 by_cases hr:r=0
 · rw [if_pos hr]
   subst hr
   go_enter Tryz.func95,Tryz.ntmps95
   go_wp2_with fail
   first
    |refine (HF.out _ (qab _ _)).mono ?_
    |refine (HF.out _ (Below.refl _ _)).mono ?_
   rintro e w1 ⟨rfl,hb1⟩
   have HB1:Hid (Below w.heap.size w w1):=by first|exact (qab _ _).trans (hb1.mono (by simp))|exact hb1
   clear hb1
   go_wp2_with fail
   refine (HN.out _).mono ?_
   rintro e w2 ⟨rfl,rfl⟩
   go_wp2
   go_ret
   exact ⟨rfl,HB1.out⟩
 · rw [if_neg hr]
   have hb: (r !=0)=true:=by simpa using hr
   clear hr
   go_enter Tryz.func95,Tryz.ntmps95
   go_wp2_with fail
   first
    |refine (HF.out _ (qab _ _)).mono ?_
    |refine (HF.out _ (Below.refl _ _)).mono ?_
   rintro e w1 ⟨rfl,hb1⟩
   have HB1:Hid (Below w.heap.size w w1):=by first|exact (qab _ _).trans (hb1.mono (by simp))|exact hb1
   clear hb1
   go_wp2
   go_ret
   exact ⟨rfl,HB1.out⟩

end Go.Proofs.YthnmlipnoajmkaaGreatDoor

namespace Go.Proofs.YthnmlipnoajmkaaGreatDoor
open Go.RowKit
set_option maxRecDepth 100000

set_option maxHeartbeats 1600000 in
theorem qd6 (w:World) (a:Option Addr) (n c:Nat) (es:List EN) (s:ByteArray) (hn:es.length=n) (hm:n≤4294967296) (hat:AtN w a n es):
 Calls Tryz.prog 96 #[.slice a n c, .string s] w fun e w'=>e= .returned (.tuple #[.int .i64 ((plcE es s:Nat):Int), .bool (qm5 es s)])∧Below w.heap.size w w':=by
 have HAT:Hid (AtN w a n es):=hat
 have HN:Hid (es.length=n):=hn
 clear hat hn
 go_enter Tryz.func96,Tryz.ntmps96
 go_wp2
 go_loopw [10] (fun i wr=> ∃k:Nat,k≤n∧i= .int .i64 k∧Below w.heap.size w wr∧ ∀j,j<k→geE s (es[j]?.getD en0)=false) (fun i _=>n- (intOf i).toNat)
 case atStart=>exact ⟨0,Nat.zero_le _,rfl,Below.refl _ _,fun j hj=>by omega⟩
 case round=>
  obtain ⟨k,hk,rfl,hbl,hz⟩:=hrel
  have HBL:Hid (Below w.heap.size w wr):=hbl
  have HZ:Hid (∀j,j<k→geE s (es[j]?.getD en0)=false):=hz
  clear hbl hz
  by_cases hlt:k<n
  · obtain ⟨b,off,rfl,c0,c1⟩:=HAT.out k hlt
    replace c0:=cell_later HBL.out c0
    replace c1:=cell_later HBL.out c1
    have HBX:Hid (∀o:Obj,Below w.heap.size w (wr.alloc o)):=fun o=>HBL.out.trans ((qab _ _).mono HBL.out.size)
    cases hge:geE s (es[k]?.getD en0) with
    | false=>
      have HNX:Hid (∀j,j<k+1→geE s (es[j]?.getD en0)=false):=fun j hj=>by
       by_cases e:j=k
       · rw [e];exact hge
       · exact HZ.out j (by omega)
      have hlt2:Op.bytesLess (es[k]?.getD en0).1.toList s.toList=true:=by unfold geE at hge;simpa using hge
      clear hge HZ
      generalize (es[k]?.getD en0).1=x at*
      generalize (es[k]?.getD en0).2=y at*
      go_wp2
      go_roundw
      case rel=>exact ⟨k+1,by omega,by go_num,HBX.out _,HNX.out⟩
      case measure=>simp [intOf];omega
    | true=>
      have HP:Hid (plcE es s=k):=qcL (by rw [HN.out];exact hlt) hge HZ.out
      have HF:Hid (qm5 es s= ((es[k]?.getD en0).1.toList==s.toList)):=by
       unfold Hid qm5
       rw [HP.out,decide_eq_true (by rw [HN.out];exact hlt),Bool.true_and]
       rfl
      have hlt2:Op.bytesLess (es[k]?.getD en0).1.toList s.toList=false:=by unfold geE at hge;simpa using hge
      clear hge HZ
      generalize (es[k]?.getD en0).1=x at*
      generalize (es[k]?.getD en0).2=y at*
      go_wp2_with fail
      go_quiet (fail)
      go_wp2
      go_ret2
      exact ⟨by rw [HP.out,HF.out];rfl,below_drewN (HBX.out _) _⟩
  · have e:k=n:=by omega
    have HP:Hid (plcE es s=n):=by
     have:=qdF (p:=geE s) (es:=es) fun j hj=>HZ.out j (by rw [HN.out] at hj;omega)
     rw [HN.out] at this
     exact this
    have HF:Hid (qm5 es s=false):=by unfold Hid qm5;rw [HP.out,decide_eq_false (by rw [HN.out];omega)];rfl
    subst e
    clear HZ
    go_wp2
    go_ret2
    exact ⟨by rw [HP.out,HF.out];rfl,HBL.out⟩

def at8 (es:List EN) (s:ByteArray):Int:=if idxE es s<es.length then ((idxE es s:Nat):Int) else -1
set_option maxHeartbeats 1600000 in
theorem qbN (w:World) (a:Option Addr) (n c:Nat) (es:List EN) (s:ByteArray) (hn:es.length=n) (hm:n≤4294967296) (hat:AtN w a n es):
 Calls Tryz.prog 43 #[.slice a n c, .string s] w fun e w'=>e= .returned (.int .i64 (at8 es s))∧w'=w:=by
 have HAT:Hid (AtN w a n es):=hat
 have HN:Hid (es.length=n):=hn
 clear hat hn
 go_enter Tryz.func43,Tryz.ntmps43
 go_wp2
 go_loop [5] (fun i=> ∃k:Nat,k≤n∧i= .int .i64 k∧ ∀j,j<k→eqE s (es[j]?.getD en0)=false) (fun i=>n- (intOf i).toNat)
 case atStart=>exact ⟨0,Nat.zero_le _,rfl,fun j hj=>by omega⟩
 case round=>
  obtain ⟨k,hk,rfl,hz⟩:=hrel
  have HZ:Hid (∀j,j<k→eqE s (es[j]?.getD en0)=false):=hz
  clear hz
  by_cases hlt:k<n
  · obtain ⟨b,off,rfl,c0,c1⟩:=HAT.out k hlt
    cases hge:eqE s (es[k]?.getD en0) with
    | false=>
      have HNX:Hid (∀j,j<k+1→eqE s (es[j]?.getD en0)=false):=fun j hj=>by
       by_cases e:j=k
       · rw [e];exact hge
       · exact HZ.out j (by omega)
      have hlt2: ((es[k]?.getD en0).1.toList==s.toList)=false:=hge
      clear hge HZ c1
      generalize (es[k]?.getD en0).1=x at*
      go_wp2
      go_round
      case rel=>exact ⟨k+1,by omega,by go_num,HNX.out⟩
      case measure=>simp [intOf];omega
    | true=>
      have HP:Hid (at8 es s= (k:Int)):=by
       have h1:idxE es s=k:=qcL (by rw [HN.out];exact hlt) hge HZ.out
       unfold Hid at8
       rw [h1,if_pos (by rw [HN.out];exact hlt)]
      have hlt2: ((es[k]?.getD en0).1.toList==s.toList)=true:=hge
      clear hge HZ c1
      generalize (es[k]?.getD en0).1=x at*
      go_wp2
      go_ret
      exact ⟨qad HP.out.symm,rfl⟩
  · have HP:Hid (at8 es s= -1):=by
     have h1:idxE es s=es.length:=qdF (p:=eqE s) (es:=es) fun j hj=>HZ.out j (by rw [HN.out] at hj;omega)
     unfold Hid at8
     rw [h1,if_neg (by omega)]
    clear HZ
    go_wp2
    go_ret
    exact ⟨qad HP.out.symm,rfl⟩

theorem FsR.dir {w:World} {a1:Option Addr} {n1 c1:Nat} {v2:Value} {d:FD} (h:FsR w (.slice a1 n1 c1) v2 d) {j:Nat} (hj:j<d.1.length): ∃b0 o0 aE cE,a1=some ⟨b0,o0,none⟩∧n1=d.1.length∧w.cell? ⟨b0,o0+j*5+4,none⟩=some (.slice aE (qac d j).length cE)∧qdw w (.slice aE (qac d j).length cE) (qac d j):=by
 obtain ⟨_,_,e1,_,hAt⟩:=h.1.open'
 simp only [Value.slice.injEq] at e1
 obtain ⟨rfl,rfl,rfl⟩:=e1
 obtain ⟨b0,o0,rfl,hI⟩:=hAt j hj
 obtain ⟨aB,cB,aE,cE,_,_,_,_,k4,hR⟩:=hI
 exact ⟨b0,o0,aE,cE,rfl,rfl,k4,hR.2.2⟩

end Go.Proofs.YthnmlipnoajmkaaGreatDoor

namespace Go.Proofs.YthnmlipnoajmkaaGreatDoor
open Go.RowKit
set_option maxRecDepth 100000

set_option maxHeartbeats 3200000 in
theorem qlL (w:World) (b:Nat) (d:FD) (aI:Option Addr) (cI:Nat) (aD:Option Addr) (cD:Nat) (hx:FsX w b 0 d aI cI aD cD) (hok:FsOk d) (aN:Option Addr) (mN cN:Nat) (xs:List (List UInt8)) (hmN:xs.length=mN) (hmx:mN≤1048577) (hat:AtT w aN mN xs):
 Calls Tryz.prog 80 #[.pointer (some ⟨b,0,none⟩), .slice aN mN cN] w fun e w'=>e= .returned (.tuple #[.int .i64 (wkR d.1 0 xs).2, .int .i64 (wkR d.1 0 xs).1])∧ ∃q,w'=w.drewN q:=by
 obtain ⟨f0,-,hI,-⟩:=hx
 obtain ⟨_,_,e1,-,hAt⟩:=hI.open'
 simp only [Value.slice.injEq] at e1
 obtain ⟨rfl,-,rfl⟩:=e1
 have HAI:Hid (AtI w aI d.1.length d.1):=hAt
 have HAT:Hid (AtT w aN mN xs):=hat
 have HM:Hid (xs.length=mN):=hmN
 have HR:Hid (qa8 d.1):=hok.rng
 have H6:Hid (∀i:Nat,(d.1[i]?.getD id0).2.2.2.2.length≤6):=qhM hok
 have hpos:=hok.pos
 have hten:=hok.ten
 obtain ⟨RES,hRES⟩: ∃RES,wkR d.1 0 xs=RES:= ⟨_,rfl⟩
 have HRES:Hid (wkR d.1 0 xs=RES):=hRES
 rw [hRES]
 clear hRES hI hAt hat hmN hok
 obtain ⟨n,hn⟩: ∃n,d.1.length=n:= ⟨_,rfl⟩
 have HN:Hid (d.1.length=n):=hn
 rw [hn] at f0 HAI hpos hten
 clear hn
 go_enter Tryz.func80,Tryz.ntmps80
 go_wp2_with fail
 go_loopw [6,7] (fun va vi wr=> ∃q t m:Nat,q≤mN∧t<n∧va= .int .i64 (t:Int)∧vi= .int .i64 (q:Int)∧wr=w.drewN m∧wkR d.1 t (xs.drop q)=RES) (fun _ vi _=>mN- (intOf vi).toNat)
 case atStart=>exact ⟨0,0,0,Nat.zero_le _,hpos,rfl,rfl,rfl,HRES.out⟩
 case round=>
  obtain ⟨q,t,m,hq,ht,rfl,rfl,rfl,hz⟩:=hrel
  have HZ:Hid (wkR d.1 t (xs.drop q)=RES):=hz
  clear hz
  by_cases hlt:q<mN
  · have HDC:Hid (xs.drop q=xs[q]?.getD []::xs.drop (q+1)):=qiR (by rw [HM.out];exact hlt)
    obtain ⟨bn,on,rfl,c0⟩:=HAT.out q hlt
    obtain ⟨bI,oI,rfl,hIt⟩:=HAI.out t ht
    obtain ⟨aB,cB,aE,cE,k0,-,-,-,k4,h5⟩:=hIt
    obtain ⟨_,_,e3,-,-,hEt⟩:=h5.2.2.open'
    simp only [Value.slice.injEq] at e3
    obtain ⟨rfl,-,rfl⟩:=e3
    generalize hs:xs[q]?.getD []=s at*
    clear hs
    have htI: (t:Int)< (n:Int):=by omega
    have hqI: (q:Int)< (mN:Int):=by omega
    have hE6:=H6.out t
    have HST:Hid (RES=if (d.1[t]?.getD id0).1=2 then (if idxE (d.1[t]?.getD id0).2.2.2.2 (mkB s)< (d.1[t]?.getD id0).2.2.2.2.length then wkR d.1 ((d.1[t]?.getD id0).2.2.2.2[idxE (d.1[t]?.getD id0).2.2.2.2 (mkB s)]?.getD en0).2.toNat (xs.drop (q+1)) else (4,0)) else (9,0)):=by
     unfold Hid
     rw [←HZ.out,HDC.out];rfl
    by_cases hk: (d.1[t]?.getD id0).1=2
    rotate_left
    · have hkb: ((d.1[t]?.getD id0).1 !=2)=true:=by simpa using hk
      have HRR:Hid (RES= (9,0)):=by unfold Hid;rw [HST.out,if_neg hk]
      clear HST hk
      generalize (d.1[t]?.getD id0).1=kd at*
      go_wp2
      go_ret2
      exact ⟨by rw [HRR.out];rfl,_,rfl⟩
    · have hkb: ((d.1[t]?.getD id0).1 !=2)=false:=by simpa using hk
      rw [if_pos hk] at HST
      have HL8:Hid (∀m,Calls Tryz.prog 43 #[.slice aE (d.1[t]?.getD id0).2.2.2.2.length cE, .string (mkB s)] (w.drewN m) fun e w'=>e= .returned (.int .i64 (at8 (d.1[t]?.getD id0).2.2.2.2 (mkB s)))∧w'=w.drewN m):=fun m=>qbN (w.drewN m) aE _ cE _ (mkB s) rfl (by omega) (hEt.later (below_drewN (Below.refl _ _) m))
      have HEN:Hid (AtN w aE (d.1[t]?.getD id0).2.2.2.2.length (d.1[t]?.getD id0).2.2.2.2):=hEt
      by_cases hi:idxE (d.1[t]?.getD id0).2.2.2.2 (mkB s)< (d.1[t]?.getD id0).2.2.2.2.length
      · have ha8:at8 (d.1[t]?.getD id0).2.2.2.2 (mkB s)= ((idxE (d.1[t]?.getD id0).2.2.2.2 (mkB s):Nat):Int):=by unfold at8;rw [if_pos hi]
        rw [ha8] at HL8
        rw [if_pos hi] at HST
        obtain ⟨y,hy,hyn⟩:=qhJ HR.out (by rw [HN.out];exact ht) hi
        obtain ⟨b1,o1,rfl,-,d1⟩:=HEN.out _ hi
        rw [hy] at d1 HST
        rw [Int.toNat_natCast] at HST
        rw [HN.out] at hyn
        clear hk hy ha8 hEt h5 HZ
        generalize idxE (d.1[t]?.getD id0).2.2.2.2 (mkB s)=k at*
        generalize (d.1[t]?.getD id0).2.2.2.2.length=nE at*
        generalize (d.1[t]?.getD id0).1=kd at*
        go_wp2_with fail
        go_quiet ((go_at_call 43;exact qfB (HL8.out _)))
        go_wp2
        go_roundw
        case rel=>exact ⟨q+1,y,_,by omega,hyn,rfl,by go_num,by first|rfl|rw [World.drewN_drewN],HST.out.symm⟩
        case measure=>simp [intOf];omega
      · have ha8:at8 (d.1[t]?.getD id0).2.2.2.2 (mkB s)= -1:=by unfold at8;rw [if_neg hi]
        rw [ha8] at HL8
        have HRR:Hid (RES= (4,0)):=by unfold Hid;rw [HST.out,if_neg hi]
        clear HST hk ha8 hEt h5 HZ hi
        generalize (d.1[t]?.getD id0).2.2.2.2.length=nE at*
        generalize (d.1[t]?.getD id0).1=kd at*
        go_wp2_with fail
        go_quiet ((go_at_call 43;exact qfB (HL8.out _)))
        go_wp2
        go_ret2
        exact ⟨by rw [HRR.out];rfl,_,by first|rfl|rw [World.drewN_drewN]⟩
  · have HRR:Hid (RES= (0,(t:Int))):=by
     unfold Hid
     rw [←HZ.out,List.drop_of_length_le (by rw [HM.out];omega)];rfl
    go_wp2
    go_ret2
    exact ⟨by rw [HRR.out];rfl,_,rfl⟩
end Go.Proofs.YthnmlipnoajmkaaGreatDoor

namespace Go.Proofs.YthnmlipnoajmkaaGreatDoor
open Go.RowKit
set_option maxRecDepth 100000

def qp6 (d:FD) (p:List UInt8):Int×Int:=if qan p=0 then wkR d.1 0 (qah p) else (qan p,0)
theorem qf7 {ds:List ID}: ∀ (xs:List (List UInt8)) (t:Nat),¬ (wkR ds t xs).1=0→ (wkR ds t xs).2=0
 | [],_,h=>absurd rfl h
 | s ::ns,t,h=>by
   unfold wkR at h ⊢
   split
   · rename_i hk
     rw [if_pos hk] at h
     split
     · rename_i hi
       rw [if_pos hi] at h
       exact qf7 ns _ h
     · rfl
   · rfl
theorem qsD (d:FD) (p:List UInt8): (if (qp6 d p).1=0 then (0,(qp6 d p).2) else ((qp6 d p).1,0))=qp6 d p:=by
 unfold qp6
 by_cases h0:qan p=0
 · rw [if_pos h0]
   by_cases h1: (wkR d.1 0 (qah p)).1=0
   · rw [if_pos h1];exact Prod.ext h1.symm rfl
   · rw [if_neg h1];exact Prod.ext rfl (qf7 _ _ h1).symm
 · rw [if_neg h0,if_neg h0]
theorem qsb (d:FD) (s:ByteArray):qf6 d s=if fsF d=0 then qp6 d s.data.toList else (fsF d,0):=by
 unfold qf6 qgT qp6
 by_cases h0:fsF d=0
 · rw [if_pos h0,if_pos h0]
 · rw [if_neg h0,if_neg h0,if_neg h0]
end Go.Proofs.YthnmlipnoajmkaaGreatDoor

namespace Go.Proofs.YthnmlipnoajmkaaGreatDoor
open Go.RowKit
set_option maxRecDepth 100000

abbrev ST:=Int×Int×Int×Int×Int
def qsE (d:FD) (y:Nat):ST:= (0,(y:Int),(d.1[y]?.getD id0).1,if (d.1[y]?.getD id0).1=2 then 1 else (d.1[y]?.getD id0).2.1,if (d.1[y]?.getD id0).1=2 then (((d.1[y]?.getD id0).2.2.2.2.length:Nat):Int) else (d.1[y]?.getD id0).2.2.1)
def qtc (d:FD) (s:ByteArray):ST:=if (qf6 d s).1=0 then qsE d (qf6 d s).2.toNat else ((qf6 d s).1,0,0,0,0)
theorem qqE {d:FD} {s:ByteArray} (h: (qf6 d s).1=0):FsOk d∧ ∃y:Nat,(qf6 d s).2= (y:Int)∧y<d.1.length:=by
 unfold qf6 at h ⊢
 by_cases h0:qgT d s.data.toList=0
 · rw [if_pos h0] at h ⊢
   have hok:=qf2 (qhI (qo9 h0).1)
   exact ⟨hok,qiQ hok.rng _ 0 hok.pos h⟩
 · rw [if_neg h0] at h;exact absurd h h0
theorem qsU (w:World) (t:TypeId):qaa (w.alloc (.cells #[.int .i64 0, .int .i64 0, .int .i64 0, .int .i64 0, .int .i64 0] t)) w.heap.size 5 (fun _=> .int .i64 0):=
 ⟨_,t,World.alloc_heap_new w _,by simp,fun i hi=>by
   match i,hi with
   |0,_=>rfl
   |1,_=>rfl
   |2,_=>rfl
   |3,_=>rfl
   |4,_=>rfl⟩
theorem qsV {w W:World} {g:Nat} (hB:Below w.heap.size w W) (hg:w.heap.size≤g) (a b c d e:Value):Below w.heap.size w (((((W.setCell ⟨g,0,none⟩ a).setCell ⟨g,1,none⟩ b).setCell ⟨g,2,none⟩ c).setCell ⟨g,3,none⟩ d).setCell ⟨g,4,none⟩ e):= ((((hB.setCell hg _).setCell hg _).setCell hg _).setCell hg _).setCell hg _
end Go.Proofs.YthnmlipnoajmkaaGreatDoor

namespace Go.Proofs.YthnmlipnoajmkaaGreatDoor
open Go.RowKit
set_option maxRecDepth 100000

structure YRow (C:Nat→Value→List Value) (w:World) (base lo:Nat) (e:TypeId) (size:Nat) (v:Value) (n:Nat) (f:Nat→List UInt8) (k:Nat→Nat) (u:Nat→Value):Prop where
 own:w.ownsRow base e size v n ((List.range n).flatMap fun i=>C i (u i))
 lo: ∀i,i<n→lo≤k i∧k i<w.heap.size
 ne: ∀i,i<n→v.ownBlock≠some (k i)
 inj: ∀i j,i<n→j<n→i≠j→k i≠k j
 sh: ∀i,i<n→ ∃a c,u i= .slice a (f i).length c
 at': ∀i,i<n→qbt w (u i) (f i) (fun c=>c=k i)

theorem YRow.nil {C:Nat→Value→List Value} (w:World) (base lo:Nat) (e:TypeId) (size:Nat) (f:Nat→List UInt8):YRow C w base lo e size (.slice none 0 0) 0 f (fun _=>0) (fun _=> .slice none 0 0):=
 ⟨World.ownsRow_nil _ _ _ _,fun i hi=>by omega,fun i hi=>by omega,fun i j hi=>by omega,fun i hi=>by omega,fun i hi=>by omega⟩
theorem YRow.keep {C:Nat→Value→List Value} {w w':World} {base lo:Nat} {e:TypeId} {size:Nat} {v:Value} {n:Nat} {f:Nat→List UInt8} {k:Nat→Nat} {u:Nat→Value} (h:YRow C w base lo e size v n f k u) (hs:w.heap.size≤w'.heap.size)
 (hrow: ∀g,v.ownBlock=some g→w'.heap[g]?=w.heap[g]?) (hk: ∀i,i<n→w'.heap[k i]?=w.heap[k i]?):YRow C w' base lo e size v n f k u:=by
 refine ⟨?_,fun i hi=> ⟨(h.lo i hi).1,Nat.lt_of_lt_of_le (h.lo i hi).2 hs⟩,h.ne,h.inj,h.sh,fun i hi=> (h.at' i hi).keep fun b hb _=>by rw [hb];exact hk i hi⟩
 obtain ⟨h1,h2⟩:=h.own
 refine ⟨h1, ?_⟩
 rcases h2 with h2| ⟨g,cap,cur,hv,hg,hh,r⟩
 · exact Or.inl h2
 · exact Or.inr ⟨g,cap,cur,hv,hg,by rw [hrow g (by rw [hv];rfl)];exact hh,r⟩
theorem YRow.later {C:Nat→Value→List Value} {w w':World} {base lo:Nat} {e:TypeId} {size:Nat} {v:Value} {n:Nat} {f:Nat→List UInt8} {k:Nat→Nat} {u:Nat→Value} (h:YRow C w base lo e size v n f k u) (hb:Below w.heap.size w w'):YRow C w' base lo e size v n f k u:=
 h.keep hb.size (fun g hg=>hb.block g (h.own.lt g hg).2) (fun i hi=>hb.block _ (h.lo i hi).2)
theorem YRow.store {C:Nat→Value→List Value} {w:World} {base lo:Nat} {e:TypeId} {size:Nat} {v:Value} {n:Nat} {f:Nat→List UInt8} {k:Nat→Nat} {u:Nat→Value} (h:YRow C w base lo e size v n f k u) {p:Addr} (h1:p.block<base) (h2:p.block<lo) (x:Value):YRow C (w.setCell p x) base lo e size v n f k u:=
 h.keep (by simp [World.setCell]) (fun g hg=>Below.heap_setCell _ _ _ _ (by have:= (h.own.lt g hg).1;omega)) (fun i hi=>Below.heap_setCell _ _ _ _ (by have:= (h.lo i hi).1;omega))
theorem YRow.shape {C:Nat→Value→List Value} {w:World} {base lo:Nat} {e:TypeId} {size:Nat} {v:Value} {n:Nat} {f:Nat→List UInt8} {k:Nat→Nat} {u:Nat→Value} (h:YRow C w base lo e size v n f k u): ∃a c,v= .slice a n c:=by
 rcases h.own.2 with ⟨rfl,rfl⟩| ⟨g,c,cur,rfl,_⟩
 · exact ⟨_,_,rfl⟩
 · exact ⟨_,_,rfl⟩

theorem YRow.append {C:Nat→Value→List Value} (w w1:World) (t ty e:TypeId) (i:TypeInfo) (z:Value) (size bytes:Nat) (ht:Tryz.prog.underlying t=some (.slice e)) (hi:Tryz.prog.info? e=some i) (hz:i.zero=some z) (hsize:i.size=size) (hby:i.bytes=bytes) (hzs:z.cells.size=size) (hsz:0<size) (hbb:bytes≤1000)
 (base lo n:Nat) (v:Value) (f:Nat→List UInt8) (k:Nat→Nat) (u:Nat→Value) (h:YRow C w base lo e size v n f k u) (hb:base≤w.heap.size) (hn:n≤1048600) (hb1:Below w.heap.size w w1)
 (a:Option Addr) (c:Nat) (hlen: (C n (.slice a (f n).length c)).length=size) (hone: ∀x∈C n (.slice a (f n).length c),x.oneCell'=true) (kb:Nat) (hk1:lo≤kb) (hk2:kb≤w1.heap.size) (hk3:v.ownBlock≠some kb) (hk4: ∀i,i<n→k i≠kb) (hf:qbt w1 (.slice a (f n).length c) (f n) (fun x=>x=kb)):
 ∃ g cap X,(Builtin.append_ #[t,t] ty #[v, .slice (some ⟨w1.heap.size,0,none⟩) 1 1]).run Tryz.prog (w1.alloc (.cells (C n (.slice a (f n).length c)).toArray e))= .ok (.slice (some ⟨g,0,none⟩) (n+1) cap) X∧
  (∀b,b<w1.heap.size→v.ownBlock≠some b→X.heap[b]?=w1.heap[b]?)∧Below base w X∧w1.heap.size<X.heap.size∧
  YRow C X base lo e size (.slice (some ⟨g,0,none⟩) (n+1) cap) (n+1) f (fun j=>if j=n then kb else k j) (fun j=>if j=n then .slice a (f n).length c else u j):=by
 have hsz1:=hb1.size
 have hbW:Below w.heap.size w (w1.alloc (.cells (C n (.slice a (f n).length c)).toArray e)):=hb1.trans ((qab _ _).mono hb1.size)
 have hW:=h.later hbW
 obtain ⟨g,cap,X,hr,ho,hg,hat,hgX⟩:=run_append_lies (P:=Tryz.prog) (w1.alloc (.cells (C n (.slice a (f n).length c)).toArray e)) t ty base e i z size bytes ht hi hz hsize hby hzs hsz v n _ hW.own ⟨w1.heap.size,0,none⟩ 1 1 (C n (.slice a (f n).length c)) (by rw [hlen,Nat.one_mul])
  (fun j x hx=>by
    rw [qaA,Nat.zero_add,qar]
    simpa using hx) hone (by decide) (by unfold maxLen;omega) (by have: (n+1)*bytes≤1048601*1000:=Nat.mul_le_mul (by omega) hbb;omega) (by simp;omega) (w1.heap.size+1) (by simp)
 have hrow: ∀g,v.ownBlock=some g→g<w.heap.size:=fun g hg=> (h.own.lt g hg).2
 have hrowb: ∀g,v.ownBlock=some g→base≤g:=fun g hg=> (h.own.lt g hg).1
 have hXb: ∀b,b<w1.heap.size→v.ownBlock≠some b→X.heap[b]?=w1.heap[b]?:=fun b hb' hne=> (hg.block b (by simp;omega) (fun e=>hne e.symm)).trans ((qab _ _).block b hb')
 have hne: ∀b,b≤w1.heap.size→v.ownBlock≠some b→g≠b:=by
  intro b hb' hb2 e
  subst e
  rcases hat with h|h
  · exact hb2 h
  · omega
 have old: ∀b,b<w.heap.size→v.ownBlock≠some b→X.heap[b]?=w.heap[b]?:=fun b hb' hne=> (hXb b (by omega) hne).trans (hb1.block b hb')
 have hXs:w1.heap.size<X.heap.size:=by have:=hg.size;simp at this;omega
 refine ⟨g,cap,X,hr,hXb,(hbW.mono hb).trans (qaw hg (by simp;omega) (fun g hg'=>hrowb g hg')),hXs,⟨?_,fun j hj=> ?_,fun j hj=> ?_,fun j j' hj hj' e=> ?_,fun j hj=> ?_,fun j hj=> ?_⟩⟩
 · rw [List.range_succ,List.flatMap_append]
   have e1: (List.range n).flatMap (fun i=>C i (if i=n then .slice a (f n).length c else u i))= (List.range n).flatMap (fun i=>C i (u i)):=by
    have e0: (List.range n).map (fun i=>C i (if i=n then .slice a (f n).length c else u i))= (List.range n).map (fun i=>C i (u i)):=List.map_congr_left fun i hi=>by rw [if_neg (by have:=List.mem_range.1 hi;omega)]
    rw [List.flatMap_def,List.flatMap_def,e0]
   have e2: [n].flatMap (fun i=>C i (if i=n then .slice a (f n).length c else u i))=C n (.slice a (f n).length c):=by simp only [List.flatMap_cons,List.flatMap_nil,List.append_nil,if_true]
   rw [e1,e2]
   exact ho
 · by_cases e:j=n
   · subst e;simp;omega
   · have:=h.lo j (by omega);simp [e];omega
 · by_cases e:j=n
   · subst e
     simp only [if_true]
     exact fun e=>hne kb hk2 hk3 (by simpa [Value.ownBlock] using e)
   · have hj':j<n:=by omega
     have hl:=h.lo j hj'
     simp only [e,if_false]
     exact fun e=>hne (k j) (by omega) (h.ne j hj') (by simpa [Value.ownBlock] using e)
 · by_cases e1:j=n
   · by_cases e2:j'=n
     · omega
     · simp [e1,e2];exact fun e=>hk4 j' (by omega) e.symm
   · by_cases e2:j'=n
     · simp [e1,e2];exact hk4 j (by omega)
     · simp [e1,e2];exact h.inj j j' (by omega) (by omega) e
 · by_cases e:j=n
   · subst e;exact ⟨a,c,by simp⟩
   · simp only [e,if_false];exact h.sh j (by omega)
 · by_cases e:j=n
   · subst e
     simp only [if_true]
     exact hf.keep fun b hb' hlt'=>by subst hb';exact hXb _ hlt' hk3
   · have hj':j<n:=by omega
     simp only [e,if_false]
     exact (h.at' j hj').keep fun b hb' hlt'=>by rw [hb'];exact old _ (h.lo j hj').2 (h.ne j hj')

theorem qbt.one {w w1:World} {v:Value} {zs:List UInt8} (h:qbt w1 v zs (qaj w w1)) (hlt:w.heap.size<w1.heap.size): ∃kb,w.heap.size≤kb∧kb<w1.heap.size∧qbt w1 v zs (fun c=>c=kb):=by
 rcases h with h| ⟨b,cap,hF,r⟩
 · exact ⟨w.heap.size,Nat.le_refl _,hlt,Or.inl h⟩
 · exact ⟨b,hF.1,hF.2,Or.inr ⟨b,cap,rfl,r⟩⟩

theorem YRow.cells {C:Nat→Value→List Value} {w:World} {base lo:Nat} {e:TypeId} {size:Nat} {v:Value} {n:Nat} {f:Nat→List UInt8} {k:Nat→Nat} {u:Nat→Value} (h:YRow C w base lo e size v n f k u) (hsz:0<size) (hC: ∀i,(C i (u i)).length=size) (hn:0<n):
 ∃g cap,v= .slice (some ⟨g,0,none⟩) n cap∧base≤g∧g<w.heap.size∧n≤maxLen∧n≤cap∧qaa w g (n*size) (fun c=> (C (c/size) (u (c/size)))[c % size]?.getD undef):=by
 obtain ⟨hl,h2| ⟨g,cap,cur,rfl,hb,hh,hnc,hcm,hcs,htake⟩⟩:=h.own
 · omega
 · have hle:n*size≤cap*size:=Nat.mul_le_mul_right _ hnc
   refine ⟨g,cap,rfl,hb,(Array.getElem?_eq_some_iff.1 hh).1,by omega,hnc,cur,e,hh,by omega,fun c hc=> ?_⟩
   have hd:c/size<n:=by rw [Nat.div_lt_iff_lt_mul hsz];exact hc
   have hm:c % size<size:=Nat.mod_lt _ hsz
   have hg:=qkH hsz u hC n (c/size) (c % size) hd hm
   rw [Nat.div_add_mod'] at hg
   have h1: ((List.range n).flatMap fun i=>C i (u i))[c]?=cur[c]?:=by rw [←htake,List.getElem?_take,if_pos hc,Array.getElem?_toList]
   rw [h1] at hg
   have hlt:c<cur.size:=by omega
   show cur[c]?=some ((C (c/size) (u (c/size)))[c % size]?.getD undef)
   rw [←hg,Array.getElem?_eq_getElem hlt];rfl

theorem YRow.byts {w:World} {base lo:Nat} {e:TypeId} {v:Value} {n:Nat} {k:Nat→Nat} {u:Nat→Value} {zss:List (List UInt8)} (h:YRow C1 w base lo e 1 v n (fun i=>zss[i]?.getD []) k u) (hn:zss.length=n) (F:Nat→Prop) (hF: ∀c,base≤c→c<w.heap.size→F c) (hF': ∀c,lo≤c→c<w.heap.size→F c):qaR w v zss F:=by
 subst hn
 by_cases h0:zss.length=0
 · obtain ⟨a,c,rfl⟩:=h.shape
   exact Or.inl ⟨List.eq_nil_of_length_eq_zero h0,a,c,by rw [h0]⟩
 · obtain ⟨g,cap,rfl,hb,hg,hm,hnc,hrow⟩:=h.cells (by decide) (fun _=>rfl) (by omega)
   refine Or.inr ⟨g,cap,u,fun i c=>i<zss.length∧c=k i,hF g hb hg,fun i c hc=> ?_,fun i j c e h1 h2=>h.inj i j h1.1 h2.1 e (h1.2.symm.trans h2.2),rfl,⟨hm,hnc⟩, ?_,fun i hi=> (h.at' i hi).mono fun c hc=> ⟨hi,hc⟩⟩
   · have hl:=h.lo i hc.1
     have hne:=h.ne i hc.1
     rw [hc.2]
     exact ⟨hF' _ hl.1 hl.2,fun e=>hne (by simp [Value.ownBlock,e])⟩
   · rw [Nat.mul_one] at hrow
     exact hrow.congr fun i hi=>by simp [C1,Nat.mod_one]
end Go.Proofs.YthnmlipnoajmkaaGreatDoor

namespace Go.Proofs.YthnmlipnoajmkaaGreatDoor
open Go.RowKit
set_option maxRecDepth 100000

theorem Tryz.infoU8L': ∃i,Tryz.prog.info? 27=some i∧i.zero=some (.slice none 0 0)∧i.size=1∧i.bytes=24:=by
 have h: (Tryz.prog.info? 27).map (fun i=> (i.zero,i.size,i.bytes))=some (some (.slice none 0 0),1,24):=by kernel_rfl
 rw [Option.map_eq_some_iff] at h
 obtain ⟨i,hi,e⟩:=h
 simp only [Prod.mk.injEq] at e
 exact ⟨i,hi,e.1,e.2.1,e.2.2⟩
theorem qsF (wr:World) (base n:Nat) (v:Value) (zss:List (List UInt8)) (k:Nat→Nat) (u:Nat→Value) (h:YRow C1 wr base base 27 1 v n (fun i=>zss[i]?.getD []) k u) (hb:base≤wr.heap.size) (hn:n≤1048576) (ua:Option Addr) (uc:Nat)
 (hy:Byt wr (.slice ua (zss[n]?.getD []).length uc) (zss[n]?.getD [])) (hl: (zss[n]?.getD []).length≤1048576):
 ∃ na nc X1 g cap X k' u',(Builtin.append_ #[27,27] 27 #[.slice (some ⟨wr.heap.size,0,none⟩) 0 0, .slice ua (zss[n]?.getD []).length uc]).run Tryz.prog (wr.drew.alloc (.cells #[] 5))= .ok (.slice na (zss[n]?.getD []).length nc) X1∧
  (Builtin.append_ #[23,23] 23 #[v, .slice (some ⟨X1.heap.size,0,none⟩) 1 1]).run Tryz.prog (X1.alloc (.cells #[.slice na (zss[n]?.getD []).length nc] 27))= .ok (.slice (some ⟨g,0,none⟩) (n+1) cap) X∧
  Below wr.heap.size wr X1∧Below base wr X∧YRow C1 X base base 27 1 (.slice (some ⟨g,0,none⟩) (n+1) cap) (n+1) (fun i=>zss[i]?.getD []) k' u':=by
 have hb0:Below wr.heap.size wr (wr.drew.alloc (.cells #[] 5)):= (Below.refl _ _).drew.trans (by simpa using qab wr.drew (.cells #[] 5))
 obtain ⟨v',X1,hr1,hw1,hB1⟩:=qn4 (wr.drew.alloc (.cells #[] 5)) wr.heap.size _ [] (zss[n]?.getD []) ua _ uc (WdY.lit0 wr.drew wr.heap.size (by simp)) (by simp) (by simp) hl (hy.later hb0)
 rw [List.nil_append] at hw1
 obtain ⟨na,nc,rfl⟩:=hw1.shape
 have hbX1:Below wr.heap.size wr X1:=hb0.trans hB1
 have hlt:wr.heap.size<X1.heap.size:=by have:=hB1.size;simp at this;omega
 obtain ⟨kb,hk1,hk2,hkf⟩:= (hw1.own (w0:=wr) (Nat.le_refl _)).one hlt
 obtain ⟨i,hi,h1,h2,h3⟩:=Tryz.infoU8L'
 obtain ⟨g,cap,X,hr2,_,hBX,_,hLX⟩:=YRow.append wr X1 23 23 27 i _ 1 24 Tryz.underlying23 hi h1 h2 h3 rfl (by decide) (by decide) base base n _ _ k u h hb (by omega) hbX1 na nc rfl (fun x hx=>by simp [C1] at hx;subst hx;rfl) kb (Nat.le_trans hb hk1) (Nat.le_of_lt hk2) (fun e=>by have:= (h.own.lt kb e).2;omega) (fun i hi e=>by have:= (h.lo i hi).2;omega) hkf
 refine ⟨na,nc,X1,g,cap,X,_,_, ?_,hr2,hbX1,hBX,hLX⟩
 simpa using hr1

def CpI (w:World) (d:FD) (vI vD:Value) (wr:World) (j:Nat):Prop:=
 Below w.heap.size w wr∧w.heap.size+3≤wr.heap.size∧qaa wr w.heap.size 2 (fun i=>if i=0 then vI else vD)∧qaa wr (w.heap.size+1) 2 (fun _=> .slice none 0 0)∧
  ∃aX cX u G,qaa wr (w.heap.size+2) 2 (fun i=>if i=0 then .slice aX j cX else .slice none 0 0)∧IRow wr (w.heap.size+3) (.slice aX j cX) j (fun i=>d.1[i]?.getD id0) u G
theorem CpI.next {w wr X:World} {d:FD} {vI vD:Value} {j g cap:Nat} {u':Nat→Value×Value} {G':Nat→Nat→Prop} (h:CpI w d vI vD wr j) (hX:Below (w.heap.size+3) wr X) (hL:IRow X (w.heap.size+3) (.slice (some ⟨g,0,none⟩) (j+1) cap) (j+1) (fun i=>d.1[i]?.getD id0) u' G'):
 CpI w d vI vD (X.setCell ⟨w.heap.size+2,0,none⟩ (.slice (some ⟨g,0,none⟩) (j+1) cap)) (j+1):=by
 obtain ⟨h1,h2,h3,h4,aX,cX,u,G,h5,_⟩:=h
 refine ⟨(h1.trans (hX.mono (by omega))).setCell (by simp) _, ?_,(h3.block (hX.block _ (by omega))).store (by simp) _,(h4.block (hX.block _ (by omega))).store (by simp) _,some ⟨g,0,none⟩,cap,u',G',((h5.block (hX.block _ (by omega))).set 0 _).congr fun i hi=> ?_,hL.store (by simp) _⟩
 · have:=hX.size;simp [World.setCell];omega
 · match i,hi with
   |0,_=>rfl
   |1,_=>rfl
theorem CpI.row {w wr:World} {d:FD} {vI vD:Value} {j:Nat} (h:CpI w d vI vD wr j): ∃aX cX,(wr.cell? ⟨w.heap.size,0,none⟩=some vI∧wr.cell? ⟨w.heap.size,1,none⟩=some vD∧wr.cell? ⟨w.heap.size+2,0,none⟩=some (.slice aX j cX)∧wr.frozen? ⟨w.heap.size+2,0,none⟩=false)∧ ∃u G,IRow wr (w.heap.size+3) (.slice aX j cX) j (fun i=>d.1[i]?.getD id0) u G:=by
 obtain ⟨_,_,h3,_,aX,cX,u,G,h5,h6⟩:=h
 exact ⟨aX,cX,⟨h3.cell (i:=0) (by omega),h3.cell (i:=1) (by omega),h5.cell (i:=0) (by omega),h5.frozen 0⟩,u,G,h6⟩
def CpD (w:World) (d:FD) (vI vD:Value) (mid:Nat) (wr:World) (j:Nat):Prop:=
 Below w.heap.size w wr∧ (w.heap.size+3≤mid∧mid≤wr.heap.size)∧qaa wr w.heap.size 2 (fun i=>if i=0 then vI else vD)∧qaa wr (w.heap.size+1) 2 (fun _=> .slice none 0 0)∧
  ∃aI cI aX cX k u,qaa wr (w.heap.size+2) 2 (fun i=>if i=0 then .slice aI d.1.length cI else .slice aX j cX)∧qbk wr (.slice aI d.1.length cI) d.1 (fun c=>w.heap.size+3≤c∧c<mid)∧YRow C1 wr mid mid 27 1 (.slice aX j cX) j (fun i=>d.2[i]?.getD []) k u
theorem CpD.start {w wr:World} {d:FD} {vI vD:Value} (h:CpI w d vI vD wr d.1.length):CpD w d vI vD wr.heap.size wr 0:=by
 obtain ⟨h1,h2,h3,h4,aX,cX,u,G,h5,h6⟩:=h
 exact ⟨h1,⟨h2,Nat.le_refl _⟩,h3,h4,aX,cX,none,0,fun _=>0,fun _=> .slice none 0 0,h5,(h6.inos rfl).mono fun c hc=> ⟨hc.1,hc.2.1⟩,YRow.nil _ _ _ _ _ _⟩
theorem CpD.next {w wr X:World} {d:FD} {vI vD:Value} {mid j g cap:Nat} {k':Nat→Nat} {u':Nat→Value} (h:CpD w d vI vD mid wr j) (hX:Below mid wr X) (hL:YRow C1 X mid mid 27 1 (.slice (some ⟨g,0,none⟩) (j+1) cap) (j+1) (fun i=>d.2[i]?.getD []) k' u'):
 CpD w d vI vD mid (X.setCell ⟨w.heap.size+2,1,none⟩ (.slice (some ⟨g,0,none⟩) (j+1) cap)) (j+1):=by
 obtain ⟨h1,h2,h3,h4,aI,cI,aX,cX,k,u,h5,h6,_⟩:=h
 refine ⟨(h1.trans (hX.mono (by omega))).setCell (by simp) _,⟨h2.1, ?_⟩,(h3.block (hX.block _ (by omega))).store (by simp) _,(h4.block (hX.block _ (by omega))).store (by simp) _,aI,cI,some ⟨g,0,none⟩,cap,k',u',((h5.block (hX.block _ (by omega))).set 1 _).congr fun i hi=> ?_,h6.keep fun c hc _=> ?_,hL.store (by simp;omega) (by simp;omega) _⟩
 · have:=hX.size;simp [World.setCell];omega
 · match i,hi with
   |0,_=>rfl
   |1,_=>rfl
 · rw [Below.heap_setCell _ _ _ _ (by simp;omega),hX.block c hc.2]
theorem CpD.row {w wr:World} {d:FD} {vI vD:Value} {mid j:Nat} (h:CpD w d vI vD mid wr j): ∃aI cI aX cX,(wr.cell? ⟨w.heap.size,1,none⟩=some vD∧wr.cell? ⟨w.heap.size+2,0,none⟩=some (.slice aI d.1.length cI)∧wr.cell? ⟨w.heap.size+2,1,none⟩=some (.slice aX j cX)∧wr.frozen? ⟨w.heap.size+2,1,none⟩=false)∧qbk wr (.slice aI d.1.length cI) d.1 (fun c=>w.heap.size+3≤c∧c<mid)∧ ∃k u,YRow C1 wr mid mid 27 1 (.slice aX j cX) j (fun i=>d.2[i]?.getD []) k u:=by
 obtain ⟨_,_,h3,_,aI,cI,aX,cX,k,u,h5,h6,h7⟩:=h
 exact ⟨aI,cI,aX,cX,⟨h3.cell (i:=1) (by omega),h5.cell (i:=0) (by omega),h5.cell (i:=1) (by omega),h5.frozen 1⟩,h6,k,u,h7⟩

set_option maxHeartbeats 6400000 in
theorem qgU (w:World) (a1:Option Addr) (n1 c1:Nat) (a2:Option Addr) (n2 c2:Nat) (d:FD) (h:FsR w (.slice a1 n1 c1) (.slice a2 n2 c2) d) (hs:sizeFs d≤1048576):
 Calls Tryz.prog 45 #[.agg #[.slice a1 n1 c1, .slice a2 n2 c2]] w (qiw w d):=by
 obtain ⟨_,_,e1,hm1,hAt⟩:=h.1.open'
 obtain ⟨_,_,e2,hm2,hBt⟩:=h.2.open'
 simp only [Value.slice.injEq] at e1 e2
 obtain ⟨rfl,rfl,rfl⟩:=e1
 obtain ⟨rfl,rfl,rfl⟩:=e2
 have HAT:Hid (AtI w a1 d.1.length d.1):=hAt
 have HBT:Hid (qgi w a2 d.2.length d.2):=hBt
 have hsz:d.1.length+ (isz d.1).sum+ (d.2.length+ (qax d.2).sum)≤1048576:=hs
 have HSI:Hid (∀k:Nat,(d.1[k]?.getD id0).2.2.2.1.length≤1048576∧ (d.1[k]?.getD id0).2.2.2.2.length≤1048576):=fun k=>by
  have:=qeg d.1 k
  unfold sizeIno qcH at this
  omega
 have HSY:Hid (∀k:Nat,(d.2[k]?.getD []).length≤1048576):=fun k=>by have:=qg4 d.2 k;omega
 have hn1:d.1.length≤1048576:=by omega
 have hn2:d.2.length≤1048576:=by omega
 have HST:Hid (CpI w d (.slice a1 d.1.length c1) (.slice a2 d.2.length c2) (((w.alloc (.cells #[.slice a1 d.1.length c1, .slice a2 d.2.length c2] 31)).alloc (.cells #[.slice none 0 0, .slice none 0 0] 31)).alloc (.cells #[.slice none 0 0, .slice none 0 0] 31)) 0):=by
  have p1:=qaa.two w (.slice a1 d.1.length c1) (.slice a2 d.2.length c2) 31
  have p2:=qaa.two (w.alloc (.cells #[.slice a1 d.1.length c1, .slice a2 d.2.length c2] 31)) (.slice none 0 0) (.slice none 0 0) 31
  have p3:=qaa.two ((w.alloc (.cells #[.slice a1 d.1.length c1, .slice a2 d.2.length c2] 31)).alloc (.cells #[.slice none 0 0, .slice none 0 0] 31)) (.slice none 0 0) (.slice none 0 0) 31
  rw [World.size_alloc] at p2
  rw [World.size_alloc,World.size_alloc] at p3
  exact ⟨qkr _ _ _ _,by simp,p1.later (qam _ _ _),(p2.later (qab _ _)).congr fun i _=>by simp,none,0,_,_,p3,IRow.nil _ _ _⟩
 have HLN:Hid (d.1.length=d.1.length∧d.2.length=d.2.length):= ⟨rfl,rfl⟩
 obtain ⟨n,hn⟩: ∃n,d.1.length=n:= ⟨_,rfl⟩
 obtain ⟨m,hm⟩: ∃m,d.2.length=m:= ⟨_,rfl⟩
 have HN:Hid (d.1.length=n):=hn
 have HM:Hid (d.2.length=m):=hm
 rw [hn] at HAT HST hn1 ⊢
 rw [hm] at HBT HST hn2 ⊢
 clear h hs hsz hAt hBt hm1 hm2 HLN hn hm
 go_enter Tryz.func45,Tryz.ntmps45
 go_wp2_with fail
 go_loopw [4] (fun i wr=> ∃j:Nat,j≤n∧i= .int .i64 j∧CpI w d (.slice a1 n c1) (.slice a2 m c2) wr j) (fun i _=>n- (intOf i).toNat)
 case atStart=>exact ⟨0,Nat.zero_le _,rfl,HST.out⟩
 case round=>
  clear HST
  obtain ⟨j,hj,rfl,hsp⟩:=hrel
  have HSP:Hid (CpI w d (.slice a1 n c1) (.slice a2 m c2) wr j):=hsp
  obtain ⟨aX,cX,⟨q0,q1,q2,q3⟩,u,G,hy⟩:=hsp.row
  have HY:Hid (IRow wr (w.heap.size+3) (.slice aX j cX) j (fun i=>d.1[i]?.getD id0) u G):=hy
  have hbig:w.heap.size+3≤wr.heap.size:=hsp.2.1
  have HBW:Hid (Below w.heap.size w wr):=hsp.1
  clear hsp hy
  by_cases hlt:j<n
  · obtain ⟨b,off,e,hI⟩:=HAT.out j hlt
    subst e
    obtain ⟨aB,cB,aE,cE,p0,p1,p2,p3,p4,p5⟩:=hI.later HBW.out
    have hbl:b<wr.heap.size:=qdD p0
    have HCP:Hid (Calls Tryz.prog 81 #[.agg #[.int .i64 (d.1[j]?.getD id0).1, .int .i64 (d.1[j]?.getD id0).2.1, .int .i64 (d.1[j]?.getD id0).2.2.1, .slice aB (d.1[j]?.getD id0).2.2.2.1.length cB, .slice aE (d.1[j]?.getD id0).2.2.2.2.length cE]] wr.drew fun e w1=> ∃b1 m1 e1 b2 m2 e2 g cap X u' G',e= .returned (.agg #[.int .i64 (d.1[j]?.getD id0).1, .int .i64 (d.1[j]?.getD id0).2.1, .int .i64 (d.1[j]?.getD id0).2.2.1, .slice b1 m1 e1, .slice b2 m2 e2])∧Hid (Below wr.heap.size wr w1)∧
     Hid ((Builtin.append_ #[29,29] 29 #[.slice aX j cX, .slice (some ⟨w1.heap.size,0,none⟩) 1 1]).run Tryz.prog (w1.alloc (.cells #[.int .i64 (d.1[j]?.getD id0).1, .int .i64 (d.1[j]?.getD id0).2.1, .int .i64 (d.1[j]?.getD id0).2.2.1, .slice b1 m1 e1, .slice b2 m2 e2] 74))= .ok (.slice (some ⟨g,0,none⟩) (j+1) cap) X)∧Hid (Below (w.heap.size+3) wr X)∧Hid (IRow X (w.heap.size+3) (.slice (some ⟨g,0,none⟩) (j+1) cap) (j+1) (fun i=>d.1[i]?.getD id0) u' G')):=by
     refine (qlx wr.drew aB _ cB aE _ cE (d.1[j]?.getD id0) (p5.later (Below.refl _ _).drew) (HSI.out j).1 (HSI.out j).2).mono ?_
     rintro e w1 ⟨b1,m1,e1,b2,m2,e2,rfl,hb1',ho1⟩
     have hb1:Below wr.heap.size wr w1:= (Below.refl _ _).drew.trans hb1'
     obtain ⟨g,cap,X,u',G',hr,hBX,_,hL⟩:=IRow.append wr w1 29 (w.heap.size+3) j _ _ u G HY.out hbig (by omega) hb1 b1 m1 e1 b2 m2 e2 ho1
     exact ⟨b1,m1,e1,b2,m2,e2,g,cap,X,u',G',rfl,hb1,hr,hBX,hL⟩
    clear hI p5 HAT HY HSI
    generalize (d.1[j]?.getD id0).2.2.2.1.length=lB at*
    generalize (d.1[j]?.getD id0).2.2.2.2.length=lE at*
    generalize (d.1[j]?.getD id0).1=z0 at*
    generalize (d.1[j]?.getD id0).2.1=z1 at*
    generalize (d.1[j]?.getD id0).2.2.1=z2 at*
    go_wp2_with fail
    go_region_law (first
     | (refine qaK rfl _ _ 29 rfl _ _ rfl rfl _ _ HR.out ?_)
     | (try go_simp;go_at_call 81;refine HCP.out.mono ?_;rintro e w1 ⟨b1,m1,e1,b2,m2,e2,g,cap,X,u',G',rfl,HB1,HR,HBX,HL⟩
        have y2:=cell_later HB1.out q2
        have hw1:w.heap.size+2<w1.heap.size:=by have:=HB1.out.size;omega
        have x0:X.cell? ⟨w.heap.size+2,0,none⟩=some (.slice aX j cX):= (HBX.out.cell (p:= ⟨w.heap.size+2,0,none⟩) (by simp)).trans q2
        have x1:X.frozen? ⟨w.heap.size+2,0,none⟩=false:= (HBX.out.frozen (p:= ⟨w.heap.size+2,0,none⟩) (by simp)).trans q3))
    all_goals
     clear HCP HR
     go_wp2
     go_roundw
     case rel=>exact ⟨j+1,by omega,by go_num,HSP.out.next HBX.out HL.out⟩
     case measure=>simp [intOf];omega
  · have e:j=n:=by omega
    subst e
    clear HY hlt hj HAT HSI hn1
    have HSD:Hid (CpD w d (.slice a1 j c1) (.slice a2 m c2) wr.heap.size wr 0):=CpD.start (by rw [HN.out];exact HSP.out)
    clear HSP q2 q3 HBW
    generalize wr.heap.size=mid at*
    go_wp2_with fail
    go_loopw [5] (fun i wq=> ∃q:Nat,q≤m∧i= .int .i64 q∧CpD w d (.slice a1 j c1) (.slice a2 m c2) mid wq q) (fun i _=>m- (intOf i).toNat)
    case atStart=>exact ⟨0,Nat.zero_le _,rfl,HSD.out⟩
    case round=>
     clear HSD q0 q1
     obtain ⟨q,hq,rfl,hsp⟩:=hrel
     have HSP:Hid (CpD w d (.slice a1 j c1) (.slice a2 m c2) mid wr q):=hsp
     obtain ⟨aI,cI,aX,cX,⟨q0,q1,q2,q3⟩,hio,k,u,hy⟩:=hsp.row
     have hbig:w.heap.size+3≤mid∧mid≤wr.heap.size:=hsp.2.1
     have hbig2:w.heap.size+2<wr.heap.size:=by omega
     have hbig0:w.heap.size<wr.heap.size:=by omega
     by_cases hlt:q<m
     · obtain ⟨b,off,ua,uc,e,c1',i1⟩:=HBT.out q hlt
       subst e
       have hbl:b<w.heap.size:=qdD c1'
       have hbr:b<wr.heap.size:=by omega
       replace c1':=cell_later hsp.1 c1'
       obtain ⟨na,nc,X1,g,cap,X,k',u',hr1,hr2,hb1,hBX,hL⟩:=qsF wr mid q _ d.2 k u hy hbig.2 (by omega) ua uc (i1.later hsp.1) (HSY.out q)
       have HR1:Hid (_=_):=hr1
       have HR2:Hid (_=_):=hr2
       have HBX:Hid (Below mid wr X):=hBX
       have HL:Hid (YRow C1 X mid mid 27 1 (.slice (some ⟨g,0,none⟩) (q+1) cap) (q+1) (fun i=>d.2[i]?.getD []) k' u'):=hL
       have z0:=cell_later hb1 q2
       have z1:=cell_later hb1 c1'
       have z2:=cell_later hb1 q0
       have hw1:w.heap.size+2<X1.heap.size:=Nat.lt_of_lt_of_le hbig2 hb1.size
       have hw2:b<X1.heap.size:=by omega
       have hw0:w.heap.size<X1.heap.size:=by omega
       have x0:X.cell? ⟨w.heap.size+2,1,none⟩=some (.slice aX q cX):= (hBX.cell (p:= ⟨w.heap.size+2,1,none⟩) (by show w.heap.size+2<mid;omega)).trans q2
       have x1:X.frozen? ⟨w.heap.size+2,1,none⟩=false:= (hBX.frozen (p:= ⟨w.heap.size+2,1,none⟩) (by show w.heap.size+2<mid;omega)).trans q3
       clear hsp hy hr1 hr2 hb1 hBX hL i1 hio
       generalize (d.2[q]?.getD []).length=ln at*
       go_wp2_with fail
       go_region_law (first
        | (refine qaK rfl _ _ 27 rfl _ _ rfl rfl _ _ HR1.out ?_)
        | (refine qaK rfl _ _ 23 rfl _ _ rfl rfl _ _ HR2.out ?_))
       all_goals
        go_wp2
        go_roundw
        case rel=>exact ⟨q+1,by omega,by go_num,HSP.out.next HBX.out HL.out⟩
        case measure=>simp [intOf];omega
     · have e:q=m:=by omega
       subst e
       have HIO:Hid (qbk wr (.slice aI d.1.length cI) d.1 (fun c=>w.heap.size+3≤c∧c<mid)):=hio
       have HYO:Hid (qaR wr (.slice aX q cX) d.2 (fun c=>mid≤c∧c<wr.heap.size)):=hy.byts HM.out _ (fun c h1 h2=> ⟨h1,h2⟩) (fun c h1 h2=> ⟨h1,h2⟩)
       have HBW:Hid (Below w.heap.size w wr):=hsp.1
       have hrow:=hsp.2.2.2.1
       have t0:=hrow.cell (i:=0) (by omega)
       have t1:=hrow.cell (i:=1) (by omega)
       have s0:=hrow.frozen 0
       have s1:=hrow.frozen 1
       clear hsp hy hio hrow HSP
       generalize d.1.length=nn at*
       go_wp2
       refine bodyPost_ret (v:= .agg #[.slice aI nn cI, .slice aX q cX]) (by simp [results,Tryz.results45,go_sem,t0,t1]) rfl ⟨aI,nn,cI,aX,q,cX,rfl,(HBW.out.setCell (by simp) _).setCell (by simp) _,(fun c=>w.heap.size+3≤c∧c<mid),(fun c=>mid≤c∧c<wr.heap.size),HIO.out.keep fun b hb _=> ?_,HYO.out.keep fun b hb _=> ?_,fun b h1 h2=>by omega,fun b hb=> ?_⟩
       · rw [Below.heap_setCell _ _ _ _ (by simp;omega),Below.heap_setCell _ _ _ _ (by simp;omega)]
       · rw [Below.heap_setCell _ _ _ _ (by simp;omega),Below.heap_setCell _ _ _ _ (by simp;omega)]
       · unfold qaj
         simp only [World.setCell,Array.size_modify]
         rcases hb with hb|hb<;>omega
end Go.Proofs.YthnmlipnoajmkaaGreatDoor
