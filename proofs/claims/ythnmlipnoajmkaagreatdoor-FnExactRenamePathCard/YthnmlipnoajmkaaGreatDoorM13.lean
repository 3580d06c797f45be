/- The specification's LinksOf. The specification:are links and places right? The specification:has each block just the bytes that it should have? The program's copying of a file system. -/
import Derived.Test.YthnmlipnoajmkaaGreatDoorM10
import Derived.Test.YthnmlipnoajmkaaGreatDoorM12
import Derived.Deep.RegionHeld3
import Derived.Test.YthnmlipnoajmkaaGreatDoorM11
namespace Go.Proofs.YthnmlipnoajmkaaGreatDoor
open Go.RowKit
set_option maxRecDepth 100000

theorem qkM (es:List EN) (k:Nat): (qb7 es)[k]?.getD 0= (es[k]?.getD en0).2:=by
 unfold qb7;rw [List.getElem?_map];cases es[k]?<;>rfl
theorem qkN (es:List EN): (qb7 es).length=es.length:=by simp [qb7]
theorem qqA (ds:List ID) (hs:qag ds≤1048576) (v:Int): (qco ds).count v≤1048576:=by
 have h2:=qfu ds
 have h3:=List.count_le_length (a:=v) (l:=qco ds)
 unfold qag at hs
 omega

set_option maxHeartbeats 1600000 in
theorem qiA (w:World) (a:Option Addr) (n c:Nat) (ds:List ID) (v:Int) (hn:n≤1048576) (hdn:ds.length=n) (hs: (isz ds).sum≤1048576) (hc:AtI w a n ds):
 Calls Tryz.prog 76 #[.slice a n c, .int .i64 v] w fun e w'=>e= .returned (.int .i64 (((qco ds).count v:Nat):Int))∧ ∃m,w'=w.drewN m:=by
 have HC:Hid (AtI w a n ds):=hc
 have HN:Hid (ds.length=n):=hdn
 have HT:Hid ((qco ds).count v= (((ds.take n).flatMap fun d=>qb7 d.2.2.2.2)).count v):=by unfold Hid qco;rw [List.take_of_length_le (by omega)]
 have HS:Hid (∀j,(((ds.take j).flatMap fun d=>qb7 d.2.2.2.2)).count v≤1048576):=fun j=>by
  have h1:=qen (fun d:ID=>qb7 d.2.2.2.2) ds j
  have h2:=qfu ds
  have h3:=List.count_le_length (a:=v) (l:= (ds.take j).flatMap fun d=>qb7 d.2.2.2.2)
  unfold qco at h2
  omega
 have HX:Hid (∀j,j<n→ ((ds.take (j+1)).flatMap fun d=>qb7 d.2.2.2.2).count v= ((ds.take j).flatMap fun d=>qb7 d.2.2.2.2).count v+ (qb7 (ds[j]?.getD id0).2.2.2.2).count v):=fun j hj=>by
  rw [qem (fun d:ID=>qb7 d.2.2.2.2) ds id0 j (by omega),List.count_append]
 have HZ:Hid (∀j,(ds[j]?.getD id0).2.2.2.2.length≤1048576):=fun j=>by
  have:=qeg ds j
  have hd:sizeIno (ds[j]?.getD id0)= (ds[j]?.getD id0).2.2.2.1.length+ ((ds[j]?.getD id0).2.2.2.2.length+ (qbj (ds[j]?.getD id0).2.2.2.2).sum):=rfl
  omega
 rw [HT.out]
 clear hc hdn hs HT
 generalize hG: (fun j=> ((ds.take j).flatMap fun d=>qb7 d.2.2.2.2).count v)=G at*
 have HG:Hid (∀j,((ds.take j).flatMap fun d=>qb7 d.2.2.2.2).count v=G j):=fun j=>congrFun hG j
 simp only [HG.out] at HS HX ⊢
 have HG0:Hid (G 0=0):=by unfold Hid;rw [←HG.out 0];simp
 clear hG HG
 go_enter Tryz.func76,Tryz.ntmps76
 go_wp2
 go_loopw [5,6] (fun q i wr=> ∃j m:Nat,j≤n∧i= .int .i64 j∧q= .int .i64 ((G j:Nat):Int)∧wr=w.drewN m) (fun _ i _=>n- (intOf i).toNat)
 case atStart=>exact ⟨0,0,Nat.zero_le _,rfl,by rw [HG0.out];rfl,rfl⟩
 case round=>
  obtain ⟨j,m,hj,rfl,rfl,rfl⟩:=hrel
  by_cases hlt:j<n
  · obtain ⟨b,o,rfl,hI⟩:=HC.out j hlt
    obtain ⟨aB,cB,aE,cE,h0,h1,h2,h3,h4,h5⟩:=hI
    obtain ⟨_,_,e1,hm1,_,hc1⟩:=h5.2.2.open'
    simp only [Value.slice.injEq] at e1
    obtain ⟨rfl,_,rfl⟩:=e1
    have HZJ:=HZ.out j
    have HSJ:=HS.out (j+1)
    have HXJ':Hid (G (j+1)=G j+ (qb7 (ds[j]?.getD id0).2.2.2.2).count v):=HX.out j hlt
    clear h0 h1 h2 h3 h5 HC
    generalize (ds[j]?.getD id0).2.2.2.2=es at*
    have HCB:Hid (AtN w aE es.length es):=hc1
    obtain ⟨nB,hnB⟩: ∃nB,nB=es.length:= ⟨_,rfl⟩
    have HNB:Hid (nB=es.length):=hnB
    have HNI:Hid (nB= (qb7 es).length):=by unfold Hid;rw [qkN];exact hnB
    rw [←hnB] at h4 hm1 HZJ
    have hle:G j+ (qb7 es).count v≤1048576:=by have:=HXJ'.out;omega
    have HEG:Hid (∀k:Nat,(qb7 es)[k]?.getD 0= (es[k]?.getD en0).2):=fun k=>qkM es k
    clear hc1 hnB HSJ
    generalize qb7 es=bs at*
    go_wp2
    go_loopw [5,7] (fun q i wr=> ∃k m2:Nat,k≤nB∧i= .int .i64 k∧q= .int .i64 (((G j+ (bs.take k).count v:Nat)):Int)∧wr=w.drewN m2) (fun _ i _=>nB- (intOf i).toNat)
    case atStart=>exact ⟨0,m,Nat.zero_le _,rfl,by simp,rfl⟩
    case round=>
     obtain ⟨k,m2,hk,rfl,rfl,rfl⟩:=hrel
     by_cases hlk:k<nB
     · obtain ⟨b1,o1,rfl,_,d1⟩:=HCB.out k (by rw [←HNB.out];exact hlk)
       rw [←HEG.out k] at d1
       have hcn:=qdz bs v k (by rw [←HNI.out];exact hlk)
       have HCN:Hid ((bs.take (k+1)).count v= (bs.take k).count v+ (if bs[k]?.getD 0=v then 1 else 0)):=hcn
       have hct: (bs.take k).count v≤bs.count v:=List.Sublist.count_le v (List.take_sublist k bs)
       generalize (bs.take k).count v=ck at*
       clear hcn HCB HEG
       generalize bs[k]?.getD 0=x at*
       by_cases hxv:x=v
       · have hxb: (x==v)=true:=by simpa using hxv
         have HCN':Hid ((bs.take (k+1)).count v=ck+1):=by unfold Hid;rw [HCN.out,if_pos hxv]
         clear hxv HCN
         go_wp2
         go_roundw
         case rel=>exact ⟨k+1,_,by omega,by go_num,by rw [HCN'.out];go_num,rfl⟩
         case measure=>simp [intOf];omega
       · have hxb: (x==v)=false:=by simpa using hxv
         have HCN':Hid ((bs.take (k+1)).count v=ck):=by unfold Hid;rw [HCN.out,if_neg hxv,Nat.add_zero]
         clear hxv HCN
         go_wp2
         go_roundw
         case rel=>exact ⟨k+1,_,by omega,by go_num,by rw [HCN'.out],rfl⟩
         case measure=>simp [intOf];omega
     · have hkn:bs.take k=bs:=List.take_of_length_le (by rw [←HNI.out];omega)
       rw [hkn]
       clear hkn
       have HE:Hid (((G j+bs.count v:Nat):Int)= ((G (j+1):Nat):Int)):=by unfold Hid;rw [HXJ'.out]
       go_wp2
       go_roundw
       case rel=>exact ⟨j+1,_,by omega,by go_num,by rw [HE.out],rfl⟩
       case measure=>simp [intOf];omega
  · have HJ:Hid (G j=G n):=by unfold Hid;rw [show j=n by omega]
    go_wp2
    go_ret
    exact ⟨qad (by rw [HJ.out]),m,rfl⟩
theorem qfR {w:World} {vv:Value} {ds:List ID} (h:qdJ w vv ds) (hs:qag ds≤1048576) (v:Int):
 Calls Tryz.prog 76 #[vv, .int .i64 v] w fun e w'=>e= .returned (.int .i64 (((qco ds).count v:Nat):Int))∧ ∃m,w'=w.drewN m:=by
 obtain ⟨a,cap,rfl,hm,hc⟩:=h.open'
 unfold qag at hs
 exact qiA w a _ cap ds v (by omega) rfl (by omega) hc

end Go.Proofs.YthnmlipnoajmkaaGreatDoor

namespace Go.Proofs.YthnmlipnoajmkaaGreatDoor
open Go.RowKit
set_option maxRecDepth 100000

def qdi (ds:List ID) (i:Nat):Int:=if qae ds i=1 then (ds[i]?.getD id0).2.1 else if i=0 then 0 else 1
def qbA (ds:List ID) (i:Nat):Bool:=decide (qae ds i=0)|| (decide ((((qco ds).count (i:Int):Nat):Int)=qdi ds i)&&qaD ds ds.length i)
def qbe (ds:List ID):Bool:= (List.range ds.length).all (qbA ds)
theorem qiB {ds:List ID} {i:Nat} (hi:i<ds.length) (h:qbA ds i=false):qbe ds=false:=by
 unfold qbe
 rw [List.all_eq_false]
 exact ⟨i,by simpa using hi,by simp [h]⟩
theorem qgK {ds:List ID} (h: ∀i,i<ds.length→qbA ds i=true):qbe ds=true:=by
 unfold qbe
 rw [List.all_eq_true]
 intro i hi
 exact h i (by simpa using hi)
theorem qhp (p:Nat→Bool) {n i:Nat} (hi:i<n): (qbH p n).contains (i:Int)=p i:=by
 cases hp:p i with
 | true=>
   rw [List.contains_iff_mem]
   unfold qbH
   rw [List.mem_map]
   exact ⟨i,List.mem_filter.2 ⟨by simpa using hi,hp⟩,rfl⟩
 | false=>
   rw [Bool.eq_false_iff]
   intro hc
   rw [List.contains_iff_mem] at hc
   unfold qbH at hc
   rw [List.mem_map] at hc
   obtain ⟨k,hk,e⟩:=hc
   have:k=i:=by omega
   subst this
   rw [(List.mem_filter.1 hk).2] at hp
   cases hp

set_option maxHeartbeats 6400000 in
theorem qj1 (w:World) (b o:Nat) (d:FD) (aI:Option Addr) (cI:Nat) (aD:Option Addr) (cD:Nat) (h:FsX w b o d aI cI aD cD) (hs:qag d.1≤1048576) (hn0: ¬d.1.length=0) (hn:d.1.length≤10)
 (hx: ∀j,j<d.1.length→ ∀k,k< (d.1[j]?.getD id0).2.2.2.2.length→0≤ ((d.1[j]?.getD id0).2.2.2.2[k]?.getD en0).2∧ ((d.1[j]?.getD id0).2.2.2.2[k]?.getD en0).2< (d.1.length:Int)):
 Calls Tryz.prog 39 #[.pointer (some ⟨b,o,none⟩)] w fun e w'=>e= .returned (.bool (qbe d.1))∧Below w.heap.size w w':=by
 have HRE:Hid (Calls Tryz.prog 75 #[.pointer (some ⟨b,o,none⟩)] w fun e w'=> ∃a c n₀,e= .returned (.slice a (qbH (qaD d.1 d.1.length) d.1.length).length c)∧Below w.heap.size w w'∧w.heap.size≤n₀∧Wds w' n₀ (.slice a (qbH (qaD d.1 d.1.length) d.1.length).length c) (qbH (qaD d.1 d.1.length) d.1.length)):=qj0 w b o d aI cI aD cD h hn0 hn hx
 have HX:Hid (FsX w b o d aI cI aD cD):=h
 have HAM:Hid (∀i:Nat,i<d.1.length→ (qbH (qaD d.1 d.1.length) d.1.length).contains (i:Int)=qaD d.1 d.1.length i):=fun i hi=>qhp _ hi
 clear h hx
 generalize qbH (qaD d.1 d.1.length) d.1.length=zs at*
 go_enter Tryz.func39,Tryz.ntmps39
 go_wp2_with fail
 refine HRE.out.mono ?_
 rintro e w1 ⟨ar,cr,n₀,rfl,hb1,hn1,hwd⟩
 have HB1:Hid (Below w.heap.size w w1):=hb1
 have hX1:=HX.out.later hb1
 have HIN:Hid (qb1 w1 (.slice ar zs.length cr) zs):= (hwd.own' hn1).reads
 have HAMO:Hid (∀ (m i:Nat),Calls Tryz.prog 77 #[.slice ar zs.length cr, .int .i64 (i:Int)] (w1.drewN m) fun e w'=>e= .returned (.bool (zs.contains (i:Int)))∧ ∃m',w'= (w1.drewN m).drewN m'):=fun m i=>qjT (HIN.out.drewN m) _
 have HLN:Hid (∀ (m i:Nat),Calls Tryz.prog 76 #[.slice aI d.1.length cI, .int .i64 (i:Int)] (w1.drewN m) fun e w'=>e= .returned (.int .i64 (((qco d.1).count (i:Int):Nat):Int))∧ ∃m',w'= (w1.drewN m).drewN m'):=fun m i=>qfR (hX1.ins.later (below_drewN (Below.refl _ _) m)) hs _
 obtain ⟨_,_,e1,hm1,hAt⟩:=hX1.ins.open'
 simp only [Value.slice.injEq] at e1
 obtain ⟨rfl,-,rfl⟩:=e1
 have HAT:Hid (AtI w1 aI d.1.length d.1):=hAt
 have c0:=hX1.c0
 have HCL:Hid (∀i,(qco d.1).count (i:Int)≤1048576):=fun i=>by
  have h1:=List.count_le_length (a:=i) (l:=qco d.1)
  have h2:=qfu d.1
  unfold qag at hs
  omega
 clear hb1 hwd HRE HX hX1 hAt hm1 hs
 obtain ⟨n,hnn⟩: ∃n,d.1.length=n:= ⟨_,rfl⟩
 have HN:Hid (d.1.length=n):=hnn
 have HOK:Hid (∀i:Nat,i<n→qbA d.1 i= (decide (qae d.1 i=0)|| (decide ((((qco d.1).count (i:Int):Nat):Int)=qdi d.1 i)&&zs.contains (i:Int)))):=fun i hi=>by
  rw [HAM.out i (by rw [hnn];exact hi)];rfl
 rw [hnn] at HLN HAT c0 hn0 hn
 clear hnn HAM
 generalize zs.length=nz at*
 go_wp2
 go_loopw [4] (fun i wr=> ∃j m:Nat,j≤n∧i= .int .i64 j∧wr=w1.drewN m∧ ∀k,k<j→qbA d.1 k=true) (fun i _=>n- (intOf i).toNat)
 case atStart=>exact ⟨0,0,Nat.zero_le _,rfl,rfl,fun k hk=>by omega⟩
 case round=>
  obtain ⟨j,m,hj,rfl,rfl,hz⟩:=hrel
  have HZ:Hid (∀k,k<j→qbA d.1 k=true):=hz
  clear hz
  by_cases hlt:j<n
  · obtain ⟨b0,o0,rfl,hI⟩:=HAT.out j hlt
    obtain ⟨_,_,_,_,k0,k1,_⟩:=hI
    have HL:=HLN.out m j
    have HA:=fun q=>HAMO.out q j
    have hcl:=HCL.out (j:Int)
    have HY:Hid (qbA d.1 j=true→ ∀k,k<j+1→qbA d.1 k=true):=fun hh k hk=>by
     by_cases e:k=j
     · subst e;exact hh
     · exact HZ.out k (by omega)
    have HNO:Hid (qbA d.1 j=false→qbe d.1=false):=fun hh=>qiB (by rw [HN.out];exact hlt) hh
    have HO:Hid (qbA d.1 j= (decide (qae d.1 j=0)|| (decide ((((qco d.1).count (j:Int):Nat):Int)=qdi d.1 j)&&zs.contains (j:Int)))):=HOK.out j hlt
    have HW:Hid (qdi d.1 j=if (d.1[j]?.getD id0).1=1 then (d.1[j]?.getD id0).2.1 else if j=0 then 0 else 1):=rfl
    have HK:Hid (qae d.1 j= (d.1[j]?.getD id0).1):=rfl
    have HL':Hid (Calls Tryz.prog 76 _ _ _):=HL
    have HA':Hid (∀q,Calls Tryz.prog 77 _ (w1.drewN q) _):=HA
    clear HL HA
    generalize (d.1[j]?.getD id0).1=kd at*
    generalize (d.1[j]?.getD id0).2.1=lk at*
    generalize (qco d.1).count (j:Int)=cn at*
    generalize zs.contains (j:Int)=am at*
    by_cases hk0:kd=0
    · have hb0: (kd==0)=true:=by simpa using hk0
      have HR:Hid (∀k,k<j+1→qbA d.1 k=true):=HY.out (by rw [HO.out,HK.out];simp [hk0])
      clear hk0 HO HW HK HY HNO
      go_wp2_with fail
      refine HL'.out.mono ?_
      rintro e w2 ⟨rfl,m',rfl⟩
      go_wp2
      go_roundw
      case rel=>exact ⟨j+1,_,by omega,by go_num,by first|rfl|rw [World.drewN_drewN],HR.out⟩
      case measure=>simp [intOf];omega
    · have hb0: (kd==0)=false:=by simpa using hk0
      have HO2:Hid (qbA d.1 j= (decide (((cn:Nat):Int)=qdi d.1 j)&&am)):=by unfold Hid;rw [HO.out,HK.out];simp [hk0]
      clear hk0 HO HK
      by_cases hk1:kd=1
      · have hb1: (kd==1)=true:=by simpa using hk1
        have HW2:Hid (qdi d.1 j=lk):=by unfold Hid;rw [HW.out,if_pos hk1]
        clear hk1 HW
        have HW:=HW2
        clear HW2
        by_cases hcw: ((cn:Nat):Int)=lk
        rotate_left
        · have hbc: (((cn:Nat):Int) !=lk)=true:=by simpa using hcw
          have HR:Hid (qbe d.1=false):=HNO.out (by rw [HO2.out,HW.out,decide_eq_false hcw];rfl)
          clear hcw HO2 HW HY HNO HA'
          go_wp2_with fail
          refine HL'.out.mono ?_
          rintro e w2 ⟨rfl,m',rfl⟩
          go_wp2
          go_ret
          exact ⟨qaB HR.out.symm,by first|exact below_drewN HB1.out _|exact below_drewN (below_drewN HB1.out _) _⟩
        · have hbc: (((cn:Nat):Int) !=lk)=false:=by simpa using hcw
          have HO3:Hid (qbA d.1 j=am):=by unfold Hid;rw [HO2.out,HW.out,decide_eq_true hcw];simp
          clear hcw HO2 HW
          cases am with
          | true=>
            have HR:Hid (∀k,k<j+1→qbA d.1 k=true):=HY.out HO3.out
            clear HO3 HY HNO
            go_wp2_with fail
            refine HL'.out.mono ?_
            rintro e w2 ⟨rfl,m',rfl⟩
            rw [World.drewN_drewN]
            go_wp2_with fail
            refine (HA'.out _).mono ?_
            rintro e w3 ⟨rfl,m3,rfl⟩
            go_wp2
            go_roundw
            case rel=>exact ⟨j+1,_,by omega,by go_num,by first|rfl|rw [World.drewN_drewN],HR.out⟩
            case measure=>simp [intOf];omega
          | false=>
            have HR:Hid (qbe d.1=false):=HNO.out HO3.out
            clear HO3 HY HNO
            go_wp2_with fail
            refine HL'.out.mono ?_
            rintro e w2 ⟨rfl,m',rfl⟩
            rw [World.drewN_drewN]
            go_wp2_with fail
            refine (HA'.out _).mono ?_
            rintro e w3 ⟨rfl,m3,rfl⟩
            go_wp2
            go_ret
            exact ⟨qaB HR.out.symm,by first|exact below_drewN HB1.out _|exact below_drewN (below_drewN HB1.out _) _⟩
      · have hb1: (kd==1)=false:=by simpa using hk1
        by_cases hj0:j=0
        · have hbj: ((j:Int)==0)=true:=by simp [hj0]
          have HW2:Hid (qdi d.1 j=0):=by unfold Hid;rw [HW.out,if_neg hk1,if_pos hj0]
          clear hk1 HW hj0
          have HW:=HW2
          clear HW2
          by_cases hcw: ((cn:Nat):Int)=0
          rotate_left
          · have hbc: (((cn:Nat):Int) !=0)=true:=by simpa using hcw
            have HR:Hid (qbe d.1=false):=HNO.out (by rw [HO2.out,HW.out,decide_eq_false hcw];rfl)
            clear hcw HO2 HW HY HNO HA'
            go_wp2_with fail
            refine HL'.out.mono ?_
            rintro e w2 ⟨rfl,m',rfl⟩
            go_wp2
            go_ret
            exact ⟨qaB HR.out.symm,by first|exact below_drewN HB1.out _|exact below_drewN (below_drewN HB1.out _) _⟩
          · have hbc: (((cn:Nat):Int) !=0)=false:=by simpa using hcw
            have HO3:Hid (qbA d.1 j=am):=by unfold Hid;rw [HO2.out,HW.out,decide_eq_true hcw];simp
            clear hcw HO2 HW
            cases am with
            | true=>
              have HR:Hid (∀k,k<j+1→qbA d.1 k=true):=HY.out HO3.out
              clear HO3 HY HNO
              go_wp2_with fail
              refine HL'.out.mono ?_
              rintro e w2 ⟨rfl,m',rfl⟩
              rw [World.drewN_drewN]
              go_wp2_with fail
              refine (HA'.out _).mono ?_
              rintro e w3 ⟨rfl,m3,rfl⟩
              go_wp2
              go_roundw
              case rel=>exact ⟨j+1,_,by omega,by go_num,by first|rfl|rw [World.drewN_drewN],HR.out⟩
              case measure=>simp [intOf];omega
            | false=>
              have HR:Hid (qbe d.1=false):=HNO.out HO3.out
              clear HO3 HY HNO
              go_wp2_with fail
              refine HL'.out.mono ?_
              rintro e w2 ⟨rfl,m',rfl⟩
              rw [World.drewN_drewN]
              go_wp2_with fail
              refine (HA'.out _).mono ?_
              rintro e w3 ⟨rfl,m3,rfl⟩
              go_wp2
              go_ret
              exact ⟨qaB HR.out.symm,by first|exact below_drewN HB1.out _|exact below_drewN (below_drewN HB1.out _) _⟩
        · have hbj: ((j:Int)==0)=false:=by simp;omega
          have HW2:Hid (qdi d.1 j=1):=by unfold Hid;rw [HW.out,if_neg hk1,if_neg hj0]
          clear hk1 HW hj0
          have HW:=HW2
          clear HW2
          by_cases hcw: ((cn:Nat):Int)=1
          rotate_left
          · have hbc: (((cn:Nat):Int) !=1)=true:=by simpa using hcw
            have HR:Hid (qbe d.1=false):=HNO.out (by rw [HO2.out,HW.out,decide_eq_false hcw];rfl)
            clear hcw HO2 HW HY HNO HA'
            go_wp2_with fail
            refine HL'.out.mono ?_
            rintro e w2 ⟨rfl,m',rfl⟩
            go_wp2
            go_ret
            exact ⟨qaB HR.out.symm,by first|exact below_drewN HB1.out _|exact below_drewN (below_drewN HB1.out _) _⟩
          · have hbc: (((cn:Nat):Int) !=1)=false:=by simpa using hcw
            have HO3:Hid (qbA d.1 j=am):=by unfold Hid;rw [HO2.out,HW.out,decide_eq_true hcw];simp
            clear hcw HO2 HW
            cases am with
            | true=>
              have HR:Hid (∀k,k<j+1→qbA d.1 k=true):=HY.out HO3.out
              clear HO3 HY HNO
              go_wp2_with fail
              refine HL'.out.mono ?_
              rintro e w2 ⟨rfl,m',rfl⟩
              rw [World.drewN_drewN]
              go_wp2_with fail
              refine (HA'.out _).mono ?_
              rintro e w3 ⟨rfl,m3,rfl⟩
              go_wp2
              go_roundw
              case rel=>exact ⟨j+1,_,by omega,by go_num,by first|rfl|rw [World.drewN_drewN],HR.out⟩
              case measure=>simp [intOf];omega
            | false=>
              have HR:Hid (qbe d.1=false):=HNO.out HO3.out
              clear HO3 HY HNO
              go_wp2_with fail
              refine HL'.out.mono ?_
              rintro e w2 ⟨rfl,m',rfl⟩
              rw [World.drewN_drewN]
              go_wp2_with fail
              refine (HA'.out _).mono ?_
              rintro e w3 ⟨rfl,m3,rfl⟩
              go_wp2
              go_ret
              exact ⟨qaB HR.out.symm,by first|exact below_drewN HB1.out _|exact below_drewN (below_drewN HB1.out _) _⟩
  · have HR:Hid (qbe d.1=true):=qgK fun i hi=>HZ.out i (by rw [HN.out] at hi;omega)
    go_wp2
    go_ret
    exact ⟨qaB HR.out.symm,below_drewN HB1.out m⟩
end Go.Proofs.YthnmlipnoajmkaaGreatDoor

namespace Go.Proofs.YthnmlipnoajmkaaGreatDoor
open Go.RowKit
set_option maxRecDepth 100000

theorem qb9 {d:ID} (h:qbl d=0):0≤d.2.2.1∧d.2.2.1≤32∧ ((d.2.2.2.1.length:Nat):Int)= (d.2.2.1+7)/8:=by
 unfold qbl at h
 have fp:fpB d=false→d.2.2.1=0∧d.2.2.2.1.length=0:=fun hf=>by
  unfold fpB at hf
  simp at hf
  exact ⟨hf.1.2,by rw [hf.2];rfl⟩
 by_cases h0:d.1=0
 · rw [if_pos h0] at h
   have hf:fpB d=false:=by
    cases e:fpB d with
    |false=>rfl
    |true=>rw [e] at h;simp at h
   obtain ⟨h1,h2⟩:=fp hf
   omega
 · rw [if_neg h0] at h
   by_cases h1:d.1=1
   · rw [if_pos h1] at h
     have hd:dpB d=false:=by
      cases e:dpB d with
      |false=>rfl
      |true=>rw [e] at h;simp at h
     rw [hd] at h
     simp only [Bool.false_eq_true,if_false] at h
     unfold qcK at h
     by_cases hl:qeO d.2.1=true∧qcJ d.2.2.1=true
     · rw [if_pos hl] at h
       have hz:=hl.2
       unfold qcJ at hz
       simp at hz
       by_cases hb: ((d.2.2.2.1.length:Nat):Int)= (d.2.2.1+7)/8
       · exact ⟨hz.1,hz.2,hb⟩
       · rw [if_neg hb] at h;omega
     · rw [if_neg hl] at h;omega
   · rw [if_neg h1] at h
     by_cases h2:d.1=2
     · rw [if_pos h2] at h
       have hf:fpB d=false:=by
        cases e:fpB d with
        |false=>rfl
        |true=>rw [e] at h;simp at h
       obtain ⟨h3,h4⟩:=fp hf
       omega
     · rw [if_neg h2] at h;omega
theorem qhq {d:ID} (h:qbl d=0):d.2.2.2.2.length≤6:=by
 unfold qbl at h
 have dp:dpB d=false→d.2.2.2.2.length=0:=fun hd=>by unfold dpB at hd;simp at hd;rw [hd];rfl
 by_cases h0:d.1=0
 · rw [if_pos h0] at h
   have hd:dpB d=false:=by
    cases e:dpB d with
    |false=>rfl
    |true=>rw [e] at h;simp at h
   have:=dp hd
   omega
 · rw [if_neg h0] at h
   by_cases h1:d.1=1
   · rw [if_pos h1] at h
     have hd:dpB d=false:=by
      cases e:dpB d with
      |false=>rfl
      |true=>rw [e] at h;simp at h
     have:=dp hd
     omega
   · rw [if_neg h1] at h
     by_cases h2:d.1=2
     · rw [if_pos h2] at h
       by_cases hf:fpB d=true
       · rw [if_pos hf] at h;omega
       · rw [if_neg hf] at h
         unfold qel at h
         by_cases h6:6<d.2.2.2.2.length
         · rw [if_pos h6] at h;omega
         · omega
     · rw [if_neg h2] at h;omega

theorem qdD {w:World} {b o:Nat} {v:Value} (h:w.cell? ⟨b,o,none⟩=some v):b<w.heap.size:=by
 by_cases hb:b<w.heap.size
 · exact hb
 · simp [World.cell?,Array.getElem?_eq_none (Nat.le_of_not_lt hb)] at h
theorem qfS (x:Int) (h0: -9223372036854775808≤x) (h1:x≤9223372036854775807):IntKind.i64.wrap x=x:=by
 unfold IntKind.wrap
 simp only [IntKind.signed,IntKind.bits]
 simp
 split<;>omega
def m8 (x:Int):Int:=if 8<x then 8 else x
def qqB (f:Nat→Int) (b v:Int):Nat→Int:=fun i=>if i=b.toNat then v else f i
def qkO (s:Int) (bs:List Int) (f:Nat→Int):Nat→Nat→Int
 |0=>f
 |k+1=>qqB (qkO s bs f k) (bs[k]?.getD 0) (m8 (s-8* (k:Int)))
def qjd (ds:List ID):Nat→Nat→Int
 |0=>fun _=>0
 |j+1=>qkO (ds[j]?.getD id0).2.2.1 (ds[j]?.getD id0).2.2.2.1 (qjd ds j) (ds[j]?.getD id0).2.2.2.1.length
def qc4 (d:FD) (i:Nat):Bool:=decide ((((d.2[i]?.getD []).length:Nat):Int)=qjd d.1 d.1.length i)
def qbI (d:FD):Bool:= (List.range 20).all (qc4 d)
theorem qiC {d:FD} {i:Nat} (hi:i<20) (h:qc4 d i=false):qbI d=false:=by
 unfold qbI
 rw [List.all_eq_false]
 exact ⟨i,by simpa using hi,by simp [h]⟩
theorem qgL {d:FD} (h: ∀i,i<20→qc4 d i=true):qbI d=true:=by
 unfold qbI
 rw [List.all_eq_true]
 intro i hi
 exact h i (by simpa using hi)
set_option maxHeartbeats 400000 in
theorem qlD (w:World) (x:Int):Calls Tryz.prog 78 #[.int .i64 8, .int .i64 x] w fun e w'=>e= .returned (.int .i64 (m8 x))∧w'=w:=by
 by_cases h:8<x
 · have hd:decide ((8:Int)<x)=true:=by simpa using h
   have HR:Hid (m8 x=8):=by unfold Hid m8;rw [if_pos h]
   clear h
   go_enter Tryz.func78,Tryz.ntmps78
   go_wp2
   go_ret
   exact ⟨qad HR.out.symm,rfl⟩
 · have hd:decide ((8:Int)<x)=false:=by simpa using h
   have HR:Hid (m8 x=x):=by unfold Hid m8;rw [if_neg h]
   clear h
   go_enter Tryz.func78,Tryz.ntmps78
   go_wp2
   go_ret
   exact ⟨qad HR.out.symm,rfl⟩
def qnN (f:Nat→Int) (i:Nat):Value:= .int .i64 (f i)

set_option maxHeartbeats 6400000 in
theorem qj2 (w:World) (b o:Nat) (d:FD) (aI:Option Addr) (cI:Nat) (aD:Option Addr) (cD:Nat) (h:FsX w b o d aI cI aD cD) (hn:d.1.length≤10) (h20:d.2.length=20) (hi:qaY d.1=0)
 (hbl: ∀j k:Nat,j<d.1.length→k< (d.1[j]?.getD id0).2.2.2.1.length→0≤ (d.1[j]?.getD id0).2.2.2.1[k]?.getD 0∧ (d.1[j]?.getD id0).2.2.2.1[k]?.getD 0<20):
 Calls Tryz.prog 40 #[.pointer (some ⟨b,o,none⟩)] w fun e w'=>e= .returned (.bool (qbI d))∧Below w.heap.size w w':=by
 have HINO:Hid (∀j,j<d.1.length→qbl (d.1[j]?.getD id0)=0):=qaM hi
 have HBK:Hid (∀j k:Nat,j<d.1.length→k< (d.1[j]?.getD id0).2.2.2.1.length→0≤ (d.1[j]?.getD id0).2.2.2.1[k]?.getD 0∧ (d.1[j]?.getD id0).2.2.2.1[k]?.getD 0<20):=hbl
 obtain ⟨_,_,e1,hm1,hAt⟩:=h.ins.open'
 simp only [Value.slice.injEq] at e1
 obtain ⟨rfl,-,rfl⟩:=e1
 obtain ⟨_,_,e2,hm2,hBt⟩:=h.byt.open'
 simp only [Value.slice.injEq] at e2
 obtain ⟨rfl,-,rfl⟩:=e2
 have c0:=h.c0
 have c1:=h.c1
 rw [h20] at c1 hBt
 have HAT:Hid (AtI w aI d.1.length d.1):=hAt
 have HBT:Hid (qgi w aD 20 d.2):=hBt
 have HSO:Hid (∀i,qc4 d i=decide ((((d.2[i]?.getD []).length:Nat):Int)=qjd d.1 d.1.length i)):=fun i=>rfl
 have HD0:Hid (qjd d.1 0=fun _=>0):=rfl
 have HDS:Hid (∀j,qjd d.1 (j+1)=qkO (d.1[j]?.getD id0).2.2.1 (d.1[j]?.getD id0).2.2.2.1 (qjd d.1 j) (d.1[j]?.getD id0).2.2.2.1.length):=fun j=>rfl
 clear h hi hbl hAt hBt hm1 hm2 h20
 obtain ⟨n,hnn⟩: ∃n,d.1.length=n:= ⟨_,rfl⟩
 rw [hnn] at HINO HBK c0 HAT HSO hn
 clear hnn
 generalize qjd d.1=DU at*
 have hmk: ∀w,(Instr.makeSlice 64 (.int .i64 20) (.int .i64 20)).run Tryz.prog w=_:=fun w=>run_make_row' (P:=Tryz.prog) 64 2 (.int .i64 0) 8 Tryz.underlying64 Tryz.infoInt rfl .i64 .i64 20 (by omega) (by omega) w
 have HM0:Hid (qaa (w.alloc (.cells (madeCells #[.int .i64 0] 20) 2)) w.heap.size 20 (qnN (DU 0))):=by
  unfold Hid
  rw [HD0.out]
  exact qaa.made w (.int .i64 0) 20 2
 go_enter Tryz.func40,Tryz.ntmps40
 go_wp2
 clear hmk
 go_loopw [4] (fun i wr=> ∃j:Nat,j≤n∧i= .int .i64 j∧Below w.heap.size w wr∧qaa wr w.heap.size 20 (qnN (DU j))) (fun i _=>n- (intOf i).toNat)
 case atStart=>exact ⟨0,Nat.zero_le _,rfl,qab _ _,HM0.out⟩
 case round=>
  obtain ⟨j,hj,rfl,hbl,hrow⟩:=hrel
  have HBL:Hid (Below w.heap.size w wr):=hbl
  have HROW:Hid (qaa wr w.heap.size 20 (qnN (DU j))):=hrow
  have c0r:=cell_later hbl c0
  have c1r:=cell_later hbl c1
  clear hbl hrow HM0
  by_cases hlt:j<n
  · obtain ⟨b0,o0,rfl,hI⟩:=HAT.out j hlt
    obtain ⟨aB,cB,_,_,_,_,k2,k3,_,h5⟩:=hI
    obtain ⟨_,_,e3,hm3,hI1⟩:=h5.2.1.open'
    simp only [Value.slice.injEq] at e3
    obtain ⟨rfl,_,rfl⟩:=e3
    have hsz:=qb9 (HINO.out j hlt)
    have hbk:=HBK.out j
    have HBKJ:Hid (∀k,k< (d.1[j]?.getD id0).2.2.2.1.length→0≤ (d.1[j]?.getD id0).2.2.2.1[k]?.getD 0∧ (d.1[j]?.getD id0).2.2.2.1[k]?.getD 0<20):=fun k hk=>hbk k hlt hk
    have HDJ:Hid (DU (j+1)=qkO (d.1[j]?.getD id0).2.2.1 (d.1[j]?.getD id0).2.2.2.1 (DU j) (d.1[j]?.getD id0).2.2.2.1.length):=HDS.out j
    clear h5 hm3 hbk
    generalize (d.1[j]?.getD id0).2.2.1=s at*
    generalize (d.1[j]?.getD id0).2.2.2.1=bs at*
    have HIB:Hid (At1 w aB bs.length (fun k=> .int .i64 (bs[k]?.getD 0))):=hI1
    have hb4:bs.length≤4:=by omega
    obtain ⟨nB,hnB⟩: ∃nB,bs.length=nB:= ⟨_,rfl⟩
    rw [hnB] at k3 HIB HBKJ HDJ hb4
    clear hI1 hnB
    have HK0:Hid (qkO s bs (DU j) 0=DU j):=rfl
    have HKS:Hid (∀k,qkO s bs (DU j) (k+1)=qqB (qkO s bs (DU j) k) (bs[k]?.getD 0) (m8 (s-8* (k:Int)))):=fun k=>rfl
    have hs0:=hsz.1
    have hs1:=hsz.2.1
    clear hsz
    generalize qkO s bs (DU j)=DK at*
    have k2r:=cell_later HBL.out k2
    have k3r:=cell_later HBL.out k3
    go_wp2
    go_loopw [6] (fun i wr=> ∃k:Nat,k≤nB∧i= .int .i64 k∧Below w.heap.size w wr∧qaa wr w.heap.size 20 (qnN (DK k))) (fun i _=>nB- (intOf i).toNat)
    case atStart=>exact ⟨0,Nat.zero_le _,rfl,HBL.out,by rw [HK0.out];exact HROW.out⟩
    case round=>
     obtain ⟨k,hk,rfl,hbl2,hrow2⟩:=hrel
     have HB2:Hid (Below w.heap.size w wr):=hbl2
     have HROW2:Hid (qaa wr w.heap.size 20 (qnN (DK k))):=hrow2
     have k2s:=cell_later hbl2 k2
     have k3s:=cell_later hbl2 k3
     clear hbl2 hrow2 k2r k3r c0r c1r
     by_cases hlk:k<nB
     · obtain ⟨b1,o1,rfl,p1⟩:=HIB.out k hlk
       replace p1:w.cell? ⟨b1,o1+k,none⟩=some (.int .i64 (bs[k]?.getD 0)):=p1
       have p1r:=cell_later HB2.out p1
       have hbr:=HBKJ.out k hlk
       have HST:Hid (DK (k+1)=qqB (DK k) (bs[k]?.getD 0) (m8 (s-8* (k:Int)))):=HKS.out k
       have hlt1:b1<w.heap.size:=qdD p1
       have hlt0:b0<w.heap.size:=qdD k2
       generalize bs[k]?.getD 0=x at*
       obtain ⟨y,rfl⟩: ∃y:Nat,x= (y:Int):= ⟨x.toNat,by omega⟩
       have hy:y<20:=by omega
       have r0:=HROW2.out.cell hy
       have r1:=HROW2.out.frozen y
       have hne0:w.heap.size≠b0:=by omega
       have hne1:w.heap.size≠b1:=by omega
       have HMN:Hid (∀W,Calls Tryz.prog 78 #[.int .i64 8, .int .i64 (IntKind.i64.wrap (s-IntKind.i64.wrap ((k:Int)*8)))] W fun e w'=>e= .returned (.int .i64 (m8 (s-8* (k:Int))))∧w'=W):=fun W=>by
        rw [qfS ((k:Int)*8) (by omega) (by omega),qfS (s- (k:Int)*8) (by omega) (by omega),show s-8* (k:Int)=s- (k:Int)*8 by omega]
        exact qlD W _
       generalize m8 (s-8* (k:Int))=mv at*
       have HROW3:Hid (∀q,qaa ((wr.drewN q).setCell ⟨w.heap.size,y,none⟩ (.int .i64 mv)) w.heap.size 20 (qnN (DK (k+1)))):=fun q=>by
        have:= (HROW2.out.later (below_drewN (Below.refl _ _) q)).set y (.int .i64 mv)
        rw [HST.out]
        refine this.congr fun i _=> ?_
        unfold qnN qqB
        by_cases e:i=y<;>simp [e]
       have HB3:Hid (∀q,Below w.heap.size w ((wr.drewN q).setCell ⟨w.heap.size,y,none⟩ (.int .i64 mv))):=fun q=> (below_drewN HB2.out q).setCell (by simp) _
       clear HROW2 HST HBKJ HKS HK0 HDJ
       unfold qnN at r0
       generalize DK k y=rv at*
       go_wp2_with fail
       go_region_held3 (fun W=>W.cell? ⟨b0,o0+j*5+2,none⟩=some (.int .i64 s)∧W.cell? ⟨b0,o0+j*5+3,none⟩=some (.slice (some ⟨b1,o1,none⟩) nB cB)∧W.cell? ⟨b1,o1+k,none⟩=some (.int .i64 (y:Int))) (go_keep) (first
        | (go_at_call 78;refine (HMN.out _).mono ?_;rintro e w2 ⟨rfl,rfl⟩))
       all_goals
        go_wp2
        go_roundw
        case rel=>exact ⟨k+1,by omega,by go_num,HB3.out _,HROW3.out _⟩
        case measure=>simp [intOf];omega
     · have HE:Hid (DK k=DU (j+1)):=by unfold Hid;rw [HDJ.out,show k=nB by omega]
       go_wp2
       go_roundw
       case rel=>exact ⟨j+1,by omega,by go_num,HB2.out,by rw [←HE.out];exact HROW2.out⟩
       case measure=>simp [intOf];omega
  · have HJ:Hid (DU j=DU n):=by unfold Hid;rw [show j=n by omega]
    have HROWN:Hid (qaa wr w.heap.size 20 (qnN (DU n))):=by rw [←HJ.out];exact HROW.out
    clear HAT HDS HINO HBK HROW HJ
    obtain ⟨wo,rfl⟩: ∃wo,wo=wr:= ⟨_,rfl⟩
    go_wp2
    go_loopw [7] (fun i wr=> ∃k m:Nat,k≤20∧i= .int .i64 k∧wr=wo.drewN m∧ ∀q,q<k→qc4 d q=true) (fun i _=>20- (intOf i).toNat)
    case atStart=>exact ⟨0,0,by omega,rfl,rfl,fun q hq=>by omega⟩
    case round=>
     obtain ⟨k,m,hk,rfl,rfl,hz⟩:=hrel
     have HZ:Hid (∀q,q<k→qc4 d q=true):=hz
     clear hz
     by_cases hlk:k<20
     · obtain ⟨bD,oD,ua,uc,rfl,d0,_⟩:=HBT.out k hlk
       replace d0:=cell_later HBL.out d0
       have r0:=HROWN.out.cell hlk
       have HSK:Hid (qc4 d k=decide ((((d.2[k]?.getD []).length:Nat):Int)=DU n k)):=HSO.out k
       unfold qnN at r0
       have HY:Hid (qc4 d k=true→ ∀q,q<k+1→qc4 d q=true):=fun hh q hq=>by
        by_cases e:q=k
        · subst e;exact hh
        · exact HZ.out q (by omega)
       have HNO:Hid (qc4 d k=false→qbI d=false):=fun hh=>qiC hlk hh
       generalize (d.2[k]?.getD []).length=ln at*
       generalize DU n k=du at*
       by_cases he: ((ln:Nat):Int)=du
       · have hb: (((ln:Nat):Int) !=du)=false:=by simpa using he
         have HR:Hid (∀q,q<k+1→qc4 d q=true):=HY.out (by rw [HSK.out,decide_eq_true he])
         clear he HSK HY HNO
         go_wp2_with fail
         go_quiet (fail)
         go_wp2
         go_roundw
         case rel=>exact ⟨k+1,_,by omega,by go_num,by first|rfl|rw [World.drewN_drewN],HR.out⟩
         case measure=>simp [intOf];omega
       · have hb: (((ln:Nat):Int) !=du)=true:=by simpa using he
         have HR:Hid (qbI d=false):=HNO.out (by rw [HSK.out,decide_eq_false he])
         clear he HSK HY HNO
         go_wp2_with fail
         go_quiet (fail)
         go_wp2
         go_ret
         exact ⟨qaB HR.out.symm,by first|exact below_drewN HBL.out _|exact below_drewN (below_drewN HBL.out _) _⟩
     · have HR:Hid (qbI d=true):=qgL fun i hi=>HZ.out i (by omega)
       go_wp2
       go_ret
       exact ⟨qaB HR.out.symm,below_drewN HBL.out m⟩
end Go.Proofs.YthnmlipnoajmkaaGreatDoor

namespace Go.Proofs.YthnmlipnoajmkaaGreatDoor
open Go.RowKit
set_option maxRecDepth 100000

theorem qs7 {α:Type} (c k:Nat) (x0 x1 x2 x3 x4 r:α): (if c=k+4 then x4 else if c=k+3 then x3 else if c=k+2 then x2 else if c=k+1 then x1 else if c=k then x0 else r)= (if c=k then x0 else if c=k+1 then x1 else if c=k+2 then x2 else if c=k+3 then x3 else if c=k+4 then x4 else r):=by
 by_cases h0:c=k
 · subst h0;simp
 · by_cases h1:c=k+1
   · subst h1;simp
   · by_cases h2:c=k+2
     · subst h2;simp
     · by_cases h3:c=k+3
       · subst h3;simp
       · simp [h0,h1,h2,h3]
def qcB (w:World) (b k:Nat) (x0 x1 x2 x3 x4:Value):World:= ((((w.setCell ⟨b,k,none⟩ x0).setCell ⟨b,k+1,none⟩ x1).setCell ⟨b,k+2,none⟩ x2).setCell ⟨b,k+3,none⟩ x3).setCell ⟨b,k+4,none⟩ x4
theorem qaa.five {w:World} {b n:Nat} {f:Nat→Value} (h:qaa w b n f) (k:Nat) (x0 x1 x2 x3 x4:Value):qaa (qcB w b k x0 x1 x2 x3 x4) b n (fun c=>if c=k then x0 else if c=k+1 then x1 else if c=k+2 then x2 else if c=k+3 then x3 else if c=k+4 then x4 else f c):=
 (((((h.set k x0).set (k+1) x1).set (k+2) x2).set (k+3) x3).set (k+4) x4).congr fun c _=>Go.Proofs.YthnmlipnoajmkaaGreatDoor.qs7 c k x0 x1 x2 x3 x4 (f c)
theorem qes (w:World) (b k:Nat) (x0 x1 x2 x3 x4:Value) (c:Nat) (h:c≠b): (qcB w b k x0 x1 x2 x3 x4).heap[c]?=w.heap[c]?:=by
 unfold qcB
 rw [Below.heap_setCell _ _ _ _ h,Below.heap_setCell _ _ _ _ h,Below.heap_setCell _ _ _ _ h,Below.heap_setCell _ _ _ _ h,Below.heap_setCell _ _ _ _ h]
theorem qfT (w:World) (b k:Nat) (x0 x1 x2 x3 x4:Value): (qcB w b k x0 x1 x2 x3 x4).heap.size=w.heap.size:=by simp [qcB,World.setCell]
theorem qlE {w W:World} {B b:Nat} (hB:Below B w W) (h:B≤b) (k:Nat) (x0 x1 x2 x3 x4:Value):Below B w (qcB W b k x0 x1 x2 x3 x4):= ((((hB.setCell h _).setCell h _).setCell h _).setCell h _).setCell h _
theorem qlF (ds:List ID) (U:Nat→Value×Value) (j:Nat) (hj:j<ds.length) (vB vE:Value) (c:Nat): (if c=j*5 then .int .i64 (ds[j]?.getD id0).1 else if c=j*5+1 then .int .i64 (ds[j]?.getD id0).2.1 else if c=j*5+2 then .int .i64 (ds[j]?.getD id0).2.2.1 else if c=j*5+3 then vB else if c=j*5+4 then vE else qao ds U c)=qao ds (fun i=>if i=j then (vB,vE) else U i) c:=by
 rw [←qcd ds U j hj (ds[j]?.getD id0) vB vE c]
 have e:ds.set j (ds[j]?.getD id0)=ds:=by
  rw [List.getElem?_eq_getElem hj,Option.getD_some,List.set_getElem_self]
 rw [e]
def CfI (w:World) (d:FD) (n m bI g so lo:Nat) (u0:Nat→Value×Value) (wr:World) (j:Nat):Prop:=
 Below w.heap.size w wr∧ ((w.heap.size+2≤bI∧bI<lo)∧ (w.heap.size+2≤so∧so<lo)∧bI≠so∧lo≤wr.heap.size)∧qaa wr (w.heap.size+1) 2 (fun _=> .slice none 0 0)∧qaa wr so 2 (fun i=>if i=0 then .slice (some ⟨bI,0,none⟩) n n else .slice (some ⟨g,0,none⟩) m m)∧
  qaR wr (.slice (some ⟨g,0,none⟩) m m) d.2 (fun c=>c≠bI∧c≠so∧w.heap.size+2≤c∧c<lo)∧ ∃u s,qaa wr bI (n*5) (qao d.1 (fun i=>if i<j then u i else u0 i))∧BuiltI wr lo j u (fun i=>d.1[i]?.getD id0) s
theorem CfI.next {w wr W:World} {d:FD} {n m bI g so lo:Nat} {u0:Nat→Value×Value} {j:Nat} (h:CfI w d n m bI g so lo u0 wr j) (hj:j<d.1.length) (hb:Below wr.heap.size wr W) (vB vE:Value)
 (hv:qdo W (.int .i64 (d.1[j]?.getD id0).1) (.int .i64 (d.1[j]?.getD id0).2.1) (.int .i64 (d.1[j]?.getD id0).2.2.1) vB vE (d.1[j]?.getD id0) (qaj wr W)):
 CfI w d n m bI g so lo u0 (qcB W bI (j*5) (.int .i64 (d.1[j]?.getD id0).1) (.int .i64 (d.1[j]?.getD id0).2.1) (.int .i64 (d.1[j]?.getD id0).2.2.1) vB vE) (j+1):=by
 obtain ⟨h1,h2,h3,h4,h5,u,s,h6,h7⟩:=h
 have hs:=hb.size
 refine ⟨qlE (h1.trans (hb.mono (by omega))) (by omega) _ _ _ _ _ _,⟨h2.1,h2.2.1,h2.2.2.1,by rw [qfT];omega⟩,(h3.later hb).block (qes _ _ _ _ _ _ _ _ _ (by omega)),(h4.later hb).block (qes _ _ _ _ _ _ _ _ _ (by omega)),(h5.later hb).keep fun c hc _=>qes _ _ _ _ _ _ _ _ _ hc.1,fun i=>if i=j then (vB,vE) else u i,_,((h6.later hb).five _ _ _ _ _ _).congr fun c _=> ?_,(h7.next hb hv).keep (by rw [qfT];exact Nat.le_refl _) fun c hc _=>qes _ _ _ _ _ _ _ _ _ (by omega)⟩
 rw [qlF d.1 _ j hj vB vE c]
 congr 1
 funext i
 by_cases e:i=j
 · subst e;simp
 · by_cases e2:i<j
   · simp [e,e2,show i<j+1 by omega]
   · simp [e,e2,show ¬i<j+1 by omega]
theorem CfI.fs {w wr:World} {d:FD} {n m bI g so lo:Nat} {u0:Nat→Value×Value} (h:CfI w d n m bI g so lo u0 wr n) (hn:d.1.length=n) (hm:n≤maxLen):FsU wr (.slice (some ⟨bI,0,none⟩) n n) (.slice (some ⟨g,0,none⟩) m m) d (fun c=>w.heap.size+2≤c∧c<wr.heap.size):=by
 obtain ⟨h1,h2,h3,h4,h5,u,s,h6,h7⟩:=h
 have hr:qaa wr bI (n*5) (qao d.1 u):=h6.congr fun c hc=>by
  unfold qao
  dsimp only
  rw [if_pos (show c/5<n by omega)]
 refine ⟨fun c=>c=bI∨ (lo≤c∧c<wr.heap.size),_,BuiltI.inos d.1 h7 hn ⟨hm,Nat.le_refl _⟩ (by omega) hr _ (Or.inl rfl) (fun c hc hc'=>Or.inr ⟨hc,hc'⟩),h5,fun b hb hb'=>by omega,fun b hb=>by omega⟩
theorem CfI.ino {w wr:World} {d:FD} {n m bI g so lo:Nat} {u0:Nat→Value×Value} {j:Nat} (h:CfI w d n m bI g so lo u0 wr j) (hj:j<n):wr.cell? ⟨bI,j*5,none⟩=some (.int .i64 (d.1[j]?.getD id0).1)∧wr.cell? ⟨bI,j*5+1,none⟩=some (.int .i64 (d.1[j]?.getD id0).2.1)∧wr.cell? ⟨bI,j*5+2,none⟩=some (.int .i64 (d.1[j]?.getD id0).2.2.1)∧wr.cell? ⟨bI,j*5+3,none⟩=some (u0 j).1∧wr.cell? ⟨bI,j*5+4,none⟩=some (u0 j).2∧ ∀i,wr.frozen? ⟨bI,i,none⟩=false:=by
 obtain ⟨h1,h2,h3,h4,h5,u,s,h6,h7⟩:=h
 have e0:=h6.cell (i:=j*5) (by omega)
 have e1:=h6.cell (i:=j*5+1) (by omega)
 have e2:=h6.cell (i:=j*5+2) (by omega)
 have e3:=h6.cell (i:=j*5+3) (by omega)
 have e4:=h6.cell (i:=j*5+4) (by omega)
 rw [qb5] at e0
 rw [qcs] at e1
 rw [qb6] at e2
 rw [qbL,if_neg (by omega)] at e3
 rw [qbv,if_neg (by omega)] at e4
 exact ⟨e0,e1,e2,e3,e4,h6.frozen⟩
theorem AtI.row {w:World} {a:Option Addr} {n:Nat} {ds:List ID} (h:AtI w a n ds): ∃u:Nat→Value×Value,(∀i,i<n→ ∃aB cB aE cE,u i= (.slice aB (ds[i]?.getD id0).2.2.2.1.length cB, .slice aE (ds[i]?.getD id0).2.2.2.2.length cE)∧qfs w (.int .i64 (ds[i]?.getD id0).1) (.int .i64 (ds[i]?.getD id0).2.1) (.int .i64 (ds[i]?.getD id0).2.2.1) (u i).1 (u i).2 (ds[i]?.getD id0))∧
 ∀c,c<n*5→ ∃b off,a=some ⟨b,off,none⟩∧w.cell? ⟨b,off+c,none⟩=some (qao ds u c):=by
 have hx: ∀i,i<n→ ∃q: (Option Addr×Nat)× (Option Addr×Nat),∃b o,a=some ⟨b,o,none⟩∧w.cell? ⟨b,o+i*5,none⟩=some (.int .i64 (ds[i]?.getD id0).1)∧w.cell? ⟨b,o+i*5+1,none⟩=some (.int .i64 (ds[i]?.getD id0).2.1)∧w.cell? ⟨b,o+i*5+2,none⟩=some (.int .i64 (ds[i]?.getD id0).2.2.1)∧w.cell? ⟨b,o+i*5+3,none⟩=some (.slice q.1.1 (ds[i]?.getD id0).2.2.2.1.length q.1.2)∧w.cell? ⟨b,o+i*5+4,none⟩=some (.slice q.2.1 (ds[i]?.getD id0).2.2.2.2.length q.2.2)∧
  qfs w (.int .i64 (ds[i]?.getD id0).1) (.int .i64 (ds[i]?.getD id0).2.1) (.int .i64 (ds[i]?.getD id0).2.2.1) (.slice q.1.1 (ds[i]?.getD id0).2.2.2.1.length q.1.2) (.slice q.2.1 (ds[i]?.getD id0).2.2.2.2.length q.2.2) (ds[i]?.getD id0):=fun i hi=>by
  obtain ⟨b,o,e,aB,cB,aE,cE,h0,h1,h2,h3,h4,h5⟩:=h i hi
  exact ⟨((aB,cB),(aE,cE)),b,o,e,h0,h1,h2,h3,h4,h5⟩
 obtain ⟨f,hf⟩:=qqY hx
 refine ⟨fun i=> (.slice (f i).1.1 (ds[i]?.getD id0).2.2.2.1.length (f i).1.2, .slice (f i).2.1 (ds[i]?.getD id0).2.2.2.2.length (f i).2.2),fun i hi=> ?_,fun c hc=> ?_⟩
 · obtain ⟨b,o,e,h0,h1,h2,h3,h4,h5⟩:=hf i hi
   exact ⟨_,_,_,_,rfl,h5⟩
 · obtain ⟨b,o,e,h0,h1,h2,h3,h4,h5⟩:=hf (c/5) (by omega)
   refine ⟨b,o,e, ?_⟩
   have:c % 5=0∨c % 5=1∨c % 5=2∨c % 5=3∨c % 5=4:=by omega
   unfold qao
   rcases this with hc5|hc5|hc5|hc5|hc5
   · rw [if_pos hc5,show o+c=o+c/5*5 by omega];exact h0
   · rw [if_neg (by omega),if_pos hc5,show o+c=o+c/5*5+1 by omega];exact h1
   · rw [if_neg (by omega),if_neg (by omega),if_pos hc5,show o+c=o+c/5*5+2 by omega];exact h2
   · rw [if_neg (by omega),if_neg (by omega),if_neg (by omega),if_pos hc5,show o+c=o+c/5*5+3 by omega];exact h3
   · rw [if_neg (by omega),if_neg (by omega),if_neg (by omega),if_neg (by omega),show o+c=o+c/5*5+4 by omega];exact h4
end Go.Proofs.YthnmlipnoajmkaaGreatDoor
