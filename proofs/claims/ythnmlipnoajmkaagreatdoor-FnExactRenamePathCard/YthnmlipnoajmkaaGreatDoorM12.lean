/- The specification:what is wrong of inodes,data and entries of a file system,the rest. A list of a row of lists is put in the place of another:what the row is behind it. What a flush or a crash keeps. No program is named here. The walks of NewDisk,the program's and the specification's. The walks of the program's rack:lists that are set one by one. The walks of the program's drive:a cache of pointers that grows. The walk of the program's drive.disk:the cache of pointers becomes a list of puts. The walk of the specification's copying of a disk. The walk of the specification's keeping of what is picked. Rows that grow by append:where the row lies behind it;and rows told otherwise. The walks of DiskFault,the specification's and the program's. The walks of the specification's look at a block. The walks of the program's look at a block. The walk of the specification's PutBlock. The walks of the specification's FlushDisk and CrashDisk. The walk of the specification's PutBlock where it puts. The walk of the program's PutBlock. The walk of the program's settling of what is picked. The walks of the program's FlushDisk and CrashDisk. Lists of bits:how they read,and the walks of the laws' functions over them. The specification:which places can be reached. -/
import Derived.Test.YthnmlipnoajmkaaGreatDoorM11
import Derived.Test.YthnmlipnoajmkaaGreatDoorM00
import Derived.Test.YthnmlipnoajmkaaGreatDoorM08
import Derived.Test.YthnmlipnoajmkaaGreatDoorRows
import Derived.Test.YthnmlipnoajmkaaGreatDoorM07
import Derived.Deep.RegionWith
import Derived.Deep.RegionLaw
import Derived.Test.YthnmlipnoajmkaaGreatDoorM02
import Derived.Deep.AppendLies
import Derived.Deep.RegionHeld3
import Derived.Test.YthnmlipnoajmkaaGreatDoorM03
namespace Go.Proofs.YthnmlipnoajmkaaGreatDoor
open Go.RowKit
set_option maxRecDepth 100000

theorem qaM {ds:List ID} (h:qaY ds=0): ∀j,j<ds.length→qbl (ds[j]?.getD id0)=0:=by
 unfold qaY at h
 by_cases h1:10<ds.length
 · rw [if_pos h1] at h;omega
 · rw [if_neg h1] at h;exact qby h
theorem qjY {d:ID} (h:qbl d=0): ∀k,k<d.2.2.2.2.length→0≤ (d.2.2.2.2[k]?.getD en0).2:=by
 intro k hk
 have hd:dpB d=true:=by unfold dpB;simpa using by omega
 unfold qbl at h
 by_cases h0:d.1=0
 · rw [if_pos h0,hd,Bool.or_true,if_pos rfl] at h;omega
 · rw [if_neg h0] at h
   by_cases h1:d.1=1
   · rw [if_pos h1,hd,if_pos rfl] at h;omega
   · rw [if_neg h1] at h
     by_cases h2:d.1=2
     · rw [if_pos h2] at h
       by_cases h3:fpB d=true
       · rw [if_pos h3] at h;omega
       · rw [if_neg h3] at h
         unfold qel at h
         by_cases h4:6<d.2.2.2.2.length
         · rw [if_pos h4] at h;omega
         · rw [if_neg h4] at h
           have h5:=qby h k hk
           unfold qdy at h5
           by_cases h6:qal (d.2.2.2.2[k]?.getD en0).1=0
           · rw [if_pos h6] at h5
             by_cases h7:0≤ (d.2.2.2.2[k]?.getD en0).2∧ (d.2.2.2.2[k]?.getD en0).2≤9
             · exact h7.1
             · rw [if_neg h7] at h5;omega
           · rw [if_neg h6] at h5;exact absurd h5 h6
     · rw [if_neg h2] at h;omega
theorem qkL {ds:List ID} {x:Int}:x∈qco ds↔ ∃j,j<ds.length∧ ∃k,k< (ds[j]?.getD id0).2.2.2.2.length∧ ((ds[j]?.getD id0).2.2.2.2[k]?.getD en0).2=x:=by
 unfold qco qb7
 simp only [List.mem_flatMap,List.mem_map]
 constructor
 · rintro ⟨d,hd,e,he,rfl⟩
   obtain ⟨j,hj,rfl⟩:=List.getElem_of_mem hd
   obtain ⟨k,hk,rfl⟩:=List.getElem_of_mem he
   have e1:ds[j]?.getD id0=ds[j]:=by simp [hj]
   exact ⟨j,hj,k,by rw [e1];exact hk,by rw [e1];simp [hk]⟩
 · rintro ⟨j,hj,k,hk,rfl⟩
   have e1:ds[j]?.getD id0=ds[j]:=by simp [hj]
   rw [e1] at hk ⊢
   exact ⟨ds[j],List.getElem_mem hj,ds[j].2.2.2.2[k],List.getElem_mem hk,by simp [hk]⟩
theorem qhn {ds:List ID} {j k:Nat} (hj:j<ds.length) (hk:k< (ds[j]?.getD id0).2.2.2.2.length) (h:qa7 ds ((ds[j]?.getD id0).2.2.2.2[k]?.getD en0).2=true):qcA ds=4:=by
 unfold qcA;rw [if_pos (List.any_eq_true.2 ⟨_,qkL.2 ⟨j,hj,k,hk,rfl⟩,h⟩)]
theorem qmT {ds:List ID} (h: ∀j,j<ds.length→ ∀k,k< (ds[j]?.getD id0).2.2.2.2.length→qa7 ds ((ds[j]?.getD id0).2.2.2.2[k]?.getD en0).2=false):qcA ds=0:=by
 unfold qcA;rw [if_neg]
 intro h1
 obtain ⟨x,hx,h2⟩:=List.any_eq_true.1 h1
 obtain ⟨j,hj,k,hk,rfl⟩:=qkL.1 hx
 rw [h j hj k hk] at h2
 exact Bool.noConfusion h2

set_option maxHeartbeats 3200000 in
theorem qon (w:World) (b o:Nat) (d:FD) (aI:Option Addr) (cI:Nat) (aD:Option Addr) (cD:Nat) (h:FsX w b o d aI cI aD cD) (hs:qag d.1≤1048576) (hi:qaY d.1=0) (hf:qfQ d=false):
 Calls Tryz.prog 38 #[.pointer (some ⟨b,o,none⟩)] w fun e w'=>e= .returned (.int .i64 (fsE d))∧Below w.heap.size w w':=by
 have HFE:Hid (fsE d=if qaJ (qbz d.2) d.2.length=0 then (if qb8 d.1 20 then qcA d.1 else 7) else qaJ (qbz d.2) d.2.length):=by unfold Hid fsE;rw [if_pos hi,if_neg (by rw [hf];exact Bool.noConfusion)]
 have HF:Hid (Calls Tryz.prog 73 #[.slice aI d.1.length cI] w fun e w'=>e= .returned (.int .i64 (qaY d.1))∧ ∃m,w'=w.drewN m):=qd1 h.ins
 have HU:Hid (∀W,Below w.heap.size w W→Calls Tryz.prog 74 #[.slice aI d.1.length cI] W fun e w'=> ∃a c,e= .returned (.tuple #[.slice a (qbH (qdM d.1) 20).length c, .bool (qb8 d.1 20)])∧Below W.heap.size W w'):=fun W hW=> (qlv (h.ins.later hW) hs).mono fun e w' ⟨a,c,h1,h2,_⟩=> ⟨a,c,h1,h2⟩
 have HX:Hid (FsX w b o d aI cI aD cD):=h
 have HP:Hid (∀j,j<d.1.length→ ∀k,k< (d.1[j]?.getD id0).2.2.2.2.length→0≤ ((d.1[j]?.getD id0).2.2.2.2[k]?.getD en0).2):=fun j hj=>qjY (qaM hi j hj)
 have c0:=h.c0
 have c1:=h.c1
 rw [hi] at HF
 obtain ⟨_,_,e1,hm1,hAt⟩:=h.ins.open'
 obtain ⟨_,_,e2,hm2,hAy⟩:=h.byt.open'
 simp only [Value.slice.injEq] at e1 e2
 obtain ⟨rfl,-,rfl⟩:=e1
 obtain ⟨rfl,-,rfl⟩:=e2
 unfold maxLen at hm1 hm2
 have hff: ¬d.1.length=0∧qae d.1 0=2∧d.2.length=20:=by
  simp only [qfQ,Bool.or_eq_false_iff,decide_eq_false_iff_not,ne_eq,Decidable.not_not] at hf
  exact ⟨hf.1.1,hf.1.2,hf.2⟩
 obtain ⟨h0,hk2,hl2⟩:=hff
 have hb0: (((d.1.length:Nat):Int)==0)=false:=by rw [beq_eq_false_iff_ne];omega
 have HAY:Hid (qgi w aD 20 d.2):=by rw [hl2] at hAy;exact hAy
 have HL2:Hid (d.2.length=20):=hl2
 have HAT:Hid (AtI w aI d.1.length d.1):=hAt
 rw [hl2] at c1
 have k0': ∃bI oI,aI=some ⟨bI,oI,none⟩∧w.cell? ⟨bI,oI,none⟩=some (.int .i64 2):=by
  obtain ⟨bI,oI,rfl,hI⟩:=hAt 0 (by omega)
  obtain ⟨_,_,_,_,k0,_⟩:=hI
  rw [Nat.zero_mul,Nat.add_zero] at k0
  exact ⟨bI,oI,rfl,by rw [k0];exact congrArg (fun z=>some (Value.int .i64 z)) hk2⟩
 obtain ⟨bI,oI,rfl,k0⟩:=k0'
 clear h hi hf hAt hAy hk2 hl2 hm2
 have HNN:Hid (∃n,d.1.length=n):= ⟨_,rfl⟩
 obtain ⟨n,hn⟩:=HNN.out
 have HN:Hid (d.1.length=n):=hn
 rw [hn] at HF HU HP c0 hm1 hb0 HAT h0
 clear hn HNN
 go_enter Tryz.func38,Tryz.ntmps38
 go_wp2_with fail
 refine HF.out.mono ?_
 rintro e w1 ⟨rfl,q,rfl⟩
 go_wp2
 go_loopw [4] (fun i wr=> ∃j m:Nat,j≤20∧i= .int .i64 j∧wr=w.drewN m∧ ∀i:Nat,i<j→qbz d.2 i=0) (fun i _=>20- (intOf i).toNat)
 case atStart=>exact ⟨0,_,Nat.zero_le _,rfl,rfl,fun i hi=>by omega⟩
 case round=>
  obtain ⟨j,m,hj,rfl,rfl,hz⟩:=hrel
  have HZ:Hid (∀i:Nat,i<j→qbz d.2 i=0):=hz
  clear hz k0
  by_cases hlt:j<20
  · obtain ⟨b',o',ua,uc,rfl,d0,i0⟩:=HAY.out j hlt
    have hlb: (d.2[j]?.getD []).length≤maxLen:=by obtain ⟨_,_,_,h5,_⟩:=i0;exact h5.1
    unfold maxLen at hlb
    clear i0
    by_cases h8:8< (d.2[j]?.getD []).length
    · have HE:Hid (2=fsE d):=by
       have e1:qbz d.2 j=2:=by unfold qbz;rw [if_pos h8]
       have e2:=qbx (f:=qbz d.2) HZ.out (by rw [e1];omega) (n:=d.2.length) (by rw [HL2.out];exact hlt)
       unfold Hid;rw [HFE.out,e2,e1];rfl
      have hd8:decide ((8:Int)< ((d.2[j]?.getD []).length:Nat))=true:=by simp;omega
      clear HFE HZ h8
      generalize (d.2[j]?.getD []).length=ln at*
      go_wp2
      go_ret
      exact ⟨qad HE.out,below_drewN (Below.refl _ _) _⟩
    · have HR:Hid (∀i:Nat,i<j+1→qbz d.2 i=0):=fun i hi=>by
       by_cases e:i=j
       · subst e;unfold qbz;rw [if_neg h8]
       · exact HZ.out i (by omega)
      have hd8:decide ((8:Int)< ((d.2[j]?.getD []).length:Nat))=false:=by simp;omega
      clear HFE HZ h8
      generalize (d.2[j]?.getD []).length=ln at*
      go_wp2
      go_roundw
      case rel=>exact ⟨j+1,_,by omega,by go_num,rfl,HR.out⟩
      case measure=>simp [intOf];omega
  · have HM : Hid (fsE d=if qb8 d.1 20 then qcA d.1 else 7):=by
     have e2:=qaG (f:=qbz d.2) (n:=d.2.length) (fun i hi=>HZ.out i (by rw [HL2.out] at hi;omega))
     unfold Hid;rw [HFE.out,if_pos e2]
    have HBL0:Hid (Below w.heap.size w (w.drewN m)):=below_drewN (Below.refl _ _) m
    have HUU:=HU.out _ HBL0.out
    clear HFE HZ HU HF
    go_wp2_with fail
    refine HUU.mono ?_
    rintro e w1 ⟨au,cu,rfl,hb1⟩
    have HBL1:Hid (Below w.heap.size w w1):=HBL0.out.trans hb1
    have hx1:=HX.out.later HBL1.out
    have c0:=hx1.c0
    rw [HN.out] at c0
    clear hb1 HUU HBL0 hx1 c1
    generalize (qbH (qdM d.1) 20).length=lu at*
    cases hon:qb8 d.1 20 with
    | false=>
      have HE:Hid (7=fsE d):=by unfold Hid;rw [HM.out,hon];rfl
      clear HM hon
      go_wp2
      go_ret
      exact ⟨qad HE.out,HBL1.out⟩
    | true=>
      have HE:Hid (qcA d.1=fsE d):=by unfold Hid;rw [HM.out,hon];rfl
      clear HM hon
      go_wp2
      go_loopw [7] (fun i wr=> ∃j m:Nat,j≤n∧i= .int .i64 j∧wr=w1.drewN m∧ ∀i:Nat,i<j→ ∀k,k< (d.1[i]?.getD id0).2.2.2.2.length→qa7 d.1 ((d.1[i]?.getD id0).2.2.2.2[k]?.getD en0).2=false) (fun i _=>n- (intOf i).toNat)
      case atStart=>exact ⟨0,0,Nat.zero_le _,rfl,rfl,fun i hi=>by omega⟩
      case round=>
       obtain ⟨j,m,hj,rfl,rfl,hz⟩:=hrel
       have HZ:Hid (∀i:Nat,i<j→ ∀k,k< (d.1[i]?.getD id0).2.2.2.2.length→qa7 d.1 ((d.1[i]?.getD id0).2.2.2.2[k]?.getD en0).2=false):=hz
       clear hz
       by_cases hlj:j<n
       · have hAT1:=HAT.out.later HBL1.out
         obtain ⟨b2,o2,e2,hI⟩:=hAT1 j hlj
         simp only [Option.some.injEq,Addr.mk.injEq,and_true] at e2
         obtain ⟨rfl,rfl⟩:=e2
         have HAT1:Hid (AtI w1 (some ⟨bI,oI,none⟩) n d.1):=hAT1
         obtain ⟨aB,cB,aE,cE,g0,g1,g2,g3,g4,g5⟩:=hI
         obtain ⟨_,_,e3,hm3,_,hc3⟩:=g5.2.2.open'
         simp only [Value.slice.injEq] at e3
         obtain ⟨rfl,_,rfl⟩:=e3
         clear g0 g1 g2 g3 g5 hAT1
         have HPJ:Hid (∀k,k< (d.1[j]?.getD id0).2.2.2.2.length→0≤ ((d.1[j]?.getD id0).2.2.2.2[k]?.getD en0).2):=HP.out j hlj
         have HY:Hid (∀k,k< (d.1[j]?.getD id0).2.2.2.2.length→qa7 d.1 ((d.1[j]?.getD id0).2.2.2.2[k]?.getD en0).2=true→4=fsE d):=fun k hk hl=>by rw [←HE.out,qhn (by rw [HN.out];exact hlj) hk hl]
         have HR:Hid ((∀k,k< (d.1[j]?.getD id0).2.2.2.2.length→qa7 d.1 ((d.1[j]?.getD id0).2.2.2.2[k]?.getD en0).2=false)→ ∀i:Nat,i<j+1→ ∀k,k< (d.1[i]?.getD id0).2.2.2.2.length→qa7 d.1 ((d.1[i]?.getD id0).2.2.2.2[k]?.getD en0).2=false):=fun h i hi=>by
          by_cases e:i=j
          · subst e;exact h
          · exact HZ.out i (by omega)
         generalize (d.1[j]?.getD id0).2.2.2.2=es at*
         have HCB:Hid (AtN w1 aE es.length es):=hc3
         obtain ⟨nB,hnB⟩: ∃nB,nB=es.length:= ⟨_,rfl⟩
         have HNB:Hid (nB=es.length):=hnB
         rw [←hnB] at g4 hm3
         unfold maxLen at hm3
         clear hc3 hnB HZ HE HP HAT HAY
         go_wp2
         go_loopw [8] (fun i wr=> ∃k m2:Nat,k≤nB∧i= .int .i64 k∧wr=w1.drewN m2∧ ∀i:Nat,i<k→qa7 d.1 (es[i]?.getD en0).2=false) (fun i _=>nB- (intOf i).toNat)
         case atStart=>exact ⟨0,m,Nat.zero_le _,rfl,rfl,fun i hi=>by omega⟩
         case round=>
          obtain ⟨k,m2,hk,rfl,rfl,hz⟩:=hrel
          have HZ:Hid (∀i:Nat,i<k→qa7 d.1 (es[i]?.getD en0).2=false):=hz
          clear hz
          by_cases hlk:k<nB
          · obtain ⟨b1,o1,rfl,_,d1⟩:=HCB.out k (by rw [←HNB.out];exact hlk)
            have hp:=HPJ.out k (by rw [←HNB.out];exact hlk)
            have HYK:Hid (qa7 d.1 (es[k]?.getD en0).2=true→4=fsE d):=HY.out k (by rw [←HNB.out];exact hlk)
            have HRK:Hid (qa7 d.1 (es[k]?.getD en0).2=false→ ∀i:Nat,i<k+1→qa7 d.1 (es[i]?.getD en0).2=false):=fun h i hi=>by
             by_cases e:i=k
             · subst e;exact h
             · exact HZ.out i (by omega)
            clear HZ HPJ HY HCB HR
            generalize (es[k]?.getD en0).2=x at*
            obtain ⟨t,rfl⟩:=Int.eq_ofNat_of_zero_le hp
            by_cases hbig:n≤t
            · have HE4:Hid (4=fsE d):=HYK.out (by unfold qa7;rw [HN.out];simp [hbig])
              have hdb:decide ((n:Int)≤ (t:Int))=true:=by simp;omega
              clear HYK HRK hp
              go_wp2
              go_ret
              exact ⟨qad HE4.out,below_drewN HBL1.out _⟩
            · have hdb:decide ((n:Int)≤ (t:Int))=false:=by simp;omega
              obtain ⟨b2,o2,e2,hI⟩:=HAT1.out t (by omega)
              simp only [Option.some.injEq,Addr.mk.injEq,and_true] at e2
              obtain ⟨rfl,rfl⟩:=e2
              obtain ⟨_,_,_,_,kt,_⟩:=hI
              have kt':w1.cell? ⟨bI,oI+t*5,none⟩=some (.int .i64 (qae d.1 t)):=kt
              clear kt HAT1
              by_cases hkz:qae d.1 t=0
              · have HE4:Hid (4=fsE d):=HYK.out (by unfold qa7;simp [hkz])
                have hkb: (qae d.1 t==0)=true:=by simpa using hkz
                clear HYK HRK hp hkz
                generalize qae d.1 t=kk at*
                go_wp2
                go_ret
                exact ⟨qad HE4.out,below_drewN HBL1.out _⟩
              · have HRR:Hid (∀i:Nat,i<k+1→qa7 d.1 (es[i]?.getD en0).2=false):=HRK.out (by unfold qa7;rw [HN.out];simp [hkz];omega)
                have hkb: (qae d.1 t==0)=false:=by simpa using hkz
                clear HYK HRK hp hkz
                generalize qae d.1 t=kk at*
                go_wp2
                go_roundw
                case rel=>exact ⟨k+1,_,by omega,by go_num,rfl,HRR.out⟩
                case measure=>simp [intOf];omega
          · have HRR:=HR.out fun i hi=>HZ.out i (by rw [←HNB.out] at hi;omega)
            have HRH:Hid (∀i:Nat,i<j+1→ ∀k,k< (d.1[i]?.getD id0).2.2.2.2.length→qa7 d.1 ((d.1[i]?.getD id0).2.2.2.2[k]?.getD en0).2=false):=HRR
            clear HRR HZ
            go_wp2
            go_roundw
            case rel=>exact ⟨j+1,_,by omega,by go_num,rfl,HRH.out⟩
            case measure=>simp [intOf];omega
       · have HEZ:Hid (0=fsE d):=by unfold Hid;rw [←HE.out];exact (qmT fun i hi=>HZ.out i (by rw [HN.out] at hi;omega)).symm
         go_wp2
         go_ret
         exact ⟨qad HEZ.out,below_drewN HBL1.out _⟩
theorem qho (w:World) (b o:Nat) (d:FD) (aI:Option Addr) (cI:Nat) (aD:Option Addr) (cD:Nat) (h:FsX w b o d aI cI aD cD) (hs:qag d.1≤1048576):
 Calls Tryz.prog 38 #[.pointer (some ⟨b,o,none⟩)] w fun e w'=>e= .returned (.int .i64 (fsE d))∧Below w.heap.size w w':=by
 by_cases hi:qaY d.1=0
 · cases hf:qfQ d with
   |true=>exact (qlA w b o d aI cI aD cD h hi hf).mono fun e w' ⟨h1,m,h2⟩=> ⟨h1,by rw [h2];exact below_drewN (Below.refl _ _) m⟩
   |false=>exact qon w b o d aI cI aD cD h hs hi hf
 · exact (qmS w b o d aI cI aD cD h hi).mono fun e w' ⟨h1,m,h2⟩=> ⟨h1,by rw [h2];exact below_drewN (Below.refl _ _) m⟩
end Go.Proofs.YthnmlipnoajmkaaGreatDoor

namespace Go.Proofs.YthnmlipnoajmkaaGreatDoor
open Go.RowKit
set_option maxRecDepth 100000

theorem qa3.set {w X:World} {g n cap:Nat} {v:Value} {zs:List Int} {zss:List (List Int)} {F:Nat→Prop} (h:qa3 w (.slice (some ⟨g,0,none⟩) n cap) zss F) {x:Nat} (hx:x<zss.length) (hb:Below w.heap.size w X) (hF: ∀b,F b→b<w.heap.size) (hv:qak X v zs (qaj w X)):
 qa3 (X.setCell ⟨g,x,none⟩ v) (.slice (some ⟨g,0,none⟩) n cap) (zss.set x zs) (fun b=>F b∨qaj w X b):=by
 rcases h with ⟨h,_⟩| ⟨b,cap',u,G,hFb,hG,hGG,h1,h2,h3,h4⟩
 · subst h;simp at hx
 · simp only [Value.slice.injEq,Option.some.injEq,Addr.mk.injEq,and_true] at h1
   obtain ⟨rfl,rfl,rfl⟩:=h1
   have hgl:=h3.lt
   refine Or.inr ⟨g,cap,fun j=>if j=x then v else u j,fun i c=> (i=x∧qaj w X c)∨ (i≠x∧G i c),Or.inl hFb,fun i c hc=> ?_,fun i j c e h5 h6=> ?_,by simp,by simpa using h2,by simpa using (h3.block (hb.block g hgl)).set x v,fun i hi=> ?_⟩
   · rcases hc with ⟨_,hc⟩| ⟨_,hc⟩
     · exact ⟨Or.inr hc,fun e=>by have:=hc.1;omega⟩
     · exact ⟨Or.inl (hG i c hc).1,(hG i c hc).2⟩
   · rcases h5 with ⟨e5,h5⟩| ⟨e5,h5⟩<;>rcases h6 with ⟨e6,h6⟩| ⟨e6,h6⟩
     · omega
     · have:=h5.1;have:=hF c (hG j c h6).1;omega
     · have:=h6.1;have:=hF c (hG i c h5).1;omega
     · exact hGG i j c e h5 h6
   · simp only [List.length_set] at hi
     by_cases e:i=x
     · subst e
       have h7:qak X v zs (fun c=> (i=i∧qaj w X c)∨ (i≠i∧G i c)):=hv.mono fun c hc=>Or.inl ⟨rfl,hc⟩
       show qak _ (if i=i then v else u i) _ (fun c=> (i=i∧qaj w X c)∨ (i≠i∧G i c))
       rw [if_pos rfl,List.getElem?_set_self hx,Option.getD_some]
       refine h7.keep fun c hc _=>Below.heap_setCell _ _ _ _ ?_
       rcases hc with ⟨_,hc⟩| ⟨hc,_⟩
       · show c≠g
         have:=hc.1;omega
       · exact absurd rfl hc
     · show qak _ (if i=x then v else u i) _ (fun c=> (i=x∧qaj w X c)∨ (i≠x∧G i c))
       rw [if_neg e,List.getElem?_set_ne (fun h=>e h.symm)]
       have h7:qak w (u i) (zss[i]?.getD []) (fun c=> (i=x∧qaj w X c)∨ (i≠x∧G i c)):= (h4 i hi).mono fun c hc=>Or.inr ⟨e,hc⟩
       refine h7.keep fun c hc hlt=> ?_
       rcases hc with ⟨hc,_⟩| ⟨_,hc⟩
       · exact absurd hc e
       · rw [Below.heap_setCell _ _ _ _ (show c≠g from (hG i c hc).2),hb.block c hlt]

theorem qk3.store {w:World} {b:Nat} {x y:Value} (h:qk3 w b x y) {p:Addr} (hp:b≠p.block) (v:Value):qk3 (w.setCell p v) b x y:=
 ⟨(World.cell?_of_block (w:=w) (a:= ⟨b,0,none⟩) (Below.heap_setCell _ _ _ _ hp)).trans h.1,(World.cell?_of_block (w:=w) (a:= ⟨b,1,none⟩) (Below.heap_setCell _ _ _ _ hp)).trans h.2⟩
theorem qa3.cell {w:World} {a:Option Addr} {n cap:Nat} {zss:List (List Int)} {F:Nat→Prop} (h:qa3 w (.slice a n cap) zss F) {x:Nat} (hx:x<zss.length):
 ∃g ua un uc,a=some ⟨g,0,none⟩∧F g∧g<w.heap.size∧w.cell? ⟨g,x,none⟩=some (.slice ua un uc)∧w.frozen? ⟨g,x,none⟩=false:=by
 rcases h with ⟨h,_⟩| ⟨b,cap',u,G,hFb,_,_,h1,_,h3,h4⟩
 · subst h;simp at hx
 · simp only [Value.slice.injEq] at h1
   obtain ⟨rfl,rfl,rfl⟩:=h1
   have hu: ∃ua un uc,u x= .slice ua un uc:=by
    rcases h4 x hx with ⟨_,a,c,e⟩| ⟨_,_,_,e,_⟩
    · exact ⟨_,_,_,e⟩
    · exact ⟨_,_,_,e⟩
   obtain ⟨ua,un,uc,e⟩:=hu
   exact ⟨b,ua,un,uc,rfl,hFb,h3.lt,by rw [h3.cell hx,e],h3.frozen x⟩

def qb0 (pk:Nat→Bool) (bs:List (List Int)) (ps:List (Int×List Int)):Nat→List (List Int)
 |0=>bs
 |k+1=>if pk k then (qb0 pk bs ps k).set (ps[k]?.getD (0, [])).1.toNat (ps[k]?.getD (0, [])).2 else qb0 pk bs ps k
theorem qoo (pk:Nat→Bool) (bs:List (List Int)) (ps:List (Int×List Int)) (k:Nat): (qb0 pk bs ps k).length=bs.length:=by
 induction k with
 |zero=>rfl
 |succ k ih=>unfold qb0;split<;>simp [ih]
theorem qqx (pk:Nat→Bool) (bs:List (List Int)) (ps:List (Int×List Int)) {M:Nat} (hz: ∀k:Nat,(bs[k]?.getD []).length≤M) (hzp: ∀k:Nat,(ps[k]?.getD (0, [])).2.length≤M) (k:Nat): ∀i:Nat,((qb0 pk bs ps k)[i]?.getD []).length≤M:=by
 induction k with
 |zero=>exact hz
 | succ k ih=>
   intro i
   unfold qb0
   split
   · rw [List.getElem?_set]
     split
     · split
       · exact hzp k
       · simp
     · exact ih i
   · exact ih i
theorem qpI {pk:Nat→Bool} {bs:List (List Int)} {ps:List (Int×List Int)} {k:Nat} (h:pk k=true):qb0 pk bs ps (k+1)= (qb0 pk bs ps k).set (ps[k]?.getD (0, [])).1.toNat (ps[k]?.getD (0, [])).2:=by simp [qb0,h]
theorem qpJ {pk:Nat→Bool} {bs:List (List Int)} {ps:List (Int×List Int)} {k:Nat} (h:pk k=false):qb0 pk bs ps (k+1)=qb0 pk bs ps k:=by simp [qb0,h]
end Go.Proofs.YthnmlipnoajmkaaGreatDoor

namespace Go.Proofs.YthnmlipnoajmkaaGreatDoor
open Go.RowKit
set_option maxRecDepth 100000

theorem qpK {w':World} {b n:Nat} (F:Nat→Prop) (hF:F b) (hn:n≤60) (h:qaa w' b n (fun _=> .slice none 0 0)):qa3 w' (.slice (some ⟨b,0,none⟩) n n) (List.replicate n []) F:=by
 refine Or.inr ⟨b,n,fun _=> .slice none 0 0,fun _ _=>False,hF,fun _ _ h=>h.elim,fun _ _ _ _ h=>h.elim,by simp,by unfold maxLen;simp;omega,by simpa using h,fun i hi=>Or.inl ⟨?_,none,0,rfl⟩⟩
 simp at hi
 simp [hi]

def qst (size:Int):Int:=if 0≤size∧size≤60 then 0 else 3
def qrf (size:Int):List (List Int):=if 0≤size∧size≤60 then List.replicate size.toNat [] else []

theorem qsu {w w':World} {b n:Nat} (hn:n≤60) (hb:w.heap.size≤b) (hbel:Below w.heap.size w w') (hr:qaa w' b n (fun _=> .slice none 0 0)):qg3 w 0 (List.replicate n []) [] (.returned (.agg #[.int .i64 0, .slice (some ⟨b,0,none⟩) n n, .slice none 0 0])) w':=
 ⟨_,n,n,none,0,0,rfl,hbel,fun c=>c=b,fun _=>False,qpK _ rfl hn hr,Or.inl ⟨rfl,none,0,rfl⟩,fun _ _ h=>h.elim,fun c h=>by have:=hr.lt;exact h.elim (fun h=> ⟨by omega,by omega⟩) False.elim⟩

end Go.Proofs.YthnmlipnoajmkaaGreatDoor

namespace Go.Proofs.YthnmlipnoajmkaaGreatDoor
open Go.RowKit
set_option maxRecDepth 100000

theorem Tryz.infoInts': ∃i,Tryz.prog.info? 64=some i∧i.zero=some (.slice none 0 0)∧i.size=1∧i.bytes=24:=by
 obtain ⟨i,hi,h⟩:=Option.map_eq_some_iff.1 Tryz.infoInts
 simp only [Prod.mk.injEq] at h
 exact ⟨i,hi,h.1,h.2.1,h.2.2⟩
theorem qsv (k:Nat→Nat) (n:Nat): (fun j=>if j=n then k n else k j)=k:=by
 funext j;by_cases h:j=n
 · simp [h]
 · simp [h]
theorem qsw (k:Nat→Value) (n:Nat): (fun j=>if j=n then k n else k j)=k:=by
 funext j;by_cases h:j=n
 · simp [h]
 · simp [h]

theorem qqy {w:World} {base base':Nat} {e:TypeId} {size:Nat} {v:Value} {n:Nat} {xs:List Value} (h:w.ownsRow base e size v n xs) (hb:base'≤base):w.ownsRow base' e size v n xs:=by
 obtain ⟨h1,h2⟩:=h
 refine ⟨h1, ?_⟩
 rcases h2 with h2| ⟨g,cap,cur,hv,hg,r⟩
 · exact Or.inl h2
 · exact Or.inr ⟨g,cap,cur,hv,by omega,r⟩

end Go.Proofs.YthnmlipnoajmkaaGreatDoor

namespace Go.Proofs.YthnmlipnoajmkaaGreatDoor
open Go.RowKit
set_option maxRecDepth 100000

def qpL (w:World) (a:Option Addr) (n:Nat) (pb:List Bool):Prop:= ∀k,k<n→ ∃b off,a=some ⟨b,off,none⟩∧w.cell? ⟨b,off+k,none⟩=some (.bool (pb[k]?.getD false))
theorem qpL.later {w w':World} {a:Option Addr} {n:Nat} {pb:List Bool} (h:qpL w a n pb) (hb:Below w.heap.size w w'):qpL w' a n pb:=fun k hk=>by
 obtain ⟨b,off,e,c⟩:=h k hk
 exact ⟨b,off,e,cell_later hb c⟩

end Go.Proofs.YthnmlipnoajmkaaGreatDoor

namespace Go.Proofs.YthnmlipnoajmkaaGreatDoor
open Go.RowKit
set_option maxRecDepth 100000

theorem LRow.append2 {C:Nat→Value→List Value} (w w1:World) (t ty e:TypeId) (i:TypeInfo) (z:Value) (size bytes:Nat) (ht:Tryz.prog.underlying t=some (.slice e)) (hi:Tryz.prog.info? e=some i) (hz:i.zero=some z) (hsize:i.size=size) (hby:i.bytes=bytes) (hzs:z.cells.size=size) (hsz:0<size) (hbb:bytes≤1000)
 (base lo n:Nat) (v:Value) (f:Nat→List Int) (k:Nat→Nat) (u:Nat→Value) (h:LRow C w base lo e size v n f k u) (hb:base≤w.heap.size) (hn:n≤100000) (hb1:Below w.heap.size w w1)
 (a:Option Addr) (c:Nat) (hlen: (C n (.slice a (f n).length c)).length=size) (hone: ∀x∈C n (.slice a (f n).length c),x.oneCell'=true) (kb:Nat) (hk1:lo≤kb) (hk2:kb<w1.heap.size) (hk3:v.ownBlock≠some kb) (hk4: ∀i,i<n→k i≠kb) (hf:qak w1 (.slice a (f n).length c) (f n) (fun x=>x=kb)):
 ∃ g cap X,(Builtin.append_ #[t,t] ty #[v, .slice (some ⟨w1.heap.size,0,none⟩) 1 1]).run Tryz.prog (w1.alloc (.cells (C n (.slice a (f n).length c)).toArray e))= .ok (.slice (some ⟨g,0,none⟩) (n+1) cap) X∧
  (∀b,b<w1.heap.size→v.ownBlock≠some b→X.heap[b]?=w1.heap[b]?)∧Below base w X∧w1.heap.size<X.heap.size∧ (v.ownBlock=some g∨w1.heap.size<g)∧
  LRow C X base lo e size (.slice (some ⟨g,0,none⟩) (n+1) cap) (n+1) f (fun j=>if j=n then kb else k j) (fun j=>if j=n then .slice a (f n).length c else u j):=by
 have hsz1:=hb1.size
 have hbW:Below w.heap.size w (w1.alloc (.cells (C n (.slice a (f n).length c)).toArray e)):=hb1.trans ((qab _ _).mono hb1.size)
 have hW:=h.later hbW
 obtain ⟨g,cap,X,hr,ho,hg,hat,hgX⟩:=run_append_lies (P:=Tryz.prog) (w1.alloc (.cells (C n (.slice a (f n).length c)).toArray e)) t ty base e i z size bytes ht hi hz hsize hby hzs hsz v n _ hW.own ⟨w1.heap.size,0,none⟩ 1 1 (C n (.slice a (f n).length c)) (by rw [hlen,Nat.one_mul])
  (fun j x hx=>by
    rw [qaA,Nat.zero_add,qar]
    simpa using hx) hone (by decide) (by unfold maxLen;omega) (by have: (n+1)*bytes≤100001*1000:=Nat.mul_le_mul (by omega) hbb;omega) (by simp;omega) (w1.heap.size+1) (by simp)
 have hrow: ∀g,v.ownBlock=some g→g<w.heap.size:=fun g hg=> (h.own.lt g hg).2
 have hrowb: ∀g,v.ownBlock=some g→base≤g:=fun g hg=> (h.own.lt g hg).1
 have hXb: ∀b,b<w1.heap.size→v.ownBlock≠some b→X.heap[b]?=w1.heap[b]?:=fun b hb' hne=> (hg.block b (by simp;omega) (fun e=>hne e.symm)).trans ((qab _ _).block b hb')
 have hne: ∀b,b<w1.heap.size→v.ownBlock≠some b→g≠b:=by
  intro b hb' hb2 e
  subst e
  rcases hat with h|h
  · exact hb2 h
  · omega
 have old: ∀b,b<w.heap.size→v.ownBlock≠some b→X.heap[b]?=w.heap[b]?:=fun b hb' hne=> (hXb b (by omega) hne).trans (hb1.block b hb')
 have hXs:w1.heap.size<X.heap.size:=by have:=hg.size;simp at this;omega
 refine ⟨g,cap,X,hr,hXb,(hbW.mono hb).trans (qaw hg (by simp;omega) (fun g hg'=>hrowb g hg')),hXs,hat.imp_right (fun h=>by omega),⟨?_,fun j hj=> ?_,fun j hj=> ?_,fun j j' hj hj' e=> ?_,fun j hj=> ?_,fun j hj=> ?_⟩⟩
 · rw [List.range_succ,List.flatMap_append]
   have e1: (List.range n).flatMap (fun i=>C i (if i=n then .slice a (f n).length c else u i))= (List.range n).flatMap (fun i=>C i (u i)):=by
    have e0: (List.range n).map (fun i=>C i (if i=n then .slice a (f n).length c else u i))= (List.range n).map (fun i=>C i (u i)):=List.map_congr_left fun i hi=>by rw [if_neg (by have:=List.mem_range.1 hi;omega)]
    rw [List.flatMap_def,List.flatMap_def,e0]
   have e2: [n].flatMap (fun i=>C i (if i=n then .slice a (f n).length c else u i))=C n (.slice a (f n).length c):=by simp only [List.flatMap_cons,List.flatMap_nil,List.append_nil,if_true]
   rw [e1,e2]
   exact ho
 · by_cases e:j=n
   · subst e;simp;omega
   · have:=h.lo j (by omega);simp [e];omega
 · by_cases e:j=n
   · subst e
     simp only [if_true]
     exact fun e=>hne kb hk2 hk3 (by simpa [Value.ownBlock] using e)
   · have hj':j<n:=by omega
     have hl:=h.lo j hj'
     simp only [e,if_false]
     exact fun e=>hne (k j) (by omega) (h.ne j hj') (by simpa [Value.ownBlock] using e)
 · by_cases e1:j=n
   · by_cases e2:j'=n
     · omega
     · simp [e1,e2];exact fun e=>hk4 j' (by omega) e.symm
   · by_cases e2:j'=n
     · simp [e1,e2];exact hk4 j (by omega)
     · simp [e1,e2];exact h.inj j j' (by omega) (by omega) e
 · by_cases e:j=n
   · subst e;exact ⟨a,c,by simp⟩
   · simp only [e,if_false];exact h.sh j (by omega)
 · by_cases e:j=n
   · subst e
     simp only [if_true]
     exact hf.keep fun b hb' hlt'=>by rw [hb'];exact hXb kb hk2 hk3
   · have hj':j<n:=by omega
     simp only [e,if_false]
     exact (h.at' j hj').keep fun b hb' hlt'=>by rw [hb'];exact old _ (h.lo j hj').2 (h.ne j hj')


theorem LRow.congr2 {a a':Nat→Int} {w:World} {base lo:Nat} {e:TypeId} {size:Nat} {v:Value} {n:Nat} {f f':Nat→List Int} {k:Nat→Nat} {u:Nat→Value} (h:LRow (C2 a) w base lo e size v n f k u) (ha: ∀i,i<n→a i=a' i) (hf: ∀i,i<n→f i=f' i):LRow (C2 a') w base lo e size v n f' k u:=by
 refine ⟨?_,h.lo,h.ne,h.inj,fun i hi=>by rw [←hf i hi];exact h.sh i hi,fun i hi=>by rw [←hf i hi];exact h.at' i hi⟩
 have e0: (List.range n).map (fun i=>C2 a i (u i))= (List.range n).map (fun i=>C2 a' i (u i)):=List.map_congr_left fun i hi=>by unfold C2;rw [ha i (List.mem_range.1 hi)]
 have:=h.own
 rw [List.flatMap_def,e0,←List.flatMap_def] at this
 exact this

end Go.Proofs.YthnmlipnoajmkaaGreatDoor

namespace Go.Proofs.YthnmlipnoajmkaaGreatDoor
open Go.RowKit
set_option maxRecDepth 100000

def qpM (w:World) (code:Int) (zs:List Int) (e:Ending) (w':World):Prop:=
 ∃a n c,e= .returned (.agg #[.int .i64 code, .slice a n c])∧Below w.heap.size w w'∧qak w' (.slice a n c) zs (qaj w w')
theorem qpN {w w':World} (hb:Below w.heap.size w w') (code:Int):qpM w code [] (.returned (.agg #[.int .i64 code, .slice none 0 0])) w':= ⟨none,0,0,rfl,hb,Or.inl ⟨rfl,none,0,rfl⟩⟩

def qsM (bs:List (List Int)) (ps:List (Int×List Int)) (x:Int):Int:=qdS bs ps x
def qsN (bs:List (List Int)) (ps:List (Int×List Int)) (x:Int):List Int:=if qdS bs ps x=0 then atF bs ps x else []

theorem qjZ {bs:List (List Int)} {ps:List (Int×List Int)} (h:qbV bs ps=0):bs.length≤60∧ps.length≤200:=by
 by_cases g:60<bs.length∨200<ps.length
 · rw [qjQ g] at h;omega
 · omega

end Go.Proofs.YthnmlipnoajmkaaGreatDoor

namespace Go.Proofs.YthnmlipnoajmkaaGreatDoor
open Go.RowKit
set_option maxRecDepth 100000

theorem qo1 {bs:List (List Int)} {ps:List (Int×List Int)} {x:Int} (h: ¬qbV bs ps=0):qdS bs ps x=qbV bs ps:=by simp [qdS,h]
theorem qrg {bs:List (List Int)} {ps:List (Int×List Int)} {x:Int} (h:qbV bs ps=0) (h2:qfL bs.length x=false):qdS bs ps x=3:=by simp [qdS,h,h2]
theorem qrh {bs:List (List Int)} {ps:List (Int×List Int)} {x:Int} (h:qbV bs ps=0) (h2:qfL bs.length x=true):qdS bs ps x=0:=by simp [qdS,h,h2]

def AtC (w:World) (a:Option Addr) (n:Nat) (ps:List (Int×List Int)):Prop:=
 ∀i,i<n→ ∃g pb ua uc,a=some ⟨g,0,none⟩∧w.cell? ⟨g,i,none⟩=some (.pointer (some ⟨pb,0,none⟩))∧w.cell? ⟨pb,0,none⟩=some (.int .i64 (ps[i]?.getD (0, [])).1)∧w.cell? ⟨pb,1,none⟩=some (.slice ua (ps[i]?.getD (0, [])).2.length uc)∧qb1 w (.slice ua (ps[i]?.getD (0, [])).2.length uc) (ps[i]?.getD (0, [])).2
theorem qsx {bs:List (List Int)} {ps:List (Int×List Int)} {x:Int} {M:Nat} (hz: ∀k:Nat,(bs[k]?.getD []).length≤M) (hzp: ∀k:Nat,(ps[k]?.getD (0, [])).2.length≤M): (atF bs ps x).length≤M:=by
 unfold atF
 generalize ps.length=n
 induction n with
 |zero=>exact hz _
 | succ n ih=>
   by_cases h: (ps[n]?.getD (0, [])).1=x
   · rw [qpD h];exact hzp n
   · rw [qoi h];exact ih

end Go.Proofs.YthnmlipnoajmkaaGreatDoor

namespace Go.Proofs.YthnmlipnoajmkaaGreatDoor
open Go.RowKit
set_option maxRecDepth 100000

def qmU (bs:List (List Int)) (ps:List (Int×List Int)) (x:Int) (ws:List Int):Int:=
 if qdS bs ps x=0 then (if qbd ws=0 then (if 200≤ps.length then 2 else 0) else qbd ws) else qdS bs ps x
def qri (bs:List (List Int)) (ps:List (Int×List Int)) (x:Int) (ws:List Int):List (List Int):=if qmU bs ps x ws=0 then bs else []
def qrR (bs:List (List Int)) (ps:List (Int×List Int)) (x:Int) (ws:List Int):List (Int×List Int):=if qmU bs ps x ws=0 then ps++ [(x,ws)] else []

theorem qs6 (w:World) (x y z:Value) (t:TypeId):qaa (w.alloc (.cells #[x,y,z] t)) w.heap.size 3 (fun i=>if i=0 then x else if i=1 then y else z):=by
 refine ⟨_,t,Go.Deep.blk_alloc_new _ _,by simp,fun i hi=> ?_⟩
 have:i=0∨i=1∨i=2:=by omega
 rcases this with rfl|rfl|rfl<;>simp

end Go.Proofs.YthnmlipnoajmkaaGreatDoor

namespace Go.Proofs.YthnmlipnoajmkaaGreatDoor
open Go.RowKit
set_option maxRecDepth 100000

theorem qop {bs:List (List Int)} {ps:List (Int×List Int)} (h:qbV bs ps=0): ∀k,k<ps.length→ ∃x:Nat,(ps[k]?.getD (0, [])).1=x∧x<bs.length:=by
 have g:=qjZ h
 have hb: ∀n,∀i:Nat,i<n→i<bs.length→qbd (bs[i]?.getD [])=0:=by
  intro n
  induction n with
  |zero=>intro i hi;omega
  | succ n ih=>
    intro i hi hl
    by_cases e:qbd (bs[i]?.getD [])=0
    · exact e
    · exact absurd (qio (ps:=ps) (by omega) hl (fun j hj=>ih j (by omega) (by omega)) e) (by rw [h];exact fun e'=>e e'.symm)
 have hp: ∀n,∀i:Nat,i<n→i<ps.length→qlZ bs.length (ps[i]?.getD (0, []))=0:=by
  intro n
  induction n with
  |zero=>intro i hi;omega
  | succ n ih=>
    intro i hi hl
    by_cases e:qlZ bs.length (ps[i]?.getD (0, []))=0
    · exact e
    · exact absurd (qlo (by omega) (fun j hj=>hb (j+1) j (by omega) hj) hl (fun j hj=>ih j (by omega) (by omega)) e) (by rw [h];exact fun e'=>e e'.symm)
 intro k hk
 have:=hp (k+1) k (by omega) hk
 unfold qlZ at this
 split at this
 · rename_i hq
   unfold qfL at hq
   simp only [decide_eq_true_eq] at hq
   exact ⟨(ps[k]?.getD (0, [])).1.toNat,by omega,by omega⟩
 · omega

def qqz (pk:Nat→Bool) (bs:List (List Int)) (ps:List (Int×List Int)):List (List Int):=if qbV bs ps=0 then qb0 pk bs ps ps.length else []

end Go.Proofs.YthnmlipnoajmkaaGreatDoor

namespace Go.Proofs.YthnmlipnoajmkaaGreatDoor
open Go.RowKit
set_option maxRecDepth 100000

theorem LRow.puts2 {w:World} {base lo:Nat} {e:TypeId} {v:Value} {n:Nat} {k:Nat→Nat} {u:Nat→Value} {ps:List (Int×List Int)} (h:LRow (C2 fun i=> (ps[i]?.getD (0, [])).1) w base lo e 2 v n (fun i=> (ps[i]?.getD (0, [])).2) k u) (hn:ps.length=n) (F:Nat→Prop) (hF: ∀g,v.ownBlock=some g→F g) (hF': ∀i,i<n→F (k i)):qde w v ps F:=by
 subst hn
 by_cases h0:ps.length=0
 · obtain ⟨a,c,rfl⟩:=h.shape
   exact Or.inl ⟨List.eq_nil_of_length_eq_zero h0,a,c,by rw [h0]⟩
 · obtain ⟨g,cap,rfl,_,_,hm,hrow⟩:=h.cells (by decide) (fun _=>rfl) (by omega)
   refine Or.inr ⟨g,cap,u,fun i c=>i<ps.length∧c=k i,hF g rfl,fun i c hc=> ?_,fun i j c e h1 h2=>h.inj i j h1.1 h2.1 e (h1.2.symm.trans h2.2),rfl,hm, ?_,fun i hi=> (h.at' i hi).mono fun c hc=> ⟨hi,hc⟩⟩
   · have hne:=h.ne i hc.1
     rw [hc.2]
     exact ⟨hF' i hc.1,fun e=>hne (by simp [Value.ownBlock,e])⟩
   · refine hrow.congr fun c hc=> ?_
     unfold qcy C2
     rcases Nat.mod_two_eq_zero_or_one c with h|h<;>simp [h]

def qrj (ps:List (Int×List Int)) (x:Int) (ws:List Int) (i:Nat):Int×List Int:= (ps++ [(x,ws)])[i]?.getD (0, [])
theorem qrS {ps:List (Int×List Int)} {x:Int} {ws:List Int} {i:Nat} (h:i<ps.length):qrj ps x ws i=ps[i]?.getD (0, []):=by unfold qrj;rw [List.getElem?_append_left h]
theorem qrT {ps:List (Int×List Int)} {x:Int} {ws:List Int}:qrj ps x ws ps.length= (x,ws):=by unfold qrj;simp

end Go.Proofs.YthnmlipnoajmkaaGreatDoor

namespace Go.Proofs.YthnmlipnoajmkaaGreatDoor
open Go.RowKit
set_option maxRecDepth 100000

theorem qa3.row {w:World} {g n cap:Nat} {zss:List (List Int)} {F:Nat→Prop} (h:qa3 w (.slice (some ⟨g,0,none⟩) n cap) zss F) (h0:0<zss.length): ∃u,qaa w g n u∧F g∧ ∀i,i<n→ ∃ua un uc,u i= .slice ua un uc:=by
 rcases h with ⟨h,_⟩| ⟨b,cap',u,G,hFb,_,_,h1,_,h3,h4⟩
 · subst h;simp at h0
 · simp only [Value.slice.injEq,Option.some.injEq,Addr.mk.injEq,and_true] at h1
   obtain ⟨rfl,rfl,rfl⟩:=h1
   refine ⟨u,h3,hFb,fun i hi=> ?_⟩
   rcases h4 i hi with ⟨_,a,c,e⟩| ⟨_,_,_,e,_⟩
   · exact ⟨_,_,_,e⟩
   · exact ⟨_,_,_,e⟩
theorem qpL.set {w X:World} {a:Option Addr} {n g x:Nat} {v:Value} {pb:List Bool} (h:qpL w a n pb) (hb:Below w.heap.size w X) (hg: ∀b off,a=some ⟨b,off,none⟩→b≠g):qpL (X.setCell ⟨g,x,none⟩ v) a n pb:=fun k hk=>by
 obtain ⟨b,off,e,c⟩:=h k hk
 exact ⟨b,off,e,(World.cell?_of_block (w:=X) (Below.heap_setCell _ _ _ _ (hg b off e))).trans (cell_later hb c)⟩

end Go.Proofs.YthnmlipnoajmkaaGreatDoor

namespace Go.Proofs.YthnmlipnoajmkaaGreatDoor
open Go.RowKit
set_option maxRecDepth 100000

theorem Tryz.infoBool: (Tryz.prog.info? 4).map (fun i=> (i.zero,i.size,i.bytes))=some (some (.bool false),1,1):=by kernel_rfl

theorem qo2 {pk pk':Nat→Bool} {bs:List (List Int)} {ps:List (Int×List Int)} (n:Nat) (h: ∀i,i<n→pk i=pk' i):qb0 pk bs ps n=qb0 pk' bs ps n:=by
 induction n with
 |zero=>rfl
 | succ n ih=>
   unfold qb0
   rw [ih fun i hi=>h i (by omega),h n (by omega)]

end Go.Proofs.YthnmlipnoajmkaaGreatDoor

namespace Go.Proofs.YthnmlipnoajmkaaGreatDoor
open Go.RowKit
set_option maxRecDepth 100000

def qlB (w:World) (v:Value) (zs:List Bool):Prop:=
 (zs= []∧ ∃a cap,v= .slice a 0 cap)∨
 (∃b off cap,v= .slice (some ⟨b,off,none⟩) zs.length cap∧zs.length≤maxLen∧ ∀k,k<zs.length→w.cell? ⟨b,off+k,none⟩=some (.bool (zs[k]?.getD false)))
theorem qlB.later {w wx:World} {v:Value} {zs:List Bool} (h:qlB w v zs) (hb:Below w.heap.size w wx):qlB wx v zs:=by
 rcases h with h| ⟨b,off,cap,h1,h2,h3⟩
 · exact Or.inl h
 · exact Or.inr ⟨b,off,cap,h1,h2,fun k hk=>cell_later hb (h3 k hk)⟩
theorem qlB.open' {w:World} {v:Value} {zs:List Bool} (h:qlB w v zs): ∃a cap,v= .slice a zs.length cap∧zs.length≤maxLen∧qpL w a zs.length zs:=by
 rcases h with ⟨rfl,a,cap,rfl⟩| ⟨b,off,cap,rfl,hl,hc⟩
 · exact ⟨a,cap,rfl,by simp,fun k hk=>by simp at hk⟩
 · exact ⟨_,cap,rfl,hl,fun k hk=> ⟨b,off,rfl,hc k hk⟩⟩
def qcu (w:World) (v:Value) (zs:List Bool) (F:Nat→Prop):Prop:=
 (zs= []∧ ∃a cap,v= .slice a 0 cap)∨
 (∃b cap,F b∧v= .slice (some ⟨b,0,none⟩) zs.length cap∧zs.length≤maxLen∧qaa w b zs.length (fun i=> .bool (zs[i]?.getD false)))
theorem qcu.reads {w:World} {v:Value} {zs:List Bool} {F:Nat→Prop} (h:qcu w v zs F):qlB w v zs:=by
 rcases h with h| ⟨b,cap,_,h1,h2,h3⟩
 · exact Or.inl h
 · exact Or.inr ⟨b,0,cap,h1,h2,fun k hk=>by rw [Nat.zero_add];exact h3.cell hk⟩
theorem qcu.keep {w w':World} {v:Value} {zs:List Bool} {F:Nat→Prop} (h:qcu w v zs F) (e: ∀b,F b→b<w.heap.size→w'.heap[b]?=w.heap[b]?):qcu w' v zs F:=by
 rcases h with h| ⟨b,cap,hF,h1,h2,h3⟩
 · exact Or.inl h
 · exact Or.inr ⟨b,cap,hF,h1,h2,h3.block (e b hF h3.lt)⟩
theorem qcu.mono {w:World} {v:Value} {zs:List Bool} {F G:Nat→Prop} (h:qcu w v zs F) (e: ∀b,F b→G b):qcu w v zs G:=by
 rcases h with h| ⟨b,cap,hF,h1⟩
 · exact Or.inl h
 · exact Or.inr ⟨b,cap,e b hF,h1⟩
theorem qcu.later {w w':World} {v:Value} {zs:List Bool} {F:Nat→Prop} (h:qcu w v zs F) (hb:Below w.heap.size w w'):qcu w' v zs F:=h.keep fun b _ hlt=>hb.block b hlt
theorem qcu.chg {w w':World} {v:Value} {zs:List Bool} {F G:Nat→Prop} (h:qcu w v zs F) (hc:Chg G w w') (hd: ∀b,F b→ ¬G b):qcu w' v zs F:=h.keep fun b hb hlt=>hc.block b hlt (hd b hb)

theorem qrU {w:World} {b n:Nat} {f:Nat→Bool} (h:qaa w b n (fun i=> .bool (f i))) (j:Nat) (x:Bool): ∃g:Nat→Bool,qaa (w.setCell ⟨b,j,none⟩ (.bool x)) b n (fun i=> .bool (g i)):=
 ⟨fun i=>if i=j then x else f i,(h.set j _).congr fun i _=>by by_cases e:i=j<;>simp [e]⟩

end Go.Proofs.YthnmlipnoajmkaaGreatDoor

namespace Go.Proofs.YthnmlipnoajmkaaGreatDoor
open Go.RowKit
set_option maxRecDepth 100000

def qgJ (g:Nat→Bool) (x:Int):Nat→Bool:=fun i=>if i=x.toNat then true else g i
theorem qmV {g:Nat→Bool} {i:Nat} (h:g i=true) (x:Int):qgJ g x i=true:=by unfold qgJ;by_cases e:i=x.toNat<;>simp [e,h]
theorem qdC {i:Nat}: ∀ (xs:List Int) {g:Nat→Bool},g i=true→ (xs.foldl qgJ g) i=true
 | [],_,h=>h
 |x::xs,_,h=>qdC xs (qmV h x)
theorem qlC (xs:List Int) (g:Nat→Bool) (k:Nat) (h:k<xs.length): (xs.take (k+1)).foldl qgJ g=qgJ ((xs.take k).foldl qgJ g) (xs[k]?.getD 0):=by
 rw [List.take_succ_eq_append_getElem h,List.foldl_append];simp [h]
def qmW (ds:List ID) (g:Nat→Bool) (i:Nat):Nat→Bool:=if g i=true then (qb7 (ds[i]?.getD id0).2.2.2.2).foldl qgJ g else g
def qbW (ds:List ID) (g:Nat→Bool):Nat→Nat→Bool
 |0=>g
 |i+1=>qmW ds (qbW ds g i) i
def qaD (ds:List ID):Nat→Nat→Bool
 |0=>fun i=>decide (i=0)
 |r+1=>qbW ds (qaD ds r) ds.length

set_option maxHeartbeats 3200000 in
theorem qj0 (w:World) (b o:Nat) (d:FD) (aI:Option Addr) (cI:Nat) (aD:Option Addr) (cD:Nat) (h:FsX w b o d aI cI aD cD) (hn0: ¬d.1.length=0) (hn:d.1.length≤10)
 (hx: ∀j,j<d.1.length→ ∀k,k< (d.1[j]?.getD id0).2.2.2.2.length→0≤ ((d.1[j]?.getD id0).2.2.2.2[k]?.getD en0).2∧ ((d.1[j]?.getD id0).2.2.2.2[k]?.getD en0).2< (d.1.length:Int)):
 Calls Tryz.prog 75 #[.pointer (some ⟨b,o,none⟩)] w fun e w'=> ∃a c n₀,e= .returned (.slice a (qbH (qaD d.1 d.1.length) d.1.length).length c)∧Below w.heap.size w w'∧w.heap.size≤n₀∧Wds w' n₀ (.slice a (qbH (qaD d.1 d.1.length) d.1.length).length c) (qbH (qaD d.1 d.1.length) d.1.length):=by
 have HX:Hid (FsX w b o d aI cI aD cD):=h
 have HP:Hid (∀j,j<d.1.length→ ∀k,k< (d.1[j]?.getD id0).2.2.2.2.length→0≤ ((d.1[j]?.getD id0).2.2.2.2[k]?.getD en0).2∧ ((d.1[j]?.getD id0).2.2.2.2[k]?.getD en0).2< (d.1.length:Int)):=hx
 obtain ⟨_,_,e1,hm1,hAt⟩:=h.ins.open'
 simp only [Value.slice.injEq] at e1
 obtain ⟨rfl,-,rfl⟩:=e1
 have HAT:Hid (AtI w aI d.1.length d.1):=hAt
 have HRS:Hid (∀r,qaD d.1 (r+1)=qbW d.1 (qaD d.1 r) d.1.length):=fun r=>rfl
 have HR0:Hid (qaD d.1 0=fun i=>decide (i=0)):=rfl
 have c0:=h.c0
 clear h hx hAt hm1
 obtain ⟨n,hnn⟩: ∃n,d.1.length=n:= ⟨_,rfl⟩
 have HN:Hid (d.1.length=n):=hnn
 rw [hnn] at HP c0 hn0 hn HAT HRS ⊢
 clear hnn
 generalize qaD d.1=R at*
 have hmk:=fun w=>run_make_row' (P:=Tryz.prog) 149 4 (.bool false) 1 Tryz.underlying149 Tryz.infoBool rfl .i64 .i64 n (by omega) (by omega) w
 have h00: (0:Nat)<n:=by omega
 have HM0:Hid (qaa (w.alloc (.cells (madeCells #[.bool false] n) 4)) w.heap.size n (fun _=> .bool false)):=qaa.made w (.bool false) n 4
 have m1:=HM0.out.cell h00
 have m2:=HM0.out.frozen 0
 have c0':=cell_later (qab w (.cells (madeCells #[.bool false] n) 4)) c0
 go_enter Tryz.func75,Tryz.ntmps75
 go_wp2
 go_loopw [4] (fun i wr=> ∃r:Nat,r≤n∧i= .int .i64 r∧Below w.heap.size w wr∧qaa wr w.heap.size n (fun i=> .bool (R r i))) (fun i _=>n- (intOf i).toNat)
 case atStart=>
  refine ⟨0,Nat.zero_le _,rfl,qab _ _, ?_⟩
  have h1:=HM0.out.set 0 (.bool true)
  rw [World.setCell_alloc_new] at h1
  exact h1.congr fun i _=>by rw [HR0.out];by_cases e:i=0<;>simp [e]
 case round=>
  obtain ⟨r,hr,rfl,hbl,hrow⟩:=hrel
  have HBL:Hid (Below w.heap.size w wr):=hbl
  have HROW:Hid (qaa wr w.heap.size n (fun i=> .bool (R r i))):=hrow
  have c0r:=cell_later hbl c0
  clear hbl hrow m1 m2 c0' HM0 hmk
  by_cases hlt:r<n
  · have HSW:Hid (R (r+1)=qbW d.1 (R r) n):=HRS.out r
    have HS0:Hid (qbW d.1 (R r) 0=R r):=rfl
    have HSI:Hid (∀i,qbW d.1 (R r) (i+1)=qmW d.1 (qbW d.1 (R r) i) i):=fun i=>rfl
    generalize qbW d.1 (R r)=S at*
    go_wp2
    go_loopw [5] (fun i wr=> ∃j:Nat,j≤n∧i= .int .i64 j∧Below w.heap.size w wr∧qaa wr w.heap.size n (fun i=> .bool (S j i))) (fun i _=>n- (intOf i).toNat)
    case atStart=>exact ⟨0,Nat.zero_le _,rfl,HBL.out,by rw [HS0.out];exact HROW.out⟩
    case round=>
     obtain ⟨j,hj,rfl,hbl,hrow⟩:=hrel
     have HBL:Hid (Below w.heap.size w wr):=hbl
     have HROW:Hid (qaa wr w.heap.size n (fun i=> .bool (S j i))):=hrow
     have c0j:=cell_later hbl c0
     clear hbl hrow c0r
     by_cases hlj:j<n
     · have b1 :=HROW.out.cell hlj
       have HSJ:Hid (S (j+1)=qmW d.1 (S j) j):=HSI.out j
       obtain ⟨bI,oI,rfl,hI⟩:= (HAT.out.later HBL.out) j hlj
       obtain ⟨aB,cB,aE,cE,g0,g1,g2,g3,g4,g5⟩:=hI
       obtain ⟨_,_,e3,hm3,_,hc3⟩:=g5.2.2.open'
       simp only [Value.slice.injEq] at e3
       obtain ⟨rfl,_,rfl⟩:=e3
       clear g0 g1 g2 g3 g5 HSI
       cases hg:S j j with
       | false=>
         have HSE:Hid (S (j+1)=S j):=by unfold Hid;rw [HSJ.out,qmW,hg,if_neg (by simp)]
         rw [hg] at b1
         clear HSJ hg hm3 hc3
         go_wp2
         go_loopw [6] (fun i wr'=>i= .int .i64 0∧wr'=wr) (fun _ _=>0)
         case atStart=>exact ⟨rfl,rfl⟩
         case round=>
          obtain ⟨rfl,rfl⟩:=hrel
          go_wp2
          go_roundw
          case rel=>exact ⟨j+1,by omega,by go_num,HBL.out,by rw [HSE.out];exact HROW.out⟩
          case measure=>simp [intOf];omega
       | true=>
         have HSE:Hid (S (j+1)= (qb7 (d.1[j]?.getD id0).2.2.2.2).foldl qgJ (S j)):=by unfold Hid;rw [HSJ.out,qmW,if_pos hg]
         have HGJ:Hid (S j j=true):=hg
         have HPJ:Hid (∀k,k< (d.1[j]?.getD id0).2.2.2.2.length→0≤ ((d.1[j]?.getD id0).2.2.2.2[k]?.getD en0).2∧ ((d.1[j]?.getD id0).2.2.2.2[k]?.getD en0).2< (n:Int)):=HP.out j hlj
         have HCW:Hid (AtN w aE (d.1[j]?.getD id0).2.2.2.2.length (d.1[j]?.getD id0).2.2.2.2∧w.cell? ⟨bI,oI+j*5+4,none⟩=some (.slice aE (d.1[j]?.getD id0).2.2.2.2.length cE)):=by
          obtain ⟨b2,o2,e2,hI⟩:=HAT.out j hlj
          simp only [Option.some.injEq,Addr.mk.injEq,and_true] at e2
          obtain ⟨rfl,rfl⟩:=e2
          obtain ⟨_,_,aE',cE',_,_,_,_,q4,q5⟩:=hI
          have q6:=cell_later HBL.out q4
          rw [g4] at q6
          simp only [Option.some.injEq,Value.slice.injEq,true_and] at q6
          obtain ⟨rfl,rfl⟩:=q6
          obtain ⟨_,_,e3,_,_,hc4⟩:=q5.2.2.open'
          simp only [Value.slice.injEq] at e3
          obtain ⟨rfl,_,rfl⟩:=e3
          exact ⟨hc4,q4⟩
         clear HSJ hg hc3 g4 b1
         generalize (d.1[j]?.getD id0).2.2.2.2=es at*
         obtain ⟨nB,hnB⟩: ∃nB,nB=es.length:= ⟨_,rfl⟩
         have HNB:Hid (nB=es.length):=hnB
         have HNI:Hid (nB= (qb7 es).length):=by unfold Hid qb7;rw [List.length_map];exact hnB
         have HEG:Hid (∀k:Nat,(qb7 es)[k]?.getD 0= (es[k]?.getD en0).2):=fun k=>by unfold qb7;rw [List.getElem?_map];cases es[k]?<;>rfl
         rw [←hnB] at hm3 HCW HPJ
         unfold maxLen at hm3
         clear hnB
         generalize qb7 es=bs at*
         go_wp2
         go_loopw [6] (fun i wr'=> ∃k:Nat,k≤nB∧i= .int .i64 k∧Below w.heap.size w wr'∧qaa wr' w.heap.size n (fun i=> .bool (((bs.take k).foldl qgJ (S j)) i))) (fun i _=>nB- (intOf i).toNat)
         case atStart=>exact ⟨0,Nat.zero_le _,rfl,HBL.out,HROW.out⟩
         case round=>
          obtain ⟨k,hk,rfl,hbl2,hrow2⟩:=hrel
          have HT:Hid (((bs.take k).foldl qgJ (S j)) j=true):=qdC _ HGJ.out
          have b1:=hrow2.cell hlj
          rw [HT.out] at b1
          have c0k:=cell_later hbl2 c0
          have g4:=cell_later hbl2 HCW.out.2
          by_cases hlk:k<nB
          · obtain ⟨b3,o3,rfl,_,d1⟩:=HCW.out.1 k hlk
            have d2:=cell_later hbl2 d1
            have hp:=HPJ.out k hlk
            have HFN:Hid ((bs.take (k+1)).foldl qgJ (S j)=qgJ ((bs.take k).foldl qgJ (S j)) (es[k]?.getD en0).2):=by unfold Hid;rw [qlC bs _ k (by rw [←HNI.out];exact hlk),HEG.out]
            clear d1 HCW HPJ
            generalize (es[k]?.getD en0).2=x at*
            obtain ⟨t,rfl⟩:=Int.eq_ofNat_of_zero_le hp.1
            have htn:t<n:=by omega
            have f1:=hrow2.cell htn
            have f2:=hrow2.frozen t
            generalize (bs.take k).foldl qgJ (S j)=G at*
            have HB2:Hid (Below w.heap.size w _):=hbl2
            have HR2:Hid (qaa _ w.heap.size n (fun i=> .bool (G i))):=hrow2
            clear hbl2 hrow2
            go_wp2
            go_roundw
            case rel=>
             refine ⟨k+1,by omega,by go_num,HB2.out.setCell (Nat.le_refl _) _,(HR2.out.set t _).congr fun i _=> ?_⟩
             rw [HFN.out]
             unfold qgJ
             by_cases e:i=t<;>simp [e]
            case measure=>simp [intOf];omega
          · have hkn:bs.take k=bs:=List.take_of_length_le (by rw [←HNI.out];omega)
            rw [hkn,←HSE.out] at hrow2
            have HB2:Hid (Below w.heap.size w _):=hbl2
            have HR2:Hid (qaa _ w.heap.size n (fun i=> .bool (S (j+1) i))):=hrow2
            clear hbl2 hrow2 hkn
            go_wp2
            go_roundw
            case rel=>exact ⟨j+1,by omega,by go_num,HB2.out,HR2.out⟩
            case measure=>simp [intOf];omega
     · have HJ:Hid (S j=R (r+1)):=by unfold Hid;rw [HSW.out,show j=n by omega]
       go_wp2
       go_roundw
       case rel=>exact ⟨r+1,by omega,by go_num,HBL.out,by rw [←HJ.out];exact HROW.out⟩
       case measure=>simp [intOf];omega
  · have HRN:Hid (R r=R n):=by unfold Hid;rw [show r=n by omega]
    rw [HRN.out] at HROW
    have HL:Hid (∀j,(qbH (R n) j).length≤j):=fun j=>qeo _ _
    clear HRN
    generalize hRg:R n=g at*
    have HRG:Hid (R n=g):=hRg
    clear hRg
    go_wp2
    go_loopw [7,8] (fun o i wr'=> ∃ (j:Nat) (v:Value),j≤n∧i= .int .i64 j∧o=v∧Below wr.heap.size wr wr'∧Wds wr' wr.heap.size v (qbH g j)) (fun _ i _=>n- (intOf i).toNat)
    case atStart=>exact ⟨0,_,Nat.zero_le _,rfl,rfl,qab _ _,Wds.lit0 wr⟩
    case round=>
     obtain ⟨j,v,hj,rfl,rfl,hbl,hwd⟩:=hrel
     obtain ⟨aV,cV,rfl⟩:=hwd.shape
     have b1:= (HROW.out.later hbl)
     have HBJ:Hid (Below _ _ _):=hbl
     have HWD:Hid (Wds _ _ _ _):=hwd
     have hlj:=HL.out j
     by_cases hlt2:j<n
     · have b2:=b1.cell hlt2
       clear b1 hbl hwd
       cases hgj:g j with
       | true=>
         rw [hgj] at b2
         have HYJ:Hid (qbH g (j+1)=qbH g j++ [(j:Int)]):=qkK hgj
         obtain ⟨a',c',X,hr,hw,hb,_⟩:=qfK _ _ _ (qbH g j) (j:Int) HWD.out HBJ.out.size (by omega)
         have HR:Hid (_=_):=hr
         rw [←HYJ.out] at HR hw
         have HW:Hid (Wds X _ _ (qbH g (j+1))):=hw
         have HB:Hid (Below _ _ X):=HBJ.out.trans hb
         clear hr hw hb hgj
         go_wp2_with (at_builtin;refine qat rfl _ _ 64 rfl _ _ rfl rfl _ _ HR.out ?_)
         go_roundw
         case rel=>exact ⟨j+1,_,by omega,by go_num,rfl,HB.out,HW.out⟩
         case measure=>simp [intOf];omega
       | false=>
         rw [hgj] at b2
         have HNJ:Hid (qbH g (j+1)=qbH g j):=qmN hgj
         clear hgj
         go_wp2
         go_roundw
         case rel=>exact ⟨j+1,_,by omega,by go_num,rfl,HBJ.out,by rw [HNJ.out];exact HWD.out⟩
         case measure=>simp [intOf];omega
     · have he:j=n:=by omega
       subst he
       clear b1 hbl hwd hlt2
       go_wp2
       go_ret
       simp only [HRG.out]
       exact ⟨_,_,_,rfl,HBL.out.trans ⟨HBJ.out.os,HBJ.out.tape,HBJ.out.output,HBJ.out.size,fun b hb=>HBJ.out.block b (Nat.lt_of_lt_of_le hb HBL.out.size)⟩,HBL.out.size,HWD.out⟩
end Go.Proofs.YthnmlipnoajmkaaGreatDoor
