/- The specification's l4Dir and l4Fault. The specification's InodeFault. The specification's functions over lists of inodes. The specification's counts. The specification's other counts and places. The specification's lists of blocks. The specification's l4Pack. The program's InodeFault. The program's InodeFault:its kinds. -/
import Derived.Test.YthnmlipnoajmkaaGreatDoorM08
import Derived.Laws.Cover1
import Derived.Test.YthnmlipnoajmkaaGreatDoorM04
namespace Go.Proofs.YthnmlipnoajmkaaGreatDoor
open Go.RowKit
set_option maxRecDepth 100000

theorem qeq {es:List EN} {i:Nat} (h: ¬qal (es[i]?.getD en0).1=0):qdy es i=qal (es[i]?.getD en0).1:=by unfold qdy;rw [if_neg h]
theorem qdA {es:List EN} {i:Nat} (h:qal (es[i]?.getD en0).1=0) (h2: ¬ (0≤ (es[i]?.getD en0).2∧ (es[i]?.getD en0).2≤9)):qdy es i=3:=by unfold qdy;rw [if_pos h,if_neg h2]
theorem qer {es:List EN} {i:Nat} (h:qal (es[i]?.getD en0).1=0) (h2:0≤ (es[i]?.getD en0).2∧ (es[i]?.getD en0).2≤9) (h3:0<i) (h4:qdZ (es[i]?.getD en0).1 (es[i-1]?.getD en0).1=true):qdy es i=1:=by unfold qdy;rw [if_pos h,if_pos h2,if_pos ⟨h3,h4⟩]
theorem qhj {es:List EN} {i:Nat} (h:qal (es[i]?.getD en0).1=0) (h2:0≤ (es[i]?.getD en0).2∧ (es[i]?.getD en0).2≤9) (h3: ¬ (0<i∧qdZ (es[i]?.getD en0).1 (es[i-1]?.getD en0).1=true)):qdy es i=0:=by unfold qdy;rw [if_pos h,if_pos h2,if_neg h3]

set_option maxHeartbeats 6400000 in
theorem qls (w:World) (b o:Nat) (k l s:Int) (vB:Value) (a:Option Addr) (n c:Nat) (es:List EN) (hx:BxO w b o [.int .i64 k, .int .i64 l, .int .i64 s,vB, .slice a n c]) (hn:n≤6) (hen:es.length=n) (hz: ∀k:Nat,(es[k]?.getD en0).1.size≤maxLen) (hc:AtN w a n es):
 Calls Tryz.prog 136 #[.pointer (some ⟨b,o,none⟩)] w fun e w'=>e= .returned (.int .i64 (qaJ (qdy es) es.length))∧ ∃m,w'=w.drewN m:=by
 have c4:=hx 4 _ rfl
 have HC:Hid (AtN w a n es):=hc
 have HZ:Hid (∀k:Nat,(es[k]?.getD en0).1.size≤maxLen):=hz
 have HN:Hid (es.length=n):=hen
 have h6:decide ((6:Int)< (n:Int))=false:=by simp;omega
 clear hx hc hz hen
 go_enter Tryz.func136,Tryz.ntmps136
 go_wp2
 go_loopw [3] (fun i wr=> ∃j m:Nat,j≤n∧i= .int .i64 j∧wr=w.drewN m∧ ∀i:Nat,i<j→qdy es i=0) (fun i _=>n- (intOf i).toNat)
 case atStart=>exact ⟨0,0,Nat.zero_le _,rfl,rfl,fun i hi=>by omega⟩
 case round=>
  obtain ⟨j,m,hj,rfl,rfl,hall⟩:=hrel
  have HA:Hid (∀i:Nat,i<j→qdy es i=0):=hall
  clear hall
  by_cases hlt:j<n
  · obtain ⟨b1,off,rfl,e0,e1⟩:=HC.out j hlt
    have HSZ:Hid ((es[j]?.getD en0).1.size≤maxLen):=HZ.out j
    have HE:Hid (¬qdy es j=0→qaJ (qdy es) es.length=qdy es j):=fun h=>qbx HA.out h (by rw [HN.out];exact hlt)
    by_cases hnm:qal (es[j]?.getD en0).1=0
    rotate_left
    · have HF:Hid (qaJ (qdy es) es.length=qal (es[j]?.getD en0).1):=by unfold Hid;rw [HE.out (by rw [qeq hnm];exact hnm),qeq hnm]
      have HNM:Hid (¬qal (es[j]?.getD en0).1=0):=hnm
      clear hnm HE HA
      generalize (es[j]?.getD en0).1=x at*
      generalize (es[j]?.getD en0).2=y at*
      go_wp2_with fail
      refine (qbb _ x HSZ.out).mono ?_
      generalize qal x=q at*
      have hq: (q=0)=False:=by simpa using HNM.out
      have hq2: (q==0)=false:=by simpa using HNM.out
      rintro e w1 ⟨rfl,rfl⟩
      go_wp2
      go_ret
      exact ⟨qad HF.out.symm,m,rfl⟩
    · have HNM:Hid (qal (es[j]?.getD en0).1=0):=hnm
      by_cases hr:0≤ (es[j]?.getD en0).2∧ (es[j]?.getD en0).2≤9
      rotate_left
      · have HF:Hid (qaJ (qdy es) es.length=3):=by unfold Hid;rw [HE.out (by rw [qdA hnm hr];decide),qdA hnm hr]
        have HQ:Hid (decide (0≤ (es[j]?.getD en0).2∧ (es[j]?.getD en0).2≤9)=false):=by unfold Hid;simpa using hr
        clear hnm HE HA hr
        generalize (es[j]?.getD en0).1=x at*
        generalize (es[j]?.getD en0).2=y at*
        go_wp2_with fail
        refine (qbb _ x HSZ.out).mono ?_
        rw [HNM.out]
        rintro e w1 ⟨rfl,rfl⟩
        go_wp2_with fail
        refine (qaL HQ.out).mono ?_
        rintro e w2 ⟨rfl,rfl⟩
        go_wp2
        go_ret
        exact ⟨qad HF.out.symm,m,rfl⟩
      · have HQ:Hid (decide (0≤ (es[j]?.getD en0).2∧ (es[j]?.getD en0).2≤9)=true):=by unfold Hid;simpa using hr
        by_cases h0:j=0
        · have HNX:Hid (∀i:Nat,i<j+1→qdy es i=0):=fun i hi=>by
           have:i=j:=by omega
           rw [this];exact qhj hnm hr (by omega)
          clear hnm HE HA hr
          generalize (es[j]?.getD en0).1=x at*
          generalize (es[j]?.getD en0).2=y at*
          subst h0
          simp only [Nat.zero_mul,Nat.add_zero] at e0 e1
          go_wp2_with fail
          refine (qbb _ x HSZ.out).mono ?_
          rw [HNM.out]
          rintro e w1 ⟨rfl,rfl⟩
          go_wp2_with fail
          refine (qaL HQ.out).mono ?_
          rintro e w2 ⟨rfl,rfl⟩
          go_wp2_with fail
          go_quiet (fail)
          go_wp2
          go_roundw
          case rel=>exact ⟨1,m+nq,by omega,by go_num,by first|rfl|rw [World.drewN_drewN],HNX.out⟩
          case measure=>simp [intOf];omega
        · obtain ⟨i,hi⟩: ∃i,j=i+1:= ⟨j-1,by omega⟩
          obtain ⟨b2,off2,h12,e2,_⟩:=HC.out i (by omega)
          simp only [Option.some.injEq,Addr.mk.injEq,and_true] at h12
          obtain ⟨rfl,rfl⟩:=h12
          have hji:j-1=i:=by omega
          by_cases hle:qdZ (es[j]?.getD en0).1 (es[i]?.getD en0).1=true
          · have HF:Hid (qaJ (qdy es) es.length=1):=by unfold Hid;rw [HE.out (by rw [qer hnm hr (by omega) (by rw [hji];exact hle)];decide),qer hnm hr (by omega) (by rw [hji];exact hle)]
            have hle2:=hle
            unfold qdZ at hle2
            clear hnm HE HA hr hle
            subst hi
            generalize (es[i+1]?.getD en0).1=x at*
            generalize (es[i+1]?.getD en0).2=y at*
            generalize (es[i]?.getD en0).1=x2 at*
            have hpos: (0:Int)< ((i+1:Nat):Int):=by omega
            go_wp2_with fail
            refine (qbb _ x HSZ.out).mono ?_
            rw [HNM.out]
            rintro e w1 ⟨rfl,rfl⟩
            go_wp2_with fail
            refine (qaL HQ.out).mono ?_
            rintro e w2 ⟨rfl,rfl⟩
            go_wp2_with fail
            go_quiet (fail)
            go_wp2
            go_ret
            exact ⟨qad HF.out.symm,m+nq,by first|rfl|rw [World.drewN_drewN]⟩
          · have HNX:Hid (∀q:Nat,q<j+1→qdy es q=0):=fun q hq=>by
             by_cases e:q=j
             · rw [e];exact qhj hnm hr (by rw [hji];exact fun h=>hle h.2)
             · exact HA.out q (by omega)
            have hle2:qdZ (es[j]?.getD en0).1 (es[i]?.getD en0).1=false:=by simpa using hle
            unfold qdZ at hle2
            clear hnm HE HA hr hle
            subst hi
            generalize (es[i+1]?.getD en0).1=x at*
            generalize (es[i+1]?.getD en0).2=y at*
            generalize (es[i]?.getD en0).1=x2 at*
            have hpos: (0:Int)< ((i+1:Nat):Int):=by omega
            go_wp2_with fail
            refine (qbb _ x HSZ.out).mono ?_
            rw [HNM.out]
            rintro e w1 ⟨rfl,rfl⟩
            go_wp2_with fail
            refine (qaL HQ.out).mono ?_
            rintro e w2 ⟨rfl,rfl⟩
            go_wp2_with fail
            go_quiet (fail)
            go_wp2
            go_roundw
            case rel=>exact ⟨i+1+1,_,by omega,by go_num,by first|rfl|rw [World.drewN_drewN],HNX.out⟩
            case measure=>simp [intOf];omega
  · have HF:Hid (qaJ (qdy es) es.length=0):=qaG fun i hi=>HA.out i (by rw [HN.out] at hi;omega)
    go_wp2
    go_ret
    exact ⟨qad HF.out.symm,m,rfl⟩
end Go.Proofs.YthnmlipnoajmkaaGreatDoor

namespace Go.Proofs.YthnmlipnoajmkaaGreatDoor
open Go.RowKit
set_option maxRecDepth 100000

theorem qlu (w:World) (b o:Nat) (k l s:Int) (vB:Value) (a:Option Addr) (n c:Nat) (hx:BxO w b o [.int .i64 k, .int .i64 l, .int .i64 s,vB, .slice a n c]) (hn:6<n):
 Calls Tryz.prog 136 #[.pointer (some ⟨b,o,none⟩)] w fun e w'=>e= .returned (.int .i64 2)∧w'=w:=by
 have c4:=hx 4 _ rfl
 have h6:decide ((6:Int)< (n:Int))=true:=by simp;omega
 clear hx
 go_enter Tryz.func136,Tryz.ntmps136
 go_wp2
 go_ret
 exact ⟨rfl,rfl⟩
theorem qmQ (w:World) (b o:Nat) (k l s:Int) (vB:Value) (a:Option Addr) (n c:Nat) (es:List EN) (hx:BxO w b o [.int .i64 k, .int .i64 l, .int .i64 s,vB, .slice a n c]) (he:qdw w (.slice a n c) es):
 Calls Tryz.prog 136 #[.pointer (some ⟨b,o,none⟩)] w fun e w'=>e= .returned (.int .i64 (qel es))∧ ∃m,w'=w.drewN m:=by
 obtain ⟨a',cap,h1,hm,hz,hc⟩:=he.open'
 simp only [Value.slice.injEq] at h1
 obtain ⟨rfl,rfl,rfl⟩:=h1
 unfold qel
 by_cases h:6<es.length
 · rw [if_pos h]
   exact (qlu w b o k l s vB _ _ _ hx h).mono fun e w' ⟨h1,h2⟩=> ⟨h1,0,h2⟩
 · rw [if_neg h]
   exact qls w b o k l s vB _ _ _ es hx (by omega) rfl hz hc

set_option maxHeartbeats 6400000 in
theorem qjR (w:World) (b o:Nat) (d:ID) (a:Option Addr) (c:Nat) (a':Option Addr) (c':Nat) (hx:BxO w b o [.int .i64 d.1, .int .i64 d.2.1, .int .i64 d.2.2.1, .slice a d.2.2.2.1.length c, .slice a' d.2.2.2.2.length c']) (hi:qb1 w (.slice a d.2.2.2.1.length c) d.2.2.2.1) (he:qdw w (.slice a' d.2.2.2.2.length c') d.2.2.2.2):
 Calls Tryz.prog 110 #[.pointer (some ⟨b,o,none⟩)] w fun e w'=>e= .returned (.int .i64 (qbl d))∧ ∃m,w'=w.drewN m:=by
 obtain ⟨k,l,s,bs,es⟩:=d
 dsimp only at hx hi he ⊢
 have HFI:Hid (∀m,Calls Tryz.prog 135 #[.pointer (some ⟨b,o,none⟩)] (w.drewN m) fun e w'=>e= .returned (.int .i64 (qcK l s bs))∧ ∃m',w'= (w.drewN m).drewN m'):=fun m=>qlr (w.drewN m) b o k l s a _ c _ bs hx hi
 have HDI:Hid (∀m,Calls Tryz.prog 136 #[.pointer (some ⟨b,o,none⟩)] (w.drewN m) fun e w'=>e= .returned (.int .i64 (qel es))∧ ∃m',w'= (w.drewN m).drewN m'):=fun m=>qmQ (w.drewN m) b o k l s _ a' _ c' es hx he
 have c0:w.cell? ⟨b,o,none⟩=some _:=hx 0 _ rfl
 have c1:=hx 1 _ rfl
 have c2:=hx 2 _ rfl
 have c3:=hx 3 _ rfl
 have c4:=hx 4 _ rfl
 have HF:Hid (qbl (k,l,s,bs,es)=if k=0 then (if (decide (l≠0)||decide (s≠0)||decide (0<bs.length))||decide (0<es.length) then 1 else 0) else if k=1 then (if decide (0<es.length) then 1 else qcK l s bs) else if k=2 then (if (decide (l≠0)||decide (s≠0)||decide (0<bs.length)) then 1 else qel es) else 1):=rfl
 generalize qcK l s bs=ff at*
 generalize qel es=df at*
 generalize qbl (k,l,s,bs,es)=r at*
 generalize bs.length=n at*
 generalize es.length=n' at*
 clear hx hi he
 by_cases hk:0≤k∧k≤2
 rotate_left
 · have HR:Hid (r=1):=by unfold Hid;rw [HF.out,if_neg (by omega),if_neg (by omega),if_neg (by omega)]
   have HQ:Hid (decide (0≤k∧k≤2)=false):=by unfold Hid;simpa using hk
   clear hk
   go_enter Tryz.func110,Tryz.ntmps110
   go_wp2_with fail
   refine (qaL HQ.out).mono ?_
   rintro e w1 ⟨rfl,rfl⟩
   go_wp2
   go_ret
   exact ⟨qad HR.out.symm,0,rfl⟩
 · have HQ : Hid (decide (0≤k∧k≤2)=true):=by unfold Hid;simpa using hk
   have hk3:k=0∨k=1∨k=2:=by omega
   clear hk
   rcases hk3 with rfl|rfl|rfl
   · clear HFI HDI
     by_cases hl:l=0
     rotate_left
     · have hl': (l !=0)=true:=by simpa using hl
       have HR:Hid (r=1):=by unfold Hid;rw [HF.out];simp [hl]
       go_enter Tryz.func110,Tryz.ntmps110
       go_wp2_with fail
       refine (qaL HQ.out).mono ?_
       rintro e w1 ⟨rfl,rfl⟩
       go_wp2
       go_ret
       exact ⟨qad HR.out.symm,0,rfl⟩
     · subst hl
       by_cases hs:s=0
       rotate_left
       · have hs': (s !=0)=true:=by simpa using hs
         have HR:Hid (r=1):=by unfold Hid;rw [HF.out];simp [hs]
         go_enter Tryz.func110,Tryz.ntmps110
         go_wp2_with fail
         refine (qaL HQ.out).mono ?_
         rintro e w1 ⟨rfl,rfl⟩
         go_wp2
         go_ret
         exact ⟨qad HR.out.symm,0,rfl⟩
       · subst hs
         by_cases hn:0<n
         · have hn':decide ((0:Int)< (n:Int))=true:=by simp;omega
           have HR:Hid (r=1):=by unfold Hid;rw [HF.out];simp [hn]
           go_enter Tryz.func110,Tryz.ntmps110
           go_wp2_with fail
           refine (qaL HQ.out).mono ?_
           rintro e w1 ⟨rfl,rfl⟩
           go_wp2
           go_ret
           exact ⟨qad HR.out.symm,0,rfl⟩
         · have hn':decide ((0:Int)< (n:Int))=false:=by simp;omega
           by_cases hm:0<n'
           · have hm':decide ((0:Int)< (n':Int))=true:=by simp;omega
             have HR:Hid (r=1):=by unfold Hid;rw [HF.out];simp [hm]
             go_enter Tryz.func110,Tryz.ntmps110
             go_wp2_with fail
             refine (qaL HQ.out).mono ?_
             rintro e w1 ⟨rfl,rfl⟩
             go_wp2
             go_ret
             exact ⟨qad HR.out.symm,0,rfl⟩
           · have hm':decide ((0:Int)< (n':Int))=false:=by simp;omega
             have HR:Hid (r=0):=by unfold Hid;rw [HF.out];simp;omega
             go_enter Tryz.func110,Tryz.ntmps110
             go_wp2_with fail
             refine (qaL HQ.out).mono ?_
             rintro e w1 ⟨rfl,rfl⟩
             go_wp2
             go_ret
             exact ⟨qad HR.out.symm,0,rfl⟩
   · by_cases hm:0<n'
     · have hm':decide ((0:Int)< (n':Int))=true:=by simp;omega
       have HR:Hid (r=1):=by unfold Hid;rw [HF.out];simp [hm]
       go_enter Tryz.func110,Tryz.ntmps110
       go_wp2_with fail
       refine (qaL HQ.out).mono ?_
       rintro e w1 ⟨rfl,rfl⟩
       go_wp2
       go_ret
       exact ⟨qad HR.out.symm,0,rfl⟩
     · have hm':decide ((0:Int)< (n':Int))=false:=by simp;omega
       have HR:Hid (r=ff):=by unfold Hid;rw [HF.out];simp [hm]
       go_enter Tryz.func110,Tryz.ntmps110
       go_wp2_with fail
       refine (qaL HQ.out).mono ?_
       rintro e w1 ⟨rfl,rfl⟩
       go_wp2_with fail
       refine (HFI.out 0).mono ?_
       rintro e w2 ⟨rfl,m,rfl⟩
       go_wp2
       go_ret
       exact ⟨qad HR.out.symm,m,rfl⟩
   · by_cases hl:l=0
     rotate_left
     · have hl': (l !=0)=true:=by simpa using hl
       have HR:Hid (r=1):=by unfold Hid;rw [HF.out];simp [hl]
       go_enter Tryz.func110,Tryz.ntmps110
       go_wp2_with fail
       refine (qaL HQ.out).mono ?_
       rintro e w1 ⟨rfl,rfl⟩
       go_wp2
       go_ret
       exact ⟨qad HR.out.symm,0,rfl⟩
     · subst hl
       by_cases hs:s=0
       rotate_left
       · have hs': (s !=0)=true:=by simpa using hs
         have HR:Hid (r=1):=by unfold Hid;rw [HF.out];simp [hs]
         go_enter Tryz.func110,Tryz.ntmps110
         go_wp2_with fail
         refine (qaL HQ.out).mono ?_
         rintro e w1 ⟨rfl,rfl⟩
         go_wp2
         go_ret
         exact ⟨qad HR.out.symm,0,rfl⟩
       · subst hs
         by_cases hn:0<n
         · have hn':decide ((0:Int)< (n:Int))=true:=by simp;omega
           have HR:Hid (r=1):=by unfold Hid;rw [HF.out];simp [hn]
           go_enter Tryz.func110,Tryz.ntmps110
           go_wp2_with fail
           refine (qaL HQ.out).mono ?_
           rintro e w1 ⟨rfl,rfl⟩
           go_wp2
           go_ret
           exact ⟨qad HR.out.symm,0,rfl⟩
         · have hn':decide ((0:Int)< (n:Int))=false:=by simp;omega
           have HR:Hid (r=df):=by unfold Hid;rw [HF.out];simp [hn]
           go_enter Tryz.func110,Tryz.ntmps110
           go_wp2_with fail
           refine (qaL HQ.out).mono ?_
           rintro e w1 ⟨rfl,rfl⟩
           go_wp2_with fail
           refine (HDI.out 0).mono ?_
           rintro e w2 ⟨rfl,m,rfl⟩
           go_wp2
           go_ret
           exact ⟨qad HR.out.symm,m,rfl⟩

end Go.Proofs.YthnmlipnoajmkaaGreatDoor

namespace Go.Proofs.YthnmlipnoajmkaaGreatDoor
open Go.RowKit
set_option maxRecDepth 100000

theorem qfG.bx {w:World} {b o:Nat} {d:ID} (h:qfG w b o d): ∃aB cB aE cE,BxO w b o [.int .i64 d.1, .int .i64 d.2.1, .int .i64 d.2.2.1, .slice aB d.2.2.2.1.length cB, .slice aE d.2.2.2.2.length cE]∧qb1 w (.slice aB d.2.2.2.1.length cB) d.2.2.2.1∧qdw w (.slice aE d.2.2.2.2.length cE) d.2.2.2.2:=by
 obtain ⟨aB,cB,aE,cE,h0,h1,h2,h3,h4,h5⟩:=h
 refine ⟨aB,cB,aE,cE,fun i v hi=> ?_,h5.2.1,h5.2.2⟩
 match i,hi with
 |0,hi=>simp at hi;subst hi;exact h0
 |1,hi=>simp at hi;subst hi;exact h1
 |2,hi=>simp at hi;subst hi;exact h2
 |3,hi=>simp at hi;subst hi;exact h3
 |4,hi=>simp at hi;subst hi;exact h4
 |n+5,hi=>simp at hi

set_option maxHeartbeats 800000 in
theorem qir (w:World) (a:Option Addr) (n c:Nat) (hn:10<n):
 Calls Tryz.prog 73 #[.slice a n c] w fun e w'=>e= .returned (.int .i64 2)∧w'=w:=by
 have h6:decide ((10:Int)< (n:Int))=true:=by simp;omega
 go_enter Tryz.func73,Tryz.ntmps73
 go_wp2
 go_ret
 exact ⟨rfl,rfl⟩

set_option maxHeartbeats 1600000 in
theorem qis (w:World) (a:Option Addr) (n c:Nat) (ds:List ID) (hn:n≤10) (hdn:ds.length=n) (hc:AtI w a n ds):
 Calls Tryz.prog 73 #[.slice a n c] w fun e w'=>e= .returned (.int .i64 (qaJ (fun i=>qbl (ds[i]?.getD id0)) ds.length))∧ ∃m,w'=w.drewN m:=by
 have HC:Hid (AtI w a n ds):=hc
 have HN:Hid (ds.length=n):=hdn
 have h6:decide ((10:Int)< (n:Int))=false:=by simp;omega
 clear hc hdn
 go_enter Tryz.func73,Tryz.ntmps73
 go_wp2
 go_loopw [3] (fun i wr=> ∃j m:Nat,j≤n∧i= .int .i64 j∧wr=w.drewN m∧ ∀i:Nat,i<j→qbl (ds[i]?.getD id0)=0) (fun i _=>n- (intOf i).toNat)
 case atStart=>exact ⟨0,0,Nat.zero_le _,rfl,rfl,fun i hi=>by omega⟩
 case round=>
  obtain ⟨j,m,hj,rfl,rfl,hz⟩:=hrel
  have HZ:Hid (∀i:Nat,i<j→qbl (ds[i]?.getD id0)=0):=hz
  clear hz
  by_cases hlt:j<n
  · obtain ⟨b,o,rfl,hI⟩:=HC.out j hlt
    obtain ⟨aB,cB,aE,cE,hx,hi,he⟩:=hI.bx
    have HF:Hid (∀q,Calls Tryz.prog 110 #[.pointer (some ⟨b,o+j*5,none⟩)] (w.drewN q) fun e w'=>e= .returned (.int .i64 (qbl (ds[j]?.getD id0)))∧ ∃m',w'= (w.drewN q).drewN m'):=fun q=>qjR (w.drewN q) b (o+j*5) (ds[j]?.getD id0) aB cB aE cE hx hi he
    clear hI hx hi he
    have HR:Hid (qbl (ds[j]?.getD id0)=0→ (∀i:Nat,i<j+1→qbl (ds[i]?.getD id0)=0)):=fun h i hi=>by
     by_cases e:i=j
     · subst e;exact h
     · exact HZ.out i (by omega)
    have HT:Hid (¬qbl (ds[j]?.getD id0)=0→qbl (ds[j]?.getD id0)=qaJ (fun i=>qbl (ds[i]?.getD id0)) ds.length):=fun h=> (qbx (f:=fun i=>qbl (ds[i]?.getD id0)) HZ.out h (by rw [HN.out];exact hlt)).symm
    by_cases hzz:qbl (ds[j]?.getD id0)=0
    · have HR':Hid (∀i:Nat,i<j+1→qbl (ds[i]?.getD id0)=0):=HR.out hzz
      have HZZ:Hid (qbl (ds[j]?.getD id0)=0):=hzz
      clear HR HT hzz HC
      go_wp2_with fail
      refine (HF.out _).mono ?_
      rw [HZZ.out]
      rintro e w1 ⟨rfl,q,rfl⟩
      go_wp2
      go_roundw
      case rel=>exact ⟨j+1,_,by omega,by go_num,rfl,HR'.out⟩
      case measure=>simp [intOf];omega
    · have HT':Hid (qbl (ds[j]?.getD id0)=qaJ (fun i=>qbl (ds[i]?.getD id0)) ds.length):=HT.out hzz
      have hzb: (qbl (ds[j]?.getD id0) !=0)=true:=by simpa using hzz
      clear HR HT HC
      generalize qbl (ds[j]?.getD id0)=r at*
      go_wp2_with fail
      refine (HF.out _).mono ?_
      rintro e w1 ⟨rfl,q,rfl⟩
      go_wp2
      go_ret
      exact ⟨qad HT'.out,_,rfl⟩
  · go_wp2
    go_ret
    exact ⟨qad (qaG (fun i hi=>HZ.out i (by rw [HN.out] at hi;omega))).symm,m,rfl⟩
theorem qd1 {w:World} {v:Value} {ds:List ID} (h:qdJ w v ds):
 Calls Tryz.prog 73 #[v] w fun e w'=>e= .returned (.int .i64 (qaY ds))∧ ∃m,w'=w.drewN m:=by
 obtain ⟨a,cap,rfl,hm,hc⟩:=h.open'
 unfold qaY
 by_cases h:10<ds.length
 · rw [if_pos h]
   exact (qir w _ _ _ h).mono fun e w' ⟨h1,h2⟩=> ⟨h1,0,h2⟩
 · rw [if_neg h]
   exact qis w _ _ _ ds (by omega) rfl hc
end Go.Proofs.YthnmlipnoajmkaaGreatDoor

namespace Go.Proofs.YthnmlipnoajmkaaGreatDoor
open Go.RowKit
set_option maxRecDepth 100000

set_option maxHeartbeats 1600000 in
theorem qit (w:World) (a:Option Addr) (n c:Nat) (ds:List ID) (v:Int) (hn:n≤1048576) (hdn:ds.length=n) (hs: (isz ds).sum≤1048576) (hc:AtI w a n ds):
 Calls Tryz.prog 111 #[.slice a n c, .int .i64 v] w fun e w'=>e= .returned (.int .i64 ((cntB ds v:Nat):Int))∧ ∃m,w'=w.drewN m:=by
 have HC:Hid (AtI w a n ds):=hc
 have HN:Hid (ds.length=n):=hdn
 have HT:Hid (cntB ds v= (((ds.take n).flatMap fun d=>d.2.2.2.1)).count v):=by unfold Hid cntB qoh;rw [List.take_of_length_le (by omega)]
 have HS:Hid (∀j,(((ds.take j).flatMap fun d=>d.2.2.2.1)).count v≤1048576):=fun j=>by
  have h1:=qen (fun d:ID=>d.2.2.2.1) ds j
  have h2:=qft ds
  have h3:=List.count_le_length (a:=v) (l:= (ds.take j).flatMap fun d=>d.2.2.2.1)
  unfold qoh at h2
  omega
 have HX:Hid (∀j,j<n→ ((ds.take (j+1)).flatMap fun d=>d.2.2.2.1).count v= ((ds.take j).flatMap fun d=>d.2.2.2.1).count v+ ((ds[j]?.getD id0).2.2.2.1).count v):=fun j hj=>by
  rw [qem (fun d:ID=>d.2.2.2.1) ds id0 j (by omega),List.count_append]
 have HZ:Hid (∀j,(ds[j]?.getD id0).2.2.2.1.length≤1048576):=fun j=>by
  have:=qeg ds j
  have hd:sizeIno (ds[j]?.getD id0)= (ds[j]?.getD id0).2.2.2.1.length+qcH (ds[j]?.getD id0).2.2.2.2:=rfl
  omega
 rw [HT.out]
 clear hc hdn hs HT
 generalize hG: (fun j=> ((ds.take j).flatMap fun d=>d.2.2.2.1).count v)=G at*
 have HG:Hid (∀j,((ds.take j).flatMap fun d=>d.2.2.2.1).count v=G j):=fun j=>congrFun hG j
 simp only [HG.out] at HS HX ⊢
 have HG0:Hid (G 0=0):=by unfold Hid;rw [←HG.out 0];simp
 clear hG HG
 go_enter Tryz.func111,Tryz.ntmps111
 go_wp2
 go_loopw [5,6] (fun q i wr=> ∃j m:Nat,j≤n∧i= .int .i64 j∧q= .int .i64 ((G j:Nat):Int)∧wr=w.drewN m) (fun _ i _=>n- (intOf i).toNat)
 case atStart=>exact ⟨0,0,Nat.zero_le _,rfl,by rw [HG0.out];rfl,rfl⟩
 case round=>
  obtain ⟨j,m,hj,rfl,rfl,rfl⟩:=hrel
  by_cases hlt:j<n
  · obtain ⟨b,o,rfl,hI⟩:=HC.out j hlt
    obtain ⟨aB,cB,aE,cE,h0,h1,h2,h3,h4,h5⟩:=hI
    obtain ⟨_,_,e1,hm1,hc1⟩:=h5.2.1.open'
    simp only [Value.slice.injEq] at e1
    obtain ⟨rfl,_,rfl⟩:=e1
    have HXJ:=HX.out j hlt
    have HZJ:=HZ.out j
    have HSJ:=HS.out (j+1)
    have HXJ':Hid (G (j+1)=G j+ ((ds[j]?.getD id0).2.2.2.1).count v):=HXJ
    clear h0 h1 h2 h4 h5 HC
    generalize (ds[j]?.getD id0).2.2.2.1=bs at*
    have HCB:Hid (At1 w aB bs.length (fun k=> .int .i64 (bs[k]?.getD 0))):=hc1
    have HL:Hid (∃nB,nB=bs.length):= ⟨_,rfl⟩
    obtain ⟨nB,hnB⟩:=HL.out
    have HNB:Hid (nB=bs.length):=hnB
    rw [←hnB] at h3 hm1 HZJ
    have hle:G j+bs.count v≤1048576:=by omega
    clear hc1 HL hnB HXJ HSJ
    go_wp2
    go_loopw [5,7] (fun q i wr=> ∃k m2:Nat,k≤nB∧i= .int .i64 k∧q= .int .i64 (((G j+ (bs.take k).count v:Nat)):Int)∧wr=w.drewN m2) (fun _ i _=>nB- (intOf i).toNat)
    case atStart=>exact ⟨0,m,Nat.zero_le _,rfl,by simp,rfl⟩
    case round=>
     obtain ⟨k,m2,hk,rfl,rfl,rfl⟩:=hrel
     by_cases hlk:k<nB
     · obtain ⟨b1,o1,rfl,d1⟩:=HCB.out k (by rw [←HNB.out];exact hlk)
       replace d1:w.cell? ⟨b1,o1+k,none⟩=some (.int .i64 (bs[k]?.getD 0)):=d1
       have hcn:=qdz bs v k (by rw [←HNB.out];exact hlk)
       have HCN:Hid ((bs.take (k+1)).count v= (bs.take k).count v+ (if bs[k]?.getD 0=v then 1 else 0)):=hcn
       have hct: (bs.take k).count v≤bs.count v:=List.Sublist.count_le v (List.take_sublist k bs)
       generalize (bs.take k).count v=ck at*
       generalize bs[k]?.getD 0=x at*
       clear hcn HCB
       by_cases hxv:x=v
       · have hxb: (x==v)=true:=by simpa using hxv
         have HCN':Hid ((bs.take (k+1)).count v=ck+1):=by unfold Hid;rw [HCN.out,if_pos hxv]
         clear hxv HCN
         go_wp2
         go_roundw
         case rel=>exact ⟨k+1,_,by omega,by go_num,by rw [HCN'.out];go_num,rfl⟩
         case measure=>simp [intOf];omega
       · have hxb: (x==v)=false:=by simpa using hxv
         have HCN':Hid ((bs.take (k+1)).count v=ck):=by unfold Hid;rw [HCN.out,if_neg hxv,Nat.add_zero]
         clear hxv HCN
         go_wp2
         go_roundw
         case rel=>exact ⟨k+1,_,by omega,by go_num,by rw [HCN'.out],rfl⟩
         case measure=>simp [intOf];omega
     · have hkn:bs.take k=bs:=List.take_of_length_le (by rw [←HNB.out];omega)
       rw [hkn]
       clear hkn
       have HE:Hid (((G j+bs.count v:Nat):Int)= ((G (j+1):Nat):Int)):=by unfold Hid;rw [HXJ'.out]
       go_wp2
       go_roundw
       case rel=>exact ⟨j+1,_,by omega,by go_num,by rw [HE.out],rfl⟩
       case measure=>simp [intOf];omega
  · have HJ:Hid (G j=G n):=by unfold Hid;rw [show j=n by omega]
    go_wp2
    go_ret
    exact ⟨qad (by rw [HJ.out]),m,rfl⟩
end Go.Proofs.YthnmlipnoajmkaaGreatDoor

namespace Go.Proofs.YthnmlipnoajmkaaGreatDoor
open Go.RowKit
set_option maxRecDepth 100000

theorem qjS {w:World} {vv:Value} {ds:List ID} (h:qdJ w vv ds) (hs:qag ds≤1048576) (v:Int):
 Calls Tryz.prog 111 #[vv, .int .i64 v] w fun e w'=>e= .returned (.int .i64 ((cntB ds v:Nat):Int))∧ ∃m,w'=w.drewN m:=by
 obtain ⟨a,cap,rfl,hm,hc⟩:=h.open'
 unfold qag at hs
 exact qit w a _ cap ds v (by omega) rfl (by omega) hc

set_option maxHeartbeats 1600000 in
theorem qiu (w:World) (a:Option Addr) (n c:Nat) (zs:List Int) (v:Int) (hn:n≤maxLen) (hzn:zs.length=n) (hc:At1 w a n (fun k=> .int .i64 (zs[k]?.getD 0))):
 Calls Tryz.prog 77 #[.slice a n c, .int .i64 v] w fun e w'=>e= .returned (.bool (zs.contains v))∧ ∃m,w'=w.drewN m:=by
 unfold maxLen at hn
 have HC:Hid (At1 w a n (fun k=> .int .i64 (zs[k]?.getD 0))):=hc
 have HN:Hid (zs.length=n):=hzn
 clear hc hzn
 go_enter Tryz.func77,Tryz.ntmps77
 go_wp2
 go_loopw [5] (fun i wr=> ∃j m:Nat,j≤n∧i= .int .i64 j∧wr=w.drewN m∧ ∀i:Nat,i<j→ ¬zs[i]?.getD 0=v) (fun i _=>n- (intOf i).toNat)
 case atStart=>exact ⟨0,0,Nat.zero_le _,rfl,rfl,fun i hi=>by omega⟩
 case round=>
  obtain ⟨j,m,hj,rfl,rfl,hz⟩:=hrel
  have HZ:Hid (∀i:Nat,i<j→ ¬zs[i]?.getD 0=v):=hz
  clear hz
  by_cases hlt:j<n
  · obtain ⟨b,o,rfl,d1⟩:=HC.out j hlt
    replace d1:w.cell? ⟨b,o+j,none⟩=some (.int .i64 (zs[j]?.getD 0)):=d1
    by_cases hxv:zs[j]?.getD 0=v
    · have HR:Hid (zs.contains v=true):=by
       unfold Hid
       rw [List.contains_iff_mem,←hxv,List.getElem?_eq_getElem (by rw [HN.out];exact hlt)]
       simp
      have hxb: (zs[j]?.getD 0==v)=true:=by simpa using hxv
      clear hxv HC
      generalize zs[j]?.getD 0=x at*
      go_wp2
      go_ret
      exact ⟨qaB HR.out.symm,_,rfl⟩
    · have HR:Hid (∀i:Nat,i<j+1→ ¬zs[i]?.getD 0=v):=fun i hi=>by
       by_cases e:i=j
       · subst e;exact hxv
       · exact HZ.out i (by omega)
      have hxb: (zs[j]?.getD 0==v)=false:=by simpa using hxv
      clear hxv HC
      generalize zs[j]?.getD 0=x at*
      go_wp2
      go_roundw
      case rel=>exact ⟨j+1,_,by omega,by go_num,rfl,HR.out⟩
      case measure=>simp [intOf];omega
  · have HR:Hid (zs.contains v=false):=by
     unfold Hid
     rw [Bool.eq_false_iff]
     intro h
     rw [List.contains_iff_mem] at h
     obtain ⟨i,hi,he⟩:=List.getElem_of_mem h
     exact HZ.out i (by rw [HN.out] at hi;omega) (by rw [List.getElem?_eq_getElem hi];exact he)
    go_wp2
    go_ret
    exact ⟨qaB HR.out.symm,_,rfl⟩
theorem qjT {w:World} {vv:Value} {zs:List Int} (h:qb1 w vv zs) (v:Int):
 Calls Tryz.prog 77 #[vv, .int .i64 v] w fun e w'=>e= .returned (.bool (zs.contains v))∧ ∃m,w'=w.drewN m:=by
 obtain ⟨a,cap,rfl,hm,hc⟩:=h.open'
 exact qiu w a _ cap zs v hm rfl hc

end Go.Proofs.YthnmlipnoajmkaaGreatDoor

namespace Go.Proofs.YthnmlipnoajmkaaGreatDoor
open Go.RowKit
set_option maxRecDepth 100000

theorem Wds.lit0 (w:World):Wds (w.alloc (.cells #[] 2)) w.heap.size (.slice (Option.some ⟨w.heap.size,0,none⟩) 0 0) []:=Wds.lit w w.heap.size (Nat.le_refl _) [] #[] rfl 0 rfl (by omega)

set_option maxHeartbeats 3200000 in
theorem qlv {w:World} {v:Value} {ds:List ID} (h:qdJ w v ds) (hs:qag ds≤1048576):
 Calls Tryz.prog 74 #[v] w fun e w'=> ∃a c,e= .returned (.tuple #[.slice a (qbH (qdM ds) 20).length c, .bool (qb8 ds 20)])∧Below w.heap.size w w'∧Wds w' w.heap.size (.slice a (qbH (qdM ds) 20).length c) (qbH (qdM ds) 20):=by
 obtain ⟨a,cap,rfl,_⟩:=h.open'
 have HC:Hid (∀W,Below w.heap.size w W→ ∀j:Nat,Calls Tryz.prog 111 #[.slice a ds.length cap, .int .i64 (j:Int)] W fun e w'=>e= .returned (.int .i64 ((cntB ds (j:Int):Nat):Int))∧ ∃m,w'=W.drewN m):=fun W hW j=>qjS (h.later hW) hs (j:Int)
 have HCB:Hid (∀j:Int,cntB ds j≤1048576):=fun j=>by
  have h2:=qft ds
  have h3:=List.count_le_length (a:=j) (l:=qoh ds)
  unfold qag at hs
  unfold cntB
  omega
 have HY:Hid (∀j:Nat,0<cntB ds (j:Int)→qbH (qdM ds) (j+1)=qbH (qdM ds) j++ [(j:Int)]):=fun j hj=>qkK (by simpa [qdM] using hj)
 have HNO:Hid (∀j:Nat,¬0<cntB ds (j:Int)→qbH (qdM ds) (j+1)=qbH (qdM ds) j):=fun j hj=>qmN (by simpa [qdM] using hj)
 have HL:Hid (∀j,(qbH (qdM ds) j).length≤j):=fun j=>qeo _ _
 have HO:Hid (∀j,qb8 ds (j+1)= (qb8 ds j&&decide (cntB ds (j:Int)≤1))):=fun j=>qln ds j
 have HO0:Hid (qb8 ds 0=true):=rfl
 have HS0:Hid (qbH (qdM ds) 0= []):=rfl
 generalize qdM ds=p at*
 generalize qb8 ds=on at*
 generalize ds.length=n at*
 clear h hs
 go_enter Tryz.func74,Tryz.ntmps74
 go_wp2
 go_loopw [4,5,6] (fun o q i wr=> ∃ (j:Nat) (v:Value),j≤20∧i= .int .i64 j∧o=v∧q= .bool (on j)∧Below w.heap.size w wr∧Wds wr w.heap.size v (qbH p j)) (fun _ _ i _=>20- (intOf i).toNat)
 case atStart=>exact ⟨0,_,Nat.zero_le _,rfl,rfl,by rw [HO0.out],qab _ _,by rw [HS0.out];exact Wds.lit0 w⟩
 case round=>
  obtain ⟨j,v,hj,rfl,rfl,rfl,hbl,hwd⟩:=hrel
  obtain ⟨aV,cV,rfl⟩:=hwd.shape
  have HBL:Hid (Below w.heap.size w wr):=hbl
  have HWD:Hid (Wds wr w.heap.size (.slice aV (qbH p j).length cV) (qbH p j)):=hwd
  clear hbl hwd
  by_cases hlt:j<20
  · have HC':=HC.out wr HBL.out j
    have HCC:Hid (Calls Tryz.prog 111 #[.slice a n cap, .int .i64 (j:Int)] wr fun e w'=>e= .returned (.int .i64 ((cntB ds (j:Int):Nat):Int))∧ ∃m,w'=wr.drewN m):=HC'
    have hcb:=HCB.out (j:Int)
    have HOJ:=HO.out j
    have HY':=HY.out j
    have HN':=HNO.out j
    have hlj:=HL.out j
    clear HC'
    generalize cntB ds (j:Int)=cnt at*
    by_cases h0:0<cnt
    · have HYJ:Hid (qbH p (j+1)=qbH p j++ [(j:Int)]):=HY' h0
      have hd0:decide ((0:Int)< (cnt:Int))=true:=by simp;omega
      clear HY' HN'
      have HOJ':Hid (on (j+1)= (on j&&decide (cnt≤1))):=HOJ
      clear HOJ
      generalize on j=bo at*
      have tail: ∀ (b1:Bool),decide ((cnt:Int)≤1)=b1→Hid (on (j+1)= (bo&&b1)):=fun b1 hb=>by unfold Hid;rw [HOJ'.out,←hb];congr 1;rw [decide_eq_decide];omega
      cases hb1:decide ((cnt:Int)≤1) with
      | true=>
        have HF:Hid (on (j+1)= (bo&&true)):=tail true hb1
        clear tail HOJ'
        go_wp2_with fail
        refine HCC.out.mono ?_
        rintro e w1 ⟨rfl,m,rfl⟩
        obtain ⟨a',c',X,hr,hw,hb,_⟩:=qfK (wr.drewN m) w.heap.size _ (qbH p j) (j:Int) HWD.out HBL.out.size (by omega)
        have HR:Hid (_=_):=hr
        rw [←HYJ.out] at HR hw
        have HW:Hid (Wds X w.heap.size _ (qbH p (j+1))):=hw
        have HB:Hid (Below w.heap.size w X):= (below_drewN HBL.out m).trans hb
        clear hr hw hb
        cases bo
        all_goals
         go_wp2_with (at_builtin;refine qat rfl _ _ 64 rfl _ _ rfl rfl _ _ HR.out ?_)
         go_roundw
         case rel=>exact ⟨j+1,_,by omega,by go_num,rfl,by rw [HF.out];rfl,HB.out,HW.out⟩
         case measure=>simp [intOf];omega
      | false=>
        have HF:Hid (on (j+1)= (bo&&false)):=tail false hb1
        clear tail HOJ'
        go_wp2_with fail
        refine HCC.out.mono ?_
        rintro e w1 ⟨rfl,m,rfl⟩
        obtain ⟨a',c',X,hr,hw,hb,_⟩:=qfK (wr.drewN m) w.heap.size _ (qbH p j) (j:Int) HWD.out HBL.out.size (by omega)
        have HR:Hid (_=_):=hr
        rw [←HYJ.out] at HR hw
        have HW:Hid (Wds X w.heap.size _ (qbH p (j+1))):=hw
        have HB:Hid (Below w.heap.size w X):= (below_drewN HBL.out m).trans hb
        clear hr hw hb
        cases bo
        all_goals
         go_wp2_with (at_builtin;refine qat rfl _ _ 64 rfl _ _ rfl rfl _ _ HR.out ?_)
         go_roundw
         case rel=>exact ⟨j+1,_,by omega,by go_num,rfl,by rw [HF.out];rfl,HB.out,HW.out⟩
         case measure=>simp [intOf];omega
    · have HNJ:Hid (qbH p (j+1)=qbH p j):=HN' h0
      have hc0:cnt=0:=by omega
      subst hc0
      have HF:Hid (on (j+1)= (on j&&true)):=HOJ
      clear HY' HN' HOJ h0
      have HW:Hid (Wds wr w.heap.size (.slice aV (qbH p j).length cV) (qbH p (j+1))):=by unfold Hid;rw [HNJ.out];exact HWD.out
      generalize on j=bo at*
      cases bo
      all_goals
       go_wp2_with fail
       refine HCC.out.mono ?_
       rintro e w1 ⟨rfl,m,rfl⟩
       go_wp2
       go_roundw
       case rel=>exact ⟨j+1,_,by omega,by go_num,rfl,by rw [HF.out];rfl,below_drewN HBL.out m,HW.out⟩
       case measure=>simp [intOf];omega
  · have he:j=20:=by omega
    subst he
    clear hlt
    go_wp2
    go_ret2
    exact ⟨_,_,rfl,HBL.out,HWD.out⟩

end Go.Proofs.YthnmlipnoajmkaaGreatDoor

namespace Go.Proofs.YthnmlipnoajmkaaGreatDoor
open Go.RowKit
set_option maxRecDepth 100000

theorem qo0 (w W:World) (hW:Below w.heap.size w W) (z0 z1 z2:Int) (aB:Option Addr) (nB cB:Nat) (bs:List Int) (hn:nB≤1048576) (hbn:bs.length=nB) (hc:At1 w aB nB (fun k=> .int .i64 (bs[k]?.getD 0))):
 ∃v' X,(Builtin.append_ #[64,64] 64 #[.slice (some ⟨W.heap.size,0,none⟩) 3 3, .slice aB nB cB]).run Tryz.prog (W.alloc (.cells #[.int .i64 z0, .int .i64 z1, .int .i64 z2] 2))= .ok v' X∧Wds X w.heap.size v' ([z0,z1,z2]++bs)∧Below w.heap.size w X∧qcn W X:=by
 have hW1:Below w.heap.size w (W.alloc (.cells #[.int .i64 z0, .int .i64 z1, .int .i64 z2] 2)):=hW.trans ((qab _ _).mono hW.size)
 have hl:=Wds.lit W w.heap.size hW.size [z0,z1,z2] #[.int .i64 z0, .int .i64 z1, .int .i64 z2] rfl 3 rfl (by omega)
 obtain ⟨v',X,h1,h2,h3,h4⟩:=qeP _ w.heap.size _ [z0,z1,z2] bs aB nB cB hl hW1.size hbn (by simp) hn (fun k hk=>by
  obtain ⟨b,off,e,h⟩:=hc k hk
  exact ⟨b,off,e,cell_later hW1 h⟩) (hl.some (by simp))
 exact ⟨v',X,h1,h2,hW1.trans h3,(qcn.later (qab _ _)).trans h4⟩

end Go.Proofs.YthnmlipnoajmkaaGreatDoor

namespace Go.Proofs.YthnmlipnoajmkaaGreatDoor
open Go.RowKit
set_option maxRecDepth 100000

set_option maxHeartbeats 1600000 in
theorem qfM (w:World) (k l s:Int) (a:Option Addr) (n c:Nat) (vE:Value) (a':Option Addr) (n' c':Nat) (hv:vE= .slice a' n' c'):
 Calls Tryz.prog 170 #[.agg #[.int .i64 k, .int .i64 l, .int .i64 s, .slice a n c,vE]] w fun e w'=>e= .returned (.bool (decide (l≠0)||decide (s≠0)||decide (0<n)))∧Below w.heap.size w w':=by
 subst hv
 by_cases hl:l=0
 · subst hl
   by_cases hs:s=0
   · subst hs
     by_cases hn:0<n
     · have hn':decide ((0:Int)< (n:Int))=true:=by simp;omega
       rw [show (decide ((0:Int)≠0)||decide ((0:Int)≠0)||decide (0<n))=true by simp;omega]
       go_enter Tryz.func170,Tryz.ntmps170
       go_wp2
       go_ret
       exact ⟨rfl,qab _ _⟩
     · have hn':decide ((0:Int)< (n:Int))=false:=by simp;omega
       rw [show (decide ((0:Int)≠0)||decide ((0:Int)≠0)||decide (0<n))=false by simp;omega]
       go_enter Tryz.func170,Tryz.ntmps170
       go_wp2
       go_ret
       exact ⟨rfl,qab _ _⟩
   · have hs': (s !=0)=true:=by simpa using hs
     rw [show (decide ((0:Int)≠0)||decide (s≠0)||decide (0<n))=true by simp [hs]]
     go_enter Tryz.func170,Tryz.ntmps170
     go_wp2
     go_ret
     exact ⟨rfl,qab _ _⟩
 · have hl': (l !=0)=true:=by simpa using hl
   rw [show (decide (l≠0)||decide (s≠0)||decide (0<n))=true by simp [hl]]
   go_enter Tryz.func170,Tryz.ntmps170
   go_wp2
   go_ret
   exact ⟨rfl,qab _ _⟩
theorem qdB (w:World) (k l s:Int) (a:Option Addr) (n c:Nat) (a':Option Addr) (n' c':Nat):
 Calls Tryz.prog 60 #[.agg #[.int .i64 k, .int .i64 l, .int .i64 s, .slice a n c, .slice a' n' c']] w fun e w'=>e= .returned (.bool (decide (0<n')))∧Below w.heap.size w w':=by
 by_cases hn:0<n'
 · have hn':decide ((0:Int)< (n':Int))=true:=by simp;omega
   rw [show decide (0<n')=true by simpa using hn]
   go_enter Tryz.func60,Tryz.ntmps60
   go_wp2
   go_ret
   exact ⟨rfl,qab _ _⟩
 · have hn':decide ((0:Int)< (n':Int))=false:=by simp;omega
   rw [show decide (0<n')=false by simpa using hn]
   go_enter Tryz.func60,Tryz.ntmps60
   go_wp2
   go_ret
   exact ⟨rfl,qab _ _⟩

def ql0 (bs:List Int) (n:Nat) (x:Int):Bool:= (List.range n).any fun k=>bs[k]?.getD 0==x
theorem qok {bs:List Int} {n k:Nat} {x:Int} (hk:k<n) (e:bs[k]?.getD 0=x):ql0 bs n x=true:=by
 unfold ql0;rw [List.any_eq_true];exact ⟨k,by simpa using hk,by simp [e]⟩
theorem qpE {bs:List Int} {n:Nat} {x:Int} (h: ∀k,k<n→ ¬bs[k]?.getD 0=x):ql0 bs n x=false:=by
 unfold ql0;rw [List.any_eq_false];intro k hk;simp at hk;simp [h k hk]

set_option maxHeartbeats 1600000 in
theorem qlw (w:World) (a:Option Addr) (n c:Nat) (bs:List Int) (x:Int) (hn:n≤1048576) (hc:At1 w a n (fun k=> .int .i64 (bs[k]?.getD 0))):
 Calls Tryz.prog 178 #[.slice a n c, .int .i64 x] w fun e w'=> ∃r:Int,e= .returned (.int .i64 r)∧decide (0≤r)=ql0 bs n x∧ ∃m,w'=w.drewN m:=by
 have HC:Hid (At1 w a n (fun k=> .int .i64 (bs[k]?.getD 0))):=hc
 clear hc
 go_enter Tryz.func178,Tryz.ntmps178
 go_wp2
 go_loopw [8] (fun i wr=> ∃j m:Nat,j≤n∧i= .int .i64 j∧wr=w.drewN m∧ ∀i:Nat,i<j→ ¬bs[i]?.getD 0=x) (fun i _=>n- (intOf i).toNat)
 case atStart=>exact ⟨0,0,Nat.zero_le _,rfl,rfl,fun i hi=>by omega⟩
 case round=>
  obtain ⟨j,m,hj,rfl,rfl,hall⟩:=hrel
  have HA:Hid (∀i:Nat,i<j→ ¬bs[i]?.getD 0=x):=hall
  clear hall
  by_cases hlt:j<n
  · obtain ⟨b1,off,rfl,e1⟩:=HC.out j hlt
    dsimp only at e1
    by_cases he:bs[j]?.getD 0=x
    · have HH:Hid (ql0 bs n x=true):=qok hlt he
      rw [he] at e1
      clear he
      go_wp2
      go_ret
      exact ⟨(j:Int),rfl,by rw [HH.out];simp,m,rfl⟩
    · have HNE:Hid (∀i:Nat,i<j+1→ ¬bs[i]?.getD 0=x):=fun i hi=>by
       by_cases e:i=j
       · rw [e];exact he
       · exact HA.out i (by omega)
      have he': (x==bs[j]?.getD 0)=false:=by simp;exact fun h=>he h.symm
      have he2: (x=bs[j]?.getD 0)=False:=by simp;exact fun h=>he h.symm
      clear he
      generalize bs[j]?.getD 0=y at*
      go_wp2
      go_roundw
      case rel=>exact ⟨j+1,m,by omega,by go_num,rfl,HNE.out⟩
      case measure=>simp [intOf];omega
  · have HH:Hid (ql0 bs n x=false):=qpE fun k hk=>HA.out k (by omega)
    go_wp2
    go_ret
    exact ⟨-1,rfl,by rw [HH.out];rfl,m,rfl⟩

set_option maxHeartbeats 1600000 in
theorem qhk (w:World) (a:Option Addr) (n c:Nat) (bs:List Int) (x:Int) (hn:n≤1048576) (hc:At1 w a n (fun k=> .int .i64 (bs[k]?.getD 0))):
 Calls Tryz.prog 176 #[.slice a n c, .int .i64 x] w fun e w'=>e= .returned (.bool (ql0 bs n x))∧ ∃m,w'=w.drewN m:=by
 have HC:Hid (At1 w a n (fun k=> .int .i64 (bs[k]?.getD 0))):=hc
 clear hc
 go_enter Tryz.func176,Tryz.ntmps176
 go_wp2_with fail
 refine (qlw _ a n c bs x hn HC.out).mono ?_
 rintro e w1 ⟨r,rfl,hr,m,rfl⟩
 have HR:Hid (decide (0≤r)=ql0 bs n x):=hr
 clear hr
 go_wp2
 go_ret
 exact ⟨by rw [←HR.out];rfl,m,rfl⟩

set_option maxHeartbeats 3200000 in
theorem qfN (w:World) (a:Option Addr) (n c:Nat) (bs:List Int) (hn:n≤1048576) (hcap:n≤c) (hbn:bs.length=n) (hc:At1 w a n (fun k=> .int .i64 (bs[k]?.getD 0))):
 Calls Tryz.prog 172 #[.slice a n c] w fun e w'=>e= .returned (.int .i64 (qgn bs))∧ ∃m,w'=w.drewN m:=by
 have HC:Hid (At1 w a n (fun k=> .int .i64 (bs[k]?.getD 0))):=hc
 have HN:Hid (bs.length=n):=hbn
 clear hc hbn
 go_enter Tryz.func172,Tryz.ntmps172
 go_wp2
 go_loopw [9] (fun i wr=> ∃j m:Nat,j≤n∧i= .int .i64 j∧wr=w.drewN m∧ ∀i:Nat,i<j→qil bs i=0) (fun i _=>n- (intOf i).toNat)
 case atStart=>exact ⟨0,0,Nat.zero_le _,rfl,rfl,fun i hi=>by omega⟩
 case round=>
  obtain ⟨j,m,hj,rfl,rfl,hall⟩:=hrel
  have HA:Hid (∀i:Nat,i<j→qil bs i=0):=hall
  clear hall
  by_cases hlt:j<n
  · obtain ⟨b1,off,rfl,e1⟩:=HC.out j hlt
    dsimp only at e1
    have HRF:Hid (qil bs j=if 0≤bs[j]?.getD 0∧bs[j]?.getD 0≤19 then 0 else 3):=rfl
    generalize bs[j]?.getD 0=x at*
    have HB3:Hid (qil bs j=3→qgn bs=3):=fun h=>by
     have h3:qaJ (qil bs) bs.length=3:=by rw [qbx HA.out (by rw [h];decide) (by rw [HN.out];exact hlt),h]
     unfold qgn;rw [h3];rfl
    by_cases h0:x<0
    · have HZ:Hid (qgn bs=3):=HB3.out (by rw [HRF.out,if_neg (by omega)])
      go_wp2
      go_ret
      exact ⟨qad HZ.out.symm,m,rfl⟩
    · by_cases h1:20≤x
      · have HZ:Hid (qgn bs=3):=HB3.out (by rw [HRF.out,if_neg (by omega)])
        go_wp2
        go_ret
        exact ⟨qad HZ.out.symm,m,rfl⟩
      · have HZ:Hid (qil bs j=0):=by unfold Hid;rw [HRF.out,if_pos (by omega)]
        go_wp2
        go_roundw
        case rel=>
         refine ⟨j+1,m,by omega,by go_num,rfl,fun i hi=> ?_⟩
         by_cases e:i=j
         · subst e;exact HZ.out
         · exact HA.out i (by omega)
        case measure=>simp [intOf];omega
  · have HB :Hid (qgn bs=qaJ (qkI bs) bs.length):=by
     unfold Hid qgn;rw [if_pos (qaG fun i hi=>HA.out i (by rw [HN.out] at hi;omega))]
    clear HA
    go_wp2
    go_loopw [22] (fun i wr=> ∃j m:Nat,j≤n∧i= .int .i64 j∧wr=w.drewN m∧ ∀i:Nat,i<j→qkI bs i=0) (fun i _=>n- (intOf i).toNat)
    case atStart=>exact ⟨0,m,Nat.zero_le _,rfl,rfl,fun i hi=>by omega⟩
    case round=>
     obtain ⟨j2,m2,hj2,rfl,rfl,hall⟩:=hrel
     have HA:Hid (∀i:Nat,i<j2→qkI bs i=0):=hall
     clear hall
     by_cases hlt2:j2<n
     · obtain ⟨b1,off,rfl,e1⟩:=HC.out j2 hlt2
       dsimp only at e1
       have HD:Hid (qkI bs j2=if ql0 bs j2 (bs[j2]?.getD 0) then 7 else 0):=rfl
       have HCN:Hid (∀W:World,At1 W (some ⟨b1,off,none⟩) j2 (fun k=> .int .i64 (bs[k]?.getD 0))→ ∀cc,Calls Tryz.prog 176 #[.slice (some ⟨b1,off,none⟩) j2 cc, .int .i64 (bs[j2]?.getD 0)] W fun e w'=>e= .returned (.bool (ql0 bs j2 (bs[j2]?.getD 0)))∧ ∃m,w'=W.drewN m):=fun W hW cc=>qhk W _ j2 cc bs _ (by omega) hW
       have HAT:Hid (At1 w (some ⟨b1,off,none⟩) j2 (fun k=> .int .i64 (bs[k]?.getD 0))):=fun k hk=>HC.out k (by omega)
       generalize ql0 bs j2 (bs[j2]?.getD 0)=hh at*
       generalize bs[j2]?.getD 0=x at*
       have hj2c:j2≤c:=by omega
       cases hh
       · have HZ:Hid (∀i:Nat,i<j2+1→qkI bs i=0):=fun i hi=>by
          by_cases e:i=j2
          · rw [e,HD.out];rfl
          · exact HA.out i (by omega)
         go_wp2_with fail
         refine (HCN.out (w.drewN m2) HAT.out _).mono ?_
         rintro e w2 ⟨rfl,m3,rfl⟩
         go_wp2
         go_roundw
         case rel=>exact ⟨j2+1,_,by omega,by go_num,by first|rfl|rw [World.drewN_drewN],HZ.out⟩
         case measure=>simp [intOf];omega
       · have HZ:Hid (qgn bs=7):=by
          have h7:qkI bs j2=7:=by rw [HD.out];rfl
          unfold Hid;rw [HB.out,qbx HA.out (by rw [h7];decide) (by rw [HN.out];exact hlt2),h7]
         go_wp2_with fail
         refine (HCN.out (w.drewN m2) HAT.out _).mono ?_
         rintro e w2 ⟨rfl,m3,rfl⟩
         go_wp2
         go_ret
         exact ⟨qad HZ.out.symm,_,by first|rfl|rw [World.drewN_drewN]⟩
     · have HZ:Hid (qgn bs=0):=by unfold Hid;rw [HB.out,qaG fun i hi=>HA.out i (by rw [HN.out] at hi;omega)]
       go_wp2
       go_ret
       exact ⟨qad HZ.out.symm,m2,rfl⟩
end Go.Proofs.YthnmlipnoajmkaaGreatDoor

namespace Go.Proofs.YthnmlipnoajmkaaGreatDoor
open Go.RowKit
set_option maxRecDepth 100000

set_option maxHeartbeats 1600000 in
theorem qhl (w:World) (k l s:Int) (a:Option Addr) (n c:Nat) (a':Option Addr) (n' c':Nat):
 Calls Tryz.prog 157 #[.agg #[.int .i64 k, .int .i64 l, .int .i64 s, .slice a n c, .slice a' n' c']] w fun e w'=>e= .returned (.int .i64 (if (decide (l≠0)||decide (s≠0)||decide (0<n))||decide (0<n') then 1 else 0))∧Below w.heap.size w w':=by
 have HF:=fun W=>qfM W k l s a n c (.slice a' n' c') a' n' c' rfl
 have HD:=fun W=>qdB W k l s a n c a' n' c'
 generalize (decide (l≠0)||decide (s≠0)||decide (0<n))=f at*
 generalize decide (0<n')=g at*
 have HHF:Hid (∀W:World,_):=HF
 have HHD:Hid (∀W:World,_):=HD
 clear HF HD
 cases f
 · have HG:Hid ((if (false||g)=true then (1:Int) else 0)=if g=true then 1 else 0):=by unfold Hid;cases g<;>rfl
   rw [HG.out]
   go_enter Tryz.func157,Tryz.ntmps157
   go_wp2_with fail
   refine (HHF.out _).mono ?_
   rintro e w1 ⟨rfl,hb1⟩
   have HB1:Hid (Below w.heap.size w w1):= (qab _ _).trans (hb1.mono (by simp))
   have hx:Bx w1 w.heap.size [.int .i64 k, .int .i64 l, .int .i64 s, .slice a n c, .slice a' n' c']:= (Bx.new w _ _).later hb1
   have c0:=hx 0 _ rfl
   have c1:=hx 1 _ rfl
   have c2:=hx 2 _ rfl
   have c3:=hx 3 _ rfl
   have c4:=hx 4 _ rfl
   clear hb1 hx
   go_wp2_with fail
   refine (HHD.out _).mono ?_
   rintro e w2 ⟨rfl,hb2⟩
   have HB2:Hid (Below w.heap.size w w2):=HB1.out.trans (hb2.mono HB1.out.size)
   clear hb2 c0 c1 c2 c3 c4
   cases g
   · go_wp2
     go_ret
     exact ⟨rfl,HB2.out⟩
   · go_wp2
     go_ret
     exact ⟨rfl,HB2.out⟩
 · go_enter Tryz.func157,Tryz.ntmps157
   go_wp2_with fail
   refine (HHF.out _).mono ?_
   rintro e w1 ⟨rfl,hb1⟩
   have HB1:Hid (Below w.heap.size w w1):= (qab _ _).trans (hb1.mono (by simp))
   clear hb1
   go_wp2
   go_ret
   exact ⟨rfl,HB1.out⟩

set_option maxHeartbeats 3200000 in
theorem qhm (w:World) (k l s:Int) (a:Option Addr) (n c:Nat) (a':Option Addr) (n' c':Nat) (bs:List Int) (hn:n≤1048576) (hcap:n≤c) (hbn:bs.length=n) (hc:At1 w a n (fun k=> .int .i64 (bs[k]?.getD 0))):
 Calls Tryz.prog 158 #[.agg #[.int .i64 k, .int .i64 l, .int .i64 s, .slice a n c, .slice a' n' c']] w fun e w'=>e= .returned (.int .i64 (if decide (0<n') then 1 else qcK l s bs))∧Below w.heap.size w w':=by
 have HD:=fun W=>qdB W k l s a n c a' n' c'
 generalize decide (0<n')=g at*
 have HHD:Hid (∀W:World,_):=HD
 have HC:Hid (At1 w a n (fun k=> .int .i64 (bs[k]?.getD 0))):=hc
 have HN:Hid (bs.length=n):=hbn
 clear HD hc hbn
 cases g
 rotate_left
 · go_enter Tryz.func158,Tryz.ntmps158
   go_wp2_with fail
   refine (HHD.out _).mono ?_
   rintro e w1 ⟨rfl,hb1⟩
   have HB1:Hid (Below w.heap.size w w1):= (qab _ _).trans (hb1.mono (by simp))
   clear hb1
   go_wp2
   go_ret
   exact ⟨rfl,HB1.out⟩
 · have HFF:Hid (qcK l s bs=if qeO l=true∧qcJ s=true then (if (n:Int)= (s+7)/8 then qgn bs else 1) else 3):=by unfold Hid qcK;rw [HN.out]
   have HBF:Hid (qof s=if qcJ s then (0,(s+7)/8) else (3,0)):=rfl
   have HLK:Hid (qeO l=decide (1≤l∧l≤60)):=rfl
   go_enter Tryz.func158,Tryz.ntmps158
   go_wp2_with fail
   refine (HHD.out _).mono ?_
   rintro e w1 ⟨rfl,hb1⟩
   have HB1:Hid (Below w.heap.size w w1):= (qab _ _).trans (hb1.mono (by simp))
   have hx:Bx w1 w.heap.size [.int .i64 k, .int .i64 l, .int .i64 s, .slice a n c, .slice a' n' c']:= (Bx.new w _ _).later hb1
   have HX1:Hid (Bx w1 w.heap.size [.int .i64 k, .int .i64 l, .int .i64 s, .slice a n c, .slice a' n' c']):=hx
   have c2:=hx 2 _ rfl
   clear hb1 hx
   go_wp2_with fail
   refine (qip _ s).mono ?_
   rw [HBF.out]
   rintro e w2 ⟨rfl,hb2⟩
   have HB2:Hid (Below w.heap.size w w2):=HB1.out.trans (hb2.mono HB1.out.size)
   have hx:Bx w2 w.heap.size [.int .i64 k, .int .i64 l, .int .i64 s, .slice a n c, .slice a' n' c']:=HX1.out.later hb2
   have c1:=hx 1 _ rfl
   have c3:=hx 3 _ rfl
   have hlt:=hx.lt
   clear hb2 hx c2 HX1 HB1
   by_cases hl1:l<1
   · have HR:Hid (qcK l s bs=3):=by unfold Hid;rw [HFF.out,if_neg];intro h;have:=h.1;rw [HLK.out] at this;simp at this;omega
     go_wp2
     all_goals
      go_ret
      exact ⟨qad HR.out.symm,HB2.out.trans ((qab _ _).mono HB2.out.size)⟩
   · by_cases hl2:60<l
     · have HR:Hid (qcK l s bs=3):=by unfold Hid;rw [HFF.out,if_neg];intro h;have:=h.1;rw [HLK.out] at this;simp at this;omega
       go_wp2
       all_goals
        go_ret
        exact ⟨qad HR.out.symm,HB2.out.trans ((qab _ _).mono HB2.out.size)⟩
     · have hlk:qeO l=true:=by rw [HLK.out];simp;omega
       cases hsz:qcJ s
       · have HR:Hid (qcK l s bs=3):=by unfold Hid;rw [HFF.out,if_neg];intro h;rw [hsz] at h;exact absurd h.2 (by decide)
         clear hsz hlk
         go_wp2
         go_ret
         exact ⟨qad HR.out.symm,HB2.out.trans ((qab _ _).mono HB2.out.size)⟩
       · by_cases hlen: (n:Int)= (s+7)/8
         · have HR:Hid (qcK l s bs=qgn bs):=by unfold Hid;rw [HFF.out,if_pos ⟨hlk,hsz⟩,if_pos hlen]
           have HBK:Hid (∀W,Below w.heap.size w W→Calls Tryz.prog 172 #[.slice a n c] W fun e w'=>e= .returned (.int .i64 (qgn bs))∧ ∃m,w'=W.drewN m):=fun W hW=>qfN W a n c bs hn hcap HN.out (fun k hk=>by
            obtain ⟨b,off,e,h⟩:=HC.out k hk
            exact ⟨b,off,e,cell_later hW h⟩)
           have hnn: ((n:Int) != (n:Int))=false:=by simp
           have HLE:Hid ((n:Int)= (s+7)/8):=hlen
           rw [←hlen]
           clear hsz hlk hlen
           go_wp2_with fail
           refine (HBK.out _ (HB2.out.trans ((qab _ _).mono HB2.out.size))).mono ?_
           rintro e w3 ⟨rfl,m,rfl⟩
           go_wp2
           go_ret
           exact ⟨qad HR.out.symm,below_drewN (HB2.out.trans ((qab _ _).mono HB2.out.size)) m⟩
         · have HR:Hid (qcK l s bs=1):=by unfold Hid;rw [HFF.out,if_pos ⟨hlk,hsz⟩,if_neg hlen]
           have hne: ((n:Int) != (s+7)/8)=true:=by simpa using hlen
           clear hsz hlk hlen
           generalize (s+7)/8=q at*
           go_wp2
           go_ret
           exact ⟨qad HR.out.symm,HB2.out.trans ((qab _ _).mono HB2.out.size)⟩
end Go.Proofs.YthnmlipnoajmkaaGreatDoor
