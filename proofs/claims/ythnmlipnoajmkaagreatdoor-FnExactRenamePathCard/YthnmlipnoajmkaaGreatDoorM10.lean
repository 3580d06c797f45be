/- The program's InodeFault. PackInode,both sides. The specification's UsedBlocks,FreeBlocks,PickBlocks and FreeInode. The specification's PickBlocks. The specification's copying of an inode and of a file system. The walks of the program's rack of bytes:lists of bytes that are copied and set one by one. -/
import Derived.Test.YthnmlipnoajmkaaGreatDoorM09
import Derived.Test.YthnmlipnoajmkaaGreatDoorM07
import Derived.Test.YthnmlipnoajmkaaGreatDoorM08
import Derived.Test.YthnmlipnoajmkaaGreatDoorM06
import Derived.Test.YthnmlipnoajmkaaGreatDoorM01
import Derived.Deep.RegionWith
import Derived.Deep.RegionLaw
namespace Go.Proofs.YthnmlipnoajmkaaGreatDoor
open Go.RowKit
set_option maxRecDepth 100000

set_option maxHeartbeats 6400000 in
theorem qiv (w : World) (k l s:Int) (a:Option Addr) (n c:Nat) (a':Option Addr) (n' c':Nat) (es:List EN) (hen:es.length=n') (_hm:n'≤maxLen) (hz: ∀k:Nat,(es[k]?.getD en0).1.size≤maxLen) (hc:AtN w a' n' es):
 Calls Tryz.prog 159 #[.agg #[.int .i64 k, .int .i64 l, .int .i64 s, .slice a n c, .slice a' n' c']] w fun e w'=>e= .returned (.int .i64 (if decide (l≠0)||decide (s≠0)||decide (0<n) then 1 else qel es))∧Below w.heap.size w w':=by
 have HF:=fun W=>qfM W k l s a n c (.slice a' n' c') a' n' c' rfl
 generalize (decide (l≠0)||decide (s≠0)||decide (0<n))=f at*
 have HHF:Hid (∀W:World,_):=HF
 have HC:Hid (AtN w a' n' es):=hc
 have HZ:Hid (∀k:Nat,(es[k]?.getD en0).1.size≤maxLen):=hz
 have HN:Hid (es.length=n'):=hen
 clear HF hc hz hen
 cases f
 rotate_left
 · go_enter Tryz.func159,Tryz.ntmps159
   go_wp2_with fail
   refine (HHF.out _).mono ?_
   rintro e w1 ⟨rfl,hb1⟩
   have HB1:Hid (Below w.heap.size w w1):= (qab _ _).trans (hb1.mono (by simp))
   clear hb1
   go_wp2
   go_ret
   exact ⟨rfl,HB1.out⟩
 · have HDF : Hid (qel es=if 6<n' then 2 else qaJ (qdy es) es.length):=by unfold Hid qel;rw [HN.out]
   go_enter Tryz.func159,Tryz.ntmps159
   go_wp2_with fail
   refine (HHF.out _).mono ?_
   rintro e w1 ⟨rfl,hb1⟩
   have HB1:Hid (Below w.heap.size w w1):= (qab _ _).trans (hb1.mono (by simp))
   have hx:Bx w1 w.heap.size [.int .i64 k, .int .i64 l, .int .i64 s, .slice a n c, .slice a' n' c']:= (Bx.new w _ _).later hb1
   have c4:=hx 4 _ rfl
   have HX1:Hid (Bx w1 w.heap.size [.int .i64 k, .int .i64 l, .int .i64 s, .slice a n c, .slice a' n' c']):=hx
   have hlt1:=hx.lt
   clear hb1 hx
   by_cases h6:6<n'
   · have h6':decide ((6:Int)< (n':Int))=true:=by simp;omega
     have HR:Hid (qel es=2):=by unfold Hid;rw [HDF.out,if_pos h6]
     go_wp2
     go_ret
     exact ⟨qad HR.out.symm,HB1.out⟩
   · have h6':decide ((6:Int)< (n':Int))=false:=by simp;omega
     have HR:Hid (qel es=qaJ (qdy es) es.length):=by unfold Hid;rw [HDF.out,if_neg h6]
     go_wp2
     go_loopw [15] (fun i wr=> ∃j:Nat,j≤n'∧i= .int .i64 j∧Below w1.heap.size w1 wr∧ ∀i:Nat,i<j→qdy es i=0) (fun i _=>n'- (intOf i).toNat)
     case atStart=>exact ⟨0,Nat.zero_le _,rfl,Below.refl _ _,fun i hi=>by omega⟩
     case round=>
      obtain ⟨j,hj,rfl,hbl,hall⟩:=hrel
      have HA:Hid (∀i:Nat,i<j→qdy es i=0):=hall
      have HBL:Hid (Below w1.heap.size w1 wr):=hbl
      have HBW:Hid (Below w.heap.size w wr):=HB1.out.trans (hbl.mono HB1.out.size)
      have HBN:Hid (∀o:Obj,Below w1.heap.size w1 (wr.alloc o)):=fun o=>hbl.trans ((qab _ _).mono hbl.size)
      have HBO:Hid (∀o:Obj,Below w.heap.size w (wr.alloc o)):=fun o=>HBW.out.trans ((qab _ _).mono HBW.out.size)
      have c4':=cell_later hbl c4
      have hlw:w.heap.size<wr.heap.size:=Nat.lt_of_lt_of_le hlt1 hbl.size
      clear hall hbl
      by_cases hlt:j<n'
      · obtain ⟨b1, off,rfl,e0,e1⟩:=HC.out j hlt
        have hb1l:b1<wr.heap.size:=Nat.lt_of_lt_of_le (World.block_lt_of_cell? _ _ e0) HBW.out.size
        replace e0:=cell_later HBW.out e0
        replace e1:=cell_later HBW.out e1
        have HSZ:Hid ((es[j]?.getD en0).1.size≤maxLen):=HZ.out j
        have HE:Hid (¬qdy es j=0→qel es=qdy es j):=fun h=>HR.out.trans (qbx HA.out h (by rw [HN.out];exact hlt))
        by_cases hnm:qal (es[j]?.getD en0).1=0
        rotate_left
        · have HF:Hid (qel es=qal (es[j]?.getD en0).1):=by unfold Hid;rw [HE.out (by rw [qeq hnm];exact hnm),qeq hnm]
          have HNM:Hid (¬qal (es[j]?.getD en0).1=0):=hnm
          clear hnm HE HA
          generalize (es[j]?.getD en0).1=x at*
          generalize (es[j]?.getD en0).2=y at*
          go_wp2_with fail
          refine (qaZ _ x HSZ.out).mono ?_
          generalize qal x=q at*
          have hq: (q=0)=False:=by simpa using HNM.out
          have hq2: (q==0)=false:=by simpa using HNM.out
          rintro e w2 ⟨rfl,rfl⟩
          go_wp2
          go_ret
          exact ⟨qad HF.out.symm,HBO.out _⟩
        · have HNM:Hid (qal (es[j]?.getD en0).1=0):=hnm
          by_cases hy0: (es[j]?.getD en0).2<0
          · have HF:Hid (qel es=3):=by unfold Hid;rw [HE.out (by rw [qdA hnm (by omega)];decide),qdA hnm (by omega)]
            clear hnm HE HA
            generalize (es[j]?.getD en0).1=x at*
            generalize (es[j]?.getD en0).2=y at*
            go_wp2_with fail
            refine (qaZ _ x HSZ.out).mono ?_
            rw [HNM.out]
            rintro e w2 ⟨rfl,rfl⟩
            go_wp2
            go_ret
            exact ⟨qad HF.out.symm,HBO.out _⟩
          · by_cases hy9:10≤ (es[j]?.getD en0).2
            · have HF:Hid (qel es=3):=by unfold Hid;rw [HE.out (by rw [qdA hnm (by omega)];decide),qdA hnm (by omega)]
              clear hnm HE HA
              generalize (es[j]?.getD en0).1=x at*
              generalize (es[j]?.getD en0).2=y at*
              go_wp2_with fail
              refine (qaZ _ x HSZ.out).mono ?_
              rw [HNM.out]
              rintro e w2 ⟨rfl,rfl⟩
              go_wp2
              go_ret
              exact ⟨qad HF.out.symm,HBO.out _⟩
            · have hr:0≤ (es[j]?.getD en0).2∧ (es[j]?.getD en0).2≤9:=by omega
              by_cases h0:j=0
              · have HNX:Hid (∀i:Nat,i<j+1→qdy es i=0):=fun i hi=>by
                 have:i=j:=by omega
                 rw [this];exact qhj hnm hr (by omega)
                clear hnm HE HA hr
                generalize (es[j]?.getD en0).1=x at*
                generalize (es[j]?.getD en0).2=y at*
                subst h0
                simp only [Nat.zero_mul,Nat.add_zero] at e0 e1
                go_wp2_with fail
                refine (qaZ _ x HSZ.out).mono ?_
                rw [HNM.out]
                rintro e w2 ⟨rfl,rfl⟩
                go_wp2_with fail
                go_quiet (fail)
                go_wp2
                go_roundw
                case rel=>exact ⟨1,by omega,by go_num,below_drewN (HBN.out _) nq,HNX.out⟩
                case measure=>simp [intOf];omega
              · obtain ⟨i,hi⟩: ∃i,j=i+1:= ⟨j-1,by omega⟩
                obtain ⟨b2,off2,h12,e2,_⟩:=HC.out i (by omega)
                simp only [Option.some.injEq,Addr.mk.injEq,and_true] at h12
                obtain ⟨rfl,rfl⟩:=h12
                replace e2:=cell_later HBW.out e2
                have hji:j-1=i:=by omega
                by_cases hle:qdZ (es[j]?.getD en0).1 (es[i]?.getD en0).1=true
                · have HF:Hid (qel es=1):=by unfold Hid;rw [HE.out (by rw [qer hnm hr (by omega) (by rw [hji];exact hle)];decide),qer hnm hr (by omega) (by rw [hji];exact hle)]
                  have hle2:=hle
                  unfold qdZ at hle2
                  clear hnm HE HA hr hle
                  subst hi
                  generalize (es[i+1]?.getD en0).1=x at*
                  generalize (es[i+1]?.getD en0).2=y at*
                  generalize (es[i]?.getD en0).1=x2 at*
                  have hpos: (0:Int)< ((i+1:Nat):Int):=by omega
                  go_wp2_with fail
                  refine (qaZ _ x HSZ.out).mono ?_
                  rw [HNM.out]
                  rintro e w2 ⟨rfl,rfl⟩
                  go_wp2_with fail
                  go_quiet (fail)
                  go_wp2
                  go_ret
                  exact ⟨qad HF.out.symm,below_drewN (HBO.out _) nq⟩
                · have HNX:Hid (∀q:Nat,q<j+1→qdy es q=0):=fun q hq=>by
                   by_cases e:q=j
                   · rw [e];exact qhj hnm hr (by rw [hji];exact fun h=>hle h.2)
                   · exact HA.out q (by omega)
                  have hle2:qdZ (es[j]?.getD en0).1 (es[i]?.getD en0).1=false:=by simpa using hle
                  unfold qdZ at hle2
                  clear hnm HE HA hr hle
                  subst hi
                  generalize (es[i+1]?.getD en0).1=x at*
                  generalize (es[i+1]?.getD en0).2=y at*
                  generalize (es[i]?.getD en0).1=x2 at*
                  have hpos: (0:Int)< ((i+1:Nat):Int):=by omega
                  go_wp2_with fail
                  refine (qaZ _ x HSZ.out).mono ?_
                  rw [HNM.out]
                  rintro e w2 ⟨rfl,rfl⟩
                  go_wp2_with fail
                  go_quiet (fail)
                  go_wp2
                  go_roundw
                  case rel=>exact ⟨i+1+1,by omega,by go_num,below_drewN (HBN.out _) nq,HNX.out⟩
                  case measure=>simp [intOf];omega
      · have HF:Hid (qel es=0):=by unfold Hid;rw [HR.out,qaG fun i hi=>HA.out i (by rw [HN.out] at hi;omega)]
        go_wp2
        go_ret
        exact ⟨qad HF.out.symm,HBW.out⟩

set_option maxHeartbeats 3200000 in
theorem qol (w:World) (z0 z1 z2:Int) (aB:Option Addr) (nB cB:Nat) (aE:Option Addr) (nE cE:Nat) (d:ID) (h:qfs w (.int .i64 z0) (.int .i64 z1) (.int .i64 z2) (.slice aB nB cB) (.slice aE nE cE) d) (hs:sizeIno d≤1048576):
 Calls Tryz.prog 139 #[.agg #[.int .i64 z0, .int .i64 z1, .int .i64 z2, .slice aB nB cB, .slice aE nE cE]] w fun e w'=>e= .returned (.int .i64 (qbl d))∧Below w.heap.size w w':=by
 obtain ⟨⟨h0,h1,h2,hcap⟩,hi,he⟩:=h
 simp only [Value.int.injEq,true_and] at h0 h1 h2
 obtain ⟨_,_,_,ec,hcap⟩:=hcap
 simp only [Value.slice.injEq] at ec
 obtain ⟨rfl,rfl,rfl⟩:=ec
 obtain ⟨_,_,e1,hm1,hc1⟩:=hi.open'
 obtain ⟨_,_,e2,hm2,hz2,hc2⟩:=he.open'
 simp only [Value.slice.injEq] at e1 e2
 obtain ⟨rfl,e1n,rfl⟩:=e1
 obtain ⟨rfl,rfl,rfl⟩:=e2
 obtain ⟨k,l,s,bs,es⟩:=d
 dsimp only at*
 subst h0 h1 h2
 have hn1:bs.length≤1048576:=by unfold sizeIno at hs;dsimp only at hs;omega
 subst e1n
 have HFR:Hid (∀W,Calls Tryz.prog 157 #[.agg #[.int .i64 z0, .int .i64 z1, .int .i64 z2, .slice aB bs.length cB, .slice aE es.length cE]] W fun e w'=>e= .returned (.int .i64 (if (decide (z1≠0)||decide (z2≠0)||decide (0<bs.length))||decide (0<es.length) then 1 else 0))∧Below W.heap.size W w'):=fun W=>qhl W z0 z1 z2 aB _ cB aE _ cE
 have HFI:Hid (∀W,Below w.heap.size w W→Calls Tryz.prog 158 #[.agg #[.int .i64 z0, .int .i64 z1, .int .i64 z2, .slice aB bs.length cB, .slice aE es.length cE]] W fun e w'=>e= .returned (.int .i64 (if decide (0<es.length) then 1 else qcK z1 z2 bs))∧Below W.heap.size W w'):=fun W hW=>qhm W z0 z1 z2 aB _ cB aE _ cE bs hn1 hcap rfl (fun k hk=>by
  obtain ⟨b,off,e,h⟩:=hc1 k hk
  exact ⟨b,off,e,cell_later hW h⟩)
 have HDI:Hid (∀W,Below w.heap.size w W→Calls Tryz.prog 159 #[.agg #[.int .i64 z0, .int .i64 z1, .int .i64 z2, .slice aB bs.length cB, .slice aE es.length cE]] W fun e w'=>e= .returned (.int .i64 (if decide (z1≠0)||decide (z2≠0)||decide (0<bs.length) then 1 else qel es))∧Below W.heap.size W w'):=fun W hW=>qiv W z0 z1 z2 aB _ cB aE _ cE es rfl hm2 hz2 (hc2.later hW)
 have HF:Hid (qbl (z0,z1,z2,bs,es)=if z0=0 then (if (decide (z1≠0)||decide (z2≠0)||decide (0<bs.length))||decide (0<es.length) then 1 else 0) else if z0=1 then (if decide (0<es.length) then 1 else qcK z1 z2 bs) else if z0=2 then (if (decide (z1≠0)||decide (z2≠0)||decide (0<bs.length)) then 1 else qel es) else 1):=rfl
 rw [HF.out]
 clear HF hi he hc1 hc2 hm1 hm2 hz2 hcap hs hn1
 generalize (if (decide (z1≠0)||decide (z2≠0)||decide (0<bs.length))||decide (0<es.length) then (1:Int) else 0)=r0 at*
 generalize (if decide (0<es.length) then (1:Int) else qcK z1 z2 bs)=r1 at*
 generalize (if (decide (z1≠0)||decide (z2≠0)||decide (0<bs.length)) then (1:Int) else qel es)=r2 at*
 generalize bs.length=n1 at*
 generalize es.length=n2 at*
 by_cases h0:z0=0
 · rw [if_pos h0]
   subst h0
   go_enter Tryz.func139,Tryz.ntmps139
   go_wp2_with fail
   refine (HFR.out _).mono ?_
   rintro e w1 ⟨rfl,hb1⟩
   have HB1:Hid (Below w.heap.size w w1):= (qab _ _).trans (hb1.mono (by simp))
   clear hb1
   go_wp2
   go_ret
   exact ⟨rfl,HB1.out⟩
 · rw [if_neg h0]
   by_cases h1:z0=1
   · rw [if_pos h1]
     subst h1
     go_enter Tryz.func139,Tryz.ntmps139
     go_wp2_with fail
     refine (HFI.out _ (qab _ _)).mono ?_
     rintro e w1 ⟨rfl,hb1⟩
     have HB1:Hid (Below w.heap.size w w1):= (qab _ _).trans (hb1.mono (by simp))
     clear hb1
     go_wp2
     go_ret
     exact ⟨rfl,HB1.out⟩
   · rw [if_neg h1]
     by_cases h2:z0=2
     · rw [if_pos h2]
       subst h2
       go_enter Tryz.func139,Tryz.ntmps139
       go_wp2_with fail
       refine (HDI.out _ (qab _ _)).mono ?_
       rintro e w1 ⟨rfl,hb1⟩
       have HB1:Hid (Below w.heap.size w w1):= (qab _ _).trans (hb1.mono (by simp))
       clear hb1
       go_wp2
       go_ret
       exact ⟨rfl,HB1.out⟩
     · rw [if_neg h2]
       have g0: (z0==0)=false:=by simpa using h0
       have g1: (z0==1)=false:=by simpa using h1
       have g2: (z0==2)=false:=by simpa using h2
       go_enter Tryz.func139,Tryz.ntmps139
       go_wp2
       go_ret
       exact ⟨rfl,qab _ _⟩
end Go.Proofs.YthnmlipnoajmkaaGreatDoor

namespace Go.Proofs.YthnmlipnoajmkaaGreatDoor
open Go.RowKit
set_option maxRecDepth 100000

def qfO (w:World) (r:Int×List Int) (e:Ending) (w':World):Prop:= ∃a n c,e= .returned (.agg #[.int .i64 r.1, .slice a n c])∧Below w.heap.size w w'∧qak w' (.slice a n c) r.2 (qaj w w')

end Go.Proofs.YthnmlipnoajmkaaGreatDoor

namespace Go.Proofs.YthnmlipnoajmkaaGreatDoor
open Go.RowKit
set_option maxRecDepth 100000

theorem qfO.box {w w2:World} {a:Option Addr} {n c:Nat} {zs:List Int} (hb:Below w.heap.size w w2) (ho:qak w2 (.slice a n c) zs (fun b=>w.heap.size+1≤b∧b<w2.heap.size)) (x y:Value):
 qfO w (0,zs) (.returned (.agg #[.int .i64 0, .slice a n c])) ((w2.setCell ⟨w.heap.size,0,none⟩ x).setCell ⟨w.heap.size,1,none⟩ y):=by
 refine ⟨_,_,_,rfl,(hb.setCell (by simp) _).setCell (by simp) _,(ho.keep fun b hb hlt=> ?_).mono fun b hb=> ⟨by omega,by simp only [World.setCell,Array.size_modify];exact hb.2⟩⟩
 rw [Below.heap_setCell _ _ _ _ (by simp;omega),Below.heap_setCell _ _ _ _ (by simp;omega)]
theorem qfO.bad {w w2:World} (r:Int) (hb:Below w.heap.size w w2) (x y:Value):
 qfO w (r, []) (.returned (.agg #[.int .i64 r, .slice none 0 0])) ((w2.setCell ⟨w.heap.size,0,none⟩ x).setCell ⟨w.heap.size,1,none⟩ y):=
 ⟨_,_,_,rfl,(hb.setCell (by simp) _).setCell (by simp) _,Or.inl ⟨rfl,_,_,rfl⟩⟩
theorem qtl (w:World) (t:TypeId):qaa (w.alloc (.cells #[.int .i64 0, .slice none 0 0] t)) w.heap.size 2 (fun i=>if i=0 then .int .i64 0 else .slice none 0 0):=qaa.newS w (.int .i64 0) (.slice none 0 0) t
theorem Wds.box {w W w2:World} {a:Option Addr} {n c:Nat} {zs:List Int} (hW:W.heap.size=w.heap.size+1) (h:Wds w2 W.heap.size (.slice a n c) zs):qak w2 (.slice a n c) zs (fun b=>w.heap.size+1≤b∧b<w2.heap.size):=
 (h.own' (w0:=W) (Nat.le_refl _)).mono fun b hb=> ⟨by have:=hb.1;omega,hb.2⟩

end Go.Proofs.YthnmlipnoajmkaaGreatDoor

namespace Go.Proofs.YthnmlipnoajmkaaGreatDoor
open Go.RowKit
set_option maxRecDepth 100000

def qre (w:World) (r:Int×List Int) (e:Ending) (w':World):Prop:=qfO w r e w'∧ ∀x a n c,e= .returned (.agg #[x, .slice a n c])→n≤c
theorem qre.mk {w w':World} {r:Int×List Int} {x:Value} {a:Option Addr} {n c:Nat} (h:qfO w r (.returned (.agg #[x, .slice a n c])) w') (hc:n≤c):qre w r (.returned (.agg #[x, .slice a n c])) w':=
 ⟨h,fun x' a' n' c' e=>by
   simp only [Ending.returned.injEq,Value.agg.injEq,Array.mk.injEq,List.cons.injEq,Value.slice.injEq,and_true] at e
   omega⟩
theorem qpF (a:Option Addr) (n c j:Nat) (hj:j≤c):
 ∃A C,j≤C∧ (∀W:World,(Instr.slice 64 (.slice a n c) none (some (.int .i64 (j:Int))) none).run Tryz.prog W= .ok (.slice A j C) W)∧ ∀ (W:World) (zs:List Int) (F:Nat→Prop),j≤zs.length→qak W (.slice a n c) zs F→qak W (.slice A j C) (zs.take j) F:=by
 obtain ⟨i,hi,_⟩:=Tryz.infoInt'
 refine ⟨if c=0 then a else a.map (·.add (0*1)),c-0,by omega,fun W=> ?_,fun W zs F hjn h=> ?_⟩
 · simp [Instr.slice,Instr.sliceBounds,Instr.sliceBound,asIntOf,run_underlying Tryz.underlying64,sizeOf,typeInfo,hi,hj]
 · by_cases hj0:j=0
   · subst hj0
     exact Or.inl ⟨by simp,_,_,rfl⟩
   · rw [if_neg (by omega)]
     rcases h with ⟨h,_⟩| ⟨b,cap,hF,h1,h2,h3⟩
     · subst h;simp at hjn;omega
     · simp only [Value.slice.injEq] at h1
       obtain ⟨rfl,rfl,rfl⟩:=h1
       have hl: (zs.take j).length=j:=by rw [List.length_take];omega
       refine Or.inr ⟨b,c-0,hF,by rw [hl];simp [Addr.add],by rw [hl];omega, ?_⟩
       obtain ⟨cs,t,hb,hn,hc⟩:=h3
       refine ⟨cs,t,hb,by rw [hl];omega,fun k hk=> ?_⟩
       rw [hl] at hk
       rw [hc k (by omega)]
       dsimp only
       rw [List.getElem?_take,if_pos hk]
theorem Wds.cap {w:World} {n₀:Nat} {a:Option Addr} {n c:Nat} {zs:List Int} (h:Wds w n₀ (.slice a n c) zs):n≤c:=by
 rcases h.2 with ⟨e,h0⟩| ⟨g,cap,cur,e,_,_,hnc,_⟩
 · simp only [Value.slice.injEq] at e;omega
 · simp only [Value.slice.injEq] at e;omega

end Go.Proofs.YthnmlipnoajmkaaGreatDoor

namespace Go.Proofs.YthnmlipnoajmkaaGreatDoor
open Go.RowKit
set_option maxRecDepth 100000

set_option maxHeartbeats 400000 in
theorem qpG {w:World} {v:Value} {zs:List Int} (h:qb1 w v zs) (hn:zs.length≤1048576):
 Calls Tryz.prog 113 #[v] w fun e w'=> ∃a c,e= .returned (.slice a zs.length c)∧Below w.heap.size w w'∧qak w' (.slice a zs.length c) zs (qaj w w')∧w.heap.size<w'.heap.size∧zs.length≤c:=by
 obtain ⟨a,cap,rfl,hm,hc⟩:=h.open'
 clear h
 obtain ⟨v',X,hr,hw,hb,_⟩:=qeP (w.alloc (.cells #[] 2)) w.heap.size (.slice (some ⟨w.heap.size,0,none⟩) 0 0) [] zs a zs.length cap (Wds.lit w w.heap.size (Nat.le_refl _) [] #[] rfl 0 rfl (by omega)) (by simp) rfl (by simp) hn (fun k hk=>by
  obtain ⟨b,off,e,c⟩:=hc k hk
  exact ⟨b,off,e,cell_later (qab _ _) c⟩) ⟨w.heap.size,0,rfl,Nat.le_refl _⟩
 rw [List.nil_append] at hw
 obtain ⟨a',c',rfl⟩:=hw.shape
 have HR:Hid (_=_):=hr
 have HB:Hid (Below w.heap.size w X):= (qab _ _).trans hb
 have HO:Hid (qak X (.slice a' zs.length c') zs (qaj w X)):=hw.own' (Nat.le_refl _)
 have HS:Hid (w.heap.size<X.heap.size):=by have:=hb.size;simp at this;unfold Hid;omega
 have HC:Hid (zs.length≤c'):=hw.cap
 clear hb hc hr hw
 go_enter Tryz.func113,Tryz.ntmps113
 go_wp2_with (at_builtin;refine qat rfl _ _ 64 rfl _ _ rfl rfl _ _ HR.out ?_)
 go_ret
 exact ⟨a',c',rfl,HB.out,HO.out,HS.out,HC.out⟩

def qmR (w:World) (d:ID) (e:Ending) (w':World):Prop:= ∃a1 n1 c1 a2 n2 c2,e= .returned (.agg #[.int .i64 d.1, .int .i64 d.2.1, .int .i64 d.2.2.1, .slice a1 n1 c1, .slice a2 n2 c2])∧Below w.heap.size w w'∧qdo w' (.int .i64 d.1) (.int .i64 d.2.1) (.int .i64 d.2.2.1) (.slice a1 n1 c1) (.slice a2 n2 c2) d (qaj w w')
def qiw (w:World) (d:FD) (e:Ending) (w':World):Prop:= ∃a1 n1 c1 a2 n2 c2,e= .returned (.agg #[.slice a1 n1 c1, .slice a2 n2 c2])∧Below w.heap.size w w'∧FsU w' (.slice a1 n1 c1) (.slice a2 n2 c2) d (qaj w w')
def qe7:List Value:= [.int .i64 0, .int .i64 0, .int .i64 0, .slice none 0 0, .slice none 0 0]
set_option maxHeartbeats 3200000 in
theorem qlx (w:World) (aB:Option Addr) (nB cB:Nat) (aE:Option Addr) (nE cE:Nat) (d:ID) (h:qfs w (.int .i64 d.1) (.int .i64 d.2.1) (.int .i64 d.2.2.1) (.slice aB nB cB) (.slice aE nE cE) d) (hB:d.2.2.2.1.length≤1048576) (hE:d.2.2.2.2.length≤1048576):
 Calls Tryz.prog 81 #[.agg #[.int .i64 d.1, .int .i64 d.2.1, .int .i64 d.2.2.1, .slice aB nB cB, .slice aE nE cE]] w (qmR w d):=by
 obtain ⟨k,l,s,bs,es⟩:=d
 dsimp only at h hB hE ⊢
 obtain ⟨-,hI,hN⟩:=h
 dsimp only at hI hN
 obtain ⟨aN,cN,eN,hmN,hzN,hatN⟩:=hN.open'
 simp only [Value.slice.injEq] at eN
 obtain ⟨rfl,rfl,rfl⟩:=eN
 have HI:Hid (qb1 w (.slice aB nB cB) bs):=hI
 have HN:Hid (AtN w aE es.length es):=hatN
 have HZ:Hid (∀k:Nat,(es[k]?.getD en0).1.size≤maxLen):=hzN
 have HBL:Hid (bs.length≤1048576):=hB
 have HEL:Hid (es.length≤1048576):=hE
 have HX0:Hid (qaa ((w.alloc (.cells #[.int .i64 k, .int .i64 l, .int .i64 s, .slice aB nB cB, .slice aE es.length cE] 74)).alloc (.cells #[.int .i64 0, .int .i64 0, .int .i64 0, .slice none 0 0, .slice none 0 0] 74)) w.heap.size 5 (fun i=> [Value.int .i64 k, .int .i64 l, .int .i64 s, .slice aB nB cB, .slice aE es.length cE][i]?.getD (.int .i64 0))):= (qmH w [.int .i64 k, .int .i64 l, .int .i64 s, .slice aB nB cB, .slice aE es.length cE] _).later (qab _ _)
 have HR0:Hid (qaa ((w.alloc (.cells #[.int .i64 k, .int .i64 l, .int .i64 s, .slice aB nB cB, .slice aE es.length cE] 74)).alloc (.cells #[.int .i64 0, .int .i64 0, .int .i64 0, .slice none 0 0, .slice none 0 0] 74)) (w.heap.size+1) 5 (fun i=>qe7[i]?.getD (.int .i64 0))):=by
  have:=qmH (w.alloc (.cells #[.int .i64 k, .int .i64 l, .int .i64 s, .slice aB nB cB, .slice aE es.length cE] 74)) qe7 74
  rw [World.size_alloc] at this
  exact this
 have hz0: ((w.alloc (.cells #[.int .i64 k, .int .i64 l, .int .i64 s, .slice aB nB cB, .slice aE es.length cE] 74)).alloc (.cells #[.int .i64 0, .int .i64 0, .int .i64 0, .slice none 0 0, .slice none 0 0] 74)).heap.size=w.heap.size+2:=by simp
 have HB0:Hid (Below w.heap.size w ((w.alloc (.cells #[.int .i64 k, .int .i64 l, .int .i64 s, .slice aB nB cB, .slice aE es.length cE] 74)).alloc (.cells #[.int .i64 0, .int .i64 0, .int .i64 0, .slice none 0 0, .slice none 0 0] 74))):=qam _ _ _
 clear hI hN hatN hzN hmN hB hE
 go_enter Tryz.func81,Tryz.ntmps81
 go_wp2_with fail
 generalize ((w.alloc (.cells #[.int .i64 k, .int .i64 l, .int .i64 s, .slice aB nB cB, .slice aE es.length cE] 74)).alloc (.cells #[.int .i64 0, .int .i64 0, .int .i64 0, .slice none 0 0, .slice none 0 0] 74))=W0 at*
 refine (qpG (HI.out.later HB0.out) HBL.out).mono ?_
 rintro e w1 ⟨a1,c1,rfl,hb1,ho1,hs1,hc1⟩
 have HB1:Hid (Below w.heap.size w w1):=HB0.out.trans (hb1.mono HB0.out.size)
 have hX1:=HX0.out.later hb1
 have hR1:=HR0.out.later hb1
 have HO1:Hid (qak w1 (.slice a1 bs.length c1) bs (fun b=>w.heap.size+2≤b∧b<w1.heap.size)):=ho1.mono fun b hb=> ⟨by have:=hb.1;omega,hb.2⟩
 have HC1:Hid (bs.length≤c1):=hc1
 have hw1:w.heap.size+2<w1.heap.size:=by omega
 have q3:w1.cell? ⟨w.heap.size,3,none⟩=some (.slice aB nB cB):=hX1.cell (i:=3) (by simp)
 have f3:=hX1.frozen 3
 have HX2:Hid (qaa (w1.setCell ⟨w.heap.size,3,none⟩ (.slice a1 bs.length c1)) w.heap.size 5 (fun i=> [Value.int .i64 k, .int .i64 l, .int .i64 s, .slice a1 bs.length c1, .slice aE es.length cE][i]?.getD (.int .i64 0))):= (hX1.set 3 _).congr fun i hi=>by
  match i,hi with
  |0,_=>rfl
  |1,_=>rfl
  |2,_=>rfl
  |3,_=>rfl
  |4,_=>rfl
 have HR2:Hid (qaa (w1.setCell ⟨w.heap.size,3,none⟩ (.slice a1 bs.length c1)) (w.heap.size+1) 5 (fun i=>qe7[i]?.getD (.int .i64 0))):=hR1.store (by simp) _
 have HO2:Hid (qak (w1.setCell ⟨w.heap.size,3,none⟩ (.slice a1 bs.length c1)) (.slice a1 bs.length c1) bs (fun b=>w.heap.size+2≤b∧b<w1.heap.size)):=HO1.out.store (fun b hb=>by show b≠w.heap.size;omega) _
 have HB2:Hid (Below w.heap.size w (w1.setCell ⟨w.heap.size,3,none⟩ (.slice a1 bs.length c1))):=HB1.out.setCell (Nat.le_refl _) _
 have hz2: (w1.setCell ⟨w.heap.size,3,none⟩ (.slice a1 bs.length c1)).heap.size=w1.heap.size:=by simp [World.setCell]
 have q4:w1.cell? ⟨w.heap.size,4,none⟩=some (.slice aE es.length cE):=hX1.cell (i:=4) (by simp)
 have hlt1:w.heap.size<w1.heap.size:=by omega
 obtain ⟨a2,c2,X,hr,hbX,hoX,hkX⟩:=qjN ((w1.setCell ⟨w.heap.size,3,none⟩ (.slice a1 bs.length c1)).alloc (.cells #[] 76)) 72 w1.heap.size w1.heap.size es (by have:=Go.Deep.blk_alloc_new (w1.setCell ⟨w.heap.size,3,none⟩ (.slice a1 bs.length c1)) (.cells #[] 76);rw [hz2] at this;exact this) (Nat.le_refl _) aE cE HEL.out HZ.out ((HN.out.later HB2.out).later (qab _ _))
 have hbX':Below w1.heap.size (w1.setCell ⟨w.heap.size,3,none⟩ (.slice a1 bs.length c1)) X:=by
  have:=qab (w1.setCell ⟨w.heap.size,3,none⟩ (.slice a1 bs.length c1)) (.cells #[] 76)
  rw [hz2] at this
  exact this.trans hbX
 have HR:Hid (_=_):=hr
 have HBX:Hid (Below w.heap.size w X):=HB2.out.trans (hbX'.mono (by omega))
 have hXX:qaa X w.heap.size 5 _:=HX2.out.block (hbX'.block _ (by omega))
 have hRX:qaa X (w.heap.size+1) 5 _:=HR2.out.block (hbX'.block _ (by omega))
 have HOX:Hid (qak X (.slice a1 bs.length c1) bs (fun b=>w.heap.size+2≤b∧b<w1.heap.size)):=HO2.out.keep fun b hb _=>hbX'.block b (by omega)
 have HEX:Hid (qbc X (.slice a2 es.length c2) es (fun b=>w1.heap.size≤b∧b<X.heap.size)):=hoX.mono fun b hb=> ⟨by
  have:=hb.1
  rw [World.size_alloc,hz2] at this
  omega,hb.2⟩
 have hsX:w1.heap.size≤X.heap.size:=by have:=hbX'.size;omega
 have x0:X.cell? ⟨w.heap.size,0,none⟩=some (.int .i64 k):=hXX.cell (i:=0) (by simp)
 have x1:X.cell? ⟨w.heap.size,1,none⟩=some (.int .i64 l):=hXX.cell (i:=1) (by simp)
 have x2:X.cell? ⟨w.heap.size,2,none⟩=some (.int .i64 s):=hXX.cell (i:=2) (by simp)
 have x3:X.cell? ⟨w.heap.size,3,none⟩=some (.slice a1 bs.length c1):=hXX.cell (i:=3) (by simp)
 have x4:X.cell? ⟨w.heap.size,4,none⟩=some (.slice aE es.length cE):=hXX.cell (i:=4) (by simp)
 have y4:=hXX.frozen 4
 have r0:X.cell? ⟨w.heap.size+1,0,none⟩=some (.int .i64 0):=hRX.cell (i:=0) (by simp)
 have r1:X.cell? ⟨w.heap.size+1,1,none⟩=some (.int .i64 0):=hRX.cell (i:=1) (by simp)
 have r2:X.cell? ⟨w.heap.size+1,2,none⟩=some (.int .i64 0):=hRX.cell (i:=2) (by simp)
 have r3:X.cell? ⟨w.heap.size+1,3,none⟩=some (.slice none 0 0):=hRX.cell (i:=3) (by simp)
 have r4:X.cell? ⟨w.heap.size+1,4,none⟩=some (.slice none 0 0):=hRX.cell (i:=4) (by simp)
 have s0:=hRX.frozen 0
 have s1:=hRX.frozen 1
 have s2:=hRX.frozen 2
 have s3:=hRX.frozen 3
 have s4:=hRX.frozen 4
 clear hr hbX hoX hkX hbX' hXX hRX HO1 HO2 HX2 HR2 HX0 HR0 HB0 hb1 ho1 hs1 hc1 hX1 hR1 HI HN HB1 HB2
 go_wp2_with (at_builtin;refine qat rfl _ _ 72 rfl _ _ rfl rfl _ _ HR.out ?_)
 refine bodyPost_ret (v:= .agg #[.int .i64 k, .int .i64 l, .int .i64 s, .slice a1 bs.length c1, .slice a2 es.length c2]) (by simp [results,Tryz.results81,go_sem,r0,r1,r2,r3,r4]) rfl ⟨a1,bs.length,c1,a2,es.length,c2,rfl,(((((HBX.out.setCell (Nat.le_refl _) _).setCell (by simp) _).setCell (by simp) _).setCell (by simp) _).setCell (by simp) _).setCell (by simp) _,⟨rfl,rfl,rfl,_,_,_,rfl,HC1.out⟩,(fun b=>w.heap.size+2≤b∧b<w1.heap.size),(fun b=>w1.heap.size≤b∧b<X.heap.size),HOX.out.keep fun b hb _=> ?_,HEX.out.keep fun b hb _=> ?_,fun b h1 h2=>by omega,fun b hb=> ?_⟩
 · rw [Below.heap_setCell _ _ _ _ (by simp;omega),Below.heap_setCell _ _ _ _ (by simp;omega),Below.heap_setCell _ _ _ _ (by simp;omega),Below.heap_setCell _ _ _ _ (by simp;omega),Below.heap_setCell _ _ _ _ (by simp;omega),Below.heap_setCell _ _ _ _ (by simp;omega)]
 · rw [Below.heap_setCell _ _ _ _ (by simp;omega),Below.heap_setCell _ _ _ _ (by simp;omega),Below.heap_setCell _ _ _ _ (by simp;omega),Below.heap_setCell _ _ _ _ (by simp;omega),Below.heap_setCell _ _ _ _ (by simp;omega),Below.heap_setCell _ _ _ _ (by simp;omega)]
 · unfold qaj
   simp only [World.setCell,Array.size_modify]
   rcases hb with hb|hb<;>omega
end Go.Proofs.YthnmlipnoajmkaaGreatDoor

namespace Go.Proofs.YthnmlipnoajmkaaGreatDoor
open Go.RowKit
set_option maxRecDepth 100000

theorem Tryz.sizeU8: (Tryz.prog.info? 5).map (·.size)=some 1:=by kernel_rfl

theorem qly (w:World) (a:Option Addr) (n cap:Nat) (zs:List UInt8) (hz:zs.length=n) (hc:AtY w a n zs):
 ∃ X,(Builtin.copy_ #[27,27] 3 #[.slice (some ⟨w.heap.size,0,none⟩) n n, .slice a n cap]).run Tryz.prog (w.alloc (.cells (madeCells #[.int .u8 0] n) 5))= .ok (goInt n) X∧
  Below w.heap.size w X∧qaa X w.heap.size n (fun i=> .int .u8 (((zs[i]?.getD 0).toNat:Nat):Int)):=by
 by_cases h0:n=0
 · subst h0
   have hr:=run_copy_none (P:=Tryz.prog) (w.alloc (.cells (madeCells #[.int .u8 0] 0) 5)) 27 27 3 5 (some ⟨w.heap.size,0,none⟩) a 0 0 0 cap Tryz.underlying27 Tryz.sizeU8 (by simp)
   exact ⟨_,hr,qab _ _,(qaa.made w (.int .u8 0) 0 5).congr fun i hi=>by omega⟩
 · obtain ⟨b,off,rfl,_⟩:=hc 0 (by omega)
   have hc': ∀k,k<n→w.cell? ⟨b,off+k,none⟩=some (.int .u8 (((zs[k]?.getD 0).toNat:Nat):Int)):=by
    intro k hk
    obtain ⟨b',off',e,h⟩:=hc k hk
    simp only [Option.some.injEq,Addr.mk.injEq,and_true] at e
    rw [e.1,e.2];exact h
   have hcp:=run_copy_row (P:=Tryz.prog) (w.alloc (.cells (madeCells #[.int .u8 0] n) 5)) 27 27 3 5 w.heap.size 0 n n ⟨b,off,none⟩ n cap (madeCells #[.int .u8 0] n) 5 (zs.map fun z=>qk4 z) Tryz.underlying27 Tryz.sizeU8
    (Go.Deep.blk_alloc_new _ _) (by simp [hz]) (fun j v hv=>by
      rw [List.getElem?_map,Option.map_eq_some_iff] at hv
      obtain ⟨z,hz1,rfl⟩:=hv
      have hj:j<n:=by rw [←hz];exact (List.getElem?_eq_some_iff.1 hz1).1
      have h2:=hc' j hj
      rw [hz1,Option.getD_some] at h2
      have ha: (⟨b,off,none⟩:Addr).add j= ⟨b,off+j,none⟩:=by
       by_cases hj0:j=0
       · subst hj0;simp [Addr.add]
       · simp [Addr.add,hj0]
      rw [ha]
      exact cell_later (qab _ _) h2) (by simp [size_madeCells,hz]) (fun v hv=>by
      obtain ⟨z,_,rfl⟩:=List.mem_map.1 hv
      rfl)
   refine ⟨_,by rw [hcp,List.length_map,hz],below_setRow (qab _ _) (Nat.le_refl _) _, ?_⟩
   refine ⟨_,5,setRow_heap _ _ _ _ _ _ (Go.Deep.blk_alloc_new _ _), ?_,fun i hi=> ?_⟩
   · simp [hz]
   · have hlen:i<zs.length:=by omega
     simp [List.getElem?_append_left,hlen,qk4]
set_option maxHeartbeats 400000 in
theorem qix {w:World} {v:Value} {zs:List UInt8} (h:Byt w v zs) (hn:zs.length≤1048576):
 Calls Tryz.prog 149 #[v] w fun e w'=>e= .returned (.slice (some ⟨w.heap.size,0,none⟩) zs.length zs.length)∧Below w.heap.size w w'∧qbt w' (.slice (some ⟨w.heap.size,0,none⟩) zs.length zs.length) zs (qaj w w')∧w.heap.size<w'.heap.size:=by
 obtain ⟨a,cap,rfl,hm,hc⟩:=h
 obtain ⟨X,hcp,hbX,hrX⟩:=qly w a zs.length cap zs rfl hc
 have hmk:=fun w=>run_make_row' (P:=Tryz.prog) 27 5 (.int .u8 0) 1 Tryz.underlying27 Tryz.infoU8 rfl .i64 .i64 zs.length (by omega) (by omega) w
 have HB:Hid (Below w.heap.size w X):=hbX
 have HR:Hid (qaa X w.heap.size zs.length (fun i=> .int .u8 (((zs[i]?.getD 0).toNat:Nat):Int))):=hrX
 clear hbX hrX hc
 go_enter Tryz.func149,Tryz.ntmps149
 go_wp2
 go_ret
 exact ⟨rfl,HB.out,Or.inr ⟨w.heap.size,_,⟨Nat.le_refl _,HR.out.lt⟩,rfl,⟨hm.1,Nat.le_refl _⟩,HR.out⟩,HR.out.lt⟩
theorem qjU {w:World} {v:Value} {zs:List UInt8} (h:Byt w v zs) (hn:zs.length≤1048576):
 Calls Tryz.prog 149 #[v] w fun e w'=>e= .returned (.slice (some ⟨w.heap.size,0,none⟩) zs.length zs.length)∧Below w.heap.size w w'∧qbt w' (.slice (some ⟨w.heap.size,0,none⟩) zs.length zs.length) zs (qaj w w'):=
 (qix h hn).mono fun _ _ ⟨h1,h2,h3,_⟩=> ⟨h1,h2,h3⟩

theorem qiy (w:World) (n:Nat) (hn:n≤60):
 Calls Tryz.prog 125 #[.int .i64 (n:Int)] w fun e w'=> ∃b,w.heap.size≤b∧e= .returned (.agg #[.slice (some ⟨b,0,none⟩) n n])∧Below w.heap.size w w'∧qaa w' b n (fun _=> .slice none 0 0):=by
 have hmk:=fun w=>run_make_row' (P:=Tryz.prog) 23 27 (.slice none 0 0) 24 Tryz.underlying23 Tryz.infoU8s rfl .i64 .i64 n (by omega) (by omega) w
 go_enter Tryz.func125,Tryz.ntmps125
 go_wp2
 refine bodyPost_ret (v:= .agg #[.slice (some ⟨w.heap.size+1,0,none⟩) n n]) (by simp [results,Tryz.results125,go_sem]) rfl ⟨w.heap.size+1,by omega,rfl,qam _ _ _, ?_⟩
 have:=qaa.made (w.alloc (Obj.cells #[Value.slice (some ⟨w.heap.size+1,0,none⟩) n n] 136)) (.slice none 0 0) n 27
 simpa using this

set_option maxHeartbeats 800000 in
theorem qom (w:World) (br o g n cap x:Nat) (u:Nat→Value) (v:Value) (zs:List UInt8) (_hn:n≤60) (hx:x<n) (h0:w.cell? ⟨br,o,none⟩=some (.slice (some ⟨g,0,none⟩) n cap)) (hr:qaa w g n u) (hu: ∃ua un uc,u x= .slice ua un uc) (hi:Byt w v zs) (hl:zs.length≤1048576):
 Calls Tryz.prog 126 #[.pointer (some ⟨br,o,none⟩), .int .i64 (x:Int),v] w fun e w'=>e= .returned (.tuple #[])∧
  ∃X,w'=X.setCell ⟨g,x,none⟩ (.slice (some ⟨w.heap.size,0,none⟩) zs.length zs.length)∧Below w.heap.size w X∧qbt X (.slice (some ⟨w.heap.size,0,none⟩) zs.length zs.length) zs (qaj w X):=by
 obtain ⟨ua,un,uc,hux⟩:=hu
 have HI:Hid (Byt w v zs):=hi
 have HR:Hid (qaa w g n u):=hr
 have c1:=hr.cell hx
 rw [hux] at c1
 have c2:=hr.frozen x
 have HL:Hid (zs.length≤1048576):=hl
 clear hi hr hl hux
 go_enter Tryz.func126,Tryz.ntmps126
 go_wp2_with fail
 go_region_with ((go_at_call 149;refine (qjU ?_ HL.out).mono ?_;exact HI.out;rintro e w1 ⟨rfl,hb1,ho1⟩;have d0:=cell_later hb1 h0;have d1:=cell_later hb1 c1;have d2:= (hb1.frozen (p:= ⟨g,x,none⟩) (World.block_lt_of_cell? _ _ c1)).trans c2;have HB1:Hid (Below w.heap.size w w1):= (Below.refl _ _).drew.trans hb1;have HO1:Hid (qbt w1 (.slice (some ⟨w.heap.size,0,none⟩) zs.length zs.length) zs (qaj w w1)):=ho1;clear hb1 ho1))
 all_goals
  go_wp2
  go_end0
  exact ⟨rfl,w1,rfl,HB1.out,HO1.out⟩

set_option maxHeartbeats 1600000 in
theorem qiz (w:World) (a:Option Addr) (n cap:Nat) (bs:List (List UInt8)) (hbl:bs.length=n) (hn:n≤60) (hz: ∀k,k<n→ (bs[k]?.getD []).length≤1048576) (hB:qgi w a n bs):
 Calls Tryz.prog 98 #[.slice a n cap] w fun e w'=> ∃g,e= .returned (.agg #[.slice (some ⟨g,0,none⟩) n n])∧Below w.heap.size w w'∧qaR w' (.slice (some ⟨g,0,none⟩) n n) bs (qaj w w'):=by
 have HBL:Hid (bs.length=n):=hbl
 have HZ:Hid (∀k,k<n→ (bs[k]?.getD []).length≤1048576):=hz
 have HB:Hid (qgi w a n bs):=hB
 clear hbl hz hB
 go_enter Tryz.func98,Tryz.ntmps98
 go_wp2_with fail
 refine (qiy _ n hn).mono ?_
 rintro e w1 ⟨g,hg,rfl,hb1,hr1⟩
 simp at hg
 have HB1:Hid (Below w.heap.size w w1):= (qab _ _).trans (hb1.mono (by simp))
 have hgl:g<w1.heap.size:=hr1.lt
 have HR1:Hid (qaa w1 g n (fun _=> .slice none 0 0)):=hr1
 have t0:=cell_later hb1 (show (w.alloc (Obj.cells #[Value.slice none 0 0] 136)).cell? ⟨w.heap.size,0,none⟩=some (.slice none 0 0) by rw [qar];rfl)
 have t1:w1.frozen? ⟨w.heap.size,0,none⟩=false:=by rw [hb1.frozen (by simp)];simp
 have hz1:w.heap.size<w1.heap.size:=World.block_lt_of_cell? _ _ t0
 clear hb1 hr1
 go_wp2_with fail
 go_loopw [11] (fun i wr=> ∃j:Nat,j≤n∧i= .int .i64 j∧Below w.heap.size w wr∧wr.cell? ⟨w.heap.size,0,none⟩=some (.slice none 0 0)∧wr.frozen? ⟨w.heap.size,0,none⟩=false∧wr.cell? ⟨w1.heap.size,0,none⟩=some (.slice (some ⟨g,0,none⟩) n n)∧
  ∃u s,qaa wr g n (fun i=>if i<j then u i else .slice none 0 0)∧ (∀i,i<j→ ∃ua un uc,u i= .slice ua un uc)∧BuiltY wr (w1.heap.size+1) j u (fun i=>bs[i]?.getD []) s) (fun i _=>n- (intOf i).toNat)
 case atStart=>exact ⟨0,Nat.zero_le _,rfl,HB1.out.trans ((qab _ _).mono HB1.out.size),cell_later (qab _ _) t0,by rw [(qab w1 _).frozen (p:= ⟨w.heap.size,0,none⟩) hz1];exact t1,by rw [qar];rfl,fun _=> .slice none 0 0,_,(HR1.out.later (qab _ _)).congr fun i _=>by simp,fun i hi=>by omega,BuiltY.nil _ _ (by simp)⟩
 case round=>
  obtain ⟨j,hj,rfl,hbl,q0,q1,q2,u,s,hrow,hsh,hbt⟩:=hrel
  have HBW:Hid (Below w.heap.size w wr):=hbl
  have HROW:Hid (qaa wr g n (fun i=>if i<j then u i else .slice none 0 0)):=hrow
  have HBT:Hid (BuiltY wr (w1.heap.size+1) j u (fun i=>bs[i]?.getD []) s):=hbt
  have HSH:Hid (∀i,i<j→ ∃ua un uc,u i= .slice ua un uc):=hsh
  clear hbl hrow hbt hsh t0 t1
  by_cases hlt:j<n
  · obtain ⟨b,off,ua,ucap,e,c1,i1⟩:=HB.out j hlt
    clear HB
    subst e
    replace c1:=cell_later HBW.out c1
    have HI:Hid (Byt wr (.slice ua (bs[j]?.getD []).length ucap) (bs[j]?.getD [])):=i1.later HBW.out
    clear i1
    go_wp2_with fail
    refine (qom wr w1.heap.size 0 g n n j _ _ (bs[j]?.getD []) hn hlt q2 HROW.out ⟨none,0,0,by simp⟩ HI.out (HZ.out j hlt)).mono ?_
    rintro e w2 ⟨rfl,X,rfl,hbX,hoX⟩
    have HX:Hid (Below wr.heap.size wr X):=hbX
    have HO:Hid (qbt X (.slice (some ⟨wr.heap.size,0,none⟩) (bs[j]?.getD []).length (bs[j]?.getD []).length) (bs[j]?.getD []) (qaj wr X)):=hoX
    clear hbX hoX
    go_wp2
    go_roundw
    case rel=>
     refine ⟨j+1,by omega,by go_num,(HBW.out.trans (HX.out.mono HBW.out.size)).setCell (by simp;omega) _, ?_, ?_, ?_,_,_,((HROW.out.later HX.out).set j _).congr fun i hi=> ?_,fun i hi=> ?_,(HBT.out.next HX.out HO.out).store (by simp;omega) _⟩
     · rw [World.cell?_of_block (w:=X) (Below.heap_setCell _ _ _ _ (by simp;omega))];exact cell_later HX.out q0
     · rw [World.frozen?_of_block (w:=X) (Below.heap_setCell _ _ _ _ (by simp;omega)),HX.out.frozen (World.block_lt_of_cell? _ _ q0)];exact q1
     · rw [World.cell?_of_block (w:=X) (Below.heap_setCell _ _ _ _ (by simp;omega))];exact cell_later HX.out q2
     · by_cases e:i=j
       · subst e;simp
       · by_cases e2:i<j
         · simp [e,e2,show i<j+1 by omega]
         · simp [e,e2,show ¬i<j+1 by omega]
     · by_cases e:i=j
       · subst e;exact ⟨_,_,_,by simp;exact ⟨rfl,rfl,rfl⟩⟩
       · obtain ⟨a1,a2,a3,h⟩:=HSH.out i (by omega)
         exact ⟨a1,a2,a3,by simp [e,h]⟩
    case measure=>simp [intOf];omega
  · go_wp2
    have e:j=n:=by omega
    subst e
    refine bodyPost_ret (v:= .agg #[.slice (some ⟨g,0,none⟩) j j]) (by simp [results,Tryz.results98,go_sem,q0]) rfl ⟨g,rfl,HBW.out.setCell (Nat.le_refl _) _, ?_⟩
    have hB':=HBT.out.store (p:= ⟨w.heap.size,0,none⟩) (by simp;omega) (.slice (some ⟨g,0,none⟩) j j)
    have hR':= (HROW.out.congr (g:=u) fun i hi=>by simp [hi]).store (p:= ⟨w.heap.size,0,none⟩) (by simp;omega) (.slice (some ⟨g,0,none⟩) j j)
    exact hB'.byts bs HBL.out ⟨by unfold maxLen;omega,Nat.le_refl _⟩ (by omega) hR' _ ⟨by omega,hR'.lt⟩ (fun c h1 h2=> ⟨by omega,h2⟩)
end Go.Proofs.YthnmlipnoajmkaaGreatDoor
