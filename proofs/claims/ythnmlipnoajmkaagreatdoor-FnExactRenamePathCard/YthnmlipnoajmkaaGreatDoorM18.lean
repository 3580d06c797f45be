/- The program:links and places. The program:how many bytes each block has to hold;what is wrong of a file system. IsWithin,of the program. Ways through the tree:where names lead. No program is named here. -/
import Derived.Test.YthnmlipnoajmkaaGreatDoorM17
import Derived.Test.YthnmlipnoajmkaaGreatDoorM13
import Derived.Deep.RegionHeld3
import Derived.Test.YthnmlipnoajmkaaGreatDoorM16
import Derived.Test.YthnmlipnoajmkaaGreatDoorM14
import Derived.Test.YthnmlipnoajmkaaGreatDoorM15
namespace Go.Proofs.YthnmlipnoajmkaaGreatDoor
open Go.RowKit Go.Maps
set_option maxRecDepth 100000

set_option maxHeartbeats 1600000 in
theorem qiN (w:World) (aI:Option Addr) (n cI:Nat) (aD:Option Addr) (nD cD:Nat) (ds:List ID) (j:Nat) (hj:j<n) (hc:AtI w aI n ds):
 Calls Tryz.prog 90 #[.agg #[.slice aI n cI, .slice aD nD cD], .int .i64 (j:Int)] w fun e w'=>e= .returned (.int .i64 (qdi ds j))∧Below w.heap.size w w':=by
 obtain ⟨b0,o0,rfl,hI⟩:=hc j hj
 obtain ⟨_,_,_,_,k0,k1,_⟩:=hI.later (qab w (.cells #[.slice (some ⟨b0,o0,none⟩) n cI, .slice aD nD cD] 31))
 have HW:Hid (qdi ds j=if (ds[j]?.getD id0).1=1 then (ds[j]?.getD id0).2.1 else if j=0 then 0 else 1):=rfl
 clear hI hc
 generalize (ds[j]?.getD id0).1=kd at*
 generalize (ds[j]?.getD id0).2.1=lk at*
 by_cases hk1:kd=1
 · have hb1: (kd==1)=true:=by simpa using hk1
   have HR:Hid (qdi ds j=lk):=by unfold Hid;rw [HW.out,if_pos hk1]
   clear hk1 HW
   go_enter Tryz.func90,Tryz.ntmps90
   go_wp2
   go_ret
   exact ⟨qad HR.out.symm,qab _ _⟩
 · have hb1: (kd==1)=false:=by simpa using hk1
   by_cases hj0:j=0
   · have hbj: ((j:Int)==0)=true:=by simp [hj0]
     have HR:Hid (qdi ds j=0):=by unfold Hid;rw [HW.out,if_neg hk1,if_pos hj0]
     clear hk1 hj0 HW
     go_enter Tryz.func90,Tryz.ntmps90
     go_wp2
     go_ret
     exact ⟨qad HR.out.symm,qab _ _⟩
   · have hbj: ((j:Int)==0)=false:=by simp;omega
     have HR:Hid (qdi ds j=1):=by unfold Hid;rw [HW.out,if_neg hk1,if_neg hj0]
     clear hk1 hj0 HW
     go_enter Tryz.func90,Tryz.ntmps90
     go_wp2
     go_ret
     exact ⟨qad HR.out.symm,qab _ _⟩
theorem qcN (z v:Int) (w:World): (Instr.field 86 (.agg #[.int .i64 z, .int .i64 v]) 1).run Tryz.prog w= .ok (.int .i64 v) w:=by rfl
def qhE (ds:List ID):Int:=if qbe ds then 0 else 1

theorem qow {ds:List ID} {m:Int→Int} (hr:qa8 ds) (h0:0<ds.length) (hp: ∀i:Nat,0<m (i:Int)↔RP (qai ds) i) (hnn: ∀x,0≤m x) (j:Nat): (m (j:Int)==0)= !qaD ds ds.length j:=by
 cases hg:qaD ds ds.length j with
 | true=>
   have:= (hp j).2 ((qgQ hr h0 j).1 hg)
   simp;omega
 | false=>
   have h1: ¬0<m (j:Int):=fun h=>by
    have:= (qgQ hr h0 j).2 ((hp j).1 h)
    rw [hg] at this;cases this
   have:=hnn (j:Int)
   simp;omega
set_option maxHeartbeats 6400000 in
theorem qhF (w : World) (aI:Option Addr) (nI cI:Nat) (aD:Option Addr) (nD cD:Nat) (d:FD) (h:FsR w (.slice aI nI cI) (.slice aD nD cD) d) (hs:qag d.1≤1048576) (hi:qaY d.1=0) (hn0:0<d.1.length) (hn:d.1.length≤10) (hr:qa8 d.1) (h6: ∀i,(qai d.1 i).length≤6):
 Calls Tryz.prog 53 #[.agg #[.slice aI nI cI, .slice aD nD cD]] w fun e w'=>e= .returned (.int .i64 (qhE d.1))∧Below w.heap.size w w':=by
 have HX:Hid (Bx (w.alloc (.cells #[.slice aI nI cI, .slice aD nD cD] 31)) w.heap.size [.slice aI nI cI, .slice aD nD cD]):=Bx.new w [.slice aI nI cI, .slice aD nD cD] _
 obtain ⟨_,_,e2,hm2,hc⟩:=h.1.open'
 simp only [Value.slice.injEq] at e2
 obtain ⟨rfl,rfl,rfl⟩:=e2
 have HC:Hid (AtI w aI d.1.length d.1):=hc
 have HRF:Hid (∀W,Below w.heap.size w W→Calls Tryz.prog 88 #[.slice aI d.1.length cI, .int .i64 0] W fun e w'=> ∃b N m,e= .returned (.map (some b))∧Below W.heap.size W w'∧W.heap.size≤b∧Mp w' b N (fun x=>decide (0≤x∧x< (d.1.length:Int))&& !decide (m x=0)) m∧ (∀i:Nat,0<m (i:Int)↔RP (qai d.1) i)∧ ∀x,0≤m x):=fun W hW=>qhC W aI _ cI d.1 rfl hn0 hn (hc.later hW) hr h6
 have HLO:Hid (∀W,Below w.heap.size w W→ ∀j:Nat,j<d.1.length→Calls Tryz.prog 89 #[.slice aI d.1.length cI, .int .i64 (j:Int)] W fun e w'=>e= .returned (.agg #[.int .i64 0, .int .i64 (((qco d.1).count (j:Int):Nat):Int)])∧Below W.heap.size W w'):=fun W hW j hj=>by
  have:=qkR W aI _ cI d.1 (j:Int) (h.1.later hW) hs
  have e:qqv d.1 (j:Int)= (0,(((qco d.1).count (j:Int):Nat):Int)):=by
   unfold qqv
   rw [if_pos hi,if_pos (by omega)]
  rw [e] at this
  exact this
 have HLD:Hid (∀W,Below w.heap.size w W→ ∀j:Nat,j<d.1.length→Calls Tryz.prog 90 #[.agg #[.slice aI d.1.length cI, .slice aD nD cD], .int .i64 (j:Int)] W fun e w'=>e= .returned (.int .i64 (qdi d.1 j))∧Below W.heap.size W w'):=fun W hW j hj=>qiN W aI _ cI aD nD cD d.1 j hj (hc.later hW)
 have HMZ:Hid (∀ (m:Int→Int),(∀i:Nat,0<m (i:Int)↔RP (qai d.1) i)→ (∀x,0≤m x)→ ∀j:Nat,(m (j:Int)==0)= !qaD d.1 d.1.length j):=fun m h1 h2 j=>qow hr hn0 h1 h2 j
 clear hc h hs hi hm2 hr h6
 obtain ⟨n,hnn⟩: ∃n,d.1.length=n:= ⟨_,rfl⟩
 have HN:Hid (d.1.length=n):=hnn
 have HOK:Hid (∀i,qbA d.1 i= (decide (qae d.1 i=0)|| (decide ((((qco d.1).count (i:Int):Nat):Int)=qdi d.1 i)&&qaD d.1 n i))):=fun i=>by rw [←hnn];rfl
 rw [hnn] at HC HX HRF HLO HLD HMZ hn0 hn ⊢
 clear hnn
 generalize qaD d.1 n=G at*
 go_enter Tryz.func53,Tryz.ntmps53
 go_wp2_with fail
 refine (HRF.out _ (qab _ _)).mono ?_
 rintro e w1 ⟨bm,N,m,rfl,hb1,hbm,hmp,hpos,hnn⟩
 have HB1:Hid (Below w.heap.size w w1):= (qab _ _).trans (hb1.mono (by simp))
 have HX1:Hid (Bx w1 w.heap.size [.slice aI n cI, .slice aD nD cD]):=HX.out.later hb1
 have HMP:Hid (Mp w1 bm N (fun x=>decide (0≤x∧x< (n:Int))&& !decide (m x=0)) m):=hmp
 have HZ0:Hid (∀j:Nat,(m (j:Int)==0)= !G j):=HMZ.out m hpos hnn
 clear hb1 hmp hpos hnn HX HRF HMZ hbm
 have x0:=HX1.out 0 _ rfl
 go_wp2
 clear x0
 go_loopw [11] (fun i wr=> ∃j:Nat,j≤n∧i= .int .i64 j∧Below w1.heap.size w1 wr∧ ∀k,k<j→qbA d.1 k=true) (fun i _=>n- (intOf i).toNat)
 case atStart=>exact ⟨0,Nat.zero_le _,rfl,Below.refl _ _,fun k hk=>by omega⟩
 case round=>
  obtain ⟨j,hj,rfl,hbl,hz⟩:=hrel
  have HBL:Hid (Below w1.heap.size w1 wr):=hbl
  have HBW:Hid (Below w.heap.size w wr):=HB1.out.trans (hbl.mono HB1.out.size)
  have HZ:Hid (∀k,k<j→qbA d.1 k=true):=hz
  have HX2:Hid (Bx wr w.heap.size [.slice aI n cI, .slice aD nD cD]):=HX1.out.later hbl
  clear hbl hz
  by_cases hlt:j<n
  · obtain ⟨b0,o0,rfl,hI⟩:=HC.out j hlt
    obtain ⟨_,_,_,_,k0,_⟩:=hI.later HBW.out
    have x0:=HX2.out 0 _ rfl
    have x1:=HX2.out 1 _ rfl
    have HY:Hid (qbA d.1 j=true→ ∀k,k<j+1→qbA d.1 k=true):=fun hh k hk=>by
     by_cases e:k=j
     · subst e;exact hh
     · exact HZ.out k (by omega)
    have HNO:Hid (qbA d.1 j=false→qhE d.1=1):=fun hh=>by unfold qhE;rw [qiB (by rw [HN.out];exact hlt) hh];rfl
    have HO:Hid (qbA d.1 j= (decide ((d.1[j]?.getD id0).1=0)|| (decide ((((qco d.1).count (j:Int):Nat):Int)=qdi d.1 j)&&G j))):=HOK.out j
    have hz0:=HZ0.out j
    have HLOJ:Hid (∀W,Below w.heap.size w W→Calls Tryz.prog 89 #[.slice (some ⟨b0,o0,none⟩) n cI, .int .i64 (j:Int)] W fun e w'=>e= .returned (.agg #[.int .i64 0, .int .i64 (((qco d.1).count (j:Int):Nat):Int)])∧Below W.heap.size W w'):=fun W hW=>HLO.out W hW j hlt
    have HLDJ:Hid (∀W,Below w.heap.size w W→Calls Tryz.prog 90 #[.agg #[.slice (some ⟨b0,o0,none⟩) n cI, .slice aD nD cD], .int .i64 (j:Int)] W fun e w'=>e= .returned (.int .i64 (qdi d.1 j))∧Below W.heap.size W w'):=fun W hW=>HLD.out W hW j hlt
    have HLKJ:Hid (∀W,Below w1.heap.size w1 W→ (Instr.lookup 119 (.map (some bm)) (.int .i64 (j:Int)) false).run Tryz.prog W= .ok (.int .i64 (m (j:Int))) W):=fun W hW=> (HMP.out.later hW).look (qdr (by omega) (by omega))
    clear hI HOK HLO HLD HZ0 HMP
    generalize (d.1[j]?.getD id0).1=kd at*
    generalize qdi d.1 j=wl at*
    generalize (qco d.1).count (j:Int)=cn at*
    generalize m (j:Int)=mj at*
    generalize G j=gj at*
    by_cases hk0:kd=0
    · have hb0: (kd==0)=true:=by simpa using hk0
      have HR:Hid (∀k,k<j+1→qbA d.1 k=true):=HY.out (by rw [HO.out];simp [hk0])
      clear hk0 HO HY HNO
      go_wp2
      go_roundw
      case rel=>exact ⟨j+1,by omega,by go_num,HBL.out,HR.out⟩
      case measure=>simp [intOf];omega
    · have hb0 : (kd==0)=false:=by simpa using hk0
      have HO2:Hid (qbA d.1 j= (decide (((cn:Nat):Int)=wl)&&gj)):=by unfold Hid;rw [HO.out];simp [hk0]
      clear hk0 HO
      by_cases hcw: ((cn:Nat):Int)=wl
      rotate_left
      · have hbc: (((cn:Nat):Int) !=wl)=true:=by simpa using hcw
        have hbd: (((cn:Nat):Int)==wl)=false:=by simpa using hcw
        have HR:Hid (qhE d.1=1):=HNO.out (by rw [HO2.out,decide_eq_false hcw];rfl)
        clear hcw HO2 HY HNO
        go_wp2_with fail
        first
        | go_region_with (first
          | (go_at_call 89;refine (HLOJ.out _ HBW.out.drew).mono ?_;rintro e w2 ⟨rfl,hb2⟩
             have hfd:=qcN 0 ((cn:Nat):Int)
             have y0:=cell_later hb2 x0
             have y1:=cell_later hb2 x1
             have HB2:Hid (Below wr.heap.size wr w2):= (Below.refl _ _).drew.trans hb2
             clear hb2)
          | (go_at_call 90;refine (HLDJ.out _ (HBW.out.trans (HB2.out.mono HBW.out.size))).mono ?_;rintro e w3 ⟨rfl,hb3⟩
             have z0:=cell_later hb3 y0
             have z1:=cell_later hb3 y1
             have HB3:Hid (Below wr.heap.size wr w3):=HB2.out.trans (hb3.mono HB2.out.size)
             clear hb3)
          |fail)
        |fail
        all_goals
         go_wp2
         go_ret
         exact ⟨qad HR.out.symm,HBW.out.trans (HB3.out.mono HBW.out.size)⟩
      · have hbc: (((cn:Nat):Int) !=wl)=false:=by simpa using hcw
        have hbd: (((cn:Nat):Int)==wl)=true:=by simpa using hcw
        have HO3:Hid (qbA d.1 j=gj):=by unfold Hid;rw [HO2.out,decide_eq_true hcw];simp
        clear hcw HO2
        cases gj with
        | true =>
          have HR:Hid (∀k,k<j+1→qbA d.1 k=true):=HY.out HO3.out
          clear HO3 HY HNO
          go_wp2_with fail
          go_region_held3 (fun W=>W.cell? ⟨w.heap.size,0,none⟩=some (.slice (some ⟨b0,o0,none⟩) n cI)∧W.cell? ⟨w.heap.size,1,none⟩=some (.slice aD nD cD)) (go_keep) (first
           | (go_at_call 89;refine (HLOJ.out _ HBW.out.drew).mono ?_;rintro e w2 ⟨rfl,hb2⟩
              have hfd:=qcN 0 ((cn:Nat):Int)
              have y0:=cell_later hb2 x0
              have y1:=cell_later hb2 x1
              have HB2:Hid (Below wr.heap.size wr w2):= (Below.refl _ _).drew.trans hb2
              clear hb2)
           | (go_at_call 90;refine (HLDJ.out _ (HBW.out.trans (HB2.out.mono HBW.out.size))).mono ?_;rintro e w3 ⟨rfl,hb3⟩
              have z0:=cell_later hb3 y0
              have z1:=cell_later hb3 y1
              have HB3:Hid (Below wr.heap.size wr w3):=HB2.out.trans (hb3.mono HB2.out.size)
              have hlk:=HLKJ.out w3 (HBL.out.trans (HB3.out.mono HBL.out.size))
              clear hb3)
           |fail)
          all_goals
           go_wp2
           go_roundw
           case rel=>exact ⟨j+1,by omega,by go_num,HBL.out.trans (HB3.out.mono HBL.out.size),HR.out⟩
           case measure=>simp [intOf];omega
        | false=>
          have HR:Hid (qhE d.1=1):=HNO.out HO3.out
          clear HO3 HY HNO
          go_wp2_with fail
          go_region_held3 (fun W=>W.cell? ⟨w.heap.size,0,none⟩=some (.slice (some ⟨b0,o0,none⟩) n cI)∧W.cell? ⟨w.heap.size,1,none⟩=some (.slice aD nD cD)) (go_keep) (first
           | (go_at_call 89;refine (HLOJ.out _ HBW.out.drew).mono ?_;rintro e w2 ⟨rfl,hb2⟩
              have hfd:=qcN 0 ((cn:Nat):Int)
              have y0:=cell_later hb2 x0
              have y1:=cell_later hb2 x1
              have HB2:Hid (Below wr.heap.size wr w2):= (Below.refl _ _).drew.trans hb2
              clear hb2)
           | (go_at_call 90;refine (HLDJ.out _ (HBW.out.trans (HB2.out.mono HBW.out.size))).mono ?_;rintro e w3 ⟨rfl,hb3⟩
              have z0:=cell_later hb3 y0
              have z1:=cell_later hb3 y1
              have HB3:Hid (Below wr.heap.size wr w3):=HB2.out.trans (hb3.mono HB2.out.size)
              have hlk:=HLKJ.out w3 (HBL.out.trans (HB3.out.mono HBL.out.size))
              clear hb3)
           |fail)
          all_goals
           go_wp2
           go_ret
           exact ⟨qad HR.out.symm,HBW.out.trans (HB3.out.mono HBW.out.size)⟩
  · have HR:Hid (qhE d.1=0):=by unfold Hid qhE;rw [qgK fun i hi=>HZ.out i (by rw [HN.out] at hi;omega)];rfl
    go_wp2
    go_ret
    exact ⟨qad HR.out.symm,HBW.out⟩
end Go.Proofs.YthnmlipnoajmkaaGreatDoor

namespace Go.Proofs.YthnmlipnoajmkaaGreatDoor
open Go.RowKit
set_option maxRecDepth 100000

def qdN (f:Nat→Int):Array Value:= ((List.range 20).map fun i=>qjO (f i)).toArray
theorem qbC (f:Nat→Int): (qdN f).size=20:=by simp [qdN]
theorem qhG (f:Nat→Int) {i:Nat} (h:i<20): (qdN f)[i]?=some (.int .i64 (f i)):=by
 simp [qdN,h,qjO]
theorem qox (f:Nat→Int) (q:Nat) (x:Int): (qdN f).setIfInBounds q (.int .i64 x)=qdN (fun i=>if i=q then x else f i):=by
 apply Array.ext_getElem?
 intro i
 rw [Array.getElem?_setIfInBounds]
 by_cases hi:i<20
 · rw [qhG _ hi,qhG _ hi,qbC]
   by_cases e:q=i
   · subst e;simp [hi]
   · rw [if_neg e,if_neg (fun h=>e h.symm)]
 · have h1: (qdN f)[i]?=none:=by rw [Array.getElem?_eq_none_iff,qbC];omega
   have h2: (qdN (fun i=>if i=q then x else f i))[i]?=none:=by rw [Array.getElem?_eq_none_iff,qbC];omega
   rw [h1,h2,qbC]
   by_cases e:q=i
   · subst e;simp [hi]
   · rw [if_neg e]
def ArI (w:World) (b:Nat) (f:Nat→Int):Prop:=w.heap[b]?=some (.cells (qdN f) 123)
theorem ArI.cell {w:World} {b:Nat} {f:Nat→Int} (h:ArI w b f) {i:Nat} (hi:i<20):w.cell? ⟨b,i,none⟩=some (.int .i64 (f i)):=by
 simp [World.cell?,show w.heap[b]?=some (.cells (qdN f) 123) from h,qhG f hi]
theorem ArI.frozen {w:World} {b:Nat} {f:Nat→Int} (h:ArI w b f) (i:Nat):w.frozen? ⟨b,i,none⟩=false:=by
 simp [World.frozen?,show w.heap[b]?=some (.cells (qdN f) 123) from h]
theorem ArI.lt {w:World} {b:Nat} {f:Nat→Int} (h:ArI w b f):b<w.heap.size:= (Array.getElem?_eq_some_iff.1 h).1
theorem ArI.later {w w':World} {b:Nat} {f:Nat→Int} (h:ArI w b f) (hb:Below w.heap.size w w'):ArI w' b f:= (hb.block b h.lt).trans h
theorem ArI.set {w:World} {b:Nat} {f:Nat→Int} (h:ArI w b f) (q:Nat) (x:Int):ArI (w.setCell ⟨b,q,none⟩ (.int .i64 x)) b (fun i=>if i=q then x else f i):=by
 have h':w.heap[b]?=some (.cells (qdN f) 123):=h
 unfold ArI
 rw [←qox f q x]
 simp [World.setCell,Array.getElem?_modify,h']
theorem ArI.store {w:World} {b:Nat} {f:Nat→Int} (h:ArI w b f) {p:Addr} (hp:b≠p.block) (v:Value):ArI (w.setCell p v) b f:= (Below.heap_setCell _ _ _ _ hp).trans h
theorem ArI.new (w:World) (f:Nat→Int):ArI (w.alloc (.cells (qdN f) 123)) w.heap.size f:=Go.Deep.blk_alloc_new _ _

theorem qoy (f:Nat→Int): (qdN f).all (·.oneCell')=true:=by
 unfold qdN
 rw [Array.all_eq_true_iff_forall_mem]
 intro v hv
 simp only [List.mem_toArray,List.mem_map] at hv
 obtain ⟨i,_,rfl⟩:=hv
 rfl
theorem Tryz.infoA20: (Tryz.prog.info? 123).map (·.size)=some 20:=by kernel_rfl
theorem ArI.load {w:World} {b:Nat} {f:Nat→Int} (h:ArI w b f): (Instr.loadAt 123 (.pointer (some ⟨b,0,none⟩))).run Tryz.prog w= .ok (.agg (qdN f)) w:=by
 simp only [Instr.loadAt,Instr.sureAddr,Sem.run_bind,Sem.run_pure,Result.andThen]
 exact run_loadVar_row w b _ _ (qdN f) (0,0) _ h Tryz.underlying123 rfl (by rw [qbC];exact Tryz.infoA20)
theorem ArI.loadV {w:World} {b:Nat} {f:Nat→Int} (h:ArI w b f): (loadVar 123 ⟨b,0,none⟩).run Tryz.prog w= .ok (.agg (qdN f)) w:=
 run_loadVar_row w b _ _ (qdN f) (0,0) _ h Tryz.underlying123 rfl (by rw [qbC];exact Tryz.infoA20)
theorem ArI.put {w:World} {b:Nat} {f:Nat→Int} (h:ArI w b f) (g:Nat→Int): ∃X,(Instr.storeAt 123 (.pointer (some ⟨b,0,none⟩)) (.agg (qdN g))).run Tryz.prog w= .ok () X∧ArI X b g∧X.heap.size=w.heap.size∧ (∀c,c≠b→X.heap[c]?=w.heap[c]?)∧X.os=w.os∧X.tape=w.tape∧X.output=w.output:=by
 refine ⟨w.setRow b (qdN g), ?_, ?_, ?_,fun c hc=> ?_,rfl,rfl,rfl⟩
 · simp only [Instr.storeAt,Instr.sureAddr,Sem.run_bind,Sem.run_pure,Result.andThen]
   rw [run_storeVar_row w b _ _ (qdN f) (qdN g) h (by rw [qbC];exact Tryz.infoA20) (by rw [qbC,qbC]) (qoy g)]
 · have h':w.heap[b]?=some (.cells (qdN f) 123):=h
   unfold ArI
   simp [World.setRow,Array.getElem?_modify,h']
 · simp [World.setRow]
 · simp only [World.setRow]
   rw [Array.getElem?_modify,if_neg (fun e=>hc e.symm)]

theorem qpZ {s:Int} {nB k:Nat} (hn: ((nB:Nat):Int)= (s+7)/8) (hk:k+1<nB):s-8* (k:Int)-m8 (s-8* (k:Int))=s-8* ((k+1:Nat):Int):=by
 unfold m8
 rw [if_pos (by omega)]
 omega
set_option maxHeartbeats 3200000 in
theorem qhH (w:World) (a:Option Addr) (n c:Nat) (ds:List ID) (hdn:ds.length=n) (hn:n≤10) (hi:qaY ds=0) (hc:AtI w a n ds):
 Calls Tryz.prog 91 #[.slice a n c] w fun e w'=>e= .returned (.agg (qdN (qjd ds n)))∧Below w.heap.size w w':=by
 have HC:Hid (AtI w a n ds):=hc
 have HINO:Hid (∀j,j<n→qbl (ds[j]?.getD id0)=0):=by rw [←hdn];exact qaM hi
 have HBK:Hid (∀j k:Nat,j<n→k< (ds[j]?.getD id0).2.2.2.1.length→0≤ (ds[j]?.getD id0).2.2.2.1[k]?.getD 0∧ (ds[j]?.getD id0).2.2.2.1[k]?.getD 0<20):=by rw [←hdn];exact qfV hi
 have HDS:Hid (∀j,qjd ds (j+1)=qkO (ds[j]?.getD id0).2.2.1 (ds[j]?.getD id0).2.2.2.1 (qjd ds j) (ds[j]?.getD id0).2.2.2.1.length):=fun j=>rfl
 have HD0:Hid ((fun _:Nat=> (0:Int))=qjd ds 0):=rfl
 clear hc hdn hi
 have z0:=ArI.new w (fun _=>0)
 have z1:=ArI.new (w.alloc (.cells (qdN fun _=>0) 123)) (fun _=>0)
 replace z0:=z0.later (qab _ (.cells (qdN fun _=>0) 123))
 rw [World.size_alloc] at z1
 have HB0:Hid (Below w.heap.size w ((w.alloc (.cells (qdN fun _=>0) 123)).alloc (.cells (qdN fun _=>0) 123))):=qam _ _ _
 have HZ0:Hid (ArI _ _ _):=z0
 have HZ1:Hid (ArI _ _ _):=z1
 clear z0 z1
 generalize qjd ds=DU at*
 go_enter Tryz.func91,Tryz.ntmps91
 go_wp2
 go_loopw [11] (fun i wr=> ∃j:Nat,j≤n∧i= .int .i64 j∧Below w.heap.size w wr∧ArI wr (w.heap.size+1) (DU j)∧ArI wr w.heap.size (fun _=>0)) (fun i _=>n- (intOf i).toNat)
 case atStart=>exact ⟨0,Nat.zero_le _,rfl,HB0.out,HD0.out▸HZ1.out,HZ0.out⟩
 case round=>
  clear HB0 HZ0 HZ1
  obtain ⟨j,hj,rfl,hbl,hx,hy⟩:=hrel
  have HBL:Hid (Below w.heap.size w wr):=hbl
  have HA:Hid (ArI wr (w.heap.size+1) (DU j)):=hx
  have HY:Hid (ArI wr w.heap.size (fun _=>0)):=hy
  have hw0:=hx.lt
  clear hbl hx hy
  by_cases hlt:j<n
  · obtain ⟨b,o,rfl,hI⟩:=HC.out j hlt
    obtain ⟨aB,cB,aE,cE,c0,c1,c2,c3,c4,hR⟩:=hI
    replace c0:=cell_later HBL.out c0
    replace c1:=cell_later HBL.out c1
    replace c2:=cell_later HBL.out c2
    replace c3:=cell_later HBL.out c3
    replace c4:=cell_later HBL.out c4
    obtain ⟨_,_,e3,hm3,hI1⟩:=hR.2.1.open'
    simp only [Value.slice.injEq] at e3
    obtain ⟨rfl,_,rfl⟩:=e3
    have hsz:=qb9 (HINO.out j hlt)
    have hbk:=HBK.out j
    have HBKJ:Hid (∀k,k< (ds[j]?.getD id0).2.2.2.1.length→0≤ (ds[j]?.getD id0).2.2.2.1[k]?.getD 0∧ (ds[j]?.getD id0).2.2.2.1[k]?.getD 0<20):=fun k hk=>hbk k hlt hk
    have HDJ:Hid (DU (j+1)=qkO (ds[j]?.getD id0).2.2.1 (ds[j]?.getD id0).2.2.2.1 (DU j) (ds[j]?.getD id0).2.2.2.1.length):=HDS.out j
    clear hR hm3 hbk
    generalize (ds[j]?.getD id0)=dj at*
    obtain ⟨dk,dl,s,bs,es⟩:=dj
    dsimp only at*
    have HIB:Hid (At1 w aB bs.length (fun k=> .int .i64 (bs[k]?.getD 0))):=hI1
    have hb4:bs.length≤4:=by omega
    obtain ⟨nB,hnB⟩: ∃nB,bs.length=nB:= ⟨_,rfl⟩
    rw [hnB] at c3 HIB HBKJ HDJ hb4 hsz
    clear hI1 hnB
    have HK0:Hid (qkO s bs (DU j) 0=DU j):=rfl
    have HKS:Hid (∀k,qkO s bs (DU j) (k+1)=qqB (qkO s bs (DU j) k) (bs[k]?.getD 0) (m8 (s-8* (k:Int)))):=fun k=>rfl
    have HML:Hid (∀k,k+1<nB→s-8* (k:Int)-m8 (s-8* (k:Int))=s-8* ((k+1:Nat):Int)):=fun k hk=>qpZ hsz.2.2 hk
    have hs0:=hsz.1
    have hs1:=hsz.2.1
    clear hsz
    generalize qkO s bs (DU j)=DK at*
    generalize es.length=nE at*
    go_wp2
    clear c0 c1 c2 c3 c4
    go_loopw [6,20] (fun l i wr2=> ∃ (k:Nat) (lf:Int),k≤nB∧i= .int .i64 k∧l= .int .i64 lf∧ (k<nB→lf=s-8* (k:Int))∧Below w.heap.size w wr2∧ArI wr2 (w.heap.size+1) (DK k)∧ArI wr2 w.heap.size (fun _=>0)) (fun _ i _=>nB- (intOf i).toNat)
    case atStart=>exact ⟨0,s,Nat.zero_le _,rfl,rfl,fun _=>by simp,HBL.out.trans ((qab _ _).mono HBL.out.size),by rw [HK0.out];exact HA.out.later (qab _ _),HY.out.later (qab _ _)⟩
    case round=>
     obtain ⟨k,lf,hk,rfl,rfl,hlf,hbl2,hx2,hy2⟩:=hrel
     have HB2:Hid (Below w.heap.size w wr):=hbl2
     have HA2:Hid (ArI wr (w.heap.size+1) (DK k)):=hx2
     have HY2:Hid (ArI wr w.heap.size (fun _=>0)):=hy2
     have HLF:Hid (k<nB→lf=s-8* (k:Int)):=hlf
     clear hbl2 hx2 hy2 hlf HA HY HBL
     by_cases hlk:k<nB
     · obtain ⟨b1,o1,rfl,p1⟩:=HIB.out k hlk
       replace p1:w.cell? ⟨b1,o1+k,none⟩=some (.int .i64 (bs[k]?.getD 0)):=p1
       replace p1:=cell_later HB2.out p1
       have hbr:=HBKJ.out k hlk
       have HST:Hid (DK (k+1)=qqB (DK k) (bs[k]?.getD 0) (m8 lf)):=by rw [HLF.out hlk];exact HKS.out k
       have HMK:Hid (k+1<nB→lf-m8 lf=s-8* ((k+1:Nat):Int)):=fun h=>by rw [HLF.out hlk];exact HML.out k h
       have hl0: -32≤lf∧lf≤32:=by have:=HLF.out hlk;omega
       generalize bs[k]?.getD 0=x at*
       obtain ⟨y,rfl⟩: ∃y:Nat,x= (y:Int):= ⟨x.toNat,by omega⟩
       have hy:y<20:=by omega
       have r0:=HA2.out.cell hy
       have r1:=HA2.out.frozen y
       have hw2:=HA2.out.lt
       clear hbr
       have HM:Hid (m8 lf=min lf 8):=by unfold Hid m8;split<;>omega
       rw [HM.out] at HST HMK
       have HA3:Hid (ArI (wr.setCell ⟨w.heap.size+1,y,none⟩ (.int .i64 (min lf 8))) (w.heap.size+1) (DK (k+1))):=by
        have:=HA2.out.set y (min lf 8)
        rw [HST.out]
        exact this
       have HY3:Hid (ArI (wr.setCell ⟨w.heap.size+1,y,none⟩ (.int .i64 (min lf 8))) w.heap.size (fun _=>0)):=HY2.out.store (by simp) _
       have HB3:Hid (Below w.heap.size w (wr.setCell ⟨w.heap.size+1,y,none⟩ (.int .i64 (min lf 8)))):=HB2.out.setCell (by simp) _
       generalize DK k y=rv at*
       go_wp2
       go_roundw
       case rel=>exact ⟨k+1,lf-min lf 8,by omega,by go_num,by go_num,HMK.out,HB3.out,HA3.out,HY3.out⟩
       case measure=>simp [intOf];omega
     · have HE:Hid (DK k=DU (j+1)):=by unfold Hid;rw [HDJ.out,show k=nB by omega]
       go_wp2
       go_roundw
       case rel=>exact ⟨j+1,by omega,by go_num,HB2.out,by rw [←HE.out];exact HA2.out,HY2.out⟩
       case measure=>simp [intOf];omega
  · have HGN:Hid (DU j=DU n):=by unfold Hid;rw [show j=n by omega]
    have HL:Hid (_=_):=HA.out.load
    obtain ⟨X,hst,hax,hsx,hoth,hx1,hx2,hx3⟩:=HY.out.put (DU j)
    have HST:Hid (_=_):=hst
    have HAX:Hid (ArI X w.heap.size (DU n)):=HGN.out▸hax
    have HBX:Hid (Below w.heap.size w X):=HBL.out.trans ⟨hx1,hx2,hx3,by omega,fun c hc=>hoth c (by omega)⟩
    clear hst hax hsx hoth hx1 hx2 hx3
    generalize DU j=g1 at HL HST
    go_wp2_with (first|refine qbB rfl _ 123 rfl _ rfl _ _ HL.out ?_|refine qa5 rfl _ _ 123 rfl _ _ rfl rfl _ HST.out ?_)
    refine bodyPost_ret (v:= .agg (qdN (DU n))) ?_ rfl ⟨rfl,HBX.out⟩
    have hlv:=HAX.out.loadV
    simp [results,Tryz.results91,asAddr,Act.put,hlv]
theorem qiO {w:World} {v:Value} {ds:List ID} (h:qdJ w v ds) (hi:qaY ds=0):
 Calls Tryz.prog 91 #[v] w fun e w'=>e= .returned (.agg (qdN (qjd ds ds.length)))∧Below w.heap.size w w':=by
 obtain ⟨a,cap,rfl,hm,hc⟩:=h.open'
 exact qhH w a _ cap ds rfl (qbM hi) hi hc

def qo4 (d:FD):Int:=if qbI d then 0 else 1
set_option maxHeartbeats 3200000 in
theorem qgq (w:World) (aI:Option Addr) (nI cI:Nat) (aD:Option Addr) (nD cD:Nat) (d:FD) (h:FsR w (.slice aI nI cI) (.slice aD nD cD) d) (hi:qaY d.1=0) (h20:d.2.length=20):
 Calls Tryz.prog 54 #[.agg #[.slice aI nI cI, .slice aD nD cD]] w fun e w'=>e= .returned (.int .i64 (qo4 d))∧Below w.heap.size w w':=by
 have HBD:Hid (∀W,Below w.heap.size w W→Calls Tryz.prog 91 #[.slice aI nI cI] W fun e w'=>e= .returned (.agg (qdN (qjd d.1 d.1.length)))∧Below W.heap.size W w'):=fun W hW=>qiO (h.1.later hW) hi
 have HX:Hid (Bx (w.alloc (.cells #[.slice aI nI cI, .slice aD nD cD] 31)) w.heap.size [.slice aI nI cI, .slice aD nD cD]):=Bx.new w [.slice aI nI cI, .slice aD nD cD] _
 obtain ⟨_,_,e2,hm2,hc⟩:=h.2.open'
 simp only [Value.slice.injEq] at e2
 obtain ⟨rfl,rfl,rfl⟩:=e2
 rw [h20] at HX hc ⊢
 have HC:Hid (qgi w aD 20 d.2):=hc
 have HSO:Hid (∀i,qc4 d i=decide ((((d.2[i]?.getD []).length:Nat):Int)=qjd d.1 d.1.length i)):=fun i=>rfl
 clear hc h hm2 hi h20
 generalize qjd d.1 d.1.length=DU at*
 go_enter Tryz.func54,Tryz.ntmps54
 go_wp2_with fail
 refine (HBD.out _ (qab _ _)).mono ?_
 rintro e w1 ⟨rfl,hb1⟩
 have HB1:Hid (Below w.heap.size w w1):= (qab _ _).trans (hb1.mono (by simp))
 have HX1:Hid (Bx w1 w.heap.size [.slice aI nI cI, .slice aD 20 cD]):=HX.out.later hb1
 clear hb1 HX HBD
 have hz1:w.heap.size<w1.heap.size:=HX1.out.lt
 obtain ⟨X,hst,hax,hsx,hoth,hx1,hx2,hx3⟩:= (ArI.new w1 (fun _=>0)).put DU
 have HST:Hid (_=_):=hst
 have HAX:Hid (ArI X w1.heap.size DU):=hax
 have HBX:Hid (Below w1.heap.size w1 X):= (qab w1 (.cells (qdN fun _=>0) 123)).trans ⟨hx1,hx2,hx3,by omega,fun c hc=>hoth c (by omega)⟩
 have HXX:Hid (Bx X w.heap.size [.slice aI nI cI, .slice aD 20 cD]):=HX1.out.later HBX.out
 have HBW:Hid (Below w.heap.size w X):=HB1.out.trans (HBX.out.mono HB1.out.size)
 clear hst hax hsx hoth hx1 hx2 hx3
 have x1:=HXX.out 1 _ rfl
 go_wp2_with (first|refine qa5 rfl _ _ 123 rfl _ _ rfl rfl _ HST.out ?_|fail)
 clear HST
 go_loopw [12] (fun i wr=> ∃k:Nat,k≤20∧i= .int .i64 k∧wr=X∧ ∀q,q<k→qc4 d q=true) (fun i _=>20- (intOf i).toNat)
 case atStart=>exact ⟨0,by omega,rfl,rfl,fun q hq=>by omega⟩
 case round=>
  obtain ⟨k,hk,rfl,rfl,hz⟩:=hrel
  have HZ:Hid (∀q,q<k→qc4 d q=true):=hz
  clear hz x1
  by_cases hlk:k<20
  · obtain ⟨bD,oD,ua,uc,rfl,d0,_⟩:=HC.out k hlk
    replace d0:=cell_later HBW.out d0
    have r0:=HAX.out.cell hlk
    have HSK:Hid (qc4 d k=decide ((((d.2[k]?.getD []).length:Nat):Int)=DU k)):=HSO.out k
    have HY:Hid (qc4 d k=true→ ∀q,q<k+1→qc4 d q=true):=fun hh q hq=>by
     by_cases e:q=k
     · subst e;exact hh
     · exact HZ.out q (by omega)
    have HNO:Hid (qc4 d k=false→qo4 d=1):=fun hh=>by unfold qo4;rw [qiC hlk hh];rfl
    generalize (d.2[k]?.getD []).length=ln at*
    generalize DU k=du at*
    by_cases he: ((ln:Nat):Int)=du
    · have hb: (((ln:Nat):Int) !=du)=false:=by simpa using he
      have HR:Hid (∀q,q<k+1→qc4 d q=true):=HY.out (by rw [HSK.out,decide_eq_true he])
      clear he HSK HY HNO
      go_wp2
      go_roundw
      case rel=>exact ⟨k+1,by omega,by go_num,by first|rfl|trivial,HR.out⟩
      case measure=>simp [intOf];omega
    · have hb: (((ln:Nat):Int) !=du)=true:=by simpa using he
      have HR:Hid (qo4 d=1):=HNO.out (by rw [HSK.out,decide_eq_false he])
      clear he HSK HY HNO
      go_wp2
      go_ret
      exact ⟨qad HR.out.symm,HBW.out⟩
  · have HR:Hid (qo4 d=0):=by unfold Hid qo4;rw [qgL fun i hi=>HZ.out i (by omega)];rfl
    go_wp2
    go_ret
    exact ⟨qad HR.out.symm,HBW.out⟩

theorem qrq (d:FD):fsE d=if qaY d.1=0 then (if d.1.length=0∨ ¬qae d.1 0=2 then 1 else if qey d=0 then qcA d.1 else qey d) else qaY d.1:=by
 unfold fsE qey qfQ
 by_cases h1:qaY d.1=0
 · rw [if_pos h1,if_pos h1]
   by_cases h2:d.1.length=0∨ ¬qae d.1 0=2
   · rw [if_pos h2,if_pos (by rcases h2 with h|h<;>simp [h])]
   · rw [if_neg h2]
     have h2a: ¬d.1.length=0:=fun e=>h2 (Or.inl e)
     have h2b:qae d.1 0=2:=Classical.byContradiction fun e=>h2 (Or.inr e)
     by_cases h3:d.2.length=20
     · rw [if_neg (by simp [h2b,h3];intro e;exact h2a (by rw [e];rfl)),if_pos h3]
       by_cases h4:qaJ (qbz d.2) d.2.length=0
       · rw [if_pos h4]
         by_cases h5:qb8 d.1 20=true
         · rw [if_pos h5];simp [h4,h5]
         · rw [if_neg h5];simp [h4,h5]
       · rw [if_neg h4,if_neg h4,if_neg h4]
     · rw [if_pos (by simp [h3]),if_neg h3];simp
 · rw [if_neg h1,if_neg h1]
def qgS (ds:List ID):Int:=if qaY ds=0 then (if ds.length=0∨ ¬qae ds 0=2 then 1 else 0) else qaY ds
theorem qp0 (d:FD):fsE d=if qgS d.1=0 then (if qey d=0 then qcA d.1 else qey d) else qgS d.1:=by
 rw [qrq];unfold qgS
 by_cases h1:qaY d.1=0
 · rw [if_pos h1,if_pos h1]
   by_cases h2:d.1.length=0∨ ¬qae d.1 0=2
   · rw [if_pos h2,if_pos h2,if_neg (by decide)]
   · rw [if_neg h2,if_neg h2,if_pos rfl]
 · rw [if_neg h1,if_neg h1,if_neg h1]
theorem qp1 {ds:List ID} (h:qgS ds=0):qaY ds=0:=by
 unfold qgS at h
 by_cases h1:qaY ds=0
 · exact h1
 · simp [h1] at h
set_option maxHeartbeats 3200000 in
theorem qiP (w:World) (aI:Option Addr) (nI cI:Nat) (ds:List ID) (h:qdJ w (.slice aI nI cI) ds) (hs:qag ds≤1048576):
 Calls Tryz.prog 85 #[.slice aI nI cI] w fun e w'=>e= .returned (.int .i64 (qgS ds))∧Below w.heap.size w w':=by
 have HF:Hid (∀W,Below w.heap.size w W→Calls Tryz.prog 116 #[.slice aI nI cI] W fun e w'=>e= .returned (.int .i64 (qaY ds))∧Below W.heap.size W w'):=fun W hW=>qdp (h.later hW) hs
 have HE:Hid (qgS ds=if qaY ds=0 then (if ds.length=0∨ ¬qae ds 0=2 then 1 else 0) else qaY ds):=rfl
 by_cases h1:qaY ds=0
 rotate_left
 · have HR:Hid (qgS ds=qaY ds):=by unfold Hid;rw [HE.out,if_neg h1]
   have hb: (qaY ds !=0)=true:=by simpa using h1
   clear HE h1 h
   generalize qaY ds=r at*
   generalize qgS ds=tf at*
   go_enter Tryz.func85,Tryz.ntmps85
   go_wp2_with fail
   refine (HF.out _ (Below.refl _ _)).mono ?_
   rintro e w1 ⟨rfl,hb1⟩
   go_wp2
   go_ret
   exact ⟨qad HR.out.symm,hb1⟩
 · obtain ⟨_,_,e2,hm2,hc⟩:=h.open'
   simp only [Value.slice.injEq] at e2
   obtain ⟨rfl,rfl,rfl⟩:=e2
   rw [h1,if_pos rfl] at HE
   rw [h1] at HF
   have HC:Hid (AtI w aI ds.length ds):=hc
   clear h h1 hc hs hm2
   by_cases h0:ds.length=0
   · have hb0: (((ds.length:Nat):Int)==0)=true:=by simp [h0]
     have HR:Hid (qgS ds=1):=by unfold Hid;rw [HE.out,if_pos (Or.inl h0)]
     clear HE h0 HC
     generalize qgS ds=tf at*
     generalize ds.length=n at*
     go_enter Tryz.func85,Tryz.ntmps85
     go_wp2_with fail
     refine (HF.out _ (Below.refl _ _)).mono ?_
     rintro e w1 ⟨rfl,hb1⟩
     go_wp2
     go_ret
     exact ⟨qad HR.out.symm,hb1⟩
   · have hb0: (((ds.length:Nat):Int)==0)=false:=by simp;intro e;exact h0 (by rw [e];rfl)
     obtain ⟨b0,o0,rfl,hI⟩:=HC.out 0 (by omega)
     obtain ⟨_,_,_,_,kc,_⟩:=hI
     replace kc:w.cell? ⟨b0,o0,none⟩=some (.int .i64 (qae ds 0)):=by simpa [qae] using kc
     have h00:0<ds.length:=by omega
     have HE2:Hid (qgS ds=if ¬qae ds 0=2 then 1 else 0):=by
      unfold Hid;rw [HE.out];simp only [h0,false_or]
     clear HE h0 HC
     generalize qgS ds=tf at*
     generalize ds.length=n at*
     generalize qae ds 0=kd at*
     by_cases hk:kd=2
     · have hb2: (kd !=2)=false:=by simpa using hk
       have HR:Hid (tf=0):=by unfold Hid;rw [HE2.out,if_neg (by simp [hk])]
       clear HE2 hk
       go_enter Tryz.func85,Tryz.ntmps85
       go_wp2_with fail
       refine (HF.out _ (Below.refl _ _)).mono ?_
       rintro e w1 ⟨rfl,hb1⟩
       replace kc:=cell_later hb1 kc
       go_wp2
       go_ret
       exact ⟨qad HR.out.symm,hb1⟩
     · have hb2: (kd !=2)=true:=by simpa using hk
       have HR:Hid (tf=1):=by unfold Hid;rw [HE2.out,if_pos hk]
       clear HE2 hk
       go_enter Tryz.func85,Tryz.ntmps85
       go_wp2_with fail
       refine (HF.out _ (Below.refl _ _)).mono ?_
       rintro e w1 ⟨rfl,hb1⟩
       replace kc:=cell_later hb1 kc
       go_wp2
       go_ret
       exact ⟨qad HR.out.symm,hb1⟩
set_option maxHeartbeats 3200000 in
theorem qdT (w:World) (aI:Option Addr) (nI cI:Nat) (aD:Option Addr) (nD cD:Nat) (d:FD) (h:FsR w (.slice aI nI cI) (.slice aD nD cD) d) (hs:qag d.1≤1048576):
 Calls Tryz.prog 52 #[.agg #[.slice aI nI cI, .slice aD nD cD]] w fun e w'=>e= .returned (.int .i64 (fsE d))∧Below w.heap.size w w':=by
 have HF:Hid (∀W,Below w.heap.size w W→Calls Tryz.prog 85 #[.slice aI nI cI] W fun e w'=>e= .returned (.int .i64 (qgS d.1))∧Below W.heap.size W w'):=fun W hW=>qiP W aI nI cI d.1 (h.1.later hW) hs
 have HE:Hid (fsE d=if qgS d.1=0 then (if qey d=0 then qcA d.1 else qey d) else qgS d.1):=qp0 d
 have HX:Hid (Bx (w.alloc (.cells #[.slice aI nI cI, .slice aD nD cD] 31)) w.heap.size [.slice aI nI cI, .slice aD nD cD]):=Bx.new w [.slice aI nI cI, .slice aD nD cD] _
 by_cases h1:qgS d.1=0
 rotate_left
 · have HR:Hid (fsE d=qgS d.1):=by unfold Hid;rw [HE.out,if_neg h1]
   have hb: (qgS d.1 !=0)=true:=by simpa using h1
   clear HE h1 h
   generalize qgS d.1=r at*
   go_enter Tryz.func52,Tryz.ntmps52
   go_wp2_with fail
   refine (HF.out _ (qab _ _)).mono ?_
   rintro e w1 ⟨rfl,hb1⟩
   have HB1:Hid (Below w.heap.size w w1):= (qab _ _).trans (hb1.mono (by simp))
   clear hb1
   go_wp2
   go_ret
   exact ⟨qad HR.out.symm,HB1.out⟩
 · have h1':=qp1 h1
   have HD:Hid (∀W,Below w.heap.size w W→Calls Tryz.prog 86 #[.agg #[.slice aI nI cI, .slice aD nD cD]] W fun e w'=>e= .returned (.int .i64 (qey d))∧Below W.heap.size W w'):=fun W hW=>qhB W aI nI cI aD nD cD d (h.later hW) hs h1'
   have HN:Hid (∀W,Below w.heap.size w W→Calls Tryz.prog 87 #[.agg #[.slice aI nI cI, .slice aD nD cD]] W fun e w'=>e= .returned (.int .i64 (qcA d.1))∧Below W.heap.size W w'):=fun W hW=>qfi W aI nI cI aD nD cD d (h.later hW) hs h1'
   rw [h1,if_pos rfl] at HE
   rw [h1] at HF
   clear h h1 h1' hs
   generalize qey d=df at*
   generalize qcA d.1=lf at*
   by_cases hd:df=0
   · have hb3: (df !=0)=false:=by simpa using hd
     have HR:Hid (fsE d=lf):=by unfold Hid;rw [HE.out,if_pos hd]
     clear HE hd
     go_enter Tryz.func52,Tryz.ntmps52
     go_wp2_with fail
     refine (HF.out _ (qab _ _)).mono ?_
     rintro e w1 ⟨rfl,hb1⟩
     have HB1:Hid (Below w.heap.size w w1):= (qab _ _).trans (hb1.mono (by simp))
     have HX1:Hid (Bx w1 w.heap.size _):=HX.out.later hb1
     have x0:=HX1.out 0 _ rfl
     have x1:=HX1.out 1 _ rfl
     clear hb1
     go_wp2_with fail
     refine (HD.out _ HB1.out).mono ?_
     rintro e w2 ⟨rfl,hb2'⟩
     have HB2:Hid (Below w.heap.size w w2):=HB1.out.trans (hb2'.mono HB1.out.size)
     have y0:= (HX1.out.later hb2') 0 _ rfl
     have y1:= (HX1.out.later hb2') 1 _ rfl
     clear hb2' x0 x1
     go_wp2_with fail
     refine (HN.out _ HB2.out).mono ?_
     rintro e w3 ⟨rfl,hb3'⟩
     have HB3:Hid (Below w.heap.size w w3):=HB2.out.trans (hb3'.mono HB2.out.size)
     clear hb3'
     go_wp2
     go_ret
     exact ⟨qad HR.out.symm,HB3.out⟩
   · have hb3: (df !=0)=true:=by simpa using hd
     have HR:Hid (fsE d=df):=by unfold Hid;rw [HE.out,if_neg hd]
     clear HE hd
     go_enter Tryz.func52,Tryz.ntmps52
     go_wp2_with fail
     refine (HF.out _ (qab _ _)).mono ?_
     rintro e w1 ⟨rfl,hb1⟩
     have HB1:Hid (Below w.heap.size w w1):= (qab _ _).trans (hb1.mono (by simp))
     have HX1:Hid (Bx w1 w.heap.size _):=HX.out.later hb1
     have x0:=HX1.out 0 _ rfl
     have x1:=HX1.out 1 _ rfl
     clear hb1
     go_wp2_with fail
     refine (HD.out _ HB1.out).mono ?_
     rintro e w2 ⟨rfl,hb2'⟩
     have HB2:Hid (Below w.heap.size w w2):=HB1.out.trans (hb2'.mono HB1.out.size)
     clear hb2' x0 x1
     go_wp2
     go_ret
     exact ⟨qad HR.out.symm,HB2.out⟩

theorem qkS {ds:List ID} (hi:qaY ds=0) (h:qcA ds=0):qa8 ds:=fun i hil x hx=>by
 unfold qai qb7 at hx
 obtain ⟨e,he,rfl⟩:=List.mem_map.1 hx
 obtain ⟨k,hk,hke⟩:=List.getElem_of_mem he
 have:=qj7 hi h i hil k hk
 rw [List.getElem?_eq_getElem hk,Option.getD_some,hke] at this
 exact this
theorem qo5 {ds:List ID} (hi:qaY ds=0) (i:Nat): (qai ds i).length≤6:=by
 rw [qdH]
 by_cases h:i<ds.length
 · exact qhq (qaM hi i h)
 · rw [List.getElem?_eq_none (by omega)];simp [id0]
set_option maxHeartbeats 3200000 in
theorem qp2 (w:World) (aI:Option Addr) (nI cI:Nat) (aD:Option Addr) (nD cD:Nat) (d:FD) (h:FsR w (.slice aI nI cI) (.slice aD nD cD) d) (hsi:qag d.1≤1048576):
 Calls Tryz.prog 19 #[.agg #[.slice aI nI cI, .slice aD nD cD]] w fun e w'=>e= .returned (.int .i64 (fsF d))∧Below w.heap.size w w':=by
 have HRF:Hid (∀W,Below w.heap.size w W→Calls Tryz.prog 52 #[.agg #[.slice aI nI cI, .slice aD nD cD]] W fun e w'=>e= .returned (.int .i64 (fsE d))∧Below W.heap.size W w'):=fun W hW=>qdT W aI nI cI aD nD cD d (h.later hW) hsi
 have HX:Hid (Bx (w.alloc (.cells #[.slice aI nI cI, .slice aD nD cD] 31)) w.heap.size [.slice aI nI cI, .slice aD nD cD]):=Bx.new w [.slice aI nI cI, .slice aD nD cD] _
 have HF:Hid (fsF d=if fsE d=0 then (if qbe d.1&&qbI d then 0 else 1) else fsE d):=rfl
 by_cases he:fsE d=0
 rotate_left
 · have HR:Hid (fsF d=fsE d):=by unfold Hid;rw [HF.out,if_neg he]
   have hb: (fsE d !=0)=true:=by simpa using he
   clear HF he h
   generalize fsE d=r at*
   go_enter Tryz.func19,Tryz.ntmps19
   go_wp2_with fail
   refine (HRF.out _ (qab _ _)).mono ?_
   rintro e w1 ⟨rfl,hb1⟩
   have HB1:Hid (Below w.heap.size w w1):= (qab _ _).trans (hb1.mono (by simp))
   clear hb1
   go_wp2
   go_ret
   exact ⟨qad HR.out.symm,HB1.out⟩
 · obtain ⟨h1,h2,_,_,h5⟩:=qc5 he
   obtain ⟨g1,_,g3⟩:=qet h2
   have HT:Hid (∀W,Below w.heap.size w W→Calls Tryz.prog 53 #[.agg #[.slice aI nI cI, .slice aD nD cD]] W fun e w'=>e= .returned (.int .i64 (qhE d.1))∧Below W.heap.size W w'):=fun W hW=>qhF W aI nI cI aD nD cD d (h.later hW) hsi h1 (by omega) (qbM h1) (qkS h1 h5) (qo5 h1)
   have HB:Hid (∀W,Below w.heap.size w W→Calls Tryz.prog 54 #[.agg #[.slice aI nI cI, .slice aD nD cD]] W fun e w'=>e= .returned (.int .i64 (qo4 d))∧Below W.heap.size W w'):=fun W hW=>qgq W aI nI cI aD nD cD d (h.later hW) h1 g3
   have HR:Hid (fsF d=if qbe d.1&&qbI d then 0 else 1):=by unfold Hid;rw [HF.out,if_pos he]
   have HTF:Hid (qhE d.1=if qbe d.1 then 0 else 1):=rfl
   have HBF:Hid (qo4 d=if qbI d then 0 else 1):=rfl
   rw [he] at HRF
   rw [HTF.out] at HT
   rw [HBF.out] at HB
   clear HF he h h1 h2 h5 g1 g3 HTF HBF
   generalize qbe d.1=lb at*
   generalize qbI d=sb at*
   cases lb with
   | false=>
     go_enter Tryz.func19,Tryz.ntmps19
     go_wp2_with fail
     refine (HRF.out _ (qab _ _)).mono ?_
     rintro e w1 ⟨rfl,hb1⟩
     have HB1:Hid (Below w.heap.size w w1):= (qab _ _).trans (hb1.mono (by simp))
     have x0:= (HX.out.later hb1) 0 _ rfl
     have x1:= (HX.out.later hb1) 1 _ rfl
     clear hb1
     go_wp2_with fail
     refine (HT.out _ HB1.out).mono ?_
     rintro e w2 ⟨rfl,hb2⟩
     have HB2:Hid (Below w.heap.size w w2):=HB1.out.trans (hb2.mono HB1.out.size)
     clear hb2 x0 x1
     go_wp2
     go_ret
     exact ⟨qad HR.out.symm,HB2.out⟩
   | true=>
     cases sb
     all_goals
      go_enter Tryz.func19,Tryz.ntmps19
      go_wp2_with fail
      refine (HRF.out _ (qab _ _)).mono ?_
      rintro e w1 ⟨rfl,hb1⟩
      have HB1:Hid (Below w.heap.size w w1):= (qab _ _).trans (hb1.mono (by simp))
      have HX1:Hid (Bx w1 w.heap.size _):=HX.out.later hb1
      have x0:=HX1.out 0 _ rfl
      have x1:=HX1.out 1 _ rfl
      clear hb1
      go_wp2_with fail
      refine (HT.out _ HB1.out).mono ?_
      rintro e w2 ⟨rfl,hb2⟩
      have HB2:Hid (Below w.heap.size w w2):=HB1.out.trans (hb2.mono HB1.out.size)
      have y0:= (HX1.out.later hb2) 0 _ rfl
      have y1:= (HX1.out.later hb2) 1 _ rfl
      clear hb2 x0 x1
      go_wp2_with fail
      refine (HB.out _ HB2.out).mono ?_
      rintro e w3 ⟨rfl,hb3⟩
      have HB3:Hid (Below w.heap.size w w3):=HB2.out.trans (hb3.mono HB2.out.size)
      clear hb3
      go_wp2
      go_ret
      exact ⟨qad HR.out.symm,HB3.out⟩
theorem qkh (w:World) (aI:Option Addr) (nI cI:Nat) (aD:Option Addr) (nD cD:Nat) (d:FD) (h:FsR w (.slice aI nI cI) (.slice aD nD cD) d) (hs:sizeFs d≤1048576):
 Calls Tryz.prog 19 #[.agg #[.slice aI nI cI, .slice aD nD cD]] w fun e w'=>e= .returned (.int .i64 (fsF d))∧Below w.heap.size w w':=
 qp2 w aI nI cI aD nD cD d h (by unfold sizeFs at hs;omega)
end Go.Proofs.YthnmlipnoajmkaaGreatDoor

namespace Go.Proofs.YthnmlipnoajmkaaGreatDoor
open Go.RowKit
set_option maxRecDepth 100000

def qfa (d:FD) (x y:Int):Bool:=decide (fsF d=0)&& (thB d x&& (thB d y&&qca (qai d.1) x 10 y))
structure FsOk (d:FD):Prop where
 ins:qaY d.1=0
 pos:0<d.1.length
 ten:d.1.length≤10
 rng:qa8 d.1
 six: ∀i,(qai d.1 i).length≤6
 dat:d.2.length=20
 top:qae d.1 0=2
theorem qf2 {d:FD} (h:fsE d=0):FsOk d:=by
 obtain ⟨h1,g2,_,_,h5⟩:=qc5 h
 obtain ⟨g4,g5,g3⟩:=qet g2
 exact ⟨h1,by omega,qbM h1,qkS h1 h5,qo5 h1,g3,g5⟩
theorem qhI {d:FD} (h:fsF d=0):fsE d=0:=by
 unfold fsF at h
 by_cases e:fsE d=0
 · exact e
 · rw [if_neg e] at h;exact absurd h e
theorem qo6 {d:FD} {x:Int} (h:thB d x=true): ∃j:Nat,x= (j:Int)∧j<d.1.length∧ ¬qae d.1 j=0:=by
 unfold thB at h
 rw [Bool.and_eq_true] at h
 have h1:0≤x∧x< (d.1.length:Int):=by simpa using h.1
 exact ⟨x.toNat,by omega,by omega,by simpa using h.2⟩

set_option maxHeartbeats 3200000 in
theorem qki (w:World) (a1:Option Addr) (n1 c1:Nat) (a2:Option Addr) (n2 c2:Nat) (d:FD) (x y:Int) (h:FsR w (.slice a1 n1 c1) (.slice a2 n2 c2) d) (hs:sizeFs d≤1048576):
 Calls Tryz.prog 59 #[.agg #[.slice a1 n1 c1, .slice a2 n2 c2], .int .i64 x, .int .i64 y] w fun e w'=>e= .returned (.bool (qfa d x y))∧Below w.heap.size w w':=by
 have HF:Hid (∀W,Below w.heap.size w W→Calls Tryz.prog 19 #[.agg #[.slice a1 n1 c1, .slice a2 n2 c2]] W fun e w'=>e= .returned (.int .i64 (fsF d))∧Below W.heap.size W w'):=fun W hW=>qkh W _ _ _ _ _ _ d (h.later hW) hs
 have HTX:Hid (∀W,Below w.heap.size w W→Calls Tryz.prog 100 #[.agg #[.slice a1 n1 c1, .slice a2 n2 c2], .int .i64 x] W fun e w'=>e= .returned (.bool (thB d x))∧Below W.heap.size W w'):=fun W hW=>qd3 W _ _ _ _ _ _ d x (h.later hW)
 have HTY:Hid (∀W,Below w.heap.size w W→Calls Tryz.prog 100 #[.agg #[.slice a1 n1 c1, .slice a2 n2 c2], .int .i64 y] W fun e w'=>e= .returned (.bool (thB d y))∧Below W.heap.size W w'):=fun W hW=>qd3 W _ _ _ _ _ _ d y (h.later hW)
 have HX:Hid (Bx (w.alloc (.cells #[.slice a1 n1 c1, .slice a2 n2 c2] 31)) w.heap.size [.slice a1 n1 c1, .slice a2 n2 c2]):=Bx.new w [.slice a1 n1 c1, .slice a2 n2 c2] _
 have HB0:Hid (Below w.heap.size w (w.alloc (.cells #[.slice a1 n1 c1, .slice a2 n2 c2] 31))):=qab _ _
 by_cases hf:fsF d=0
 rotate_left
 · have HR:Hid (qfa d x y=false):=by unfold Hid qfa;rw [decide_eq_false hf];rfl
   rw [HR.out]
   have hb: (fsF d !=0)=true:=by simpa using hf
   clear hf HR h hs
   generalize fsF d=r at*
   go_enter Tryz.func59,Tryz.ntmps59
   go_wp2_with fail
   generalize (w.alloc (.cells #[.slice a1 n1 c1, .slice a2 n2 c2] 31))=W0 at*
   refine (HF.out _ HB0.out).mono ?_
   rintro e w1 ⟨rfl,hb1⟩
   have HB1:Hid (Below w.heap.size w w1):=HB0.out.trans (hb1.mono HB0.out.size)
   clear hb1
   go_wp2
   go_ret
   exact ⟨rfl,HB1.out⟩
 · have hok:=qf2 (qhI hf)
   rw [hf] at HF
   cases htx:thB d x with
   | false=>
     have HR:Hid (qfa d x y=false):=by unfold Hid qfa;rw [htx,decide_eq_true hf];rfl
     rw [HR.out]
     rw [htx] at HTX
     clear hf HR h hs htx hok
     go_enter Tryz.func59,Tryz.ntmps59
     go_wp2_with fail
     generalize (w.alloc (.cells #[.slice a1 n1 c1, .slice a2 n2 c2] 31))=W0 at*
     refine (HF.out _ HB0.out).mono ?_
     rintro e w1 ⟨rfl,hb1⟩
     have HB1:Hid (Below w.heap.size w w1):=HB0.out.trans (hb1.mono HB0.out.size)
     have x0:= (HX.out.later hb1) 0 _ rfl
     have x1:= (HX.out.later hb1) 1 _ rfl
     clear hb1
     go_wp2_with fail
     refine (HTX.out _ HB1.out).mono ?_
     rintro e w2 ⟨rfl,hb2⟩
     have HB2:Hid (Below w.heap.size w w2):=HB1.out.trans (hb2.mono HB1.out.size)
     clear hb2 x0 x1
     go_wp2
     go_ret
     exact ⟨rfl,HB2.out⟩
   | true=>
     rw [htx] at HTX
     cases hty:thB d y with
     | false=>
       have HR:Hid (qfa d x y=false):=by unfold Hid qfa;rw [htx,hty,decide_eq_true hf];rfl
       rw [HR.out]
       rw [hty] at HTY
       clear hf HR h hs htx hty hok
       go_enter Tryz.func59,Tryz.ntmps59
       go_wp2_with fail
       generalize (w.alloc (.cells #[.slice a1 n1 c1, .slice a2 n2 c2] 31))=W0 at*
       refine (HF.out _ HB0.out).mono ?_
       rintro e w1 ⟨rfl,hb1⟩
       have HB1:Hid (Below w.heap.size w w1):=HB0.out.trans (hb1.mono HB0.out.size)
       have HX1:Hid (Bx w1 w.heap.size _):=HX.out.later hb1
       have x0:=HX1.out 0 _ rfl
       have x1:=HX1.out 1 _ rfl
       clear hb1
       go_wp2_with fail
       refine (HTX.out _ HB1.out).mono ?_
       rintro e w2 ⟨rfl,hb2⟩
       have HB2:Hid (Below w.heap.size w w2):=HB1.out.trans (hb2.mono HB1.out.size)
       clear x0 x1
       have x0:= (HX1.out.later hb2) 0 _ rfl
       have x1:= (HX1.out.later hb2) 1 _ rfl
       clear hb2
       go_wp2_with fail
       refine (HTY.out _ HB2.out).mono ?_
       rintro e w3 ⟨rfl,hb3⟩
       have HB3:Hid (Below w.heap.size w w3):=HB2.out.trans (hb3.mono HB2.out.size)
       clear hb3 x0 x1
       go_wp2
       go_ret
       exact ⟨rfl,HB3.out⟩
     | true=>
       obtain ⟨i,rfl,hi,-⟩:=qo6 htx
       obtain ⟨t,rfl,ht,-⟩:=qo6 hty
       rw [hty] at HTY
       obtain ⟨_,_,e1,hm1,hAt⟩:=h.1.open'
       simp only [Value.slice.injEq] at e1
       obtain ⟨rfl,rfl,rfl⟩:=e1
       have hten:=hok.ten
       have HRF:Hid (∀W,Below w.heap.size w W→Calls Tryz.prog 88 #[.slice a1 d.1.length c1, .int .i64 (t:Int)] W fun e w'=> ∃b m,e= .returned (.map (some b))∧Below W.heap.size W w'∧ (Instr.lookup 119 (.map (some b)) (.int .i64 (i:Int)) false).run Tryz.prog w'= .ok (.int .i64 m) w'∧decide (0<m)=qfa d (i:Int) (t:Int)):=fun W hW=>by
        refine (qez W a1 _ c1 t d.1 rfl ht hten (hAt.later hW) hok.rng hok.six).mono ?_
        rintro e w' ⟨b,N,m,rfl,hb,_,hmp,hrp,_⟩
        refine ⟨b,m (i:Int),rfl,hb,hmp.look (qdr (by omega) (by omega)), ?_⟩
        unfold qfa
        rw [htx,hty,decide_eq_true hf,Bool.true_and,Bool.true_and,Bool.true_and]
        rw [Bool.eq_iff_iff,decide_eq_true_eq]
        exact (hrp i).trans (qpR hok.rng rfl hten ht).symm
       clear hf h hs htx hty hok hAt hm1
       generalize qfa d (i:Int) (t:Int)=R at*
       generalize d.1.length=n at*
       go_enter Tryz.func59,Tryz.ntmps59
       go_wp2_with fail
       generalize (w.alloc (.cells #[.slice a1 n c1, .slice a2 n2 c2] 31))=W0 at*
       refine (HF.out _ HB0.out).mono ?_
       rintro e w1 ⟨rfl,hb1⟩
       have HB1:Hid (Below w.heap.size w w1):=HB0.out.trans (hb1.mono HB0.out.size)
       have HX1:Hid (Bx w1 w.heap.size _):=HX.out.later hb1
       have x0:=HX1.out 0 _ rfl
       have x1:=HX1.out 1 _ rfl
       clear hb1
       go_wp2_with fail
       refine (HTX.out _ HB1.out).mono ?_
       rintro e w2 ⟨rfl,hb2⟩
       have HB2:Hid (Below w.heap.size w w2):=HB1.out.trans (hb2.mono HB1.out.size)
       have HX2:Hid (Bx w2 w.heap.size _):=HX1.out.later hb2
       clear x0 x1
       have x0:=HX2.out 0 _ rfl
       have x1:=HX2.out 1 _ rfl
       clear hb2
       go_wp2_with fail
       refine (HTY.out _ HB2.out).mono ?_
       rintro e w3 ⟨rfl,hb3⟩
       have HB3:Hid (Below w.heap.size w w3):=HB2.out.trans (hb3.mono HB2.out.size)
       clear x0 x1
       have x0:= (HX2.out.later hb3) 0 _ rfl
       have x1:= (HX2.out.later hb3) 1 _ rfl
       clear hb3
       go_wp2_with fail
       refine (HRF.out _ HB3.out).mono ?_
       rintro e w4 ⟨b,m,rfl,hb4,hlk,hR⟩
       have HB4:Hid (Below w.heap.size w w4):=HB3.out.trans (hb4.mono HB3.out.size)
       have HLK:Hid (_=_):=hlk
       have HRR:Hid (decide (0<m)=R):=hR
       clear hb4 hlk hR x0 x1
       go_wp2_with (first| (at_lookup;refine qaW rfl _ _ _ rfl _ _ rfl rfl _ HLK.out ?_)|fail)
       go_ret
       exact ⟨qaB HRR.out,HB4.out⟩
end Go.Proofs.YthnmlipnoajmkaaGreatDoor

namespace Go.Proofs.YthnmlipnoajmkaaGreatDoor
open Go.RowKit
set_option maxRecDepth 100000

abbrev WS:=Int×Option Int
def wkL (ds:List ID):Nat→List (List UInt8)→List WS
 |_, []=> []
 |t,s::ns=>if qae ds t=2 then (if idxE (ds[t]?.getD id0).2.2.2.2 (mkB s)< (ds[t]?.getD id0).2.2.2.2.length then (((ds[t]?.getD id0).2.2.2.2[idxE (ds[t]?.getD id0).2.2.2.2 (mkB s)]?.getD en0).2,none)::wkL ds ((ds[t]?.getD id0).2.2.2.2[idxE (ds[t]?.getD id0).2.2.2.2 (mkB s)]?.getD en0).2.toNat ns else [((t:Int),some 4)]) else [((t:Int),some 9)]
def wkT (ds:List ID) (xs:List (List UInt8)):List WS:= (0,none)::wkL ds 0 xs
def qr7:Int→List WS→Int×Int
 |t, []=> (0,t)
 |_,(x,none)::l=>qr7 x l
 |_,(_,some c)::_=> (c,0)
def wkR (ds:List ID):Nat→List (List UInt8)→Int×Int
 |t, []=> (0,(t:Int))
 |t,s::ns=>if qae ds t=2 then (if idxE (ds[t]?.getD id0).2.2.2.2 (mkB s)< (ds[t]?.getD id0).2.2.2.2.length then wkR ds ((ds[t]?.getD id0).2.2.2.2[idxE (ds[t]?.getD id0).2.2.2.2 (mkB s)]?.getD en0).2.toNat ns else (4,0)) else (9,0)
theorem qhJ {ds:List ID} (hr:qa8 ds) {t k:Nat} (ht:t<ds.length) (hk:k< (ds[t]?.getD id0).2.2.2.2.length): ∃y:Nat,((ds[t]?.getD id0).2.2.2.2[k]?.getD en0).2= (y:Int)∧y<ds.length:=by
 have:=hr t ht ((ds[t]?.getD id0).2.2.2.2[k]?.getD en0).2 (List.mem_of_getElem? (qeT hk))
 exact ⟨((ds[t]?.getD id0).2.2.2.2[k]?.getD en0).2.toNat,by omega,by omega⟩
theorem qo7 {ds:List ID} (hr:qa8 ds): ∀ (xs:List (List UInt8)) (t:Nat),t<ds.length→qr7 (t:Int) (wkL ds t xs)=wkR ds t xs
 | [],t,_=>rfl
 | s ::ns,t,ht=>by
   unfold wkL wkR
   by_cases hk:qae ds t=2
   · rw [if_pos hk,if_pos hk]
     by_cases hi:idxE (ds[t]?.getD id0).2.2.2.2 (mkB s)< (ds[t]?.getD id0).2.2.2.2.length
     · rw [if_pos hi,if_pos hi]
       obtain ⟨y,e,hy⟩:=qhJ hr ht hi
       rw [e]
       show qr7 (y:Int) (wkL ds (y:Int).toNat ns)=_
       rw [Int.toNat_natCast]
       exact qo7 hr ns y hy
     · rw [if_neg hi,if_neg hi];rfl
   · rw [if_neg hk,if_neg hk];rfl
theorem qp3 (ds:List ID): ∀ (xs:List (List UInt8)) (t:Nat),(wkL ds t xs).length≤xs.length
 | [],_=>Nat.le_refl _
 | s ::ns,t=>by
   unfold wkL
   split
   · split
     · have:=qp3 ds ns ((ds[t]?.getD id0).2.2.2.2[idxE (ds[t]?.getD id0).2.2.2.2 (mkB s)]?.getD en0).2.toNat
       simp only [List.length_cons];omega
     · simp
   · simp
theorem qiQ {ds:List ID} (hr:qa8 ds): ∀ (xs:List (List UInt8)) (t:Nat),t<ds.length→ (wkR ds t xs).1=0→ ∃y:Nat,(wkR ds t xs).2= (y:Int)∧y<ds.length
 | [],t,ht,_=> ⟨t,rfl,ht⟩
 | s ::ns,t,ht,h=>by
   unfold wkR at h ⊢
   by_cases hk:qae ds t=2
   · rw [if_pos hk] at h ⊢
     by_cases hi:idxE (ds[t]?.getD id0).2.2.2.2 (mkB s)< (ds[t]?.getD id0).2.2.2.2.length
     · rw [if_pos hi] at h ⊢
       obtain ⟨y,e,hy⟩:=qhJ hr ht hi
       rw [e,Int.toNat_natCast] at h ⊢
       exact qiQ hr ns y hy h
     · rw [if_neg hi] at h;exact absurd h (by decide)
   · rw [if_neg hk] at h;exact absurd h (by decide)
def brk:Int→List WS→Int×Option (Int×Int)
 |t, []=> (t,none)
 |_,(x,none)::l=>brk x l
 |_,(x,some c)::_=> (0,some (x,c))
theorem qf3: ∀ (l:List WS) (t v x:Int),brk t l= (v,none)→brk t (l++ [(x,none)])= (x,none)
 | [],_,_,_,_=>rfl
 | (_,none)::l,_,v,x,h=>qf3 l _ v x h
 | (_,some _)::_,_,_,_,h=>by simp [brk] at h
theorem qf4: ∀ (l:List WS) (t v x c:Int),brk t l= (v,none)→brk t (l++ [(x,some c)])= (0,some (x,c))
 | [],_,_,_,_,_=>rfl
 | (_,none)::l,_,v,x,c,h=>qf4 l _ v x c h
 | (_,some _)::_,_,_,_,_,h=>by simp [brk] at h
theorem qne: ∀ (l r:List WS) (t v:Int) (p:Int×Int),brk t l= (v,some p)→brk t (l++r)= (v,some p)
 | [],_,_,_,_,h=>by simp [brk] at h
 | (_,none)::l,r,_,v,p,h=>qne l r _ v p h
 | (_,some _)::_,_,_,_,_,h=>h
def qr8:Int×Option (Int×Int)→Int×Int
 | (v,none)=> (0,v)
 | (_,some p)=> (p.2,0)
theorem qnf: ∀ (l:List WS) (t:Int),qr7 t l=qr8 (brk t l)
 | [],_=>rfl
 | (x,none)::l,_=>qnf l x
 | (_,some _)::_,_=>rfl
end Go.Proofs.YthnmlipnoajmkaaGreatDoor
