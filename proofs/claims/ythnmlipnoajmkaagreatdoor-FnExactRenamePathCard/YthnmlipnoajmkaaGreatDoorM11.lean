/- The program's copying of an inode and of a file system. A file system in memory of its own,of which places turn. No program is named here. The specification:what is wrong of inodes,data and entries of a file system. -/
import Derived.Test.YthnmlipnoajmkaaGreatDoorM10
import Derived.Test.YthnmlipnoajmkaaGreatDoorM02
import Derived.Deep.RegionHeld3
import Derived.Deep.RegionLaw
import Derived.Test.YthnmlipnoajmkaaGreatDoorM06
import Derived.Test.YthnmlipnoajmkaaGreatDoorM05
import Derived.Test.YthnmlipnoajmkaaGreatDoorM09
namespace Go.Proofs.YthnmlipnoajmkaaGreatDoor
open Go.RowKit Go.Shelf
set_option maxRecDepth 100000
attribute [local go_sem] Oper.semAt_some

theorem qlz (w:World) (x:ByteArray) (hl:x.size≤1048576):Calls Tryz.prog 129 #[.string x] w fun e w'=>e= .returned (.string x)∧Below w.heap.size w w':=by
 have hl':x.size≤281474976710656:=by omega
 clear hl
 go_enter Tryz.func129,Tryz.ntmps129
 go_wp2_with fail
 refine (Tryz.stringslite_Clone x _ hl').mono ?_
 rintro e w1 ⟨rfl,hb1⟩
 go_wp2
 go_ret
 exact ⟨rfl,hb1⟩

set_option maxHeartbeats 400000 in
theorem qjV {w:World} {v:Value} {es:List EN} (h:qdw w v es) (hn:es.length≤1048576):
 Calls Tryz.prog 128 #[v] w fun e w'=>e= .returned (.slice (some ⟨w.heap.size,0,none⟩) es.length es.length)∧Below w.heap.size w w'∧qaa w' w.heap.size (es.length*2) (qaV es):=by
 obtain ⟨a,cap,rfl,hm,hz,hc⟩:=h.open'
 obtain ⟨X,hcp,hbX,hrX⟩:=qmJ w a es.length cap es rfl hc
 have hmk:=fun w=>qd9 (P:=Tryz.prog) 72 76 (.string ⟨#[]⟩) (.int .i64 0) 24 Tryz.underlying72 Tryz.infoEnt rfl .i64 .i64 es.length (by omega) (by omega) w
 have HB:Hid (Below w.heap.size w X):=hbX
 have HR:Hid (qaa X w.heap.size (es.length*2) (qaV es)):=hrX
 clear hbX hrX hc
 go_enter Tryz.func128,Tryz.ntmps128
 go_wp2
 go_ret
 exact ⟨rfl,HB.out,HR.out⟩

set_option maxHeartbeats 400000 in
theorem qjW {w:World} {a:Option Addr} {n cap:Nat} (l:List ID) (u:Nat→Value×Value) (hn:n≤1048576) (hs: ∀i,i<n→ (u i).1.oneCell'=true∧ (u i).2.oneCell'=true) (hc: ∀c,c<n*5→ ∃b off,a=some ⟨b,off,none⟩∧w.cell? ⟨b,off+c,none⟩=some (qao l u c)):
 Calls Tryz.prog 97 #[.slice a n cap] w fun e w'=>e= .returned (.slice (some ⟨w.heap.size,0,none⟩) n n)∧Below w.heap.size w w'∧qaa w' w.heap.size (n*5) (qao l u):=by
 obtain ⟨X,hcp,hbX,hrX⟩:=qmK w a n cap l u hs hc
 have hmk:=fun w=>qeh (P:=Tryz.prog) 29 74 (.int .i64 0) (.int .i64 0) (.int .i64 0) (.slice none 0 0) (.slice none 0 0) 72 Tryz.underlying29 Tryz.infoIno rfl .i64 .i64 n (by omega) (by omega) w
 have HB:Hid (Below w.heap.size w X):=hbX
 have HR:Hid (qaa X w.heap.size (n*5) (qao l u)):=hrX
 clear hbX hrX hc hs
 go_enter Tryz.func97,Tryz.ntmps97
 go_wp2
 go_ret
 exact ⟨rfl,HB.out,HR.out⟩
theorem qpH (es:List EN) (k:Nat): (es[k]?.getD en0).1.size≤ (qbj es).sum:=by
 by_cases h:k<es.length
 · have h1:=qaU (qbj es) k (by rw [qdn];exact h)
   rw [qh8] at h1
   have h2:=qbJ (qbj es) (k+1)
   omega
 · rw [List.getElem?_eq_none (by omega)];simp [en0,ByteArray.size]
theorem qjX (es:List EN) (j c:Nat): (if c=j*2 then Value.string (es[j]?.getD en0).1 else qaV es c)=qaV es c:=by
 by_cases e:c=j*2
 · subst e;rw [if_pos rfl,qfr]
 · rw [if_neg e]

set_option maxHeartbeats 6400000 in
theorem qfP (w:World) (aB:Option Addr) (nB cB:Nat) (aE:Option Addr) (nE cE:Nat) (d:ID) (h:qfs w (.int .i64 d.1) (.int .i64 d.2.1) (.int .i64 d.2.2.1) (.slice aB nB cB) (.slice aE nE cE) d) (hsz:sizeIno d≤1048576):
 Calls Tryz.prog 99 #[.agg #[.int .i64 d.1, .int .i64 d.2.1, .int .i64 d.2.2.1, .slice aB nB cB, .slice aE nE cE]] w (qmR w d):=by
 obtain ⟨k,l,s,bs,es⟩:=d
 have hB:bs.length≤1048576:=by unfold sizeIno at hsz;dsimp only at hsz;omega
 have hE:es.length≤1048576:=by unfold sizeIno qcH at hsz;dsimp only at hsz;omega
 have HNM:Hid (∀k:Nat,(es[k]?.getD en0).1.size≤1048576):=fun k=>by
  have:=qpH es k
  unfold sizeIno qcH at hsz
  dsimp only at hsz
  omega
 dsimp only at h ⊢
 obtain ⟨-,hI,hN⟩:=h
 dsimp only at hI hN
 clear hsz
 obtain ⟨aN,cN,eN,hmN,hzN,hatN⟩:=hN.open'
 simp only [Value.slice.injEq] at eN
 obtain ⟨rfl,rfl,rfl⟩:=eN
 have HI:Hid (qb1 w (.slice aB nB cB) bs):=hI
 have HN:Hid (qdw w (.slice aE es.length cE) es):=hN
 have HZ:Hid (∀k:Nat,(es[k]?.getD en0).1.size≤maxLen):=hzN
 have HBL:Hid (bs.length≤1048576):=hB
 have HEL:Hid (es.length≤1048576):=hE
 have hE':=hE
 have HX0:Hid (qaa ((w.alloc (.cells #[.int .i64 k, .int .i64 l, .int .i64 s, .slice aB nB cB, .slice aE es.length cE] 74)).alloc (.cells #[.int .i64 0, .int .i64 0, .int .i64 0, .slice none 0 0, .slice none 0 0] 74)) w.heap.size 5 (fun i=> [Value.int .i64 k, .int .i64 l, .int .i64 s, .slice aB nB cB, .slice aE es.length cE][i]?.getD (.int .i64 0))):= (qmH w [.int .i64 k, .int .i64 l, .int .i64 s, .slice aB nB cB, .slice aE es.length cE] _).later (qab _ _)
 have HR0:Hid (qaa ((w.alloc (.cells #[.int .i64 k, .int .i64 l, .int .i64 s, .slice aB nB cB, .slice aE es.length cE] 74)).alloc (.cells #[.int .i64 0, .int .i64 0, .int .i64 0, .slice none 0 0, .slice none 0 0] 74)) (w.heap.size+1) 5 (fun i=>qe7[i]?.getD (.int .i64 0))):=by
  have:=qmH (w.alloc (.cells #[.int .i64 k, .int .i64 l, .int .i64 s, .slice aB nB cB, .slice aE es.length cE] 74)) qe7 74
  rw [World.size_alloc] at this
  exact this
 have hz0: ((w.alloc (.cells #[.int .i64 k, .int .i64 l, .int .i64 s, .slice aB nB cB, .slice aE es.length cE] 74)).alloc (.cells #[.int .i64 0, .int .i64 0, .int .i64 0, .slice none 0 0, .slice none 0 0] 74)).heap.size=w.heap.size+2:=by simp
 have HB0:Hid (Below w.heap.size w ((w.alloc (.cells #[.int .i64 k, .int .i64 l, .int .i64 s, .slice aB nB cB, .slice aE es.length cE] 74)).alloc (.cells #[.int .i64 0, .int .i64 0, .int .i64 0, .slice none 0 0, .slice none 0 0] 74))):=qam _ _ _
 clear hI hN hatN hzN hmN hB hE
 go_enter Tryz.func99,Tryz.ntmps99
 go_wp2_with fail
 generalize ((w.alloc (.cells #[.int .i64 k, .int .i64 l, .int .i64 s, .slice aB nB cB, .slice aE es.length cE] 74)).alloc (.cells #[.int .i64 0, .int .i64 0, .int .i64 0, .slice none 0 0, .slice none 0 0] 74))=W0 at*
 refine (qfJ (HI.out.later HB0.out) HBL.out).mono ?_
 rintro e w1 ⟨rfl,hb1,ho1,hs1⟩
 have HB1:Hid (Below w.heap.size w w1):=HB0.out.trans (hb1.mono HB0.out.size)
 have hX1:=HX0.out.later hb1
 have hR1:=HR0.out.later hb1
 rw [hz0] at ho1 ⊢
 have HO1:Hid (qak w1 (.slice (some ⟨w.heap.size+2,0,none⟩) bs.length bs.length) bs (fun b=>w.heap.size+2≤b∧b<w1.heap.size)):=ho1.mono fun b hb=> ⟨by have:=hb.1;omega,hb.2⟩
 have hw1:w.heap.size+2<w1.heap.size:=by omega
 have hlt1:w.heap.size<w1.heap.size:=by omega
 have q3:w1.cell? ⟨w.heap.size,3,none⟩=some (.slice aB nB cB):=hX1.cell (i:=3) (by simp)
 have q4:w1.cell? ⟨w.heap.size,4,none⟩=some (.slice aE es.length cE):=hX1.cell (i:=4) (by simp)
 have f3:=hX1.frozen 3
 have HX2:Hid (qaa (w1.setCell ⟨w.heap.size,3,none⟩ (.slice (some ⟨w.heap.size+2,0,none⟩) bs.length bs.length)) w.heap.size 5 (fun i=> [Value.int .i64 k, .int .i64 l, .int .i64 s, .slice (some ⟨w.heap.size+2,0,none⟩) bs.length bs.length, .slice aE es.length cE][i]?.getD (.int .i64 0))):= (hX1.set 3 _).congr fun i hi=>by
  match i,hi with
  |0,_=>rfl
  |1,_=>rfl
  |2,_=>rfl
  |3,_=>rfl
  |4,_=>rfl
 have HR2:Hid (qaa (w1.setCell ⟨w.heap.size,3,none⟩ (.slice (some ⟨w.heap.size+2,0,none⟩) bs.length bs.length)) (w.heap.size+1) 5 (fun i=>qe7[i]?.getD (.int .i64 0))):=hR1.store (by simp) _
 have HO2:Hid (qak (w1.setCell ⟨w.heap.size,3,none⟩ (.slice (some ⟨w.heap.size+2,0,none⟩) bs.length bs.length)) (.slice (some ⟨w.heap.size+2,0,none⟩) bs.length bs.length) bs (fun b=>w.heap.size+2≤b∧b<w1.heap.size)):=HO1.out.store (fun b hb=>by show b≠w.heap.size;omega) _
 have HB2:Hid (Below w.heap.size w (w1.setCell ⟨w.heap.size,3,none⟩ (.slice (some ⟨w.heap.size+2,0,none⟩) bs.length bs.length))):=HB1.out.setCell (Nat.le_refl _) _
 have hz2: (w1.setCell ⟨w.heap.size,3,none⟩ (.slice (some ⟨w.heap.size+2,0,none⟩) bs.length bs.length)).heap.size=w1.heap.size:=by simp [World.setCell]
 clear HO1 HX0 HR0 HB0 hb1 ho1 hs1 hX1 hR1 HI HB1
 go_wp2_with fail
 generalize w1.setCell ⟨w.heap.size,3,none⟩ (.slice (some ⟨w.heap.size+2,0,none⟩) bs.length bs.length)=W2 at*
 clear q3 q4 f3
 refine (qjV (HN.out.later HB2.out) HEL.out).mono ?_
 rintro e w3 ⟨rfl,hb3,ho3⟩
 rw [hz2] at ho3 ⊢
 have HB3:Hid (Below w.heap.size w w3):=HB2.out.trans (hb3.mono (by rw [hz2];omega))
 have hX3:=HX2.out.later hb3
 have hR3:=HR2.out.later hb3
 have hw3:w1.heap.size<w3.heap.size:=ho3.lt
 have HO3:Hid (qak w3 (.slice (some ⟨w.heap.size+2,0,none⟩) bs.length bs.length) bs (fun b=>w.heap.size+2≤b∧b<w1.heap.size)):=HO2.out.keep fun b hb hlt=>hb3.block b hlt
 have q4:w3.cell? ⟨w.heap.size,4,none⟩=some (.slice aE es.length cE):=hX3.cell (i:=4) (by simp)
 have f4:=hX3.frozen 4
 have HX4:Hid (qaa (w3.setCell ⟨w.heap.size,4,none⟩ (.slice (some ⟨w1.heap.size,0,none⟩) es.length es.length)) w.heap.size 5 (fun i=> [Value.int .i64 k, .int .i64 l, .int .i64 s, .slice (some ⟨w.heap.size+2,0,none⟩) bs.length bs.length, .slice (some ⟨w1.heap.size,0,none⟩) es.length es.length][i]?.getD (.int .i64 0))):= (hX3.set 4 _).congr fun i hi=>by
  match i,hi with
  |0,_=>rfl
  |1,_=>rfl
  |2,_=>rfl
  |3,_=>rfl
  |4,_=>rfl
 have HR4:Hid (qaa (w3.setCell ⟨w.heap.size,4,none⟩ (.slice (some ⟨w1.heap.size,0,none⟩) es.length es.length)) (w.heap.size+1) 5 (fun i=>qe7[i]?.getD (.int .i64 0))):=hR3.store (by simp) _
 have HO4:Hid (qak (w3.setCell ⟨w.heap.size,4,none⟩ (.slice (some ⟨w1.heap.size,0,none⟩) es.length es.length)) (.slice (some ⟨w.heap.size+2,0,none⟩) bs.length bs.length) bs (fun b=>w.heap.size+2≤b∧b<w1.heap.size)):=HO3.out.store (fun b hb=>by show b≠w.heap.size;omega) _
 have HE4:Hid (qaa (w3.setCell ⟨w.heap.size,4,none⟩ (.slice (some ⟨w1.heap.size,0,none⟩) es.length es.length)) w1.heap.size (es.length*2) (qaV es)):=ho3.store (by simp;omega) _
 have HB4:Hid (Below w.heap.size w (w3.setCell ⟨w.heap.size,4,none⟩ (.slice (some ⟨w1.heap.size,0,none⟩) es.length es.length))):=HB3.out.setCell (Nat.le_refl _) _
 have hz4: (w3.setCell ⟨w.heap.size,4,none⟩ (.slice (some ⟨w1.heap.size,0,none⟩) es.length es.length)).heap.size=w3.heap.size:=by simp [World.setCell]
 clear HO3 HX2 HR2 HB2 hb3 ho3 hX3 hR3 HN HB3 HO2
 go_wp2_with fail
 generalize w3.setCell ⟨w.heap.size,4,none⟩ (.slice (some ⟨w1.heap.size,0,none⟩) es.length es.length)=W4 at*
 clear q4 f4
 obtain ⟨nE,hnE⟩: ∃nE,es.length=nE:= ⟨_,rfl⟩
 have HNE:Hid (es.length=nE):=hnE
 rw [hnE] at HX4 HE4 hE' ⊢
 clear hnE
 go_loopw [16] (fun i wr=> ∃j:Nat,j≤nE∧i= .int .i64 j∧Below w.heap.size w wr∧w3.heap.size≤wr.heap.size∧qaa wr w.heap.size 5 (fun i=> [Value.int .i64 k, .int .i64 l, .int .i64 s, .slice (some ⟨w.heap.size+2,0,none⟩) bs.length bs.length, .slice (some ⟨w1.heap.size,0,none⟩) nE nE][i]?.getD (.int .i64 0))∧qaa wr (w.heap.size+1) 5 (fun i=>qe7[i]?.getD (.int .i64 0))∧qaa wr w1.heap.size (nE*2) (qaV es)∧qak wr (.slice (some ⟨w.heap.size+2,0,none⟩) bs.length bs.length) bs (fun b=>w.heap.size+2≤b∧b<w1.heap.size)) (fun i _=>nE- (intOf i).toNat)
 case atStart=>exact ⟨0,Nat.zero_le _,rfl,HB4.out,by omega,HX4.out,HR4.out,HE4.out,HO4.out⟩
 case round=>
  clear HB4 HX4 HR4 HE4 HO4
  obtain ⟨j,hj,rfl,hbw,hsz,hx,hr,he,ho⟩:=hrel
  have HBW:Hid (Below w.heap.size w wr):=hbw
  have HX:Hid (qaa wr w.heap.size 5 _):=hx
  have HR:Hid (qaa wr (w.heap.size+1) 5 _):=hr
  have HE:Hid (qaa wr w1.heap.size (nE*2) (qaV es)):=he
  have HO:Hid (qak wr (.slice (some ⟨w.heap.size+2,0,none⟩) bs.length bs.length) bs (fun b=>w.heap.size+2≤b∧b<w1.heap.size)):=ho
  have x4:wr.cell? ⟨w.heap.size,4,none⟩=some (.slice (some ⟨w1.heap.size,0,none⟩) nE nE):=hx.cell (i:=4) (by simp)
  have hl0:w.heap.size<wr.heap.size:=by omega
  have hl1:w1.heap.size<wr.heap.size:=by omega
  by_cases hlt:j<nE
  · have e0:wr.cell? ⟨w1.heap.size,j*2,none⟩=some (.string (es[j]?.getD en0).1):=by rw [he.cell (by omega),qfr]
    have e1:wr.cell? ⟨w1.heap.size,j*2+1,none⟩=some (.int .i64 (es[j]?.getD en0).2):=by rw [he.cell (by omega),qhc]
    have HSM:Hid (∀c,(if c=j*2 then Value.string (es[j]?.getD en0).1 else qaV es c)=qaV es c):=qjX es j
    have HZJ:Hid ((es[j]?.getD en0).1.size≤1048576):=HNM.out j
    clear hbw hx hr he ho HZ HNM
    generalize (es[j]?.getD en0).1=xs at*
    generalize (es[j]?.getD en0).2=xi at*
    go_wp2_with fail
    have hne1:w.heap.size≠w1.heap.size:=by omega
    have hne2:w1.heap.size≠w.heap.size:=by omega
    have hne3:wr.heap.size≠w1.heap.size:=by omega
    have hne4:w1.heap.size≠wr.heap.size:=by omega
    go_region_held3 (fun W=>W.cell? ⟨w.heap.size,4,none⟩=some (.slice (some ⟨w1.heap.size,0,none⟩) nE nE)∧W.cell? ⟨wr.heap.size,0,none⟩=some (.string xs)) (go_keep) (first
     | (go_at_call 129;refine (qlz _ xs HZJ.out).mono ?_;rintro e u1 ⟨rfl,hb⟩
        have HB1:Hid (Below wr.heap.size wr u1):= ((qab wr _).drew).trans (hb.mono (by simp [World.drew]))
        have y4:=cell_later HB1.out x4
        have d0:=cell_later HB1.out e0
        have d1:u1.frozen? ⟨w1.heap.size,j*2,none⟩=false:= (HE.out.later HB1.out).frozen _
        have y5:u1.cell? ⟨wr.heap.size,0,none⟩=some (.string xs):=cell_later hb (by first| (rw [qar];rfl)|exact cell_later (Below.refl _ _).drew (by rw [qar];rfl)))
     |fail)
    all_goals
     have HSX:Hid (qaa (u1.setCell ⟨w1.heap.size,j*2,none⟩ (.string xs)) w1.heap.size (nE*2) (qaV es)):= ((HE.out.later HB1.out).set _ _).congr fun c _=>HSM.out c
     go_wp2
     go_roundw
     case rel=>exact ⟨j+1,by omega,by go_num,(HBW.out.trans (HB1.out.mono HBW.out.size)).setCell (by simp;omega) _,by have:=HB1.out.size;simp [World.setCell];omega,(HX.out.later HB1.out).store (by simp;omega) _,(HR.out.later HB1.out).store (by simp;omega) _,HSX.out,(HO.out.keep fun b hb hlt=>HB1.out.block b hlt).store (fun b hb=>by show b≠w1.heap.size;omega) _⟩
     case measure=>simp [intOf];omega
  · have x0:wr.cell? ⟨w.heap.size,0,none⟩=some (.int .i64 k):=hx.cell (i:=0) (by simp)
    have x1:wr.cell? ⟨w.heap.size,1,none⟩=some (.int .i64 l):=hx.cell (i:=1) (by simp)
    have x2:wr.cell? ⟨w.heap.size,2,none⟩=some (.int .i64 s):=hx.cell (i:=2) (by simp)
    have x3:wr.cell? ⟨w.heap.size,3,none⟩=some (.slice (some ⟨w.heap.size+2,0,none⟩) bs.length bs.length):=hx.cell (i:=3) (by simp)
    have r0:wr.cell? ⟨w.heap.size+1,0,none⟩=some (.int .i64 0):=hr.cell (i:=0) (by simp)
    have r1:wr.cell? ⟨w.heap.size+1,1,none⟩=some (.int .i64 0):=hr.cell (i:=1) (by simp)
    have r2:wr.cell? ⟨w.heap.size+1,2,none⟩=some (.int .i64 0):=hr.cell (i:=2) (by simp)
    have r3:wr.cell? ⟨w.heap.size+1,3,none⟩=some (.slice none 0 0):=hr.cell (i:=3) (by simp)
    have r4:wr.cell? ⟨w.heap.size+1,4,none⟩=some (.slice none 0 0):=hr.cell (i:=4) (by simp)
    have s0:=hr.frozen 0
    have s1:=hr.frozen 1
    have s2:=hr.frozen 2
    have s3:=hr.frozen 3
    have s4:=hr.frozen 4
    have HEO:Hid (qbc wr (.slice (some ⟨w1.heap.size,0,none⟩) nE nE) es (fun b=>b=w1.heap.size)):=Or.inr ⟨w1.heap.size,nE,rfl,by rw [HNE.out],⟨by rw [HNE.out];unfold maxLen;omega,by rw [HNE.out];exact Nat.le_refl _,HZ.out⟩,by rw [HNE.out];exact he⟩
    clear hbw hx hr he ho
    go_wp2
    refine bodyPost_ret (v:= .agg #[.int .i64 k, .int .i64 l, .int .i64 s, .slice (some ⟨w.heap.size+2,0,none⟩) bs.length bs.length, .slice (some ⟨w1.heap.size,0,none⟩) nE nE]) (by simp [results,Tryz.results99,go_sem,r0,r1,r2,r3,r4]) rfl ⟨_,_,_,_,_,_,rfl,((((HBW.out.setCell (by simp) _).setCell (by simp) _).setCell (by simp) _).setCell (by simp) _).setCell (by simp) _,⟨rfl,rfl,rfl,_,_,_,rfl,Nat.le_refl _⟩,(fun b=>w.heap.size+2≤b∧b<w1.heap.size),(fun b=>b=w1.heap.size),HO.out.keep fun b hb _=> ?_,HEO.out.keep fun b hb _=> ?_,fun b h1 h2=>by omega,fun b hb=> ?_⟩
    · rw [Below.heap_setCell _ _ _ _ (by simp;omega),Below.heap_setCell _ _ _ _ (by simp;omega),Below.heap_setCell _ _ _ _ (by simp;omega),Below.heap_setCell _ _ _ _ (by simp;omega),Below.heap_setCell _ _ _ _ (by simp;omega)]
    · rw [Below.heap_setCell _ _ _ _ (by simp;omega),Below.heap_setCell _ _ _ _ (by simp;omega),Below.heap_setCell _ _ _ _ (by simp;omega),Below.heap_setCell _ _ _ _ (by simp;omega),Below.heap_setCell _ _ _ _ (by simp;omega)]
    · unfold qaj
      simp only [World.setCell,Array.size_modify]
      rcases hb with hb|hb<;>omega
end Go.Proofs.YthnmlipnoajmkaaGreatDoor

namespace Go.Proofs.YthnmlipnoajmkaaGreatDoor
open Go.RowKit
set_option maxRecDepth 100000

theorem qa2 {α:Type} (l:List α) (j:Nat) (x z:α) (i:Nat) (hj:j<l.length): (l.set j x)[i]?.getD z=if i=j then x else l[i]?.getD z:=by
 rw [List.getElem?_set]
 by_cases e:i=j
 · subst e;simp [hj]
 · rw [if_neg (fun h=>e h.symm),if_neg e]

structure YsS (w:World) (b n cap:Nat) (zss:List (List UInt8)) (F:Nat→Prop):Prop where
 len:zss.length=n
 max:n≤maxLen∧n≤cap
 own: ∃ (u:Nat→Value) (G:Nat→Nat→Prop),F b∧ (∀i c,G i c→F c∧c≠b)∧ (∀i j c,i≠j→G i c→ ¬G j c)∧qaa w b n u∧ ∀i,i<n→qbt w (u i) (zss[i]?.getD []) (G i)
theorem YsS.byts {w:World} {b n cap:Nat} {zss:List (List UInt8)} {F:Nat→Prop} (h:YsS w b n cap zss F):qaR w (.slice (some ⟨b,0,none⟩) n cap) zss F:=by
 obtain ⟨rfl,hm,u,G,h1,h2,h3,h4,h5⟩:=h
 exact Or.inr ⟨b,cap,u,G,h1,h2,h3,rfl,hm,h4,h5⟩
theorem YsS.of {w:World} {v:Value} {zss:List (List UInt8)} {F:Nat→Prop} (h:qaR w v zss F) (h0:0<zss.length): ∃b cap,v= .slice (some ⟨b,0,none⟩) zss.length cap∧YsS w b zss.length cap zss F:=by
 rcases h with ⟨rfl,_⟩| ⟨b,cap,u,G,hF,hG,hGG,h1,h2,h3,h4⟩
 · simp at h0
 · exact ⟨b,cap,h1,rfl,h2,u,G,hF,hG,hGG,h3,h4⟩
theorem YsS.keep {w w':World} {b n cap:Nat} {zss:List (List UInt8)} {F:Nat→Prop} (h:YsS w b n cap zss F) (e: ∀c,F c→c<w.heap.size→w'.heap[c]?=w.heap[c]?):YsS w' b n cap zss F:=by
 obtain ⟨h0,hm,u,G,h1,h2,h3,h4,h5⟩:=h
 exact ⟨h0,hm,u,G,h1,h2,h3,h4.block (e b h1 h4.lt),fun i hi=> (h5 i hi).keep fun c hc=>e c (h2 i c hc).1⟩
theorem YsS.mono {w:World} {b n cap:Nat} {zss:List (List UInt8)} {F F':Nat→Prop} (h:YsS w b n cap zss F) (e: ∀c,F c→F' c):YsS w b n cap zss F':=by
 obtain ⟨h0,hm,u,G,h1,h2,h3,h4,h5⟩:=h
 exact ⟨h0,hm,u,G,e b h1,fun i c hc=> ⟨e c (h2 i c hc).1,(h2 i c hc).2⟩,h3,h4,h5⟩
theorem YsS.bound {w:World} {b n cap:Nat} {zss:List (List UInt8)} {F:Nat→Prop} (h:YsS w b n cap zss F):YsS w b n cap zss (fun c=>F c∧c<w.heap.size):=by
 obtain ⟨h0,hm,u,G,h1,h2,h3,h4,h5⟩:=h
 exact ⟨h0,hm,u,fun i c=>G i c∧c<w.heap.size,⟨h1,h4.lt⟩,fun i c hc=> ⟨⟨(h2 i c hc.1).1,hc.2⟩,(h2 i c hc.1).2⟩,fun i j c e hc hc'=>h3 i j c e hc.1 hc'.1,h4,fun i hi=> (h5 i hi).bound⟩
theorem YsS.cell {w:World} {b n cap:Nat} {zss:List (List UInt8)} {F:Nat→Prop} (h:YsS w b n cap zss F) (y:Nat) (hy:y<n): ∃ua uc,w.cell? ⟨b,y,none⟩=some (.slice ua (zss[y]?.getD []).length uc)∧w.frozen? ⟨b,y,none⟩=false∧Byt w (.slice ua (zss[y]?.getD []).length uc) (zss[y]?.getD []):=by
 obtain ⟨h0,hm,u,G,h1,h2,h3,h4,h5⟩:=h
 obtain ⟨ua,uc,e,h6,h7⟩:= (h5 y hy).reads
 have:=h4.cell hy
 rw [e] at this
 exact ⟨ua,uc,this,h4.frozen y,ua,uc,rfl,h6,h7⟩
theorem YsS.put {w W:World} {b n cap:Nat} {zss:List (List UInt8)} {F G':Nat→Prop} (h:YsS w b n cap zss F) (y:Nat) (hy:y<n) (hk: ∀c,F c→c<w.heap.size→W.heap[c]?=w.heap[c]?) (v:Value) (zs:List UInt8) (hv:qbt W v zs G') (hG: ∀c,G' c→w.heap.size≤c∧ ¬c=b):
 YsS (W.setCell ⟨b,y,none⟩ v) b n cap (zss.set y zs) (fun c=>F c∨G' c):=by
 obtain ⟨h0,hm,u,G,h1,h2,h3,h4,h5⟩:=h.bound
 refine ⟨by simpa using h0,hm,fun i=>if i=y then v else u i,fun i c=>if i=y then G' c else G i c,Or.inl h1.1,fun i c hc=> ?_,fun i j c e hc hc'=> ?_,((h4.block (hk b h1.1 h1.2)).set y v).congr fun i _=>rfl,fun i hi=> ?_⟩
 · by_cases e:i=y
   · simp only [e,if_true] at hc
     exact ⟨Or.inr hc,(hG c hc).2⟩
   · simp only [e,if_false] at hc
     exact ⟨Or.inl (h2 i c hc).1.1,(h2 i c hc).2⟩
 · by_cases ei:i=y
   · have ej: ¬j=y:=fun ej=>e (ei.trans ej.symm)
     simp only [ei,ej,if_true,if_false] at hc hc'
     have:= (h2 j c hc').1.2
     have:= (hG c hc).1
     omega
   · by_cases ej:j=y
     · simp only [ei,ej,if_true,if_false] at hc hc'
       have:= (h2 i c hc).1.2
       have:= (hG c hc').1
       omega
     · simp only [ei,ej,if_false] at hc hc'
       exact h3 i j c e hc hc'
 · rw [qa2 _ _ _ _ _ (by omega)]
   by_cases e:i=y
   · simp only [e,if_true]
     exact hv.keep fun c hc _=>Below.heap_setCell _ _ _ _ (hG c hc).2
   · simp only [e,if_false]
     exact ((h5 i hi).keep fun c hc hlt=>hk c (h2 i c hc).1.1 hlt).keep fun c hc _=>Below.heap_setCell _ _ _ _ (h2 i c hc).2

structure InS (w:World) (b n cap:Nat) (ds:List ID) (F:Nat→Prop):Prop where
 len:ds.length=n
 max:n≤maxLen∧n≤cap
 own: ∃ (u:Nat→Value×Value) (G:Nat→Nat→Prop),F b∧ (∀i c,G i c→F c∧c≠b)∧ (∀i j c,i≠j→G i c→ ¬G j c)∧qaa w b (n*5) (qao ds u)∧
  ∀i,i<n→qdo w (.int .i64 (ds[i]?.getD id0).1) (.int .i64 (ds[i]?.getD id0).2.1) (.int .i64 (ds[i]?.getD id0).2.2.1) (u i).1 (u i).2 (ds[i]?.getD id0) (G i)
theorem InS.inos {w:World} {b n cap:Nat} {ds:List ID} {F:Nat→Prop} (h:InS w b n cap ds F):qbk w (.slice (some ⟨b,0,none⟩) n cap) ds F:=by
 obtain ⟨rfl,hm,u,G,h1,h2,h3,h4,h5⟩:=h
 exact Or.inr ⟨b,cap,u,G,h1,h2,h3,rfl,hm,h4,h5⟩
theorem InS.of {w:World} {v:Value} {ds:List ID} {F:Nat→Prop} (h:qbk w v ds F) (h0:0<ds.length): ∃b cap,v= .slice (some ⟨b,0,none⟩) ds.length cap∧InS w b ds.length cap ds F:=by
 rcases h with ⟨rfl,_⟩| ⟨b,cap,u,G,hF,hG,hGG,h1,h2,h3,h4⟩
 · simp at h0
 · exact ⟨b,cap,h1,rfl,h2,u,G,hF,hG,hGG,h3,h4⟩
theorem InS.keep {w w':World} {b n cap:Nat} {ds:List ID} {F:Nat→Prop} (h:InS w b n cap ds F) (e: ∀c,F c→c<w.heap.size→w'.heap[c]?=w.heap[c]?):InS w' b n cap ds F:=by
 obtain ⟨h0,hm,u,G,h1,h2,h3,h4,h5⟩:=h
 exact ⟨h0,hm,u,G,h1,h2,h3,h4.block (e b h1 h4.lt),fun i hi=> (h5 i hi).keep fun c hc=>e c (h2 i c hc).1⟩
theorem InS.mono {w:World} {b n cap:Nat} {ds:List ID} {F F':Nat→Prop} (h:InS w b n cap ds F) (e: ∀c,F c→F' c):InS w b n cap ds F':=by
 obtain ⟨h0,hm,u,G,h1,h2,h3,h4,h5⟩:=h
 exact ⟨h0,hm,u,G,e b h1,fun i c hc=> ⟨e c (h2 i c hc).1,(h2 i c hc).2⟩,h3,h4,h5⟩
theorem InS.bound {w:World} {b n cap:Nat} {ds:List ID} {F:Nat→Prop} (h:InS w b n cap ds F):InS w b n cap ds (fun c=>F c∧c<w.heap.size):=by
 obtain ⟨h0,hm,u,G,h1,h2,h3,h4,h5⟩:=h
 exact ⟨h0,hm,u,fun i c=>G i c∧c<w.heap.size,⟨h1,h4.lt⟩,fun i c hc=> ⟨⟨(h2 i c hc.1).1,hc.2⟩,(h2 i c hc.1).2⟩,fun i j c e hc hc'=>h3 i j c e hc.1 hc'.1,h4,fun i hi=> (h5 i hi).bound⟩
theorem InS.at' {w:World} {b n cap:Nat} {ds:List ID} {F:Nat→Prop} (h:InS w b n cap ds F) (j:Nat) (hj:j<n): ∃aB cB aE cE,
 w.cell? ⟨b,j*5,none⟩=some (.int .i64 (ds[j]?.getD id0).1)∧w.cell? ⟨b,j*5+1,none⟩=some (.int .i64 (ds[j]?.getD id0).2.1)∧w.cell? ⟨b,j*5+2,none⟩=some (.int .i64 (ds[j]?.getD id0).2.2.1)∧
 w.cell? ⟨b,j*5+3,none⟩=some (.slice aB (ds[j]?.getD id0).2.2.2.1.length cB)∧w.cell? ⟨b,j*5+4,none⟩=some (.slice aE (ds[j]?.getD id0).2.2.2.2.length cE)∧
 ((ds[j]?.getD id0).2.2.2.1.length≤cB)∧ (∀i,w.frozen? ⟨b,i,none⟩=false)∧b<w.heap.size∧
 (∀k,k< (ds[j]?.getD id0).2.2.2.1.length→ ∃b1,aB=some ⟨b1,0,none⟩∧F b1∧b1≠b∧b1<w.heap.size∧w.cell? ⟨b1,k,none⟩=some (.int .i64 ((ds[j]?.getD id0).2.2.2.1[k]?.getD 0)))∧
 qfs w (.int .i64 (ds[j]?.getD id0).1) (.int .i64 (ds[j]?.getD id0).2.1) (.int .i64 (ds[j]?.getD id0).2.2.1) (.slice aB (ds[j]?.getD id0).2.2.2.1.length cB) (.slice aE (ds[j]?.getD id0).2.2.2.2.length cE) (ds[j]?.getD id0):=by
 obtain ⟨h0,hm,u,G,h1,h2,h3,h4,h5⟩:=h
 have hu:=h5 j hj
 obtain ⟨aB,cB,eB,_,_⟩:=hu.reads.2.1.open'
 obtain ⟨aE,cE,eE,_,_⟩:=hu.reads.2.2.open'
 have e0:=h4.cell (i:=j*5) (by omega)
 have e1:=h4.cell (i:=j*5+1) (by omega)
 have e2:=h4.cell (i:=j*5+2) (by omega)
 have e3:=h4.cell (i:=j*5+3) (by omega)
 have e4:=h4.cell (i:=j*5+4) (by omega)
 rw [qb5] at e0
 rw [qcs] at e1
 rw [qb6] at e2
 rw [qbL,eB] at e3
 rw [qbv,eE] at e4
 have hr:=hu.reads
 rw [eB,eE] at hr
 refine ⟨aB,cB,aE,cE,e0,e1,e2,e3,e4, ?_,h4.frozen,h4.lt,fun k hk=> ?_,hr⟩
 · obtain ⟨_,_,_,e,hle⟩:=hr.1.2.2.2
   simp only [Value.slice.injEq] at e
   obtain ⟨_,rfl,rfl⟩:=e
   exact hle
 · obtain ⟨_,F1,G1,hI,_,_,hf⟩:=hu
   rcases hI with ⟨hI,_⟩| ⟨b1,cap1,hF1,hv,hl,hr1⟩
   · rw [hI] at hk;simp at hk
   · rw [eB] at hv
     simp only [Value.slice.injEq] at hv
     obtain ⟨rfl,_,rfl⟩:=hv
     have:=h2 j b1 (hf b1 (Or.inl hF1))
     exact ⟨b1,rfl,this.1,this.2,hr1.lt,hr1.cell hk⟩
theorem InS.put {w W:World} {b n cap:Nat} {ds:List ID} {F G':Nat→Prop} (h:InS w b n cap ds F) (j:Nat) (_hj:j<n) (d':ID) (vB vE:Value)
 (hrow: ∀u,qaa w b (n*5) (qao ds u)→qaa W b (n*5) (qao (ds.set j d') (fun i=>if i=j then (vB,vE) else u i)))
 (hk: ∀c,F c→c≠b→c<w.heap.size→W.heap[c]?=w.heap[c]?) (hv:qdo W (.int .i64 d'.1) (.int .i64 d'.2.1) (.int .i64 d'.2.2.1) vB vE d' G') (hG: ∀c,G' c→ ¬F c∧c≠b):
 InS W b n cap (ds.set j d') (fun c=>F c∨G' c):=by
 obtain ⟨h0,hm,u,G,h1,h2,h3,h4,h5⟩:=h
 refine ⟨by simpa using h0,hm,fun i=>if i=j then (vB,vE) else u i,fun i c=>if i=j then G' c else G i c,Or.inl h1,fun i c hc=> ?_,fun i k c e hc hc'=> ?_,hrow u h4,fun i hi=> ?_⟩
 · by_cases e:i=j
   · simp only [e,if_true] at hc
     exact ⟨Or.inr hc,(hG c hc).2⟩
   · simp only [e,if_false] at hc
     exact ⟨Or.inl (h2 i c hc).1,(h2 i c hc).2⟩
 · by_cases ei:i=j
   · have ej: ¬k=j:=fun ej=>e (ei.trans ej.symm)
     simp only [ei,ej,if_true,if_false] at hc hc'
     exact (hG c hc).1 (h2 k c hc').1
   · by_cases ej:k=j
     · simp only [ei,ej,if_true,if_false] at hc hc'
       exact (hG c hc').1 (h2 i c hc).1
     · simp only [ei,ej,if_false] at hc hc'
       exact h3 i k c e hc hc'
 · rw [qa2 _ _ _ _ _ (by omega)]
   by_cases e:i=j
   · simp only [e,if_true]
     exact hv
   · simp only [e,if_false]
     exact (h5 i hi).keep fun c hc hlt=>hk c (h2 i c hc).1 (h2 i c hc).2 hlt

theorem qcd (ds:List ID) (u:Nat→Value×Value) (j:Nat) (hj:j<ds.length) (d':ID) (vB vE:Value) (c:Nat):
 qao (ds.set j d') (fun i=>if i=j then (vB,vE) else u i) c=if c=j*5 then .int .i64 d'.1 else if c=j*5+1 then .int .i64 d'.2.1 else if c=j*5+2 then .int .i64 d'.2.2.1 else if c=j*5+3 then vB else if c=j*5+4 then vE else qao ds u c:=by
 unfold qao
 dsimp only
 rw [qa2 _ _ _ _ _ hj]
 by_cases e:c/5=j
 · have:c % 5=0∨c % 5=1∨c % 5=2∨c % 5=3∨c % 5=4:=by omega
   rcases this with h|h|h|h|h
   · rw [if_pos e,if_pos h,if_pos (by omega)]
   · rw [if_pos e,if_neg (by omega),if_pos h,if_neg (by omega),if_pos (by omega)]
   · rw [if_pos e,if_neg (by omega),if_neg (by omega),if_pos h,if_neg (by omega),if_neg (by omega),if_pos (by omega)]
   · rw [if_neg (by omega),if_neg (by omega),if_neg (by omega),if_pos h,if_pos e,if_neg (by omega),if_neg (by omega),if_neg (by omega),if_pos (by omega)]
   · rw [if_neg (by omega),if_neg (by omega),if_neg (by omega),if_neg (by omega),if_pos e,if_neg (by omega),if_neg (by omega),if_neg (by omega),if_neg (by omega),if_pos (by omega)]
 · rw [if_neg e,if_neg e,if_neg (show ¬c=j*5 by omega),if_neg (show ¬c=j*5+1 by omega),if_neg (show ¬c=j*5+2 by omega),if_neg (show ¬c=j*5+3 by omega),if_neg (show ¬c=j*5+4 by omega)]

structure FsS (w:World) (bI n cI bD m cD:Nat) (d:FD) (F:Nat→Prop):Prop where
 own: ∃F1 G1:Nat→Prop,InS w bI n cI d.1 F1∧YsS w bD m cD d.2 G1∧ (∀b,F1 b→ ¬G1 b)∧ ∀b,F1 b∨G1 b→F b∧b<w.heap.size
theorem FsS.fs {w:World} {bI n cI bD m cD:Nat} {d:FD} {F:Nat→Prop} (h:FsS w bI n cI bD m cD d F):FsU w (.slice (some ⟨bI,0,none⟩) n cI) (.slice (some ⟨bD,0,none⟩) m cD) d F:=by
 obtain ⟨F1,G1,h1,h2,h3,h4⟩:=h
 exact ⟨F1,G1,h1.inos,h2.byts,h3,fun b hb=> (h4 b hb).1⟩
theorem FsS.of {w:World} {v1 v2:Value} {d:FD} {F:Nat→Prop} (h:FsU w v1 v2 d F) (h1:0<d.1.length) (h2:0<d.2.length): ∃bI cI bD cD,v1= .slice (some ⟨bI,0,none⟩) d.1.length cI∧v2= .slice (some ⟨bD,0,none⟩) d.2.length cD∧FsS w bI d.1.length cI bD d.2.length cD d F:=by
 obtain ⟨F1,G1,i1,i2,i3,i4⟩:=h
 obtain ⟨bI,cI,rfl,k1⟩:=InS.of i1 h1
 obtain ⟨bD,cD,rfl,k2⟩:=YsS.of i2 h2
 exact ⟨bI,cI,bD,cD,rfl,rfl,_,_,k1.bound,k2.bound,fun b hb hb'=>i3 b hb.1 hb'.1,fun b hb=>by
  rcases hb with hb|hb
  · exact ⟨i4 b (Or.inl hb.1),hb.2⟩
  · exact ⟨i4 b (Or.inr hb.1),hb.2⟩⟩
theorem FsS.later {w w':World} {bI n cI bD m cD:Nat} {d:FD} {F:Nat→Prop} (h:FsS w bI n cI bD m cD d F) (hb:Below w.heap.size w w'):FsS w' bI n cI bD m cD d F:=by
 obtain ⟨F1,G1,h1,h2,h3,h4⟩:=h
 exact ⟨F1,G1,h1.keep fun c _ hlt=>hb.block c hlt,h2.keep fun c _ hlt=>hb.block c hlt,h3,fun b hb'=> ⟨(h4 b hb').1,Nat.lt_of_lt_of_le (h4 b hb').2 hb.size⟩⟩
theorem FsS.mono {w:World} {bI n cI bD m cD:Nat} {d:FD} {F F':Nat→Prop} (h:FsS w bI n cI bD m cD d F) (e: ∀c,F c→F' c):FsS w bI n cI bD m cD d F':=by
 obtain ⟨F1,G1,h1,h2,h3,h4⟩:=h
 exact ⟨F1,G1,h1,h2,h3,fun b hb=> ⟨e b (h4 b hb).1,(h4 b hb).2⟩⟩
theorem FsS.chg {w w':World} {bI n cI bD m cD:Nat} {d:FD} {F G:Nat→Prop} (h:FsS w bI n cI bD m cD d F) (hc:Chg G w w') (hd: ∀b,F b→ ¬G b):FsS w' bI n cI bD m cD d F:=by
 obtain ⟨F1,G1,h1,h2,h3,h4⟩:=h
 exact ⟨F1,G1,h1.keep fun c hc' hlt=>hc.block c hlt (hd c (h4 c (Or.inl hc')).1),h2.keep fun c hc' hlt=>hc.block c hlt (hd c (h4 c (Or.inr hc')).1),h3,fun b hb'=> ⟨(h4 b hb').1,Nat.lt_of_lt_of_le (h4 b hb').2 hc.size⟩⟩
theorem FsS.len {w:World} {bI n cI bD m cD:Nat} {d:FD} {F:Nat→Prop} (h:FsS w bI n cI bD m cD d F):d.1.length=n∧d.2.length=m:=by
 obtain ⟨F1,G1,h1,h2,h3,h4⟩:=h
 exact ⟨h1.len,h2.len⟩
theorem FsS.ne {w:World} {bI n cI bD m cD:Nat} {d:FD} {F:Nat→Prop} (h:FsS w bI n cI bD m cD d F):bI≠bD∧ (F bI∧bI<w.heap.size)∧ (F bD∧bD<w.heap.size):=by
 obtain ⟨F1,G1,h1,h2,h3,h4⟩:=h
 obtain ⟨_,_,u,G,a1,_⟩:=h1
 obtain ⟨_,_,u',G',b1,_⟩:=h2
 exact ⟨fun e=>h3 bI a1 (e▸b1),h4 _ (Or.inl a1),h4 _ (Or.inr b1)⟩
theorem FsS.data {w:World} {bI n cI bD m cD:Nat} {d:FD} {F:Nat→Prop} (h:FsS w bI n cI bD m cD d F) (y:Nat) (hy:y<m): ∃ua uc,w.cell? ⟨bD,y,none⟩=some (.slice ua (d.2[y]?.getD []).length uc)∧w.frozen? ⟨bD,y,none⟩=false∧Byt w (.slice ua (d.2[y]?.getD []).length uc) (d.2[y]?.getD []):=by
 obtain ⟨F1,G1,h1,h2,h3,h4⟩:=h
 exact h2.cell y hy
theorem FsS.put {w W:World} {bI n cI bD m cD:Nat} {d:FD} {F G:Nat→Prop} (h:FsS w bI n cI bD m cD d F) (y:Nat) (hy:y<m) (hb:Below w.heap.size w W) (v:Value) (zs:List UInt8) (hv:qbt W v zs G) (hG: ∀c,G c→F c∧w.heap.size≤c∧c<W.heap.size):
 FsS (W.setCell ⟨bD,y,none⟩ v) bI n cI bD m cD (d.1,d.2.set y zs) F:=by
 have hne:=h.ne
 obtain ⟨F1,G1,h1,h2,h3,h4⟩:=h
 refine ⟨F1,fun c=>G1 c∨G c,h1.keep fun c hc hlt=> ?_,h2.put y hy (fun c _ hlt=>hb.block c hlt) v zs hv (fun c hc=> ⟨(hG c hc).2.1, ?_⟩),fun b hb1 hb2=> ?_,fun b hb'=> ?_⟩
 · rw [Below.heap_setCell _ _ _ _ (fun e=>h3 c hc (by
    obtain ⟨_,_,u',G',b1,_⟩:=h2
    show G1 c
    rw [show c=bD from e]
    exact b1)),hb.block c hlt]
 · have:= (hG c hc).2.1
   have:=hne.2.2.2
   omega
 · rcases hb2 with hb2|hb2
   · exact h3 b hb1 hb2
   · have:= (h4 b (Or.inl hb1)).2
     have:= (hG b hb2).2.1
     omega
 · have hs:=hb.size
   have e: (W.setCell ⟨bD,y,none⟩ v).heap.size=W.heap.size:=by simp [World.setCell]
   rw [e]
   rcases hb' with hb'|hb'|hb'
   · exact ⟨(h4 b (Or.inl hb')).1,Nat.lt_of_lt_of_le (h4 b (Or.inl hb')).2 hs⟩
   · exact ⟨(h4 b (Or.inr hb')).1,Nat.lt_of_lt_of_le (h4 b (Or.inr hb')).2 hs⟩
   · exact ⟨(hG b hb').1,(hG b hb').2.2⟩
theorem FsS.putI {w W:World} {bI n cI bD m cD:Nat} {d:FD} {F G:Nat→Prop} (h:FsS w bI n cI bD m cD d F) (j:Nat) (hj:j<n) (d':ID) (vB vE:Value)
 (hrow: ∀u,qaa w bI (n*5) (qao d.1 u)→qaa W bI (n*5) (qao (d.1.set j d') (fun i=>if i=j then (vB,vE) else u i)))
 (hc:Chg (fun c=>c=bI) w W) (hv:qdo W (.int .i64 d'.1) (.int .i64 d'.2.1) (.int .i64 d'.2.2.1) vB vE d' G) (hG: ∀c,G c→ ¬F c∧c<W.heap.size):
 FsS W bI n cI bD m cD (d.1.set j d',d.2) (fun c=>F c∨G c):=by
 have hne:=h.ne
 obtain ⟨F1,G1,h1,h2,h3,h4⟩:=h
 refine ⟨fun c=>F1 c∨G c,G1,h1.put j hj d' vB vE hrow (fun c _ hc1 hlt=>hc.block c hlt hc1) hv (fun c hc'=> ⟨fun h=> (hG c hc').1 (h4 c (Or.inl h)).1,fun e=> (hG c hc').1 (e▸hne.2.1.1)⟩),h2.keep fun c hc' hlt=>hc.block c hlt (fun e=> ?_),fun b hb1 hb2=> ?_,fun b hb'=> ?_⟩
 · obtain ⟨_,_,u,G,a1,_⟩:=h1
   exact h3 bI a1 (e▸hc')
 · rcases hb1 with hb1|hb1
   · exact h3 b hb1 hb2
   · exact (hG b hb1).1 (h4 b (Or.inr hb2)).1
 · have hs:=hc.size
   rcases hb' with (hb'|hb')|hb'
   · exact ⟨Or.inl (h4 b (Or.inl hb')).1,Nat.lt_of_lt_of_le (h4 b (Or.inl hb')).2 hs⟩
   · exact ⟨Or.inr hb',(hG b hb').2⟩
   · exact ⟨Or.inl (h4 b (Or.inr hb')).1,Nat.lt_of_lt_of_le (h4 b (Or.inr hb')).2 hs⟩
theorem FsS.ino {w:World} {bI n cI bD m cD:Nat} {d:FD} {F:Nat→Prop} (h:FsS w bI n cI bD m cD d F) (j:Nat) (hj:j<n): ∃aB cB aE cE,
 w.cell? ⟨bI,j*5,none⟩=some (.int .i64 (d.1[j]?.getD id0).1)∧w.cell? ⟨bI,j*5+1,none⟩=some (.int .i64 (d.1[j]?.getD id0).2.1)∧w.cell? ⟨bI,j*5+2,none⟩=some (.int .i64 (d.1[j]?.getD id0).2.2.1)∧
 w.cell? ⟨bI,j*5+3,none⟩=some (.slice aB (d.1[j]?.getD id0).2.2.2.1.length cB)∧w.cell? ⟨bI,j*5+4,none⟩=some (.slice aE (d.1[j]?.getD id0).2.2.2.2.length cE)∧
 ((d.1[j]?.getD id0).2.2.2.1.length≤cB)∧ (∀i,w.frozen? ⟨bI,i,none⟩=false)∧
 (∀k,k< (d.1[j]?.getD id0).2.2.2.1.length→ ∃b1,aB=some ⟨b1,0,none⟩∧F b1∧b1≠bI∧b1≠bD∧b1<w.heap.size∧w.cell? ⟨b1,k,none⟩=some (.int .i64 ((d.1[j]?.getD id0).2.2.2.1[k]?.getD 0))):=by
 obtain ⟨F1,G1,h1,h2,h3,h4⟩:=h
 obtain ⟨aB,cB,aE,cE,e0,e1,e2,e3,e4,e5,e6,e7,e8,e9⟩:=h1.at' j hj
 refine ⟨aB,cB,aE,cE,e0,e1,e2,e3,e4,e5,e6,fun k hk=> ?_⟩
 obtain ⟨b1,f1,f2,f3,f4,f5⟩:=e8 k hk
 refine ⟨b1,f1,(h4 b1 (Or.inl f2)).1,f3,fun e=> ?_,f4,f5⟩
 obtain ⟨_,_,u',G',g1,_⟩:=h2
 exact h3 b1 f2 (e▸g1)
end Go.Proofs.YthnmlipnoajmkaaGreatDoor

namespace Go.Proofs.YthnmlipnoajmkaaGreatDoor
open Go.RowKit
set_option maxRecDepth 100000

structure FsX (w:World) (b o:Nat) (d:FD) (aI:Option Addr) (cI:Nat) (aD:Option Addr) (cD:Nat):Prop where
 c0:w.cell? ⟨b,o,none⟩=some (.slice aI d.1.length cI)
 c1:w.cell? ⟨b,o+1,none⟩=some (.slice aD d.2.length cD)
 ins:qdJ w (.slice aI d.1.length cI) d.1
 byt:qfn w (.slice aD d.2.length cD) d.2
theorem FsX.later {w w':World} {b o:Nat} {d:FD} {aI:Option Addr} {cI:Nat} {aD:Option Addr} {cD:Nat} (h:FsX w b o d aI cI aD cD) (hb:Below w.heap.size w w'):FsX w' b o d aI cI aD cD:=
 ⟨cell_later hb h.c0,cell_later hb h.c1,h.ins.later hb,h.byt.later hb⟩
theorem FsX.drew {w:World} {b o:Nat} {d:FD} {aI:Option Addr} {cI:Nat} {aD:Option Addr} {cD:Nat} (h:FsX w b o d aI cI aD cD) (m:Nat):FsX (w.drewN m) b o d aI cI aD cD:=h.later (below_drewN (Below.refl _ _) m)

def qa7 (ds:List ID) (x:Int):Bool:=decide ((ds.length:Int)≤x)||decide (qae ds x.toNat=0)
def qfQ (d:FD):Bool:=decide (d.1.length=0)||decide (qae d.1 0≠2)||decide (d.2.length≠20)
def qbz (zss:List (List UInt8)) (i:Nat):Int:=if 8< (zss[i]?.getD []).length then 2 else 0
def qcA (ds:List ID):Int:=if (qco ds).any (qa7 ds) then 4 else 0
def fsE (d:FD):Int:=if qaY d.1=0 then (if qfQ d then 1 else if qaJ (qbz d.2) d.2.length=0 then (if qb8 d.1 20 then qcA d.1 else 7) else qaJ (qbz d.2) d.2.length) else qaY d.1

set_option maxHeartbeats 800000 in
theorem qmS (w:World) (b o:Nat) (d:FD) (aI:Option Addr) (cI:Nat) (aD:Option Addr) (cD:Nat) (h:FsX w b o d aI cI aD cD) (hi: ¬qaY d.1=0):
 Calls Tryz.prog 38 #[.pointer (some ⟨b,o,none⟩)] w fun e w'=>e= .returned (.int .i64 (fsE d))∧ ∃m,w'=w.drewN m:=by
 have HE:Hid (qaY d.1=fsE d):=by unfold Hid fsE;rw [if_neg hi]
 have HF:Hid (Calls Tryz.prog 73 #[.slice aI d.1.length cI] w fun e w'=>e= .returned (.int .i64 (qaY d.1))∧ ∃m,w'=w.drewN m):=qd1 h.ins
 have c0:=h.c0
 have hb: (qaY d.1 !=0)=true:=by simpa using hi
 clear h hi
 generalize qaY d.1=r at*
 generalize d.1.length=n at*
 go_enter Tryz.func38,Tryz.ntmps38
 go_wp2_with fail
 refine HF.out.mono ?_
 rintro e w1 ⟨rfl,q,rfl⟩
 go_wp2
 go_ret
 exact ⟨qad HE.out,_,rfl⟩

set_option maxHeartbeats 1600000 in
theorem qlA (w:World) (b o:Nat) (d:FD) (aI:Option Addr) (cI:Nat) (aD:Option Addr) (cD:Nat) (h:FsX w b o d aI cI aD cD) (hi:qaY d.1=0) (hf:qfQ d=true):
 Calls Tryz.prog 38 #[.pointer (some ⟨b,o,none⟩)] w fun e w'=>e= .returned (.int .i64 (fsE d))∧ ∃m,w'=w.drewN m:=by
 have HE:Hid (1=fsE d):=by unfold Hid fsE;rw [if_pos hi,if_pos hf]
 have HF:Hid (Calls Tryz.prog 73 #[.slice aI d.1.length cI] w fun e w'=>e= .returned (.int .i64 (qaY d.1))∧ ∃m,w'=w.drewN m):=qd1 h.ins
 have c0:=h.c0
 have c1:=h.c1
 rw [hi] at HF
 obtain ⟨_,_,e1,hm1,hAt⟩:=h.ins.open'
 obtain ⟨_,_,e2,hm2,_⟩:=h.byt.open'
 simp only [Value.slice.injEq] at e1 e2
 obtain ⟨rfl,-,rfl⟩:=e1
 obtain ⟨rfl,-,rfl⟩:=e2
 unfold maxLen at hm1 hm2
 by_cases h0:d.1.length=0
 · have hb0: (((d.1.length:Nat):Int)==0)=true:=by simp [h0]
   clear h hi hf hAt h0
   generalize d.1.length=n at*
   generalize d.2.length=n2 at*
   go_enter Tryz.func38,Tryz.ntmps38
   go_wp2_with fail
   refine HF.out.mono ?_
   rintro e w1 ⟨rfl,q,rfl⟩
   go_wp2
   go_ret
   exact ⟨qad HE.out,_,rfl⟩
 · have hb0: (((d.1.length:Nat):Int)==0)=false:=by rw [beq_eq_false_iff_ne];omega
   obtain ⟨bI,oI,rfl,hI⟩:=hAt 0 (by omega)
   obtain ⟨_,_,_,_,k0,_⟩:=hI
   rw [Nat.zero_mul,Nat.add_zero] at k0
   have k0':w.cell? ⟨bI,oI,none⟩=some (.int .i64 (qae d.1 0)):=k0
   by_cases h1:qae d.1 0=2
   · have h2: ¬d.2.length=20:=fun e=>by simp [qfQ,h0,h1,e] at hf
     have hk: (qae d.1 0 !=2)=false:=by simp [h1]
     have hd: (((d.2.length:Nat):Int) !=20)=true:=by simp;omega
     clear h hi hf hAt h1 h2 k0
     generalize qae d.1 0=kk at*
     generalize d.1.length=n at*
     generalize d.2.length=n2 at*
     go_enter Tryz.func38,Tryz.ntmps38
     go_wp2_with fail
     refine HF.out.mono ?_
     rintro e w1 ⟨rfl,q,rfl⟩
     go_wp2
     go_ret
     exact ⟨qad HE.out,_,rfl⟩
   · have hk: (qae d.1 0 !=2)=true:=by simpa using h1
     clear h hi hf hAt h1 k0
     generalize qae d.1 0=kk at*
     generalize d.1.length=n at*
     generalize d.2.length=n2 at*
     go_enter Tryz.func38,Tryz.ntmps38
     go_wp2_with fail
     refine HF.out.mono ?_
     rintro e w1 ⟨rfl,q,rfl⟩
     go_wp2
     go_ret
     exact ⟨qad HE.out,_,rfl⟩
end Go.Proofs.YthnmlipnoajmkaaGreatDoor
