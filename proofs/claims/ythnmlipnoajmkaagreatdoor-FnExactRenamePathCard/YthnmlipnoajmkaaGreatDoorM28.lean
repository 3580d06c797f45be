/- The specification's RenamePath. -/
import Derived.Test.YthnmlipnoajmkaaGreatDoorM27
namespace Go.Proofs.YthnmlipnoajmkaaGreatDoor
open Go.RowKit
set_option maxRecDepth 100000

theorem qqi {d:FD} (hf:fsF d=0) {tj z:Nat} (ht:DirS d tj) (hz:z<d.1.length) (hk:qae d.1 z=2):qfa d (tj:Int) (z:Int)=qca (qai d.1) (tj:Int) 10 (z:Int):=by
 have h1:thB d (tj:Int)=true:=by
  have h2:qae d.1 tj=2:=ht.kind
  have:=ht.lt
  unfold thB
  rw [Int.toNat_natCast,h2]
  simp;omega
 have h2:thB d (z:Int)=true:=by
  unfold thB
  rw [Int.toNat_natCast,hk]
  simp;omega
 unfold qfa
 rw [h1,h2]
 simp [hf]
theorem qdb {d:FD} {j:Nat} {s:ByteArray} {tj:Nat} {t:ByteArray} {z tz:Nat} {c:Int} (hz:atE d j s= (z:Int)) (ht:atE d tj t= (tz:Int)) (h:qeX d j z tj (qbG d tj t) tz=c) (hc: ¬c=0∨ (qbG d tj t=true∧tz=z)):qhP d j s tj t=qav d c:=by
 unfold qhP
 rw [hz,ht,Int.toNat_natCast,Int.toNat_natCast,h]
 rw [if_pos]
 rcases hc with hc|hc
 · exact Or.inl hc
 · exact Or.inr ⟨hc.1,by rw [hc.2]⟩
theorem qg0 {d:FD} {j:Nat} {s:ByteArray} {tj:Nat} {t:ByteArray} {z tz:Nat} (hz:atE d j s= (z:Int)) (ht:atE d tj t= (tz:Int)) (h:qeX d j z tj (qbG d tj t) tz=0) (hc: ¬ (qbG d tj t=true∧tz=z)):qhP d j s tj t= (0,0,0, [], [],qdu d j s tj t z):=by
 unfold qhP
 rw [hz,ht,Int.toNat_natCast,Int.toNat_natCast,h]
 rw [if_neg]
 rintro (hh|hh)
 · exact hh rfl
 · exact hc ⟨hh.1,by have:=hh.2;omega⟩
theorem qoQ {d:FD} {j z tj tz:Nat} {gf:Bool} (h:qae d.1 z=2∧qfa d (tj:Int) (z:Int)=true):qeX d j z tj gf tz=1:=if_pos h
theorem qja {d:FD} {j z tj tz:Nat} (hn: ¬ (qae d.1 z=2∧qfa d (tj:Int) (z:Int)=true)) (h:tz=z):qeX d j z tj true tz=0:=by
 unfold qeX
 rw [if_neg hn,if_pos (show true=true∧tz=z from ⟨rfl,h⟩)]
theorem qk1 {d:FD} {j z tj tz:Nat} (hn: ¬ (qae d.1 z=2∧qfa d (tj:Int) (z:Int)=true)) (hne: ¬tz=z):qeX d j z tj true tz=ovR d z tz:=by
 unfold qeX ovR
 rw [if_neg hn,if_neg (show ¬ (true=true∧tz=z) from fun hh=>hne hh.2)]
 by_cases h1: (qae d.1 z=2↔qae d.1 tz=2)
 · rw [if_neg (show ¬ (true=true∧ ¬ (qae d.1 z=2↔qae d.1 tz=2)) from fun hh=>hh.2 h1),if_neg (show ¬ ¬ (qae d.1 z=2↔qae d.1 tz=2) from fun hh=>hh h1)]
   by_cases h2:0< (qac d tz).length
   · rw [if_pos (show true=true∧0< (qac d tz).length from ⟨rfl,h2⟩),if_pos h2]
   · rw [if_neg (show ¬ (true=true∧0< (qac d tz).length) from fun hh=>h2 hh.2),if_neg (show ¬ (true=false∧tj≠j∧ (qac d tj).length=6) from fun hh=>absurd hh.1 (by decide)),if_neg h2]
 · rw [if_pos (show true=true∧ ¬ (qae d.1 z=2↔qae d.1 tz=2) from ⟨rfl,h1⟩),if_pos (show ¬ (qae d.1 z=2↔qae d.1 tz=2) from h1)]
theorem qeY {d:FD} {j z tj tz:Nat} (hn: ¬ (qae d.1 z=2∧qfa d (tj:Int) (z:Int)=true)):qeX d j z tj false tz=if tj≠j∧ (qac d tj).length=6 then 2 else 0:=by
 unfold qeX
 rw [if_neg hn,if_neg (show ¬ (false=true∧tz=z) from fun hh=>absurd hh.1 (by decide)),if_neg (show ¬ (false=true∧ ¬ (qae d.1 z=2↔qae d.1 tz=2)) from fun hh=>absurd hh.1 (by decide)),if_neg (show ¬ (false=true∧0< (qac d tz).length) from fun hh=>absurd hh.1 (by decide))]
 by_cases h:tj≠j∧ (qac d tj).length=6
 · rw [if_pos (show false=false∧tj≠j∧ (qac d tj).length=6 from ⟨rfl,h⟩),if_pos h]
 · rw [if_neg (show ¬ (false=false∧tj≠j∧ (qac d tj).length=6) from fun hh=>h hh.2),if_neg h]
set_option maxHeartbeats 25600000 in
theorem qhT (w : World) (a1:Option Addr) (n1 c1:Nat) (a2:Option Addr) (n2 c2:Nat) (d:FD) (s t:ByteArray) (h:FsR w (.slice a1 n1 c1) (.slice a2 n2 c2) d) (hs:sizeFs d≤1048576) (hl:s.size≤1048576) (ht:t.size≤1048576) (hf:fsF d=0):
 Calls Tryz.prog 16 #[.agg #[.slice a1 n1 c1, .slice a2 n2 c2], .string s, .string t] w (qaN w (qlV d s t)):=by
 have hok:=qf2 (qhI hf)
 have hsl:s.data.toList.length=s.size:=Array.length_toList
 have htl:t.data.toList.length=t.size:=Array.length_toList
 obtain ⟨hx0,rfl,rfl⟩:=FsX.box h 31
 have hat:=h.1
 obtain ⟨_,_,e1,-,hAt⟩:=hat.open'
 simp only [Value.slice.injEq] at e1
 obtain ⟨rfl,-,rfl⟩:=e1
 have HPA:Hid (∀W,FsX W w.heap.size 0 d a1 c1 a2 c2→Calls Tryz.prog 41 #[.pointer (some ⟨w.heap.size,0,none⟩), .string s] W fun e w'=>e= .returned (.tuple #[.int .i64 (qas d s).2, .string (ql2 d s.data.toList), .int .i64 (qas d s).1])∧Below W.heap.size W w'):=fun W hW=>by
  have:=qfc W _ d _ _ _ _ hW hok s.data.toList (by omega)
  rw [qb3] at this
  rw [qeA,if_pos hf]
  exact this
 have HPAI:Hid ((qas d s).1=0→ ∃j:Nat,(qas d s).2= (j:Int)∧DirS d j∧qal (qaP s)=0∧ql2 d s.data.toList=qaP s):=fun h0=>by
  rw [qeA,if_pos hf] at h0 ⊢
  obtain ⟨j,h1,h2,h3,h4⟩:=qnv hf h0
  have h5:=qo3 h2
  rw [Int.toNat_natCast] at h5
  exact ⟨j,h1,h5,by rw [h4] at h3;exact h3,h4⟩
 have HPB:Hid (∀W,FsX W w.heap.size 0 d a1 c1 a2 c2→Calls Tryz.prog 41 #[.pointer (some ⟨w.heap.size,0,none⟩), .string t] W fun e w'=>e= .returned (.tuple #[.int .i64 (qas d t).2, .string (ql2 d t.data.toList), .int .i64 (qas d t).1])∧Below W.heap.size W w'):=fun W hW=>by
  have:=qfc W _ d _ _ _ _ hW hok t.data.toList (by omega)
  rw [qb3] at this
  rw [qeA,if_pos hf]
  exact this
 have HPBI:Hid ((qas d t).1=0→ ∃j:Nat,(qas d t).2= (j:Int)∧DirS d j∧qal (qaP t)=0∧ql2 d t.data.toList=qaP t):=fun h0=>by
  rw [qeA,if_pos hf] at h0 ⊢
  obtain ⟨j,h1,h2,h3,h4⟩:=qnv hf h0
  have h5:=qo3 h2
  rw [Int.toNat_natCast] at h5
  exact ⟨j,h1,h5,by rw [h4] at h3;exact h3,h4⟩
 obtain ⟨b0,o0,rfl,-⟩:=hAt 0 hok.pos
 have HKD:Hid (∀z,z<d.1.length→w.cell? ⟨b0,o0+z*5,none⟩=some (.int .i64 (qae d.1 z))):=fun z hz=>by
  obtain ⟨aB,cB,aE,cE,k0,-⟩:=FsR.five h hz
  exact k0
 have HEN:Hid (∀j,j<d.1.length→ ∃aE cE,w.cell? ⟨b0,o0+j*5+4,none⟩=some (.slice aE (qac d j).length cE)∧AtN w aE (qac d j).length (qac d j)):=fun j hj=>by
  obtain ⟨aB,cB,aE,cE,-,-,-,-,k4,hE⟩:=FsR.five h hj
  obtain ⟨-,hcE,hAt,-,hZ⟩:=hE.cap
  exact ⟨aE,cE,k4,hAt⟩
 have HWI:Hid (∀W tj z,FsX W w.heap.size 0 d (some ⟨b0,o0,none⟩) c1 a2 c2→DirS d tj→z<d.1.length→qae d.1 z=2→Calls Tryz.prog 44 #[.pointer (some ⟨w.heap.size,0,none⟩), .int .i64 (tj:Int), .int .i64 (z:Int), .int .i64 10] W fun e w'=>e= .returned (.bool (qfa d (tj:Int) (z:Int)))∧w'=W):=fun W tj z hW htj hz hk=>by
  have:=qi9 w.heap.size d b0 o0 c1 a2 c2 (tj:Int) hok 10 (by omega) z hz W hW
  rw [qqi hf htj hz hk]
  exact this
 have HCF:Hid (∀W,Below w.heap.size w W→Calls Tryz.prog 45 #[.agg #[.slice (some ⟨b0,o0,none⟩) d.1.length c1, .slice a2 d.2.length c2]] W (qiw W d)):=fun W hW=>qgU W _ _ _ _ _ _ d (h.later hW) hs
 have HST:Hid (∀W c,Below w.heap.size w W→Calls Tryz.prog 42 #[.agg #[.slice (some ⟨b0,o0,none⟩) d.1.length c1, .slice a2 d.2.length c2], .int .i64 c] W (qaN W (qav d c))):=fun W c hW=>qiT W _ _ _ _ _ _ d c (h.later hW) hs
 have HSIX:Hid (∀i,(qac d i).length≤6):=qhM hok
 have HEQ:Hid (qlV d s t=if (qas d s).1=0 then (if qbG d (qas d s).2.toNat (qaP s)=true then (if (qas d t).1=0 then qhP d (qas d s).2.toNat (qaP s) (qas d t).2.toNat (qaP t) else qav d (qas d t).1) else qav d 4) else qav d (qas d s).1):=rfl
 have HNM:Hid (d.2.length=20):=hok.dat
 have h10:=hok.ten
 obtain ⟨RES,hRES⟩: ∃r,qlV d s t=r:= ⟨_,rfl⟩
 rw [hRES] at HEQ ⊢
 obtain ⟨nn,hnn⟩: ∃nn,d.1.length=nn:= ⟨_,rfl⟩
 obtain ⟨mm,hmm⟩: ∃mm,d.2.length=mm:= ⟨_,rfl⟩
 rw [hnn,hmm] at HCF HST hx0 ⊢
 rw [hnn] at HKD HEN HWI h10
 have HB0:Hid (Below w.heap.size w ((w.alloc (.cells #[.slice (some ⟨b0,o0,none⟩) nn c1, .slice a2 mm c2] 31)).alloc (.cells #[.int .i64 0, .int .i64 0, .int .i64 0, .slice none 0 0, .slice none 0 0, .slice none 0 0, .slice none 0 0] 33))):=qam _ _ _
 have HX0:Hid (Bx ((w.alloc (.cells #[.slice (some ⟨b0,o0,none⟩) nn c1, .slice a2 mm c2] 31)).alloc (.cells #[.int .i64 0, .int .i64 0, .int .i64 0, .slice none 0 0, .slice none 0 0, .slice none 0 0, .slice none 0 0] 33)) w.heap.size [.slice (some ⟨b0,o0,none⟩) nn c1, .slice a2 mm c2]):= (Bx.new w [.slice (some ⟨b0,o0,none⟩) nn c1, .slice a2 mm c2] _).later (qab _ _)
 have HR0:Hid (qaa ((w.alloc (.cells #[.slice (some ⟨b0,o0,none⟩) nn c1, .slice a2 mm c2] 31)).alloc (.cells #[.int .i64 0, .int .i64 0, .int .i64 0, .slice none 0 0, .slice none 0 0, .slice none 0 0, .slice none 0 0] 33)) (w.heap.size+1) 7 (cel qbm)):=by
  have p2:=qrt (w.alloc (.cells #[.slice (some ⟨b0,o0,none⟩) nn c1, .slice a2 mm c2] 31)) 33
  rw [World.size_alloc] at p2
  exact p2
 have HFX0:Hid (FsX ((w.alloc (.cells #[.slice (some ⟨b0,o0,none⟩) nn c1, .slice a2 mm c2] 31)).alloc (.cells #[.int .i64 0, .int .i64 0, .int .i64 0, .slice none 0 0, .slice none 0 0, .slice none 0 0, .slice none 0 0] 33)) w.heap.size 0 d (some ⟨b0,o0,none⟩) c1 a2 c2):=hx0.later (qab _ _)
 have HNN:Hid (d.1.length=nn):=hnn
 clear hnn hmm hRES h hs hl ht hf hok hsl htl hx0 hAt hat
 generalize qas d s=pr at*
 generalize qas d t=qr at*
 generalize qaP s=ls at*
 generalize qaP t=lt at*
 generalize ql2 d s.data.toList=lns at*
 generalize ql2 d t.data.toList=lnt at*
 obtain ⟨pc,pv⟩:=pr
 obtain ⟨qc,qv⟩:=qr
 dsimp only at HPA HPAI HPB HPBI HEQ
 go_enter Tryz.func16,Tryz.ntmps16
 go_wp2_with fail
 generalize ((w.alloc (.cells #[.slice (some ⟨b0,o0,none⟩) nn c1, .slice a2 mm c2] 31)).alloc (.cells #[.int .i64 0, .int .i64 0, .int .i64 0, .slice none 0 0, .slice none 0 0, .slice none 0 0, .slice none 0 0] 33))=W0 at*
 refine (HPA.out _ HFX0.out).mono ?_
 rintro e w1 ⟨rfl,hb⟩
 have HB1:Hid (Below w.heap.size w w1):=HB0.out.trans (hb.mono HB0.out.size)
 have HX1:Hid (Bx w1 w.heap.size [.slice (some ⟨b0,o0,none⟩) nn c1, .slice a2 mm c2]):=HX0.out.later hb
 have HR1:Hid (qaa w1 (w.heap.size+1) 7 (cel qbm)):=HR0.out.later hb
 have HFX1:Hid (FsX w1 w.heap.size 0 d (some ⟨b0,o0,none⟩) c1 a2 c2):=HFX0.out.later hb
 clear hb
 by_cases hpc:pc=0
 rotate_left
 · have hpb: (pc !=0)=true:=by simpa using hpc
   have HE:Hid (RES=qav d pc):=by unfold Hid;rw [HEQ.out,if_neg hpc]
   clear hpc
   have xHX0:=HX1.out 0 _ rfl
   have xHX1:=HX1.out 1 _ rfl
   go_wp2_with fail
   clear xHX0 xHX1
   refine (HST.out _ pc HB1.out).mono ?_
   rintro e u ⟨y1,y2,b3,m3,k3,b4,m4,k4,b5,m5,k5,b6,m6,k6,rfl,hb,hu⟩
   have hrr:=HR1.out.later hb
   have hlr:w.heap.size+1<w1.heap.size:=HR1.out.lt
   have HBU:Hid (Below w1.heap.size w1 u):=hb
   have HCU:Hid (qap u (.int .i64 y1) (.int .i64 y2) (.slice b3 m3 k3) (.slice b4 m4 k4) (.slice b5 m5 k5) (.slice b6 m6 k6) (qav d pc).2 (qaj w1 u)):=hu
   have t0:u.cell? ⟨w.heap.size+1,0,none⟩=some (.int .i64 0):=hrr.cell (i:=0) (by omega)
   have t1:u.cell? ⟨w.heap.size+1,1,none⟩=some (.int .i64 0):=hrr.cell (i:=1) (by omega)
   have t2:u.cell? ⟨w.heap.size+1,2,none⟩=some (.int .i64 0):=hrr.cell (i:=2) (by omega)
   have t3:u.cell? ⟨w.heap.size+1,3,none⟩=some (.slice none 0 0):=hrr.cell (i:=3) (by omega)
   have t4:u.cell? ⟨w.heap.size+1,4,none⟩=some (.slice none 0 0):=hrr.cell (i:=4) (by omega)
   have t5:u.cell? ⟨w.heap.size+1,5,none⟩=some (.slice none 0 0):=hrr.cell (i:=5) (by omega)
   have t6:u.cell? ⟨w.heap.size+1,6,none⟩=some (.slice none 0 0):=hrr.cell (i:=6) (by omega)
   have s0:=hrr.frozen 0
   have s1:=hrr.frozen 1
   have s2:=hrr.frozen 2
   have s3:=hrr.frozen 3
   have s4:=hrr.frozen 4
   have s5:=hrr.frozen 5
   have s6:=hrr.frozen 6
   clear hb hu hrr
   go_wp2
   exact bodyPost_ret (v:= .agg #[.int .i64 (qav d pc).1, .int .i64 y1, .int .i64 y2, .slice b3 m3 k3, .slice b4 m4 k4, .slice b5 m5 k5, .slice b6 m6 k6]) (by simp [results,Tryz.results16,go_sem,t0,t1,t2,t3,t4,t5,t6]) rfl (by rw [HE.out];exact qaN.pass HB1.out (by omega) hlr HBU.out HCU.out _ _ _ _ _ _ _)
 · subst hpc
   obtain ⟨j,rfl,hdj,hnj,rfl⟩:=HPAI.out rfl
   have HDJ:Hid (DirS d j):=hdj
   have hjn:j<nn:=by have:=hdj.lt;have:=HNN.out;omega
   have hjI: (j:Int)< (nn:Int):=by omega
   rw [if_pos rfl,Int.toNat_natCast] at HEQ
   obtain ⟨aE,cE,k4,hatE⟩:=HEN.out j hjn
   have HAE:Hid (AtN w aE (qac d j).length (qac d j)):=hatE
   have HK4:Hid (_=_):=k4
   have hm6:=HSIX.out j
   have g4:=cell_later HB1.out k4
   clear hdj hnj hatE k4 HPAI HPA
   obtain ⟨m,hm⟩: ∃m,(qac d j).length=m:= ⟨_,rfl⟩
   rw [hm] at g4 HAE hm6 HK4
   have HM:Hid ((qac d j).length=m):=hm
   clear hm
   have xHX0:=HX1.out 0 _ rfl
   have xHX1:=HX1.out 1 _ rfl
   go_wp2_with fail
   clear xHX0 xHX1
   refine (qbN w1 aE m cE (qac d j) lns HM.out (by omega) (HAE.out.later HB1.out)).mono ?_
   rintro e w' ⟨rfl,hw⟩
   subst w'
   by_cases hi:idxE (qac d j) lns< (qac d j).length
   rotate_left
   · have HE:Hid (RES=qav d 4):=by
      have hh: ¬qbG d j lns=true:=by unfold qbG;simpa using hi
      unfold Hid;rw [HEQ.out,if_neg hh]
     have ha8:at8 (qac d j) lns= -1:=by unfold at8;rw [if_neg hi]
     rw [ha8]
     clear hi ha8
     have xHX0:=HX1.out 0 _ rfl
     have xHX1:=HX1.out 1 _ rfl
     go_wp2_with fail
     clear xHX0 xHX1
     refine (HST.out _ 4 HB1.out).mono ?_
     rintro e u ⟨y1,y2,b3,m3,k3,b4,m4,k4,b5,m5,k5,b6,m6,k6,rfl,hb,hu⟩
     have hrr:=HR1.out.later hb
     have hlr:w.heap.size+1<w1.heap.size:=HR1.out.lt
     have HBU:Hid (Below w1.heap.size w1 u):=hb
     have HCU:Hid (qap u (.int .i64 y1) (.int .i64 y2) (.slice b3 m3 k3) (.slice b4 m4 k4) (.slice b5 m5 k5) (.slice b6 m6 k6) (qav d 4).2 (qaj w1 u)):=hu
     have t0:u.cell? ⟨w.heap.size+1,0,none⟩=some (.int .i64 0):=hrr.cell (i:=0) (by omega)
     have t1:u.cell? ⟨w.heap.size+1,1,none⟩=some (.int .i64 0):=hrr.cell (i:=1) (by omega)
     have t2:u.cell? ⟨w.heap.size+1,2,none⟩=some (.int .i64 0):=hrr.cell (i:=2) (by omega)
     have t3:u.cell? ⟨w.heap.size+1,3,none⟩=some (.slice none 0 0):=hrr.cell (i:=3) (by omega)
     have t4:u.cell? ⟨w.heap.size+1,4,none⟩=some (.slice none 0 0):=hrr.cell (i:=4) (by omega)
     have t5:u.cell? ⟨w.heap.size+1,5,none⟩=some (.slice none 0 0):=hrr.cell (i:=5) (by omega)
     have t6:u.cell? ⟨w.heap.size+1,6,none⟩=some (.slice none 0 0):=hrr.cell (i:=6) (by omega)
     have s0:=hrr.frozen 0
     have s1:=hrr.frozen 1
     have s2:=hrr.frozen 2
     have s3:=hrr.frozen 3
     have s4:=hrr.frozen 4
     have s5:=hrr.frozen 5
     have s6:=hrr.frozen 6
     clear hb hu hrr
     go_wp2
     exact bodyPost_ret (v:= .agg #[.int .i64 (qav d 4).1, .int .i64 y1, .int .i64 y2, .slice b3 m3 k3, .slice b4 m4 k4, .slice b5 m5 k5, .slice b6 m6 k6]) (by simp [results,Tryz.results16,go_sem,t0,t1,t2,t3,t4,t5,t6]) rfl (by rw [HE.out];exact qaN.pass HB1.out (by omega) hlr HBU.out HCU.out _ _ _ _ _ _ _)
   · have hh : qbG d j lns=true:=by unfold qbG;simpa using hi
     obtain ⟨z,hz,hzn,-⟩:=qgc HDJ.out hh
     have HZ:Hid (atE d j lns= (z:Int)):=hz
     have HHJ:Hid (qbG d j lns=true):=hh
     rw [HNN.out] at hzn
     rw [if_pos hh] at HEQ
     have hzI: (z:Int)< (nn:Int):=by omega
     have ha8:at8 (qac d j) lns= ((idxE (qac d j) lns:Nat):Int):=by unfold at8;rw [if_pos hi]
     rw [ha8]
     have hi':idxE (qac d j) lns<m:=by rw [←HM.out];exact hi
     obtain ⟨be,oe,rfl,-,g6⟩:=HAE.out _ hi'
     have hez: ((qac d j)[idxE (qac d j) lns]?.getD en0).2= (z:Int):=by rw [←hz];unfold atE;rw [if_pos hi]
     rw [hez] at g6
     have g7:=cell_later HB1.out g6
     clear g6 hez ha8 hi hz hh
     obtain ⟨i,hii⟩: ∃i,idxE (qac d j) lns=i:= ⟨_,rfl⟩
     rw [hii] at g7 hi' ⊢
     have HI:Hid (idxE (qac d j) lns=i):=hii
     have hiI: (i:Int)< (m:Int):=by omega
     have hnI: ¬ ((i:Int)<0):=by omega
     clear hii
     have xHX0:=HX1.out 0 _ rfl
     have xHX1:=HX1.out 1 _ rfl
     go_wp2_with fail
     clear xHX0 xHX1 g4 g7
     refine (HPB.out _ HFX1.out).mono ?_
     rintro e w2 ⟨rfl,hb⟩
     have HB2:Hid (Below w.heap.size w w2):=HB1.out.trans (hb.mono HB1.out.size)
     have HX2:Hid (Bx w2 w.heap.size [.slice (some ⟨b0,o0,none⟩) nn c1, .slice a2 mm c2]):=HX1.out.later hb
     have HR2:Hid (qaa w2 (w.heap.size+1) 7 (cel qbm)):=HR1.out.later hb
     have HFX2:Hid (FsX w2 w.heap.size 0 d (some ⟨b0,o0,none⟩) c1 a2 c2):=HFX1.out.later hb
     clear hb
     by_cases hqc:qc=0
     rotate_left
     · have hqb: (qc !=0)=true:=by simpa using hqc
       have HE:Hid (RES=qav d qc):=by unfold Hid;rw [HEQ.out,if_neg hqc]
       clear hqc
       have xHX0:=HX2.out 0 _ rfl
       have xHX1:=HX2.out 1 _ rfl
       go_wp2_with fail
       clear xHX0 xHX1
       refine (HST.out _ qc HB2.out).mono ?_
       rintro e u ⟨y1,y2,b3,m3,k3,b4,m4,k4,b5,m5,k5,b6,m6,k6,rfl,hb,hu⟩
       have hrr:=HR2.out.later hb
       have hlr:w.heap.size+1<w2.heap.size:=HR2.out.lt
       have HBU:Hid (Below w2.heap.size w2 u):=hb
       have HCU:Hid (qap u (.int .i64 y1) (.int .i64 y2) (.slice b3 m3 k3) (.slice b4 m4 k4) (.slice b5 m5 k5) (.slice b6 m6 k6) (qav d qc).2 (qaj w2 u)):=hu
       have t0:u.cell? ⟨w.heap.size+1,0,none⟩=some (.int .i64 0):=hrr.cell (i:=0) (by omega)
       have t1:u.cell? ⟨w.heap.size+1,1,none⟩=some (.int .i64 0):=hrr.cell (i:=1) (by omega)
       have t2:u.cell? ⟨w.heap.size+1,2,none⟩=some (.int .i64 0):=hrr.cell (i:=2) (by omega)
       have t3:u.cell? ⟨w.heap.size+1,3,none⟩=some (.slice none 0 0):=hrr.cell (i:=3) (by omega)
       have t4:u.cell? ⟨w.heap.size+1,4,none⟩=some (.slice none 0 0):=hrr.cell (i:=4) (by omega)
       have t5:u.cell? ⟨w.heap.size+1,5,none⟩=some (.slice none 0 0):=hrr.cell (i:=5) (by omega)
       have t6:u.cell? ⟨w.heap.size+1,6,none⟩=some (.slice none 0 0):=hrr.cell (i:=6) (by omega)
       have s0:=hrr.frozen 0
       have s1:=hrr.frozen 1
       have s2:=hrr.frozen 2
       have s3:=hrr.frozen 3
       have s4:=hrr.frozen 4
       have s5:=hrr.frozen 5
       have s6:=hrr.frozen 6
       clear hb hu hrr
       go_wp2
       exact bodyPost_ret (v:= .agg #[.int .i64 (qav d qc).1, .int .i64 y1, .int .i64 y2, .slice b3 m3 k3, .slice b4 m4 k4, .slice b5 m5 k5, .slice b6 m6 k6]) (by simp [results,Tryz.results16,go_sem,t0,t1,t2,t3,t4,t5,t6]) rfl (by rw [HE.out];exact qaN.pass HB2.out (by omega) hlr HBU.out HCU.out _ _ _ _ _ _ _)
     · subst hqc
       obtain ⟨tj,rfl,hdt,hnt,rfl⟩:=HPBI.out rfl
       have HDT:Hid (DirS d tj):=hdt
       have HNT:Hid (qal lnt=0):=hnt
       obtain ⟨tz,htz,htzn⟩:=qnE hdt lnt
       have HTZ:Hid (atE d tj lnt= (tz:Int)):=htz
       rw [HNN.out] at htzn
       have htn:tj<nn:=by have:=hdt.lt;have:=HNN.out;omega
       have htI: (tj:Int)< (nn:Int):=by omega
       have htzI: (tz:Int)< (nn:Int):=by omega
       rw [if_pos rfl,Int.toNat_natCast] at HEQ
       have kz:=cell_later HB2.out (HKD.out z hzn)
       clear hdt hnt htz HPB HPBI
       by_cases hkd:qae d.1 z=2
       · have hkb : (qae d.1 z==2)=true:=by simpa using hkd
         obtain ⟨kd,hkk⟩: ∃kd,qae d.1 z=kd:= ⟨_,rfl⟩
         rw [hkk] at kz hkb
         have xHX0:=HX2.out 0 _ rfl
         have xHX1:=HX2.out 1 _ rfl
         go_wp2_with fail
         clear xHX0 xHX1 kz hkb
         refine (HWI.out _ tj z HFX2.out HDT.out hzn hkd).mono ?_
         obtain ⟨wb,hwb⟩: ∃wb,qfa d (tj:Int) (z:Int)=wb:= ⟨_,rfl⟩
         rw [hwb]
         have HWB:Hid (qfa d (tj:Int) (z:Int)=wb):=hwb
         have HKK:Hid (qae d.1 z=2):=hkd
         clear hwb hkk hkd
         rintro e w' ⟨rfl,hw⟩
         subst w'
         cases wb
         · have hnw : ¬ (qae d.1 z=2∧qfa d (tj:Int) (z:Int)=true):=fun hh=>by have:=hh.2;rw [HWB.out] at this;exact absurd this (by decide)
           have HNW:Hid (¬ (qae d.1 z=2∧qfa d (tj:Int) (z:Int)=true)):=hnw
           clear hnw
           have xHX0:=HX2.out 0 _ rfl
           have xHX1:=HX2.out 1 _ rfl
           go_wp2_with fail
           clear xHX0 xHX1
           refine (HCF.out _ HB2.out).mono ?_
           rintro e w5 ⟨q1,m1,cI,q2,m2,cD,rfl,hb5,hf5⟩
           obtain ⟨bI,e1,bD,e2,eI,eD,hfs⟩:=FsS.of hf5 (by have:=HDJ.out.lt;omega) (by have:=HNM.out;omega)
           simp only [Value.slice.injEq] at eI eD
           obtain ⟨rfl,rfl,rfl⟩:=eI
           obtain ⟨rfl,rfl,rfl⟩:=eD
           rw [HNM.out,HNN.out] at hfs
           rw [HNM.out,HNN.out]
           have hlw:w.heap.size+1<w2.heap.size:=HR2.out.lt
           have hbo4:w.heap.size+1<w5.heap.size:=by have:=hb5.size;omega
           have hb:Below w2.heap.size w2 (w5.alloc (.cells #[.slice (some ⟨bI,0,none⟩) nn cI, .slice (some ⟨bD,0,none⟩) 20 cD] 31)):=hb5.trans ((qab _ _).mono hb5.size)
           have HB3:Hid (Below w.heap.size w (w5.alloc (.cells #[.slice (some ⟨bI,0,none⟩) nn cI, .slice (some ⟨bD,0,none⟩) 20 cD] 31))):=HB2.out.trans (hb.mono HB2.out.size)
           have HX3:Hid (Bx (w5.alloc (.cells #[.slice (some ⟨bI,0,none⟩) nn cI, .slice (some ⟨bD,0,none⟩) 20 cD] 31)) w.heap.size [.slice (some ⟨b0,o0,none⟩) nn c1, .slice a2 mm c2]):=HX2.out.later hb
           have HR3:Hid (qaa (w5.alloc (.cells #[.slice (some ⟨bI,0,none⟩) nn cI, .slice (some ⟨bD,0,none⟩) 20 cD] 31)) (w.heap.size+1) 7 (cel qbm)):=HR2.out.later hb
           have HFX3:Hid (FsX (w5.alloc (.cells #[.slice (some ⟨bI,0,none⟩) nn cI, .slice (some ⟨bD,0,none⟩) 20 cD] 31)) w.heap.size 0 d (some ⟨b0,o0,none⟩) c1 a2 c2):=HFX2.out.later hb
           clear hb
           have HF3:Hid (FsS (w5.alloc (.cells #[.slice (some ⟨bI,0,none⟩) nn cI, .slice (some ⟨bD,0,none⟩) 20 cD] 31)) bI nn cI bD 20 cD d (fun c=>w.heap.size+2≤c∧c≠w5.heap.size)):= (hfs.later (qab _ _)).mono fun c hh=> ⟨by have:=hh.1;omega,by have:=hh.2;omega⟩
           have HO3:Hid (Bx (w5.alloc (.cells #[.slice (some ⟨bI,0,none⟩) nn cI, .slice (some ⟨bD,0,none⟩) 20 cD] 31)) w5.heap.size [.slice (some ⟨bI,0,none⟩) nn cI, .slice (some ⟨bD,0,none⟩) 20 cD]):=Bx.new w5 [.slice (some ⟨bI,0,none⟩) nn cI, .slice (some ⟨bD,0,none⟩) 20 cD] _
           clear hb5 hf5 hfs
           obtain ⟨tE,tcE,k4t,hatT⟩:=HEN.out tj htn
           have HAT:Hid (AtN w tE (qac d tj).length (qac d tj)):=hatT
           have ht6:=HSIX.out tj
           have t4:=cell_later HB3.out k4t
           clear hatT k4t
           obtain ⟨tm,htm⟩: ∃tm,(qac d tj).length=tm:= ⟨_,rfl⟩
           rw [htm] at t4 HAT ht6
           have HTM:Hid ((qac d tj).length=tm):=htm
           clear htm
           have xHX0:=HX3.out 0 _ rfl
           have xHX1:=HX3.out 1 _ rfl
           go_wp2_with fail
           generalize (w5.alloc (.cells #[.slice (some ⟨bI,0,none⟩) nn cI, .slice (some ⟨bD,0,none⟩) 20 cD] 31))=W5 at*
           clear xHX0 xHX1
           refine (qbN W5 tE tm tcE (qac d tj) lnt HTM.out (by omega) (HAT.out.later HB3.out)).mono ?_
           rintro e w' ⟨rfl,hw⟩
           subst w'
           by_cases hg:idxE (qac d tj) lnt< (qac d tj).length
           · have hht :qbG d tj lnt=true:=by unfold qbG;simpa using hg
             have ha8:at8 (qac d tj) lnt= ((idxE (qac d tj) lnt:Nat):Int):=by unfold at8;rw [if_pos hg]
             rw [ha8]
             have hg':idxE (qac d tj) lnt<tm:=by rw [←HTM.out];exact hg
             obtain ⟨bt,ot,rfl,-,g6⟩:=HAT.out _ hg'
             have hez: ((qac d tj)[idxE (qac d tj) lnt]?.getD en0).2= (tz:Int):=by rw [←HTZ.out];unfold atE;rw [if_pos hg]
             rw [hez] at g6
             have HEZ:Hid (((qac d tj)[idxE (qac d tj) lnt]?.getD en0).2= (tz:Int)):=hez
             have g7:=cell_later HB3.out g6
             clear g6 hez ha8
             obtain ⟨i2,hii⟩: ∃i2,idxE (qac d tj) lnt=i2:= ⟨_,rfl⟩
             rw [hii] at g7 hg' hg HEZ ⊢
             have HI2:Hid (idxE (qac d tj) lnt=i2):=hii
             have HHT:Hid (qbG d tj lnt=true):=hht
             have HG2:Hid (i2< (qac d tj).length):=hg
             have hi2I: (i2:Int)< (tm:Int):=by omega
             have hi2n: (0:Int)≤ (i2:Int):=by omega
             clear hii hht hg
             by_cases htzz:tz=z
             · have hqb: ((tz:Int)== (z:Int))=true:=by simp [htzz]
               have HE:Hid (RES=qav d 0):=by
                unfold Hid;rw [HEQ.out]
                exact qdb HZ.out HTZ.out (by rw [HHT.out];exact qja HNW.out htzz) (Or.inr ⟨HHT.out,htzz⟩)
               clear htzz
               have xHX0:=HX3.out 0 _ rfl
               have xHX1:=HX3.out 1 _ rfl
               go_wp2_with fail
               clear xHX0 xHX1
               refine (HST.out _ 0 HB3.out).mono ?_
               rintro e u ⟨y1,y2,b3,m3,k3,b4,m4,k4,b5,m5,k5,b6,m6,k6,rfl,hb,hu⟩
               have hrr:=HR3.out.later hb
               have hlr:w.heap.size+1<W5.heap.size:=HR3.out.lt
               have HBU:Hid (Below W5.heap.size W5 u):=hb
               have HCU:Hid (qap u (.int .i64 y1) (.int .i64 y2) (.slice b3 m3 k3) (.slice b4 m4 k4) (.slice b5 m5 k5) (.slice b6 m6 k6) (qav d 0).2 (qaj W5 u)):=hu
               have t0:u.cell? ⟨w.heap.size+1,0,none⟩=some (.int .i64 0):=hrr.cell (i:=0) (by omega)
               have t1:u.cell? ⟨w.heap.size+1,1,none⟩=some (.int .i64 0):=hrr.cell (i:=1) (by omega)
               have t2:u.cell? ⟨w.heap.size+1,2,none⟩=some (.int .i64 0):=hrr.cell (i:=2) (by omega)
               have t3:u.cell? ⟨w.heap.size+1,3,none⟩=some (.slice none 0 0):=hrr.cell (i:=3) (by omega)
               have t4:u.cell? ⟨w.heap.size+1,4,none⟩=some (.slice none 0 0):=hrr.cell (i:=4) (by omega)
               have t5:u.cell? ⟨w.heap.size+1,5,none⟩=some (.slice none 0 0):=hrr.cell (i:=5) (by omega)
               have t6:u.cell? ⟨w.heap.size+1,6,none⟩=some (.slice none 0 0):=hrr.cell (i:=6) (by omega)
               have s0:=hrr.frozen 0
               have s1:=hrr.frozen 1
               have s2:=hrr.frozen 2
               have s3:=hrr.frozen 3
               have s4:=hrr.frozen 4
               have s5:=hrr.frozen 5
               have s6:=hrr.frozen 6
               clear hb hu hrr
               go_wp2
               exact bodyPost_ret (v:= .agg #[.int .i64 (qav d 0).1, .int .i64 y1, .int .i64 y2, .slice b3 m3 k3, .slice b4 m4 k4, .slice b5 m5 k5, .slice b6 m6 k6]) (by simp [results,Tryz.results16,go_sem,t0,t1,t2,t3,t4,t5,t6]) rfl (by rw [HE.out];exact qaN.pass HB3.out (by omega) hlr HBU.out HCU.out _ _ _ _ _ _ _)
             · have hqb: ((tz:Int)== (z:Int))=false:=by simp;omega
               have xHX0:=HX3.out 0 _ rfl
               have xHX1:=HX3.out 1 _ rfl
               go_wp2_with fail
               clear xHX0 xHX1 g7 t4
               refine (qgf W5 _ d _ _ _ _ HFX3.out z tz (by rw [HNN.out];exact hzn) (by rw [HNN.out];exact htzn) (HSIX.out tz)).mono ?_
               obtain ⟨ov,hov⟩: ∃ov,ovR d z tz=ov:= ⟨_,rfl⟩
               rw [hov]
               have HRV:Hid (qeX d j z tj (qbG d tj lnt) tz=ov):=by
                unfold Hid
                rw [HHT.out,←hov]
                exact qk1 HNW.out htzz
               clear hov
               rintro e w6 ⟨rfl,hb⟩
               have HB4:Hid (Below w.heap.size w w6):=HB3.out.trans (hb.mono HB3.out.size)
               have HX4:Hid (Bx w6 w.heap.size [.slice (some ⟨b0,o0,none⟩) nn c1, .slice a2 mm c2]):=HX3.out.later hb
               have HR4:Hid (qaa w6 (w.heap.size+1) 7 (cel qbm)):=HR3.out.later hb
               have HFX4:Hid (FsX w6 w.heap.size 0 d (some ⟨b0,o0,none⟩) c1 a2 c2):=HFX3.out.later hb
               have HF4:Hid (FsS w6 bI nn cI bD 20 cD d (fun c=>w.heap.size+2≤c∧c≠w5.heap.size)):=HF3.out.later hb
               have HO4:Hid (Bx w6 w5.heap.size [.slice (some ⟨bI,0,none⟩) nn cI, .slice (some ⟨bD,0,none⟩) 20 cD]):=HO3.out.later hb
               clear hb
               by_cases hov:ov=0
               rotate_left
               · have hovb: (ov !=0)=true:=by simpa using hov
                 have HE:Hid (RES=qav d ov):=by
                  unfold Hid;rw [HEQ.out]
                  exact qdb HZ.out HTZ.out HRV.out (Or.inl hov)
                 clear hov
                 have xHX0:=HX4.out 0 _ rfl
                 have xHX1:=HX4.out 1 _ rfl
                 go_wp2_with fail
                 clear xHX0 xHX1
                 refine (HST.out _ ov HB4.out).mono ?_
                 rintro e u ⟨y1,y2,b3,m3,k3,b4,m4,k4,b5,m5,k5,b6,m6,k6,rfl,hb,hu⟩
                 have hrr:=HR4.out.later hb
                 have hlr:w.heap.size+1<w6.heap.size:=HR4.out.lt
                 have HBU:Hid (Below w6.heap.size w6 u):=hb
                 have HCU:Hid (qap u (.int .i64 y1) (.int .i64 y2) (.slice b3 m3 k3) (.slice b4 m4 k4) (.slice b5 m5 k5) (.slice b6 m6 k6) (qav d ov).2 (qaj w6 u)):=hu
                 have t0:u.cell? ⟨w.heap.size+1,0,none⟩=some (.int .i64 0):=hrr.cell (i:=0) (by omega)
                 have t1:u.cell? ⟨w.heap.size+1,1,none⟩=some (.int .i64 0):=hrr.cell (i:=1) (by omega)
                 have t2:u.cell? ⟨w.heap.size+1,2,none⟩=some (.int .i64 0):=hrr.cell (i:=2) (by omega)
                 have t3:u.cell? ⟨w.heap.size+1,3,none⟩=some (.slice none 0 0):=hrr.cell (i:=3) (by omega)
                 have t4:u.cell? ⟨w.heap.size+1,4,none⟩=some (.slice none 0 0):=hrr.cell (i:=4) (by omega)
                 have t5:u.cell? ⟨w.heap.size+1,5,none⟩=some (.slice none 0 0):=hrr.cell (i:=5) (by omega)
                 have t6:u.cell? ⟨w.heap.size+1,6,none⟩=some (.slice none 0 0):=hrr.cell (i:=6) (by omega)
                 have s0:=hrr.frozen 0
                 have s1:=hrr.frozen 1
                 have s2:=hrr.frozen 2
                 have s3:=hrr.frozen 3
                 have s4:=hrr.frozen 4
                 have s5:=hrr.frozen 5
                 have s6:=hrr.frozen 6
                 clear hb hu hrr
                 go_wp2
                 exact bodyPost_ret (v:= .agg #[.int .i64 (qav d ov).1, .int .i64 y1, .int .i64 y2, .slice b3 m3 k3, .slice b4 m4 k4, .slice b5 m5 k5, .slice b6 m6 k6]) (by simp [results,Tryz.results16,go_sem,t0,t1,t2,t3,t4,t5,t6]) rfl (by rw [HE.out];exact qaN.pass HB4.out (by omega) hlr HBU.out HCU.out _ _ _ _ _ _ _)
               · subst hov
                 have HE:Hid (RES= (0,0,0, [], [],qdu d j lns tj lnt z)):=by
                  unfold Hid;rw [HEQ.out]
                  exact qg0 HZ.out HTZ.out HRV.out (fun hh=>htzz hh.2)
                 have HRS:Hid (RenS d (qaq d tj lnt) j lns tj):=qpd (z:=z) HDJ.out HDT.out HZ.out HHJ.out (by rw [HTZ.out,Int.toNat_natCast];exact HRV.out) (by rw [HTZ.out,HZ.out];exact fun hh=>htzz (by have:=hh.2;omega))
                 have HCD:Hid (qaq d tj lnt=qda d tj i2 tz):=by unfold Hid qaq;rw [if_pos HHT.out,HI2.out,HTZ.out,Int.toNat_natCast]
                 have hne:=HF4.out.ne
                 have hoI:w5.heap.size≠bI:=fun e=>hne.2.1.1.2 e.symm
                 have hoD:w5.heap.size≠bD:=fun e=>hne.2.2.1.2 e.symm
                 go_wp2_with fail
                 refine (qgg w6 w5.heap.size bI nn cI bD cD d _ tj i2 tz (HO4.out 0 _ rfl) (HO4.out 1 _ rfl) HF4.out (fun hh=>hh.2 rfl) HNN.out HDT.out HG2.out HEZ.out htzn).mono ?_
                 rw [←HCD.out]
                 rintro e w7 ⟨rfl,hc7,hf7⟩
                 have hw6:w5.heap.size<w6.heap.size:=HO4.out.lt
                 have HB5:Hid (Below w.heap.size w w7):=HB4.out.trans (hc7.below HB4.out.size (fun b hb=>by have:=hne.2.1.1.1;have:=hne.2.2.1.1;omega))
                 have HX5:Hid (Bx w7 w.heap.size [.slice (some ⟨b0,o0,none⟩) nn c1, .slice a2 mm c2]):=HX4.out.chg hc7 (fun e=>by have:=hne.2.1.1.1;have:=hne.2.2.1.1;omega)
                 have HR5:Hid (qaa w7 (w.heap.size+1) 7 (cel qbm)):=HR4.out.block (hc7.block _ HR4.out.lt (fun e=>by have:=hne.2.1.1.1;have:=hne.2.2.1.1;omega))
                 have HO5:Hid (Bx w7 w5.heap.size [.slice (some ⟨bI,0,none⟩) nn cI, .slice (some ⟨bD,0,none⟩) 20 cD]):=HO4.out.chg hc7 (fun h=>h.elim hoI hoD)
                 have HF5:Hid (FsS w7 bI nn cI bD 20 cD (qaq d tj lnt) (fun c=>w.heap.size+2≤c∧c≠w5.heap.size)):=hf7.mono fun c hh=>by
                  rcases hh with hh|hh
                  · exact hh
                  · exact ⟨by omega,by omega⟩
                 clear hf7 hc7 hne hoI hoD hw6 htzz HCD HRV
                 obtain ⟨D,hD⟩: ∃D,qaq d tj lnt=D:= ⟨_,rfl⟩
                 have HRD:Hid (qdu d j lns tj lnt z=qaH (qaH D j (qaO (qac D j) (idxE (qac D j) lns))) tj (qbF (qac (qaH D j (qaO (qac D j) (idxE (qac D j) lns))) tj) (plcE (qac (qaH D j (qaO (qac D j) (idxE (qac D j) lns))) tj) lnt) (lnt,(z:Int)))):=by unfold Hid;rw [←hD];rfl
                 rw [hD] at HF5 HRS
                 clear hD
                 obtain ⟨aB2,cB2,aE2,cE2,-,-,-,-,k42,hE2⟩:=FsR.five HF5.out.fs.reads (j:=j) (by rw [HRS.out.len];exact HRS.out.jlt)
                 rw [Nat.zero_add] at k42
                 obtain ⟨-,-,hAt2,-,-⟩:=hE2.cap
                 have HA2:Hid (AtN w7 aE2 (qac D j).length (qac D j)):=hAt2
                 have h62:=HRS.out.six
                 have HI3:Hid (idxE (qac D j) lns< (qac D j).length):=HRS.out.has
                 have ha8:at8 (qac D j) lns= ((idxE (qac D j) lns:Nat):Int):=by unfold at8;rw [if_pos HRS.out.has]
                 clear hE2 hAt2
                 obtain ⟨m2,hm2⟩: ∃m2,(qac D j).length=m2:= ⟨_,rfl⟩
                 rw [hm2] at k42 HA2 h62
                 have HM2:Hid ((qac D j).length=m2):=hm2
                 clear hm2
                 have xHX0:=HX5.out 0 _ rfl
                 have xHX1:=HX5.out 1 _ rfl
                 have xHO0:=HO5.out 0 _ rfl
                 have xHO1:=HO5.out 1 _ rfl
                 go_wp2_with fail
                 clear xHX0 xHX1 xHO0 xHO1 k42
                 refine (qbN w7 aE2 m2 cE2 (qac D j) lns HM2.out (by omega) HA2.out).mono ?_
                 rw [ha8]
                 clear ha8
                 rintro e w' ⟨rfl,hw⟩
                 subst w'
                 go_wp2_with fail
                 have hne:=HF5.out.ne
                 have hoI:w5.heap.size≠bI:=fun e=>hne.2.1.1.2 e.symm
                 have hw7:w5.heap.size<w7.heap.size:=HO5.out.lt
                 refine (qbK w7 w5.heap.size bI nn cI bD cD D _ j _ (HO5.out 0 _ rfl) (HO5.out 1 _ rfl) HF5.out (by rw [HRS.out.len,HNN.out]) hjn h10 HRS.out.six HRS.out.blk HI3.out).mono ?_
                 obtain ⟨D1,hD1⟩: ∃D1,qaH D j (qaO (qac D j) (idxE (qac D j) lns))=D1:= ⟨_,rfl⟩
                 rw [hD1]
                 rw [hD1] at HRD
                 have HS2:Hid ((qac D1 tj).length≤6∧ (D1.1[tj]?.getD id0).2.2.2.1= []∧D1.1.length=nn):=by
                  unfold Hid
                  rw [←hD1]
                  exact ⟨HRS.out.six2,HRS.out.blk2,by rw [qcl,HRS.out.len,HNN.out]⟩
                 generalize ((qac D j)[idxE (qac D j) lns]?.getD en0).2=zz
                 clear hD1
                 rintro e w8 ⟨rfl,hc8,hf8⟩
                 have HB6:Hid (Below w.heap.size w w8):=HB5.out.trans (hc8.below HB5.out.size (fun b hb=>by have:=hne.2.1.1.1;omega))
                 have HX6:Hid (Bx w8 w.heap.size [.slice (some ⟨b0,o0,none⟩) nn c1, .slice a2 mm c2]):=HX5.out.chg hc8 (fun e=>by have:=hne.2.1.1.1;omega)
                 have HR6:Hid (qaa w8 (w.heap.size+1) 7 (cel qbm)):=HR5.out.block (hc8.block _ HR5.out.lt (fun e=>by have:=hne.2.1.1.1;omega))
                 have HO6:Hid (Bx w8 w5.heap.size [.slice (some ⟨bI,0,none⟩) nn cI, .slice (some ⟨bD,0,none⟩) 20 cD]):=HO5.out.chg hc8 hoI
                 have HF6:Hid (FsS w8 bI nn cI bD 20 cD D1 (fun c=>w.heap.size+2≤c∧c≠w5.heap.size)):=hf8.mono fun c hh=>by
                  rcases hh with hh|hh
                  · exact hh
                  · exact ⟨by omega,by omega⟩
                 clear hf8 hc8
                 obtain ⟨aB3,cB3,aE3,cE3,-,-,-,-,k43,hE3⟩:=FsR.five HF6.out.fs.reads (j:=tj) (by rw [HS2.out.2.2];exact htn)
                 rw [Nat.zero_add] at k43
                 obtain ⟨-,hc3,hAt3,-,hZ3⟩:=hE3.cap
                 obtain ⟨_,_,_,_,-,-,-,-,-,-,jf,-⟩:=HF6.out.ino tj htn
                 have c4f:=jf (tj*5+4)
                 have HRD2:Hid (qdu d j lns tj lnt z=qaH D1 tj (qbF (qac D1 tj) (plcE (qac D1 tj) lnt) (lnt,(z:Int)))):=HRD.out
                 have HPUT:Hid (∀W,Below w8.heap.size w8 W→Calls Tryz.prog 49 #[.slice aE3 (qac D1 tj).length cE3, .agg #[.string lnt, .int .i64 (z:Int)]] W fun e w'=> ∃v,e= .returned v∧WdE w' W.heap.size v (qbF (qac D1 tj) (plcE (qac D1 tj) lnt) (lnt,(z:Int)))∧Below W.heap.size W w'):=fun W hW=>qcR W aE3 _ cE3 (qac D1 tj) lnt (z:Int) rfl hc3 HS2.out.1 (hAt3.later hW)
                 have HZ3:Hid (∀i:Nat,((qbF (qac D1 tj) (plcE (qac D1 tj) lnt) (lnt,(z:Int)))[i]?.getD en0).1.size≤maxLen):=qcj hZ3 (by have:=qaX HNT.out;unfold maxLen;omega)
                 have hs2:=HS2.out.1
                 clear HRD hE3 hAt3 hZ3 jf hne
                 generalize qbF (qac D1 tj) (plcE (qac D1 tj) lnt) (lnt,(z:Int))=nes at*
                 generalize (qac D1 tj).length=m3 at*
                 have h0:=HO6.out 0 _ rfl
                 have hlI:bI<w8.heap.size:=HF6.out.ne.2.1.2
                 have hlo:w5.heap.size<w8.heap.size:=HO6.out.lt
                 go_wp2_with fail
                 go_region_law (first
                  | (try go_simp;go_at_call 49;refine (HPUT.out w8.drew (Below.refl _ _).drew).mono ?_;rintro e w9 ⟨v,rfl,hw9,hb9⟩
                     obtain ⟨av,cv,rfl⟩:=hw9.shape
                     have HB9:Hid (Below w8.heap.size w8 w9):= (Below.refl _ _).drew.trans hb9
                     have HW9:Hid (WdE w9 w8.heap.size (.slice av nes.length cv) nes):=hw9
                     have b02:=cell_later HB9.out h0
                     have c42:=cell_later HB9.out k43
                     have c42f:= (HB9.out.frozen (p:= ⟨bI,tj*5+4,none⟩) hlI).trans c4f
                     clear hw9 hb9)
                  |fail)
                 all_goals
                  have HFW:Hid (FsS (w9.setCell ⟨bI,tj*5+4,none⟩ (.slice av nes.length cv)) bI nn cI bD 20 cD (qdu d j lns tj lnt z) (fun c=>w.heap.size+2≤c∧c≠w5.heap.size)):=by
                   have:= ((HF6.out.boundF.later HB9.out).entS tj htn HS2.out.2.1 nes _ (HW9.out.own HZ3.out) (fun c hc=> ⟨fun hh=>by have:=hh.2;have:=hc.1;omega,hc.2⟩)).mono (F':=fun c=>w.heap.size+2≤c∧c≠w5.heap.size) fun c hh=>by
                    rcases hh with hh|hh
                    · exact hh.1
                    · exact ⟨by have:=hh.1;omega,by have:=hh.1;omega⟩
                   unfold Hid
                   rw [HRD2.out]
                   exact this
                  have hC9:Chg (fun c=>c=bI) w8 (w9.setCell ⟨bI,tj*5+4,none⟩ (.slice av nes.length cv)):=Chg.set (F:=fun c=>c=bI) (Chg.of_below HB9.out) rfl _ _
                  have hne:=HF6.out.ne
                  have HB7:Hid (Below w.heap.size w (w9.setCell ⟨bI,tj*5+4,none⟩ (.slice av nes.length cv))):=HB6.out.trans (hC9.below HB6.out.size (fun b hb=>by have:=hne.2.1.1.1;omega))
                  have HX7:Hid (Bx (w9.setCell ⟨bI,tj*5+4,none⟩ (.slice av nes.length cv)) w.heap.size [.slice (some ⟨b0,o0,none⟩) nn c1, .slice a2 mm c2]):=HX6.out.chg hC9 (fun e=>by have:=hne.2.1.1.1;omega)
                  have HR7:Hid (qaa (w9.setCell ⟨bI,tj*5+4,none⟩ (.slice av nes.length cv)) (w.heap.size+1) 7 (cel qbm)):=HR6.out.block (hC9.block _ HR6.out.lt (fun e=>by have:=hne.2.1.1.1;omega))
                  have HO7:Hid (Bx (w9.setCell ⟨bI,tj*5+4,none⟩ (.slice av nes.length cv)) w5.heap.size [.slice (some ⟨bI,0,none⟩) nn cI, .slice (some ⟨bD,0,none⟩) 20 cD]):=HO6.out.chg hC9 hoI
                  clear hC9 b02 c42 c42f
                  generalize (w9.setCell ⟨bI,tj*5+4,none⟩ (.slice av nes.length cv))=WX at*
                  have q0:=HO7.out 0 _ rfl
                  have q1:=HO7.out 1 _ rfl
                  have hrr:=HR7.out
                  have t0:WX.cell? ⟨w.heap.size+1,0,none⟩=some (.int .i64 0):=hrr.cell (i:=0) (by omega)
                  have t1:WX.cell? ⟨w.heap.size+1,1,none⟩=some (.int .i64 0):=hrr.cell (i:=1) (by omega)
                  have t2:WX.cell? ⟨w.heap.size+1,2,none⟩=some (.int .i64 0):=hrr.cell (i:=2) (by omega)
                  have t3:WX.cell? ⟨w.heap.size+1,3,none⟩=some (.slice none 0 0):=hrr.cell (i:=3) (by omega)
                  have t4:WX.cell? ⟨w.heap.size+1,4,none⟩=some (.slice none 0 0):=hrr.cell (i:=4) (by omega)
                  have t5:WX.cell? ⟨w.heap.size+1,5,none⟩=some (.slice none 0 0):=hrr.cell (i:=5) (by omega)
                  have t6:WX.cell? ⟨w.heap.size+1,6,none⟩=some (.slice none 0 0):=hrr.cell (i:=6) (by omega)
                  have s0:=hrr.frozen 0
                  have s1:=hrr.frozen 1
                  have s2:=hrr.frozen 2
                  have s3:=hrr.frozen 3
                  have s4:=hrr.frozen 4
                  have s5:=hrr.frozen 5
                  have s6:=hrr.frozen 6
                  clear hrr
                  go_wp2
                  exact bodyPost_ret (v:= .agg #[.int .i64 0, .int .i64 0, .int .i64 0, .slice none 0 0, .slice none 0 0, .slice (some ⟨bI,0,none⟩) nn cI, .slice (some ⟨bD,0,none⟩) 20 cD]) (by simp [results,Tryz.results16,go_sem,t0,t1,t2,t3,t4,t5,t6]) rfl (by rw [HE.out];exact qaN.put HB7.out (by omega) (qap.fs 0 0 (HFW.out.fsB.mono fun b hh=> ⟨by have:=hh.1;omega,hh.2,by have:=hh.1;omega⟩)) _ _ _ _ _ _ _)
           · have hht :qbG d tj lnt=false:=by unfold qbG;simpa using hg
             have ha8:at8 (qac d tj) lnt= -1:=by unfold at8;rw [if_neg hg]
             rw [ha8]
             have HHT:Hid (qbG d tj lnt=false):=hht
             have HCD:Hid (qaq d tj lnt=d):=by unfold Hid qaq;rw [hht];rfl
             clear hht ha8 hg
             by_cases htj:tj=j
             · have htb: ((tj:Int) != (j:Int))=false:=by simp;omega
               have HRV:Hid (qeX d j z tj (qbG d tj lnt) tz=0):=by
                unfold Hid
                rw [HHT.out,qeY HNW.out]
                exact if_neg (fun hh=>hh.1 htj)
               have HE:Hid (RES= (0,0,0, [], [],qdu d j lns tj lnt z)):=by
                unfold Hid;rw [HEQ.out]
                exact qg0 HZ.out HTZ.out HRV.out (fun hh=>by have:=hh.1;rw [HHT.out] at this;exact absurd this (by decide))
               have HRS:Hid (RenS d (qaq d tj lnt) j lns tj):=qpd (z:=z) HDJ.out HDT.out HZ.out HHJ.out (by rw [HTZ.out,Int.toNat_natCast];exact HRV.out) (fun hh=>by have:=hh.1;rw [HHT.out] at this;exact absurd this (by decide))
               rw [←HCD.out] at HF3
               clear HRV HCD
               clear htj t4
               obtain ⟨D,hD⟩: ∃D,qaq d tj lnt=D:= ⟨_,rfl⟩
               have HRD:Hid (qdu d j lns tj lnt z=qaH (qaH D j (qaO (qac D j) (idxE (qac D j) lns))) tj (qbF (qac (qaH D j (qaO (qac D j) (idxE (qac D j) lns))) tj) (plcE (qac (qaH D j (qaO (qac D j) (idxE (qac D j) lns))) tj) lnt) (lnt,(z:Int)))):=by unfold Hid;rw [←hD];rfl
               rw [hD] at HF3 HRS
               clear hD
               obtain ⟨aB2,cB2,aE2,cE2,-,-,-,-,k42,hE2⟩:=FsR.five HF3.out.fs.reads (j:=j) (by rw [HRS.out.len];exact HRS.out.jlt)
               rw [Nat.zero_add] at k42
               obtain ⟨-,-,hAt2,-,-⟩:=hE2.cap
               have HA2:Hid (AtN W5 aE2 (qac D j).length (qac D j)):=hAt2
               have h62:=HRS.out.six
               have HI3:Hid (idxE (qac D j) lns< (qac D j).length):=HRS.out.has
               have ha8:at8 (qac D j) lns= ((idxE (qac D j) lns:Nat):Int):=by unfold at8;rw [if_pos HRS.out.has]
               clear hE2 hAt2
               obtain ⟨m2,hm2⟩: ∃m2,(qac D j).length=m2:= ⟨_,rfl⟩
               rw [hm2] at k42 HA2 h62
               have HM2:Hid ((qac D j).length=m2):=hm2
               clear hm2
               have xHX0:=HX3.out 0 _ rfl
               have xHX1:=HX3.out 1 _ rfl
               have xHO0:=HO3.out 0 _ rfl
               have xHO1:=HO3.out 1 _ rfl
               go_wp2_with fail
               clear xHX0 xHX1 xHO0 xHO1 k42
               refine (qbN W5 aE2 m2 cE2 (qac D j) lns HM2.out (by omega) HA2.out).mono ?_
               rw [ha8]
               clear ha8
               rintro e w' ⟨rfl,hw⟩
               subst w'
               go_wp2_with fail
               have hne:=HF3.out.ne
               have hoI:w5.heap.size≠bI:=fun e=>hne.2.1.1.2 e.symm
               have hw7:w5.heap.size<W5.heap.size:=HO3.out.lt
               refine (qbK W5 w5.heap.size bI nn cI bD cD D _ j _ (HO3.out 0 _ rfl) (HO3.out 1 _ rfl) HF3.out (by rw [HRS.out.len,HNN.out]) hjn h10 HRS.out.six HRS.out.blk HI3.out).mono ?_
               obtain ⟨D1,hD1⟩: ∃D1,qaH D j (qaO (qac D j) (idxE (qac D j) lns))=D1:= ⟨_,rfl⟩
               rw [hD1]
               rw [hD1] at HRD
               have HS2:Hid ((qac D1 tj).length≤6∧ (D1.1[tj]?.getD id0).2.2.2.1= []∧D1.1.length=nn):=by
                unfold Hid
                rw [←hD1]
                exact ⟨HRS.out.six2,HRS.out.blk2,by rw [qcl,HRS.out.len,HNN.out]⟩
               generalize ((qac D j)[idxE (qac D j) lns]?.getD en0).2=zz
               clear hD1
               rintro e w8 ⟨rfl,hc8,hf8⟩
               have HB4:Hid (Below w.heap.size w w8):=HB3.out.trans (hc8.below HB3.out.size (fun b hb=>by have:=hne.2.1.1.1;omega))
               have HX4:Hid (Bx w8 w.heap.size [.slice (some ⟨b0,o0,none⟩) nn c1, .slice a2 mm c2]):=HX3.out.chg hc8 (fun e=>by have:=hne.2.1.1.1;omega)
               have HR4:Hid (qaa w8 (w.heap.size+1) 7 (cel qbm)):=HR3.out.block (hc8.block _ HR3.out.lt (fun e=>by have:=hne.2.1.1.1;omega))
               have HO4:Hid (Bx w8 w5.heap.size [.slice (some ⟨bI,0,none⟩) nn cI, .slice (some ⟨bD,0,none⟩) 20 cD]):=HO3.out.chg hc8 hoI
               have HF4:Hid (FsS w8 bI nn cI bD 20 cD D1 (fun c=>w.heap.size+2≤c∧c≠w5.heap.size)):=hf8.mono fun c hh=>by
                rcases hh with hh|hh
                · exact hh
                · exact ⟨by omega,by omega⟩
               clear hf8 hc8
               obtain ⟨aB3,cB3,aE3,cE3,-,-,-,-,k43,hE3⟩:=FsR.five HF4.out.fs.reads (j:=tj) (by rw [HS2.out.2.2];exact htn)
               rw [Nat.zero_add] at k43
               obtain ⟨-,hc3,hAt3,-,hZ3⟩:=hE3.cap
               obtain ⟨_,_,_,_,-,-,-,-,-,-,jf,-⟩:=HF4.out.ino tj htn
               have c4f:=jf (tj*5+4)
               have HRD2:Hid (qdu d j lns tj lnt z=qaH D1 tj (qbF (qac D1 tj) (plcE (qac D1 tj) lnt) (lnt,(z:Int)))):=HRD.out
               have HPUT:Hid (∀W,Below w8.heap.size w8 W→Calls Tryz.prog 49 #[.slice aE3 (qac D1 tj).length cE3, .agg #[.string lnt, .int .i64 (z:Int)]] W fun e w'=> ∃v,e= .returned v∧WdE w' W.heap.size v (qbF (qac D1 tj) (plcE (qac D1 tj) lnt) (lnt,(z:Int)))∧Below W.heap.size W w'):=fun W hW=>qcR W aE3 _ cE3 (qac D1 tj) lnt (z:Int) rfl hc3 HS2.out.1 (hAt3.later hW)
               have HZ3:Hid (∀i:Nat,((qbF (qac D1 tj) (plcE (qac D1 tj) lnt) (lnt,(z:Int)))[i]?.getD en0).1.size≤maxLen):=qcj hZ3 (by have:=qaX HNT.out;unfold maxLen;omega)
               have hs2:=HS2.out.1
               clear HRD hE3 hAt3 hZ3 jf hne
               generalize qbF (qac D1 tj) (plcE (qac D1 tj) lnt) (lnt,(z:Int))=nes at*
               generalize (qac D1 tj).length=m3 at*
               have h0:=HO4.out 0 _ rfl
               have hlI:bI<w8.heap.size:=HF4.out.ne.2.1.2
               have hlo:w5.heap.size<w8.heap.size:=HO4.out.lt
               go_wp2_with fail
               go_region_law (first
                | (try go_simp;go_at_call 49;refine (HPUT.out w8.drew (Below.refl _ _).drew).mono ?_;rintro e w9 ⟨v,rfl,hw9,hb9⟩
                   obtain ⟨av,cv,rfl⟩:=hw9.shape
                   have HB9:Hid (Below w8.heap.size w8 w9):= (Below.refl _ _).drew.trans hb9
                   have HW9:Hid (WdE w9 w8.heap.size (.slice av nes.length cv) nes):=hw9
                   have b02:=cell_later HB9.out h0
                   have c42:=cell_later HB9.out k43
                   have c42f:= (HB9.out.frozen (p:= ⟨bI,tj*5+4,none⟩) hlI).trans c4f
                   clear hw9 hb9)
                |fail)
               all_goals
                have HFW:Hid (FsS (w9.setCell ⟨bI,tj*5+4,none⟩ (.slice av nes.length cv)) bI nn cI bD 20 cD (qdu d j lns tj lnt z) (fun c=>w.heap.size+2≤c∧c≠w5.heap.size)):=by
                 have:= ((HF4.out.boundF.later HB9.out).entS tj htn HS2.out.2.1 nes _ (HW9.out.own HZ3.out) (fun c hc=> ⟨fun hh=>by have:=hh.2;have:=hc.1;omega,hc.2⟩)).mono (F':=fun c=>w.heap.size+2≤c∧c≠w5.heap.size) fun c hh=>by
                  rcases hh with hh|hh
                  · exact hh.1
                  · exact ⟨by have:=hh.1;omega,by have:=hh.1;omega⟩
                 unfold Hid
                 rw [HRD2.out]
                 exact this
                have hC9:Chg (fun c=>c=bI) w8 (w9.setCell ⟨bI,tj*5+4,none⟩ (.slice av nes.length cv)):=Chg.set (F:=fun c=>c=bI) (Chg.of_below HB9.out) rfl _ _
                have hne:=HF4.out.ne
                have HB5:Hid (Below w.heap.size w (w9.setCell ⟨bI,tj*5+4,none⟩ (.slice av nes.length cv))):=HB4.out.trans (hC9.below HB4.out.size (fun b hb=>by have:=hne.2.1.1.1;omega))
                have HX5:Hid (Bx (w9.setCell ⟨bI,tj*5+4,none⟩ (.slice av nes.length cv)) w.heap.size [.slice (some ⟨b0,o0,none⟩) nn c1, .slice a2 mm c2]):=HX4.out.chg hC9 (fun e=>by have:=hne.2.1.1.1;omega)
                have HR5:Hid (qaa (w9.setCell ⟨bI,tj*5+4,none⟩ (.slice av nes.length cv)) (w.heap.size+1) 7 (cel qbm)):=HR4.out.block (hC9.block _ HR4.out.lt (fun e=>by have:=hne.2.1.1.1;omega))
                have HO5:Hid (Bx (w9.setCell ⟨bI,tj*5+4,none⟩ (.slice av nes.length cv)) w5.heap.size [.slice (some ⟨bI,0,none⟩) nn cI, .slice (some ⟨bD,0,none⟩) 20 cD]):=HO4.out.chg hC9 hoI
                clear hC9 b02 c42 c42f
                generalize (w9.setCell ⟨bI,tj*5+4,none⟩ (.slice av nes.length cv))=WX at*
                have q0:=HO5.out 0 _ rfl
                have q1:=HO5.out 1 _ rfl
                have hrr:=HR5.out
                have t0:WX.cell? ⟨w.heap.size+1,0,none⟩=some (.int .i64 0):=hrr.cell (i:=0) (by omega)
                have t1:WX.cell? ⟨w.heap.size+1,1,none⟩=some (.int .i64 0):=hrr.cell (i:=1) (by omega)
                have t2:WX.cell? ⟨w.heap.size+1,2,none⟩=some (.int .i64 0):=hrr.cell (i:=2) (by omega)
                have t3:WX.cell? ⟨w.heap.size+1,3,none⟩=some (.slice none 0 0):=hrr.cell (i:=3) (by omega)
                have t4:WX.cell? ⟨w.heap.size+1,4,none⟩=some (.slice none 0 0):=hrr.cell (i:=4) (by omega)
                have t5:WX.cell? ⟨w.heap.size+1,5,none⟩=some (.slice none 0 0):=hrr.cell (i:=5) (by omega)
                have t6:WX.cell? ⟨w.heap.size+1,6,none⟩=some (.slice none 0 0):=hrr.cell (i:=6) (by omega)
                have s0:=hrr.frozen 0
                have s1:=hrr.frozen 1
                have s2:=hrr.frozen 2
                have s3:=hrr.frozen 3
                have s4:=hrr.frozen 4
                have s5:=hrr.frozen 5
                have s6:=hrr.frozen 6
                clear hrr
                go_wp2
                exact bodyPost_ret (v:= .agg #[.int .i64 0, .int .i64 0, .int .i64 0, .slice none 0 0, .slice none 0 0, .slice (some ⟨bI,0,none⟩) nn cI, .slice (some ⟨bD,0,none⟩) 20 cD]) (by simp [results,Tryz.results16,go_sem,t0,t1,t2,t3,t4,t5,t6]) rfl (by rw [HE.out];exact qaN.put HB5.out (by omega) (qap.fs 0 0 (HFW.out.fsB.mono fun b hh=> ⟨by have:=hh.1;omega,hh.2,by have:=hh.1;omega⟩)) _ _ _ _ _ _ _)
             · have htb: ((tj:Int) != (j:Int))=true:=by simp;omega
               by_cases hsx:tm=6
               · have hsb:decide ((6:Int)≤ (tm:Int))=true:=by simp;omega
                 have hsc:decide (6≤tm)=true:=by simp;omega
                 have HE:Hid (RES=qav d 2):=by
                  unfold Hid;rw [HEQ.out]
                  exact qdb HZ.out HTZ.out (by rw [HHT.out,qeY HNW.out];exact if_pos ⟨htj,by rw [HTM.out];exact hsx⟩) (Or.inl (by decide))
                 clear hsx htj
                 have xHX0:=HX3.out 0 _ rfl
                 have xHX1:=HX3.out 1 _ rfl
                 go_wp2_with fail
                 clear xHX0 xHX1
                 refine (HST.out _ 2 HB3.out).mono ?_
                 rintro e u ⟨y1,y2,b3,m3,k3,b4,m4,k4,b5,m5,k5,b6,m6,k6,rfl,hb,hu⟩
                 have hrr:=HR3.out.later hb
                 have hlr:w.heap.size+1<W5.heap.size:=HR3.out.lt
                 have HBU:Hid (Below W5.heap.size W5 u):=hb
                 have HCU:Hid (qap u (.int .i64 y1) (.int .i64 y2) (.slice b3 m3 k3) (.slice b4 m4 k4) (.slice b5 m5 k5) (.slice b6 m6 k6) (qav d 2).2 (qaj W5 u)):=hu
                 have t0:u.cell? ⟨w.heap.size+1,0,none⟩=some (.int .i64 0):=hrr.cell (i:=0) (by omega)
                 have t1:u.cell? ⟨w.heap.size+1,1,none⟩=some (.int .i64 0):=hrr.cell (i:=1) (by omega)
                 have t2:u.cell? ⟨w.heap.size+1,2,none⟩=some (.int .i64 0):=hrr.cell (i:=2) (by omega)
                 have t3:u.cell? ⟨w.heap.size+1,3,none⟩=some (.slice none 0 0):=hrr.cell (i:=3) (by omega)
                 have t4:u.cell? ⟨w.heap.size+1,4,none⟩=some (.slice none 0 0):=hrr.cell (i:=4) (by omega)
                 have t5:u.cell? ⟨w.heap.size+1,5,none⟩=some (.slice none 0 0):=hrr.cell (i:=5) (by omega)
                 have t6:u.cell? ⟨w.heap.size+1,6,none⟩=some (.slice none 0 0):=hrr.cell (i:=6) (by omega)
                 have s0:=hrr.frozen 0
                 have s1:=hrr.frozen 1
                 have s2:=hrr.frozen 2
                 have s3:=hrr.frozen 3
                 have s4:=hrr.frozen 4
                 have s5:=hrr.frozen 5
                 have s6:=hrr.frozen 6
                 clear hb hu hrr
                 go_wp2
                 exact bodyPost_ret (v:= .agg #[.int .i64 (qav d 2).1, .int .i64 y1, .int .i64 y2, .slice b3 m3 k3, .slice b4 m4 k4, .slice b5 m5 k5, .slice b6 m6 k6]) (by simp [results,Tryz.results16,go_sem,t0,t1,t2,t3,t4,t5,t6]) rfl (by rw [HE.out];exact qaN.pass HB3.out (by omega) hlr HBU.out HCU.out _ _ _ _ _ _ _)
               · have hsb:decide ((6:Int)≤ (tm:Int))=false:=by simp;omega
                 have hsc:decide (6≤tm)=false:=by simp;omega
                 have HRV:Hid (qeX d j z tj (qbG d tj lnt) tz=0):=by
                  unfold Hid
                  rw [HHT.out,qeY HNW.out]
                  exact if_neg (fun hh=>hsx (by rw [←HTM.out];exact hh.2))
                 have HE:Hid (RES= (0,0,0, [], [],qdu d j lns tj lnt z)):=by
                  unfold Hid;rw [HEQ.out]
                  exact qg0 HZ.out HTZ.out HRV.out (fun hh=>by have:=hh.1;rw [HHT.out] at this;exact absurd this (by decide))
                 have HRS:Hid (RenS d (qaq d tj lnt) j lns tj):=qpd (z:=z) HDJ.out HDT.out HZ.out HHJ.out (by rw [HTZ.out,Int.toNat_natCast];exact HRV.out) (fun hh=>by have:=hh.1;rw [HHT.out] at this;exact absurd this (by decide))
                 rw [←HCD.out] at HF3
                 clear HRV HCD
                 clear hsx htj
                 obtain ⟨D,hD⟩: ∃D,qaq d tj lnt=D:= ⟨_,rfl⟩
                 have HRD:Hid (qdu d j lns tj lnt z=qaH (qaH D j (qaO (qac D j) (idxE (qac D j) lns))) tj (qbF (qac (qaH D j (qaO (qac D j) (idxE (qac D j) lns))) tj) (plcE (qac (qaH D j (qaO (qac D j) (idxE (qac D j) lns))) tj) lnt) (lnt,(z:Int)))):=by unfold Hid;rw [←hD];rfl
                 rw [hD] at HF3 HRS
                 clear hD
                 obtain ⟨aB2,cB2,aE2,cE2,-,-,-,-,k42,hE2⟩:=FsR.five HF3.out.fs.reads (j:=j) (by rw [HRS.out.len];exact HRS.out.jlt)
                 rw [Nat.zero_add] at k42
                 obtain ⟨-,-,hAt2,-,-⟩:=hE2.cap
                 have HA2:Hid (AtN W5 aE2 (qac D j).length (qac D j)):=hAt2
                 have h62:=HRS.out.six
                 have HI3:Hid (idxE (qac D j) lns< (qac D j).length):=HRS.out.has
                 have ha8:at8 (qac D j) lns= ((idxE (qac D j) lns:Nat):Int):=by unfold at8;rw [if_pos HRS.out.has]
                 clear hE2 hAt2
                 obtain ⟨m2,hm2⟩: ∃m2,(qac D j).length=m2:= ⟨_,rfl⟩
                 rw [hm2] at k42 HA2 h62
                 have HM2:Hid ((qac D j).length=m2):=hm2
                 clear hm2
                 have xHX0:=HX3.out 0 _ rfl
                 have xHX1:=HX3.out 1 _ rfl
                 have xHO0:=HO3.out 0 _ rfl
                 have xHO1:=HO3.out 1 _ rfl
                 go_wp2_with fail
                 clear xHX0 xHX1 xHO0 xHO1 k42
                 refine (qbN W5 aE2 m2 cE2 (qac D j) lns HM2.out (by omega) HA2.out).mono ?_
                 rw [ha8]
                 clear ha8
                 rintro e w' ⟨rfl,hw⟩
                 subst w'
                 go_wp2_with fail
                 have hne:=HF3.out.ne
                 have hoI:w5.heap.size≠bI:=fun e=>hne.2.1.1.2 e.symm
                 have hw7:w5.heap.size<W5.heap.size:=HO3.out.lt
                 refine (qbK W5 w5.heap.size bI nn cI bD cD D _ j _ (HO3.out 0 _ rfl) (HO3.out 1 _ rfl) HF3.out (by rw [HRS.out.len,HNN.out]) hjn h10 HRS.out.six HRS.out.blk HI3.out).mono ?_
                 obtain ⟨D1,hD1⟩: ∃D1,qaH D j (qaO (qac D j) (idxE (qac D j) lns))=D1:= ⟨_,rfl⟩
                 rw [hD1]
                 rw [hD1] at HRD
                 have HS2:Hid ((qac D1 tj).length≤6∧ (D1.1[tj]?.getD id0).2.2.2.1= []∧D1.1.length=nn):=by
                  unfold Hid
                  rw [←hD1]
                  exact ⟨HRS.out.six2,HRS.out.blk2,by rw [qcl,HRS.out.len,HNN.out]⟩
                 generalize ((qac D j)[idxE (qac D j) lns]?.getD en0).2=zz
                 clear hD1
                 rintro e w8 ⟨rfl,hc8,hf8⟩
                 have HB4:Hid (Below w.heap.size w w8):=HB3.out.trans (hc8.below HB3.out.size (fun b hb=>by have:=hne.2.1.1.1;omega))
                 have HX4:Hid (Bx w8 w.heap.size [.slice (some ⟨b0,o0,none⟩) nn c1, .slice a2 mm c2]):=HX3.out.chg hc8 (fun e=>by have:=hne.2.1.1.1;omega)
                 have HR4:Hid (qaa w8 (w.heap.size+1) 7 (cel qbm)):=HR3.out.block (hc8.block _ HR3.out.lt (fun e=>by have:=hne.2.1.1.1;omega))
                 have HO4:Hid (Bx w8 w5.heap.size [.slice (some ⟨bI,0,none⟩) nn cI, .slice (some ⟨bD,0,none⟩) 20 cD]):=HO3.out.chg hc8 hoI
                 have HF4:Hid (FsS w8 bI nn cI bD 20 cD D1 (fun c=>w.heap.size+2≤c∧c≠w5.heap.size)):=hf8.mono fun c hh=>by
                  rcases hh with hh|hh
                  · exact hh
                  · exact ⟨by omega,by omega⟩
                 clear hf8 hc8
                 obtain ⟨aB3,cB3,aE3,cE3,-,-,-,-,k43,hE3⟩:=FsR.five HF4.out.fs.reads (j:=tj) (by rw [HS2.out.2.2];exact htn)
                 rw [Nat.zero_add] at k43
                 obtain ⟨-,hc3,hAt3,-,hZ3⟩:=hE3.cap
                 obtain ⟨_,_,_,_,-,-,-,-,-,-,jf,-⟩:=HF4.out.ino tj htn
                 have c4f:=jf (tj*5+4)
                 have HRD2:Hid (qdu d j lns tj lnt z=qaH D1 tj (qbF (qac D1 tj) (plcE (qac D1 tj) lnt) (lnt,(z:Int)))):=HRD.out
                 have HPUT:Hid (∀W,Below w8.heap.size w8 W→Calls Tryz.prog 49 #[.slice aE3 (qac D1 tj).length cE3, .agg #[.string lnt, .int .i64 (z:Int)]] W fun e w'=> ∃v,e= .returned v∧WdE w' W.heap.size v (qbF (qac D1 tj) (plcE (qac D1 tj) lnt) (lnt,(z:Int)))∧Below W.heap.size W w'):=fun W hW=>qcR W aE3 _ cE3 (qac D1 tj) lnt (z:Int) rfl hc3 HS2.out.1 (hAt3.later hW)
                 have HZ3:Hid (∀i:Nat,((qbF (qac D1 tj) (plcE (qac D1 tj) lnt) (lnt,(z:Int)))[i]?.getD en0).1.size≤maxLen):=qcj hZ3 (by have:=qaX HNT.out;unfold maxLen;omega)
                 have hs2:=HS2.out.1
                 clear HRD hE3 hAt3 hZ3 jf hne
                 generalize qbF (qac D1 tj) (plcE (qac D1 tj) lnt) (lnt,(z:Int))=nes at*
                 generalize (qac D1 tj).length=m3 at*
                 have h0:=HO4.out 0 _ rfl
                 have hlI:bI<w8.heap.size:=HF4.out.ne.2.1.2
                 have hlo:w5.heap.size<w8.heap.size:=HO4.out.lt
                 go_wp2_with fail
                 go_region_law (first
                  | (try go_simp;go_at_call 49;refine (HPUT.out w8.drew (Below.refl _ _).drew).mono ?_;rintro e w9 ⟨v,rfl,hw9,hb9⟩
                     obtain ⟨av,cv,rfl⟩:=hw9.shape
                     have HB9:Hid (Below w8.heap.size w8 w9):= (Below.refl _ _).drew.trans hb9
                     have HW9:Hid (WdE w9 w8.heap.size (.slice av nes.length cv) nes):=hw9
                     have b02:=cell_later HB9.out h0
                     have c42:=cell_later HB9.out k43
                     have c42f:= (HB9.out.frozen (p:= ⟨bI,tj*5+4,none⟩) hlI).trans c4f
                     clear hw9 hb9)
                  |fail)
                 all_goals
                  have HFW:Hid (FsS (w9.setCell ⟨bI,tj*5+4,none⟩ (.slice av nes.length cv)) bI nn cI bD 20 cD (qdu d j lns tj lnt z) (fun c=>w.heap.size+2≤c∧c≠w5.heap.size)):=by
                   have:= ((HF4.out.boundF.later HB9.out).entS tj htn HS2.out.2.1 nes _ (HW9.out.own HZ3.out) (fun c hc=> ⟨fun hh=>by have:=hh.2;have:=hc.1;omega,hc.2⟩)).mono (F':=fun c=>w.heap.size+2≤c∧c≠w5.heap.size) fun c hh=>by
                    rcases hh with hh|hh
                    · exact hh.1
                    · exact ⟨by have:=hh.1;omega,by have:=hh.1;omega⟩
                   unfold Hid
                   rw [HRD2.out]
                   exact this
                  have hC9:Chg (fun c=>c=bI) w8 (w9.setCell ⟨bI,tj*5+4,none⟩ (.slice av nes.length cv)):=Chg.set (F:=fun c=>c=bI) (Chg.of_below HB9.out) rfl _ _
                  have hne:=HF4.out.ne
                  have HB5:Hid (Below w.heap.size w (w9.setCell ⟨bI,tj*5+4,none⟩ (.slice av nes.length cv))):=HB4.out.trans (hC9.below HB4.out.size (fun b hb=>by have:=hne.2.1.1.1;omega))
                  have HX5:Hid (Bx (w9.setCell ⟨bI,tj*5+4,none⟩ (.slice av nes.length cv)) w.heap.size [.slice (some ⟨b0,o0,none⟩) nn c1, .slice a2 mm c2]):=HX4.out.chg hC9 (fun e=>by have:=hne.2.1.1.1;omega)
                  have HR5:Hid (qaa (w9.setCell ⟨bI,tj*5+4,none⟩ (.slice av nes.length cv)) (w.heap.size+1) 7 (cel qbm)):=HR4.out.block (hC9.block _ HR4.out.lt (fun e=>by have:=hne.2.1.1.1;omega))
                  have HO5:Hid (Bx (w9.setCell ⟨bI,tj*5+4,none⟩ (.slice av nes.length cv)) w5.heap.size [.slice (some ⟨bI,0,none⟩) nn cI, .slice (some ⟨bD,0,none⟩) 20 cD]):=HO4.out.chg hC9 hoI
                  clear hC9 b02 c42 c42f
                  generalize (w9.setCell ⟨bI,tj*5+4,none⟩ (.slice av nes.length cv))=WX at*
                  have q0:=HO5.out 0 _ rfl
                  have q1:=HO5.out 1 _ rfl
                  have hrr:=HR5.out
                  have t0:WX.cell? ⟨w.heap.size+1,0,none⟩=some (.int .i64 0):=hrr.cell (i:=0) (by omega)
                  have t1:WX.cell? ⟨w.heap.size+1,1,none⟩=some (.int .i64 0):=hrr.cell (i:=1) (by omega)
                  have t2:WX.cell? ⟨w.heap.size+1,2,none⟩=some (.int .i64 0):=hrr.cell (i:=2) (by omega)
                  have t3:WX.cell? ⟨w.heap.size+1,3,none⟩=some (.slice none 0 0):=hrr.cell (i:=3) (by omega)
                  have t4:WX.cell? ⟨w.heap.size+1,4,none⟩=some (.slice none 0 0):=hrr.cell (i:=4) (by omega)
                  have t5:WX.cell? ⟨w.heap.size+1,5,none⟩=some (.slice none 0 0):=hrr.cell (i:=5) (by omega)
                  have t6:WX.cell? ⟨w.heap.size+1,6,none⟩=some (.slice none 0 0):=hrr.cell (i:=6) (by omega)
                  have s0:=hrr.frozen 0
                  have s1:=hrr.frozen 1
                  have s2:=hrr.frozen 2
                  have s3:=hrr.frozen 3
                  have s4:=hrr.frozen 4
                  have s5:=hrr.frozen 5
                  have s6:=hrr.frozen 6
                  clear hrr
                  go_wp2
                  exact bodyPost_ret (v:= .agg #[.int .i64 0, .int .i64 0, .int .i64 0, .slice none 0 0, .slice none 0 0, .slice (some ⟨bI,0,none⟩) nn cI, .slice (some ⟨bD,0,none⟩) 20 cD]) (by simp [results,Tryz.results16,go_sem,t0,t1,t2,t3,t4,t5,t6]) rfl (by rw [HE.out];exact qaN.put HB5.out (by omega) (qap.fs 0 0 (HFW.out.fsB.mono fun b hh=> ⟨by have:=hh.1;omega,hh.2,by have:=hh.1;omega⟩)) _ _ _ _ _ _ _)
         · have HE:Hid (RES=qav d 1):=by
            unfold Hid;rw [HEQ.out]
            exact qdb HZ.out HTZ.out (qoQ ⟨HKK.out,HWB.out⟩) (Or.inl (by decide))
           have xHX0:=HX2.out 0 _ rfl
           have xHX1:=HX2.out 1 _ rfl
           go_wp2_with fail
           clear xHX0 xHX1
           refine (HST.out _ 1 HB2.out).mono ?_
           rintro e u ⟨y1,y2,b3,m3,k3,b4,m4,k4,b5,m5,k5,b6,m6,k6,rfl,hb,hu⟩
           have hrr:=HR2.out.later hb
           have hlr:w.heap.size+1<w2.heap.size:=HR2.out.lt
           have HBU:Hid (Below w2.heap.size w2 u):=hb
           have HCU:Hid (qap u (.int .i64 y1) (.int .i64 y2) (.slice b3 m3 k3) (.slice b4 m4 k4) (.slice b5 m5 k5) (.slice b6 m6 k6) (qav d 1).2 (qaj w2 u)):=hu
           have t0:u.cell? ⟨w.heap.size+1,0,none⟩=some (.int .i64 0):=hrr.cell (i:=0) (by omega)
           have t1:u.cell? ⟨w.heap.size+1,1,none⟩=some (.int .i64 0):=hrr.cell (i:=1) (by omega)
           have t2:u.cell? ⟨w.heap.size+1,2,none⟩=some (.int .i64 0):=hrr.cell (i:=2) (by omega)
           have t3:u.cell? ⟨w.heap.size+1,3,none⟩=some (.slice none 0 0):=hrr.cell (i:=3) (by omega)
           have t4:u.cell? ⟨w.heap.size+1,4,none⟩=some (.slice none 0 0):=hrr.cell (i:=4) (by omega)
           have t5:u.cell? ⟨w.heap.size+1,5,none⟩=some (.slice none 0 0):=hrr.cell (i:=5) (by omega)
           have t6:u.cell? ⟨w.heap.size+1,6,none⟩=some (.slice none 0 0):=hrr.cell (i:=6) (by omega)
           have s0:=hrr.frozen 0
           have s1:=hrr.frozen 1
           have s2:=hrr.frozen 2
           have s3:=hrr.frozen 3
           have s4:=hrr.frozen 4
           have s5:=hrr.frozen 5
           have s6:=hrr.frozen 6
           clear hb hu hrr
           go_wp2
           exact bodyPost_ret (v:= .agg #[.int .i64 (qav d 1).1, .int .i64 y1, .int .i64 y2, .slice b3 m3 k3, .slice b4 m4 k4, .slice b5 m5 k5, .slice b6 m6 k6]) (by simp [results,Tryz.results16,go_sem,t0,t1,t2,t3,t4,t5,t6]) rfl (by rw [HE.out];exact qaN.pass HB2.out (by omega) hlr HBU.out HCU.out _ _ _ _ _ _ _)
       · have hkb : (qae d.1 z==2)=false:=by simpa using hkd
         have HNW:Hid (¬ (qae d.1 z=2∧qfa d (tj:Int) (z:Int)=true)):=fun hh=>hkd hh.1
         obtain ⟨kd,hkk⟩: ∃kd,qae d.1 z=kd:= ⟨_,rfl⟩
         rw [hkk] at kz hkb
         clear hkd hkk
         have xHX0:=HX2.out 0 _ rfl
         have xHX1:=HX2.out 1 _ rfl
         go_wp2_with fail
         clear xHX0 xHX1 kz hkb
         refine (HCF.out _ HB2.out).mono ?_
         rintro e w5 ⟨q1,m1,cI,q2,m2,cD,rfl,hb5,hf5⟩
         obtain ⟨bI,e1,bD,e2,eI,eD,hfs⟩:=FsS.of hf5 (by have:=HDJ.out.lt;omega) (by have:=HNM.out;omega)
         simp only [Value.slice.injEq] at eI eD
         obtain ⟨rfl,rfl,rfl⟩:=eI
         obtain ⟨rfl,rfl,rfl⟩:=eD
         rw [HNM.out,HNN.out] at hfs
         rw [HNM.out,HNN.out]
         have hlw:w.heap.size+1<w2.heap.size:=HR2.out.lt
         have hbo4:w.heap.size+1<w5.heap.size:=by have:=hb5.size;omega
         have hb:Below w2.heap.size w2 (w5.alloc (.cells #[.slice (some ⟨bI,0,none⟩) nn cI, .slice (some ⟨bD,0,none⟩) 20 cD] 31)):=hb5.trans ((qab _ _).mono hb5.size)
         have HB3:Hid (Below w.heap.size w (w5.alloc (.cells #[.slice (some ⟨bI,0,none⟩) nn cI, .slice (some ⟨bD,0,none⟩) 20 cD] 31))):=HB2.out.trans (hb.mono HB2.out.size)
         have HX3:Hid (Bx (w5.alloc (.cells #[.slice (some ⟨bI,0,none⟩) nn cI, .slice (some ⟨bD,0,none⟩) 20 cD] 31)) w.heap.size [.slice (some ⟨b0,o0,none⟩) nn c1, .slice a2 mm c2]):=HX2.out.later hb
         have HR3:Hid (qaa (w5.alloc (.cells #[.slice (some ⟨bI,0,none⟩) nn cI, .slice (some ⟨bD,0,none⟩) 20 cD] 31)) (w.heap.size+1) 7 (cel qbm)):=HR2.out.later hb
         have HFX3:Hid (FsX (w5.alloc (.cells #[.slice (some ⟨bI,0,none⟩) nn cI, .slice (some ⟨bD,0,none⟩) 20 cD] 31)) w.heap.size 0 d (some ⟨b0,o0,none⟩) c1 a2 c2):=HFX2.out.later hb
         clear hb
         have HF3:Hid (FsS (w5.alloc (.cells #[.slice (some ⟨bI,0,none⟩) nn cI, .slice (some ⟨bD,0,none⟩) 20 cD] 31)) bI nn cI bD 20 cD d (fun c=>w.heap.size+2≤c∧c≠w5.heap.size)):= (hfs.later (qab _ _)).mono fun c hh=> ⟨by have:=hh.1;omega,by have:=hh.2;omega⟩
         have HO3:Hid (Bx (w5.alloc (.cells #[.slice (some ⟨bI,0,none⟩) nn cI, .slice (some ⟨bD,0,none⟩) 20 cD] 31)) w5.heap.size [.slice (some ⟨bI,0,none⟩) nn cI, .slice (some ⟨bD,0,none⟩) 20 cD]):=Bx.new w5 [.slice (some ⟨bI,0,none⟩) nn cI, .slice (some ⟨bD,0,none⟩) 20 cD] _
         clear hb5 hf5 hfs
         obtain ⟨tE,tcE,k4t,hatT⟩:=HEN.out tj htn
         have HAT:Hid (AtN w tE (qac d tj).length (qac d tj)):=hatT
         have ht6:=HSIX.out tj
         have t4:=cell_later HB3.out k4t
         clear hatT k4t
         obtain ⟨tm,htm⟩: ∃tm,(qac d tj).length=tm:= ⟨_,rfl⟩
         rw [htm] at t4 HAT ht6
         have HTM:Hid ((qac d tj).length=tm):=htm
         clear htm
         have xHX0:=HX3.out 0 _ rfl
         have xHX1:=HX3.out 1 _ rfl
         go_wp2_with fail
         generalize (w5.alloc (.cells #[.slice (some ⟨bI,0,none⟩) nn cI, .slice (some ⟨bD,0,none⟩) 20 cD] 31))=W5 at*
         clear xHX0 xHX1
         refine (qbN W5 tE tm tcE (qac d tj) lnt HTM.out (by omega) (HAT.out.later HB3.out)).mono ?_
         rintro e w' ⟨rfl,hw⟩
         subst w'
         by_cases hg:idxE (qac d tj) lnt< (qac d tj).length
         · have hht :qbG d tj lnt=true:=by unfold qbG;simpa using hg
           have ha8:at8 (qac d tj) lnt= ((idxE (qac d tj) lnt:Nat):Int):=by unfold at8;rw [if_pos hg]
           rw [ha8]
           have hg':idxE (qac d tj) lnt<tm:=by rw [←HTM.out];exact hg
           obtain ⟨bt,ot,rfl,-,g6⟩:=HAT.out _ hg'
           have hez: ((qac d tj)[idxE (qac d tj) lnt]?.getD en0).2= (tz:Int):=by rw [←HTZ.out];unfold atE;rw [if_pos hg]
           rw [hez] at g6
           have HEZ:Hid (((qac d tj)[idxE (qac d tj) lnt]?.getD en0).2= (tz:Int)):=hez
           have g7:=cell_later HB3.out g6
           clear g6 hez ha8
           obtain ⟨i2,hii⟩: ∃i2,idxE (qac d tj) lnt=i2:= ⟨_,rfl⟩
           rw [hii] at g7 hg' hg HEZ ⊢
           have HI2:Hid (idxE (qac d tj) lnt=i2):=hii
           have HHT:Hid (qbG d tj lnt=true):=hht
           have HG2:Hid (i2< (qac d tj).length):=hg
           have hi2I: (i2:Int)< (tm:Int):=by omega
           have hi2n: (0:Int)≤ (i2:Int):=by omega
           clear hii hht hg
           by_cases htzz:tz=z
           · have hqb: ((tz:Int)== (z:Int))=true:=by simp [htzz]
             have HE:Hid (RES=qav d 0):=by
              unfold Hid;rw [HEQ.out]
              exact qdb HZ.out HTZ.out (by rw [HHT.out];exact qja HNW.out htzz) (Or.inr ⟨HHT.out,htzz⟩)
             clear htzz
             have xHX0:=HX3.out 0 _ rfl
             have xHX1:=HX3.out 1 _ rfl
             go_wp2_with fail
             clear xHX0 xHX1
             refine (HST.out _ 0 HB3.out).mono ?_
             rintro e u ⟨y1,y2,b3,m3,k3,b4,m4,k4,b5,m5,k5,b6,m6,k6,rfl,hb,hu⟩
             have hrr:=HR3.out.later hb
             have hlr:w.heap.size+1<W5.heap.size:=HR3.out.lt
             have HBU:Hid (Below W5.heap.size W5 u):=hb
             have HCU:Hid (qap u (.int .i64 y1) (.int .i64 y2) (.slice b3 m3 k3) (.slice b4 m4 k4) (.slice b5 m5 k5) (.slice b6 m6 k6) (qav d 0).2 (qaj W5 u)):=hu
             have t0:u.cell? ⟨w.heap.size+1,0,none⟩=some (.int .i64 0):=hrr.cell (i:=0) (by omega)
             have t1:u.cell? ⟨w.heap.size+1,1,none⟩=some (.int .i64 0):=hrr.cell (i:=1) (by omega)
             have t2:u.cell? ⟨w.heap.size+1,2,none⟩=some (.int .i64 0):=hrr.cell (i:=2) (by omega)
             have t3:u.cell? ⟨w.heap.size+1,3,none⟩=some (.slice none 0 0):=hrr.cell (i:=3) (by omega)
             have t4:u.cell? ⟨w.heap.size+1,4,none⟩=some (.slice none 0 0):=hrr.cell (i:=4) (by omega)
             have t5:u.cell? ⟨w.heap.size+1,5,none⟩=some (.slice none 0 0):=hrr.cell (i:=5) (by omega)
             have t6:u.cell? ⟨w.heap.size+1,6,none⟩=some (.slice none 0 0):=hrr.cell (i:=6) (by omega)
             have s0:=hrr.frozen 0
             have s1:=hrr.frozen 1
             have s2:=hrr.frozen 2
             have s3:=hrr.frozen 3
             have s4:=hrr.frozen 4
             have s5:=hrr.frozen 5
             have s6:=hrr.frozen 6
             clear hb hu hrr
             go_wp2
             exact bodyPost_ret (v:= .agg #[.int .i64 (qav d 0).1, .int .i64 y1, .int .i64 y2, .slice b3 m3 k3, .slice b4 m4 k4, .slice b5 m5 k5, .slice b6 m6 k6]) (by simp [results,Tryz.results16,go_sem,t0,t1,t2,t3,t4,t5,t6]) rfl (by rw [HE.out];exact qaN.pass HB3.out (by omega) hlr HBU.out HCU.out _ _ _ _ _ _ _)
           · have hqb: ((tz:Int)== (z:Int))=false:=by simp;omega
             have xHX0:=HX3.out 0 _ rfl
             have xHX1:=HX3.out 1 _ rfl
             go_wp2_with fail
             clear xHX0 xHX1 g7 t4
             refine (qgf W5 _ d _ _ _ _ HFX3.out z tz (by rw [HNN.out];exact hzn) (by rw [HNN.out];exact htzn) (HSIX.out tz)).mono ?_
             obtain ⟨ov,hov⟩: ∃ov,ovR d z tz=ov:= ⟨_,rfl⟩
             rw [hov]
             have HRV:Hid (qeX d j z tj (qbG d tj lnt) tz=ov):=by
              unfold Hid
              rw [HHT.out,←hov]
              exact qk1 HNW.out htzz
             clear hov
             rintro e w6 ⟨rfl,hb⟩
             have HB4:Hid (Below w.heap.size w w6):=HB3.out.trans (hb.mono HB3.out.size)
             have HX4:Hid (Bx w6 w.heap.size [.slice (some ⟨b0,o0,none⟩) nn c1, .slice a2 mm c2]):=HX3.out.later hb
             have HR4:Hid (qaa w6 (w.heap.size+1) 7 (cel qbm)):=HR3.out.later hb
             have HFX4:Hid (FsX w6 w.heap.size 0 d (some ⟨b0,o0,none⟩) c1 a2 c2):=HFX3.out.later hb
             have HF4:Hid (FsS w6 bI nn cI bD 20 cD d (fun c=>w.heap.size+2≤c∧c≠w5.heap.size)):=HF3.out.later hb
             have HO4:Hid (Bx w6 w5.heap.size [.slice (some ⟨bI,0,none⟩) nn cI, .slice (some ⟨bD,0,none⟩) 20 cD]):=HO3.out.later hb
             clear hb
             by_cases hov:ov=0
             rotate_left
             · have hovb: (ov !=0)=true:=by simpa using hov
               have HE:Hid (RES=qav d ov):=by
                unfold Hid;rw [HEQ.out]
                exact qdb HZ.out HTZ.out HRV.out (Or.inl hov)
               clear hov
               have xHX0:=HX4.out 0 _ rfl
               have xHX1:=HX4.out 1 _ rfl
               go_wp2_with fail
               clear xHX0 xHX1
               refine (HST.out _ ov HB4.out).mono ?_
               rintro e u ⟨y1,y2,b3,m3,k3,b4,m4,k4,b5,m5,k5,b6,m6,k6,rfl,hb,hu⟩
               have hrr:=HR4.out.later hb
               have hlr:w.heap.size+1<w6.heap.size:=HR4.out.lt
               have HBU:Hid (Below w6.heap.size w6 u):=hb
               have HCU:Hid (qap u (.int .i64 y1) (.int .i64 y2) (.slice b3 m3 k3) (.slice b4 m4 k4) (.slice b5 m5 k5) (.slice b6 m6 k6) (qav d ov).2 (qaj w6 u)):=hu
               have t0:u.cell? ⟨w.heap.size+1,0,none⟩=some (.int .i64 0):=hrr.cell (i:=0) (by omega)
               have t1:u.cell? ⟨w.heap.size+1,1,none⟩=some (.int .i64 0):=hrr.cell (i:=1) (by omega)
               have t2:u.cell? ⟨w.heap.size+1,2,none⟩=some (.int .i64 0):=hrr.cell (i:=2) (by omega)
               have t3:u.cell? ⟨w.heap.size+1,3,none⟩=some (.slice none 0 0):=hrr.cell (i:=3) (by omega)
               have t4:u.cell? ⟨w.heap.size+1,4,none⟩=some (.slice none 0 0):=hrr.cell (i:=4) (by omega)
               have t5:u.cell? ⟨w.heap.size+1,5,none⟩=some (.slice none 0 0):=hrr.cell (i:=5) (by omega)
               have t6:u.cell? ⟨w.heap.size+1,6,none⟩=some (.slice none 0 0):=hrr.cell (i:=6) (by omega)
               have s0:=hrr.frozen 0
               have s1:=hrr.frozen 1
               have s2:=hrr.frozen 2
               have s3:=hrr.frozen 3
               have s4:=hrr.frozen 4
               have s5:=hrr.frozen 5
               have s6:=hrr.frozen 6
               clear hb hu hrr
               go_wp2
               exact bodyPost_ret (v:= .agg #[.int .i64 (qav d ov).1, .int .i64 y1, .int .i64 y2, .slice b3 m3 k3, .slice b4 m4 k4, .slice b5 m5 k5, .slice b6 m6 k6]) (by simp [results,Tryz.results16,go_sem,t0,t1,t2,t3,t4,t5,t6]) rfl (by rw [HE.out];exact qaN.pass HB4.out (by omega) hlr HBU.out HCU.out _ _ _ _ _ _ _)
             · subst hov
               have HE:Hid (RES= (0,0,0, [], [],qdu d j lns tj lnt z)):=by
                unfold Hid;rw [HEQ.out]
                exact qg0 HZ.out HTZ.out HRV.out (fun hh=>htzz hh.2)
               have HRS:Hid (RenS d (qaq d tj lnt) j lns tj):=qpd (z:=z) HDJ.out HDT.out HZ.out HHJ.out (by rw [HTZ.out,Int.toNat_natCast];exact HRV.out) (by rw [HTZ.out,HZ.out];exact fun hh=>htzz (by have:=hh.2;omega))
               have HCD:Hid (qaq d tj lnt=qda d tj i2 tz):=by unfold Hid qaq;rw [if_pos HHT.out,HI2.out,HTZ.out,Int.toNat_natCast]
               have hne:=HF4.out.ne
               have hoI:w5.heap.size≠bI:=fun e=>hne.2.1.1.2 e.symm
               have hoD:w5.heap.size≠bD:=fun e=>hne.2.2.1.2 e.symm
               go_wp2_with fail
               refine (qgg w6 w5.heap.size bI nn cI bD cD d _ tj i2 tz (HO4.out 0 _ rfl) (HO4.out 1 _ rfl) HF4.out (fun hh=>hh.2 rfl) HNN.out HDT.out HG2.out HEZ.out htzn).mono ?_
               rw [←HCD.out]
               rintro e w7 ⟨rfl,hc7,hf7⟩
               have hw6:w5.heap.size<w6.heap.size:=HO4.out.lt
               have HB5:Hid (Below w.heap.size w w7):=HB4.out.trans (hc7.below HB4.out.size (fun b hb=>by have:=hne.2.1.1.1;have:=hne.2.2.1.1;omega))
               have HX5:Hid (Bx w7 w.heap.size [.slice (some ⟨b0,o0,none⟩) nn c1, .slice a2 mm c2]):=HX4.out.chg hc7 (fun e=>by have:=hne.2.1.1.1;have:=hne.2.2.1.1;omega)
               have HR5:Hid (qaa w7 (w.heap.size+1) 7 (cel qbm)):=HR4.out.block (hc7.block _ HR4.out.lt (fun e=>by have:=hne.2.1.1.1;have:=hne.2.2.1.1;omega))
               have HO5:Hid (Bx w7 w5.heap.size [.slice (some ⟨bI,0,none⟩) nn cI, .slice (some ⟨bD,0,none⟩) 20 cD]):=HO4.out.chg hc7 (fun h=>h.elim hoI hoD)
               have HF5:Hid (FsS w7 bI nn cI bD 20 cD (qaq d tj lnt) (fun c=>w.heap.size+2≤c∧c≠w5.heap.size)):=hf7.mono fun c hh=>by
                rcases hh with hh|hh
                · exact hh
                · exact ⟨by omega,by omega⟩
               clear hf7 hc7 hne hoI hoD hw6 htzz HCD HRV
               obtain ⟨D,hD⟩: ∃D,qaq d tj lnt=D:= ⟨_,rfl⟩
               have HRD:Hid (qdu d j lns tj lnt z=qaH (qaH D j (qaO (qac D j) (idxE (qac D j) lns))) tj (qbF (qac (qaH D j (qaO (qac D j) (idxE (qac D j) lns))) tj) (plcE (qac (qaH D j (qaO (qac D j) (idxE (qac D j) lns))) tj) lnt) (lnt,(z:Int)))):=by unfold Hid;rw [←hD];rfl
               rw [hD] at HF5 HRS
               clear hD
               obtain ⟨aB2,cB2,aE2,cE2,-,-,-,-,k42,hE2⟩:=FsR.five HF5.out.fs.reads (j:=j) (by rw [HRS.out.len];exact HRS.out.jlt)
               rw [Nat.zero_add] at k42
               obtain ⟨-,-,hAt2,-,-⟩:=hE2.cap
               have HA2:Hid (AtN w7 aE2 (qac D j).length (qac D j)):=hAt2
               have h62:=HRS.out.six
               have HI3:Hid (idxE (qac D j) lns< (qac D j).length):=HRS.out.has
               have ha8:at8 (qac D j) lns= ((idxE (qac D j) lns:Nat):Int):=by unfold at8;rw [if_pos HRS.out.has]
               clear hE2 hAt2
               obtain ⟨m2,hm2⟩: ∃m2,(qac D j).length=m2:= ⟨_,rfl⟩
               rw [hm2] at k42 HA2 h62
               have HM2:Hid ((qac D j).length=m2):=hm2
               clear hm2
               have xHX0:=HX5.out 0 _ rfl
               have xHX1:=HX5.out 1 _ rfl
               have xHO0:=HO5.out 0 _ rfl
               have xHO1:=HO5.out 1 _ rfl
               go_wp2_with fail
               clear xHX0 xHX1 xHO0 xHO1 k42
               refine (qbN w7 aE2 m2 cE2 (qac D j) lns HM2.out (by omega) HA2.out).mono ?_
               rw [ha8]
               clear ha8
               rintro e w' ⟨rfl,hw⟩
               subst w'
               go_wp2_with fail
               have hne:=HF5.out.ne
               have hoI:w5.heap.size≠bI:=fun e=>hne.2.1.1.2 e.symm
               have hw7:w5.heap.size<w7.heap.size:=HO5.out.lt
               refine (qbK w7 w5.heap.size bI nn cI bD cD D _ j _ (HO5.out 0 _ rfl) (HO5.out 1 _ rfl) HF5.out (by rw [HRS.out.len,HNN.out]) hjn h10 HRS.out.six HRS.out.blk HI3.out).mono ?_
               obtain ⟨D1,hD1⟩: ∃D1,qaH D j (qaO (qac D j) (idxE (qac D j) lns))=D1:= ⟨_,rfl⟩
               rw [hD1]
               rw [hD1] at HRD
               have HS2:Hid ((qac D1 tj).length≤6∧ (D1.1[tj]?.getD id0).2.2.2.1= []∧D1.1.length=nn):=by
                unfold Hid
                rw [←hD1]
                exact ⟨HRS.out.six2,HRS.out.blk2,by rw [qcl,HRS.out.len,HNN.out]⟩
               generalize ((qac D j)[idxE (qac D j) lns]?.getD en0).2=zz
               clear hD1
               rintro e w8 ⟨rfl,hc8,hf8⟩
               have HB6:Hid (Below w.heap.size w w8):=HB5.out.trans (hc8.below HB5.out.size (fun b hb=>by have:=hne.2.1.1.1;omega))
               have HX6:Hid (Bx w8 w.heap.size [.slice (some ⟨b0,o0,none⟩) nn c1, .slice a2 mm c2]):=HX5.out.chg hc8 (fun e=>by have:=hne.2.1.1.1;omega)
               have HR6:Hid (qaa w8 (w.heap.size+1) 7 (cel qbm)):=HR5.out.block (hc8.block _ HR5.out.lt (fun e=>by have:=hne.2.1.1.1;omega))
               have HO6:Hid (Bx w8 w5.heap.size [.slice (some ⟨bI,0,none⟩) nn cI, .slice (some ⟨bD,0,none⟩) 20 cD]):=HO5.out.chg hc8 hoI
               have HF6:Hid (FsS w8 bI nn cI bD 20 cD D1 (fun c=>w.heap.size+2≤c∧c≠w5.heap.size)):=hf8.mono fun c hh=>by
                rcases hh with hh|hh
                · exact hh
                · exact ⟨by omega,by omega⟩
               clear hf8 hc8
               obtain ⟨aB3,cB3,aE3,cE3,-,-,-,-,k43,hE3⟩:=FsR.five HF6.out.fs.reads (j:=tj) (by rw [HS2.out.2.2];exact htn)
               rw [Nat.zero_add] at k43
               obtain ⟨-,hc3,hAt3,-,hZ3⟩:=hE3.cap
               obtain ⟨_,_,_,_,-,-,-,-,-,-,jf,-⟩:=HF6.out.ino tj htn
               have c4f:=jf (tj*5+4)
               have HRD2:Hid (qdu d j lns tj lnt z=qaH D1 tj (qbF (qac D1 tj) (plcE (qac D1 tj) lnt) (lnt,(z:Int)))):=HRD.out
               have HPUT:Hid (∀W,Below w8.heap.size w8 W→Calls Tryz.prog 49 #[.slice aE3 (qac D1 tj).length cE3, .agg #[.string lnt, .int .i64 (z:Int)]] W fun e w'=> ∃v,e= .returned v∧WdE w' W.heap.size v (qbF (qac D1 tj) (plcE (qac D1 tj) lnt) (lnt,(z:Int)))∧Below W.heap.size W w'):=fun W hW=>qcR W aE3 _ cE3 (qac D1 tj) lnt (z:Int) rfl hc3 HS2.out.1 (hAt3.later hW)
               have HZ3:Hid (∀i:Nat,((qbF (qac D1 tj) (plcE (qac D1 tj) lnt) (lnt,(z:Int)))[i]?.getD en0).1.size≤maxLen):=qcj hZ3 (by have:=qaX HNT.out;unfold maxLen;omega)
               have hs2:=HS2.out.1
               clear HRD hE3 hAt3 hZ3 jf hne
               generalize qbF (qac D1 tj) (plcE (qac D1 tj) lnt) (lnt,(z:Int))=nes at*
               generalize (qac D1 tj).length=m3 at*
               have h0:=HO6.out 0 _ rfl
               have hlI:bI<w8.heap.size:=HF6.out.ne.2.1.2
               have hlo:w5.heap.size<w8.heap.size:=HO6.out.lt
               go_wp2_with fail
               go_region_law (first
                | (try go_simp;go_at_call 49;refine (HPUT.out w8.drew (Below.refl _ _).drew).mono ?_;rintro e w9 ⟨v,rfl,hw9,hb9⟩
                   obtain ⟨av,cv,rfl⟩:=hw9.shape
                   have HB9:Hid (Below w8.heap.size w8 w9):= (Below.refl _ _).drew.trans hb9
                   have HW9:Hid (WdE w9 w8.heap.size (.slice av nes.length cv) nes):=hw9
                   have b02:=cell_later HB9.out h0
                   have c42:=cell_later HB9.out k43
                   have c42f:= (HB9.out.frozen (p:= ⟨bI,tj*5+4,none⟩) hlI).trans c4f
                   clear hw9 hb9)
                |fail)
               all_goals
                have HFW:Hid (FsS (w9.setCell ⟨bI,tj*5+4,none⟩ (.slice av nes.length cv)) bI nn cI bD 20 cD (qdu d j lns tj lnt z) (fun c=>w.heap.size+2≤c∧c≠w5.heap.size)):=by
                 have:= ((HF6.out.boundF.later HB9.out).entS tj htn HS2.out.2.1 nes _ (HW9.out.own HZ3.out) (fun c hc=> ⟨fun hh=>by have:=hh.2;have:=hc.1;omega,hc.2⟩)).mono (F':=fun c=>w.heap.size+2≤c∧c≠w5.heap.size) fun c hh=>by
                  rcases hh with hh|hh
                  · exact hh.1
                  · exact ⟨by have:=hh.1;omega,by have:=hh.1;omega⟩
                 unfold Hid
                 rw [HRD2.out]
                 exact this
                have hC9:Chg (fun c=>c=bI) w8 (w9.setCell ⟨bI,tj*5+4,none⟩ (.slice av nes.length cv)):=Chg.set (F:=fun c=>c=bI) (Chg.of_below HB9.out) rfl _ _
                have hne:=HF6.out.ne
                have HB7:Hid (Below w.heap.size w (w9.setCell ⟨bI,tj*5+4,none⟩ (.slice av nes.length cv))):=HB6.out.trans (hC9.below HB6.out.size (fun b hb=>by have:=hne.2.1.1.1;omega))
                have HX7:Hid (Bx (w9.setCell ⟨bI,tj*5+4,none⟩ (.slice av nes.length cv)) w.heap.size [.slice (some ⟨b0,o0,none⟩) nn c1, .slice a2 mm c2]):=HX6.out.chg hC9 (fun e=>by have:=hne.2.1.1.1;omega)
                have HR7:Hid (qaa (w9.setCell ⟨bI,tj*5+4,none⟩ (.slice av nes.length cv)) (w.heap.size+1) 7 (cel qbm)):=HR6.out.block (hC9.block _ HR6.out.lt (fun e=>by have:=hne.2.1.1.1;omega))
                have HO7:Hid (Bx (w9.setCell ⟨bI,tj*5+4,none⟩ (.slice av nes.length cv)) w5.heap.size [.slice (some ⟨bI,0,none⟩) nn cI, .slice (some ⟨bD,0,none⟩) 20 cD]):=HO6.out.chg hC9 hoI
                clear hC9 b02 c42 c42f
                generalize (w9.setCell ⟨bI,tj*5+4,none⟩ (.slice av nes.length cv))=WX at*
                have q0:=HO7.out 0 _ rfl
                have q1:=HO7.out 1 _ rfl
                have hrr:=HR7.out
                have t0:WX.cell? ⟨w.heap.size+1,0,none⟩=some (.int .i64 0):=hrr.cell (i:=0) (by omega)
                have t1:WX.cell? ⟨w.heap.size+1,1,none⟩=some (.int .i64 0):=hrr.cell (i:=1) (by omega)
                have t2:WX.cell? ⟨w.heap.size+1,2,none⟩=some (.int .i64 0):=hrr.cell (i:=2) (by omega)
                have t3:WX.cell? ⟨w.heap.size+1,3,none⟩=some (.slice none 0 0):=hrr.cell (i:=3) (by omega)
                have t4:WX.cell? ⟨w.heap.size+1,4,none⟩=some (.slice none 0 0):=hrr.cell (i:=4) (by omega)
                have t5:WX.cell? ⟨w.heap.size+1,5,none⟩=some (.slice none 0 0):=hrr.cell (i:=5) (by omega)
                have t6:WX.cell? ⟨w.heap.size+1,6,none⟩=some (.slice none 0 0):=hrr.cell (i:=6) (by omega)
                have s0:=hrr.frozen 0
                have s1:=hrr.frozen 1
                have s2:=hrr.frozen 2
                have s3:=hrr.frozen 3
                have s4:=hrr.frozen 4
                have s5:=hrr.frozen 5
                have s6:=hrr.frozen 6
                clear hrr
                go_wp2
                exact bodyPost_ret (v:= .agg #[.int .i64 0, .int .i64 0, .int .i64 0, .slice none 0 0, .slice none 0 0, .slice (some ⟨bI,0,none⟩) nn cI, .slice (some ⟨bD,0,none⟩) 20 cD]) (by simp [results,Tryz.results16,go_sem,t0,t1,t2,t3,t4,t5,t6]) rfl (by rw [HE.out];exact qaN.put HB7.out (by omega) (qap.fs 0 0 (HFW.out.fsB.mono fun b hh=> ⟨by have:=hh.1;omega,hh.2,by have:=hh.1;omega⟩)) _ _ _ _ _ _ _)
         · have hht :qbG d tj lnt=false:=by unfold qbG;simpa using hg
           have ha8:at8 (qac d tj) lnt= -1:=by unfold at8;rw [if_neg hg]
           rw [ha8]
           have HHT:Hid (qbG d tj lnt=false):=hht
           have HCD:Hid (qaq d tj lnt=d):=by unfold Hid qaq;rw [hht];rfl
           clear hht ha8 hg
           by_cases htj:tj=j
           · have htb: ((tj:Int) != (j:Int))=false:=by simp;omega
             have HRV:Hid (qeX d j z tj (qbG d tj lnt) tz=0):=by
              unfold Hid
              rw [HHT.out,qeY HNW.out]
              exact if_neg (fun hh=>hh.1 htj)
             have HE:Hid (RES= (0,0,0, [], [],qdu d j lns tj lnt z)):=by
              unfold Hid;rw [HEQ.out]
              exact qg0 HZ.out HTZ.out HRV.out (fun hh=>by have:=hh.1;rw [HHT.out] at this;exact absurd this (by decide))
             have HRS:Hid (RenS d (qaq d tj lnt) j lns tj):=qpd (z:=z) HDJ.out HDT.out HZ.out HHJ.out (by rw [HTZ.out,Int.toNat_natCast];exact HRV.out) (fun hh=>by have:=hh.1;rw [HHT.out] at this;exact absurd this (by decide))
             rw [←HCD.out] at HF3
             clear HRV HCD
             clear htj t4
             obtain ⟨D,hD⟩: ∃D,qaq d tj lnt=D:= ⟨_,rfl⟩
             have HRD:Hid (qdu d j lns tj lnt z=qaH (qaH D j (qaO (qac D j) (idxE (qac D j) lns))) tj (qbF (qac (qaH D j (qaO (qac D j) (idxE (qac D j) lns))) tj) (plcE (qac (qaH D j (qaO (qac D j) (idxE (qac D j) lns))) tj) lnt) (lnt,(z:Int)))):=by unfold Hid;rw [←hD];rfl
             rw [hD] at HF3 HRS
             clear hD
             obtain ⟨aB2,cB2,aE2,cE2,-,-,-,-,k42,hE2⟩:=FsR.five HF3.out.fs.reads (j:=j) (by rw [HRS.out.len];exact HRS.out.jlt)
             rw [Nat.zero_add] at k42
             obtain ⟨-,-,hAt2,-,-⟩:=hE2.cap
             have HA2:Hid (AtN W5 aE2 (qac D j).length (qac D j)):=hAt2
             have h62:=HRS.out.six
             have HI3:Hid (idxE (qac D j) lns< (qac D j).length):=HRS.out.has
             have ha8:at8 (qac D j) lns= ((idxE (qac D j) lns:Nat):Int):=by unfold at8;rw [if_pos HRS.out.has]
             clear hE2 hAt2
             obtain ⟨m2,hm2⟩: ∃m2,(qac D j).length=m2:= ⟨_,rfl⟩
             rw [hm2] at k42 HA2 h62
             have HM2:Hid ((qac D j).length=m2):=hm2
             clear hm2
             have xHX0:=HX3.out 0 _ rfl
             have xHX1:=HX3.out 1 _ rfl
             have xHO0:=HO3.out 0 _ rfl
             have xHO1:=HO3.out 1 _ rfl
             go_wp2_with fail
             clear xHX0 xHX1 xHO0 xHO1 k42
             refine (qbN W5 aE2 m2 cE2 (qac D j) lns HM2.out (by omega) HA2.out).mono ?_
             rw [ha8]
             clear ha8
             rintro e w' ⟨rfl,hw⟩
             subst w'
             go_wp2_with fail
             have hne:=HF3.out.ne
             have hoI:w5.heap.size≠bI:=fun e=>hne.2.1.1.2 e.symm
             have hw7:w5.heap.size<W5.heap.size:=HO3.out.lt
             refine (qbK W5 w5.heap.size bI nn cI bD cD D _ j _ (HO3.out 0 _ rfl) (HO3.out 1 _ rfl) HF3.out (by rw [HRS.out.len,HNN.out]) hjn h10 HRS.out.six HRS.out.blk HI3.out).mono ?_
             obtain ⟨D1,hD1⟩: ∃D1,qaH D j (qaO (qac D j) (idxE (qac D j) lns))=D1:= ⟨_,rfl⟩
             rw [hD1]
             rw [hD1] at HRD
             have HS2:Hid ((qac D1 tj).length≤6∧ (D1.1[tj]?.getD id0).2.2.2.1= []∧D1.1.length=nn):=by
              unfold Hid
              rw [←hD1]
              exact ⟨HRS.out.six2,HRS.out.blk2,by rw [qcl,HRS.out.len,HNN.out]⟩
             generalize ((qac D j)[idxE (qac D j) lns]?.getD en0).2=zz
             clear hD1
             rintro e w8 ⟨rfl,hc8,hf8⟩
             have HB4:Hid (Below w.heap.size w w8):=HB3.out.trans (hc8.below HB3.out.size (fun b hb=>by have:=hne.2.1.1.1;omega))
             have HX4:Hid (Bx w8 w.heap.size [.slice (some ⟨b0,o0,none⟩) nn c1, .slice a2 mm c2]):=HX3.out.chg hc8 (fun e=>by have:=hne.2.1.1.1;omega)
             have HR4:Hid (qaa w8 (w.heap.size+1) 7 (cel qbm)):=HR3.out.block (hc8.block _ HR3.out.lt (fun e=>by have:=hne.2.1.1.1;omega))
             have HO4:Hid (Bx w8 w5.heap.size [.slice (some ⟨bI,0,none⟩) nn cI, .slice (some ⟨bD,0,none⟩) 20 cD]):=HO3.out.chg hc8 hoI
             have HF4:Hid (FsS w8 bI nn cI bD 20 cD D1 (fun c=>w.heap.size+2≤c∧c≠w5.heap.size)):=hf8.mono fun c hh=>by
              rcases hh with hh|hh
              · exact hh
              · exact ⟨by omega,by omega⟩
             clear hf8 hc8
             obtain ⟨aB3,cB3,aE3,cE3,-,-,-,-,k43,hE3⟩:=FsR.five HF4.out.fs.reads (j:=tj) (by rw [HS2.out.2.2];exact htn)
             rw [Nat.zero_add] at k43
             obtain ⟨-,hc3,hAt3,-,hZ3⟩:=hE3.cap
             obtain ⟨_,_,_,_,-,-,-,-,-,-,jf,-⟩:=HF4.out.ino tj htn
             have c4f:=jf (tj*5+4)
             have HRD2:Hid (qdu d j lns tj lnt z=qaH D1 tj (qbF (qac D1 tj) (plcE (qac D1 tj) lnt) (lnt,(z:Int)))):=HRD.out
             have HPUT:Hid (∀W,Below w8.heap.size w8 W→Calls Tryz.prog 49 #[.slice aE3 (qac D1 tj).length cE3, .agg #[.string lnt, .int .i64 (z:Int)]] W fun e w'=> ∃v,e= .returned v∧WdE w' W.heap.size v (qbF (qac D1 tj) (plcE (qac D1 tj) lnt) (lnt,(z:Int)))∧Below W.heap.size W w'):=fun W hW=>qcR W aE3 _ cE3 (qac D1 tj) lnt (z:Int) rfl hc3 HS2.out.1 (hAt3.later hW)
             have HZ3:Hid (∀i:Nat,((qbF (qac D1 tj) (plcE (qac D1 tj) lnt) (lnt,(z:Int)))[i]?.getD en0).1.size≤maxLen):=qcj hZ3 (by have:=qaX HNT.out;unfold maxLen;omega)
             have hs2:=HS2.out.1
             clear HRD hE3 hAt3 hZ3 jf hne
             generalize qbF (qac D1 tj) (plcE (qac D1 tj) lnt) (lnt,(z:Int))=nes at*
             generalize (qac D1 tj).length=m3 at*
             have h0:=HO4.out 0 _ rfl
             have hlI:bI<w8.heap.size:=HF4.out.ne.2.1.2
             have hlo:w5.heap.size<w8.heap.size:=HO4.out.lt
             go_wp2_with fail
             go_region_law (first
              | (try go_simp;go_at_call 49;refine (HPUT.out w8.drew (Below.refl _ _).drew).mono ?_;rintro e w9 ⟨v,rfl,hw9,hb9⟩
                 obtain ⟨av,cv,rfl⟩:=hw9.shape
                 have HB9:Hid (Below w8.heap.size w8 w9):= (Below.refl _ _).drew.trans hb9
                 have HW9:Hid (WdE w9 w8.heap.size (.slice av nes.length cv) nes):=hw9
                 have b02:=cell_later HB9.out h0
                 have c42:=cell_later HB9.out k43
                 have c42f:= (HB9.out.frozen (p:= ⟨bI,tj*5+4,none⟩) hlI).trans c4f
                 clear hw9 hb9)
              |fail)
             all_goals
              have HFW:Hid (FsS (w9.setCell ⟨bI,tj*5+4,none⟩ (.slice av nes.length cv)) bI nn cI bD 20 cD (qdu d j lns tj lnt z) (fun c=>w.heap.size+2≤c∧c≠w5.heap.size)):=by
               have:= ((HF4.out.boundF.later HB9.out).entS tj htn HS2.out.2.1 nes _ (HW9.out.own HZ3.out) (fun c hc=> ⟨fun hh=>by have:=hh.2;have:=hc.1;omega,hc.2⟩)).mono (F':=fun c=>w.heap.size+2≤c∧c≠w5.heap.size) fun c hh=>by
                rcases hh with hh|hh
                · exact hh.1
                · exact ⟨by have:=hh.1;omega,by have:=hh.1;omega⟩
               unfold Hid
               rw [HRD2.out]
               exact this
              have hC9:Chg (fun c=>c=bI) w8 (w9.setCell ⟨bI,tj*5+4,none⟩ (.slice av nes.length cv)):=Chg.set (F:=fun c=>c=bI) (Chg.of_below HB9.out) rfl _ _
              have hne:=HF4.out.ne
              have HB5:Hid (Below w.heap.size w (w9.setCell ⟨bI,tj*5+4,none⟩ (.slice av nes.length cv))):=HB4.out.trans (hC9.below HB4.out.size (fun b hb=>by have:=hne.2.1.1.1;omega))
              have HX5:Hid (Bx (w9.setCell ⟨bI,tj*5+4,none⟩ (.slice av nes.length cv)) w.heap.size [.slice (some ⟨b0,o0,none⟩) nn c1, .slice a2 mm c2]):=HX4.out.chg hC9 (fun e=>by have:=hne.2.1.1.1;omega)
              have HR5:Hid (qaa (w9.setCell ⟨bI,tj*5+4,none⟩ (.slice av nes.length cv)) (w.heap.size+1) 7 (cel qbm)):=HR4.out.block (hC9.block _ HR4.out.lt (fun e=>by have:=hne.2.1.1.1;omega))
              have HO5:Hid (Bx (w9.setCell ⟨bI,tj*5+4,none⟩ (.slice av nes.length cv)) w5.heap.size [.slice (some ⟨bI,0,none⟩) nn cI, .slice (some ⟨bD,0,none⟩) 20 cD]):=HO4.out.chg hC9 hoI
              clear hC9 b02 c42 c42f
              generalize (w9.setCell ⟨bI,tj*5+4,none⟩ (.slice av nes.length cv))=WX at*
              have q0:=HO5.out 0 _ rfl
              have q1:=HO5.out 1 _ rfl
              have hrr:=HR5.out
              have t0:WX.cell? ⟨w.heap.size+1,0,none⟩=some (.int .i64 0):=hrr.cell (i:=0) (by omega)
              have t1:WX.cell? ⟨w.heap.size+1,1,none⟩=some (.int .i64 0):=hrr.cell (i:=1) (by omega)
              have t2:WX.cell? ⟨w.heap.size+1,2,none⟩=some (.int .i64 0):=hrr.cell (i:=2) (by omega)
              have t3:WX.cell? ⟨w.heap.size+1,3,none⟩=some (.slice none 0 0):=hrr.cell (i:=3) (by omega)
              have t4:WX.cell? ⟨w.heap.size+1,4,none⟩=some (.slice none 0 0):=hrr.cell (i:=4) (by omega)
              have t5:WX.cell? ⟨w.heap.size+1,5,none⟩=some (.slice none 0 0):=hrr.cell (i:=5) (by omega)
              have t6:WX.cell? ⟨w.heap.size+1,6,none⟩=some (.slice none 0 0):=hrr.cell (i:=6) (by omega)
              have s0:=hrr.frozen 0
              have s1:=hrr.frozen 1
              have s2:=hrr.frozen 2
              have s3:=hrr.frozen 3
              have s4:=hrr.frozen 4
              have s5:=hrr.frozen 5
              have s6:=hrr.frozen 6
              clear hrr
              go_wp2
              exact bodyPost_ret (v:= .agg #[.int .i64 0, .int .i64 0, .int .i64 0, .slice none 0 0, .slice none 0 0, .slice (some ⟨bI,0,none⟩) nn cI, .slice (some ⟨bD,0,none⟩) 20 cD]) (by simp [results,Tryz.results16,go_sem,t0,t1,t2,t3,t4,t5,t6]) rfl (by rw [HE.out];exact qaN.put HB5.out (by omega) (qap.fs 0 0 (HFW.out.fsB.mono fun b hh=> ⟨by have:=hh.1;omega,hh.2,by have:=hh.1;omega⟩)) _ _ _ _ _ _ _)
           · have htb: ((tj:Int) != (j:Int))=true:=by simp;omega
             by_cases hsx:tm=6
             · have hsb:decide ((6:Int)≤ (tm:Int))=true:=by simp;omega
               have hsc:decide (6≤tm)=true:=by simp;omega
               have HE:Hid (RES=qav d 2):=by
                unfold Hid;rw [HEQ.out]
                exact qdb HZ.out HTZ.out (by rw [HHT.out,qeY HNW.out];exact if_pos ⟨htj,by rw [HTM.out];exact hsx⟩) (Or.inl (by decide))
               clear hsx htj
               have xHX0:=HX3.out 0 _ rfl
               have xHX1:=HX3.out 1 _ rfl
               go_wp2_with fail
               clear xHX0 xHX1
               refine (HST.out _ 2 HB3.out).mono ?_
               rintro e u ⟨y1,y2,b3,m3,k3,b4,m4,k4,b5,m5,k5,b6,m6,k6,rfl,hb,hu⟩
               have hrr:=HR3.out.later hb
               have hlr:w.heap.size+1<W5.heap.size:=HR3.out.lt
               have HBU:Hid (Below W5.heap.size W5 u):=hb
               have HCU:Hid (qap u (.int .i64 y1) (.int .i64 y2) (.slice b3 m3 k3) (.slice b4 m4 k4) (.slice b5 m5 k5) (.slice b6 m6 k6) (qav d 2).2 (qaj W5 u)):=hu
               have t0:u.cell? ⟨w.heap.size+1,0,none⟩=some (.int .i64 0):=hrr.cell (i:=0) (by omega)
               have t1:u.cell? ⟨w.heap.size+1,1,none⟩=some (.int .i64 0):=hrr.cell (i:=1) (by omega)
               have t2:u.cell? ⟨w.heap.size+1,2,none⟩=some (.int .i64 0):=hrr.cell (i:=2) (by omega)
               have t3:u.cell? ⟨w.heap.size+1,3,none⟩=some (.slice none 0 0):=hrr.cell (i:=3) (by omega)
               have t4:u.cell? ⟨w.heap.size+1,4,none⟩=some (.slice none 0 0):=hrr.cell (i:=4) (by omega)
               have t5:u.cell? ⟨w.heap.size+1,5,none⟩=some (.slice none 0 0):=hrr.cell (i:=5) (by omega)
               have t6:u.cell? ⟨w.heap.size+1,6,none⟩=some (.slice none 0 0):=hrr.cell (i:=6) (by omega)
               have s0:=hrr.frozen 0
               have s1:=hrr.frozen 1
               have s2:=hrr.frozen 2
               have s3:=hrr.frozen 3
               have s4:=hrr.frozen 4
               have s5:=hrr.frozen 5
               have s6:=hrr.frozen 6
               clear hb hu hrr
               go_wp2
               exact bodyPost_ret (v:= .agg #[.int .i64 (qav d 2).1, .int .i64 y1, .int .i64 y2, .slice b3 m3 k3, .slice b4 m4 k4, .slice b5 m5 k5, .slice b6 m6 k6]) (by simp [results,Tryz.results16,go_sem,t0,t1,t2,t3,t4,t5,t6]) rfl (by rw [HE.out];exact qaN.pass HB3.out (by omega) hlr HBU.out HCU.out _ _ _ _ _ _ _)
             · have hsb:decide ((6:Int)≤ (tm:Int))=false:=by simp;omega
               have hsc:decide (6≤tm)=false:=by simp;omega
               have HRV:Hid (qeX d j z tj (qbG d tj lnt) tz=0):=by
                unfold Hid
                rw [HHT.out,qeY HNW.out]
                exact if_neg (fun hh=>hsx (by rw [←HTM.out];exact hh.2))
               have HE:Hid (RES= (0,0,0, [], [],qdu d j lns tj lnt z)):=by
                unfold Hid;rw [HEQ.out]
                exact qg0 HZ.out HTZ.out HRV.out (fun hh=>by have:=hh.1;rw [HHT.out] at this;exact absurd this (by decide))
               have HRS:Hid (RenS d (qaq d tj lnt) j lns tj):=qpd (z:=z) HDJ.out HDT.out HZ.out HHJ.out (by rw [HTZ.out,Int.toNat_natCast];exact HRV.out) (fun hh=>by have:=hh.1;rw [HHT.out] at this;exact absurd this (by decide))
               rw [←HCD.out] at HF3
               clear HRV HCD
               clear hsx htj
               obtain ⟨D,hD⟩: ∃D,qaq d tj lnt=D:= ⟨_,rfl⟩
               have HRD:Hid (qdu d j lns tj lnt z=qaH (qaH D j (qaO (qac D j) (idxE (qac D j) lns))) tj (qbF (qac (qaH D j (qaO (qac D j) (idxE (qac D j) lns))) tj) (plcE (qac (qaH D j (qaO (qac D j) (idxE (qac D j) lns))) tj) lnt) (lnt,(z:Int)))):=by unfold Hid;rw [←hD];rfl
               rw [hD] at HF3 HRS
               clear hD
               obtain ⟨aB2,cB2,aE2,cE2,-,-,-,-,k42,hE2⟩:=FsR.five HF3.out.fs.reads (j:=j) (by rw [HRS.out.len];exact HRS.out.jlt)
               rw [Nat.zero_add] at k42
               obtain ⟨-,-,hAt2,-,-⟩:=hE2.cap
               have HA2:Hid (AtN W5 aE2 (qac D j).length (qac D j)):=hAt2
               have h62:=HRS.out.six
               have HI3:Hid (idxE (qac D j) lns< (qac D j).length):=HRS.out.has
               have ha8:at8 (qac D j) lns= ((idxE (qac D j) lns:Nat):Int):=by unfold at8;rw [if_pos HRS.out.has]
               clear hE2 hAt2
               obtain ⟨m2,hm2⟩: ∃m2,(qac D j).length=m2:= ⟨_,rfl⟩
               rw [hm2] at k42 HA2 h62
               have HM2:Hid ((qac D j).length=m2):=hm2
               clear hm2
               have xHX0:=HX3.out 0 _ rfl
               have xHX1:=HX3.out 1 _ rfl
               have xHO0:=HO3.out 0 _ rfl
               have xHO1:=HO3.out 1 _ rfl
               go_wp2_with fail
               clear xHX0 xHX1 xHO0 xHO1 k42
               refine (qbN W5 aE2 m2 cE2 (qac D j) lns HM2.out (by omega) HA2.out).mono ?_
               rw [ha8]
               clear ha8
               rintro e w' ⟨rfl,hw⟩
               subst w'
               go_wp2_with fail
               have hne:=HF3.out.ne
               have hoI:w5.heap.size≠bI:=fun e=>hne.2.1.1.2 e.symm
               have hw7:w5.heap.size<W5.heap.size:=HO3.out.lt
               refine (qbK W5 w5.heap.size bI nn cI bD cD D _ j _ (HO3.out 0 _ rfl) (HO3.out 1 _ rfl) HF3.out (by rw [HRS.out.len,HNN.out]) hjn h10 HRS.out.six HRS.out.blk HI3.out).mono ?_
               obtain ⟨D1,hD1⟩: ∃D1,qaH D j (qaO (qac D j) (idxE (qac D j) lns))=D1:= ⟨_,rfl⟩
               rw [hD1]
               rw [hD1] at HRD
               have HS2:Hid ((qac D1 tj).length≤6∧ (D1.1[tj]?.getD id0).2.2.2.1= []∧D1.1.length=nn):=by
                unfold Hid
                rw [←hD1]
                exact ⟨HRS.out.six2,HRS.out.blk2,by rw [qcl,HRS.out.len,HNN.out]⟩
               generalize ((qac D j)[idxE (qac D j) lns]?.getD en0).2=zz
               clear hD1
               rintro e w8 ⟨rfl,hc8,hf8⟩
               have HB4:Hid (Below w.heap.size w w8):=HB3.out.trans (hc8.below HB3.out.size (fun b hb=>by have:=hne.2.1.1.1;omega))
               have HX4:Hid (Bx w8 w.heap.size [.slice (some ⟨b0,o0,none⟩) nn c1, .slice a2 mm c2]):=HX3.out.chg hc8 (fun e=>by have:=hne.2.1.1.1;omega)
               have HR4:Hid (qaa w8 (w.heap.size+1) 7 (cel qbm)):=HR3.out.block (hc8.block _ HR3.out.lt (fun e=>by have:=hne.2.1.1.1;omega))
               have HO4:Hid (Bx w8 w5.heap.size [.slice (some ⟨bI,0,none⟩) nn cI, .slice (some ⟨bD,0,none⟩) 20 cD]):=HO3.out.chg hc8 hoI
               have HF4:Hid (FsS w8 bI nn cI bD 20 cD D1 (fun c=>w.heap.size+2≤c∧c≠w5.heap.size)):=hf8.mono fun c hh=>by
                rcases hh with hh|hh
                · exact hh
                · exact ⟨by omega,by omega⟩
               clear hf8 hc8
               obtain ⟨aB3,cB3,aE3,cE3,-,-,-,-,k43,hE3⟩:=FsR.five HF4.out.fs.reads (j:=tj) (by rw [HS2.out.2.2];exact htn)
               rw [Nat.zero_add] at k43
               obtain ⟨-,hc3,hAt3,-,hZ3⟩:=hE3.cap
               obtain ⟨_,_,_,_,-,-,-,-,-,-,jf,-⟩:=HF4.out.ino tj htn
               have c4f:=jf (tj*5+4)
               have HRD2:Hid (qdu d j lns tj lnt z=qaH D1 tj (qbF (qac D1 tj) (plcE (qac D1 tj) lnt) (lnt,(z:Int)))):=HRD.out
               have HPUT:Hid (∀W,Below w8.heap.size w8 W→Calls Tryz.prog 49 #[.slice aE3 (qac D1 tj).length cE3, .agg #[.string lnt, .int .i64 (z:Int)]] W fun e w'=> ∃v,e= .returned v∧WdE w' W.heap.size v (qbF (qac D1 tj) (plcE (qac D1 tj) lnt) (lnt,(z:Int)))∧Below W.heap.size W w'):=fun W hW=>qcR W aE3 _ cE3 (qac D1 tj) lnt (z:Int) rfl hc3 HS2.out.1 (hAt3.later hW)
               have HZ3:Hid (∀i:Nat,((qbF (qac D1 tj) (plcE (qac D1 tj) lnt) (lnt,(z:Int)))[i]?.getD en0).1.size≤maxLen):=qcj hZ3 (by have:=qaX HNT.out;unfold maxLen;omega)
               have hs2:=HS2.out.1
               clear HRD hE3 hAt3 hZ3 jf hne
               generalize qbF (qac D1 tj) (plcE (qac D1 tj) lnt) (lnt,(z:Int))=nes at*
               generalize (qac D1 tj).length=m3 at*
               have h0:=HO4.out 0 _ rfl
               have hlI:bI<w8.heap.size:=HF4.out.ne.2.1.2
               have hlo:w5.heap.size<w8.heap.size:=HO4.out.lt
               go_wp2_with fail
               go_region_law (first
                | (try go_simp;go_at_call 49;refine (HPUT.out w8.drew (Below.refl _ _).drew).mono ?_;rintro e w9 ⟨v,rfl,hw9,hb9⟩
                   obtain ⟨av,cv,rfl⟩:=hw9.shape
                   have HB9:Hid (Below w8.heap.size w8 w9):= (Below.refl _ _).drew.trans hb9
                   have HW9:Hid (WdE w9 w8.heap.size (.slice av nes.length cv) nes):=hw9
                   have b02:=cell_later HB9.out h0
                   have c42:=cell_later HB9.out k43
                   have c42f:= (HB9.out.frozen (p:= ⟨bI,tj*5+4,none⟩) hlI).trans c4f
                   clear hw9 hb9)
                |fail)
               all_goals
                have HFW:Hid (FsS (w9.setCell ⟨bI,tj*5+4,none⟩ (.slice av nes.length cv)) bI nn cI bD 20 cD (qdu d j lns tj lnt z) (fun c=>w.heap.size+2≤c∧c≠w5.heap.size)):=by
                 have:= ((HF4.out.boundF.later HB9.out).entS tj htn HS2.out.2.1 nes _ (HW9.out.own HZ3.out) (fun c hc=> ⟨fun hh=>by have:=hh.2;have:=hc.1;omega,hc.2⟩)).mono (F':=fun c=>w.heap.size+2≤c∧c≠w5.heap.size) fun c hh=>by
                  rcases hh with hh|hh
                  · exact hh.1
                  · exact ⟨by have:=hh.1;omega,by have:=hh.1;omega⟩
                 unfold Hid
                 rw [HRD2.out]
                 exact this
                have hC9:Chg (fun c=>c=bI) w8 (w9.setCell ⟨bI,tj*5+4,none⟩ (.slice av nes.length cv)):=Chg.set (F:=fun c=>c=bI) (Chg.of_below HB9.out) rfl _ _
                have hne:=HF4.out.ne
                have HB5:Hid (Below w.heap.size w (w9.setCell ⟨bI,tj*5+4,none⟩ (.slice av nes.length cv))):=HB4.out.trans (hC9.below HB4.out.size (fun b hb=>by have:=hne.2.1.1.1;omega))
                have HX5:Hid (Bx (w9.setCell ⟨bI,tj*5+4,none⟩ (.slice av nes.length cv)) w.heap.size [.slice (some ⟨b0,o0,none⟩) nn c1, .slice a2 mm c2]):=HX4.out.chg hC9 (fun e=>by have:=hne.2.1.1.1;omega)
                have HR5:Hid (qaa (w9.setCell ⟨bI,tj*5+4,none⟩ (.slice av nes.length cv)) (w.heap.size+1) 7 (cel qbm)):=HR4.out.block (hC9.block _ HR4.out.lt (fun e=>by have:=hne.2.1.1.1;omega))
                have HO5:Hid (Bx (w9.setCell ⟨bI,tj*5+4,none⟩ (.slice av nes.length cv)) w5.heap.size [.slice (some ⟨bI,0,none⟩) nn cI, .slice (some ⟨bD,0,none⟩) 20 cD]):=HO4.out.chg hC9 hoI
                clear hC9 b02 c42 c42f
                generalize (w9.setCell ⟨bI,tj*5+4,none⟩ (.slice av nes.length cv))=WX at*
                have q0:=HO5.out 0 _ rfl
                have q1:=HO5.out 1 _ rfl
                have hrr:=HR5.out
                have t0:WX.cell? ⟨w.heap.size+1,0,none⟩=some (.int .i64 0):=hrr.cell (i:=0) (by omega)
                have t1:WX.cell? ⟨w.heap.size+1,1,none⟩=some (.int .i64 0):=hrr.cell (i:=1) (by omega)
                have t2:WX.cell? ⟨w.heap.size+1,2,none⟩=some (.int .i64 0):=hrr.cell (i:=2) (by omega)
                have t3:WX.cell? ⟨w.heap.size+1,3,none⟩=some (.slice none 0 0):=hrr.cell (i:=3) (by omega)
                have t4:WX.cell? ⟨w.heap.size+1,4,none⟩=some (.slice none 0 0):=hrr.cell (i:=4) (by omega)
                have t5:WX.cell? ⟨w.heap.size+1,5,none⟩=some (.slice none 0 0):=hrr.cell (i:=5) (by omega)
                have t6:WX.cell? ⟨w.heap.size+1,6,none⟩=some (.slice none 0 0):=hrr.cell (i:=6) (by omega)
                have s0:=hrr.frozen 0
                have s1:=hrr.frozen 1
                have s2:=hrr.frozen 2
                have s3:=hrr.frozen 3
                have s4:=hrr.frozen 4
                have s5:=hrr.frozen 5
                have s6:=hrr.frozen 6
                clear hrr
                go_wp2
                exact bodyPost_ret (v:= .agg #[.int .i64 0, .int .i64 0, .int .i64 0, .slice none 0 0, .slice none 0 0, .slice (some ⟨bI,0,none⟩) nn cI, .slice (some ⟨bD,0,none⟩) 20 cD]) (by simp [results,Tryz.results16,go_sem,t0,t1,t2,t3,t4,t5,t6]) rfl (by rw [HE.out];exact qaN.put HB5.out (by omega) (qap.fs 0 0 (HFW.out.fsB.mono fun b hh=> ⟨by have:=hh.1;omega,hh.2,by have:=hh.1;omega⟩)) _ _ _ _ _ _ _)
end Go.Proofs.YthnmlipnoajmkaaGreatDoor
