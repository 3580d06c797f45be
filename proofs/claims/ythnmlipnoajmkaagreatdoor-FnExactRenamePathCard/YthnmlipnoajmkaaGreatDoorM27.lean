/- The program's RenamePath. What stands where something is renamed to,in the specification:l10Over,l10Take. IsWithin,of the specification. -/
import Derived.Test.YthnmlipnoajmkaaGreatDoorM26
import Derived.Test.YthnmlipnoajmkaaGreatDoorM25
import Derived.Deep.QuietTactic
import Derived.BigQuiet
import Derived.Test.YthnmlipnoajmkaaGreatDoorM18
import Derived.Test.YthnmlipnoajmkaaGreatDoorM14
namespace Go.Proofs.YthnmlipnoajmkaaGreatDoor
open Go.RowKit
set_option maxRecDepth 100000

theorem qnC {d:FD} {s:ByteArray} (hf:fsF d=0) (h: (qaS d s).2=0): ∃j:Nat,(qaS d s).1.1= (j:Int)∧ (qaS d s).1.2.1=qaP s∧qbG d j (qaP s)= (qaS d s).1.2.2.1∧atE d j (qaP s)= (qaS d s).1.2.2.2∧ (qas d s).1=0∧ (qas d s).2= (j:Int)∧qdG d (j:Int)=0∧DirS d j∧qal (qaP s)=0:=by
 unfold qaS at h ⊢
 by_cases h0: (qas d s).1=0
 · rw [if_pos h0]
   obtain ⟨j,h1,h2,h3,h4⟩:=qfz hf h0
   rw [h1,Int.toNat_natCast]
   exact ⟨j,rfl,rfl,rfl,rfl,h0,rfl,h2,h3,h4⟩
 · rw [if_neg h0] at h
   exact absurd h h0
theorem qnD {d:FD} {s:ByteArray} (h: ¬ (qaS d s).2=0): (qas d s).1= (qaS d s).2:=by
 unfold qaS at h ⊢
 by_cases h0: (qas d s).1=0
 · rw [if_pos h0] at h;exact absurd rfl h
 · rw [if_neg h0]
theorem qnE {d:FD} {j:Nat} (h:DirS d j) (s:ByteArray): ∃z:Nat,atE d j s= (z:Int)∧z<d.1.length:=by
 by_cases hh:qbG d j s=true
 · obtain ⟨z,h1,h2,-⟩:=qgc h hh
   exact ⟨z,h1,h2⟩
 · refine ⟨0, ?_,by have:=h.lt;omega⟩
   unfold atE
   rw [if_neg (by unfold qbG at hh;simpa using hh)]
   rfl
set_option maxHeartbeats 12800000 in
theorem qk0 (w:World) (a1:Option Addr) (n1 c1:Nat) (a2:Option Addr) (n2 c2:Nat) (d:FD) (s t:ByteArray) (h:FsR w (.slice a1 n1 c1) (.slice a2 n2 c2) d) (hs:sizeFs d≤1048576) (hl:s.size≤1048576) (ht:t.size≤1048576) (hgl:Gl w):
 Calls Tryz.prog 7 #[.agg #[.slice a1 n1 c1, .slice a2 n2 c2], .string s, .string t] w (qaN w (qny d s t)):=by
 have HF:Hid (∀W,Below w.heap.size w W→Calls Tryz.prog 19 #[.agg #[.slice a1 n1 c1, .slice a2 n2 c2]] W fun e w'=>e= .returned (.int .i64 (fsF d))∧Below W.heap.size W w'):=fun W hW=>qkh W _ _ _ _ _ _ d (h.later hW) hs
 have HRR:Hid (qny d s t=if fsF d=0 then qlV d s t else qnQ (fsF d)):=rfl
 obtain ⟨RES,hRES⟩: ∃r,qny d s t=r:= ⟨_,rfl⟩
 have HRES:Hid (qny d s t=RES):=hRES
 rw [hRES]
 clear hRES
 have HB0:Hid (Below w.heap.size w ((w.alloc (.cells #[.slice a1 n1 c1, .slice a2 n2 c2] 31)).alloc (.cells #[.int .i64 0, .int .i64 0, .int .i64 0, .slice none 0 0, .slice none 0 0, .slice none 0 0, .slice none 0 0] 33))):=qam _ _ _
 have HX0:Hid (Bx ((w.alloc (.cells #[.slice a1 n1 c1, .slice a2 n2 c2] 31)).alloc (.cells #[.int .i64 0, .int .i64 0, .int .i64 0, .slice none 0 0, .slice none 0 0, .slice none 0 0, .slice none 0 0] 33)) w.heap.size [.slice a1 n1 c1, .slice a2 n2 c2]):= (Bx.new w [.slice a1 n1 c1, .slice a2 n2 c2] _).later (qab _ _)
 have HR0:Hid (qaa ((w.alloc (.cells #[.slice a1 n1 c1, .slice a2 n2 c2] 31)).alloc (.cells #[.int .i64 0, .int .i64 0, .int .i64 0, .slice none 0 0, .slice none 0 0, .slice none 0 0, .slice none 0 0] 33)) (w.heap.size+1) 7 (cel qbm)):=by
  have p2:=qrt (w.alloc (.cells #[.slice a1 n1 c1, .slice a2 n2 c2] 31)) 33
  rw [World.size_alloc] at p2
  exact p2
 have xHX0:=HX0.out 0 _ rfl
 have xHX1:=HX0.out 1 _ rfl
 by_cases hf:fsF d=0
 rotate_left
 · have HE:Hid (RES=qnQ (fsF d)):=by unfold Hid;rw [←HRES.out,HRR.out,if_neg hf]
   have hfb: (fsF d !=0)=true:=by simpa using hf
   clear HRR HRES hf h hs hl ht hgl
   generalize fsF d=r at*
   go_enter Tryz.func7,Tryz.ntmps7
   go_wp2_with fail
   generalize ((w.alloc (.cells #[.slice a1 n1 c1, .slice a2 n2 c2] 31)).alloc (.cells #[.int .i64 0, .int .i64 0, .int .i64 0, .slice none 0 0, .slice none 0 0, .slice none 0 0, .slice none 0 0] 33))=W0 at*
   clear xHX0 xHX1
   refine (HF.out _ HB0.out).mono ?_
   rintro e w1 ⟨rfl,hb⟩
   have HB1:Hid (Below w.heap.size w w1):=HB0.out.trans (hb.mono HB0.out.size)
   have HX1:Hid (Bx w1 w.heap.size [.slice a1 n1 c1, .slice a2 n2 c2]):=HX0.out.later hb
   have HR1:Hid (qaa w1 (w.heap.size+1) 7 (cel qbm)):=HR0.out.later hb
   clear hb
   have hrr:=HR1.out
   have t0:w1.cell? ⟨w.heap.size+1,0,none⟩=some (.int .i64 0):=hrr.cell (i:=0) (by omega)
   have t1:w1.cell? ⟨w.heap.size+1,1,none⟩=some (.int .i64 0):=hrr.cell (i:=1) (by omega)
   have t2:w1.cell? ⟨w.heap.size+1,2,none⟩=some (.int .i64 0):=hrr.cell (i:=2) (by omega)
   have t3:w1.cell? ⟨w.heap.size+1,3,none⟩=some (.slice none 0 0):=hrr.cell (i:=3) (by omega)
   have t4:w1.cell? ⟨w.heap.size+1,4,none⟩=some (.slice none 0 0):=hrr.cell (i:=4) (by omega)
   have t5:w1.cell? ⟨w.heap.size+1,5,none⟩=some (.slice none 0 0):=hrr.cell (i:=5) (by omega)
   have t6:w1.cell? ⟨w.heap.size+1,6,none⟩=some (.slice none 0 0):=hrr.cell (i:=6) (by omega)
   have s0:=hrr.frozen 0
   have s1:=hrr.frozen 1
   have s2:=hrr.frozen 2
   have s3:=hrr.frozen 3
   have s4:=hrr.frozen 4
   have s5:=hrr.frozen 5
   have s6:=hrr.frozen 6
   clear hrr
   go_wp2
   exact bodyPost_ret (v:= .agg #[.int .i64 r, .int .i64 0, .int .i64 0, .slice none 0 0, .slice none 0 0, .slice none 0 0, .slice none 0 0]) (by simp [results,Tryz.results7,go_sem,t0,t1,t2,t3,t4,t5,t6]) rfl (by rw [HE.out];exact qaN.no r HB1.out (by omega) _ _ _ _ _ _ _)
 · skip
   have HSA:Hid (∀W,Below w.heap.size w W→Calls Tryz.prog 20 #[.agg #[.slice a1 n1 c1, .slice a2 n2 c2], .string s] W fun e w'=>e= .returned (.tuple #[.agg #[.int .i64 (qaS d s).1.1, .string (qaS d s).1.2.1, .bool (qaS d s).1.2.2.1, .int .i64 (qaS d s).1.2.2.2], .int .i64 (qaS d s).2])∧Below W.heap.size W w'):=fun W hW=>qgZ W _ _ _ _ _ _ d s (h.later hW) hs hl (hgl.later hW) hf
   have HSB:Hid (∀W,Below w.heap.size w W→Calls Tryz.prog 20 #[.agg #[.slice a1 n1 c1, .slice a2 n2 c2], .string t] W fun e w'=>e= .returned (.tuple #[.agg #[.int .i64 (qaS d t).1.1, .string (qaS d t).1.2.1, .bool (qaS d t).1.2.2.1, .int .i64 (qaS d t).1.2.2.2], .int .i64 (qaS d t).2])∧Below W.heap.size W w'):=fun W hW=>qgZ W _ _ _ _ _ _ d t (h.later hW) hs ht (hgl.later hW) hf
   have hroot:=qrB hf
   have HST:Hid (∀W c,Below w.heap.size w W→Calls Tryz.prog 21 #[.agg #[.slice a1 n1 c1, .slice a2 n2 c2], .int .i64 c] W (qaN W (qav d c))):=fun W c hW=>qlM W _ _ _ _ _ _ d c (h.later hW) hs (by have:=hroot.dat;omega)
   have HRF:Hid (∀W (j z tj:Nat) (gf:Bool) (tz:Nat) (s' t':ByteArray),Below w.heap.size w W→DirS d tj→z<d.1.length→tz<d.1.length→Calls Tryz.prog 22 #[.agg #[.slice a1 n1 c1, .slice a2 n2 c2], .agg #[.int .i64 (j:Int), .string s', .bool true, .int .i64 (z:Int)], .agg #[.int .i64 (tj:Int), .string t', .bool gf, .int .i64 (tz:Int)]] W fun e w'=>e= .returned (.int .i64 (qeX d j z tj gf tz))∧Below W.heap.size W w'):=fun W j z tj gf tz s' t' hW htj hz htz=>qgd W _ _ _ _ _ _ d j s' z tj t' gf tz (h.later hW) hs hz htj.lt htz htj.ten (by have:=htj.six;omega)
   have HRN:Hid (∀W (j:Nat) (s':ByteArray) (z tj:Nat) (t':ByteArray) (gf:Bool) (tz:Nat),Below w.heap.size w W→gf=qbG d tj t'→ (gf=true→atE d tj t'= (tz:Int))→DirS d tj→qdG d (tj:Int)=0→qal t'=0→RenS d (qaq d tj t') j s' tj→Calls Tryz.prog 24 #[.agg #[.slice a1 n1 c1, .slice a2 n2 c2], .agg #[.int .i64 (j:Int), .string s', .bool true, .int .i64 (z:Int)], .agg #[.int .i64 (tj:Int), .string t', .bool gf, .int .i64 (tz:Int)]] W (qcS W d.1.length (qdu d j s' tj t' z))):=fun W j s' z tj t' gf tz hW h1 h2 h3 h4 h5 h6=>qkq W _ _ _ _ _ _ d j s' z tj t' gf tz (h.later hW) hs h1 h2 h3 h4 h5 h6
   have HSIA:Hid ((qaS d s).2=0→ ∃j:Nat,(qaS d s).1.1= (j:Int)∧ (qaS d s).1.2.1=qaP s∧qbG d j (qaP s)= (qaS d s).1.2.2.1∧atE d j (qaP s)= (qaS d s).1.2.2.2∧ (qas d s).1=0∧ (qas d s).2= (j:Int)∧qdG d (j:Int)=0∧DirS d j∧qal (qaP s)=0):=qnC hf
   have HSIB:Hid ((qaS d t).2=0→ ∃j:Nat,(qaS d t).1.1= (j:Int)∧ (qaS d t).1.2.1=qaP t∧qbG d j (qaP t)= (qaS d t).1.2.2.1∧atE d j (qaP t)= (qaS d t).1.2.2.2∧ (qas d t).1=0∧ (qas d t).2= (j:Int)∧qdG d (j:Int)=0∧DirS d j∧qal (qaP t)=0):=qnC hf
   have HSNA:Hid (¬ (qaS d s).2=0→ (qas d s).1= (qaS d s).2):=qnD
   have HSNB:Hid (¬ (qaS d t).2=0→ (qas d t).1= (qaS d t).2):=qnD
   have HEQ:Hid (RES=if (qas d s).1=0 then (if qbG d (qas d s).2.toNat (qaP s)=true then (if (qas d t).1=0 then qhP d (qas d s).2.toNat (qaP s) (qas d t).2.toNat (qaP t) else qav d (qas d t).1) else qav d 4) else qav d (qas d s).1):=by unfold Hid;rw [←HRES.out,HRR.out,if_pos hf];rfl
   rw [hf] at HF
   clear HRR HRES hf h hs hl ht hgl hroot
   generalize qaS d s=sp at*
   generalize qaS d t=gp at*
   generalize qaP s=ls at*
   generalize qaP t=lt at*
   obtain ⟨⟨p1,p2,p3,p4⟩,pc⟩:=sp
   obtain ⟨⟨q1,q2,q3,q4⟩,qc⟩:=gp
   dsimp only at HSA HSB HSIA HSIB HSNA HSNB
   go_enter Tryz.func7,Tryz.ntmps7
   go_wp2_with fail
   generalize ((w.alloc (.cells #[.slice a1 n1 c1, .slice a2 n2 c2] 31)).alloc (.cells #[.int .i64 0, .int .i64 0, .int .i64 0, .slice none 0 0, .slice none 0 0, .slice none 0 0, .slice none 0 0] 33))=W0 at*
   clear xHX0 xHX1
   refine (HF.out _ HB0.out).mono ?_
   rintro e w1 ⟨rfl,hb⟩
   have HB1:Hid (Below w.heap.size w w1):=HB0.out.trans (hb.mono HB0.out.size)
   have HX1:Hid (Bx w1 w.heap.size [.slice a1 n1 c1, .slice a2 n2 c2]):=HX0.out.later hb
   have HR1:Hid (qaa w1 (w.heap.size+1) 7 (cel qbm)):=HR0.out.later hb
   clear hb
   have xHX0:=HX1.out 0 _ rfl
   have xHX1:=HX1.out 1 _ rfl
   go_wp2_with fail
   clear xHX0 xHX1
   refine (HSA.out _ HB1.out).mono ?_
   rintro e w2 ⟨rfl,hb⟩
   have hb':Below w1.heap.size w1 (w2.alloc (.cells #[.int .i64 p1, .string p2, .bool p3, .int .i64 p4] 49)):=hb.trans ((qab _ _).mono hb.size)
   have HB2:Hid (Below w.heap.size w (w2.alloc (.cells #[.int .i64 p1, .string p2, .bool p3, .int .i64 p4] 49))):=HB1.out.trans (hb'.mono HB1.out.size)
   have HX2:Hid (Bx (w2.alloc (.cells #[.int .i64 p1, .string p2, .bool p3, .int .i64 p4] 49)) w.heap.size [.slice a1 n1 c1, .slice a2 n2 c2]):=HX1.out.later hb'
   have HR2:Hid (qaa (w2.alloc (.cells #[.int .i64 p1, .string p2, .bool p3, .int .i64 p4] 49)) (w.heap.size+1) 7 (cel qbm)):=HR1.out.later hb'
   clear hb hb'
   have HP2:Hid (Bx (w2.alloc (.cells #[.int .i64 p1, .string p2, .bool p3, .int .i64 p4] 49)) w2.heap.size [.int .i64 p1, .string p2, .bool p3, .int .i64 p4]):=Bx.new w2 [.int .i64 p1, .string p2, .bool p3, .int .i64 p4] _
   by_cases hpc:pc=0
   rotate_left
   · have hpb: (pc !=0)=true:=by simpa using hpc
     have HE:Hid (RES=qav d pc):=by
      have e1:=HSNA.out hpc
      unfold Hid;rw [HEQ.out,e1,if_neg hpc]
     clear hpc
     have xHX0:=HX2.out 0 _ rfl
     have xHX1:=HX2.out 1 _ rfl
     go_wp2_with fail
     clear xHX0 xHX1
     refine (HST.out _ pc HB2.out).mono ?_
     rintro e u ⟨y1,y2,b3,m3,k3,b4,m4,k4,b5,m5,k5,b6,m6,k6,rfl,hb,hu⟩
     have hrr:=HR2.out.later hb
     have hlr:w.heap.size+1< (w2.alloc (.cells #[.int .i64 p1, .string p2, .bool p3, .int .i64 p4] 49)).heap.size:=HR2.out.lt
     have HBU:Hid (Below (w2.alloc (.cells #[.int .i64 p1, .string p2, .bool p3, .int .i64 p4] 49)).heap.size (w2.alloc (.cells #[.int .i64 p1, .string p2, .bool p3, .int .i64 p4] 49)) u):=hb
     have HCU:Hid (qap u (.int .i64 y1) (.int .i64 y2) (.slice b3 m3 k3) (.slice b4 m4 k4) (.slice b5 m5 k5) (.slice b6 m6 k6) (qav d pc).2 (qaj (w2.alloc (.cells #[.int .i64 p1, .string p2, .bool p3, .int .i64 p4] 49)) u)):=hu
     have t0:u.cell? ⟨w.heap.size+1,0,none⟩=some (.int .i64 0):=hrr.cell (i:=0) (by omega)
     have t1:u.cell? ⟨w.heap.size+1,1,none⟩=some (.int .i64 0):=hrr.cell (i:=1) (by omega)
     have t2:u.cell? ⟨w.heap.size+1,2,none⟩=some (.int .i64 0):=hrr.cell (i:=2) (by omega)
     have t3:u.cell? ⟨w.heap.size+1,3,none⟩=some (.slice none 0 0):=hrr.cell (i:=3) (by omega)
     have t4:u.cell? ⟨w.heap.size+1,4,none⟩=some (.slice none 0 0):=hrr.cell (i:=4) (by omega)
     have t5:u.cell? ⟨w.heap.size+1,5,none⟩=some (.slice none 0 0):=hrr.cell (i:=5) (by omega)
     have t6:u.cell? ⟨w.heap.size+1,6,none⟩=some (.slice none 0 0):=hrr.cell (i:=6) (by omega)
     have s0:=hrr.frozen 0
     have s1:=hrr.frozen 1
     have s2:=hrr.frozen 2
     have s3:=hrr.frozen 3
     have s4:=hrr.frozen 4
     have s5:=hrr.frozen 5
     have s6:=hrr.frozen 6
     clear hb hu hrr
     go_wp2
     exact bodyPost_ret (v:= .agg #[.int .i64 (qav d pc).1, .int .i64 y1, .int .i64 y2, .slice b3 m3 k3, .slice b4 m4 k4, .slice b5 m5 k5, .slice b6 m6 k6]) (by simp [results,Tryz.results7,go_sem,t0,t1,t2,t3,t4,t5,t6]) rfl (by rw [HE.out];exact qaN.pass HB2.out (by omega) hlr HBU.out HCU.out _ _ _ _ _ _ _)
   · have hpb: (pc !=0)=false:=by simpa using hpc
     obtain ⟨j,rfl,rfl,h3,h4,h5,h6,h7,h8,h9⟩:=HSIA.out hpc
     have HPE:Hid (qbG d j p2=p3):=h3
     have HPF:Hid (atE d j p2=p4):=h4
     have HDJ:Hid (DirS d j):=h8
     rw [h5,h6,Int.toNat_natCast,if_pos rfl,h3] at HEQ
     clear hpc h3 h4 h5 h6 h7 h8 h9 HSIA HSNA HSA
     cases p3
     · have HE:Hid (RES=qav d 4):=by unfold Hid;rw [HEQ.out];rfl
       have xHX0:=HX2.out 0 _ rfl
       have xHX1:=HX2.out 1 _ rfl
       have xHP2:=HP2.out 2 _ rfl
       go_wp2_with fail
       clear xHX0 xHX1 xHP2
       refine (HST.out _ 4 HB2.out).mono ?_
       rintro e u ⟨y1,y2,b3,m3,k3,b4,m4,k4,b5,m5,k5,b6,m6,k6,rfl,hb,hu⟩
       have hrr:=HR2.out.later hb
       have hlr:w.heap.size+1< (w2.alloc (.cells #[.int .i64 (j:Int), .string p2, .bool false, .int .i64 p4] 49)).heap.size:=HR2.out.lt
       have HBU:Hid (Below (w2.alloc (.cells #[.int .i64 (j:Int), .string p2, .bool false, .int .i64 p4] 49)).heap.size (w2.alloc (.cells #[.int .i64 (j:Int), .string p2, .bool false, .int .i64 p4] 49)) u):=hb
       have HCU:Hid (qap u (.int .i64 y1) (.int .i64 y2) (.slice b3 m3 k3) (.slice b4 m4 k4) (.slice b5 m5 k5) (.slice b6 m6 k6) (qav d 4).2 (qaj (w2.alloc (.cells #[.int .i64 (j:Int), .string p2, .bool false, .int .i64 p4] 49)) u)):=hu
       have t0:u.cell? ⟨w.heap.size+1,0,none⟩=some (.int .i64 0):=hrr.cell (i:=0) (by omega)
       have t1:u.cell? ⟨w.heap.size+1,1,none⟩=some (.int .i64 0):=hrr.cell (i:=1) (by omega)
       have t2:u.cell? ⟨w.heap.size+1,2,none⟩=some (.int .i64 0):=hrr.cell (i:=2) (by omega)
       have t3:u.cell? ⟨w.heap.size+1,3,none⟩=some (.slice none 0 0):=hrr.cell (i:=3) (by omega)
       have t4:u.cell? ⟨w.heap.size+1,4,none⟩=some (.slice none 0 0):=hrr.cell (i:=4) (by omega)
       have t5:u.cell? ⟨w.heap.size+1,5,none⟩=some (.slice none 0 0):=hrr.cell (i:=5) (by omega)
       have t6:u.cell? ⟨w.heap.size+1,6,none⟩=some (.slice none 0 0):=hrr.cell (i:=6) (by omega)
       have s0:=hrr.frozen 0
       have s1:=hrr.frozen 1
       have s2:=hrr.frozen 2
       have s3:=hrr.frozen 3
       have s4:=hrr.frozen 4
       have s5:=hrr.frozen 5
       have s6:=hrr.frozen 6
       clear hb hu hrr
       go_wp2
       exact bodyPost_ret (v:= .agg #[.int .i64 (qav d 4).1, .int .i64 y1, .int .i64 y2, .slice b3 m3 k3, .slice b4 m4 k4, .slice b5 m5 k5, .slice b6 m6 k6]) (by simp [results,Tryz.results7,go_sem,t0,t1,t2,t3,t4,t5,t6]) rfl (by rw [HE.out];exact qaN.pass HB2.out (by omega) hlr HBU.out HCU.out _ _ _ _ _ _ _)
     · rw [if_pos rfl] at HEQ
       obtain ⟨z,hz,hzn,-⟩:=qgc HDJ.out HPE.out
       have HZ:Hid (atE d j p2= (z:Int)):=hz
       have HZN:Hid (z<d.1.length):=hzn
       have hpz:p4= (z:Int):=by rw [←HPF.out,hz]
       subst hpz
       clear hz hzn HPF
       have xHX0:=HX2.out 0 _ rfl
       have xHX1:=HX2.out 1 _ rfl
       have xHP2:=HP2.out 2 _ rfl
       go_wp2_with fail
       generalize (w2.alloc (.cells #[.int .i64 (j:Int), .string p2, .bool true, .int .i64 (z:Int)] 49))=W2 at*
       clear xHX0 xHX1 xHP2
       refine (HSB.out _ HB2.out).mono ?_
       rintro e w3 ⟨rfl,hb⟩
       have hb':Below W2.heap.size W2 (w3.alloc (.cells #[.int .i64 q1, .string q2, .bool q3, .int .i64 q4] 49)):=hb.trans ((qab _ _).mono hb.size)
       have HB3:Hid (Below w.heap.size w (w3.alloc (.cells #[.int .i64 q1, .string q2, .bool q3, .int .i64 q4] 49))):=HB2.out.trans (hb'.mono HB2.out.size)
       have HX3:Hid (Bx (w3.alloc (.cells #[.int .i64 q1, .string q2, .bool q3, .int .i64 q4] 49)) w.heap.size [.slice a1 n1 c1, .slice a2 n2 c2]):=HX2.out.later hb'
       have HR3:Hid (qaa (w3.alloc (.cells #[.int .i64 q1, .string q2, .bool q3, .int .i64 q4] 49)) (w.heap.size+1) 7 (cel qbm)):=HR2.out.later hb'
       have HP3:Hid (Bx (w3.alloc (.cells #[.int .i64 q1, .string q2, .bool q3, .int .i64 q4] 49)) w2.heap.size [.int .i64 (j:Int), .string p2, .bool true, .int .i64 (z:Int)]):=HP2.out.later hb'
       clear hb hb'
       have HQ3:Hid (Bx (w3.alloc (.cells #[.int .i64 q1, .string q2, .bool q3, .int .i64 q4] 49)) w3.heap.size [.int .i64 q1, .string q2, .bool q3, .int .i64 q4]):=Bx.new w3 [.int .i64 q1, .string q2, .bool q3, .int .i64 q4] _
       by_cases hqc:qc=0
       rotate_left
       · have hqb: (qc !=0)=true:=by simpa using hqc
         have HE:Hid (RES=qav d qc):=by
          have e1:=HSNB.out hqc
          unfold Hid;rw [HEQ.out,e1,if_neg hqc]
         clear hqc
         have xHX0:=HX3.out 0 _ rfl
         have xHX1:=HX3.out 1 _ rfl
         go_wp2_with fail
         clear xHX0 xHX1
         refine (HST.out _ qc HB3.out).mono ?_
         rintro e u ⟨y1,y2,b3,m3,k3,b4,m4,k4,b5,m5,k5,b6,m6,k6,rfl,hb,hu⟩
         have hrr:=HR3.out.later hb
         have hlr:w.heap.size+1< (w3.alloc (.cells #[.int .i64 q1, .string q2, .bool q3, .int .i64 q4] 49)).heap.size:=HR3.out.lt
         have HBU:Hid (Below (w3.alloc (.cells #[.int .i64 q1, .string q2, .bool q3, .int .i64 q4] 49)).heap.size (w3.alloc (.cells #[.int .i64 q1, .string q2, .bool q3, .int .i64 q4] 49)) u):=hb
         have HCU:Hid (qap u (.int .i64 y1) (.int .i64 y2) (.slice b3 m3 k3) (.slice b4 m4 k4) (.slice b5 m5 k5) (.slice b6 m6 k6) (qav d qc).2 (qaj (w3.alloc (.cells #[.int .i64 q1, .string q2, .bool q3, .int .i64 q4] 49)) u)):=hu
         have t0:u.cell? ⟨w.heap.size+1,0,none⟩=some (.int .i64 0):=hrr.cell (i:=0) (by omega)
         have t1:u.cell? ⟨w.heap.size+1,1,none⟩=some (.int .i64 0):=hrr.cell (i:=1) (by omega)
         have t2:u.cell? ⟨w.heap.size+1,2,none⟩=some (.int .i64 0):=hrr.cell (i:=2) (by omega)
         have t3:u.cell? ⟨w.heap.size+1,3,none⟩=some (.slice none 0 0):=hrr.cell (i:=3) (by omega)
         have t4:u.cell? ⟨w.heap.size+1,4,none⟩=some (.slice none 0 0):=hrr.cell (i:=4) (by omega)
         have t5:u.cell? ⟨w.heap.size+1,5,none⟩=some (.slice none 0 0):=hrr.cell (i:=5) (by omega)
         have t6:u.cell? ⟨w.heap.size+1,6,none⟩=some (.slice none 0 0):=hrr.cell (i:=6) (by omega)
         have s0:=hrr.frozen 0
         have s1:=hrr.frozen 1
         have s2:=hrr.frozen 2
         have s3:=hrr.frozen 3
         have s4:=hrr.frozen 4
         have s5:=hrr.frozen 5
         have s6:=hrr.frozen 6
         clear hb hu hrr
         go_wp2
         exact bodyPost_ret (v:= .agg #[.int .i64 (qav d qc).1, .int .i64 y1, .int .i64 y2, .slice b3 m3 k3, .slice b4 m4 k4, .slice b5 m5 k5, .slice b6 m6 k6]) (by simp [results,Tryz.results7,go_sem,t0,t1,t2,t3,t4,t5,t6]) rfl (by rw [HE.out];exact qaN.pass HB3.out (by omega) hlr HBU.out HCU.out _ _ _ _ _ _ _)
       · have hqb: (qc !=0)=false:=by simpa using hqc
         obtain ⟨tj,rfl,rfl,h3,h4,h5,h6,h7,h8,h9⟩:=HSIB.out hqc
         have HQ3e:Hid (qbG d tj q2=q3):=h3
         have HDT:Hid (DirS d tj):=h8
         have HQT:Hid (qdG d (tj:Int)=0):=h7
         have HNT:Hid (qal q2=0):=h9
         obtain ⟨tz,htz,htn⟩:=qnE h8 q2
         have HTZ:Hid (atE d tj q2= (tz:Int)):=htz
         have HTN:Hid (tz<d.1.length):=htn
         have hqz:q4= (tz:Int):=by rw [←h4,htz]
         subst hqz
         rw [h5,h6,Int.toNat_natCast,if_pos rfl] at HEQ
         have HEQ2:Hid (RES=if ¬qeX d j z tj q3 tz=0∨ (q3=true∧ (tz:Int)= (z:Int)) then qav d (qeX d j z tj q3 tz) else (0,0,0, [], [],qdu d j p2 tj q2 z)):=by
          unfold Hid
          rw [HEQ.out]
          unfold qhP
          rw [h3,htz,HZ.out,Int.toNat_natCast,Int.toNat_natCast]
         clear hqc h3 h4 h5 h6 h7 h8 h9 HSIB HSNB HSB htz htn HEQ
         have xHX0:=HX3.out 0 _ rfl
         have xHX1:=HX3.out 1 _ rfl
         have xHP0:=HP3.out 0 _ rfl
         have xHP1:=HP3.out 1 _ rfl
         have xHP2:=HP3.out 2 _ rfl
         have xHP3:=HP3.out 3 _ rfl
         have xHQ0:=HQ3.out 0 _ rfl
         have xHQ1:=HQ3.out 1 _ rfl
         have xHQ2:=HQ3.out 2 _ rfl
         have xHQ3:=HQ3.out 3 _ rfl
         go_wp2_with fail
         generalize (w3.alloc (.cells #[.int .i64 (tj:Int), .string q2, .bool q3, .int .i64 (tz:Int)] 49))=W3 at*
         clear xHX0 xHX1 xHP0 xHP1 xHP2 xHP3 xHQ0 xHQ1 xHQ2 xHQ3
         refine (HRF.out _ j z tj q3 tz p2 q2 HB3.out HDT.out HZN.out HTN.out).mono ?_
         have HRS:Hid (qeX d j z tj q3 tz=0→ ¬ (q3=true∧ (tz:Int)= (z:Int))→RenS d (qaq d tj q2) j p2 tj):=fun e1 e2=>qpd (z:=z) HDJ.out HDT.out HZ.out HPE.out (by rw [HQ3e.out,HTZ.out,Int.toNat_natCast];exact e1) (by rw [HQ3e.out,HTZ.out,HZ.out];exact e2)
         generalize qeX d j z tj q3 tz=rf at*
         rintro e w4 ⟨rfl,hb⟩
         have HB4:Hid (Below w.heap.size w w4):=HB3.out.trans (hb.mono HB3.out.size)
         have HX4:Hid (Bx w4 w.heap.size [.slice a1 n1 c1, .slice a2 n2 c2]):=HX3.out.later hb
         have HR4:Hid (qaa w4 (w.heap.size+1) 7 (cel qbm)):=HR3.out.later hb
         have HP4:Hid (Bx w4 w2.heap.size [.int .i64 (j:Int), .string p2, .bool true, .int .i64 (z:Int)]):=HP3.out.later hb
         have HQ4:Hid (Bx w4 w3.heap.size [.int .i64 (tj:Int), .string q2, .bool q3, .int .i64 (tz:Int)]):=HQ3.out.later hb
         clear hb
         by_cases hrf:rf=0
         rotate_left
         · have hrb: (rf !=0)=true:=by simpa using hrf
           have HE:Hid (RES=qav d rf):=by unfold Hid;rw [HEQ2.out,if_pos (Or.inl hrf)]
           clear hrf
           have xHX0:=HX4.out 0 _ rfl
           have xHX1:=HX4.out 1 _ rfl
           go_wp2_with fail
           clear xHX0 xHX1
           refine (HST.out _ rf HB4.out).mono ?_
           rintro e u ⟨y1,y2,b3,m3,k3,b4,m4,k4,b5,m5,k5,b6,m6,k6,rfl,hb,hu⟩
           have hrr:=HR4.out.later hb
           have hlr:w.heap.size+1<w4.heap.size:=HR4.out.lt
           have HBU:Hid (Below w4.heap.size w4 u):=hb
           have HCU:Hid (qap u (.int .i64 y1) (.int .i64 y2) (.slice b3 m3 k3) (.slice b4 m4 k4) (.slice b5 m5 k5) (.slice b6 m6 k6) (qav d rf).2 (qaj w4 u)):=hu
           have t0:u.cell? ⟨w.heap.size+1,0,none⟩=some (.int .i64 0):=hrr.cell (i:=0) (by omega)
           have t1:u.cell? ⟨w.heap.size+1,1,none⟩=some (.int .i64 0):=hrr.cell (i:=1) (by omega)
           have t2:u.cell? ⟨w.heap.size+1,2,none⟩=some (.int .i64 0):=hrr.cell (i:=2) (by omega)
           have t3:u.cell? ⟨w.heap.size+1,3,none⟩=some (.slice none 0 0):=hrr.cell (i:=3) (by omega)
           have t4:u.cell? ⟨w.heap.size+1,4,none⟩=some (.slice none 0 0):=hrr.cell (i:=4) (by omega)
           have t5:u.cell? ⟨w.heap.size+1,5,none⟩=some (.slice none 0 0):=hrr.cell (i:=5) (by omega)
           have t6:u.cell? ⟨w.heap.size+1,6,none⟩=some (.slice none 0 0):=hrr.cell (i:=6) (by omega)
           have s0:=hrr.frozen 0
           have s1:=hrr.frozen 1
           have s2:=hrr.frozen 2
           have s3:=hrr.frozen 3
           have s4:=hrr.frozen 4
           have s5:=hrr.frozen 5
           have s6:=hrr.frozen 6
           clear hb hu hrr
           go_wp2
           exact bodyPost_ret (v:= .agg #[.int .i64 (qav d rf).1, .int .i64 y1, .int .i64 y2, .slice b3 m3 k3, .slice b4 m4 k4, .slice b5 m5 k5, .slice b6 m6 k6]) (by simp [results,Tryz.results7,go_sem,t0,t1,t2,t3,t4,t5,t6]) rfl (by rw [HE.out];exact qaN.pass HB4.out (by omega) hlr HBU.out HCU.out _ _ _ _ _ _ _)
         · subst hrf
           have xHP0:=HP4.out 0 _ rfl
           have xHP1:=HP4.out 1 _ rfl
           have xHP2:=HP4.out 2 _ rfl
           have xHP3:=HP4.out 3 _ rfl
           have xHQ0:=HQ4.out 0 _ rfl
           have xHQ1:=HQ4.out 1 _ rfl
           have xHQ2:=HQ4.out 2 _ rfl
           have xHQ3:=HQ4.out 3 _ rfl
           go_wp2_with fail
           clear xHP0 xHP1 xHP2 xHP3 xHQ0 xHQ1 xHQ2 xHQ3
           refine (qeC _ _ _ _ _ _ _ _ _).mono ?_
           obtain ⟨la,hla⟩: ∃la:Bool,(q3&&decide ((tz:Int)= (z:Int)))=la:= ⟨_,rfl⟩
           rw [hla]
           have HLE:Hid ((q3&&decide ((tz:Int)= (z:Int)))=la):=hla
           clear hla
           rintro e w5 ⟨rfl,hb⟩
           have HB5:Hid (Below w.heap.size w w5):=HB4.out.trans (hb.mono HB4.out.size)
           have HX5:Hid (Bx w5 w.heap.size [.slice a1 n1 c1, .slice a2 n2 c2]):=HX4.out.later hb
           have HR5:Hid (qaa w5 (w.heap.size+1) 7 (cel qbm)):=HR4.out.later hb
           have HP5:Hid (Bx w5 w2.heap.size [.int .i64 (j:Int), .string p2, .bool true, .int .i64 (z:Int)]):=HP4.out.later hb
           have HQ5:Hid (Bx w5 w3.heap.size [.int .i64 (tj:Int), .string q2, .bool q3, .int .i64 (tz:Int)]):=HQ4.out.later hb
           clear hb
           cases la
           · have hnl: ¬ (q3=true∧ (tz:Int)= (z:Int)):=fun hh=>by
              have:=HLE.out
              rw [hh.1,hh.2] at this
              simp at this
             have HE:Hid (RES= (0,0,0, [], [],qdu d j p2 tj q2 z)):=by unfold Hid;rw [HEQ2.out,if_neg (fun hh=>hh.elim (fun h=>h (by trivial)) hnl)]
             have HRS2:Hid (RenS d (qaq d tj q2) j p2 tj):=HRS.out (by trivial) hnl
             clear hnl HRS HEQ2
             have xHX0:=HX5.out 0 _ rfl
             have xHX1:=HX5.out 1 _ rfl
             have xHP0:=HP5.out 0 _ rfl
             have xHP1:=HP5.out 1 _ rfl
             have xHP2:=HP5.out 2 _ rfl
             have xHP3:=HP5.out 3 _ rfl
             have xHQ0:=HQ5.out 0 _ rfl
             have xHQ1:=HQ5.out 1 _ rfl
             have xHQ2:=HQ5.out 2 _ rfl
             have xHQ3:=HQ5.out 3 _ rfl
             go_wp2_with fail
             clear xHX0 xHX1 xHP0 xHP1 xHP2 xHP3 xHQ0 xHQ1 xHQ2 xHQ3
             refine (HRN.out _ j p2 z tj q2 q3 tz HB5.out HQ3e.out.symm (fun _=>HTZ.out) HDT.out HQT.out HNT.out HRS2.out).mono ?_
             rintro e u ⟨bI,cI,bD,cD,rfl,hb,hf⟩
             have hrr:=HR5.out.later hb
             have hlr:w.heap.size+1<w5.heap.size:=HR5.out.lt
             have HBU:Hid (Below w.heap.size w u):=HB5.out.trans (hb.mono HB5.out.size)
             have HFU:Hid (FsS u bI d.1.length cI bD 20 cD (qdu d j p2 tj q2 z) (fun c=>w5.heap.size≤c)):=hf
             have t0:u.cell? ⟨w.heap.size+1,0,none⟩=some (.int .i64 0):=hrr.cell (i:=0) (by omega)
             have t1:u.cell? ⟨w.heap.size+1,1,none⟩=some (.int .i64 0):=hrr.cell (i:=1) (by omega)
             have t2:u.cell? ⟨w.heap.size+1,2,none⟩=some (.int .i64 0):=hrr.cell (i:=2) (by omega)
             have t3:u.cell? ⟨w.heap.size+1,3,none⟩=some (.slice none 0 0):=hrr.cell (i:=3) (by omega)
             have t4:u.cell? ⟨w.heap.size+1,4,none⟩=some (.slice none 0 0):=hrr.cell (i:=4) (by omega)
             have t5:u.cell? ⟨w.heap.size+1,5,none⟩=some (.slice none 0 0):=hrr.cell (i:=5) (by omega)
             have t6:u.cell? ⟨w.heap.size+1,6,none⟩=some (.slice none 0 0):=hrr.cell (i:=6) (by omega)
             have s0:=hrr.frozen 0
             have s1:=hrr.frozen 1
             have s2:=hrr.frozen 2
             have s3:=hrr.frozen 3
             have s4:=hrr.frozen 4
             have s5:=hrr.frozen 5
             have s6:=hrr.frozen 6
             clear hb hf hrr
             generalize d.1.length=nn at*
             go_wp2
             exact bodyPost_ret (v:= .agg #[.int .i64 0, .int .i64 0, .int .i64 0, .slice none 0 0, .slice none 0 0, .slice (some ⟨bI,0,none⟩) nn cI, .slice (some ⟨bD,0,none⟩) 20 cD]) (by simp [results,Tryz.results7,go_sem,t0,t1,t2,t3,t4,t5,t6]) rfl (by rw [HE.out];exact qaN.put HBU.out (by omega) (qap.fs 0 0 (HFU.out.fsB.mono fun b hh=> ⟨by have:=hh.1;omega,hh.2,by have:=hh.1;omega⟩)) _ _ _ _ _ _ _)
           · have HE:Hid (RES=qav d 0):=by
              have:=HLE.out
              simp only [Bool.and_eq_true,decide_eq_true_eq] at this
              unfold Hid;rw [HEQ2.out,if_pos (Or.inr this)]
             have xHX0:=HX5.out 0 _ rfl
             have xHX1:=HX5.out 1 _ rfl
             go_wp2_with fail
             clear xHX0 xHX1
             refine (HST.out _ 0 HB5.out).mono ?_
             rintro e u ⟨y1,y2,b3,m3,k3,b4,m4,k4,b5,m5,k5,b6,m6,k6,rfl,hb,hu⟩
             have hrr:=HR5.out.later hb
             have hlr:w.heap.size+1<w5.heap.size:=HR5.out.lt
             have HBU:Hid (Below w5.heap.size w5 u):=hb
             have HCU:Hid (qap u (.int .i64 y1) (.int .i64 y2) (.slice b3 m3 k3) (.slice b4 m4 k4) (.slice b5 m5 k5) (.slice b6 m6 k6) (qav d 0).2 (qaj w5 u)):=hu
             have t0:u.cell? ⟨w.heap.size+1,0,none⟩=some (.int .i64 0):=hrr.cell (i:=0) (by omega)
             have t1:u.cell? ⟨w.heap.size+1,1,none⟩=some (.int .i64 0):=hrr.cell (i:=1) (by omega)
             have t2:u.cell? ⟨w.heap.size+1,2,none⟩=some (.int .i64 0):=hrr.cell (i:=2) (by omega)
             have t3:u.cell? ⟨w.heap.size+1,3,none⟩=some (.slice none 0 0):=hrr.cell (i:=3) (by omega)
             have t4:u.cell? ⟨w.heap.size+1,4,none⟩=some (.slice none 0 0):=hrr.cell (i:=4) (by omega)
             have t5:u.cell? ⟨w.heap.size+1,5,none⟩=some (.slice none 0 0):=hrr.cell (i:=5) (by omega)
             have t6:u.cell? ⟨w.heap.size+1,6,none⟩=some (.slice none 0 0):=hrr.cell (i:=6) (by omega)
             have s0:=hrr.frozen 0
             have s1:=hrr.frozen 1
             have s2:=hrr.frozen 2
             have s3:=hrr.frozen 3
             have s4:=hrr.frozen 4
             have s5:=hrr.frozen 5
             have s6:=hrr.frozen 6
             clear hb hu hrr
             go_wp2
             exact bodyPost_ret (v:= .agg #[.int .i64 (qav d 0).1, .int .i64 y1, .int .i64 y2, .slice b3 m3 k3, .slice b4 m4 k4, .slice b5 m5 k5, .slice b6 m6 k6]) (by simp [results,Tryz.results7,go_sem,t0,t1,t2,t3,t4,t5,t6]) rfl (by rw [HE.out];exact qaN.pass HB5.out (by omega) hlr HBU.out HCU.out _ _ _ _ _ _ _)
end Go.Proofs.YthnmlipnoajmkaaGreatDoor

namespace Go.Proofs.YthnmlipnoajmkaaGreatDoor
open Go.RowKit
set_option maxRecDepth 100000

def ovR (d:FD) (z tz:Nat):Int:=if ¬ (qae d.1 z=2↔qae d.1 tz=2) then 9 else if 0< (qac d tz).length then 8 else 0
set_option maxHeartbeats 3200000 in
theorem qgf (w:World) (b:Nat) (d:FD) (aI:Option Addr) (cI:Nat) (aD:Option Addr) (cD:Nat) (hx:FsX w b 0 d aI cI aD cD) (z tz:Nat) (hz:z<d.1.length) (htz:tz<d.1.length) (h6: (qac d tz).length≤6):
 Calls Tryz.prog 46 #[.pointer (some ⟨b,0,none⟩), .int .i64 (z:Int), .int .i64 (tz:Int)] w fun e w'=>e= .returned (.int .i64 (ovR d z tz))∧Below w.heap.size w w':=by
 have x0:=hx.c0
 obtain ⟨_,_,e1,-,hAt⟩:=hx.ins.open'
 simp only [Value.slice.injEq] at e1
 obtain ⟨rfl,-,rfl⟩:=e1
 obtain ⟨b0,o0,rfl,hI⟩:=hAt z hz
 obtain ⟨_,_,_,_,kz,-,-,-,-,-⟩:=hI
 obtain ⟨b0',o0',eb,hI⟩:=hAt tz htz
 simp only [Option.some.injEq,Addr.mk.injEq,and_true] at eb
 obtain ⟨rfl,rfl⟩:=eb
 obtain ⟨tB,tcB,tE,tcE,k0,-,-,-,k4,-⟩:=hI
 have hkz:w.cell? ⟨b0,o0+z*5,none⟩=some (.int .i64 (qae d.1 z)):=kz
 have hkt:w.cell? ⟨b0,o0+tz*5,none⟩=some (.int .i64 (qae d.1 tz)):=k0
 have hk4:w.cell? ⟨b0,o0+tz*5+4,none⟩=some (.slice tE (qac d tz).length tcE):=k4
 have HOV:Hid (ovR d z tz=if ¬ (qae d.1 z=2↔qae d.1 tz=2) then 9 else if 0< (qac d tz).length then 8 else 0):=rfl
 have hzI: (z:Int)< (d.1.length:Int):=by omega
 have htI: (tz:Int)< (d.1.length:Int):=by omega
 obtain ⟨RES,hRES⟩: ∃r,ovR d z tz=r:= ⟨_,rfl⟩
 rw [hRES] at HOV ⊢
 clear hRES hx hAt kz k0 k4 hz htz
 generalize qae d.1 z=kd at*
 generalize qae d.1 tz=kt at*
 generalize (qac d tz).length=le at*
 generalize d.1.length=nn at*
 by_cases hd:kd=2
 · have hdb: (kd==2)=true:=by simpa using hd
   by_cases ht:kt=2
   · have htb: (kt==2)=true:=by simpa using ht
     by_cases hm:0<le
     · have hmb:decide ((0:Int)< (le:Int))=true:=by simp;omega
       have hmc:decide (0<le)=true:=by simpa using hm
       have HE:Hid (RES=8):=by unfold Hid;rw [HOV.out,if_neg (fun hh=>hh ⟨fun _=>ht,fun _=>hd⟩),if_pos hm]
       clear HOV
       go_enter Tryz.func46,Tryz.ntmps46
       go_wp2_with fail
       go_quiet (fail)
       go_wp2
       go_ret
       exact ⟨qad (by rw [HE.out]),below_drewN (Below.refl _ _) _⟩
     · have hmb:decide ((0:Int)< (le:Int))=false:=by simp;omega
       have hmc:decide (0<le)=false:=by simpa using hm
       have HE:Hid (RES=0):=by unfold Hid;rw [HOV.out,if_neg (fun hh=>hh ⟨fun _=>ht,fun _=>hd⟩),if_neg hm]
       clear HOV
       go_enter Tryz.func46,Tryz.ntmps46
       go_wp2_with fail
       go_quiet (fail)
       go_wp2
       go_ret
       exact ⟨qad (by rw [HE.out]),below_drewN (Below.refl _ _) _⟩
   · have htb: (kt==2)=false:=by simpa using ht
     have HE:Hid (RES=9):=by unfold Hid;rw [HOV.out,if_pos (fun hh=>ht (hh.1 hd))]
     clear HOV
     go_enter Tryz.func46,Tryz.ntmps46
     go_wp2_with fail
     go_quiet (fail)
     go_wp2
     go_ret
     exact ⟨qad (by rw [HE.out]),below_drewN (Below.refl _ _) _⟩
 · have hdb: (kd==2)=false:=by simpa using hd
   by_cases ht:kt=2
   · have htb: (kt==2)=true:=by simpa using ht
     have HE:Hid (RES=9):=by unfold Hid;rw [HOV.out,if_pos (fun hh=>hd (hh.2 ht))]
     clear HOV
     go_enter Tryz.func46,Tryz.ntmps46
     go_wp2_with fail
     go_quiet (fail)
     go_wp2
     go_ret
     exact ⟨qad (by rw [HE.out]),below_drewN (Below.refl _ _) _⟩
   · have htb: (kt==2)=false:=by simpa using ht
     by_cases hm:0<le
     · have hmb:decide ((0:Int)< (le:Int))=true:=by simp;omega
       have hmc:decide (0<le)=true:=by simpa using hm
       have HE:Hid (RES=8):=by unfold Hid;rw [HOV.out,if_neg (fun hh=>hh ⟨fun e=>absurd e hd,fun e=>absurd e ht⟩),if_pos hm]
       clear HOV
       go_enter Tryz.func46,Tryz.ntmps46
       go_wp2_with fail
       go_quiet (fail)
       go_wp2
       go_ret
       exact ⟨qad (by rw [HE.out]),below_drewN (Below.refl _ _) _⟩
     · have hmb:decide ((0:Int)< (le:Int))=false:=by simp;omega
       have hmc:decide (0<le)=false:=by simpa using hm
       have HE:Hid (RES=0):=by unfold Hid;rw [HOV.out,if_neg (fun hh=>hh ⟨fun e=>absurd e hd,fun e=>absurd e ht⟩),if_neg hm]
       clear HOV
       go_enter Tryz.func46,Tryz.ntmps46
       go_wp2_with fail
       go_quiet (fail)
       go_wp2
       go_ret
       exact ⟨qad (by rw [HE.out]),below_drewN (Below.refl _ _) _⟩

theorem qoO {d:FD} {j k z:Nat} (h:DirS d j) (hk:k< (qac d j).length) (hz: ((qac d j)[k]?.getD en0).2= (z:Int)) (hzn:z<d.1.length):qoL (qaH d j (qaO (qac d j) k)) z=qdk d j k:=by
 have hs:=qsh (z:=z) h hk hzn
 unfold qoL qdk
 rw [hz,Int.toNat_natCast,hs.kind]
 rfl
set_option maxHeartbeats 3200000 in
theorem qgg (w:World) (bo bI n cI bD cD:Nat) (d:FD) (F:Nat→Prop) (j k z:Nat) (h0:w.cell? ⟨bo,0,none⟩=some (.slice (some ⟨bI,0,none⟩) n cI)) (h1:w.cell? ⟨bo,1,none⟩=some (.slice (some ⟨bD,0,none⟩) 20 cD)) (hfs:FsS w bI n cI bD 20 cD d F) (hFo: ¬F bo) (hn:d.1.length=n) (hds:DirS d j) (hk:k< (qac d j).length) (hz: ((qac d j)[k]?.getD en0).2= (z:Int)) (hzn:z<n):
 Calls Tryz.prog 47 #[.pointer (some ⟨bo,0,none⟩), .int .i64 (j:Int), .int .i64 (k:Int)] w fun e w'=>e= .returned (.tuple #[])∧Chg (fun c=>c=bI∨c=bD) w w'∧FsS w' bI n cI bD 20 cD (qda d j k z) (fun c=>F c∨w.heap.size≤c):=by
 have hjn:j<n:=by have:=hds.lt;omega
 have hlo:bo<w.heap.size:=World.block_lt_of_cell? _ _ h0
 have HTK:=qbK w bo bI n cI bD cD d F j k h0 h1 hfs hn hjn (by have:=hds.ten;omega) hds.six (qfA hds) hk
 rw [hz] at HTK
 have HT:Hid (Calls Tryz.prog 48 _ w _):=HTK
 have hs:=qsh (z:=z) hds hk (by omega)
 have HLS:Hid (∀W (F':Nat→Prop),W.cell? ⟨bo,0,none⟩=some (.slice (some ⟨bI,0,none⟩) n cI)→W.cell? ⟨bo,1,none⟩=some (.slice (some ⟨bD,0,none⟩) 20 cD)→FsS W bI n cI bD 20 cD (qaH d j (qaO (qac d j) k)) F'→ ¬F' bo→Calls Tryz.prog 82 #[.pointer (some ⟨bo,0,none⟩), .int .i64 (z:Int)] W fun e w'=>e= .returned (.tuple #[])∧Chg (fun c=>c=bI∨c=bD) W w'∧FsS w' bI n cI bD 20 cD (qdk d j k) F'):=fun W F' g0 g1 gf gF=>by
  have:=qlU W bo bI n cI bD cD _ F' z g0 g1 gf gF (by rw [qcl];exact hn) hzn hs.ins
  rw [qoO hds hk hz (by omega)] at this
  exact this
 have HGD:Hid (qda d j k z=if qae (qdk d j k).1 z=2 then ((qdk d j k).1.set z id0,(qdk d j k).2) else qdk d j k):=rfl
 have hne:=hfs.ne
 have hoI:bo≠bI:=fun e=>hFo (e▸hne.2.1.1)
 have hoD:bo≠bD:=fun e=>hFo (e▸hne.2.2.1)
 have hzI: (z:Int)< (n:Int):=by omega
 obtain ⟨RES,hRES⟩: ∃r,qda d j k z=r:= ⟨_,rfl⟩
 rw [hRES] at HGD ⊢
 have H0:Hid (_=_):=h0
 have H1:Hid (_=_):=h1
 have HFO:Hid (¬F bo):=hFo
 clear hRES h0 h1 HTK hs hds hk hz hfs hne hFo
 go_enter Tryz.func47,Tryz.ntmps47
 go_wp2_with fail
 refine HT.out.mono ?_
 rintro e w1 ⟨rfl,hc1,hf1⟩
 have HC1:Hid (Chg (fun c=>c=bI) w w1):=hc1
 have HF1:Hid (FsS w1 bI n cI bD 20 cD (qaH d j (qaO (qac d j) k)) (fun c=>F c∨w.heap.size≤c)):=hf1
 clear hc1 hf1
 go_wp2_with fail
 refine (HLS.out w1 _ (HC1.out.cellOf H0.out hoI) (HC1.out.cellOf H1.out hoI) HF1.out (fun hh=>hh.elim HFO.out (fun h=>by omega))).mono ?_
 rintro e w2 ⟨rfl,hc2,hf2⟩
 have HC2:Hid (Chg (fun c=>c=bI∨c=bD) w w2):= (HC1.out.mono fun c h=>Or.inl h).trans hc2
 have HF2:Hid (FsS w2 bI n cI bD 20 cD (qdk d j k) (fun c=>F c∨w.heap.size≤c)):=hf2
 have p0:=HC2.out.cellOf H0.out (fun h=>h.elim hoI hoD)
 obtain ⟨aB,cB,aE,cE,c0,c1,c2,c3,c4,-,hfr,-⟩:=hf2.ino z hzn
 have f0:=hfr (z*5)
 have f1:=hfr (z*5+1)
 have f2:=hfr (z*5+2)
 have f3:=hfr (z*5+3)
 have f4:=hfr (z*5+4)
 clear hc2 hf2 hfr HT HLS HF1 HC1
 generalize qdk d j k=D at*
 by_cases hk2: (D.1[z]?.getD id0).1=2
 · have hkb: ((D.1[z]?.getD id0).1==2)=true:=by simpa using hk2
   have HE:Hid (RES= (D.1.set z id0,D.2)):=by unfold Hid;rw [HGD.out];exact if_pos hk2
   have HN:Hid (FsS (qcB w2 bI (z*5) (.int .i64 0) (.int .i64 0) (.int .i64 0) (.slice none 0 0) (.slice none 0 0)) bI n cI bD 20 cD (D.1.set z id0,D.2) (fun c=>F c∨w.heap.size≤c)):= (qp9 (G:=fun _=>False) HF2.out z hzn id0 (.slice none 0 0) (.slice none 0 0) (qfx _ _) (fun c hc=>hc.elim)).mono fun c hc=>hc.elim id False.elim
   have HC:Hid (Chg (fun c=>c=bI∨c=bD) w (qcB w2 bI (z*5) (.int .i64 0) (.int .i64 0) (.int .i64 0) (.slice none 0 0) (.slice none 0 0))):=HC2.out.trans ((qi1 _ _ _ _ _ _ _ _).mono fun c h=>Or.inl h)
   clear hk2
   generalize (D.1[z]?.getD id0).1=kd at*
   go_wp2
   go_end0
   exact ⟨rfl,HC.out,by rw [HE.out];exact HN.out⟩
 · have hkb: ((D.1[z]?.getD id0).1==2)=false:=by simpa using hk2
   have HE:Hid (RES=D):=by unfold Hid;rw [HGD.out];exact if_neg hk2
   clear hk2
   generalize (D.1[z]?.getD id0).1=kd at*
   go_wp2
   go_end0
   exact ⟨rfl,HC2.out,by rw [HE.out];exact HF2.out⟩
end Go.Proofs.YthnmlipnoajmkaaGreatDoor

namespace Go.Proofs.YthnmlipnoajmkaaGreatDoor
open Go.RowKit
set_option maxRecDepth 100000

theorem qoP {l:List Int} {k:Nat} {a:Int} {p:Int→Bool} (h:l[k]?=some a): (l.drop k).any p= (p a|| (l.drop (k+1)).any p):=by
 obtain ⟨hk,e⟩:=List.getElem?_eq_some_iff.1 h
 rw [List.drop_eq_getElem_cons hk,e];rfl
set_option maxHeartbeats 3200000 in
theorem qi9 (b:Nat) (d:FD) (b0 o0 cI:Nat) (aD:Option Addr) (cD:Nat) (x:Int) (hok:FsOk d):
 ∀ (k:Nat),k≤10→ ∀ (t:Nat),t<d.1.length→ ∀ (w:World),FsX w b 0 d (some ⟨b0,o0,none⟩) cI aD cD→
  Calls Tryz.prog 44 #[.pointer (some ⟨b,0,none⟩), .int .i64 x, .int .i64 (t:Int), .int .i64 (k:Int)] w fun e w'=>e= .returned (.bool (qca (qai d.1) x k (t:Int)))∧w'=w:=by
 intro k
 induction k with
 | zero=>
   intro _ t ht w _
   have HR:Hid (qca (qai d.1) x 0 (t:Int)=decide (x= (t:Int))):=rfl
   rw [HR.out]
   by_cases he:x= (t:Int)
   · rw [decide_eq_true he]
     have hb: (x== (t:Int))=true:=by simpa using he
     clear he HR
     go_enter Tryz.func44,Tryz.ntmps44
     go_wp2
     go_ret
     exact ⟨rfl,rfl⟩
   · rw [decide_eq_false he]
     have hb: (x== (t:Int))=false:=by simpa using he
     have hg:decide ((0:Int)< ((0:Nat):Int))=false:=by simp
     clear he HR
     go_enter Tryz.func44,Tryz.ntmps44
     go_wp2_with fail
     refine wp_loop_rounds 1 ?_
     rw [rounds_succ]
     go_wp2
     go_ret
     exact ⟨rfl,rfl⟩
 | succ k ih=>
   intro hk10 t ht w hx
   have HR:Hid (qca (qai d.1) x (k+1) (t:Int)= (decide (x= (t:Int))|| (qai d.1 t).any fun y=>qca (qai d.1) x k y)):=rfl
   rw [HR.out]
   clear HR
   by_cases he:x= (t:Int)
   · rw [decide_eq_true he,Bool.true_or]
     have hb: (x== (t:Int))=true:=by simpa using he
     clear he
     go_enter Tryz.func44,Tryz.ntmps44
     go_wp2
     go_ret
     exact ⟨rfl,rfl⟩
   · rw [decide_eq_false he,Bool.false_or]
     have hb: (x== (t:Int))=false:=by simpa using he
     have HIH:Hid (∀t':Nat,t'<d.1.length→Calls Tryz.prog 44 #[.pointer (some ⟨b,0,none⟩), .int .i64 x, .int .i64 (t':Int), .int .i64 (k:Int)] w fun e w'=>e= .returned (.bool (qca (qai d.1) x k (t':Int)))∧w'=w):=fun t' h'=>ih (by omega) t' h' w hx
     obtain ⟨f0,-,hI,-⟩:=hx
     obtain ⟨_,_,e1,-,hAt⟩:=hI.open'
     simp only [Value.slice.injEq] at e1
     obtain ⟨rfl,-,rfl⟩:=e1
     obtain ⟨_,_,e2,hIt⟩:=hAt t ht
     simp only [Option.some.injEq,Addr.mk.injEq,and_true] at e2
     obtain ⟨rfl,rfl⟩:=e2
     obtain ⟨aB,cB,aE,cE,-,-,-,-,c4,h5⟩:=hIt
     obtain ⟨_,_,e3,-,-,hEt⟩:=h5.2.2.open'
     simp only [Value.slice.injEq] at e3
     obtain ⟨rfl,-,rfl⟩:=e3
     have HAT:Hid (AtN w aE (d.1[t]?.getD id0).2.2.2.2.length (d.1[t]?.getD id0).2.2.2.2):=hEt
     have HGET:Hid (∀q,q< (d.1[t]?.getD id0).2.2.2.2.length→ (qai d.1 t)[q]?=some ((d.1[t]?.getD id0).2.2.2.2[q]?.getD en0).2):=fun q hq=>qeT hq
     have HLEN:Hid ((qai d.1 t).length= (d.1[t]?.getD id0).2.2.2.2.length):=qdH d.1 t
     have HRNG:Hid (∀y∈qai d.1 t,0≤y∧y< (d.1.length:Int)):=hok.rng t ht
     have hnE: (d.1[t]?.getD id0).2.2.2.2.length≤6:=by have:=hok.six t;rw [HLEN.out] at this;exact this
     have hten:=hok.ten
     obtain ⟨K,hK⟩: ∃K,k+1=K:= ⟨_,rfl⟩
     rw [hK]
     have hKm: (K:Int)-1= (k:Int):=by omega
     have hKp:decide (0< (K:Int))=true:=decide_eq_true (by omega)
     have hK10: (K:Int)≤10:=by omega
     have htI: (t:Int)< ((d.1.length:Nat):Int):=by omega
     clear ih hI hAt h5 hEt he hok hK
     generalize qai d.1 t=E at*
     generalize hes: (d.1[t]?.getD id0).2.2.2.2=es at*
     clear hes
     generalize hnn:es.length=nE at*
     clear hnn
     obtain ⟨RES,hRES⟩: ∃RES,(E.any fun y=>qca (qai d.1) x k y)=RES:= ⟨_,rfl⟩
     have HRES:Hid ((E.any fun y=>qca (qai d.1) x k y)=RES):=hRES
     rw [hRES]
     clear hRES
     generalize d.1.length=n at*
     go_enter Tryz.func44,Tryz.ntmps44
     go_wp2_with fail
     go_loop [9] (fun i=> ∃q:Nat,q≤nE∧i= .int .i64 q∧ (E.drop q).any (fun y=>qca (qai d.1) x k y)=RES) (fun i=>nE- (intOf i).toNat)
     case atStart=>exact ⟨0,Nat.zero_le _,rfl,HRES.out⟩
     case round=>
      obtain ⟨q,hq,rfl,hz⟩:=hrel
      have HZ:Hid ((E.drop q).any (fun y=>qca (qai d.1) x k y)=RES):=hz
      clear hz
      by_cases hlt:q<nE
      · have hg:=HGET.out q hlt
        have hr:=HRNG.out _ (List.mem_of_getElem? hg)
        have hst:=qoP (p:=fun y=>qca (qai d.1) x k y) hg
        obtain ⟨b1,o1,rfl,-,d1⟩:=HAT.out q hlt
        generalize (es[q]?.getD en0).2=y at*
        obtain ⟨u,rfl⟩: ∃u:Nat,y= (u:Int):= ⟨y.toNat,by omega⟩
        have HC:=HIH.out u (by omega)
        have HST:Hid (RES= (qca (qai d.1) x k (u:Int)|| (E.drop (q+1)).any fun y=>qca (qai d.1) x k y)):=by
         unfold Hid;rw [←HZ.out,hst]
        cases hw:qca (qai d.1) x k (u:Int) with
        | true=>
          rw [hw] at HC HST
          have HR:Hid (RES=true):=by unfold Hid;rw [HST.out,Bool.true_or]
          have HCC:Hid (Calls Tryz.prog 44 _ w _):=HC
          clear HC hw hst hg HZ HST
          go_wp2_with fail
          refine HCC.out.mono ?_
          rintro e w2 ⟨rfl,rfl⟩
          go_wp2
          go_ret
          exact ⟨qaB HR.out.symm,rfl⟩
        | false=>
          rw [hw] at HC HST
          have HR:Hid ((E.drop (q+1)).any (fun y=>qca (qai d.1) x k y)=RES):=by unfold Hid;rw [HST.out,Bool.false_or]
          have HCC:Hid (Calls Tryz.prog 44 _ w _):=HC
          clear HC hw hst hg HZ HST
          go_wp2_with fail
          refine HCC.out.mono ?_
          rintro e w2 ⟨rfl,rfl⟩
          go_wp2
          go_round
          case rel=>exact ⟨q+1,by omega,by go_num,HR.out⟩
          case measure=>simp [intOf];omega
      · have HR:Hid (RES=false):=by
         unfold Hid
         rw [←HZ.out,List.drop_of_length_le (by rw [HLEN.out];omega)];rfl
        go_wp2
        go_ret
        exact ⟨qaB HR.out.symm,rfl⟩
end Go.Proofs.YthnmlipnoajmkaaGreatDoor
