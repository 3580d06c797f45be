/- The specification's RenamePath;the size of what it answers. From the reading of an argument to the lists that it holds. No program is named here. What the rows of this seat share:how a disk that came in is opened. How inodes that came in are opened. How lists of inodes that came in are opened. How file systems that came in are opened. What a row that lists errors.errorType gives a walk;a world that meets it. After the kit's worked toy of errors.As. -/
import Derived.Test.YthnmlipnoajmkaaGreatDoorM28
import Derived.Test.YthnmlipnoajmkaaGreatDoorM00
import Derived.ProofKit
import Derived.Deep.Slices
import Derived.Deep.SlicePairs
import Derived.Lib.SmallJoins
import Derived.Test.YthnmlipnoajmkaaGreatDoorRows
import Derived.Test.YthnmlipnoajmkaaGreatDoorM03
import Derived.Test.YthnmlipnoajmkaaGreatDoorM04
import Derived.Test.YthnmlipnoajmkaaGreatDoorM05
import Derived.Test.YthnmlipnoajmkaaGreatDoorM19
import Derived.ChangeSame
import Derived.ChangeVars
import Derived.JoinedOf
import Derived.LaidLaws
import Derived.LaidHandle
import Derived.Stop.Joined
namespace Go.Proofs.YthnmlipnoajmkaaGreatDoor
open Go.RowKit
set_option maxRecDepth 100000

structure Smol (d:FD):Prop where
 ino: ∀i:Nat,qaF (d.1[i]?.getD id0)≤16
 ten:d.1.length≤10
 eight: ∀i:Nat,(d.2[i]?.getD []).length≤8
 dat:d.2.length=20
theorem Smol.span {d:FD} (h:Smol d):spanFs d≤1000:=by
 have e3:=qaQ h.ino
 have e2:=qbq h.eight
 have h1:=h.ten
 have h2:=h.dat
 unfold spanFs
 omega
theorem Smol.of {d:FD} {j:Nat} (h:DirS d j):Smol d:= ⟨qgb h.ins,h.ten,h.eight,h.dat⟩
theorem Smol.ent {d:FD} (h:Smol d) (j:Nat) (es:List EN) (he:es.length≤8):Smol (qaH d j es):=
 ⟨qcb h.ino j _ (by unfold qaF;simp only [List.length_nil];omega),by rw [qcl];exact h.ten,h.eight,h.dat⟩
theorem Smol.lnk {d:FD} (h:Smol d) (j:Nat) (l:Int):Smol (qcO d j l):=
 ⟨qcb h.ino j _ (by have:=h.ino j;unfold qaF at this ⊢;exact this),by show (d.1.set _ _).length≤10;rw [List.length_set];exact h.ten,h.eight,h.dat⟩
theorem Smol.zero {d:FD} (h:Smol d) (z:Nat):Smol (d.1.set z id0,d.2):=
 ⟨qcb h.ino z _ (by simp [qaF,id0]),by show (d.1.set _ _).length≤10;rw [List.length_set];exact h.ten,h.eight,h.dat⟩
theorem Smol.drop {d:FD} (h:Smol d) (z:Nat):Smol (qc6 d z):=
 ⟨qcb h.ino z _ (by simp [qaF,id0]),by show (d.1.set _ _).length≤10;rw [List.length_set];exact h.ten,qhv h.eight _ _,by show (qeE _ _ _).length=20;rw [qch];exact h.dat⟩
theorem Smol.unl {d:FD} (h:Smol d) (z:Nat):Smol (qgs d z):=by
 unfold qgs
 split
 · exact h.lnk _ _
 · split
   · exact h.drop _
   · exact h
theorem qnF (es:List EN) (k:Nat): (qaO es k).length≤es.length:=by
 unfold qaO
 rw [List.length_append,List.length_take,List.length_drop]
 omega
theorem Smol.del {d:FD} (h:Smol d) (j k:Nat) (h6: (qac d j).length≤6):Smol (qdk d j k):=by
 have:=qnF (qac d j) k
 unfold qdk
 split
 · exact (h.ent _ _ (by omega)).unl _
 · exact h.ent _ _ (by omega)
theorem Smol.gone {d:FD} (h:Smol d) (j k z:Nat) (h6: (qac d j).length≤6):Smol (qda d j k z):=by
 unfold qda
 split
 · exact (h.del j k h6).zero z
 · exact h.del j k h6
theorem qoR {d:FD} {j tj z:Nat} {s t:ByteArray} (ht:DirS d tj) (hr:RenS d (qaq d tj t) j s tj):Smol (qdu d j s tj t z):=by
 have h1:Smol (qaq d tj t):=by
  unfold qaq
  split
  · exact (Smol.of ht).gone _ _ _ ht.six
  · exact Smol.of ht
 unfold qdu qpb
 have h2:=qnF (qac (qaq d tj t) j) (idxE (qac (qaq d tj t) j) s)
 have h3:=hr.six
 have h4:=hr.six2
 refine (h1.ent _ _ (by omega)).ent _ _ ?_
 rw [qkW]
 omega
theorem qnG (d:FD) (s t:ByteArray):spanCR (qny d s t).2≤1000:=by
 unfold qny
 split
 · rename_i hf
   unfold qlV
   split
   · rename_i hp
     obtain ⟨j,h1,h2,h3,h4⟩:=qfz hf hp
     rw [h1,Int.toNat_natCast]
     split
     · rename_i hh
       split
       · rename_i hq
         obtain ⟨tj,g1,g2,g3,g4⟩:=qfz hf hq
         rw [g1,Int.toNat_natCast]
         unfold qhP
         split
         · exact qck hf _
         · rename_i hn
           obtain ⟨z,hz,-,-⟩:=qgc h3 hh
           have hr:RenS d (qaq d tj (qaP t)) j (qaP s) tj:=qpd (z:=z) h3 g3 hz hh (by
            have:=Classical.byContradiction fun hc=>hn (Or.inl hc)
            rw [hz,Int.toNat_natCast] at this
            exact this) (fun hc=>hn (Or.inr hc))
           exact Nat.le_trans (Nat.le_of_eq (by simp [spanCR])) (qoR (z:= (atE d j (qaP s)).toNat) g3 hr).span
       · exact qck hf _
     · exact qck hf _
   · exact qck hf _
 · rw [qi3];omega
set_option maxHeartbeats 3200000 in
theorem qoS (w:World) (a1:Option Addr) (n1 c1:Nat) (a2:Option Addr) (n2 c2:Nat) (d:FD) (s t:ByteArray) (h:FsR w (.slice a1 n1 c1) (.slice a2 n2 c2) d) (hs:sizeFs d≤1048576) (hl:s.size≤1048576) (ht:t.size≤1048576):
 Calls Tryz.prog 5 #[.agg #[.slice a1 n1 c1, .slice a2 n2 c2], .string s, .string t] w (qaN w (qny d s t)):=by
 have hrn:qny d s t=if fsF d=0 then qlV d s t else qnQ (fsF d):=rfl
 obtain ⟨hx0,-,-⟩:=FsX.box h 31
 have HF:Hid (∀W,FsX W w.heap.size 0 d a1 c1 a2 c2→Calls Tryz.prog 15 #[.pointer (some ⟨w.heap.size,0,none⟩)] W fun e w'=>e= .returned (.int .i64 (fsF d))∧Below W.heap.size W w'):=fun W hW=> (qj8 W _ _ d _ _ _ _ hW (by unfold sizeFs at hs;omega)).mono fun _ _ hh=>hh
 have HIN:Hid (fsF d=0→ ∀W,Below w.heap.size w W→Calls Tryz.prog 16 #[.agg #[.slice a1 n1 c1, .slice a2 n2 c2], .string s, .string t] W (qaN W (qlV d s t))):=fun hf W hW=>qhT W _ _ _ _ _ _ d s t (h.later hW) hs hl ht hf
 obtain ⟨RES,hRES⟩: ∃r,qny d s t=r:= ⟨_,rfl⟩
 rw [hRES] at hrn ⊢
 have HRN:Hid (RES=if fsF d=0 then qlV d s t else qnQ (fsF d)):=hrn
 have HB0:Hid (Below w.heap.size w ((w.alloc (.cells #[.slice a1 n1 c1, .slice a2 n2 c2] 31)).alloc (.cells #[.int .i64 0, .int .i64 0, .int .i64 0, .slice none 0 0, .slice none 0 0, .slice none 0 0, .slice none 0 0] 33))):=qam _ _ _
 have HX0:Hid (Bx ((w.alloc (.cells #[.slice a1 n1 c1, .slice a2 n2 c2] 31)).alloc (.cells #[.int .i64 0, .int .i64 0, .int .i64 0, .slice none 0 0, .slice none 0 0, .slice none 0 0, .slice none 0 0] 33)) w.heap.size [.slice a1 n1 c1, .slice a2 n2 c2]):= (Bx.new w [.slice a1 n1 c1, .slice a2 n2 c2] _).later (qab _ _)
 have HR0:Hid (qaa ((w.alloc (.cells #[.slice a1 n1 c1, .slice a2 n2 c2] 31)).alloc (.cells #[.int .i64 0, .int .i64 0, .int .i64 0, .slice none 0 0, .slice none 0 0, .slice none 0 0, .slice none 0 0] 33)) (w.heap.size+1) 7 (cel qbm)):=by
  have p2:=qrt (w.alloc (.cells #[.slice a1 n1 c1, .slice a2 n2 c2] 31)) 33
  rw [World.size_alloc] at p2
  exact p2
 have HFX0:Hid (FsX ((w.alloc (.cells #[.slice a1 n1 c1, .slice a2 n2 c2] 31)).alloc (.cells #[.int .i64 0, .int .i64 0, .int .i64 0, .slice none 0 0, .slice none 0 0, .slice none 0 0, .slice none 0 0] 33)) w.heap.size 0 d a1 c1 a2 c2):=hx0.later (qab _ _)
 clear hRES hrn h hs hl ht hx0
 generalize fsF d=fc at*
 go_enter Tryz.func5,Tryz.ntmps5
 go_wp2_with fail
 generalize ((w.alloc (.cells #[.slice a1 n1 c1, .slice a2 n2 c2] 31)).alloc (.cells #[.int .i64 0, .int .i64 0, .int .i64 0, .slice none 0 0, .slice none 0 0, .slice none 0 0, .slice none 0 0] 33))=W0 at*
 refine (HF.out _ HFX0.out).mono ?_
 rintro e w1 ⟨rfl,hb⟩
 have HB1:Hid (Below w.heap.size w w1):=HB0.out.trans (hb.mono HB0.out.size)
 have HX1:Hid (Bx w1 w.heap.size [.slice a1 n1 c1, .slice a2 n2 c2]):=HX0.out.later hb
 have HR1:Hid (qaa w1 (w.heap.size+1) 7 (cel qbm)):=HR0.out.later hb
 have HFX1:Hid (FsX w1 w.heap.size 0 d a1 c1 a2 c2):=HFX0.out.later hb
 clear hb
 by_cases hfc:fc=0
 · have hfb: (fc !=0)=false:=by simpa using hfc
   have HE:Hid (RES=qlV d s t):=by unfold Hid;rw [HRN.out,if_pos hfc]
   have HI:Hid (∀W,Below w.heap.size w W→Calls Tryz.prog 16 #[.agg #[.slice a1 n1 c1, .slice a2 n2 c2], .string s, .string t] W (qaN W (qlV d s t))):=HIN.out hfc
   clear hfc HIN HRN HF
   have xHX0:=HX1.out 0 _ rfl
   have xHX1:=HX1.out 1 _ rfl
   go_wp2_with fail
   clear xHX0 xHX1
   refine (HI.out _ HB1.out).mono ?_
   rintro e u ⟨y1,y2,b3,m3,k3,b4,m4,k4,b5,m5,k5,b6,m6,k6,rfl,hb,hu⟩
   have hrr:=HR1.out.later hb
   have hlr:w.heap.size+1<w1.heap.size:=HR1.out.lt
   have HBU:Hid (Below w1.heap.size w1 u):=hb
   have HCU:Hid (qap u (.int .i64 y1) (.int .i64 y2) (.slice b3 m3 k3) (.slice b4 m4 k4) (.slice b5 m5 k5) (.slice b6 m6 k6) (qlV d s t).2 (qaj w1 u)):=hu
   have t0:u.cell? ⟨w.heap.size+1,0,none⟩=some (.int .i64 0):=hrr.cell (i:=0) (by omega)
   have t1:u.cell? ⟨w.heap.size+1,1,none⟩=some (.int .i64 0):=hrr.cell (i:=1) (by omega)
   have t2:u.cell? ⟨w.heap.size+1,2,none⟩=some (.int .i64 0):=hrr.cell (i:=2) (by omega)
   have t3:u.cell? ⟨w.heap.size+1,3,none⟩=some (.slice none 0 0):=hrr.cell (i:=3) (by omega)
   have t4:u.cell? ⟨w.heap.size+1,4,none⟩=some (.slice none 0 0):=hrr.cell (i:=4) (by omega)
   have t5:u.cell? ⟨w.heap.size+1,5,none⟩=some (.slice none 0 0):=hrr.cell (i:=5) (by omega)
   have t6:u.cell? ⟨w.heap.size+1,6,none⟩=some (.slice none 0 0):=hrr.cell (i:=6) (by omega)
   have s0:=hrr.frozen 0
   have s1:=hrr.frozen 1
   have s2:=hrr.frozen 2
   have s3:=hrr.frozen 3
   have s4:=hrr.frozen 4
   have s5:=hrr.frozen 5
   have s6:=hrr.frozen 6
   clear hb hu hrr
   go_wp2
   exact bodyPost_ret (v:= .agg #[.int .i64 (qlV d s t).1, .int .i64 y1, .int .i64 y2, .slice b3 m3 k3, .slice b4 m4 k4, .slice b5 m5 k5, .slice b6 m6 k6]) (by simp [results,Tryz.results5,go_sem,t0,t1,t2,t3,t4,t5,t6]) rfl (by rw [HE.out];exact qaN.pass HB1.out (by omega) hlr HBU.out HCU.out _ _ _ _ _ _ _)
 · have hfb: (fc !=0)=true:=by simpa using hfc
   have HE:Hid (RES=qnQ fc):=by unfold Hid;rw [HRN.out,if_neg hfc]
   have hrr:=HR1.out
   have hlw:w.heap.size+1<w1.heap.size:=hrr.lt
   clear hfc HIN HRN HF
   have t0:w1.cell? ⟨w.heap.size+1,0,none⟩=some (.int .i64 0):=hrr.cell (i:=0) (by omega)
   have t1:w1.cell? ⟨w.heap.size+1,1,none⟩=some (.int .i64 0):=hrr.cell (i:=1) (by omega)
   have t2:w1.cell? ⟨w.heap.size+1,2,none⟩=some (.int .i64 0):=hrr.cell (i:=2) (by omega)
   have t3:w1.cell? ⟨w.heap.size+1,3,none⟩=some (.slice none 0 0):=hrr.cell (i:=3) (by omega)
   have t4:w1.cell? ⟨w.heap.size+1,4,none⟩=some (.slice none 0 0):=hrr.cell (i:=4) (by omega)
   have t5:w1.cell? ⟨w.heap.size+1,5,none⟩=some (.slice none 0 0):=hrr.cell (i:=5) (by omega)
   have t6:w1.cell? ⟨w.heap.size+1,6,none⟩=some (.slice none 0 0):=hrr.cell (i:=6) (by omega)
   have s0:=hrr.frozen 0
   have s1:=hrr.frozen 1
   have s2:=hrr.frozen 2
   have s3:=hrr.frozen 3
   have s4:=hrr.frozen 4
   have s5:=hrr.frozen 5
   have s6:=hrr.frozen 6
   clear hrr
   go_wp2
   exact bodyPost_ret (v:= .agg #[.int .i64 fc, .int .i64 0, .int .i64 0, .slice none 0 0, .slice none 0 0, .slice none 0 0, .slice none 0 0]) (by simp [results,Tryz.results5,go_sem,t0,t1,t2,t3,t4,t5,t6]) rfl (by rw [HE.out];exact qaN.no fc HB1.out (by omega) _ _ _ _ _ _ _)

end Go.Proofs.YthnmlipnoajmkaaGreatDoor

namespace Go.Proofs.YthnmlipnoajmkaaGreatDoor
open Go.ChangeShapes Go.WideShapes Go.ChangeAt Go.RowKit Go.Deep
set_option maxRecDepth 100000

section
variable {H:Type} {enc:TypeId×Value→H} {P:Program} {w:World} {base:Nat} {held:Bool}

theorem qd7 {a:Addr} {v:Value} (h:w.cell? (a.add 0)=some v):a= ⟨a.block,a.off,none⟩:=by
 obtain ⟨b,o,s⟩:=a
 have:s=none:=by simpa [Addr.add] using World.cell?_spot h
 subst this;rfl
theorem qcm (b off k:Nat): (⟨b,off,none⟩:Addr).add k= ⟨b,off+k,none⟩:=by
 by_cases h:k=0
 · subst h;simp [Addr.add]
 · simp [Addr.add,h]

theorem qeD {t e:TypeId} {fuel:Nat} {v:Value} {x:DataW H×List MemPlace} (ht:P.underlying t=some (.slice e)) (he:P.underlying e=some (.int .i64)) (ce:P.cellsOf e=1) (h:DataW.trod enc P w base (fun _=>true) held fuel t [v]=some x):
 ∃zs,qb1 w v zs:=by
 rcases open_ints ht he ce h with ⟨hcs,_⟩| ⟨a,len,cap,zs,hcs,_,hl,hm,hz,_,hcell,_⟩
 · simp only [List.cons.injEq,and_true] at hcs
   exact ⟨[],Or.inl ⟨rfl,none,0,hcs⟩⟩
 · simp only [List.cons.injEq,and_true] at hcs
   simp only [if_true] at hz
   by_cases h0:len=0
   · subst h0;exact ⟨[],Or.inl ⟨rfl,some a,cap,hcs⟩⟩
   · have ha:=qd7 (hcell 0 (by omega))
     refine ⟨zs.take len,Or.inr ⟨a.block,a.off,cap, ?_, ?_,fun k hk=> ?_⟩⟩
     · rw [hcs,List.length_take,Nat.min_eq_left (by omega),←ha]
     · rw [List.length_take];omega
     · rw [List.length_take] at hk
       have h1:=hcell k (by omega)
       rw [ha,qcm] at h1
       rw [h1,List.getElem?_take,if_pos (by omega)]
       rfl

theorem qqN {t e q:TypeId} {fuel:Nat} {v:Value} {x:DataW H×List MemPlace} (ht:P.underlying t=some (.slice e)) (he:P.underlying e=some (.slice q)) (hq:P.underlying q=some (.int .i64)) (ce:P.cellsOf e=1) (cq:P.cellsOf q=1)
 (h:DataW.trod enc P w base (fun _=>true) held fuel t [v]=some x): ∃zss,qfd w v zss:=by
 rcases open_slice1 ht ce h with ⟨hcs,_⟩| ⟨a,len,cap,m,n,V,D,Pl,hcs,_,hl,hm,hmm,_,hx⟩
 · simp only [List.cons.injEq,and_true] at hcs
   exact ⟨[],Or.inl ⟨rfl,none,0,hcs⟩⟩
 · simp only [List.cons.injEq,and_true] at hcs
   simp only [if_true] at hmm
   by_cases h0:len=0
   · subst h0;exact ⟨[],Or.inl ⟨rfl,some a,cap,hcs⟩⟩
   · have ha:=qd7 (hx 0 (by omega)).1
     obtain ⟨Z,hZ⟩:=choose_lt (α:=List Int) (n:=m) (p:=fun i zs=>qb1 w (V i) zs) fun i hi=>qeD he hq cq (hx i hi).2
     refine ⟨(List.range len).map Z,Or.inr ⟨a.block,a.off,cap,V, ?_, ?_,fun k hk=> ?_⟩⟩
     · simp only [List.length_map,List.length_range];rw [hcs,←ha]
     · simp only [List.length_map,List.length_range];omega
     · simp only [List.length_map,List.length_range] at hk
       have h1:= (hx k (by omega)).1
       rw [ha,qcm] at h1
       refine ⟨h1, ?_⟩
       have:=hZ k (by omega)
       simpa [hk] using this

theorem qrG {t e q:TypeId} {f0 f1:Field} {fuel:Nat} {v:Value} {x:DataW H×List MemPlace} (ht:P.underlying t=some (.slice e)) (he:P.underlying e=some (.struct #[f0,f1]))
 (ce:P.cellsOf e=2) (o0:f0.offset=0) (o1:f1.offset=1) (c0:P.cellsOf f0.type=1) (c1:P.cellsOf f1.type=1) (h0:P.underlying f0.type=some (.int .i64)) (h1:P.underlying f1.type=some (.slice q)) (hq:P.underlying q=some (.int .i64)) (cq:P.cellsOf q=1)
 (h:DataW.trod enc P w base (fun _=>true) held fuel t [v]=some x): ∃ps,qlX w v ps:=by
 rcases open_slice_pairs ht he ce o0 o1 c0 c1 h with ⟨hcs,_⟩| ⟨a,len,cap,m,n,V0,V1,D0,D1,P0,P1,hcs,_,hl,hm,hmm,_,hx⟩
 · simp only [List.cons.injEq,and_true] at hcs
   exact ⟨[],Or.inl ⟨rfl,none,0,hcs⟩⟩
 · simp only [List.cons.injEq,and_true] at hcs
   simp only [if_true] at hmm
   by_cases hl0:len=0
   · subst hl0;exact ⟨[],Or.inl ⟨rfl,some a,cap,hcs⟩⟩
   · have ha:=qd7 (by simpa using (hx 0 (by omega)).1)
     obtain ⟨Z,hZ⟩:=choose_lt (α:=Int×List Int) (n:=m) (p:=fun i z=>V0 i= .int .i64 z.1∧qb1 w (V1 i) z.2) fun i hi=>by
      obtain ⟨_,_,g0,g1⟩:=hx i hi
      obtain ⟨zs,hzs⟩:=qeD h1 hq cq g1
      obtain ⟨y,hy,_⟩:=DataW.trod_int h0 g0
      simp only [List.cons.injEq,and_true] at hy
      exact ⟨(y,zs),hy,hzs⟩
     refine ⟨(List.range len).map Z,Or.inr ⟨a.block,a.off,cap,V1, ?_, ?_,fun k hk=> ?_⟩⟩
     · simp only [List.length_map,List.length_range];rw [hcs,←ha]
     · simp only [List.length_map,List.length_range];omega
     · simp only [List.length_map,List.length_range] at hk
       obtain ⟨e0,e1,_,_⟩:=hx k (by omega)
       rw [ha,qcm] at e0 e1
       obtain ⟨g0,g1⟩:=hZ k (by omega)
       rw [g0] at e0
       have hg: ((List.range len).map Z)[k]?.getD (0, [])=Z k:=by simp [hk]
       rw [hg]
       exact ⟨e0,e1,g1⟩
end

end Go.Proofs.YthnmlipnoajmkaaGreatDoor

namespace Go.Proofs.YthnmlipnoajmkaaGreatDoor
open Go.ChangeShapes Go.WideShapes Go.ChangeAt Go.RowKit Go.Joins
set_option maxRecDepth 100000

theorem Tryz.own:ownKnob Tryz.prog.godebug=none:=by kernel_rfl
theorem Tryz.laidOut:laidOutB Tryz.prog=true:=by kernel_rfl
theorem Tryz.cellsInt:Tryz.prog.cellsOf 2=1:=by kernel_rfl
theorem Tryz.cellsInts:Tryz.prog.cellsOf 64=1:=by kernel_rfl

end Go.Proofs.YthnmlipnoajmkaaGreatDoor

namespace Go.Proofs.YthnmlipnoajmkaaGreatDoor
open Go.ChangeShapes Go.WideShapes Go.ChangeAt Go.RowKit Go.Joins Go.Deep
set_option maxRecDepth 100000

theorem qjb {H:Type} {enc:TypeId×Value→H} {P:Program} {w:World} {base:Nat} {held:Bool} {t e:TypeId} {f0 f1:Field} {fuel:Nat} {v:Value} {x:DataW H×List MemPlace} (ht:P.underlying t=some (.slice e)) (he:P.underlying e=some (.struct #[f0,f1]))
 (ce:P.cellsOf e=2) (o0:f0.offset=0) (o1:f1.offset=1) (c0:P.cellsOf f0.type=1) (c1:P.cellsOf f1.type=1) (h0:P.underlying f0.type=some .string) (h1:P.underlying f1.type=some (.int .i64))
 (h:DataW.trod enc P w base (fun _=>true) held fuel t [v]=some x): ∃es,qdw w v es:=by
 rcases open_slice ht h with ⟨hcs,_⟩| ⟨a,len,cap,m,n,D,Pl,hcs,hb,hl,hm,hmm,_,hx⟩
 · simp only [List.cons.injEq,and_true] at hcs
   exact ⟨[],by rw [hcs];exact qdw.nil w none 0⟩
 · simp only [List.cons.injEq,and_true] at hcs
   simp only [if_true] at hmm
   by_cases hl0:len=0
   · subst hl0;exact ⟨[],by rw [hcs];exact qdw.nil w (some a) cap⟩
   · have each: ∀i,i<m→ ∃q:EN,w.cell? (a.add (i*2))=some (.string q.1)∧w.cell? (a.add (i*2+1))=some (.int .i64 q.2)∧q.1.size≤maxLen:=by
      intro i hi
      obtain ⟨cs',k1,k2⟩:=hx i hi
      rw [ce] at k1
      obtain ⟨_,hlen,hcell⟩:=World.cells?_some k1
      obtain ⟨xs,k,hk,hxy,_,hxl,hf⟩:=DataW.trod_struct he k2
      match xs,hxl,cs',hlen with
      | [y0,y1],_, [v0,v1],_=>
        have g0:=hf 0 f0 rfl
        have g1:=hf 1 f1 rfl
        simp [o0,o1,c0,c1] at g0 g1
        have e0:=hcell 0 (by omega)
        have e1:=hcell 1 (by omega)
        rw [add_add] at e0 e1
        obtain ⟨z0,hz0,_,hs⟩:=DataW.trod_string h0 g0
        obtain ⟨z1,hz1,_⟩:=DataW.trod_int h1 g1
        simp only [List.cons.injEq,and_true] at hz0 hz1
        subst hz0 hz1
        exact ⟨(z0,z1),by simpa using e0,by simpa using e1,hs⟩
     obtain ⟨q,hq⟩:=choose_lt each
     have ha:=qd7 (by simpa using (hq 0 (by omega)).1)
     refine ⟨(List.range len).map q,some a,cap, ?_, ?_,fun k hk=> ?_⟩
     · simp only [List.length_map,List.length_range];exact hcs
     · simp only [List.length_map,List.length_range]
       refine ⟨by omega,by omega,fun k=> ?_⟩
       by_cases hk:k<len
       · have hg: ((List.range len).map q)[k]?.getD en0=q k:=by simp [hk]
         rw [hg]
         exact (hq k (by omega)).2.2
       · rw [List.getElem?_eq_none (by simpa using Nat.le_of_not_lt hk)]
         simp [en0,ByteArray.size]
     · simp only [List.length_map,List.length_range] at hk
       obtain ⟨e0,e1,_⟩:=hq k (by omega)
       rw [ha,qcm] at e0 e1
       have hg: ((List.range len).map q)[k]?.getD en0=q k:=by simp [hk]
       rw [hg]
       exact ⟨a.block,a.off,by rw [←ha],e0,e1⟩

theorem qk2 {H:Type} {enc:TypeId×Value→H} {P:Program} {w:World} {base:Nat} {held:Bool} {t e:TypeId} {fuel:Nat} {v:Value} {x:DataW H×List MemPlace} (ht:P.underlying t=some (.slice e)) (h:DataW.trod enc P w base (fun _=>true) held fuel t [v]=some x):qlf v:=by
 rcases DataW.trod_slice ht h with ⟨hcs,_⟩| ⟨a,len,cap,_,_,_,_,hcs,_,_,hl,_⟩
 · simp only [List.cons.injEq,and_true] at hcs
   exact ⟨none,0,0,hcs,Nat.le_refl _⟩
 · simp only [List.cons.injEq,and_true] at hcs
   exact ⟨some a,len,cap,hcs,hl⟩
theorem Tryz.cellsStr:Tryz.prog.cellsOf 9=1:=by kernel_rfl
theorem Tryz.cellsEnt:Tryz.prog.cellsOf 147=2:=by kernel_rfl
theorem Tryz.cellsEnts:Tryz.prog.cellsOf 65=1:=by kernel_rfl
theorem Tryz.cellsIno:Tryz.prog.cellsOf 67=5:=by kernel_rfl
theorem qrH {α:Type} {a:Array α} (h:a.size=5): ∃x0 x1 x2 x3 x4,a= #[x0,x1,x2,x3,x4]:=by
 obtain ⟨l⟩:=a
 match l,h with
 | [x0,x1,x2,x3,x4],_=>exact ⟨x0,x1,x2,x3,x4,rfl⟩
theorem qrI {H:Type} {enc:TypeId×Value→H} {W:World} {r:Reach} {b0:Nat} {v:Value} {d:DataW H} {p:List MemPlace} (hv:Value.okWide Tryz.prog W r b0 67 v) (h:DataW.Trod enc Tryz.prog W 0 (fun _=>true) true 67 v d p):
 ∃v0 v1 v2 vB vE id,v= .agg #[v0,v1,v2,vB,vE]∧qfs W v0 v1 v2 vB vE id:=by
 obtain ⟨cs,rfl,hsz⟩:=okWide_struct Tryz.underlying67 hv
 obtain ⟨c0,c1,c2,c3,c4,rfl⟩:=qrH (hsz.trans Tryz.cellsIno)
 obtain ⟨fuel,hf⟩:=h
 obtain ⟨xs,k,hk,hxy,_,hxl,hg⟩:=DataW.trod_struct Tryz.underlying67 hf
 match xs,hxl with
 | [y0,y1,y2,y3,y4],_=>
   have g0:DataW.trod enc Tryz.prog W 0 (fun _=>true) true k 2 [c0]=some y0:=by simpa [Value.cells,Tryz.cellsInt] using hg 0 _ rfl
   have g1:DataW.trod enc Tryz.prog W 0 (fun _=>true) true k 2 [c1]=some y1:=by simpa [Value.cells,Tryz.cellsInt] using hg 1 _ rfl
   have g2:DataW.trod enc Tryz.prog W 0 (fun _=>true) true k 2 [c2]=some y2:=by simpa [Value.cells,Tryz.cellsInt] using hg 2 _ rfl
   have g3:DataW.trod enc Tryz.prog W 0 (fun _=>true) true k 64 [c3]=some y3:=by simpa [Value.cells,Tryz.cellsInts] using hg 3 _ rfl
   have g4:DataW.trod enc Tryz.prog W 0 (fun _=>true) true k 65 [c4]=some y4:=by simpa [Value.cells,Tryz.cellsEnts] using hg 4 _ rfl
   obtain ⟨z0,hz0,_⟩:=DataW.trod_int Tryz.underlying2 g0
   obtain ⟨z1,hz1,_⟩:=DataW.trod_int Tryz.underlying2 g1
   obtain ⟨z2,hz2,_⟩:=DataW.trod_int Tryz.underlying2 g2
   simp only [List.cons.injEq,and_true] at hz0 hz1 hz2
   obtain ⟨bs,hbs⟩:=qeD Tryz.underlying64 Tryz.underlying2 Tryz.cellsInt g3
   obtain ⟨es,hes⟩:=qjb Tryz.underlying65 Tryz.underlying147 Tryz.cellsEnt rfl rfl Tryz.cellsStr Tryz.cellsInt Tryz.underlying9 Tryz.underlying2 g4
   exact ⟨c0,c1,c2,c3,c4,(z0,z1,z2,bs,es),rfl,⟨hz0,hz1,hz2,qk2 Tryz.underlying64 g3⟩,hbs,hes⟩
end Go.Proofs.YthnmlipnoajmkaaGreatDoor

namespace Go.Proofs.YthnmlipnoajmkaaGreatDoor
open Go.ChangeShapes Go.WideShapes Go.ChangeAt Go.RowKit Go.Joins Go.Deep
set_option maxRecDepth 100000

theorem qnH {H:Type} {enc:TypeId×Value→H} {w:World} {base:Nat} {held:Bool} {fuel:Nat} {v:Value} {x:DataW H×List MemPlace}
 (h:DataW.trod enc Tryz.prog w base (fun _=>true) held fuel 22 [v]=some x): ∃ds,qdJ w v ds:=by
 rcases open_slice Tryz.underlying22 h with ⟨hcs,_⟩| ⟨a,len,cap,m,n,D,Pl,hcs,hb,hl,hm,hmm,_,hx⟩
 · simp only [List.cons.injEq,and_true] at hcs
   exact ⟨[],by rw [hcs];exact qdJ.nil w none 0⟩
 · simp only [List.cons.injEq,and_true] at hcs
   simp only [if_true] at hmm
   by_cases hl0:len=0
   · subst hl0;exact ⟨[],by rw [hcs];exact qdJ.nil w (some a) cap⟩
   · have each: ∀i,i<m→ ∃q:ID,∃vB vE,w.cell? (a.add (i*5))=some (.int .i64 q.1)∧w.cell? (a.add (i*5+1))=some (.int .i64 q.2.1)∧w.cell? (a.add (i*5+2))=some (.int .i64 q.2.2.1)∧w.cell? (a.add (i*5+3))=some vB∧w.cell? (a.add (i*5+4))=some vE∧qfs w (.int .i64 q.1) (.int .i64 q.2.1) (.int .i64 q.2.2.1) vB vE q:=by
      intro i hi
      obtain ⟨cs',k1,k2⟩:=hx i hi
      rw [Tryz.cellsIno] at k1
      obtain ⟨_,hlen,hcell⟩:=World.cells?_some k1
      obtain ⟨xs,k,hk,hxy,_,hxl,hg⟩:=DataW.trod_struct Tryz.underlying67 k2
      match xs,hxl,cs',hlen with
      | [y0,y1,y2,y3,y4],_, [c0,c1,c2,c3,c4],_=>
        have g0:DataW.trod enc Tryz.prog w base (fun _=>true) held k 2 [c0]=some y0:=by simpa [Tryz.cellsInt] using hg 0 _ rfl
        have g1:DataW.trod enc Tryz.prog w base (fun _=>true) held k 2 [c1]=some y1:=by simpa [Tryz.cellsInt] using hg 1 _ rfl
        have g2:DataW.trod enc Tryz.prog w base (fun _=>true) held k 2 [c2]=some y2:=by simpa [Tryz.cellsInt] using hg 2 _ rfl
        have g3:DataW.trod enc Tryz.prog w base (fun _=>true) held k 64 [c3]=some y3:=by simpa [Tryz.cellsInts] using hg 3 _ rfl
        have g4:DataW.trod enc Tryz.prog w base (fun _=>true) held k 65 [c4]=some y4:=by simpa [Tryz.cellsEnts] using hg 4 _ rfl
        have e0:=hcell 0 (by omega)
        have e1:=hcell 1 (by omega)
        have e2:=hcell 2 (by omega)
        have e3:=hcell 3 (by omega)
        have e4:=hcell 4 (by omega)
        rw [add_add] at e0 e1 e2 e3 e4
        obtain ⟨z0,hz0,_⟩:=DataW.trod_int Tryz.underlying2 g0
        obtain ⟨z1,hz1,_⟩:=DataW.trod_int Tryz.underlying2 g1
        obtain ⟨z2,hz2,_⟩:=DataW.trod_int Tryz.underlying2 g2
        simp only [List.cons.injEq,and_true] at hz0 hz1 hz2
        subst hz0 hz1 hz2
        obtain ⟨bs,hbs⟩:=qeD Tryz.underlying64 Tryz.underlying2 Tryz.cellsInt g3
        obtain ⟨es,hes⟩:=qjb Tryz.underlying65 Tryz.underlying147 Tryz.cellsEnt rfl rfl Tryz.cellsStr Tryz.cellsInt Tryz.underlying9 Tryz.underlying2 g4
        exact ⟨(z0,z1,z2,bs,es),c3,c4,by simpa using e0,by simpa using e1,by simpa using e2,by simpa using e3,by simpa using e4,⟨rfl,rfl,rfl,qk2 Tryz.underlying64 g3⟩,hbs,hes⟩
     obtain ⟨q,hq⟩:=choose_lt each
     obtain ⟨_,_,hq0,_⟩:=hq 0 (by omega)
     have ha:=qd7 (by simpa using hq0)
     refine ⟨(List.range len).map q,some a,cap, ?_, ?_,fun k hk=> ?_⟩
     · simp only [List.length_map,List.length_range];exact hcs
     · simp only [List.length_map,List.length_range]
       exact ⟨by omega,by omega⟩
     · simp only [List.length_map,List.length_range] at hk
       obtain ⟨vB,vE,e0,e1,e2,e3,e4,hR⟩:=hq k (by omega)
       rw [ha,qcm] at e0 e1 e2 e3 e4
       have hg: ((List.range len).map q)[k]?.getD id0=q k:=by simp [hk]
       rw [hg]
       exact ⟨a.block,a.off,by rw [←ha],qfG.mk' e0 e1 e2 e3 e4 hR⟩
end Go.Proofs.YthnmlipnoajmkaaGreatDoor

namespace Go.Proofs.YthnmlipnoajmkaaGreatDoor
open Go.ChangeShapes Go.WideShapes Go.ChangeAt Go.RowKit Go.Joins Go.Deep
set_option maxRecDepth 100000

theorem Tryz.cellsByteF:Tryz.prog.cellsOf 5=1:=by kernel_rfl
theorem Tryz.cellsBytF:Tryz.prog.cellsOf 27=1:=by kernel_rfl
theorem Tryz.cellsBytsF:Tryz.prog.cellsOf 23=1:=by kernel_rfl
theorem Tryz.cellsInosF:Tryz.prog.cellsOf 22=1:=by kernel_rfl
theorem Tryz.cellsFsF:Tryz.prog.cellsOf 25=2:=by kernel_rfl
theorem qoT {H:Type} {enc:TypeId×Value→H} {P:Program} {w:World} {base:Nat} {held:Bool} {t e:TypeId} {fuel:Nat} {v:Value} {x:DataW H×List MemPlace} (ht:P.underlying t=some (.slice e)) (he:P.underlying e=some (.int .u8)) (ce:P.cellsOf e=1) (h:DataW.trod enc P w base (fun _=>true) held fuel t [v]=some x):
 ∃zs,Byt w v zs:=by
 rcases open_slice1 ht ce h with ⟨hcs,_⟩| ⟨a,len,cap,m,n,V,D,Pl,hcs,_,hl,hm,hmm,_,hx⟩
 · simp only [List.cons.injEq,and_true] at hcs
   exact ⟨[],by rw [hcs];exact Byt.nil w none 0⟩
 · simp only [List.cons.injEq,and_true] at hcs
   simp only [if_true] at hmm
   by_cases h0:len=0
   · subst h0;exact ⟨[],by rw [hcs];exact Byt.nil w (some a) cap⟩
   · have ha:=qd7 (hx 0 (by omega)).1
     obtain ⟨Z,hZ⟩:=choose_lt (α:=UInt8) (n:=m) (p:=fun i b=>V i= .int .u8 ((b.toNat:Nat):Int)) fun i hi=>by
      obtain ⟨z,h1,_,hw⟩:=DataW.trod_int he (hx i hi).2
      have hz0:IntKind.u8.min≤z∧z≤IntKind.u8.max:=by simpa [Lit.wf] using hw
      have hz:0≤z∧z≤255:=hz0
      refine ⟨UInt8.ofNat z.toNat, ?_⟩
      simp only [List.cons.injEq,and_true] at h1
      rw [h1]
      congr 1
      have: (UInt8.ofNat z.toNat).toNat=z.toNat:=by simp;omega
      rw [this];omega
     refine ⟨(List.range len).map Z,some a,cap, ?_, ?_,fun k hk=> ?_⟩
     · simp only [List.length_map,List.length_range];exact hcs
     · simp only [List.length_map,List.length_range];exact ⟨by omega,by omega⟩
     · simp only [List.length_map,List.length_range] at hk
       have h1:= (hx k (by omega)).1
       rw [ha,qcm] at h1
       refine ⟨a.block,a.off,by rw [←ha], ?_⟩
       rw [h1,hZ k (by omega)]
       simp [hk]
theorem qnI {H:Type} {enc:TypeId×Value→H} {P:Program} {w:World} {base:Nat} {held:Bool} {t e q:TypeId} {fuel:Nat} {v:Value} {x:DataW H×List MemPlace} (ht:P.underlying t=some (.slice e)) (he:P.underlying e=some (.slice q)) (hq:P.underlying q=some (.int .u8)) (ce:P.cellsOf e=1) (cq:P.cellsOf q=1)
 (h:DataW.trod enc P w base (fun _=>true) held fuel t [v]=some x): ∃zss,qfn w v zss:=by
 rcases open_slice1 ht ce h with ⟨hcs,_⟩| ⟨a,len,cap,m,n,V,D,Pl,hcs,_,hl,hm,hmm,_,hx⟩
 · simp only [List.cons.injEq,and_true] at hcs
   exact ⟨[],by rw [hcs];exact qfn.nil w none 0⟩
 · simp only [List.cons.injEq,and_true] at hcs
   simp only [if_true] at hmm
   by_cases h0:len=0
   · subst h0;exact ⟨[],by rw [hcs];exact qfn.nil w (some a) cap⟩
   · have ha:=qd7 (hx 0 (by omega)).1
     obtain ⟨Z,hZ⟩:=choose_lt (α:=List UInt8) (n:=m) (p:=fun i zs=>Byt w (V i) zs) fun i hi=>qoT he hq cq (hx i hi).2
     refine ⟨(List.range len).map Z,some a,cap, ?_, ?_,fun k hk=> ?_⟩
     · simp only [List.length_map,List.length_range];exact hcs
     · simp only [List.length_map,List.length_range];exact ⟨by omega,by omega⟩
     · simp only [List.length_map,List.length_range] at hk
       have h1:= (hx k (by omega)).1
       rw [ha,qcm] at h1
       have hg: ((List.range len).map Z)[k]?.getD []=Z k:=by simp [hk]
       rw [hg]
       obtain ⟨ua,uc,e1,e2,e3⟩:=hZ k (by omega)
       rw [e1] at h1
       exact ⟨a.block,a.off,ua,uc,by rw [←ha],h1,ua,uc,rfl,e2,e3⟩
theorem qoU {H:Type} {enc:TypeId×Value→H} {W:World} {r:Reach} {b0:Nat} {v:Value} {d:DataW H} {p:List MemPlace} (hv:Value.okWide Tryz.prog W r b0 25 v) (h:DataW.Trod enc Tryz.prog W 0 (fun _=>true) true 25 v d p):
 ∃v0 v1 fd,v= .agg #[v0,v1]∧FsR W v0 v1 fd:=by
 obtain ⟨cs,rfl,hsz⟩:=okWide_struct Tryz.underlying25 hv
 obtain ⟨c0,c1,rfl⟩:=array2 (hsz.trans Tryz.cellsFsF)
 obtain ⟨fuel,hf⟩:=h
 obtain ⟨xs,k,hk,hxy,_,hxl,hg⟩:=DataW.trod_struct Tryz.underlying25 hf
 match xs,hxl with
 | [y0,y1],_=>
   have g0:DataW.trod enc Tryz.prog W 0 (fun _=>true) true k 22 [c0]=some y0:=by simpa [Value.cells,Tryz.cellsInosF] using hg 0 _ rfl
   have g1:DataW.trod enc Tryz.prog W 0 (fun _=>true) true k 23 [c1]=some y1:=by simpa [Value.cells,Tryz.cellsBytsF] using hg 1 _ rfl
   obtain ⟨ds,hds⟩:=qnH g0
   obtain ⟨zss,hz⟩:=qnI Tryz.underlying23 Tryz.underlying27 Tryz.underlying5 Tryz.cellsBytF Tryz.cellsByteF g1
   exact ⟨c0,c1,(ds,zss),rfl,hds,hz⟩
end Go.Proofs.YthnmlipnoajmkaaGreatDoor

namespace Go.Proofs.YthnmlipnoajmkaaGreatDoor
open Go.ChangeShapes Go.WideShapes Go.RowKit
set_option maxRecDepth 100000

set_option maxRecDepth 100000
theorem Tryz.et:Tryz.prog.globalNamed "errors.errorType" =some 0:=by kernel_rfl
theorem Tryz.rt: (Tryz.prog.cutTypes.find? (·.1== "internal/reflectlite.rtype")).map (·.2)=some 208:=by kernel_rfl
theorem Tryz.oneRow: ((List.range 256).filter fun t=>Tryz.prog.rowNamed t [101,114,114,111,114])= [155]:=by kernel_rfl
theorem Tryz.typesN:Tryz.prog.types.size=256:=by kernel_rfl
theorem qlW {W:World} (h:laidMetH Tryz.prog [("errors.errorType",Rows.laid_errors_errorType)] W):Gl W:=by
 have h':laidMet Tryz.prog [] W∧handlesMet Tryz.prog [("errors.errorType",Rows.laid_errors_errorType)] W:=h
 obtain ⟨name,u,ty,e1,e2,e3,e4,e5⟩:=h'.2 _ (List.mem_singleton.2 rfl)
 have en:name= [101,114,114,111,114]:= (Option.some.inj e1).symm
 subst en
 obtain rfl:=Option.some.inj (Tryz.rt.symm.trans e2)
 have hm:ty∈ (List.range 256).filter fun t=>Tryz.prog.rowNamed t [101,114,114,111,114]:=List.mem_filter.2 ⟨List.mem_range.2 (by rw [←Tryz.typesN];exact e3),e4⟩
 rw [Tryz.oneRow] at hm
 obtain rfl:=List.mem_singleton.1 hm
 have hh:typeHandle Tryz.prog 155= .pointer (some ⟨2,155,none⟩):=by kernel_rfl
 rw [hh] at e5
 have:=World.var?_cell Tryz.et e5 0
 unfold Gl
 simpa using this
noncomputable def laidWorld (os:Os):World:=
 let w0:=World.holding Tryz.prog os ⟨#[], #[], []⟩
 {w0 with heap:=w0.heap.modify 0 fun
  | .cells _ t frozen=> .cells #[.iface 208 (.agg #[.pointer (some ⟨2,155,none⟩)])] t frozen
  |o=>o}
theorem qhU (os:Os) (args:Array Value):laidMetH Tryz.prog [("errors.errorType",Rows.laid_errors_errorType)] ((laidWorld os).forCall (fun _ _=>0) ⟨#[],args, []⟩).memory:=
 laidMetH_of_parts (laidMet_nil _ _) (by kernel_rfl)
end Go.Proofs.YthnmlipnoajmkaaGreatDoor
