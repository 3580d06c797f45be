/- Answers of calls:how they are told;a file system that stays. The program's file at work:closed. The program's file at work:opened;DropFile. The program's DropFile. Directories:LookName,of the program and of the specification. Entries that grow by append;cells of an inode of a file system in own memory that turn. The program's AddName:an entry put into its place. -/
import Derived.Test.YthnmlipnoajmkaaGreatDoorM15
import Derived.Test.YthnmlipnoajmkaaGreatDoorM20
import Derived.Test.YthnmlipnoajmkaaGreatDoorM14
import Derived.Test.YthnmlipnoajmkaaGreatDoorM19
import Derived.Test.YthnmlipnoajmkaaGreatDoorM02
import Derived.Test.YthnmlipnoajmkaaGreatDoorM07
import Derived.ArgAppend
import Derived.Deep.DeepAppendWide
namespace Go.Proofs.YthnmlipnoajmkaaGreatDoor
open Go.RowKit
set_option maxRecDepth 100000

def qbm:List Value:= [.int .i64 0, .int .i64 0, .int .i64 0, .slice none 0 0, .slice none 0 0, .slice none 0 0, .slice none 0 0]
theorem qrt (w:World) (t:TypeId):qaa (w.alloc (.cells #[.int .i64 0, .int .i64 0, .int .i64 0, .slice none 0 0, .slice none 0 0, .slice none 0 0, .slice none 0 0] t)) w.heap.size 7 (cel qbm):=qdQ w qbm t
def qnQ (c:Int):Int×CRD:= (c,0,0, [], [], [], [])
def qav (d:FD) (c:Int):Int×CRD:= (0,c,0, [], [],d)
theorem qru {w W:World} {rb:Nat} (hB:Below w.heap.size w W) (hrb:w.heap.size≤rb) (x0 x1 x2 x3 x4 x5 x6:Value):Below w.heap.size w (((((((W.setCell ⟨rb,0,none⟩ x0).setCell ⟨rb,1,none⟩ x1).setCell ⟨rb,2,none⟩ x2).setCell ⟨rb,3,none⟩ x3).setCell ⟨rb,4,none⟩ x4).setCell ⟨rb,5,none⟩ x5).setCell ⟨rb,6,none⟩ x6):= ((((((hB.setCell hrb _).setCell hrb _).setCell hrb _).setCell hrb _).setCell hrb _).setCell hrb _).setCell hrb _
theorem qtd {W:World} {rb:Nat} {b:Nat} (h:b≠rb) (x0 x1 x2 x3 x4 x5 x6:Value): (((((((W.setCell ⟨rb,0,none⟩ x0).setCell ⟨rb,1,none⟩ x1).setCell ⟨rb,2,none⟩ x2).setCell ⟨rb,3,none⟩ x3).setCell ⟨rb,4,none⟩ x4).setCell ⟨rb,5,none⟩ x5).setCell ⟨rb,6,none⟩ x6).heap[b]?=W.heap[b]?:=by
 rw [Below.heap_setCell _ _ _ _ h,Below.heap_setCell _ _ _ _ h,Below.heap_setCell _ _ _ _ h,Below.heap_setCell _ _ _ _ h,Below.heap_setCell _ _ _ _ h,Below.heap_setCell _ _ _ _ h,Below.heap_setCell _ _ _ _ h]
theorem qsG {W:World} {rb:Nat} (x0 x1 x2 x3 x4 x5 x6:Value): (((((((W.setCell ⟨rb,0,none⟩ x0).setCell ⟨rb,1,none⟩ x1).setCell ⟨rb,2,none⟩ x2).setCell ⟨rb,3,none⟩ x3).setCell ⟨rb,4,none⟩ x4).setCell ⟨rb,5,none⟩ x5).setCell ⟨rb,6,none⟩ x6).heap.size=W.heap.size:=by simp only [World.setCell,Array.size_modify]
theorem qaN.put {w W:World} {rb:Nat} {c z1 z2:Int} {a3:Option Addr} {n3 c3:Nat} {a4:Option Addr} {n4 c4:Nat} {a5:Option Addr} {n5 c5:Nat} {a6:Option Addr} {n6 c6:Nat} {d:CRD} (hB:Below w.heap.size w W) (hrb:w.heap.size≤rb) (h:qap W (.int .i64 z1) (.int .i64 z2) (.slice a3 n3 c3) (.slice a4 n4 c4) (.slice a5 n5 c5) (.slice a6 n6 c6) d (fun b=>w.heap.size≤b∧b<W.heap.size∧b≠rb)) (x0 x1 x2 x3 x4 x5 x6:Value):
 qaN w (c,d) (.returned (.agg #[.int .i64 c, .int .i64 z1, .int .i64 z2, .slice a3 n3 c3, .slice a4 n4 c4, .slice a5 n5 c5, .slice a6 n6 c6])) (((((((W.setCell ⟨rb,0,none⟩ x0).setCell ⟨rb,1,none⟩ x1).setCell ⟨rb,2,none⟩ x2).setCell ⟨rb,3,none⟩ x3).setCell ⟨rb,4,none⟩ x4).setCell ⟨rb,5,none⟩ x5).setCell ⟨rb,6,none⟩ x6):=
 ⟨_,_,_,_,_,_,_,_,_,_,_,_,_,_,rfl,qru hB hrb _ _ _ _ _ _ _,(h.keep fun b hb _=>qtd hb.2.2 _ _ _ _ _ _ _).mono fun b hb=> ⟨hb.1,by rw [qsG];exact hb.2.1⟩⟩
theorem qaN.pass {w W W2:World} {rb:Nat} {c z1 z2:Int} {a3:Option Addr} {n3 c3:Nat} {a4:Option Addr} {n4 c4:Nat} {a5:Option Addr} {n5 c5:Nat} {a6:Option Addr} {n6 c6:Nat} {d:CRD} (hB:Below w.heap.size w W) (hrb:w.heap.size≤rb) (hr:rb<W.heap.size) (hb:Below W.heap.size W W2) (h:qap W2 (.int .i64 z1) (.int .i64 z2) (.slice a3 n3 c3) (.slice a4 n4 c4) (.slice a5 n5 c5) (.slice a6 n6 c6) d (qaj W W2)) (x0 x1 x2 x3 x4 x5 x6:Value):
 qaN w (c,d) (.returned (.agg #[.int .i64 c, .int .i64 z1, .int .i64 z2, .slice a3 n3 c3, .slice a4 n4 c4, .slice a5 n5 c5, .slice a6 n6 c6])) (((((((W2.setCell ⟨rb,0,none⟩ x0).setCell ⟨rb,1,none⟩ x1).setCell ⟨rb,2,none⟩ x2).setCell ⟨rb,3,none⟩ x3).setCell ⟨rb,4,none⟩ x4).setCell ⟨rb,5,none⟩ x5).setCell ⟨rb,6,none⟩ x6):=
 qaN.put (hB.trans (hb.mono hB.size)) hrb (h.mono fun b hh=> ⟨by have:=hh.1;have:=hB.size;omega,hh.2,by have:=hh.1;omega⟩) _ _ _ _ _ _ _
theorem qap.nil (w:World) (c v:Int) (F:Nat→Prop):qap w (.int .i64 c) (.int .i64 v) (.slice none 0 0) (.slice none 0 0) (.slice none 0 0) (.slice none 0 0) (c,v, [], [], [], []) F:=
 ⟨⟨rfl,rfl⟩,fun _=>False,fun _=>False,fun _=>False,Or.inl ⟨rfl,_,_,rfl⟩,Or.inl ⟨rfl,_,_,rfl⟩,⟨fun _=>False,fun _=>False,Or.inl ⟨rfl,_,_,rfl⟩,Or.inl ⟨rfl,_,_,rfl⟩,fun _ h=>h.elim,fun _ h=>h.elim id id⟩,fun _ h=>h.elim,fun _ h=>h.elim,fun _ h=>h.elim False.elim fun h=>h.elim False.elim False.elim⟩
theorem qap.fs {w:World} {v5 v6:Value} {d:FD} {F:Nat→Prop} (c v:Int) (h:FsU w v5 v6 d F):qap w (.int .i64 c) (.int .i64 v) (.slice none 0 0) (.slice none 0 0) v5 v6 (c,v, [], [],d) F:=
 ⟨⟨rfl,rfl⟩,fun _=>False,fun _=>False,F,Or.inl ⟨rfl,_,_,rfl⟩,Or.inl ⟨rfl,_,_,rfl⟩,h,fun _ h=>h.elim,fun _ h=>h.elim,fun _ h=>h.elim False.elim fun h=>h.elim False.elim id⟩
theorem qaN.no {w W:World} {rb:Nat} (c:Int) (hB:Below w.heap.size w W) (hrb:w.heap.size≤rb) (x0 x1 x2 x3 x4 x5 x6:Value):
 qaN w (qnQ c) (.returned (.agg #[.int .i64 c, .int .i64 0, .int .i64 0, .slice none 0 0, .slice none 0 0, .slice none 0 0, .slice none 0 0])) (((((((W.setCell ⟨rb,0,none⟩ x0).setCell ⟨rb,1,none⟩ x1).setCell ⟨rb,2,none⟩ x2).setCell ⟨rb,3,none⟩ x3).setCell ⟨rb,4,none⟩ x4).setCell ⟨rb,5,none⟩ x5).setCell ⟨rb,6,none⟩ x6):=qaN.put hB hrb (qap.nil W 0 0 _) _ _ _ _ _ _ _
theorem qaN.later {w w2 w3:World} {r:Int×CRD} {e:Ending} (h:qaN w r e w2) (hb:Below w2.heap.size w2 w3) (hw:w.heap.size≤w2.heap.size):qaN w r e w3:=by
 obtain ⟨z1,z2,a3,n3,c3,a4,n4,c4,a5,n5,c5,a6,n6,c6,h1,h2,h3⟩:=h
 exact ⟨z1,z2,a3,n3,c3,a4,n4,c4,a5,n5,c5,a6,n6,c6,h1,h2.trans (hb.mono hw),(h3.later hb).mono fun b hh=> ⟨hh.1,by have:=hb.size;have:=hh.2;omega⟩⟩

set_option maxHeartbeats 1600000 in
theorem qlM (w:World) (a1:Option Addr) (n1 c1:Nat) (a2:Option Addr) (n2 c2:Nat) (d:FD) (c:Int) (h:FsR w (.slice a1 n1 c1) (.slice a2 n2 c2) d) (hs:sizeFs d≤1048576) (h60:d.2.length≤60):
 Calls Tryz.prog 21 #[.agg #[.slice a1 n1 c1, .slice a2 n2 c2], .int .i64 c] w (qaN w (qav d c)):=by
 have HB0:Hid (Below w.heap.size w ((w.alloc (.cells #[.slice a1 n1 c1, .slice a2 n2 c2] 31)).alloc (.cells #[.int .i64 0, .int .i64 0, .int .i64 0, .slice none 0 0, .slice none 0 0, .slice none 0 0, .slice none 0 0] 33))):=qam _ _ _
 have HRS:Hid (qaa ((w.alloc (.cells #[.slice a1 n1 c1, .slice a2 n2 c2] 31)).alloc (.cells #[.int .i64 0, .int .i64 0, .int .i64 0, .slice none 0 0, .slice none 0 0, .slice none 0 0, .slice none 0 0] 33)) (w.heap.size+1) 7 (cel qbm)):=by
  have p2:=qrt (w.alloc (.cells #[.slice a1 n1 c1, .slice a2 n2 c2] 31)) 33
  rw [World.size_alloc] at p2
  exact p2
 have HCF:Hid (∀W,Below w.heap.size w W→Calls Tryz.prog 58 #[.agg #[.slice a1 n1 c1, .slice a2 n2 c2]] W (qiw W d)):=fun W hW=>qcv W _ _ _ _ _ _ d (h.later hW) hs h60
 clear h hs h60
 go_enter Tryz.func21,Tryz.ntmps21
 go_wp2_with fail
 generalize ((w.alloc (.cells #[.slice a1 n1 c1, .slice a2 n2 c2] 31)).alloc (.cells #[.int .i64 0, .int .i64 0, .int .i64 0, .slice none 0 0, .slice none 0 0, .slice none 0 0, .slice none 0 0] 33))=W0 at*
 refine (HCF.out _ HB0.out).mono ?_
 rintro e w1 ⟨b1,m1,k1,b2,m2,k2,rfl,hb1,hf1⟩
 have hrr:=HRS.out.later hb1
 have HU:Hid (FsU w1 (.slice b1 m1 k1) (.slice b2 m2 k2) d (qaj W0 w1)):=hf1
 have HB1:Hid (Below W0.heap.size W0 w1):=hb1
 have hlt:w.heap.size+1<W0.heap.size:=HRS.out.lt
 have t0:w1.cell? ⟨w.heap.size+1,0,none⟩=some (.int .i64 0):=hrr.cell (i:=0) (by omega)
 have t1:w1.cell? ⟨w.heap.size+1,1,none⟩=some (.int .i64 0):=hrr.cell (i:=1) (by omega)
 have t2:w1.cell? ⟨w.heap.size+1,2,none⟩=some (.int .i64 0):=hrr.cell (i:=2) (by omega)
 have t3:w1.cell? ⟨w.heap.size+1,3,none⟩=some (.slice none 0 0):=hrr.cell (i:=3) (by omega)
 have t4:w1.cell? ⟨w.heap.size+1,4,none⟩=some (.slice none 0 0):=hrr.cell (i:=4) (by omega)
 have t5:w1.cell? ⟨w.heap.size+1,5,none⟩=some (.slice none 0 0):=hrr.cell (i:=5) (by omega)
 have t6:w1.cell? ⟨w.heap.size+1,6,none⟩=some (.slice none 0 0):=hrr.cell (i:=6) (by omega)
 have s0:=hrr.frozen 0
 have s1:=hrr.frozen 1
 have s2:=hrr.frozen 2
 have s3:=hrr.frozen 3
 have s4:=hrr.frozen 4
 have s5:=hrr.frozen 5
 have s6:=hrr.frozen 6
 clear hb1 hf1 hrr
 go_wp2
 exact bodyPost_ret (v:= .agg #[.int .i64 0, .int .i64 c, .int .i64 0, .slice none 0 0, .slice none 0 0, .slice b1 m1 k1, .slice b2 m2 k2]) (by simp [results,Tryz.results21,go_sem,t0,t1,t2,t3,t4,t5,t6]) rfl (qaN.pass HB0.out (by omega) hlt HB1.out (qap.fs c 0 HU.out) _ _ _ _ _ _ _)

set_option maxHeartbeats 1600000 in
theorem qiT (w:World) (a1:Option Addr) (n1 c1:Nat) (a2:Option Addr) (n2 c2:Nat) (d:FD) (c:Int) (h:FsR w (.slice a1 n1 c1) (.slice a2 n2 c2) d) (hs:sizeFs d≤1048576):
 Calls Tryz.prog 42 #[.agg #[.slice a1 n1 c1, .slice a2 n2 c2], .int .i64 c] w (qaN w (qav d c)):=by
 have HB0:Hid (Below w.heap.size w ((w.alloc (.cells #[.slice a1 n1 c1, .slice a2 n2 c2] 31)).alloc (.cells #[.int .i64 0, .int .i64 0, .int .i64 0, .slice none 0 0, .slice none 0 0, .slice none 0 0, .slice none 0 0] 33))):=qam _ _ _
 have HRS:Hid (qaa ((w.alloc (.cells #[.slice a1 n1 c1, .slice a2 n2 c2] 31)).alloc (.cells #[.int .i64 0, .int .i64 0, .int .i64 0, .slice none 0 0, .slice none 0 0, .slice none 0 0, .slice none 0 0] 33)) (w.heap.size+1) 7 (cel qbm)):=by
  have p2:=qrt (w.alloc (.cells #[.slice a1 n1 c1, .slice a2 n2 c2] 31)) 33
  rw [World.size_alloc] at p2
  exact p2
 have HCF:Hid (∀W,Below w.heap.size w W→Calls Tryz.prog 45 #[.agg #[.slice a1 n1 c1, .slice a2 n2 c2]] W (qiw W d)):=fun W hW=>qgU W _ _ _ _ _ _ d (h.later hW) hs
 clear h hs
 go_enter Tryz.func42,Tryz.ntmps42
 go_wp2_with fail
 generalize ((w.alloc (.cells #[.slice a1 n1 c1, .slice a2 n2 c2] 31)).alloc (.cells #[.int .i64 0, .int .i64 0, .int .i64 0, .slice none 0 0, .slice none 0 0, .slice none 0 0, .slice none 0 0] 33))=W0 at*
 refine (HCF.out _ HB0.out).mono ?_
 rintro e w1 ⟨b1,m1,k1,b2,m2,k2,rfl,hb1,hf1⟩
 have hrr:=HRS.out.later hb1
 have HU:Hid (FsU w1 (.slice b1 m1 k1) (.slice b2 m2 k2) d (qaj W0 w1)):=hf1
 have HB1:Hid (Below W0.heap.size W0 w1):=hb1
 have hlt:w.heap.size+1<W0.heap.size:=HRS.out.lt
 have t0:w1.cell? ⟨w.heap.size+1,0,none⟩=some (.int .i64 0):=hrr.cell (i:=0) (by omega)
 have t1:w1.cell? ⟨w.heap.size+1,1,none⟩=some (.int .i64 0):=hrr.cell (i:=1) (by omega)
 have t2:w1.cell? ⟨w.heap.size+1,2,none⟩=some (.int .i64 0):=hrr.cell (i:=2) (by omega)
 have t3:w1.cell? ⟨w.heap.size+1,3,none⟩=some (.slice none 0 0):=hrr.cell (i:=3) (by omega)
 have t4:w1.cell? ⟨w.heap.size+1,4,none⟩=some (.slice none 0 0):=hrr.cell (i:=4) (by omega)
 have t5:w1.cell? ⟨w.heap.size+1,5,none⟩=some (.slice none 0 0):=hrr.cell (i:=5) (by omega)
 have t6:w1.cell? ⟨w.heap.size+1,6,none⟩=some (.slice none 0 0):=hrr.cell (i:=6) (by omega)
 have s0:=hrr.frozen 0
 have s1:=hrr.frozen 1
 have s2:=hrr.frozen 2
 have s3:=hrr.frozen 3
 have s4:=hrr.frozen 4
 have s5:=hrr.frozen 5
 have s6:=hrr.frozen 6
 clear hb1 hf1 hrr
 go_wp2
 exact bodyPost_ret (v:= .agg #[.int .i64 0, .int .i64 c, .int .i64 0, .slice none 0 0, .slice none 0 0, .slice b1 m1 k1, .slice b2 m2 k2]) (by simp [results,Tryz.results42,go_sem,t0,t1,t2,t3,t4,t5,t6]) rfl (qaN.pass HB0.out (by omega) hlt HB1.out (qap.fs c 0 HU.out) _ _ _ _ _ _ _)

def qlN (d:FD) (s:ByteArray):Int×Int:=if (qf6 d s).1=0∧qae d.1 (qf6 d s).2.toNat=2 then (9,0) else qf6 d s
end Go.Proofs.YthnmlipnoajmkaaGreatDoor

namespace Go.Proofs.YthnmlipnoajmkaaGreatDoor
open Go.RowKit
set_option maxRecDepth 100000

set_option maxHeartbeats 3200000 in
theorem qiU (w:World) (bf bI n cI bD cD:Nat) (d:FD) (F:Nat→Prop) (R:World→Prop) (j:Nat) (x:ID) (aB:Option Addr) (nB cB:Nat) (aE:Option Addr) (nE cE:Nat) (hbox:qaa w bf 8 (cel [.int .i64 x.1, .int .i64 x.2.1, .int .i64 x.2.2.1, .slice aB nB cB, .slice aE nE cE, .int .i64 (j:Int), .slice (some ⟨bI,0,none⟩) n cI, .slice (some ⟨bD,0,none⟩) 20 cD])) (hfs:FsS w bI n cI bD 20 cD d F) (hbf:bf≠bI) (hj:j<n) (_hn:n≤10)
 (hend: ∀va vb,R (qot w bI j x (.slice aB nB cB) (.slice aE nE cE) va vb)):
 Calls Tryz.prog 153 #[.pointer (some ⟨bf,0,none⟩)] w fun e w'=>e= .returned (.agg #[.slice (some ⟨bI,0,none⟩) n cI, .slice (some ⟨bD,0,none⟩) 20 cD])∧R w':=by
 have c0:w.cell? ⟨bf,0,none⟩=some (.int .i64 x.1):=hbox.cell (i:=0) (by omega)
 have c1:w.cell? ⟨bf,1,none⟩=some (.int .i64 x.2.1):=hbox.cell (i:=1) (by omega)
 have c2:w.cell? ⟨bf,2,none⟩=some (.int .i64 x.2.2.1):=hbox.cell (i:=2) (by omega)
 have c3:w.cell? ⟨bf,3,none⟩=some (.slice aB nB cB):=hbox.cell (i:=3) (by omega)
 have c4:w.cell? ⟨bf,4,none⟩=some (.slice aE nE cE):=hbox.cell (i:=4) (by omega)
 have c5:w.cell? ⟨bf,5,none⟩=some (.int .i64 (j:Int)):=hbox.cell (i:=5) (by omega)
 have c6:w.cell? ⟨bf,6,none⟩=some (.slice (some ⟨bI,0,none⟩) n cI):=hbox.cell (i:=6) (by omega)
 have c7:w.cell? ⟨bf,7,none⟩=some (.slice (some ⟨bD,0,none⟩) 20 cD):=hbox.cell (i:=7) (by omega)
 obtain ⟨_,_,_,_,i0,i1,i2,i3,i4,_,i6,_⟩:=hfs.ino j hj
 have i50:=i6 (j*5)
 have i51:=i6 (j*5+1)
 have i52:=i6 (j*5+2)
 have i53:=i6 (j*5+3)
 have i54:=i6 (j*5+4)
 have hlf:=hbox.lt
 have hne:=hfs.ne
 have hlI:bI<w.heap.size:=hne.2.1.2
 have hbf':bI≠bf:=fun e=>hbf e.symm
 have hjI: (j:Int)< (n:Int):=by omega
 have hnw1:w.heap.size≠bI:=by omega
 have hnw2:bI≠w.heap.size:=by omega
 have HEND:Hid (∀va vb,R (qot w bI j x (.slice aB nB cB) (.slice aE nE cE) va vb)):=hend
 clear hbox hfs hend i6 hne
 obtain ⟨x0,x1,x2,x3,x4⟩:=x
 dsimp only at c0 c1 c2 ⊢
 unfold qot qcB at HEND
 dsimp only at HEND
 generalize (d.1[j]?.getD id0).2.2.2.1.length=l1 at*
 generalize (d.1[j]?.getD id0).2.2.2.2.length=l2 at*
 generalize (d.1[j]?.getD id0).1=y0 at*
 generalize (d.1[j]?.getD id0).2.1=y1 at*
 generalize (d.1[j]?.getD id0).2.2.1=y2 at*
 go_enter Tryz.func153,Tryz.ntmps153
 go_wp2_with fail
 go_region_held3 (fun W=>W.cell? ⟨bf,0,none⟩=some (.int .i64 x0)∧W.cell? ⟨bf,1,none⟩=some (.int .i64 x1)∧W.cell? ⟨bf,2,none⟩=some (.int .i64 x2)∧W.cell? ⟨bf,3,none⟩=some (.slice aB nB cB)∧W.cell? ⟨bf,4,none⟩=some (.slice aE nE cE)∧W.cell? ⟨bf,5,none⟩=some (.int .i64 (j:Int))∧W.cell? ⟨bf,6,none⟩=some (.slice (some ⟨bI,0,none⟩) n cI)) (go_keep) (fail)
 all_goals
  go_wp2
  refine bodyPost_ret (v:= .agg #[.slice (some ⟨bI,0,none⟩) n cI, .slice (some ⟨bD,0,none⟩) 20 cD]) (by simp [results,Tryz.results153,go_sem]) rfl ⟨rfl,HEND.out _ _⟩
theorem qnj (w:World) (bf bI n cI bD cD:Nat) (d:FD) (F G:Nat→Prop) (j:Nat) (x:ID) (aB:Option Addr) (nB cB:Nat) (aE:Option Addr) (nE cE:Nat) (hbox:qaa w bf 8 (cel [.int .i64 x.1, .int .i64 x.2.1, .int .i64 x.2.2.1, .slice aB nB cB, .slice aE nE cE, .int .i64 (j:Int), .slice (some ⟨bI,0,none⟩) n cI, .slice (some ⟨bD,0,none⟩) 20 cD])) (hfs:FsS w bI n cI bD 20 cD d F) (hbf:bf≠bI) (hj:j<n) (_hn:n≤10)
 (hv:qdo w (.int .i64 x.1) (.int .i64 x.2.1) (.int .i64 x.2.2.1) (.slice aB nB cB) (.slice aE nE cE) x G) (hG: ∀c,G c→ ¬F c∧c<w.heap.size):
 Calls Tryz.prog 153 #[.pointer (some ⟨bf,0,none⟩)] w fun e w'=>e= .returned (.agg #[.slice (some ⟨bI,0,none⟩) n cI, .slice (some ⟨bD,0,none⟩) 20 cD])∧Chg (fun c=>c=bI) w w'∧FsS w' bI n cI bD 20 cD (d.1.set j x,d.2) (fun c=>F c∨G c):=
 qiU w bf bI n cI bD cD d F (fun w'=>Chg (fun c=>c=bI) w w'∧FsS w' bI n cI bD 20 cD (d.1.set j x,d.2) (fun c=>F c∨G c)) j x aB nB cB aE nE cE hbox hfs hbf hj _hn fun va vb=> ⟨qeR _ _ _ _ _ _ _ _,qrm hfs j hj x _ _ hv hG va vb⟩
end Go.Proofs.YthnmlipnoajmkaaGreatDoor

namespace Go.Proofs.YthnmlipnoajmkaaGreatDoor
open Go.RowKit
set_option maxRecDepth 100000

theorem qdL.put {w W:World} {rb:Nat} {c:Int} {d:FD} {a1 a2:Option Addr} {n1 c1 n2 c2:Nat} (hB:Below w.heap.size w W) (hrb:w.heap.size≤rb) (h:FsU W (.slice a1 n1 c1) (.slice a2 n2 c2) d (fun b=>w.heap.size≤b∧b<W.heap.size∧b≠rb)) (x y z:Value):qdL w (c,d) (.returned (.agg #[.int .i64 c, .slice a1 n1 c1, .slice a2 n2 c2])) (((W.setCell ⟨rb,0,none⟩ x).setCell ⟨rb,1,none⟩ y).setCell ⟨rb,2,none⟩ z):=by
 refine ⟨_,_,_,_,_,_,rfl,((hB.setCell hrb _).setCell hrb _).setCell hrb _,(h.keep fun b hb _=> ?_).mono fun b hb=> ?_⟩
 · rw [Below.heap_setCell _ _ _ _ hb.2.2,Below.heap_setCell _ _ _ _ hb.2.2,Below.heap_setCell _ _ _ _ hb.2.2]
 · unfold qaj
   simp only [World.setCell,Array.size_modify]
   exact ⟨hb.1,hb.2.1⟩
theorem qdL.none' {w W:World} {rb:Nat} (c:Int) (hB:Below w.heap.size w W) (hrb:w.heap.size≤rb) (x y z:Value):qdL w (qgh c) (.returned (.agg #[.int .i64 c, .slice none 0 0, .slice none 0 0])) (((W.setCell ⟨rb,0,none⟩ x).setCell ⟨rb,1,none⟩ y).setCell ⟨rb,2,none⟩ z):=
 qdL.put hB hrb ⟨fun _=>False,fun _=>False,Or.inl ⟨rfl,none,0,rfl⟩,Or.inl ⟨rfl,none,0,rfl⟩,fun _ h=>h.elim,fun _ h=>h.elim False.elim False.elim⟩ x y z
theorem qdL.later {w w2 w3:World} {r:Int×FD} {e:Ending} (h:qdL w r e w2) (hb:Below w2.heap.size w2 w3):qdL w r e w3:=by
 obtain ⟨a1,n1,c1,a2,n2,c2,h1,h2,h3⟩:=h
 exact ⟨a1,n1,c1,a2,n2,c2,h1,h2.trans (hb.mono h2.size),(h3.keep fun b _ hlt=>hb.block b hlt).mono fun b hh=> ⟨hh.1,Nat.lt_of_lt_of_le hh.2 hb.size⟩⟩
theorem FsS.fsB {w:World} {bI n cI bD m cD:Nat} {d:FD} {F:Nat→Prop} (h:FsS w bI n cI bD m cD d F):FsU w (.slice (some ⟨bI,0,none⟩) n cI) (.slice (some ⟨bD,0,none⟩) m cD) d (fun b=>F b∧b<w.heap.size):=by
 obtain ⟨F1,G1,h1,h2,h3,h4⟩:=h
 exact ⟨F1,G1,h1.inos,h2.byts,h3,fun b hb=>h4 b hb⟩
structure FileS (w0 w:World) (bf bI n cI bD cD:Nat) (d:FD) (j:Nat) (x:ID) (aB:Option Addr) (cB:Nat) (aE:Option Addr) (cE:Nat):Prop where
 below:Below w0.heap.size w0 w
 new:w0.heap.size≤bf
 box:qaa w bf 8 (cel [.int .i64 x.1, .int .i64 x.2.1, .int .i64 x.2.2.1, .slice aB x.2.2.2.1.length cB, .slice aE x.2.2.2.2.length cE, .int .i64 (j:Int), .slice (some ⟨bI,0,none⟩) n cI, .slice (some ⟨bD,0,none⟩) 20 cD])
 fs:FsS w bI n cI bD 20 cD d (fun c=>w0.heap.size≤c∧c≠bf)
 blk:qrZ w bD aB x.2.2.2.1

set_option maxHeartbeats 3200000 in
theorem qfb (w:World) (a1:Option Addr) (n1 c1:Nat) (a2:Option Addr) (n2 c2:Nat) (d:FD) (j:Nat) (h:FsR w (.slice a1 n1 c1) (.slice a2 n2 c2) d) (hs:sizeFs d≤1048576) (h20:d.2.length=20) (hj:j<d.1.length) (h10:d.1.length≤10):
 Calls Tryz.prog 151 #[.agg #[.slice a1 n1 c1, .slice a2 n2 c2], .int .i64 (j:Int)] w fun e w'=> ∃bf bI cI bD cD aB cB aE cE,e= .returned (.pointer (some ⟨bf,0,none⟩))∧ (FileS w w' bf bI d.1.length cI bD cD d j (d.1[j]?.getD id0) aB cB aE cE∧w'.cell? ⟨bI,j*5+3,none⟩=some (.slice aB (d.1[j]?.getD id0).2.2.2.1.length cB)∧w'.cell? ⟨bI,j*5+4,none⟩=some (.slice aE (d.1[j]?.getD id0).2.2.2.2.length cE)):=by
 have HCP:Hid (Calls Tryz.prog 58 #[.agg #[.slice a1 n1 c1, .slice a2 n2 c2]] (w.alloc (.cells #[.slice a1 n1 c1, .slice a2 n2 c2] 31)) (qiw (w.alloc (.cells #[.slice a1 n1 c1, .slice a2 n2 c2] 31)) d)):=qcv _ a1 n1 c1 a2 n2 c2 d (h.later (qab _ _)) hs (by omega)
 clear h hs
 go_enter Tryz.func151,Tryz.ntmps151
 go_wp2_with fail
 refine HCP.out.mono ?_
 rintro e w1 ⟨b1,m1,cI,b2,m2,cD,rfl,hb1,hf1⟩
 obtain ⟨bI,e1,bD,e2,eI,eD,hfs⟩:=FsS.of hf1 (by omega) (by omega)
 simp only [Value.slice.injEq] at eI eD
 obtain ⟨rfl,rfl,rfl⟩:=eI
 obtain ⟨rfl,rfl,rfl⟩:=eD
 have HB1:Hid (Below w.heap.size w w1):= (qab _ _).trans (hb1.mono (by simp))
 have HFS:Hid (FsS w1 bI d.1.length cI bD 20 cD d (fun c=>w.heap.size+1≤c∧c<w1.heap.size)):=by
  rw [h20] at hfs
  exact hfs.mono fun c hc=> ⟨by have:=hc.1;simp at this;omega,hc.2⟩
 obtain ⟨aB,cB,aE,cE,i0,i1,i2,i3,i4,_,_,i7⟩:=HFS.out.ino j hj
 have hne:=HFS.out.ne
 have hlI:bI<w1.heap.size:=hne.2.1.2
 have hw1:w.heap.size+1≤w1.heap.size:=by have:=hb1.size;simpa using this
 have HFIN:Hid (FileS w ((w1.alloc (.cells #[.slice (some ⟨bI,0,none⟩) d.1.length cI, .slice (some ⟨bD,0,none⟩) 20 cD] 31)).alloc (.cells #[.int .i64 (d.1[j]?.getD id0).1, .int .i64 (d.1[j]?.getD id0).2.1, .int .i64 (d.1[j]?.getD id0).2.2.1, .slice aB (d.1[j]?.getD id0).2.2.2.1.length cB, .slice aE (d.1[j]?.getD id0).2.2.2.2.length cE, .int .i64 (j:Int), .slice (some ⟨bI,0,none⟩) d.1.length cI, .slice (some ⟨bD,0,none⟩) 20 cD] 198)).drew (w1.heap.size+1) bI d.1.length cI bD cD d j (d.1[j]?.getD id0) aB cB aE cE∧ ((w1.alloc (.cells #[.slice (some ⟨bI,0,none⟩) d.1.length cI, .slice (some ⟨bD,0,none⟩) 20 cD] 31)).alloc (.cells #[.int .i64 (d.1[j]?.getD id0).1, .int .i64 (d.1[j]?.getD id0).2.1, .int .i64 (d.1[j]?.getD id0).2.2.1, .slice aB (d.1[j]?.getD id0).2.2.2.1.length cB, .slice aE (d.1[j]?.getD id0).2.2.2.2.length cE, .int .i64 (j:Int), .slice (some ⟨bI,0,none⟩) d.1.length cI, .slice (some ⟨bD,0,none⟩) 20 cD] 198)).drew.cell? ⟨bI,j*5+3,none⟩=some (.slice aB (d.1[j]?.getD id0).2.2.2.1.length cB)∧ ((w1.alloc (.cells #[.slice (some ⟨bI,0,none⟩) d.1.length cI, .slice (some ⟨bD,0,none⟩) 20 cD] 31)).alloc (.cells #[.int .i64 (d.1[j]?.getD id0).1, .int .i64 (d.1[j]?.getD id0).2.1, .int .i64 (d.1[j]?.getD id0).2.2.1, .slice aB (d.1[j]?.getD id0).2.2.2.1.length cB, .slice aE (d.1[j]?.getD id0).2.2.2.2.length cE, .int .i64 (j:Int), .slice (some ⟨bI,0,none⟩) d.1.length cI, .slice (some ⟨bD,0,none⟩) 20 cD] 198)).drew.cell? ⟨bI,j*5+4,none⟩=some (.slice aE (d.1[j]?.getD id0).2.2.2.2.length cE)):=by
  have hl2: ∀o o':Obj,Below w1.heap.size w1 ((w1.alloc o).alloc o').drew:=fun o o'=> (qam w1 o o').drew
  refine ⟨⟨HB1.out.trans ((hl2 _ _).mono HB1.out.size),by omega, ?_,(HFS.out.later (hl2 _ _)).mono fun c hc=> ⟨by omega,by omega⟩,fun k hk=> ?_⟩,cell_later (hl2 _ _) i3,cell_later (hl2 _ _) i4⟩
  · have:=qdQ (w1.alloc (.cells #[.slice (some ⟨bI,0,none⟩) d.1.length cI, .slice (some ⟨bD,0,none⟩) 20 cD] 31)) [.int .i64 (d.1[j]?.getD id0).1, .int .i64 (d.1[j]?.getD id0).2.1, .int .i64 (d.1[j]?.getD id0).2.2.1, .slice aB (d.1[j]?.getD id0).2.2.2.1.length cB, .slice aE (d.1[j]?.getD id0).2.2.2.2.length cE, .int .i64 (j:Int), .slice (some ⟨bI,0,none⟩) d.1.length cI, .slice (some ⟨bD,0,none⟩) 20 cD] 198
    rw [World.size_alloc] at this
    exact this.later (Below.refl _ _).drew
  · obtain ⟨b,f1,_,_,f4,f5,f6⟩:=i7 k hk
    exact ⟨b,f1,f4,Nat.lt_of_lt_of_le f5 (hl2 (.cells #[.slice (some ⟨bI,0,none⟩) d.1.length cI, .slice (some ⟨bD,0,none⟩) 20 cD] 31) (.cells #[.int .i64 (d.1[j]?.getD id0).1, .int .i64 (d.1[j]?.getD id0).2.1, .int .i64 (d.1[j]?.getD id0).2.2.1, .slice aB (d.1[j]?.getD id0).2.2.2.1.length cB, .slice aE (d.1[j]?.getD id0).2.2.2.2.length cE, .int .i64 (j:Int), .slice (some ⟨bI,0,none⟩) d.1.length cI, .slice (some ⟨bD,0,none⟩) 20 cD] 198)).size,cell_later (hl2 _ _) f6⟩
 have hjI: (j:Int)< ((d.1.length:Nat):Int):=by omega
 rw [h20]
 clear HFS i7 hfs hf1 hb1 hne HCP
 generalize hl1: (d.1[j]?.getD id0).2.2.2.1.length=l1 at*
 generalize hl2: (d.1[j]?.getD id0).2.2.2.2.length=l2 at*
 have HL1:Hid ((d.1[j]?.getD id0).2.2.2.1.length=l1):=hl1
 have HL2:Hid ((d.1[j]?.getD id0).2.2.2.2.length=l2):=hl2
 clear hl1 hl2
 generalize (d.1[j]?.getD id0).1=y0 at*
 generalize (d.1[j]?.getD id0).2.1=y1 at*
 generalize (d.1[j]?.getD id0).2.2.1=y2 at*
 obtain ⟨n,hn⟩: ∃n,d.1.length=n:= ⟨_,rfl⟩
 have HN:Hid (d.1.length=n):=hn
 rw [hn] at hj h10 hjI HFIN ⊢
 clear hn
 have hnw1:w1.heap.size≠bI:=by omega
 have hnw2:bI≠w1.heap.size:=by omega
 go_wp2_with fail
 go_region_held3 (fun W=>W.cell? ⟨w1.heap.size,0,none⟩=some (.slice (some ⟨bI,0,none⟩) n cI)∧W.cell? ⟨w1.heap.size,1,none⟩=some (.slice (some ⟨bD,0,none⟩) 20 cD)∧W.cell? ⟨bI,j*5,none⟩=some (.int .i64 y0)∧W.cell? ⟨bI,j*5+1,none⟩=some (.int .i64 y1)∧W.cell? ⟨bI,j*5+2,none⟩=some (.int .i64 y2)∧W.cell? ⟨bI,j*5+3,none⟩=some (.slice aB l1 cB)∧W.cell? ⟨bI,j*5+4,none⟩=some (.slice aE l2 cE)) (go_keep) (fail)
 all_goals
  go_wp2
  go_ret
  first
   |exact ⟨w1.heap.size+1,bI,cI,bD,cD,aB,cB,aE,cE,rfl,by rw [HL1.out,HL2.out];exact HFIN.out⟩
   |exact ⟨w1.heap.size+1,bI,cI,bD,cD,aB,cB,aE,cE,rfl,by rw [HN.out,HL1.out,HL2.out];exact HFIN.out⟩
theorem qpa (w:World) (a1:Option Addr) (n1 c1:Nat) (a2:Option Addr) (n2 c2:Nat) (d:FD) (j:Nat) (h:FsR w (.slice a1 n1 c1) (.slice a2 n2 c2) d) (hs:sizeFs d≤1048576) (h20:d.2.length=20) (hj:j<d.1.length) (h10:d.1.length≤10):
 Calls Tryz.prog 151 #[.agg #[.slice a1 n1 c1, .slice a2 n2 c2], .int .i64 (j:Int)] w fun e w'=> ∃bf bI cI bD cD aB cB aE cE,e= .returned (.pointer (some ⟨bf,0,none⟩))∧FileS w w' bf bI d.1.length cI bD cD d j (d.1[j]?.getD id0) aB cB aE cE:=by
 refine (qfb w a1 n1 c1 a2 n2 c2 d j h hs h20 hj h10).mono ?_
 rintro e w' ⟨bf,bI,cI,bD,cD,aB,cB,aE,cE,he,hf,_⟩
 exact ⟨bf,bI,cI,bD,cD,aB,cB,aE,cE,he,hf⟩
end Go.Proofs.YthnmlipnoajmkaaGreatDoor

namespace Go.Proofs.YthnmlipnoajmkaaGreatDoor
open Go.RowKit
set_option maxRecDepth 100000

def qnk:List Value:= [.int .i64 0, .slice none 0 0, .slice none 0 0]
theorem qte (w:World) (t:TypeId):qaa (w.alloc (.cells #[.int .i64 0, .slice none 0 0, .slice none 0 0] t)) w.heap.size 3 (cel qnk):=qdQ w qnk t
theorem qfx (w:World) (F:Nat→Prop):qdo w (.int .i64 id0.1) (.int .i64 id0.2.1) (.int .i64 id0.2.2.1) (.slice none 0 0) (.slice none 0 0) id0 F:= ⟨⟨rfl,rfl,rfl,none,0,0,rfl,Nat.le_refl _⟩,fun _=>False,fun _=>False,Or.inl ⟨rfl,none,0,rfl⟩,Or.inl ⟨rfl,none,0,rfl⟩,fun _ h=>h.elim,fun _ h=>h.elim False.elim False.elim⟩
set_option maxHeartbeats 1600000 in
theorem qnl (w0 w:World) (bf bI n cI bD cD:Nat) (d:FD) (j:Nat) (x:ID) (aB:Option Addr) (cB:Nat) (aE:Option Addr) (cE:Nat) (h:FileS w0 w bf bI n cI bD cD d j x aB cB aE cE) (hr: ∀k:Nat,k<x.2.2.2.1.length→0≤x.2.2.2.1[k]?.getD 0∧x.2.2.2.1[k]?.getD 0<20) (h4:x.2.2.2.1.length≤4):
 Calls Tryz.prog 152 #[.pointer (some ⟨bf,0,none⟩)] w fun e w'=>e= .returned (.tuple #[])∧FileS w0 w' bf bI n cI bD cD (d.1,qeE d.2 x.2.2.2.1 x.2.2.2.1.length) j id0 none 0 none 0:=by
 have HFL:Hid (FileS w0 w bf bI n cI bD cD d j x aB cB aE cE):=h
 have hne:=h.fs.ne
 have hnf:w0.heap.size≤bf:=h.new
 have HDB:Hid (Calls Tryz.prog 169 #[.pointer (some ⟨bf,0,none⟩)] w fun e w'=>e= .returned (.tuple #[])∧Chg (fun c=>c=bD) w w'∧FsS w' bI n cI bD 20 cD (d.1,qeE d.2 x.2.2.2.1 x.2.2.2.1.length) (fun c=>w0.heap.size≤c∧c≠bf)):=qhw w bf bI n cI bD cD d _ _ aB cB x.2.2.2.1 rfl h.box rfl rfl h.fs (fun e=>hne.2.2.1.2 e.symm) h.blk hr h4
 clear h hr h4
 go_enter Tryz.func152,Tryz.ntmps152
 go_wp2_with fail
 refine HDB.out.mono ?_
 rintro e w3 ⟨rfl,hc3,hf3⟩
 have HBX3:Hid (qaa w3 bf 8 _):=HFL.out.box.block (hc3.block bf HFL.out.box.lt (fun e=>hne.2.2.1.2 e.symm))
 have HB3:Hid (Below w0.heap.size w0 w3):=HFL.out.below.trans (hc3.below HFL.out.below.size fun b hb=>hb▸hne.2.2.1.1)
 have HF3:Hid (FsS w3 bI n cI bD 20 cD (d.1,qeE d.2 x.2.2.2.1 x.2.2.2.1.length) (fun c=>w0.heap.size≤c∧c≠bf)):=hf3
 clear hc3 hf3 HDB
 go_wp2_with fail
 refine (qka w3 bf _ HBX3.out).mono ?_
 rintro e w4 ⟨rfl,hw4⟩
 have HC4:Hid (Chg (fun c=>c=bf) w3 w4):=by
  unfold Hid
  rw [hw4]
  have h0:Chg (fun c=>c=bf) w3 w3:=Chg.refl _ _
  have h1:=Chg.set (F:=fun c=>c=bf) h0 rfl 0 (.int .i64 0)
  have h2:=Chg.set (F:=fun c=>c=bf) h1 rfl (0+1) (.int .i64 0)
  have h3:=Chg.set (F:=fun c=>c=bf) h2 rfl (0+2) (.int .i64 0)
  have h4:=Chg.set (F:=fun c=>c=bf) h3 rfl (0+3) (.slice none 0 0)
  exact Chg.set (F:=fun c=>c=bf) h4 rfl (0+4) (.slice none 0 0)
 have HBX4:Hid (qaa w4 bf 8 (cel [.int .i64 id0.1, .int .i64 id0.2.1, .int .i64 id0.2.2.1, .slice none 0 0, .slice none 0 0, .int .i64 (j:Int), .slice (some ⟨bI,0,none⟩) n cI, .slice (some ⟨bD,0,none⟩) 20 cD])):=by
  unfold Hid
  rw [hw4]
  refine (HBX3.out.five 0 _ _ _ _ _).congr fun i hi=> ?_
  match i,hi with
  |0,_=>rfl
  |1,_=>rfl
  |2,_=>rfl
  |3,_=>rfl
  |4,_=>rfl
  |5,_=>rfl
  |6,_=>rfl
  |7,_=>rfl
 have HFIN:Hid (FileS w0 w4 bf bI n cI bD cD (d.1,qeE d.2 x.2.2.2.1 x.2.2.2.1.length) j id0 none 0 none 0):= ⟨HB3.out.trans (HC4.out.below HB3.out.size fun b hb=>hb▸hnf),hnf,HBX4.out,HF3.out.chg HC4.out fun b hb e=>hb.2 e,fun k hk=>by simp [id0] at hk⟩
 clear hw4 HC4 HBX3 HF3 HB3
 go_wp2
 go_end0
 exact ⟨rfl,HFIN.out⟩
end Go.Proofs.YthnmlipnoajmkaaGreatDoor

namespace Go.Proofs.YthnmlipnoajmkaaGreatDoor
open Go.RowKit
set_option maxRecDepth 100000

theorem qf8 {d:FD} {x:Int} {s:ByteArray} (h:qgp d x s=0):qdG d x=0:=by
 unfold qgp at h
 by_cases e:qdG d x=0
 · exact e
 · rw [if_neg e] at h;exact absurd h e
theorem qrv {d:FD} {x:Int} {s:ByteArray} (h:qgp d x s=0):qal s=0:=by
 have h':=qf8 h
 unfold qgp at h
 rw [if_pos h'] at h
 exact h
set_option maxHeartbeats 3200000 in
theorem qiV (w:World) (a1:Option Addr) (n1 c1:Nat) (a2:Option Addr) (n2 c2:Nat) (d:FD) (x:Int) (s:ByteArray) (h:FsR w (.slice a1 n1 c1) (.slice a2 n2 c2) d) (hs:sizeFs d≤1048576) (hl:s.size≤1048576):
 Calls Tryz.prog 57 #[.agg #[.slice a1 n1 c1, .slice a2 n2 c2], .int .i64 x, .string s] w fun e w'=>e= .returned (.agg #[.int .i64 (qcM d x s).1, .int .i64 (qcM d x s).2])∧Below w.heap.size w w':=by
 have hml:s.size≤maxLen:=by unfold maxLen;omega
 have HB0:Hid (Below w.heap.size w ((w.alloc (.cells #[.slice a1 n1 c1, .slice a2 n2 c2] 31)).alloc (.cells #[.int .i64 0, .int .i64 0] 86))):=qam _ _ _
 have HX:Hid (Bx ((w.alloc (.cells #[.slice a1 n1 c1, .slice a2 n2 c2] 31)).alloc (.cells #[.int .i64 0, .int .i64 0] 86)) w.heap.size [.slice a1 n1 c1, .slice a2 n2 c2]):= (Bx.new w [.slice a1 n1 c1, .slice a2 n2 c2] _).later (qab _ _)
 have HRB:Hid (qaa ((w.alloc (.cells #[.slice a1 n1 c1, .slice a2 n2 c2] 31)).alloc (.cells #[.int .i64 0, .int .i64 0] 86)) (w.heap.size+1) 2 (fun i=>if i=0 then .int .i64 0 else .int .i64 0)):=by
  have:=qaa.newS (w.alloc (.cells #[.slice a1 n1 c1, .slice a2 n2 c2] 31)) (.int .i64 0) (.int .i64 0) 86
  rw [World.size_alloc] at this
  exact this
 have HF:Hid (∀W,Below w.heap.size w W→Calls Tryz.prog 95 #[.agg #[.slice a1 n1 c1, .slice a2 n2 c2], .int .i64 x, .string s] W fun e w'=>e= .returned (.int .i64 (qgp d x s))∧Below W.heap.size W w'):=fun W hW=>qfk W _ _ _ _ _ _ d x s (h.later hW) (by unfold sizeFs at hs;omega) hml
 have HRR:Hid (qcM d x s=if qgp d x s=0 then (if idxE (qac d x.toNat) s< (qac d x.toNat).length then (0,((qac d x.toNat)[idxE (qac d x.toNat) s]?.getD en0).2) else (4,0)) else (qgp d x s,0)):=rfl
 rw [HRR.out]
 clear HRR
 by_cases hq:qgp d x s=0
 rotate_left
 · rw [if_neg hq]
   have hb: (qgp d x s !=0)=true:=by simpa using hq
   clear hq h hs
   generalize qgp d x s=r at*
   go_enter Tryz.func57,Tryz.ntmps57
   go_wp2_with fail
   generalize ((w.alloc (.cells #[.slice a1 n1 c1, .slice a2 n2 c2] 31)).alloc (.cells #[.int .i64 0, .int .i64 0] 86))=W0 at*
   refine (HF.out _ HB0.out).mono ?_
   rintro e w1 ⟨rfl,hb1⟩
   have HB1:Hid (Below w.heap.size w w1):=HB0.out.trans (hb1.mono HB0.out.size)
   have hrow:=HRB.out.later hb1
   have t0:=hrow.cell (i:=0) (by omega)
   have t1:=hrow.cell (i:=1) (by omega)
   have s0:=hrow.frozen 0
   have s1:=hrow.frozen 1
   simp only [ite_self] at t0 t1
   clear hb1 hrow
   go_wp2
   exact bodyPost_ret (v:= .agg #[.int .i64 r, .int .i64 0]) (by simp [results,Tryz.results57,go_sem,t0,t1]) rfl ⟨rfl,(HB1.out.setCell (by simp) _).setCell (by simp) _⟩
 · rw [if_pos hq]
   have hq0:qdG d x=0:=qf8 hq
   have hds:=qo3 hq0
   obtain ⟨_,hp,_⟩:=qkb hq0
   obtain ⟨j,rfl⟩: ∃j:Nat,x= (j:Int):= ⟨x.toNat,by omega⟩
   rw [Int.toNat_natCast] at hds ⊢
   obtain ⟨b0,o0,aE,cE,rfl,rfl,k4,hE⟩:=h.dir hds.lt
   have HK4:Hid (_=_):=k4
   have hjn: (j:Int)< ((d.1.length:Nat):Int):=by omega
   have hlt:=hds.lt
   have h6:=hds.six
   obtain ⟨_,_,eE,_,_,hAt⟩:=hE.open'
   simp only [Value.slice.injEq] at eE
   obtain ⟨rfl,-,rfl⟩:=eE
   rw [hq] at HF
   have HPL:Hid (∀W,Below w.heap.size w W→Calls Tryz.prog 96 #[.slice aE (qac d j).length cE, .string s] W fun e w'=>e= .returned (.tuple #[.int .i64 ((plcE (qac d j) s:Nat):Int), .bool (qm5 (qac d j) s)])∧Below W.heap.size W w'):=fun W hW=>qd6 W aE _ cE (qac d j) s rfl (by omega) (hAt.later hW)
   rw [qm6 hds.rises] at HPL
   by_cases hi:idxE (qac d j) s< (qac d j).length
   · rw [if_pos hi]
     rw [decide_eq_true hi,qhz hds.rises hi] at HPL
     obtain ⟨bE,oE,rfl,_,l1⟩:=hAt _ hi
     have HL1:Hid (_=_):=l1
     clear hq hds hp hE k4 h hAt l1 hq0
     generalize ((qac d j)[idxE (qac d j) s]?.getD en0).2=y at*
     generalize idxE (qac d j) s=i at*
     generalize (qac d j).length=m at*
     generalize d.1.length=n at*
     have hiI: (i:Int)< (m:Int):=by omega
     go_enter Tryz.func57,Tryz.ntmps57
     go_wp2_with fail
     generalize ((w.alloc (.cells #[.slice (some ⟨b0,o0,none⟩) n c1, .slice a2 n2 c2] 31)).alloc (.cells #[.int .i64 0, .int .i64 0] 86))=W0 at*
     refine (HF.out _ HB0.out).mono ?_
     rintro e w1 ⟨rfl,hb1⟩
     have HB1:Hid (Below w.heap.size w w1):=HB0.out.trans (hb1.mono HB0.out.size)
     have HR1:Hid (qaa w1 (w.heap.size+1) 2 _):=HRB.out.later hb1
     have y0:= (HX.out.later hb1) 0 _ rfl
     have y1:= (HX.out.later hb1) 1 _ rfl
     have k1:=cell_later HB1.out HK4.out
     have l1:=cell_later HB1.out HL1.out
     clear hb1
     go_wp2_with fail
     refine (HPL.out _ HB1.out).mono ?_
     rintro e w2 ⟨rfl,hb2⟩
     have HB2:Hid (Below w.heap.size w w2):=HB1.out.trans (hb2.mono HB1.out.size)
     have l2:=cell_later hb2 l1
     have hrow:=HR1.out.later hb2
     have t0:=hrow.cell (i:=0) (by omega)
     have t1:=hrow.cell (i:=1) (by omega)
     have s0:=hrow.frozen 0
     have s1:=hrow.frozen 1
     simp only [ite_self] at t0 t1
     clear hb2 hrow y0 y1 k1 l1
     go_wp2
     exact bodyPost_ret (v:= .agg #[.int .i64 0, .int .i64 y]) (by simp [results,Tryz.results57,go_sem,t0,t1]) rfl ⟨rfl,(HB2.out.setCell (by simp) _).setCell (by simp) _⟩
   · rw [if_neg hi]
     rw [decide_eq_false hi] at HPL
     clear hq hds hp hE k4 h hAt hq0 hi
     generalize plcE (qac d j) s=i at*
     generalize (qac d j).length=m at*
     generalize d.1.length=n at*
     go_enter Tryz.func57,Tryz.ntmps57
     go_wp2_with fail
     generalize ((w.alloc (.cells #[.slice (some ⟨b0,o0,none⟩) n c1, .slice a2 n2 c2] 31)).alloc (.cells #[.int .i64 0, .int .i64 0] 86))=W0 at*
     refine (HF.out _ HB0.out).mono ?_
     rintro e w1 ⟨rfl,hb1⟩
     have HB1:Hid (Below w.heap.size w w1):=HB0.out.trans (hb1.mono HB0.out.size)
     have HR1:Hid (qaa w1 (w.heap.size+1) 2 _):=HRB.out.later hb1
     have y0:= (HX.out.later hb1) 0 _ rfl
     have y1:= (HX.out.later hb1) 1 _ rfl
     have k1:=cell_later HB1.out HK4.out
     clear hb1
     go_wp2_with fail
     refine (HPL.out _ HB1.out).mono ?_
     rintro e w2 ⟨rfl,hb2⟩
     have HB2:Hid (Below w.heap.size w w2):=HB1.out.trans (hb2.mono HB1.out.size)
     have hrow:=HR1.out.later hb2
     have t0:=hrow.cell (i:=0) (by omega)
     have t1:=hrow.cell (i:=1) (by omega)
     have s0:=hrow.frozen 0
     have s1:=hrow.frozen 1
     simp only [ite_self] at t0 t1
     clear hb2 hrow y0 y1 k1
     go_wp2
     exact bodyPost_ret (v:= .agg #[.int .i64 4, .int .i64 0]) (by simp [results,Tryz.results57,go_sem,t0,t1]) rfl ⟨rfl,(HB2.out.setCell (by simp) _).setCell (by simp) _⟩

end Go.Proofs.YthnmlipnoajmkaaGreatDoor

namespace Go.Proofs.YthnmlipnoajmkaaGreatDoor
open Go.RowKit
set_option maxRecDepth 100000

def WdE (w:World) (n₀:Nat) (v:Value) (es:List EN):Prop:=w.ownsRow n₀ 76 2 v es.length (qaz es)
theorem WdE.later {w w':World} {n₀:Nat} {v:Value} {es:List EN} (h:WdE w n₀ v es) (hb:Below w.heap.size w w'):WdE w' n₀ v es:=qbh h hb
theorem WdE.shape {w:World} {n₀:Nat} {v:Value} {es:List EN} (h:WdE w n₀ v es): ∃a c,v= .slice a es.length c:=qa1 h
theorem WdE.nil (w:World) (n₀:Nat):WdE w n₀ (.slice none 0 0) []:= ⟨by simp [qaz],Or.inl ⟨rfl,rfl⟩⟩
theorem WdE.lit0 (w:World) (n₀:Nat) (h:n₀≤w.heap.size):WdE (w.alloc (.cells #[] 76)) n₀ (.slice (some ⟨w.heap.size,0,none⟩) 0 0) []:=
 ⟨by simp [qaz],Or.inr ⟨w.heap.size,0, #[],rfl,h,Go.Deep.blk_alloc_new _ _,Nat.le_refl _,by unfold maxLen;omega,by simp,by simp [qaz]⟩⟩
theorem WdE.own {w:World} {n₀:Nat} {v:Value} {es:List EN} (h:WdE w n₀ v es) (hz: ∀k:Nat,(es[k]?.getD en0).1.size≤maxLen):qbc w v es (fun b=>n₀≤b∧b<w.heap.size):=by
 obtain ⟨hl,h| ⟨g,cap,cur,rfl,hb,hh,hnc,hcm,hcs,htake⟩⟩:=h
 · exact Or.inl ⟨List.eq_nil_of_length_eq_zero h.2,_,_,by rw [h.1]⟩
 · refine Or.inr ⟨g,cap,⟨hb,(Array.getElem?_eq_some_iff.1 hh).1⟩,rfl,⟨by omega,hnc,hz⟩,cur,_,hh,by rw [hcs];exact Nat.mul_le_mul_right 2 hnc,fun k hk=> ?_⟩
   have h1:=qc1 es k hk
   rw [←htake,List.getElem?_take,if_pos hk,Array.getElem?_toList] at h1
   exact h1
theorem WdE.push (w:World) (ty:TypeId) (n₀:Nat) (v:Value) (es fs:List EN) (h:WdE w n₀ v es) (hn₀:n₀≤w.heap.size) (a:Option Addr) (m c:Nat) (hm:fs.length=m) (hc:AtN w a m fs) (hl:es.length+m≤1048576):
 ∃v' X,(Builtin.append_ #[72,72] ty #[v, .slice a m c]).run Tryz.prog w= .ok v' X∧WdE X n₀ v' (es++fs)∧Below n₀ w X:=by
 subst hm
 obtain ⟨i,hi,h1,h2,h3⟩:=Tryz.infoEnt'
 by_cases h0:fs.length=0
 · have hfs:fs= []:=List.eq_nil_of_length_eq_zero h0
   subst hfs
   obtain ⟨av,cv,rfl⟩:=h.shape
   refine ⟨_,w, ?_,by rw [List.append_nil];exact h,Below.refl _ _⟩
   have hcv:es.length≤cv:=by
    obtain ⟨_,h| ⟨g,cap,cur,e,hb,hh,hnc,_⟩⟩:=h
    · have:=h.2;omega
    · simp only [Value.slice.injEq] at e;omega
   cases a<;>cases av<;>simp [Builtin.append_,run_underlying Tryz.underlying72,sizeOf,typeInfo,hi,Builtin.lenOf,Builtin.firstCells,storeCells,loadCells,loadCellsFrom,hcv]
 · obtain ⟨b,off,rfl,_⟩:=hc 0 (by omega)
   obtain ⟨v',X,hr,ho,hg,_⟩:=run_append_own_wide (P:=Tryz.prog) w n₀ 72 ty 76 i _ 2 24 Tryz.underlying72 hi h1 h2 h3 rfl (by decide) v es.length (qaz es) h ⟨b,off,none⟩ fs.length c (qaz fs) (qau fs) (fun j u hu=>hc.cells rfl j u hu) (qc2 fs) (by unfold maxLen;omega) (by omega) hn₀
   refine ⟨v',X,hr, ?_,qaw hg hn₀ (fun k hk=> ?_)⟩
   · unfold WdE
     rw [List.length_append,qcz]
     exact ho
   · rcases h.2 with ⟨rfl,_⟩| ⟨g,cap,cur,rfl,hb,_⟩
     · simp [Value.ownBlock] at hk
     · simp [Value.ownBlock] at hk;omega
theorem qgV (w:World) (ty:TypeId) (es fs:List EN) (a:Option Addr) (n:Nat) (hn:es.length=n) (he:AtN w a n es) (ha:a=none→n=0) (a':Option Addr) (m c:Nat) (hm:fs.length=m) (hm0:0<m) (hc:AtN w a' m fs) (hl:n+m≤1048576):
 ∃v' X,(Builtin.append_ #[72,72] ty #[.slice a n n, .slice a' m c]).run Tryz.prog w= .ok v' X∧WdE X w.heap.size v' (es++fs)∧Below w.heap.size w X:=by
 cases a with
 | none=>
   have h0:=ha rfl
   have hes:es= []:=List.eq_nil_of_length_eq_zero (by omega)
   subst hes
   subst h0
   exact WdE.push w ty w.heap.size (.slice none 0 0) [] fs (WdE.nil _ _) (Nat.le_refl _) a' m c hm hc (by simpa using hl)
 | some p=>
   obtain ⟨i,hi,h1,h2,h3⟩:=Tryz.infoEnt'
   subst hn hm
   obtain ⟨b',off',rfl,_⟩:=hc 0 hm0
   have hp: ∀j u,(qaz es)[j]?=some u→w.cell? (p.add j)=some u:=fun j u hu=>by
    have hj:j<es.length*2:=by rw [←qau];exact (List.getElem?_eq_some_iff.1 hu).1
    obtain ⟨b,off,e,_⟩:=he 0 (by omega)
    simp only [Option.some.injEq] at e
    subst e
    exact he.cells rfl j u hu
   obtain ⟨v',X,hr,ho,hg⟩:=run_append_arg_grows (P:=Tryz.prog) w 72 ty 76 i _ 2 24 Tryz.underlying72 hi h1 h2 h3 rfl (by decide) p es.length es.length (qaz es) (qau es) hp ⟨b',off',none⟩ fs.length c (qaz fs) (qau fs) (fun j u hu=>hc.cells rfl j u hu) (by omega) (by unfold maxLen;omega) (by omega)
   refine ⟨v',X,hr, ?_,qaw hg (Nat.le_refl _) (fun k hk=>by simp at hk)⟩
   unfold WdE
   rw [List.length_append,qcz]
   exact ho
theorem qf9 (w:World) (s:ByteArray) (y:Int):AtN (w.alloc (.cells #[.string s, .int .i64 y] 76)) (some ⟨w.heap.size,0,none⟩) 1 [(s,y)]:=fun k hk=> ⟨w.heap.size,0,rfl,by
 have h0:k=0:=by omega
 subst h0
 rw [qar]
 rfl,by
 have h0:k=0:=by omega
 subst h0
 rw [qar]
 rfl⟩
theorem AtN.take {w:World} {a:Option Addr} {n:Nat} {es:List EN} (h:AtN w a n es) (k:Nat) (hk:k≤n):AtN w a k (es.take k):=fun i hi=>by
 obtain ⟨b,off,e,c0,c1⟩:=h i (by omega)
 exact ⟨b,off,e,by rw [List.getElem?_take,if_pos hi];exact c0,by rw [List.getElem?_take,if_pos hi];exact c1⟩
theorem AtN.drop {w:World} {b off n:Nat} {es:List EN} (h:AtN w (some ⟨b,off,none⟩) n es) (k:Nat):AtN w (some ⟨b,off+k*2,none⟩) (n-k) (es.drop k):=fun i hi=>by
 obtain ⟨b',off',e,c0,c1⟩:=h (k+i) (by omega)
 simp only [Option.some.injEq,Addr.mk.injEq,and_true] at e
 obtain ⟨rfl,rfl⟩:=e
 refine ⟨b,off+k*2,rfl, ?_, ?_⟩
 · rw [List.getElem?_drop,show off+k*2+i*2=off+ (k+i)*2 by omega];exact c0
 · rw [List.getElem?_drop,show off+k*2+i*2+1=off+ (k+i)*2+1 by omega];exact c1

theorem FsS.entS {w:World} {bI n cI bD cD:Nat} {d:FD} {F G:Nat→Prop} (hfs:FsS w bI n cI bD 20 cD d F) (j:Nat) (hj:j<n) (hblk: (d.1[j]?.getD id0).2.2.2.1= []) (es:List EN) (vE:Value) (hE:qbc w vE es G) (hG: ∀c,G c→ ¬F c∧c<w.heap.size):
 FsS (w.setCell ⟨bI,j*5+4,none⟩ vE) bI n cI bD 20 cD (d.1.set j ((d.1[j]?.getD id0).1,(d.1[j]?.getD id0).2.1,(d.1[j]?.getD id0).2.2.1, [],es),d.2) (fun c=>F c∨G c):=by
 have hne:=hfs.ne
 have hl:=hfs.len.1
 obtain ⟨aB,cB,aE,cE,i0,i1,i2,i3,i4,i5,_,_⟩:=hfs.ino j hj
 rw [hblk] at i3
 have h1:Chg (fun c=>c=bI) w (w.setCell ⟨bI,j*5+4,none⟩ vE):=Chg.set (F:=fun c=>c=bI) (Chg.refl _ w) rfl (j*5+4) vE
 refine hfs.putI j hj _ (.slice aB 0 cB) vE (fun u hu=> ?_) h1 ?_ (fun c hc=> ⟨(hG c hc).1,by simpa [World.setCell] using (hG c hc).2⟩)
 · have c0 :=hu.cell (i:=j*5) (by omega)
   have c1:=hu.cell (i:=j*5+1) (by omega)
   have c2:=hu.cell (i:=j*5+2) (by omega)
   have c3:=hu.cell (i:=j*5+3) (by omega)
   rw [i0] at c0
   rw [i1] at c1
   rw [i2] at c2
   rw [i3] at c3
   have e0:= (Option.some.inj c0).symm
   have e1:= (Option.some.inj c1).symm
   have e2:= (Option.some.inj c2).symm
   have e3:= (Option.some.inj c3).symm
   refine (hu.set (j*5+4) _).congr fun c _=> ?_
   rw [qcd d.1 u j (by omega)]
   by_cases q4:c=j*5+4
   · rw [if_pos q4,if_neg (by omega),if_neg (by omega),if_neg (by omega),if_neg (by omega)]
   · rw [if_neg q4]
     by_cases q0:c=j*5
     · rw [if_pos q0,q0,e0]
     · rw [if_neg q0]
       by_cases q1:c=j*5+1
       · rw [if_pos q1,q1,e1]
       · rw [if_neg q1]
         by_cases q2:c=j*5+2
         · rw [if_pos q2,q2,e2]
         · rw [if_neg q2]
           by_cases q3:c=j*5+3
           · rw [if_pos q3,q3,e3];rfl
           · rw [if_neg q3]
 · exact ⟨⟨rfl,rfl,rfl,aB,0,cB,rfl,Nat.zero_le _⟩,fun _=>False,G,Or.inl ⟨rfl,aB,cB,rfl⟩,hE.keep fun c hc hlt=>h1.block c hlt fun e=> (hG c hc).1 (e▸hne.2.1.1),fun _ hh=>hh.elim,fun b hh=>hh.elim False.elim id⟩
theorem FsS.lnkS {w:World} {bI n cI bD cD:Nat} {d:FD} {F:Nat→Prop} (hfs:FsS w bI n cI bD 20 cD d F) (j:Nat) (hj:j<n) (l:Int):
 FsS (w.setCell ⟨bI,j*5+1,none⟩ (.int .i64 l)) bI n cI bD 20 cD (d.1.set j ((d.1[j]?.getD id0).1,l,(d.1[j]?.getD id0).2.2),d.2) F:=by
 have h1:Chg (fun c=>c=bI) w (w.setCell ⟨bI,j*5+1,none⟩ (.int .i64 l)):=Chg.set (F:=fun c=>c=bI) (Chg.refl _ w) rfl (j*5+1) _
 obtain ⟨F1,G1,⟨g0,gm,u,G,g1,g2,g3,g4,g5⟩,h2,h3,h4⟩:=hfs
 refine ⟨F1,G1,⟨by simpa using g0,gm,u,G,g1,g2,g3, ?_,fun i hi=> ?_⟩,h2.keep fun c hc hlt=>h1.block c hlt fun e=>h3 bI g1 (e▸hc),h3,fun b hb=> ⟨(h4 b hb).1,by simpa [World.setCell] using (h4 b hb).2⟩⟩
 · refine (g4.set (j*5+1) _).congr fun c _=> ?_
   have e:=qcd d.1 u j (by omega) ((d.1[j]?.getD id0).1,l,(d.1[j]?.getD id0).2.2) (u j).1 (u j).2 c
   have eu: (fun i=>if i=j then ((u j).1,(u j).2) else u i)=u:=by
    funext i
    by_cases h:i=j
    · rw [if_pos h,h]
    · rw [if_neg h]
   rw [eu] at e
   rw [e]
   by_cases q1:c=j*5+1
   · rw [if_pos q1,if_neg (by omega),if_pos q1]
   · rw [if_neg q1]
     by_cases q0:c=j*5
     · rw [if_pos q0,q0,qb5]
     · rw [if_neg q0,if_neg q1]
       by_cases q2:c=j*5+2
       · rw [if_pos q2,q2,qb6]
       · rw [if_neg q2]
         by_cases q3:c=j*5+3
         · rw [if_pos q3,q3,qbL]
         · rw [if_neg q3]
           by_cases q4:c=j*5+4
           · rw [if_pos q4,q4,qbv]
           · rw [if_neg q4]
 · rw [qa2 _ _ _ _ _ (by omega)]
   have hk: ∀c,G i c→c<w.heap.size→ (w.setCell ⟨bI,j*5+1,none⟩ (.int .i64 l)).heap[c]?=w.heap[c]?:=fun c hc hlt=>h1.block c hlt fun e=> (g2 i c hc).2 e
   by_cases e:i=j
   · rw [if_pos e]
     have hv:= (g5 i hi).keep hk
     rw [e] at hv ⊢
     obtain ⟨⟨_,_,_,hcap⟩,hrest⟩:=hv
     exact ⟨⟨rfl,rfl,rfl,hcap⟩,hrest⟩
   · rw [if_neg e]
     exact (g5 i hi).keep hk
theorem FsS.boundF {w:World} {bI n cI bD m cD:Nat} {d:FD} {F:Nat→Prop} (h:FsS w bI n cI bD m cD d F):FsS w bI n cI bD m cD d (fun c=>F c∧c<w.heap.size):=by
 obtain ⟨F1,G1,h1,h2,h3,h4⟩:=h
 exact ⟨F1,G1,h1,h2,h3,fun b hb=> ⟨h4 b hb,(h4 b hb).2⟩⟩
end Go.Proofs.YthnmlipnoajmkaaGreatDoor

namespace Go.Proofs.YthnmlipnoajmkaaGreatDoor
open Go.RowKit
set_option maxRecDepth 100000

def qbF (es:List EN) (k:Nat) (e:EN):List EN:=es.take k++ [e]++es.drop k
def qaH (d:FD) (j:Nat) (es:List EN):FD:= (d.1.set j ((d.1[j]?.getD id0).1,(d.1[j]?.getD id0).2.1,(d.1[j]?.getD id0).2.2.1, [],es),d.2)
def qcO (d:FD) (j:Nat) (l:Int):FD:= (d.1.set j ((d.1[j]?.getD id0).1,l,(d.1[j]?.getD id0).2.2),d.2)
def qsc (d:FD) (j:Nat) (s:ByteArray) (y:Nat):FD:=if qae d.1 y=1 then qcO (qaH d j (qbF (qac d j) (plcE (qac d j) s) (s,(y:Int)))) y ((d.1[y]?.getD id0).2.1+1) else qaH d j (qbF (qac d j) (plcE (qac d j) s) (s,(y:Int)))
def qkj (d:FD) (j:Nat) (s:ByteArray) (y:Int):Int×FD:=
 if idxE (qac d j) s< (qac d j).length then qgh 7 else if 0≤y∧y< (d.1.length:Int)∧ ¬qae d.1 y.toNat=0 then (if (qac d j).length=6∨ (qae d.1 y.toNat=1∧60≤ (d.1[y.toNat]?.getD id0).2.1) then qgh 2 else (0,qsc d j s y.toNat)) else qgh 4
def qrw (d:FD) (x:Int) (s:ByteArray) (y:Int):Int×FD:=if qgp d x s=0 then qkj d x.toNat s y else qgh (qgp d x s)

set_option maxHeartbeats 800000 in
theorem qdd (w:World) (aE:Option Addr) (n cE k:Nat) (hk:k≤n) (hc:n≤cE) (_hn:n≤1048576):
 Calls Tryz.prog 132 #[.slice aE n cE, .int .i64 (k:Int)] w fun e w'=>e= .returned (.slice aE k k)∧w'=w:=by
 have hkc:k≤cE:=by omega
 go_enter Tryz.func132,Tryz.ntmps132
 go_wp2
 go_ret
 exact ⟨rfl,rfl⟩

def qkk (aE:Option Addr) (cE k:Nat):Option Addr:=if cE=k then aE else Option.map (fun x=>x.add (k*2)) aE
theorem AtN.tail {w:World} {aE:Option Addr} {n cE k:Nat} {es:List EN} (h:AtN w aE n es) (hc:n≤cE):AtN w (qkk aE cE k) (n-k) (es.drop k):=fun i hi=>by
 obtain ⟨b,off,rfl,_⟩:=h 0 (by omega)
 unfold qkk
 rw [if_neg (by omega),Option.map_some,qaA]
 exact h.drop k i hi
set_option maxHeartbeats 3200000 in
theorem qhN (w:World) (aE:Option Addr) (n cE k:Nat) (es:List EN) (s:ByteArray) (y:Int) (hn:es.length=n) (hc:n≤cE) (hk:k≤n) (h6:n≤6) (hat:AtN w aE n es) (ha:aE=none→n=0):
 Calls Tryz.prog 104 #[.slice aE n cE, .int .i64 (k:Int), .agg #[.string s, .int .i64 y]] w fun e w'=> ∃v,e= .returned v∧WdE w' w.heap.size v (qbF es k (s,y))∧Below w.heap.size w w':=by
 have HEA:Hid (∀W,Calls Tryz.prog 132 #[.slice aE n cE, .int .i64 (k:Int)] W fun e w'=>e= .returned (.slice aE k k)∧w'=W):=fun W=>qdd W aE n cE k hk hc (by omega)
 have hb1:Below w.heap.size w (((w.alloc (.cells #[.string s, .int .i64 y] 76)).drew).alloc (.cells #[.string s, .int .i64 y] 76)):= ((qab _ _).drew).trans ((qab _ _).mono (by simp))
 have hlit:=qf9 (w.alloc (.cells #[.string s, .int .i64 y] 76)).drew s y
 obtain ⟨v1,X1,hr1,hw1,hbx1⟩:=qgV _ 72 (es.take k) [(s,y)] aE k (by rw [List.length_take];omega) ((hat.take k hk).later hb1) (fun e=>by have:=ha e;omega) _ 1 1 rfl (by omega) hlit (by omega)
 have hbx1':Below w.heap.size w X1:=hb1.trans (hbx1.mono hb1.size)
 obtain ⟨v2,X2,hr2,hw2,hbx2⟩:=WdE.push X1 72 _ v1 _ (es.drop k) hw1 hbx1.size (qkk aE cE k) (n-k) (cE-k) (by rw [List.length_drop];omega) ((hat.tail hc).later hbx1') (by rw [List.length_append,List.length_take];simp;omega)
 rw [show (w.alloc (.cells #[.string s, .int .i64 y] 76)).drew.heap.size=w.heap.size+1 by simp] at hr1
 have HR1:Hid ((Builtin.append_ #[72,72] 72 #[.slice aE k k, .slice (some ⟨w.heap.size+1,0,none⟩) 1 1]).run Tryz.prog (((w.alloc (.cells #[.string s, .int .i64 y] 76)).alloc (.cells #[.string s, .int .i64 y] 76)).drew)= .ok v1 X1):=hr1
 unfold qkk at hr2
 have HR2:Hid (_=_):=hr2
 obtain ⟨a1',c1',rfl⟩:=hw1.shape
 have hlen: (es.take k++ [(s,y)]).length=k+1:=by rw [List.length_append,List.length_take];simp;omega
 rw [hlen] at HR1 HR2
 have HW2:Hid (WdE X2 w.heap.size v2 (qbF es k (s,y))):=by
  unfold Hid qbF
  exact qcr hw2 hb1.size
 have HB2:Hid (Below w.heap.size w X2):=hbx1'.trans (hbx2.mono hb1.size)
 have hkI: (k:Int)≤ (n:Int):=by omega
 clear hb1 hlit hr1 hr2 hw1 hbx1 hbx1' hw2 hbx2 hat ha hn hlen
 go_enter Tryz.func104,Tryz.ntmps104
 go_wp2_with fail
 go_region_law (first
  | (refine qaK rfl _ _ 72 rfl _ _ rfl rfl _ _ HR1.out ?_;clear HR1)
  | (refine qaK rfl _ _ 72 rfl _ _ rfl rfl _ _ HR2.out ?_;clear HR2)
  | (try go_simp;go_at_call 132;refine (HEA.out _).mono ?_;rintro e w2 ⟨rfl,rfl⟩)
  |fail)
 all_goals
  go_wp2
  all_goals
   go_ret
   exact ⟨_,rfl,HW2.out,HB2.out⟩
end Go.Proofs.YthnmlipnoajmkaaGreatDoor
