/- Files that are read,written,cut and dropped:what they come to. No program is named here. The program's file at work:opened,its bytes dropped,released,closed. Answers of calls:a code,a reply,a value,bytes,names and a file system,in the one form. Directories:which name stands where,and what functions of directories come to. No program is named here. What can be reached:rounds over all inodes,and the way from one to the next,come to the same. -/
import Derived.Test.YthnmlipnoajmkaaGreatDoorM14
import Derived.Test.YthnmlipnoajmkaaGreatDoorM11
import Derived.Test.YthnmlipnoajmkaaGreatDoorM07
import Derived.Test.YthnmlipnoajmkaaGreatDoorM06
import Derived.Test.YthnmlipnoajmkaaGreatDoorM12
namespace Go.Proofs.YthnmlipnoajmkaaGreatDoor
open Go.RowKit
set_option maxRecDepth 100000

def qeE (zss:List (List UInt8)) (bs:List Int):Nat→List (List UInt8)
 |0=>zss
 |k+1=> (qeE zss bs k).set (bs[k]?.getD 0).toNat []
def qnO (zss:List (List UInt8)) (bs:List Int) (data:List UInt8):Nat→List (List UInt8)
 |0=>zss
 |k+1=> (qnO zss bs data k).set (bs[k]?.getD 0).toNat ((data.drop (k*8)).take 8)
theorem qch (zss:List (List UInt8)) (bs:List Int): ∀k,(qeE zss bs k).length=zss.length
 |0=>rfl
 |k+1=>by show ((qeE zss bs k).set _ _).length=_;rw [List.length_set,qch zss bs k]
theorem qj9 (zss:List (List UInt8)) (bs:List Int) (data:List UInt8): ∀k,(qnO zss bs data k).length=zss.length
 |0=>rfl
 |k+1=>by show ((qnO zss bs data k).set _ _).length=_;rw [List.length_set,qj9 zss bs data k]
theorem qgM {zss:List (List UInt8)} {m:Nat} (h: ∀i:Nat,(zss[i]?.getD []).length≤m) (y:Nat) (zs:List UInt8) (hz:zs.length≤m) (i:Nat): ((zss.set y zs)[i]?.getD []).length≤m:=by
 rw [List.getElem?_set]
 by_cases e:y=i
 · rw [if_pos e]
   by_cases hl:y<zss.length
   · rw [if_pos hl];exact hz
   · rw [if_neg hl];simp
 · rw [if_neg e];exact h i
theorem qhv {zss:List (List UInt8)} {m:Nat} (h: ∀i:Nat,(zss[i]?.getD []).length≤m) (bs:List Int): ∀ (k i:Nat),((qeE zss bs k)[i]?.getD []).length≤m
 |0,i=>h i
 |k+1,i=>qgM (qhv h bs k) _ _ (by simp) i
theorem qpP {zss:List (List UInt8)} (h: ∀i:Nat,(zss[i]?.getD []).length≤8) (bs:List Int) (data:List UInt8): ∀ (k i:Nat),((qnO zss bs data k)[i]?.getD []).length≤8
 |0,i=>h i
 |k+1,i=>qgM (qpP h bs data k) _ _ (by rw [List.length_take];omega) i
theorem qbq {zss:List (List UInt8)} (h: ∀i:Nat,(zss[i]?.getD []).length≤8): (qax zss).sum≤8*zss.length:=by
 unfold qax
 induction zss with
 |nil=>simp
 | cons z zss ih=>
   have h0:=h 0
   have:=ih fun i=>by have:=h (i+1);simpa using this
   simp at h0
   simp only [List.map_cons,List.sum_cons,List.length_cons]
   omega

def qci (d:FD) (j:Nat):List Int:= (d.1[j]?.getD id0).2.2.2.1
def qs8 (d:FD) (j:Nat) (bs:List Int) (n:Nat):ID:= ((d.1[j]?.getD id0).1,(d.1[j]?.getD id0).2.1,(n:Int),bs,(d.1[j]?.getD id0).2.2.2.2)
def qs9 (d:FD) (j:Nat) (bs:List Int) (data:List UInt8):FD:= (d.1.set j (qs8 d j bs data.length),qnO (qeE d.2 (qci d j) (qci d j).length) bs data bs.length)
def qc6 (d:FD) (j:Nat):FD:= (d.1.set j id0,qeE d.2 (qci d j) (qci d j).length)
def qgh (c:Int):Int×FD:= (c, [], [])
def qsy (d:FD) (j:Nat) (data:List UInt8) (busy:List Int):Int×FD:=
 if data.length≤32 then (if (qmO d.1 busy (((data.length+7)/8:Nat):Int)).1=0 then (0,qs9 d j (qmO d.1 busy (((data.length+7)/8:Nat):Int)).2 data) else qgh (qmO d.1 busy (((data.length+7)/8:Nat):Int)).1) else qgh 2
def qqC (d:FD) (x:Int) (busy:List Int):Int:=if (qje d x).1=0 then qqu busy else (qje d x).1
def qtm (d:FD) (x:Int) (data:List UInt8) (busy:List Int):Int×FD:=if qqC d x busy=0 then qsy d x.toNat data busy else qgh (qqC d x busy)
def qrk (p:Int):Bool:=decide (0≤p)&&decide (p≤1000)
def qsO (zs:List UInt8) (n:Nat):List UInt8:= (zs++List.replicate (n-zs.length) 0).take n
def qta (zs:List UInt8) (p:Nat) (data:List UInt8):List UInt8:=zs.take p++data++zs.drop (p+data.length)
def qsz (d:FD) (x p:Int) (data:List UInt8) (busy:List Int):Int×FD:=
 if qqC d x busy=0 then (if qrk p=true then (if p+ (data.length:Int)≤32 then (if data.length=0 then (0,d) else qsy d x.toNat (qta (qsO (qos d x.toNat) (max (p.toNat+data.length) (qos d x.toNat).length)) p.toNat data) busy) else qgh 2) else qgh 3) else qgh (qqC d x busy)
def qtn (d:FD) (x n:Int) (busy:List Int):Int×FD:=
 if qqC d x busy=0 then (if 0≤n∧n≤32 then qsy d x.toNat (qsO (qos d x.toNat) n.toNat) busy else qgh 3) else qgh (qqC d x busy)
def qrl (d:FD) (x:Int):Int×FD:=if (qje d x).1=0 then (0,qc6 d x.toNat) else qgh (qje d x).1
def qrX (zs:List UInt8) (p n:Nat):List UInt8:= (zs.drop p).take n
def qsP (d:FD) (x p n:Int):Int×List UInt8:=
 if (qje d x).1=0 then (if qrk p&& (decide (0≤n)&&decide (n≤100)) then (0,qrX (qos d x.toNat) p.toNat n.toNat) else (3, [])) else ((qje d x).1, [])

structure Sound (d:FD) (j:Nat):Prop where
 fs:fsF d=0
 lt:j<d.1.length
 ten:d.1.length≤10
 dat:d.2.length=20
 eight: ∀i:Nat,(d.2[i]?.getD []).length≤8
 kind: (d.1[j]?.getD id0).1=1
 ent: (d.1[j]?.getD id0).2.2.2.2= []
 four: (qci d j).length≤4
 blk: ∀k:Nat,k< (qci d j).length→0≤ (qci d j)[k]?.getD 0∧ (qci d j)[k]?.getD 0<20
 bl: (qos d j).length≤32
theorem qmZ {d:FD} {x:Int} (h: (qje d x).1=0):qje d x= (0,qos d x.toNat)∧fsF d=0∧ (0≤x∧x< (d.1.length:Int))∧ ¬qae d.1 x.toNat=2∧ ¬qae d.1 x.toNat=0:=by
 unfold qje at h ⊢
 by_cases hf:fsF d=0
 · rw [if_pos hf] at h ⊢
   by_cases hp:0≤x∧x< (d.1.length:Int)
   · rw [if_pos hp] at h ⊢
     by_cases h2:qae d.1 x.toNat=2
     · rw [if_pos h2] at h;simp at h
     · rw [if_neg h2] at h ⊢
       by_cases h0:qae d.1 x.toNat=0
       · rw [if_pos h0] at h;simp at h
       · rw [if_neg h0]
         exact ⟨rfl,hf,hp,h2,h0⟩
   · rw [if_neg hp] at h;simp at h
 · rw [if_neg hf] at h;exact absurd h hf
theorem qrY {d:FD} {x:Int} (h: ¬ (qje d x).1=0): (qje d x).2= []:=by
 unfold qje at h ⊢
 by_cases hf:fsF d=0
 · rw [if_pos hf] at h ⊢
   by_cases hp:0≤x∧x< (d.1.length:Int)
   · rw [if_pos hp] at h ⊢
     by_cases h2:qae d.1 x.toNat=2
     · rw [if_pos h2]
     · rw [if_neg h2] at h ⊢
       by_cases h0:qae d.1 x.toNat=0
       · rw [if_pos h0]
       · rw [if_neg h0] at h;exact absurd rfl h
   · rw [if_neg hp]
 · rw [if_neg hf]
theorem qm0 {d:ID} (h:qbl d=0) (h2: ¬d.1=2) (h0: ¬d.1=0):d.1=1∧d.2.2.2.2= []:=by
 unfold qbl at h
 rw [if_neg h0] at h
 by_cases h1:d.1=1
 · rw [if_pos h1] at h
   refine ⟨h1, ?_⟩
   by_cases hd:dpB d=true
   · rw [if_pos hd] at h;omega
   · unfold dpB at hd
     simp at hd
     exact hd
 · rw [if_neg h1,if_neg h2] at h;omega
theorem qsA {d:FD} {x:Int} (h: (qje d x).1=0):Sound d x.toNat:=by
 obtain ⟨_,hf,hp,h2,h0⟩:=qmZ h
 obtain ⟨h1,g2,h3,_,_⟩:=qc5 (qhu hf)
 obtain ⟨g1,_,g3⟩:=qet g2
 have hj:x.toNat<d.1.length:=by omega
 have hk:=qm0 (qaM h1 x.toNat hj) h2 h0
 have hsz:=qb9 (qaM h1 x.toNat hj)
 have hb:=qht d (d.1[x.toNat]?.getD id0).2.2.2.1 (qdE h3) _ (Nat.le_refl _)
 refine ⟨hf,hj,qbM h1,g3,qdE h3,hk.1,hk.2, ?_,fun k hk=>qfV h1 _ k hj hk, ?_⟩
 · show (d.1[x.toNat]?.getD id0).2.2.2.1.length≤4
   omega
 · show (qpO d _ _).length≤32
   omega
end Go.Proofs.YthnmlipnoajmkaaGreatDoor

namespace Go.Proofs.YthnmlipnoajmkaaGreatDoor
open Go.RowKit
set_option maxRecDepth 100000

def qrZ (w:World) (bD:Nat) (aB:Option Addr) (bs:List Int):Prop:= ∀k,k<bs.length→ ∃b1,aB=some ⟨b1,0,none⟩∧b1≠bD∧b1<w.heap.size∧w.cell? ⟨b1,k,none⟩=some (.int .i64 (bs[k]?.getD 0))
theorem Chg.cellOf {F:Nat→Prop} {w w':World} (h:Chg F w w') {b o:Nat} {v:Value} (hv:w.cell? ⟨b,o,none⟩=some v) (hf: ¬F b):w'.cell? ⟨b,o,none⟩=some v:= (h.cell (a:= ⟨b,o,none⟩) (World.block_lt_of_cell? _ _ hv) hf).trans hv
theorem FsS.clr {w:World} {bI n cI bD cD:Nat} {d:FD} {F:Nat→Prop} {bs:List Int} {k y:Nat} (h:FsS w bI n cI bD 20 cD (d.1,qeE d.2 bs k) F) (hy:y<20) (e:bs[k]?.getD 0= (y:Int)):FsS (w.setCell ⟨bD,y,none⟩ (.slice none 0 0)) bI n cI bD 20 cD (d.1,qeE d.2 bs (k+1)) F:=by
 have:=h.put (G:=fun _=>False) y hy (Below.refl _ _) (.slice none 0 0) [] (Or.inl ⟨rfl,none,0,rfl⟩) (fun c hc=>hc.elim)
 have e2:qeE d.2 bs (k+1)= (qeE d.2 bs k).set y []:=by
  show (qeE d.2 bs k).set (bs[k]?.getD 0).toNat []=_
  rw [e];rfl
 rw [e2]
 exact this

set_option maxHeartbeats 1600000 in
theorem qhw (w:World) (bf bI n cI bD cD:Nat) (d:FD) (F:Nat→Prop) (vs:List Value) (aB:Option Addr) (cB:Nat) (bs:List Int) (_hv:vs.length=8) (hbox:qaa w bf 8 (cel vs)) (e3:cel vs 3= .slice aB bs.length cB) (e7:cel vs 7= .slice (some ⟨bD,0,none⟩) 20 cD) (hfs:FsS w bI n cI bD 20 cD d F) (hbf:bf≠bD) (hbs:qrZ w bD aB bs) (hr: ∀k:Nat,k<bs.length→0≤bs[k]?.getD 0∧bs[k]?.getD 0<20) (h4:bs.length≤4):
 Calls Tryz.prog 169 #[.pointer (some ⟨bf,0,none⟩)] w fun e w'=>e= .returned (.tuple #[])∧Chg (fun c=>c=bD) w w'∧FsS w' bI n cI bD 20 cD (d.1,qeE d.2 bs bs.length) F:=by
 have q3:=hbox.cell (i:=3) (by omega)
 have q7:=hbox.cell (i:=7) (by omega)
 rw [e3] at q3
 rw [e7] at q7
 have HFS:Hid (FsS w bI n cI bD 20 cD d F):=hfs
 have HBS:Hid (qrZ w bD aB bs):=hbs
 have HRG:Hid (∀k:Nat,k<bs.length→0≤bs[k]?.getD 0∧bs[k]?.getD 0<20):=hr
 obtain ⟨nB,hnB⟩: ∃nB,bs.length=nB:= ⟨_,rfl⟩
 have HNB:Hid (bs.length=nB):=hnB
 rw [hnB] at q3 HRG h4 ⊢
 clear hfs hbs hr hbox hnB e3 e7
 go_enter Tryz.func169,Tryz.ntmps169
 go_wp2_with fail
 go_loopw [10] (fun i wr=> ∃k:Nat,k≤nB∧i= .int .i64 k∧Chg (fun c=>c=bD) w wr∧FsS wr bI n cI bD 20 cD (d.1,qeE d.2 bs k) F) (fun i _=>nB- (intOf i).toNat)
 case atStart=>exact ⟨0,Nat.zero_le _,rfl,Chg.refl _ _,HFS.out⟩
 case round=>
  obtain ⟨k,hk,rfl,hc,hf⟩:=hrel
  have HC:Hid (Chg (fun c=>c=bD) w wr):=hc
  have HF:Hid (FsS wr bI n cI bD 20 cD (d.1,qeE d.2 bs k) F):=hf
  have q7r:=hc.cellOf q7 hbf
  clear hc hf
  by_cases hlt:k<nB
  · obtain ⟨b1,rfl,hb1,_,c1⟩:=HBS.out k (by rw [HNB.out];exact hlt)
    have c1r:=HC.out.cellOf c1 hb1
    have hrg:=HRG.out k hlt
    have HCL:Hid (∀y:Nat,y<20→bs[k]?.getD 0= (y:Int)→FsS (wr.setCell ⟨bD,y,none⟩ (.slice none 0 0)) bI n cI bD 20 cD (d.1,qeE d.2 bs (k+1)) F):=fun y hy e=>HF.out.clr hy e
    generalize bs[k]?.getD 0=x at*
    obtain ⟨y,rfl⟩: ∃y:Nat,x= (y:Int):= ⟨x.toNat,by omega⟩
    have hy:y<20:=by omega
    have hyI: (y:Int)<20:=by omega
    obtain ⟨ua,uc,d0,d1,_⟩:=HF.out.data y hy
    have HN:Hid (FsS (wr.setCell ⟨bD,y,none⟩ (.slice none 0 0)) bI n cI bD 20 cD (d.1,qeE d.2 bs (k+1)) F):=HCL.out y hy rfl
    clear HCL hrg c1
    go_wp2
    go_roundw
    case rel=>exact ⟨k+1,by omega,by go_num,HC.out.set rfl _ _,HN.out⟩
    case measure=>simp [intOf];omega
  · have e:k=nB:=by omega
    subst e
    go_wp2
    go_end0
    exact ⟨rfl,HC.out,HF.out⟩

set_option maxHeartbeats 800000 in
theorem qka (w:World) (bf:Nat) (vs:List Value) (hbox:qaa w bf 8 (cel vs)):
 Calls Tryz.prog 102 #[.pointer (some ⟨bf,0,none⟩)] w fun e w'=>e= .returned (.tuple #[])∧w'=qcB w bf 0 (.int .i64 0) (.int .i64 0) (.int .i64 0) (.slice none 0 0) (.slice none 0 0):=by
 have c0:=hbox.cell (i:=0) (by omega)
 have c1:=hbox.cell (i:=1) (by omega)
 have c2:=hbox.cell (i:=2) (by omega)
 have c3:=hbox.cell (i:=3) (by omega)
 have c4:=hbox.cell (i:=4) (by omega)
 have f0:=hbox.frozen 0
 have f1:=hbox.frozen 1
 have f2:=hbox.frozen 2
 have f3:=hbox.frozen 3
 have f4:=hbox.frozen 4
 clear hbox
 go_enter Tryz.func102,Tryz.ntmps102
 go_wp2
 go_end0
 exact ⟨rfl,rfl⟩

def qot (w:World) (bI j:Nat) (x:ID) (vB vE va vb:Value):World:= ((qcB w bI (j*5) (.int .i64 x.1) (.int .i64 x.2.1) (.int .i64 x.2.2.1) vB vE).alloc (.cells #[va,vb] 31)).drew
theorem qeR (w:World) (bI j:Nat) (x:ID) (vB vE va vb:Value):Chg (fun c=>c=bI) w (qot w bI j x vB vE va vb):=by
 have h:Chg (fun c=>c=bI) w (qcB w bI (j*5) (.int .i64 x.1) (.int .i64 x.2.1) (.int .i64 x.2.2.1) vB vE):=by
  have h0:Chg (fun c=>c=bI) w w:=Chg.refl _ _
  have h1:=Chg.set (F:=fun c=>c=bI) h0 rfl (j*5) (.int .i64 x.1)
  have h2:=Chg.set (F:=fun c=>c=bI) h1 rfl (j*5+1) (.int .i64 x.2.1)
  have h3:=Chg.set (F:=fun c=>c=bI) h2 rfl (j*5+2) (.int .i64 x.2.2.1)
  have h4:=Chg.set (F:=fun c=>c=bI) h3 rfl (j*5+3) vB
  exact Chg.set (F:=fun c=>c=bI) h4 rfl (j*5+4) vE
 exact h.trans (Chg.of_below ((qab _ _).drew))
theorem qm1 (w:World) (bI j:Nat) (x:ID) (vB vE va vb:Value) (c:Nat) (hc:c<w.heap.size) (hcb:c≠bI): (qot w bI j x vB vE va vb).heap[c]?=w.heap[c]?:= (qeR w bI j x vB vE va vb).block c hc hcb
theorem qm2 (w:World) (bI j n:Nat) (ds:List ID) (x:ID) (vB vE va vb:Value) (u:Nat→Value×Value) (hj:j<ds.length) (hu:qaa w bI (n*5) (qao ds u)):qaa (qot w bI j x vB vE va vb) bI (n*5) (qao (ds.set j x) (fun i=>if i=j then (vB,vE) else u i)):=by
 have h1:=hu.five (j*5) (.int .i64 x.1) (.int .i64 x.2.1) (.int .i64 x.2.2.1) vB vE
 have h2:=h1.later ((qab _ (.cells #[va,vb] 31)).drew)
 exact h2.congr fun c _=> (qcd ds u j hj x vB vE c).symm
theorem qrm {w:World} {bI n cI bD cD:Nat} {d:FD} {F G:Nat→Prop} (hfs:FsS w bI n cI bD 20 cD d F) (j:Nat) (hj:j<n) (x:ID) (vB vE:Value) (hv:qdo w (.int .i64 x.1) (.int .i64 x.2.1) (.int .i64 x.2.2.1) vB vE x G) (hG: ∀c,G c→ ¬F c∧c<w.heap.size) (va vb:Value):FsS (qot w bI j x vB vE va vb) bI n cI bD 20 cD (d.1.set j x,d.2) (fun c=>F c∨G c):=by
 have hne:=hfs.ne
 have hl:=hfs.len.1
 exact hfs.putI j hj x vB vE (fun u hu=>qm2 w bI j n d.1 x vB vE va vb u (by omega) hu) (qeR w bI j x vB vE va vb) (hv.keep fun c hc hlt=>qm1 w bI j x vB vE va vb c hlt fun e=> (hG c hc).1 (e▸hne.2.1.1)) (fun c hc=> ⟨(hG c hc).1,Nat.lt_of_lt_of_le (hG c hc).2 (qeR w bI j x vB vE va vb).size⟩)

end Go.Proofs.YthnmlipnoajmkaaGreatDoor

namespace Go.Proofs.YthnmlipnoajmkaaGreatDoor
open Go.RowKit
set_option maxRecDepth 100000

theorem qpQ {w:World} {va vb:Value} {xs:List (List UInt8)} (h1:qoa w va xs) (h2:qoa w vb xs):
 Calls Tryz.prog 26 #[va,vb] w fun e w'=>e= .returned (.bool true)∧Below w.heap.size w w':=by
 obtain ⟨a,ca,rfl,hn,ha⟩:=h1
 obtain ⟨b,cb,rfl,_,hb⟩:=h2
 exact (qnX w a b _ ca cb xs hn ha hb).mono fun _ _ ⟨h1,m,h2⟩=> ⟨h1,h2▸below_drewN (Below.refl _ _) m⟩
theorem qbE.bound {w:World} {v:Value} {xs:List (List UInt8)} {F:Nat→Prop} (h:qbE w v xs F):qbE w v xs (fun b=>F b∧b<w.heap.size):=by
 rcases h with h| ⟨b,cap,hF,h1,h2,h3⟩
 · exact Or.inl h
 · exact Or.inr ⟨b,cap,⟨hF,h3.lt⟩,h1,h2,h3⟩
theorem FsU.boundU {w:World} {v1 v2:Value} {d:FD} {F:Nat→Prop} (h:FsU w v1 v2 d F):FsU w v1 v2 d (fun b=>F b∧b<w.heap.size):=by
 obtain ⟨F1,G1,h1,h2,h3,h4⟩:=h
 refine ⟨_,_,h1.bound,h2.bound,fun b hb hb'=>h3 b hb.1 hb'.1,fun b hb=> ?_⟩
 rcases hb with hb|hb
 · exact ⟨h4 b (Or.inl hb.1),hb.2⟩
 · exact ⟨h4 b (Or.inr hb.1),hb.2⟩
theorem qm3 {w:World} {v:Value} {xs:List (List UInt8)} {F:Nat→Prop} (k:Int) (h:qbE w v xs F) (hk0:1≤k) (hk:k+ (List.length xs:Nat)≤4294967296):
 Calls Tryz.prog 32 #[v, .int .i64 k] w fun e w'=>e= .returned (.int .i64 (k+ (List.length xs:Nat)))∧qbE w' v (qdc k xs) F∧Chg F w w':=by
 obtain ⟨q,rfl⟩: ∃q:Nat,k= (q:Int):= ⟨k.toNat,by omega⟩
 rcases h with ⟨rfl,a,cap,rfl⟩| ⟨b,cap,hF,rfl,h2,h3⟩
 · refine (qmj w a cap q).mono ?_
   rintro e w' ⟨rfl,rfl⟩
   exact ⟨by simp,Or.inl ⟨rfl,a,cap,rfl⟩,Chg.refl _ _⟩
 · refine (qk9 w b cap xs.length q _ (by omega) (by omega) h3).mono ?_
   rintro e w' ⟨rfl,hr,hc⟩
   refine ⟨by simp,Or.inr ⟨b,cap,hF,by rw [qbw],by rw [qbw];exact h2, ?_⟩,hc.mono fun b' e=>by subst e;exact hF⟩
   rw [qbw]
   exact hr.congr fun i hi=> (qgH (q:Int) xs hi).symm
theorem qm4 {w:World} {v:Value} {xs:List (List UInt8)} {F:Nat→Prop} (k:Int) (h:qbE w v (qdc k xs) F) (hk0:1≤k) (hk:k+ (List.length xs:Nat)≤4294967296):
 Calls Tryz.prog 34 #[v, .int .i64 k] w fun e w'=>e= .returned (.int .i64 (k+ (List.length xs:Nat)))∧Below w.heap.size w w':=by
 obtain ⟨q,rfl⟩: ∃q:Nat,k= (q:Int):= ⟨k.toNat,by omega⟩
 rcases h with ⟨h0,a,cap,rfl⟩| ⟨b,cap,hF,rfl,h2,h3⟩
 · have hx:xs.length=0:=by have:=qbw (q:Int) xs;rw [h0] at this;simpa using this.symm
   rw [hx]
   refine (qmk w a cap q).mono ?_
   rintro e w' ⟨rfl,rfl⟩
   exact ⟨by simp,Below.refl _ _⟩
 · rw [qbw] at h3 ⊢
   refine (qla w b cap xs.length q (by omega) (by omega) (h3.congr fun i hi=>qgH (q:Int) xs hi)).mono ?_
   rintro e w' ⟨rfl,hb⟩
   exact ⟨by simp,hb⟩

abbrev CRD:=Int×Int×List UInt8×List (List UInt8)×FD
def qlG (w:World) (v1 v2 v3 v4 v5 v6:Value) (d:CRD):Prop:= (v1= .int .i64 d.1∧v2= .int .i64 d.2.1)∧Byt w v3 d.2.2.1∧qoa w v4 d.2.2.2.1∧FsR w v5 v6 d.2.2.2.2
theorem qlG.later {w w':World} {v1 v2 v3 v4 v5 v6:Value} {d:CRD} (h:qlG w v1 v2 v3 v4 v5 v6 d) (hb:Below w.heap.size w w'):qlG w' v1 v2 v3 v4 v5 v6 d:= ⟨h.1,h.2.1.later hb,h.2.2.1.later hb,h.2.2.2.later hb⟩
def qap (w:World) (v1 v2 v3 v4 v5 v6:Value) (d:CRD) (F:Nat→Prop):Prop:= (v1= .int .i64 d.1∧v2= .int .i64 d.2.1)∧ ∃F1 G1 K1:Nat→Prop,qbt w v3 d.2.2.1 F1∧qbE w v4 d.2.2.2.1 G1∧FsU w v5 v6 d.2.2.2.2 K1∧ (∀b,F1 b→ ¬G1 b∧ ¬K1 b)∧ (∀b,G1 b→ ¬K1 b)∧ ∀b,F1 b∨G1 b∨K1 b→F b
theorem qap.reads {w:World} {v1 v2 v3 v4 v5 v6:Value} {d:CRD} {F:Nat→Prop} (h:qap w v1 v2 v3 v4 v5 v6 d F):qlG w v1 v2 v3 v4 v5 v6 d:=by
 obtain ⟨h0,F1,G1,K1,h1,h2,h3,_⟩:=h
 exact ⟨h0,h1.reads,h2.reads,h3.reads⟩
theorem qap.keep {w w':World} {v1 v2 v3 v4 v5 v6:Value} {d:CRD} {F:Nat→Prop} (h:qap w v1 v2 v3 v4 v5 v6 d F) (e: ∀b,F b→b<w.heap.size→w'.heap[b]?=w.heap[b]?):qap w' v1 v2 v3 v4 v5 v6 d F:=by
 obtain ⟨h0,F1,G1,K1,h1,h2,h3,h4,h5,h6⟩:=h
 exact ⟨h0,F1,G1,K1,h1.keep fun b hb=>e b (h6 b (Or.inl hb)),h2.keep fun b hb=>e b (h6 b (Or.inr (Or.inl hb))),h3.keep fun b hb=>e b (h6 b (Or.inr (Or.inr hb))),h4,h5,h6⟩
theorem qap.later {w w':World} {v1 v2 v3 v4 v5 v6:Value} {d:CRD} {F:Nat→Prop} (h:qap w v1 v2 v3 v4 v5 v6 d F) (hb:Below w.heap.size w w'):qap w' v1 v2 v3 v4 v5 v6 d F:=h.keep fun b _ hlt=>hb.block b hlt
theorem qap.mono {w:World} {v1 v2 v3 v4 v5 v6:Value} {d:CRD} {F G:Nat→Prop} (h:qap w v1 v2 v3 v4 v5 v6 d F) (e: ∀b,F b→G b):qap w v1 v2 v3 v4 v5 v6 d G:=by
 obtain ⟨h0,F1,G1,K1,h1,h2,h3,h4,h5,h6⟩:=h
 exact ⟨h0,F1,G1,K1,h1,h2,h3,h4,h5,fun b hb=>e b (h6 b hb)⟩
theorem qap.chg {w w':World} {v1 v2 v3 v4 v5 v6:Value} {d:CRD} {F G:Nat→Prop} (h:qap w v1 v2 v3 v4 v5 v6 d F) (hc:Chg G w w') (hd: ∀b,F b→ ¬G b):qap w' v1 v2 v3 v4 v5 v6 d F:=h.keep fun b hb hlt=>hc.block b hlt (hd b hb)
def spanCR (d:CRD):Nat:=d.2.2.1.length+d.2.2.2.1.length+spanFs d.2.2.2.2
def qnP (k:Int) (d:CRD):CRD:= (d.1,d.2.1,qcC k d.2.2.1,qdc (k+ (d.2.2.1.length:Nat)) d.2.2.2.1,qmz (k+ (d.2.2.1.length:Nat)+ (d.2.2.2.1.length:Nat)) d.2.2.2.2)
def qaN (w:World) (r:Int×CRD) (e:Ending) (w':World):Prop:= ∃z1 z2 a3 n3 c3 a4 n4 c4 a5 n5 c5 a6 n6 c6,e= .returned (.agg #[.int .i64 r.1, .int .i64 z1, .int .i64 z2, .slice a3 n3 c3, .slice a4 n4 c4, .slice a5 n5 c5, .slice a6 n6 c6])∧Below w.heap.size w w'∧qap w' (.int .i64 z1) (.int .i64 z2) (.slice a3 n3 c3) (.slice a4 n4 c4) (.slice a5 n5 c5) (.slice a6 n6 c6) r.2 (qaj w w')

set_option maxHeartbeats 1600000 in
theorem qc7 (w:World) (c:Int) (v1 v2 v3 v4 v5 v6 v1' v2' v3' v4' v5' v6':Value) (d:CRD) (h:qlG w v1 v2 v3 v4 v5 v6 d) (h':qlG w v1' v2' v3' v4' v5' v6' d):
 Calls Tryz.prog 8 #[.agg #[.int .i64 c,v1,v2,v3,v4,v5,v6], .agg #[.int .i64 c,v1',v2',v3',v4',v5',v6']] w fun e w'=>e= .returned (.bool true)∧Below w.heap.size w w':=by
 obtain ⟨⟨rfl,rfl⟩,h3,h4,h5⟩:=h
 obtain ⟨⟨rfl,rfl⟩,h3',h4',h5'⟩:=h'
 have H3:Hid (Byt w v3 d.2.2.1):=h3
 have H3':Hid (Byt w v3' d.2.2.1):=h3'
 have H4:Hid (qoa w v4 d.2.2.2.1):=h4
 have H4':Hid (qoa w v4' d.2.2.2.1):=h4'
 have H5:Hid (FsR w v5 v6 d.2.2.2.2):=h5
 have H5':Hid (FsR w v5' v6' d.2.2.2.2):=h5'
 clear h3 h3' h4 h4' h5 h5'
 generalize d.1=z1 at*
 generalize d.2.1=z2 at*
 have e0: (c !=c)=false:=by simp
 have e1: (z1 !=z1)=false:=by simp
 have e2: (z2 !=z2)=false:=by simp
 have HX:Hid (Bx ((w.alloc (.cells #[.int .i64 c, .int .i64 z1, .int .i64 z2,v3,v4,v5,v6] 33)).alloc (.cells #[.int .i64 c, .int .i64 z1, .int .i64 z2,v3',v4',v5',v6'] 33)) w.heap.size [.int .i64 c, .int .i64 z1, .int .i64 z2,v3,v4,v5,v6]):= (Bx.new w [.int .i64 c, .int .i64 z1, .int .i64 z2,v3,v4,v5,v6] _).later (qab _ _)
 have HY:Hid (Bx ((w.alloc (.cells #[.int .i64 c, .int .i64 z1, .int .i64 z2,v3,v4,v5,v6] 33)).alloc (.cells #[.int .i64 c, .int .i64 z1, .int .i64 z2,v3',v4',v5',v6'] 33)) (w.heap.size+1) [.int .i64 c, .int .i64 z1, .int .i64 z2,v3',v4',v5',v6']):=by
  have:=Bx.new (w.alloc (.cells #[.int .i64 c, .int .i64 z1, .int .i64 z2,v3,v4,v5,v6] 33)) [.int .i64 c, .int .i64 z1, .int .i64 z2,v3',v4',v5',v6'] 33
  rw [World.size_alloc] at this
  exact this
 have HB0:Hid (Below w.heap.size w ((w.alloc (.cells #[.int .i64 c, .int .i64 z1, .int .i64 z2,v3,v4,v5,v6] 33)).alloc (.cells #[.int .i64 c, .int .i64 z1, .int .i64 z2,v3',v4',v5',v6'] 33))):=qam _ _ _
 go_enter Tryz.func8,Tryz.ntmps8
 go_wp2_with fail
 generalize ((w.alloc (.cells #[.int .i64 c, .int .i64 z1, .int .i64 z2,v3,v4,v5,v6] 33)).alloc (.cells #[.int .i64 c, .int .i64 z1, .int .i64 z2,v3',v4',v5',v6'] 33))=W0 at*
 refine (qq2 (H3.out.later HB0.out) (H3'.out.later HB0.out)).mono ?_
 rintro e w1 ⟨rfl,hb1⟩
 have HB1:Hid (Below w.heap.size w w1):=HB0.out.trans (hb1.mono HB0.out.size)
 have HX1:Hid (Bx w1 w.heap.size [.int .i64 c, .int .i64 z1, .int .i64 z2,v3,v4,v5,v6]):=HX.out.later hb1
 have HY1:Hid (Bx w1 (w.heap.size+1) [.int .i64 c, .int .i64 z1, .int .i64 z2,v3',v4',v5',v6']):=HY.out.later hb1
 have x4:=HX1.out 4 _ rfl
 have y4:=HY1.out 4 _ rfl
 clear hb1
 go_wp2_with fail
 clear x4 y4
 refine (qpQ (H4.out.later HB1.out) (H4'.out.later HB1.out)).mono ?_
 rintro e w2 ⟨rfl,hb2⟩
 have HB2:Hid (Below w.heap.size w w2):=HB1.out.trans (hb2.mono HB1.out.size)
 have x5:= (HX1.out.later hb2) 5 _ rfl
 have x6:= (HX1.out.later hb2) 6 _ rfl
 have y5:= (HY1.out.later hb2) 5 _ rfl
 have y6:= (HY1.out.later hb2) 6 _ rfl
 clear hb2
 go_wp2_with fail
 clear x5 x6 y5 y6
 refine (qqX _ _ _ _ _ d.2.2.2.2 (H5.out.later HB2.out) (H5'.out.later HB2.out)).mono ?_
 rintro e w3 ⟨rfl,hb3⟩
 have HB3:Hid (Below w.heap.size w w3):=HB2.out.trans (hb3.mono HB2.out.size)
 clear hb3
 go_wp2
 go_ret
 exact ⟨rfl,HB3.out⟩

set_option maxHeartbeats 1600000 in
theorem qfW (w:World) (c:Int) (v1 v2 v3 v4 v5 v6:Value) (d:CRD) (F:Nat→Prop) (k:Int) (h:qap w v1 v2 v3 v4 v5 v6 d F) (hk0:1≤k) (hk:k+ (spanCR d:Nat)≤4294967296):
 Calls Tryz.prog 11 #[.agg #[.int .i64 c,v1,v2,v3,v4,v5,v6], .int .i64 k] w fun e w'=>e= .returned (.int .i64 (k+ (spanCR d:Nat)))∧qap w' v1 v2 v3 v4 v5 v6 (qnP k d) F∧Chg F w w':=by
 obtain ⟨⟨rfl,rfl⟩,F1,G1,K1,h3,h4,h5,hd1,hd2,hf⟩:=h
 have H3:Hid (qbt w v3 d.2.2.1 F1):=h3
 have H4:Hid (qbE w v4 d.2.2.2.1 G1):=h4
 have H5:Hid (FsU w v5 v6 d.2.2.2.2 K1):=h5
 have HD1:Hid (∀b,F1 b→ ¬G1 b∧ ¬K1 b):=hd1
 have HD2:Hid (∀b,G1 b→ ¬K1 b):=hd2
 have HF:Hid (∀b,F1 b∨G1 b∨K1 b→F b):=hf
 have HMK:Hid (qnP k d= (d.1,d.2.1,qcC k d.2.2.1,qdc (k+ (d.2.2.1.length:Nat)) d.2.2.2.1,qmz (k+ (d.2.2.1.length:Nat)+ (d.2.2.2.1.length:Nat)) d.2.2.2.2)):=rfl
 have HE:Hid (k+ (spanCR d:Nat)=k+ (d.2.2.1.length:Nat)+ (d.2.2.2.1.length:Nat)+ (spanFs d.2.2.2.2:Nat)):=by unfold Hid spanCR;omega
 have hk2:k+ (d.2.2.1.length:Nat)+ (d.2.2.2.1.length:Nat)+ (spanFs d.2.2.2.2:Nat)≤4294967296:=by rw [←HE.out];exact hk
 rw [HE.out,HMK.out]
 clear h3 h4 h5 hd1 hd2 hf hk HE HMK
 obtain ⟨k1,hk1⟩: ∃k1,k+ (d.2.2.1.length:Nat)=k1:= ⟨_,rfl⟩
 obtain ⟨k3,hk3⟩: ∃k3,k1+ (d.2.2.2.1.length:Nat)=k3:= ⟨_,rfl⟩
 have HQ1:Hid (k+ ((d.2.2.1.length:Nat):Int)=k1):=hk1
 have HQ3:Hid (k1+ ((d.2.2.2.1.length:Nat):Int)=k3):=hk3
 have L1:Hid (1≤k1∧k1+ (d.2.2.2.1.length:Nat)≤4294967296∧k+ (d.2.2.1.length:Nat)≤4611686018427387904):=by unfold Hid;omega
 have L3:Hid (1≤k3∧k3+ (spanFs d.2.2.2.2:Nat)≤4294967296):=by unfold Hid;omega
 have L0:Hid (0≤k):=by unfold Hid;omega
 rw [hk1,hk3]
 rw [hk1,hk3] at hk2
 clear hk0 hk2 hk1 hk3
 have HX:Hid (qaa (w.alloc (.cells #[.int .i64 c, .int .i64 d.1, .int .i64 d.2.1,v3,v4,v5,v6] 33)) w.heap.size 7 (cel [.int .i64 c, .int .i64 d.1, .int .i64 d.2.1,v3,v4,v5,v6])):=qdQ w [.int .i64 c, .int .i64 d.1, .int .i64 d.2.1,v3,v4,v5,v6] _
 have HB0:Hid (Below w.heap.size w (w.alloc (.cells #[.int .i64 c, .int .i64 d.1, .int .i64 d.2.1,v3,v4,v5,v6] 33))):=qab _ _
 generalize d.1=z1 at*
 generalize d.2.1=z2 at*
 go_enter Tryz.func11,Tryz.ntmps11
 go_wp2_with fail
 generalize (w.alloc (.cells #[.int .i64 c, .int .i64 z1, .int .i64 z2,v3,v4,v5,v6] 33))=W0 at*
 refine (qfo (F:=fun b=>F1 b∧b<w.heap.size) k (H3.out.bound.later HB0.out) L0.out L1.out.2.2).mono ?_
 rw [HQ1.out]
 rintro e w1 ⟨rfl,hm1,hc1⟩
 have HM1:Hid (qbt w1 v3 (qcC k d.2.2.1) (fun b=>F1 b∧b<w.heap.size)):=hm1
 have HC1:Hid (Chg (fun b=>F1 b∧b<w.heap.size) W0 w1):=hc1
 have H41:Hid (qbE w1 v4 d.2.2.2.1 (fun b=>G1 b∧b<w.heap.size)):= (H4.out.bound.later HB0.out).chg hc1 fun b hb h=> (HD1.out b h.1).1 hb.1
 have H51:Hid (FsU w1 v5 v6 d.2.2.2.2 (fun b=>K1 b∧b<w.heap.size)):= (H5.out.boundU.later HB0.out).chg hc1 fun b hb h=> (HD1.out b h.1).2 hb.1
 have HX1:Hid (qaa w1 w.heap.size 7 (cel [.int .i64 c, .int .i64 z1, .int .i64 z2,v3,v4,v5,v6])):=HX.out.block (hc1.block _ HX.out.lt (fun h=>by omega))
 have x4:w1.cell? ⟨w.heap.size,4,none⟩=some v4:=HX1.out.cell (i:=4) (by omega)
 clear hm1 hc1
 go_wp2_with fail
 clear x4
 refine (qm3 k1 H41.out L1.out.1 L1.out.2.1).mono ?_
 rw [HQ3.out]
 rintro e w2 ⟨rfl,hm2,hc2⟩
 have HM2:Hid (qbE w2 v4 (qdc k1 d.2.2.2.1) (fun b=>G1 b∧b<w.heap.size)):=hm2
 have HC2:Hid (Chg (fun b=>G1 b∧b<w.heap.size) w1 w2):=hc2
 have H52:Hid (FsU w2 v5 v6 d.2.2.2.2 (fun b=>K1 b∧b<w.heap.size)):=H51.out.chg hc2 fun b hb h=>HD2.out b h.1 hb.1
 have HM12:Hid (qbt w2 v3 (qcC k d.2.2.1) (fun b=>F1 b∧b<w.heap.size)):=HM1.out.chg hc2 fun b hb h=> (HD1.out b hb.1).1 h.1
 have HX2:Hid (qaa w2 w.heap.size 7 (cel [.int .i64 c, .int .i64 z1, .int .i64 z2,v3,v4,v5,v6])):=HX1.out.block (hc2.block _ HX1.out.lt (fun h=>by omega))
 have x5:w2.cell? ⟨w.heap.size,5,none⟩=some v5:=HX2.out.cell (i:=5) (by omega)
 have x6:w2.cell? ⟨w.heap.size,6,none⟩=some v6:=HX2.out.cell (i:=6) (by omega)
 clear hm2 hc2
 go_wp2_with fail
 clear x5 x6
 refine (qpu _ _ _ d.2.2.2.2 _ k3 H52.out L3.out.1 L3.out.2).mono ?_
 rintro e w3 ⟨rfl,hm3,hc3⟩
 have HM3:Hid (FsU w3 v5 v6 (qmz k3 d.2.2.2.2) (fun b=>K1 b∧b<w.heap.size)):=hm3
 have HC3:Hid (Chg (fun b=>K1 b∧b<w.heap.size) w2 w3):=hc3
 have HM23:Hid (qbE w3 v4 (qdc k1 d.2.2.2.1) (fun b=>G1 b∧b<w.heap.size)):=HM2.out.chg hc3 fun b hb h=>HD2.out b hb.1 h.1
 have HM13:Hid (qbt w3 v3 (qcC k d.2.2.1) (fun b=>F1 b∧b<w.heap.size)):=HM12.out.chg hc3 fun b hb h=> (HD1.out b hb.1).2 h.1
 clear hm3 hc3
 go_wp2
 go_ret
 refine ⟨rfl,⟨⟨rfl,rfl⟩,_,_,_,HM13.out,HM23.out,HM3.out,fun b hb=> ⟨fun h=> (HD1.out b hb.1).1 h.1,fun h=> (HD1.out b hb.1).2 h.1⟩,fun b hb h=>HD2.out b hb.1 h.1,fun b hb=> ?_⟩, ?_⟩
 · rcases hb with hb|hb|hb
   · exact HF.out b (Or.inl hb.1)
   · exact HF.out b (Or.inr (Or.inl hb.1))
   · exact HF.out b (Or.inr (Or.inr hb.1))
 · exact (Chg.of_below HB0.out).trans ((HC1.out.mono fun b hb=>HF.out b (Or.inl hb.1)).trans ((HC2.out.mono fun b hb=>HF.out b (Or.inr (Or.inl hb.1))).trans (HC3.out.mono fun b hb=>HF.out b (Or.inr (Or.inr hb.1)))))

set_option maxHeartbeats 1600000 in
theorem qdq (w:World) (c:Int) (v1 v2 v3 v4 v5 v6:Value) (d:CRD) (F:Nat→Prop) (k:Int) (h:qap w v1 v2 v3 v4 v5 v6 (qnP k d) F) (hk0:1≤k) (hk:k+ (spanCR d:Nat)≤4294967296):
 Calls Tryz.prog 12 #[.agg #[.int .i64 c,v1,v2,v3,v4,v5,v6], .int .i64 k] w fun e w'=>e= .returned (.int .i64 (k+ (spanCR d:Nat)))∧Below w.heap.size w w':=by
 have HMK:Hid (qnP k d= (d.1,d.2.1,qcC k d.2.2.1,qdc (k+ (d.2.2.1.length:Nat)) d.2.2.2.1,qmz (k+ (d.2.2.1.length:Nat)+ (d.2.2.2.1.length:Nat)) d.2.2.2.2)):=rfl
 rw [HMK.out] at h
 obtain ⟨⟨rfl,rfl⟩,F1,G1,K1,h3,h4,h5,-,-,-⟩:=h
 dsimp only at h3 h4 h5
 have H3:Hid (Byt w v3 (qcC k d.2.2.1)):=h3.reads
 have H4:Hid (qbE w v4 (qdc (k+ (d.2.2.1.length:Nat)) d.2.2.2.1) G1):=h4
 have H5:Hid (FsR w v5 v6 (qmz (k+ (d.2.2.1.length:Nat)+ (d.2.2.2.1.length:Nat)) d.2.2.2.2)):=h5.reads
 have HE:Hid (k+ (spanCR d:Nat)=k+ (d.2.2.1.length:Nat)+ (d.2.2.2.1.length:Nat)+ (spanFs d.2.2.2.2:Nat)):=by unfold Hid spanCR;omega
 have hk2:k+ (d.2.2.1.length:Nat)+ (d.2.2.2.1.length:Nat)+ (spanFs d.2.2.2.2:Nat)≤4294967296:=by rw [←HE.out];exact hk
 rw [HE.out]
 clear h3 h4 h5 hk HE HMK
 obtain ⟨k1,hk1⟩: ∃k1,k+ (d.2.2.1.length:Nat)=k1:= ⟨_,rfl⟩
 obtain ⟨k3,hk3⟩: ∃k3,k1+ (d.2.2.2.1.length:Nat)=k3:= ⟨_,rfl⟩
 obtain ⟨k5,hk5⟩: ∃k5,k3+ (spanFs d.2.2.2.2:Nat)=k5:= ⟨_,rfl⟩
 have HQ1:Hid (k+ ((d.2.2.1.length:Nat):Int)=k1):=hk1
 have HQ3:Hid (k1+ ((d.2.2.2.1.length:Nat):Int)=k3):=hk3
 have HQ5:Hid (k3+ ((spanFs d.2.2.2.2:Nat):Int)=k5):=hk5
 have L1:Hid (1≤k1∧k1+ (d.2.2.2.1.length:Nat)≤4294967296∧k+ (d.2.2.1.length:Nat)≤4611686018427387904):=by unfold Hid;omega
 have L3:Hid (1≤k3∧k3+ (spanFs d.2.2.2.2:Nat)≤4294967296):=by unfold Hid;omega
 have L0:Hid (0≤k):=by unfold Hid;omega
 have n1: ¬k1<0:=by omega
 have n3: ¬k3<0:=by omega
 have n5: ¬k5<0:=by omega
 rw [hk1,hk3,hk5]
 rw [hk1] at H4 H5
 rw [hk3] at H5
 clear hk0 hk2 hk1 hk3 hk5
 have HX:Hid (Bx (w.alloc (.cells #[.int .i64 c, .int .i64 d.1, .int .i64 d.2.1,v3,v4,v5,v6] 33)) w.heap.size [.int .i64 c, .int .i64 d.1, .int .i64 d.2.1,v3,v4,v5,v6]):=Bx.new w [.int .i64 c, .int .i64 d.1, .int .i64 d.2.1,v3,v4,v5,v6] _
 have HB0:Hid (Below w.heap.size w (w.alloc (.cells #[.int .i64 c, .int .i64 d.1, .int .i64 d.2.1,v3,v4,v5,v6] 33))):=qab _ _
 generalize d.1=z1 at*
 generalize d.2.1=z2 at*
 go_enter Tryz.func12,Tryz.ntmps12
 go_wp2_with fail
 generalize (w.alloc (.cells #[.int .i64 c, .int .i64 z1, .int .i64 z2,v3,v4,v5,v6] 33))=W0 at*
 refine (qkt k (H3.out.later HB0.out) L0.out L1.out.2.2).mono ?_
 rw [HQ1.out]
 rintro e w1 ⟨rfl,hb1⟩
 have HB1:Hid (Below w.heap.size w w1):=HB0.out.trans (hb1.mono HB0.out.size)
 have HX1:Hid (Bx w1 w.heap.size [.int .i64 c, .int .i64 z1, .int .i64 z2,v3,v4,v5,v6]):=HX.out.later hb1
 have x4:=HX1.out 4 _ rfl
 clear hb1
 go_wp2_with fail
 clear x4
 refine (qm4 k1 (H4.out.later HB1.out) L1.out.1 L1.out.2.1).mono ?_
 rw [HQ3.out]
 rintro e w2 ⟨rfl,hb2⟩
 have HB2:Hid (Below w.heap.size w w2):=HB1.out.trans (hb2.mono HB1.out.size)
 have x5:= (HX1.out.later hb2) 5 _ rfl
 have x6:= (HX1.out.later hb2) 6 _ rfl
 clear hb2
 go_wp2_with fail
 clear x5 x6
 refine (qpv _ _ _ d.2.2.2.2 k3 (H5.out.later HB2.out) L3.out.1 L3.out.2).mono ?_
 rw [HQ5.out]
 rintro e w3 ⟨rfl,hb3⟩
 have HB3:Hid (Below w.heap.size w w3):=HB2.out.trans (hb3.mono HB2.out.size)
 clear hb3
 go_wp2
 go_ret
 exact ⟨rfl,HB3.out⟩
end Go.Proofs.YthnmlipnoajmkaaGreatDoor

namespace Go.Proofs.YthnmlipnoajmkaaGreatDoor
open Go.RowKit
set_option maxRecDepth 100000

theorem qgN: ∀x:List UInt8,Op.bytesLess x x=false
 | []=>by simp [Op.bytesLess]
 | a::x=>by
   have h: ¬a<a:=by rw [UInt8.lt_iff_toNat_lt];omega
   simp [Op.bytesLess,qgN x,h]
theorem qhx: ∀ {x y z:List UInt8},Op.bytesLess x y=true→Op.bytesLess y z=true→Op.bytesLess x z=true
 | [], [],_,h1,_=>by simp [Op.bytesLess] at h1
 | [],_::_, [],_,h2=>by simp [Op.bytesLess] at h2
 | [],_::_,_::_,_,_=>by simp [Op.bytesLess]
 |_::_, [],_,h1,_=>by simp [Op.bytesLess] at h1
 |_::_,_::_, [],_,h2=>by simp [Op.bytesLess] at h2
 | a ::x,b::y,c::z,h1,h2=>by
   simp only [Op.bytesLess,Bool.or_eq_true,Bool.and_eq_true,decide_eq_true_eq,beq_iff_eq] at h1 h2 ⊢
   rcases h1 with h1| ⟨rfl,h1⟩
   · rcases h2 with h2| ⟨rfl,h2⟩
     · left;rw [UInt8.lt_iff_toNat_lt] at h1 h2 ⊢;omega
     · exact Or.inl h1
   · rcases h2 with h2| ⟨rfl,h2⟩
     · exact Or.inl h2
     · exact Or.inr ⟨rfl,qhx h1 h2⟩
theorem qkP: ∀ {x y:List UInt8},Op.bytesLess x y=false→ (x==y)=false→Op.bytesLess y x=true
 | [], [],_,h2=>by simp at h2
 | [],_::_,h1,_=>by simp [Op.bytesLess] at h1
 |_::_, [],_,_=>by simp [Op.bytesLess]
 | a ::x,b::y,h1,h2=>by
   simp only [Op.bytesLess,Bool.or_eq_false_iff,Bool.and_eq_false_iff,decide_eq_false_iff_not] at h1
   simp only [Op.bytesLess,Bool.or_eq_true,Bool.and_eq_true,decide_eq_true_eq,beq_iff_eq]
   obtain ⟨h1,h3⟩:=h1
   by_cases e:a=b
   · subst e
     right
     refine ⟨rfl,qkP ?_ ?_⟩
     · rcases h3 with h3|h3
       · simp at h3
       · exact h3
     · simpa using h2
   · left
     rw [UInt8.lt_iff_toNat_lt] at h1 ⊢
     have:a.toNat≠b.toNat:=fun h=>e (UInt8.toNat_inj.1 h)
     omega
def eqE (s:ByteArray) (e:EN):Bool:=e.1.toList==s.toList
def geE (s:ByteArray) (e:EN):Bool:= !(Op.bytesLess e.1.toList s.toList)
def idxE (es:List EN) (s:ByteArray):Nat:=es.findIdx (eqE s)
def plcE (es:List EN) (s:ByteArray):Nat:=es.findIdx (geE s)
def qm5 (es:List EN) (s:ByteArray):Bool:=decide (plcE es s<es.length)&&eqE s (es[plcE es s]?.getD en0)
theorem qfX {es:List EN} {k:Nat} (h:k<es.length):es[k]?.getD en0=es[k]:=by rw [List.getElem?_eq_getElem h];rfl
theorem qcL {p:EN→Bool} {es:List EN} {k:Nat} (hk:k<es.length) (h:p (es[k]?.getD en0)=true) (ha: ∀j,j<k→p (es[j]?.getD en0)=false):es.findIdx p=k:=by
 rw [List.findIdx_eq hk]
 exact ⟨by rw [←qfX hk];exact h,fun j hj=>by have:=ha j hj;rw [qfX (by omega)] at this;exact this⟩
theorem qdF {p:EN→Bool} {es:List EN} (ha: ∀j,j<es.length→p (es[j]?.getD en0)=false):es.findIdx p=es.length:=by
 rw [List.findIdx_eq_length]
 intro e he
 obtain ⟨j,hj,rfl⟩:=List.mem_iff_getElem.1 he
 have:=ha j hj
 rw [qfX hj] at this
 exact this
theorem qgO {p:EN→Bool} (es:List EN):es.findIdx p≤es.length:=List.findIdx_le_length
theorem qeS {p:EN→Bool} {es:List EN} (h:es.findIdx p<es.length):p (es[es.findIdx p]?.getD en0)=true:=by
 rw [qfX h];exact List.findIdx_getElem
theorem qgP {p:EN→Bool} {es:List EN} {j:Nat} (h:j<es.findIdx p):p (es[j]?.getD en0)=false:=by
 have:=qgO (p:=p) es
 rw [qfX (by omega)]
 have:=List.not_of_lt_findIdx h
 simpa using this
def qeu (es:List EN):Prop:= ∀i,i+1<es.length→Op.bytesLess (es[i]?.getD en0).1.toList (es[i+1]?.getD en0).1.toList=true
theorem qeu.lt {es:List EN} (h:qeu es): ∀ {i k:Nat},i<k→k<es.length→Op.bytesLess (es[i]?.getD en0).1.toList (es[k]?.getD en0).1.toList=true:=by
 intro i k
 induction k with
 |zero=>intro h0;omega
 | succ k ih=>
   intro h1 h2
   have h3:=h k h2
   by_cases e:i=k
   · subst e;exact h3
   · exact qhx (ih (by omega) (by omega)) h3
theorem qhy {s:ByteArray} {e:EN} (h:eqE s e=true):e.1.toList=s.toList:=by simpa [eqE] using h
theorem qhz {es:List EN} (h:qeu es) {s:ByteArray} (hi:idxE es s<es.length):plcE es s=idxE es s:=by
 have he:=qhy (qeS hi)
 refine qcL hi ?_ fun j hj=> ?_
 · unfold geE
   have h1: (es[idxE es s]?.getD en0).1.toList=s.toList:=he
   rw [h1,qgN];rfl
 · unfold geE
   have h1: (es[idxE es s]?.getD en0).1.toList=s.toList:=he
   rw [←h1,h.lt hj hi];rfl
theorem qm6 {es:List EN} (h:qeu es) (s:ByteArray):qm5 es s=decide (idxE es s<es.length):=by
 by_cases hi:idxE es s<es.length
 · rw [decide_eq_true hi]
   unfold qm5
   rw [qhz h hi,decide_eq_true hi]
   exact qeS hi
 · rw [decide_eq_false hi]
   unfold qm5
   by_cases hp:plcE es s<es.length
   · rw [decide_eq_true hp,Bool.true_and]
     by_cases he:eqE s (es[plcE es s]?.getD en0)=true
     · exfalso
       apply hi
       have h1:es.findIdx (eqE s)≤plcE es s:=by
        by_cases h2:plcE es s<es.findIdx (eqE s)
        · have:=qgP h2;rw [he] at this;exact absurd this (by decide)
        · omega
       have h2:idxE es s=es.findIdx (eqE s):=rfl
       omega
     · simpa using he
   · rw [decide_eq_false hp];rfl

def qac (d:FD) (j:Nat):List EN:= (d.1[j]?.getD id0).2.2.2.2
def qdG (d:FD) (x:Int):Int:=if fsE d=0 then (if 0≤x∧x< (d.1.length:Int) then (if qae d.1 x.toNat=2 then 0 else 9) else 3) else fsE d
def qgp (d:FD) (x:Int) (s:ByteArray):Int:=if qdG d x=0 then qal s else qdG d x
def qsQ (d:FD) (x:Int):Bool:=decide (qdG d x=0)&&decide ((qac d x.toNat).length=0)
def qcM (d:FD) (x:Int) (s:ByteArray):Int×Int:=if qgp d x s=0 then (if idxE (qac d x.toNat) s< (qac d x.toNat).length then (0,((qac d x.toNat)[idxE (qac d x.toNat) s]?.getD en0).2) else (4,0)) else (qgp d x s,0)
def qsR (d:FD) (x:Int):Int×List (List UInt8):=if qdG d x=0 then (0,(qac d x.toNat).map fun e=>e.1.toList) else (qdG d x, [])
structure DirS (d:FD) (j:Nat):Prop where
 fs:fsE d=0
 lt:j<d.1.length
 ten:d.1.length≤10
 dat:d.2.length=20
 eight: ∀i:Nat,(d.2[i]?.getD []).length≤8
 kind: (d.1[j]?.getD id0).1=2
 six: (qac d j).length≤6
 rises:qeu (qac d j)
 names: ∀k:Nat,k< (qac d j).length→qal ((qac d j)[k]?.getD en0).1=0
 ins:qaY d.1=0
 leads: ∀j,j<d.1.length→ ∀k,k< (d.1[j]?.getD id0).2.2.2.2.length→0≤ ((d.1[j]?.getD id0).2.2.2.2[k]?.getD en0).2∧ ((d.1[j]?.getD id0).2.2.2.2[k]?.getD en0).2< (d.1.length:Int)
theorem qkb {d:FD} {x:Int} (h:qdG d x=0):fsE d=0∧ (0≤x∧x< (d.1.length:Int))∧qae d.1 x.toNat=2:=by
 unfold qdG at h
 by_cases hf:fsE d=0
 · rw [if_pos hf] at h
   by_cases hp:0≤x∧x< (d.1.length:Int)
   · rw [if_pos hp] at h
     by_cases hk:qae d.1 x.toNat=2
     · exact ⟨hf,hp,hk⟩
     · rw [if_neg hk] at h;omega
   · rw [if_neg hp] at h;omega
 · rw [if_neg hf] at h;exact absurd h hf
theorem qhA {x:ID} (h:qbl x=0) (hk:x.1=2):qel x.2.2.2.2=0:=by
 unfold qbl at h
 rw [if_neg (by omega),if_neg (by omega),if_pos hk] at h
 by_cases hd:fpB x=true
 · rw [if_pos hd] at h;omega
 · rw [if_neg hd] at h;exact h
theorem qiF {es:List EN} (h:qel es=0):qeu es∧ (∀k:Nat,k<es.length→qal (es[k]?.getD en0).1=0)∧es.length≤6:=by
 unfold qel at h
 by_cases h6:6<es.length
 · rw [if_pos h6] at h;omega
 · rw [if_neg h6] at h
   have hz:=qby h
   have hn: ∀k:Nat,k<es.length→qal (es[k]?.getD en0).1=0:=fun k hk=>by
    have:=hz k hk
    unfold qdy at this
    by_cases e:qal (es[k]?.getD en0).1=0
    · exact e
    · rw [if_neg e] at this;exact absurd this e
   refine ⟨fun i hi=> ?_,hn,by omega⟩
   have:=hz (i+1) hi
   unfold qdy at this
   rw [if_pos (hn _ hi)] at this
   by_cases e:0≤ (es[i+1]?.getD en0).2∧ (es[i+1]?.getD en0).2≤9
   · rw [if_pos e] at this
     by_cases e2:0<i+1∧qdZ (es[i+1]?.getD en0).1 (es[i+1-1]?.getD en0).1=true
     · rw [if_pos e2] at this;omega
     · have e3:qdZ (es[i+1]?.getD en0).1 (es[i]?.getD en0).1=false:=by
        rw [show i+1-1=i by omega] at e2
        simpa using e2
       unfold qdZ at e3
       rw [Bool.or_eq_false_iff] at e3
       obtain ⟨e4,e5⟩:=e3
       exact qkP e4 e5
   · rw [if_neg e] at this;omega
theorem qo3 {d:FD} {x:Int} (h:qdG d x=0):DirS d x.toNat:=by
 obtain ⟨hf,hp,hk⟩:=qkb h
 obtain ⟨h1,g2,h3,_,h5⟩:=qc5 hf
 obtain ⟨_,_,g3⟩:=qet g2
 have hj:x.toNat<d.1.length:=by omega
 have hd:=qiF (qhA (qaM h1 x.toNat hj) hk)
 exact ⟨hf,hj,qbM h1,g3,qdE h3,hk,hd.2.2,hd.1,hd.2.1,h1,qj7 h1 h5⟩
end Go.Proofs.YthnmlipnoajmkaaGreatDoor

namespace Go.Proofs.YthnmlipnoajmkaaGreatDoor
open Go.RowKit
set_option maxRecDepth 100000

inductive RT (E:Nat→List Int) (t:Nat):Nat→Prop
 |zero:RT E t t
 |step {i:Nat} {x:Int}:RT E t i→x∈E i→RT E t x.toNat
abbrev RP (E:Nat→List Int):Nat→Prop:=RT E 0
def qai (ds:List ID) (i:Nat):List Int:=qb7 (ds[i]?.getD id0).2.2.2.2

theorem qfY {Q:Nat→Prop}: ∀ (xs:List Int) {g:Nat→Bool},(∀i,g i=true→Q i)→ (∀x∈xs,Q x.toNat)→ ∀i,(xs.foldl qgJ g) i=true→Q i
 | [],_,hg,_,i,h=>hg i h
 | x ::xs,g,hg,hx,i,h=>qfY xs (g:=qgJ g x) (fun j hj=>by
    unfold qgJ at hj
    by_cases e:j=x.toNat
    · rw [e];exact hx x (by simp)
    · rw [if_neg e] at hj;exact hg j hj) (fun y hy=>hx y (by simp [hy])) i h
theorem qiG: ∀ (xs:List Int) {g:Nat→Bool} {x:Int},x∈xs→ (xs.foldl qgJ g) x.toNat=true
 | y::xs,g,x,h=>by
   rcases List.mem_cons.1 h with rfl|h
   · exact qdC xs (by simp [qgJ])
   · exact qiG xs h
theorem qiH {ds:List ID} {g:Nat→Bool} {i j:Nat} (h:g i=true):qmW ds g j i=true:=by
 unfold qmW
 split
 · exact qdC _ h
 · exact h
theorem qd2 {ds:List ID} {g:Nat→Bool} {i:Nat} (h:g i=true): ∀j,qbW ds g j i=true
 |0=>h
 |j+1=>qiH (qd2 h j)
theorem qe8 {ds:List ID} {g:Nat→Bool} {i j:Nat} (h:qbW ds g j i=true): ∀k,qbW ds g (j+k) i=true
 |0=>h
 |k+1=>qiH (qe8 h k)
theorem qcw {ds:List ID} {g:Nat→Bool} (hg: ∀i,g i=true→RP (qai ds) i): ∀j i,qbW ds g j i=true→RP (qai ds) i
 |0,i,h=>hg i h
 | j +1,i,h=>by
   have h':qmW ds (qbW ds g j) j i=true:=h
   unfold qmW at h'
   by_cases e:qbW ds g j j=true
   · rw [if_pos e] at h'
     exact qfY _ (qcw hg j) (fun x hx=> .step (qcw hg j j e) hx) i h'
   · rw [if_neg e] at h'
     exact qcw hg j i h'
theorem qkc {ds:List ID} {g:Nat→Bool} {i n:Nat} {x:Int} (hi:i<n) (hg:g i=true) (hx:x∈qai ds i):qbW ds g n x.toNat=true:=by
 have h1:qbW ds g (i+1) x.toNat=true:=by
  show qmW ds (qbW ds g i) i x.toNat=true
  unfold qmW
  rw [if_pos (qd2 hg i)]
  exact qiG _ hx
 have h2:=qe8 h1 (n- (i+1))
 rwa [show i+1+ (n- (i+1))=n by omega] at h2
theorem qe9 {ds:List ID}: ∀r i,qaD ds r i=true→RP (qai ds) i
 | 0,i,h=>by
   have:i=0:=by simpa [qaD] using h
   rw [this];exact .zero
 |r+1,i,h=>qcw (qe9 r) _ i h
theorem qc8 {ds:List ID} {i r:Nat} (h:qaD ds r i=true): ∀k,qaD ds (r+k) i=true
 |0=>h
 |k+1=>qd2 (qc8 h k) _
def qm7 (g:Nat→Bool):Nat→Nat
 |0=>0
 |n+1=>qm7 g n+if g n=true then 1 else 0
theorem qkd (g:Nat→Bool): ∀n,qm7 g n≤n
 |0=>Nat.le_refl _
 |n+1=>by have:=qkd g n;unfold qm7;split<;>omega
theorem qiI {g g':Nat→Bool} (h: ∀i,g i=true→g' i=true): ∀n,qm7 g n≤qm7 g' n
 |0=>Nat.le_refl _
 | n+1=>by
   have:=qiI h n
   unfold qm7
   by_cases e:g n=true
   · rw [if_pos e,if_pos (h n e)];omega
   · rw [if_neg e];split<;>omega
theorem qfZ {g g':Nat→Bool} (h: ∀i,g i=true→g' i=true) {j:Nat} (h1:g' j=true) (h0: ¬g j=true): ∀n,j<n→qm7 g n<qm7 g' n
 | n +1,hj=>by
   unfold qm7
   by_cases e:j=n
   · subst e
     have:=qiI h j
     rw [if_neg h0,if_pos h1];omega
   · have:=qfZ h h1 h0 n (by omega)
     by_cases e2:g n=true
     · rw [if_pos e2,if_pos (h n e2)];omega
     · rw [if_neg e2];split<;>omega
def qm8 (ds:List ID) (g:Nat→Bool):Prop:= ∀i,i<ds.length→g i=true→ ∀x∈qai ds i,x.toNat<ds.length→g x.toNat=true
theorem qev (ds:List ID) (h0:0<ds.length): ∀r,(∃q,q≤r∧qm8 ds (qaD ds q))∨r+1≤qm7 (qaD ds r) ds.length
 | 0=>by
   right
   have:=qfZ (g:=fun _=>false) (g':=qaD ds 0) (by simp) (j:=0) (by simp [qaD]) (by simp) ds.length h0
   omega
 | r + 1 =>by
   rcases qev ds h0 r with ⟨q,hq,hc⟩|h
   · exact Or.inl ⟨q,by omega,hc⟩
   · by_cases hc:qm8 ds (qaD ds r)
     · exact Or.inl ⟨r,by omega,hc⟩
     · right
       have hm: ∀i,qaD ds r i=true→qaD ds (r+1) i=true:=fun i hi=>qc8 hi 1
       have: ∃j,j<ds.length∧qaD ds (r+1) j=true∧ ¬qaD ds r j=true:=by
        apply Classical.byContradiction
        intro hno
        apply hc
        intro i hi hg x hx hxl
        apply Classical.byContradiction
        intro hn
        exact hno ⟨x.toNat,hxl,qkc hi hg hx,hn⟩
       obtain ⟨j,hj,h1,h2⟩:=this
       have:=qfZ hm h1 h2 ds.length hj
       omega
def qa8 (ds:List ID):Prop:= ∀i,i<ds.length→ ∀x∈qai ds i,0≤x∧x< (ds.length:Int)
theorem RT.lt {ds:List ID} {t:Nat} (hr:qa8 ds) (h0:t<ds.length) {i:Nat} (h:RT (qai ds) t i):i<ds.length:=by
 induction h with
 |zero=>exact h0
 |step _ hx ih=>have:=hr _ ih _ hx;omega
theorem qgQ {ds:List ID} (hr:qa8 ds) (h0:0<ds.length) (i:Nat):qaD ds ds.length i=true↔RP (qai ds) i:=by
 refine ⟨qe9 _ i,fun h=> ?_⟩
 rcases qev ds h0 ds.length with ⟨q,hq,hc⟩|hbig
 · have key:qaD ds q i=true:=by
    induction h with
    |zero=>have:=qc8 (ds:=ds) (i:=0) (r:=0) (by simp [qaD]) q;rwa [Nat.zero_add] at this
    |step hp hx ih=>exact hc _ (hp.lt hr h0) ih _ hx (by have:=hr _ (hp.lt hr h0) _ hx;omega)
   have:=qc8 key (ds.length-q)
   rwa [show q+ (ds.length-q)=ds.length by omega] at this
 · have:=qkd (qaD ds ds.length) ds.length
   omega

theorem qiJ: ∀ (n:Nat) (h:List Nat),h.Nodup→ (∀i∈h,i<n)→h.length≤n
 | 0,h,_,hl=>by
   match h,hl with
   | [],_=>simp
   |a::_,hl=>exact absurd (hl a (by simp)) (by omega)
 | n +1,h,hd,hl=>by
   have h1:=qiJ n (h.erase n) (hd.erase n) (fun i hi=>by
    have hne:= (hd.mem_erase_iff.1 hi).1
    have:=hl i (List.mem_of_mem_erase hi)
    omega)
   rw [List.length_erase] at h1
   split at h1<;>omega

structure Bfs (E:Nat→List Int) (n:Nat) (h:List Nat) (p k:Nat) (m:Int→Int) (t:Nat):Prop where
 nd:h.Nodup
 lt: ∀i∈h,i<n
 rp: ∀i∈h,RT E t i
 top:t∈h
 le:p≤h.length
 pos: ∀i:Nat,0<m (i:Int)↔i∈h
 nn: ∀x,0≤m x
 clo: ∀q,q<p→ ∀x∈E (h[q]?.getD 0),x.toNat∈h
 cur: ∀x∈ (E (h[p]?.getD 0)).take k,x.toNat∈h
 bd: ∀x,m x≤1+6*p+k
def qfw (m:Int→Int) (x v:Int):Int→Int:=fun y=>if y=x then v else m y
theorem Bfs.init (E:Nat→List Int) (n t:Nat) (hn:t<n):Bfs E n [t] 0 0 (qfw (fun _=>0) (t:Int) 1) t where
 nd:=by simp
 lt:=by simpa using hn
 rp:=by intro i hi;rw [List.mem_singleton.1 hi];exact .zero
 top:=by simp
 le:=by simp
 pos :=fun i=>by
  unfold qfw
  by_cases e: (i:Int)= (t:Int)
  · rw [if_pos e]
    have:i=t:=by omega
    simp [this]
  · rw [if_neg e]
    simp;omega
 nn:=fun x=>by unfold qfw;by_cases e:x= (t:Int)<;>simp [e]
 clo:=fun q hq=>by omega
 cur:=by simp
 bd:=fun x=>by unfold qfw;by_cases e:x= (t:Int)<;>simp [e]
theorem Bfs.len {E:Nat→List Int} {n:Nat} {h:List Nat} {p k:Nat} {m:Int→Int} {t:Nat} (b:Bfs E n h p k m t):h.length≤n:=qiJ n h b.nd b.lt
theorem Bfs.bnd {E:Nat→List Int} {n:Nat} {h:List Nat} {p k:Nat} {m:Int→Int} {t:Nat} (b:Bfs E n h p k m t) (hn:n≤10) (hk:k≤6) (x:Int):0≤m x∧m x≤67:=by
 have h1:=b.bd x
 have h2:=b.len
 have h3:=b.le
 exact ⟨b.nn x,by omega⟩
theorem qew {α:Type} {l:List α} {k:Nat} {a x:α} (hk:l[k]?=some a) (hx:x∈l.take (k+1)):x∈l.take k∨x=a:=by
 have hlt:= (List.getElem?_eq_some_iff.1 hk).1
 rw [List.take_succ_eq_append_getElem hlt] at hx
 rcases List.mem_append.1 hx with h|h
 · exact Or.inl h
 · right
   rw [List.mem_singleton.1 h]
   exact (List.getElem?_eq_some_iff.1 hk).2
theorem Bfs.old {E:Nat→List Int} {n:Nat} {h:List Nat} {p k:Nat} {m:Int→Int} {t:Nat} (b:Bfs E n h p k m t) {x:Int} (hx: (E (h[p]?.getD 0))[k]?=some x) (hx0:0≤x) (hm: ¬m x+1=1):Bfs E n h p (k+1) (qfw m x (m x+1)) t:=by
 have hmx:=b.nn x
 have hxn: ((x.toNat:Nat):Int)=x:=by omega
 have hin:x.toNat∈h:= (b.pos x.toNat).1 (by rw [hxn];omega)
 refine ⟨b.nd,b.lt,b.rp,b.top,b.le,fun i=> ?_,fun y=> ?_,b.clo,fun y hy=> ?_,fun y=> ?_⟩
 · unfold qfw
   by_cases e: (i:Int)=x
   · rw [if_pos e]
     have:i=x.toNat:=by omega
     subst this
     exact ⟨fun _=>hin,fun _=>by omega⟩
   · rw [if_neg e];exact b.pos i
 · unfold qfw;split
   · omega
   · exact b.nn y
 · rcases qew hx hy with hy|rfl
   · exact b.cur y hy
   · exact hin
 · have h1:=b.bd y
   have h2:=b.bd x
   unfold qfw;split<;>omega
theorem Bfs.new {E:Nat→List Int} {n:Nat} {h:List Nat} {p k:Nat} {m:Int→Int} {t:Nat} (b:Bfs E n h p k m t) (hp:p<h.length) {x:Int} (hx: (E (h[p]?.getD 0))[k]?=some x) (hx0:0≤x) (hxn:x< (n:Int)) (hm:m x+1=1):Bfs E n (h++ [x.toNat]) p (k+1) (qfw m x (m x+1)) t:=by
 have hxe: ((x.toNat:Nat):Int)=x:=by omega
 have hni: ¬x.toNat∈h:=fun hin=>by have:= (b.pos x.toNat).2 hin;rw [hxe] at this;omega
 have hget: ∀q,q<h.length→ (h++ [x.toNat])[q]?.getD 0=h[q]?.getD 0:=fun q hq=>by rw [List.getElem?_append_left hq]
 have hpin:h[p]?.getD 0∈h:=by rw [List.getElem?_eq_getElem hp];exact List.getElem_mem hp
 have hle:=b.le
 refine ⟨?_,fun i hi=> ?_,fun i hi=> ?_,by simp [b.top],by simp;omega,fun i=> ?_,fun y=> ?_,fun q hq y hy=> ?_,fun y hy=> ?_,fun y=> ?_⟩
 · rw [List.nodup_append]
   exact ⟨b.nd,by simp,fun a ha c hc=>by rw [List.mem_singleton.1 hc];intro e;exact hni (e▸ha)⟩
 · rcases List.mem_append.1 hi with hi|hi
   · exact b.lt i hi
   · rw [List.mem_singleton.1 hi];omega
 · rcases List.mem_append.1 hi with hi|hi
   · exact b.rp i hi
   · rw [List.mem_singleton.1 hi]
     exact .step (b.rp _ hpin) (List.mem_of_getElem? hx)
 · unfold qfw
   by_cases e: (i:Int)=x
   · rw [if_pos e]
     have:i=x.toNat:=by omega
     subst this
     simp;omega
   · rw [if_neg e,b.pos i]
     simp;intro e2;exact absurd (by omega) e
 · unfold qfw;split
   · omega
   · exact b.nn y
 · rw [hget q (by omega)] at hy
   exact List.mem_append_left _ (b.clo q hq y hy)
 · rw [hget p hp] at hy
   rcases qew hx hy with hy|rfl
   · exact List.mem_append_left _ (b.cur y hy)
   · simp
 · have h1:=b.bd y
   have h2:=b.bd x
   unfold qfw;split<;>omega
theorem Bfs.next {E:Nat→List Int} {n:Nat} {h:List Nat} {p k:Nat} {m:Int→Int} {t:Nat} (b:Bfs E n h p k m t) (hp:p<h.length) (hk: (E (h[p]?.getD 0)).length=k) (hk6:k≤6):Bfs E n h (p+1) 0 m t:=by
 refine ⟨b.nd,b.lt,b.rp,b.top,hp,b.pos,b.nn,fun q hq x hx=> ?_,by simp,fun x=>by have:=b.bd x;omega⟩
 by_cases e:q=p
 · subst e
   exact b.cur x (by rw [List.take_of_length_le (by omega)];exact hx)
 · exact b.clo q (by omega) x hx
theorem Bfs.done {E:Nat→List Int} {n:Nat} {h:List Nat} {p k:Nat} {m:Int→Int} {t:Nat} (b:Bfs E n h p k m t) (hp:p=h.length) (i:Nat):0<m (i:Int)↔RT E t i:=by
 rw [b.pos i]
 refine ⟨b.rp i,fun hr=> ?_⟩
 induction hr with
 |zero=>exact b.top
 | @step j x _ hx ih=>
   obtain ⟨q,hq,he⟩:=List.getElem_of_mem ih
   refine b.clo q (by omega) x ?_
   rw [List.getElem?_eq_getElem hq,Option.getD_some,he]
   exact hx
end Go.Proofs.YthnmlipnoajmkaaGreatDoor
