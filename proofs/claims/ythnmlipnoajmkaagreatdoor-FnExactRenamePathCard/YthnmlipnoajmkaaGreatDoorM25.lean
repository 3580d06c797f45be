/- The specification's DropName:one entry less leads to a file. The specification's DropName:the contract. Names that are renamed:the models,and what stands where a name is taken away. Names in directories by their paths;what stands against a renaming. What stands against a renaming. -/
import Derived.Test.YthnmlipnoajmkaaGreatDoorM24
import Derived.Test.YthnmlipnoajmkaaGreatDoorM13
import Derived.Test.YthnmlipnoajmkaaGreatDoorM23
import Derived.Test.YthnmlipnoajmkaaGreatDoorM21
import Derived.Test.YthnmlipnoajmkaaGreatDoorM18
import Derived.Deep.RegionHeld3
import Derived.Test.YthnmlipnoajmkaaGreatDoorM09
namespace Go.Proofs.YthnmlipnoajmkaaGreatDoor
open Go.RowKit
set_option maxRecDepth 100000

theorem qoJ (d:FD) (z:Nat) (l:Int):qco (qcO d z l).1=qco d.1:=by
 unfold qcO qco
 dsimp only
 by_cases hz:z<d.1.length
 · have e:d.1=d.1.set z (d.1[z]?.getD id0):=by rw [List.getElem?_eq_getElem hz,Option.getD_some,List.set_getElem_self]
   conv=>rhs;rw [e]
   rw [List.flatMap_def,List.flatMap_def,List.map_set,List.map_set]
 · rw [List.set_eq_of_length_le (by omega)]
theorem qoK (d:FD) (z:Nat) (l:Int) (hz:z<d.1.length):qc6 (qcO d z l) z=qc6 d z:=by
 have hb:qci (qcO d z l) z=qci d z:=by
  unfold qci qcO
  dsimp only
  rw [qa2 _ _ _ _ _ hz,if_pos rfl]
 unfold qc6
 rw [hb]
 unfold qcO
 dsimp only
 rw [List.set_set]
theorem qqc (d:FD) (z:Nat) (l k:Int) (hz:z<d.1.length):qcO (qcO d z l) z k=qcO d z k:=by
 unfold qcO
 dsimp only
 rw [qa2 _ _ _ _ _ hz,if_pos rfl,List.set_set]
def qoL (d:FD) (z:Nat):FD:=if (d.1[z]?.getD id0).1=1 then qgs d z else d
set_option maxHeartbeats 6400000 in
theorem qlU (w:World) (bo bI n cI bD cD:Nat) (d:FD) (F:Nat→Prop) (z:Nat) (h0:w.cell? ⟨bo,0,none⟩=some (.slice (some ⟨bI,0,none⟩) n cI)) (h1:w.cell? ⟨bo,1,none⟩=some (.slice (some ⟨bD,0,none⟩) 20 cD)) (hfs:FsS w bI n cI bD 20 cD d F) (hFo: ¬F bo) (hn:d.1.length=n) (hzn:z<n) (hins:qaY d.1=0):
 Calls Tryz.prog 82 #[.pointer (some ⟨bo,0,none⟩), .int .i64 (z:Int)] w fun e w'=>e= .returned (.tuple #[])∧Chg (fun c=>c=bI∨c=bD) w w'∧FsS w' bI n cI bD 20 cD (qoL d z) F:=by
 have hzI: (z:Int)< (n:Int):=by omega
 have hten:n≤10:=by have:=qbM hins;omega
 have hne:=hfs.ne
 have hoI:bo≠bI:=fun e=>hFo (e▸hne.2.1.1)
 have hIo:bI≠bo:=fun e=>hoI e.symm
 obtain ⟨_,_,_,_,z0,z1,-,-,-,-,i6,-⟩:=hfs.ino z hzn
 have z1f:=i6 (z*5+1)
 have HFS:Hid (FsS w bI n cI bD 20 cD d F):=hfs
 have HLS:Hid (qoL d z=if (d.1[z]?.getD id0).1=1 then qgs d z else d):=rfl
 rw [HLS.out]
 have hzi:=qaM hins z (by omega)
 clear HLS i6
 by_cases hk: (d.1[z]?.getD id0).1=1
 rotate_left
 · rw [if_neg hk]
   have hkb: ((d.1[z]?.getD id0).1 !=1)=true:=by simpa using hk
   clear hfs hins hne hzi hk
   generalize (d.1[z]?.getD id0).1=kd at*
   go_enter Tryz.func82,Tryz.ntmps82
   go_wp2
   (try simp only [Exit.inBlock,Exit.then])
   refine bodyPost_ret (results_none rfl _ _ _) rfl ?_
   exact ⟨rfl,Chg.refl _ _,HFS.out⟩
 · rw [if_pos hk]
   have hkb: ((d.1[z]?.getD id0).1 !=1)=false:=by simpa using hk
   have hl:=qnq hzi hk
   have hb4: (qci d z).length≤4:=by have:=qb9 hzi;unfold qci;omega
   have HUN:Hid (qgs d z=if 1< (d.1[z]?.getD id0).2.1 then qcO d z ((d.1[z]?.getD id0).2.1-1) else if (qco d.1).count (z:Int)=0 then qc6 d z else d):=rfl
   rw [HUN.out]
   have hself:=qi4 d z (by omega)
   generalize hkl: (d.1[z]?.getD id0).2.1=kl at*
   have HKL:Hid ((d.1[z]?.getD id0).2.1=kl):=hkl
   have HSELF:Hid (qcO d z kl=d):=hself
   have HF1:Hid (FsS (w.setCell ⟨bI,z*5+1,none⟩ (.int .i64 (kl-1))) bI n cI bD 20 cD (qcO d z (kl-1)) F):=hfs.lnkS z hzn (kl-1)
   have hC1:Chg (fun c=>c=bI) w (w.setCell ⟨bI,z*5+1,none⟩ (.int .i64 (kl-1))):=Chg.set (F:=fun c=>c=bI) (Chg.refl _ w) rfl _ _
   have HC1:Hid (Chg (fun c=>c=bI∨c=bD) w (w.setCell ⟨bI,z*5+1,none⟩ (.int .i64 (kl-1)))):=hC1.mono fun c hc=>Or.inl hc
   have r0:=hC1.cellOf h0 hoI
   have r1:=hC1.cellOf h1 hoI
   have hlen1: (qcO d z (kl-1)).1.length=n:=by unfold qcO;dsimp only;rw [List.length_set];exact hn
   obtain ⟨_,_,_,_,-,y1,-,-,-,-,j6,-⟩:=HF1.out.ino z hzn
   have y1f:=j6 (z*5+1)
   have e1: ((qcO d z (kl-1)).1[z]?.getD id0).2.1=kl-1:=by unfold qcO;dsimp only;rw [qa2 _ _ _ _ _ (by omega),if_pos rfl]
   rw [e1] at y1
   have HLK:Hid (∀q,Calls Tryz.prog 76 #[.slice (some ⟨bI,0,none⟩) n cI, .int .i64 (z:Int)] ((w.setCell ⟨bI,z*5+1,none⟩ (.int .i64 (kl-1))).drewN q) fun e w'=>e= .returned (.int .i64 (((qco d.1).count (z:Int):Nat):Int))∧ ∃m,w'= ((w.setCell ⟨bI,z*5+1,none⟩ (.int .i64 (kl-1))).drewN q).drewN m):=fun q=>by
    have hsm:qag (qcO d z (kl-1)).1≤1048576:=by
     have h410:=qiX hins
     have:qag (qcO d z (kl-1)).1=qag d.1:=by
      unfold qag isz qcO
      dsimp only
      rw [List.length_set,List.map_set]
      have e2:sizeIno ((d.1[z]?.getD id0).1,kl-1,(d.1[z]?.getD id0).2.2)= (d.1.map sizeIno)[z]'(by rw [List.length_map];omega):=by
       rw [List.getElem_map,List.getElem?_eq_getElem (by omega)];rfl
      rw [e2,List.set_getElem_self]
     omega
    have:=qfR (w:= (w.setCell ⟨bI,z*5+1,none⟩ (.int .i64 (kl-1))).drewN q) (((HF1.out.later (below_drewN (Below.refl _ _) q)).fs.reads).1) hsm (z:Int)
    rw [qoJ] at this
    exact this
   have HDR:Hid (∀q,((w.setCell ⟨bI,z*5+1,none⟩ (.int .i64 (kl-1))).drewN q).cell? ⟨bo,0,none⟩=some (.slice (some ⟨bI,0,none⟩) n cI)→ ((w.setCell ⟨bI,z*5+1,none⟩ (.int .i64 (kl-1))).drewN q).cell? ⟨bo,1,none⟩=some (.slice (some ⟨bD,0,none⟩) 20 cD)→Calls Tryz.prog 114 #[.pointer (some ⟨bo,0,none⟩), .int .i64 (z:Int)] ((w.setCell ⟨bI,z*5+1,none⟩ (.int .i64 (kl-1))).drewN q) fun e w'=>e= .returned (.tuple #[])∧Chg (fun c=>c=bI∨c=bD) ((w.setCell ⟨bI,z*5+1,none⟩ (.int .i64 (kl-1))).drewN q) w'∧FsS w' bI n cI bD 20 cD (qc6 d z) F):=fun q g0 g1=>by
    have hbk:qci (qcO d z (kl-1)) z=qci d z:=by
     unfold qci qcO
     dsimp only
     rw [qa2 _ _ _ _ _ (by omega),if_pos rfl]
    have:=qgY ((w.setCell ⟨bI,z*5+1,none⟩ (.int .i64 (kl-1))).drewN q) bo bI n cI bD cD (qcO d z (kl-1)) F z g0 g1 (HF1.out.later (below_drewN (Below.refl _ _) q)) hFo hzn hten (by rw [hbk];exact fun k hk=>qfV hins z k (by omega) hk) (by rw [hbk];exact hb4)
    rw [qoK d z _ (by omega)] at this
    exact this
   have HF2:Hid (∀q,FsS (((w.setCell ⟨bI,z*5+1,none⟩ (.int .i64 (kl-1))).drewN q).setCell ⟨bI,z*5+1,none⟩ (.int .i64 1)) bI n cI bD 20 cD (qcO d z 1) F):=fun q=>by
    have this:FsS (((w.setCell ⟨bI,z*5+1,none⟩ (.int .i64 (kl-1))).drewN q).setCell ⟨bI,z*5+1,none⟩ (.int .i64 1)) bI n cI bD 20 cD (qcO (qcO d z (kl-1)) z 1) F:= (HF1.out.later (below_drewN (Below.refl _ _) q)).lnkS z hzn 1
    rw [qqc d z _ _ (by omega)] at this
    exact this
   clear hfs hins hne hzi hk hkl hself hC1 hb4 hlen1 j6 e1
   generalize (d.1[z]?.getD id0).1=kd at*
   by_cases h1l:1<kl
   · rw [if_pos h1l]
     have hgt:decide (0<kl-1)=true:=decide_eq_true (by omega)
     clear HLK HDR HF2
     go_enter Tryz.func82,Tryz.ntmps82
     go_wp2
     (try simp only [Exit.inBlock,Exit.then])
     refine bodyPost_ret (results_none rfl _ _ _) rfl ?_
     exact ⟨rfl,HC1.out,HF1.out⟩
   · rw [if_neg h1l]
     have hk1:kl=1:=by omega
     subst hk1
     generalize hcn: (qco d.1).count (z:Int)=cnt at*
     clear hcn
     have HL0:Hid (_=_):=h0
     by_cases hc:cnt=0
     · rw [if_pos hc]
       have hcb:decide (0< ((cnt:Nat):Int))=false:=decide_eq_false (by omega)
       clear hc h1l
       generalize ((cnt:Nat):Int)=cn at*
       go_enter Tryz.func82,Tryz.ntmps82
       go_wp2_with fail
       refine (HLK.out 0).mono ?_
       rintro e w2 ⟨rfl,q,rfl⟩
       have g0: ((w.setCell ⟨bI,z*5+1,none⟩ (.int .i64 (1-1))).drewN q).cell? ⟨bo,0,none⟩=some (.slice (some ⟨bI,0,none⟩) n cI):=r0
       have g1: ((w.setCell ⟨bI,z*5+1,none⟩ (.int .i64 (1-1))).drewN q).cell? ⟨bo,1,none⟩=some (.slice (some ⟨bD,0,none⟩) 20 cD):=r1
       go_wp2_with fail
       refine (HDR.out q g0 g1).mono ?_
       rintro e w3 ⟨rfl,hc3,hf3⟩
       have HC3:Hid (Chg (fun c=>c=bI∨c=bD) w w3):= (HC1.out.trans (Chg.of_below (below_drewN (Below.refl _ _) q))).trans hc3
       have HF3:Hid (FsS w3 bI n cI bD 20 cD (qc6 d z) F):=hf3
       clear hc3 hf3
       go_wp2
       go_end0
       exact ⟨rfl,HC3.out,HF3.out⟩
     · rw [if_neg hc]
       have hcb:decide (0< ((cnt:Nat):Int))=true:=decide_eq_true (by omega)
       clear hc h1l
       generalize ((cnt:Nat):Int)=cn at*
       go_enter Tryz.func82,Tryz.ntmps82
       go_wp2_with fail
       refine (HLK.out 0).mono ?_
       rintro e w2 ⟨rfl,q,rfl⟩
       have g0: ((w.setCell ⟨bI,z*5+1,none⟩ (.int .i64 (1-1))).drewN q).cell? ⟨bo,0,none⟩=some (.slice (some ⟨bI,0,none⟩) n cI):=r0
       have g3: ((w.setCell ⟨bI,z*5+1,none⟩ (.int .i64 (1-1))).drewN q).cell? ⟨bI,z*5+1,none⟩=some (.int .i64 (1-1)):=y1
       have g4: ((w.setCell ⟨bI,z*5+1,none⟩ (.int .i64 (1-1))).drewN q).frozen? ⟨bI,z*5+1,none⟩=false:=y1f
       have HF3:Hid (FsS (((w.setCell ⟨bI,z*5+1,none⟩ (.int .i64 (1-1))).drewN q).setCell ⟨bI,z*5+1,none⟩ (.int .i64 1)) bI n cI bD 20 cD d F):=by
        have:=HF2.out q
        rw [HSELF.out] at this
        exact this
       have HC3:Hid (Chg (fun c=>c=bI∨c=bD) w (((w.setCell ⟨bI,z*5+1,none⟩ (.int .i64 (1-1))).drewN q).setCell ⟨bI,z*5+1,none⟩ (.int .i64 1))):=Chg.set (F:=fun c=>c=bI∨c=bD) (HC1.out.trans (Chg.of_below (below_drewN (Below.refl _ _) q))) (Or.inl rfl) _ _
       go_wp2
       (try simp only [Exit.inBlock,Exit.then])
       refine bodyPost_ret (results_none rfl _ _ _) rfl ?_
       exact ⟨rfl,HC3.out,HF3.out⟩
end Go.Proofs.YthnmlipnoajmkaaGreatDoor

namespace Go.Proofs.YthnmlipnoajmkaaGreatDoor
open Go.RowKit
set_option maxRecDepth 100000

theorem qrD (d:FD) (x:Int) (s:ByteArray):spanFs (qqM d x s).2≤1000:=by
 unfold qqM
 by_cases hc: (qcM d x s).1=0
 · rw [if_pos hc]
   obtain ⟨hdn,hidx,_⟩:=qkY hc
   have hs:=qo3 (qf8 hdn)
   generalize x.toNat=j at*
   show spanFs (qdk d j (idxE (qac d j) s))≤1000
   have hld:0≤ ((qac d j)[idxE (qac d j) s]?.getD en0).2∧ ((qac d j)[idxE (qac d j) s]?.getD en0).2< (d.1.length:Int):=hs.leads j hs.lt _ hidx
   have hdl:=qsh (z:= ((qac d j)[idxE (qac d j) s]?.getD en0).2.toNat) hs hidx (by omega)
   unfold qdk
   generalize ((qac d j)[idxE (qac d j) s]?.getD en0).2.toNat=z at*
   generalize qaH d j (qaO (qac d j) (idxE (qac d j) s))=dn at*
   have e1:=qgb hdl.ins
   have e8: ∀i:Nat,(dn.2[i]?.getD []).length≤8:=by rw [hdl.dat];exact hs.eight
   have e20:dn.2.length=20:=by rw [hdl.dat];exact hs.dat
   have e2:=qbq e8
   have hlen:=hdl.len
   have ht:=hs.ten
   have e3:=qaQ e1
   have hsame:spanFs dn≤1000:=by unfold spanFs;omega
   have hlnk: ∀l,spanFs (qcO dn z l)≤1000:=fun l=>by
    have e4:=qaQ (qcb e1 z ((dn.1[z]?.getD id0).1,l,(dn.1[z]?.getD id0).2.2) (e1 z))
    rw [List.length_set] at e4
    unfold qcO spanFs
    dsimp only
    omega
   have hdrop:spanFs (qc6 dn z)≤1000:=by
    have e4:=qaQ (qcb e1 z id0 (by simp [qaF,id0]))
    have e5:=qbq (qhv e8 (qci dn z) (qci dn z).length)
    rw [List.length_set] at e4
    rw [qch,e20] at e5
    unfold qc6 spanFs
    dsimp only
    omega
   split
   · unfold qgs
     split
     · exact hlnk _
     · split
       · exact hdrop
       · exact hsame
   · exact hsame
 · rw [if_neg hc,qcQ];omega
end Go.Proofs.YthnmlipnoajmkaaGreatDoor

namespace Go.Proofs.YthnmlipnoajmkaaGreatDoor
open Go.RowKit
set_option maxRecDepth 100000

def qbG (d:FD) (j:Nat) (s:ByteArray):Bool:=decide (idxE (qac d j) s< (qac d j).length)
def atE (d:FD) (j:Nat) (s:ByteArray):Int:=if idxE (qac d j) s< (qac d j).length then ((qac d j)[idxE (qac d j) s]?.getD en0).2 else 0
theorem qnx {d:FD} {j:Nat} {s:ByteArray} (h:qdG d (j:Int)=0) (hn:qal s=0):qcM d (j:Int) s= (if qbG d j s then 0 else 4,atE d j s):=by
 unfold qcM qgp qbG atE
 rw [if_pos h,if_pos hn,Int.toNat_natCast]
 by_cases hi:idxE (qac d j) s< (qac d j).length
 · rw [if_pos hi,if_pos hi,if_pos (by simpa using hi)]
 · rw [if_neg hi,if_neg hi,if_neg (by simpa using hi)]
def qaP (s:ByteArray):ByteArray:=mkB (qc0 s.data.toList)
def qaS (d:FD) (s:ByteArray): (Int×ByteArray×Bool×Int)×Int:=
 if (qas d s).1=0 then (((qas d s).2,qaP s,qbG d (qas d s).2.toNat (qaP s),atE d (qas d s).2.toNat (qaP s)),0) else ((0,⟨#[]⟩,false,0),(qas d s).1)
theorem qgc {d:FD} {j:Nat} {s:ByteArray} (h:DirS d j) (hh:qbG d j s=true): ∃z:Nat,atE d j s= (z:Int)∧z<d.1.length∧idxE (qac d j) s< (qac d j).length:=by
 unfold qbG at hh
 have hi:idxE (qac d j) s< (qac d j).length:=by simpa using hh
 have hl:=h.leads j h.lt _ hi
 refine ⟨(atE d j s).toNat, ?_, ?_,hi⟩
 · unfold atE;rw [if_pos hi];unfold qac at hl ⊢;omega
 · unfold atE;rw [if_pos hi];unfold qac at hl ⊢;omega
theorem qfz {d:FD} {s:ByteArray} (hf:fsF d=0) (h0: (qas d s).1=0): ∃j:Nat,(qas d s).2= (j:Int)∧qdG d (j:Int)=0∧DirS d j∧qal (qaP s)=0:=by
 rw [qeA,if_pos hf] at h0 ⊢
 obtain ⟨j,h1,h2,h3,h4⟩:=qnv hf h0
 have h5:=qo3 h2
 rw [Int.toNat_natCast] at h5
 rw [h4] at h3
 exact ⟨j,h1,h2,h5,h3⟩
def qeX (d:FD) (j z tj:Nat) (gf:Bool) (tz:Nat):Int:=
 if qae d.1 z=2∧qfa d (tj:Int) (z:Int)=true then 1
 else if gf=true∧tz=z then 0
 else if gf=true∧ ¬ (qae d.1 z=2↔qae d.1 tz=2) then 9
 else if gf=true∧0< (qac d tz).length then 8
 else if gf=false∧tj≠j∧ (qac d tj).length=6 then 2
 else 0
def qda (d:FD) (j k z:Nat):FD:=if qae (qdk d j k).1 z=2 then ((qdk d j k).1.set z id0,(qdk d j k).2) else qdk d j k
def qpb (d:FD) (j:Nat) (s:ByteArray) (tj:Nat) (t:ByteArray) (z:Nat):FD:=
 qaH (qaH d j (qaO (qac d j) (idxE (qac d j) s))) tj (qbF (qac (qaH d j (qaO (qac d j) (idxE (qac d j) s))) tj) (plcE (qac (qaH d j (qaO (qac d j) (idxE (qac d j) s))) tj) t) (t,(z:Int)))
def qaq (d:FD) (tj:Nat) (t:ByteArray):FD:=if qbG d tj t then qda d tj (idxE (qac d tj) t) (atE d tj t).toNat else d
def qdu (d:FD) (j:Nat) (s:ByteArray) (tj:Nat) (t:ByteArray) (z:Nat):FD:=qpb (qaq d tj t) j s tj t z
def qhP (d:FD) (j:Nat) (s:ByteArray) (tj:Nat) (t:ByteArray):Int×CRD:=
 if ¬qeX d j (atE d j s).toNat tj (qbG d tj t) (atE d tj t).toNat=0∨ (qbG d tj t=true∧atE d tj t=atE d j s) then qav d (qeX d j (atE d j s).toNat tj (qbG d tj t) (atE d tj t).toNat)
 else (0,0,0, [], [],qdu d j s tj t (atE d j s).toNat)
def qlV (d:FD) (s t:ByteArray):Int×CRD:=
 if (qas d s).1=0 then
  (if qbG d (qas d s).2.toNat (qaP s)=true then
    (if (qas d t).1=0 then qhP d (qas d s).2.toNat (qaP s) (qas d t).2.toNat (qaP t) else qav d (qas d t).1)
  else qav d 4)
 else qav d (qas d s).1
def qny (d:FD) (s t:ByteArray):Int×CRD:=if fsF d=0 then qlV d s t else qnQ (fsF d)

theorem qkZ (d:FD) (j:Nat) (es:List EN) (i:Nat) (hj:j<d.1.length): (qaH d j es).1[i]?.getD id0=if i=j then ((d.1[j]?.getD id0).1,(d.1[j]?.getD id0).2.1,(d.1[j]?.getD id0).2.2.1, [],es) else d.1[i]?.getD id0:=qa2 _ _ _ _ _ hj
theorem qrE (d:FD) (j:Nat) (l:Int) (i:Nat) (hj:j<d.1.length): (qcO d j l).1[i]?.getD id0=if i=j then ((d.1[j]?.getD id0).1,l,(d.1[j]?.getD id0).2.2) else d.1[i]?.getD id0:=qa2 _ _ _ _ _ hj
theorem qqd (d:FD) (j:Nat) (i:Nat) (hj:j<d.1.length): (qc6 d j).1[i]?.getD id0=if i=j then id0 else d.1[i]?.getD id0:=qa2 _ _ _ _ _ hj
theorem qrF (d:FD) (z i:Nat) (hz:z<d.1.length) (hi:i≠z): (qgs d z).1[i]?.getD id0=d.1[i]?.getD id0:=by
 unfold qgs
 split
 · rw [qrE _ _ _ _ hz,if_neg hi]
 · split
   · rw [qqd _ _ _ hz,if_neg hi]
   · rfl
theorem qcl (d:FD) (j:Nat) (es:List EN): (qaH d j es).1.length=d.1.length:=List.length_set
theorem qqe (d:FD) (z:Nat): (qgs d z).1.length=d.1.length:=by
 unfold qgs
 split
 · exact List.length_set
 · split
   · exact List.length_set
   · rfl
theorem qhQ (d:FD) (j k:Nat): (qdk d j k).1.length=d.1.length:=by
 unfold qdk
 split
 · rw [qqe,qcl]
 · rw [qcl]
theorem qoM (d:FD) (j k z:Nat): (qda d j k z).1.length=d.1.length:=by
 unfold qda
 split
 · rw [List.length_set,qhQ]
 · rw [qhQ]
theorem qpc {d:FD} {j k z i:Nat} (hz: ((qac d j)[k]?.getD en0).2= (z:Int)) (hzn:z<d.1.length) (hj:j<d.1.length) (hi:i≠z): (qdk d j k).1[i]?.getD id0=if i=j then ((d.1[j]?.getD id0).1,(d.1[j]?.getD id0).2.1,(d.1[j]?.getD id0).2.2.1, [],qaO (qac d j) k) else d.1[i]?.getD id0:=by
 unfold qdk
 rw [hz,Int.toNat_natCast]
 split
 · rw [qrF _ _ _ (by rw [qcl];exact hzn) hi,qkZ _ _ _ _ hj]
 · rw [qkZ _ _ _ _ hj]
theorem qhR {d:FD} {j k z i:Nat} (hz: ((qac d j)[k]?.getD en0).2= (z:Int)) (hzn:z<d.1.length) (hj:j<d.1.length) (hi:i≠z): (qda d j k z).1[i]?.getD id0=if i=j then ((d.1[j]?.getD id0).1,(d.1[j]?.getD id0).2.1,(d.1[j]?.getD id0).2.2.1, [],qaO (qac d j) k) else d.1[i]?.getD id0:=by
 unfold qda
 split
 · rw [qa2 _ _ _ _ _ (by rw [qhQ];exact hzn),if_neg hi,qpc hz hzn hj hi]
 · rw [qpc hz hzn hj hi]
theorem qeu.one {es:List EN} (h:qeu es) {i k:Nat} {s:ByteArray} (hi:i<es.length) (hk:k<es.length) (ei:eqE s (es[i]?.getD en0)=true) (ek:eqE s (es[k]?.getD en0)=true):i=k:=by
 have a:=qhy ei
 have b:=qhy ek
 rcases Nat.lt_trichotomy i k with hh|hh|hh
 · have:=h.lt hh hk;rw [a,b,qgN] at this;exact absurd this (by decide)
 · exact hh
 · have:=h.lt hh hi;rw [a,b,qgN] at this;exact absurd this (by decide)
theorem qqf {es:List EN} (_h:qeu es) {s:ByteArray} {k:Nat} (hi:idxE es s<es.length) (hk:k<es.length) (hne:idxE es s≠k):idxE (qaO es k) s< (qaO es k).length:=by
 have he:eqE s (es[idxE es s]?.getD en0)=true:=qeS hi
 by_cases hc:idxE (qaO es k) s< (qaO es k).length
 · exact hc
 · exfalso
   have hn: ∀i,i< (qaO es k).length→eqE s ((qaO es k)[i]?.getD en0)=false:=fun i hh=>qgP (p:=eqE s) (by unfold idxE at hc;omega)
   have hl:=qhO hk
   rcases Nat.lt_or_ge (idxE es s) k with hlt|hge
   · have:=hn (idxE es s) (by omega)
     rw [qc9 hk,if_pos hlt,he] at this
     exact absurd this (by decide)
   · have:=hn (idxE es s-1) (by omega)
     rw [qc9 hk,if_neg (by omega),show idxE es s-1+1=idxE es s by omega,he] at this
     exact absurd this (by decide)

structure RenS (d D:FD) (j:Nat) (s:ByteArray) (tj:Nat):Prop where
 len:D.1.length=d.1.length
 jlt:j<d.1.length
 tlt:tj<d.1.length
 rises:qeu (qac D j)
 six: (qac D j).length≤6
 has:idxE (qac D j) s< (qac D j).length
 blk: (D.1[j]?.getD id0).2.2.2.1= []
 six2: (qac (qaH D j (qaO (qac D j) (idxE (qac D j) s))) tj).length≤6
 blk2: ((qaH D j (qaO (qac D j) (idxE (qac D j) s))).1[tj]?.getD id0).2.2.2.1= []
theorem qfA {d:FD} {j:Nat} (h:DirS d j): (d.1[j]?.getD id0).2.2.2.1= []:=qnp (qaM h.ins j h.lt) h.kind
theorem qnz {d D:FD} {j tj:Nat} {s:ByteArray} (hl:D.1.length=d.1.length) (hj:DirS d j) (ht:DirS d tj) (hr:qeu (qac D j)) (h6: (qac D j).length≤6) (hh:idxE (qac D j) s< (qac D j).length) (hb: (D.1[j]?.getD id0).2.2.2.1= []) (h6t: (qac D tj).length≤6) (hbt: (D.1[tj]?.getD id0).2.2.2.1= []):RenS d D j s tj:=by
 have hlt:j<D.1.length:=by rw [hl];exact hj.lt
 refine ⟨hl,hj.lt,ht.lt,hr,h6,hh,hb, ?_, ?_⟩
 · unfold qac at h6t ⊢
   rw [qkZ _ _ _ _ hlt]
   split
   · have:=qhO hh
     dsimp only
     unfold qac at this h6
     omega
   · exact h6t
 · rw [qkZ _ _ _ _ hlt]
   split
   · rfl
   · exact hbt
theorem qpd {d:FD} {j tj z:Nat} {s t:ByteArray} (hj:DirS d j) (ht:DirS d tj) (hz:atE d j s= (z:Int)) (hs:qbG d j s=true) (hf:qeX d j z tj (qbG d tj t) (atE d tj t).toNat=0) (hne: ¬ (qbG d tj t=true∧atE d tj t=atE d j s)):RenS d (qaq d tj t) j s tj:=by
 obtain ⟨z',hz',-,hi⟩:=qgc hj hs
 unfold qaq
 by_cases hg:qbG d tj t=true
 · rw [if_pos hg]
   obtain ⟨tz,htz,htl,hk⟩:=qgc ht hg
   have hw: ((qac d tj)[idxE (qac d tj) t]?.getD en0).2= (tz:Int):=by rw [←htz];unfold atE;rw [if_pos hk]
   rw [htz,Int.toNat_natCast] at hf ⊢
   have hne': ¬tz=z:=fun e=>hne ⟨hg,by rw [htz,hz,e]⟩
   have h0 : (qac d tz).length=0:=by
    unfold qeX at hf
    split at hf
    · exact absurd hf (by decide)
    · rw [if_neg (fun hh=>hne' hh.2)] at hf
      split at hf
      · exact absurd hf (by decide)
      · split at hf
        · exact absurd hf (by decide)
        · rename_i hc
          rcases Nat.eq_zero_or_pos (qac d tz).length with h0|h0
          · exact h0
          · exact absurd ⟨hg,h0⟩ hc
   have njz:j≠tz:=fun e=>by rw [e] at hi;omega
   have ntz:tj≠tz:=fun e=>by rw [e] at hk;omega
   have ej:qac (qda d tj (idxE (qac d tj) t) tz) j=if j=tj then qaO (qac d tj) (idxE (qac d tj) t) else qac d j:=by
    show ((qda d tj (idxE (qac d tj) t) tz).1[j]?.getD id0).2.2.2.2=_
    rw [qhR hw htl ht.lt njz]
    split<;>rfl
   have et:qac (qda d tj (idxE (qac d tj) t) tz) tj=qaO (qac d tj) (idxE (qac d tj) t):=by
    show ((qda d tj (idxE (qac d tj) t) tz).1[tj]?.getD id0).2.2.2.2=_
    rw [qhR hw htl ht.lt ntz,if_pos rfl]
   have hde:DirE (qaO (qac d tj) (idxE (qac d tj) t)):= (qnn (qhA (qaM ht.ins tj ht.lt) ht.kind)).del hk
   refine qnz (qoM _ _ _ _) hj ht ?_ ?_ ?_ ?_ ?_ ?_
   · rw [ej];split
     · exact hde.rises
     · exact hj.rises
   · rw [ej];split
     · exact hde.six
     · exact hj.six
   · rw [ej];split
     · rename_i e
       subst e
       refine qqf hj.rises hi hk (fun e=>hne' ?_)
       have h1: (z:Int)= (tz:Int):=by
        rw [←hw,←e,←hz];unfold atE;rw [if_pos hi]
       omega
     · exact hi
   · rw [qhR hw htl ht.lt njz];split
     · rfl
     · exact qfA hj
   · rw [et];exact hde.six
   · rw [qhR hw htl ht.lt ntz,if_pos rfl]
 · rw [if_neg hg]
   exact qnz rfl hj ht hj.rises hj.six hi (qfA hj) ht.six (qfA ht)
end Go.Proofs.YthnmlipnoajmkaaGreatDoor

namespace Go.Proofs.YthnmlipnoajmkaaGreatDoor
open Go.RowKit
set_option maxRecDepth 100000

theorem qpe {w W:World} {g:Nat} (hB:Below w.heap.size w W) (hg:w.heap.size≤g) (a b c d:Value):Below w.heap.size w ((((W.setCell ⟨g,0,none⟩ a).setCell ⟨g,1,none⟩ b).setCell ⟨g,2,none⟩ c).setCell ⟨g,3,none⟩ d):= (((hB.setCell hg _).setCell hg _).setCell hg _).setCell hg _
def qi7:List Value:= [.int .i64 0, .string ⟨#[]⟩, .bool false, .int .i64 0]

set_option maxHeartbeats 6400000 in
theorem qgZ (w:World) (a1:Option Addr) (n1 c1:Nat) (a2:Option Addr) (n2 c2:Nat) (d:FD) (s:ByteArray) (h:FsR w (.slice a1 n1 c1) (.slice a2 n2 c2) d) (hs:sizeFs d≤1048576) (hl:s.size≤1048576) (hgl:Gl w) (hf:fsF d=0):
 Calls Tryz.prog 20 #[.agg #[.slice a1 n1 c1, .slice a2 n2 c2], .string s] w fun e w'=>e= .returned (.tuple #[.agg #[.int .i64 (qaS d s).1.1, .string (qaS d s).1.2.1, .bool (qaS d s).1.2.2.1, .int .i64 (qaS d s).1.2.2.2], .int .i64 (qaS d s).2])∧Below w.heap.size w w':=by
 have hsl:s.data.toList.length=s.size:=Array.length_toList
 have HWP:Hid (∀W,Below w.heap.size w W→Calls Tryz.prog 55 #[.agg #[.slice a1 n1 c1, .slice a2 n2 c2], .string s] W fun e w'=>e= .returned (.agg #[.int .i64 (qas d s).1, .int .i64 (qas d s).2])∧Below W.heap.size W w'):=fun W hW=>qkm W _ _ _ _ _ _ d s (h.later hW) hs hl (hgl.later hW)
 have HLO:Hid (∀W,Calls Tryz.prog 56 #[.string s] W fun e w'=>e= .returned (.agg #[.int .i64 (qeN s.data.toList), .string (qaP s)])∧Below W.heap.size W w'):=fun W=>by
  have:=qiZ W s.data.toList (by omega)
  rw [qb3] at this
  exact this
 have HLK:Hid ((qas d s).1=0→ ∃ (j:Nat) (cc:Int),(qas d s).2= (j:Int)∧ (cc==0)=qbG d j (qaP s)∧ ∀W,Below w.heap.size w W→Calls Tryz.prog 57 #[.agg #[.slice a1 n1 c1, .slice a2 n2 c2], .int .i64 (j:Int), .string (qaP s)] W fun e w'=>e= .returned (.agg #[.int .i64 cc, .int .i64 (atE d j (qaP s))])∧Below W.heap.size W w'):=fun h0=>by
  obtain ⟨j,h1,h2,h3,h4⟩:=qfz hf h0
  refine ⟨j,if qbG d j (qaP s) then 0 else 4,h1,by cases qbG d j (qaP s)<;>rfl,fun W hW=> ?_⟩
  have:=qiV W _ _ _ _ _ _ d (j:Int) (qaP s) (h.later hW) hs (by have:=qaX h4;omega)
  rw [qnx h2 h4] at this
  exact this
 have HSP:Hid (qaS d s=if (qas d s).1=0 then (((qas d s).2,qaP s,qbG d (qas d s).2.toNat (qaP s),atE d (qas d s).2.toNat (qaP s)),0) else ((0,⟨#[]⟩,false,0),(qas d s).1)):=rfl
 obtain ⟨RES,hRES⟩: ∃r,qaS d s=r:= ⟨_,rfl⟩
 rw [hRES] at HSP ⊢
 clear hRES h hs hl hgl hf hsl
 have HB0:Hid (Below w.heap.size w ((w.alloc (.cells #[.slice a1 n1 c1, .slice a2 n2 c2] 31)).alloc (.cells #[.int .i64 0, .string ⟨#[]⟩, .bool false, .int .i64 0] 49))):=qam _ _ _
 have HX0:Hid (Bx ((w.alloc (.cells #[.slice a1 n1 c1, .slice a2 n2 c2] 31)).alloc (.cells #[.int .i64 0, .string ⟨#[]⟩, .bool false, .int .i64 0] 49)) w.heap.size [.slice a1 n1 c1, .slice a2 n2 c2]):= (Bx.new w [.slice a1 n1 c1, .slice a2 n2 c2] _).later (qab _ _)
 have HR0:Hid (qaa ((w.alloc (.cells #[.slice a1 n1 c1, .slice a2 n2 c2] 31)).alloc (.cells #[.int .i64 0, .string ⟨#[]⟩, .bool false, .int .i64 0] 49)) (w.heap.size+1) 4 (cel qi7)):=by
  have p2:=qdQ (w.alloc (.cells #[.slice a1 n1 c1, .slice a2 n2 c2] 31)) qi7 49
  rw [World.size_alloc] at p2
  exact p2
 generalize qas d s=pr at*
 generalize qaP s=nm at*
 generalize qeN s.data.toList=lc at*
 obtain ⟨pc,pv⟩:=pr
 dsimp only at HWP HLK HSP
 go_enter Tryz.func20,Tryz.ntmps20
 go_wp2_with fail
 generalize ((w.alloc (.cells #[.slice a1 n1 c1, .slice a2 n2 c2] 31)).alloc (.cells #[.int .i64 0, .string ⟨#[]⟩, .bool false, .int .i64 0] 49))=W0 at*
 refine (HWP.out _ HB0.out).mono ?_
 rintro e w1 ⟨rfl,hb⟩
 have hlz:w.heap.size+1<w1.heap.size:= (HR0.out.later hb).lt
 have hb':Below W0.heap.size W0 (w1.alloc (.cells #[.int .i64 pc, .int .i64 pv] 86)):=hb.trans ((qab _ _).mono hb.size)
 have HB1:Hid (Below w.heap.size w (w1.alloc (.cells #[.int .i64 pc, .int .i64 pv] 86))):=HB0.out.trans (hb'.mono HB0.out.size)
 have HX1:Hid (Bx (w1.alloc (.cells #[.int .i64 pc, .int .i64 pv] 86)) w.heap.size [.slice a1 n1 c1, .slice a2 n2 c2]):=HX0.out.later hb'
 have HR1:Hid (qaa (w1.alloc (.cells #[.int .i64 pc, .int .i64 pv] 86)) (w.heap.size+1) 4 (cel qi7)):=HR0.out.later hb'
 clear hb hb'
 have HP1:Hid (Bx (w1.alloc (.cells #[.int .i64 pc, .int .i64 pv] 86)) w1.heap.size [.int .i64 pc, .int .i64 pv]):=Bx.new w1 [.int .i64 pc, .int .i64 pv] _
 have hlw:w.heap.size+1<w1.heap.size:=hlz
 by_cases hpc:pc=0
 rotate_left
 · have hpb: (pc !=0)=true:=by simpa using hpc
   have HE:Hid (RES= ((0,⟨#[]⟩,false,0),pc)):=by unfold Hid;rw [HSP.out,if_neg hpc]
   clear hpc
   go_wp2_with fail
   generalize (w1.alloc (.cells #[.int .i64 pc, .int .i64 pv] 86))=W1 at*
   have xHP0:=HP1.out 0 _ rfl
   have xHP1:=HP1.out 1 _ rfl
   have hrr:=HR1.out
   have hl1:w.heap.size+1<W1.heap.size:=hrr.lt
   have t0:W1.cell? ⟨w.heap.size+1,0,none⟩=some (.int .i64 0):=hrr.cell (i:=0) (by omega)
   have t1:W1.cell? ⟨w.heap.size+1,1,none⟩=some (.string ⟨#[]⟩):=hrr.cell (i:=1) (by omega)
   have t2:W1.cell? ⟨w.heap.size+1,2,none⟩=some (.bool false):=hrr.cell (i:=2) (by omega)
   have t3:W1.cell? ⟨w.heap.size+1,3,none⟩=some (.int .i64 0):=hrr.cell (i:=3) (by omega)
   have s0:=hrr.frozen 0
   have s1:=hrr.frozen 1
   have s2:=hrr.frozen 2
   have s3:=hrr.frozen 3
   have ha1:w.heap.size+1≠w1.heap.size:=by omega
   have ha2:w1.heap.size≠w.heap.size+1:=by omega
   clear hrr
   go_region_held3 (fun W=>W.cell? ⟨w1.heap.size,0,none⟩=some (.int .i64 pc)) (go_keep) (fail)
   all_goals
    go_wp2
    exact bodyPost_ret (v:= .tuple #[.agg #[.int .i64 0, .string ⟨#[]⟩, .bool false, .int .i64 0], .int .i64 pc]) (by simp [results,Tryz.results20,go_sem,t0,t1,t2,t3]) rfl ⟨by rw [HE.out],by
     have h8:=qpe HB1.out (g:=w.heap.size+1) (by omega) (.int .i64 0) (.string ⟨#[]⟩) (.bool false) (.int .i64 0)
     first
      |exact h8.drew
      |exact h8⟩
 · have hpb: (pc !=0)=false:=by simpa using hpc
   obtain ⟨j,cc,rfl,hcc,hlk⟩:=HLK.out hpc
   have HL:Hid (∀W,Below w.heap.size w W→_):=hlk
   rw [if_pos hpc,Int.toNat_natCast] at HSP
   clear hlk hpc HLK
   have hft:=qlT
   go_wp2_with fail
   generalize (w1.alloc (.cells #[.int .i64 pc, .int .i64 (j:Int)] 86))=W1 at*
   refine (HLO.out _).mono ?_
   rintro e w2 ⟨rfl,hb⟩
   have HB2:Hid (Below w.heap.size w w2):=HB1.out.trans (hb.mono HB1.out.size)
   have HX2:Hid (Bx w2 w.heap.size [.slice a1 n1 c1, .slice a2 n2 c2]):=HX1.out.later hb
   have HR2:Hid (qaa w2 (w.heap.size+1) 4 (cel qi7)):=HR1.out.later hb
   have HP2:Hid (Bx w2 w1.heap.size [.int .i64 pc, .int .i64 (j:Int)]):=HP1.out.later hb
   clear hb
   have xHX0:=HX2.out 0 _ rfl
   have xHX1:=HX2.out 1 _ rfl
   have xHP1:=HP2.out 1 _ rfl
   go_wp2_with fail
   clear xHX0 xHX1 xHP1
   refine (HL.out _ HB2.out).mono ?_
   rintro e w3 ⟨rfl,hb⟩
   have HBW:Hid (Below w.heap.size w w3):=HB2.out.trans (hb.mono HB2.out.size)
   have hrr:=HR2.out.later hb
   have hlv:w.heap.size+1<w3.heap.size:=hrr.lt
   have t0:w3.cell? ⟨w.heap.size+1,0,none⟩=some (.int .i64 0):=hrr.cell (i:=0) (by omega)
   have t1:w3.cell? ⟨w.heap.size+1,1,none⟩=some (.string ⟨#[]⟩):=hrr.cell (i:=1) (by omega)
   have t2:w3.cell? ⟨w.heap.size+1,2,none⟩=some (.bool false):=hrr.cell (i:=2) (by omega)
   have t3:w3.cell? ⟨w.heap.size+1,3,none⟩=some (.int .i64 0):=hrr.cell (i:=3) (by omega)
   have s0:=hrr.frozen 0
   have s1:=hrr.frozen 1
   have s2:=hrr.frozen 2
   have s3:=hrr.frozen 3
   clear hrr
   have hb':Below w2.heap.size w2 (w3.alloc (.cells #[.int .i64 (cc), .int .i64 (atE d j nm)] 86)):=hb.trans ((qab _ _).mono hb.size)
   have HB3:Hid (Below w.heap.size w (w3.alloc (.cells #[.int .i64 (cc), .int .i64 (atE d j nm)] 86))):=HB2.out.trans (hb'.mono HB2.out.size)
   have HX3:Hid (Bx (w3.alloc (.cells #[.int .i64 (cc), .int .i64 (atE d j nm)] 86)) w.heap.size [.slice a1 n1 c1, .slice a2 n2 c2]):=HX2.out.later hb'
   have HR3:Hid (qaa (w3.alloc (.cells #[.int .i64 (cc), .int .i64 (atE d j nm)] 86)) (w.heap.size+1) 4 (cel qi7)):=HR2.out.later hb'
   have HP3:Hid (Bx (w3.alloc (.cells #[.int .i64 (cc), .int .i64 (atE d j nm)] 86)) w1.heap.size [.int .i64 pc, .int .i64 (j:Int)]):=HP2.out.later hb'
   clear hb hb'
   have HQ3:Hid (Bx (w3.alloc (.cells #[.int .i64 (cc), .int .i64 (atE d j nm)] 86)) w3.heap.size [.int .i64 (cc), .int .i64 (atE d j nm)]):=Bx.new w3 [.int .i64 (cc), .int .i64 (atE d j nm)] _
   generalize qbG d j nm=hv at*
   generalize atE d j nm=av at*
   have xHP1:=HP3.out 1 _ rfl
   have xHQ0:=HQ3.out 0 _ rfl
   have xHQ1:=HQ3.out 1 _ rfl
   go_wp2
   exact bodyPost_ret (v:= .tuple #[.agg #[.int .i64 (j:Int), .string nm, .bool hv, .int .i64 av], .int .i64 0]) (by simp [results,Tryz.results20,go_sem,t0,t1,t2,t3,hlv]) rfl ⟨by rw [HSP.out],by
    have h8:=qpe HBW.out (g:=w.heap.size+1) (by omega) (.int .i64 (j:Int)) (.string nm) (.bool hv) (.int .i64 av)
    exact h8.alloc (by have:=HBW.out.size;simpa [World.setCell] using this) _⟩

set_option maxHeartbeats 1600000 in
theorem qeC (w:World) (j:Int) (s:ByteArray) (f:Bool) (z:Int) (tj:Int) (t:ByteArray) (gf:Bool) (tz:Int):
 Calls Tryz.prog 23 #[.agg #[.int .i64 j, .string s, .bool f, .int .i64 z], .agg #[.int .i64 tj, .string t, .bool gf, .int .i64 tz]] w fun e w'=>e= .returned (.bool (gf&&decide (tz=z)))∧Below w.heap.size w w':=by
 cases gf
 · go_enter Tryz.func23,Tryz.ntmps23
   go_wp2
   go_ret
   exact ⟨rfl,qam _ _ _⟩
 · go_enter Tryz.func23,Tryz.ntmps23
   go_wp2
   go_ret
   exact ⟨qaB (by rw [Bool.true_and];by_cases h:tz=z<;>simp [h]),qam _ _ _⟩
end Go.Proofs.YthnmlipnoajmkaaGreatDoor

namespace Go.Proofs.YthnmlipnoajmkaaGreatDoor
open Go.RowKit
set_option maxRecDepth 100000

theorem qhS (w:World) (a b c:Obj):Below w.heap.size w (((w.alloc a).alloc b).alloc c):= (qam w a b).trans ((qab _ c).mono (qam w a b).size)
theorem qnA (w:World) (xs ys zs:List Value) (ta tb tc:TypeId):Bx (((w.alloc (.cells xs.toArray ta)).alloc (.cells ys.toArray tb)).alloc (.cells zs.toArray tc)) w.heap.size xs∧Bx (((w.alloc (.cells xs.toArray ta)).alloc (.cells ys.toArray tb)).alloc (.cells zs.toArray tc)) (w.heap.size+1) ys∧Bx (((w.alloc (.cells xs.toArray ta)).alloc (.cells ys.toArray tb)).alloc (.cells zs.toArray tc)) (w.heap.size+1+1) zs:=by
 refine ⟨(Bx.new w xs ta).later (qam _ _ _), ?_, ?_⟩
 · have:= (Bx.new (w.alloc (.cells xs.toArray ta)) ys tb).later (qab _ (.cells zs.toArray tc))
   rw [World.size_alloc] at this
   exact this
 · have:=Bx.new ((w.alloc (.cells xs.toArray ta)).alloc (.cells ys.toArray tb)) zs tc
   rw [World.size_alloc,World.size_alloc] at this
   exact this
set_option maxHeartbeats 6400000 in
theorem qgd (w:World) (a1:Option Addr) (n1 c1:Nat) (a2:Option Addr) (n2 c2:Nat) (d:FD) (j:Nat) (s:ByteArray) (z tj:Nat) (t:ByteArray) (gf:Bool) (tz:Nat) (h:FsR w (.slice a1 n1 c1) (.slice a2 n2 c2) d) (hs:sizeFs d≤1048576) (hz:z<d.1.length) (htj:tj<d.1.length) (htz:tz<d.1.length) (_h10:d.1.length≤10) (h6: (qac d tj).length≤1048576):
 Calls Tryz.prog 22 #[.agg #[.slice a1 n1 c1, .slice a2 n2 c2], .agg #[.int .i64 (j:Int), .string s, .bool true, .int .i64 (z:Int)], .agg #[.int .i64 (tj:Int), .string t, .bool gf, .int .i64 (tz:Int)]] w fun e w'=>e= .returned (.int .i64 (qeX d j z tj gf tz))∧Below w.heap.size w w':=by
 have HWI:Hid (∀W,Below w.heap.size w W→Calls Tryz.prog 59 #[.agg #[.slice a1 n1 c1, .slice a2 n2 c2], .int .i64 (tj:Int), .int .i64 (z:Int)] W fun e w'=>e= .returned (.bool (qfa d (tj:Int) (z:Int)))∧Below W.heap.size W w'):=fun W hW=>qki W _ _ _ _ _ _ d (tj:Int) (z:Int) (h.later hW) hs
 have HLA:Hid (∀W,Calls Tryz.prog 23 #[.agg #[.int .i64 (j:Int), .string s, .bool true, .int .i64 (z:Int)], .agg #[.int .i64 (tj:Int), .string t, .bool gf, .int .i64 (tz:Int)]] W fun e w'=>e= .returned (.bool (gf&&decide ((tz:Int)= (z:Int))))∧Below W.heap.size W w'):=fun W=>qeC W _ _ _ _ _ _ _ _
 have HRF:Hid (qeX d j z tj gf tz=if qae d.1 z=2∧qfa d (tj:Int) (z:Int)=true then 1 else if gf=true∧tz=z then 0 else if gf=true∧ ¬ (qae d.1 z=2↔qae d.1 tz=2) then 9 else if gf=true∧0< (qac d tz).length then 8 else if gf=false∧tj≠j∧ (qac d tj).length=6 then 2 else 0):=rfl
 obtain ⟨_,_,e1,-,hAt⟩:=h.1.open'
 simp only [Value.slice.injEq] at e1
 obtain ⟨rfl,rfl,rfl⟩:=e1
 obtain ⟨b0,o0,rfl,hI⟩:=hAt z hz
 obtain ⟨_,_,_,_,kz,-,-,-,-,-⟩:=hI
 obtain ⟨b0',o0',eb,hI⟩:=hAt tz htz
 simp only [Option.some.injEq,Addr.mk.injEq,and_true] at eb
 obtain ⟨rfl,rfl⟩:=eb
 obtain ⟨tB,tcB,tE,tcE,k0,k1,k2,k3,k4,-⟩:=hI
 obtain ⟨b0',o0',eb,hI⟩:=hAt tj htj
 simp only [Option.some.injEq,Addr.mk.injEq,and_true] at eb
 obtain ⟨rfl,rfl⟩:=eb
 obtain ⟨jB,jcB,jE,jcE,m0,m1,m2,m3,m4,-⟩:=hI
 have HKZ:Hid (w.cell? ⟨b0,o0+z*5,none⟩=some (.int .i64 (qae d.1 z))):=kz
 have HK0:Hid (w.cell? ⟨b0,o0+tz*5,none⟩=some (.int .i64 (qae d.1 tz))):=k0
 have HK1:Hid (_=_):=k1
 have HK2:Hid (_=_):=k2
 have HK3:Hid (_=_):=k3
 have HK4:Hid (w.cell? ⟨b0,o0+tz*5+4,none⟩=some (.slice tE (qac d tz).length tcE)):=k4
 have HM0:Hid (_=_):=m0
 have HM1:Hid (_=_):=m1
 have HM2:Hid (_=_):=m2
 have HM3:Hid (_=_):=m3
 have HM4:Hid (w.cell? ⟨b0,o0+tj*5+4,none⟩=some (.slice jE (qac d tj).length jcE)):=m4
 have hzI: (z:Int)< (d.1.length:Int):=by omega
 have hzt: (tz:Int)< (d.1.length:Int):=by omega
 have hzj: (tj:Int)< (d.1.length:Int):=by omega
 obtain ⟨RES,hRES⟩: ∃r,qeX d j z tj gf tz=r:= ⟨_,rfl⟩
 rw [hRES] at HRF ⊢
 clear hRES h hs kz k0 k1 k2 k3 k4 m0 m1 m2 m3 m4 hAt hz htj htz
 generalize (d.1[tz]?.getD id0).2.1=e1 at*
 generalize (d.1[tz]?.getD id0).2.2.1=e2 at*
 generalize (d.1[tz]?.getD id0).2.2.2.1.length=e3 at*
 generalize (d.1[tj]?.getD id0).1=f0 at*
 generalize (d.1[tj]?.getD id0).2.1=f1 at*
 generalize (d.1[tj]?.getD id0).2.2.1=f2 at*
 generalize (d.1[tj]?.getD id0).2.2.2.1.length=f3 at*
 generalize qae d.1 z=kd at*
 generalize qae d.1 tz=kt at*
 generalize (qac d tz).length=le at*
 generalize (qac d tj).length=lt at*
 generalize qfa d (tj:Int) (z:Int)=wb at*
 generalize d.1.length=nn at*
 have HB0:Hid (Below w.heap.size w (((w.alloc (.cells #[.slice (some ⟨b0,o0,none⟩) nn c1, .slice a2 n2 c2] 31)).alloc (.cells #[.int .i64 (j:Int), .string s, .bool true, .int .i64 (z:Int)] 49)).alloc (.cells #[.int .i64 (tj:Int), .string t, .bool gf, .int .i64 (tz:Int)] 49))):=qhS _ _ _ _
 have hbx:=qnA w [.slice (some ⟨b0,o0,none⟩) nn c1, .slice a2 n2 c2] [.int .i64 (j:Int), .string s, .bool true, .int .i64 (z:Int)] [.int .i64 (tj:Int), .string t, .bool gf, .int .i64 (tz:Int)] 31 49 49
 have HX0:Hid (Bx (((w.alloc (.cells #[.slice (some ⟨b0,o0,none⟩) nn c1, .slice a2 n2 c2] 31)).alloc (.cells #[.int .i64 (j:Int), .string s, .bool true, .int .i64 (z:Int)] 49)).alloc (.cells #[.int .i64 (tj:Int), .string t, .bool gf, .int .i64 (tz:Int)] 49)) w.heap.size [.slice (some ⟨b0,o0,none⟩) nn c1, .slice a2 n2 c2]):=hbx.1
 have HP0:Hid (Bx (((w.alloc (.cells #[.slice (some ⟨b0,o0,none⟩) nn c1, .slice a2 n2 c2] 31)).alloc (.cells #[.int .i64 (j:Int), .string s, .bool true, .int .i64 (z:Int)] 49)).alloc (.cells #[.int .i64 (tj:Int), .string t, .bool gf, .int .i64 (tz:Int)] 49)) (w.heap.size+1) [.int .i64 (j:Int), .string s, .bool true, .int .i64 (z:Int)]):=hbx.2.1
 have HQ0:Hid (Bx (((w.alloc (.cells #[.slice (some ⟨b0,o0,none⟩) nn c1, .slice a2 n2 c2] 31)).alloc (.cells #[.int .i64 (j:Int), .string s, .bool true, .int .i64 (z:Int)] 49)).alloc (.cells #[.int .i64 (tj:Int), .string t, .bool gf, .int .i64 (tz:Int)] 49)) (w.heap.size+1+1) [.int .i64 (tj:Int), .string t, .bool gf, .int .i64 (tz:Int)]):=hbx.2.2
 clear hbx
 have hcz:=cell_later HB0.out HKZ.out
 obtain ⟨la,hla⟩: ∃la:Bool,(gf&&decide ((tz:Int)= (z:Int)))=la:= ⟨_,rfl⟩
 have HLE:Hid ((gf&&decide ((tz:Int)= (z:Int)))=la):=hla
 rw [hla] at HLA
 clear hla
 by_cases hkd:kd=2
 · have hkb : (kd==2)=true:=by simpa using hkd
   have xHX0:=HX0.out 0 _ rfl
   have xHX1:=HX0.out 1 _ rfl
   have xHP0:=HP0.out 0 _ rfl
   have xHP1:=HP0.out 1 _ rfl
   have xHP2:=HP0.out 2 _ rfl
   have xHP3:=HP0.out 3 _ rfl
   have xHQ0:=HQ0.out 0 _ rfl
   have xHQ1:=HQ0.out 1 _ rfl
   have xHQ2:=HQ0.out 2 _ rfl
   have xHQ3:=HQ0.out 3 _ rfl
   go_enter Tryz.func22,Tryz.ntmps22
   go_wp2_with fail
   generalize (((w.alloc (.cells #[.slice (some ⟨b0,o0,none⟩) nn c1, .slice a2 n2 c2] 31)).alloc (.cells #[.int .i64 (j:Int), .string s, .bool true, .int .i64 (z:Int)] 49)).alloc (.cells #[.int .i64 (tj:Int), .string t, .bool gf, .int .i64 (tz:Int)] 49))=W0 at*
   clear xHX0 xHX1 xHP0 xHP1 xHP2 xHP3 xHQ0 xHQ1 xHQ2 xHQ3
   refine (HWI.out _ HB0.out).mono ?_
   rintro e w1 ⟨rfl,hb⟩
   have HB1:Hid (Below w.heap.size w w1):=HB0.out.trans (hb.mono HB0.out.size)
   have HX1:Hid (Bx w1 w.heap.size [.slice (some ⟨b0,o0,none⟩) nn c1, .slice a2 n2 c2]):=HX0.out.later hb
   have HP1:Hid (Bx w1 (w.heap.size+1) [.int .i64 (j:Int), .string s, .bool true, .int .i64 (z:Int)]):=HP0.out.later hb
   have HQ1:Hid (Bx w1 (w.heap.size+1+1) [.int .i64 (tj:Int), .string t, .bool gf, .int .i64 (tz:Int)]):=HQ0.out.later hb
   clear hb
   cases wb
   · have hwb: ¬ (false=true):=by decide
     have xHP0:=HP1.out 0 _ rfl
     have xHP1:=HP1.out 1 _ rfl
     have xHP2:=HP1.out 2 _ rfl
     have xHP3:=HP1.out 3 _ rfl
     have xHQ0:=HQ1.out 0 _ rfl
     have xHQ1:=HQ1.out 1 _ rfl
     have xHQ2:=HQ1.out 2 _ rfl
     have xHQ3:=HQ1.out 3 _ rfl
     go_wp2_with fail
     refine (HLA.out _).mono ?_
     rintro e v ⟨rfl,hb⟩
     have HB2:Hid (Below w.heap.size w v):=HB1.out.trans (hb.mono HB1.out.size)
     have HX2:Hid (Bx v w.heap.size [.slice (some ⟨b0,o0,none⟩) nn c1, .slice a2 n2 c2]):=HX1.out.later hb
     have HP2:Hid (Bx v (w.heap.size+1) [.int .i64 (j:Int), .string s, .bool true, .int .i64 (z:Int)]):=HP1.out.later hb
     have HQ2:Hid (Bx v (w.heap.size+1+1) [.int .i64 (tj:Int), .string t, .bool gf, .int .i64 (tz:Int)]):=HQ1.out.later hb
     clear hb
     cases la
     · cases gf
       · have q2:=HQ2.out 2 _ rfl
         have q0:=HQ2.out 0 _ rfl
         have p0:=HP2.out 0 _ rfl
         have x0:=HX2.out 0 _ rfl
         have x1:=HX2.out 1 _ rfl
         have cc0:=cell_later HB2.out HM0.out
         have cc1:=cell_later HB2.out HM1.out
         have cc2:=cell_later HB2.out HM2.out
         have cc3:=cell_later HB2.out HM3.out
         have cc4:=cell_later HB2.out HM4.out
         by_cases htj:tj=j
         · have hb1: (((tj:Nat):Int) != ((j:Nat):Int))=false:=by simp;omega
           have HE:Hid (RES=0):=by
            unfold Hid
            rw [HRF.out,if_neg (fun hh=>hwb hh.2),if_neg (fun hh=>absurd hh.1 (by decide)),if_neg (fun hh=>absurd hh.1 (by decide)),if_neg (fun hh=>absurd hh.1 (by decide)),if_neg (fun hh=>hh.2.1 htj)]
           go_wp2
           go_ret
           exact ⟨qad (by rw [HE.out]),HB2.out⟩
         · have hb1: (((tj:Nat):Int) != ((j:Nat):Int))=true:=by simp;omega
           go_wp2_with fail
           refine (qgW _ _ _ _ _ _ _ _ h6).mono ?_
           rintro e u ⟨rfl,hb⟩
           have HB3:Hid (Below w.heap.size w u):=HB2.out.trans (hb.mono HB2.out.size)
           have HX3:Hid (Bx u w.heap.size [.slice (some ⟨b0,o0,none⟩) nn c1, .slice a2 n2 c2]):=HX2.out.later hb
           have HP3:Hid (Bx u (w.heap.size+1) [.int .i64 (j:Int), .string s, .bool true, .int .i64 (z:Int)]):=HP2.out.later hb
           have HQ3:Hid (Bx u (w.heap.size+1+1) [.int .i64 (tj:Int), .string t, .bool false, .int .i64 (tz:Int)]):=HQ2.out.later hb
           clear hb
           by_cases hm:lt=6
           · have hmb:decide (lt=6)=true:=by simpa using hm
             have HE:Hid (RES=2):=by
              unfold Hid
              rw [HRF.out,if_neg (fun hh=>hwb hh.2),if_neg (fun hh=>absurd hh.1 (by decide)),if_neg (fun hh=>absurd hh.1 (by decide)),if_neg (fun hh=>absurd hh.1 (by decide)),if_pos ⟨by trivial,htj,hm⟩]
             go_wp2
             go_ret
             exact ⟨qad (by rw [HE.out]),HB3.out⟩
           · have hmb:decide (lt=6)=false:=by simpa using hm
             have HE:Hid (RES=0):=by
              unfold Hid
              rw [HRF.out,if_neg (fun hh=>hwb hh.2),if_neg (fun hh=>absurd hh.1 (by decide)),if_neg (fun hh=>absurd hh.1 (by decide)),if_neg (fun hh=>absurd hh.1 (by decide)),if_neg (fun hh=>hm hh.2.2)]
             go_wp2
             go_ret
             exact ⟨qad (by rw [HE.out]),HB3.out⟩
       · have hne: ¬tz=z:=fun e=>by have hl:=HLE.out;rw [e] at hl;simp at hl
         have q2:=HQ2.out 2 _ rfl
         have q3:=HQ2.out 3 _ rfl
         have x0:=HX2.out 0 _ rfl
         have x1:=HX2.out 1 _ rfl
         have cc0:=cell_later HB2.out HK0.out
         have cc1:=cell_later HB2.out HK1.out
         have cc2:=cell_later HB2.out HK2.out
         have cc3:=cell_later HB2.out HK3.out
         have cc4:=cell_later HB2.out HK4.out
         by_cases hkt:kt=2
         · have hktb: (kt==2)=true:=by simpa using hkt
           go_wp2_with fail
           refine (qdB _ _ _ _ _ _ _ _ _ _).mono ?_
           rintro e u ⟨rfl,hb⟩
           have q2':= (HQ2.out.later hb) 2 _ rfl
           have HB3:Hid (Below w.heap.size w u):=HB2.out.trans (hb.mono HB2.out.size)
           have HX3:Hid (Bx u w.heap.size [.slice (some ⟨b0,o0,none⟩) nn c1, .slice a2 n2 c2]):=HX2.out.later hb
           have HP3:Hid (Bx u (w.heap.size+1) [.int .i64 (j:Int), .string s, .bool true, .int .i64 (z:Int)]):=HP2.out.later hb
           have HQ3:Hid (Bx u (w.heap.size+1+1) [.int .i64 (tj:Int), .string t, .bool true, .int .i64 (tz:Int)]):=HQ2.out.later hb
           clear hb
           by_cases hm:0<le
           · have hmb:decide (0<le)=true:=by simpa using hm
             have HE:Hid (RES=8):=by
              unfold Hid
              rw [HRF.out,if_neg (fun hh=>hwb hh.2),if_neg (fun hh=>hne hh.2),if_neg (fun hh=>hh.2 ⟨fun _=>hkt,fun _=>hkd⟩),if_pos ⟨by trivial,hm⟩]
             go_wp2
             go_ret
             exact ⟨qad (by rw [HE.out]),HB3.out⟩
           · have hmb:decide (0<le)=false:=by simpa using hm
             have HE:Hid (RES=0):=by
              unfold Hid
              rw [HRF.out,if_neg (fun hh=>hwb hh.2),if_neg (fun hh=>hne hh.2),if_neg (fun hh=>hh.2 ⟨fun _=>hkt,fun _=>hkd⟩),if_neg (fun hh=>hm hh.2),if_neg (fun hh=>absurd hh.1 (by decide))]
             go_wp2
             go_ret
             exact ⟨qad (by rw [HE.out]),HB3.out⟩
         · have hktb: (kt==2)=false:=by simpa using hkt
           have HE:Hid (RES=9):=by
            unfold Hid
            rw [HRF.out,if_neg (fun hh=>hwb hh.2),if_neg (fun hh=>hne hh.2),if_pos ⟨by trivial,fun hh=>hkt (hh.1 hkd)⟩]
           go_wp2
           go_ret
           exact ⟨qad (by rw [HE.out]),HB2.out⟩
     · have hge:gf=true∧tz=z:=by
        have hl:=HLE.out
        simp only [Bool.and_eq_true,decide_eq_true_eq] at hl
        exact ⟨hl.1,by omega⟩
       have HE:Hid (RES=0):=by
        unfold Hid
        rw [HRF.out,if_neg (fun hh=>hwb hh.2),if_pos hge]
       go_wp2
       go_ret
       exact ⟨qad (by rw [HE.out]),HB2.out⟩
   · skip
     have HE:Hid (RES=1):=by
      unfold Hid
      rw [HRF.out,if_pos ⟨hkd,by trivial⟩]
     go_wp2
     go_ret
     exact ⟨qad (by rw [HE.out]),HB1.out⟩
 · have hkb: (kd==2)=false:=by simpa using hkd
   have xHX0:=HX0.out 0 _ rfl
   have xHX1:=HX0.out 1 _ rfl
   have xHP0:=HP0.out 0 _ rfl
   have xHP1:=HP0.out 1 _ rfl
   have xHP2:=HP0.out 2 _ rfl
   have xHP3:=HP0.out 3 _ rfl
   have xHQ0:=HQ0.out 0 _ rfl
   have xHQ1:=HQ0.out 1 _ rfl
   have xHQ2:=HQ0.out 2 _ rfl
   have xHQ3:=HQ0.out 3 _ rfl
   go_enter Tryz.func22,Tryz.ntmps22
   go_wp2_with fail
   generalize (((w.alloc (.cells #[.slice (some ⟨b0,o0,none⟩) nn c1, .slice a2 n2 c2] 31)).alloc (.cells #[.int .i64 (j:Int), .string s, .bool true, .int .i64 (z:Int)] 49)).alloc (.cells #[.int .i64 (tj:Int), .string t, .bool gf, .int .i64 (tz:Int)] 49))=W0 at*
   refine (HLA.out _).mono ?_
   rintro e v ⟨rfl,hb⟩
   have HB1:Hid (Below w.heap.size w v):=HB0.out.trans (hb.mono HB0.out.size)
   have HX1:Hid (Bx v w.heap.size [.slice (some ⟨b0,o0,none⟩) nn c1, .slice a2 n2 c2]):=HX0.out.later hb
   have HP1:Hid (Bx v (w.heap.size+1) [.int .i64 (j:Int), .string s, .bool true, .int .i64 (z:Int)]):=HP0.out.later hb
   have HQ1:Hid (Bx v (w.heap.size+1+1) [.int .i64 (tj:Int), .string t, .bool gf, .int .i64 (tz:Int)]):=HQ0.out.later hb
   clear hb
   cases la
   · cases gf
     · have q2:=HQ1.out 2 _ rfl
       have q0:=HQ1.out 0 _ rfl
       have p0:=HP1.out 0 _ rfl
       have x0:=HX1.out 0 _ rfl
       have x1:=HX1.out 1 _ rfl
       have cc0:=cell_later HB1.out HM0.out
       have cc1:=cell_later HB1.out HM1.out
       have cc2:=cell_later HB1.out HM2.out
       have cc3:=cell_later HB1.out HM3.out
       have cc4:=cell_later HB1.out HM4.out
       by_cases htj:tj=j
       · have hb1: (((tj:Nat):Int) != ((j:Nat):Int))=false:=by simp;omega
         have HE:Hid (RES=0):=by
          unfold Hid
          rw [HRF.out,if_neg (fun hh=>hkd hh.1),if_neg (fun hh=>absurd hh.1 (by decide)),if_neg (fun hh=>absurd hh.1 (by decide)),if_neg (fun hh=>absurd hh.1 (by decide)),if_neg (fun hh=>hh.2.1 htj)]
         go_wp2
         go_ret
         exact ⟨qad (by rw [HE.out]),HB1.out⟩
       · have hb1: (((tj:Nat):Int) != ((j:Nat):Int))=true:=by simp;omega
         go_wp2_with fail
         refine (qgW _ _ _ _ _ _ _ _ h6).mono ?_
         rintro e u ⟨rfl,hb⟩
         have HB2:Hid (Below w.heap.size w u):=HB1.out.trans (hb.mono HB1.out.size)
         have HX2:Hid (Bx u w.heap.size [.slice (some ⟨b0,o0,none⟩) nn c1, .slice a2 n2 c2]):=HX1.out.later hb
         have HP2:Hid (Bx u (w.heap.size+1) [.int .i64 (j:Int), .string s, .bool true, .int .i64 (z:Int)]):=HP1.out.later hb
         have HQ2:Hid (Bx u (w.heap.size+1+1) [.int .i64 (tj:Int), .string t, .bool false, .int .i64 (tz:Int)]):=HQ1.out.later hb
         clear hb
         by_cases hm:lt=6
         · have hmb:decide (lt=6)=true:=by simpa using hm
           have HE:Hid (RES=2):=by
            unfold Hid
            rw [HRF.out,if_neg (fun hh=>hkd hh.1),if_neg (fun hh=>absurd hh.1 (by decide)),if_neg (fun hh=>absurd hh.1 (by decide)),if_neg (fun hh=>absurd hh.1 (by decide)),if_pos ⟨by trivial,htj,hm⟩]
           go_wp2
           go_ret
           exact ⟨qad (by rw [HE.out]),HB2.out⟩
         · have hmb:decide (lt=6)=false:=by simpa using hm
           have HE:Hid (RES=0):=by
            unfold Hid
            rw [HRF.out,if_neg (fun hh=>hkd hh.1),if_neg (fun hh=>absurd hh.1 (by decide)),if_neg (fun hh=>absurd hh.1 (by decide)),if_neg (fun hh=>absurd hh.1 (by decide)),if_neg (fun hh=>hm hh.2.2)]
           go_wp2
           go_ret
           exact ⟨qad (by rw [HE.out]),HB2.out⟩
     · have hne: ¬tz=z:=fun e=>by have hl:=HLE.out;rw [e] at hl;simp at hl
       have q2:=HQ1.out 2 _ rfl
       have q3:=HQ1.out 3 _ rfl
       have x0:=HX1.out 0 _ rfl
       have x1:=HX1.out 1 _ rfl
       have cc0:=cell_later HB1.out HK0.out
       have cc1:=cell_later HB1.out HK1.out
       have cc2:=cell_later HB1.out HK2.out
       have cc3:=cell_later HB1.out HK3.out
       have cc4:=cell_later HB1.out HK4.out
       by_cases hkt:kt=2
       · have hktb: (kt==2)=true:=by simpa using hkt
         have HE:Hid (RES=9):=by
          unfold Hid
          rw [HRF.out,if_neg (fun hh=>hkd hh.1),if_neg (fun hh=>hne hh.2),if_pos ⟨by trivial,fun hh=>hkd (hh.2 hkt)⟩]
         go_wp2
         go_ret
         exact ⟨qad (by rw [HE.out]),HB1.out⟩
       · have hktb: (kt==2)=false:=by simpa using hkt
         go_wp2_with fail
         refine (qdB _ _ _ _ _ _ _ _ _ _).mono ?_
         rintro e u ⟨rfl,hb⟩
         have q2':= (HQ1.out.later hb) 2 _ rfl
         have HB2:Hid (Below w.heap.size w u):=HB1.out.trans (hb.mono HB1.out.size)
         have HX2:Hid (Bx u w.heap.size [.slice (some ⟨b0,o0,none⟩) nn c1, .slice a2 n2 c2]):=HX1.out.later hb
         have HP2:Hid (Bx u (w.heap.size+1) [.int .i64 (j:Int), .string s, .bool true, .int .i64 (z:Int)]):=HP1.out.later hb
         have HQ2:Hid (Bx u (w.heap.size+1+1) [.int .i64 (tj:Int), .string t, .bool true, .int .i64 (tz:Int)]):=HQ1.out.later hb
         clear hb
         by_cases hm:0<le
         · have hmb:decide (0<le)=true:=by simpa using hm
           have HE:Hid (RES=8):=by
            unfold Hid
            rw [HRF.out,if_neg (fun hh=>hkd hh.1),if_neg (fun hh=>hne hh.2),if_neg (fun hh=>hh.2 ⟨fun e=>absurd e hkd,fun e=>absurd e hkt⟩),if_pos ⟨by trivial,hm⟩]
           go_wp2
           go_ret
           exact ⟨qad (by rw [HE.out]),HB2.out⟩
         · have hmb:decide (0<le)=false:=by simpa using hm
           have HE:Hid (RES=0):=by
            unfold Hid
            rw [HRF.out,if_neg (fun hh=>hkd hh.1),if_neg (fun hh=>hne hh.2),if_neg (fun hh=>hh.2 ⟨fun e=>absurd e hkd,fun e=>absurd e hkt⟩),if_neg (fun hh=>hm hh.2),if_neg (fun hh=>absurd hh.1 (by decide))]
           go_wp2
           go_ret
           exact ⟨qad (by rw [HE.out]),HB2.out⟩
   · have hge:gf=true∧tz=z:=by
      have hl:=HLE.out
      simp only [Bool.and_eq_true,decide_eq_true_eq] at hl
      exact ⟨hl.1,by omega⟩
     have HE:Hid (RES=0):=by
      unfold Hid
      rw [HRF.out,if_neg (fun hh=>hkd hh.1),if_pos hge]
     go_wp2
     go_ret
     exact ⟨qad (by rw [HE.out]),HB1.out⟩
end Go.Proofs.YthnmlipnoajmkaaGreatDoor
