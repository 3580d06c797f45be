/- The walks of the laws' functions over bytes and lists of bytes. The walks of the marking and holding functions over slices. Bytes and lists of bytes are marked,and the qbO are held. NameFault,the specification's and the program's:what both come to. Texts as lists of bytes:cut at each slash. No program is named here but for slicing. The library's IndexByte,laid from the shelf. The iterator that tells the names of a path:its contract. Ranges over the names of a path:howMany. -/
import Derived.Test.YthnmlipnoajmkaaGreatDoorM00
import Derived.Test.YthnmlipnoajmkaaGreatDoorRows
import Derived.Lib.Bytealg
import Derived.Shelf.Small.Strs
import Derived.Shelf.Strings.Search1
import Derived.RangeFuncNested
import Derived.RangeFuncBound
import Derived.RangeFuncCalls
import Derived.RangeFuncLeaves
import Derived.RangeFuncFrom
import Derived.Shelf.Abstract
import Derived.Shelf.RegionOpen
import Derived.WalkKit
import Derived.OwnWalkIn
import Derived.TacticsInMore
import Derived.LoopNIn
import Derived.LoopIn
namespace Go.Proofs.YthnmlipnoajmkaaGreatDoor
open Go.RowKit
set_option maxRecDepth 100000

theorem Tryz.infoU8: (Tryz.prog.info? 5).map (fun i=> (i.zero,i.size,i.bytes))=some (some (.int .u8 0),1,1):=by kernel_rfl
theorem Tryz.infoU8s: (Tryz.prog.info? 27).map (fun i=> (i.zero,i.size,i.bytes))=some (some (.slice none 0 0),1,24):=by kernel_rfl

set_option maxHeartbeats 400000 in
theorem qk6 (w:World) (a:Option Addr) (n cap:Nat) (left:Int) (h0:0≤left) (h1:left≤1048576) (hn:n≤maxLen):
 Calls Tryz.prog 37 #[.slice a n cap, .int .i64 left] w fun e w'=>e= .returned (.int .i64 (szf left n))∧w'=w:=by
 unfold maxLen at hn
 by_cases h:left< (n:Int)
 · rw [qbQ h]
   have h':left- (n:Int)<0:=by omega
   go_enter Tryz.func37,Tryz.ntmps37
   go_wp2
   go_ret
   exact ⟨rfl,rfl⟩
 · rw [qbY h]
   have h': ¬left- (n:Int)<0:=by omega
   go_enter Tryz.func37,Tryz.ntmps37
   go_wp2
   go_ret
   exact ⟨rfl,rfl⟩
theorem qoV {w:World} {v:Value} {zs:List UInt8} (h:Byt w v zs) (left:Int) (h0:0≤left) (h1:left≤1048576):
 Calls Tryz.prog 37 #[v, .int .i64 left] w fun e w'=>e= .returned (.int .i64 (szf left zs.length))∧w'=w:=by
 obtain ⟨a,cap,rfl,hn,_⟩:=h
 exact qk6 w a _ cap left h0 h1 hn.1

set_option maxHeartbeats 400000 in
theorem qji (w:World) (a:Option Addr) (n cap:Nat) (left:Int) (h0:0≤left) (h1:left≤1048576) (hn:n≤maxLen) (h:left< (n:Int)):
 Calls Tryz.prog 14 #[.slice a n cap, .int .i64 left] w fun e w'=>e= .returned (.int .i64 (-1))∧w'=w:=by
 unfold maxLen at hn
 have h':left- (n:Int)<0:=by omega
 go_enter Tryz.func14,Tryz.ntmps14
 go_wp2
 go_ret
 exact ⟨rfl,rfl⟩
set_option maxHeartbeats 800000 in
theorem qjj (w:World) (a:Option Addr) (cap n:Nat) (left:Int) (zss:List (List UInt8)) (hzn:zss.length=n) (h0:0≤left) (h1:left≤1048576) (h2: ¬left< (n:Int)) (hc:qgi w a n zss):
 Calls Tryz.prog 14 #[.slice a n cap, .int .i64 left] w fun e w'=>e= .returned (.int .i64 (szf left (n+ (qax zss).sum)))∧w'=w:=by
 have HN:Hid (zss.length=n):=hzn
 have HC:Hid (qgi w a n zss):=hc
 have h2': ¬left- (n:Int)<0:=by omega
 clear hzn hc
 go_enter Tryz.func14,Tryz.ntmps14
 go_wp2
 go_loop [1,5] (fun q i=> ∃j:Nat,j≤n∧i= .int .i64 j∧q= .int .i64 (left- (n:Int)- (upto (qax zss) j:Nat))∧0≤left- (n:Int)- (upto (qax zss) j:Nat)) (fun _ i=>n- (intOf i).toNat)
 case atStart=>exact ⟨0,Nat.zero_le _,rfl,by simp [qa4],by simp [qa4];omega⟩
 case round=>
  obtain ⟨j,hj,rfl,rfl,hq⟩:=hrel
  by_cases hlt:j<n
  · obtain ⟨b,off,ua,uc,rfl,c1,i1⟩:=HC.out j hlt
    clear HC
    have hs:=qaU (qax zss) j (by rw [qba,HN.out];exact hlt)
    rw [qea] at hs
    have hle:=qbJ (qax zss) (j+1)
    have HS:Hid (upto (qax zss) (j+1)=upto (qax zss) j+ (zss[j]?.getD []).length):=hs
    clear hs
    generalize upto (qax zss) j=U at*
    have HI:Hid (Byt w (.slice ua (zss[j]?.getD []).length uc) (zss[j]?.getD [])):=i1
    clear i1
    by_cases hm:left- (n:Int)- (U:Int)< ((zss[j]?.getD []).length:Int)
    · have HM:Hid (szf left (n+ (qax zss).sum)= -1):=qbQ (by have:=HS.out;omega)
      have HR':Hid (szf (left- (n:Int)- (U:Int)) (zss[j]?.getD []).length= -1):=qbQ hm
      go_wp2_with fail
      refine (qoV HI.out _ hq (by omega)).mono ?_
      rw [HR'.out]
      rintro e w' ⟨rfl,rfl⟩
      go_wp2
      go_ret
      exact ⟨qad HM.out.symm,rfl⟩
    · have HR':Hid (szf (left- (n:Int)- (U:Int)) (zss[j]?.getD []).length=left- (n:Int)- (U:Int)- ((zss[j]?.getD []).length:Int)):=qbY hm
      have hpos: ¬ (left- (n:Int)- (U:Int)- ((zss[j]?.getD []).length:Int)<0):=by omega
      go_wp2_with fail
      refine (qoV HI.out _ hq (by omega)).mono ?_
      rw [HR'.out]
      rintro e w' ⟨rfl,rfl⟩
      go_wp2
      go_round
      case rel=>exact ⟨j+1,by omega,by go_num,by rw [HS.out];go_num,by rw [HS.out];omega⟩
      case measure=>simp [intOf];omega
  · go_wp2
    go_ret
    have e:j=n:=by omega
    subst e
    have ha:=qcT (qax zss)
    rw [qba,HN.out] at ha
    refine ⟨qad ?_,rfl⟩
    rw [ha] at hq ⊢
    rw [qbY (by omega)]
    omega
theorem ql8 (w:World) (a:Option Addr) (n c:Nat) (d:List (List UInt8)) (h:qfn w (.slice a n c) d) (left:Int) (l0:0≤left) (l1:left≤1048576):
 Calls Tryz.prog 14 #[.slice a n c, .int .i64 left] w fun e w'=>e= .returned (.int .i64 (szf left (qb2 d)))∧Below w.heap.size w w':=by
 obtain ⟨a',cap,e,hm,hc⟩:=h.open'
 simp only [Value.slice.injEq] at e
 obtain ⟨rfl,rfl,rfl⟩:=e
 by_cases h:left< (d.length:Int)
 · refine (qji w _ d.length _ left l0 l1 hm.1 h).mono fun e w' ⟨he,hw⟩=> ⟨he.trans (qad ?_),hw▸Below.refl _ _⟩
   rw [qbQ (by unfold qb2;omega)]
 · exact (qjj w _ _ d.length left d rfl l0 l1 h hc).mono fun e w' ⟨he,hw⟩=> ⟨he,hw▸Below.refl _ _⟩

set_option maxHeartbeats 400000 in
theorem qk7 (w:World) (a:Option Addr) (cap n:Nat) (zs:List UInt8) (hn:n≤1048576) (hc:AtY w a n zs):
 Calls Tryz.prog 51 #[.slice a n cap] w fun e w'=>e= .returned (.slice (some ⟨w.heap.size,0,none⟩) n n)∧Below w.heap.size w w'∧qaa w' w.heap.size n (fun i=> .int .u8 (((zs[i]?.getD 0).toNat:Nat):Int)):=by
 have hmk:=fun w=>run_make_row' (P:=Tryz.prog) 27 5 (.int .u8 0) 1 Tryz.underlying27 Tryz.infoU8 rfl .i64 .i64 n (by omega) (by omega) w
 have HC:Hid (AtY w a n zs):=hc
 clear hc
 go_enter Tryz.func51,Tryz.ntmps51
 go_wp2
 clear hmk
 go_loopw [4] (fun i wr=> ∃j:Nat,j≤n∧i= .int .i64 j∧Below w.heap.size w wr∧qaa wr w.heap.size n (fun i=>if i<j then .int .u8 (((zs[i]?.getD 0).toNat:Nat):Int) else .int .u8 0)) (fun i _=>n- (intOf i).toNat)
 case atStart=>exact ⟨0,Nat.zero_le _,rfl,qab _ _,(qaa.made w (.int .u8 0) n 5).congr fun i _=>by simp⟩
 case round=>
  obtain ⟨j,hj,rfl,hbl,hrow⟩:=hrel
  by_cases hlt:j<n
  · obtain ⟨b,off,rfl,c0⟩:=HC.out j hlt
    have c1:=cell_later hbl c0
    have d1:=hrow.cell hlt
    have d2:=hrow.frozen j
    simp only [Nat.lt_irrefl,if_false] at d1
    have HBL:Hid (Below w.heap.size w wr):=hbl
    have HROW:Hid (qaa wr w.heap.size n (fun i=>if i<j then .int .u8 (((zs[i]?.getD 0).toNat:Nat):Int) else .int .u8 0)):=hrow
    clear hbl hrow c0 HC
    go_wp2
    go_roundw
    case rel=>
     refine ⟨j+1,by omega,by go_num,HBL.out.setCell (Nat.le_refl _) _,(HROW.out.set j _).congr fun i hi=> ?_⟩
     by_cases e:i=j
     · subst e;simp
     · by_cases e2:i<j
       · simp [e,e2,show i<j+1 by omega]
       · simp [e,e2,show ¬i<j+1 by omega]
    case measure=>simp [intOf];omega
  · go_wp2
    go_ret
    have e:j=n:=by omega
    subst e
    exact ⟨rfl,hbl,hrow.congr fun i hi=>by simp [hi]⟩
theorem qqR {w:World} {v:Value} {zs:List UInt8} (h:Byt w v zs) (hn:zs.length≤1048576):
 Calls Tryz.prog 51 #[v] w fun e w'=> ∃a n c,e= .returned (.slice a n c)∧Below w.heap.size w w'∧qbt w' (.slice a n c) zs (qaj w w'):=by
 obtain ⟨a,cap,rfl,hm,hc⟩:=h
 refine (qk7 w a cap zs.length zs hn hc).mono fun e w' ⟨he,hb,hr⟩=> ⟨_,_,_,he,hb,Or.inr ⟨w.heap.size,_,⟨Nat.le_refl _,hr.lt⟩,rfl,⟨hm.1,Nat.le_refl _⟩,hr⟩⟩

set_option maxHeartbeats 800000 in
theorem qjk (w:World) (a:Option Addr) (cap n:Nat) (zss:List (List UInt8)) (hn:n≤1048576) (hz: ∀k:Nat,(zss[k]?.getD []).length≤1048576) (hc:qgi w a n zss):
 Calls Tryz.prog 18 #[.slice a n cap] w fun e w'=>e= .returned (.slice (some ⟨w.heap.size,0,none⟩) n n)∧Below w.heap.size w w'∧
  ∃u s,qaa w' w.heap.size n u∧BuiltY w' (w.heap.size+1) n u (fun i=>zss[i]?.getD []) s:=by
 have hmk:=fun w=>run_make_row' (P:=Tryz.prog) 23 27 (.slice none 0 0) 24 Tryz.underlying23 Tryz.infoU8s rfl .i64 .i64 n (by omega) (by omega) w
 have HZ:Hid (∀k:Nat,(zss[k]?.getD []).length≤1048576):=hz
 have HC:Hid (qgi w a n zss):=hc
 clear hz hc
 go_enter Tryz.func18,Tryz.ntmps18
 go_wp2
 clear hmk
 go_loopw [4] (fun i wr=> ∃j:Nat,j≤n∧i= .int .i64 j∧Below w.heap.size w wr∧ ∃u s,qaa wr w.heap.size n (fun i=>if i<j then u i else .slice none 0 0)∧BuiltY wr (w.heap.size+1) j u (fun i=>zss[i]?.getD []) s) (fun i _=>n- (intOf i).toNat)
 case atStart=>exact ⟨0,Nat.zero_le _,rfl,qab _ _,fun _=> .slice none 0 0,_,(qaa.made w (.slice none 0 0) n 27).congr fun i _=>by simp,BuiltY.nil _ _ (by simp)⟩
 case round=>
  obtain ⟨j,hj,rfl,hbl,u,s,hrow,hbt⟩:=hrel
  by_cases hlt:j<n
  · obtain ⟨b,off,ua,uc,rfl,c0,i0⟩:=HC.out j hlt
    have c1:=cell_later hbl c0
    have HI:Hid (Byt wr (.slice ua (zss[j]?.getD []).length uc) (zss[j]?.getD [])):=i0.later hbl
    have HBL:Hid (Below w.heap.size w wr):=hbl
    have HROW:Hid (qaa wr w.heap.size n (fun i=>if i<j then u i else .slice none 0 0)):=hrow
    have HBT:Hid (BuiltY wr (w.heap.size+1) j u (fun i=>zss[i]?.getD []) s):=hbt
    clear c0 i0 hbl hrow hbt HC
    go_wp2_with fail
    refine (qqR HI.out (HZ.out j)).mono ?_
    rintro e w1 ⟨na,nn,nc,rfl,hb1,ho1⟩
    have HB1:Hid (Below wr.heap.size wr w1):=hb1
    have HO1:Hid (qbt w1 (.slice na nn nc) (zss[j]?.getD []) (qaj wr w1)):=ho1
    have HROW1:Hid (qaa w1 w.heap.size n (fun i=>if i<j then u i else .slice none 0 0)):=HROW.out.block (hb1.block _ HROW.out.lt)
    have d1:=HROW1.out.cell hlt
    have d2:=HROW1.out.frozen j
    simp only [Nat.lt_irrefl,if_false] at d1
    clear hb1 ho1
    go_wp2
    go_roundw
    case rel=>
     refine ⟨j+1,by omega,by go_num,(HBL.out.trans (HB1.out.mono HBL.out.size)).setCell (Nat.le_refl _) _,_,_,(HROW1.out.set j _).congr fun i hi=> ?_,(HBT.out.next HB1.out HO1.out).store (by simp) _⟩
     by_cases e:i=j
     · subst e;simp
     · by_cases e2:i<j
       · simp [e,e2,show i<j+1 by omega]
       · simp [e,e2,show ¬i<j+1 by omega]
    case measure=>simp [intOf];omega
  · go_wp2
    go_ret
    have e:j=n:=by omega
    subst e
    exact ⟨rfl,hbl,u,s,hrow.congr fun i hi=>by simp [hi],hbt⟩
theorem qph {w:World} {v:Value} {zss:List (List UInt8)} (h:qfn w v zss) (hn:qb2 zss≤1048576):
 Calls Tryz.prog 18 #[v] w fun e w'=> ∃a n c,e= .returned (.slice a n c)∧Below w.heap.size w w'∧qaR w' (.slice a n c) zss (qaj w w'):=by
 obtain ⟨a,cap,rfl,hm,hc⟩:=h.open'
 unfold qb2 at hn
 refine (qjk w a cap zss.length zss (by omega) (fun k=>by have:=qg4 zss k;omega) hc).mono fun e w' ⟨he,hb,u,s,hr,hbt⟩=> ⟨_,_,_,he,hb, ?_⟩
 exact BuiltY.byts zss hbt rfl ⟨hm.1,Nat.le_refl _⟩ (Nat.lt_succ_self _) hr _ ⟨Nat.le_refl _,hr.lt⟩ (fun c h1 h2=> ⟨by omega,h2⟩)

set_option maxHeartbeats 800000 in
theorem qk8 (w:World) (a a':Option Addr) (cap cap' n:Nat) (zs:List UInt8) (hn:n≤maxLen) (hc:AtY w a n zs) (hc':AtY w a' n zs):
 Calls Tryz.prog 25 #[.slice a n cap, .slice a' n cap'] w fun e w'=>e= .returned (.bool true)∧ ∃m,w'=w.drewN m:=by
 unfold maxLen at hn
 have HC:Hid (AtY w a n zs):=hc
 have HC':Hid (AtY w a' n zs):=hc'
 clear hc hc'
 go_enter Tryz.func25,Tryz.ntmps25
 go_wp2
 go_loopw [5] (fun i wr=> ∃j m:Nat,j≤n∧i= .int .i64 j∧wr=w.drewN m) (fun i _=>n- (intOf i).toNat)
 case atStart=>exact ⟨0,0,Nat.zero_le _,rfl,rfl⟩
 case round=>
  obtain ⟨j,m,hj,rfl,rfl⟩:=hrel
  by_cases hlt:j<n
  · obtain ⟨b,o,rfl,d0⟩:=HC.out j hlt
    obtain ⟨b',o',rfl,d1⟩:=HC'.out j hlt
    have hz: ((((zs[j]?.getD 0).toNat:Nat):Int) != (((zs[j]?.getD 0).toNat:Nat):Int))=false:=by simp
    generalize ((((zs[j]?.getD 0).toNat:Nat):Int))=z at*
    clear HC HC'
    go_wp2_with fail
    go_quiet (fail)
    go_wp2
    go_roundw
    case rel=>exact ⟨j+1,_,by omega,by go_num,rfl⟩
    case measure=>simp [intOf];omega
  · go_wp2
    go_ret
    exact ⟨rfl,m,rfl⟩
theorem qoW {w:World} {v v':Value} {zs:List UInt8} (h:Byt w v zs) (h':Byt w v' zs):Calls Tryz.prog 25 #[v,v'] w fun e w'=>e= .returned (.bool true)∧ ∃m,w'=w.drewN m:=by
 obtain ⟨a,cap,rfl,hm,hc⟩:=h
 obtain ⟨a',cap',rfl,_,hc'⟩:=h'
 exact qk8 w a a' cap cap' _ zs hm.1 hc hc'
end Go.Proofs.YthnmlipnoajmkaaGreatDoor

namespace Go.Proofs.YthnmlipnoajmkaaGreatDoor
open Go.RowKit
set_option maxRecDepth 100000

set_option maxHeartbeats 400000 in
theorem qhY (w:World) (a:Option Addr) (cap:Nat) (k:Int):
 Calls Tryz.prog 66 #[.slice a 0 cap, .int .i64 k] w fun e w'=>e= .returned (.int .i64 k)∧w'=w:=by
 go_enter Tryz.func66,Tryz.ntmps66
 go_wp2
 go_loop [1,5] (fun q i=>i= .int .i64 0∧q= .int .i64 k) (fun _ _=>0)
 case atStart=>exact ⟨rfl,rfl⟩
 case round=>
  obtain ⟨rfl,rfl⟩:=hrel
  go_wp2
  go_ret
  exact ⟨rfl,rfl⟩

set_option maxHeartbeats 400000 in
theorem qg6 (w:World) (b cap n:Nat) (k:Int) (F:Nat→Prop) (f:Nat→Value) (hF:F b) (hk0:0≤k) (hk:k+ (n:Int)≤4611686018427387904) (hr:qaa w b n f):
 Calls Tryz.prog 66 #[.slice (some ⟨b,0,none⟩) n cap, .int .i64 k] w fun e w'=>e= .returned (.int .i64 (k+ (n:Int)))∧qaa w' b n (fun i=> .int .i64 (k+ (i:Int)))∧Chg F w w':=by
 have HR:Hid (qaa w b n f):=hr
 have HF:Hid (F b):=hF
 clear hr hF
 go_enter Tryz.func66,Tryz.ntmps66
 go_wp2
 go_loopw [1,5] (fun q i wr=> ∃j:Nat,j≤n∧i= .int .i64 j∧q= .int .i64 (k+ (j:Int))∧qaa wr b n (fun i=>if i<j then .int .i64 (k+ (i:Int)) else f i)∧Chg F w wr) (fun _ i _=>n- (intOf i).toNat)
 case atStart=>exact ⟨0,Nat.zero_le _,rfl,by simp,HR.out.congr fun i _=>by simp,Chg.refl _ _⟩
 case round=>
  obtain ⟨j,hj,rfl,rfl,hrow,hch⟩:=hrel
  by_cases hlt:j<n
  · have c1:=hrow.cell hlt
    have c2:=hrow.frozen j
    have HROW:Hid (qaa wr b n (fun i=>if i<j then .int .i64 (k+ (i:Int)) else f i)):=hrow
    have HCH:Hid (Chg F w wr):=hch
    clear hrow hch
    simp only [Nat.lt_irrefl,if_false] at c1
    go_wp2
    go_roundw
    case rel=>
     refine ⟨j+1,by omega,by go_num,by go_num,(HROW.out.set j _).congr fun i hi=> ?_,HCH.out.set HF.out _ _⟩
     by_cases e:i=j
     · subst e;simp
     · by_cases e2:i<j
       · simp [e,e2,show i<j+1 by omega]
       · simp [e,e2,show ¬i<j+1 by omega]
    case measure=>simp [intOf];omega
  · go_wp2
    go_ret
    have e:j=n:=by omega
    subst e
    exact ⟨rfl,hrow.congr fun i hi=>by simp [hi],hch⟩

theorem qdm {w:World} {v:Value} {zs:List Int} {F:Nat→Prop} (k:Int) (h:qak w v zs F) (hk0:0≤k) (hk:k+ (zs.length:Int)≤4611686018427387904):
 Calls Tryz.prog 66 #[v, .int .i64 k] w fun e w'=>e= .returned (.int .i64 (k+ (zs.length:Int)))∧qak w' v (qbO k zs.length) F∧Chg F w w':=by
 rcases h with ⟨rfl,a,cap,rfl⟩| ⟨b,cap,hF,rfl,hl,hr⟩
 · exact (qhY w a cap k).mono fun e w' ⟨he,hw⟩=> ⟨by rw [he];simp,Or.inl ⟨by simp [qbO],a,cap,rfl⟩,hw▸Chg.refl _ _⟩
 · refine (qg6 w b cap zs.length k F _ hF hk0 hk hr).mono fun e w' ⟨he,hrow,hch⟩=> ⟨he,Or.inr ⟨b,cap,hF,by rw [qbP],by rw [qbP];exact hl, ?_⟩,hch⟩
   rw [qbP]
   exact hrow.congr fun i hi=>by rw [qhW k hi]

set_option maxHeartbeats 400000 in
theorem qhZ (w:World) (a:Option Addr) (cap:Nat) (k:Int):
 Calls Tryz.prog 107 #[.slice a 0 cap, .int .i64 k] w fun e w'=>e= .returned (.int .i64 k)∧w'=w:=by
 go_enter Tryz.func107,Tryz.ntmps107
 go_wp2
 go_loop [1,5] (fun q i=>i= .int .i64 0∧q= .int .i64 k) (fun _ _=>0)
 case atStart=>exact ⟨rfl,rfl⟩
 case round=>
  obtain ⟨rfl,rfl⟩:=hrel
  go_wp2
  go_ret
  exact ⟨rfl,rfl⟩

set_option maxHeartbeats 400000 in
theorem qg7 (w:World) (b off cap n:Nat) (k:Int) (hk0:0≤k) (hk:k+ (n:Int)≤4611686018427387904) (hc: ∀i:Nat,i<n→w.cell? ⟨b,off+i,none⟩=some (.int .i64 (k+ (i:Int)))):
 Calls Tryz.prog 107 #[.slice (some ⟨b,off,none⟩) n cap, .int .i64 k] w fun e w'=>e= .returned (.int .i64 (k+ (n:Int)))∧w'=w:=by
 go_enter Tryz.func107,Tryz.ntmps107
 go_wp2
 go_loop [1,5] (fun q i=> ∃j:Nat,j≤n∧i= .int .i64 j∧q= .int .i64 (k+ (j:Int))) (fun _ i=>n- (intOf i).toNat)
 case atStart=>exact ⟨0,Nat.zero_le _,rfl,by simp⟩
 case round=>
  obtain ⟨j,hj,rfl,rfl⟩:=hrel
  by_cases hlt:j<n
  · have c1:=hc j hlt
    have hne: ((k+ (j:Int)) != (k+ (j:Int)))=false:=by simp
    clear hc
    go_wp2
    go_round
    case rel=>exact ⟨j+1,by omega,by go_num,by go_num⟩
    case measure=>simp [intOf];omega
  · go_wp2
    go_ret
    have e:j=n:=by omega
    subst e
    exact ⟨rfl,rfl⟩

theorem qh0 {w:World} {v:Value} (k:Int) (n:Nat) (h:qb1 w v (qbO k n)) (hk0:0≤k) (hk:k+ (n:Int)≤4611686018427387904):
 Calls Tryz.prog 107 #[v, .int .i64 k] w fun e w'=>e= .returned (.int .i64 (k+ (n:Int)))∧w'=w:=by
 rcases h with ⟨h0,a,cap,rfl⟩| ⟨b,off,cap,hv,hl,hr⟩
 · have:n=0:=by have:=qbP k n;rw [h0] at this;simpa using this.symm
   subst this
   exact (qhZ w a cap k).mono fun e w' ⟨he,hw⟩=> ⟨by rw [he];simp,hw⟩
 · rw [qbP] at hv hr
   subst hv
   exact qg7 w b off cap n k hk0 hk fun i hi=>by rw [hr i hi,qhW k hi]

def qti (k:Int) (zss:List (List Int)) (j i:Nat):List Int:=if i<j then qbO (k+ (upto (zss.map List.length) i:Nat)) (zss[i]?.getD []).length else zss[i]?.getD []

end Go.Proofs.YthnmlipnoajmkaaGreatDoor

namespace Go.Proofs.YthnmlipnoajmkaaGreatDoor
open Go.RowKit
set_option maxRecDepth 100000

def qgv (k n:Nat):List UInt8:= (List.range n).map fun i=>UInt8.ofNat (k+i)
theorem qg8 (k n:Nat): (qgv k n).length=n:=by simp [qgv]
theorem qgw (k:Nat) {n i:Nat} (h:i<n): (qgv k n)[i]?.getD 0=UInt8.ofNat (k+i):=by
 unfold qgv;rw [List.getElem?_map,List.getElem?_range h];rfl
theorem qks (k:Nat): (((UInt8.ofNat k).toNat:Nat):Int)= (k:Int) % 256:=by
 rw [UInt8.toNat_ofNat'];omega

set_option maxHeartbeats 400000 in
theorem qjl (w:World) (a:Option Addr) (cap:Nat) (k:Int):
 Calls Tryz.prog 31 #[.slice a 0 cap, .int .i64 k] w fun e w'=>e= .returned (.int .i64 k)∧w'=w:=by
 go_enter Tryz.func31,Tryz.ntmps31
 go_wp2
 go_loop [1,5] (fun q i=>i= .int .i64 0∧q= .int .i64 k) (fun _ _=>0)
 case atStart=>exact ⟨rfl,rfl⟩
 case round=>
  obtain ⟨rfl,rfl⟩:=hrel
  go_wp2
  go_ret
  exact ⟨rfl,rfl⟩

set_option maxHeartbeats 800000 in
theorem qh1 (w:World) (b cap n k:Nat) (F:Nat→Prop) (f:Nat→Value) (hF:F b) (hk:k+n≤4611686018427387904) (hr:qaa w b n f):
 Calls Tryz.prog 31 #[.slice (some ⟨b,0,none⟩) n cap, .int .i64 (k:Int)] w fun e w'=>e= .returned (.int .i64 ((k+n:Nat):Int))∧qaa w' b n (fun i=> .int .u8 (((k:Int)+ (i:Int)) % 256))∧Chg F w w':=by
 have HR:Hid (qaa w b n f):=hr
 have HF:Hid (F b):=hF
 clear hr hF
 go_enter Tryz.func31,Tryz.ntmps31
 go_wp2
 go_loopw [1,5] (fun q i wr=> ∃j:Nat,j≤n∧i= .int .i64 j∧q= .int .i64 ((k:Int)+ (j:Int))∧qaa wr b n (fun i=>if i<j then .int .u8 (((k:Int)+ (i:Int)) % 256) else f i)∧Chg F w wr) (fun _ i _=>n- (intOf i).toNat)
 case atStart=>exact ⟨0,Nat.zero_le _,rfl,by simp,HR.out.congr fun i _=>by simp,Chg.refl _ _⟩
 case round=>
  obtain ⟨j,hj,rfl,rfl,hrow,hch⟩:=hrel
  by_cases hlt:j<n
  · have c1:=hrow.cell hlt
    have c2:=hrow.frozen j
    have HROW:Hid (qaa wr b n (fun i=>if i<j then .int .u8 (((k:Int)+ (i:Int)) % 256) else f i)):=hrow
    have HCH:Hid (Chg F w wr):=hch
    clear hrow hch
    simp only [Nat.lt_irrefl,if_false] at c1
    have hwr:IntKind.u8.wrap ((k:Int)+ (j:Int))= ((k:Int)+ (j:Int)) % 256:=by
     unfold IntKind.wrap
     simp [IntKind.signed,IntKind.bits]
    generalize hX: ((k:Int)+ (j:Int)) % 256=X at*
    have HX:Hid (((k:Int)+ (j:Int)) % 256=X):=hX
    clear hX
    go_wp2
    go_roundw
    case rel=>
     refine ⟨j+1,by omega,by go_num,by go_num,(HROW.out.set j _).congr fun i hi=> ?_,HCH.out.set HF.out _ _⟩
     by_cases e:i=j
     · subst e;simp [HX.out]
     · by_cases e2:i<j
       · simp [e,e2,show i<j+1 by omega]
       · simp [e,e2,show ¬i<j+1 by omega]
    case measure=>simp [intOf];omega
  · go_wp2
    go_ret
    have e:j=n:=by omega
    subst e
    exact ⟨by first|rfl| (congr 2;omega),hrow.congr fun i hi=>by simp [hi],hch⟩
def qcC (k:Int) (zs:List UInt8):List UInt8:=qgv k.toNat zs.length
theorem qbR (k:Int) (zs:List UInt8): (qcC k zs).length=zs.length:=qg8 _ _
theorem qfo {w:World} {v:Value} {zs:List UInt8} {F:Nat→Prop} (k:Int) (h:qbt w v zs F) (hk0:0≤k) (hk:k+ (zs.length:Nat)≤4611686018427387904):
 Calls Tryz.prog 31 #[v, .int .i64 k] w fun e w'=>e= .returned (.int .i64 (k+ (zs.length:Nat)))∧qbt w' v (qcC k zs) F∧Chg F w w':=by
 obtain ⟨q,rfl⟩:=Int.eq_ofNat_of_zero_le hk0
 rcases h with ⟨rfl,a,cap,rfl⟩| ⟨b,cap,hF,rfl,hl,hr⟩
 · exact (qjl w a cap _).mono fun e w' ⟨he,hw⟩=> ⟨by rw [he];simp,Or.inl ⟨by simp [qcC,qgv],_,_,rfl⟩,hw▸Chg.refl _ _⟩
 · refine (qh1 w b cap zs.length q F _ hF (by omega) hr).mono fun e w' ⟨he,hro,hc⟩=> ⟨by rw [he];simp,Or.inr ⟨b,cap,hF,by rw [qbR],by rw [qbR];exact hl, ?_⟩,hc⟩
   rw [qbR]
   refine hro.congr fun i hi=> ?_
   unfold qcC
   rw [qgw _ hi,qks]
   congr 1
set_option maxHeartbeats 400000 in
theorem qjm (w:World) (a:Option Addr) (cap:Nat) (k:Int):
 Calls Tryz.prog 33 #[.slice a 0 cap, .int .i64 k] w fun e w'=>e= .returned (.int .i64 k)∧w'=w:=by
 go_enter Tryz.func33,Tryz.ntmps33
 go_wp2
 go_loop [1,5] (fun q i=>i= .int .i64 0∧q= .int .i64 k) (fun _ _=>0)
 case atStart=>exact ⟨rfl,rfl⟩
 case round=>
  obtain ⟨rfl,rfl⟩:=hrel
  go_wp2
  go_ret
  exact ⟨rfl,rfl⟩
set_option maxHeartbeats 800000 in
theorem qh2 (w:World) (b off cap n k:Nat) (hk:k+n≤4611686018427387904) (hc: ∀i:Nat,i<n→w.cell? ⟨b,off+i,none⟩=some (.int .u8 (((k:Int)+ (i:Int)) % 256))):
 Calls Tryz.prog 33 #[.slice (some ⟨b,off,none⟩) n cap, .int .i64 (k:Int)] w fun e w'=>e= .returned (.int .i64 ((k+n:Nat):Int))∧w'=w:=by
 have HC:Hid (∀i:Nat,i<n→w.cell? ⟨b,off+i,none⟩=some (.int .u8 (((k:Int)+ (i:Int)) % 256))):=hc
 clear hc
 go_enter Tryz.func33,Tryz.ntmps33
 go_wp2
 go_loopw [1,5] (fun q i wr=> ∃j:Nat,j≤n∧i= .int .i64 j∧q= .int .i64 ((k:Int)+ (j:Int))∧wr=w) (fun _ i _=>n- (intOf i).toNat)
 case atStart=>exact ⟨0,Nat.zero_le _,rfl,by simp,rfl⟩
 case round=>
  obtain ⟨j,hj,rfl,rfl,rfl⟩:=hrel
  by_cases hlt:j<n
  · have c1:=HC.out j hlt
    have hwr:IntKind.u8.wrap ((k:Int)+ (j:Int))= ((k:Int)+ (j:Int)) % 256:=by
     unfold IntKind.wrap
     simp [IntKind.signed,IntKind.bits]
    generalize ((k:Int)+ (j:Int)) % 256=X at*
    have hxx: (X !=X)=false:=by simp
    go_wp2
    go_roundw
    case rel=>exact ⟨j+1,by omega,by go_num,by go_num,by first|rfl|trivial⟩
    case measure=>simp [intOf];omega
  · go_wp2
    go_ret
    have e:j=n:=by omega
    subst e
    exact ⟨by first|rfl| (congr 2;omega),rfl⟩
theorem qkt {w:World} {v:Value} {zs:List UInt8} (k:Int) (h:Byt w v (qcC k zs)) (hk0:0≤k) (hk:k+ (zs.length:Nat)≤4611686018427387904):
 Calls Tryz.prog 33 #[v, .int .i64 k] w fun e w'=>e= .returned (.int .i64 (k+ (zs.length:Nat)))∧Below w.heap.size w w':=by
 obtain ⟨q,rfl⟩:=Int.eq_ofNat_of_zero_le hk0
 obtain ⟨a,cap,rfl,hm,hc⟩:=h
 rw [qbR] at hc hm ⊢
 by_cases h0:zs.length=0
 · rw [h0]
   exact (qjm w a cap _).mono fun e w' ⟨he,hw⟩=> ⟨by rw [he];simp,hw▸Below.refl _ _⟩
 · obtain ⟨b,off,rfl,_⟩:=hc 0 (by omega)
   refine (qh2 w b off cap zs.length q (by omega) fun i hi=> ?_).mono fun e w' ⟨he,hw⟩=> ⟨by rw [he];simp,hw▸Below.refl _ _⟩
   obtain ⟨b',off',e,hcell⟩:=hc i hi
   simp only [Option.some.injEq,Addr.mk.injEq] at e
   obtain ⟨rfl,rfl,_⟩:=e
   rw [hcell]
   unfold qcC
   rw [qgw _ hi,qks]
   simp

set_option maxHeartbeats 400000 in
theorem qe2 (w:World) (a:Option Addr) (cap:Nat) (k:Int):
 Calls Tryz.prog 30 #[.slice a 0 cap, .int .i64 k] w fun e w'=>e= .returned (.int .i64 k)∧w'=w:=by
 go_enter Tryz.func30,Tryz.ntmps30
 go_wp2
 go_loop [1,5] (fun q i=>i= .int .i64 0∧q= .int .i64 k) (fun _ _=>0)
 case atStart=>exact ⟨rfl,rfl⟩
 case round=>
  obtain ⟨rfl,rfl⟩:=hrel
  go_wp2
  go_ret
  exact ⟨rfl,rfl⟩
set_option maxHeartbeats 800000 in
theorem qg9 (w:World) (b cap n:Nat) (k:Int) (F:Nat→Prop) (zss:List (List UInt8)) (u:Nat→Value) (G:Nat→Nat→Prop) (hG: ∀i c,G i c→F c∧c≠b) (hGG: ∀i j c,i≠j→G i c→ ¬G j c)
 (hn:zss.length=n) (hk0:0≤k) (hk:k+ ((qax zss).sum:Nat)≤4611686018427387904) (hn2:n≤9223372036854775807) (hr:qaa w b n u) (hu: ∀i,i<n→qbt w (u i) (zss[i]?.getD []) (G i)):
 Calls Tryz.prog 30 #[.slice (some ⟨b,0,none⟩) n cap, .int .i64 k] w fun e w'=>e= .returned (.int .i64 (k+ ((qax zss).sum:Nat)))∧Chg F w w':=by
 have HR:Hid (qaa w b n u):=hr
 have HU:Hid (∀i,i<n→qbt w (u i) (zss[i]?.getD []) (G i)):=hu
 have HG:Hid (∀i c,G i c→F c∧c≠b):=hG
 have HGG:Hid (∀i j c,i≠j→G i c→ ¬G j c):=hGG
 have HN:Hid (zss.length=n):=hn
 clear hr hu hG hGG hn
 go_enter Tryz.func30,Tryz.ntmps30
 go_wp2
 go_loopw [1,5] (fun q i wr=> ∃j:Nat,j≤n∧i= .int .i64 j∧q= .int .i64 (k+ (upto (qax zss) j:Nat))∧qaa wr b n u∧ (∀i,j≤i→i<n→qbt wr (u i) (zss[i]?.getD []) (G i))∧Chg F w wr) (fun _ i _=>n- (intOf i).toNat)
 case atStart=>exact ⟨0,Nat.zero_le _,rfl,by simp [qa4],HR.out,fun i _ hi=>HU.out i hi,Chg.refl _ _⟩
 case round=>
  obtain ⟨j,hj,rfl,rfl,hrow,hin,hch⟩:=hrel
  by_cases hlt:j<n
  · have c1:=hrow.cell hlt
    have HROW:Hid (qaa wr b n u):=hrow
    have HIN:Hid (∀i,j≤i→i<n→qbt wr (u i) (zss[i]?.getD []) (G i)):=hin
    have HCH:Hid (Chg F w wr):=hch
    clear hrow hin hch
    have hs:=qaU (qax zss) j (by rw [qba,HN.out];exact hlt)
    rw [qea] at hs
    have hle:=qbJ (qax zss) (j+1)
    have HS:Hid (upto (qax zss) (j+1)=upto (qax zss) j+ (zss[j]?.getD []).length):=hs
    clear hs
    generalize hU:upto (qax zss) j=U at*
    have HIJ:Hid (qbt wr (u j) (zss[j]?.getD []) (G j)):=HIN.out j (Nat.le_refl _) hlt
    go_wp2_with fail
    refine (qfo (k+ (U:Int)) HIJ.out (by omega) (by have:=HS.out;omega)).mono ?_
    rintro e w' ⟨rfl,_,hc⟩
    have HC:Hid (Chg (G j) wr w'):=hc
    clear hc
    go_wp2
    go_roundw
    case rel=>
     refine ⟨j+1,by omega,by go_num,by rw [HS.out];go_num,HROW.out.block (HC.out.block b HROW.out.lt (fun h=> (HG.out j b h).2 rfl)),fun i hij hi=> ?_,HCH.out.trans (HC.out.mono fun c hc=> (HG.out j c hc).1)⟩
     exact (HIN.out i (by omega) hi).keep (w':=w') fun c hc hlt=>HC.out.block c hlt (HGG.out i j c (by omega) hc)
    case measure=>simp [intOf];omega
  · go_wp2
    go_ret
    have e:j=n:=by omega
    subst e
    exact ⟨qad (by rw [←HN.out,←qcT,qba]),hch⟩
theorem ql9 {w:World} {v:Value} {zss:List (List UInt8)} {F:Nat→Prop} (k:Int) (h:qaR w v zss F) (hk0:0≤k) (hk:k+ ((qax zss).sum:Nat)≤4611686018427387904):
 Calls Tryz.prog 30 #[v, .int .i64 k] w fun e w'=>e= .returned (.int .i64 (k+ ((qax zss).sum:Nat)))∧Chg F w w':=by
 rcases h with ⟨rfl,a,cap,rfl⟩| ⟨b,cap,u,G,hF,hG,hGG,rfl,hl,hr,hu⟩
 · exact (qe2 w a cap k).mono fun e w' ⟨he,hw⟩=> ⟨by rw [he];simp [qax],hw▸Chg.refl _ _⟩
 · exact qg9 w b cap zss.length k F zss u G hG hGG rfl hk0 hk (by have:=hl.1;unfold maxLen at this;omega) hr hu
end Go.Proofs.YthnmlipnoajmkaaGreatDoor

namespace Go.Proofs.YthnmlipnoajmkaaGreatDoor
open Go.RowKit
set_option maxRecDepth 100000

def byB (c:UInt8):Bool:=decide (97≤ (c.toNat:Int))&&decide ((c.toNat:Int)≤122)
def qal (s:ByteArray):Int:=if s.size=0 then 5 else if s.data.toList.all byB=true then (if 4<s.size then 2 else 0) else 5
theorem qfC {s:ByteArray} {k:Nat} (h:k<s.size) (hb:byB s[k]=false):qal s=5:=by
 unfold qal
 split
 · rfl
 · rw [if_neg]
   intro ha
   rw [List.all_eq_true] at ha
   have:=ha s[k] (by
    have:s[k]=s.data.toList[k]'(by simpa using h):=rfl
    rw [this];exact List.getElem_mem _)
   rw [hb] at this
   exact absurd this (by simp)
theorem qgx {s:ByteArray} (ha: ∀j (h:j<s.size),byB s[j]=true):qal s=if s.size=0 then 5 else if 4<s.size then 2 else 0:=by
 unfold qal
 rw [if_pos (c:=s.data.toList.all byB=true)]
 rw [List.all_eq_true]
 intro c hc
 obtain ⟨k,hk,rfl⟩:=List.mem_iff_getElem.1 hc
 exact ha k (by simpa using hk)

theorem qfD (s:ByteArray):s.toList.length=s.size:=by rw [ByteArray.toList_eq];rfl
theorem qoX {s:ByteArray} (h: ¬s.size=0):s.toList.isEmpty=false:=by
 cases hs:s.toList with
 |nil=>have:=qfD s;rw [hs] at this;exact absurd this.symm h
 |cons a t=>rfl
theorem qma {s:ByteArray} (h:s.size=0):s.toList.isEmpty=true:=by
 cases hs:s.toList with
 |nil=>rfl
 |cons a t=>have:=qfD s;rw [hs,h] at this;simp at this

set_option maxHeartbeats 800000 in
theorem qdO (w:World) (c:UInt8):Calls Tryz.prog 148 #[.int .u8 (c.toNat:Int)] w fun e w'=>e= .returned (.bool (byB c))∧w'=w:=by
 unfold byB
 by_cases h1:97≤ (c.toNat:Int)
 · by_cases h2: (c.toNat:Int)≤122
   · rw [decide_eq_true h1,decide_eq_true h2]
     go_enter Tryz.func148,Tryz.ntmps148
     go_wp2
     go_ret
     exact ⟨rfl,rfl⟩
   · rw [decide_eq_true h1,decide_eq_false h2]
     have d2:decide ((c.toNat:Int)≤122)=false:=by simpa using h2
     go_enter Tryz.func148,Tryz.ntmps148
     go_wp2
     go_ret
     exact ⟨rfl,rfl⟩
 · rw [decide_eq_false h1]
   have d1:decide (97≤ (c.toNat:Int))=false:=by simpa using h1
   go_enter Tryz.func148,Tryz.ntmps148
   go_wp2
   go_ret
   exact ⟨rfl,rfl⟩

set_option maxHeartbeats 800000 in
theorem qbb (w:World) (s:ByteArray) (hs:s.size≤maxLen):Calls Tryz.prog 156 #[.string s] w fun e w'=>e= .returned (.int .i64 (qal s))∧w'=w:=by
 unfold maxLen at hs
 go_enter Tryz.func156,Tryz.ntmps156
 go_wp2
 go_loop [3] (fun i=> ∃k:Nat,k≤s.size∧i= .int .i64 k∧ ∀j (h:j<s.size),j<k→byB s[j]=true) (fun i=>s.size- (intOf i).toNat)
 case atStart=>exact ⟨0,Nat.zero_le _,rfl,fun j h h'=>by omega⟩
 case round=>
  obtain ⟨k,hk,rfl,ha⟩:=hrel
  have HA:Hid (∀j (h:j<s.size),j<k→byB s[j]=true):=ha
  clear ha
  by_cases hlt:k<s.size
  · by_cases h1: (s[k].toNat:Int)<97
    · have HB:Hid (qal s=5):=qfC hlt (by unfold byB;rw [decide_eq_false (by omega)];rfl)
      go_wp2
      go_ret
      exact ⟨qad HB.out.symm,rfl⟩
    · by_cases h2:122< (s[k].toNat:Int)
      · have HB:Hid (qal s=5):=qfC hlt (by unfold byB;rw [decide_eq_false (p:= (s[k].toNat:Int)≤122) (by omega)];simp)
        go_wp2
        go_ret
        exact ⟨qad HB.out.symm,rfl⟩
      · have HB:Hid (byB s[k]=true):=by unfold Hid byB;rw [decide_eq_true (by omega),decide_eq_true (by omega)];rfl
        go_wp2
        go_round
        case rel=>
         refine ⟨k+1,by omega,by go_num,fun j h hj=> ?_⟩
         by_cases e:j=k
         · subst e;exact HB.out
         · exact HA.out j h (by omega)
        case measure=>simp [intOf];omega
  · have HN:Hid (qal s=if s.size=0 then 5 else if 4<s.size then 2 else 0):=qgx fun j h=>HA.out j h (by omega)
    by_cases h0:s.size=0
    · have hem:=qma h0
      go_wp2
      go_ret
      exact ⟨qad (by rw [HN.out,if_pos h0]),rfl⟩
    · have hem:=qoX h0
      by_cases h4:4<s.size
      · go_wp2
        go_ret
        exact ⟨qad (by rw [HN.out,if_neg h0,if_pos h4]),rfl⟩
      · go_wp2
        go_ret
        exact ⟨qad (by rw [HN.out,if_neg h0,if_neg h4]),rfl⟩

set_option maxHeartbeats 800000 in
theorem qaZ (w:World) (s:ByteArray) (hs:s.size≤maxLen):Calls Tryz.prog 124 #[.string s] w fun e w'=>e= .returned (.int .i64 (qal s))∧w'=w:=by
 unfold maxLen at hs
 by_cases h0:s.size=0
 · have hem:=qma h0
   have HN:Hid (qal s=5):=by unfold Hid qal;rw [if_pos h0]
   rw [HN.out]
   go_enter Tryz.func124,Tryz.ntmps124
   go_wp2
   go_ret
   exact ⟨rfl,rfl⟩
 · have hem:=qoX h0
   go_enter Tryz.func124,Tryz.ntmps124
   go_wp2
   go_loop [8] (fun i=> ∃k:Nat,k≤s.size∧i= .int .i64 k∧ ∀j (h:j<s.size),j<k→byB s[j]=true) (fun i=>s.size- (intOf i).toNat)
   case atStart=>exact ⟨0,Nat.zero_le _,rfl,fun j h h'=>by omega⟩
   case round=>
    obtain ⟨k,hk,rfl,ha⟩:=hrel
    have HA:Hid (∀j (h:j<s.size),j<k→byB s[j]=true):=ha
    clear ha
    by_cases hlt:k<s.size
    · cases hb:byB s[k]
      · have HB:Hid (byB s[k]=false):=hb
        have HN:Hid (qal s=5):=qfC hlt hb
        clear hb
        go_wp2_with fail
        refine (qdO _ _).mono ?_
        rw [HB.out]
        rintro e w1 ⟨rfl,rfl⟩
        go_wp2
        go_ret
        exact ⟨qad HN.out.symm,rfl⟩
      · have HB:Hid (byB s[k]=true):=hb
        clear hb
        go_wp2_with fail
        refine (qdO _ _).mono ?_
        rw [HB.out]
        rintro e w1 ⟨rfl,rfl⟩
        go_wp2
        go_round
        case rel=>
         refine ⟨k+1,by omega,by go_num,fun j h hj=> ?_⟩
         by_cases e:j=k
         · subst e;exact HB.out
         · exact HA.out j h (by omega)
        case measure=>simp [intOf];omega
    · have HN:Hid (qal s=if s.size=0 then 5 else if 4<s.size then 2 else 0):=qgx fun j h=>HA.out j h (by omega)
      by_cases h4:4<s.size
      · go_wp2
        go_ret
        exact ⟨qad (by rw [HN.out,if_neg h0,if_pos h4]),rfl⟩
      · go_wp2
        go_ret
        exact ⟨qad (by rw [HN.out,if_neg h0,if_neg h4]),rfl⟩

end Go.Proofs.YthnmlipnoajmkaaGreatDoor

namespace Go.Proofs.YthnmlipnoajmkaaGreatDoor
open Go.RowKit
set_option maxRecDepth 100000

def mkB (l:List UInt8):ByteArray:= ⟨l.toArray⟩
theorem qb3 (s:ByteArray):mkB s.data.toList=s:=by cases s;simp [mkB]
theorem qcp (l:List UInt8): (mkB l).data.toList=l:=by simp [mkB]
theorem qaC (l:List UInt8): (mkB l).size=l.length:=by simp [mkB,ByteArray.size]
theorem qsk {l m:List UInt8} (h:mkB l=mkB m):l=m:=by rw [←qcp l,h,qcp]
def qfE (b:UInt8):List (List UInt8)→List (List UInt8)
 | []=> [[b]]
 |p::ps=> (b::p)::ps
def qcD:List UInt8→List (List UInt8)
 | []=> [[]]
 |b::l=>if b=47 then []::qcD l else qfE b (qcD l)
def qa9 (l:List UInt8):List UInt8:=l.takeWhile (· !=47)
def qa0 (l:List UInt8):List UInt8:=l.dropWhile (· !=47)
def qcU:List UInt8→List (List UInt8)
 | []=> []
 |_::t=>qcD t
theorem qha (t:List UInt8):qcD t=qa9 t::qcU (qa0 t):=by
 induction t with
 |nil=>rfl
 | cons b l ih=>
   unfold qcD qa9 qa0
   by_cases h:b=47
   · rw [if_pos h,List.takeWhile_cons,List.dropWhile_cons,if_neg (by simp [h]),if_neg (by simp [h])]
     rfl
   · rw [if_neg h,ih,List.takeWhile_cons,List.dropWhile_cons,if_pos (by simpa using h),if_pos (by simpa using h)]
     rfl
theorem qmb (t:List UInt8): (Lib.indexByte t 47= -1∧qa9 t=t∧qa0 t= [])∨ ∃o:Nat,Lib.indexByte t 47= (o:Int)∧o<t.length∧qa9 t=t.take o∧qa0 t=t.drop o:=by
 induction t with
 |nil=>exact Or.inl ⟨rfl,rfl,rfl⟩
 | cons b l ih=>
   unfold Lib.indexByte qa9 qa0
   by_cases h:b=47
   · exact Or.inr ⟨0,by simp [h],by simp,by simp [h],by simp [h]⟩
   · have hb: (b==47)=false:=by simpa using h
     rcases ih with ⟨h1,h2,h3⟩| ⟨o,h1,h2,h3,h4⟩
     · refine Or.inl ⟨by simp [hb,h1], ?_, ?_⟩
       · rw [List.takeWhile_cons,if_pos (by simpa using h)];unfold qa9 at h2;rw [h2]
       · rw [List.dropWhile_cons,if_pos (by simpa using h)];unfold qa0 at h3;rw [h3]
     · refine Or.inr ⟨o+1, ?_,by simp;omega, ?_, ?_⟩
       · have: (Lib.indexByte l 47== -1)=false:=by rw [h1];simp
         simp [hb,h1]
       · rw [List.takeWhile_cons,if_pos (by simpa using h)];unfold qa9 at h3;rw [h3];rfl
       · rw [List.dropWhile_cons,if_pos (by simpa using h)];unfold qa0 at h4;rw [h4];rfl
theorem qeJ (b:UInt8) (t:List UInt8):qcU (b::t)=qa9 t::qcU (qa0 t):=qha t
theorem qh3 (t:List UInt8): (qa0 t).length≤t.length:=by unfold qa0;exact (List.dropWhile_sublist _).length_le
theorem qmc (t:List UInt8): (qa9 t).length≤t.length:=by unfold qa9;exact (List.takeWhile_sublist _).length_le
def qaf (l:List UInt8):List (List UInt8):=if l= [47] then [] else qcU l

theorem qfp (l:List UInt8) (k:Nat) (hk:k≤l.length) (W:World): (Instr.slice 9 (.string (mkB l)) (some (.int .i64 (k:Int))) none none).run Tryz.prog W= .ok (.string (mkB (l.drop k))) W:=by
 have hs:=qaC l
 have he: (mkB l).extract k (mkB l).size=mkB (l.drop k):=by
  have h: ((mkB l).extract k (mkB l).size).data.toList=l.drop k:=by
   simp only [mkB,ByteArray.size,ByteArray.data_extract,Array.toList_extract,List.size_toArray,List.extract_eq_take_drop]
   exact List.take_of_length_le (by simp)
  rw [←qb3 ((mkB l).extract k (mkB l).size),h]
 simp [Instr.slice,Instr.sliceBounds,Instr.sliceBound,asIntOf,run_underlying Tryz.underlying9,hs,hk]
 rw [←hs]
 exact he
theorem qku (l:List UInt8) (k:Nat) (hk:k≤l.length) (W:World): (Instr.slice 9 (.string (mkB l)) none (some (.int .i64 (k:Int))) none).run Tryz.prog W= .ok (.string (mkB (l.take k))) W:=by
 have hs:=qaC l
 have he: (mkB l).extract 0 k=mkB (l.take k):=by
  have h: ((mkB l).extract 0 k).data.toList=l.take k:=by simp [mkB]
  rw [←qb3 ((mkB l).extract 0 k),h]
 simp [Instr.slice,Instr.sliceBounds,Instr.sliceBound,asIntOf,run_underlying Tryz.underlying9,hs,hk]
 exact he
end Go.Proofs.YthnmlipnoajmkaaGreatDoor

namespace Go.Proofs.YthnmlipnoajmkaaGreatDoor
open Go.RowKit Go.Shelf
set_option maxRecDepth 100000
def qpi:Go.Shelf.Ren:= ⟨fun |137=>165|217=>175|266=>177|n=>n,fun |9=>9|5=>5|3=>3|n=>n,fun |n=>n⟩
theorem qnU:Go.Proofs.Lays.n137 Tryz.prog qpi:= {
 mixed:=by kernel_rfl
 f137:=Tryz.func165.trans (congrArg some (by kernel_rfl))
 f217:=Tryz.func175.trans (congrArg some (by kernel_rfl))
 f266:=Tryz.func177.trans (congrArg some (by kernel_rfl))
 t3:=Tryz.underlying3
 a3:=Tryz.isAgg3
 z3:=Tryz.sizeOf3
 v3:=Tryz.zeroValue3
 t5:=Tryz.underlying5
 a5:=Tryz.isAgg5
 z5:=Tryz.sizeOf5
 v5:=Tryz.zeroValue5
 t9:=Tryz.underlying9
 a9:=Tryz.isAgg9
 z9:=Tryz.sizeOf9
 v9:=Tryz.zeroValue9}
theorem qgy (l:List UInt8) (w:World):
 Calls Tryz.prog 165 #[.string (mkB l), .int .u8 47] w fun e w'=>e= .returned (.int .i64 (Lib.indexByte l 47))∧w'=w:=by
 have h:=Go.Proofs.Any.strings_IndexByte qnU (mkB l) 47 w
 rw [qcp] at h
 exact h
end Go.Proofs.YthnmlipnoajmkaaGreatDoor

namespace Go.Proofs.YthnmlipnoajmkaaGreatDoor
open Go.RowKit Go.Shelf
set_option maxRecDepth 100000
attribute [local go_sem] Oper.semAt_some

abbrev BL:= {l:List UInt8 // l.length≤1048576}
abbrev qrJ (x:BL):Array Value:= #[.string (mkB x.1)]
abbrev txt (pre:List BL):List (List UInt8):=pre.map (·.1)
theorem qbg (l:List UInt8): (mkB l).toList=l:=by rw [ByteArray.toList_eq,qcp]
def qmd:Value→Nat
 | .string s=>s.size
 |_=>0

set_option maxRecDepth 100000 in
set_option maxHeartbeats 1600000 in
theorem qme (n:Nat) (hn:2≤n) (l Bn n₀:Nat) (p:List UInt8) (hp:p.length≤1048576) (J Jx:List BL→World→Prop)
 (hY: ∀pre x W,J pre W→pre.length< (qaf p).length→YieldAt Fence.wide (n-1) Tryz.prog l (qrJ x) W fun e W'=>
   (e= .returned (.bool true)∧J (pre++ [x]) W'∧Below n₀ W W')∨ (e= .returned (.bool false)∧Jx (pre++ [x]) W'))
 (W:World) (hB:W.cell? ⟨Bn,0,none⟩=some (.string (mkB p))) (h0:J [] W):
 CallsIn Fence.wide n Tryz.prog 164 #[.func (.yield l) #[] #[], .pointer (some ⟨Bn,0,none⟩)] W fun e W'=> (∃v,e= .returned v)∧
  ((∃ys,txt ys=qaf p∧J ys W')∨ (∃pre,txt pre <+: qaf p∧Jx pre W')):=by
 refine callsIn_of_wp Tryz.func164 rfl trivial ?_ rfl
 simp only [Tryz.ntmps164,List.size_toArray,List.length_cons,List.length_nil,Nat.reduceAdd,Nat.reduceSub,Array.replicate_succ,Array.replicate_zero,List.push_toArray,List.append_toArray,List.nil_append,List.cons_append]
 by_cases hp1:p= [47]
 · have heq: ((mkB p).toList== [47])=true:=by rw [qbg,hp1];rfl
   have HN:Hid (qaf p= []):=by unfold Hid qaf;rw [if_pos hp1]
   clear hp1
   gi_wp2
   refine bodyPost_ret (results_none rfl _ _ _) rfl ?_
   exact ⟨⟨_,rfl⟩, .inl ⟨[],by rw [HN.out];rfl,h0⟩⟩
 · have heq: ((mkB p).toList== [47])=false:=by rw [qbg];simpa using hp1
   have HN:Hid (qaf p=qcU p):=by unfold Hid qaf;rw [if_neg hp1]
   clear hp1
   gi_wp2
   gi_loopw [3] (fun v wr=> ∃ (pre:List BL) (r:List UInt8),v= .string (mkB r)∧qaf p=txt pre++qcU r∧r.length≤1048576∧J pre wr) (fun v _=>qmd v)
   case atStart=>exact ⟨[],p,rfl,by rw [HN.out];rfl,hp,h0⟩
   case round=>
    obtain ⟨pre,r,rfl,hx,hr,hJs⟩:=hrel
    cases r with
    | nil=>
      have hem: (mkB []).toList.isEmpty=true:=by rw [qbg];rfl
      gi_wp2
      go_end0
      exact ⟨⟨_,rfl⟩, .inl ⟨pre,by rw [hx];simp [qcU],hJs⟩⟩
    | cons b t=>
      have hem: (mkB (b::t)).toList.isEmpty=false:=by rw [qbg];rfl
      have HX:Hid (qaf p=txt pre++ (qa9 t::qcU (qa0 t))):=by unfold Hid;rw [hx,qeJ]
      have hs1: ∀W:World,(Instr.slice 9 (.string (mkB (b::t))) (some (.int .i64 1)) none none).run Tryz.prog W= .ok (.string (mkB t)) W:=fun W=>qfp (b::t) 1 (by simp) W
      have hdl:=qh3 t
      have htl:=qmc t
      simp only [List.length_cons] at hr
      clear hx
      rcases qmb t with ⟨h1,h2,h3⟩| ⟨o,h1,hol,h2,h3⟩
      · have hsz: (mkB t).size=t.length:=qaC t
        have hs2: ∀W:World,(Instr.slice 9 (.string (mkB t)) none (some (.int .i64 (t.length:Int))) none).run Tryz.prog W= .ok (.string (mkB (qa9 t))) W:=fun W=>by rw [qku t t.length (Nat.le_refl _) W,h2,List.take_length]
        have hs3: ∀W:World,(Instr.slice 9 (.string (mkB t)) (some (.int .i64 (t.length:Int))) none none).run Tryz.prog W= .ok (.string (mkB (qa0 t))) W:=fun W=>by rw [qfp t t.length (Nat.le_refl _) W,h3,List.drop_length]
        clear h2 h3
        have hyl: (qa9 t).length≤1048576:=by omega
        generalize qa9 t=y at*
        generalize qa0 t=z at*
        obtain ⟨fn,tmps,assign,body,hy,hR⟩:=hY pre ⟨y,hyl⟩ wr hJs (by rw [HX.out];simp)
        dsimp only [qrJ] at hy
        gi_wp2
        refine ⟨trivial,fun _=>by omega, ?_⟩
        refine (callsIn_wide.2 (qgy t _)).mono ?_
        rintro e w' ⟨rfl,rfl⟩
        gi_wp2
        refine ⟨fun _=>by omega,hR.mono ?_⟩
        rintro e W3 (⟨rfl,hJ3,hk3⟩| ⟨rfl,hJx3⟩)
        · gi_wp2
          go_roundw
          case rel=>exact ⟨pre++ [⟨y,hyl⟩],z,rfl,by rw [HX.out];simp [txt],by omega,hJ3⟩
          case measure=>simp only [qmd,qaC];simp only [List.length_cons];omega
        · gi_wp2
          refine bodyPost_ret (results_none rfl _ _ _) rfl ?_
          exact ⟨⟨_,rfl⟩, .inr ⟨pre++ [⟨y,hyl⟩],⟨qcU (z),by rw [HX.out];simp [txt]⟩,hJx3⟩⟩
      · have hs2: ∀W:World,(Instr.slice 9 (.string (mkB t)) none (some (.int .i64 (o:Int))) none).run Tryz.prog W= .ok (.string (mkB (qa9 t))) W:=fun W=>by rw [qku t o (by omega) W,h2]
        have hs3: ∀W:World,(Instr.slice 9 (.string (mkB t)) (some (.int .i64 (o:Int))) none none).run Tryz.prog W= .ok (.string (mkB (qa0 t))) W:=fun W=>by rw [qfp t o (by omega) W,h3]
        clear h2 h3
        have hyl: (qa9 t).length≤1048576:=by omega
        generalize qa9 t=y at*
        generalize qa0 t=z at*
        obtain ⟨fn,tmps,assign,body,hy,hR⟩:=hY pre ⟨y,hyl⟩ wr hJs (by rw [HX.out];simp)
        dsimp only [qrJ] at hy
        gi_wp2
        refine ⟨trivial,fun _=>by omega, ?_⟩
        refine (callsIn_wide.2 (qgy t _)).mono ?_
        rintro e w' ⟨rfl,rfl⟩
        gi_wp2
        refine ⟨fun _=>by omega,hR.mono ?_⟩
        rintro e W3 (⟨rfl,hJ3,hk3⟩| ⟨rfl,hJx3⟩)
        · gi_wp2
          go_roundw
          case rel=>exact ⟨pre++ [⟨y,hyl⟩],z,rfl,by rw [HX.out];simp [txt],by omega,hJ3⟩
          case measure=>simp only [qmd,qaC];simp only [List.length_cons];omega
        · gi_wp2
          refine bodyPost_ret (results_none rfl _ _ _) rfl ?_
          exact ⟨⟨_,rfl⟩, .inr ⟨pre++ [⟨y,hyl⟩],⟨qcU (z),by rw [HX.out];simp [txt]⟩,hJx3⟩⟩
end Go.Proofs.YthnmlipnoajmkaaGreatDoor

namespace Go.Proofs.YthnmlipnoajmkaaGreatDoor
open Go.RowKit Go.Shelf
set_option maxRecDepth 100000
attribute [local go_sem] Oper.semAt_some

theorem qbo (w:World) (p:List UInt8):Calls Tryz.prog 142 #[.string (mkB p)] w fun e w'=>e= .returned (.func (.func 164) #[] #[.pointer (some ⟨w.heap.size,0,none⟩)])∧w'=w.alloc (.cells #[.string (mkB p)] 9):=by
 go_enter Tryz.func142,Tryz.ntmps142
 go_wp2
 go_ret
 exact ⟨rfl,rfl⟩
theorem qdX (n:Nat) (hn:2≤n) (Bn n₀:Nat) (p:List UInt8) (hp:p.length≤1048576) (w:World) (hBn:Bn<w.heap.size) (hc:w.cell? ⟨Bn,0,none⟩=some (.string (mkB p))):
 SeqStopsK Fence.wide n Tryz.prog 164 #[.pointer (some ⟨Bn,0,none⟩)] qrJ (Below n₀) (fun ys=>txt ys=qaf p) (fun pre=>txt pre <+: qaf p) (qaf p).length w:=fun l J Jx W hW _ _ hY h0=>
 qme n hn l Bn n₀ p hp J Jx hY W ((hW.cell (p:= ⟨Bn,0,none⟩) hBn).trans hc) h0
theorem qjn (b:UInt8) (ps:List (List UInt8)) (h:ps≠ []): (qfE b ps).length=ps.length:=by
 cases ps with
 |nil=>exact absurd rfl h
 |cons a t=>rfl
theorem qmf (l:List UInt8):qcD l≠ []:=by rw [qha];simp
theorem qkv (l:List UInt8): (qcD l).length≤l.length+1:=by
 induction l with
 |nil=>simp [qcD]
 | cons b t ih=>
   unfold qcD
   split
   · simp only [List.length_cons];omega
   · rw [qjn b _ (qmf t)];simp only [List.length_cons];omega
theorem qcE (l:List UInt8): (qaf l).length≤l.length+1:=by
 unfold qaf
 split
 · simp
 · cases l with
   |nil=>simp [qcU]
   |cons b t=>have:=qkv t;simp only [qcU,List.length_cons];omega
theorem qa6 (W:World) (v:Value) (t:TypeId): (W.alloc (.cells #[v] t)).cell? ⟨W.heap.size,0,none⟩=some v∧ (W.alloc (.cells #[v] t)).frozen? ⟨W.heap.size,0,none⟩=false:=by
 have h: (W.alloc (.cells #[v] t)).heap[W.heap.size]?=some (.cells #[v] t (0,0)):=World.alloc_heap_new W _
 constructor
 · simp only [World.cell?,h];rfl
 · simp only [World.frozen?,h];rfl

set_option maxRecDepth 100000 in
set_option maxHeartbeats 2000000 in
theorem qcV (w:World) (Bn:Nat) (p:List UInt8) (hp:p.length≤1048576) (hBn:Bn<w.heap.size) (hc:w.cell? ⟨Bn,0,none⟩=some (.string (mkB p))):
 Calls Tryz.prog 162 #[.func (.func 164) #[] #[.pointer (some ⟨Bn,0,none⟩)]] w fun e w'=>e= .returned (.int .i64 ((qaf p).length:Int))∧Below w.heap.size w w':=by
 refine (callsIn_wide (n:=5)).1 ?_
 refine callsIn_of_wp_marks Tryz.func162 rfl trivial ?_ rfl
 simp only [Tryz.ntmps162,List.size_toArray,List.length_cons,List.length_nil,Nat.reduceAdd,Nat.reduceSub,Array.replicate_succ,Array.replicate_zero,List.push_toArray,List.append_toArray,List.nil_append,List.cons_append]
 gi_wp2
 have hs:=qa6 w (.int .i64 0) 3
 have hB0:Below w.heap.size w (w.alloc (.cells #[.int .i64 0] 3)):= (Below.refl _ w).alloc (Nat.le_refl _) _
 have hlen:=qcE p
 refine wpIn_rangeFunc_ownF rfl (by omega) (gf:=164) (lb:= #[.pointer (some ⟨Bn,0,none⟩)]) rfl trivial (enters_of Tryz.func164 (by kernel_rfl) rfl)
  (qdX 4 (by omega) Bn w.heap.size p hp (w.alloc (.cells #[.int .i64 0] 3)) (by simp;omega) (cell_later (qab _ _) hc)) belowK_t (belowK_b (by simp)) (Below.refl _ _) (fun _=>rfl)
  (fun pre W=> (W.cell? ⟨w.heap.size,0,none⟩=some (.int .i64 (pre.length:Int))∧W.frozen? ⟨w.heap.size,0,none⟩=false)∧Below w.heap.size w W)
  (fun _ _ _=>False)
  (OwnFrom.and (Own.from (fun s A B row hs hg hr=> ⟨cell_kept hs.1 hg hr,(frozen_kept hs.1 hg hr).trans hs.2⟩) _) (ownFrom_below (Nat.le_refl _) (by simp)))
  (fun _ _ _ _ _ hs _ _=>hs)
  ⟨hs,hB0⟩
  (fun x=> {tmps:= #[.func (.func 164) #[] #[.pointer (some ⟨Bn,0,none⟩)],undef, .int .i64 0, .pointer (some ⟨w.heap.size,0,none⟩), .func (.func 164) #[] #[.pointer (some ⟨Bn,0,none⟩)], .string (mkB x.1),undef,undef,undef],defers:= []}) ?assign ?body ?done ?stop
 case assign=>
  intro l x W K hK
  gi_wp2
  simpa using hK
 case body=>
  rintro l pre x W ⟨⟨hcc,hf⟩,hB⟩ hlt
  have hw:IntKind.i64.wrap ((pre.length:Int)+1)= (pre.length:Int)+1:=by rw [IntKind.wrap_i64];omega
  gi_wp2
  exact ⟨KeepsOthers.setCell _ _ _,(Below.refl w.heap.size W).setCell (p:= ⟨w.heap.size,0,none⟩) (Nat.le_refl _) _,⟨by rw [World.cell?_setCell_same' _ _ _ (by rw [hcc];rfl)];simp,by rw [World.frozen?_setCell];exact hf⟩,hB.setCell (p:= ⟨w.heap.size,0,none⟩) (Nat.le_refl _) _⟩
 case done=>
  rintro D ys W hD hys ⟨⟨hcc,_⟩,hB⟩ hK
  have HYL:Hid ((ys.length:Int)= ((qaf p).length:Int)):=by unfold Hid;rw [←hys];simp
  clear hys
  gi_wp2
  refine ⟨by simp, .inl ⟨_,_,rfl,run_takeDeferred hK, ?_⟩⟩
  exact ⟨.int .i64 (ys.length:Int),by simp [results,Tryz.results162,go_sem],qad HYL.out,hB.trans (belowK_b (w:=w) (Nat.le_refl _) W D _ _ (by simp at hD;omega) hK rfl rfl)⟩
 case stop=>
  rintro D c pre W _ _ h _
  exact h.elim
end Go.Proofs.YthnmlipnoajmkaaGreatDoor
