/- The qbO of texts. Ranges over the names of a path:namesFault. Contracts of the library,laid from the shelf for this program. What of a path is wrong:the walk of the program's pathFault. SplitPath,the program's. What 'append' comes to,as laws for the walk,and the specification's copying of a list. -/
import Derived.Test.YthnmlipnoajmkaaGreatDoorM01
import Derived.Test.YthnmlipnoajmkaaGreatDoorM00
import Derived.Laws.IdiomStrings
import Derived.Scope
import Derived.Shelf.Small.Strs
import Derived.Shelf.LaysM
import Derived.Shelf.Strconv.Clone
import Derived.Shelf.Strings.Search1
import Derived.Shelf.Strings.Prefix
import Derived.Shelf.Slices.Equal
import Derived.Shelf.Slices.Empties2
import Derived.Test.YthnmlipnoajmkaaGreatDoorRows
import Derived.RangeFuncWrites
import Derived.RangeFuncBox
import Derived.Maps.AppendAt
import Derived.OwnWalk
import Derived.Deep.RegionLaw
namespace Go.Proofs.YthnmlipnoajmkaaGreatDoor
open Go.RowKit
set_option maxRecDepth 100000

def dg (k:Nat) (acc:List UInt8):List UInt8:=if h:k=0 then acc else dg (k/10) (UInt8.ofNat (48+k % 10)::acc)
termination_by k
decreasing_by omega

theorem qmg (a b:List UInt8):mkB a++mkB b=mkB (a++b):=by
 have h: (mkB a++mkB b).data.toList=a++b:=by simp [mkB]
 rw [←qb3 (mkB a++mkB b),h]
theorem qnV (w:World) (j:Nat):
 (convert 27 9 (.slice (some ⟨w.heap.size,0,none⟩) 1 1)).run Tryz.prog (w.alloc (.cells #[.int .u8 (48+ (j:Int) % 10)] 5))= .ok (.string (mkB [UInt8.ofNat (48+j % 10)])) (w.alloc (.cells #[.int .u8 (48+ (j:Int) % 10)] 5)):=by
 refine run_convert_bytes_back _ 27 9 5 ⟨w.heap.size,0,none⟩ 1 [UInt8.ofNat (48+j % 10)] Tryz.underlying27 Tryz.underlying5 Tryz.underlying9 (fun i hi=> ?_)
 have hi0:i=0:=by simpa using hi
 subst hi0
 have h1: (UInt8.ofNat (48+j % 10)).toNat=48+j % 10:=by rw [UInt8.toNat_ofNat'];omega
 show (w.alloc (.cells #[.int .u8 (48+ (j:Int) % 10)] 5)).cell? ⟨w.heap.size,0,none⟩=some (.int .u8 ((UInt8.ofNat (48+j % 10)).toNat:Int))
 rw [h1,(qa6 w _ _).1]
 congr 2

set_option maxHeartbeats 1600000 in
theorem qcq (w:World) (k:Nat) (hk:1≤k) (hk2:k≤4294967296):
 Calls Tryz.prog 68 #[.int .i64 (k:Int)] w fun e w'=>e= .returned (.string (mkB (109::dg k [])))∧Below w.heap.size w w':=by
 have hk':decide ((k:Int)≤0)=false:=by simp;omega
 go_enter Tryz.func68,Tryz.ntmps68
 go_wp2
 go_loopw [0,3] (fun q o wr=> ∃ (j:Nat) (acc:List UInt8),acc.length+j≤k∧q= .int .i64 (j:Int)∧o= .string (mkB acc)∧dg j acc=dg k []∧Below w.heap.size w wr) (fun q _ _=> (intOf q).toNat)
 case atStart=>exact ⟨k, [],by simp,rfl,rfl,rfl,Below.refl _ _⟩
 case round=>
  obtain ⟨j,acc,hj,rfl,rfl,hdg,hbl⟩:=hrel
  have HD:Hid (dg j acc=dg k []):=hdg
  have HB:Hid (Below w.heap.size w wr):=hbl
  have hkz: (k=0)=False:=by simp;omega
  clear hdg hbl
  by_cases h0:j=0
  · subst h0
    have HE:Hid (acc=dg k []):=by unfold Hid;rw [←HD.out];unfold dg;simp
    have HE2:Hid (mkB [109]++mkB acc=mkB (109::dg k [])):=by unfold Hid;rw [qmg,←HE.out];rfl
    have hm: (⟨#[109]⟩:ByteArray)=mkB [109]:=rfl
    have hsz: (9223372036854775807< (mkB [109]).size+ (mkB acc).size)=False:=by rw [qaC,qaC];simp;omega
    go_wp2
    go_ret
    exact ⟨by rw [←HE2.out];rfl,HB.out⟩
  · have hp: (0:Int)< (j:Int):=by omega
    have hcv:=qnV wr j
    have HAP:Hid (mkB [UInt8.ofNat (48+j % 10)]++mkB acc=mkB (UInt8.ofNat (48+j % 10)::acc)):=qmg _ _
    have HDD:Hid (dg (j/10) (UInt8.ofNat (48+j % 10)::acc)=dg k []):=by unfold Hid;rw [←HD.out];conv=>rhs;unfold dg;rw [dif_neg h0]
    have hsz: (9223372036854775807< (mkB [UInt8.ofNat (48+j % 10)]).size+ (mkB acc).size)=False:=by rw [qaC,qaC];simp;omega
    generalize UInt8.ofNat (48+j % 10)=b at*
    go_wp2
    go_roundw
    case rel=>exact ⟨j/10,b::acc,by simp;omega,by go_num,by rw [HAP.out],HDD.out,HB.out.trans ((qab _ _).mono HB.out.size)⟩
    case measure=>simp [intOf];omega
end Go.Proofs.YthnmlipnoajmkaaGreatDoor

namespace Go.Proofs.YthnmlipnoajmkaaGreatDoor
open Go.RowKit Go.Shelf
set_option maxRecDepth 100000
attribute [local go_sem] Oper.semAt_some

def qay:List (List UInt8)→Int
 | []=>0
 |x::t=>if qal (mkB x)=0 then qay t else qal (mkB x)
theorem qjo (s:ByteArray):qal s=0∨qal s=2∨qal s=5:=by
 unfold qal
 split
 · simp
 · split
   · split<;>simp
   · simp
theorem qgz (a b:List (List UInt8)):qay (a++b)=if qay a=0 then qay b else qay a:=by
 induction a with
 |nil=>simp [qay]
 | cons x t ih=>
   simp only [List.cons_append,qay]
   split
   · exact ih
   · rfl
theorem qjp {a:List (List UInt8)} (x:List UInt8) (h:qay a=0):qay (a++ [x])=qal (mkB x):=by
 rw [qgz,if_pos h]
 simp only [qay]
 split
 · rename_i h;exact h.symm
 · rfl
theorem qeb {a b:List (List UInt8)} (h:a <+: b) (hn: ¬qay a=0):qay b=qay a:=by
 obtain ⟨t,rfl⟩:=h
 rw [qgz,if_neg hn]

set_option maxRecDepth 100000 in
set_option maxHeartbeats 2000000 in
theorem qdP (w:World) (Bn:Nat) (p:List UInt8) (hp:p.length≤1048576) (hBn:Bn<w.heap.size) (hc:w.cell? ⟨Bn,0,none⟩=some (.string (mkB p))):
 Calls Tryz.prog 163 #[.func (.func 164) #[] #[.pointer (some ⟨Bn,0,none⟩)]] w fun e w'=>e= .returned (.int .i64 (qay (qaf p)))∧Below w.heap.size w w':=by
 refine (callsIn_wide (n:=5)).1 ?_
 refine callsIn_of_wp_marks Tryz.func163 rfl trivial ?_ rfl
 simp only [Tryz.ntmps163,List.size_toArray,List.length_cons,List.length_nil,Nat.reduceAdd,Nat.reduceSub,Array.replicate_succ,Array.replicate_zero,List.push_toArray,List.append_toArray,List.nil_append,List.cons_append]
 gi_wp2
 refine wpIn_wide.2 (wp_scope_straight ((wpIn_wide (n:=5)).1 ?_))
 gi_wp2
 refine wpIn_label ?_
 gi_wp2
 have hs:=qa6 w (.int .i64 0) 2
 have hB0:Below w.heap.size w (w.alloc (.cells #[.int .i64 0] 2)):= (Below.refl _ w).alloc (Nat.le_refl _) _
 refine wpIn_rangeFunc_ownF rfl (by omega) (gf:=164) (lb:= #[.pointer (some ⟨Bn,0,none⟩)]) rfl trivial (enters_of Tryz.func164 (by kernel_rfl) rfl)
  (qdX 4 (by omega) Bn w.heap.size p hp (w.alloc (.cells #[.int .i64 0] 2)) (by simp;omega) (cell_later (qab _ _) hc)) belowK_t (belowK_b (by simp)) (Below.refl _ _) (fun _=>rfl)
  (fun pre W=> (qay (txt pre)=0∧W.cell? ⟨w.heap.size,0,none⟩=some (.int .i64 0)∧W.frozen? ⟨w.heap.size,0,none⟩=false)∧Below w.heap.size w W)
  (fun c pre W=> (c= .exit 0∧ ¬qay (txt pre)=0∧W.cell? ⟨w.heap.size,0,none⟩=some (.int .i64 (qay (txt pre)))∧W.frozen? ⟨w.heap.size,0,none⟩=false)∧Below w.heap.size w W)
  (OwnFrom.and (Own.from (fun s A B row hs hg hr=> ⟨hs.1,cell_kept hs.2.1 hg hr,(frozen_kept hs.2.1 hg hr).trans hs.2.2⟩) _) (ownFrom_below (Nat.le_refl _) (by simp)))
  (fun c=>OwnFrom.and (Own.from (fun s A B row hs hg hr=> ⟨hs.1,hs.2.1,cell_kept hs.2.2.1 hg hr,(frozen_kept hs.2.2.1 hg hr).trans hs.2.2.2⟩) _) (ownFrom_below (Nat.le_refl _) (by simp)))
  ⟨⟨rfl,hs⟩,hB0⟩
  (fun x=> {tmps:= #[.func (.func 164) #[] #[.pointer (some ⟨Bn,0,none⟩)],undef, .int .i64 0, .pointer (some ⟨w.heap.size,0,none⟩), .string (mkB x.1), .func (.func 164) #[] #[.pointer (some ⟨Bn,0,none⟩)], .string (mkB x.1),undef,undef,undef,undef,undef,undef,undef],defers:= []}) ?assign ?body ?done ?stop
 case assign=>
  intro l x W K hK
  gi_wp2
  exact hK
 case body=>
  rintro l pre x W ⟨⟨hz,hcc,hf⟩,hB⟩ hlt
  have hxs: (mkB x.1).size≤maxLen:=by rw [qaC];have:=x.2;unfold maxLen;omega
  have HS:Hid (qay (txt (pre++ [x]))=qal (mkB x.1)):=by
   unfold Hid
   have:txt (pre++ [x])=txt pre++ [x.1]:=by simp [txt]
   rw [this,qjp x.1 hz]
  gi_wp2
  refine ⟨trivial,(CallsIn.inRound l (callsIn_wide.2 (qaZ _ _ hxs))).mono ?_⟩
  rcases qjo (mkB x.1) with hv|hv|hv
  · rw [hv]
    rintro e w' ⟨rfl,rfl⟩
    gi_wp2
    exact ⟨KeepsOthers.setCell _ _ _,(Below.refl w.heap.size _).setCell (p:= ⟨w.heap.size,0,none⟩) (Nat.le_refl _) _,⟨by rw [HS.out,hv],by rw [World.cell?_setCell_same' _ _ _ (by rw [hcc];rfl)],by rw [World.frozen?_setCell];exact hf⟩,hB.setCell (p:= ⟨w.heap.size,0,none⟩) (Nat.le_refl _) _⟩
  · rw [hv]
    rintro e w' ⟨rfl,rfl⟩
    gi_wp2
    exact ⟨KeepsOthers.setCell _ _ _,⟨rfl,by rw [HS.out,hv];decide,by rw [World.cell?_setCell_same' _ _ _ (by rw [hcc];rfl),HS.out,hv],by rw [World.frozen?_setCell];exact hf⟩,hB.setCell (p:= ⟨w.heap.size,0,none⟩) (Nat.le_refl _) _⟩
  · rw [hv]
    rintro e w' ⟨rfl,rfl⟩
    gi_wp2
    exact ⟨KeepsOthers.setCell _ _ _,⟨rfl,by rw [HS.out,hv];decide,by rw [World.cell?_setCell_same' _ _ _ (by rw [hcc];rfl),HS.out,hv],by rw [World.frozen?_setCell];exact hf⟩,hB.setCell (p:= ⟨w.heap.size,0,none⟩) (Nat.le_refl _) _⟩
 case done=>
  rintro D ys W hD hys ⟨⟨hz,hcc,_⟩,hB⟩ hK
  have HYL:Hid ((0:Int)=qay (qaf p)):=by unfold Hid;rw [←hys];exact hz.symm
  clear hys
  gi_wp2
  refine ⟨by simp, .inl ⟨_,_,rfl,run_takeDeferred hK, ?_⟩⟩
  exact ⟨.int .i64 0,by simp [results,Tryz.results163,go_sem],qad HYL.out,hB.trans (belowK_b (w:=w) (Nat.le_refl _) W D _ _ (by simp at hD;omega) hK rfl rfl)⟩
 case stop=>
  rintro D c pre W hD hpre ⟨⟨rfl,hnz,hcc,_⟩,hB⟩ hK
  have HYL:Hid (qay (txt pre)=qay (qaf p)):= (qeb hpre hnz).symm
  generalize qay (txt pre)=f at*
  clear hpre
  gi_wp2
  refine ⟨by simp, .inl ⟨_,_,rfl,run_takeDeferred hK, ?_⟩⟩
  exact ⟨.int .i64 f,by simp [results,Tryz.results163,go_sem],qad HYL.out,hB.trans (belowK_b (w:=w) (Nat.le_refl _) W D _ _ (by simp at hD;omega) hK rfl rfl)⟩
end Go.Proofs.YthnmlipnoajmkaaGreatDoor

namespace Go.Proofs.YthnmlipnoajmkaaGreatDoor
open Go.Shelf Go.RowKit Go.Lib
set_option maxRecDepth 100000
def Tryz.lays137_ren:Go.Shelf.Ren:= ⟨fun |137=>165|217=>175|266=>177|n=>n,fun |9=>9|5=>5|3=>3|n=>n,fun |n=>n⟩
theorem Tryz.lays137:Go.Proofs.Lays.n137 Tryz.prog Tryz.lays137_ren:= {
 mixed:=by kernel_rfl
 f137:=Tryz.func165.trans (congrArg some (by kernel_rfl))
 f217:=Tryz.func175.trans (congrArg some (by kernel_rfl))
 f266:=Tryz.func177.trans (congrArg some (by kernel_rfl))
 t3:=Tryz.underlying3
 a3:=Tryz.isAgg3
 z3:=Tryz.sizeOf3
 v3:=Tryz.zeroValue3
 t5:=Tryz.underlying5
 a5:=Tryz.isAgg5
 z5:=Tryz.sizeOf5
 v5:=Tryz.zeroValue5
 t9:=Tryz.underlying9
 a9:=Tryz.isAgg9
 z9:=Tryz.sizeOf9
 v9:=Tryz.zeroValue9}
theorem Tryz.strings_IndexByte (s:ByteArray) (c:Int) (w:World):
 Calls Tryz.prog 165 #[.string s, .int .u8 c] w fun e w'=>e= .returned (.int .i64 (Lib.indexByte s.data.toList c.toNat.toUInt8))∧w'=w:=Any.strings_IndexByte Tryz.lays137 s c w
def Tryz.laysM316_ren:Go.Shelf.Ren:= ⟨fun |316=>150|n=>n,fun |9=>9|3=>3|4=>4|37=>27|0=>0|127=>221|5=>5|n=>n,fun |n=>n⟩
theorem Tryz.laysM316:Go.Proofs.LaysM.n316 Tryz.prog Tryz.laysM316_ren:= {
 mixed:=by kernel_rfl
 f316:=Tryz.func150.trans (congrArg some (by kernel_rfl))
 t0:=Tryz.underlying0
 a0:=Tryz.isAgg0
 z0:=Tryz.sizeOf0
 v0:=Tryz.zeroValue0
 t3:=Tryz.underlying3
 a3:=Tryz.isAgg3
 z3:=Tryz.sizeOf3
 v3:=Tryz.zeroValue3
 t4:=Tryz.underlying4
 a4:=Tryz.isAgg4
 z4:=Tryz.sizeOf4
 v4:=Tryz.zeroValue4
 t9:=Tryz.underlying9
 a9:=Tryz.isAgg9
 z9:=Tryz.sizeOf9
 v9:=Tryz.zeroValue9
 t37:=Tryz.underlying27
 a37:=Tryz.isAgg27
 z37:=Tryz.sizeOf27
 v37:=Tryz.zeroValue27
 t127:=Tryz.underlying221
 a127:=Tryz.isAgg221
 z127:=Tryz.sizeOf221
 v127:=Tryz.zeroValue221
 t5:=Tryz.underlying5
 a5:=Tryz.isAgg5
 z5:=Tryz.sizeOf5
 v5:=Tryz.zeroValue5
 i0:=by kernel_rfl
 i3:=by kernel_rfl
 i4:=by kernel_rfl
 i5:=by kernel_rfl
 i9:=by kernel_rfl
 i37:=by kernel_rfl
 i127:=by kernel_rfl}
theorem Tryz.stringslite_Clone (s:ByteArray) (w:World) (hlim:s.size≤281474976710656):
 Calls Tryz.prog 150 #[.string s] w fun e w'=>e= .returned (.string s)∧Below w.heap.size w w':=Any.stringslite_Clone Tryz.laysM316 s w hlim
def Tryz.lays217_ren:Go.Shelf.Ren:= ⟨fun |217=>175|266=>177|n=>n,fun |9=>9|5=>5|3=>3|n=>n,fun |n=>n⟩
theorem Tryz.lays217:Go.Proofs.Lays.n217 Tryz.prog Tryz.lays217_ren:= {
 mixed:=by kernel_rfl
 f217:=Tryz.func175.trans (congrArg some (by kernel_rfl))
 f266:=Tryz.func177.trans (congrArg some (by kernel_rfl))
 t3:=Tryz.underlying3
 a3:=Tryz.isAgg3
 z3:=Tryz.sizeOf3
 v3:=Tryz.zeroValue3
 t5:=Tryz.underlying5
 a5:=Tryz.isAgg5
 z5:=Tryz.sizeOf5
 v5:=Tryz.zeroValue5
 t9:=Tryz.underlying9
 a9:=Tryz.isAgg9
 z9:=Tryz.sizeOf9
 v9:=Tryz.zeroValue9}
theorem Tryz.stringslite_IndexByte (s:ByteArray) (c:Int) (w:World):
 Calls Tryz.prog 175 #[.string s, .int .u8 c] w fun e w'=>e= .returned (.int .i64 (Lib.indexByte s.data.toList c.toNat.toUInt8))∧w'=w:=Any.stringslite_IndexByte Tryz.lays217 s c w
def Tryz.lays206_ren:Go.Shelf.Ren:= ⟨fun |206=>173|n=>n,fun |9=>9|4=>4|3=>3|n=>n,fun |n=>n⟩
theorem Tryz.lays206:Go.Proofs.Lays.n206 Tryz.prog Tryz.lays206_ren:= {
 mixed:=by kernel_rfl
 f206:=Tryz.func173.trans (congrArg some (by kernel_rfl))
 t3:=Tryz.underlying3
 a3:=Tryz.isAgg3
 z3:=Tryz.sizeOf3
 v3:=Tryz.zeroValue3
 t4:=Tryz.underlying4
 a4:=Tryz.isAgg4
 z4:=Tryz.sizeOf4
 v4:=Tryz.zeroValue4
 t9:=Tryz.underlying9
 a9:=Tryz.isAgg9
 z9:=Tryz.sizeOf9
 v9:=Tryz.zeroValue9}
theorem Tryz.stringslite_HasPrefix (s p:ByteArray) (w:World):
 Calls Tryz.prog 173 #[.string s, .string p] w fun e w'=>e= .returned (.bool (Lib.hasPrefix s.data.toList p.data.toList))∧w'=w:=Any.stringslite_HasPrefix Tryz.lays206 s p w
def Tryz.lays99_ren:Go.Shelf.Ren:= ⟨fun |99=>160|206=>173|n=>n,fun |9=>9|4=>4|3=>3|n=>n,fun |n=>n⟩
theorem Tryz.lays99:Go.Proofs.Lays.n99 Tryz.prog Tryz.lays99_ren:= {
 mixed:=by kernel_rfl
 f99:=Tryz.func160.trans (congrArg some (by kernel_rfl))
 f206:=Tryz.func173.trans (congrArg some (by kernel_rfl))
 t3:=Tryz.underlying3
 a3:=Tryz.isAgg3
 z3:=Tryz.sizeOf3
 v3:=Tryz.zeroValue3
 t4:=Tryz.underlying4
 a4:=Tryz.isAgg4
 z4:=Tryz.sizeOf4
 v4:=Tryz.zeroValue4
 t9:=Tryz.underlying9
 a9:=Tryz.isAgg9
 z9:=Tryz.sizeOf9
 v9:=Tryz.zeroValue9}
theorem Tryz.strings_HasPrefix (s p:ByteArray) (w:World):
 Calls Tryz.prog 160 #[.string s, .string p] w fun e w'=>e= .returned (.bool (Lib.hasPrefix s.data.toList p.data.toList))∧w'=w:=Any.strings_HasPrefix Tryz.lays99 s p w
def Tryz.lays207_ren:Go.Shelf.Ren:= ⟨fun |207=>174|n=>n,fun |9=>9|4=>4|3=>3|n=>n,fun |n=>n⟩
theorem Tryz.lays207:Go.Proofs.Lays.n207 Tryz.prog Tryz.lays207_ren:= {
 mixed:=by kernel_rfl
 f207:=Tryz.func174.trans (congrArg some (by kernel_rfl))
 t3:=Tryz.underlying3
 a3:=Tryz.isAgg3
 z3:=Tryz.sizeOf3
 v3:=Tryz.zeroValue3
 t4:=Tryz.underlying4
 a4:=Tryz.isAgg4
 z4:=Tryz.sizeOf4
 v4:=Tryz.zeroValue4
 t9:=Tryz.underlying9
 a9:=Tryz.isAgg9
 z9:=Tryz.sizeOf9
 v9:=Tryz.zeroValue9}
theorem Tryz.stringslite_HasSuffix (s p:ByteArray) (w:World) (hs:s.size≤9223372036854775807):
 Calls Tryz.prog 174 #[.string s, .string p] w fun e w'=>e= .returned (.bool (Lib.hasSuffix s.data.toList p.data.toList))∧w'=w:=Any.stringslite_HasSuffix Tryz.lays207 s p w hs
def Tryz.lays100_ren:Go.Shelf.Ren:= ⟨fun |100=>161|207=>174|n=>n,fun |9=>9|4=>4|3=>3|n=>n,fun |n=>n⟩
theorem Tryz.lays100:Go.Proofs.Lays.n100 Tryz.prog Tryz.lays100_ren:= {
 mixed:=by kernel_rfl
 f100:=Tryz.func161.trans (congrArg some (by kernel_rfl))
 f207:=Tryz.func174.trans (congrArg some (by kernel_rfl))
 t3:=Tryz.underlying3
 a3:=Tryz.isAgg3
 z3:=Tryz.sizeOf3
 v3:=Tryz.zeroValue3
 t4:=Tryz.underlying4
 a4:=Tryz.isAgg4
 z4:=Tryz.sizeOf4
 v4:=Tryz.zeroValue4
 t9:=Tryz.underlying9
 a9:=Tryz.isAgg9
 z9:=Tryz.sizeOf9
 v9:=Tryz.zeroValue9}
theorem Tryz.strings_HasSuffix (s p:ByteArray) (w:World) (hs:s.size≤9223372036854775807):
 Calls Tryz.prog 161 #[.string s, .string p] w fun e w'=>e= .returned (.bool (Lib.hasSuffix s.data.toList p.data.toList))∧w'=w:=Any.strings_HasSuffix Tryz.lays100 s p w hs
end Go.Proofs.YthnmlipnoajmkaaGreatDoor

namespace Go.Proofs.YthnmlipnoajmkaaGreatDoor
open Go.RowKit
set_option maxRecDepth 100000

def qjq (l:List UInt8):Bool:=l.head?==some 47
def qh4 (l:List UInt8):Bool:=l.getLast?==some 47
def qjc (l:List UInt8):Bool:=l== [47]
theorem qpj (l:List UInt8):Lib.hasPrefix l [47]=qjq l:=by
 cases l with
 |nil=>rfl
 |cons b t=>simp [Lib.hasPrefix,qjq,List.isPrefixOf];exact BEq.comm
theorem qpk (l:List UInt8):Lib.hasSuffix l [47]=qh4 l:=by
 unfold Lib.hasSuffix qh4
 cases h:l.reverse with
 | nil=>
   have:l= []:=by simpa using h
   subst this;rfl
 | cons b t=>
   have:l=t.reverse++ [b]:=by
    have:=congrArg List.reverse h
    simpa using this
   subst this
   simp [List.isSuffixOf,List.isPrefixOf];exact BEq.comm
def qan (l:List UInt8):Int:=
 if 30<l.length then 2 else if qjq l=true then (if qh4 l=true∧qjc l=false then 5 else if 6< (qaf l).length then 2 else qay (qaf l)) else 5

theorem qcc (w:World) (l:List UInt8):Calls Tryz.prog 160 #[.string (mkB l), .string ⟨#[47]⟩] w fun e w'=>e= .returned (.bool (qjq l))∧w'=w:=by
 have h:=Tryz.strings_HasPrefix (mkB l) ⟨#[47]⟩ w
 rw [qcp] at h
 rw [←qpj]
 exact h
theorem qcF (w:World) (l:List UInt8) (hl:l.length≤1048576):Calls Tryz.prog 161 #[.string (mkB l), .string ⟨#[47]⟩] w fun e w'=>e= .returned (.bool (qh4 l))∧w'=w:=by
 have h:=Tryz.strings_HasSuffix (mkB l) ⟨#[47]⟩ w (by rw [qaC];omega)
 rw [qcp] at h
 rw [←qpk]
 exact h

set_option maxHeartbeats 1600000 in
theorem qec (w:World) (l:List UInt8) (hl:l.length≤1048576):
 Calls Tryz.prog 141 #[.string (mkB l)] w fun e w'=>e= .returned (.int .i64 (qan l))∧Below w.heap.size w w':=by
 have hsz:=qaC l
 have HP:Hid (qan l=if 30<l.length then 2 else if qjq l=true then (if qh4 l=true∧qjc l=false then 5 else if 6< (qaf l).length then 2 else qay (qaf l)) else 5):=rfl
 rw [HP.out]
 by_cases h30:30<l.length
 · rw [if_pos h30]
   have h30': (30:Int)< (l.length:Int):=by omega
   go_enter Tryz.func141,Tryz.ntmps141
   go_wp2
   go_ret
   exact ⟨rfl,Below.refl _ _⟩
 · rw [if_neg h30]
   have h30':decide ((30:Int)< (l.length:Int))=false:=by simp;omega
   have h30'':decide (30<l.length)=false:=by simp;omega
   clear h30
   cases hpre:qjq l
   · have HQ:Hid (qjq l=false):=hpre
     rw [if_neg (by simp)]
     clear hpre
     go_enter Tryz.func141,Tryz.ntmps141
     go_wp2_with fail
     refine (qcc _ l).mono ?_
     rw [HQ.out]
     rintro e w1 ⟨rfl,rfl⟩
     go_wp2
     go_ret
     exact ⟨rfl,Below.refl _ _⟩
   · have HQ:Hid (qjq l=true):=hpre
     rw [if_pos rfl]
     clear hpre HP
     by_cases hbad:qh4 l=true∧qjc l=false
     · rw [if_pos hbad]
       have HS:Hid (qh4 l=true):=hbad.1
       have ht: ((mkB l).toList== [47])=false:=by rw [qbg];exact hbad.2
       clear hbad
       go_enter Tryz.func141,Tryz.ntmps141
       go_wp2_with fail
       refine (qcc _ l).mono ?_
       rw [HQ.out]
       rintro e w1 ⟨rfl,rfl⟩
       go_wp2_with fail
       refine (qcF _ l hl).mono ?_
       rw [HS.out]
       rintro e w1 ⟨rfl,rfl⟩
       go_wp2
       go_ret
       exact ⟨rfl,Below.refl _ _⟩
     · rw [if_neg hbad]
       cases hs:qh4 l
       · have HS:Hid (qh4 l=false):=hs
         clear hs hbad
         by_cases h6:6< (qaf l).length
         · rw [if_pos h6]
           have h6': (6:Int)< ((qaf l).length:Int):=by omega
           go_enter Tryz.func141,Tryz.ntmps141
           go_wp2_with fail
           refine (qcc _ l).mono ?_
           rw [HQ.out]
           rintro e w1 ⟨rfl,rfl⟩
           go_wp2_with fail
           refine (qcF _ l hl).mono ?_
           rw [HS.out]
           rintro e w1 ⟨rfl,rfl⟩
           go_wp2_with fail
           refine (qbo _ l).mono ?_
           rintro e w2 ⟨rfl,rfl⟩
           go_wp2_with fail
           refine (qcV _ _ l hl (by simp) (qa6 w1 _ _).1).mono ?_
           rintro e w2 ⟨rfl,hb2⟩
           have HW2:Hid (Below w1.heap.size w1 w2):= (qab _ _).trans (hb2.mono (by simp))
           clear hb2
           go_wp2
           go_ret
           exact ⟨rfl,HW2.out⟩
         · rw [if_neg h6]
           have h6':decide ((6:Int)< ((qaf l).length:Int))=false:=by simp;omega
           have h6'':decide (6< (qaf l).length)=false:=by simp;omega
           clear h6
           go_enter Tryz.func141,Tryz.ntmps141
           go_wp2_with fail
           refine (qcc _ l).mono ?_
           rw [HQ.out]
           rintro e w1 ⟨rfl,rfl⟩
           go_wp2_with fail
           refine (qcF _ l hl).mono ?_
           rw [HS.out]
           rintro e w1 ⟨rfl,rfl⟩
           go_wp2_with fail
           refine (qbo _ l).mono ?_
           rintro e w2 ⟨rfl,rfl⟩
           go_wp2_with fail
           refine (qcV _ _ l hl (by simp) (qa6 w1 _ _).1).mono ?_
           rintro e w2 ⟨rfl,hb2⟩
           have HW2:Hid (Below w1.heap.size w1 w2):= (qab _ _).trans (hb2.mono (by simp))
           clear hb2
           go_wp2_with fail
           refine (qbo _ l).mono ?_
           rintro e w3 ⟨rfl,rfl⟩
           go_wp2_with fail
           refine (qdP _ _ l hl (by simp) (qa6 w2 _ _).1).mono ?_
           rintro e w3 ⟨rfl,hb3⟩
           have HW3:Hid (Below w1.heap.size w1 w3):=HW2.out.trans (((qab _ _).trans (hb3.mono (by simp))).mono HW2.out.size)
           clear hb3
           go_wp2
           go_ret
           exact ⟨rfl,HW3.out⟩
       · have HS:Hid (qh4 l=true):=hs
         have ht: ((mkB l).toList== [47])=true:=by
          rw [qbg]
          cases h:qjc l
          · exact absurd ⟨hs,h⟩ hbad
          · exact h
         clear hs hbad
         by_cases h6:6< (qaf l).length
         · rw [if_pos h6]
           have h6': (6:Int)< ((qaf l).length:Int):=by omega
           go_enter Tryz.func141,Tryz.ntmps141
           go_wp2_with fail
           refine (qcc _ l).mono ?_
           rw [HQ.out]
           rintro e w1 ⟨rfl,rfl⟩
           go_wp2_with fail
           refine (qcF _ l hl).mono ?_
           rw [HS.out]
           rintro e w1 ⟨rfl,rfl⟩
           go_wp2_with fail
           refine (qbo _ l).mono ?_
           rintro e w2 ⟨rfl,rfl⟩
           go_wp2_with fail
           refine (qcV _ _ l hl (by simp) (qa6 w1 _ _).1).mono ?_
           rintro e w2 ⟨rfl,hb2⟩
           have HW2:Hid (Below w1.heap.size w1 w2):= (qab _ _).trans (hb2.mono (by simp))
           clear hb2
           go_wp2
           go_ret
           exact ⟨rfl,HW2.out⟩
         · rw [if_neg h6]
           have h6':decide ((6:Int)< ((qaf l).length:Int))=false:=by simp;omega
           have h6'':decide (6< (qaf l).length)=false:=by simp;omega
           clear h6
           go_enter Tryz.func141,Tryz.ntmps141
           go_wp2_with fail
           refine (qcc _ l).mono ?_
           rw [HQ.out]
           rintro e w1 ⟨rfl,rfl⟩
           go_wp2_with fail
           refine (qcF _ l hl).mono ?_
           rw [HS.out]
           rintro e w1 ⟨rfl,rfl⟩
           go_wp2_with fail
           refine (qbo _ l).mono ?_
           rintro e w2 ⟨rfl,rfl⟩
           go_wp2_with fail
           refine (qcV _ _ l hl (by simp) (qa6 w1 _ _).1).mono ?_
           rintro e w2 ⟨rfl,hb2⟩
           have HW2:Hid (Below w1.heap.size w1 w2):= (qab _ _).trans (hb2.mono (by simp))
           clear hb2
           go_wp2_with fail
           refine (qbo _ l).mono ?_
           rintro e w3 ⟨rfl,rfl⟩
           go_wp2_with fail
           refine (qdP _ _ l hl (by simp) (qa6 w2 _ _).1).mono ?_
           rintro e w3 ⟨rfl,hb3⟩
           have HW3:Hid (Below w1.heap.size w1 w3):=HW2.out.trans (((qab _ _).trans (hb3.mono (by simp))).mono HW2.out.size)
           clear hb3
           go_wp2
           go_ret
           exact ⟨rfl,HW3.out⟩
end Go.Proofs.YthnmlipnoajmkaaGreatDoor

namespace Go.Proofs.YthnmlipnoajmkaaGreatDoor
open Go.RowKit Go.Shelf
set_option maxRecDepth 100000
attribute [local go_sem] Oper.semAt_some

theorem Tryz.infoStr: (Tryz.prog.info? 9).map (fun i=> (i.zero,i.size,i.bytes))=some (some (.string ⟨#[]⟩),1,16):=by kernel_rfl
def qdf (l:List UInt8):Value:= .string (mkB l)
theorem qed (w:World) (l:List UInt8) (hl:l.length≤1048576):Calls Tryz.prog 129 #[.string (mkB l)] w fun e w'=>e= .returned (.string (mkB l))∧Below w.heap.size w w':=by
 go_enter Tryz.func129,Tryz.ntmps129
 go_wp2_with fail
 refine (Tryz.stringslite_Clone (mkB l) _ (by rw [qaC];omega)).mono ?_
 rintro e w1 ⟨rfl,hb1⟩
 go_wp2
 go_ret
 exact ⟨rfl,hb1⟩
def qah (l:List UInt8):List (List UInt8):=if qan l=0 then qaf l else []

theorem qbh {B:Nat} {e:TypeId} {k:Nat} {v:Value} {n:Nat} {xs:List Value} {w w':World} (h:w.ownsRow B e k v n xs) (hb:Below w.heap.size w w'):w'.ownsRow B e k v n xs:=
 h.kept (row:=none) ⟨hb.os,hb.tape,hb.output,hb.size,fun j hj _=>hb.block j hj⟩ (by cases hv:v.ownBlock<;>simp)
theorem qa1 {w:World} {B:Nat} {e:TypeId} {k:Nat} {v:Value} {n:Nat} {xs:List Value} (h:w.ownsRow B e k v n xs): ∃a c,v= .slice a n c:=by
 rcases h.2 with ⟨rfl,rfl⟩| ⟨g,cap,cur,rfl,_⟩
 · exact ⟨_,_,rfl⟩
 · exact ⟨_,_,rfl⟩
theorem qcr {w:World} {B B':Nat} {e:TypeId} {k:Nat} {v:Value} {n:Nat} {xs:List Value} (h:w.ownsRow B e k v n xs) (hb:B'≤B):w.ownsRow B' e k v n xs:=by
 obtain ⟨hl,h| ⟨g,cap,cur,h1,h2,r⟩⟩:=h
 · exact ⟨hl,Or.inl h⟩
 · exact ⟨hl,Or.inr ⟨g,cap,cur,h1,Nat.le_trans hb h2,r⟩⟩
theorem qee {w:World} {B:Nat} {e:TypeId} {k:Nat} {v:Value} {n:Nat} {xs:List Value} (h:w.ownsRow B e k v n xs) {p:Addr} (hp:p.block<B) (u:Value): (w.setCell p u).ownsRow B e k v n xs:=by
 obtain ⟨hl,h| ⟨g,cap,cur,h1,h2,h3,r⟩⟩:=h
 · exact ⟨hl,Or.inl h⟩
 · exact ⟨hl,Or.inr ⟨g,cap,cur,h1,h2,(Below.heap_setCell _ _ _ _ (by omega)).trans h3,r⟩⟩
theorem qjr {w w':World} (hb:Below w.heap.size w w'):KeepsOthers w w':= ⟨hb.size,fun j _ hj _=> (hb.block j (Array.getElem?_eq_some_iff.1 hj).1).trans hj⟩
theorem qaa.newS (w:World) (x y:Value) (t:TypeId):qaa (w.alloc (.cells #[x,y] t)) w.heap.size 2 (fun i=>if i=0 then x else y):=by
 refine ⟨_,t,World.alloc_heap_new w _,by simp,fun i hi=> ?_⟩
 have:i=0∨i=1:=by omega
 rcases this with rfl|rfl<;>simp

theorem qeK (W w2:World) (n₀ B:Nat) (v:Value) (n:Nat) (xs:List Value) (y:List UInt8) (hxn:xs.length=n) (hv:Boxed W B 28 v) (hrow:W.ownsRow n₀ 9 1 v n xs) (hn₀:n₀≤W.heap.size) (hB:n₀≤B) (hb2:Below W.heap.size W w2) (hn:n≤1048577):
 ∃ g c X,(Builtin.append_ #[28,28] 28 #[v, .slice (some ⟨w2.heap.size,0,none⟩) 1 1]).run Tryz.prog (w2.alloc (.cells #[qdf y] 9))= .ok (.slice (some ⟨g,0,none⟩) (n+1) c) X∧X.cell? ⟨B,0,none⟩=some v∧X.frozen? ⟨B,0,none⟩=false∧
  Boxed (X.setCell ⟨B,0,none⟩ (.slice (some ⟨g,0,none⟩) (n+1) c)) B 28 (.slice (some ⟨g,0,none⟩) (n+1) c)∧ (X.setCell ⟨B,0,none⟩ (.slice (some ⟨g,0,none⟩) (n+1) c)).ownsRow n₀ 9 1 (.slice (some ⟨g,0,none⟩) (n+1) c) (n+1) (xs++ [qdf y])∧
  KeepsOthers W (X.setCell ⟨B,0,none⟩ (.slice (some ⟨g,0,none⟩) (n+1) c))∧Below n₀ W (X.setCell ⟨B,0,none⟩ (.slice (some ⟨g,0,none⟩) (n+1) c)):=by
 subst hxn
 obtain ⟨i0,hi,hz0,hz1,hz2⟩:=info_parts Tryz.infoStr
 have hv2:Boxed w2 B 28 v:= (hb2.block B hv.lt).trans hv
 have hrow2:=qbh hrow hb2
 have hs2:=hb2.size
 obtain ⟨v',X,hr,hown,hgrow,_⟩:=run_append_own (P:=Tryz.prog) (w2.alloc (.cells #[qdf y] 9)) n₀ 28 28 9 i0 (.string ⟨#[]⟩) 1 16 Tryz.underlying28 hi hz0 hz1 hz2 rfl (by decide) v xs.length xs (qbh hrow2 (qab _ _)) ⟨w2.heap.size,0,none⟩ 1 1 [qdf y] rfl (cell_one_new _ _ _) (by simp [Value.oneCell',qdf]) (by unfold maxLen;omega) (by omega) (by simp;omega)
 obtain ⟨g,c,rfl⟩:=ownsRow_succ hown
 obtain ⟨h1,h2,h3,h4,h5⟩:=hv2.appended (by decide) hrow2 (by omega) hB hown hgrow
 exact ⟨g,c,X,hr,h1.cell,h1.frozen,h2,h3,(qjr hb2).trans h4,(hb2.mono hn₀).trans h5⟩

theorem qbi {F:Fence} {n:Nat} {P:Program} {w:World} {ops:Array Oper} {o:Oper} {a:Act} {K:Act→World→Prop} {Q:Exit→Act→World→Prop} {E:Prop} (hgd:o.guard=none) (s x:Operand) (t:TypeId)
 (hop:o.op= .call {callee:= .builtin .append,args:= #[s,x],argTypes:= #[t,t]}) (v y:Value) (hs:a.eval s=v) (hx:a.eval x=y) (v':Value) (w':World)
 (hr: (Builtin.append_ #[t,t] o.type #[v,y]).run P w= .ok v' w') (h:K (a.put o.dst v') w'):if Region.wanted o (yielded ops a.tmps)=true then Oper.wpIn F n P o a w K Q else E:=by
 have hw:Region.wanted o (yielded ops a.tmps)=true:=by simp [Region.wanted,hgd]
 rw [if_pos hw]
 unfold Oper.wpIn
 refine ⟨?_, ?_⟩
 · simp [Oper.about,hop,resolve,Target.leads,Sem.run_pure]
 · rw [Oper.semAt_plain F _ _ (by rw [hop];intro c hc';cases hc')]
   simp [execOp,hop,resolve,invoke,builtin,hs,hx,hr,Result.andThen]
   exact h

set_option maxRecDepth 100000 in
set_option maxHeartbeats 2000000 in
theorem qb4 (w:World) (p:List UInt8) (hp:p.length≤1048576) (h0: ¬qan p=0):
 Calls Tryz.prog 119 #[.string (mkB p)] w fun e w'=>e= .returned (.agg #[.int .i64 (qan p), .slice none 0 0])∧Below w.heap.size w w':=by
 generalize hf:qan p=f at*
 have HF:Hid (qan p=f):=hf
 have hne: (f !=0)=true:=by simpa using h0
 clear hf h0
 go_enter Tryz.func119,Tryz.ntmps119
 go_wp2_with fail
 refine (qec _ p hp).mono ?_
 rw [HF.out]
 rintro e w1 ⟨rfl,hb1⟩
 have HW1:Hid (Below w.heap.size w w1):= (qab _ _).trans (hb1.mono (by simp))
 have HR:= (qaa.newS w (.int .i64 0) (.slice none 0 0) 126).block (hb1.block w.heap.size (by simp))
 have t0:=HR.cell (i:=0) (by omega)
 have t1:=HR.cell (i:=1) (by omega)
 have s0:=HR.frozen 0
 have s1:=HR.frozen 1
 simp at t0 t1
 clear hb1 HR
 go_wp2
 exact bodyPost_ret (v:= .agg #[.int .i64 f, .slice none 0 0]) (by simp [results,Tryz.results119,go_sem,t0,t1]) rfl ⟨rfl,(HW1.out.setCell (by simp) _).setCell (by simp) _⟩

set_option maxRecDepth 100000 in
set_option maxHeartbeats 2000000 in
theorem qbS (w:World) (p:List UInt8) (hp:p.length≤1048576) (h0:qan p=0):
 Calls Tryz.prog 119 #[.string (mkB p)] w fun e w'=> ∃a c,e= .returned (.agg #[.int .i64 0, .slice a (qaf p).length c])∧Below w.heap.size w w'∧w'.ownsRow w.heap.size 9 1 (.slice a (qaf p).length c) (qaf p).length ((qaf p).map qdf):=by
 have HF:Hid (qan p=0):=h0
 have hlen:=qcE p
 clear h0
 refine (callsIn_wide (n:=6)).1 ?_
 refine callsIn_of_wp_marks Tryz.func119 rfl trivial ?_ rfl
 simp only [Tryz.ntmps119,List.size_toArray,List.length_cons,List.length_nil,Nat.reduceAdd,Nat.reduceSub,Array.replicate_succ,Array.replicate_zero,List.push_toArray,List.append_toArray,List.nil_append,List.cons_append]
 gi_wp2
 refine ⟨trivial,(callsIn_wide.2 (qec _ p hp)).mono ?_⟩
 rw [HF.out]
 rintro e w1 ⟨rfl,hb1⟩
 have HW1:Hid (Below w.heap.size w w1):= (qab _ _).trans (hb1.mono (by simp))
 have HR1:Hid (qaa w1 w.heap.size 2 (fun i=>if i=0 then .int .i64 0 else .slice none 0 0)):= (qaa.newS w (.int .i64 0) (.slice none 0 0) 126).block (hb1.block w.heap.size (by simp))
 clear hb1
 gi_wp2
 refine ⟨trivial,(callsIn_wide.2 (qbo _ p)).mono ?_⟩
 rintro e w2 ⟨rfl,rfl⟩
 gi_wp2
 have bO:=Boxed.new w1 28 (.slice none 0 0)
 have hB0:Below w1.heap.size w1 ((w1.alloc (.cells #[.slice none 0 0] 28)).alloc (.cells #[.string (mkB p)] 9)):=qam _ _ _
 have hcs: ((w1.alloc (.cells #[.slice none 0 0] 28)).alloc (.cells #[.string (mkB p)] 9)).cell? ⟨w1.heap.size+1,0,none⟩=some (.string (mkB p)):=by
  have:= (qa6 (w1.alloc (.cells #[.slice none 0 0] 28)) (.string (mkB p)) 9).1
  rwa [World.size_alloc] at this
 refine wpIn_rangeFunc_ownF rfl (by omega) (gf:=164) (lb:= #[.pointer (some ⟨w1.heap.size+1,0,none⟩)]) rfl trivial (enters_of Tryz.func164 (by kernel_rfl) rfl)
  (qdX 5 (by omega) (w1.heap.size+1) w1.heap.size p hp _ (by simp) hcs) belowK_t (belowK_b (by simp;omega)) (Below.refl _ _) (fun _=>rfl)
  (fun pre W=> (∃v,Boxed W w1.heap.size 28 v∧W.ownsRow w1.heap.size 9 1 v pre.length ((txt pre).map qdf)∧True)∧Below w1.heap.size w1 W)
  (fun _ _ _=>False)
  (OwnFrom.and (Own.from (holdsRow_own w1.heap.size w1.heap.size 28 9 1 (fun pre=>pre.length) (fun pre=> (txt pre).map qdf) (fun _ _=>True)) _) (ownFrom_below (Nat.le_refl _) (by simp;omega)))
  (fun _ _ _ _ _ hs _ _=>hs)
  ⟨⟨_,bO.alloc _,World.ownsRow_nil _ _ _ _,trivial⟩,hB0⟩
  (fun x=> {tmps:= #[.string (mkB p),undef, .pointer (some ⟨w.heap.size,0,none⟩), .int .i64 0, .pointer (some ⟨w1.heap.size,0,none⟩), .string (mkB x.1), .string (mkB p), .int .i64 0, .int .i64 0, .bool false,undef,undef, .string (mkB p), .func (.func 164) #[] #[.pointer (some ⟨w1.heap.size+1,0,none⟩)], .string (mkB x.1),undef,undef,undef,undef,undef,undef,undef],defers:= []}) ?assign ?body ?done ?stop
 case assign=>
  intro l x W K hK
  gi_wp2
  exact hK
 case body =>
  rintro l pre x W ⟨⟨v,hv,hrow,_⟩,hB⟩ hlt
  obtain ⟨aV,cV,rfl⟩:=qa1 hrow
  have hc:=hv.cell
  have hxl:=x.2
  have HML:Hid (((txt pre).map qdf).length=pre.length):=by unfold Hid;simp [txt]
  have hmx:Tryz.prog.follows Departure.mixedOrders=true:=by kernel_rfl
  have HSN:Hid (txt (pre++ [x])=txt pre++ [x.1]):=by unfold Hid;simp [txt]
  have HROW:Hid (W.ownsRow w1.heap.size 9 1 (.slice aV pre.length cV) pre.length ((txt pre).map qdf)):=hrow
  have HV:Hid (Boxed W w1.heap.size 28 (.slice aV pre.length cV)):=hv
  have HB:Hid (Below w1.heap.size w1 W):=hB
  clear hrow hv hB
  gi_wp2
  refine wpIn_region_any hmx ?_
  change wpAnyIn _ _ _ _ _ _ _ _ _ (World.drew _)
  refine wpAnyIn_ready (rs:= [0,1]) (by kernel_rfl) (by simp) ?_
  refine AllReadyIn.cons rfl (fun K hK=> ?_) ?_
  · go_simp
    refine hK _ _ ?_
    clear hK K
    refine wpAnyIn_ready (rs:= [1]) (by kernel_rfl) (by simp) ?_
    refine AllReadyIn.cons rfl (fun K hK=> ?_) ?_
    · go_simp
      refine hK _ _ ?_
      clear hK K
      refine wpAnyIn_ready (rs:= [2]) (by kernel_rfl) (by simp) ?_
      refine AllReadyIn.cons rfl (fun K hK=> ?_) ?_
      · go_simp
        refine ⟨trivial, ?_⟩
        refine (CallsIn.inRound l (callsIn_wide.2 (qed _ x.1 hxl))).mono ?_
        rintro e w3 ⟨rfl,hb3'⟩
        have hb3:Below W.heap.size W w3:= (Below.refl _ _).drew.trans hb3'
        have hc3:=cell_later hb3 hc
        have hzB:w1.heap.size<w3.heap.size:=Nat.lt_of_lt_of_le HV.out.lt hb3.size
        obtain ⟨g,c,X,hap,hX0,hX1,hX2,hX3,hX4,hX5⟩:=qeK W w3 w1.heap.size w1.heap.size _ pre.length _ x.1 HML.out HV.out HROW.out HB.out.size (Nat.le_refl _) hb3 (by omega)
        have HAP:Hid (_=_):=hap
        clear hap hb3'
        refine hK _ _ ?_
        clear hK K
        refine wpAnyIn_ready (rs:= [3]) (by kernel_rfl) (by simp) ?_
        refine AllReadyIn.cons rfl (fun K hK=> ?_) ?_
        · go_simp
          refine hK _ _ ?_
          clear hK K
          refine wpAnyIn_ready (rs:= [4]) (by kernel_rfl) (by simp) ?_
          refine AllReadyIn.cons rfl (fun K hK=> ?_) ?_
          · refine qbi rfl _ _ 28 rfl _ _ rfl rfl _ _ HAP.out ?_
            refine hK _ _ ?_
            clear hK K
            refine wpAnyIn_ready (rs:= [5]) (by kernel_rfl) (by simp) ?_
            refine AllReadyIn.cons rfl (fun K hK=> ?_) ?_
            · go_simp
              refine hK _ _ ?_
              clear hK K
              refine wpAnyIn_done (by kernel_rfl) ?_ _
              exact ⟨hX4,hX5,⟨_,hX2,by rw [HSN.out,List.map_append,List.length_append];exact hX3,trivial⟩,HB.out.trans hX5⟩
            exact AllReadyIn.nil
          exact AllReadyIn.nil
        exact AllReadyIn.nil
      exact AllReadyIn.nil
    exact AllReadyIn.nil
  refine AllReadyIn.cons rfl (fun K hK=> ?_) ?_
  · go_simp
    refine hK _ _ ?_
    clear hK K
    refine wpAnyIn_ready (rs:= [0,2]) (by kernel_rfl) (by simp) ?_
    refine AllReadyIn.cons rfl (fun K hK=> ?_) ?_
    · go_simp
      refine hK _ _ ?_
      clear hK K
      refine wpAnyIn_ready (rs:= [2]) (by kernel_rfl) (by simp) ?_
      refine AllReadyIn.cons rfl (fun K hK=> ?_) ?_
      · go_simp
        refine ⟨trivial, ?_⟩
        refine (CallsIn.inRound l (callsIn_wide.2 (qed _ x.1 hxl))).mono ?_
        rintro e w3 ⟨rfl,hb3'⟩
        have hb3:Below W.heap.size W w3:= (Below.refl _ _).drew.trans hb3'
        have hc3:=cell_later hb3 hc
        have hzB:w1.heap.size<w3.heap.size:=Nat.lt_of_lt_of_le HV.out.lt hb3.size
        obtain ⟨g,c,X,hap,hX0,hX1,hX2,hX3,hX4,hX5⟩:=qeK W w3 w1.heap.size w1.heap.size _ pre.length _ x.1 HML.out HV.out HROW.out HB.out.size (Nat.le_refl _) hb3 (by omega)
        have HAP:Hid (_=_):=hap
        clear hap hb3'
        refine hK _ _ ?_
        clear hK K
        refine wpAnyIn_ready (rs:= [3]) (by kernel_rfl) (by simp) ?_
        refine AllReadyIn.cons rfl (fun K hK=> ?_) ?_
        · go_simp
          refine hK _ _ ?_
          clear hK K
          refine wpAnyIn_ready (rs:= [4]) (by kernel_rfl) (by simp) ?_
          refine AllReadyIn.cons rfl (fun K hK=> ?_) ?_
          · refine qbi rfl _ _ 28 rfl _ _ rfl rfl _ _ HAP.out ?_
            refine hK _ _ ?_
            clear hK K
            refine wpAnyIn_ready (rs:= [5]) (by kernel_rfl) (by simp) ?_
            refine AllReadyIn.cons rfl (fun K hK=> ?_) ?_
            · go_simp
              refine hK _ _ ?_
              clear hK K
              refine wpAnyIn_done (by kernel_rfl) ?_ _
              exact ⟨hX4,hX5,⟨_,hX2,by rw [HSN.out,List.map_append,List.length_append];exact hX3,trivial⟩,HB.out.trans hX5⟩
            exact AllReadyIn.nil
          exact AllReadyIn.nil
        exact AllReadyIn.nil
      exact AllReadyIn.nil
    refine AllReadyIn.cons rfl (fun K hK=> ?_) ?_
    · go_simp
      refine ⟨trivial, ?_⟩
      refine (CallsIn.inRound l (callsIn_wide.2 (qed _ x.1 hxl))).mono ?_
      rintro e w3 ⟨rfl,hb3'⟩
      have hb3:Below W.heap.size W w3:= (Below.refl _ _).drew.trans hb3'
      have hc3:=cell_later hb3 hc
      have hzB:w1.heap.size<w3.heap.size:=Nat.lt_of_lt_of_le HV.out.lt hb3.size
      obtain ⟨g,c,X,hap,hX0,hX1,hX2,hX3,hX4,hX5⟩:=qeK W w3 w1.heap.size w1.heap.size _ pre.length _ x.1 HML.out HV.out HROW.out HB.out.size (Nat.le_refl _) hb3 (by omega)
      have HAP:Hid (_=_):=hap
      clear hap hb3'
      refine hK _ _ ?_
      clear hK K
      refine wpAnyIn_ready (rs:= [0,3]) (by kernel_rfl) (by simp) ?_
      refine AllReadyIn.cons rfl (fun K hK=> ?_) ?_
      · go_simp
        refine hK _ _ ?_
        clear hK K
        refine wpAnyIn_ready (rs:= [3]) (by kernel_rfl) (by simp) ?_
        refine AllReadyIn.cons rfl (fun K hK=> ?_) ?_
        · go_simp
          refine hK _ _ ?_
          clear hK K
          refine wpAnyIn_ready (rs:= [4]) (by kernel_rfl) (by simp) ?_
          refine AllReadyIn.cons rfl (fun K hK=> ?_) ?_
          · refine qbi rfl _ _ 28 rfl _ _ rfl rfl _ _ HAP.out ?_
            refine hK _ _ ?_
            clear hK K
            refine wpAnyIn_ready (rs:= [5]) (by kernel_rfl) (by simp) ?_
            refine AllReadyIn.cons rfl (fun K hK=> ?_) ?_
            · go_simp
              refine hK _ _ ?_
              clear hK K
              refine wpAnyIn_done (by kernel_rfl) ?_ _
              exact ⟨hX4,hX5,⟨_,hX2,by rw [HSN.out,List.map_append,List.length_append];exact hX3,trivial⟩,HB.out.trans hX5⟩
            exact AllReadyIn.nil
          exact AllReadyIn.nil
        exact AllReadyIn.nil
      refine AllReadyIn.cons rfl (fun K hK=> ?_) ?_
      · go_simp
        refine hK _ _ ?_
        clear hK K
        refine wpAnyIn_ready (rs:= [0]) (by kernel_rfl) (by simp) ?_
        refine AllReadyIn.cons rfl (fun K hK=> ?_) ?_
        · go_simp
          refine hK _ _ ?_
          clear hK K
          refine wpAnyIn_ready (rs:= [4]) (by kernel_rfl) (by simp) ?_
          refine AllReadyIn.cons rfl (fun K hK=> ?_) ?_
          · refine qbi rfl _ _ 28 rfl _ _ rfl rfl _ _ HAP.out ?_
            refine hK _ _ ?_
            clear hK K
            refine wpAnyIn_ready (rs:= [5]) (by kernel_rfl) (by simp) ?_
            refine AllReadyIn.cons rfl (fun K hK=> ?_) ?_
            · go_simp
              refine hK _ _ ?_
              clear hK K
              refine wpAnyIn_done (by kernel_rfl) ?_ _
              exact ⟨hX4,hX5,⟨_,hX2,by rw [HSN.out,List.map_append,List.length_append];exact hX3,trivial⟩,HB.out.trans hX5⟩
            exact AllReadyIn.nil
          exact AllReadyIn.nil
        exact AllReadyIn.nil
      exact AllReadyIn.nil
    exact AllReadyIn.nil
  exact AllReadyIn.nil
 case done=>
  rintro D ys W hD hys ⟨⟨v,hv,hrow,_⟩,hB⟩ hK
  obtain ⟨aV,cV,rfl⟩:=qa1 hrow
  have HYL:Hid (ys.length= (qaf p).length):=by unfold Hid;rw [←hys];simp
  have HYS:Hid (txt ys=qaf p):=hys
  have hc:=hv.cell
  have HR:=HR1.out.block (hB.block w.heap.size HR1.out.lt)
  have t0:=HR.cell (i:=0) (by omega)
  have t1:=HR.cell (i:=1) (by omega)
  have s0:=HR.frozen 0
  have s1:=HR.frozen 1
  simp at t0 t1
  have hne:w.heap.size≠w1.heap.size:=by have:=HR1.out.lt;omega
  have hlt1:w.heap.size<w1.heap.size:=HR1.out.lt
  clear hys
  gi_wp2
  have hK':= ((KeepsOthers.setCell W ⟨w.heap.size,0,none⟩ (.int .i64 0)).trans (KeepsOthers.setCell _ ⟨w.heap.size,1,none⟩ (.slice aV ys.length cV))).same D _ hK rfl
  refine ⟨by simp, .inl ⟨_,_,rfl,run_takeDeferred hK', ?_⟩⟩
  have HS:= (HR.set 0 (.int .i64 0)).set 1 (.slice aV ys.length cV)
  have e0:=HS.cell (i:=0) (by omega)
  have e1:=HS.cell (i:=1) (by omega)
  simp at e0 e1
  have c0:=cell_kept e0 (grownBy_putObj' _ D (.deferred none)) (fun r e=>by cases e;exact ⟨_,hK',rfl⟩)
  have c1:=cell_kept e1 (grownBy_putObj' _ D (.deferred none)) (fun r e=>by cases e;exact ⟨_,hK',rfl⟩)
  refine ⟨.agg #[.int .i64 0, .slice aV ys.length cV],by simp [results,Tryz.results119,go_sem,c0,c1],aV,cV,by rw [HYL.out], ?_, ?_⟩
  · have h1:Below w.heap.size w W:=HW1.out.trans (hB.mono HW1.out.size)
    exact ((h1.setCell (p:= ⟨w.heap.size,0,none⟩) (Nat.le_refl _) _).setCell (p:= ⟨w.heap.size,1,none⟩) (Nat.le_refl _) _).trans (belowK_b (w:=w) (Nat.le_refl _) _ D _ _ (by simp at hD;have:=HW1.out.size;omega) hK' rfl rfl)
  · have h2: (W.setCell ⟨w.heap.size,0,none⟩ (.int .i64 0)).ownsRow w1.heap.size 9 1 (.slice aV ys.length cV) ys.length ((txt ys).map qdf):=qee hrow hlt1 _
    have h3:=qee h2 (p:= ⟨w.heap.size,1,none⟩) hlt1 (.slice aV ys.length cV)
    have h4:=ownsRow_putObj h3 (.deferred none) hK' rfl
    rw [←HYL.out,←HYS.out]
    exact qcr h4 (Nat.le_of_lt hlt1)
 case stop=>
  rintro D c pre W _ _ h _
  exact h.elim
end Go.Proofs.YthnmlipnoajmkaaGreatDoor

namespace Go.Proofs.YthnmlipnoajmkaaGreatDoor
open Go.RowKit
set_option maxRecDepth 100000

section
variable {P:Program} {w:World}
theorem qat {ops:Array Oper} {rest:List Oper} {o:Oper} {a:Act} {Q:Exit→Act→World→Prop} (hgd:o.guard=none) (s x:Operand) (t:TypeId)
 (ho:o.op= .call {callee:= .builtin .append,args:= #[s,x],argTypes:= #[t,t]}) (v y:Value) (hs:a.eval s=v) (hx:a.eval x=y) (v':Value) (w':World)
 (hr: (Builtin.append_ #[t,t] o.type #[v,y]).run P w= .ok v' w') (h:wpList P ops Q rest (a.put o.dst v') w'):wpList P ops Q (o::rest) a w:=by
 refine wpList_plain hgd fun K hK=> ?_
 unfold Oper.wp execOp
 simp only [ho,resolve,invoke,builtin,Sem.run_bind,Sem.run_pure,Result.andThen_ok,List.map_toArray,List.map_cons,List.map_nil,hs,hx,hr]
 exact hK _ _ h
theorem qaK {ops:Array Oper} {o:Oper} {a:Act} {K:Act→World→Prop} {Q:Exit→Act→World→Prop} {E:Prop} (hgd:o.guard=none) (s x:Operand) (t:TypeId)
 (ho:o.op= .call {callee:= .builtin .append,args:= #[s,x],argTypes:= #[t,t]}) (v y:Value) (hs:a.eval s=v) (hx:a.eval x=y) (v':Value) (w':World)
 (hr: (Builtin.append_ #[t,t] o.type #[v,y]).run P w= .ok v' w') (h:K (a.put o.dst v') w'):if Region.wanted o (yielded ops a.tmps)=true then Oper.wp P o a w K Q else E:=by
 have hw:Region.wanted o (yielded ops a.tmps)=true:=by simp [Region.wanted,hgd]
 rw [if_pos hw]
 unfold Oper.wp execOp
 simp only [ho,resolve,invoke,builtin,Sem.run_bind,Sem.run_pure,Result.andThen_ok,List.map_toArray,List.map_cons,List.map_nil,hs,hx,hr]
 exact h
end

theorem qaw {w w':World} {B:Nat} {row:Option Nat} (h:w.grownBy w' row) (hB:B≤w.heap.size) (hr: ∀k,row=some k→B≤k):Below B w w':= (Below.refl _ _).grown h hB hr

theorem qdY {w:World} {base n:Nat} {e:TypeId} {v:Value} {xs:List Value} (h:w.ownsRow base e 1 v n xs) (h0:0<n): ∃g cap,v= .slice (some ⟨g,0,none⟩) n cap∧base≤g∧g<w.heap.size∧n≤maxLen∧qaa w g n (fun i=>xs[i]?.getD undef):=by
 obtain ⟨hl,h| ⟨g,cap,cur,rfl,hb,hh,hnc,hcm,hcs,htake⟩⟩:=h
 · omega
 · refine ⟨g,cap,rfl,hb,(Array.getElem?_eq_some_iff.1 hh).1,by omega,cur,e,hh,by omega,fun i hi=> ?_⟩
   rw [Nat.mul_one] at htake
   have h1:xs[i]?=cur[i]?:=by rw [←htake,List.getElem?_take,if_pos hi,Array.getElem?_toList]
   show cur[i]?=some (xs[i]?.getD undef)
   have h2:i<cur.size:=by omega
   rw [h1,Array.getElem?_eq_getElem h2];rfl

theorem qaA (b off k:Nat): (⟨b,off,none⟩:Addr).add k= ⟨b,off+k,none⟩:=by
 by_cases h:k=0
 · subst h;simp [Addr.add]
 · simp [Addr.add,h]

theorem Tryz.infoInt': ∃i,Tryz.prog.info? 2=some i∧i.zero=some (.int .i64 0)∧i.size=1∧i.bytes=8:=by
 obtain ⟨i,hi,h⟩:=Option.map_eq_some_iff.1 Tryz.infoInt
 simp only [Prod.mk.injEq] at h
 exact ⟨i,hi,h.1,h.2.1,h.2.2⟩

theorem qh5 (w:World) (ty:TypeId) (a:Option Addr) (n cap:Nat) (zs:List Int) (hz:zs.length=n) (hn:n≤1048576) (hc:At1 w a n (fun k=> .int .i64 (zs[k]?.getD 0))):
 ∃ v' X,(Builtin.append_ #[64,64] ty #[.slice (some ⟨w.heap.size,0,none⟩) 0 0, .slice a n cap]).run Tryz.prog (w.alloc (.cells #[] 2))= .ok v' X∧
  Below w.heap.size w X∧qak X v' zs (qaj w X)∧w.heap.size<X.heap.size∧ ∃a' c',v'= .slice a' n c':=by
 obtain ⟨i,hi,h1,h2,h3⟩:=Tryz.infoInt'
 have hown: (w.alloc (.cells #[] 2)).ownsRow w.heap.size 2 1 (.slice (some ⟨w.heap.size,0,none⟩) 0 0) 0 []:=World.ownsRow_lit w #[] 0 (Nat.le_refl _) (by simp) rfl
 by_cases ha:a=none
 · subst ha
   have h0:n=0:=by
    by_cases h:n=0
    · exact h
    · obtain ⟨_,_,e,_⟩:=hc 0 (by omega);cases e
   subst h0
   have hzs:zs= []:=List.eq_nil_of_length_eq_zero hz
   subst hzs
   refine ⟨.slice (some ⟨w.heap.size,0,none⟩) 0 0,w.alloc (.cells #[] 2), ?_,qab _ _,Or.inl ⟨rfl,_,_,rfl⟩,by simp,_,_,rfl⟩
   simp [Builtin.append_,run_underlying Tryz.underlying64,sizeOf,typeInfo,hi,Builtin.lenOf,Builtin.firstCells,storeCells]
 · obtain ⟨ad,rfl⟩:=Option.ne_none_iff_exists'.1 ha
   obtain ⟨v',X,hr,ho,hg,_⟩:=run_append_own (P:=Tryz.prog) (w.alloc (.cells #[] 2)) w.heap.size 64 ty 2 i (.int .i64 0) 1 8 Tryz.underlying64 hi h1 h2 h3 rfl (by decide) _ 0 [] hown ad n cap (zs.map fun z=>Value.int .i64 z)
    (by simp [hz]) (fun j u hu=>by
      rw [List.getElem?_map,Option.map_eq_some_iff] at hu
      obtain ⟨z,hz1,rfl⟩:=hu
      have hj:j<n:=by rw [←hz];exact (List.getElem?_eq_some_iff.1 hz1).1
      obtain ⟨b,off,e,h⟩:=hc j hj
      simp only [Option.some.injEq] at e
      rw [e,qaA]
      replace h:w.cell? ⟨b,off+j,none⟩=some (.int .i64 (zs[j]?.getD 0)):=h
      rw [hz1,Option.getD_some] at h
      exact cell_later (qab _ _) h) (fun u hu=>by
      obtain ⟨z,_,rfl⟩:=List.mem_map.1 hu
      rfl) (by unfold maxLen;omega) (by omega) (by simp)
   have hB:Below w.heap.size w X:= (qab _ _).trans (qaw hg (by simp) (fun k hk=>by simp [Value.ownBlock] at hk;omega))
   simp only [Nat.zero_add,List.nil_append] at ho
   refine ⟨v',X,hr,hB, ?_,by have:=hg.size;simp at this;omega, ?_⟩
   · by_cases h0:n=0
     · subst h0
       have hzs:zs= []:=List.eq_nil_of_length_eq_zero hz
       refine Or.inl ⟨hzs, ?_⟩
       rcases ho.2 with ⟨rfl,_⟩| ⟨g,c,cur,rfl,_⟩
       · exact ⟨_,_,rfl⟩
       · exact ⟨_,_,rfl⟩
     · obtain ⟨g,c,rfl,hg1,hg2,hm,hrow⟩:=qdY ho (by omega)
       refine Or.inr ⟨g,c,⟨hg1,hg2⟩,by rw [hz],by rw [hz];exact hm, ?_⟩
       rw [hz]
       exact hrow.congr fun i hi=>by
        have:i<zs.length:=by omega
        simp [this]
   · rcases ho.2 with ⟨rfl,rfl⟩| ⟨g,c,cur,rfl,_⟩
     · exact ⟨_,_,rfl⟩
     · exact ⟨_,_,rfl⟩

set_option maxHeartbeats 400000 in
theorem qjs {w:World} {v:Value} {zs:List Int} (h:qb1 w v zs) (hn:zs.length≤1048576):
 Calls Tryz.prog 113 #[v] w fun e w'=> ∃a c,e= .returned (.slice a zs.length c)∧Below w.heap.size w w'∧qak w' (.slice a zs.length c) zs (qaj w w')∧w.heap.size<w'.heap.size:=by
 obtain ⟨a,cap,rfl,hm,hc⟩:=h.open'
 clear h
 obtain ⟨v',X,hr,hbX,hoX,hsX,a',c',rfl⟩:=qh5 w 64 a zs.length cap zs rfl hn hc
 have HR:Hid (_=_):=hr
 have HB:Hid (Below w.heap.size w X):=hbX
 have HO:Hid (qak X (.slice a' zs.length c') zs (qaj w X)):=hoX
 clear hbX hoX hc hr
 go_enter Tryz.func113,Tryz.ntmps113
 go_wp2_with (at_builtin;refine qat rfl _ _ 64 rfl _ _ rfl rfl _ _ HR.out ?_)
 go_ret
 exact ⟨a',c',rfl,HB.out,HO.out,hsX⟩
theorem qqm {w:World} {v:Value} {zs:List Int} (h:qb1 w v zs) (hn:zs.length≤1048576):
 Calls Tryz.prog 113 #[v] w fun e w'=> ∃a c,e= .returned (.slice a zs.length c)∧Below w.heap.size w w'∧qak w' (.slice a zs.length c) zs (qaj w w'):=
 (qjs h hn).mono fun _ _ ⟨a,c,h1,h2,h3,_⟩=> ⟨a,c,h1,h2,h3⟩
end Go.Proofs.YthnmlipnoajmkaaGreatDoor
