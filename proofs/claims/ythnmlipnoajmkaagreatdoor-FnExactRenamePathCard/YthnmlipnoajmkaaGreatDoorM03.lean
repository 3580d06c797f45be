/- The specification's cutting of a text at each slash. The specification's l3Names and l3Split. Lists of texts:marking,holding,comparing. The walks of the comparing functions over slices of integers and of slices. The walks of the comparing functions over puts and disks. The walks of the marking and holding functions over puts and disks. The walks of the comparing,marking and holding functions over an answer of a code and a list. One form for the contracts of the laws' own functions,type by type:what a value reads as,what it owns,how great it is. Lists of entries and inodes:how they read,what they own. -/
import Derived.Test.YthnmlipnoajmkaaGreatDoorM02
import Derived.Deep.RegionHeld3
import Derived.Test.YthnmlipnoajmkaaGreatDoorRows
import Derived.Test.YthnmlipnoajmkaaGreatDoorM00
import Derived.Deep.RegionWith
import Derived.Test.YthnmlipnoajmkaaGreatDoorM01
namespace Go.Proofs.YthnmlipnoajmkaaGreatDoor
open Go.RowKit
set_option maxRecDepth 100000

theorem qnW {l:List UInt8} {n:Nat} (h: ∀k,k<n→l[k]?.getD 0≠47) (hn:n≤l.length) (he:n=l.length∨l[n]?.getD 0=47):qa9 l=l.take n∧qa0 l=l.drop n:=by
 induction l generalizing n with
 |nil=>simp at hn;subst hn;exact ⟨rfl,rfl⟩
 | cons b t ih=>
   unfold qa9 qa0
   cases n with
   | zero=>
     have hb:b=47:=by rcases he with h|h<;>simp at h;exact h
     simp [hb]
   | succ n=>
     have hb: ¬b=47:=by have:=h 0 (by omega);simpa using this
     have:=ih (n:=n) (fun k hk=>by have:=h (k+1) (by omega);simpa using this) (by simpa using hn) (by simpa using he)
     unfold qa9 qa0 at this
     rw [List.takeWhile_cons,List.dropWhile_cons,if_pos (by simpa using hb),if_pos (by simpa using hb),this.1,this.2]
     exact ⟨rfl,rfl⟩
theorem qpl (l:List UInt8) (f k:Nat) (hf:f≤k) (hk:k≤l.length) (W:World): (Instr.slice 9 (.string (mkB l)) (some (.int .i64 (f:Int))) (some (.int .i64 (k:Int))) none).run Tryz.prog W= .ok (.string (mkB ((l.drop f).take (k-f)))) W:=by
 have hs:=qaC l
 have he: (mkB l).extract f k=mkB ((l.drop f).take (k-f)):=by
  have h: ((mkB l).extract f k).data.toList= (l.drop f).take (k-f):=by
   simp only [mkB,ByteArray.data_extract,Array.toList_extract,List.extract_eq_take_drop]
  rw [←qb3 ((mkB l).extract f k),h]
 simp [Instr.slice,Instr.sliceBounds,Instr.sliceBound,asIntOf,run_underlying Tryz.underlying9,hs,hk,hf]
 exact he
theorem qfF (t:List UInt8) (j:Nat) (h:j< (mkB t).size): (mkB t)[j]=t[j]?.getD 0:=by
 have h':j<t.length:=by rw [←qaC];exact h
 rw [List.getElem?_eq_getElem h',Option.getD_some]
 show (mkB t).data[j]=_
 simp [mkB]
theorem qjt (w:World) (n₀:Nat) (v:Value) (n:Nat) (xs:List Value) (y:List UInt8) (hxn:xs.length=n) (hrow:w.ownsRow n₀ 9 1 v n xs) (hn₀:n₀≤w.heap.size) (hn:n≤1048577):
 ∃v' X,(Builtin.append_ #[28,28] 28 #[v, .slice (some ⟨w.heap.size,0,none⟩) 1 1]).run Tryz.prog (w.alloc (.cells #[.string (mkB y)] 9))= .ok v' X∧X.ownsRow n₀ 9 1 v' (n+1) (xs++ [qdf y])∧Below n₀ w X:=by
 subst hxn
 obtain ⟨i0,hi,hz0,hz1,hz2⟩:=info_parts Tryz.infoStr
 obtain ⟨v',X,hr,hown,hgrow,_⟩:=run_append_own (P:=Tryz.prog) (w.alloc (.cells #[qdf y] 9)) n₀ 28 28 9 i0 (.string ⟨#[]⟩) 1 16 Tryz.underlying28 hi hz0 hz1 hz2 rfl (by decide) v xs.length xs (qbh hrow (qab _ _)) ⟨w.heap.size,0,none⟩ 1 1 [qdf y] rfl (cell_one_new _ _ _) (by simp [Value.oneCell',qdf]) (by unfold maxLen;omega) (by omega) (by simp;omega)
 refine ⟨v',X,hr,hown,((qab w _).mono hn₀).trans (qaw hgrow (by simp;omega) (fun k hk=> ?_))⟩
 rcases hrow.2 with ⟨rfl,_⟩| ⟨g,cap,cur,rfl,hb,_⟩
 · simp [Value.ownBlock] at hk
 · simp [Value.ownBlock] at hk;omega

def qsl (t:List UInt8) (j f:Nat) (done:List (List UInt8)):Prop:=
 (j≤t.length∧f≤j∧qcD t=done++qcD (t.drop f)∧ (∀k,f≤k→k<j→t[k]?.getD 0≠47)∧done.length≤j)∨ (j=t.length+1∧done=qcD t)
theorem qkw {t:List UInt8} {j f:Nat} {done:List (List UInt8)} (hf:f≤j) (hj:j≤t.length) (h1:qcD t=done++qcD (t.drop f)) (h2: ∀k,f≤k→k<j→t[k]?.getD 0≠47) (he:j=t.length∨t[j]?.getD 0=47):
 qcD t= (done++ [(t.drop f).take (j-f)])++qcU (t.drop j):=by
 have:=qnW (l:=t.drop f) (n:=j-f) (fun k hk=>by rw [List.getElem?_drop];exact h2 (f+k) (by omega) (by omega)) (by simp;omega) (by
  rcases he with e|e
  · exact Or.inl (by simp;omega)
  · exact Or.inr (by rw [List.getElem?_drop,show f+ (j-f)=j by omega];exact e))
 rw [h1,qha (t.drop f),this.1,this.2,List.drop_drop,show f+ (j-f)=j by omega,List.append_assoc]
 rfl

set_option maxHeartbeats 1600000 in
theorem qmh (w:World) (t:List UInt8) (ht:t.length≤1048576):
 Calls Tryz.prog 137 #[.string (mkB t), .int .u8 47] w fun e w'=> ∃v,e= .returned v∧Below w.heap.size w w'∧w'.ownsRow w.heap.size 9 1 v (qcD t).length ((qcD t).map qdf):=by
 have hsz:=qaC t
 go_enter Tryz.func137,Tryz.ntmps137
 go_wp2
 go_loopw [5,6,7] (fun o fr i wr=> ∃ (j f:Nat) (v:Value) (done:List (List UInt8)),o=v∧fr= .int .i64 f∧i= .int .i64 j∧qsl t j f done∧Below w.heap.size w wr∧wr.ownsRow w.heap.size 9 1 v done.length (done.map qdf)) (fun _ _ i _=>t.length+1- (intOf i).toNat)
 case atStart=>exact ⟨0,0,_, [],rfl,rfl,rfl,Or.inl ⟨Nat.zero_le _,Nat.le_refl _,rfl,fun k h1 h2=>by omega,Nat.le_refl _⟩,qab _ _,World.ownsRow_lit w #[] 0 (Nat.le_refl _) (by simp) rfl⟩
 case round=>
  obtain ⟨j,f,v,done,rfl,rfl,rfl,hst,hbl,hrow⟩:=hrel
  have HBL:Hid (Below w.heap.size w wr):=hbl
  have HROW:Hid (wr.ownsRow w.heap.size 9 1 _ done.length (done.map qdf)):=hrow
  obtain ⟨aV,cV,rfl⟩:=qa1 hrow
  clear hbl hrow
  rcases hst with ⟨hj,hf,h1,h2,hdl⟩| ⟨rfl,rfl⟩
  · have H1:Hid (qcD t=done++qcD (t.drop f)):=h1
    have H2:Hid (∀k,f≤k→k<j→t[k]?.getD 0≠47):=h2
    have hj': (j:Int)≤ (t.length:Int):=by omega
    have hs2:=qpl t f j hf hj
    obtain ⟨v',X,hap,hoX,hBX⟩:=qjt wr w.heap.size _ done.length _ ((t.drop f).take (j-f)) (by simp) HROW.out HBL.out.size (by omega)
    have HAP:Hid (_=_):=hap
    have HOX:Hid (X.ownsRow w.heap.size 9 1 v' (done.length+1) (done.map qdf++ [qdf ((t.drop f).take (j-f))])):=hoX
    have HBX:Hid (Below w.heap.size wr X):=hBX
    clear h1 h2 hap hoX hBX
    by_cases hje:j=t.length
    · have HC:Hid (done++ [(t.drop f).take (j-f)]=qcD t):=by
       unfold Hid
       have:=qkw hf hj H1.out H2.out (Or.inl hje)
       rw [show t.drop j= [] by rw [hje];simp] at this
       rw [this];simp [qcU]
      have hje': ((j:Int)== (t.length:Int))=true:=by simp;omega
      generalize (t.drop f).take (j-f)=y at*
      have HJE:Hid (j=t.length):=hje
      clear hje
      go_wp2_with (at_builtin;refine qat rfl _ _ 28 rfl _ _ rfl rfl _ _ HAP.out ?_)
      go_roundw
      case rel=>exact ⟨j+1,j+1,_,done++ [y],rfl,by go_num,by go_num,Or.inr ⟨by rw [HJE.out],HC.out⟩,HBL.out.trans (HBX.out.mono (Nat.le_refl _)),by rw [List.length_append,List.map_append];exact HOX.out⟩
      case measure=>simp [intOf];omega
    · have hlt:j< (mkB t).size:=by rw [hsz];omega
      have hg:=qfF t j hlt
      have hje': ((j:Int)== (t.length:Int))=false:=by simp;omega
      by_cases hb:t[j]?.getD 0=47
      · have hb': ((mkB t)[j].toNat:Int)=47:=by rw [hg,hb];rfl
        have HC:Hid (qcD t= (done++ [(t.drop f).take (j-f)])++qcD (t.drop (j+1))):=by
         unfold Hid
         have:=qkw hf hj H1.out H2.out (Or.inr hb)
         rw [this]
         congr 1
         rw [List.drop_eq_getElem_cons (by omega)]
         rfl
        generalize (t.drop f).take (j-f)=y at*
        go_wp2_with (at_builtin;refine qat rfl _ _ 28 rfl _ _ rfl rfl _ _ HAP.out ?_)
        go_roundw
        case rel=>exact ⟨j+1,j+1,_,done++ [y],rfl,by go_num,by go_num,Or.inl ⟨by omega,Nat.le_refl _,HC.out,fun k h1 h2=>by omega,by simp;omega⟩,HBL.out.trans (HBX.out.mono (Nat.le_refl _)),by rw [List.length_append,List.map_append];exact HOX.out⟩
        case measure=>simp [intOf];omega
      · have hb': (((mkB t)[j].toNat:Int)==47)=false:=by
         rw [hg]
         have hne: (t[j]?.getD 0).toNat≠47:=fun e=>hb (UInt8.toNat_inj.1 (by rw [e];rfl))
         simp;omega
        have HB:Hid (t[j]?.getD 0≠47):=hb
        clear hb HAP HOX HBX hg
        go_wp2
        go_roundw
        case rel=>exact ⟨j+1,f,_,done,rfl,rfl,by go_num,Or.inl ⟨by omega,by omega,H1.out,fun k h1 h2=>by
         by_cases e:k=j
         · subst e;exact HB.out
         · exact H2.out k h1 (by omega),by omega⟩,HBL.out,HROW.out⟩
        case measure=>simp [intOf];omega
  · have hx:decide (((t.length+1:Nat):Int)≤ (t.length:Int))=false:=by simp;omega
    go_wp2
    go_ret
    exact ⟨_,rfl,HBL.out,HROW.out⟩
end Go.Proofs.YthnmlipnoajmkaaGreatDoor

namespace Go.Proofs.YthnmlipnoajmkaaGreatDoor
open Go.RowKit
set_option maxRecDepth 100000

def AtT (w:World) (a:Option Addr) (n:Nat) (xs:List (List UInt8)):Prop:= ∀k,k<n→ ∃b off,a=some ⟨b,off,none⟩∧w.cell? ⟨b,off+k,none⟩=some (.string (mkB (xs[k]?.getD [])))
theorem AtT.later {w w':World} {a:Option Addr} {n:Nat} {xs:List (List UInt8)} (h:AtT w a n xs) (hb:Below w.heap.size w w'):AtT w' a n xs:=fun k hk=>by
 obtain ⟨b,off,e,c⟩:=h k hk
 exact ⟨b,off,e,cell_later hb c⟩
theorem qbr {w:World} {B:Nat} {e:TypeId} {a:Option Addr} {n c:Nat} {xs:List (List UInt8)} (h:w.ownsRow B e 1 (.slice a n c) xs.length (xs.map qdf)):n=xs.length∧AtT w a n xs:=by
 obtain ⟨hl,⟨h1,h2⟩| ⟨g,cap,cur,h1,h2,h3,h4,h5,h6,h7⟩⟩:=h
 · simp only [Value.slice.injEq] at h1
   exact ⟨by rw [h1.2.1,h2],fun k hk=>by rw [h1.2.1] at hk;omega⟩
 · simp only [Value.slice.injEq] at h1
   refine ⟨h1.2.1,fun k hk=> ⟨g,0,h1.1, ?_⟩⟩
   rw [h1.2.1] at hk
   have h8: (xs.map qdf)[k]?=some (.string (mkB (xs[k]?.getD []))):=by rw [List.getElem?_map,List.getElem?_eq_getElem hk];rfl
   rw [←h7,List.getElem?_take,if_pos (by omega),Array.getElem?_toList] at h8
   rw [Nat.zero_add]
   simp only [World.cell?,h3]
   exact h8
def qcG (xs:List (List UInt8)):Int:=if 6<xs.length then 2 else qay xs
theorem qmi {xs:List (List UInt8)} {j:Nat} (h: ∀i,i<j→qal (mkB (xs[i]?.getD []))=0) (hj:j<xs.length) (hn: ¬qal (mkB (xs[j]?.getD []))=0):qay xs=qal (mkB (xs[j]?.getD [])):=by
 induction xs generalizing j with
 |nil=>simp at hj
 | cons x t ih=>
   cases j with
   |zero=>simp at hn ⊢;simp [qay,hn]
   | succ j=>
     have h0:qal (mkB x)=0:=by simpa using h 0 (by omega)
     simp only [qay,if_pos h0]
     have:=ih (j:=j) (fun i hi=>by simpa using h (i+1) (by omega)) (by simpa using hj) (by simpa using hn)
     simpa using this
theorem qju {xs:List (List UInt8)} (h: ∀i,i<xs.length→qal (mkB (xs[i]?.getD []))=0):qay xs=0:=by
 induction xs with
 |nil=>rfl
 | cons x t ih=>
   have h0:qal (mkB x)=0:=by simpa using h 0 (by simp)
   simp only [qay,if_pos h0]
   exact ih fun i hi=>by simpa using h (i+1) (by simpa using hi)

set_option maxHeartbeats 1600000 in
theorem qjv (w:World) (a:Option Addr) (n c:Nat) (xs:List (List UInt8)) (hn:xs.length=n) (hn2:n≤1048577) (hx: ∀k:Nat,(xs[k]?.getD []).length≤1048576) (hc:AtT w a n xs):
 Calls Tryz.prog 138 #[.slice a n c] w fun e w'=>e= .returned (.int .i64 (qcG xs))∧w'=w:=by
 have HN:Hid (xs.length=n):=hn
 have HX:Hid (∀k:Nat,(xs[k]?.getD []).length≤1048576):=hx
 have HC:Hid (AtT w a n xs):=hc
 have HNC:Hid (qcG xs=if 6<n then 2 else qay xs):=by unfold Hid qcG;rw [hn]
 rw [HNC.out]
 clear hn hx hc HNC
 by_cases h6:6<n
 · rw [if_pos h6]
   have h6': (6:Int)< (n:Int):=by omega
   go_enter Tryz.func138,Tryz.ntmps138
   go_wp2
   go_ret
   exact ⟨rfl,rfl⟩
 · rw [if_neg h6]
   have h6':decide ((6:Int)< (n:Int))=false:=by simp;omega
   have h6'':decide (6<n)=false:=by simp;omega
   clear h6
   go_enter Tryz.func138,Tryz.ntmps138
   go_wp2
   go_loop [3] (fun i=> ∃j:Nat,j≤n∧i= .int .i64 j∧ ∀k,k<j→qal (mkB (xs[k]?.getD []))=0) (fun i=>n- (intOf i).toNat)
   case atStart=>exact ⟨0,Nat.zero_le _,rfl,fun k hk=>by omega⟩
   case round=>
    obtain ⟨j,hj,rfl,hall⟩:=hrel
    have HA:Hid (∀k,k<j→qal (mkB (xs[k]?.getD []))=0):=hall
    clear hall
    by_cases hlt:j<n
    · obtain ⟨b,off,rfl,c0⟩:=HC.out j hlt
      have hsz: (mkB (xs[j]?.getD [])).size≤maxLen:=by rw [qaC];have:=HX.out j;unfold maxLen;omega
      by_cases hz:qal (mkB (xs[j]?.getD []))=0
      · have HZ:Hid (∀k:Nat,k<j+1→qal (mkB (xs[k]?.getD []))=0):=fun k hk=>by
         by_cases e:k=j
         · rw [e];exact hz
         · exact HA.out k (by omega)
        have HY:Hid (qal (mkB (xs[j]?.getD []))=0):=hz
        have HX2:=HX
        generalize hy:xs[j]?.getD []=y at c0 hsz HY
        clear hz hy
        go_wp2_with fail
        refine (qbb _ _ hsz).mono ?_
        rw [HY.out]
        rintro e w1 ⟨rfl,rfl⟩
        go_wp2
        go_round
        case rel=>exact ⟨j+1,by omega,by go_num,HZ.out⟩
        case measure=>simp [intOf];omega
      · have HZ:Hid (qay xs=qal (mkB (xs[j]?.getD []))):=qmi HA.out (by rw [HN.out];exact hlt) hz
        have HY:Hid (¬qal (mkB (xs[j]?.getD []))=0):=hz
        clear HA hz
        generalize hy:xs[j]?.getD []=y at c0 hsz HY HZ
        clear hy
        go_wp2_with fail
        refine (qbb _ _ hsz).mono ?_
        generalize qal (mkB y)=z at HY HZ ⊢
        have hz: (z==0)=false:=by simpa using HY.out
        have hz2: (z=0)=False:=by simpa using HY.out
        rintro e w1 ⟨rfl,rfl⟩
        go_wp2
        go_ret
        exact ⟨by rw [HZ.out];rfl,rfl⟩
    · have hje:j=n:=by omega
      have HZ:Hid (qay xs=0):=qju fun i hi=>HA.out i (by rw [HN.out] at hi;omega)
      have hx':decide ((j:Int)< (n:Int))=false:=by simp;omega
      have hx2:decide (j<n)=false:=by simp;omega
      clear hje
      go_wp2
      go_ret
      exact ⟨by rw [HZ.out];rfl,rfl⟩
end Go.Proofs.YthnmlipnoajmkaaGreatDoor

namespace Go.Proofs.YthnmlipnoajmkaaGreatDoor
open Go.RowKit
set_option maxRecDepth 100000

def mkT (k:Nat):Value:= .string (mkB (109::dg k []))

set_option maxHeartbeats 1600000 in
theorem qk9 (w:World) (b cap n k:Nat) (f:Nat→Value) (hk0:1≤k) (hk:k+n≤4294967296) (hr:qaa w b n f):
 Calls Tryz.prog 32 #[.slice (some ⟨b,0,none⟩) n cap, .int .i64 (k:Int)] w fun e w'=>e= .returned (.int .i64 ((k+n:Nat):Int))∧qaa w' b n (fun i=>mkT (k+i))∧Chg (fun c=>c=b) w w':=by
 have HR:Hid (qaa w b n f):=hr
 clear hr
 go_enter Tryz.func32,Tryz.ntmps32
 go_wp2
 go_loopw [1,5] (fun q i wr=> ∃j:Nat,j≤n∧i= .int .i64 j∧q= .int .i64 ((k+j:Nat):Int)∧qaa wr b n (fun i=>if i<j then mkT (k+i) else f i)∧Chg (fun c=>c=b) w wr) (fun _ i _=>n- (intOf i).toNat)
 case atStart=>exact ⟨0,Nat.zero_le _,rfl,by simp,HR.out.congr fun i _=>by simp,Chg.refl _ _⟩
 case round=>
  obtain ⟨j,hj,rfl,rfl,hrow,hch⟩:=hrel
  have HROW:Hid (qaa wr b n (fun i=>if i<j then mkT (k+i) else f i)):=hrow
  have HCH:Hid (Chg (fun c=>c=b) w wr):=hch
  clear hch
  by_cases hlt:j<n
  · have c1:=hrow.cell hlt
    have c2:=hrow.frozen j
    have c3:=hrow.lt
    clear hrow
    simp only [Nat.lt_irrefl,if_false] at c1
    have hkk:k+j≤4294967296:=by omega
    have hk1:1≤k+j:=by omega
    generalize hq:k+j=q at*
    have HQQ:Hid (k+j=q):=hq
    clear hq
    go_wp2_with fail
    refine (qcq _ q hk1 (by omega)).mono ?_
    rintro e w1 ⟨rfl,hb1⟩
    have HCH1:Hid (Chg (fun c=>c=b) w w1):=HCH.out.trans (Chg.of_below hb1)
    have hrow1:=HROW.out.block (hb1.block b c3)
    have HROW1:Hid (qaa w1 b n (fun i=>if i<j then mkT (k+i) else f i)):=hrow1
    have c1:=hrow1.cell hlt
    have c2:=hrow1.frozen j
    simp only [Nat.lt_irrefl,if_false] at c1
    generalize hv:mkB (109::dg q [])=v
    have HV:Hid (mkT (k+j)= .string v):=by unfold Hid;rw [HQQ.out];unfold mkT;rw [hv]
    clear hb1 hrow1 HROW HCH hv
    go_wp2
    go_roundw
    case rel=>
     refine ⟨j+1,by omega,by go_num,by rw [show k+ (j+1)=q+1 by have:=HQQ.out;omega];go_num,(HROW1.out.set j _).congr fun i hi=> ?_,HCH1.out.set rfl _ _⟩
     by_cases e:i=j
     · subst e;simp [HV.out]
     · by_cases e2:i<j
       · simp [e,e2,show i<j+1 by omega]
       · simp [e,e2,show ¬i<j+1 by omega]
    case measure=>simp [intOf];omega
  · have hjn:j=n:=by omega
    clear hrow
    go_wp2
    go_ret
    subst hjn
    exact ⟨rfl,HROW.out.congr fun i hi=>by simp [hi],HCH.out⟩

set_option maxHeartbeats 1600000 in
theorem qmj (w:World) (a:Option Addr) (cap k:Nat):
 Calls Tryz.prog 32 #[.slice a 0 cap, .int .i64 (k:Int)] w fun e w'=>e= .returned (.int .i64 (k:Int))∧w'=w:=by
 go_enter Tryz.func32,Tryz.ntmps32
 go_wp2
 go_loop [1,5] (fun q i=>i= .int .i64 0∧q= .int .i64 (k:Int)) (fun _ _=>0)
 case atStart=>exact ⟨rfl,rfl⟩
 case round=>
  obtain ⟨rfl,rfl⟩:=hrel
  go_wp2
  go_ret
  exact ⟨rfl,rfl⟩

set_option maxHeartbeats 1600000 in
theorem qmk (w:World) (a:Option Addr) (cap k:Nat):
 Calls Tryz.prog 34 #[.slice a 0 cap, .int .i64 (k:Int)] w fun e w'=>e= .returned (.int .i64 (k:Int))∧w'=w:=by
 go_enter Tryz.func34,Tryz.ntmps34
 go_wp2
 go_loop [1,5] (fun q i=>i= .int .i64 0∧q= .int .i64 (k:Int)) (fun _ _=>0)
 case atStart=>exact ⟨rfl,rfl⟩
 case round=>
  obtain ⟨rfl,rfl⟩:=hrel
  go_wp2
  go_ret
  exact ⟨rfl,rfl⟩

set_option maxHeartbeats 3200000 in
theorem qla (w:World) (b cap n k:Nat) (hk0:1≤k) (hk:k+n≤4294967296) (hr:qaa w b n (fun i=>mkT (k+i))):
 Calls Tryz.prog 34 #[.slice (some ⟨b,0,none⟩) n cap, .int .i64 (k:Int)] w fun e w'=>e= .returned (.int .i64 ((k+n:Nat):Int))∧Below w.heap.size w w':=by
 have HR:Hid (qaa w b n (fun i=>mkT (k+i))):=hr
 clear hr
 go_enter Tryz.func34,Tryz.ntmps34
 go_wp2
 go_loopw [1,5] (fun q i wr=> ∃j:Nat,j≤n∧i= .int .i64 j∧q= .int .i64 ((k+j:Nat):Int)∧Below w.heap.size w wr) (fun _ i _=>n- (intOf i).toNat)
 case atStart=>exact ⟨0,Nat.zero_le _,rfl,by simp,Below.refl _ _⟩
 case round=>
  obtain ⟨j,hj,rfl,rfl,hbl⟩:=hrel
  have HBL:Hid (Below w.heap.size w wr):=hbl
  clear hbl
  by_cases hlt:j<n
  · have hrow:=HR.out.block (HBL.out.block b HR.out.lt)
    have c1:=hrow.cell hlt
    have hkk:k+j≤4294967296:=by omega
    have hk1:1≤k+j:=by omega
    generalize hq:k+j=q at*
    have HQQ:Hid (k+j=q):=hq
    unfold mkT at c1
    have HMT:Hid (∀W,Calls Tryz.prog 68 #[.int .i64 (q:Int)] W fun e w'=>e= .returned (.string (mkB (109::dg q [])))∧Below W.heap.size W w'):=fun W=>qcq W q hk1 (by omega)
    generalize mkB (109::dg q [])=v at*
    clear hq hrow
    have hne: (v.toList !=v.toList)=false:=by simp
    go_wp2_with fail
    go_region_held3 (fun W=>W.cell? ⟨b,j,none⟩=some (.string v)) (go_keep) (first| (go_at_call 68;refine (HMT.out _).mono ?_;rintro e w2 ⟨rfl,hb2⟩;have HB2:Hid (Below wr.heap.size wr w2):= (Below.refl _ _).drew.trans hb2;have k0:=cell_later hb2 c1;clear hb2))
    all_goals
     go_wp2
     go_roundw
     case rel=>exact ⟨j+1,by omega,by go_num,by rw [show k+ (j+1)=q+1 by have:=HQQ.out;omega];go_num,HBL.out.trans (HB2.out.mono HBL.out.size)⟩
     case measure=>simp [intOf];omega
  · have hjn:j=n:=by omega
    go_wp2
    go_ret
    subst hjn
    exact ⟨rfl,HBL.out⟩

set_option maxHeartbeats 3200000 in
theorem qnX (w:World) (a b:Option Addr) (n c d:Nat) (xs:List (List UInt8)) (hn:n≤1048577) (h1:AtT w a n xs) (h2:AtT w b n xs):
 Calls Tryz.prog 26 #[.slice a n c, .slice b n d] w fun e w'=>e= .returned (.bool true)∧ ∃m,w'=w.drewN m:=by
 have HA2:Hid (AtT w a n xs):=h1
 have HB2:Hid (AtT w b n xs):=h2
 have hnn: ((n:Int) != (n:Int))=false:=by simp
 clear h1 h2
 go_enter Tryz.func26,Tryz.ntmps26
 go_wp2
 go_loopw [5] (fun i wr=> ∃j q:Nat,j≤n∧i= .int .i64 j∧wr=w.drewN q) (fun i _=>n- (intOf i).toNat)
 case atStart=>exact ⟨0,0,Nat.zero_le _,rfl,rfl⟩
 case round=>
  obtain ⟨j,q,hj,rfl,rfl⟩:=hrel
  by_cases hlt:j<n
  · obtain ⟨b1,o1,rfl,e1⟩:=HA2.out j hlt
    obtain ⟨b2,o2,rfl,e2⟩:=HB2.out j hlt
    generalize xs[j]?.getD []=y at e1 e2
    go_wp2_with fail
    go_quiet (fail)
    go_wp2
    go_roundw
    case rel=>exact ⟨j+1,q+nq,by omega,by go_num,rfl⟩
    case measure=>simp [intOf];omega
  · have hx':decide ((j:Int)< (n:Int))=false:=by simp;omega
    have hx2:decide (j<n)=false:=by simp;omega
    go_wp2
    go_ret
    exact ⟨rfl,q,rfl⟩
end Go.Proofs.YthnmlipnoajmkaaGreatDoor

namespace Go.Proofs.YthnmlipnoajmkaaGreatDoor
open Go.RowKit
set_option maxRecDepth 100000

set_option maxHeartbeats 400000 in
theorem qlb (w:World) (a a':Option Addr) (cap cap' n n':Nat) (hn: ¬n=n'):
 Calls Tryz.prog 105 #[.slice a n cap, .slice a' n' cap'] w fun e w'=>e= .returned (.bool false)∧w'=w:=by
 have hb: ((n:Int) != (n':Int))=true:=by simp;omega
 clear hn
 go_enter Tryz.func105,Tryz.ntmps105
 go_wp2
 go_ret
 exact ⟨rfl,rfl⟩

set_option maxHeartbeats 400000 in
theorem qlc (w:World) (a a':Option Addr) (cap cap':Nat):
 Calls Tryz.prog 105 #[.slice a 0 cap, .slice a' 0 cap'] w fun e w'=>e= .returned (.bool true)∧w'=w:=by
 go_enter Tryz.func105,Tryz.ntmps105
 go_wp2
 go_loop [5] (fun i=>i= .int .i64 0) (fun _=>0)
 case atStart=>rfl
 case round=>
  obtain rfl:=hrel
  go_wp2
  go_ret
  exact ⟨rfl,rfl⟩

set_option maxHeartbeats 400000 in
theorem qjw (w:World) (b off cap b' off' cap' n:Nat) (xs ys:List Int) (hx:xs.length=n) (hy:ys.length=n) (hn:n≤maxLen)
 (cx: ∀k,k<n→w.cell? ⟨b,off+k,none⟩=some (.int .i64 (xs[k]?.getD 0)))
 (cy: ∀k,k<n→w.cell? ⟨b',off'+k,none⟩=some (.int .i64 (ys[k]?.getD 0))):
 Calls Tryz.prog 105 #[.slice (some ⟨b,off,none⟩) n cap, .slice (some ⟨b',off',none⟩) n cap'] w fun e w'=>e= .returned (.bool (xs==ys))∧ ∃m,w'=w.drewN m:=by
 unfold maxLen at hn
 have HX:Hid (xs.length=n):=hx
 have HY:Hid (ys.length=n):=hy
 clear hx hy
 go_enter Tryz.func105,Tryz.ntmps105
 go_wp2
 go_loopw [5] (fun i wr=> ∃k m:Nat,k≤n∧i= .int .i64 k∧wr=w.drewN m∧xs.take k=ys.take k) (fun i _=>n- (intOf i).toNat)
 case atStart=>exact ⟨0,0,Nat.zero_le _,rfl,rfl,rfl⟩
 case round=>
  obtain ⟨k,m,hk,rfl,rfl,ht⟩:=hrel
  by_cases hlt:k<n
  · have c1:=cx k hlt
    have c2:=cy k hlt
    clear cx cy
    have HT:Hid (xs.take k=ys.take k):=ht
    clear ht
    by_cases he:xs[k]?.getD 0=ys[k]?.getD 0
    · have hb: (xs[k]?.getD 0 !=ys[k]?.getD 0)=false:=by simp [he]
      have HE:Hid (xs[k]?.getD 0=ys[k]?.getD 0):=he
      clear he
      go_wp2_with fail
      go_quiet (fail)
      go_wp2
      go_roundw
      case rel=>exact ⟨k+1,m+nq,by omega,by go_num,rfl,ql5 0 HX.out HY.out hlt HT.out HE.out⟩
      case measure=>simp [intOf];omega
    · have hb: (xs[k]?.getD 0 !=ys[k]?.getD 0)=true:=by simp [he]
      go_wp2_with fail
      go_quiet (fail)
      go_wp2
      go_ret
      exact ⟨qaB (qqO 0 he),m+nq,by rw [World.drewN_drewN]⟩
  · go_wp2
    go_ret
    exact ⟨qaB (ql4 HX.out HY.out (by omega) ht),m,rfl⟩

theorem qld {w:World} {va vb:Value} {xs ys:List Int} (ha:qb1 w va xs) (hb:qb1 w vb ys):
 Calls Tryz.prog 105 #[va,vb] w fun e w'=>e= .returned (.bool (xs==ys))∧ ∃m,w'=w.drewN m:=by
 have base: ∀a cap a' cap' (x y:List Int),x.length≠y.length∨ (x= []∧y= [])→Calls Tryz.prog 105 #[.slice a x.length cap, .slice a' y.length cap'] w fun e w'=>e= .returned (.bool (x==y))∧ ∃m,w'=w.drewN m:=by
  intro a cap a' cap' x y h
  rcases h with h| ⟨rfl,rfl⟩
  · exact (qlb w a a' cap cap' _ _ h).mono fun e w' ⟨he,hw⟩=> ⟨he.trans (qaB (qpf h)),0,hw⟩
  · exact (qlc w a a' cap cap').mono fun e w' ⟨he,hw⟩=> ⟨he,0,hw⟩
 rcases ha with ⟨rfl,a,cap,rfl⟩| ⟨b,off,cap,rfl,hl,hc⟩
 · rcases hb with ⟨rfl,a',cap',rfl⟩| ⟨b',off',cap',rfl,hl',hc'⟩
   · exact base a cap a' cap' [] [] (Or.inr ⟨rfl,rfl⟩)
   · by_cases h:ys= []
     · subst h;exact base a cap _ cap' [] [] (Or.inr ⟨rfl,rfl⟩)
     · exact base a cap _ cap' [] ys (Or.inl (by cases ys<;>simp at h ⊢))
 · rcases hb with ⟨rfl,a',cap',rfl⟩| ⟨b',off',cap',rfl,hl',hc'⟩
   · by_cases h:xs= []
     · subst h;exact base _ cap a' cap' [] [] (Or.inr ⟨rfl,rfl⟩)
     · exact base _ cap a' cap' xs [] (Or.inl (by cases xs<;>simp at h ⊢))
   · by_cases h:xs.length=ys.length
     · have:=qjw w b off cap b' off' cap' ys.length xs ys h rfl hl' (fun k hk=>hc k (by omega)) hc'
       rw [h];exact this
     · exact base _ cap _ cap' xs ys (Or.inl h)

end Go.Proofs.YthnmlipnoajmkaaGreatDoor

namespace Go.Proofs.YthnmlipnoajmkaaGreatDoor
open Go.RowKit
set_option maxRecDepth 100000

theorem qqS {a b:Int} (xs ys:List Int) (h: (a !=b)=true):false= ((a,xs)== (b,ys)):=by
 symm;rw [Bool.eq_false_iff];intro e;simp at h;have:=eq_of_beq e;simp at this;exact h this.1
theorem qqT {a b:Int} {xs ys:List Int} {r:Bool} (h: (a !=b)=false) (hr: (xs==ys)=r):r= ((a,xs)== (b,ys)):=by
 simp at h;subst h;rw [←hr]
 by_cases e:xs=ys
 · simp [e]
 · have h1: (xs==ys)=false:=by simp [e]
   rw [h1];symm;rw [Bool.eq_false_iff];intro h2;have:=eq_of_beq h2;simp at this;exact e this

end Go.Proofs.YthnmlipnoajmkaaGreatDoor

namespace Go.Proofs.YthnmlipnoajmkaaGreatDoor
open Go.RowKit
set_option maxRecDepth 100000

def qsm (k:Int) (ps:List (Int×List Int)) (i:Nat):Int:=k+i+ (upto (qeH ps) i:Nat)
def qnY (k:Int) (ps:List (Int×List Int)) (j i:Nat):Int:=if i<j then qsm k ps i else (ps[i]?.getD (0, [])).1
def qs0 (k:Int) (ps:List (Int×List Int)) (j i:Nat):List Int:=if i<j then qbO (qsm k ps i+1) (ps[i]?.getD (0, [])).2.length else (ps[i]?.getD (0, [])).2
def qcW (k:Int) (ps:List (Int×List Int)) (u:Nat→Value) (j c:Nat):Value:=if c % 2=0 then .int .i64 (qnY k ps j (c/2)) else u (c/2)
theorem qjx (k:Int) (ps:List (Int×List Int)) (u:Nat→Value) (j i:Nat):qcW k ps u j (i*2)= .int .i64 (qnY k ps j i):=by
 unfold qcW;rw [if_pos (by omega),show i*2/2=i by omega]
theorem qnK (k:Int) (ps:List (Int×List Int)) (u:Nat→Value) (j i:Nat):qcW k ps u j (i*2+1)=u i:=by
 unfold qcW;rw [if_neg (by omega),show (i*2+1)/2=i by omega]
theorem qnZ (k:Int) (ps:List (Int×List Int)) (u:Nat→Value) (j c:Nat): (if c=j*2 then .int .i64 (qsm k ps j) else qcW k ps u j c)=qcW k ps u (j+1) c:=by
 by_cases e:c=j*2
 · subst e;rw [if_pos rfl,qjx];simp [qnY]
 · rw [if_neg e]
   unfold qcW qnY
   by_cases e2:c % 2=0
   · rw [if_pos e2,if_pos e2]
     have hne:c/2≠j:=by omega
     by_cases e3:c/2<j
     · rw [if_pos e3,if_pos (by omega)]
     · rw [if_neg e3,if_neg (by omega)]
   · rw [if_neg e2,if_neg e2]

structure Marked (w:World) (vB vC:Value) (bs:List (List Int)) (ps:List (Int×List Int)) (k:Int) (F:Nat→Prop):Prop where
 disk:qbs w vB vC (qe0 k (bs.map List.length)) (qe1 (k+ ((bs.map List.length).sum:Nat)) (qeH ps)) F
theorem Marked.later {w w':World} {vB vC:Value} {bs:List (List Int)} {ps:List (Int×List Int)} {k:Int} {F:Nat→Prop} (h:Marked w vB vC bs ps k F) (hb:Below w.heap.size w w'):Marked w' vB vC bs ps k F:= ⟨h.disk.later hb⟩

end Go.Proofs.YthnmlipnoajmkaaGreatDoor

namespace Go.Proofs.YthnmlipnoajmkaaGreatDoor
open Go.RowKit
set_option maxRecDepth 100000

theorem qk3.chg {w w':World} {b:Nat} {x y:Value} {F:Nat→Prop} (h:qk3 w b x y) (hc:Chg F w w') (hf: ¬F b):qk3 w' b x y:= ⟨(hc.cell h.lt hf).trans h.1,(hc.cell h.lt hf).trans h.2⟩
theorem qak.later {w w':World} {v:Value} {zs:List Int} {F:Nat→Prop} (h:qak w v zs F) (hb:Below w.heap.size w w'):qak w' v zs F:=h.keep fun b _ hlt=>hb.block b hlt
theorem qak.chg {w w':World} {v:Value} {zs:List Int} {F G:Nat→Prop} (h:qak w v zs F) (hc:Chg G w w') (hd: ∀b,F b→ ¬G b):qak w' v zs F:=h.keep fun b hb hlt=>hc.block b hlt (hd b hb)
end Go.Proofs.YthnmlipnoajmkaaGreatDoor

namespace Go.Proofs.YthnmlipnoajmkaaGreatDoor
open Go.RowKit
set_option maxRecDepth 100000

def Bx (w:World) (b:Nat) (vs:List Value):Prop:= ∀i v,vs[i]?=some v→w.cell? ⟨b,i,none⟩=some v
theorem Bx.new (w:World) (vs:List Value) (t:TypeId):Bx (w.alloc (.cells vs.toArray t)) w.heap.size vs:=fun i v h=>by rw [qar];simpa using h
theorem Bx.later {w w':World} {b:Nat} {vs:List Value} (h:Bx w b vs) (hb:Below w.heap.size w w'):Bx w' b vs:=fun i v e=>cell_later hb (h i v e)
theorem Bx.chg {w w':World} {b:Nat} {vs:List Value} {F:Nat→Prop} (h:Bx w b vs) (hc:Chg F w w') (hf: ¬F b):Bx w' b vs:=fun i v e=>by
 have:=h i v e
 exact (hc.cell (a:= ⟨b,i,none⟩) (World.block_lt_of_cell? _ _ this) hf).trans this
theorem Bx.lt {w:World} {b:Nat} {v:Value} {vs:List Value} (h:Bx w b (v::vs)):b<w.heap.size:=World.block_lt_of_cell? _ _ (h 0 v rfl)

theorem qak.reads {w:World} {v:Value} {zs:List Int} {F:Nat→Prop} (h:qak w v zs F):qb1 w v zs:=h.ints
theorem qsn {w:World} {v:Value} {zs:List Int} (h:qb1 w v zs) (hn:zs.length≤1048576):
 Calls Tryz.prog 83 #[v] w fun e w'=> ∃a n c,e= .returned (.slice a n c)∧Below w.heap.size w w'∧qak w' (.slice a n c) zs (qaj w w'):=
 (qgu h hn).mono fun _ _ ⟨h1,h2,h3⟩=> ⟨_,_,_,h1,h2,h3⟩
theorem qpm {w:World} {v v':Value} {zs:List Int} (h:qb1 w v zs) (h':qb1 w v' zs):Calls Tryz.prog 105 #[v,v'] w fun e w'=>e= .returned (.bool true)∧Below w.heap.size w w':=
 (qld h h').mono fun _ _ ⟨h1,m,h2⟩=> ⟨by rw [h1,beq_self_eq_true],h2▸below_drewN (Below.refl _ _) m⟩
theorem qqU {w:World} {v:Value} {zs:List Int} {F:Nat→Prop} (k:Int) (h:qak w v zs F) (hk0:0≤k) (hk:k+ (zs.length:Nat)≤4611686018427387904):
 Calls Tryz.prog 66 #[v, .int .i64 k] w fun e w'=>e= .returned (.int .i64 (k+ (zs.length:Nat)))∧Chg F w w':=
 (qdm k h hk0 hk).mono fun _ _ ⟨h1,_,h2⟩=> ⟨h1,h2⟩

abbrev DK:=List (List Int)×List (Int×List Int)
def qml (w:World) (vB vC:Value) (d:DK):Prop:=qfd w vB d.1∧qlX w vC d.2
theorem qml.later {w w':World} {vB vC:Value} {d:DK} (h:qml w vB vC d) (hb:Below w.heap.size w w'):qml w' vB vC d:= ⟨h.1.later hb,h.2.later hb⟩
def qcX (w:World) (vB vC:Value) (d:DK) (F:Nat→Prop):Prop:=qbs w vB vC d.1 d.2 F
theorem qcX.reads {w:World} {vB vC:Value} {d:DK} {F:Nat→Prop} (h:qcX w vB vC d F):qml w vB vC d:= ⟨qbs.ints h,qbs.puts h⟩
theorem qcX.later {w w':World} {vB vC:Value} {d:DK} {F:Nat→Prop} (h:qcX w vB vC d F) (hb:Below w.heap.size w w'):qcX w' vB vC d F:=qbs.later h hb
theorem qcX.mono {w:World} {vB vC:Value} {d:DK} {F G:Nat→Prop} (h:qcX w vB vC d F) (e: ∀b,F b→G b):qcX w vB vC d G:=qbs.mono h e
theorem qcX.chg {w w':World} {vB vC:Value} {d:DK} {F G:Nat→Prop} (h:qcX w vB vC d F) (hc:Chg G w w') (hd: ∀b,F b→ ¬G b):qcX w' vB vC d F:=qbs.chg h hc hd
def qhb (d:DK):Nat:=qqQ d.1 d.2
def qfq (d:DK):Nat:=qqP d.1 d.2
theorem qjy (d:DK):qfq d≤qhb d:=by unfold qfq qhb qqP qqQ;omega
def qso (w:World) (r:Int×DK) (e:Ending) (w':World):Prop:= ∃aB nB cB aC nC cC,e= .returned (.agg #[.int .i64 r.1, .slice aB nB cB, .slice aC nC cC])∧Below w.heap.size w w'∧qcX w' (.slice aB nB cB) (.slice aC nC cC) r.2 (qaj w w')
theorem qg3.uni {w w':World} {c:Int} {bs:List (List Int)} {ps:List (Int×List Int)} {e:Ending} (h:qg3 w c bs ps e w'):qso w (c,bs,ps) e w':=by
 obtain ⟨aB,nB,cB,aC,nC,cC,h1,h2⟩:=h
 exact ⟨aB,nB,cB,aC,nC,cC,h1,h2.below,h2.disk⟩
def qh6 (k:Int) (d:DK):DK:= (qe0 k (d.1.map List.length),qe1 (k+ ((d.1.map List.length).sum:Nat)) (qeH d.2))
end Go.Proofs.YthnmlipnoajmkaaGreatDoor

namespace Go.Proofs.YthnmlipnoajmkaaGreatDoor
open Go.RowKit
set_option maxRecDepth 100000

abbrev EN:=ByteArray×Int
def en0:EN:= (⟨#[]⟩,0)
def qaV (es:List EN) (j:Nat):Value:=if j % 2=0 then .string (es[j/2]?.getD en0).1 else .int .i64 (es[j/2]?.getD en0).2
theorem qfr (es:List EN) (k:Nat):qaV es (k*2)= .string (es[k]?.getD en0).1:=by
 unfold qaV;rw [if_pos (by omega),show k*2/2=k by omega]
theorem qhc (es:List EN) (k:Nat):qaV es (k*2+1)= .int .i64 (es[k]?.getD en0).2:=by
 unfold qaV;rw [if_neg (by omega),show (k*2+1)/2=k by omega]

def AtN (w:World) (a:Option Addr) (n:Nat) (es:List EN):Prop:=
 ∀k,k<n→ ∃b off,a=some ⟨b,off,none⟩∧w.cell? ⟨b,off+k*2,none⟩=some (.string (es[k]?.getD en0).1)∧w.cell? ⟨b,off+k*2+1,none⟩=some (.int .i64 (es[k]?.getD en0).2)
theorem AtN.later {w w':World} {a:Option Addr} {n:Nat} {es:List EN} (h:AtN w a n es) (hb:Below w.heap.size w w'):AtN w' a n es:=fun k hk=>by
 obtain ⟨b,off,e,c0,c1⟩:=h k hk
 exact ⟨b,off,e,cell_later hb c0,cell_later hb c1⟩
def qdw (w:World) (v:Value) (es:List EN):Prop:= ∃a cap,v= .slice a es.length cap∧ (es.length≤maxLen∧es.length≤cap∧ ∀k:Nat,(es[k]?.getD en0).1.size≤maxLen)∧AtN w a es.length es
theorem qdw.later {w w':World} {v:Value} {es:List EN} (h:qdw w v es) (hb:Below w.heap.size w w'):qdw w' v es:=by
 obtain ⟨a,cap,h1,h2,h3⟩:=h
 exact ⟨a,cap,h1,h2,h3.later hb⟩
theorem qdw.nil (w:World) (a:Option Addr) (cap:Nat):qdw w (.slice a 0 cap) []:= ⟨a,cap,rfl,⟨by simp,by simp,fun k=>by simp [en0,ByteArray.size]⟩,fun k hk=>by simp at hk⟩
theorem qdw.open' {w:World} {v:Value} {es:List EN} (h:qdw w v es): ∃a cap,v= .slice a es.length cap∧es.length≤maxLen∧ (∀k:Nat,(es[k]?.getD en0).1.size≤maxLen)∧AtN w a es.length es:=by
 obtain ⟨a,cap,h1,h2,h3⟩:=h
 exact ⟨a,cap,h1,h2.1,h2.2.2,h3⟩

def qbc (w:World) (v:Value) (es:List EN) (F:Nat→Prop):Prop:=
 (es= []∧ ∃a cap,v= .slice a 0 cap)∨
 (∃b cap,F b∧v= .slice (some ⟨b,0,none⟩) es.length cap∧ (es.length≤maxLen∧es.length≤cap∧ ∀k:Nat,(es[k]?.getD en0).1.size≤maxLen)∧qaa w b (es.length*2) (qaV es))
theorem qaa.atN {w:World} {b n:Nat} {es:List EN} (h:qaa w b (n*2) (qaV es)):AtN w (some ⟨b,0,none⟩) n es:=fun k hk=>
 ⟨b,0,rfl,by rw [Nat.zero_add,h.cell (by omega),qfr],by rw [Nat.zero_add,h.cell (by omega),qhc]⟩
theorem qbc.reads {w:World} {v:Value} {es:List EN} {F:Nat→Prop} (h:qbc w v es F):qdw w v es:=by
 rcases h with ⟨rfl,a,cap,rfl⟩| ⟨b,cap,_,h1,h2,h3⟩
 · exact qdw.nil w a cap
 · exact ⟨_,cap,h1,h2,h3.atN⟩
theorem qbc.keep {w w':World} {v:Value} {es:List EN} {F:Nat→Prop} (h:qbc w v es F) (e: ∀b,F b→b<w.heap.size→w'.heap[b]?=w.heap[b]?):qbc w' v es F:=by
 rcases h with h| ⟨b,cap,hF,h1,h2,h3⟩
 · exact Or.inl h
 · exact Or.inr ⟨b,cap,hF,h1,h2,h3.block (e b hF h3.lt)⟩
theorem qbc.mono {w:World} {v:Value} {es:List EN} {F G:Nat→Prop} (h:qbc w v es F) (e: ∀b,F b→G b):qbc w v es G:=by
 rcases h with h| ⟨b,cap,hF,h1⟩
 · exact Or.inl h
 · exact Or.inr ⟨b,cap,e b hF,h1⟩
theorem qbc.bound {w:World} {v:Value} {es:List EN} {F:Nat→Prop} (h:qbc w v es F):qbc w v es (fun b=>F b∧b<w.heap.size):=by
 rcases h with h| ⟨b,cap,hF,h1,h2,h3⟩
 · exact Or.inl h
 · exact Or.inr ⟨b,cap,⟨hF,h3.lt⟩,h1,h2,h3⟩
theorem qbc.later {w w':World} {v:Value} {es:List EN} {F:Nat→Prop} (h:qbc w v es F) (hb:Below w.heap.size w w'):qbc w' v es F:=h.keep fun b _ hlt=>hb.block b hlt

def qce (k:Nat) (n:Nat):List EN:= (List.range n).map fun i:Nat=> (mkB (109::dg (k+2*i) []),((k+2*i+1:Nat):Int))
theorem qbu (k n:Nat): (qce k n).length=n:=by simp [qce]
theorem qeL (k:Nat) {n i:Nat} (h:i<n): (qce k n)[i]?.getD en0= (mkB (109::dg (k+2*i) []),((k+2*i+1:Nat):Int)):=by simp [qce,h]
def qbn (k c:Nat):Value:=if c % 2=0 then mkT (k+c) else .int .i64 ((k+c:Nat):Int)
theorem qh7 (k:Nat) {n c:Nat} (h:c<n*2):qaV (qce k n) c=qbn k c:=by
 have h3:c/2<n:=by omega
 unfold qaV qbn
 rw [qeL k h3]
 by_cases e:c % 2=0
 · rw [if_pos e,if_pos e];unfold mkT;rw [show k+2* (c/2)=k+c by omega]
 · rw [if_neg e,if_neg e];show Value.int .i64 ((k+2* (c/2)+1:Nat):Int)=_;rw [show k+2* (c/2)+1=k+c by omega]
theorem qqV (k:Nat): ∀acc,(dg k acc).length≤k+acc.length:=by
 induction k using Nat.strongRecOn with
 | ind k ih=>
   intro acc
   unfold dg
   split
   · omega
   · have:=ih (k/10) (by omega) (UInt8.ofNat (48+k % 10)::acc)
     simp only [List.length_cons] at this
     omega
theorem qjz (k n:Nat) (h:k+2*n≤4294967296) (i:Nat): ((qce k n)[i]?.getD en0).1.size≤maxLen:=by
 unfold maxLen
 by_cases e:i<n
 · rw [qeL k e]
   show (mkB (109::dg (k+2*i) [])).size≤_
   rw [qaC]
   have:=qqV (k+2*i) []
   simp only [List.length_cons,List.length_nil] at this ⊢
   omega
 · rw [List.getElem?_eq_none (by rw [qbu];omega)]
   simp [en0,ByteArray.size]

def qef (es:List EN) (j c:Nat):Value:=if c<j*2 then qaV es c else qdv (.string ⟨#[]⟩) (.int .i64 0) c
theorem qle (es:List EN) (j c:Nat): (if c=j*2+1 then .int .i64 (es[j]?.getD en0).2 else (if c=j*2 then .string (es[j]?.getD en0).1 else qef es j c))=qef es (j+1) c:=by
 unfold qef
 by_cases e1:c=j*2+1
 · subst e1;rw [if_pos rfl,if_pos (by omega),qhc]
 · rw [if_neg e1]
   by_cases e0:c=j*2
   · subst e0;rw [if_pos rfl,if_pos (by omega),qfr]
   · rw [if_neg e0]
     by_cases h:c<j*2
     · rw [if_pos h,if_pos (by omega)]
     · rw [if_neg h,if_neg (by omega)]
def qbj (es:List EN):List Nat:=es.map fun e=>e.1.size
theorem qdn (es:List EN): (qbj es).length=es.length:=by simp [qbj]
theorem qh8 (es:List EN) (i:Nat): (qbj es)[i]?.getD 0= (es[i]?.getD en0).1.size:=by
 unfold qbj;rw [List.getElem?_map];cases es[i]?<;>rfl
def qcH (es:List EN):Nat:=es.length+ (qbj es).sum

def qlf (v:Value):Prop:= ∃a n c,v= .slice a n c∧n≤c
abbrev ID:=Int×Int×Int×List Int×List EN
def qfs (w:World) (v0 v1 v2 vB vE:Value) (d:ID):Prop:= (v0= .int .i64 d.1∧v1= .int .i64 d.2.1∧v2= .int .i64 d.2.2.1∧qlf vB)∧qb1 w vB d.2.2.2.1∧qdw w vE d.2.2.2.2
theorem qfs.later {w w':World} {v0 v1 v2 vB vE:Value} {d:ID} (h:qfs w v0 v1 v2 vB vE d) (hb:Below w.heap.size w w'):qfs w' v0 v1 v2 vB vE d:= ⟨h.1,h.2.1.later hb,h.2.2.later hb⟩
def qdo (w:World) (v0 v1 v2 vB vE:Value) (d:ID) (F:Nat→Prop):Prop:= (v0= .int .i64 d.1∧v1= .int .i64 d.2.1∧v2= .int .i64 d.2.2.1∧qlf vB)∧ ∃F1 G1:Nat→Prop,qak w vB d.2.2.2.1 F1∧qbc w vE d.2.2.2.2 G1∧ (∀b,F1 b→ ¬G1 b)∧ ∀b,F1 b∨G1 b→F b
theorem qdo.reads {w:World} {v0 v1 v2 vB vE:Value} {d:ID} {F:Nat→Prop} (h:qdo w v0 v1 v2 vB vE d F):qfs w v0 v1 v2 vB vE d:=by
 obtain ⟨h0,_,_,h1,h2,_⟩:=h
 exact ⟨h0,h1.reads,h2.reads⟩
theorem qdo.keep {w w':World} {v0 v1 v2 vB vE:Value} {d:ID} {F:Nat→Prop} (h:qdo w v0 v1 v2 vB vE d F) (e: ∀b,F b→b<w.heap.size→w'.heap[b]?=w.heap[b]?):qdo w' v0 v1 v2 vB vE d F:=by
 obtain ⟨h0,F1,G1,h1,h2,hd,hf⟩:=h
 exact ⟨h0,F1,G1,h1.keep fun b hb=>e b (hf b (Or.inl hb)),h2.keep fun b hb=>e b (hf b (Or.inr hb)),hd,hf⟩
theorem qdo.later {w w':World} {v0 v1 v2 vB vE:Value} {d:ID} {F:Nat→Prop} (h:qdo w v0 v1 v2 vB vE d F) (hb:Below w.heap.size w w'):qdo w' v0 v1 v2 vB vE d F:=h.keep fun b _ hlt=>hb.block b hlt
theorem qdo.mono {w:World} {v0 v1 v2 vB vE:Value} {d:ID} {F G:Nat→Prop} (h:qdo w v0 v1 v2 vB vE d F) (e: ∀b,F b→G b):qdo w v0 v1 v2 vB vE d G:=by
 obtain ⟨h0,F1,G1,h1,h2,hd,hf⟩:=h
 exact ⟨h0,F1,G1,h1,h2,hd,fun b hb=>e b (hf b hb)⟩
theorem qdo.chg {w w':World} {v0 v1 v2 vB vE:Value} {d:ID} {F G:Nat→Prop} (h:qdo w v0 v1 v2 vB vE d F) (hc:Chg G w w') (hd: ∀b,F b→ ¬G b):qdo w' v0 v1 v2 vB vE d F:=h.keep fun b hb hlt=>hc.block b hlt (hd b hb)
def sizeIno (d:ID):Nat:=d.2.2.2.1.length+qcH d.2.2.2.2
def qaF (d:ID):Nat:=d.2.2.2.1.length+2*d.2.2.2.2.length
theorem qlg (d:ID):qaF d≤2*sizeIno d:=by unfold qaF sizeIno qcH;omega
end Go.Proofs.YthnmlipnoajmkaaGreatDoor
