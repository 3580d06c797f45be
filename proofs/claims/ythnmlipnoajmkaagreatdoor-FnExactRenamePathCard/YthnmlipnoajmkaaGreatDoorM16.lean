/- What is within what:by steps so many at most,and by any way. The program's UsedBlocks,FreeBlocks and PickBlocks. The program:what is wrong of inodes,data and entries of a file system. Pieces of a list of extents:what slicing it comes to. A queue:words that grow by append and are gone through from the front. Maps from int64 to int64 that the call made:what they tell of a key. -/
import Derived.Test.YthnmlipnoajmkaaGreatDoorM15
import Derived.Test.YthnmlipnoajmkaaGreatDoorM14
import Derived.Test.YthnmlipnoajmkaaGreatDoorM10
import Derived.Test.YthnmlipnoajmkaaGreatDoorM12
import Derived.Test.YthnmlipnoajmkaaGreatDoorM07
import Derived.Test.YthnmlipnoajmkaaGreatDoorM08
import Derived.Maps.RangeWalk
import Derived.Maps.OwnOps
import Derived.Maps.Views
namespace Go.Proofs.YthnmlipnoajmkaaGreatDoor
open Go.RowKit
set_option maxRecDepth 100000

def qca (E:Nat→List Int) (a:Int):Nat→Int→Bool
 |0,t=>decide (a=t)
 |k+1,t=>decide (a=t)|| (E t.toNat).any fun x=>qca E a k x
theorem RT.head {E:Nat→List Int} {t i:Nat} {x:Int} (hx:x∈E t) (h:RT E x.toNat i):RT E t i:=by
 induction h with
 |zero=>exact .step .zero hx
 |step _ hy ih=>exact .step ih hy
theorem qgR {E:Nat→List Int} {a:Int}: ∀ (k:Nat) (t:Int),qca E a k t=true→RT E t.toNat a.toNat
 | 0,t,h=>by
   have:a=t:=by simpa [qca] using h
   rw [this];exact .zero
 | k +1,t,h=>by
   unfold qca at h
   rw [Bool.or_eq_true] at h
   rcases h with h|h
   · have:a=t:=by simpa using h
     rw [this];exact .zero
   · obtain ⟨x,hx,hw⟩:=List.any_eq_true.1 h
     exact RT.head hx (qgR k x hw)
theorem qex (E:Nat→List Int) (a:Int): ∀k,qca E a k a=true
 |0=>by simp [qca]
 |k+1=>by simp [qca]
theorem qke {E:Nat→List Int} {a:Int}: ∀ (k:Nat) (t:Int),qca E a k t=true→qca E a (k+1) t=true
 | 0,t,h=>by
   have:a=t:=by simpa [qca] using h
   rw [this];exact qex _ _ _
 | k +1,t,h=>by
   unfold qca at h ⊢
   rw [Bool.or_eq_true] at h ⊢
   rcases h with h|h
   · exact Or.inl h
   · obtain ⟨x,hx,hw⟩:=List.any_eq_true.1 h
     exact Or.inr (List.any_eq_true.2 ⟨x,hx,qke k x hw⟩)
theorem qiK {E:Nat→List Int} {a x:Int} (hx:x∈E a.toNat): ∀ (k:Nat) (t:Int),qca E a k t=true→qca E x (k+1) t=true
 | 0,t,h=>by
   have:a=t:=by simpa [qca] using h
   subst this
   unfold qca
   rw [Bool.or_eq_true]
   exact Or.inr (List.any_eq_true.2 ⟨x,hx,qex _ _ _⟩)
 | k +1,t,h=>by
   unfold qca at h
   rw [Bool.or_eq_true] at h
   rcases h with h|h
   · have:a=t:=by simpa using h
     subst this
     unfold qca
     rw [Bool.or_eq_true]
     exact Or.inr (List.any_eq_true.2 ⟨x,hx,qex _ _ _⟩)
   · obtain ⟨y,hy,hw⟩:=List.any_eq_true.1 h
     unfold qca
     rw [Bool.or_eq_true]
     exact Or.inr (List.any_eq_true.2 ⟨y,hy,qiK hx k y hw⟩)
def qrn (E:Nat→List Int) (n:Nat) (t:Int) (k:Nat):Prop:= ∀i:Nat,i<n→qca E (i:Int) (k+1) t=true→qca E (i:Int) k t=true
theorem qm9 (E:Nat→List Int) (n:Nat) (t:Nat) (ht:t<n): ∀k,(∃q,q≤k∧qrn E n (t:Int) q)∨k+1≤qm7 (fun i=>qca E (i:Int) k (t:Int)) n
 | 0=>by
   right
   have:=qfZ (g:=fun _=>false) (g':=fun i=>qca E (i:Int) 0 (t:Int)) (by simp) (j:=t) (by simp [qca]) (by simp) n ht
   omega
 | k + 1 =>by
   rcases qm9 E n t ht k with ⟨q,hq,hc⟩|h
   · exact Or.inl ⟨q,by omega,hc⟩
   · by_cases hc:qrn E n (t:Int) k
     · exact Or.inl ⟨k,by omega,hc⟩
     · right
       have: ∃j,j<n∧qca E (j:Int) (k+1) (t:Int)=true∧ ¬qca E (j:Int) k (t:Int)=true:=by
        apply Classical.byContradiction
        intro hno
        apply hc
        intro i hi hw
        apply Classical.byContradiction
        intro hn
        exact hno ⟨i,hi,hw,hn⟩
       obtain ⟨j,hj,h1,h2⟩:=this
       have:=qfZ (g:=fun i=>qca E (i:Int) k (t:Int)) (g':=fun i=>qca E (i:Int) (k+1) (t:Int)) (fun i hi=>qke k _ hi) h1 h2 n hj
       omega
theorem qiL {E:Nat→List Int} {a t:Int} {k:Nat} (h:qca E a k t=true): ∀q,qca E a (k+q) t=true
 |0=>h
 |q+1=>qke _ _ (qiL h q)
theorem qpR {ds:List ID} (hr:qa8 ds) {n a t:Nat} (hn:ds.length=n) (h10:n≤10) (ht:t<n):qca (qai ds) (a:Int) 10 (t:Int)=true↔RT (qai ds) t a:=by
 subst hn
 refine ⟨fun h=>by have:=qgR _ _ h;simpa using this,fun h=> ?_⟩
 rcases qm9 (qai ds) ds.length t ht ds.length with ⟨q,hq,hc⟩|hbig
 · have key:a<ds.length∧qca (qai ds) (a:Int) q (t:Int)=true:=by
    induction h with
    |zero=>exact ⟨ht,qex _ _ _⟩
    | @step j x _ hx ih=>
      have hxr:=hr j ih.1 x hx
      have he: ((x.toNat:Nat):Int)=x:=by omega
      refine ⟨by omega,hc _ (by omega) ?_⟩
      rw [he]
      exact qiK (a:= (j:Int)) (by simpa using hx) q _ ih.2
   have:=qiL key.2 (10-q)
   rwa [show q+ (10-q)=10 by omega] at this
 · have:=qkd (fun i=>qca (qai ds) (i:Int) ds.length (t:Int)) ds.length
   omega
def qsB (d:FD) (x y:Int):Bool:=decide (0≤x∧x< (d.1.length:Int))&& !decide (qae d.1 x.toNat=0)&& (decide (0≤y∧y< (d.1.length:Int))&& !decide (qae d.1 y.toNat=0))&&qca (qai d.1) x 10 y
end Go.Proofs.YthnmlipnoajmkaaGreatDoor

namespace Go.Proofs.YthnmlipnoajmkaaGreatDoor
open Go.RowKit
set_option maxRecDepth 100000

theorem Arr.putNew (w:World) (g:Nat→Nat): ∃X,(Instr.storeAt 151 (.pointer (some ⟨w.heap.size,0,none⟩)) (.agg (qbX g))).run Tryz.prog (w.alloc (.cells (qbX fun _=>0) 151))= .ok () X∧Arr X w.heap.size g∧Below w.heap.size w X:=by
 obtain ⟨X,h1,h2,h3,h4,h5,h6,h7⟩:= (Arr.new w fun _=>0).put g
 exact ⟨X,h1,h2,(qab w (.cells (qbX fun _=>0) 151)).trans ⟨h5,h6,h7,by omega,fun c hc=>h4 c (by omega)⟩⟩

theorem qro {zs:List Int} (h:qqu zs=0) (k:Nat) (hk:k<zs.length):0≤zs[k]?.getD 0∧zs[k]?.getD 0<20:=by
 unfold qqu at h
 split at h
 · omega
 · have:=qby h k hk
   unfold qil at this
   split at this<;>omega
theorem qr0 {zs:List Int} (h:qqu zs=0):zs.length≤20:=by
 unfold qqu at h
 split at h<;>omega
theorem qpS (ds:List ID) (hs:qag ds≤1048576) (v:Int):cntB ds v≤1048576:=by
 have h2:=qft ds
 have h3:=List.count_le_length (a:=v) (l:=qoh ds)
 unfold qag at hs
 unfold cntB
 omega
theorem qlH (ds:List ID):qj6 (fun i=>cntB ds (i:Int))= !qb8 ds 20:=by
 unfold qj6 qb8
 rw [List.not_all_eq_any_not]
 congr 1
 funext k
 simp only [←decide_not]
 rw [decide_eq_decide]
 omega
theorem qr1 (ds:List ID) (bs:List Int): (fun k:Nat=>decide (cntB ds (k:Int)+bs.count (k:Int)=0))=qim ds bs:=by
 funext k
 unfold qim
 cases hb:bs.contains (k:Int) with
 | true=>
   have h1: (k:Int)∈bs:=by simpa using hb
   have h2:=List.count_pos_iff.2 h1
   simp;omega
 | false=>
   have h1: ¬ (k:Int)∈bs:=by simpa using hb
   have h2:=List.count_eq_zero.2 h1
   rw [h2];simp

end Go.Proofs.YthnmlipnoajmkaaGreatDoor

namespace Go.Proofs.YthnmlipnoajmkaaGreatDoor
open Go.RowKit
set_option maxRecDepth 100000

set_option maxHeartbeats 800000 in
theorem qf0 (w:World) (a1:Option Addr) (n1 c1:Nat) (a2:Option Addr) (n2 c2:Nat) (x:Int):
 Calls Tryz.prog 130 #[.agg #[.slice a1 n1 c1, .slice a2 n2 c2], .int .i64 x] w fun e w'=>e= .returned (.bool (decide (0≤x∧x< (n1:Int))))∧Below w.heap.size w w':=by
 by_cases h0:0≤x
 · have HR:Hid (decide (0≤x∧x< (n1:Int))=decide (x< (n1:Int))):=by unfold Hid;simp [h0]
   have hd:decide (0≤x)=true:=by simpa using h0
   clear h0
   go_enter Tryz.func130,Tryz.ntmps130
   go_wp2
   go_ret
   exact ⟨qaB HR.out.symm,qab _ _⟩
 · have HR:Hid (decide (0≤x∧x< (n1:Int))=false):=by unfold Hid;simp;omega
   have hd:decide (0≤x)=false:=by simpa using h0
   clear h0
   go_enter Tryz.func130,Tryz.ntmps130
   go_wp2
   go_ret
   exact ⟨qaB HR.out.symm,qab _ _⟩

def thB (d:FD) (x:Int):Bool:=decide (0≤x∧x< (d.1.length:Int))&& !decide (qae d.1 x.toNat=0)
set_option maxHeartbeats 1600000 in
theorem qd3 (w:World) (a1:Option Addr) (n1 c1:Nat) (a2:Option Addr) (n2 c2:Nat) (d:FD) (x:Int) (h:FsR w (.slice a1 n1 c1) (.slice a2 n2 c2) d):
 Calls Tryz.prog 100 #[.agg #[.slice a1 n1 c1, .slice a2 n2 c2], .int .i64 x] w fun e w'=>e= .returned (.bool (thB d x))∧Below w.heap.size w w':=by
 have HX:Hid (Bx (w.alloc (.cells #[.slice a1 n1 c1, .slice a2 n2 c2] 31)) w.heap.size [.slice a1 n1 c1, .slice a2 n2 c2]):=Bx.new w [.slice a1 n1 c1, .slice a2 n2 c2] _
 have HIN:Hid (∀W,Calls Tryz.prog 130 #[.agg #[.slice a1 n1 c1, .slice a2 n2 c2], .int .i64 x] W fun e w'=>e= .returned (.bool (decide (0≤x∧x< (n1:Int))))∧Below W.heap.size W w'):=fun W=>qf0 W a1 n1 c1 a2 n2 c2 x
 obtain ⟨_,_,e2,hm2,hc⟩:=h.1.open'
 simp only [Value.slice.injEq] at e2
 obtain ⟨rfl,rfl,rfl⟩:=e2
 have HB0:Hid (Below w.heap.size w (w.alloc (.cells #[.slice a1 d.1.length c1, .slice a2 n2 c2] 31))):=qab _ _
 have hz0: (w.alloc (.cells #[.slice a1 d.1.length c1, .slice a2 n2 c2] 31)).heap.size=w.heap.size+1:=by simp
 by_cases hin:0≤x∧x< (d.1.length:Int)
 · obtain ⟨y,rfl⟩: ∃y:Nat,x= (y:Int):= ⟨x.toNat,by omega⟩
   have hy:y<d.1.length:=by omega
   obtain ⟨b,o,rfl,hK⟩:=hc y hy
   obtain ⟨_,_,_,_,kc,_⟩:=hK
   have HKC:Hid (w.cell? ⟨b,o+y*5,none⟩=some (.int .i64 (d.1[y]?.getD id0).1)):=kc
   have HR:Hid (thB d (y:Int)= ((d.1[y]?.getD id0).1 !=0)):=by
    unfold Hid thB qae
    rw [decide_eq_true hin,Bool.true_and,Int.toNat_natCast]
    by_cases e: (d.1[y]?.getD id0).1=0
    · rw [e];rfl
    · rw [decide_eq_false e];symm;simpa using e
   have hyI: (y:Int)< ((d.1.length:Nat):Int):=hin.2
   rw [decide_eq_true hin] at HIN
   rw [HR.out]
   clear kc hc h hin HR hm2
   generalize (d.1[y]?.getD id0).1=ky at*
   generalize d.1.length=n at*
   go_enter Tryz.func100,Tryz.ntmps100
   go_wp2_with fail
   generalize (w.alloc (.cells #[.slice (some ⟨b,o,none⟩) n c1, .slice a2 n2 c2] 31))=W0 at*
   refine (HIN.out _).mono ?_
   rintro e w1 ⟨rfl,hb1⟩
   have HB1:Hid (Below w.heap.size w w1):=HB0.out.trans (hb1.mono HB0.out.size)
   have x0:= (HX.out.later hb1) 0 _ rfl
   have x1:= (HX.out.later hb1) 1 _ rfl
   have k1:=cell_later HB1.out HKC.out
   clear hb1
   go_wp2
   go_ret
   exact ⟨rfl,HB1.out⟩
 · have HR:Hid (thB d x=false):=by unfold Hid thB;rw [decide_eq_false hin];rfl
   rw [decide_eq_false hin] at HIN
   rw [HR.out]
   clear hc h hin HR hm2
   generalize d.1.length=n at*
   go_enter Tryz.func100,Tryz.ntmps100
   go_wp2_with fail
   generalize (w.alloc (.cells #[.slice a1 n c1, .slice a2 n2 c2] 31))=W0 at*
   refine (HIN.out _).mono ?_
   rintro e w1 ⟨rfl,hb1⟩
   have HB1:Hid (Below w.heap.size w w1):=HB0.out.trans (hb1.mono HB0.out.size)
   clear hb1
   go_wp2
   go_ret
   exact ⟨rfl,HB1.out⟩
theorem qpT {d:FD} {x:Int} (h:0≤x):thB d x= !qa7 d.1 x:=by
 unfold thB qa7
 by_cases e:x< (d.1.length:Int)
 · rw [decide_eq_true (show 0≤x∧x< (d.1.length:Int) from ⟨h,e⟩),decide_eq_false (show ¬ (d.1.length:Int)≤x by omega)]
   simp
 · rw [decide_eq_false (show ¬ (0≤x∧x< (d.1.length:Int)) from fun hh=>e hh.2),decide_eq_true (show (d.1.length:Int)≤x by omega)]
   simp

def qey (d:FD):Int:=if d.2.length=20 then (if qaJ (qbz d.2) d.2.length=0 then (if qb8 d.1 20 then 0 else 7) else qaJ (qbz d.2) d.2.length) else 1

set_option maxHeartbeats 3200000 in
theorem qhB (w:World) (aI:Option Addr) (nI cI:Nat) (aD:Option Addr) (nD cD:Nat) (d:FD) (h:FsR w (.slice aI nI cI) (.slice aD nD cD) d) (hs:qag d.1≤1048576) (hi:qaY d.1=0):
 Calls Tryz.prog 86 #[.agg #[.slice aI nI cI, .slice aD nD cD]] w fun e w'=>e= .returned (.int .i64 (qey d))∧Below w.heap.size w w':=by
 have HNE:Hid (∀W,Below w.heap.size w W→Calls Tryz.prog 117 #[.slice aI nI cI] W fun e w'=>e= .returned (.agg (qbX fun i=>cntB d.1 (i:Int)))∧Below W.heap.size W w'):=fun W hW=>qj5 (h.1.later hW) hs hi
 have HM:Hid (∀W,Calls Tryz.prog 118 #[.agg (qbX fun i=>cntB d.1 (i:Int))] W fun e w'=>e= .returned (.bool (!qb8 d.1 20))∧Below W.heap.size W w'):=fun W=>by
  rw [←qlH]
  exact qiE W _ (fun i=>by have:=qpS d.1 hs (i:Int);omega)
 have HX:Hid (Bx (w.alloc (.cells #[.slice aI nI cI, .slice aD nD cD] 31)) w.heap.size [.slice aI nI cI, .slice aD nD cD]):=Bx.new w [.slice aI nI cI, .slice aD nD cD] _
 have HDF:Hid (qey d=if d.2.length=20 then (if qaJ (qbz d.2) d.2.length=0 then (if qb8 d.1 20 then 0 else 7) else qaJ (qbz d.2) d.2.length) else 1):=rfl
 obtain ⟨_,_,e2,hm2,hc⟩:=h.2.open'
 simp only [Value.slice.injEq] at e2
 obtain ⟨rfl,rfl,rfl⟩:=e2
 by_cases h20:d.2.length=20
 rotate_left
 · have hb: ((d.2.length:Int) !=20)=true:=by simp;omega
   have HR:Hid (qey d=1):=by unfold Hid;rw [HDF.out,if_neg h20]
   clear hc h HDF hm2 h20
   generalize d.2.length=n at*
   go_enter Tryz.func86,Tryz.ntmps86
   go_wp2
   go_ret
   exact ⟨qad HR.out.symm,qab _ _⟩
 · have HC :Hid (qgi w aD 20 d.2):=by unfold Hid;rw [←h20];exact hc
   have HL2:Hid (d.2.length=20):=h20
   have hb: (((20:Nat):Int) !=20)=false:=by simp
   clear hc h hm2
   rw [h20] at HX ⊢
   clear h20
   generalize (fun i:Nat=>cntB d.1 (i:Int))=g at*
   go_enter Tryz.func86,Tryz.ntmps86
   go_wp2
   go_loopw [12] (fun i wr=> ∃j:Nat,j≤20∧i= .int .i64 j∧wr=w.alloc (.cells #[.slice aI nI cI, .slice aD 20 cD] 31)∧ ∀i:Nat,i<j→qbz d.2 i=0) (fun i _=>20- (intOf i).toNat)
   case atStart=>exact ⟨0,by omega,rfl,rfl,fun i hi=>by omega⟩
   case round=>
    obtain ⟨j,hj,rfl,rfl,hz⟩:=hrel
    have HZ:Hid (∀i:Nat,i<j→qbz d.2 i=0):=hz
    clear hz
    by_cases hlt:j<20
    · obtain ⟨bD,oD,ua,uc,rfl,d0,_⟩:=HC.out j hlt
      replace d0:=cell_later (qab w (.cells #[.slice aI nI cI, .slice (some ⟨bD,oD,none⟩) 20 cD] 31)) d0
      by_cases h8:8< (d.2[j]?.getD []).length
      · have hb8:decide ((8:Int)< (((d.2[j]?.getD []).length:Nat):Int))=true:=by simp;omega
        have HR:Hid (qey d=2):=by
         have e1:qbz d.2 j=2:=by unfold qbz;rw [if_pos h8]
         have e2:=qbx (f:=qbz d.2) HZ.out (by rw [e1];omega) (n:=d.2.length) (by rw [HL2.out];exact hlt)
         unfold Hid;rw [HDF.out,if_pos HL2.out,e2,e1];simp
        clear h8
        generalize (d.2[j]?.getD []).length=ln at*
        go_wp2
        go_ret
        exact ⟨qad HR.out.symm,qab _ _⟩
      · have hb8:decide ((8:Int)< (((d.2[j]?.getD []).length:Nat):Int))=false:=by simp;omega
        have HR:Hid (∀i:Nat,i<j+1→qbz d.2 i=0):=fun i hi=>by
         by_cases e:i=j
         · subst e;unfold qbz;rw [if_neg h8]
         · exact HZ.out i (by omega)
        clear h8
        generalize (d.2[j]?.getD []).length=ln at*
        go_wp2
        go_roundw
        case rel=>exact ⟨j+1,by omega,by go_num,by first|rfl|trivial,HR.out⟩
        case measure=>simp [intOf];omega
    · have HR:Hid (qey d=if qb8 d.1 20 then 0 else 7):=by
       have e2:=qaG (f:=qbz d.2) (n:=d.2.length) (fun i hi=>HZ.out i (by rw [HL2.out] at hi;omega))
       unfold Hid;rw [HDF.out,if_pos HL2.out,e2];simp
      clear HZ HC HL2 HDF
      generalize qb8 d.1 20=bo at*
      cases bo
      all_goals
       go_wp2_with fail
       refine (HNE.out _ (qab _ _)).mono ?_
       rintro e w1 ⟨rfl,hb1⟩
       have HB1:Hid (Below w.heap.size w w1):= (qab _ _).trans (hb1.mono (by simp))
       clear hb1
       go_wp2_with fail
       refine (HM.out _).mono ?_
       rintro e w2 ⟨rfl,hb2⟩
       have HB2:Hid (Below w.heap.size w w2):=HB1.out.trans (hb2.mono HB1.out.size)
       clear hb2
       go_wp2
       go_ret
       exact ⟨qad HR.out.symm,HB2.out⟩

set_option maxHeartbeats 6400000 in
theorem qfi (w:World) (aI:Option Addr) (nI cI:Nat) (aD:Option Addr) (nD cD:Nat) (d:FD) (h:FsR w (.slice aI nI cI) (.slice aD nD cD) d) (hs:qag d.1≤1048576) (hi:qaY d.1=0):
 Calls Tryz.prog 87 #[.agg #[.slice aI nI cI, .slice aD nD cD]] w fun e w'=>e= .returned (.int .i64 (qcA d.1))∧Below w.heap.size w w':=by
 have HX:Hid (Bx (w.alloc (.cells #[.slice aI nI cI, .slice aD nD cD] 31)) w.heap.size [.slice aI nI cI, .slice aD nD cD]):=Bx.new w [.slice aI nI cI, .slice aD nD cD] _
 obtain ⟨_,_,e2,hm2,hc⟩:=h.1.open'
 simp only [Value.slice.injEq] at e2
 obtain ⟨rfl,rfl,rfl⟩:=e2
 have HC:Hid (AtI w aI d.1.length d.1):=hc
 have HPOS:Hid (∀j,j<d.1.length→ ∀k,k< (d.1[j]?.getD id0).2.2.2.2.length→0≤ ((d.1[j]?.getD id0).2.2.2.2[k]?.getD en0).2):=fun j hj=>qjY (qaM hi j hj)
 have HZ:Hid (∀j,(d.1[j]?.getD id0).2.2.2.2.length≤1048576):=fun j=>by
  have:=qeg d.1 j
  have hd:sizeIno (d.1[j]?.getD id0)= (d.1[j]?.getD id0).2.2.2.1.length+ ((d.1[j]?.getD id0).2.2.2.2.length+ (qbj (d.1[j]?.getD id0).2.2.2.2).sum):=rfl
  unfold qag at hs
  omega
 have HIN:Hid (∀W x,0≤x→Below w.heap.size w W→Calls Tryz.prog 100 #[.agg #[.slice aI d.1.length cI, .slice aD nD cD], .int .i64 x] W fun e w'=>e= .returned (.bool (!qa7 d.1 x))∧Below W.heap.size W w'):=fun W x hx hW=>by
  have:=qd3 W aI _ cI aD nD cD d x (h.later hW)
  rw [qpT hx] at this
  exact this
 have hn:d.1.length≤1048576:=by unfold qag at hs;omega
 clear hc h hs hi hm2
 obtain ⟨n,hnn⟩: ∃n,d.1.length=n:= ⟨_,rfl⟩
 have HN:Hid (d.1.length=n):=hnn
 rw [hnn] at HC HPOS HX HIN hn ⊢
 clear hnn
 go_enter Tryz.func87,Tryz.ntmps87
 go_wp2
 go_loopw [10] (fun i wr=> ∃j:Nat,j≤n∧i= .int .i64 j∧Below (w.heap.size+1) (w.alloc (.cells #[.slice aI n cI, .slice aD nD cD] 31)) wr∧ ∀j',j'<j→ ∀k,k< (d.1[j']?.getD id0).2.2.2.2.length→qa7 d.1 ((d.1[j']?.getD id0).2.2.2.2[k]?.getD en0).2=false) (fun i _=>n- (intOf i).toNat)
 case atStart=>exact ⟨0,Nat.zero_le _,rfl,Below.refl _ _,fun j hj=>by omega⟩
 case round=>
  obtain ⟨j,hj,rfl,hbl,hz⟩:=hrel
  have HZJ0:Hid (∀j',j'<j→ ∀k,k< (d.1[j']?.getD id0).2.2.2.2.length→qa7 d.1 ((d.1[j']?.getD id0).2.2.2.2[k]?.getD en0).2=false):=hz
  have HBL:Hid (Below (w.heap.size+1) (w.alloc (.cells #[.slice aI n cI, .slice aD nD cD] 31)) wr):=hbl
  have HBW:Hid (Below w.heap.size w wr):= (qab _ _).trans (hbl.mono (by omega))
  have hwz:w.heap.size+1≤wr.heap.size:=by have:=hbl.size;simpa using this
  clear hbl hz
  by_cases hlt:j<n
  · obtain ⟨b,o,rfl,hI⟩:=HC.out j hlt
    obtain ⟨aB,cB,aE,cE,c0,c1,c2,c3,c4,h5⟩:=hI.later HBW.out
    obtain ⟨_,_,e1,hm1,_,hc1⟩:=h5.2.2.open'
    simp only [Value.slice.injEq] at e1
    obtain ⟨rfl,_,rfl⟩:=e1
    have hZ1:=HZ.out j
    have HCB:Hid (AtN wr aE (d.1[j]?.getD id0).2.2.2.2.length (d.1[j]?.getD id0).2.2.2.2):=hc1
    have HP1:Hid (∀k,k< (d.1[j]?.getD id0).2.2.2.2.length→0≤ ((d.1[j]?.getD id0).2.2.2.2[k]?.getD en0).2):=HPOS.out j hlt
    have HY:Hid (∀k,k< (d.1[j]?.getD id0).2.2.2.2.length→qa7 d.1 ((d.1[j]?.getD id0).2.2.2.2[k]?.getD en0).2=true→qcA d.1=4):=fun k hk hl=>qhn (by rw [HN.out];exact hlt) hk hl
    have HNX:Hid ((∀k,k< (d.1[j]?.getD id0).2.2.2.2.length→qa7 d.1 ((d.1[j]?.getD id0).2.2.2.2[k]?.getD en0).2=false)→ ∀j',j'<j+1→ ∀k,k< (d.1[j']?.getD id0).2.2.2.2.length→qa7 d.1 ((d.1[j']?.getD id0).2.2.2.2[k]?.getD en0).2=false):=fun hh j' hj' k hk=>by
     by_cases e:j'=j
     · subst e;exact hh k hk
     · exact HZJ0.out j' (by omega) k hk
    clear h5 hI hc1 hm1
    generalize (d.1[j]?.getD id0)=dj at*
    obtain ⟨dk,dl,dz,db,es⟩:=dj
    dsimp only at*
    generalize db.length=nD2 at*
    obtain ⟨nE,hnE⟩: ∃nE,nE=es.length:= ⟨_,rfl⟩
    have HNE:Hid (nE=es.length):=hnE
    rw [←hnE] at c4 hZ1 HCB HP1 HY HNX
    clear hnE
    go_wp2
    clear c0 c1 c2 c3 c4
    obtain ⟨wo,rfl⟩: ∃wo,wo=wr:= ⟨_,rfl⟩
    go_loopw [17] (fun i wr2=> ∃k:Nat,k≤nE∧i= .int .i64 k∧Below wo.heap.size wo wr2∧ ∀k',k'<k→qa7 d.1 (es[k']?.getD en0).2=false) (fun i _=>nE- (intOf i).toNat)
    case atStart=>exact ⟨0,Nat.zero_le _,rfl,qab _ _,fun k hk=>by omega⟩
    case round=>
     obtain ⟨k,hk,rfl,hbl2,hz2⟩:=hrel
     have HB2:Hid (Below wo.heap.size wo wr):=hbl2
     have HZ2:Hid (∀k',k'<k→qa7 d.1 (es[k']?.getD en0).2=false):=hz2
     have HBW2:Hid (Below w.heap.size w wr):=HBW.out.trans (hbl2.mono HBW.out.size)
     have HBX2:Hid (Bx wr w.heap.size [.slice (some ⟨b,o,none⟩) n cI, .slice aD nD cD]):=fun i v hv=>by
      have h1:=HX.out i v hv
      have h2:= (HBL.out.trans (hbl2.mono (by simpa using hwz))).block w.heap.size (by omega)
      simp only [World.cell?] at h1 ⊢
      rw [h2];exact h1
     clear hbl2 hz2
     by_cases hlk:k<nE
     · obtain ⟨b1,o1,rfl,d0,d1⟩:=HCB.out k hlk
       replace d0:=cell_later HB2.out d0
       replace d1:=cell_later HB2.out d1
       have hx0:=HP1.out k hlk
       have HYK:Hid (qa7 d.1 (es[k]?.getD en0).2=true→qcA d.1=4):=HY.out k hlk
       have HNK:Hid (qa7 d.1 (es[k]?.getD en0).2=false→ ∀k',k'<k+1→qa7 d.1 (es[k']?.getD en0).2=false):=fun hh k' hk'=>by
        by_cases e:k'=k
        · subst e;exact hh
        · exact HZ2.out k' (by omega)
       generalize (es[k]?.getD en0).1=nm at*
       generalize (es[k]?.getD en0).2=x at*
       have q0:=HBX2.out 0 _ rfl
       have q1:=HBX2.out 1 _ rfl
       have qlt:=HBX2.out.lt
       have hQA: ∀W,Below wr.heap.size wr W→Bx W w.heap.size [.slice (some ⟨b,o,none⟩) n cI, .slice aD nD cD]:=fun W hW=>HBX2.out.later hW
       have HQA:Hid (∀W,Below wr.heap.size wr W→Bx W w.heap.size [.slice (some ⟨b,o,none⟩) n cI, .slice aD nD cD]):=hQA
       clear hQA
       have HTH:Hid (Calls Tryz.prog 100 #[.agg #[.slice (some ⟨b,o,none⟩) n cI, .slice aD nD cD], .int .i64 x] (wr.alloc (.cells #[.string nm, .int .i64 x] 76)) fun e w'=>e= .returned (.bool (!qa7 d.1 x))∧Below (wr.alloc (.cells #[.string nm, .int .i64 x] 76)).heap.size (wr.alloc (.cells #[.string nm, .int .i64 x] 76)) w'):=HIN.out _ x hx0 (HBW2.out.trans ((qab _ _).mono HBW2.out.size))
       clear hx0 HIN HQA
       cases hl:qa7 d.1 x with
       | true=>
         rw [hl] at HTH HYK
         have HR:Hid (qcA d.1=4):=HYK.out rfl
         clear hl HYK HNK
         go_wp2_with fail
         refine HTH.out.mono ?_
         rintro e w1 ⟨rfl,hb1⟩
         have HBWW:Hid (Below w.heap.size w w1):=HBW2.out.trans (((qab _ _).trans (hb1.mono (by simp))).mono HBW2.out.size)
         clear hb1 q0 q1 d0 d1 HTH
         go_wp2
         go_ret
         exact ⟨qad HR.out.symm,HBWW.out⟩
       | false=>
         rw [hl] at HTH HNK
         have HR:Hid (∀k',k'<k+1→qa7 d.1 (es[k']?.getD en0).2=false):=HNK.out rfl
         clear hl HYK HNK
         go_wp2_with fail
         refine HTH.out.mono ?_
         rintro e w1 ⟨rfl,hb1⟩
         have HBW1:Hid (Below wr.heap.size wr w1):= (qab _ _).trans (hb1.mono (by simp))
         clear hb1 q0 q1 d0 d1 HTH
         go_wp2
         go_roundw
         case rel=>exact ⟨k+1,by omega,by go_num,HB2.out.trans (HBW1.out.mono HB2.out.size),HR.out⟩
         case measure=>simp [intOf];omega
     · have HR:Hid (∀j',j'<j+1→ ∀k,k< (d.1[j']?.getD id0).2.2.2.2.length→qa7 d.1 ((d.1[j']?.getD id0).2.2.2.2[k]?.getD en0).2=false):=HNX.out fun k' hk'=>HZ2.out k' (by omega)
       go_wp2
       go_roundw
       case rel=>exact ⟨j+1,by omega,by go_num,HBL.out.trans (HB2.out.mono (by simpa using hwz)),HR.out⟩
       case measure=>simp [intOf];omega
  · have HR:Hid (qcA d.1=0):=qmT fun j' hj'=>HZJ0.out j' (by rw [HN.out] at hj';omega)
    go_wp2
    go_ret
    exact ⟨qad HR.out.symm,HBW.out⟩
end Go.Proofs.YthnmlipnoajmkaaGreatDoor

namespace Go.Proofs.YthnmlipnoajmkaaGreatDoor
open Go.RowKit
set_option maxRecDepth 100000

theorem AtE.take {w:World} {a:Option Addr} {n:Nat} {es:List E3} (h:AtE w a n es) {j:Nat} (hj:j≤n):AtE w a j (es.take j):=fun k hk=>by
 obtain ⟨b,off,e,c0,c1,c2⟩:=h k (by omega)
 refine ⟨b,off,e, ?_, ?_, ?_⟩<;>rw [List.getElem?_take,if_pos hk]<;>assumption
end Go.Proofs.YthnmlipnoajmkaaGreatDoor

namespace Go.Proofs.YthnmlipnoajmkaaGreatDoor
open Go.RowKit
set_option maxRecDepth 100000

def Qu (w:World) (n₀:Nat) (v:Value) (zs:List Int):Prop:=
 ∃g off cap cur,v= .slice (some ⟨g,off,none⟩) zs.length cap∧n₀≤g∧w.heap[g]?=some (.cells cur 2 (0,0))∧zs.length≤cap∧cap≤maxLen∧off+cap≤cur.size∧ ∀k,k<zs.length→cur[off+k]?=some (.int .i64 (zs[k]?.getD 0))
theorem Qu.keep {w w':World} {n₀:Nat} {v:Value} {zs:List Int} (h:Qu w n₀ v zs) (e: ∀b c f,n₀≤b→w.heap[b]?=some (.cells c 2 f)→w'.heap[b]?=w.heap[b]?):Qu w' n₀ v zs:=by
 obtain ⟨g,off,cap,cur,h1,h2,h3,h4⟩:=h
 exact ⟨g,off,cap,cur,h1,h2,(e g _ _ h2 h3).trans h3,h4⟩
theorem Qu.later {w w':World} {n₀:Nat} {v:Value} {zs:List Int} (h:Qu w n₀ v zs) (hb:Below w.heap.size w w'):Qu w' n₀ v zs:=h.keep fun b _ _ _ hc=>hb.block b (Array.getElem?_eq_some_iff.1 hc).1
theorem Qu.shape {w:World} {n₀:Nat} {v:Value} {zs:List Int} (h:Qu w n₀ v zs): ∃a c,v= .slice a zs.length c∧zs.length≤c:=by
 obtain ⟨g,off,cap,cur,rfl,_,_,h4,_⟩:=h
 exact ⟨_,_,rfl,h4⟩
theorem Qu.one (w:World) (n₀:Nat) (hn:n₀≤w.heap.size) (x:Int):Qu (w.alloc (.cells #[.int .i64 x] 2)) n₀ (.slice (some ⟨w.heap.size,0,none⟩) 1 1) [x]:=
 ⟨w.heap.size,0,1, #[.int .i64 x],rfl,hn,Go.Deep.blk_alloc_new _ _,by simp,by unfold maxLen;omega,by simp,fun k hk=>by
   have:k=0:=by simp at hk;exact hk
   subst this;rfl⟩
theorem Qu.cell {w:World} {n₀:Nat} {a:Option Addr} {n c:Nat} {zs:List Int} (h:Qu w n₀ (.slice a n c) zs) {k:Nat} (hk:k<zs.length): ∃g off,a=some ⟨g,off,none⟩∧w.cell? ⟨g,off+k,none⟩=some (.int .i64 (zs[k]?.getD 0)):=by
 obtain ⟨g,off,cap,cur,e,_,h3,_,_,_,h6⟩:=h
 simp only [Value.slice.injEq] at e
 refine ⟨g,off,e.1, ?_⟩
 have:=h6 k hk
 simp [World.cell?,h3,this]
theorem qkf (a:Option Addr) (n c:Nat) (hl:1≤n) (hc:n≤c):
 ∃A C,(∀W:World,(Instr.slice 64 (.slice a n c) (some (.int .i64 1)) none none).run Tryz.prog W= .ok (.slice A (n-1) C) W)∧ ∀ (W:World) (n₀:Nat) (z:Int) (zs:List Int),Qu W n₀ (.slice a n c) (z::zs)→Qu W n₀ (.slice A (n-1) C) zs:=by
 obtain ⟨i,hi,_,h2,_⟩:=Tryz.infoInt'
 refine ⟨if c=1 then a else a.map (·.add 1),c-1,fun W=> ?_,fun W n₀ z zs h=> ?_⟩
 · simp [Instr.slice,Instr.sliceBounds,Instr.sliceBound,asIntOf,run_underlying Tryz.underlying64,sizeOf,typeInfo,hi,h2]
   intro hlt
   omega
 · obtain ⟨g,off,cap,cur,e,h1,h3,h4,h5,h6,h7⟩:=h
   simp only [Value.slice.injEq,List.length_cons] at e
   obtain ⟨rfl,rfl,rfl⟩:=e
   simp only [List.length_cons] at h4 h7
   by_cases hcl:c=1
   · have hz:zs= []:=List.eq_nil_of_length_eq_zero (by omega)
     subst hz
     rw [if_pos hcl]
     exact ⟨g,off,c-1,cur,by simp,h1,h3,by simp,by omega,by omega,fun k hk=>by simp at hk⟩
   · rw [if_neg hcl]
     refine ⟨g,off+1,c-1,cur,by simp [qaA],h1,h3,by omega,by omega,by omega,fun k hk=> ?_⟩
     have:=h7 (k+1) (by omega)
     rw [show off+1+k=off+ (k+1) by omega,this]
     simp
def qpU (w w':World):Prop:= ∀ (b:Nat) (o:Obj),w.heap[b]?=some o→ (∀c f,o≠ .cells c 2 f)→w'.heap[b]?=some o
theorem qou (w:World) (n₀:Nat) (v:Value) (zs:List Int) (x:Int) (hq:Qu w n₀ v zs) (hn₀:n₀≤w.heap.size) (hz:zs.length≤1000):
 ∃v' X,(Builtin.append_ #[64,64] 64 #[v, .slice (some ⟨w.heap.size,0,none⟩) 1 1]).run Tryz.prog (w.alloc (.cells #[.int .i64 x] 2))= .ok v' X∧Qu X n₀ v' (zs++ [x])∧Below n₀ w X∧qpU w X:=by
 obtain ⟨i,hi,h1,h2,h3⟩:=Tryz.infoInt'
 have hq':=hq.later (qab w (.cells #[.int .i64 x] 2))
 have hBW:Below n₀ w (w.alloc (.cells #[.int .i64 x] 2)):= (qab w _).mono hn₀
 have hKW:qpU w (w.alloc (.cells #[.int .i64 x] 2)):=fun b o hb _=> ((qab w _).block b (Array.getElem?_eq_some_iff.1 hb).1).trans hb
 have hcell: (w.alloc (.cells #[.int .i64 x] 2)).cell? ⟨w.heap.size,0,none⟩=some (.int .i64 x):=by rw [qar];rfl
 have hsz:n₀≤ (w.alloc (.cells #[.int .i64 x] 2)).heap.size:=by simp;omega
 generalize hW:w.alloc (.cells #[.int .i64 x] 2)=W at*
 clear hW
 obtain ⟨g,off,cap,cur,rfl,hg0,hg,hnc,hcm,hoc,hrd⟩:=hq'
 have hglt:g<W.heap.size:= (Array.getElem?_eq_some_iff.1 hg).1
 have hnews: ∀j u,([.int .i64 x]:List Value)[j]?=some u→W.cell? ((⟨w.heap.size,0,none⟩:Addr).add j)=some u:=fun j u hu=>by
  match j,hu with
  |0,hu=>simp at hu;subst hu;rw [qaA];exact hcell
  |j+1,hu=>simp at hu
 by_cases hroom:zs.length+1≤cap
 · have hf:=run_firstCells_some (P:=Tryz.prog) W i.size 1 ⟨w.heap.size,0,none⟩ 1 1 [.int .i64 x] (by simp [h2]) hnews
   rw [h2] at hf
   have hst:=run_storeCells_at Tryz.prog g (off+zs.length) 2 [.int .i64 x] 0 cur W hg (by simp;omega) (by simp [Value.oneCell'])
   simp only [Nat.add_zero,List.length_cons,List.length_nil,Nat.zero_add] at hst
   refine ⟨.slice (some ⟨g,off,none⟩) (zs.length+1) cap,W.setRow g (cur.toList.take (off+zs.length)++ [Value.int .i64 x]++cur.toList.drop (off+zs.length+1)).toArray, ?_, ?_,hBW.trans ?_, ?_⟩
   · simp [Builtin.append_,run_underlying Tryz.underlying64,sizeOf,typeInfo,hi,h2,Builtin.lenOf,hroom,hf,qaA,hst]
   · refine ⟨g,off,cap,_,by simp,hg0,setRow_heap W g cur _ 2 _ hg,by simp;omega,hcm, ?_,fun k hk=> ?_⟩
     · simp only [List.size_toArray,List.length_append,List.length_take,List.length_drop,Array.length_toList,List.length_cons,List.length_nil]
       omega
     · simp only [List.length_append,List.length_cons,List.length_nil] at hk
       have hlt: (cur.toList.take (off+zs.length)).length=off+zs.length:=by rw [List.length_take];simp;omega
       rw [List.getElem?_toArray,List.append_assoc]
       by_cases hkz:k<zs.length
       · rw [List.getElem?_append_left (by rw [hlt];omega),List.getElem?_take,if_pos (by omega),List.getElem?_append_left hkz,Array.getElem?_toList]
         exact hrd k hkz
       · have:k=zs.length:=by omega
         subst this
         rw [List.getElem?_append_right (by rw [hlt];omega),hlt,Nat.sub_self]
         simp
   · refine ⟨rfl,rfl,rfl,by simp,fun b hb=>setRow_other W g b _ (by omega)⟩
   · intro b o hb ho
     have hb':=hKW b o hb ho
     by_cases e:b=g
     · subst e
       rw [hg] at hb'
       simp only [Option.some.injEq] at hb'
       exact absurd hb'.symm (ho _ _)
     · rw [←hb'];exact setRow_other W g b _ e
 · have hr:=run_append_grow (P:=Tryz.prog) W 64 64 2 i (.int .i64 0) Tryz.underlying64 hi h1 ⟨g,off,none⟩ zs.length cap (zs.map qjO) (by simp [h2]) (fun j u hu=>by
    rw [List.getElem?_map,Option.map_eq_some_iff] at hu
    obtain ⟨z,hz1,rfl⟩:=hu
    have hj:j<zs.length:= (List.getElem?_eq_some_iff.1 hz1).1
    have:=hrd j hj
    rw [hz1,Option.getD_some] at this
    rw [qaA]
    simp [World.cell?,hg,this,qjO]) ⟨w.heap.size,0,none⟩ 1 1 [.int .i64 x] (by simp [h2]) hnews (by omega) (by omega) (growslice_fits (by omega) (by rw [h3];omega))
   have hge:=grownCap_ge W (zs.length+1) cap 2
   have hcm':=grownCap_le_maxLen W (zs.length+1) cap 2 (by unfold maxLen;omega)
   have hBX: ∀o,Below W.heap.size W (W.drew.alloc o):=fun o=> ⟨rfl,rfl,rfl,by simp,fun b hb=> (qab W.drew o).block b hb⟩
   refine ⟨_,_,hr, ?_,hBW.trans ((hBX _).mono hsz),fun b o hb ho=> ?_⟩
   · refine ⟨W.heap.size,0,_,_,by simp,hsz,Go.Deep.blk_alloc_new _ _,by simp;omega,hcm', ?_,fun k hk=> ?_⟩
     · simp only [Array.size_append,List.size_toArray,size_zeroCells,List.length_map,List.length_cons,List.length_nil,Value.cells]
       simp
       omega
     · simp only [List.length_append,List.length_cons,List.length_nil] at hk
       rw [Nat.zero_add,Array.getElem?_append_left (by simp;omega)]
       by_cases hkz:k<zs.length
       · rw [Array.getElem?_append_left (by simpa using hkz),List.getElem?_append_left hkz]
         simp [List.getElem?_eq_getElem hkz,qjO]
       · have:k=zs.length:=by omega
         subst this
         rw [Array.getElem?_append_right (by simp)]
         simp
   · rw [(hBX _).block b (Array.getElem?_eq_some_iff.1 (hKW b o hb ho)).1]
     exact hKW b o hb ho
end Go.Proofs.YthnmlipnoajmkaaGreatDoor

namespace Go.Proofs.YthnmlipnoajmkaaGreatDoor
open Go.RowKit Go.Maps
set_option maxRecDepth 100000

theorem Tryz.keyInt:Keyed Tryz.prog 2:=int_keyed Tryz.underlying2
theorem Tryz.zeroInt (w:World): (zeroValue 2).run Tryz.prog w= .ok (.int .i64 0) w:=by
 obtain ⟨i,hi,h1,_⟩:=Tryz.infoInt'
 simp [zeroValue,typeInfo,hi,h1]
abbrev ql1 (x:Int):Prop:= (Lit.int .i64 x).wf=true
theorem qdr {x:Int} (h0:0≤x) (h1:x≤1000000):ql1 x:=by
 have h3:IntKind.i64.min= -9223372036854775808:=by decide
 have h4:IntKind.i64.max=9223372036854775807:=by decide
 simp only [ql1,Lit.wf,h3,h4]
 simp
 omega
structure Tells (D:DataW Unit) (p:Int→Bool) (m:Int→Int):Prop where
 val: ∀x,ql1 x→D.atKey (.int .i64 x) (.lit (.int .i64 0))= .lit (.int .i64 (m x))
 has: ∀x,ql1 x→Maps.has D (.int .i64 x)=p x
def Mp (w:World) (b n:Nat) (p:Int→Bool) (m:Int→Int):Prop:= ∃D:DataW Unit,w.ownsMap Tryz.prog 2 (plainElem Tryz.prog 2) b n D∧Tells D p m
theorem Mp.made (w:World):Mp (w.alloc (.map #[] 0)) w.heap.size 0 (fun _=>false) (fun _=>0):=
 ⟨.map [],World.ownsMap_made w Tryz.prog 2 _,fun _ _=>rfl,fun _ _=>rfl⟩
theorem Mp.lt {w:World} {b n:Nat} {p:Int→Bool} {m:Int→Int} (h:Mp w b n p m):b<w.heap.size:=by
 obtain ⟨D,h,_⟩:=h
 exact h.lt
theorem Mp.keep {w w':World} {b n:Nat} {p:Int→Bool} {m:Int→Int} (h:Mp w b n p m) (e:w'.heap[b]?=w.heap[b]?):Mp w' b n p m:=by
 obtain ⟨D,⟨es,clock,hb,r⟩,ht⟩:=h
 exact ⟨D,⟨es,clock,e.trans hb,r⟩,ht⟩
theorem Mp.later {w w':World} {b n:Nat} {p:Int→Bool} {m:Int→Int} (h:Mp w b n p m) (hb:Below w.heap.size w w'):Mp w' b n p m:=h.keep (hb.block b h.lt)
theorem Mp.drewN {w:World} {b n:Nat} {p:Int→Bool} {m:Int→Int} (h:Mp w b n p m) (q:Nat):Mp (w.drewN q) b n p m:=h.later (below_drewN (Below.refl _ _) q)
theorem Mp.keepQ {w w':World} {b n:Nat} {p:Int→Bool} {m:Int→Int} (h:Mp w b n p m) (hk:qpU w w'):Mp w' b n p m:=by
 have h0:=h
 obtain ⟨D,⟨es,clock,hb,r⟩,ht⟩:=h
 exact h0.keep ((hk b _ hb (by intros;simp)).trans hb.symm)
theorem Mp.look {w:World} {b n:Nat} {p:Int→Bool} {m:Int→Int} (h:Mp w b n p m) {x:Int} (hx:ql1 x): (Instr.lookup 119 (.map (some b)) (.int .i64 x) false).run Tryz.prog w= .ok (.int .i64 (m x)) w:=by
 obtain ⟨D,ho,ht⟩:=h
 obtain ⟨c,hr,hc,_⟩:=ho.lookup_int Tryz.keyInt Tryz.underlying119 Tryz.underlying2 (Tryz.zeroInt w) (keyOf_int_mk Tryz.underlying2 hx)
 rw [ht.val x hx] at hc
 simp at hc
 rw [hr,hc]
def qqD (p:Int→Bool) (x:Int):Int→Bool:=fun y=>if y=x then true else p y
theorem Mp.put {w:World} {b n:Nat} {p:Int→Bool} {m:Int→Int} (h:Mp w b n p m) (hn:n<maxLen) {x v:Int} (hx:ql1 x) (hv:ql1 v):
 ∃w',(Instr.mapUpdate 119 (.map (some b)) (.int .i64 x) (.int .i64 v)).run Tryz.prog w= .ok () w'∧Mp w' b (n+1) (qqD p x) (qfw m x v)∧w.mapTurned w' b:=by
 obtain ⟨D,ho,ht⟩:=h
 have hk:keyOf Tryz.prog 2 (.int .i64 x)=some (.int .i64 x):=keyOf_int_mk Tryz.underlying2 hx
 obtain ⟨w',hr,ho',hturn⟩:=ho.store Tryz.keyInt Tryz.underlying119 hn hk (plainElem_int Tryz.underlying2 hv)
 refine ⟨w',hr,⟨_,ho',fun y hy=> ?_,fun y hy=> ?_⟩,hturn⟩
 · unfold qfw
   by_cases e:y=x
   · subst e;rw [if_pos rfl,Maps.atKey_put_same ho.isMap (Tryz.keyInt.key hk)]
   · rw [if_neg e,Maps.atKey_put_other (by simpa using e)];exact ht.val y hy
 · unfold qqD
   by_cases e:y=x
   · subst e;rw [if_pos rfl];exact Maps.has_put_same ho.isMap (Tryz.keyInt.key hk) _
   · rw [if_neg e,←ht.has y hy];exact Maps.has_put_other (by simpa using e) _
theorem qds {w w':World} {b:Nat} (h:w.mapTurned w' b) (k:Nat) (hk:k≠b):w'.heap[k]?=w.heap[k]?:=by
 by_cases hlt:k<w.heap.size
 · exact h.grown.block k hlt (by simpa using hk)
 · obtain ⟨es,c,es',c',hb,rfl⟩:=h
   exact (MapKept.heap_set hb).2 k hk
theorem qcx {w w':World} {b B:Nat} (h:w.mapTurned w' b) (hB:B≤b):Below B w w':=
 ⟨h.grown.os,h.grown.tape,h.grown.output,h.grown.size,fun k hk=>qds h k (by omega)⟩
structure SweepT (D:DataW Unit) (p:Int→Bool) (m:Int→Int) (left:Lit→Bool):Prop where
 val: ∀x,ql1 x→D.atKey (.int .i64 x) (.lit (.int .i64 0))= .lit (.int .i64 (m x))
 has: ∀x,ql1 x→Maps.has D (.int .i64 x)= (p x&& (!decide (m x=0)||left (.int .i64 x)))
theorem SweepT.start {D:DataW Unit} {p:Int→Bool} {m:Int→Int} (h:Tells D p m):SweepT D p m (Maps.has D):=
 ⟨h.val,fun x hx=>by rw [h.has x hx];cases p x<;>simp⟩
theorem SweepT.stays {D:DataW Unit} {p:Int→Bool} {m:Int→Int} {left:Lit→Bool} (h:SweepT D p m left) {x c:Int} (hx:ql1 x) (hat: ∀zd,D.atKey (.int .i64 x) zd= .lit (.int .i64 c)) (hc: ¬c=0):SweepT D p m (fun z=>left z&& !z.sameKey (.int .i64 x)):=by
 have hm:m x=c:=by have:=h.val x hx;rw [hat] at this;simpa using this.symm
 refine ⟨h.val,fun y hy=> ?_⟩
 rw [h.has y hy]
 by_cases e:y=x
 · subst e;rw [hm];simp [hc]
 · have: (Lit.int .i64 y).sameKey (.int .i64 x)=false:=by
    cases hs: (Lit.int .i64 y).sameKey (.int .i64 x) with
    |false=>rfl
    |true=>exact absurd (by simpa using WideAt.sameKey_eq hs) e
   simp [this]
theorem SweepT.struck {D:DataW Unit} {p:Int→Bool} {m:Int→Int} {left:Lit→Bool} (h:SweepT D p m left) {x:Int} (hx:ql1 x) (hat: ∀zd,D.atKey (.int .i64 x) zd= .lit (.int .i64 0)):SweepT (D.del (.int .i64 x)) p m (fun z=>left z&& !z.sameKey (.int .i64 x)):=by
 have hm:m x=0:=by have:=h.val x hx;rw [hat] at this;simpa using this.symm
 have hk:WideAt.IsKeyLit (.int .i64 x):=Tryz.keyInt.key (keyOf_int_mk Tryz.underlying2 hx)
 refine ⟨fun y hy=> ?_,fun y hy=> ?_⟩
 · by_cases e:y=x
   · subst e;rw [Maps.atKey_del_same,hm]
   · rw [Maps.atKey_del_other (by simpa using e)];exact h.val y hy
 · by_cases e:y=x
   · subst e;rw [Maps.has_del_same,hm,WideAt.sameKey_self hk];simp
   · have: (Lit.int .i64 y).sameKey (.int .i64 x)=false:=by
      cases hs: (Lit.int .i64 y).sameKey (.int .i64 x) with
      |false=>rfl
      |true=>exact absurd (by simpa using WideAt.sameKey_eq hs) e
     rw [Maps.has_del_other (by simpa using e),h.has y hy,this];simp
theorem SweepT.done {D:DataW Unit} {p:Int→Bool} {m:Int→Int} {left:Lit→Bool} (h:SweepT D p m left) (hl: ∀kl,left kl=false):Tells D (fun x=>p x&& !decide (m x=0)) m:=
 ⟨h.val,fun x hx=>by rw [h.has x hx,hl];simp⟩
end Go.Proofs.YthnmlipnoajmkaaGreatDoor
