/- The program:what is reached,in a map. The program's PickBlocks and FreeInode. The program's PackInode. PackInode,and answers that are words,in the one form of the laws. Kerns:how they read,what they own,and the walks of the laws' functions over them. Answers with a kern:how they read,what they own,and the walks of the laws' functions over them. What the laws of chapter 5 ask:how long the answers are. The program's LinksOf. -/
import Derived.Test.YthnmlipnoajmkaaGreatDoorM16
import Derived.Deep.LoopGhost
import Derived.Test.YthnmlipnoajmkaaGreatDoorM10
import Derived.Test.YthnmlipnoajmkaaGreatDoorM07
import Derived.Test.YthnmlipnoajmkaaGreatDoorM03
import Derived.Test.YthnmlipnoajmkaaGreatDoorM05
import Derived.Test.YthnmlipnoajmkaaGreatDoorM13
namespace Go.Proofs.YthnmlipnoajmkaaGreatDoor
open Go.RowKit Go.Maps
set_option maxRecDepth 100000

section
variable {P:Program} {w:World}
theorem qaW {ops:Array Oper} {rest:List Oper} {o:Oper} {a:Act} {Q:Exit→Act→World→Prop} (hgd:o.guard=none) (m x:Operand) (t:TypeId) (ho:o.op= .lookup t m x false) (vm vx:Value) (hm:a.eval m=vm) (hx:a.eval x=vx) (v':Value)
 (hr: (Instr.lookup t vm vx false).run P w= .ok v' w) (h:wpList P ops Q rest (a.put o.dst v') w):wpList P ops Q (o::rest) a w:=by
 refine wpList_plain hgd fun K hK=> ?_
 unfold Oper.wp
 simp [execOp,ho,hm,hx,hr,Result.andThen]
 exact hK _ _ h
theorem qaT {ops:Array Oper} {rest:List Oper} {o:Oper} {a:Act} {Q:Exit→Act→World→Prop} (hgd:o.guard=none) (m x v:Operand) (t:TypeId) (ho:o.op= .mapUpdate t m x v) (vm vx vv:Value) (hm:a.eval m=vm) (hx:a.eval x=vx) (hv:a.eval v=vv) (w':World)
 (hr: (Instr.mapUpdate t vm vx vv).run P w= .ok () w') (h:wpList P ops Q rest (a.put o.dst undef) w'):wpList P ops Q (o::rest) a w:=by
 refine wpList_plain hgd fun K hK=> ?_
 unfold Oper.wp
 simp [execOp,ho,hm,hx,hv,hr,Result.andThen]
 exact hK _ _ h
end
theorem qiM {p:Int→Bool} {x:Int} (h:p x=true):qqD p x=p:=by
 funext y
 unfold qqD
 by_cases e:y=x
 · rw [if_pos e,e,h]
 · rw [if_neg e]
theorem qna (j:Nat):qqD (fun x=>decide (0≤x∧x< (j:Int))) (j:Int)=fun x=>decide (0≤x∧x< ((j+1:Nat):Int)):=by
 funext y
 unfold qqD
 by_cases e:y=j
 · rw [if_pos e];simp;omega
 · rw [if_neg e]
   show decide (0≤y∧y< (j:Int))=_
   by_cases h:0≤y∧y< (j:Int)
   · rw [decide_eq_true h,decide_eq_true (by omega)]
   · rw [decide_eq_false h,decide_eq_false (by omega)]
theorem qnb (x:Int):qfw (fun _=>0) x 0=fun _=>0:=by
 funext y
 unfold qfw
 split<;>rfl
theorem qpV (m:Int→Int) (x v:Int):qfw m x v x=v:=by unfold qfw;rw [if_pos rfl]
theorem Qu.turned {w w':World} {n₀ b:Nat} {v:Value} {zs:List Int} {N:Nat} {p:Int→Bool} {m:Int→Int} (h:Qu w n₀ v zs) (hm:Mp w b N p m) (ht:w.mapTurned w' b):Qu w' n₀ v zs:=h.keep fun k c f _ hk=>qds ht k fun e=>by
 obtain ⟨D,⟨es,clock,hb,_⟩,_⟩:=hm
 rw [e,hb] at hk
 cases hk
theorem qkg {w w':World} {b:Nat} (ht:w.mapTurned w' b) {k i:Nat} (hk:k≠b) {v:Value} (h:w.cell? ⟨k,i,none⟩=some v):w'.cell? ⟨k,i,none⟩=some v:=by
 simp only [World.cell?] at h ⊢
 rw [qds ht k hk]
 exact h
def qd4 (h:List Nat):List Int:=h.map fun k:Nat=> (k:Int)
theorem qf1 (h:List Nat): (qd4 h).length=h.length:=by simp [qd4]
theorem qnc (h:List Nat) (k:Nat): (qd4 h)[k]?.getD 0= ((h[k]?.getD 0:Nat):Int):=by
 unfold qd4
 rw [List.getElem?_map]
 cases h[k]?<;>simp
theorem qeT {ds:List ID} {j k:Nat} (hk:k< (ds[j]?.getD id0).2.2.2.2.length): (qai ds j)[k]?=some ((ds[j]?.getD id0).2.2.2.2[k]?.getD en0).2:=by
 unfold qai qb7
 rw [List.getElem?_map,List.getElem?_eq_getElem hk]
 rfl
theorem qdH (ds:List ID) (j:Nat): (qai ds j).length= (ds[j]?.getD id0).2.2.2.2.length:=by simp [qai,qb7]

set_option maxHeartbeats 6400000 in
theorem qez (w:World) (a:Option Addr) (n c t:Nat) (ds:List ID) (hdn:ds.length=n) (hn0:t<n) (hn:n≤10) (hc:AtI w a n ds) (hr:qa8 ds) (h6: ∀i,(qai ds i).length≤6):
 Calls Tryz.prog 88 #[.slice a n c, .int .i64 (t:Int)] w fun e w'=> ∃b N m,e= .returned (.map (some b))∧Below w.heap.size w w'∧w.heap.size≤b∧Mp w' b N (fun x=>decide (0≤x∧x< (n:Int))&& !decide (m x=0)) m∧ (∀i:Nat,0<m (i:Int)↔RT (qai ds) t i)∧ ∀x,0≤m x:=by
 have HC:Hid (AtI w a n ds):=hc
 have HR:Hid (∀i,i<n→ ∀x∈qai ds i,0≤x∧x< (n:Int)):=by rw [←hdn];exact hr
 have H6:Hid (∀i,(qai ds i).length≤6):=h6
 have HM0:Hid (Mp (w.alloc (.map #[] 0)) w.heap.size 0 (fun _=>false) (fun _=>0)):=Mp.made w
 have hmm:= @run_makeMap Tryz.prog
 clear hc hr h6 hdn
 go_enter Tryz.func88,Tryz.ntmps88
 go_wp2
 clear hmm
 go_loopw [15] (fun i wr=> ∃j:Nat,j≤n∧i= .int .i64 j∧Below w.heap.size w wr∧Mp wr w.heap.size j (fun x=>decide (0≤x∧x< (j:Int))) (fun _=>0)) (fun i _=>n- (intOf i).toNat)
 case atStart=>
  refine ⟨0,Nat.zero_le _,rfl,qab _ _, ?_⟩
  have: (fun x:Int=>decide (0≤x∧x< ((0:Nat):Int)))=fun _=>false:=by funext x;simp
  rw [this];exact HM0.out
 case round=>
  obtain ⟨j,hj,rfl,hbl,hmp⟩:=hrel
  have HBL:Hid (Below w.heap.size w wr):=hbl
  have HMP:Hid (Mp wr w.heap.size j (fun x=>decide (0≤x∧x< (j:Int))) (fun _=>0)):=hmp
  clear hbl hmp HM0
  by_cases hlt:j<n
  · obtain ⟨w1,hup,hmp1,hturn⟩:=HMP.out.put (x:= (j:Int)) (v:=0) (by unfold maxLen;omega) (qdr (by omega) (by omega)) (qdr (by omega) (by omega))
    rw [qna,qnb] at hmp1
    have HUP:Hid (_=_):=hup
    have HMP1:Hid (Mp w1 w.heap.size (j+1) (fun x=>decide (0≤x∧x< ((j+1:Nat):Int))) (fun _=>0)):=hmp1
    have HB1:Hid (Below w.heap.size w w1):=HBL.out.trans (qcx hturn (Nat.le_refl _))
    clear hup hmp1 hturn
    go_wp2_with (first| (at_mapUpdate;refine qaT rfl _ _ _ _ rfl _ _ _ rfl rfl rfl _ HUP.out ?_)|fail)
    go_roundw
    case rel=>exact ⟨j+1,by omega,by go_num,HB1.out,HMP1.out⟩
    case measure=>simp [intOf];omega
  · have hjn:j=n:=by omega
    subst hjn
    clear hlt hj
    obtain ⟨w1,hup,hmp1,hturn⟩:=HMP.out.put (x:= (t:Int)) (v:=1) (by unfold maxLen;omega) (qdr (by omega) (by omega)) (qdr (by omega) (by omega))
    rw [qiM (by simp;omega)] at hmp1
    have HUP:Hid (_=_):=hup
    have HB1:Hid (Below w.heap.size w w1):=HBL.out.trans (qcx hturn (Nat.le_refl _))
    have HMP1:Hid (Mp (w1.alloc (.cells #[.int .i64 (t:Int)] 2)) w.heap.size (j+1) (fun x=>decide (0≤x∧x< (j:Int))) (qfw (fun _=>0) (t:Int) 1)):=hmp1.later (qab _ _)
    have HQ1:Hid (Qu (w1.alloc (.cells #[.int .i64 (t:Int)] 2)) w.heap.size (.slice (some ⟨w1.heap.size,0,none⟩) 1 1) (qd4 [t])):=Qu.one w1 _ HB1.out.size (t:Int)
    have HBQ:Hid (Below w.heap.size w (w1.alloc (.cells #[.int .i64 (t:Int)] 2))):=HB1.out.trans ((qab _ _).mono HB1.out.size)
    clear hup hmp1 hturn HMP HBL
    have HBF:Hid (Bfs (qai ds) j [t] 0 0 (qfw (fun _=>0) (t:Int) 1) t):=Bfs.init _ _ _ hn0
    go_wp2_with (first| (at_mapUpdate;refine qaT rfl _ _ _ _ rfl _ _ _ rfl rfl rfl _ HUP.out ?_)|fail)
    generalize hW:w1.alloc (.cells #[.int .i64 (t:Int)] 2)=W1 at*
    clear hW HUP HB1
    go_loopg [7] j (fun gk v wr=> ∃ (h:List Nat) (p:Nat) (m:Int→Int) (N:Nat),gk+p=j∧N≤j+1+6*p∧Bfs (qai ds) j h p 0 m t∧Qu wr w.heap.size v (qd4 (h.drop p))∧Mp wr w.heap.size N (fun x=>decide (0≤x∧x< (j:Int))) m∧Below w.heap.size w wr)
    case atStart=>exact ⟨[t],0,_,j+1,rfl,by omega,HBF.out,HQ1.out,HMP1.out,HBQ.out⟩
    case round=>
     obtain ⟨h,p,m,N,hgk,hN,hbf,hq,hmp,hbw⟩:=hrel
     have HBFS:Hid (Bfs (qai ds) j h p 0 m t):=hbf
     have HMPR:Hid (Mp wr w.heap.size N (fun x=>decide (0≤x∧x< (j:Int))) m):=hmp
     have HBW:Hid (Below w.heap.size w wr):=hbw
     obtain ⟨aq,cq,hv,hcq⟩:=hq.shape
     have HQU:Hid (Qu wr w.heap.size _ (qd4 (h.drop p))):=hq
     have hlen: (qd4 (h.drop p)).length=h.length-p:=by rw [qf1,List.length_drop]
     rw [hlen] at hv hcq
     subst hv
     have hpl:=hbf.le
     have hhl:=hbf.len
     clear hbf hq hmp hbw HBF HQ1 HMP1 HBQ
     by_cases hp:p<h.length
     · obtain ⟨q,hqe⟩: ∃q,h[p]?.getD 0=q:= ⟨_,rfl⟩
       have HQE:Hid (h[p]?.getD 0=q):=hqe
       have hqin:q∈h:=by rw [←hqe,List.getElem?_eq_getElem hp];exact List.getElem_mem hp
       have hqj:q<j:=HBFS.out.lt q hqin
       have hdrop:h.drop p=q::h.drop (p+1):=by
        rw [List.drop_eq_getElem_cons hp,←hqe,List.getElem?_eq_getElem hp];rfl
       obtain ⟨g,off,rfl,cQ⟩:=HQU.out.cell (k:=0) (by rw [hlen];omega)
       rw [qnc,hdrop] at cQ
       simp only [List.getElem?_cons_zero,Option.getD_some,Nat.add_zero] at cQ
       obtain ⟨b0,o0,rfl,hI⟩:=HC.out q hqj
       obtain ⟨aB,cB,aE,cE,_,_,_,_,c4w,h5⟩:=hI
       obtain ⟨_,_,e1,hm1,_,hc1⟩:=h5.2.2.open'
       simp only [Value.slice.injEq] at e1
       obtain ⟨rfl,_,rfl⟩:=e1
       have c4:=cell_later HBW.out c4w
       have HCB:Hid (AtN w aE (ds[q]?.getD id0).2.2.2.2.length (ds[q]?.getD id0).2.2.2.2):=hc1
       have HEG:Hid (∀k,k< (ds[q]?.getD id0).2.2.2.2.length→ (qai ds q)[k]?=some ((ds[q]?.getD id0).2.2.2.2[k]?.getD en0).2):=fun k hk=>qeT hk
       have HEL:Hid ((qai ds q).length= (ds[q]?.getD id0).2.2.2.2.length):=qdH ds q
       have hE6: (ds[q]?.getD id0).2.2.2.2.length≤6:=by have:=H6.out q;rw [HEL.out] at this;exact this
       have HRQ:Hid (∀x∈qai ds q,0≤x∧x< (j:Int)):=HR.out q hqj
       clear c4w h5 hc1 hm1 hqin
       generalize (ds[q]?.getD id0).2.2.2.2=es at*
       generalize es.length=nE at*
       have hq0: ((q:Nat):Int)< (j:Int):=by omega
       have hpos:0<h.length-p:=by omega
       have HHL:Hid (h.length≤j):=hhl
       have HGK:Hid (gk+p=j):=hgk
       have HNN:Hid (N≤j+1+6*p):=hN
       have HPL:Hid (p<h.length):=hp
       have hp10:p≤10:=by omega
       clear hlen hqe hdrop hhl hgk hN hp hpl
       generalize h.length-p=nq at*
       go_wp2
       clear cQ c4
       obtain ⟨wo,rfl⟩: ∃wo,wo=wr:= ⟨_,rfl⟩
       go_loopw [7,38] (fun v i wr2=> ∃ (k:Nat) (h2:List Nat) (m2:Int→Int) (N2:Nat),k≤nE∧i= .int .i64 k∧N2≤j+1+6*p+k∧p<h2.length∧h2[p]?.getD 0=q∧Bfs (qai ds) j h2 p k m2 t∧Qu wr2 w.heap.size v (qd4 (h2.drop p))∧Mp wr2 w.heap.size N2 (fun x=>decide (0≤x∧x< (j:Int))) m2∧Below w.heap.size w wr2) (fun _ i _=>nE- (intOf i).toNat)
       case atStart=>exact ⟨0,h,m,N,Nat.zero_le _,rfl,HNN.out,HPL.out,HQE.out,HBFS.out,HQU.out,HMPR.out,HBW.out⟩
       case round=>
        obtain ⟨k,h2,m2,N2,hk,rfl,hN2,hp2,hq2,hbf2,hqu2,hmp2,hbw2⟩:=hrel
        have HN2:Hid (N2≤j+1+6*p+k):=hN2
        have HP2:Hid (p<h2.length):=hp2
        have HQ2:Hid (h2[p]?.getD 0=q):=hq2
        have HBF2:Hid (Bfs (qai ds) j h2 p k m2 t):=hbf2
        have HMP2:Hid (Mp wr w.heap.size N2 (fun x=>decide (0≤x∧x< (j:Int))) m2):=hmp2
        have HBW2:Hid (Below w.heap.size w wr):=hbw2
        obtain ⟨av,cv,hv,hcv⟩:=hqu2.shape
        have HQU2:Hid (Qu wr w.heap.size _ (qd4 (h2.drop p))):=hqu2
        have hlen2: (qd4 (h2.drop p)).length=h2.length-p:=by rw [qf1,List.length_drop]
        rw [hlen2] at hv hcv
        have hh2:=hbf2.len
        subst hv
        clear hN2 hbf2 hqu2 hmp2 hbw2 HQU HMPR HBFS HNN HPL HQE HBW
        by_cases hlk:k<nE
        · obtain ⟨b1,o1,rfl,d0,d1⟩:=HCB.out k hlk
          replace d0:=cell_later HBW2.out d0
          replace d1:=cell_later HBW2.out d1
          have hxk:=HEG.out k hlk
          have hxr:=HRQ.out _ (List.mem_of_getElem? hxk)
          have HXK:Hid ((qai ds (h2[p]?.getD 0))[k]?=some (es[k]?.getD en0).2):=by unfold Hid;rw [HQ2.out];exact hxk
          clear hxk hlen2 hq2 HEG
          generalize (es[k]?.getD en0).1=nm at*
          generalize (es[k]?.getD en0).2=x at*
          have hwx:ql1 x:=qdr hxr.1 (by omega)
          have hbn:=HBF2.out.bnd hn (by omega) x
          have hmpa:Mp (wr.alloc (.cells #[.string nm, .int .i64 x] 76)) w.heap.size N2 (fun x=>decide (0≤x∧x< (j:Int))) m2:=HMP2.out.later (qab _ _)
          have HLK1:Hid (_=_):=hmpa.look hwx
          obtain ⟨wB,hup,hmpb,hturn⟩:=hmpa.put (x:=x) (v:=m2 x+1) (by have:=HN2.out;unfold maxLen;omega) hwx (qdr (by omega) (by omega))
          rw [qiM (by simp;omega)] at hmpb
          have HUP:Hid (_=_):=hup
          have HLK2:Hid (_=_):=hmpb.look hwx
          rw [qpV] at HLK2
          have hsz2:w.heap.size≤wr.heap.size:=HBW2.out.size
          have ce: (wr.alloc (.cells #[.string nm, .int .i64 x] 76)).cell? ⟨wr.heap.size,1,none⟩=some (.int .i64 x):=by rw [qar];rfl
          have hblt:w.heap.size<wr.heap.size:=HMP2.out.lt
          have ceB:wB.cell? ⟨wr.heap.size,1,none⟩=some (.int .i64 x):=qkg hturn (by omega) ce
          have HQB:Hid (Qu wB w.heap.size (.slice av (h2.length-p) cv) (qd4 (h2.drop p))):= (HQU2.out.later (qab _ _)).turned hmpa hturn
          have HBB:Hid (Below w.heap.size w wB):= (HBW2.out.trans ((qab _ _).mono hsz2)).trans (qcx hturn (Nat.le_refl _))
          have HMB:Hid (Mp wB w.heap.size (N2+1) (fun x=>decide (0≤x∧x< (j:Int))) (qfw m2 x (m2 x+1))):=hmpb
          obtain ⟨mx,hmx⟩: ∃mx,m2 x=mx:= ⟨_,rfl⟩
          have HMX:Hid (m2 x=mx):=hmx
          rw [hmx] at HLK1 HUP HLK2 hbn HMB
          clear hmpa hup hmpb hturn hmx HMP2 HBW2
          by_cases hone:mx+1=1
          · have hb1: (mx+1==1)=true:=by simpa using hone
            obtain ⟨v',X,hap,hqX,hbX,hkX⟩:=qou wB w.heap.size _ _ x HQB.out HBB.out.size (by rw [qf1,List.length_drop];omega)
            have HAP:Hid (_=_):=hap
            have hxn: ((x.toNat:Nat):Int)=x:=by omega
            have HBFN:Hid (Bfs (qai ds) j (h2++ [x.toNat]) p (k+1) (qfw m2 x (mx+1)) t):=by
             have:=HBF2.out.new HP2.out HXK.out hxr.1 hxr.2 (by rw [HMX.out];exact hone)
             rw [HMX.out] at this
             exact this
            have HQX:Hid (Qu X w.heap.size v' (qd4 ((h2++ [x.toNat]).drop p))):=by
             unfold Hid
             rw [List.drop_append_of_le_length (by omega)]
             unfold qd4 at hqX ⊢
             rw [List.map_append,List.map_singleton,hxn]
             exact hqX
            have HMX2:Hid (Mp X w.heap.size (N2+1) (fun x=>decide (0≤x∧x< (j:Int))) (qfw m2 x (mx+1))):=HMB.out.keepQ hkX
            have HBX:Hid (Below w.heap.size w X):=HBB.out.trans hbX
            have HQP:Hid ((h2++ [x.toNat])[p]?.getD 0=q):=by unfold Hid;rw [List.getElem?_append_left HP2.out];exact HQ2.out
            clear hap hqX hbX hkX hone HQB HMB HBB hxn
            go_wp2_with (first
             | (at_lookup;first|refine qaW rfl _ _ _ rfl _ _ rfl rfl _ HLK1.out ?_|refine qaW rfl _ _ _ rfl _ _ rfl rfl _ HLK2.out ?_)
             | (at_mapUpdate;refine qaT rfl _ _ _ _ rfl _ _ _ rfl rfl rfl _ HUP.out ?_)
             |refine qat rfl _ _ _ rfl _ _ rfl rfl _ _ HAP.out ?_
             |fail)
            go_roundw
            case rel=>exact ⟨k+1,h2++ [x.toNat],_,N2+1,by omega,by go_num,by have:=HN2.out;omega,by rw [List.length_append];have:=HP2.out;omega,HQP.out,HBFN.out,HQX.out,HMX2.out,HBX.out⟩
            case measure=>simp [intOf];omega
          · have hb1: (mx+1==1)=false:=by simpa using hone
            have HBFN:Hid (Bfs (qai ds) j h2 p (k+1) (qfw m2 x (mx+1)) t):=by
             have:=HBF2.out.old HXK.out hxr.1 (by rw [HMX.out];exact hone)
             rw [HMX.out] at this
             exact this
            clear hone
            go_wp2_with (first
             | (at_lookup;first|refine qaW rfl _ _ _ rfl _ _ rfl rfl _ HLK1.out ?_|refine qaW rfl _ _ _ rfl _ _ rfl rfl _ HLK2.out ?_)
             | (at_mapUpdate;refine qaT rfl _ _ _ _ rfl _ _ _ rfl rfl rfl _ HUP.out ?_)
             |fail)
            go_roundw
            case rel=>exact ⟨k+1,h2,_,N2+1,by omega,by go_num,by have:=HN2.out;omega,HP2.out,HQ2.out,HBFN.out,HQB.out,HMB.out,HBB.out⟩
            case measure=>simp [intOf];omega
        · have hke:k=nE:=by omega
          have hBN:Bfs (qai ds) j h2 (p+1) 0 m2 t:=HBF2.out.next HP2.out (by rw [HQ2.out,HEL.out];exact hke.symm) (by omega)
          have hd2:h2.drop p=q::h2.drop (p+1):=by
           rw [List.drop_eq_getElem_cons hp2,←hq2,List.getElem?_eq_getElem hp2];rfl
          obtain ⟨A,C,hsl,htl⟩:=qkf av (h2.length-p) cv (by omega) hcv
          have HQT:Hid (Qu wr w.heap.size (.slice A (h2.length-p-1) C) (qd4 (h2.drop (p+1)))):=htl wr w.heap.size (q:Int) _ (by
           have:=HQU2.out
           rw [hd2] at this
           exact this)
          have HBFN:Hid (Bfs (qai ds) j h2 (p+1) 0 m2 t):=hBN
          have HG2:Hid (gk-1<gk∧gk-1+ (p+1)=j):=by have:=HGK.out;have:=HBFN.out.le;have:=HBFN.out.len;unfold Hid;omega
          have HNX:Hid (N2≤j+1+6* (p+1)):=by have:=HN2.out;unfold Hid;omega
          clear hBN hd2 htl hke hq2 hlen2
          go_wp2
          go_roundg (gk-1)
          case measure=>exact HG2.out.1
          case rel=>exact ⟨h2,p+1,m2,N2,HG2.out.2,HNX.out,HBFN.out,HQT.out,HMP2.out,HBW2.out⟩
     · have hpe:p=h.length:=by omega
       have HD:Hid (∀i:Nat,0<m (i:Int)↔RT (qai ds) t i):=fun i=>HBFS.out.done hpe i
       have HNNEG:Hid (∀x,0≤m x):=HBFS.out.nn
       obtain ⟨D,ho,ht⟩:=HMPR.out
       have HT:Hid (Tells D (fun x=>decide (0≤x∧x< (j:Int))) m):=ht
       have hz0:h.length-p=0:=by omega
       have hbs:w.heap.size≤wr.heap.size:=HBW.out.size
       rw [hz0] at*
       clear ht hlen hpe hp hpl hhl hgk hN hcq HQU HBFS HMPR HC HR H6
       go_wp2_with (first
        | (at_range;refine wpList_range_own _ rfl _ 119 rfl 2 2 Tryz.keyInt Tryz.underlying119 _ w.heap.size N _ rfl ho ?_;intro w0 hrg0 hg0 hs0)
        |go_in)
       try go_frame
       have HRG0:Hid (w0.ranges Tryz.prog 2 (plainElem Tryz.prog 2) w.heap.size wr.heap.size N D (Maps.has D) (Maps.size D)):=hrg0
       have HB0:Hid (Below w.heap.size w w0):=HBW.out.trans (qaw hg0 hbs (by simp))
       clear hrg0 hg0 hs0 ho
       generalize wr.heap.size=rb at*
       go_loopw [10] (fun _ wr2=> ∃ (left:Lit→Bool) (cnt:Nat) (D2:DataW Unit),wr2.ranges Tryz.prog 2 (plainElem Tryz.prog 2) w.heap.size rb N D2 left cnt∧SweepT D2 (fun x=>decide (0≤x∧x< (j:Int))) m left∧Below w.heap.size w wr2) (fun _ wr2=>wr2.rangeLeft w.heap.size rb)
       case atStart=>exact ⟨_,_,D,HRG0.out,SweepT.start HT.out,HB0.out⟩
       case round=>
        obtain ⟨left,cnt,D2,hrg,hsw,hbw⟩:=hrel
        have HSW:Hid (SweepT D2 (fun x=>decide (0≤x∧x< (j:Int))) m left):=hsw
        have HB2:Hid (Below w.heap.size w wr):=hbw
        clear hsw hbw HRG0 HT HB0 HBW
        have hsz:=HB2.out.size
        go_wp2_with (first
         | (at_next;refine wpList_next_ranges_ii _ rfl _ rfl 2 2 .i64 .i64 Tryz.keyInt Tryz.underlying2 Tryz.underlying2 w.heap.size rb N _ _ _ rfl hrg ?_ ?_)
         |go_in)
        · intro _ hl0
          have HTL:=HSW.out.done hl0
          have HMF:Hid (Mp wr w.heap.size N (fun x=>decide (0≤x∧x< (j:Int))&& !decide (m x=0)) m):= ⟨D2,hrg.owns,HTL⟩
          clear HTL hl0 hrg
          go_wp2
          go_ret
          exact ⟨_,_,m,rfl,HB2.out,Nat.le_refl _,HMF.out,HD.out,HNNEG.out⟩
        · intro x c w1 cnt1 hwx hwc hlx hat hrg1 hlt hg1 hs1 hen
          have HB1:Hid (Below w.heap.size w w1):=HB2.out.trans (qaw hg1 hsz (fun k hk=>by cases hk;exact hbs))
          go_wp2_with (first
           | (at_delete;refine wpList_delete_ranges _ rfl _ _ 119 2 rfl 2 Tryz.keyInt Tryz.underlying119 _ w.heap.size rb N _ _ _ rfl hrg1 _ _ rfl (keyOf_int_mk Tryz.underlying2 hwx) ?_;intro w2 cnt2 hrg2 hle hturn;go_frame)
           |go_in)
          · have hc0:c=0:=by simpa using (by assumption: (c==0)=true)
            subst hc0
            rw [strike_twice] at hrg2
            go_roundw
            case rel=>exact ⟨_,cnt2,_,hrg2,HSW.out.struck hwx hat,HB1.out.trans (qcx hturn (Nat.le_refl _))⟩
            case measure=>rw [hrg2.left_eq,hrg.left_eq];omega
          · have hc0: ¬c=0:=by simpa using (by assumption: (c==0)=false)
            go_roundw
            case rel=>exact ⟨_,cnt1,_,hrg1,HSW.out.stays hwx hat hc0,HB1.out⟩
            case measure=>rw [hrg1.left_eq,hrg.left_eq];exact hlt
theorem qhC (w:World) (a:Option Addr) (n c:Nat) (ds:List ID) (hdn:ds.length=n) (hn0:0<n) (hn:n≤10) (hc:AtI w a n ds) (hr:qa8 ds) (h6: ∀i,(qai ds i).length≤6):
 Calls Tryz.prog 88 #[.slice a n c, .int .i64 0] w fun e w'=> ∃b N m,e= .returned (.map (some b))∧Below w.heap.size w w'∧w.heap.size≤b∧Mp w' b N (fun x=>decide (0≤x∧x< (n:Int))&& !decide (m x=0)) m∧ (∀i:Nat,0<m (i:Int)↔RP (qai ds) i)∧ ∀x,0≤m x:=
 qez w a n c 0 ds hdn hn0 hn hc hr h6
end Go.Proofs.YthnmlipnoajmkaaGreatDoor

namespace Go.Proofs.YthnmlipnoajmkaaGreatDoor
open Go.RowKit
set_option maxRecDepth 100000

theorem qfO.gen {w w2:World} {r:Int} {a:Option Addr} {n c:Nat} {zs:List Int} (hb:Below w.heap.size w w2) (ho:qak w2 (.slice a n c) zs (fun b=>w.heap.size+1≤b∧b<w2.heap.size)) (x y:Value):
 qfO w (r,zs) (.returned (.agg #[.int .i64 r, .slice a n c])) ((w2.setCell ⟨w.heap.size,0,none⟩ x).setCell ⟨w.heap.size,1,none⟩ y):=by
 refine ⟨_,_,_,rfl,(hb.setCell (by simp) _).setCell (by simp) _,(ho.keep fun b hb hlt=> ?_).mono fun b hb=> ⟨by omega,by simp only [World.setCell,Array.size_modify];exact hb.2⟩⟩
 rw [Below.heap_setCell _ _ _ _ (by simp;omega),Below.heap_setCell _ _ _ _ (by simp;omega)]
theorem qfO.later {w w2 w3:World} {r:Int×List Int} {e:Ending} (h:qfO w r e w2) (hb:Below w2.heap.size w2 w3):qfO w r e w3:=by
 obtain ⟨a,n,c,h1,h2,h3⟩:=h
 exact ⟨a,n,c,h1,h2.trans (hb.mono h2.size),(h3.keep fun b _ hlt=>hb.block b hlt).mono fun b hh=> ⟨hh.1,Nat.lt_of_lt_of_le hh.2 hb.size⟩⟩

end Go.Proofs.YthnmlipnoajmkaaGreatDoor

namespace Go.Proofs.YthnmlipnoajmkaaGreatDoor
open Go.RowKit
set_option maxRecDepth 100000

theorem Obx.row {w:World} {b:Nat} {x y:Value} {t:TypeId} (h:Obx w b [x,y] t):qaa w b 2 (fun i=>if i=0 then x else y):=by
 refine ⟨_,_,h,by simp,fun i hi=> ?_⟩
 have:i=0∨i=1:=by omega
 rcases this with rfl|rfl<;>simp

end Go.Proofs.YthnmlipnoajmkaaGreatDoor

namespace Go.Proofs.YthnmlipnoajmkaaGreatDoor
open Go.RowKit
set_option maxRecDepth 100000

def qsS (k:Int) (zs:List Int):List Int:=qbO k zs.length
end Go.Proofs.YthnmlipnoajmkaaGreatDoor

namespace Go.Proofs.YthnmlipnoajmkaaGreatDoor
open Go.RowKit
set_option maxRecDepth 100000

abbrev KD:=DK×List E3
def qnd (w:World) (vB vC vE:Value) (d:KD):Prop:=qml w vB vC d.1∧qlY w vE d.2
theorem qnd.later {w w':World} {vB vC vE:Value} {d:KD} (h:qnd w vB vC vE d) (hb:Below w.heap.size w w'):qnd w' vB vC vE d:= ⟨h.1.later hb,h.2.later hb⟩
def qdj (w:World) (vB vC vE:Value) (d:KD) (F:Nat→Prop):Prop:= ∃F1 G1:Nat→Prop,qcX w vB vC d.1 F1∧qdg w vE d.2 G1∧ (∀b,F1 b→ ¬G1 b)∧ ∀b,F1 b∨G1 b→F b
theorem qcX.keep {w w':World} {vB vC:Value} {d:DK} {F:Nat→Prop} (h:qcX w vB vC d F) (e: ∀b,F b→b<w.heap.size→w'.heap[b]?=w.heap[b]?):qcX w' vB vC d F:=qbs.keep h e
theorem qdj.reads {w:World} {vB vC vE:Value} {d:KD} {F:Nat→Prop} (h:qdj w vB vC vE d F):qnd w vB vC vE d:=by
 obtain ⟨_,_,h1,h2,_⟩:=h
 exact ⟨h1.reads,h2.reads⟩
theorem qdj.keep {w w':World} {vB vC vE:Value} {d:KD} {F:Nat→Prop} (h:qdj w vB vC vE d F) (e: ∀b,F b→b<w.heap.size→w'.heap[b]?=w.heap[b]?):qdj w' vB vC vE d F:=by
 obtain ⟨F1,G1,h1,h2,hd,hf⟩:=h
 exact ⟨F1,G1,h1.keep fun b hb=>e b (hf b (Or.inl hb)),h2.keep fun b hb=>e b (hf b (Or.inr hb)),hd,hf⟩
theorem qdj.later {w w':World} {vB vC vE:Value} {d:KD} {F:Nat→Prop} (h:qdj w vB vC vE d F) (hb:Below w.heap.size w w'):qdj w' vB vC vE d F:=h.keep fun b _ hlt=>hb.block b hlt
theorem qdj.mono {w:World} {vB vC vE:Value} {d:KD} {F G:Nat→Prop} (h:qdj w vB vC vE d F) (e: ∀b,F b→G b):qdj w vB vC vE d G:=by
 obtain ⟨F1,G1,h1,h2,hd,hf⟩:=h
 exact ⟨F1,G1,h1,h2,hd,fun b hb=>e b (hf b hb)⟩
theorem qdj.chg {w w':World} {vB vC vE:Value} {d:KD} {F G:Nat→Prop} (h:qdj w vB vC vE d F) (hc:Chg G w w') (hd: ∀b,F b→ ¬G b):qdj w' vB vC vE d F:=h.keep fun b hb hlt=>hc.block b hlt (hd b hb)
theorem qcX.bound {w:World} {vB vC:Value} {d:DK} {F:Nat→Prop} (h:qcX w vB vC d F):qcX w vB vC d (fun b=>F b∧b<w.heap.size):=qbs.bound h
theorem qdj.bound {w:World} {vB vC vE:Value} {d:KD} {F:Nat→Prop} (h:qdj w vB vC vE d F):qdj w vB vC vE d (fun b=>F b∧b<w.heap.size):=by
 obtain ⟨F1,G1,h1,h2,hd,hf⟩:=h
 exact ⟨_,_,h1.bound,h2.bound,fun b hb hb'=>hd b hb.1 hb'.1,fun b hb=>hb.elim (fun h=> ⟨hf b (Or.inl h.1),h.2⟩) (fun h=> ⟨hf b (Or.inr h.1),h.2⟩)⟩
def qkQ (d:KD):Nat:=qhb d.1+d.2.length

theorem qaa.new3 (w:World) (x y z:Value) (t:TypeId):qaa (w.alloc (.cells #[x,y,z] t)) w.heap.size 3 (fun i=>if i=0 then x else if i=1 then y else z):=by
 refine ⟨_,t,Go.Deep.blk_alloc_new _ _,by simp,fun i hi=> ?_⟩
 have:i=0∨i=1∨i=2:=by omega
 rcases this with rfl|rfl|rfl<;>simp

def qhD (d:KD):Nat:=qfq d.1+3*d.2.length
theorem qpW (d:KD):qhD d≤3*qkQ d:=by have:=qjy d.1;unfold qhD qkQ;omega
def qrp (k:Int) (d:KD):KD:= (qh6 k d.1,qgI (k+ (qfq d.1:Nat)) d.2.length)
theorem qpX (k:Int) (d:DK): (qh6 k d).1.length=d.1.length:=by simp [qh6,qg1]
theorem qpY (k:Int) (d:DK): (qh6 k d).2.length=d.2.length:=by simp [qh6,qg2,qeH]

end Go.Proofs.YthnmlipnoajmkaaGreatDoor

namespace Go.Proofs.YthnmlipnoajmkaaGreatDoor
open Go.RowKit
set_option maxRecDepth 100000

abbrev qfj:=List Int×KD
def qov (w:World) (vW vB vC vE:Value) (d:qfj):Prop:=qb1 w vW d.1∧qnd w vB vC vE d.2
theorem qov.later {w w':World} {vW vB vC vE:Value} {d:qfj} (h:qov w vW vB vC vE d) (hb:Below w.heap.size w w'):qov w' vW vB vC vE d:= ⟨h.1.later hb,h.2.later hb⟩
def qd5 (w:World) (vW vB vC vE:Value) (d:qfj) (F:Nat→Prop):Prop:= ∃F1 G1:Nat→Prop,qak w vW d.1 F1∧qdj w vB vC vE d.2 G1∧ (∀b,F1 b→ ¬G1 b)∧ ∀b,F1 b∨G1 b→F b
theorem qd5.reads {w:World} {vW vB vC vE:Value} {d:qfj} {F:Nat→Prop} (h:qd5 w vW vB vC vE d F):qov w vW vB vC vE d:=by
 obtain ⟨_,_,h1,h2,_⟩:=h
 exact ⟨h1.reads,h2.reads⟩
theorem qd5.keep {w w':World} {vW vB vC vE:Value} {d:qfj} {F:Nat→Prop} (h:qd5 w vW vB vC vE d F) (e: ∀b,F b→b<w.heap.size→w'.heap[b]?=w.heap[b]?):qd5 w' vW vB vC vE d F:=by
 obtain ⟨F1,G1,h1,h2,hd,hf⟩:=h
 exact ⟨F1,G1,h1.keep fun b hb=>e b (hf b (Or.inl hb)),h2.keep fun b hb=>e b (hf b (Or.inr hb)),hd,hf⟩
theorem qd5.later {w w':World} {vW vB vC vE:Value} {d:qfj} {F:Nat→Prop} (h:qd5 w vW vB vC vE d F) (hb:Below w.heap.size w w'):qd5 w' vW vB vC vE d F:=h.keep fun b _ hlt=>hb.block b hlt
theorem qd5.mono {w:World} {vW vB vC vE:Value} {d:qfj} {F G:Nat→Prop} (h:qd5 w vW vB vC vE d F) (e: ∀b,F b→G b):qd5 w vW vB vC vE d G:=by
 obtain ⟨F1,G1,h1,h2,hd,hf⟩:=h
 exact ⟨F1,G1,h1,h2,hd,fun b hb=>e b (hf b hb)⟩
theorem qd5.chg {w w':World} {vW vB vC vE:Value} {d:qfj} {F G:Nat→Prop} (h:qd5 w vW vB vC vE d F) (hc:Chg G w w') (hd: ∀b,F b→ ¬G b):qd5 w' vW vB vC vE d F:=h.keep fun b hb hlt=>hc.block b hlt (hd b hb)

def qsC (w:World) (r:Int×qfj) (e:Ending) (w':World):Prop:= ∃aW nW cW aB nB cB aC nC cC aE nE cE,e= .returned (.agg #[.int .i64 r.1, .slice aW nW cW, .slice aB nB cB, .slice aC nC cC, .slice aE nE cE])∧Below w.heap.size w w'∧qd5 w' (.slice aW nW cW) (.slice aB nB cB) (.slice aC nC cC) (.slice aE nE cE) r.2 (qaj w w')
theorem qr2 {w w':World} (hb:Below w.heap.size w w') (c:Int):qsC w (c, [],([], []), []) (.returned (.agg #[.int .i64 c, .slice none 0 0, .slice none 0 0, .slice none 0 0, .slice none 0 0])) w':=
 ⟨none,0,0,none,0,0,none,0,0,none,0,0,rfl,hb,fun _=>False,fun _=>False,Or.inl ⟨rfl,none,0,rfl⟩,⟨fun _=>False,fun _=>False,⟨fun _=>False,fun _=>False,Or.inl ⟨rfl,none,0,rfl⟩,Or.inl ⟨rfl,none,0,rfl⟩,fun _ h=>h.elim,fun _ h=>h.elim id id⟩,Or.inl ⟨rfl,none,0,rfl⟩,fun _ h=>h.elim,fun _ h=>h.elim id id⟩,fun _ h=>h.elim,fun _ h=>h.elim False.elim False.elim⟩

theorem Bx.new5 (w:World) (a b c d e:Value) (t:TypeId) (i:Nat) (v:Value) (h: [a,b,c,d,e][i]?=some v): (w.alloc (.cells #[a,b,c,d,e] t)).cell? ⟨w.heap.size,i,none⟩=some v:=Bx.new w [a,b,c,d,e] t i v h

def qr3 (d:qfj):Nat:=d.1.length+qhD d.2
def qsT (k:Int) (d:qfj):qfj:= (qbO k d.1.length,qrp (k+ (d.1.length:Nat)) d.2)
theorem qak.bound' {w:World} {v:Value} {zs:List Int} {F:Nat→Prop} (h:qak w v zs F):qak w v zs (fun b=>F b∧b<w.heap.size):=by
 rcases h with h| ⟨b,cap,hF,h1,h2,h3⟩
 · exact Or.inl h
 · exact Or.inr ⟨b,cap,⟨hF,h3.lt⟩,h1,h2,h3⟩

end Go.Proofs.YthnmlipnoajmkaaGreatDoor

namespace Go.Proofs.YthnmlipnoajmkaaGreatDoor
open Go.RowKit
set_option maxRecDepth 100000

theorem qr4 (ds:List ID): (qq8 ds).2.length≤20:=by
 have:=qeo (qdM ds) 20
 unfold qq8
 split
 · split
   · exact this
   · simp
 · simp
theorem qr5 (ds:List ID) (bs:List Int): (qq9 ds bs).2.length≤20:=by
 have:=qeo (qim ds bs) 20
 unfold qq9
 split
 · exact this
 · simp
theorem qr6 (ds:List ID) (bs:List Int) (k:Int): (qmO ds bs k).2.length≤20:=by
 have:=qeo (qim ds bs) 20
 unfold qmO
 split
 · split
   · split
     · simp
     · show ((qbH (qim ds bs) 20).take k.toNat).length≤20
       rw [List.length_take]
       omega
   · simp
 · simp
end Go.Proofs.YthnmlipnoajmkaaGreatDoor

namespace Go.Proofs.YthnmlipnoajmkaaGreatDoor
open Go.RowKit
set_option maxRecDepth 100000

set_option maxHeartbeats 6400000 in
theorem qlI (w:World) (a:Option Addr) (n c:Nat) (ds:List ID) (v:Int) (r:Int) (hr0:r=0) (hdn:ds.length=n) (hn:n≤1048576) (hs: (isz ds).sum≤1048576) (hv:0≤v∧v≤ (n:Int)-1) (hc:AtI w a n ds)
 (hF: ∀W,Below w.heap.size w W→Calls Tryz.prog 116 #[.slice a n c] W fun e w'=>e= .returned (.int .i64 r)∧Below W.heap.size W w'):
 Calls Tryz.prog 89 #[.slice a n c, .int .i64 v] w fun e w'=>e= .returned (.agg #[.int .i64 0, .int .i64 (((qco ds).count v:Nat):Int)])∧Below w.heap.size w w':=by
 subst hr0
 have HF:Hid (∀W,Below w.heap.size w W→Calls Tryz.prog 116 #[.slice a n c] W fun e w'=>e= .returned (.int .i64 0)∧Below W.heap.size W w'):=hF
 have HC:Hid (AtI w a n ds):=hc
 have HT:Hid ((qco ds).count v= (((ds.take n).flatMap fun d=>qb7 d.2.2.2.2)).count v):=by unfold Hid qco;rw [List.take_of_length_le (by omega)]
 have HS:Hid (∀j,(((ds.take j).flatMap fun d=>qb7 d.2.2.2.2)).count v≤1048576):=fun j=>by
  have h1:=qen (fun d:ID=>qb7 d.2.2.2.2) ds j
  have h2:=qfu ds
  have h3:=List.count_le_length (a:=v) (l:= (ds.take j).flatMap fun d=>qb7 d.2.2.2.2)
  unfold qco at h2
  omega
 have HX:Hid (∀j,j<n→ ((ds.take (j+1)).flatMap fun d=>qb7 d.2.2.2.2).count v= ((ds.take j).flatMap fun d=>qb7 d.2.2.2.2).count v+ (qb7 (ds[j]?.getD id0).2.2.2.2).count v):=fun j hj=>by
  rw [qem (fun d:ID=>qb7 d.2.2.2.2) ds id0 j (by omega),List.count_append]
 have HZ:Hid (∀j,(ds[j]?.getD id0).2.2.2.2.length≤1048576):=fun j=>by
  have:=qeg ds j
  have hd:sizeIno (ds[j]?.getD id0)= (ds[j]?.getD id0).2.2.2.1.length+ ((ds[j]?.getD id0).2.2.2.2.length+ (qbj (ds[j]?.getD id0).2.2.2.2).sum):=rfl
  omega
 rw [HT.out]
 clear hc hdn hs HT hF
 generalize hG: (fun j=> ((ds.take j).flatMap fun d=>qb7 d.2.2.2.2).count v)=G at*
 have HG:Hid (∀j,((ds.take j).flatMap fun d=>qb7 d.2.2.2.2).count v=G j):=fun j=>congrFun hG j
 simp only [HG.out] at HS HX ⊢
 have HG0:Hid (G 0=0):=by unfold Hid;rw [←HG.out 0];simp
 clear hG HG
 have hv0:decide (v<0)=false:=by simp;omega
 have hv1:decide ((n:Int)≤v)=false:=by simp;omega
 clear hv
 have HRB:Hid (qaa (w.alloc (.cells #[.int .i64 0, .int .i64 0] 86)) w.heap.size 2 (fun i=>if i=0 then .int .i64 0 else .int .i64 0)):=qaa.newS w (.int .i64 0) (.int .i64 0) _
 have HB0:Hid (Below w.heap.size w (w.alloc (.cells #[.int .i64 0, .int .i64 0] 86))):=qab _ _
 go_enter Tryz.func89,Tryz.ntmps89
 go_wp2_with fail
 generalize hW:w.alloc (Obj.cells #[.int .i64 0, .int .i64 0] 86)=W at*
 clear hW
 refine (HF.out _ HB0.out).mono ?_
 rintro e w1 ⟨rfl,hb1⟩
 have HB1:Hid (Below w.heap.size w w1):=HB0.out.trans (hb1.mono HB0.out.size)
 have HR1:Hid (qaa w1 w.heap.size 2 (fun i=>if i=0 then .int .i64 0 else .int .i64 0)):=HRB.out.later hb1
 clear hb1 HF HRB HB0
 go_wp2
 go_loopw [6,28] (fun q i wr=> ∃j:Nat,j≤n∧i= .int .i64 j∧q= .int .i64 ((G j:Nat):Int)∧Below w1.heap.size w1 wr) (fun _ i _=>n- (intOf i).toNat)
 case atStart=>exact ⟨0,Nat.zero_le _,rfl,by rw [HG0.out];rfl,Below.refl _ _⟩
 case round=>
  obtain ⟨j,hj,rfl,rfl,hbl⟩:=hrel
  have HBL:Hid (Below w1.heap.size w1 wr):=hbl
  have HBW:Hid (Below w.heap.size w wr):=HB1.out.trans (hbl.mono HB1.out.size)
  clear hbl
  by_cases hlt:j<n
  · obtain ⟨b,o,rfl,hI⟩:=HC.out j hlt
    obtain ⟨aB,cB,aE,cE,c0,c1,c2,c3,c4,h5⟩:=hI.later HBW.out
    obtain ⟨_,_,e1,hm1,_,hc1⟩:=h5.2.2.open'
    simp only [Value.slice.injEq] at e1
    obtain ⟨rfl,_,rfl⟩:=e1
    have HZJ:=HZ.out j
    have HSJ:=HS.out (j+1)
    have HXJ':Hid (G (j+1)=G j+ (qb7 (ds[j]?.getD id0).2.2.2.2).count v):=HX.out j hlt
    clear h5 HC hI
    generalize (ds[j]?.getD id0)=d at*
    obtain ⟨dk,dl,dz,db,es⟩:=d
    dsimp only at*
    have HCB:Hid (AtN wr aE es.length es):=hc1
    obtain ⟨nB,hnB⟩: ∃nB,nB=es.length:= ⟨_,rfl⟩
    have HNB:Hid (nB=es.length):=hnB
    have HNI:Hid (nB= (qb7 es).length):=by unfold Hid;rw [qkN];exact hnB
    rw [←hnB] at c4 hm1 HZJ
    have hle:G j+ (qb7 es).count v≤1048576:=by have:=HXJ'.out;omega
    have HEG:Hid (∀k:Nat,(qb7 es)[k]?.getD 0= (es[k]?.getD en0).2):=fun k=>qkM es k
    clear hc1 hnB HSJ
    generalize qb7 es=bs at*
    generalize db.length=nD at*
    go_wp2
    clear c0 c1 c2 c3 c4
    obtain ⟨wo,rfl⟩: ∃wo,wo=wr:= ⟨_,rfl⟩
    go_loopw [6,35] (fun q i wr2=> ∃k:Nat,k≤nB∧i= .int .i64 k∧q= .int .i64 (((G j+ (bs.take k).count v:Nat)):Int)∧Below wo.heap.size wo wr2) (fun _ i _=>nB- (intOf i).toNat)
    case atStart=>exact ⟨0,Nat.zero_le _,rfl,by simp,qab _ _⟩
    case round=>
     obtain ⟨k,hk,rfl,rfl,hbl2⟩:=hrel
     have HB2:Hid (Below wo.heap.size wo wr):=hbl2
     clear hbl2
     by_cases hlk:k<nB
     · obtain ⟨b1,o1,rfl,d0,d1⟩:=HCB.out k (by rw [←HNB.out];exact hlk)
       rw [←HEG.out k] at d1
       replace d0:=cell_later HB2.out d0
       replace d1:=cell_later HB2.out d1
       have hcn:=qdz bs v k (by rw [←HNI.out];exact hlk)
       have HCN:Hid ((bs.take (k+1)).count v= (bs.take k).count v+ (if bs[k]?.getD 0=v then 1 else 0)):=hcn
       have hct: (bs.take k).count v≤bs.count v:=List.Sublist.count_le v (List.take_sublist k bs)
       generalize (bs.take k).count v=ck at*
       clear hcn HCB HEG
       generalize (es[k]?.getD en0).1=nm at*
       generalize bs[k]?.getD 0=x at*
       by_cases hxv:x=v
       · have hxb: (x==v)=true:=by simpa using hxv
         have HCN':Hid ((bs.take (k+1)).count v=ck+1):=by unfold Hid;rw [HCN.out,if_pos hxv]
         clear hxv HCN
         go_wp2
         go_roundw
         case rel=>exact ⟨k+1,by omega,by go_num,by rw [HCN'.out];go_num,HB2.out.trans ((qab _ _).mono HB2.out.size)⟩
         case measure=>simp [intOf];omega
       · have hxb: (x==v)=false:=by simpa using hxv
         have HCN':Hid ((bs.take (k+1)).count v=ck):=by unfold Hid;rw [HCN.out,if_neg hxv,Nat.add_zero]
         clear hxv HCN
         go_wp2
         go_roundw
         case rel=>exact ⟨k+1,by omega,by go_num,by rw [HCN'.out],HB2.out.trans ((qab _ _).mono HB2.out.size)⟩
         case measure=>simp [intOf];omega
     · have hkn:bs.take k=bs:=List.take_of_length_le (by rw [←HNI.out];omega)
       rw [hkn]
       clear hkn
       have HE:Hid (((G j+bs.count v:Nat):Int)= ((G (j+1):Nat):Int)):=by unfold Hid;rw [HXJ'.out]
       go_wp2
       go_roundw
       case rel=>exact ⟨j+1,by omega,by go_num,by rw [HE.out],HBL.out.trans (HB2.out.mono HBL.out.size)⟩
       case measure=>simp [intOf];omega
  · have HJ:Hid (G j=G n):=by unfold Hid;rw [show j=n by omega]
    have hrow:qaa wr w.heap.size 2 (fun i=>if i=0 then .int .i64 0 else .int .i64 0):=HR1.out.later HBL.out
    have t0:=hrow.cell (i:=0) (by omega)
    have t1:=hrow.cell (i:=1) (by omega)
    have s0:=hrow.frozen 0
    have s1:=hrow.frozen 1
    simp only [ite_self] at t0 t1
    have hz1:=hrow.lt
    clear hrow
    go_wp2
    exact bodyPost_ret (v:= .agg #[.int .i64 0, .int .i64 ((G j:Nat):Int)]) (by simp [results,Tryz.results89,go_sem,t0,t1]) rfl ⟨by rw [HJ.out],(HBW.out.setCell (by simp) _).setCell (by simp) _⟩

set_option maxHeartbeats 3200000 in
theorem qkR (w:World) (a:Option Addr) (n c:Nat) (ds:List ID) (x:Int) (h:qdJ w (.slice a n c) ds) (hs:qag ds≤1048576):
 Calls Tryz.prog 89 #[.slice a n c, .int .i64 x] w fun e w'=>e= .returned (.agg #[.int .i64 (qqv ds x).1, .int .i64 (qqv ds x).2])∧Below w.heap.size w w':=by
 have HF:Hid (∀W,Below w.heap.size w W→Calls Tryz.prog 116 #[.slice a n c] W fun e w'=>e= .returned (.int .i64 (qaY ds))∧Below W.heap.size W w'):=fun W hW=>qdp (h.later hW) hs
 obtain ⟨_,_,esh,hml,hc⟩:=h.open'
 simp only [Value.slice.injEq] at esh
 obtain ⟨rfl,rfl,rfl⟩:=esh
 have hss: (isz ds).sum≤1048576∧ds.length≤1048576:=by unfold qag at hs;omega
 have HR:Hid (qqv ds x=if qaY ds=0 then (if 0≤x∧x≤ (ds.length:Int)-1 then (0,(((qco ds).count x:Nat):Int)) else (3,0)) else (qaY ds,0)):=rfl
 rw [HR.out]
 by_cases hf:qaY ds=0
 · rw [if_pos hf]
   by_cases hq:0≤x∧x≤ (ds.length:Int)-1
   · rw [if_pos hq]
     exact qlI w a ds.length c ds x (qaY ds) hf rfl hss.2 hss.1 hq hc HF.out
   · rw [if_neg hq]
     rw [hf] at HF
     clear HR h hs hml hc hf
     have hn':=hss.2
     generalize ds.length=n at*
     clear hss
     have step: ∀P:Prop,(decide (x<0)=true→P)→ (decide (x<0)=false→decide ((n:Int)≤x)=true→P)→P:=fun P h1 h2=>by
      by_cases h0:x<0
      · exact h1 (by simpa using h0)
      · exact h2 (by simpa using h0) (by simp;omega)
     clear hq
     have HRB:Hid (qaa (w.alloc (.cells #[.int .i64 0, .int .i64 0] 86)) w.heap.size 2 (fun i=>if i=0 then .int .i64 0 else .int .i64 0)):=qaa.newS w (.int .i64 0) (.int .i64 0) _
     have HB0:Hid (Below w.heap.size w (w.alloc (.cells #[.int .i64 0, .int .i64 0] 86))):=qab _ _
     apply step
     all_goals
      intros
      clear step
      go_enter Tryz.func89,Tryz.ntmps89
      go_wp2_with fail
      generalize hW:w.alloc (Obj.cells #[.int .i64 0, .int .i64 0] 86)=W at*
      clear hW
      refine (HF.out _ HB0.out).mono ?_
      rintro e w1 ⟨rfl,hb1⟩
      have HB1:Hid (Below w.heap.size w w1):=HB0.out.trans (hb1.mono HB0.out.size)
      have hrow:qaa w1 w.heap.size 2 (fun i=>if i=0 then .int .i64 0 else .int .i64 0):=HRB.out.later hb1
      have t0:=hrow.cell (i:=0) (by omega)
      have t1:=hrow.cell (i:=1) (by omega)
      have s0:=hrow.frozen 0
      have s1:=hrow.frozen 1
      simp only [ite_self] at t0 t1
      have hz1:=hrow.lt
      clear hb1 hrow
      go_wp2
      exact bodyPost_ret (v:= .agg #[.int .i64 3, .int .i64 0]) (by simp [results,Tryz.results89,go_sem,t0,t1]) rfl ⟨rfl,(HB1.out.setCell (by simp) _).setCell (by simp) _⟩
 · rw [if_neg hf]
   have hr: (qaY ds !=0)=true:=by simpa using hf
   clear HR h hs hml hc hf hss
   generalize qaY ds=r at*
   generalize ds.length=n at*
   have HRB:Hid (qaa (w.alloc (.cells #[.int .i64 0, .int .i64 0] 86)) w.heap.size 2 (fun i=>if i=0 then .int .i64 0 else .int .i64 0)):=qaa.newS w (.int .i64 0) (.int .i64 0) _
   have HB0:Hid (Below w.heap.size w (w.alloc (.cells #[.int .i64 0, .int .i64 0] 86))):=qab _ _
   go_enter Tryz.func89,Tryz.ntmps89
   go_wp2_with fail
   generalize hW:w.alloc (Obj.cells #[.int .i64 0, .int .i64 0] 86)=W at*
   clear hW
   refine (HF.out _ HB0.out).mono ?_
   rintro e w1 ⟨rfl,hb1⟩
   have HB1:Hid (Below w.heap.size w w1):=HB0.out.trans (hb1.mono HB0.out.size)
   have hrow:qaa w1 w.heap.size 2 (fun i=>if i=0 then .int .i64 0 else .int .i64 0):=HRB.out.later hb1
   have t0:=hrow.cell (i:=0) (by omega)
   have t1:=hrow.cell (i:=1) (by omega)
   have s0:=hrow.frozen 0
   have s1:=hrow.frozen 1
   simp only [ite_self] at t0 t1
   have hz1:=hrow.lt
   clear hb1 hrow
   go_wp2
   exact bodyPost_ret (v:= .agg #[.int .i64 r, .int .i64 0]) (by simp [results,Tryz.results89,go_sem,t0,t1]) rfl ⟨rfl,(HB1.out.setCell (by simp) _).setCell (by simp) _⟩
end Go.Proofs.YthnmlipnoajmkaaGreatDoor
