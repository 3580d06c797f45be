/- The program's walk:the iterator that tells the places of a way. The program's walk:where a way ends (endOf). errors.As at the error of a way that breaks off:Go's own text of errors.As and errors.as is walked. After the kit's worked toy of errors.As,here with a struct in the place of the pointer. The program's walk:where names lead (walkNames). The program's WalkPath. The bytes of a place,whatever is there. The bytes of a file:the program. -/
import Derived.Test.YthnmlipnoajmkaaGreatDoorM18
import Derived.Test.YthnmlipnoajmkaaGreatDoorM06
import Derived.LaidEql
import Derived.Stop.Asserts
import Derived.RowKitTokens
import Derived.Test.YthnmlipnoajmkaaGreatDoorM07
import Derived.Test.YthnmlipnoajmkaaGreatDoorM14
namespace Go.Proofs.YthnmlipnoajmkaaGreatDoor
open Go.RowKit Go.Shelf
set_option maxRecDepth 100000
attribute [local go_sem] Oper.semAt_some

abbrev qng (x:WS):Array Value:= #[.int .i64 x.1,match x.2 with |none=> .nilIface|some c=> .iface 162 (.agg #[.int .i64 x.1, .int .i64 c])]
theorem qp4 {ds:List ID} {t:Nat} {s:List UInt8} {ns:List (List UInt8)} {y:Nat} (hk:qae ds t=2) (hi:idxE (ds[t]?.getD id0).2.2.2.2 (mkB s)< (ds[t]?.getD id0).2.2.2.2.length) (hy: ((ds[t]?.getD id0).2.2.2.2[idxE (ds[t]?.getD id0).2.2.2.2 (mkB s)]?.getD en0).2= (y:Int)):wkL ds t (s::ns)= ((y:Int),none)::wkL ds y ns:=by
 show (if qae ds t=2 then _ else _)=_
 rw [if_pos hk,if_pos hi,hy,Int.toNat_natCast]
theorem qoz {ds:List ID} {t:Nat} {s:List UInt8} {ns:List (List UInt8)} (hk:qae ds t=2) (hi: ¬idxE (ds[t]?.getD id0).2.2.2.2 (mkB s)< (ds[t]?.getD id0).2.2.2.2.length):wkL ds t (s::ns)= [((t:Int),some 4)]:=by
 show (if qae ds t=2 then _ else _)=_
 rw [if_pos hk,if_neg hi]
theorem qoA {ds:List ID} {t:Nat} {s:List UInt8} {ns:List (List UInt8)} (hk: ¬qae ds t=2):wkL ds t (s::ns)= [((t:Int),some 9)]:=by
 show (if qae ds t=2 then _ else _)=_
 rw [if_neg hk]
theorem qiR {l:List (List UInt8)} {k:Nat} (h:k<l.length):l.drop k=l[k]?.getD []::l.drop (k+1):=by
 rw [List.drop_eq_getElem_cons h,List.getElem?_eq_getElem h];rfl
set_option maxRecDepth 100000 in
set_option maxHeartbeats 3200000 in
theorem qoB (n:Nat) (hn:2≤n) (l Bn Bl n₀:Nat) (aN:Option Addr) (mN cN:Nat) (xs:List (List UInt8)) (hmN:xs.length=mN) (hmx:mN≤1048577) (aL:Option Addr) (nL cL:Nat) (ds:List ID) (hdn:ds.length=nL) (_h10:nL≤10) (h0L:0<nL) (hr:qa8 ds) (h6: ∀i:Nat,(ds[i]?.getD id0).2.2.2.2.length≤6) (J Jx:List WS→World→Prop)
 (hY: ∀pre x W,J pre W→pre.length< (wkT ds xs).length→YieldAt Fence.wide (n-1) Tryz.prog l (qng x) W fun e W'=>
   (e= .returned (.bool true)∧J (pre++ [x]) W'∧Below n₀ W W')∨ (e= .returned (.bool false)∧Jx (pre++ [x]) W'))
 (W:World) (hJ:AbidesFrom W.heap.size J) (hn₀:n₀≤W.heap.size) (hread: ∀W',Below n₀ W W'→W'.cell? ⟨Bn,0,none⟩=some (.slice aN mN cN)∧W'.cell? ⟨Bl,0,none⟩=some (.slice aL nL cL)∧AtT W' aN mN xs∧AtI W' aL nL ds) (h0:J [] W):
 CallsIn Fence.wide n Tryz.prog 143 #[.func (.yield l) #[] #[], .pointer (some ⟨Bn,0,none⟩), .pointer (some ⟨Bl,0,none⟩)] W fun e W'=> (∃v,e= .returned v)∧
  ((∃ys,ys=wkT ds xs∧J ys W')∨ (∃pre,pre <+: wkT ds xs∧Jx pre W')):=by
 refine callsIn_of_wp Tryz.func143 rfl trivial ?_ rfl
 simp only [Tryz.ntmps143,List.size_toArray,List.length_cons,List.length_nil,Nat.reduceAdd,Nat.reduceSub,Array.replicate_succ,Array.replicate_zero,List.push_toArray,List.append_toArray,List.nil_append,List.cons_append]
 have HRD:Hid (∀W',Below n₀ W W'→W'.cell? ⟨Bn,0,none⟩=some (.slice aN mN cN)∧W'.cell? ⟨Bl,0,none⟩=some (.slice aL nL cL)∧AtT W' aN mN xs∧AtI W' aL nL ds):=hread
 have HT:Hid (wkT ds xs= (0,none)::wkL ds 0 xs):=rfl
 have HM:Hid (xs.length=mN):=hmN
 have HDN:Hid (ds.length=nL):=hdn
 obtain ⟨fn,tmps,assign,body,hy,hR⟩:=hY [] (0,none) W h0 (by rw [HT.out];simp)
 dsimp only [qng] at hy
 clear hread hmN hdn
 gi_wp2
 refine wpIn_wide.2 (wp_scope_straight ((wpIn_wide (n:=n)).1 ?_))
 gi_wp2
 refine ⟨fun _=>by omega,hR.mono ?_⟩
 rintro e W3 (⟨rfl,hJ3,hk3⟩| ⟨rfl,hJx3⟩)
 rotate_left
 · gi_wp2
   (try simp only [Exit.noGoto]);refine bodyPost_ret (results_none rfl _ _ _) rfl ?_
   exact ⟨⟨_,rfl⟩, .inr ⟨_,⟨wkL ds 0 xs,by rw [HT.out];rfl⟩,hJx3⟩⟩
 · have HB3:Hid (Below n₀ W W3):=hk3
   obtain ⟨g1,g2,-,-⟩:=HRD.out W3 hk3
   clear hy hR fn tmps assign body hk3
   gi_wp2
   refine wpIn_label ?_
   gi_wp2
   clear g1 g2
   have HJ:Hid (AbidesFrom W.heap.size J):=hJ
   have HR:Hid (qa8 ds):=hr
   have H6:Hid (∀i:Nat,(ds[i]?.getD id0).2.2.2.2.length≤6):=h6
   have HYY:Hid (∀pre x W,J pre W→pre.length< (wkT ds xs).length→YieldAt Fence.wide (n-1) Tryz.prog l (qng x) W fun e W'=> (e= .returned (.bool true)∧J (pre++ [x]) W'∧Below n₀ W W')∨ (e= .returned (.bool false)∧Jx (pre++ [x]) W')):=hY
   clear hJ hr h6 hY
   gi_loopw [4,15] (fun va vi wr=> ∃ (q t:Nat) (pre:List WS),va= .int .i64 (t:Int)∧vi= .int .i64 (q:Int)∧q≤mN∧t<nL∧wkT ds xs=pre++wkL ds t (xs.drop q)∧Below n₀ W wr∧J pre wr) (fun _ vi _=>mN- (intOf vi).toNat)
   case atStart=>exact ⟨0,0, [(0,none)],rfl,rfl,Nat.zero_le _,h0L,by rw [HT.out];rfl,HB3.out,hJ3⟩
   case round=>
    obtain ⟨q,t,pre,rfl,rfl,hq,ht,hx,hbl,hJs⟩:=hrel
    have HX:Hid (wkT ds xs=pre++wkL ds t (xs.drop q)):=hx
    have HB:Hid (Below n₀ W wr):=hbl
    clear hx hbl HB3 hJ3
    by_cases hlt:q<mN
    · obtain ⟨g1,g2,hAT,hAI⟩:=HRD.out wr HB.out
      obtain ⟨b,off,rfl,c0⟩:=hAT q hlt
      have HDC:Hid (xs.drop q=xs[q]?.getD []::xs.drop (q+1)):=qiR (by rw [HM.out];exact hlt)
      obtain ⟨bL,oL,rfl,hI⟩:=hAI t ht
      obtain ⟨aB,cB,aE,cE,k0,-,-,-,k4,hIR⟩:=hI
      have htI: (t:Int)< (nL:Int):=by omega
      generalize hs:xs[q]?.getD []=s at*
      clear hs hAT hAI
      by_cases hk:qae ds t=2
      · have hkb: ((ds[t]?.getD id0).1 !=2)=false:=by simpa [qae] using hk
        obtain ⟨_,_,e3,-,-,hEt⟩:=hIR.2.2.open'
        simp only [Value.slice.injEq] at e3
        obtain ⟨rfl,-,rfl⟩:=e3
        have HAE:Hid (∀W',Below wr.heap.size wr W'→AtN W' aE (ds[t]?.getD id0).2.2.2.2.length (ds[t]?.getD id0).2.2.2.2):=fun W' hb=>hEt.later hb
        have hE6:=H6.out t
        have HTL:Hid (∀k,k< (ds[t]?.getD id0).2.2.2.2.length→eqE (mkB s) ((ds[t]?.getD id0).2.2.2.2[k]?.getD en0)=true→ (∀j,j<k→eqE (mkB s) ((ds[t]?.getD id0).2.2.2.2[j]?.getD en0)=false)→ ∃y:Nat,((ds[t]?.getD id0).2.2.2.2[k]?.getD en0).2= (y:Int)∧y<nL∧wkT ds xs= (pre++ [((y:Int),none)])++wkL ds y (xs.drop (q+1))):=fun k hk1 hk2 hk3=>by
         have hix:idxE (ds[t]?.getD id0).2.2.2.2 (mkB s)=k:=qcL hk1 hk2 hk3
         obtain ⟨y,hy1,hy2⟩:=qhJ HR.out (by rw [HDN.out];exact ht) hk1
         refine ⟨y,hy1,by rw [HDN.out] at hy2;exact hy2, ?_⟩
         rw [HX.out,HDC.out,qp4 hk (by rw [hix];exact hk1) (by rw [hix];exact hy1),List.append_assoc];rfl
        have HNO:Hid ((∀j,j< (ds[t]?.getD id0).2.2.2.2.length→eqE (mkB s) ((ds[t]?.getD id0).2.2.2.2[j]?.getD en0)=false)→wkT ds xs=pre++ [((t:Int),some 4)]):=fun hno=>by
         have hix:idxE (ds[t]?.getD id0).2.2.2.2 (mkB s)= (ds[t]?.getD id0).2.2.2.2.length:=qdF hno
         rw [HX.out,HDC.out,qoz hk (by rw [hix];omega)]
        clear hk hIR hEt HX HDC H6
        generalize (ds[t]?.getD id0).1=kd at*
        generalize (ds[t]?.getD id0).2.2.2.2=es at*
        generalize hnn:es.length=nE at*
        clear hnn
        gi_wp2
        obtain ⟨wo,hwo⟩: ∃wo,wo=wr:= ⟨_,rfl⟩
        rw [hwo.symm] at HB HAE hJs
        gi_loopw [4,37] (fun va vi wr2=> ∃k:Nat,k≤nE∧va= .int .i64 (t:Int)∧vi= .int .i64 (k:Int)∧Below wo.heap.size wo wr2∧J pre wr2∧ ∀j,j<k→eqE (mkB s) (es[j]?.getD en0)=false) (fun _ vi _=>nE- (intOf vi).toNat)
        case atStart=>exact ⟨0,Nat.zero_le _,rfl,rfl,by rw [hwo];exact Below.refl _ _,by rw [←hwo];exact hJs,fun j hj=>by omega⟩
        case round=>
         obtain ⟨k,hk,rfl,rfl,hbk,hJk,hzk⟩:=hrel
         clear hwo
         have HBK:Hid (Below wo.heap.size wo wr):=hbk
         have HZK:Hid (∀j,j<k→eqE (mkB s) (es[j]?.getD en0)=false):=hzk
         have hsz:n₀≤wo.heap.size:=Nat.le_trans hn₀ HB.out.size
         have HBW:Hid (Below n₀ W wr):=HB.out.trans (hbk.mono hsz)
         clear hbk hzk
         by_cases hlk:k<nE
         · obtain ⟨b1,o1,rfl,d0,d1⟩:=HAE.out wr HBK.out k hlk
           have HJA:Hid (∀o:Obj,J pre (wr.alloc o)):=fun o=>HJ.out pre wr _ none hJk (World.grownBy_alloc wr o none) (fun r e=>by cases e)
           have HBA:Hid (∀o:Obj,Below n₀ W (wr.alloc o)):=fun o=>HBW.out.trans ((qab _ _).mono (Nat.le_trans hn₀ HBW.out.size))
           cases heq:eqE (mkB s) (es[k]?.getD en0) with
           | false=>
             have hne: ((es[k]?.getD en0).1.toList== (mkB s).toList)=false:=heq
             have HZN:Hid (∀j,j<k+1→eqE (mkB s) (es[j]?.getD en0)=false):=fun j hj=>by
              by_cases e:j=k
              · rw [e];exact heq
              · exact HZK.out j (by omega)
             clear heq HTL
             generalize (es[k]?.getD en0).1=nm at*
             generalize (es[k]?.getD en0).2=x at*
             gi_wp2
             go_roundw
             case rel=>exact ⟨k+1,by omega,rfl,by go_num,HBK.out.trans ((qab _ _).mono HBK.out.size),HJA.out _,HZN.out⟩
             case measure=>simp [intOf];omega
           | true=>
             have hne: ((es[k]?.getD en0).1.toList== (mkB s).toList)=true:=heq
             obtain ⟨y,hy1,hy2,hy3⟩:=HTL.out k hlk heq HZK.out
             have HYT:Hid (wkT ds xs= (pre++ [((y:Int),none)])++wkL ds y (xs.drop (q+1))):=hy3
             rw [hy1] at d1
             clear heq HTL hy1 hy3
             generalize (es[k]?.getD en0).1=nm at*
             obtain ⟨fn,tmps,assign,body,hy,hRR⟩:=HYY.out pre ((y:Int),none) (wr.alloc (.cells #[.string nm, .int .i64 (y:Int)] 76)) (HJA.out _) (by rw [HYT.out];simp)
             dsimp only [qng] at hy
             gi_wp2
             refine ⟨fun _=>by omega,hRR.mono ?_⟩
             rintro e W4 (⟨rfl,hJ4,hk4⟩| ⟨rfl,hJx4⟩)
             · gi_wp2
               go_roundw
               case rel=>exact ⟨q+1,y,_,rfl,by go_num,by omega,hy2,HYT.out,(HBA.out _).trans hk4,hJ4⟩
               case measure=>simp [intOf];omega
             · gi_wp2
               (try simp only [Exit.noGoto]);refine bodyPost_ret (results_none rfl _ _ _) rfl ?_
               exact ⟨⟨_,rfl⟩, .inr ⟨_,⟨wkL ds y (xs.drop (q+1)),HYT.out.symm⟩,hJx4⟩⟩
         · have hx1:decide ((k:Int)< (nE:Int))=false:=by simp;omega
           have hx2:decide (k<nE)=false:=by simp;omega
           have HFL:Hid (wkT ds xs=pre++ [((t:Int),some 4)]):=HNO.out fun j hj=>HZK.out j (by omega)
           obtain ⟨fn,tmps,assign,body,hy,hRR⟩:=HYY.out pre ((t:Int),some 4) wr hJk (by rw [HFL.out];simp)
           dsimp only [qng] at hy
           gi_wp2
           refine ⟨fun _=>by omega,hRR.mono ?_⟩
           rintro e W4 (⟨rfl,hJ4,hk4⟩| ⟨rfl,hJx4⟩)
           · gi_wp2
             (try simp only [Exit.noGoto]);refine bodyPost_ret (results_none rfl _ _ _) rfl ?_
             exact ⟨⟨_,rfl⟩, .inl ⟨_,HFL.out.symm,hJ4⟩⟩
           · gi_wp2
             (try simp only [Exit.noGoto]);refine bodyPost_ret (results_none rfl _ _ _) rfl ?_
             exact ⟨⟨_,rfl⟩, .inr ⟨_,⟨[],by rw [HFL.out,List.append_nil]⟩,hJx4⟩⟩
      · have hkb: ((ds[t]?.getD id0).1 !=2)=true:=by simpa [qae] using hk
        have HFL:Hid (wkT ds xs=pre++ [((t:Int),some 9)]):=by unfold Hid;rw [HX.out,HDC.out,qoA hk]
        obtain ⟨fn,tmps,assign,body,hy,hRR⟩:=HYY.out pre ((t:Int),some 9) wr hJs (by rw [HFL.out];simp)
        dsimp only [qng] at hy
        clear hk k4 hIR
        generalize (ds[t]?.getD id0).1=kd at*
        gi_wp2
        refine ⟨fun _=>by omega,hRR.mono ?_⟩
        rintro e W4 (⟨rfl,hJ4,hk4⟩| ⟨rfl,hJx4⟩)
        · gi_wp2
          (try simp only [Exit.noGoto]);refine bodyPost_ret (results_none rfl _ _ _) rfl ?_
          exact ⟨⟨_,rfl⟩, .inl ⟨_,HFL.out.symm,hJ4⟩⟩
        · gi_wp2
          (try simp only [Exit.noGoto]);refine bodyPost_ret (results_none rfl _ _ _) rfl ?_
          exact ⟨⟨_,rfl⟩, .inr ⟨_,⟨[],by rw [HFL.out,List.append_nil]⟩,hJx4⟩⟩
    · have hx1:decide ((q:Int)< (mN:Int))=false:=by simp;omega
      have hx2:decide (q<mN)=false:=by simp;omega
      gi_wp2
      (try simp only [Exit.noGoto])
      go_end0
      exact ⟨⟨_,rfl⟩, .inl ⟨pre,by rw [HX.out,List.drop_of_length_le (by rw [HM.out];omega)];simp [wkL],hJs⟩⟩
end Go.Proofs.YthnmlipnoajmkaaGreatDoor

namespace Go.Proofs.YthnmlipnoajmkaaGreatDoor
open Go.RowKit Go.Shelf
set_option maxRecDepth 100000
attribute [local go_sem] Oper.semAt_some

theorem qkT (w:World) (aL:Option Addr) (nL cL:Nat) (aN:Option Addr) (mN cN:Nat):Calls Tryz.prog 121 #[.slice aL nL cL, .slice aN mN cN] w fun e w'=>e= .returned (.func (.func 143) #[] #[.pointer (some ⟨w.heap.size+1,0,none⟩), .pointer (some ⟨w.heap.size,0,none⟩)])∧w'= (w.alloc (.cells #[.slice aL nL cL] 29)).alloc (.cells #[.slice aN mN cN] 28):=by
 go_enter Tryz.func121,Tryz.ntmps121
 go_wp2
 go_ret
 exact ⟨rfl,rfl⟩
theorem qlJ (n:Nat) (hn:2≤n) (Bn Bl:Nat) (aN:Option Addr) (mN cN:Nat) (xs:List (List UInt8)) (hmN:xs.length=mN) (hmx:mN≤1048577) (aL:Option Addr) (nL cL:Nat) (ds:List ID) (hdn:ds.length=nL) (h10:nL≤10) (h0L:0<nL) (hr:qa8 ds) (h6: ∀i:Nat,(ds[i]?.getD id0).2.2.2.2.length≤6) (w0 w:World) (hw:Below w0.heap.size w0 w) (_hBn:Bn<w0.heap.size) (_hBl:Bl<w0.heap.size)
 (hcn:w0.cell? ⟨Bn,0,none⟩=some (.slice aN mN cN)) (hcl:w0.cell? ⟨Bl,0,none⟩=some (.slice aL nL cL)) (hat:AtT w0 aN mN xs) (hai:AtI w0 aL nL ds):
 SeqStopsK Fence.wide n Tryz.prog 143 #[.pointer (some ⟨Bn,0,none⟩), .pointer (some ⟨Bl,0,none⟩)] qng (Below w0.heap.size) (fun ys=>ys=wkT ds xs) (fun pre=>pre <+: wkT ds xs) (wkT ds xs).length w:=fun l J Jx W hW hJ _ hY h0=>
 qoB n hn l Bn Bl w0.heap.size aN mN cN xs hmN hmx aL nL cL ds hdn h10 h0L hr h6 J Jx hY W hJ (Nat.le_trans hw.size hW.size) (fun W' hb=>by
  have h1:Below w0.heap.size w0 W':= (hw.trans (hW.mono hw.size)).trans hb
  exact ⟨cell_later h1 hcn,cell_later h1 hcl,hat.later h1,hai.later h1⟩) h0
theorem qdt {W W':World} {row:Option Nat} {B:Nat} {t:TypeId} {v:Value} (h:Boxed W B t v) (hg:W.grownBy W' row) (hr: ∀r,row=some r→ ∃o:Obj,W.heap[r]?=some o∧o.isCells=false):Boxed W' B t v:=
 h.kept hg fun e=>by
  obtain ⟨o,ho,hc⟩:=hr B e.symm
  rw [show W.heap[B]?=_ from h] at ho
  cases ho
  cases hc
theorem qdI {W:World} {B C:Nat} {t:TypeId} {v:Value} (h:Boxed W B t v) (u:Value) (hne:B≠C):Boxed (W.setCell ⟨C,0,none⟩ u) B t v:= (Below.heap_setCell _ _ _ _ hne).trans h
def qo8:Option (Int×Int)→Value
 |none=> .nilIface
 |some p=> .iface 162 (.agg #[.int .i64 p.1, .int .i64 p.2])
set_option maxRecDepth 100000 in
set_option maxHeartbeats 4000000 in
theorem qnh (w:World) (Bn Bl:Nat) (aN:Option Addr) (mN cN:Nat) (xs:List (List UInt8)) (hmN:xs.length=mN) (hmx:mN≤1048577) (aL:Option Addr) (nL cL:Nat) (ds:List ID) (hdn:ds.length=nL) (h10:nL≤10) (h0L:0<nL) (hr:qa8 ds) (h6: ∀i:Nat,(ds[i]?.getD id0).2.2.2.2.length≤6) (hBn:Bn<w.heap.size) (hBl:Bl<w.heap.size)
 (hcn:w.cell? ⟨Bn,0,none⟩=some (.slice aN mN cN)) (hcl:w.cell? ⟨Bl,0,none⟩=some (.slice aL nL cL)) (hat:AtT w aN mN xs) (hai:AtI w aL nL ds):
 Calls Tryz.prog 120 #[.func (.func 143) #[] #[.pointer (some ⟨Bn,0,none⟩), .pointer (some ⟨Bl,0,none⟩)]] w fun e w'=>e= .returned (.tuple #[.int .i64 (brk 0 (wkT ds xs)).1,qo8 (brk 0 (wkT ds xs)).2])∧Below w.heap.size w w':=by
 refine (callsIn_wide (n:=5)).1 ?_
 refine callsIn_of_wp_marks Tryz.func120 rfl trivial ?_ rfl
 simp only [Tryz.ntmps120,List.size_toArray,List.length_cons,List.length_nil,Nat.reduceAdd,Nat.reduceSub,Array.replicate_succ,Array.replicate_zero,List.push_toArray,List.append_toArray,List.nil_append,List.cons_append]
 gi_wp2
 have hb0:Boxed (((w.alloc (.cells #[.int .i64 0] 2)).alloc (.cells #[.nilIface] 155)).alloc (.cells #[.int .i64 0] 2)) w.heap.size 2 (.int .i64 0):= ((Boxed.new w 2 (.int .i64 0)).alloc _).alloc _
 have hb1:Boxed (((w.alloc (.cells #[.int .i64 0] 2)).alloc (.cells #[.nilIface] 155)).alloc (.cells #[.int .i64 0] 2)) (w.heap.size+1) 155 .nilIface:=by
  have:= (Boxed.new (w.alloc (.cells #[.int .i64 0] 2)) 155 .nilIface).alloc (.cells #[.int .i64 0] 2)
  rw [World.size_alloc] at this
  exact this
 have hb2:Boxed (((w.alloc (.cells #[.int .i64 0] 2)).alloc (.cells #[.nilIface] 155)).alloc (.cells #[.int .i64 0] 2)) (w.heap.size+1+1) 2 (.int .i64 0):=by
  have:=Boxed.new ((w.alloc (.cells #[.int .i64 0] 2)).alloc (.cells #[.nilIface] 155)) 2 (.int .i64 0)
  rw [World.size_alloc,World.size_alloc] at this
  exact this
 have hB0:Below w.heap.size w (((w.alloc (.cells #[.int .i64 0] 2)).alloc (.cells #[.nilIface] 155)).alloc (.cells #[.int .i64 0] 2)):= (qam _ _ _).trans ((qab _ _).mono (by simp;omega))
 refine wpIn_rangeFunc_ownF rfl (by omega) (gf:=143) (lb:= #[.pointer (some ⟨Bn,0,none⟩), .pointer (some ⟨Bl,0,none⟩)]) rfl trivial (enters_of Tryz.func143 (by kernel_rfl) rfl)
  (qlJ 4 (by omega) Bn Bl aN mN cN xs hmN hmx aL nL cL ds hdn h10 h0L hr h6 w _ hB0 hBn hBl hcn hcl hat hai) belowK_t (belowK_b (by simp;omega)) (Below.refl _ _) (fun _=>rfl)
  (fun pre W=> (∃v,brk 0 pre= (v,none)∧Boxed W w.heap.size 2 (.int .i64 0)∧Boxed W (w.heap.size+1) 155 .nilIface∧Boxed W (w.heap.size+1+1) 2 (.int .i64 v))∧Below w.heap.size w W)
  (fun c pre W=> (c= .ret∧ ∃p:Int×Int,brk 0 pre= (0,some p)∧Boxed W w.heap.size 2 (.int .i64 0)∧Boxed W (w.heap.size+1) 155 (qo8 (some p)))∧Below w.heap.size w W)
  (OwnFrom.and (Own.from (fun s A B row hs hg hr=>by
    obtain ⟨v,h1,h2,h3,h4⟩:=hs
    exact ⟨v,h1,qdt h2 hg hr,qdt h3 hg hr,qdt h4 hg hr⟩) _) (ownFrom_below (Nat.le_refl _) (by simp;omega)))
  (fun c=>OwnFrom.and (Own.from (fun s A B row hs hg hr=>by
    obtain ⟨h0,p,h1,h2,h3⟩:=hs
    exact ⟨h0,p,h1,qdt h2 hg hr,qdt h3 hg hr⟩) _) (ownFrom_below (Nat.le_refl _) (by simp;omega)))
  ⟨⟨0,rfl,hb0,hb1,hb2⟩,hB0⟩
  (fun x=> {tmps:= #[.func (.func 143) #[] #[.pointer (some ⟨Bn,0,none⟩), .pointer (some ⟨Bl,0,none⟩)],undef, .pointer (some ⟨w.heap.size,0,none⟩), .pointer (some ⟨w.heap.size+1,0,none⟩), .pointer (some ⟨w.heap.size+1+1,0,none⟩), .int .i64 x.1,(qng x).getD 1 undef, .func (.func 143) #[] #[.pointer (some ⟨Bn,0,none⟩), .pointer (some ⟨Bl,0,none⟩)], .int .i64 x.1,(qng x).getD 1 undef,undef,undef,undef,undef,undef],defers:= []}) ?assign ?body ?done ?stop
 case assign=>
  rintro l ⟨x,c⟩ W K hK
  cases c
  all_goals
   gi_wp2
   simpa using hK
 case body=>
  rintro l pre ⟨x,c⟩ W ⟨⟨v,hv,q0,q1,q2⟩,hB⟩ hlt
  have HB:Hid (Below w.heap.size w W):=hB
  have N02:Hid (w.heap.size≠w.heap.size+1+1):=by unfold Hid;omega
  have N12:Hid (w.heap.size+1≠w.heap.size+1+1):=by unfold Hid;omega
  have N01:Hid (w.heap.size≠w.heap.size+1):=by unfold Hid;omega
  have N10:Hid (w.heap.size+1≠w.heap.size):=by unfold Hid;omega
  have HK1:Hid (KeepsOthers W (W.setCell ⟨w.heap.size+1+1,0,none⟩ (.int .i64 x))):=KeepsOthers.setCell _ _ _
  have HB1:Hid (Below w.heap.size W (W.setCell ⟨w.heap.size+1+1,0,none⟩ (.int .i64 x))):= (Below.refl w.heap.size W).setCell (p:= ⟨w.heap.size+1+1,0,none⟩) (by show w.heap.size≤w.heap.size+1+1;omega) _
  have HQ1:Hid (Boxed (W.setCell ⟨w.heap.size+1+1,0,none⟩ (.int .i64 x)) w.heap.size 2 (.int .i64 0)∧Boxed (W.setCell ⟨w.heap.size+1+1,0,none⟩ (.int .i64 x)) (w.heap.size+1) 155 .nilIface∧Boxed (W.setCell ⟨w.heap.size+1+1,0,none⟩ (.int .i64 x)) (w.heap.size+1+1) 2 (.int .i64 x)):= ⟨qdI q0 _ N02.out,qdI q1 _ N12.out,q2.set _⟩
  have HQ2:Hid (∀u:Value,KeepsOthers W ((W.setCell ⟨w.heap.size,0,none⟩ (.int .i64 0)).setCell ⟨w.heap.size+1,0,none⟩ u)∧Below w.heap.size w ((W.setCell ⟨w.heap.size,0,none⟩ (.int .i64 0)).setCell ⟨w.heap.size+1,0,none⟩ u)∧Boxed ((W.setCell ⟨w.heap.size,0,none⟩ (.int .i64 0)).setCell ⟨w.heap.size+1,0,none⟩ u) w.heap.size 2 (.int .i64 0)∧Boxed ((W.setCell ⟨w.heap.size,0,none⟩ (.int .i64 0)).setCell ⟨w.heap.size+1,0,none⟩ u) (w.heap.size+1) 155 u):=fun u=> ⟨(KeepsOthers.setCell _ _ _).trans (KeepsOthers.setCell _ _ _),(hB.setCell (p:= ⟨w.heap.size,0,none⟩) (Nat.le_refl _) _).setCell (p:= ⟨w.heap.size+1,0,none⟩) (by show w.heap.size≤w.heap.size+1;omega) _,qdI (q0.set _) _ N01.out,(qdI q1 _ N10.out).set _⟩
  have c0:=q0.cell
  have c1:=q1.cell
  have c2:=q2.cell
  have f0:=q0.frozen
  have f1:=q1.frozen
  have f2:=q2.frozen
  cases c with
  | none=>
    dsimp only [qng]
    gi_wp2
    exact ⟨HK1.out,HB1.out,⟨x,qf3 pre 0 v x hv,HQ1.out⟩,HB.out.trans HB1.out⟩
  | some c=>
    dsimp only [qng]
    gi_wp2
    have h2:=HQ2.out (.iface 162 (.agg #[.int .i64 x, .int .i64 c]))
    exact ⟨h2.1,⟨rfl,(x,c),qf4 pre 0 v x c hv,h2.2.2⟩,h2.2.1⟩
 case done=>
  rintro D ys W hD hys ⟨⟨v,hv,q0,q1,q2⟩,hB⟩ hK
  have c0:=q0.cell
  have c1:=q1.cell
  have c2:=q2.cell
  have f0:=q0.frozen
  have f1:=q1.frozen
  have hDs:w.heap.size+3≤D:=by simpa using hD
  have hK2: ((W.setCell ⟨w.heap.size,0,none⟩ (.int .i64 v)).setCell ⟨w.heap.size+1,0,none⟩ .nilIface).heap[D]?=some (.deferred (some [])):=by
   rw [Below.heap_setCell _ _ _ _ (show D≠w.heap.size+1 by omega),Below.heap_setCell _ _ _ _ (show D≠w.heap.size by omega)];exact hK
  have r0:= (qdI (q0.set (.int .i64 v)) .nilIface (show w.heap.size≠w.heap.size+1 by omega)).cell
  have r1:= ((qdI q1 (.int .i64 v) (show w.heap.size+1≠w.heap.size by omega)).set .nilIface).cell
  have HB2:Hid (Below w.heap.size w ((W.setCell ⟨w.heap.size,0,none⟩ (.int .i64 v)).setCell ⟨w.heap.size+1,0,none⟩ .nilIface)):= (hB.setCell (p:= ⟨w.heap.size,0,none⟩) (Nat.le_refl _) _).setCell (p:= ⟨w.heap.size+1,0,none⟩) (by show w.heap.size≤w.heap.size+1;omega) _
  have HEE:Hid (brk 0 (wkT ds xs)= (v,none)):=by unfold Hid;rw [←hys];exact hv
  clear hys hv hB
  gi_wp2
  generalize ((W.setCell ⟨w.heap.size,0,none⟩ (.int .i64 v)).setCell ⟨w.heap.size+1,0,none⟩ .nilIface)=W2 at*
  have p0:=cell_kept r0 (grownBy_putObj' W2 D (.deferred none)) (fun r e=>by cases e;exact ⟨_,hK2,rfl⟩)
  have p1:=cell_kept r1 (grownBy_putObj' W2 D (.deferred none)) (fun r e=>by cases e;exact ⟨_,hK2,rfl⟩)
  refine ⟨by simp, .inl ⟨_,_,rfl,run_takeDeferred hK2, ?_⟩⟩
  exact ⟨.tuple #[.int .i64 v, .nilIface],by simp [results,Tryz.results120,go_sem,p0,p1],by rw [HEE.out];rfl,HB2.out.trans (belowK_b (w:=w) (Nat.le_refl _) W2 D _ _ (by omega) hK2 rfl rfl)⟩
 case stop=>
  rintro D c pre W hD hpre ⟨⟨rfl,p,hp,q0,q1⟩,hB⟩ hK
  have hDs:w.heap.size+3≤D:=by simpa using hD
  have r0:=q0.cell
  have r1:=q1.cell
  have HEE:Hid (brk 0 (wkT ds xs)= (0,some p)):=by
   obtain ⟨r,hr2⟩:=hpre
   unfold Hid
   rw [←hr2]
   exact qne pre r 0 0 p hp
  obtain ⟨p1,p2⟩:=p
  simp only [qo8] at r1
  clear hpre hp
  gi_wp2
  have k0:=cell_kept r0 (grownBy_putObj' W D (.deferred none)) (fun r e=>by cases e;exact ⟨_,hK,rfl⟩)
  have k1:=cell_kept r1 (grownBy_putObj' W D (.deferred none)) (fun r e=>by cases e;exact ⟨_,hK,rfl⟩)
  refine ⟨by simp, .inl ⟨_,_,rfl,run_takeDeferred hK, ?_⟩⟩
  exact ⟨.tuple #[.int .i64 0,qo8 (some (p1,p2))],by simp [results,Tryz.results120,go_sem,k0,k1,qo8],by rw [HEE.out],hB.trans (belowK_b (w:=w) (Nat.le_refl _) W D _ _ (by omega) hK rfl rfl)⟩
end Go.Proofs.YthnmlipnoajmkaaGreatDoor

namespace Go.Proofs.YthnmlipnoajmkaaGreatDoor
open Go.RowKit Go.Extern.Stop Go.Stop Go.Extern
set_option maxRecDepth 100000

theorem qrr (t:Value) (w:World):
 Calls Tryz.prog 122 #[.nilIface,t] w fun e w'=>e= .returned (.bool false)∧w'=w:=by
 go_enter Tryz.func122,Tryz.ntmps122
 go_wp2
 go_ret
 exact ⟨rfl,rfl⟩
theorem Tryz.valueOfP (t:Addr) (w:World): (ReflectliteValue.unpack (.iface 164 (.pointer (some t)))).run Tryz.prog w
 = .ok (.agg #[.pointer (some ⟨2,164,none⟩), .pointer (some ⟨w.heap.size,0,none⟩), .int .u64 150]) (w.alloc (.cells #[.pointer (some t)] 164)):=by kernel_rfl
theorem Tryz.typeP (a:Addr) (w:World): (ReflectliteValue.methodAny (ReflectliteValue.valueError "reflectlite.Value.Type" 0) (fun t _ _ _=>ReflectliteType.toType t) #[.agg #[.pointer (some ⟨2,164,none⟩), .pointer (some a), .int .u64 150]]).run Tryz.prog w
 = .ok (.iface 208 (.agg #[.pointer (some ⟨2,164,none⟩)])) w:=by kernel_rfl
theorem Tryz.methodKind (h:Value) (w:World): (Go.method 356 208 (.agg #[h]) "Kind").run Tryz.prog w= .ok (193,h) w:=by kernel_rfl
theorem Tryz.kindP (w:World): ((ReflectliteType.abiMethod fun t=> (fun a:Nat=>Value.int IntKind.u8 (a:Int)) <$> Rtype.kind t) #[.pointer (some ⟨2,164,none⟩)]).run Tryz.prog w= .ok (.int .u8 22) w:=by kernel_rfl
theorem Tryz.kindS (w:World): ((ReflectliteType.abiMethod fun t=> (fun a:Nat=>Value.int IntKind.u8 (a:Int)) <$> Rtype.kind t) #[.pointer (some ⟨2,162,none⟩)]).run Tryz.prog w= .ok (.int .u8 25) w:=by kernel_rfl
theorem rlm (z:Sem Value) (f:TypeId→Addr→Nat→Nat→Sem Value) (v:Value):
 ReflectliteValue.method z f #[v]= (do match ←ReflectliteValue.parts v with |none=>z|some (t,a,fl)=>f t a fl (fl % 32)):=rfl
theorem Tryz.partsP (a:Addr) (w:World): (ReflectliteValue.parts (.agg #[.pointer (some ⟨2,164,none⟩), .pointer (some a), .int .u64 150])).run Tryz.prog w= .ok (some (164,a,150)) w:=by kernel_rfl
theorem Tryz.isNilP (a p:Addr) (W:World) (ha:W.cell? a=some (.pointer (some p))):
 (ReflectliteValue.method (ReflectliteValue.valueError "reflectlite.Value.IsNil" 0) ReflectliteValue.isNil #[.agg #[.pointer (some ⟨2,164,none⟩), .pointer (some a), .int .u64 150]]).run Tryz.prog W= .ok (.bool false) W:=by
 rw [rlm]
 simp only [Sem.run_bind,Tryz.partsP,Result.andThen]
 simp [ReflectliteValue.isNil,loadVar,isAgg,underlying,Tryz.underlying164,ha,Result.andThen]
theorem Tryz.methodElem (h:Value) (w:World): (Go.method 356 208 (.agg #[h]) "Elem").run Tryz.prog w= .ok (205, .agg #[h]) w:=by kernel_rfl
theorem Tryz.methodImplements (h:Value) (w:World): (Go.method 356 208 (.agg #[h]) "Implements").run Tryz.prog w= .ok (206, .agg #[h]) w:=by kernel_rfl
theorem Tryz.methodAssignableTo (h:Value) (w:World): (Go.method 356 208 (.agg #[h]) "AssignableTo").run Tryz.prog w= .ok (203, .agg #[h]) w:=by kernel_rfl
theorem Tryz.elemP (w:World): (ReflectliteType.method ReflectliteType.elem #[.agg #[.pointer (some ⟨2,164,none⟩)]]).run Tryz.prog w= .ok (.iface 208 (.agg #[.pointer (some ⟨2,162,none⟩)])) w:=by kernel_rfl
theorem Tryz.implementsS (w:World): (ReflectliteType.relation "Implements" ReflectliteType.implements_ #[.agg #[.pointer (some ⟨2,162,none⟩)], .iface 208 (.agg #[.pointer (some ⟨2,155,none⟩)])]).run Tryz.prog w= .ok (.bool true) w:=by kernel_rfl
theorem Tryz.typeOfS (v:Value) (w:World): (ReflectliteType.typeOf #[.iface 162 v]).run Tryz.prog w= .ok (.iface 208 (.agg #[.pointer (some ⟨2,162,none⟩)])) w:=by kernel_rfl
theorem Tryz.assignableS (w:World): (ReflectliteType.relation "AssignableTo" ReflectliteType.assignableTo #[.agg #[.pointer (some ⟨2,162,none⟩)], .iface 208 (.agg #[.pointer (some ⟨2,162,none⟩)])]).run Tryz.prog w= .ok (.bool true) w:=by kernel_rfl
theorem Tryz.valueOfS (x c:Int) (w:World): (ReflectliteValue.unpack (.iface 162 (.agg #[.int .i64 x, .int .i64 c]))).run Tryz.prog w
 = .ok (.agg #[.pointer (some ⟨2,162,none⟩), .pointer (some ⟨w.heap.size,0,none⟩), .int .u64 153]) (w.alloc (.cells #[.int .i64 x, .int .i64 c] 162)):=by kernel_rfl
theorem Tryz.elemOfP (w:World): (Rtype.elem? 164).run Tryz.prog w= .ok (some 162) w:=by kernel_rfl
theorem Tryz.mkS (p:Addr) (w:World): (ReflectliteValue.mk 162 p ReflectliteValue.flagAddr).run Tryz.prog w= .ok (.agg #[.pointer (some ⟨2,162,none⟩), .pointer (some p), .int .u64 409]) w:=by kernel_rfl
theorem Tryz.elemV (a p:Addr) (W:World) (ha:W.cell? a=some (.pointer (some p))):
 (ReflectliteValue.method (ReflectliteValue.valueError "reflectlite.Value.Elem" 0) ReflectliteValue.elem #[.agg #[.pointer (some ⟨2,164,none⟩), .pointer (some a), .int .u64 150]]).run Tryz.prog W
   = .ok (.agg #[.pointer (some ⟨2,162,none⟩), .pointer (some p), .int .u64 409]) W:=by
 rw [rlm]
 simp only [Sem.run_bind,Tryz.partsP,Result.andThen]
 simp [ReflectliteValue.elem,loadVar,isAgg,underlying,Tryz.underlying164,ha,Result.andThen,Tryz.elemOfP,Tryz.mkS]
theorem rls (v x:Value):ReflectliteValue.set #[v,x]= (do
 let (some (dst,a,fl),some (src,b,_)):= (←ReflectliteValue.parts v,←ReflectliteValue.parts x)
  |unsupported (.noEntry "extern/(internal/reflectlite.Value).Set.zeroValue")
 if fl/ReflectliteValue.flagAddr % 2==0 then unsupported (.noEntry "extern/(internal/reflectlite.Value).Set.unaddressable")
 let val ←loadVar src b
 if ←Rtype.directlyAssignable dst src then storeVar dst a val
 else if ←Rtype.implements dst src then
  if (←Rtype.kind src)==20 then
   match val with
   | .nilIface=>unsupported (.noEntry "extern/reflectlite: a nil value of one interface type handed on as a value of another")
   |_=>storeVar dst a val
  else storeVar dst a (.iface src val)
 else panicString ("reflectlite.Set: value of type " ++ (←Rtype.spelt src)++ " is not assignable to type " ++ (←Rtype.spelt dst))
 pure (.tuple #[])):=rfl
theorem Tryz.partsSa (a:Addr) (w:World): (ReflectliteValue.parts (.agg #[.pointer (some ⟨2,162,none⟩), .pointer (some a), .int .u64 409])).run Tryz.prog w= .ok (some (162,a,409)) w:=by kernel_rfl
theorem Tryz.partsS (a:Addr) (w:World): (ReflectliteValue.parts (.agg #[.pointer (some ⟨2,162,none⟩), .pointer (some a), .int .u64 153])).run Tryz.prog w= .ok (some (162,a,153)) w:=by kernel_rfl
theorem Tryz.directS (w:World): (Rtype.directlyAssignable 162 162).run Tryz.prog w= .ok true w:=by kernel_rfl
theorem Tryz.infoBreak: (Tryz.prog.info? 162).map (·.size)=some 2:=by kernel_rfl
theorem Tryz.setS (tb b:Nat) (x c:Int) (u0 u1:Value) (W:World) (hb:W.heap[b]?=some (.cells #[.int .i64 x, .int .i64 c] 162 (0,0))) (ht:W.heap[tb]?=some (.cells #[u0,u1] 162 (0,0))):
 (ReflectliteValue.set #[.agg #[.pointer (some ⟨2,162,none⟩), .pointer (some ⟨tb,0,none⟩), .int .u64 409], .agg #[.pointer (some ⟨2,162,none⟩), .pointer (some ⟨b,0,none⟩), .int .u64 153]]).run Tryz.prog W
   = .ok (.tuple #[]) (W.setRow tb #[.int .i64 x, .int .i64 c]):=by
 have hl:=run_loadVar_row (P:=Tryz.prog) W b _ 162 #[.int .i64 x, .int .i64 c] (0,0) _ hb Tryz.underlying162 rfl Tryz.infoBreak
 have hs:=run_storeVar_row (P:=Tryz.prog) W tb _ 162 #[u0,u1] #[.int .i64 x, .int .i64 c] ht Tryz.infoBreak rfl (by simp [Value.oneCell'])
 rw [rls]
 simp only [Sem.run_bind,Tryz.partsSa,Tryz.partsS,Result.andThen]
 simp [ReflectliteValue.flagAddr,hl,Result.andThen,Tryz.directS,hs]
def Gl (w:World):Prop:=w.cell? ⟨0,0,none⟩=some (.iface 208 (.agg #[.pointer (some ⟨2,155,none⟩)]))
theorem Gl.later {w w':World} (h:Gl w) (hb:Below w.heap.size w w'):Gl w':=cell_later hb h
set_option maxHeartbeats 8000000 in
theorem qrs (x c:Int) (tb:Nat) (u0 u1:Value) (w:World) (hg:Gl w) (ht:w.heap[tb]?=some (.cells #[u0,u1] 162 (0,0))):
 Calls Tryz.prog 122 #[.iface 162 (.agg #[.int .i64 x, .int .i64 c]), .iface 164 (.pointer (some ⟨tb,0,none⟩))] w fun ev w'=>ev= .returned (.bool true)∧w'= ((((w.alloc (.cells #[.pointer (some ⟨tb,0,none⟩)] 164)).alloc (.cells #[.pointer (some ⟨2,164,none⟩), .pointer (some ⟨w.heap.size,0,none⟩), .int .u64 150] 184)).alloc (.cells #[.pointer (some ⟨2,164,none⟩), .pointer (some ⟨w.heap.size,0,none⟩), .int .u64 150] 184)).alloc (.cells #[.int .i64 x, .int .i64 c] 162)).setRow tb #[.int .i64 x, .int .i64 c]:=by
 have h6:= @run_callFunc_extern Tryz.prog 144 _ (fun args=>ReflectliteValue.unpack (args.getD 0 (.tuple #[]))) Tryz.func144 (by kernel_rfl) (by kernel_rfl) (by kernel_rfl) (by kernel_rfl)
 have h7:= @run_callFunc_extern Tryz.prog 145 _ (ReflectliteValue.methodAny (ReflectliteValue.valueError "reflectlite.Value.Type" 0) (fun t _ _ _=>ReflectliteType.toType t)) Tryz.func145 (by kernel_rfl) (by kernel_rfl) (by kernel_rfl) (by kernel_rfl)
 have h8:= @run_callFunc_extern Tryz.prog 146 _ (ReflectliteValue.method (ReflectliteValue.valueError "reflectlite.Value.IsNil" 0) ReflectliteValue.isNil) Tryz.func146 (by kernel_rfl) (by kernel_rfl) (by kernel_rfl) (by kernel_rfl)
 have h27:= @run_callFunc_extern Tryz.prog 193 _ (ReflectliteType.abiMethod fun t=>do pure (.int .u8 (←Rtype.kind t))) Tryz.func193 (by kernel_rfl) (by kernel_rfl) (by kernel_rfl) (by kernel_rfl)
 have h37:= @run_callFunc_extern Tryz.prog 205 _ (ReflectliteType.method ReflectliteType.elem) Tryz.func205 (by kernel_rfl) (by kernel_rfl) (by kernel_rfl) (by kernel_rfl)
 have h38:= @run_callFunc_extern Tryz.prog 206 _ (ReflectliteType.relation "Implements" ReflectliteType.implements_) Tryz.func206 (by kernel_rfl) (by kernel_rfl) (by kernel_rfl) (by kernel_rfl)
 have h10:= @run_callFunc_extern Tryz.prog 166 _ ReflectliteType.typeOf Tryz.func166 (by kernel_rfl) (by kernel_rfl) (by kernel_rfl) (by kernel_rfl)
 have h35:= @run_callFunc_extern Tryz.prog 203 _ (ReflectliteType.relation "AssignableTo" ReflectliteType.assignableTo) Tryz.func203 (by kernel_rfl) (by kernel_rfl) (by kernel_rfl) (by kernel_rfl)
 have h11:= @run_callFunc_extern Tryz.prog 167 _ (ReflectliteValue.method (ReflectliteValue.valueError "reflectlite.Value.Elem" 0) ReflectliteValue.elem) Tryz.func167 (by kernel_rfl) (by kernel_rfl) (by kernel_rfl) (by kernel_rfl)
 have h12:= @run_callFunc_extern Tryz.prog 168 _ ReflectliteValue.set Tryz.func168 (by kernel_rfl) (by kernel_rfl) (by kernel_rfl) (by kernel_rfl)
 have tO:=Tryz.typeOfS
 have mA:=Tryz.methodAssignableTo
 have a25:=Tryz.assignableS
 have v25:=Tryz.valueOfS
 have f6:=Tryz.valueOfP
 have f7:=Tryz.typeP
 have mK:=Tryz.methodKind
 have mE:=Tryz.methodElem
 have mI:=Tryz.methodImplements
 have k27:=Tryz.kindP
 have k25:=Tryz.kindS
 have e27:=Tryz.elemP
 have i25:=Tryz.implementsS
 have hg0:w.cell? ⟨0,0,none⟩=some (.iface 208 (.agg #[.pointer (some ⟨2,155,none⟩)])):=hg
 have n8:=Tryz.isNilP ⟨w.heap.size,0,none⟩ ⟨tb,0,none⟩ ((w.alloc (.cells #[.pointer (some ⟨tb,0,none⟩)] 164)).alloc (.cells #[.pointer (some ⟨2,164,none⟩), .pointer (some ⟨w.heap.size,0,none⟩), .int .u64 150] 184)) (by simp)
 have hlt:0<w.heap.size:=World.block_lt_of_cell? _ _ hg0
 have hg2: ((w.alloc (.cells #[.pointer (some ⟨tb,0,none⟩)] 164)).alloc (.cells #[.pointer (some ⟨2,164,none⟩), .pointer (some ⟨w.heap.size,0,none⟩), .int .u64 150] 184)).cell? ⟨0,0,none⟩=some (.iface 208 (.agg #[.pointer (some ⟨2,155,none⟩)])):=cell_later (qam _ _ _) hg0
 have htl:tb<w.heap.size:= (Array.getElem?_eq_some_iff.1 ht).1
 have el:=Tryz.elemV ⟨w.heap.size,0,none⟩ ⟨tb,0,none⟩ (((w.alloc (.cells #[.pointer (some ⟨tb,0,none⟩)] 164)).alloc (.cells #[.pointer (some ⟨2,164,none⟩), .pointer (some ⟨w.heap.size,0,none⟩), .int .u64 150] 184)).alloc (.cells #[.pointer (some ⟨2,164,none⟩), .pointer (some ⟨w.heap.size,0,none⟩), .int .u64 150] 184)) (by rw [World.cell?_alloc_lt _ _ ⟨w.heap.size,0,none⟩ (by simp;omega)];simp)
 have hbx: ((((w.alloc (.cells #[.pointer (some ⟨tb,0,none⟩)] 164)).alloc (.cells #[.pointer (some ⟨2,164,none⟩), .pointer (some ⟨w.heap.size,0,none⟩), .int .u64 150] 184)).alloc (.cells #[.pointer (some ⟨2,164,none⟩), .pointer (some ⟨w.heap.size,0,none⟩), .int .u64 150] 184)).alloc (.cells #[.int .i64 x, .int .i64 c] 162)).heap[w.heap.size+1+1+1]?=some (.cells #[.int .i64 x, .int .i64 c] 162 (0,0)):=by
  have:=World.alloc_heap_new (((w.alloc (.cells #[.pointer (some ⟨tb,0,none⟩)] 164)).alloc (.cells #[.pointer (some ⟨2,164,none⟩), .pointer (some ⟨w.heap.size,0,none⟩), .int .u64 150] 184)).alloc (.cells #[.pointer (some ⟨2,164,none⟩), .pointer (some ⟨w.heap.size,0,none⟩), .int .u64 150] 184)) (.cells #[.int .i64 x, .int .i64 c] 162)
  rw [World.size_alloc,World.size_alloc,World.size_alloc] at this
  exact this
 have hb4:Below w.heap.size w ((((w.alloc (.cells #[.pointer (some ⟨tb,0,none⟩)] 164)).alloc (.cells #[.pointer (some ⟨2,164,none⟩), .pointer (some ⟨w.heap.size,0,none⟩), .int .u64 150] 184)).alloc (.cells #[.pointer (some ⟨2,164,none⟩), .pointer (some ⟨w.heap.size,0,none⟩), .int .u64 150] 184)).alloc (.cells #[.int .i64 x, .int .i64 c] 162)):= (qam _ _ _).trans ((qam _ _ _).mono (by simp;omega))
 have st:=Tryz.setS tb (w.heap.size+1+1+1) x c u0 u1 _ hbx ((hb4.block tb htl).trans ht)
 go_enter Tryz.func122,Tryz.ntmps122
 go_wp2
 refine wp_loop_rounds 1 ?_
 rw [rounds_succ]
 go_wp2
 go_ret
 exact ⟨rfl,rfl⟩
end Go.Proofs.YthnmlipnoajmkaaGreatDoor

namespace Go.Proofs.YthnmlipnoajmkaaGreatDoor
open Go.RowKit
set_option maxRecDepth 100000

abbrev qhK (r:Int×Int):Value:= .agg #[.int .i64 r.1, .int .i64 r.2]
theorem qp5 (w:World) (x c:Int) (hg:Gl w):
 Calls Tryz.prog 122 #[.iface 162 (.agg #[.int .i64 x, .int .i64 c]), .iface 164 (.pointer (some ⟨w.heap.size,0,none⟩))] (w.alloc (.cells #[.int .i64 0, .int .i64 0] 162)) fun ev w'=>ev= .returned (.bool true)∧Below w.heap.size w w'∧w'.cell? ⟨w.heap.size,1,none⟩=some (.int .i64 c):=by
 have h0: (w.alloc (.cells #[.int .i64 0, .int .i64 0] 162)).heap[w.heap.size]?=some (.cells #[.int .i64 0, .int .i64 0] 162 (0,0)):=World.alloc_heap_new w _
 refine (qrs x c w.heap.size _ _ _ (hg.later (qab _ _)) h0).mono ?_
 rintro e w' ⟨rfl,rfl⟩
 have hb1:Below w.heap.size w (w.alloc (.cells #[.int .i64 0, .int .i64 0] 162)):=qab _ _
 generalize (w.alloc (.cells #[.int .i64 0, .int .i64 0] 162))=W at*
 have hlt:w.heap.size<W.heap.size:= (Array.getElem?_eq_some_iff.1 h0).1
 have hb4: ∀o1 o2 o3 o4:Obj,Below W.heap.size W ((((W.alloc o1).alloc o2).alloc o3).alloc o4):=fun o1 o2 o3 o4=> (qam _ _ _).trans ((qam _ _ _).mono (by simp;omega))
 refine ⟨rfl,below_setRow (hb1.trans ((hb4 _ _ _ _).mono hb1.size)) (Nat.le_refl _) _, ?_⟩
 have h4:= ((hb4 (.cells #[.pointer (some ⟨w.heap.size,0,none⟩)] 164) (.cells #[.pointer (some ⟨2,164,none⟩), .pointer (some ⟨W.heap.size,0,none⟩), .int .u64 150] 184) (.cells #[.pointer (some ⟨2,164,none⟩), .pointer (some ⟨W.heap.size,0,none⟩), .int .u64 150] 184) (.cells #[.int .i64 x, .int .i64 c] 162)).block w.heap.size hlt).trans h0
 rw [cell_setRow_same _ _ _ _ _ _ _ h4];rfl
theorem qni (w:World) (t:TypeId):qaa (w.alloc (.cells #[.int .i64 0, .int .i64 0] t)) w.heap.size 2 (fun _=> .int .i64 0):=
 ⟨_,t,World.alloc_heap_new w _,by simp,fun i hi=>by
   match i,hi with
   |0,_=>rfl
   |1,_=>rfl⟩
set_option maxHeartbeats 6400000 in
theorem qhL (w:World) (aL:Option Addr) (nL cL:Nat) (vD:Value) (aD:Option Addr) (nD cD:Nat) (hvD:vD= .slice aD nD cD) (aN:Option Addr) (mN cN:Nat) (xs:List (List UInt8)) (hmN:xs.length=mN) (hmx:mN≤1048577) (ds:List ID) (hdn:ds.length=nL) (h10:nL≤10) (h0L:0<nL) (hr:qa8 ds) (h6: ∀i:Nat,(ds[i]?.getD id0).2.2.2.2.length≤6) (hgl:Gl w) (hat:AtT w aN mN xs) (hai:AtI w aL nL ds):
 Calls Tryz.prog 93 #[.agg #[.slice aL nL cL,vD], .slice aN mN cN] w fun e w'=>e= .returned (qhK (wkR ds 0 xs))∧Below w.heap.size w w':=by
 subst hvD
 have HR:Hid (wkR ds 0 xs=qr8 (brk 0 (wkT ds xs))):=by
  unfold Hid
  rw [←qnf]
  exact (qo7 hr xs 0 (by omega)).symm
 have HB0:Hid (Below w.heap.size w ((w.alloc (.cells #[.slice aL nL cL, .slice aD nD cD] 31)).alloc (.cells #[.int .i64 0, .int .i64 0] 86))):=qam _ _ _
 have HX:Hid (Bx ((w.alloc (.cells #[.slice aL nL cL, .slice aD nD cD] 31)).alloc (.cells #[.int .i64 0, .int .i64 0] 86)) w.heap.size [.slice aL nL cL, .slice aD nD cD]):= (Bx.new w [.slice aL nL cL, .slice aD nD cD] _).later (qab _ _)
 have HRS:Hid (qaa ((w.alloc (.cells #[.slice aL nL cL, .slice aD nD cD] 31)).alloc (.cells #[.int .i64 0, .int .i64 0] 86)) (w.heap.size+1) 2 (fun _=> .int .i64 0)):=by
  have p2:=qni (w.alloc (.cells #[.slice aL nL cL, .slice aD nD cD] 31)) 86
  rw [World.size_alloc] at p2
  exact p2
 have HEN:Hid (∀W,Below w.heap.size w W→Calls Tryz.prog 120 #[.func (.func 143) #[] #[.pointer (some ⟨W.heap.size+1,0,none⟩), .pointer (some ⟨W.heap.size,0,none⟩)]] ((W.alloc (.cells #[.slice aL nL cL] 29)).alloc (.cells #[.slice aN mN cN] 28)) fun e w'=>e= .returned (.tuple #[.int .i64 (brk 0 (wkT ds xs)).1,qo8 (brk 0 (wkT ds xs)).2])∧Below W.heap.size W w'):=fun W hW=>by
  have hb2:Below W.heap.size W ((W.alloc (.cells #[.slice aL nL cL] 29)).alloc (.cells #[.slice aN mN cN] 28)):=qam _ _ _
  have c0: ((W.alloc (.cells #[.slice aL nL cL] 29)).alloc (.cells #[.slice aN mN cN] 28)).cell? ⟨W.heap.size,0,none⟩=some (.slice aL nL cL):=cell_later (qab _ _) (by rw [qar];rfl)
  have c1: ((W.alloc (.cells #[.slice aL nL cL] 29)).alloc (.cells #[.slice aN mN cN] 28)).cell? ⟨W.heap.size+1,0,none⟩=some (.slice aN mN cN):=by
   have:=qar (W.alloc (.cells #[.slice aL nL cL] 29)) #[.slice aN mN cN] 28 0
   rw [World.size_alloc] at this
   rw [this];rfl
  refine (qnh _ (W.heap.size+1) W.heap.size aN mN cN xs hmN hmx aL nL cL ds hdn h10 h0L hr h6 (by simp) (by simp;omega) c1 c0 ((hat.later hW).later hb2) ((hai.later hW).later hb2)).mono ?_
  rintro e w' ⟨rfl,hb⟩
  exact ⟨rfl,hb2.trans (hb.mono hb2.size)⟩
 rw [HR.out]
 have HGL:Hid (Gl w):=hgl
 clear hat hai hr h6 hgl HR
 obtain ⟨⟨v,o⟩,hbr⟩: ∃q,brk 0 (wkT ds xs)=q:= ⟨_,rfl⟩
 rw [hbr] at HEN ⊢
 clear hbr
 cases o with
 | none=>
   dsimp only [qo8,qr8] at HEN ⊢
   go_enter Tryz.func93,Tryz.ntmps93
   have x0:=HX.out 0 _ rfl
   have x1:=HX.out 1 _ rfl
   go_wp2_with fail
   generalize ((w.alloc (.cells #[.slice aL nL cL, .slice aD nD cD] 31)).alloc (.cells #[.int .i64 0, .int .i64 0] 86))=W0 at*
   refine (qkT W0 aL nL cL aN mN cN).mono ?_
   rintro e w1 ⟨rfl,rfl⟩
   go_wp2_with fail
   refine (HEN.out W0 HB0.out).mono ?_
   rintro e w2 ⟨rfl,hb2⟩
   have hrr:=HRS.out.later hb2
   have hz2:w.heap.size+1<w2.heap.size:=hrr.lt
   have t0:w2.cell? ⟨w.heap.size+1,0,none⟩=some (.int .i64 0):=hrr.cell (i:=0) (by omega)
   have t1:w2.cell? ⟨w.heap.size+1,1,none⟩=some (.int .i64 0):=hrr.cell (i:=1) (by omega)
   have s0:=hrr.frozen 0
   have s1:=hrr.frozen 1
   have HB2:Hid (Below w.heap.size w w2):=HB0.out.trans (hb2.mono HB0.out.size)
   clear hb2 hrr x0 x1
   go_wp2_with fail
   refine (qrr _ _).mono ?_
   rintro e w3 ⟨rfl,rfl⟩
   go_wp2
   exact bodyPost_ret (v:=qhK (0,v)) (by simp [results,Tryz.results93,go_sem,t0,t1,hz2]) rfl ⟨rfl,((HB2.out.setCell (p:= ⟨w.heap.size+1,0,none⟩) (by show w.heap.size≤w.heap.size+1;omega) _).setCell (p:= ⟨w.heap.size+1,1,none⟩) (by show w.heap.size≤w.heap.size+1;omega) _).alloc (by have:=HB2.out.size;simpa [World.setCell] using this) _⟩
 | some p=>
   obtain ⟨p1,p2⟩:=p
   dsimp only [qo8,qr8] at HEN ⊢
   go_enter Tryz.func93,Tryz.ntmps93
   have x0:=HX.out 0 _ rfl
   have x1:=HX.out 1 _ rfl
   go_wp2_with fail
   generalize ((w.alloc (.cells #[.slice aL nL cL, .slice aD nD cD] 31)).alloc (.cells #[.int .i64 0, .int .i64 0] 86))=W0 at*
   refine (qkT W0 aL nL cL aN mN cN).mono ?_
   rintro e w1 ⟨rfl,rfl⟩
   go_wp2_with fail
   refine (HEN.out W0 HB0.out).mono ?_
   rintro e w2 ⟨rfl,hb2⟩
   have HR2:Hid (qaa w2 (w.heap.size+1) 2 (fun _=> .int .i64 0)):=HRS.out.later hb2
   have HB2:Hid (Below w.heap.size w w2):=HB0.out.trans (hb2.mono HB0.out.size)
   clear hb2 x0 x1
   go_wp2_with fail
   refine (qp5 w2 p1 p2 (HGL.out.later HB2.out)).mono ?_
   rintro e w3 ⟨rfl,hb3,hc3⟩
   have hrr:=HR2.out.later hb3
   have t0:w3.cell? ⟨w.heap.size+1,0,none⟩=some (.int .i64 0):=hrr.cell (i:=0) (by omega)
   have t1:w3.cell? ⟨w.heap.size+1,1,none⟩=some (.int .i64 0):=hrr.cell (i:=1) (by omega)
   have s0:=hrr.frozen 0
   have s1:=hrr.frozen 1
   have HB3:Hid (Below w.heap.size w w3):=HB2.out.trans (hb3.mono HB2.out.size)
   clear hb3 hrr
   go_wp2
   exact bodyPost_ret (v:=qhK (p2,0)) (by simp [results,Tryz.results93,go_sem,t0,t1]) rfl ⟨rfl,(HB3.out.setCell (p:= ⟨w.heap.size+1,0,none⟩) (by show w.heap.size≤w.heap.size+1;omega) _).setCell (p:= ⟨w.heap.size+1,1,none⟩) (by show w.heap.size≤w.heap.size+1;omega) _⟩
end Go.Proofs.YthnmlipnoajmkaaGreatDoor

namespace Go.Proofs.YthnmlipnoajmkaaGreatDoor
open Go.RowKit
set_option maxRecDepth 100000

def TxF (w:World) (B:Nat) (a:Option Addr) (n c:Nat) (xs:List (List UInt8)):Prop:=AtT w a n xs∧xs.length=n∧n≤c∧ ∀b off,a=some ⟨b,off,none⟩→0<n→B≤b
theorem TxF.of_row {w:World} {B:Nat} {a:Option Addr} {n c:Nat} {xs:List (List UInt8)} (h:w.ownsRow B 9 1 (.slice a n c) xs.length (xs.map qdf)):TxF w B a n c xs:=by
 have h1:=qbr h
 have h2:n≤c:=by
  have h3:=h
  rw [←h1.1] at h3
  exact qcg h3
 refine ⟨h1.2,h1.1.symm,h2,fun b off e hn=> ?_⟩
 obtain ⟨_,h| ⟨g,cap,cur,e2,hb,_⟩⟩:=h
 · simp only [Value.slice.injEq] at h;omega
 · simp only [Value.slice.injEq] at e2
   rw [e2.1] at e
   simp only [Option.some.injEq,Addr.mk.injEq] at e
   omega
theorem TxF.nil (w:World) (B:Nat):TxF w B none 0 0 []:= ⟨fun k hk=>by omega,rfl,Nat.le_refl _,fun _ _ e=>by cases e⟩
theorem TxF.set {w:World} {B:Nat} {a:Option Addr} {n c:Nat} {xs:List (List UInt8)} (h:TxF w B a n c xs) {g:Nat} (hg:g<B) (o:Nat) (v:Value):TxF (w.setCell ⟨g,o,none⟩ v) B a n c xs:=by
 refine ⟨fun k hk=> ?_,h.2.1,h.2.2.1,h.2.2.2⟩
 obtain ⟨b,off,e,hc⟩:=h.1 k hk
 have:=h.2.2.2 b off e (by omega)
 exact ⟨b,off,e,(World.cell?_of_block (w:=w) (Below.heap_setCell _ _ _ _ (show b≠g by omega))).trans hc⟩
def qgT (d:FD) (p:List UInt8):Int:=if fsF d=0 then qan p else fsF d
def qr9 (d:FD) (p:List UInt8):List (List UInt8):=if fsF d=0 then qah p else []
theorem qtb (w:World) (t:TypeId):qaa (w.alloc (.cells #[.int .i64 0, .slice none 0 0] t)) w.heap.size 2 (fun i=>if i=0 then .int .i64 0 else .slice none 0 0):=
 ⟨_,t,World.alloc_heap_new w _,by simp,fun i hi=>by
   match i,hi with
   |0,_=>rfl
   |1,_=>rfl⟩
theorem qiS (w:World) (p:List UInt8) (hp:p.length≤1048576):
 Calls Tryz.prog 119 #[.string (mkB p)] w fun e w'=> ∃a n c,e= .returned (.agg #[.int .i64 (qan p), .slice a n c])∧Below w.heap.size w w'∧TxF w' w.heap.size a n c (qah p):=by
 by_cases h:qan p=0
 · refine (qbS w p hp h).mono ?_
   rintro e w' ⟨a,c,rfl,hb,hr⟩
   have hs:qah p=qaf p:=if_pos h
   rw [hs,h]
   exact ⟨a,_,c,rfl,hb,TxF.of_row hr⟩
 · refine (qb4 w p hp h).mono ?_
   rintro e w' ⟨rfl,hb⟩
   have hs:qah p= []:=if_neg h
   rw [hs]
   exact ⟨none,0,0,rfl,hb,TxF.nil _ _⟩
set_option maxHeartbeats 3200000 in
theorem qf5 (w:World) (a1:Option Addr) (n1 c1:Nat) (a2:Option Addr) (n2 c2:Nat) (d:FD) (p:List UInt8) (h:FsR w (.slice a1 n1 c1) (.slice a2 n2 c2) d) (hs:sizeFs d≤1048576) (hp:p.length≤1048576):
 Calls Tryz.prog 92 #[.agg #[.slice a1 n1 c1, .slice a2 n2 c2], .string (mkB p)] w fun e w'=> ∃a n c,e= .returned (.agg #[.int .i64 (qgT d p), .slice a n c])∧Below w.heap.size w w'∧TxF w' w.heap.size a n c (qr9 d p):=by
 have HB0:Hid (Below w.heap.size w ((w.alloc (.cells #[.slice a1 n1 c1, .slice a2 n2 c2] 31)).alloc (.cells #[.int .i64 0, .slice none 0 0] 126))):=qam _ _ _
 have HX:Hid (Bx ((w.alloc (.cells #[.slice a1 n1 c1, .slice a2 n2 c2] 31)).alloc (.cells #[.int .i64 0, .slice none 0 0] 126)) w.heap.size [.slice a1 n1 c1, .slice a2 n2 c2]):= (Bx.new w [.slice a1 n1 c1, .slice a2 n2 c2] _).later (qab _ _)
 have HRS:Hid (qaa ((w.alloc (.cells #[.slice a1 n1 c1, .slice a2 n2 c2] 31)).alloc (.cells #[.int .i64 0, .slice none 0 0] 126)) (w.heap.size+1) 2 (fun i=>if i=0 then .int .i64 0 else .slice none 0 0)):=by
  have p2:=qtb (w.alloc (.cells #[.slice a1 n1 c1, .slice a2 n2 c2] 31)) 126
  rw [World.size_alloc] at p2
  exact p2
 have HF:Hid (∀W,Below w.heap.size w W→Calls Tryz.prog 19 #[.agg #[.slice a1 n1 c1, .slice a2 n2 c2]] W fun e w'=>e= .returned (.int .i64 (fsF d))∧Below W.heap.size W w'):=fun W hW=>qkh W _ _ _ _ _ _ d (h.later hW) hs
 have HSP:Hid (∀W,Calls Tryz.prog 119 #[.string (mkB p)] W fun e w'=> ∃a n c,e= .returned (.agg #[.int .i64 (qan p), .slice a n c])∧Below W.heap.size W w'∧TxF w' W.heap.size a n c (qah p)):=fun W=>qiS W p hp
 have HC:Hid (qgT d p=if fsF d=0 then qan p else fsF d):=rfl
 have HL:Hid (qr9 d p=if fsF d=0 then qah p else []):=rfl
 rw [HC.out,HL.out]
 clear h hs hp HC HL
 generalize mkB p=s at*
 generalize qan p=pc at*
 generalize qah p=xs at*
 generalize fsF d=r at*
 have hz0: ((w.alloc (.cells #[.slice a1 n1 c1, .slice a2 n2 c2] 31)).alloc (.cells #[.int .i64 0, .slice none 0 0] 126)).heap.size=w.heap.size+2:=by simp
 by_cases hf:r=0
 rotate_left
 · rw [if_neg hf,if_neg hf]
   have hb: (r !=0)=true:=by simpa using hf
   clear hf
   have x0:=HX.out 0 _ rfl
   have x1:=HX.out 1 _ rfl
   go_enter Tryz.func92,Tryz.ntmps92
   go_wp2_with fail
   generalize ((w.alloc (.cells #[.slice a1 n1 c1, .slice a2 n2 c2] 31)).alloc (.cells #[.int .i64 0, .slice none 0 0] 126))=W0 at*
   refine (HF.out _ HB0.out).mono ?_
   rintro e w1 ⟨rfl,hb1⟩
   have HB1:Hid (Below w.heap.size w w1):=HB0.out.trans (hb1.mono HB0.out.size)
   have hrr:=HRS.out.later hb1
   have t0:w1.cell? ⟨w.heap.size+1,0,none⟩=some (.int .i64 0):=hrr.cell (i:=0) (by omega)
   have t1:w1.cell? ⟨w.heap.size+1,1,none⟩=some (.slice none 0 0):=hrr.cell (i:=1) (by omega)
   have s0:=hrr.frozen 0
   have s1:=hrr.frozen 1
   clear hb1 hrr x0 x1
   go_wp2
   exact bodyPost_ret (v:= .agg #[.int .i64 r, .slice none 0 0]) (by simp [results,Tryz.results92,go_sem,t0,t1]) rfl ⟨none,0,0,rfl,(HB1.out.setCell (p:= ⟨w.heap.size+1,0,none⟩) (by show w.heap.size≤w.heap.size+1;omega) _).setCell (p:= ⟨w.heap.size+1,1,none⟩) (by show w.heap.size≤w.heap.size+1;omega) _,TxF.nil _ _⟩
 · rw [if_pos hf,if_pos hf]
   have hb: (r !=0)=false:=by simpa using hf
   clear hf
   have x0:=HX.out 0 _ rfl
   have x1:=HX.out 1 _ rfl
   go_enter Tryz.func92,Tryz.ntmps92
   go_wp2_with fail
   generalize ((w.alloc (.cells #[.slice a1 n1 c1, .slice a2 n2 c2] 31)).alloc (.cells #[.int .i64 0, .slice none 0 0] 126))=W0 at*
   refine (HF.out _ HB0.out).mono ?_
   rintro e w1 ⟨rfl,hb1⟩
   have HB1:Hid (Below w.heap.size w w1):=HB0.out.trans (hb1.mono HB0.out.size)
   have HR1:Hid (qaa w1 (w.heap.size+1) 2 (fun i=>if i=0 then .int .i64 0 else .slice none 0 0)):=HRS.out.later hb1
   have hs1:w.heap.size+2≤w1.heap.size:=by have:=hb1.size;omega
   clear hb1 x0 x1
   go_wp2_with fail
   refine (HSP.out _).mono ?_
   rintro e w2 ⟨a,n,c,rfl,hb2,htx⟩
   have HB2:Hid (Below w.heap.size w w2):=HB1.out.trans (hb2.mono HB1.out.size)
   have hrr:=HR1.out.later hb2
   have t0:w2.cell? ⟨w.heap.size+1,0,none⟩=some (.int .i64 0):=hrr.cell (i:=0) (by omega)
   have t1:w2.cell? ⟨w.heap.size+1,1,none⟩=some (.slice none 0 0):=hrr.cell (i:=1) (by omega)
   have s0:=hrr.frozen 0
   have s1:=hrr.frozen 1
   have HTX:Hid (TxF ((w2.setCell ⟨w.heap.size+1,0,none⟩ (.int .i64 pc)).setCell ⟨w.heap.size+1,1,none⟩ (.slice a n c)) w.heap.size a n c xs):=by
    have h2:= (htx.set (g:=w.heap.size+1) (by omega) 0 (.int .i64 pc)).set (g:=w.heap.size+1) (by omega) 1 (.slice a n c)
    exact ⟨h2.1,h2.2.1,h2.2.2.1,fun b off e hn=>by have:=h2.2.2.2 b off e hn;omega⟩
   clear hb2 hrr htx
   go_wp2
   exact bodyPost_ret (v:= .agg #[.int .i64 pc, .slice a n c]) (by simp [results,Tryz.results92,go_sem,t0,t1]) rfl ⟨a,n,c,rfl,(HB2.out.setCell (p:= ⟨w.heap.size+1,0,none⟩) (by show w.heap.size≤w.heap.size+1;omega) _).setCell (p:= ⟨w.heap.size+1,1,none⟩) (by show w.heap.size≤w.heap.size+1;omega) _,HTX.out⟩
def qf6 (d:FD) (s:ByteArray):Int×Int:=if qgT d s.data.toList=0 then wkR d.1 0 (qah s.data.toList) else (qgT d s.data.toList,0)
theorem TxF.later {w w':World} {B:Nat} {a:Option Addr} {n c:Nat} {xs:List (List UInt8)} (h:TxF w B a n c xs) (hb:Below w.heap.size w w'):TxF w' B a n c xs:= ⟨h.1.later hb,h.2⟩
theorem qhM {d:FD} (h:FsOk d) (i:Nat): (d.1[i]?.getD id0).2.2.2.2.length≤6:=by have:=h.six i;rw [qdH] at this;exact this
theorem qo9 {d:FD} {p:List UInt8} (h:qgT d p=0):fsF d=0∧qan p=0:=by
 unfold qgT at h
 by_cases hf:fsF d=0
 · rw [if_pos hf] at h;exact ⟨hf,h⟩
 · rw [if_neg hf] at h;exact absurd h hf
theorem qlK (w:World) (a1:Option Addr) (n1 c1:Nat) (a2:Option Addr) (n2 c2:Nat) (d:FD) (h:FsR w (.slice a1 n1 c1) (.slice a2 n2 c2) d) (hok:FsOk d) (hgl:Gl w) (aN:Option Addr) (mN cN:Nat) (xs:List (List UInt8)) (hmN:xs.length=mN) (hmx:mN≤1048577) (hat:AtT w aN mN xs):
 Calls Tryz.prog 93 #[.agg #[.slice a1 n1 c1, .slice a2 n2 c2], .slice aN mN cN] w fun e w'=>e= .returned (qhK (wkR d.1 0 xs))∧Below w.heap.size w w':=by
 obtain ⟨_,_,e1,-,hAt⟩:=h.1.open'
 simp only [Value.slice.injEq] at e1
 obtain ⟨rfl,rfl,rfl⟩:=e1
 exact qhL w a1 _ c1 _ a2 n2 c2 rfl aN mN cN xs hmN hmx d.1 rfl hok.ten hok.pos hok.rng (qhM hok) hgl hat hAt
end Go.Proofs.YthnmlipnoajmkaaGreatDoor

namespace Go.Proofs.YthnmlipnoajmkaaGreatDoor
open Go.RowKit
set_option maxRecDepth 100000

theorem WdY.down {w:World} {n₀ m₀:Nat} {v:Value} {zs:List UInt8} (h:WdY w n₀ v zs) (hm:m₀≤n₀):WdY w m₀ v zs:=by
 obtain ⟨h1,h2⟩:=h
 refine ⟨h1, ?_⟩
 rcases h2 with h2| ⟨g,cap,cur,h3,h4,h5⟩
 · exact Or.inl h2
 · exact Or.inr ⟨g,cap,cur,h3,Nat.le_trans hm h4,h5⟩
end Go.Proofs.YthnmlipnoajmkaaGreatDoor

namespace Go.Proofs.YthnmlipnoajmkaaGreatDoor
open Go.RowKit
set_option maxRecDepth 100000

theorem qsa (d:FD) (x:Int): (qje d x).2.length≤32:=by
 unfold qje
 by_cases hf:fsF d=0
 · rw [if_pos hf]
   by_cases hp:0≤x∧x< (d.1.length:Int)
   · rw [if_pos hp]
     by_cases h2:qae d.1 x.toNat=2
     · rw [if_pos h2];simp
     · rw [if_neg h2]
       by_cases h0:qae d.1 x.toNat=0
       · rw [if_pos h0];simp
       · rw [if_neg h0]
         obtain ⟨h1,_,h3,_,_⟩:=qc5 (qhu hf)
         have hsz:=qb9 (qaM h1 x.toNat (by omega))
         have:=qht d (d.1[x.toNat]?.getD id0).2.2.2.1 (qdE h3) _ (Nat.le_refl _)
         show (qos d x.toNat).length≤32
         unfold qos
         omega
   · rw [if_neg hp];simp
 · rw [if_neg hf];simp
end Go.Proofs.YthnmlipnoajmkaaGreatDoor
