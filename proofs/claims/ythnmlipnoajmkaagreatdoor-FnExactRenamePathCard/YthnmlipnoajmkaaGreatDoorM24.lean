/- ReadFile,the specification's and the program's. The program's file at work:settled,and which bytes stand in a block. The program's file at work:written. The program's DropName:a file that an entry less leads to. The program's DropName. The specification's DropName:an entry taken out of a directory. -/
import Derived.Test.YthnmlipnoajmkaaGreatDoorM15
import Derived.Test.YthnmlipnoajmkaaGreatDoorM19
import Derived.Test.YthnmlipnoajmkaaGreatDoorM10
import Derived.Deep.RegionLaw
import Derived.Test.YthnmlipnoajmkaaGreatDoorM21
import Derived.Test.YthnmlipnoajmkaaGreatDoorM22
import Derived.Test.YthnmlipnoajmkaaGreatDoorM17
import Derived.Test.YthnmlipnoajmkaaGreatDoorM18
import Derived.Test.YthnmlipnoajmkaaGreatDoorM23
namespace Go.Proofs.YthnmlipnoajmkaaGreatDoor
open Go.RowKit
set_option maxRecDepth 100000

theorem qsK (a:Option Addr) (n c lo hi:Nat) (h1:lo≤hi) (h2:hi≤n) (h3:n≤c):
 ∃A C,(∀W:World,(Instr.sliceAt 27 (.slice a n c) (some (.int .i64 (lo:Int))) (some (.int .i64 (hi:Int))) none).run Tryz.prog W= .ok (.slice A (hi-lo) C) W)∧ ∀ (W:World) (zs:List UInt8),zs.length=n→Byt W (.slice a n c) zs→Byt W (.slice A (hi-lo) C) ((zs.drop lo).take (hi-lo)):=by
 obtain ⟨i,hi0,_,hi2,_⟩:=Tryz.infoByte'
 refine ⟨if c-lo=0 then a else a.map (·.add (lo*1)),c-lo,fun W=> ?_,fun W zs hz h=> ?_⟩
 · have e2:hi≤c:=by omega
   simp [Instr.sliceAt,Instr.slice,Instr.sliceBounds,Instr.sliceBound,asIntOf,run_underlying Tryz.underlying27,sizeOf,typeInfo,hi0,hi2,e2,h1]
   by_cases hcl:c=lo
   · rw [if_pos hcl,if_pos (by omega)]
   · rw [if_neg hcl,if_neg (by omega)]
 · have hl: ((zs.drop lo).take (hi-lo)).length=hi-lo:=by rw [List.length_take,List.length_drop];omega
   obtain ⟨a',cap,e,hm,hat⟩:=h
   simp only [Value.slice.injEq] at e
   obtain ⟨rfl,_,rfl⟩:=e
   refine ⟨_,_,by rw [hl],⟨by rw [hl];have:=hm.1;omega,by rw [hl];omega⟩,fun k hk=> ?_⟩
   rw [hl] at hk
   obtain ⟨b,off,rfl,hc⟩:=hat (lo+k) (by omega)
   rw [if_neg (by omega)]
   refine ⟨b,off+lo,by simp [Addr.add], ?_⟩
   rw [List.getElem?_take,if_pos hk,List.getElem?_drop]
   rw [Nat.add_assoc]
   exact hc
def qsY (a:Option Addr) (c lo:Nat):Option Addr:=if c=lo then a else Option.map (fun x=>x.add lo) a
theorem qtg {W:World} {a:Option Addr} {n c lo hi:Nat} (h2:hi≤n) (h3:n≤c) {zs:List UInt8} (hz:zs.length=n) (h:Byt W (.slice a n c) zs):Byt W (.slice (qsY a c lo) (hi-lo) (c-lo)) ((zs.drop lo).take (hi-lo)):=by
 have hl: ((zs.drop lo).take (hi-lo)).length=hi-lo:=by rw [List.length_take,List.length_drop];omega
 obtain ⟨a',cap,e,hm,hat⟩:=h
 simp only [Value.slice.injEq] at e
 obtain ⟨rfl,_,rfl⟩:=e
 refine ⟨_,_,by rw [hl],⟨by rw [hl];have:=hm.1;omega,by rw [hl];omega⟩,fun k hk=> ?_⟩
 rw [hl] at hk
 obtain ⟨b,off,rfl,hc⟩:=hat (lo+k) (by omega)
 unfold qsY
 rw [if_neg (by omega)]
 refine ⟨b,off+lo,by simp [Addr.add], ?_⟩
 rw [List.getElem?_take,if_pos hk,List.getElem?_drop,Nat.add_assoc]
 exact hc
section
variable {P:Program} {w:World}
theorem ql3 {ops:Array Oper} {rest:List Oper} {o:Oper} {a:Act} {Q:Exit→Act→World→Prop} (hgd:o.guard=none) (t:TypeId) (x lo hi:Operand) (ho:o.op= .slice t x (some lo) (some hi) none) (v vl vh:Value) (hx:a.eval x=v) (hl:a.eval lo=vl) (hh:a.eval hi=vh) (v':Value)
 (hr: (Instr.sliceAt t v (some vl) (some vh) none).run P w= .ok v' w) (h:wpList P ops Q rest (a.put o.dst v') w):wpList P ops Q (o::rest) a w:=by
 refine wpList_plain hgd fun K hK=> ?_
 unfold Oper.wp execOp
 simp only [ho,Sem.run_bind,Sem.run_pure,Result.andThen_ok,Option.map_some,Option.map_none,hx,hl,hh,hr]
 exact hK _ _ h
theorem qnR {ops:Array Oper} {o:Oper} {a:Act} {K:Act→World→Prop} {Q:Exit→Act→World→Prop} {E:Prop} (hgd:o.guard=none) (t:TypeId) (x lo hi:Operand) (ho:o.op= .slice t x (some lo) (some hi) none) (v vl vh:Value) (hx:a.eval x=v) (hl:a.eval lo=vl) (hh:a.eval hi=vh) (v':Value)
 (hr: (Instr.sliceAt t v (some vl) (some vh) none).run P w= .ok v' w) (h:K (a.put o.dst v') w):if Region.wanted o (yielded ops a.tmps)=true then Oper.wp P o a w K Q else E:=by
 have hw:Region.wanted o (yielded ops a.tmps)=true:=by simp [Region.wanted,hgd]
 rw [if_pos hw]
 unfold Oper.wp execOp
 simp only [ho,Sem.run_bind,Sem.run_pure,Result.andThen_ok,Option.map_some,Option.map_none,hx,hl,hh,hr]
 exact h
end
theorem qqa (zs:List UInt8) (p n:Nat): (zs.drop (min p zs.length)).take (min zs.length (min p zs.length+n)-min p zs.length)=qrX zs p n:=by
 unfold qrX
 apply List.ext_getElem?
 intro i
 rw [List.getElem?_take,List.getElem?_take,List.getElem?_drop,List.getElem?_drop]
 by_cases h:p≤zs.length
 · rw [Nat.min_eq_left h]
   by_cases hi:i<n
   · rw [if_pos hi]
     by_cases h2:p+i<zs.length
     · rw [if_pos (by omega)]
     · rw [List.getElem?_eq_none (by omega)];split<;>rfl
   · rw [if_neg hi,if_neg (by omega)]
 · rw [List.getElem?_eq_none (show zs.length≤p+i by omega),List.getElem?_eq_none (show zs.length≤min p zs.length+i by omega)]
   split<;>split<;>rfl
theorem qsg (zs:List UInt8) (p n:Nat): (zs.drop (min p zs.length)).take (min (p+n) zs.length-min p zs.length)=qrX zs p n:=by
 rw [←qqa]
 by_cases h:p≤zs.length
 · rw [Nat.min_eq_left h,Nat.min_comm (p+n)]
 · have e1:min p zs.length=zs.length:=by omega
   rw [e1,List.drop_eq_nil_of_le (Nat.le_refl _)]
   simp
theorem qrC (w:World) (x y:Int) (r:Nat) (h:min x y= (r:Int)):Calls Tryz.prog 78 #[.int .i64 x, .int .i64 y] w fun e w'=>e= .returned (.int .i64 (r:Int))∧w'=w:=by
 by_cases hl:x<y
 · have E:Hid (x= (r:Int)):=by unfold Hid;omega
   clear h
   go_enter Tryz.func78,Tryz.ntmps78
   go_wp2
   go_ret
   exact ⟨qad E.out,rfl⟩
 · have E:Hid (y= (r:Int)):=by unfold Hid;omega
   clear h
   go_enter Tryz.func78,Tryz.ntmps78
   go_wp2
   go_ret
   exact ⟨qad E.out,rfl⟩
end Go.Proofs.YthnmlipnoajmkaaGreatDoor

namespace Go.Proofs.YthnmlipnoajmkaaGreatDoor
open Go.RowKit
set_option maxRecDepth 100000

theorem FileS.put {w0 w W:World} {bf bI n cI bD cD:Nat} {d:FD} {zss:List (List UInt8)} {j:Nat} {x:ID} {aB:Option Addr} {cB:Nat} {aE:Option Addr} {cE:Nat} (h:FileS w0 w bf bI n cI bD cD d j x aB cB aE cE) (hc:Chg (fun c=>c=bD) w W) (hf:FsS W bI n cI bD 20 cD (d.1,zss) (fun c=>w0.heap.size≤c∧c≠bf)):FileS w0 W bf bI n cI bD cD (d.1,zss) j x aB cB aE cE:=by
 have hne:=h.fs.ne
 refine ⟨h.below.trans (hc.below h.below.size fun b hb=>hb▸hne.2.2.1.1),h.new,h.box.block (hc.block bf h.box.lt fun e=>hne.2.2.1.2 e.symm),hf,fun k hk=> ?_⟩
 obtain ⟨b1,e1,e2,e3,e4⟩:=h.blk k hk
 exact ⟨b1,e1,e2,Nat.lt_of_lt_of_le e3 hc.size,hc.cellOf e4 e2⟩
theorem FileS.settle {w0 w:World} {bf bI n cI bD cD:Nat} {d:FD} {j:Nat} {x:ID} {aB:Option Addr} {cB:Nat} {aE:Option Addr} {cE:Nat} (h:FileS w0 w bf bI n cI bD cD d j x aB cB aE cE) (aP:Option Addr) (cP:Nat) (bs:List Int) (s:Int) (F:Nat→Prop) (hp:qak w0 (.slice aP bs.length cP) bs F):
 FileS w0 ((w.setCell ⟨bf,3,none⟩ (.slice aP bs.length cP)).setCell ⟨bf,2,none⟩ (.int .i64 s)) bf bI n cI bD cD d j (x.1,x.2.1,s,bs,x.2.2.2.2) aP cP aE cE:=by
 have hne:=h.fs.ne
 have h0:Chg (fun c=>c=bf) w w:=Chg.refl _ _
 have h1:=Chg.set (F:=fun c=>c=bf) h0 rfl 3 (.slice aP bs.length cP)
 have h2:=Chg.set (F:=fun c=>c=bf) h1 rfl 2 (.int .i64 s)
 have hb:Below w0.heap.size w0 ((w.setCell ⟨bf,3,none⟩ (.slice aP bs.length cP)).setCell ⟨bf,2,none⟩ (.int .i64 s)):=h.below.trans (h2.below h.below.size fun b hb=>hb▸h.new)
 refine ⟨hb,h.new,((h.box.set 3 _).set 2 _).congr fun i hi=> ?_,h.fs.chg h2 fun b hb e=>hb.2 e,fun k hk=> ?_⟩
 · match i,hi with
   |0,_=>rfl
   |1,_=>rfl
   |2,_=>rfl
   |3,_=>rfl
   |4,_=>rfl
   |5,_=>rfl
   |6,_=>rfl
   |7,_=>rfl
 · rcases hp with ⟨e,_⟩| ⟨b,cap,_,e,hl,hrow⟩
   · subst e;simp at hk
   · simp only [Value.slice.injEq] at e
     obtain ⟨rfl,_,rfl⟩:=e
     have hlt:=hrow.lt
     have hD:=hne.2.2.1.1
     exact ⟨b,rfl,by omega,Nat.lt_of_lt_of_le hlt hb.size,cell_later hb (hrow.cell hk)⟩
end Go.Proofs.YthnmlipnoajmkaaGreatDoor

namespace Go.Proofs.YthnmlipnoajmkaaGreatDoor
open Go.RowKit
set_option maxRecDepth 100000

theorem qth (data:List UInt8) (k hi:Nat) (h:min (k*8+8) data.length=hi): (data.drop (k*8)).take (hi-k*8)= (data.drop (k*8)).take 8:=by
 apply List.ext_getElem?
 intro i
 rw [List.getElem?_take,List.getElem?_take,List.getElem?_drop]
 by_cases h1:i<hi-k*8
 · rw [if_pos h1,if_pos (by omega)]
 · rw [if_neg h1]
   by_cases h2:i<8
   · rw [if_pos h2,List.getElem?_eq_none (by omega)]
   · rw [if_neg h2]
theorem FsS.wrt {w W:World} {bI n cI bD cD:Nat} {d:FD} {Z:List (List UInt8)} {F:Nat→Prop} {bs:List Int} {data:List UInt8} {k y:Nat} (h:FsS w bI n cI bD 20 cD (d.1,qnO Z bs data k) F) (hy:y<20) (e:bs[k]?.getD 0= (y:Int)) (hb:Below w.heap.size w W) (v:Value) (hv:qbt W v ((data.drop (k*8)).take 8) (qaj w W)) (hF: ∀c,w.heap.size≤c→F c):FsS (W.setCell ⟨bD,y,none⟩ v) bI n cI bD 20 cD (d.1,qnO Z bs data (k+1)) F:=by
 have:=h.put y hy hb v _ hv (fun c hc=> ⟨hF c hc.1,hc.1,hc.2⟩)
 have e2:qnO Z bs data (k+1)= (qnO Z bs data k).set y ((data.drop (k*8)).take 8):=by
  show (qnO Z bs data k).set (bs[k]?.getD 0).toNat _=_
  rw [e];rfl
 rw [e2]
 exact this
theorem FileS.later {w0 w W:World} {bf bI n cI bD cD:Nat} {d:FD} {j:Nat} {x:ID} {aB:Option Addr} {cB:Nat} {aE:Option Addr} {cE:Nat} (h:FileS w0 w bf bI n cI bD cD d j x aB cB aE cE) (hb:Below w.heap.size w W):FileS w0 W bf bI n cI bD cD d j x aB cB aE cE:=
 ⟨h.below.trans (hb.mono h.below.size),h.new,h.box.later hb,h.fs.later hb,fun k hk=>by
   obtain ⟨b1,e1,e2,e3,e4⟩:=h.blk k hk
   exact ⟨b1,e1,e2,Nat.lt_of_lt_of_le e3 hb.size,cell_later hb e4⟩⟩

end Go.Proofs.YthnmlipnoajmkaaGreatDoor

namespace Go.Proofs.YthnmlipnoajmkaaGreatDoor
open Go.RowKit
set_option maxRecDepth 100000

theorem qkX {w w':World} {b o:Nat} {v:Value} (e:w'.heap[b]?=w.heap[b]?) (h:w.cell? ⟨b,o,none⟩=some v):w'.cell? ⟨b,o,none⟩=some v:=by
 simp only [World.cell?] at h ⊢
 rw [e];exact h
def qgs (d:FD) (z:Nat):FD:=if 1< (d.1[z]?.getD id0).2.1 then qcO d z ((d.1[z]?.getD id0).2.1-1) else if (qco d.1).count (z:Int)=0 then qc6 d z else d
theorem qi4 (d:FD) (z:Nat) (hz:z<d.1.length):qcO d z (d.1[z]?.getD id0).2.1=d:=by
 unfold qcO
 have e:d.1.set z (d.1[z]?.getD id0)=d.1:=by rw [List.getElem?_eq_getElem hz,Option.getD_some,List.set_getElem_self]
 have: ((d.1[z]?.getD id0).1,(d.1[z]?.getD id0).2.1,(d.1[z]?.getD id0).2.2)=d.1[z]?.getD id0:=rfl
 rw [this,e]
theorem qqb {w:World} {bI n cI bD cD:Nat} {d:FD} {F:Nat→Prop} (hfs:FsS w bI n cI bD 20 cD d F) (j:Nat) (hj:j<n) (l:Int) {vB vE:Value} (h3:w.cell? ⟨bI,j*5+3,none⟩=some vB) (h4:w.cell? ⟨bI,j*5+4,none⟩=some vE) (va vb:Value):
 FsS (qot w bI j ((d.1[j]?.getD id0).1,l,(d.1[j]?.getD id0).2.2) vB vE va vb) bI n cI bD 20 cD (qcO d j l) F:=by
 have h1:=qeR w bI j ((d.1[j]?.getD id0).1,l,(d.1[j]?.getD id0).2.2) vB vE va vb
 obtain ⟨F1,G1,⟨g0,gm,u,G,g1,g2,g3,g4,g5⟩,k2,k3,k4⟩:=hfs
 have e3: (u j).1=vB:=by
  have:=g4.cell (i:=j*5+3) (by omega)
  rw [h3,qbL] at this
  exact (Option.some.inj this).symm
 have e4: (u j).2=vE:=by
  have:=g4.cell (i:=j*5+4) (by omega)
  rw [h4,qbv] at this
  exact (Option.some.inj this).symm
 have eu: (fun i=>if i=j then (vB,vE) else u i)=u:=by
  funext i
  by_cases h:i=j
  · rw [if_pos h,h,←e3,←e4]
  · rw [if_neg h]
 unfold qcO
 have hrow:=qm2 w bI j n d.1 ((d.1[j]?.getD id0).1,l,(d.1[j]?.getD id0).2.2) vB vE va vb u (by omega) g4
 rw [eu] at hrow
 refine ⟨F1,G1,⟨by simpa using g0,gm,u,G,g1,g2,g3,hrow,fun i hi=> ?_⟩,k2.keep fun c hc hlt=>h1.block c hlt fun e=>k3 bI g1 (e▸hc),k3,fun b hb=> ⟨(k4 b hb).1,Nat.lt_of_lt_of_le (k4 b hb).2 h1.size⟩⟩
 rw [qa2 _ _ _ _ _ (by omega)]
 have hk: ∀c,G i c→c<w.heap.size→ (qot w bI j ((d.1[j]?.getD id0).1,l,(d.1[j]?.getD id0).2.2) vB vE va vb).heap[c]?=w.heap[c]?:=fun c hc hlt=>h1.block c hlt fun e=> (g2 i c hc).2 e
 by_cases e:i=j
 · rw [if_pos e]
   have hv:= (g5 i hi).keep hk
   rw [e] at hv ⊢
   obtain ⟨⟨_,_,_,hcap⟩,hrest⟩:=hv
   exact ⟨⟨rfl,rfl,rfl,hcap⟩,hrest⟩
 · rw [if_neg e]
   exact (g5 i hi).keep hk
theorem qi5 (w:World) (bf bI n cI bD cD:Nat) (d:FD) (F:Nat→Prop) (j:Nat) (l:Int) (aB:Option Addr) (nB cB:Nat) (aE:Option Addr) (nE cE:Nat) (hbox:qaa w bf 8 (cel [.int .i64 (d.1[j]?.getD id0).1, .int .i64 l, .int .i64 (d.1[j]?.getD id0).2.2.1, .slice aB nB cB, .slice aE nE cE, .int .i64 (j:Int), .slice (some ⟨bI,0,none⟩) n cI, .slice (some ⟨bD,0,none⟩) 20 cD])) (hfs:FsS w bI n cI bD 20 cD d F) (hbf:bf≠bI) (hj:j<n) (hn:n≤10)
 (h3:w.cell? ⟨bI,j*5+3,none⟩=some (.slice aB nB cB)) (h4:w.cell? ⟨bI,j*5+4,none⟩=some (.slice aE nE cE)):
 Calls Tryz.prog 153 #[.pointer (some ⟨bf,0,none⟩)] w fun e w'=>e= .returned (.agg #[.slice (some ⟨bI,0,none⟩) n cI, .slice (some ⟨bD,0,none⟩) 20 cD])∧ (Chg (fun c=>c=bI) w w'∧FsS w' bI n cI bD 20 cD (qcO d j l) F):=
 qiU w bf bI n cI bD cD d F (fun w'=>Chg (fun c=>c=bI) w w'∧FsS w' bI n cI bD 20 cD (qcO d j l) F) j ((d.1[j]?.getD id0).1,l,(d.1[j]?.getD id0).2.2) aB nB cB aE nE cE hbox hfs hbf hj hn fun va vb=> ⟨qeR _ _ _ _ _ _ _ _,qqb hfs j hj l h3 h4 va vb⟩
def qcS (w:World) (n:Nat) (d:FD) (e:Ending) (w':World):Prop:= ∃bI cI bD cD,e= .returned (.agg #[.slice (some ⟨bI,0,none⟩) n cI, .slice (some ⟨bD,0,none⟩) 20 cD])∧Below w.heap.size w w'∧FsS w' bI n cI bD 20 cD d (fun c=>w.heap.size≤c)
theorem qcS.put {w W:World} {n bI cI bD cD:Nat} {d:FD} (hB:Below w.heap.size w W) (h:FsS W bI n cI bD 20 cD d (fun c=>w.heap.size+2≤c)) {rb:Nat} (hrb:w.heap.size≤rb∧rb<w.heap.size+2) (x y:Value):qcS w n d (.returned (.agg #[.slice (some ⟨bI,0,none⟩) n cI, .slice (some ⟨bD,0,none⟩) 20 cD])) ((W.setCell ⟨rb,0,none⟩ x).setCell ⟨rb,1,none⟩ y):=by
 have h1:Chg (fun c=>c=rb) W ((W.setCell ⟨rb,0,none⟩ x).setCell ⟨rb,1,none⟩ y):=Chg.set (F:=fun c=>c=rb) (Chg.set (F:=fun c=>c=rb) (Chg.refl _ W) rfl 0 x) rfl 1 y
 exact ⟨bI,cI,bD,cD,rfl,(hB.setCell hrb.1 _).setCell hrb.1 _,(h.chg h1 fun b hb e=>by omega).mono fun c hc=>by omega⟩
set_option maxHeartbeats 6400000 in
theorem qi6 (w:World) (a1:Option Addr) (n1 c1:Nat) (a2:Option Addr) (n2 c2:Nat) (d:FD) (z:Nat) (h:FsR w (.slice a1 n1 c1) (.slice a2 n2 c2) d) (hs:sizeFs d≤1048576) (h20:d.2.length=20) (hz:z<d.1.length) (h10:d.1.length≤10) (hins:qaY d.1=0) (hl1:1≤ (d.1[z]?.getD id0).2.1) (hl60: (d.1[z]?.getD id0).2.1≤60)
 (hr: ∀k:Nat,k< (qci d z).length→0≤ (qci d z)[k]?.getD 0∧ (qci d z)[k]?.getD 0<20) (h4: (qci d z).length≤4):
 Calls Tryz.prog 131 #[.agg #[.slice a1 n1 c1, .slice a2 n2 c2], .int .i64 (z:Int)] w fun e w'=>qcS w d.1.length (qgs d z) e w':=by
 have HOP:Hid (∀W,Below w.heap.size w W→Calls Tryz.prog 151 #[.agg #[.slice a1 n1 c1, .slice a2 n2 c2], .int .i64 (z:Int)] W fun e w'=> ∃bf bI cI bD cD aB cB aE cE,e= .returned (.pointer (some ⟨bf,0,none⟩))∧ (FileS W w' bf bI d.1.length cI bD cD d z (d.1[z]?.getD id0) aB cB aE cE∧w'.cell? ⟨bI,z*5+3,none⟩=some (.slice aB (d.1[z]?.getD id0).2.2.2.1.length cB)∧w'.cell? ⟨bI,z*5+4,none⟩=some (.slice aE (d.1[z]?.getD id0).2.2.2.2.length cE))):=fun W hW=>qfb W a1 n1 c1 a2 n2 c2 d z (h.later hW) hs h20 hz h10
 have HLK:Hid (∀W,Below w.heap.size w W→Calls Tryz.prog 89 #[.slice a1 n1 c1, .int .i64 (z:Int)] W fun e w'=>e= .returned (.agg #[.int .i64 0, .int .i64 (((qco d.1).count (z:Int):Nat):Int)])∧Below W.heap.size W w'):=fun W hW=>by
  have:=qkR W a1 n1 c1 d.1 (z:Int) (h.1.later hW) (by unfold sizeFs at hs;omega)
  unfold qqv at this
  rw [if_pos hins,if_pos ⟨by omega,by omega⟩] at this
  exact this
 have HX:Hid (Bx ((w.alloc (.cells #[.slice a1 n1 c1, .slice a2 n2 c2] 31)).alloc (.cells #[.slice none 0 0, .slice none 0 0] 31)) w.heap.size [.slice a1 n1 c1, .slice a2 n2 c2]):= (Bx.new w [.slice a1 n1 c1, .slice a2 n2 c2] _).later (qab _ _)
 have HB0:Hid (Below w.heap.size w ((w.alloc (.cells #[.slice a1 n1 c1, .slice a2 n2 c2] 31)).alloc (.cells #[.slice none 0 0, .slice none 0 0] 31))):=qam _ _ _
 have hz0: ((w.alloc (.cells #[.slice a1 n1 c1, .slice a2 n2 c2] 31)).alloc (.cells #[.slice none 0 0, .slice none 0 0] 31)).heap.size=w.heap.size+2:=by simp
 have HRS:Hid (qaa ((w.alloc (.cells #[.slice a1 n1 c1, .slice a2 n2 c2] 31)).alloc (.cells #[.slice none 0 0, .slice none 0 0] 31)) (w.heap.size+1) 2 (cel [.slice none 0 0, .slice none 0 0])):=by
  have p2:=qdQ (w.alloc (.cells #[.slice a1 n1 c1, .slice a2 n2 c2] 31)) [.slice none 0 0, .slice none 0 0] 31
  rw [World.size_alloc] at p2
  exact p2
 have HU:Hid (qgs d z=if 1< (d.1[z]?.getD id0).2.1 then qcO d z ((d.1[z]?.getD id0).2.1-1) else if (qco d.1).count (z:Int)=0 then qc6 d z else d):=rfl
 rw [HU.out]
 have HBR:Hid (∀k:Nat,k< (qci d z).length→0≤ (qci d z)[k]?.getD 0∧ (qci d z)[k]?.getD 0<20):=hr
 have H4:Hid ((qci d z).length≤4):=h4
 clear h hs hins HU hr h4
 generalize hkl: (d.1[z]?.getD id0).2.1=kl at*
 have HKL:Hid ((d.1[z]?.getD id0).2.1=kl):=hkl
 clear hkl
 by_cases hl:1<kl
 · rw [if_pos hl]
   go_enter Tryz.func131,Tryz.ntmps131
   go_wp2_with fail
   generalize ((w.alloc (.cells #[.slice a1 n1 c1, .slice a2 n2 c2] 31)).alloc (.cells #[.slice none 0 0, .slice none 0 0] 31))=W0 at*
   refine (HOP.out _ HB0.out).mono ?_
   rintro e w1 ⟨bf,bI,cI,bD,cD,aB,cB,aE,cE,rfl,hfl,r3,r4⟩
   have hne:=hfl.fs.ne
   have t1:w1.cell? ⟨bf,1,none⟩=some (.int .i64 kl):=by rw [←HKL.out];exact hfl.box.cell (i:=1) (by omega)
   have s1:=hfl.box.frozen 1
   have hbfI:bf≠bI:=fun e=>hne.2.1.1.2 e.symm
   have h1:Chg (fun c=>c=bf) w1 (w1.setCell ⟨bf,1,none⟩ (.int .i64 (kl-1))):=Chg.set (F:=fun c=>c=bf) (Chg.refl _ w1) rfl 1 _
   have HBX2:Hid (qaa (w1.setCell ⟨bf,1,none⟩ (.int .i64 (kl-1))) bf 8 (cel [.int .i64 (d.1[z]?.getD id0).1, .int .i64 (kl-1), .int .i64 (d.1[z]?.getD id0).2.2.1, .slice aB (d.1[z]?.getD id0).2.2.2.1.length cB, .slice aE (d.1[z]?.getD id0).2.2.2.2.length cE, .int .i64 (z:Int), .slice (some ⟨bI,0,none⟩) d.1.length cI, .slice (some ⟨bD,0,none⟩) 20 cD])):=by
    refine (hfl.box.set 1 _).congr fun i hi=> ?_
    match i,hi with
    |0,_=>rfl
    |1,_=>rfl
    |2,_=>rfl
    |3,_=>rfl
    |4,_=>rfl
    |5,_=>rfl
    |6,_=>rfl
    |7,_=>rfl
   have HF2:Hid (FsS (w1.setCell ⟨bf,1,none⟩ (.int .i64 (kl-1))) bI d.1.length cI bD 20 cD d (fun c=>W0.heap.size≤c∧c≠bf)):=hfl.fs.chg h1 fun b hb e=>hb.2 e
   have HBL2:Hid (Below W0.heap.size W0 (w1.setCell ⟨bf,1,none⟩ (.int .i64 (kl-1)))):=hfl.below.setCell (by have:=hfl.new;exact this) _
   have HR3:Hid ((w1.setCell ⟨bf,1,none⟩ (.int .i64 (kl-1))).cell? ⟨bI,z*5+3,none⟩=some (.slice aB (d.1[z]?.getD id0).2.2.2.1.length cB)):=qkX (h1.block bI hne.2.1.2 fun e=>hbfI e.symm) r3
   have HR4:Hid ((w1.setCell ⟨bf,1,none⟩ (.int .i64 (kl-1))).cell? ⟨bI,z*5+4,none⟩=some (.slice aE (d.1[z]?.getD id0).2.2.2.2.length cE)):=qkX (h1.block bI hne.2.1.2 fun e=>hbfI e.symm) r4
   have HCL:Hid (Calls Tryz.prog 153 #[.pointer (some ⟨bf,0,none⟩)] (w1.setCell ⟨bf,1,none⟩ (.int .i64 (kl-1))) _):=qi5 _ bf bI d.1.length cI bD cD d _ z (kl-1) aB _ cB aE _ cE HBX2.out HF2.out hbfI hz h10 HR3.out HR4.out
   have hW0:w.heap.size≤W0.heap.size:=HB0.out.size
   have hwI:W0.heap.size≤bI:=hne.2.1.1.1
   clear hfl r3 r4 HOP HLK h1 HBX2 HF2 HR3 HR4 hne
   go_wp2_with fail
   refine HCL.out.mono ?_
   rintro e w3 ⟨rfl,hc3,hf3⟩
   have HBL3:Hid (Below W0.heap.size W0 w3):=HBL2.out.trans (hc3.below HBL2.out.size fun b hb=>by rw [hb];omega)
   have HB3:Hid (Below w.heap.size w w3):=HB0.out.trans (HBL3.out.mono HB0.out.size)
   have HF3:Hid (FsS w3 bI d.1.length cI bD 20 cD (qcO d z (kl-1)) (fun c=>w.heap.size+2≤c)):=hf3.mono fun c hc=>by have:=hc.1;omega
   clear hc3 hf3 t1 s1
   have hrr:=HRS.out.later HBL3.out
   have u0:w3.cell? ⟨w.heap.size+1,0,none⟩=some (.slice none 0 0):=hrr.cell (i:=0) (by omega)
   have u1:w3.cell? ⟨w.heap.size+1,1,none⟩=some (.slice none 0 0):=hrr.cell (i:=1) (by omega)
   have v0:=hrr.frozen 0
   have v1:=hrr.frozen 1
   clear hrr
   go_wp2
   exact bodyPost_ret (v:= .agg #[.slice (some ⟨bI,0,none⟩) d.1.length cI, .slice (some ⟨bD,0,none⟩) 20 cD]) (by simp [results,Tryz.results131,go_sem,u0,u1]) rfl (qcS.put HB3.out HF3.out (by omega) _ _)
 · rw [if_neg hl]
   by_cases hc: (qco d.1).count (z:Int)=0
   · rw [if_pos hc]
     have hcb: ((((qco d.1).count (z:Int):Nat):Int)==0)=true:=beq_iff_eq.2 (by omega)
     clear hc
     generalize (((qco d.1).count (z:Int):Nat):Int)=cnt at*
     go_enter Tryz.func131,Tryz.ntmps131
     go_wp2_with fail
     generalize ((w.alloc (.cells #[.slice a1 n1 c1, .slice a2 n2 c2] 31)).alloc (.cells #[.slice none 0 0, .slice none 0 0] 31))=W0 at*
     refine (HOP.out _ HB0.out).mono ?_
     rintro e w1 ⟨bf,bI,cI,bD,cD,aB,cB,aE,cE,rfl,hfl,r3,r4⟩
     have HFL:Hid (FileS W0 w1 bf bI d.1.length cI bD cD d z (d.1[z]?.getD id0) aB cB aE cE):=hfl
     have HR3:Hid (_=_):=r3
     have HR4:Hid (_=_):=r4
     have hne:=hfl.fs.ne
     have t1:w1.cell? ⟨bf,1,none⟩=some (.int .i64 kl):=by rw [←HKL.out];exact hfl.box.cell (i:=1) (by omega)
     have hbfI:bf≠bI:=fun e=>hne.2.1.1.2 e.symm
     have HB1:Hid (Below w.heap.size w w1):=HB0.out.trans (hfl.below.mono HB0.out.size)
     have x0:= (HX.out.later hfl.below) 0 _ rfl
     have x1:= (HX.out.later hfl.below) 1 _ rfl
     have hW0:w.heap.size≤W0.heap.size:=HB0.out.size
     have hwI:W0.heap.size≤bI:=hne.2.1.1.1
     have hwz:W0.heap.size≤w1.heap.size:=hfl.below.size
     clear hfl r3 r4 HOP
     go_wp2_with fail
     refine (HLK.out _ HB1.out).mono ?_
     rintro e w2 ⟨rfl,hb2⟩
     have hfd:=qcN 0 cnt
     have HBL2:Hid (Below W0.heap.size W0 w2):=HFL.out.below.trans (hb2.mono HFL.out.below.size)
     have HFL2:Hid (FileS W0 w2 bf bI d.1.length cI bD cD d z (d.1[z]?.getD id0) aB cB aE cE):=HFL.out.later hb2
     clear hb2 x0 x1 t1 HFL HR3 HR4 HLK
     go_wp2_with fail
     refine (qnl W0 w2 bf bI d.1.length cI bD cD d z (d.1[z]?.getD id0) aB cB aE cE HFL2.out HBR.out H4.out).mono ?_
     rintro e w4 ⟨rfl,hf4⟩
     have HBX4:Hid (qaa w4 bf 8 (cel [.int .i64 id0.1, .int .i64 id0.2.1, .int .i64 id0.2.2.1, .slice none 0 0, .slice none 0 0, .int .i64 (z:Int), .slice (some ⟨bI,0,none⟩) d.1.length cI, .slice (some ⟨bD,0,none⟩) 20 cD])):=hf4.box
     have HF4:Hid (FsS w4 bI d.1.length cI bD 20 cD (d.1,qeE d.2 (qci d z) (qci d z).length) (fun c=>W0.heap.size≤c∧c≠bf)):=hf4.fs
     have HBL4:Hid (Below W0.heap.size W0 w4):=hf4.below
     clear hf4 HFL2
     go_wp2_with fail
     refine (qnj w4 bf bI d.1.length cI bD cD _ _ (fun _=>False) z id0 none 0 0 none 0 0 HBX4.out HF4.out hbfI hz h10 (qfx _ _) (fun c hc=>hc.elim)).mono ?_
     rintro e w5 ⟨rfl,hc5,hf5⟩
     have HBL5:Hid (Below W0.heap.size W0 w5):=HBL4.out.trans (hc5.below HBL4.out.size fun b hb=>by rw [hb];omega)
     have HB5:Hid (Below w.heap.size w w5):=HB0.out.trans (HBL5.out.mono HB0.out.size)
     have HF5:Hid (FsS w5 bI d.1.length cI bD 20 cD (qc6 d z) (fun c=>w.heap.size+2≤c)):=hf5.mono fun c hc=>by
      rcases hc with hc|hc
      · have:=hc.1;omega
      · exact hc.elim
     clear hc5 hf5
     have hrr:=HRS.out.later HBL5.out
     have u0:w5.cell? ⟨w.heap.size+1,0,none⟩=some (.slice none 0 0):=hrr.cell (i:=0) (by omega)
     have u1:w5.cell? ⟨w.heap.size+1,1,none⟩=some (.slice none 0 0):=hrr.cell (i:=1) (by omega)
     have v0:=hrr.frozen 0
     have v1:=hrr.frozen 1
     clear hrr
     go_wp2
     exact bodyPost_ret (v:= .agg #[.slice (some ⟨bI,0,none⟩) d.1.length cI, .slice (some ⟨bD,0,none⟩) 20 cD]) (by simp [results,Tryz.results131,go_sem,u0,u1]) rfl (qcS.put HB5.out HF5.out (by omega) _ _)
   · rw [if_neg hc]
     have hcb: ((((qco d.1).count (z:Int):Nat):Int)==0)=false:=beq_eq_false_iff_ne.2 (by omega)
     clear hc
     generalize (((qco d.1).count (z:Int):Nat):Int)=cnt at*
     go_enter Tryz.func131,Tryz.ntmps131
     go_wp2_with fail
     generalize ((w.alloc (.cells #[.slice a1 n1 c1, .slice a2 n2 c2] 31)).alloc (.cells #[.slice none 0 0, .slice none 0 0] 31))=W0 at*
     refine (HOP.out _ HB0.out).mono ?_
     rintro e w1 ⟨bf,bI,cI,bD,cD,aB,cB,aE,cE,rfl,hfl,r3,r4⟩
     have HFL:Hid (FileS W0 w1 bf bI d.1.length cI bD cD d z (d.1[z]?.getD id0) aB cB aE cE):=hfl
     have HR3:Hid (_=_):=r3
     have HR4:Hid (_=_):=r4
     have hne:=hfl.fs.ne
     have t1:w1.cell? ⟨bf,1,none⟩=some (.int .i64 kl):=by rw [←HKL.out];exact hfl.box.cell (i:=1) (by omega)
     have hbfI:bf≠bI:=fun e=>hne.2.1.1.2 e.symm
     have HB1:Hid (Below w.heap.size w w1):=HB0.out.trans (hfl.below.mono HB0.out.size)
     have x0:= (HX.out.later hfl.below) 0 _ rfl
     have x1:= (HX.out.later hfl.below) 1 _ rfl
     have hW0:w.heap.size≤W0.heap.size:=HB0.out.size
     have hwI:W0.heap.size≤bI:=hne.2.1.1.1
     have hwz:W0.heap.size≤w1.heap.size:=hfl.below.size
     clear hfl r3 r4 HOP
     go_wp2_with fail
     refine (HLK.out _ HB1.out).mono ?_
     rintro e w2 ⟨rfl,hb2⟩
     have hfd:=qcN 0 cnt
     have HBL2:Hid (Below W0.heap.size W0 w2):=HFL.out.below.trans (hb2.mono HFL.out.below.size)
     have HFL2:Hid (FileS W0 w2 bf bI d.1.length cI bD cD d z (d.1[z]?.getD id0) aB cB aE cE):=HFL.out.later hb2
     have HCL:Hid (Calls Tryz.prog 153 #[.pointer (some ⟨bf,0,none⟩)] w2 _):=qi5 w2 bf bI d.1.length cI bD cD d _ z (d.1[z]?.getD id0).2.1 aB _ cB aE _ cE HFL2.out.box HFL2.out.fs hbfI hz h10 (cell_later hb2 HR3.out) (cell_later hb2 HR4.out)
     clear hb2 x0 x1 t1 HFL HR3 HR4 HLK
     go_wp2_with fail
     refine HCL.out.mono ?_
     rintro e w5 ⟨rfl,hc5,hf5⟩
     have HBL5:Hid (Below W0.heap.size W0 w5):=HBL2.out.trans (hc5.below HBL2.out.size fun b hb=>by rw [hb];omega)
     have HB5:Hid (Below w.heap.size w w5):=HB0.out.trans (HBL5.out.mono HB0.out.size)
     have HF5:Hid (FsS w5 bI d.1.length cI bD 20 cD d (fun c=>w.heap.size+2≤c)):=by
      unfold Hid
      have:=hf5.mono (F':=fun c=>w.heap.size+2≤c) fun c hc=>by have:=hc.1;omega
      rw [qi4 d z hz] at this
      exact this
     clear hc5 hf5
     have hrr:=HRS.out.later HBL5.out
     have u0:w5.cell? ⟨w.heap.size+1,0,none⟩=some (.slice none 0 0):=hrr.cell (i:=0) (by omega)
     have u1:w5.cell? ⟨w.heap.size+1,1,none⟩=some (.slice none 0 0):=hrr.cell (i:=1) (by omega)
     have v0:=hrr.frozen 0
     have v1:=hrr.frozen 1
     clear hrr
     go_wp2
     exact bodyPost_ret (v:= .agg #[.slice (some ⟨bI,0,none⟩) d.1.length cI, .slice (some ⟨bD,0,none⟩) 20 cD]) (by simp [results,Tryz.results131,go_sem,u0,u1]) rfl (qcS.put HB5.out HF5.out (by omega) _ _)
end Go.Proofs.YthnmlipnoajmkaaGreatDoor

namespace Go.Proofs.YthnmlipnoajmkaaGreatDoor
open Go.RowKit
set_option maxRecDepth 100000

def qdk (d:FD) (j k:Nat):FD:=if qae d.1 ((qac d j)[k]?.getD en0).2.toNat=1 then qgs (qaH d j (qaO (qac d j) k)) ((qac d j)[k]?.getD en0).2.toNat else qaH d j (qaO (qac d j) k)
def qqM (d:FD) (x:Int) (s:ByteArray):Int×FD:=if (qcM d x s).1=0 then (0,qdk d x.toNat (idxE (qac d x.toNat) s)) else qgh (qcM d x s).1
theorem qkY {d:FD} {x:Int} {s:ByteArray} (h: (qcM d x s).1=0):qgp d x s=0∧idxE (qac d x.toNat) s< (qac d x.toNat).length∧ (qcM d x s).2= ((qac d x.toNat)[idxE (qac d x.toNat) s]?.getD en0).2:=by
 unfold qcM at h ⊢
 by_cases hd:qgp d x s=0
 · rw [if_pos hd] at h ⊢
   by_cases hi:idxE (qac d x.toNat) s< (qac d x.toNat).length
   · rw [if_pos hi];exact ⟨hd,hi,rfl⟩
   · rw [if_neg hi] at h;exact absurd h (by decide)
 · rw [if_neg hd] at h;exact absurd h hd
structure DelS (d:FD) (j k z:Nat) (dn:FD):Prop where
 ins:qaY dn.1=0
 len:dn.1.length=d.1.length
 dat:dn.2=d.2
 size:sizeFs dn≤1048576
 kind: (dn.1[z]?.getD id0).1= (d.1[z]?.getD id0).1
 lnk: (dn.1[z]?.getD id0).2.1= (d.1[z]?.getD id0).2.1
 file: (d.1[z]?.getD id0).1=1→1≤ (dn.1[z]?.getD id0).2.1∧ (dn.1[z]?.getD id0).2.1≤60
 blk: ∀i:Nat,i< (qci dn z).length→0≤ (qci dn z)[i]?.getD 0∧ (qci dn z)[i]?.getD 0<20
 four: (qci dn z).length≤4
theorem qsh {d:FD} {j k z:Nat} (h:DirS d j) (hk:k< (qac d j).length) (hz:z<d.1.length):DelS d j k z (qaH d j (qaO (qac d j) k)):=by
 have hins:qaY (qaH d j (qaO (qac d j) k)).1=0:=qoC h.ins j _ (qoD h.kind (qaM h.ins j h.lt) ((qnn (qhA (qaM h.ins j h.lt) h.kind)).del hk))
 have hlen: (qaH d j (qaO (qac d j) k)).1.length=d.1.length:=by unfold qaH;exact List.length_set
 have hek:=qnr d j z (qaO (qac d j) k) h.lt
 have hzi:=qaM hins z (by omega)
 refine ⟨hins,hlen,rfl, ?_,hek.1,hek.2,fun e=>qnq hzi (by rw [hek.1];exact e),fun i hi=>qfV hins z i (by omega) hi, ?_⟩
 · have:=qoF (d:=qaH d j (qaO (qac d j) k)) hins h.dat h.eight
   omega
 · have:=qb9 hzi
   unfold qci
   omega

set_option maxHeartbeats 12800000 in
theorem qoI (w:World) (a1:Option Addr) (n1 c1:Nat) (a2:Option Addr) (n2 c2:Nat) (d:FD) (x:Int) (s:ByteArray) (h:FsR w (.slice a1 n1 c1) (.slice a2 n2 c2) d) (hs:sizeFs d≤1048576) (hl:s.size≤1048576):
 Calls Tryz.prog 101 #[.agg #[.slice a1 n1 c1, .slice a2 n2 c2], .int .i64 x, .string s] w (qdL w (qqM d x s)):=by
 have HB0:Hid (Below w.heap.size w ((w.alloc (.cells #[.slice a1 n1 c1, .slice a2 n2 c2] 31)).alloc (.cells #[.int .i64 0, .slice none 0 0, .slice none 0 0] 140))):=qam _ _ _
 have HBX:Hid (Bx ((w.alloc (.cells #[.slice a1 n1 c1, .slice a2 n2 c2] 31)).alloc (.cells #[.int .i64 0, .slice none 0 0, .slice none 0 0] 140)) w.heap.size [.slice a1 n1 c1, .slice a2 n2 c2]):= (Bx.new w [.slice a1 n1 c1, .slice a2 n2 c2] _).later (qab _ _)
 have HRS:Hid (qaa ((w.alloc (.cells #[.slice a1 n1 c1, .slice a2 n2 c2] 31)).alloc (.cells #[.int .i64 0, .slice none 0 0, .slice none 0 0] 140)) (w.heap.size+1) 3 (cel qnk)):=by
  have p2:=qte (w.alloc (.cells #[.slice a1 n1 c1, .slice a2 n2 c2] 31)) 140
  rw [World.size_alloc] at p2
  exact p2
 have HLK:Hid (∀W,Below w.heap.size w W→Calls Tryz.prog 57 #[.agg #[.slice a1 n1 c1, .slice a2 n2 c2], .int .i64 x, .string s] W fun e w'=>e= .returned (.agg #[.int .i64 (qcM d x s).1, .int .i64 (qcM d x s).2])∧Below W.heap.size W w'):=fun W hW=>qiV W _ _ _ _ _ _ d x s (h.later hW) hs hl
 have HRR:Hid (qqM d x s=if (qcM d x s).1=0 then (0,qdk d x.toNat (idxE (qac d x.toNat) s)) else qgh (qcM d x s).1):=rfl
 rw [HRR.out]
 clear HRR
 by_cases hq: (qcM d x s).1=0
 rotate_left
 · rw [if_neg hq]
   have hb: ((qcM d x s).1 !=0)=true:=by simpa using hq
   clear hq h hs
   generalize (qcM d x s).1=r at*
   generalize (qcM d x s).2=r2 at*
   go_enter Tryz.func101,Tryz.ntmps101
   go_wp2_with fail
   generalize ((w.alloc (.cells #[.slice a1 n1 c1, .slice a2 n2 c2] 31)).alloc (.cells #[.int .i64 0, .slice none 0 0, .slice none 0 0] 140))=W0 at*
   refine (HLK.out _ HB0.out).mono ?_
   rintro e w1 ⟨rfl,hb1⟩
   have HB1:Hid (Below w.heap.size w w1):=HB0.out.trans (hb1.mono HB0.out.size)
   have hrr:=HRS.out.later hb1
   have t0:w1.cell? ⟨w.heap.size+1,0,none⟩=some (.int .i64 0):=hrr.cell (i:=0) (by omega)
   have t1:w1.cell? ⟨w.heap.size+1,1,none⟩=some (.slice none 0 0):=hrr.cell (i:=1) (by omega)
   have t2:w1.cell? ⟨w.heap.size+1,2,none⟩=some (.slice none 0 0):=hrr.cell (i:=2) (by omega)
   have s0:=hrr.frozen 0
   have s1:=hrr.frozen 1
   have s2:=hrr.frozen 2
   have hlw:w.heap.size+1<w1.heap.size:=hrr.lt
   clear hb1 hrr
   go_wp2
   exact bodyPost_ret (v:= .agg #[.int .i64 r, .slice none 0 0, .slice none 0 0]) (by simp [results,Tryz.results101,go_sem,t0,t1,t2,hlw]) rfl ((qdL.none' r HB1.out (by omega) _ _ _).later (qab _ _))
 · rw [if_pos hq]
   obtain ⟨hdn,hidx,hval⟩:=qkY hq
   have hq0:qdG d x=0:=qf8 hdn
   have hds:=qo3 hq0
   obtain ⟨-,hp,-⟩:=qkb hq0
   obtain ⟨j,rfl⟩: ∃j:Nat,x= (j:Int):= ⟨x.toNat,by omega⟩
   rw [Int.toNat_natCast] at hds hidx hval ⊢
   have hld:0≤ ((qac d j)[idxE (qac d j) s]?.getD en0).2∧ ((qac d j)[idxE (qac d j) s]?.getD en0).2< (d.1.length:Int):=hds.leads j hds.lt _ hidx
   obtain ⟨z,hzz⟩: ∃z:Nat,((qac d j)[idxE (qac d j) s]?.getD en0).2= (z:Int):= ⟨((qac d j)[idxE (qac d j) s]?.getD en0).2.toNat,by omega⟩
   have hzn:z<d.1.length:=by omega
   rw [hzz] at hval
   rw [hq,hval] at HLK
   have hplc:=qhz hds.rises hidx
   have hdel:=qsh (z:=z) hds hidx hzn
   have HDEL:Hid (DelS d j (idxE (qac d j) s) z (qaH d j (qaO (qac d j) (idxE (qac d j) s)))):=hdel
   have HDD:Hid (qdk d j (idxE (qac d j) s)=if (d.1[z]?.getD id0).1=1 then qgs (qaH d j (qaO (qac d j) (idxE (qac d j) s))) z else qaH d j (qaO (qac d j) (idxE (qac d j) s))):=by
    unfold Hid qdk
    rw [hzz,Int.toNat_natCast];rfl
   rw [HDD.out]
   have HCF:Hid (∀W,Below w.heap.size w W→Calls Tryz.prog 58 #[.agg #[.slice a1 n1 c1, .slice a2 n2 c2]] W (qiw W d)):=fun W hW=>qcv W _ _ _ _ _ _ d (h.later hW) hs (by have:=hds.dat;omega)
   have HBK:Hid ((d.1[j]?.getD id0).2.2.2.1= []):=qnp (qaM hds.ins j hds.lt) hds.kind
   have HRI:Hid (qeu (qac d j)∧ (qac d j).length≤6∧idxE (qac d j) s< (qac d j).length):= ⟨hds.rises,hds.six,hidx⟩
   have HSD:Hid (qaH d j (qaO (qac d j) (idxE (qac d j) s))=qaH d j (qaO (qac d j) (idxE (qac d j) s))):=rfl
   have HDAT:Hid (d.2.length=20):=hds.dat
   have hjl:=hds.lt
   have hten:=hds.ten
   have hsix:=hds.six
   obtain ⟨n,hn⟩: ∃n,d.1.length=n:= ⟨_,rfl⟩
   have HN:Hid (d.1.length=n):=hn
   rw [hn] at hjl hten hzn
   clear h hs hq hdn hq0 hds hp hld hzz hval hplc hdel HDD hn
   obtain ⟨dn,hdn⟩: ∃dn,qaH d j (qaO (qac d j) (idxE (qac d j) s))=dn:= ⟨_,rfl⟩
   have HDN:Hid (qaH d j (qaO (qac d j) (idxE (qac d j) s))=dn):=hdn
   rw [hdn] at HDEL ⊢
   clear hdn HSD hidx hsix
   generalize hkd: (d.1[z]?.getD id0).1=kd at*
   have HKD:Hid ((d.1[z]?.getD id0).1=kd):=hkd
   clear hkd
   generalize hRES: (if kd=1 then qgs dn z else dn)=RES
   have HRES:Hid ((if kd=1 then qgs dn z else dn)=RES):=hRES
   clear hRES
   have hjI: (j:Int)< (n:Int):=by omega
   have hzI: (z:Int)< (n:Int):=by omega
   go_enter Tryz.func101,Tryz.ntmps101
   go_wp2_with fail
   generalize ((w.alloc (.cells #[.slice a1 n1 c1, .slice a2 n2 c2] 31)).alloc (.cells #[.int .i64 0, .slice none 0 0, .slice none 0 0] 140))=W0 at*
   refine (HLK.out _ HB0.out).mono ?_
   rintro e w1 ⟨rfl,hb1⟩
   have HB1:Hid (Below w.heap.size w (w1.alloc (.cells #[.int .i64 0, .int .i64 (z:Int)] 86))):= (HB0.out.trans (hb1.mono HB0.out.size)).trans ((qab _ _).mono (HB0.out.trans (hb1.mono HB0.out.size)).size)
   have HR1:Hid (qaa (w1.alloc (.cells #[.int .i64 0, .int .i64 (z:Int)] 86)) (w.heap.size+1) 3 (cel qnk)):= (HRS.out.later hb1).later (qab _ _)
   have HX1:Hid (Bx (w1.alloc (.cells #[.int .i64 0, .int .i64 (z:Int)] 86)) w.heap.size [.slice a1 n1 c1, .slice a2 n2 c2]):= (HBX.out.later hb1).later (qab _ _)
   have HI1:Hid (Bx (w1.alloc (.cells #[.int .i64 0, .int .i64 (z:Int)] 86)) w1.heap.size [.int .i64 0, .int .i64 (z:Int)]):=Bx.new w1 [.int .i64 0, .int .i64 (z:Int)] _
   have hsw:w.heap.size+1<w1.heap.size:= (HRS.out.later hb1).lt
   have hsw1: (w1.alloc (.cells #[.int .i64 0, .int .i64 (z:Int)] 86)).heap.size=w1.heap.size+1:=by simp
   have x0:=HX1.out 0 _ rfl
   have x1:=HX1.out 1 _ rfl
   clear hb1
   go_wp2_with fail
   refine (HCF.out _ HB1.out).mono ?_
   rintro e w2 ⟨q1,m1,cI,q2,m2,cD,rfl,hb2,hf2⟩
   generalize (w1.alloc (.cells #[.int .i64 0, .int .i64 (z:Int)] 86))=W1 at*
   obtain ⟨bI,e1,bD,e2,eI,eD,hfs⟩:=FsS.of hf2 (by have:=HN.out;omega) (by have:=HDAT.out;omega)
   simp only [Value.slice.injEq] at eI eD
   obtain ⟨rfl,rfl,rfl⟩:=eI
   obtain ⟨rfl,rfl,rfl⟩:=eD
   rw [HDAT.out,HN.out] at hfs
   rw [HDAT.out,HN.out]
   have HL3:Hid (Below W1.heap.size W1 (w2.alloc (.cells #[.slice (some ⟨bI,0,none⟩) n cI, .slice (some ⟨bD,0,none⟩) 20 cD] 31))):=hb2.trans ((qab _ _).mono hb2.size)
   have HF3:Hid (FsS (w2.alloc (.cells #[.slice (some ⟨bI,0,none⟩) n cI, .slice (some ⟨bD,0,none⟩) 20 cD] 31)) bI n cI bD 20 cD d (fun c=>W1.heap.size≤c∧c<w2.heap.size)):=hfs.later (qab _ _)
   have HO3:Hid (qaa (w2.alloc (.cells #[.slice (some ⟨bI,0,none⟩) n cI, .slice (some ⟨bD,0,none⟩) 20 cD] 31)) w2.heap.size 2 (cel [.slice (some ⟨bI,0,none⟩) n cI, .slice (some ⟨bD,0,none⟩) 20 cD])):=qdQ w2 [.slice (some ⟨bI,0,none⟩) n cI, .slice (some ⟨bD,0,none⟩) 20 cD] 31
   have HS3:Hid (W1.heap.size≤w2.heap.size∧ (w2.alloc (.cells #[.slice (some ⟨bI,0,none⟩) n cI, .slice (some ⟨bD,0,none⟩) 20 cD] 31)).heap.size=w2.heap.size+1):= ⟨hb2.size,by simp⟩
   clear hb2 hf2 hfs x0 x1 HCF HLK
   have hne:=HF3.out.ne
   have HST:Hid (∀W4,Below (w2.alloc (.cells #[.slice (some ⟨bI,0,none⟩) n cI, .slice (some ⟨bD,0,none⟩) 20 cD] 31)).heap.size (w2.alloc (.cells #[.slice (some ⟨bI,0,none⟩) n cI, .slice (some ⟨bD,0,none⟩) 20 cD] 31)) W4→Calls Tryz.prog 63 #[.pointer (some ⟨bI,j*5,none⟩), .string s] W4 fun e w'=>e= .returned (.tuple #[])∧FsS w' bI n cI bD 20 cD dn (fun c=> (W1.heap.size≤c∧c<w2.heap.size)∨W4.heap.size≤c)∧Chg (fun c=>c=bI) W4 w'):=fun W4 h4=>by
    have:=qeV W4 bI n cI bD cD d _ j s (HF3.out.later h4) hjl HRI.out.1 HRI.out.2.1 HRI.out.2.2 HBK.out
    rw [HDN.out] at this
    exact this
   have o0: (w2.alloc (.cells #[.slice (some ⟨bI,0,none⟩) n cI, .slice (some ⟨bD,0,none⟩) 20 cD] 31)).cell? ⟨w2.heap.size,0,none⟩=some (.slice (some ⟨bI,0,none⟩) n cI):=HO3.out.cell (i:=0) (by omega)
   go_wp2_with fail
   generalize (w2.alloc (.cells #[.slice (some ⟨bI,0,none⟩) n cI, .slice (some ⟨bD,0,none⟩) 20 cD] 31))=W3 at*
   clear o0
   refine (HST.out _ (Below.refl _ _)).mono ?_
   rintro e w5 ⟨rfl,hf5,hC6⟩
   have hS3:=HS3.out
   have HF6:Hid (FsS w5 bI n cI bD 20 cD dn (fun c=>W1.heap.size≤c∧c≠w2.heap.size)):=hf5.mono fun c hh=>by
    rcases hh with hh|hh
    · exact ⟨hh.1,by omega⟩
    · exact ⟨by omega,by omega⟩
   have hoI:w2.heap.size≠bI:=fun e=>by have:=hne.2.1.1.2;omega
   have hB6:Below W1.heap.size W1 w5:=HL3.out.trans (hC6.below HL3.out.size (fun b e=>by subst e;exact hne.2.1.1.1))
   have HB6:Hid (Below W1.heap.size W1 w5):=hB6
   have HO6:Hid (qaa w5 w2.heap.size 2 (cel [.slice (some ⟨bI,0,none⟩) n cI, .slice (some ⟨bD,0,none⟩) 20 cD])):=HO3.out.block (hC6.block _ HO3.out.lt hoI)
   have p0:w5.cell? ⟨w2.heap.size,0,none⟩=some (.slice (some ⟨bI,0,none⟩) n cI):=HO6.out.cell (i:=0) (by omega)
   have p1:w5.cell? ⟨w2.heap.size,1,none⟩=some (.slice (some ⟨bD,0,none⟩) 20 cD):=HO6.out.cell (i:=1) (by omega)
   have y1:= (HI1.out.later hB6) 1 _ rfl
   obtain ⟨_,_,_,_,z0,-,-,-,-,-,-,-⟩:=HF6.out.ino z hzn
   rw [HDEL.out.kind,HKD.out] at z0
   have hS6:w2.heap.size+1≤w5.heap.size:=by
    have:=hC6.size
    omega
   clear hf5 hC6 hB6 HF3 HO3 HST HL3 hS3
   by_cases hk1:kd=1
   · have hkb1: (kd==1)=true:=by simpa using hk1
     have HR:Hid (RES=qgs dn z):=by unfold Hid;rw [←HRES.out,if_pos hk1]
     have hdl:=HDEL.out
     have hfl:=hdl.file (by rw [HKD.out];exact hk1)
     have HUN:Hid (Calls Tryz.prog 131 #[.agg #[.slice (some ⟨bI,0,none⟩) n cI, .slice (some ⟨bD,0,none⟩) 20 cD], .int .i64 (z:Int)] w5 (qcS w5 n (qgs dn z))):=by
      have:=qi6 w5 _ n cI _ 20 cD dn z HF6.out.fs.reads hdl.size (by rw [hdl.dat];exact HDAT.out) (by rw [hdl.len,HN.out];exact hzn) (by rw [hdl.len,HN.out];exact hten) hdl.ins hfl.1 hfl.2 hdl.blk hdl.four
      rw [hdl.len,HN.out] at this
      exact this
     clear hdl hfl hk1
     go_wp2_with fail
     refine HUN.out.mono ?_
     rintro e w7 ⟨bI2,cI2,bD2,cD2,rfl,hb7,hf7⟩
     have HO7:Hid (qaa w7 w2.heap.size 2 (cel [.slice (some ⟨bI,0,none⟩) n cI, .slice (some ⟨bD,0,none⟩) 20 cD])):=HO6.out.later hb7
     have HB7:Hid (Below W1.heap.size W1 w7):=HB6.out.trans (hb7.mono HB6.out.size)
     have hC8:Chg (fun c=>c=w2.heap.size) w7 ((w7.setCell ⟨w2.heap.size,0,none⟩ (.slice (some ⟨bI2,0,none⟩) n cI2)).setCell ⟨w2.heap.size,1,none⟩ (.slice (some ⟨bD2,0,none⟩) 20 cD2)):=Chg.set (F:=fun c=>c=w2.heap.size) (Chg.set (F:=fun c=>c=w2.heap.size) (Chg.refl _ w7) rfl 0 _) rfl 1 _
     have HF8:Hid (FsS ((w7.setCell ⟨w2.heap.size,0,none⟩ (.slice (some ⟨bI2,0,none⟩) n cI2)).setCell ⟨w2.heap.size,1,none⟩ (.slice (some ⟨bD2,0,none⟩) 20 cD2)) bI2 n cI2 bD2 20 cD2 (qgs dn z) (fun c=>w5.heap.size≤c)):=hf7.chg hC8 fun b hb e=>by omega
     have HB8:Hid (Below W1.heap.size W1 ((w7.setCell ⟨w2.heap.size,0,none⟩ (.slice (some ⟨bI2,0,none⟩) n cI2)).setCell ⟨w2.heap.size,1,none⟩ (.slice (some ⟨bD2,0,none⟩) 20 cD2))):= (HB7.out.setCell (by show W1.heap.size≤w2.heap.size;exact HS3.out.1) _).setCell (by show W1.heap.size≤w2.heap.size;exact HS3.out.1) _
     have u0:w7.cell? ⟨w2.heap.size,0,none⟩=some (.slice (some ⟨bI,0,none⟩) n cI):=HO7.out.cell (i:=0) (by omega)
     have u1:w7.cell? ⟨w2.heap.size,1,none⟩=some (.slice (some ⟨bD,0,none⟩) 20 cD):=HO7.out.cell (i:=1) (by omega)
     have uf0:=HO7.out.frozen 0
     have uf1:=HO7.out.frozen 1
     have hrr:=HR1.out.later HB8.out
     have t0: ((w7.setCell ⟨w2.heap.size,0,none⟩ (.slice (some ⟨bI2,0,none⟩) n cI2)).setCell ⟨w2.heap.size,1,none⟩ (.slice (some ⟨bD2,0,none⟩) 20 cD2)).cell? ⟨w.heap.size+1,0,none⟩=some (.int .i64 0):=hrr.cell (i:=0) (by omega)
     have t1: ((w7.setCell ⟨w2.heap.size,0,none⟩ (.slice (some ⟨bI2,0,none⟩) n cI2)).setCell ⟨w2.heap.size,1,none⟩ (.slice (some ⟨bD2,0,none⟩) 20 cD2)).cell? ⟨w.heap.size+1,1,none⟩=some (.slice none 0 0):=hrr.cell (i:=1) (by omega)
     have t2: ((w7.setCell ⟨w2.heap.size,0,none⟩ (.slice (some ⟨bI2,0,none⟩) n cI2)).setCell ⟨w2.heap.size,1,none⟩ (.slice (some ⟨bD2,0,none⟩) 20 cD2)).cell? ⟨w.heap.size+1,2,none⟩=some (.slice none 0 0):=hrr.cell (i:=2) (by omega)
     have s0:=hrr.frozen 0
     have s1:=hrr.frozen 1
     have s2:=hrr.frozen 2
     clear hrr hC8 hf7 hb7 z0 y1 p0 p1
     have hw1:w1.heap.size+1=W1.heap.size:=by omega
     go_wp2
     exact bodyPost_ret (v:= .agg #[.int .i64 0, .slice (some ⟨bI2,0,none⟩) n cI2, .slice (some ⟨bD2,0,none⟩) 20 cD2]) (by simp [results,Tryz.results101,go_sem,t0,t1,t2]) rfl (by rw [HR.out];exact qdL.box (HB1.out.trans (HB8.out.mono HB1.out.size)) (by omega) HF8.out (fun c hc=> ⟨by omega,by omega⟩) _ _ _)
   · have hkb1: (kd==1)=false:=by simpa using hk1
     have HR:Hid (RES=dn):=by unfold Hid;rw [←HRES.out,if_neg hk1]
     have hrr:=HR1.out.later HB6.out
     have t0:w5.cell? ⟨w.heap.size+1,0,none⟩=some (.int .i64 0):=hrr.cell (i:=0) (by omega)
     have t1:w5.cell? ⟨w.heap.size+1,1,none⟩=some (.slice none 0 0):=hrr.cell (i:=1) (by omega)
     have t2:w5.cell? ⟨w.heap.size+1,2,none⟩=some (.slice none 0 0):=hrr.cell (i:=2) (by omega)
     have s0:=hrr.frozen 0
     have s1:=hrr.frozen 1
     have s2:=hrr.frozen 2
     clear hrr hk1
     go_wp2
     exact bodyPost_ret (v:= .agg #[.int .i64 0, .slice (some ⟨bI,0,none⟩) n cI, .slice (some ⟨bD,0,none⟩) 20 cD]) (by simp [results,Tryz.results101,go_sem,t0,t1,t2]) rfl (by rw [HR.out];exact qdL.box (HB1.out.trans (HB6.out.mono HB1.out.size)) (by omega) HF6.out (fun c hc=> ⟨by omega,by omega⟩) _ _ _)
end Go.Proofs.YthnmlipnoajmkaaGreatDoor

namespace Go.Proofs.YthnmlipnoajmkaaGreatDoor
open Go.RowKit
set_option maxRecDepth 100000

set_option maxHeartbeats 6400000 in
theorem qbK (w:World) (bo bI n cI bD cD:Nat) (d:FD) (F:Nat→Prop) (j k:Nat) (h0:w.cell? ⟨bo,0,none⟩=some (.slice (some ⟨bI,0,none⟩) n cI)) (_h1:w.cell? ⟨bo,1,none⟩=some (.slice (some ⟨bD,0,none⟩) 20 cD)) (hfs:FsS w bI n cI bD 20 cD d F) (hn:d.1.length=n) (hjn:j<n) (_hten:n≤10) (hsix: (qac d j).length≤6) (hblk: (d.1[j]?.getD id0).2.2.2.1= []) (hk:k< (qac d j).length):
 Calls Tryz.prog 48 #[.pointer (some ⟨bo,0,none⟩), .int .i64 (j:Int), .int .i64 (k:Int)] w fun e w'=>e= .returned (.int .i64 ((qac d j)[k]?.getD en0).2)∧Chg (fun c=>c=bI) w w'∧FsS w' bI n cI bD 20 cD (qaH d j (qaO (qac d j) k)) (fun c=>F c∨w.heap.size≤c):=by
 have hjI: (j:Int)< (n:Int):=by omega
 obtain ⟨aB,cB,aE,cE,-,-,-,-,k4,hE⟩:=FsR.five hfs.fs.reads (j:=j) (by omega)
 rw [Nat.zero_add] at k4
 obtain ⟨-,hcE,hAt,-,hZ⟩:=hE.cap
 obtain ⟨_,_,_,_,-,-,-,-,-,-,i6,-⟩:=hfs.ino j hjn
 have k4f:=i6 (j*5+4)
 have hne:=hfs.ne
 have hlo:bo<w.heap.size:=World.block_lt_of_cell? _ _ h0
 have hlI:bI<w.heap.size:=hne.2.1.2
 have HFS:Hid (FsS w bI n cI bD 20 cD d F):=hfs
 have HZZ:Hid (∀i:Nat,((qaO (qac d j) k)[i]?.getD en0).1.size≤maxLen):=qiW hk hZ
 have HED:Hid (∀es,qaH d j es= (d.1.set j ((d.1[j]?.getD id0).1,(d.1[j]?.getD id0).2.1,(d.1[j]?.getD id0).2.2.1, [],es),d.2)):=fun _=>rfl
 have HBK:Hid ((d.1[j]?.getD id0).2.2.2.1= []):=hblk
 have HAT:Hid (AtN w aE (qac d j).length (qac d j)):=hAt
 obtain ⟨b,off,rfl,_,c1⟩:=hAt k hk
 clear hfs hE hAt hZ i6 hne hblk
 have HDE:Hid (qaO (qac d j) k= (qac d j).take k++ (qac d j).drop (k+1)):=rfl
 generalize qac d j=es at*
 obtain ⟨m,hm⟩: ∃m,es.length=m:= ⟨_,rfl⟩
 have HM:Hid (es.length=m):=hm
 rw [hm] at k4 hcE HAT hk hsix
 clear hm
 generalize hnes:qaO es k=nes at*
 clear hnes
 obtain ⟨k1,hk1⟩: ∃k1,k+1=k1:= ⟨_,rfl⟩
 rw [hk1] at HDE
 have hwr:IntKind.i64.wrap ((k:Int)+1)= (k1:Int):=by
  rw [show (k:Int)+1= (k1:Int) by omega]
  exact qfS _ (by omega) (by omega)
 have hk1I: (k1:Int)≤ (m:Int):=by omega
 have hk1N:k1≤m:=by omega
 have hkI: (k:Int)< (m:Int):=by omega
 have hkc:k≤cE:=by omega
 have hkk1:k≤k1:=by omega
 have hlt1: (es.take k).length=k:=by rw [List.length_take,HM.out];omega
 have HL1:Hid ((es.take k).length=k):=hlt1
 have HTK:Hid (∀W,Below w.heap.size w W→AtN W (some ⟨b,off,none⟩) k (es.take k)):=fun W hW=> ((HAT.out.take k (by omega)).later hW)
 have HDL:Hid ((es.drop k1).length=m-k1):=by unfold Hid;rw [List.length_drop,HM.out]
 have HTL:Hid (∀W,Below w.heap.size w W→AtN W (some ⟨b,off+k1*2,none⟩) (m-k1) (es.drop k1)):=fun W hW=> (HAT.out.drop k1).later hW
 have HT0:Hid (cE=k1→ ∀W A,AtN W A (m-k1) (es.drop k1)):=fun e W A i hi=>by omega
 have HA1:Hid (WdE (w.drew.alloc (.cells #[] 76)) w.heap.size (.slice (some ⟨w.heap.size,0,none⟩) 0 0) []):=WdE.lit0 w.drew w.heap.size (Nat.le_refl _)
 have HCELL:Hid (∀W,Below w.heap.size w W→W.cell? ⟨bo,0,none⟩=some (.slice (some ⟨bI,0,none⟩) n cI)∧W.cell? ⟨bI,j*5+4,none⟩=some (.slice (some ⟨b,off,none⟩) m cE)∧W.frozen? ⟨bI,j*5+4,none⟩=false):=fun W hW=> ⟨cell_later hW h0,cell_later hW k4,(hW.frozen (p:= ⟨bI,j*5+4,none⟩) hlI).trans k4f⟩
 have HEND:Hid (∀X a q c,Below w.heap.size w X→WdE X w.heap.size (.slice a q c) nes→Chg (fun c=>c=bI) w (X.setCell ⟨bI,j*5+4,none⟩ (.slice a q c))∧FsS (X.setCell ⟨bI,j*5+4,none⟩ (.slice a q c)) bI n cI bD 20 cD (qaH d j nes) (fun c=>F c∨w.heap.size≤c)):=fun X a q c hX hw=> ⟨Chg.set (F:=fun c=>c=bI) (Chg.of_below hX) rfl _ _,(((HFS.out.boundF.later hX).entS j hjn HBK.out nes _ (hw.own HZZ.out) (fun c hc=> ⟨fun hh=>by have:=hh.2;have:=hc.1;omega,hc.2⟩)).mono fun c hh=>by
  rcases hh with hh|hh
  · exact Or.inl hh.1
  · exact Or.inr hh.1)⟩
 have HF1:Hid True:=trivial
 generalize hy: (es[k]?.getD en0).2=y at*
 clear hlt1 hk1 hy HAT HFS HBK HZZ HED
 by_cases hce:cE=k1
 all_goals
  go_enter Tryz.func48,Tryz.ntmps48
  go_wp2_with fail
  go_region_law (first
   | (have f1:=HF1.out;clear HF1 f1
      refine qaI rfl _ _ 72 rfl _ _ rfl rfl _ (WdE.pushO _ 72 w.heap.size _ [] (es.take k) HA1.out (by simp) _ _ _ HL1.out (HTK.out _ ((Below.refl _ _).drew.trans (qab w.drew _))) (by simp;omega)) ?_
      rintro v1 X1 ⟨hw1,hb1,_⟩
      rw [List.nil_append] at hw1
      obtain ⟨p1,q1,e1⟩:=hw1.shape
      rw [HL1.out] at e1
      subst e1
      have HW1:Hid (WdE X1 w.heap.size (.slice p1 k q1) (es.take k)):=hw1
      have HX1:Hid (Below w.heap.size w X1):= (Below.refl _ _).drew.trans ((qab w.drew _).trans hb1)
      obtain ⟨g0,g1,g2⟩:=HCELL.out X1 HX1.out
      clear hw1 hb1)
   | (have f2:=HW1.out;clear HW1
      refine qaI rfl _ _ 72 rfl _ _ rfl rfl _ (WdE.pushO _ 72 w.heap.size _ (es.take k) (es.drop k1) f2 HX1.out.size _ _ _ HDL.out (by first|exact HTL.out _ HX1.out|exact HT0.out hce _ _) (by rw [HL1.out];omega)) ?_
      rintro v2 X2 ⟨hw2,hb2,_⟩
      rw [←HDE.out] at hw2
      obtain ⟨p2,q2,e2⟩:=hw2.shape
      subst e2
      have HX2:Hid (Below w.heap.size w X2):=HX1.out.trans hb2
      have HFIN:=HEND.out X2 _ _ _ HX2.out hw2
      have HC3:Hid (Chg (fun c=>c=bI) w _):=HFIN.1
      have HF3:Hid (FsS _ bI n cI bD 20 cD (qaH d j nes) (fun c=>F c∨w.heap.size≤c)):=HFIN.2
      obtain ⟨g3,g4,g5⟩:=HCELL.out X2 HX2.out
      clear hw2 hb2 f2 HFIN)
   |fail)
  all_goals
   go_wp2
   all_goals
    go_ret
    first
     |exact ⟨rfl,HC3.out,HF3.out⟩
     |exact ⟨rfl,HC3.out.trans (Chg.of_below (Below.refl _ _).drew),HF3.out.later (Below.refl _ _).drew⟩
end Go.Proofs.YthnmlipnoajmkaaGreatDoor
