/- The program's copying of a file system:the walk. The program's faults of lists of inodes and of busy blocks. The program's counts of who needs a block:an array. The program's counts,filled and read. The specification:what is wrong of a file system. The bytes of a file:the specification. -/
import Derived.Test.YthnmlipnoajmkaaGreatDoorM13
import Derived.Test.YthnmlipnoajmkaaGreatDoorM08
import Derived.Test.YthnmlipnoajmkaaGreatDoorM10
import Derived.Deep.WholeRow
import Derived.Test.YthnmlipnoajmkaaGreatDoorM05
import Derived.Deep.RegionHeld3
namespace Go.Proofs.YthnmlipnoajmkaaGreatDoor
open Go.RowKit
set_option maxRecDepth 100000

theorem qrV (W:World) (t:TypeId):qaa (W.alloc (.cells #[.slice none 0 0, .slice none 0 0] t)) W.heap.size 2 (fun _=> .slice none 0 0):= (qaa.two W (.slice none 0 0) (.slice none 0 0) t).congr fun i _=>by simp
theorem qj3 (a:Option Addr) (n c:Nat) (w:World): (Instr.field 136 (.agg #[.slice a n c]) 0).run Tryz.prog w= .ok (.slice a n c) w:=by kernel_rfl
set_option maxHeartbeats 64000000 in
theorem qcv (w:World) (a1:Option Addr) (n1 c1:Nat) (a2:Option Addr) (n2 c2:Nat) (d:FD) (h:FsR w (.slice a1 n1 c1) (.slice a2 n2 c2) d) (hs:sizeFs d≤1048576) (h60:d.2.length≤60):
 Calls Tryz.prog 58 #[.agg #[.slice a1 n1 c1, .slice a2 n2 c2]] w (qiw w d):=by
 obtain ⟨_,_,e1,hm1,hAt⟩:=h.1.open'
 obtain ⟨_,_,e2,hm2,hBt⟩:=h.2.open'
 simp only [Value.slice.injEq] at e1 e2
 obtain ⟨rfl,rfl,rfl⟩:=e1
 obtain ⟨rfl,rfl,rfl⟩:=e2
 obtain ⟨u0,hu0,hrow0⟩:=hAt.row
 have hsz:d.1.length+ (isz d.1).sum+ (d.2.length+ (qax d.2).sum)≤1048576:=hs
 have HSI:Hid (∀k:Nat,sizeIno (d.1[k]?.getD id0)≤1048576):=fun k=>by
  have:=qeg d.1 k
  omega
 have HU0:Hid (∀i,i<d.1.length→ ∃aB cB aE cE,u0 i= (.slice aB (d.1[i]?.getD id0).2.2.2.1.length cB, .slice aE (d.1[i]?.getD id0).2.2.2.2.length cE)∧qfs w (.int .i64 (d.1[i]?.getD id0).1) (.int .i64 (d.1[i]?.getD id0).2.1) (.int .i64 (d.1[i]?.getD id0).2.2.1) (u0 i).1 (u0 i).2 (d.1[i]?.getD id0)):=hu0
 have hn1:d.1.length≤1048576:=by omega
 have hmx:d.1.length≤maxLen:=hm1.1
 have HMX:Hid (d.1.length≤maxLen):=hmx
 have HCI:Hid (∀W,Below w.heap.size w W→Calls Tryz.prog 97 #[.slice a1 d.1.length c1] W fun e w'=> ∃bI,e= .returned (.slice (some ⟨bI,0,none⟩) d.1.length d.1.length)∧bI=W.heap.size∧Below W.heap.size W w'∧qaa w' bI (d.1.length*5) (qao d.1 u0)):=fun W hW=> (qjW d.1 u0 hn1 (fun i hi=>by
  obtain ⟨aB,cB,aE,cE,e,_⟩:=hu0 i hi
  rw [e]
  exact ⟨rfl,rfl⟩) (fun c hc=>by
  obtain ⟨b,off,e,hcell⟩:=hrow0 c hc
  exact ⟨b,off,e,cell_later hW hcell⟩)).mono fun _ _ ⟨h1,h2,h3⟩=> ⟨_,h1,rfl,h2,h3⟩
 have HCY:Hid (∀W,Below w.heap.size w W→Calls Tryz.prog 98 #[.slice a2 d.2.length c2] W fun e w'=> ∃g,e= .returned (.agg #[.slice (some ⟨g,0,none⟩) d.2.length d.2.length])∧Below W.heap.size W w'∧qaR w' (.slice (some ⟨g,0,none⟩) d.2.length d.2.length) d.2 (qaj W w')):=fun W hW=>qiz W a2 d.2.length c2 d.2 rfl h60 (fun k hk=>by have:=qg4 d.2 k;omega) (hBt.later hW)
 have HB0:Hid (Below w.heap.size w ((w.alloc (.cells #[.slice a1 d.1.length c1, .slice a2 d.2.length c2] 31)).alloc (.cells #[.slice none 0 0, .slice none 0 0] 31))):=qam _ _ _
 have hz0: ((w.alloc (.cells #[.slice a1 d.1.length c1, .slice a2 d.2.length c2] 31)).alloc (.cells #[.slice none 0 0, .slice none 0 0] 31)).heap.size=w.heap.size+2:=by simp
 have HBX:Hid (Bx ((w.alloc (.cells #[.slice a1 d.1.length c1, .slice a2 d.2.length c2] 31)).alloc (.cells #[.slice none 0 0, .slice none 0 0] 31)) w.heap.size [.slice a1 d.1.length c1, .slice a2 d.2.length c2]):= (Bx.new w [.slice a1 d.1.length c1, .slice a2 d.2.length c2] _).later (qab _ _)
 have HRS:Hid (qaa ((w.alloc (.cells #[.slice a1 d.1.length c1, .slice a2 d.2.length c2] 31)).alloc (.cells #[.slice none 0 0, .slice none 0 0] 31)) (w.heap.size+1) 2 (fun _=> .slice none 0 0)):=by
  have p2:=qaa.two (w.alloc (.cells #[.slice a1 d.1.length c1, .slice a2 d.2.length c2] 31)) (.slice none 0 0) (.slice none 0 0) 31
  rw [World.size_alloc] at p2
  exact p2.congr fun i _=>by simp
 obtain ⟨n,hn⟩: ∃n,d.1.length=n:= ⟨_,rfl⟩
 obtain ⟨m,hm⟩: ∃m,d.2.length=m:= ⟨_,rfl⟩
 have HN:Hid (d.1.length=n):=hn
 rw [hn,hm] at HB0 HBX HRS hz0 ⊢
 rw [hn] at HCI hn1 HMX HU0
 rw [hm] at HCY
 have hf:=fun a c w=>qj3 a m c w
 clear h hs hsz hAt hBt hm1 hm2 hn hm hu0 hrow0 h60 hmx
 go_enter Tryz.func58,Tryz.ntmps58
 go_wp2_with fail
 generalize ((w.alloc (.cells #[.slice a1 n c1, .slice a2 m c2] 31)).alloc (.cells #[.slice none 0 0, .slice none 0 0] 31))=W0 at*
 have x0:=HBX.out 0 _ rfl
 have x1:=HBX.out 1 _ rfl
 have hw0:w.heap.size<W0.heap.size:=by omega
 have HZ0:Hid (W0.heap.size=w.heap.size+2):=hz0
 clear hz0
 go_region_with (first
  | (have h0:=HB0.out;clear HB0;go_at_call 97
     refine (HCI.out _ (by first|exact h0.drew|exact (h0.trans ((qab _ _).mono h0.size)).drew)).mono ?_;rintro e v1 ⟨bI,rfl,ebI,hb,hr⟩
     have HV1:Hid (Below W0.heap.size W0 v1):=by first|exact (Below.refl _ _).drew.trans hb|exact ((qab _ _).drew).trans (hb.mono (by simp))
     try (have HZ1:Hid (qaa v1 W0.heap.size 2 (fun _=> .slice none 0 0)):=qaa.later (qrV _ _) ((Below.refl _ _).drew.trans hb))
     simp at ebI
     first| (have HEB:Hid (bI=W0.heap.size):=ebI)| (have HEB:Hid (bI=W0.heap.size+1):=ebI)
     clear ebI
     have HI1:Hid (qaa v1 bI (n*5) (qao d.1 u0)):=hr
     have HW1:Hid (Below w.heap.size w v1):=h0.trans (HV1.out.mono h0.size)
     have y1:=cell_later HV1.out x1
     have y0':=cell_later HV1.out x0
     have hwv:w.heap.size<v1.heap.size:=Nat.lt_of_lt_of_le hw0 HV1.out.size
     have HVL:Hid (W0.heap.size≤v1.heap.size∧bI<v1.heap.size):= ⟨HV1.out.size,HI1.out.lt⟩
     clear hb hr h0)
  | (have h0:=HB0.out;clear HB0;go_at_call 98
     refine (HCY.out _ (by first|exact h0.drew|exact (h0.trans ((qab _ _).mono h0.size)).drew)).mono ?_;rintro e v1 ⟨g,rfl,hb,hy⟩
     have HV1:Hid (Below W0.heap.size W0 v1):=by first|exact (Below.refl _ _).drew.trans hb|exact ((qab _ _).drew).trans (hb.mono (by simp))
     try (have HZ1:Hid (qaa v1 W0.heap.size 2 (fun _=> .slice none 0 0)):=qaa.later (qrV _ _) ((Below.refl _ _).drew.trans hb))
     have HY1:Hid (∃lY hY,qaR v1 (.slice (some ⟨g,0,none⟩) m m) d.2 (fun c=>lY≤c∧c<hY)∧hY=v1.heap.size∧W0.heap.size≤lY∧ (lY=W0.heap.size∨lY=W0.heap.size+1)):= ⟨_,_,hy,rfl,by simp,by simp⟩
     try (have HY1C:Hid (qaR v1 (.slice (some ⟨g,0,none⟩) m m) d.2 (fun c=>W0.heap.size+1≤c∧c<v1.heap.size)):=hy.mono fun c hc=> ⟨by have:=hc.1;simp at this;omega,hc.2⟩)
     have HW1:Hid (Below w.heap.size w v1):=h0.trans (HV1.out.mono h0.size)
     have y0:=cell_later HV1.out x0
     have y1':=cell_later HV1.out x1
     have hwv:w.heap.size<v1.heap.size:=Nat.lt_of_lt_of_le hw0 HV1.out.size
     have HVL:Hid (W0.heap.size≤v1.heap.size):=HV1.out.size
     clear hb hy h0)
  | (have h1:=HI1.out;clear HI1;go_at_call 98
     refine (HCY.out _ (by first|exact HW1.out|exact HW1.out.trans ((qab _ _).mono HW1.out.size))).mono ?_;rintro e v2 ⟨g,rfl,hb,hy⟩
     have HVV:Hid (Below v1.heap.size v1 v2):=by first|exact hb|exact (qab _ _).trans (hb.mono (by simp))
     try (have HZ2:Hid (qaa v2 v1.heap.size 2 (fun _=> .slice none 0 0)):=qaa.later (qrV _ _) hb)
     try (have HZ2:Hid (qaa v2 W0.heap.size 2 (fun _=> .slice none 0 0)):=HZ1.out.later HVV.out)
     try (have zc0:=HZ2.out.cell (i:=0) (by omega);have zc1:=HZ2.out.cell (i:=1) (by omega);have zf0:=HZ2.out.frozen 0;have zf1:=HZ2.out.frozen 1;have zl:=HZ2.out.lt)
     have HRI:Hid (qaa v2 bI (n*5) (qao d.1 u0)):=h1.later HVV.out
     have HYI:Hid (∃lY hY,qaR v2 (.slice (some ⟨g,0,none⟩) m m) d.2 (fun c=>lY≤c∧c<hY)∧hY=v2.heap.size∧v1.heap.size≤lY∧ (lY=v1.heap.size∨lY=v1.heap.size+1)):= ⟨_,_,hy,rfl,by simp,by simp⟩
     try (have HYP:Hid (qaR v2 (.slice (some ⟨g,0,none⟩) m m) d.2 (fun c=>v1.heap.size+1≤c∧c<v2.heap.size)):=hy.mono fun c hc=> ⟨by have:=hc.1;simp at this;omega,hc.2⟩)
     clear hb hy h1)
  | (have h1:=HY1.out;clear HY1;go_at_call 97
     refine (HCI.out _ (by first|exact HW1.out|exact HW1.out.trans ((qab _ _).mono HW1.out.size))).mono ?_;rintro e v2 ⟨bI,rfl,ebI,hb,hr⟩
     have HVV:Hid (Below v1.heap.size v1 v2):=by first|exact hb|exact (qab _ _).trans (hb.mono (by simp))
     try (have HZ2:Hid (qaa v2 v1.heap.size 2 (fun _=> .slice none 0 0)):=qaa.later (qrV _ _) hb)
     try (have HZ2:Hid (qaa v2 W0.heap.size 2 (fun _=> .slice none 0 0)):=HZ1.out.later HVV.out)
     try (have zc0:=HZ2.out.cell (i:=0) (by omega);have zc1:=HZ2.out.cell (i:=1) (by omega);have zf0:=HZ2.out.frozen 0;have zf1:=HZ2.out.frozen 1;have zl:=HZ2.out.lt)
     simp at ebI
     first| (have HEB:Hid (bI=v1.heap.size):=ebI)| (have HEB:Hid (bI=v1.heap.size+1):=ebI)
     clear ebI
     have HRI:Hid (qaa v2 bI (n*5) (qao d.1 u0)):=hr
     have HYI:Hid (∃lY hY,qaR v2 (.slice (some ⟨g,0,none⟩) m m) d.2 (fun c=>lY≤c∧c<hY)∧hY=v1.heap.size∧W0.heap.size≤lY∧ (lY=W0.heap.size∨lY=W0.heap.size+1)):=by
      obtain ⟨lY,hY,hy,e1,e2,e3⟩:=h1
      exact ⟨lY,hY,hy.later HVV.out,e1,e2,e3⟩
     try (have HYP:Hid (qaR v2 (.slice (some ⟨g,0,none⟩) m m) d.2 (fun c=>W0.heap.size+1≤c∧c<v1.heap.size)):=HY1C.out.later HVV.out)
     clear hb hr h1))
 all_goals
  have hrl:=HRI.out.lt
  obtain ⟨lY,hY,hyI,el1,el2,el3⟩:=HYI.out
  have HW2:Hid (Below w.heap.size w v2):=HW1.out.trans (HVV.out.mono HW1.out.size)
  have HR2:Hid (qaa v2 (w.heap.size+1) 2 (fun _=> .slice none 0 0)):= (HRS.out.later HV1.out).later HVV.out
 all_goals
  have k0:=HEB.out
  have k1:=HVL.out
  have k2:=HZ0.out
  have k3:=HVV.out.size
  first
   | (have HST:Hid (CfI w d n m bI g v1.heap.size (v2.heap.size) u0 ((v2.setCell ⟨v1.heap.size,0,none⟩ (.slice (some ⟨bI,0,none⟩) n n)).setCell ⟨v1.heap.size,1,none⟩ (.slice (some ⟨g,0,none⟩) m m)) 0):=by
       first
       |exact ⟨(HW2.out.setCell (by simp;omega) _).setCell (by simp;omega) _,⟨⟨by omega,by omega⟩,⟨by omega,by omega⟩,by omega,by simp [World.setCell]⟩,(HR2.out.store (by simp;omega) _).store (by simp;omega) _,((HZ2.out.set 0 _).set 1 _).congr fun i hi=>by rcases (show i=0∨i=1 by omega) with rfl|rfl<;>rfl,((HYP.out.keep fun b hb _=>by rw [Below.heap_setCell _ _ _ _ (by simp;omega),Below.heap_setCell _ _ _ _ (by simp;omega)])).mono fun c hc=> ⟨by omega,by omega,by omega,by omega⟩,fun _=> (.slice none 0 0, .slice none 0 0),_,((HRI.out.store (by simp;omega) _).store (by simp;omega) _).congr fun c _=>by simp,BuiltI.nil _ _ (by simp [World.setCell])⟩
       |exact ⟨(HW2.out.setCell (by simp;omega) _).setCell (by simp;omega) _,⟨⟨by omega,by omega⟩,⟨by omega,by omega⟩,by omega,by simp [World.setCell]⟩,(HR2.out.store (by simp;omega) _).store (by simp;omega) _,((HZ2.out.set 0 _).set 1 _).congr fun i hi=>by rcases (show i=0∨i=1 by omega) with rfl|rfl<;>rfl,((hyI.keep fun b hb _=>by rw [Below.heap_setCell _ _ _ _ (by simp;omega),Below.heap_setCell _ _ _ _ (by simp;omega)])).mono fun c hc=> ⟨by omega,by omega,by omega,by omega⟩,fun _=> (.slice none 0 0, .slice none 0 0),_,((HRI.out.store (by simp;omega) _).store (by simp;omega) _).congr fun c _=>by simp,BuiltI.nil _ _ (by simp [World.setCell])⟩
      obtain ⟨lo,HST⟩: ∃lo,Hid (CfI w d n m bI g v1.heap.size lo u0 ((v2.setCell ⟨v1.heap.size,0,none⟩ (.slice (some ⟨bI,0,none⟩) n n)).setCell ⟨v1.heap.size,1,none⟩ (.slice (some ⟨g,0,none⟩) m m)) 0):= ⟨_,HST⟩
      clear hyI el1 el2 el3 HEB HVL HZ0 hrl HYI HRI HR2 HW2 HVV HV1 HRS HBX HCI HCY
      generalize (v2.setCell ⟨v1.heap.size,0,none⟩ (.slice (some ⟨bI,0,none⟩) n n)).setCell ⟨v1.heap.size,1,none⟩ (.slice (some ⟨g,0,none⟩) m m)=W5 at*
      generalize v1.heap.size=so at*)
   | (have HST:Hid (CfI w d n m bI g W0.heap.size (v2.heap.size) u0 ((v2.setCell ⟨W0.heap.size,0,none⟩ (.slice (some ⟨bI,0,none⟩) n n)).setCell ⟨W0.heap.size,1,none⟩ (.slice (some ⟨g,0,none⟩) m m)) 0):=by
       first
       |exact ⟨(HW2.out.setCell (by simp;omega) _).setCell (by simp;omega) _,⟨⟨by omega,by omega⟩,⟨by omega,by omega⟩,by omega,by simp [World.setCell]⟩,(HR2.out.store (by simp;omega) _).store (by simp;omega) _,((HZ2.out.set 0 _).set 1 _).congr fun i hi=>by rcases (show i=0∨i=1 by omega) with rfl|rfl<;>rfl,((HYP.out.keep fun b hb _=>by rw [Below.heap_setCell _ _ _ _ (by simp;omega),Below.heap_setCell _ _ _ _ (by simp;omega)])).mono fun c hc=> ⟨by omega,by omega,by omega,by omega⟩,fun _=> (.slice none 0 0, .slice none 0 0),_,((HRI.out.store (by simp;omega) _).store (by simp;omega) _).congr fun c _=>by simp,BuiltI.nil _ _ (by simp [World.setCell])⟩
       |exact ⟨(HW2.out.setCell (by simp;omega) _).setCell (by simp;omega) _,⟨⟨by omega,by omega⟩,⟨by omega,by omega⟩,by omega,by simp [World.setCell]⟩,(HR2.out.store (by simp;omega) _).store (by simp;omega) _,((HZ2.out.set 0 _).set 1 _).congr fun i hi=>by rcases (show i=0∨i=1 by omega) with rfl|rfl<;>rfl,((hyI.keep fun b hb _=>by rw [Below.heap_setCell _ _ _ _ (by simp;omega),Below.heap_setCell _ _ _ _ (by simp;omega)])).mono fun c hc=> ⟨by omega,by omega,by omega,by omega⟩,fun _=> (.slice none 0 0, .slice none 0 0),_,((HRI.out.store (by simp;omega) _).store (by simp;omega) _).congr fun c _=>by simp,BuiltI.nil _ _ (by simp [World.setCell])⟩
      obtain ⟨lo,HST⟩: ∃lo,Hid (CfI w d n m bI g W0.heap.size lo u0 ((v2.setCell ⟨W0.heap.size,0,none⟩ (.slice (some ⟨bI,0,none⟩) n n)).setCell ⟨W0.heap.size,1,none⟩ (.slice (some ⟨g,0,none⟩) m m)) 0):= ⟨_,HST⟩
      clear hyI el1 el2 el3 HEB HVL HZ0 hrl HYI HRI HR2 HW2 HVV HV1 HRS HBX HCI HCY
      generalize (v2.setCell ⟨W0.heap.size,0,none⟩ (.slice (some ⟨bI,0,none⟩) n n)).setCell ⟨W0.heap.size,1,none⟩ (.slice (some ⟨g,0,none⟩) m m)=W5 at*
      generalize W0.heap.size=so at*)
   | (have HST:Hid (CfI w d n m bI g v2.heap.size (v2.heap.size+1) u0 (v2.alloc (.cells #[.slice (some ⟨bI,0,none⟩) n n, .slice (some ⟨g,0,none⟩) m m] 31)) 0):=by
       first
       |exact ⟨HW2.out.trans ((qab _ _).mono HW2.out.size),⟨⟨by omega,by omega⟩,⟨by omega,by omega⟩,by omega,by simp⟩,HR2.out.later (qab _ _),qaa.two _ _ _ _,((hyI.later (qab _ _))).mono fun c hc=> ⟨by omega,by omega,by omega,by omega⟩,fun _=> (.slice none 0 0, .slice none 0 0),_,(HRI.out.later (qab _ _)).congr fun c _=>by simp,BuiltI.nil _ _ (by simp)⟩
      obtain ⟨lo,HST⟩: ∃lo,Hid (CfI w d n m bI g v2.heap.size lo u0 (v2.alloc (.cells #[.slice (some ⟨bI,0,none⟩) n n, .slice (some ⟨g,0,none⟩) m m] 31)) 0):= ⟨_,HST⟩
      clear hyI el1 el2 el3 HEB HVL HZ0 hrl HYI HRI HR2 HW2 HVV HV1 HRS HBX HCI HCY
      generalize v2.alloc (.cells #[.slice (some ⟨bI,0,none⟩) n n, .slice (some ⟨g,0,none⟩) m m] 31)=W5 at*
      generalize v2.heap.size=so at*)
  have ho0:W5.cell? ⟨so,0,none⟩=some (.slice (some ⟨bI,0,none⟩) n n):=HST.out.2.2.2.1.cell (i:=0) (by omega)
  clear k0 k1 k2 k3
  go_wp2_with fail
  go_loopw [17] (fun i wr=> ∃j:Nat,j≤n∧i= .int .i64 j∧CfI w d n m bI g so lo u0 wr j) (fun i _=>n- (intOf i).toNat)
  case atStart=>exact ⟨0,Nat.zero_le _,rfl,HST.out⟩
  case round=>
   clear HST
   obtain ⟨j,hj,rfl,hc⟩:=hrel
   have HC:Hid (CfI w d n m bI g so lo u0 wr j):=hc
   have hl:=hc.2.1
   have hl1:so<wr.heap.size:=by omega
   have hl2:bI<wr.heap.size:=by omega
   have o0:wr.cell? ⟨so,0,none⟩=some (.slice (some ⟨bI,0,none⟩) n n):=hc.2.2.2.1.cell (i:=0) (by omega)
   by_cases hlt:j<n
   · obtain ⟨i0,i1,i2,i3,i4,i5⟩:=hc.ino hlt
     obtain ⟨aB,cB,aE,cE,eu,hir⟩:=HU0.out j hlt
     rw [eu] at i3 i4 hir
     have i50:=i5 (j*5)
     have i51:=i5 (j*5+1)
     have i52:=i5 (j*5+2)
     have i53:=i5 (j*5+3)
     have i54:=i5 (j*5+4)
     have HCN:Hid (∀W,Below wr.heap.size wr W→Calls Tryz.prog 99 #[.agg #[.int .i64 (d.1[j]?.getD id0).1, .int .i64 (d.1[j]?.getD id0).2.1, .int .i64 (d.1[j]?.getD id0).2.2.1, .slice aB (d.1[j]?.getD id0).2.2.2.1.length cB, .slice aE (d.1[j]?.getD id0).2.2.2.2.length cE]] W (qmR W (d.1[j]?.getD id0))):=fun W hW=>qfP W aB _ cB aE _ cE _ ((hir.later hc.1).later hW) (HSI.out j)
     have HNX:Hid (∀W vB vE,Below wr.heap.size wr W→qdo W (.int .i64 (d.1[j]?.getD id0).1) (.int .i64 (d.1[j]?.getD id0).2.1) (.int .i64 (d.1[j]?.getD id0).2.2.1) vB vE (d.1[j]?.getD id0) (qaj wr W)→CfI w d n m bI g so lo u0 (qcB W bI (j*5) (.int .i64 (d.1[j]?.getD id0).1) (.int .i64 (d.1[j]?.getD id0).2.1) (.int .i64 (d.1[j]?.getD id0).2.2.1) vB vE) (j+1)):=fun W vB vE hW hv=>hc.next (by rw [HN.out];exact hlt) hW vB vE hv
     clear hc hir i5 eu HSI HU0
     obtain ⟨x,hx⟩: ∃x,d.1[j]?.getD id0=x:= ⟨_,rfl⟩
     rw [hx] at i0 i1 i2 i3 i4 HCN HNX
     clear hx
     obtain ⟨z0,z1,z2,zb,ze⟩:=x
     dsimp only at i0 i1 i2 i3 i4 HCN HNX
     have hne1:so≠bI:=by omega
     have hne2:bI≠so:=by omega
     have hne3:wr.heap.size≠bI:=by omega
     have hne4:bI≠wr.heap.size:=by omega
     generalize zb.length=lB at*
     generalize ze.length=lE at*
     go_wp2_with fail
     go_region_held3 (fun W=>W.cell? ⟨so,0,none⟩=some (.slice (some ⟨bI,0,none⟩) n n)∧W.cell? ⟨wr.heap.size,0,none⟩=some (.int .i64 z0)∧W.cell? ⟨wr.heap.size,1,none⟩=some (.int .i64 z1)∧W.cell? ⟨wr.heap.size,2,none⟩=some (.int .i64 z2)∧W.cell? ⟨wr.heap.size,3,none⟩=some (.slice aB lB cB)∧W.cell? ⟨wr.heap.size,4,none⟩=some (.slice aE lE cE)) (go_keep) (first
      | (go_at_call 99;refine (HCN.out _ (qab _ _).drew).mono ?_;rintro e v3 ⟨b1,m1,e1,b2,m2,e2,rfl,hb,ho⟩
         have HB3:Hid (Below wr.heap.size wr v3):= ((qab wr _).drew).trans (hb.mono (by simp [World.drew]))
         have hX3:Bx v3 wr.heap.size [.int .i64 z0, .int .i64 z1, .int .i64 z2, .slice aB lB cB, .slice aE lE cE]:= ((Bx.new wr [.int .i64 z0, .int .i64 z1, .int .i64 z2, .slice aB lB cB, .slice aE lE cE] _).later (Below.refl _ _).drew).later hb
         have g0:=hX3 0 _ rfl
         have g1:=hX3 1 _ rfl
         have g2:=hX3 2 _ rfl
         have g3:=hX3 3 _ rfl
         have g4:=hX3 4 _ rfl
         have k0:=cell_later HB3.out o0
         have k1:=cell_later HB3.out i0
         have k2:=cell_later HB3.out i1
         have k3:=cell_later HB3.out i2
         have k4:=cell_later HB3.out i3
         have k5:=cell_later HB3.out i4
         have f0:= (HB3.out.frozen (p:= ⟨bI,j*5,none⟩) hl2).trans i50
         have f1:= (HB3.out.frozen (p:= ⟨bI,j*5+1,none⟩) hl2).trans i51
         have f2:= (HB3.out.frozen (p:= ⟨bI,j*5+2,none⟩) hl2).trans i52
         have f3:= (HB3.out.frozen (p:= ⟨bI,j*5+3,none⟩) hl2).trans i53
         have f4:= (HB3.out.frozen (p:= ⟨bI,j*5+4,none⟩) hl2).trans i54
         have HNN:Hid (CfI w d n m bI g so lo u0 (qcB v3 bI (j*5) (.int .i64 z0) (.int .i64 z1) (.int .i64 z2) (.slice b1 m1 e1) (.slice b2 m2 e2)) (j+1)):=HNX.out v3 _ _ HB3.out (ho.mono fun c hc=> ⟨by have:=hc.1;simp [World.drew] at this;omega,hc.2⟩)
         clear hb ho)
      |fail)
     all_goals
      clear HCN HNX
      go_wp2
      go_roundw
      case rel=>exact ⟨j+1,by omega,by go_num,HNN.out⟩
      case measure=>simp [intOf];omega
   · have e:j=n:=by omega
     subst e
     have HFS:Hid (FsU wr (.slice (some ⟨bI,0,none⟩) j j) (.slice (some ⟨g,0,none⟩) m m) d (fun c=>w.heap.size+2≤c∧c<wr.heap.size)):=hc.fs HN.out HMX.out
     have HBW:Hid (Below w.heap.size w wr):=hc.1
     have o1:wr.cell? ⟨so,1,none⟩=some (.slice (some ⟨g,0,none⟩) m m):=hc.2.2.2.1.cell (i:=1) (by omega)
     have hrr:=hc.2.2.1
     have t0:=hrr.cell (i:=0) (by omega)
     have t1:=hrr.cell (i:=1) (by omega)
     have s0:=hrr.frozen 0
     have s1:=hrr.frozen 1
     clear hc hrr HC
     go_wp2
     refine bodyPost_ret (v:= .agg #[.slice (some ⟨bI,0,none⟩) j j, .slice (some ⟨g,0,none⟩) m m]) (by simp [results,Tryz.results58,go_sem,t0,t1]) rfl ⟨_,_,_,_,_,_,rfl,(HBW.out.setCell (by simp) _).setCell (by simp) _,(HFS.out.keep fun b hb _=> ?_).mono fun b hb=> ?_⟩
     · rw [Below.heap_setCell _ _ _ _ (by simp;omega),Below.heap_setCell _ _ _ _ (by simp;omega)]
     · unfold qaj
       simp only [World.setCell,Array.size_modify]
       omega
end Go.Proofs.YthnmlipnoajmkaaGreatDoor

namespace Go.Proofs.YthnmlipnoajmkaaGreatDoor
open Go.RowKit
set_option maxRecDepth 100000

set_option maxHeartbeats 800000 in
theorem qfg (w:World) (a:Option Addr) (n c:Nat) (hn:10<n):
 Calls Tryz.prog 116 #[.slice a n c] w fun e w'=>e= .returned (.int .i64 2)∧w'=w:=by
 have h6:decide ((10:Int)< (n:Int))=true:=by simp;omega
 go_enter Tryz.func116,Tryz.ntmps116
 go_wp2
 go_ret
 exact ⟨rfl,rfl⟩

set_option maxHeartbeats 1600000 in
theorem qfh (w:World) (a:Option Addr) (n c:Nat) (ds:List ID) (hn:n≤10) (hdn:ds.length=n) (hz: ∀k:Nat,sizeIno (ds[k]?.getD id0)≤1048576) (hc:AtI w a n ds):
 Calls Tryz.prog 116 #[.slice a n c] w fun e w'=>e= .returned (.int .i64 (qaJ (fun i=>qbl (ds[i]?.getD id0)) ds.length))∧Below w.heap.size w w':=by
 have HC:Hid (AtI w a n ds):=hc
 have HN:Hid (ds.length=n):=hdn
 have HSZ:Hid (∀k:Nat,sizeIno (ds[k]?.getD id0)≤1048576):=hz
 have h6:decide ((10:Int)< (n:Int))=false:=by simp;omega
 clear hc hdn hz
 go_enter Tryz.func116,Tryz.ntmps116
 go_wp2
 go_loopw [11] (fun i wr=> ∃j:Nat,j≤n∧i= .int .i64 j∧Below w.heap.size w wr∧ ∀i:Nat,i<j→qbl (ds[i]?.getD id0)=0) (fun i _=>n- (intOf i).toNat)
 case atStart=>exact ⟨0,Nat.zero_le _,rfl,Below.refl _ _,fun i hi=>by omega⟩
 case round=>
  obtain ⟨j,hj,rfl,hbl,hz⟩:=hrel
  have HZ:Hid (∀i:Nat,i<j→qbl (ds[i]?.getD id0)=0):=hz
  have HBL:Hid (Below w.heap.size w wr):=hbl
  clear hz hbl
  by_cases hlt:j<n
  · obtain ⟨b,o,rfl,hI⟩:=HC.out j hlt
    obtain ⟨aB,cB,aE,cE,c0,c1,c2,c3,c4,hR⟩:=hI.later HBL.out
    have HF:Hid (∀W,Below wr.heap.size wr W→Calls Tryz.prog 139 #[.agg #[.int .i64 (ds[j]?.getD id0).1, .int .i64 (ds[j]?.getD id0).2.1, .int .i64 (ds[j]?.getD id0).2.2.1, .slice aB (ds[j]?.getD id0).2.2.2.1.length cB, .slice aE (ds[j]?.getD id0).2.2.2.2.length cE]] W fun e w'=>e= .returned (.int .i64 (qbl (ds[j]?.getD id0)))∧Below W.heap.size W w'):=fun W hW=>qol W _ _ _ aB _ cB aE _ cE (ds[j]?.getD id0) (hR.later hW) (HSZ.out j)
    clear hI hR
    have HR:Hid (qbl (ds[j]?.getD id0)=0→ (∀i:Nat,i<j+1→qbl (ds[i]?.getD id0)=0)):=fun h i hi=>by
     by_cases e:i=j
     · subst e;exact h
     · exact HZ.out i (by omega)
    have HT:Hid (¬qbl (ds[j]?.getD id0)=0→qbl (ds[j]?.getD id0)=qaJ (fun i=>qbl (ds[i]?.getD id0)) ds.length):=fun h=> (qbx (f:=fun i=>qbl (ds[i]?.getD id0)) HZ.out h (by rw [HN.out];exact hlt)).symm
    by_cases hzz:qbl (ds[j]?.getD id0)=0
    · have HR':Hid (∀i:Nat,i<j+1→qbl (ds[i]?.getD id0)=0):=HR.out hzz
      have HZZ:Hid (qbl (ds[j]?.getD id0)=0):=hzz
      clear HR HT hzz HC
      go_wp2_with fail
      refine (HF.out _ (by first|exact Below.refl _ _|exact qab _ _|exact qam _ _ _)).mono ?_
      rw [HZZ.out]
      rintro e w1 ⟨rfl,hb⟩
      have HB1:Hid (Below w.heap.size w w1):=by first|exact HBL.out.trans (hb.mono HBL.out.size)|exact (HBL.out.trans ((qab _ _).mono HBL.out.size)).trans (hb.mono (HBL.out.trans ((qab _ _).mono HBL.out.size)).size)
      clear hb
      go_wp2
      go_roundw
      case rel=>exact ⟨j+1,by omega,by go_num,HB1.out,HR'.out⟩
      case measure=>simp [intOf];omega
    · have HT':Hid (qbl (ds[j]?.getD id0)=qaJ (fun i=>qbl (ds[i]?.getD id0)) ds.length):=HT.out hzz
      have hzb: (qbl (ds[j]?.getD id0) !=0)=true:=by simpa using hzz
      clear HR HT HC hzz
      generalize qbl (ds[j]?.getD id0)=r at*
      go_wp2_with fail
      refine (HF.out _ (by first|exact Below.refl _ _|exact qab _ _|exact qam _ _ _)).mono ?_
      rintro e w1 ⟨rfl,hb⟩
      have HB1:Hid (Below w.heap.size w w1):=by first|exact HBL.out.trans (hb.mono HBL.out.size)|exact (HBL.out.trans ((qab _ _).mono HBL.out.size)).trans (hb.mono (HBL.out.trans ((qab _ _).mono HBL.out.size)).size)
      clear hb
      go_wp2
      go_ret
      exact ⟨qad HT'.out,HB1.out⟩
  · go_wp2
    go_ret
    exact ⟨qad (qaG (fun i hi=>HZ.out i (by rw [HN.out] at hi;omega))).symm,HBL.out⟩
theorem qdp {w:World} {v:Value} {ds:List ID} (h:qdJ w v ds) (hs:qag ds≤1048576):
 Calls Tryz.prog 116 #[v] w fun e w'=>e= .returned (.int .i64 (qaY ds))∧Below w.heap.size w w':=by
 obtain ⟨a,cap,rfl,hm,hc⟩:=h.open'
 unfold qaY
 by_cases h:10<ds.length
 · rw [if_pos h]
   exact (qfg w _ _ _ h).mono fun e w' ⟨h1,h2⟩=> ⟨h1,h2▸Below.refl _ _⟩
 · rw [if_neg h]
   exact qfh w _ _ _ ds (by omega) rfl (fun k=>by have:=qeg ds k;unfold qag at hs;omega) hc
end Go.Proofs.YthnmlipnoajmkaaGreatDoor

namespace Go.Proofs.YthnmlipnoajmkaaGreatDoor
open Go.RowKit
set_option maxRecDepth 100000

def qbX (f:Nat→Nat):Array Value:= ((List.range 20).map fun i=>qjO ((f i:Nat):Int)).toArray
theorem qbf (f:Nat→Nat): (qbX f).size=20:=by simp [qbX]
theorem qhr (f:Nat→Nat) {i:Nat} (h:i<20): (qbX f)[i]?=some (.int .i64 ((f i:Nat):Int)):=by
 simp [qbX,h,qjO]
theorem qoq (f:Nat→Nat) (q x:Nat): (qbX f).setIfInBounds q (.int .i64 ((x:Nat):Int))=qbX (fun i=>if i=q then x else f i):=by
 apply Array.ext_getElem?
 intro i
 rw [Array.getElem?_setIfInBounds]
 by_cases hi:i<20
 · rw [qhr _ hi,qhr _ hi,qbf]
   by_cases e:q=i
   · subst e;simp [hi]
   · rw [if_neg e,if_neg (fun h=>e h.symm)]
 · have h1: (qbX f)[i]?=none:=by rw [Array.getElem?_eq_none_iff,qbf];omega
   have h2: (qbX (fun i=>if i=q then x else f i))[i]?=none:=by rw [Array.getElem?_eq_none_iff,qbf];omega
   rw [h1,h2,qbf]
   by_cases e:q=i
   · subst e;simp [hi]
   · rw [if_neg e]
def Arr (w:World) (b:Nat) (f:Nat→Nat):Prop:=w.heap[b]?=some (.cells (qbX f) 151)
theorem Arr.cell {w:World} {b:Nat} {f:Nat→Nat} (h:Arr w b f) {i:Nat} (hi:i<20):w.cell? ⟨b,i,none⟩=some (.int .i64 ((f i:Nat):Int)):=by
 simp [World.cell?,show w.heap[b]?=some (.cells (qbX f) 151) from h,qhr f hi]
theorem Arr.frozen {w:World} {b:Nat} {f:Nat→Nat} (h:Arr w b f) (i:Nat):w.frozen? ⟨b,i,none⟩=false:=by
 simp [World.frozen?,show w.heap[b]?=some (.cells (qbX f) 151) from h]
theorem Arr.lt {w:World} {b:Nat} {f:Nat→Nat} (h:Arr w b f):b<w.heap.size:= (Array.getElem?_eq_some_iff.1 h).1
theorem Arr.later {w w':World} {b:Nat} {f:Nat→Nat} (h:Arr w b f) (hb:Below w.heap.size w w'):Arr w' b f:= (hb.block b h.lt).trans h
theorem Arr.set {w:World} {b:Nat} {f:Nat→Nat} (h:Arr w b f) (q x:Nat):Arr (w.setCell ⟨b,q,none⟩ (.int .i64 ((x:Nat):Int))) b (fun i=>if i=q then x else f i):=by
 have h':w.heap[b]?=some (.cells (qbX f) 151):=h
 unfold Arr
 rw [←qoq f q x]
 simp [World.setCell,Array.getElem?_modify,h']
theorem Arr.store {w:World} {b:Nat} {f:Nat→Nat} (h:Arr w b f) {p:Addr} (hp:b≠p.block) (v:Value):Arr (w.setCell p v) b f:= (Below.heap_setCell _ _ _ _ hp).trans h
theorem Arr.new (w:World) (f:Nat→Nat):Arr (w.alloc (.cells (qbX f) 151)) w.heap.size f:=Go.Deep.blk_alloc_new _ _

theorem qor (f:Nat→Nat): (qbX f).all (·.oneCell')=true:=by
 unfold qbX
 rw [Array.all_eq_true_iff_forall_mem]
 intro v hv
 simp only [List.mem_toArray,List.mem_map] at hv
 obtain ⟨i,_,rfl⟩:=hv
 rfl
theorem Tryz.infoNeeds: (Tryz.prog.info? 151).map (·.size)=some 20:=by kernel_rfl
theorem Arr.load {w:World} {b:Nat} {f:Nat→Nat} (h:Arr w b f): (Instr.loadAt 151 (.pointer (some ⟨b,0,none⟩))).run Tryz.prog w= .ok (.agg (qbX f)) w:=by
 simp only [Instr.loadAt,Instr.sureAddr,Sem.run_bind,Sem.run_pure,Result.andThen]
 exact run_loadVar_row w b _ _ (qbX f) (0,0) _ h Tryz.underlying151 rfl (by rw [qbf];exact Tryz.infoNeeds)
theorem Arr.loadV {w:World} {b:Nat} {f:Nat→Nat} (h:Arr w b f): (loadVar 151 ⟨b,0,none⟩).run Tryz.prog w= .ok (.agg (qbX f)) w:=
 run_loadVar_row w b _ _ (qbX f) (0,0) _ h Tryz.underlying151 rfl (by rw [qbf];exact Tryz.infoNeeds)
theorem Arr.put {w:World} {b:Nat} {f:Nat→Nat} (h:Arr w b f) (g:Nat→Nat): ∃X,(Instr.storeAt 151 (.pointer (some ⟨b,0,none⟩)) (.agg (qbX g))).run Tryz.prog w= .ok () X∧Arr X b g∧X.heap.size=w.heap.size∧ (∀c,c≠b→X.heap[c]?=w.heap[c]?)∧X.os=w.os∧X.tape=w.tape∧X.output=w.output:=by
 refine ⟨w.setRow b (qbX g), ?_, ?_, ?_,fun c hc=> ?_,rfl,rfl,rfl⟩
 · simp only [Instr.storeAt,Instr.sureAddr,Sem.run_bind,Sem.run_pure,Result.andThen]
   rw [run_storeVar_row w b _ _ (qbX f) (qbX g) h (by rw [qbf];exact Tryz.infoNeeds) (by rw [qbf,qbf]) (qor g)]
 · have h':w.heap[b]?=some (.cells (qbX f) 151):=h
   unfold Arr
   simp [World.setRow,Array.getElem?_modify,h']
 · simp [World.setRow]
 · simp only [World.setRow]
   rw [Array.getElem?_modify,if_neg (fun e=>hc e.symm)]
section
variable {P:Program} {w:World}
theorem qbB {ops:Array Oper} {rest:List Oper} {o:Oper} {a:Act} {Q:Exit→Act→World→Prop} (hgd:o.guard=none) (s:Operand) (t:TypeId) (ho:o.op= .load t s) (v:Value) (hs:a.eval s=v) (v':Value) (w':World)
 (hr: (Instr.loadAt t v).run P w= .ok v' w') (h:wpList P ops Q rest (a.put o.dst v') w'):wpList P ops Q (o::rest) a w:=by
 refine wpList_plain hgd fun K hK=> ?_
 unfold Oper.wp execOp
 simp only [ho,Sem.run_bind,Sem.run_pure,hs,hr,Result.andThen_ok]
 exact hK _ _ h
theorem qa5 {ops:Array Oper} {rest:List Oper} {o:Oper} {a:Act} {Q:Exit→Act→World→Prop} (hgd:o.guard=none) (s x:Operand) (t:TypeId) (ho:o.op= .store t s x) (v y:Value) (hs:a.eval s=v) (hx:a.eval x=y) (w':World)
 (hr: (Instr.storeAt t v y).run P w= .ok () w') (h:wpList P ops Q rest (a.put o.dst undef) w'):wpList P ops Q (o::rest) a w:=by
 refine wpList_plain hgd fun K hK=> ?_
 unfold Oper.wp execOp
 simp only [ho,Sem.run_bind,Sem.run_pure,hs,hx,hr,Result.andThen_ok]
 exact hK _ _ h
end

set_option maxHeartbeats 800000 in
theorem qgo (w:World) (a:Option Addr) (n c:Nat) (f:Nat→Nat) (bs:List Int) (hn:n≤1048576) (hbn:bs.length=n) (hf: ∀i,f i≤1000000000000) (hr: ∀k,k<n→0≤bs[k]?.getD 0∧bs[k]?.getD 0<20) (hc:At1 w a n (fun k=> .int .i64 (bs[k]?.getD 0))):
 Calls Tryz.prog 140 #[.agg (qbX f), .slice a n c] w fun e w'=>e= .returned (.agg (qbX fun i=>f i+bs.count (i:Int)))∧Below w.heap.size w w':=by
 have HC:Hid (At1 w a n (fun k=> .int .i64 (bs[k]?.getD 0))):=hc
 have HR:Hid (∀k,k<n→0≤bs[k]?.getD 0∧bs[k]?.getD 0<20):=hr
 have HN:Hid (bs.length=n):=hbn
 have HF:Hid (∀i,f i≤1000000000000):=hf
 clear hc hr hbn hf
 have hsz:=qbf f
 have h0:=Arr.new w f
 have z1:=Arr.new (w.alloc (.cells (qbX f) 151)) (fun _=>0)
 have z0:=h0.later (qab _ (.cells (qbX fun _=>0) 151))
 rw [World.size_alloc] at z1
 have HB0:Hid (Below w.heap.size w ((w.alloc (.cells (qbX f) 151)).alloc (.cells (qbX fun _=>0) 151))):=qam _ _ _
 have HZ0:Hid (Arr _ _ _):=z0
 have HZ1:Hid (Arr _ _ _):=z1
 clear h0 z0 z1
 go_enter Tryz.func140,Tryz.ntmps140
 go_wp2
 go_loopw [9] (fun i wr=> ∃j:Nat,j≤n∧i= .int .i64 j∧Below w.heap.size w wr∧Arr wr w.heap.size (fun i=>f i+ (bs.take j).count (i:Int))∧Arr wr (w.heap.size+1) (fun _=>0)) (fun i _=>n- (intOf i).toNat)
 case atStart=>exact ⟨0,Nat.zero_le _,rfl,HB0.out,by simp only [List.take_zero,List.count_nil,Nat.add_zero];exact HZ0.out,HZ1.out⟩
 case round=>
  clear HB0 HZ0 HZ1
  obtain ⟨j,hj,rfl,hbl,hx,hy⟩:=hrel
  have HBL:Hid (Below w.heap.size w wr):=hbl
  have HX:Hid (Arr wr w.heap.size (fun i=>f i+ (bs.take j).count (i:Int))):=hx
  have HY:Hid (Arr wr (w.heap.size+1) (fun _=>0)):=hy
  clear hbl hx hy
  by_cases hlt:j<n
  · obtain ⟨b,o,rfl,d1⟩:=HC.out j hlt
    replace d1:w.cell? ⟨b,o+j,none⟩=some (.int .i64 (bs[j]?.getD 0)):=d1
    replace d1:=cell_later HBL.out d1
    have hrj:=HR.out j hlt
    obtain ⟨q,hq⟩:=Int.eq_ofNat_of_zero_le hrj.1
    have hq20:q<20:=by omega
    have hfq:=HF.out q
    have hct: (bs.take j).count (q:Int)≤1048576:=by
     have:=List.count_le_length (a:= (q:Int)) (l:=bs.take j)
     rw [List.length_take] at this
     omega
    have HNX:Hid (∀i:Nat,(bs.take (j+1)).count (i:Int)= (bs.take j).count (i:Int)+if i=q then 1 else 0):=fun i=>by
     rw [qdz bs (i:Int) j (by rw [HN.out];exact hlt),hq]
     congr 1
     by_cases e:i=q
     · rw [if_pos e,if_pos (by omega)]
     · rw [if_neg e,if_neg (by omega)]
    rw [hq] at d1
    have e1:=HX.out.cell hq20
    have e2:=HX.out.frozen q
    clear hrj hq HC HR
    have HS:=HX.out.set q (f q+ (bs.take j).count (q:Int)+1)
    have HS':Hid (Arr (wr.setCell ⟨w.heap.size,q,none⟩ (.int .i64 ((f q+ (bs.take j).count (q:Int)+1:Nat):Int))) w.heap.size (fun i=>f i+ (bs.take (j+1)).count (i:Int))):=by
     have he: (fun i=>f i+ (bs.take (j+1)).count (i:Int))= (fun i:Nat=>if i=q then f q+ (bs.take j).count (q:Int)+1 else f i+ (bs.take j).count (i:Int)):=by
      funext i
      rw [HNX.out i]
      by_cases e:i=q
      · subst e;rw [if_pos rfl,if_pos rfl];omega
      · rw [if_neg e,if_neg e];omega
     unfold Hid
     rw [he]
     exact HS
    clear HS HNX
    generalize (bs.take j).count (q:Int)=cq at*
    generalize f q=fq at*
    go_wp2
    go_roundw
    case rel=>exact ⟨j+1,by omega,by go_num,HBL.out.setCell (by simp) _,by first|exact HS'.out|simpa using HS'.out,HY.out.store (by simp) _⟩
    case measure=>simp [intOf];omega
  · have he:bs.take j=bs:=List.take_of_length_le (by rw [HN.out];omega)
    rw [he] at HX
    clear he
    generalize hg: (fun i:Nat=>f i+bs.count (i:Int))=g at HX
    have HGE:Hid ((fun i:Nat=>f i+bs.count (i:Int))=g):=hg
    clear hg
    have HL:Hid (_=_):=HX.out.load
    obtain ⟨X,hst,hax,hsx,hoth,hx1,hx2,hx3⟩:=HY.out.put g
    have HST:Hid (_=_):=hst
    have HAX:Hid (Arr X (w.heap.size+1) g):=hax
    have HBX:Hid (Below w.heap.size w X):=HBL.out.trans ⟨hx1,hx2,hx3,by omega,fun c hc=>hoth c (by omega)⟩
    clear hst hax hsx hoth hx1 hx2 hx3
    go_wp2_with (first|refine qbB rfl _ 151 rfl _ rfl _ _ HL.out ?_|refine qa5 rfl _ _ 151 rfl _ _ rfl rfl _ HST.out ?_)
    refine bodyPost_ret (v:= .agg (qbX g)) ?_ rfl ⟨by rw [HGE.out],HBX.out⟩
    have hlv:=HAX.out.loadV
    simp [results,Tryz.results140,asAddr,Act.put,hlv]
end Go.Proofs.YthnmlipnoajmkaaGreatDoor

namespace Go.Proofs.YthnmlipnoajmkaaGreatDoor
open Go.RowKit
set_option maxRecDepth 100000

theorem qhs {w:World} {v:Value} {bs:List Int} (h:qb1 w v bs) (f:Nat→Nat) (hn:bs.length≤1048576) (hf: ∀i,f i≤1000000000000) (hr: ∀k:Nat,k<bs.length→0≤bs[k]?.getD 0∧bs[k]?.getD 0<20):
 Calls Tryz.prog 140 #[.agg (qbX f),v] w fun e w'=>e= .returned (.agg (qbX fun i=>f i+bs.count (i:Int)))∧Below w.heap.size w w':=by
 obtain ⟨a,cap,rfl,_,hc⟩:=h.open'
 exact qgo w a _ cap f bs hn rfl hf hr hc
theorem qj4 {d:ID} (h:qbl d=0) (k:Nat) (hk:k<d.2.2.2.1.length):0≤d.2.2.2.1[k]?.getD 0∧d.2.2.2.1[k]?.getD 0<20:=by
 have hp: ∀x:Bool,(decide (d.2.1≠0)||decide (d.2.2.1≠0)||decide (0<d.2.2.2.1.length))=x→x=true:=fun x hx=>by
  rw [←hx,decide_eq_true (show 0<d.2.2.2.1.length by omega)];simp
 have hfp:fpB d=true:=hp _ rfl
 unfold qbl at h
 rw [hfp] at h
 split at h
 · simp at h
 · split at h
   · split at h
     · omega
     · unfold qcK at h
       split at h
       · split at h
         · unfold qgn at h
           split at h
           · rename_i hz
             have:=qby hz k hk
             unfold qil at this
             split at this
             · omega
             · omega
           · rename_i hz;exact absurd h hz
         · omega
       · omega
   · split at h
     · simp at h
     · omega
theorem qrW {ds:List ID} (h:qaY ds=0):ds.length≤10:=by
 unfold qaY at h
 split at h
 · omega
 · omega
theorem qmX {ds:List ID} (h:qaY ds=0) (j:Nat) (hj:j<ds.length):qbl (ds[j]?.getD id0)=0:=by
 unfold qaY at h
 split at h
 · omega
 · exact qby (f:=fun i=>qbl (ds[i]?.getD id0)) h j hj
theorem qfU {ds:List ID} (h:qaY ds=0) (j k:Nat) (hj:j<ds.length) (hk:k< (ds[j]?.getD id0).2.2.2.1.length):0≤ (ds[j]?.getD id0).2.2.2.1[k]?.getD 0∧ (ds[j]?.getD id0).2.2.2.1[k]?.getD 0<20:=qj4 (qmX h j hj) k hk

set_option maxHeartbeats 1600000 in
theorem qiD (w:World) (a:Option Addr) (n c:Nat) (ds:List ID) (hdn:ds.length=n) (hn:n≤1048576) (hs: (isz ds).sum≤1048576) (hr: ∀j k:Nat,j<n→k< (ds[j]?.getD id0).2.2.2.1.length→0≤ (ds[j]?.getD id0).2.2.2.1[k]?.getD 0∧ (ds[j]?.getD id0).2.2.2.1[k]?.getD 0<20) (hc:AtI w a n ds):
 Calls Tryz.prog 117 #[.slice a n c] w fun e w'=>e= .returned (.agg (qbX fun i=>cntB ds (i:Int)))∧Below w.heap.size w w':=by
 have HC:Hid (AtI w a n ds):=hc
 have HN:Hid (ds.length=n):=hdn
 have HR:Hid (∀j k:Nat,j<n→k< (ds[j]?.getD id0).2.2.2.1.length→0≤ (ds[j]?.getD id0).2.2.2.1[k]?.getD 0∧ (ds[j]?.getD id0).2.2.2.1[k]?.getD 0<20):=hr
 have HS:Hid (∀ (j:Nat) (v:Int),(((ds.take j).flatMap fun d=>d.2.2.2.1)).count v≤1000000000000):=fun j v=>by
  have h1:=qen (fun d:ID=>d.2.2.2.1) ds j
  have h2:=qft ds
  have h3:=List.count_le_length (a:=v) (l:= (ds.take j).flatMap fun d=>d.2.2.2.1)
  unfold qoh at h2
  omega
 have HX:Hid (∀ (j:Nat),j<n→ (fun i:Nat=> ((ds.take j).flatMap fun d=>d.2.2.2.1).count (i:Int)+ ((ds[j]?.getD id0).2.2.2.1).count (i:Int))= (fun i:Nat=> ((ds.take (j+1)).flatMap fun d=>d.2.2.2.1).count (i:Int))):=fun j hj=>by
  funext i
  rw [qem (fun d:ID=>d.2.2.2.1) ds id0 j (by omega),List.count_append]
 have HZ:Hid (∀j:Nat,(ds[j]?.getD id0).2.2.2.1.length≤1048576):=fun j=>by
  have:=qeg ds j
  have hd:sizeIno (ds[j]?.getD id0)= (ds[j]?.getD id0).2.2.2.1.length+qcH (ds[j]?.getD id0).2.2.2.2:=rfl
  omega
 have HE:Hid ((fun i:Nat=>cntB ds (i:Int))= (fun i:Nat=> ((ds.take n).flatMap fun d=>d.2.2.2.1).count (i:Int))):=by unfold Hid cntB qoh;rw [List.take_of_length_le (by omega)]
 clear hc hdn hr hs
 have z0:=Arr.new w (fun _=>0)
 have z1:=Arr.new (w.alloc (.cells (qbX fun _=>0) 151)) (fun _=>0)
 replace z0:=z0.later (qab _ (.cells (qbX fun _=>0) 151))
 rw [World.size_alloc] at z1
 have HB0:Hid (Below w.heap.size w ((w.alloc (.cells (qbX fun _=>0) 151)).alloc (.cells (qbX fun _=>0) 151))):=qam _ _ _
 have HZ0:Hid (Arr _ _ _):=z0
 have HZ1:Hid (Arr _ _ _):=z1
 clear z0 z1
 rw [HE.out]
 clear HE
 generalize hG: (fun (j i:Nat)=> ((ds.take j).flatMap fun d=>d.2.2.2.1).count (i:Int))=G at*
 have HG:Hid (∀j i,((ds.take j).flatMap fun d=>d.2.2.2.1).count ((i:Nat):Int)=G j i):=fun j i=>congrFun (congrFun hG j) i
 have HGB:Hid (∀j i,G j i≤1000000000000):=fun j i=>by rw [←HG.out j i];exact HS.out j _
 have HG0:Hid ((fun _:Nat=>0)=G 0):=by unfold Hid;funext i;rw [←HG.out 0 i];simp
 simp only [HG.out] at HX ⊢
 clear hG HG HS
 go_enter Tryz.func117,Tryz.ntmps117
 go_wp2
 go_loopw [8] (fun i wr=> ∃j:Nat,j≤n∧i= .int .i64 j∧Below w.heap.size w wr∧Arr wr (w.heap.size+1) (G j)∧Arr wr w.heap.size (fun _=>0)) (fun i _=>n- (intOf i).toNat)
 case atStart=>exact ⟨0,Nat.zero_le _,rfl,HB0.out,HG0.out▸HZ1.out,HZ0.out⟩
 case round=>
  clear HB0 HZ0 HZ1
  obtain ⟨j,hj,rfl,hbl,hx,hy⟩:=hrel
  have HBL:Hid (Below w.heap.size w wr):=hbl
  have HA:Hid (Arr wr (w.heap.size+1) (G j)):=hx
  have HY:Hid (Arr wr w.heap.size (fun _=>0)):=hy
  have hw0:=hx.lt
  clear hbl hx hy
  by_cases hlt:j<n
  · obtain ⟨b,o,rfl,hI⟩:=HC.out j hlt
    obtain ⟨aB,cB,aE,cE,c0,c1,c2,c3,c4,hR⟩:=hI.later HBL.out
    have HW:Hid (∀W,Below wr.heap.size wr W→Calls Tryz.prog 140 #[.agg (qbX (G j)), .slice aB (ds[j]?.getD id0).2.2.2.1.length cB] W fun e w'=>e= .returned (.agg (qbX (G (j+1))))∧Below W.heap.size W w'):=fun W hW=>by
     have hx:=qhs (hR.2.1.later hW) (G j) (HZ.out j) (HGB.out j) (fun k hk=>HR.out j k hlt hk)
     have e: (fun i:Nat=>G j i+ ((ds[j]?.getD id0).2.2.2.1).count (i:Int))=G (j+1):=HX.out j hlt
     rw [e] at hx
     exact hx
    have HL:Hid (∀o,(Instr.loadAt 151 (.pointer (some ⟨w.heap.size+1,0,none⟩))).run Tryz.prog (wr.alloc o)= .ok (.agg (qbX (G j))) (wr.alloc o)):=fun o=> (HA.out.later (qab _ _)).load
    clear hI hR HC HR
    generalize hg2:G (j+1)=g2 at HW
    generalize G j=g1 at HW HL HA
    have HG2:Hid (G (j+1)=g2):=hg2
    clear hg2
    generalize (ds[j]?.getD id0)=d at*
    go_wp2_with (first|refine qbB rfl _ 151 rfl _ rfl _ _ (HL.out _) ?_|fail)
    clear c0 c1 c2 c3 c4
    refine (HW.out _ (qab _ _)).mono ?_
    rintro e w2 ⟨rfl,hb2⟩
    have hbw:Below wr.heap.size wr w2:= (qab _ _).trans (hb2.mono (by simp))
    obtain ⟨X,hst,hax,hsx,hoth,hx1,hx2,hx3⟩:= (HA.out.later hbw).put g2
    have HST:Hid (_=_):=hst
    have HAX:Hid (Arr X (w.heap.size+1) g2):=hax
    have HBX:Hid (Below w.heap.size w X):= (HBL.out.trans (hbw.mono HBL.out.size)).trans ⟨hx1,hx2,hx3,by omega,fun c hc=>hoth c (by omega)⟩
    have HYX:Hid (Arr X w.heap.size (fun _=>0)):= (hoth _ (by omega)).trans (HY.out.later hbw)
    clear hst hax hsx hoth hx1 hx2 hx3 hb2 hbw
    go_wp2_with (first|refine qa5 rfl _ _ 151 rfl _ _ rfl rfl _ HST.out ?_|fail)
    go_roundw
    case rel=>exact ⟨j+1,by omega,by go_num,HBX.out,by rw [HG2.out];exact HAX.out,HYX.out⟩
    case measure=>simp [intOf];omega
  · have HGN:Hid (G j=G n):=by unfold Hid;rw [show j=n by omega]
    have HL:Hid (_=_):=HA.out.load
    obtain ⟨X,hst,hax,hsx,hoth,hx1,hx2,hx3⟩:=HY.out.put (G j)
    have HST:Hid (_=_):=hst
    have HAX:Hid (Arr X w.heap.size (G n)):=HGN.out▸hax
    have HBX:Hid (Below w.heap.size w X):=HBL.out.trans ⟨hx1,hx2,hx3,by omega,fun c hc=>hoth c (by omega)⟩
    clear hst hax hsx hoth hx1 hx2 hx3
    generalize G j=g1 at HL HST
    go_wp2_with (first|refine qbB rfl _ 151 rfl _ rfl _ _ HL.out ?_|refine qa5 rfl _ _ 151 rfl _ _ rfl rfl _ HST.out ?_)
    refine bodyPost_ret (v:= .agg (qbX (G n))) ?_ rfl ⟨rfl,HBX.out⟩
    have hlv:=HAX.out.loadV
    simp [results,Tryz.results117,asAddr,Act.put,hlv]
theorem qj5 {w:World} {v:Value} {ds:List ID} (h:qdJ w v ds) (hs:qag ds≤1048576) (hf:qaY ds=0):
 Calls Tryz.prog 117 #[v] w fun e w'=>e= .returned (.agg (qbX fun i=>cntB ds (i:Int)))∧Below w.heap.size w w':=by
 obtain ⟨a,cap,rfl,hm,hc⟩:=h.open'
 unfold qag at hs
 exact qiD w a _ cap ds rfl (by omega) (by omega) (fun j k hj hk=>qfU hf j k hj hk) hc

theorem Arr.keep {w w':World} {b:Nat} {f:Nat→Nat} (h:Arr w b f) (hk:qcn w w'):Arr w' b f:=hk _ _ _ _ (by decide) h

def qj6 (f:Nat→Nat):Bool:= (List.range 20).any fun k=>decide (1<f k)
set_option maxHeartbeats 800000 in
theorem qiE (w:World) (f:Nat→Nat) (hf: ∀i,f i≤1000000000000):
 Calls Tryz.prog 118 #[.agg (qbX f)] w fun e w'=>e= .returned (.bool (qj6 f))∧Below w.heap.size w w':=by
 have HA:Hid (Arr (w.alloc (.cells (qbX f) 151)) w.heap.size f):=Arr.new w f
 have HF:Hid (∀i,f i≤1000000000000):=hf
 have HB:Hid (Below w.heap.size w (w.alloc (.cells (qbX f) 151))):=qab _ _
 have hsz:=qbf f
 clear hf
 go_enter Tryz.func118,Tryz.ntmps118
 go_wp2
 generalize w.alloc (.cells (qbX f) 151)=W at*
 go_loopw [4] (fun i wr=> ∃j:Nat,j≤20∧i= .int .i64 j∧wr=W∧ ∀i:Nat,i<j→ ¬1<f i) (fun i _=>20- (intOf i).toNat)
 case atStart=>exact ⟨0,Nat.zero_le _,rfl,rfl,fun i hi=>by omega⟩
 case round=>
  obtain ⟨j,hj,rfl,hw,hz⟩:=hrel
  have HZ:Hid (∀i:Nat,i<j→ ¬1<f i):=hz
  rw [←hw] at HA HB
  have HWE:Hid (wr=W):=hw
  clear hz hw
  by_cases hlt:j<20
  · have c0:=HA.out.cell hlt
    have hfj:=HF.out j
    by_cases h1:1<f j
    · have HR:Hid (qj6 f=true):=by
       unfold Hid qj6
       rw [List.any_eq_true]
       exact ⟨j,by simpa using hlt,by simpa using h1⟩
      have hd:decide ((1:Int)< ((f j:Nat):Int))=true:=by simp;omega
      clear h1
      generalize f j=x at*
      go_wp2
      go_ret
      exact ⟨qaB HR.out.symm,HB.out⟩
    · have HR:Hid (∀i:Nat,i<j+1→ ¬1<f i):=fun i hi=>by
       by_cases e:i=j
       · subst e;exact h1
       · exact HZ.out i (by omega)
      have hd:decide ((1:Int)< ((f j:Nat):Int))=false:=by simp;omega
      clear h1
      generalize hx:f j=x at c0 hd hfj
      clear hx
      go_wp2
      go_roundw
      case rel=>exact ⟨j+1,by omega,by go_num,HWE.out,HR.out⟩
      case measure=>simp [intOf];omega
  · have HR:Hid (qj6 f=false):=by
     unfold Hid qj6
     rw [List.any_eq_false]
     intro k hk
     simp only [List.mem_range] at hk
     simpa using HZ.out k (by omega)
    go_wp2
    go_ret
    exact ⟨qaB HR.out.symm,HB.out⟩

end Go.Proofs.YthnmlipnoajmkaaGreatDoor

namespace Go.Proofs.YthnmlipnoajmkaaGreatDoor
open Go.RowKit
set_option maxRecDepth 100000

def fsF (d:FD):Int:=if fsE d=0 then (if qbe d.1&&qbI d then 0 else 1) else fsE d
theorem qc5 {d:FD} (h:fsE d=0):qaY d.1=0∧qfQ d=false∧qaJ (qbz d.2) d.2.length=0∧qb8 d.1 20=true∧qcA d.1=0:=by
 unfold fsE at h
 by_cases h1:qaY d.1=0
 · rw [if_pos h1] at h
   by_cases h2:qfQ d=true
   · rw [if_pos h2] at h;omega
   · rw [if_neg h2] at h
     by_cases h3:qaJ (qbz d.2) d.2.length=0
     · rw [if_pos h3] at h
       by_cases h4:qb8 d.1 20=true
       · rw [if_pos h4] at h
         exact ⟨h1,by simpa using h2,h3,h4,h⟩
       · rw [if_neg h4] at h;omega
     · rw [if_neg h3] at h;exact absurd h h3
 · rw [if_neg h1] at h;exact absurd h h1
theorem qet {d:FD} (h:qfQ d=false): ¬d.1.length=0∧qae d.1 0=2∧d.2.length=20:=by
 unfold qfQ at h
 simp at h
 obtain ⟨⟨h1,h2⟩,h3⟩:=h
 exact ⟨fun e=>h1 (List.eq_nil_of_length_eq_zero e),h2,h3⟩
theorem qbM {ds:List ID} (h:qaY ds=0):ds.length≤10:=by
 unfold qaY at h
 by_cases h1:10<ds.length
 · rw [if_pos h1] at h;omega
 · omega
theorem qj7 {ds:List ID} (hi:qaY ds=0) (h:qcA ds=0): ∀j,j<ds.length→ ∀k,k< (ds[j]?.getD id0).2.2.2.2.length→0≤ ((ds[j]?.getD id0).2.2.2.2[k]?.getD en0).2∧ ((ds[j]?.getD id0).2.2.2.2[k]?.getD en0).2< (ds.length:Int):=fun j hj k hk=>by
 refine ⟨qjY (qaM hi j hj) k hk, ?_⟩
 cases hl:qa7 ds ((ds[j]?.getD id0).2.2.2.2[k]?.getD en0).2 with
 |true=>rw [qhn hj hk hl] at h;omega
 | false=>
   unfold qa7 at hl
   simp at hl
   omega
theorem qfV {ds:List ID} (h:qaY ds=0) (j k:Nat) (hj:j<ds.length) (hk:k< (ds[j]?.getD id0).2.2.2.1.length):0≤ (ds[j]?.getD id0).2.2.2.1[k]?.getD 0∧ (ds[j]?.getD id0).2.2.2.1[k]?.getD 0<20:=by
 have:=qfU h j k hj hk
 omega

set_option maxHeartbeats 1600000 in
theorem qj8 (w:World) (b o:Nat) (d:FD) (aI:Option Addr) (cI:Nat) (aD:Option Addr) (cD:Nat) (h:FsX w b o d aI cI aD cD) (hs:qag d.1≤1048576):
 Calls Tryz.prog 15 #[.pointer (some ⟨b,o,none⟩)] w fun e w'=>e= .returned (.int .i64 (fsF d))∧Below w.heap.size w w':=by
 have HE:Hid (Calls Tryz.prog 38 #[.pointer (some ⟨b,o,none⟩)] w fun e w'=>e= .returned (.int .i64 (fsE d))∧Below w.heap.size w w'):=qho w b o d aI cI aD cD h hs
 have HF:Hid (fsF d=if fsE d=0 then (if qbe d.1&&qbI d then 0 else 1) else fsE d):=rfl
 by_cases he:fsE d=0
 rotate_left
 · have HR:Hid (fsF d=fsE d):=by unfold Hid;rw [HF.out,if_neg he]
   have hb: (fsE d !=0)=true:=by simpa using he
   clear HF he h
   generalize fsE d=r at*
   go_enter Tryz.func15,Tryz.ntmps15
   go_wp2_with fail
   refine HE.out.mono ?_
   rintro e w1 ⟨rfl,hb1⟩
   have HB0:Hid (Below w.heap.size w w1):=hb1
   clear hb1
   go_wp2
   go_ret
   exact ⟨qad HR.out.symm,HB0.out⟩
 · obtain ⟨h1,h2,h3,h4,h5⟩:=qc5 he
   obtain ⟨g1,g2,g3⟩:=qet h2
   have HL:Hid (∀W,Below w.heap.size w W→Calls Tryz.prog 39 #[.pointer (some ⟨b,o,none⟩)] W fun e w'=>e= .returned (.bool (qbe d.1))∧Below W.heap.size W w'):=fun W hW=>qj1 W b o d aI cI aD cD (h.later hW) hs g1 (qbM h1) (qj7 h1 h5)
   have HS:Hid (∀W,Below w.heap.size w W→Calls Tryz.prog 40 #[.pointer (some ⟨b,o,none⟩)] W fun e w'=>e= .returned (.bool (qbI d))∧Below W.heap.size W w'):=fun W hW=>qj2 W b o d aI cI aD cD (h.later hW) (qbM h1) g3 h1 (qfV h1)
   have HR:Hid (fsF d=if qbe d.1&&qbI d then 0 else 1):=by unfold Hid;rw [HF.out,if_pos he]
   rw [he] at HE
   clear HF he h h1 h2 h3 h4 h5 g1 g2 g3
   generalize qbe d.1=lb at*
   generalize qbI d=sb at*
   cases lb with
   | false=>
     go_enter Tryz.func15,Tryz.ntmps15
     go_wp2_with fail
     refine HE.out.mono ?_
     rintro e w1 ⟨rfl,hb1⟩
     have HB0:Hid (Below w.heap.size w w1):=hb1
     clear hb1
     go_wp2_with fail
     refine (HL.out _ HB0.out).mono ?_
     rintro e w2 ⟨rfl,hb2⟩
     have HB2:Hid (Below w.heap.size w w2):=HB0.out.trans (hb2.mono HB0.out.size)
     clear hb2
     go_wp2
     go_ret
     exact ⟨qad HR.out.symm,HB2.out⟩
   | true=>
     cases sb
     all_goals
      go_enter Tryz.func15,Tryz.ntmps15
      go_wp2_with fail
      refine HE.out.mono ?_
      rintro e w1 ⟨rfl,hb1⟩
      have HB0:Hid (Below w.heap.size w w1):=hb1
      clear hb1
      go_wp2_with fail
      refine (HL.out _ HB0.out).mono ?_
      rintro e w2 ⟨rfl,hb2⟩
      have HB2:Hid (Below w.heap.size w w2):=HB0.out.trans (hb2.mono HB0.out.size)
      clear hb2
      go_wp2_with fail
      refine (HS.out _ HB2.out).mono ?_
      rintro e w3 ⟨rfl,hb3⟩
      have HB3:Hid (Below w.heap.size w w3):=HB2.out.trans (hb3.mono HB2.out.size)
      clear hb3
      go_wp2
      go_ret
      exact ⟨qad HR.out.symm,HB3.out⟩

theorem FsX.box {w:World} {a1:Option Addr} {n1 c1:Nat} {a2:Option Addr} {n2 c2:Nat} {d:FD} (h:FsR w (.slice a1 n1 c1) (.slice a2 n2 c2) d) (t:TypeId):FsX (w.alloc (.cells #[.slice a1 n1 c1, .slice a2 n2 c2] t)) w.heap.size 0 d a1 c1 a2 c2∧n1=d.1.length∧n2=d.2.length:=by
 obtain ⟨_,_,e1,_,_⟩:=h.1.open'
 obtain ⟨_,_,e2,_,_⟩:=h.2.open'
 simp only [Value.slice.injEq] at e1 e2
 obtain ⟨rfl,rfl,rfl⟩:=e1
 obtain ⟨rfl,rfl,rfl⟩:=e2
 have hx:=Bx.new w [.slice a1 d.1.length c1, .slice a2 d.2.length c2] t
 exact ⟨⟨hx 0 _ rfl,hx 1 _ rfl,h.1.later (qab _ _),h.2.later (qab _ _)⟩,rfl,rfl⟩
end Go.Proofs.YthnmlipnoajmkaaGreatDoor

namespace Go.Proofs.YthnmlipnoajmkaaGreatDoor
open Go.RowKit
set_option maxRecDepth 100000

def qpO (d:FD) (bs:List Int) (k:Nat):List UInt8:= (bs.take k).flatMap fun b=>d.2[b.toNat]?.getD []
def qos (d:FD) (j:Nat):List UInt8:=qpO d (d.1[j]?.getD id0).2.2.2.1 (d.1[j]?.getD id0).2.2.2.1.length
def qje (d:FD) (x:Int):Int×List UInt8:=
 if fsF d=0 then (if 0≤x∧x< (d.1.length:Int) then (if qae d.1 x.toNat=2 then (9, []) else if qae d.1 x.toNat=0 then (4, []) else (0,qos d x.toNat)) else (3, [])) else (fsF d, [])
theorem qmY (d:FD) (bs:List Int) (k:Nat) (hk:k<bs.length):qpO d bs (k+1)=qpO d bs k++ (d.2[(bs[k]?.getD 0).toNat]?.getD []):=by
 unfold qpO
 rw [List.take_succ_eq_append_getElem hk,List.flatMap_append]
 simp [List.getElem?_eq_getElem hk]
theorem qht (d:FD) (bs:List Int) (h8: ∀i:Nat,(d.2[i]?.getD []).length≤8): ∀k,k≤bs.length→ (qpO d bs k).length≤8*k
 |0,_=>by simp [qpO]
 | k+1,hk=>by
   rw [qmY d bs k hk,List.length_append]
   have h1:=qht d bs h8 k (by omega)
   have h2:=h8 (bs[k]?.getD 0).toNat
   omega
theorem qdE {zss:List (List UInt8)} (h:qaJ (qbz zss) zss.length=0) (i:Nat): (zss[i]?.getD []).length≤8:=by
 by_cases hi:i<zss.length
 · have:=qby h i hi
   unfold qbz at this
   by_cases h8:8< (zss[i]?.getD []).length
   · rw [if_pos h8] at this;omega
   · omega
 · rw [List.getElem?_eq_none (by omega)];simp

theorem qmu.put {w W:World} {rb:Nat} {r:Int} {zs:List UInt8} {a:Option Addr} {n c:Nat} (hB:Below w.heap.size w W) (hrb:w.heap.size≤rb) (hY:qbt W (.slice a n c) zs (fun b=>rb<b∧b<W.heap.size)) (x y:Value):qmu w (r,zs) (.returned (.agg #[.int .i64 r, .slice a n c])) ((W.setCell ⟨rb,0,none⟩ x).setCell ⟨rb,1,none⟩ y):=by
 refine ⟨a,n,c,rfl,(hB.setCell (by simpa using hrb) _).setCell (by simpa using hrb) _,(hY.keep fun b hb _=> ?_).mono fun b hb=> ?_⟩
 · rw [Below.heap_setCell _ _ _ _ (by simp;omega),Below.heap_setCell _ _ _ _ (by simp;omega)]
 · unfold qaj
   simp only [World.setCell,Array.size_modify]
   exact ⟨by omega,hb.2⟩
theorem qmu.bad {w W:World} {rb:Nat} (r:Int) (hB:Below w.heap.size w W) (hrb:w.heap.size≤rb) (x y:Value):qmu w (r, []) (.returned (.agg #[.int .i64 r, .slice none 0 0])) ((W.setCell ⟨rb,0,none⟩ x).setCell ⟨rb,1,none⟩ y):=qmu.put hB hrb (Or.inl ⟨rfl,_,_,rfl⟩) x y
theorem qhu {d:FD} (h:fsF d=0):fsE d=0:=by
 unfold fsF at h
 by_cases he:fsE d=0
 · exact he
 · rw [if_neg he] at h;exact absurd h he

end Go.Proofs.YthnmlipnoajmkaaGreatDoor
