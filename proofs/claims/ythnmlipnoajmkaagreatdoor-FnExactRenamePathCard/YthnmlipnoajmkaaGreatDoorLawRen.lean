/- The law of RenamePath:at every argument the program answers as the specification,leaves its arguments as they were,and its answer owns its memory. -/
import Derived.Test.YthnmlipnoajmkaaGreatDoorM29
import Derived.Test.YthnmlipnoajmkaaGreatDoorM05
import Derived.Test.YthnmlipnoajmkaaGreatDoorM15
namespace Go.Proofs.YthnmlipnoajmkaaGreatDoor
open Go.RowKit
set_option maxRecDepth 100000

set_option maxHeartbeats 1600000 in
theorem qdU (w:World) (a0x0:Option Addr) (n0x0 c0x0:Nat) (a1x0:Option Addr) (n1x0 c1x0:Nat) (x1:ByteArray) (x2:ByteArray) (hmx1:x1.size≤maxLen) (hn:1048576<x1.size):
 Calls Tryz.prog 3 #[.agg #[.slice a0x0 n0x0 c0x0, .slice a1x0 n1x0 c1x0], .string x1, .string x2] w fun e w'=>e= .returned (.bool true)∧Below w.heap.size w w':=by
 unfold maxLen at hmx1
 go_enter Tryz.func3,Tryz.ntmps3
 go_wp2
 go_ret
 exact ⟨rfl,qab _ _⟩

set_option maxHeartbeats 1600000 in
theorem qdV (w:World) (a0x0:Option Addr) (n0x0 c0x0:Nat) (a1x0:Option Addr) (n1x0 c1x0:Nat) (x1:ByteArray) (x2:ByteArray) (_hmx1:x1.size≤maxLen) (lx1:x1.size≤1048576) (hmx2:x2.size≤maxLen) (hn:1048576<x2.size):
 Calls Tryz.prog 3 #[.agg #[.slice a0x0 n0x0 c0x0, .slice a1x0 n1x0 c1x0], .string x1, .string x2] w fun e w'=>e= .returned (.bool true)∧Below w.heap.size w w':=by
 have lx1':decide ((1048576:Int)< (x1.size:Int))=false:=by simp;omega
 have lx1'':decide (1048576<x1.size)=false:=by simp;omega
 unfold maxLen at hmx2
 go_enter Tryz.func3,Tryz.ntmps3
 go_wp2
 go_ret
 exact ⟨rfl,qab _ _⟩

set_option maxHeartbeats 1600000 in
theorem qeF (w:World) (a0x0:Option Addr) (n0x0 c0x0:Nat) (a1x0:Option Addr) (n1x0 c1x0:Nat) (dx0:FD) (x1:ByteArray) (x2:ByteArray) (lx1:x1.size≤1048576) (lx2:x2.size≤1048576) (hx0:FsR w (.slice a0x0 n0x0 c0x0) (.slice a1x0 n1x0 c1x0) dx0) (hsz:1048576<sizeFs dx0):
 Calls Tryz.prog 3 #[.agg #[.slice a0x0 n0x0 c0x0, .slice a1x0 n1x0 c1x0], .string x1, .string x2] w fun e w'=>e= .returned (.bool true)∧Below w.heap.size w w':=by
 have Hx0:Hid (FsR w (.slice a0x0 n0x0 c0x0) (.slice a1x0 n1x0 c1x0) dx0):=hx0
 have HS:Hid (szf 1048576 (sizeFs dx0)= -1):=qbQ (by omega)
 have lx1':decide ((1048576:Int)< (x1.size:Int))=false:=by simp;omega
 have lx1'':decide (1048576<x1.size)=false:=by simp;omega
 have lx2':decide ((1048576:Int)< (x2.size:Int))=false:=by simp;omega
 have lx2'':decide (1048576<x2.size)=false:=by simp;omega
 clear hx0 hsz
 go_enter Tryz.func3,Tryz.ntmps3
 go_wp2_with fail
 refine (qqW _ _ _ _ _ _ _ dx0 (Hx0.out.later (qab _ _)) 1048576 (by omega) (by omega)).mono ?_
 rw [HS.out]
 rintro e w1 ⟨rfl,hb1⟩
 have HBw1:Hid (Below w.heap.size w w1):= (qab _ _).trans (hb1.mono (by simp))
 clear hb1
 go_wp2
 go_ret
 exact ⟨rfl,HBw1.out⟩

set_option maxHeartbeats 12800000 in
theorem qdW (w:World) (a0x0:Option Addr) (n0x0 c0x0:Nat) (a1x0:Option Addr) (n1x0 c1x0:Nat) (dx0:FD) (x1:ByteArray) (x2:ByteArray) (lx1:x1.size≤1048576) (lx2:x2.size≤1048576) (hx0:FsR w (.slice a0x0 n0x0 c0x0) (.slice a1x0 n1x0 c1x0) dx0) (sx0:sizeFs dx0≤1048576) (hgl:Gl w):
 Calls Tryz.prog 3 #[.agg #[.slice a0x0 n0x0 c0x0, .slice a1x0 n1x0 c1x0], .string x1, .string x2] w fun e w'=>e= .returned (.bool true)∧Below w.heap.size w w':=by
 have HGL:Hid (Gl w):=hgl
 clear hgl
 have Hx0:Hid (FsR w (.slice a0x0 n0x0 c0x0) (.slice a1x0 n1x0 c1x0) dx0):=hx0
 have Sx0:Hid (sizeFs dx0≤1048576):=sx0
 have HSx0:Hid (szf 1048576 (sizeFs dx0)=1048576- (sizeFs dx0:Nat)):=qbY (by omega)
 have hposx0: ¬ (1048576- ((sizeFs dx0:Nat):Int)<0):=by omega
 have hspx0: ((spanFs dx0:Nat):Int)≤4194304:=by have:=qmt dx0;omega
 have Sx1:Hid (x1.size≤1048576):=lx1
 have Sx2:Hid (x2.size≤1048576):=lx2
 have lx1':decide ((1048576:Int)< (x1.size:Int))=false:=by simp;omega
 have lx1'':decide (1048576<x1.size)=false:=by simp;omega
 have lx2':decide ((1048576:Int)< (x2.size:Int))=false:=by simp;omega
 have lx2'':decide (1048576<x2.size)=false:=by simp;omega
 clear lx1
 clear lx2
 generalize hr:qny dx0 x1 x2=r at*
 have HR:Hid (qny dx0 x1 x2=r):=hr
 obtain ⟨code,d2⟩:=r
 have hspr: ((spanCR d2:Nat):Int)≤100000000:=by have:=qnG dx0 x1 x2;rw [hr] at this;dsimp only at this;omega
 clear hr hx0 sx0
 go_enter Tryz.func3,Tryz.ntmps3
 go_wp2_with fail
 refine (qqW _ _ _ _ _ _ _ dx0 (Hx0.out.later (qab _ _)) 1048576 (by omega) (by omega)).mono ?_
 rw [HSx0.out]
 rintro e w1 ⟨rfl,hb⟩
 have HL_w1:Hid (Below w.heap.size w w1):= (qab _ _).trans (hb.mono (by simp))
 have HB_w1:Hid (Below w.heap.size w w1):=HL_w1.out
 have z_w1:w.heap.size≤w1.heap.size:=HL_w1.out.size
 have Bx0_w1:Hid (Bx w1 w.heap.size [.slice a0x0 n0x0 c0x0, .slice a1x0 n1x0 c1x0]):= (Bx.new _ [.slice a0x0 n0x0 c0x0, .slice a1x0 n1x0 c1x0] _).later hb
 have y_Bx0:w.heap.size<w1.heap.size:=Bx0_w1.out.lt
 clear HL_w1
 clear hb
 have qBx00:=Bx0_w1.out 0 _ rfl
 have qBx01:=Bx0_w1.out 1 _ rfl
 have tBx0:=Bx0_w1.out.lt
 go_wp2_with fail
 clear qBx00 qBx01 tBx0
 refine (qn3 _ _ _ _ _ _ _ dx0 (Hx0.out.later HB_w1.out) Sx0.out).mono ?_
 rintro e w2 ⟨a0x0s,n0x0s,c0x0s,a1x0s,n1x0s,c1x0s,rfl,hb,ho⟩
 have HL_w2:Hid (Below w1.heap.size w1 w2):=hb
 have HB_w2:Hid (Below w.heap.size w w2):=HB_w1.out.trans (HL_w2.out.mono HB_w1.out.size)
 have z_w2:w1.heap.size≤w2.heap.size:=HL_w2.out.size
 have Bx0_w2:Hid (Bx w2 w.heap.size [.slice a0x0 n0x0 c0x0, .slice a1x0 n1x0 c1x0]):=Bx0_w1.out.later HL_w2.out
 have Tx0_w2:Hid (FsU w2 (.slice a0x0s n0x0s c0x0s) (.slice a1x0s n1x0s c1x0s) dx0 (fun b=>w1.heap.size≤b∧b<w2.heap.size)):=ho
 clear Bx0_w1 HB_w1 HL_w2
 clear hb ho
 have qBx00:=Bx0_w2.out 0 _ rfl
 have qBx01:=Bx0_w2.out 1 _ rfl
 have tBx0:=Bx0_w2.out.lt
 go_wp2_with fail
 clear qBx00 qBx01 tBx0
 refine (qoS _ _ _ _ _ _ _ dx0 x1 x2 Tx0_w2.out.reads Sx0.out Sx1.out Sx2.out).mono ?_
 rw [HR.out]
 rintro e w3 ⟨z0sw,z1sw,a2sw,n2sw,c2sw,a3sw,n3sw,c3sw,a4sw,n4sw,c4sw,a5sw,n5sw,c5sw,rfl,hb,ho⟩
 have HL_w3:Hid (Below w2.heap.size w2 w3):=hb
 have HB_w3:Hid (Below w.heap.size w w3):=HB_w2.out.trans (HL_w3.out.mono HB_w2.out.size)
 have z_w3:w2.heap.size≤w3.heap.size:=HL_w3.out.size
 have Bx0_w3:Hid (Bx w3 w.heap.size [.slice a0x0 n0x0 c0x0, .slice a1x0 n1x0 c1x0]):=Bx0_w2.out.later HL_w3.out
 have Dw_w3:Hid (qap w3 (.int .i64 z0sw) (.int .i64 z1sw) (.slice a2sw n2sw c2sw) (.slice a3sw n3sw c3sw) (.slice a4sw n4sw c4sw) (.slice a5sw n5sw c5sw) d2 (fun b=>w2.heap.size≤b∧b<w3.heap.size)):=ho
 clear Bx0_w2 Tx0_w2 HB_w2 HL_w3
 clear hb ho
 have qBx00:=Bx0_w3.out 0 _ rfl
 have qBx01:=Bx0_w3.out 1 _ rfl
 have tBx0:=Bx0_w3.out.lt
 go_wp2_with fail
 clear qBx00 qBx01 tBx0
 refine (qn3 _ _ _ _ _ _ _ dx0 ((Hx0.out.later HB_w3.out).later (qab _ _)) Sx0.out).mono ?_
 rintro e w4 ⟨a0x0p,n0x0p,c0x0p,a1x0p,n1x0p,c1x0p,rfl,hb,ho⟩
 have HL_w4:Hid (Below w3.heap.size w3 w4):= (qab _ _).trans (hb.mono (by simp))
 have HB_w4:Hid (Below w.heap.size w w4):=HB_w3.out.trans (HL_w4.out.mono HB_w3.out.size)
 have z_w4:w3.heap.size≤w4.heap.size:=HL_w4.out.size
 have Bx0_w4:Hid (Bx w4 w.heap.size [.slice a0x0 n0x0 c0x0, .slice a1x0 n1x0 c1x0]):=Bx0_w3.out.later HL_w4.out
 have Dw_w4:Hid (qap w4 (.int .i64 z0sw) (.int .i64 z1sw) (.slice a2sw n2sw c2sw) (.slice a3sw n3sw c3sw) (.slice a4sw n4sw c4sw) (.slice a5sw n5sw c5sw) d2 (fun b=>w2.heap.size≤b∧b<w3.heap.size)):=Dw_w3.out.later HL_w4.out
 have Bw_w4:Hid (Bx w4 w3.heap.size [.int .i64 code, .int .i64 z0sw, .int .i64 z1sw, .slice a2sw n2sw c2sw, .slice a3sw n3sw c3sw, .slice a4sw n4sw c4sw, .slice a5sw n5sw c5sw]):= (Bx.new _ [.int .i64 code, .int .i64 z0sw, .int .i64 z1sw, .slice a2sw n2sw c2sw, .slice a3sw n3sw c3sw, .slice a4sw n4sw c4sw, .slice a5sw n5sw c5sw] _).later hb
 have y_Bw:w3.heap.size<w4.heap.size:=Bw_w4.out.lt
 have Px0_w4:Hid (FsU w4 (.slice a0x0p n0x0p c0x0p) (.slice a1x0p n1x0p c1x0p) dx0 (fun b=>w3.heap.size<b∧b<w4.heap.size)):=ho.mono fun b hb=> ⟨by have:=hb.1;simp at this;omega,hb.2⟩
 clear Bx0_w3 Dw_w3 HB_w3 HL_w4
 clear hb ho
 have qBx00:=Bx0_w4.out 0 _ rfl
 have qBx01:=Bx0_w4.out 1 _ rfl
 have tBx0:=Bx0_w4.out.lt
 have qBw0:=Bw_w4.out 0 _ rfl
 have qBw1:=Bw_w4.out 1 _ rfl
 have qBw2:=Bw_w4.out 2 _ rfl
 have qBw3:=Bw_w4.out 3 _ rfl
 have qBw4:=Bw_w4.out 4 _ rfl
 have qBw5:=Bw_w4.out 5 _ rfl
 have qBw6:=Bw_w4.out 6 _ rfl
 have tBw:=Bw_w4.out.lt
 go_wp2_with fail
 clear qBx00 qBx01 tBx0 qBw0 qBw1 qBw2 qBw3 qBw4 qBw5 qBw6 tBw
 refine (qk0 _ _ _ _ _ _ _ dx0 x1 x2 (Px0_w4.out.later (qab _ _)).reads Sx0.out Sx1.out Sx2.out (by first|exact HGL.out.later HB_w4.out|exact HGL.out.later (HB_w4.out.trans ((qab _ _).mono HB_w4.out.size))|exact HGL.out.later (HB_w4.out.trans ((qam _ _ _).mono HB_w4.out.size)))).mono ?_
 rw [HR.out]
 rintro e w5 ⟨z0sg,z1sg,a2sg,n2sg,c2sg,a3sg,n3sg,c3sg,a4sg,n4sg,c4sg,a5sg,n5sg,c5sg,rfl,hb,ho⟩
 have HL_w5:Hid (Below w4.heap.size w4 w5):= (qab _ _).trans (hb.mono (by simp))
 have HB_w5:Hid (Below w.heap.size w w5):=HB_w4.out.trans (HL_w5.out.mono HB_w4.out.size)
 have z_w5:w4.heap.size≤w5.heap.size:=HL_w5.out.size
 have Bx0_w5:Hid (Bx w5 w.heap.size [.slice a0x0 n0x0 c0x0, .slice a1x0 n1x0 c1x0]):=Bx0_w4.out.later HL_w5.out
 have Dw_w5:Hid (qap w5 (.int .i64 z0sw) (.int .i64 z1sw) (.slice a2sw n2sw c2sw) (.slice a3sw n3sw c3sw) (.slice a4sw n4sw c4sw) (.slice a5sw n5sw c5sw) d2 (fun b=>w2.heap.size≤b∧b<w3.heap.size)):=Dw_w4.out.later HL_w5.out
 have Bw_w5:Hid (Bx w5 w3.heap.size [.int .i64 code, .int .i64 z0sw, .int .i64 z1sw, .slice a2sw n2sw c2sw, .slice a3sw n3sw c3sw, .slice a4sw n4sw c4sw, .slice a5sw n5sw c5sw]):=Bw_w4.out.later HL_w5.out
 have Px0_w5:Hid (FsU w5 (.slice a0x0p n0x0p c0x0p) (.slice a1x0p n1x0p c1x0p) dx0 (fun b=>w3.heap.size<b∧b<w4.heap.size)):=Px0_w4.out.later HL_w5.out
 have Xx0_w5:Hid (Bx w5 w4.heap.size [.slice a0x0p n0x0p c0x0p, .slice a1x0p n1x0p c1x0p]):= (Bx.new _ [.slice a0x0p n0x0p c0x0p, .slice a1x0p n1x0p c1x0p] _).later hb
 have y_Xx0:w4.heap.size<w5.heap.size:=Xx0_w5.out.lt
 have Dg_w5:Hid (qap w5 (.int .i64 z0sg) (.int .i64 z1sg) (.slice a2sg n2sg c2sg) (.slice a3sg n3sg c3sg) (.slice a4sg n4sg c4sg) (.slice a5sg n5sg c5sg) d2 (fun b=>w4.heap.size<b∧b<w5.heap.size)):=ho.mono fun b hb=> ⟨by have:=hb.1;simp at this;omega,hb.2⟩
 clear Bx0_w4 Dw_w4 Bw_w4 Px0_w4 HB_w4 HL_w5
 clear hb ho
 have qBx00:=Bx0_w5.out 0 _ rfl
 have qBx01:=Bx0_w5.out 1 _ rfl
 have tBx0:=Bx0_w5.out.lt
 have qBw0:=Bw_w5.out 0 _ rfl
 have qBw1:=Bw_w5.out 1 _ rfl
 have qBw2:=Bw_w5.out 2 _ rfl
 have qBw3:=Bw_w5.out 3 _ rfl
 have qBw4:=Bw_w5.out 4 _ rfl
 have qBw5:=Bw_w5.out 5 _ rfl
 have qBw6:=Bw_w5.out 6 _ rfl
 have tBw:=Bw_w5.out.lt
 have qXx00:=Xx0_w5.out 0 _ rfl
 have qXx01:=Xx0_w5.out 1 _ rfl
 have tXx0:=Xx0_w5.out.lt
 go_wp2_with fail
 clear qBx00 qBx01 tBx0 qBw0 qBw1 qBw2 qBw3 qBw4 qBw5 qBw6 tBw qXx00 qXx01 tXx0
 refine (qc7 _ code _ _ _ _ _ _ _ _ _ _ _ _ d2 (Dg_w5.out.later (qab _ _)).reads (Dw_w5.out.later (qab _ _)).reads).mono ?_
 rintro e w6 ⟨rfl,hb⟩
 have HL_w6:Hid (Below w5.heap.size w5 w6):= (qab _ _).trans (hb.mono (by simp))
 have HB_w6:Hid (Below w.heap.size w w6):=HB_w5.out.trans (HL_w6.out.mono HB_w5.out.size)
 have z_w6:w5.heap.size≤w6.heap.size:=HL_w6.out.size
 have Bx0_w6:Hid (Bx w6 w.heap.size [.slice a0x0 n0x0 c0x0, .slice a1x0 n1x0 c1x0]):=Bx0_w5.out.later HL_w6.out
 have Dw_w6:Hid (qap w6 (.int .i64 z0sw) (.int .i64 z1sw) (.slice a2sw n2sw c2sw) (.slice a3sw n3sw c3sw) (.slice a4sw n4sw c4sw) (.slice a5sw n5sw c5sw) d2 (fun b=>w2.heap.size≤b∧b<w3.heap.size)):=Dw_w5.out.later HL_w6.out
 have Bw_w6:Hid (Bx w6 w3.heap.size [.int .i64 code, .int .i64 z0sw, .int .i64 z1sw, .slice a2sw n2sw c2sw, .slice a3sw n3sw c3sw, .slice a4sw n4sw c4sw, .slice a5sw n5sw c5sw]):=Bw_w5.out.later HL_w6.out
 have Px0_w6:Hid (FsU w6 (.slice a0x0p n0x0p c0x0p) (.slice a1x0p n1x0p c1x0p) dx0 (fun b=>w3.heap.size<b∧b<w4.heap.size)):=Px0_w5.out.later HL_w6.out
 have Xx0_w6:Hid (Bx w6 w4.heap.size [.slice a0x0p n0x0p c0x0p, .slice a1x0p n1x0p c1x0p]):=Xx0_w5.out.later HL_w6.out
 have Dg_w6:Hid (qap w6 (.int .i64 z0sg) (.int .i64 z1sg) (.slice a2sg n2sg c2sg) (.slice a3sg n3sg c3sg) (.slice a4sg n4sg c4sg) (.slice a5sg n5sg c5sg) d2 (fun b=>w4.heap.size<b∧b<w5.heap.size)):=Dg_w5.out.later HL_w6.out
 have Bg_w6:Hid (Bx w6 w5.heap.size [.int .i64 code, .int .i64 z0sg, .int .i64 z1sg, .slice a2sg n2sg c2sg, .slice a3sg n3sg c3sg, .slice a4sg n4sg c4sg, .slice a5sg n5sg c5sg]):= (Bx.new _ [.int .i64 code, .int .i64 z0sg, .int .i64 z1sg, .slice a2sg n2sg c2sg, .slice a3sg n3sg c3sg, .slice a4sg n4sg c4sg, .slice a5sg n5sg c5sg] _).later hb
 have y_Bg:w5.heap.size<w6.heap.size:=Bg_w6.out.lt
 clear Bx0_w5 Dw_w5 Bw_w5 Px0_w5 Xx0_w5 Dg_w5 HB_w5 HL_w6
 clear hb
 have qBx00:=Bx0_w6.out 0 _ rfl
 have qBx01:=Bx0_w6.out 1 _ rfl
 have tBx0:=Bx0_w6.out.lt
 have qBw0:=Bw_w6.out 0 _ rfl
 have qBw1:=Bw_w6.out 1 _ rfl
 have qBw2:=Bw_w6.out 2 _ rfl
 have qBw3:=Bw_w6.out 3 _ rfl
 have qBw4:=Bw_w6.out 4 _ rfl
 have qBw5:=Bw_w6.out 5 _ rfl
 have qBw6:=Bw_w6.out 6 _ rfl
 have tBw:=Bw_w6.out.lt
 have qXx00:=Xx0_w6.out 0 _ rfl
 have qXx01:=Xx0_w6.out 1 _ rfl
 have tXx0:=Xx0_w6.out.lt
 have qBg0:=Bg_w6.out 0 _ rfl
 have qBg1:=Bg_w6.out 1 _ rfl
 have qBg2:=Bg_w6.out 2 _ rfl
 have qBg3:=Bg_w6.out 3 _ rfl
 have qBg4:=Bg_w6.out 4 _ rfl
 have qBg5:=Bg_w6.out 5 _ rfl
 have qBg6:=Bg_w6.out 6 _ rfl
 have tBg:=Bg_w6.out.lt
 go_wp2_with fail
 go_region_with (first
  | (go_at_call 6;refine (qn3 _ _ _ _ _ _ _ dx0 ?_ Sx0.out).mono ?_;exact Hx0.out.later HB_w6.out.drew;rintro e w7 ⟨a0x0q,n0x0q,c0x0q,a1x0q,n1x0q,c1x0q,rfl,hb,ho⟩;have y0:=cell_later hb qXx00;have y1:=cell_later hb qXx01;have HL:Hid (Below w6.heap.size w6 w7):= (Below.refl _ _).drew.trans hb;have HO:Hid (FsR w7 (.slice a0x0q n0x0q c0x0q) (.slice a1x0q n1x0q c1x0q) dx0):=ho.reads;clear hb ho)
  | (go_at_call 9;refine (qqX _ _ _ _ _ dx0 ?_ ?_).mono ?_;exact Px0_w6.out.reads.later HL.out;exact HO.out;rintro e w8 ⟨rfl,hb⟩;have HL2:Hid (Below w7.heap.size w7 w8):=hb;clear hb))
 all_goals
  have hb:Below w6.heap.size w6 w8:=HL.out.trans (HL2.out.mono HL.out.size)
  clear qBx00 qBx01 tBx0 qBw0 qBw1 qBw2 qBw3 qBw4 qBw5 qBw6 tBw qXx00 qXx01 tXx0 qBg0 qBg1 qBg2 qBg3 qBg4 qBg5 qBg6 tBg HL HL2 HO y0 y1
  have HL_w8:Hid (Below w6.heap.size w6 w8):=hb
  have HB_w8:Hid (Below w.heap.size w w8):=HB_w6.out.trans (HL_w8.out.mono HB_w6.out.size)
  have z_w8:w6.heap.size≤w8.heap.size:=HL_w8.out.size
  have Bx0_w8:Hid (Bx w8 w.heap.size [.slice a0x0 n0x0 c0x0, .slice a1x0 n1x0 c1x0]):=Bx0_w6.out.later HL_w8.out
  have Dw_w8:Hid (qap w8 (.int .i64 z0sw) (.int .i64 z1sw) (.slice a2sw n2sw c2sw) (.slice a3sw n3sw c3sw) (.slice a4sw n4sw c4sw) (.slice a5sw n5sw c5sw) d2 (fun b=>w2.heap.size≤b∧b<w3.heap.size)):=Dw_w6.out.later HL_w8.out
  have Bw_w8:Hid (Bx w8 w3.heap.size [.int .i64 code, .int .i64 z0sw, .int .i64 z1sw, .slice a2sw n2sw c2sw, .slice a3sw n3sw c3sw, .slice a4sw n4sw c4sw, .slice a5sw n5sw c5sw]):=Bw_w6.out.later HL_w8.out
  have Px0_w8:Hid (FsU w8 (.slice a0x0p n0x0p c0x0p) (.slice a1x0p n1x0p c1x0p) dx0 (fun b=>w3.heap.size<b∧b<w4.heap.size)):=Px0_w6.out.later HL_w8.out
  have Xx0_w8:Hid (Bx w8 w4.heap.size [.slice a0x0p n0x0p c0x0p, .slice a1x0p n1x0p c1x0p]):=Xx0_w6.out.later HL_w8.out
  have Dg_w8:Hid (qap w8 (.int .i64 z0sg) (.int .i64 z1sg) (.slice a2sg n2sg c2sg) (.slice a3sg n3sg c3sg) (.slice a4sg n4sg c4sg) (.slice a5sg n5sg c5sg) d2 (fun b=>w4.heap.size<b∧b<w5.heap.size)):=Dg_w6.out.later HL_w8.out
  have Bg_w8:Hid (Bx w8 w5.heap.size [.int .i64 code, .int .i64 z0sg, .int .i64 z1sg, .slice a2sg n2sg c2sg, .slice a3sg n3sg c3sg, .slice a4sg n4sg c4sg, .slice a5sg n5sg c5sg]):=Bg_w6.out.later HL_w8.out
  clear Bx0_w6 Dw_w6 Bw_w6 Px0_w6 Xx0_w6 Dg_w6 Bg_w6 HB_w6 HL_w8
  clear hb
  have qBx00:=Bx0_w8.out 0 _ rfl
  have qBx01:=Bx0_w8.out 1 _ rfl
  have tBx0:=Bx0_w8.out.lt
  have qBw0:=Bw_w8.out 0 _ rfl
  have qBw1:=Bw_w8.out 1 _ rfl
  have qBw2:=Bw_w8.out 2 _ rfl
  have qBw3:=Bw_w8.out 3 _ rfl
  have qBw4:=Bw_w8.out 4 _ rfl
  have qBw5:=Bw_w8.out 5 _ rfl
  have qBw6:=Bw_w8.out 6 _ rfl
  have tBw:=Bw_w8.out.lt
  have qXx00:=Xx0_w8.out 0 _ rfl
  have qXx01:=Xx0_w8.out 1 _ rfl
  have tXx0:=Xx0_w8.out.lt
  have qBg0:=Bg_w8.out 0 _ rfl
  have qBg1:=Bg_w8.out 1 _ rfl
  have qBg2:=Bg_w8.out 2 _ rfl
  have qBg3:=Bg_w8.out 3 _ rfl
  have qBg4:=Bg_w8.out 4 _ rfl
  have qBg5:=Bg_w8.out 5 _ rfl
  have qBg6:=Bg_w8.out 6 _ rfl
  have tBg:=Bg_w8.out.lt
  go_wp2_with fail
  clear qBx00 qBx01 tBx0 qBw0 qBw1 qBw2 qBw3 qBw4 qBw5 qBw6 tBw qXx00 qXx01 tXx0 qBg0 qBg1 qBg2 qBg3 qBg4 qBg5 qBg6 tBg
  refine (qpt _ _ _ dx0 _ _ Px0_w8.out (by omega) (by omega)).mono ?_
  rintro e w9 ⟨rfl,hc⟩
  have HB_w9:Hid (Below w.heap.size w w9):=HB_w8.out.trans (hc.below HB_w8.out.size (fun b h=>by have:=HB_w8.out.size;omega))
  have z_w9:w8.heap.size≤w9.heap.size:=hc.size
  have Bx0_w9:Hid (Bx w9 w.heap.size [.slice a0x0 n0x0 c0x0, .slice a1x0 n1x0 c1x0]):=Bx0_w8.out.chg hc (by omega)
  have Dw_w9:Hid (qap w9 (.int .i64 z0sw) (.int .i64 z1sw) (.slice a2sw n2sw c2sw) (.slice a3sw n3sw c3sw) (.slice a4sw n4sw c4sw) (.slice a5sw n5sw c5sw) d2 (fun b=>w2.heap.size≤b∧b<w3.heap.size)):=Dw_w8.out.chg hc (fun b h h'=>by omega)
  have Bw_w9:Hid (Bx w9 w3.heap.size [.int .i64 code, .int .i64 z0sw, .int .i64 z1sw, .slice a2sw n2sw c2sw, .slice a3sw n3sw c3sw, .slice a4sw n4sw c4sw, .slice a5sw n5sw c5sw]):=Bw_w8.out.chg hc (by omega)
  have Xx0_w9:Hid (Bx w9 w4.heap.size [.slice a0x0p n0x0p c0x0p, .slice a1x0p n1x0p c1x0p]):=Xx0_w8.out.chg hc (by omega)
  have Dg_w9:Hid (qap w9 (.int .i64 z0sg) (.int .i64 z1sg) (.slice a2sg n2sg c2sg) (.slice a3sg n3sg c3sg) (.slice a4sg n4sg c4sg) (.slice a5sg n5sg c5sg) d2 (fun b=>w4.heap.size<b∧b<w5.heap.size)):=Dg_w8.out.chg hc (fun b h h'=>by omega)
  have Bg_w9:Hid (Bx w9 w5.heap.size [.int .i64 code, .int .i64 z0sg, .int .i64 z1sg, .slice a2sg n2sg c2sg, .slice a3sg n3sg c3sg, .slice a4sg n4sg c4sg, .slice a5sg n5sg c5sg]):=Bg_w8.out.chg hc (by omega)
  clear HB_w8 Bx0_w8 Dw_w8 Bw_w8 Px0_w8 Xx0_w8 Dg_w8 Bg_w8
  clear hc
  have hk:decide ((1+ (spanFs dx0:Nat):Int)<0)=false:=by simp;omega
  have qBx00:=Bx0_w9.out 0 _ rfl
  have qBx01:=Bx0_w9.out 1 _ rfl
  have tBx0:=Bx0_w9.out.lt
  have qBw0:=Bw_w9.out 0 _ rfl
  have qBw1:=Bw_w9.out 1 _ rfl
  have qBw2:=Bw_w9.out 2 _ rfl
  have qBw3:=Bw_w9.out 3 _ rfl
  have qBw4:=Bw_w9.out 4 _ rfl
  have qBw5:=Bw_w9.out 5 _ rfl
  have qBw6:=Bw_w9.out 6 _ rfl
  have tBw:=Bw_w9.out.lt
  have qXx00:=Xx0_w9.out 0 _ rfl
  have qXx01:=Xx0_w9.out 1 _ rfl
  have tXx0:=Xx0_w9.out.lt
  have qBg0:=Bg_w9.out 0 _ rfl
  have qBg1:=Bg_w9.out 1 _ rfl
  have qBg2:=Bg_w9.out 2 _ rfl
  have qBg3:=Bg_w9.out 3 _ rfl
  have qBg4:=Bg_w9.out 4 _ rfl
  have qBg5:=Bg_w9.out 5 _ rfl
  have qBg6:=Bg_w9.out 6 _ rfl
  have tBg:=Bg_w9.out.lt
  go_wp2_with fail
  clear qBx00 qBx01 tBx0 qBw0 qBw1 qBw2 qBw3 qBw4 qBw5 qBw6 tBw qXx00 qXx01 tXx0 qBg0 qBg1 qBg2 qBg3 qBg4 qBg5 qBg6 tBg
  refine (qc7 _ code _ _ _ _ _ _ _ _ _ _ _ _ d2 Dg_w9.out.reads Dw_w9.out.reads).mono ?_
  rintro e w10 ⟨rfl,hb⟩
  have HL_w10:Hid (Below w9.heap.size w9 w10):=hb
  have HB_w10:Hid (Below w.heap.size w w10):=HB_w9.out.trans (HL_w10.out.mono HB_w9.out.size)
  have z_w10:w9.heap.size≤w10.heap.size:=HL_w10.out.size
  have Bx0_w10:Hid (Bx w10 w.heap.size [.slice a0x0 n0x0 c0x0, .slice a1x0 n1x0 c1x0]):=Bx0_w9.out.later HL_w10.out
  have Dw_w10:Hid (qap w10 (.int .i64 z0sw) (.int .i64 z1sw) (.slice a2sw n2sw c2sw) (.slice a3sw n3sw c3sw) (.slice a4sw n4sw c4sw) (.slice a5sw n5sw c5sw) d2 (fun b=>w2.heap.size≤b∧b<w3.heap.size)):=Dw_w9.out.later HL_w10.out
  have Bw_w10:Hid (Bx w10 w3.heap.size [.int .i64 code, .int .i64 z0sw, .int .i64 z1sw, .slice a2sw n2sw c2sw, .slice a3sw n3sw c3sw, .slice a4sw n4sw c4sw, .slice a5sw n5sw c5sw]):=Bw_w9.out.later HL_w10.out
  have Xx0_w10:Hid (Bx w10 w4.heap.size [.slice a0x0p n0x0p c0x0p, .slice a1x0p n1x0p c1x0p]):=Xx0_w9.out.later HL_w10.out
  have Dg_w10:Hid (qap w10 (.int .i64 z0sg) (.int .i64 z1sg) (.slice a2sg n2sg c2sg) (.slice a3sg n3sg c3sg) (.slice a4sg n4sg c4sg) (.slice a5sg n5sg c5sg) d2 (fun b=>w4.heap.size<b∧b<w5.heap.size)):=Dg_w9.out.later HL_w10.out
  have Bg_w10:Hid (Bx w10 w5.heap.size [.int .i64 code, .int .i64 z0sg, .int .i64 z1sg, .slice a2sg n2sg c2sg, .slice a3sg n3sg c3sg, .slice a4sg n4sg c4sg, .slice a5sg n5sg c5sg]):=Bg_w9.out.later HL_w10.out
  clear Bx0_w9 Dw_w9 Bw_w9 Xx0_w9 Dg_w9 Bg_w9 HB_w9 HL_w10
  clear hb
  have qBx00:=Bx0_w10.out 0 _ rfl
  have qBx01:=Bx0_w10.out 1 _ rfl
  have tBx0:=Bx0_w10.out.lt
  have qBw0:=Bw_w10.out 0 _ rfl
  have qBw1:=Bw_w10.out 1 _ rfl
  have qBw2:=Bw_w10.out 2 _ rfl
  have qBw3:=Bw_w10.out 3 _ rfl
  have qBw4:=Bw_w10.out 4 _ rfl
  have qBw5:=Bw_w10.out 5 _ rfl
  have qBw6:=Bw_w10.out 6 _ rfl
  have tBw:=Bw_w10.out.lt
  have qXx00:=Xx0_w10.out 0 _ rfl
  have qXx01:=Xx0_w10.out 1 _ rfl
  have tXx0:=Xx0_w10.out.lt
  have qBg0:=Bg_w10.out 0 _ rfl
  have qBg1:=Bg_w10.out 1 _ rfl
  have qBg2:=Bg_w10.out 2 _ rfl
  have qBg3:=Bg_w10.out 3 _ rfl
  have qBg4:=Bg_w10.out 4 _ rfl
  have qBg5:=Bg_w10.out 5 _ rfl
  have qBg6:=Bg_w10.out 6 _ rfl
  have tBg:=Bg_w10.out.lt
  go_wp2_with fail
  clear qBx00 qBx01 tBx0 qBw0 qBw1 qBw2 qBw3 qBw4 qBw5 qBw6 tBw qXx00 qXx01 tXx0 qBg0 qBg1 qBg2 qBg3 qBg4 qBg5 qBg6 tBg
  refine (qfW _ code _ _ _ _ _ _ d2 _ 1 Dg_w10.out (by omega) (by omega)).mono ?_
  rintro e w11 ⟨rfl,hm,hc⟩
  have HB_w11:Hid (Below w.heap.size w w11):=HB_w10.out.trans (hc.below HB_w10.out.size (fun b h=>by have:=HB_w10.out.size;omega))
  have z_w11:w10.heap.size≤w11.heap.size:=hc.size
  have Bx0_w11:Hid (Bx w11 w.heap.size [.slice a0x0 n0x0 c0x0, .slice a1x0 n1x0 c1x0]):=Bx0_w10.out.chg hc (by omega)
  have Dw_w11:Hid (qap w11 (.int .i64 z0sw) (.int .i64 z1sw) (.slice a2sw n2sw c2sw) (.slice a3sw n3sw c3sw) (.slice a4sw n4sw c4sw) (.slice a5sw n5sw c5sw) d2 (fun b=>w2.heap.size≤b∧b<w3.heap.size)):=Dw_w10.out.chg hc (fun b h h'=>by omega)
  have Bw_w11:Hid (Bx w11 w3.heap.size [.int .i64 code, .int .i64 z0sw, .int .i64 z1sw, .slice a2sw n2sw c2sw, .slice a3sw n3sw c3sw, .slice a4sw n4sw c4sw, .slice a5sw n5sw c5sw]):=Bw_w10.out.chg hc (by omega)
  have Xx0_w11:Hid (Bx w11 w4.heap.size [.slice a0x0p n0x0p c0x0p, .slice a1x0p n1x0p c1x0p]):=Xx0_w10.out.chg hc (by omega)
  have Bg_w11:Hid (Bx w11 w5.heap.size [.int .i64 code, .int .i64 z0sg, .int .i64 z1sg, .slice a2sg n2sg c2sg, .slice a3sg n3sg c3sg, .slice a4sg n4sg c4sg, .slice a5sg n5sg c5sg]):=Bg_w10.out.chg hc (by omega)
  have Dm_w11:Hid (qap w11 (.int .i64 z0sg) (.int .i64 z1sg) (.slice a2sg n2sg c2sg) (.slice a3sg n3sg c3sg) (.slice a4sg n4sg c4sg) (.slice a5sg n5sg c5sg) (qnP 1 d2) (fun b=>w4.heap.size<b∧b<w5.heap.size)):=hm
  clear HB_w10 Bx0_w10 Dw_w10 Bw_w10 Xx0_w10 Dg_w10 Bg_w10
  clear hm hc
  generalize hK: (1:Int)+ (spanCR d2:Nat)=K at*
  have hKK: (K !=K)=false:=by simp
  have hK0: ¬K<0:=by omega
  have hK1:K≤4294967296:=by omega
  have HK:Hid ((1:Int)+ (spanCR d2:Nat)=K):=hK
  clear hK
  have qBx00:=Bx0_w11.out 0 _ rfl
  have qBx01:=Bx0_w11.out 1 _ rfl
  have tBx0:=Bx0_w11.out.lt
  have qBw0:=Bw_w11.out 0 _ rfl
  have qBw1:=Bw_w11.out 1 _ rfl
  have qBw2:=Bw_w11.out 2 _ rfl
  have qBw3:=Bw_w11.out 3 _ rfl
  have qBw4:=Bw_w11.out 4 _ rfl
  have qBw5:=Bw_w11.out 5 _ rfl
  have qBw6:=Bw_w11.out 6 _ rfl
  have tBw:=Bw_w11.out.lt
  have qXx00:=Xx0_w11.out 0 _ rfl
  have qXx01:=Xx0_w11.out 1 _ rfl
  have tXx0:=Xx0_w11.out.lt
  have qBg0:=Bg_w11.out 0 _ rfl
  have qBg1:=Bg_w11.out 1 _ rfl
  have qBg2:=Bg_w11.out 2 _ rfl
  have qBg3:=Bg_w11.out 3 _ rfl
  have qBg4:=Bg_w11.out 4 _ rfl
  have qBg5:=Bg_w11.out 5 _ rfl
  have qBg6:=Bg_w11.out 6 _ rfl
  have tBg:=Bg_w11.out.lt
  go_wp2_with fail
  clear qBx00 qBx01 tBx0 qBw0 qBw1 qBw2 qBw3 qBw4 qBw5 qBw6 tBw qXx00 qXx01 tXx0 qBg0 qBg1 qBg2 qBg3 qBg4 qBg5 qBg6 tBg
  refine (qdq _ code _ _ _ _ _ _ d2 _ 1 Dm_w11.out (by omega) (by rw [HK.out];exact hK1)).mono ?_
  rw [HK.out]
  rintro e w12 ⟨rfl,hb⟩
  have HL_w12:Hid (Below w11.heap.size w11 w12):=hb
  have HB_w12:Hid (Below w.heap.size w w12):=HB_w11.out.trans (HL_w12.out.mono HB_w11.out.size)
  have z_w12:w11.heap.size≤w12.heap.size:=HL_w12.out.size
  have Bx0_w12:Hid (Bx w12 w.heap.size [.slice a0x0 n0x0 c0x0, .slice a1x0 n1x0 c1x0]):=Bx0_w11.out.later HL_w12.out
  have Dw_w12:Hid (qap w12 (.int .i64 z0sw) (.int .i64 z1sw) (.slice a2sw n2sw c2sw) (.slice a3sw n3sw c3sw) (.slice a4sw n4sw c4sw) (.slice a5sw n5sw c5sw) d2 (fun b=>w2.heap.size≤b∧b<w3.heap.size)):=Dw_w11.out.later HL_w12.out
  have Bw_w12:Hid (Bx w12 w3.heap.size [.int .i64 code, .int .i64 z0sw, .int .i64 z1sw, .slice a2sw n2sw c2sw, .slice a3sw n3sw c3sw, .slice a4sw n4sw c4sw, .slice a5sw n5sw c5sw]):=Bw_w11.out.later HL_w12.out
  have Xx0_w12:Hid (Bx w12 w4.heap.size [.slice a0x0p n0x0p c0x0p, .slice a1x0p n1x0p c1x0p]):=Xx0_w11.out.later HL_w12.out
  have Bg_w12:Hid (Bx w12 w5.heap.size [.int .i64 code, .int .i64 z0sg, .int .i64 z1sg, .slice a2sg n2sg c2sg, .slice a3sg n3sg c3sg, .slice a4sg n4sg c4sg, .slice a5sg n5sg c5sg]):=Bg_w11.out.later HL_w12.out
  have Dm_w12:Hid (qap w12 (.int .i64 z0sg) (.int .i64 z1sg) (.slice a2sg n2sg c2sg) (.slice a3sg n3sg c3sg) (.slice a4sg n4sg c4sg) (.slice a5sg n5sg c5sg) (qnP 1 d2) (fun b=>w4.heap.size<b∧b<w5.heap.size)):=Dm_w11.out.later HL_w12.out
  clear Bx0_w11 Dw_w11 Bw_w11 Xx0_w11 Bg_w11 Dm_w11 HB_w11 HL_w12
  clear hb
  have qBx00:=Bx0_w12.out 0 _ rfl
  have qBx01:=Bx0_w12.out 1 _ rfl
  have tBx0:=Bx0_w12.out.lt
  have qBw0:=Bw_w12.out 0 _ rfl
  have qBw1:=Bw_w12.out 1 _ rfl
  have qBw2:=Bw_w12.out 2 _ rfl
  have qBw3:=Bw_w12.out 3 _ rfl
  have qBw4:=Bw_w12.out 4 _ rfl
  have qBw5:=Bw_w12.out 5 _ rfl
  have qBw6:=Bw_w12.out 6 _ rfl
  have tBw:=Bw_w12.out.lt
  have qXx00:=Xx0_w12.out 0 _ rfl
  have qXx01:=Xx0_w12.out 1 _ rfl
  have tXx0:=Xx0_w12.out.lt
  have qBg0:=Bg_w12.out 0 _ rfl
  have qBg1:=Bg_w12.out 1 _ rfl
  have qBg2:=Bg_w12.out 2 _ rfl
  have qBg3:=Bg_w12.out 3 _ rfl
  have qBg4:=Bg_w12.out 4 _ rfl
  have qBg5:=Bg_w12.out 5 _ rfl
  have qBg6:=Bg_w12.out 6 _ rfl
  have tBg:=Bg_w12.out.lt
  go_wp2_with fail
  clear qBx00 qBx01 tBx0 qBw0 qBw1 qBw2 qBw3 qBw4 qBw5 qBw6 tBw qXx00 qXx01 tXx0 qBg0 qBg1 qBg2 qBg3 qBg4 qBg5 qBg6 tBg
  refine (qn3 _ _ _ _ _ _ _ dx0 (Hx0.out.later HB_w12.out) Sx0.out).mono ?_
  rintro e w13 ⟨a0x0h,n0x0h,c0x0h,a1x0h,n1x0h,c1x0h,rfl,hb,ho⟩
  have HL_w13:Hid (Below w12.heap.size w12 w13):=hb
  have HB_w13:Hid (Below w.heap.size w w13):=HB_w12.out.trans (HL_w13.out.mono HB_w12.out.size)
  have z_w13:w12.heap.size≤w13.heap.size:=HL_w13.out.size
  have Bx0_w13:Hid (Bx w13 w.heap.size [.slice a0x0 n0x0 c0x0, .slice a1x0 n1x0 c1x0]):=Bx0_w12.out.later HL_w13.out
  have Dw_w13:Hid (qap w13 (.int .i64 z0sw) (.int .i64 z1sw) (.slice a2sw n2sw c2sw) (.slice a3sw n3sw c3sw) (.slice a4sw n4sw c4sw) (.slice a5sw n5sw c5sw) d2 (fun b=>w2.heap.size≤b∧b<w3.heap.size)):=Dw_w12.out.later HL_w13.out
  have Bw_w13:Hid (Bx w13 w3.heap.size [.int .i64 code, .int .i64 z0sw, .int .i64 z1sw, .slice a2sw n2sw c2sw, .slice a3sw n3sw c3sw, .slice a4sw n4sw c4sw, .slice a5sw n5sw c5sw]):=Bw_w12.out.later HL_w13.out
  have Xx0_w13:Hid (Bx w13 w4.heap.size [.slice a0x0p n0x0p c0x0p, .slice a1x0p n1x0p c1x0p]):=Xx0_w12.out.later HL_w13.out
  have Bg_w13:Hid (Bx w13 w5.heap.size [.int .i64 code, .int .i64 z0sg, .int .i64 z1sg, .slice a2sg n2sg c2sg, .slice a3sg n3sg c3sg, .slice a4sg n4sg c4sg, .slice a5sg n5sg c5sg]):=Bg_w12.out.later HL_w13.out
  have Dm_w13:Hid (qap w13 (.int .i64 z0sg) (.int .i64 z1sg) (.slice a2sg n2sg c2sg) (.slice a3sg n3sg c3sg) (.slice a4sg n4sg c4sg) (.slice a5sg n5sg c5sg) (qnP 1 d2) (fun b=>w4.heap.size<b∧b<w5.heap.size)):=Dm_w12.out.later HL_w13.out
  have Vx0_w13:Hid (FsU w13 (.slice a0x0h n0x0h c0x0h) (.slice a1x0h n1x0h c1x0h) dx0 (fun b=>w12.heap.size≤b∧b<w13.heap.size)):=ho
  clear Bx0_w12 Dw_w12 Bw_w12 Xx0_w12 Bg_w12 Dm_w12 HB_w12 HL_w13
  clear hb ho
  have qBx00:=Bx0_w13.out 0 _ rfl
  have qBx01:=Bx0_w13.out 1 _ rfl
  have tBx0:=Bx0_w13.out.lt
  have qBw0:=Bw_w13.out 0 _ rfl
  have qBw1:=Bw_w13.out 1 _ rfl
  have qBw2:=Bw_w13.out 2 _ rfl
  have qBw3:=Bw_w13.out 3 _ rfl
  have qBw4:=Bw_w13.out 4 _ rfl
  have qBw5:=Bw_w13.out 5 _ rfl
  have qBw6:=Bw_w13.out 6 _ rfl
  have tBw:=Bw_w13.out.lt
  have qXx00:=Xx0_w13.out 0 _ rfl
  have qXx01:=Xx0_w13.out 1 _ rfl
  have tXx0:=Xx0_w13.out.lt
  have qBg0:=Bg_w13.out 0 _ rfl
  have qBg1:=Bg_w13.out 1 _ rfl
  have qBg2:=Bg_w13.out 2 _ rfl
  have qBg3:=Bg_w13.out 3 _ rfl
  have qBg4:=Bg_w13.out 4 _ rfl
  have qBg5:=Bg_w13.out 5 _ rfl
  have qBg6:=Bg_w13.out 6 _ rfl
  have tBg:=Bg_w13.out.lt
  go_wp2_with fail
  clear qBx00 qBx01 tBx0 qBw0 qBw1 qBw2 qBw3 qBw4 qBw5 qBw6 tBw qXx00 qXx01 tXx0 qBg0 qBg1 qBg2 qBg3 qBg4 qBg5 qBg6 tBg
  refine (qk0 _ _ _ _ _ _ _ dx0 x1 x2 Vx0_w13.out.reads Sx0.out Sx1.out Sx2.out (by first|exact HGL.out.later HB_w13.out|exact HGL.out.later (HB_w13.out.trans ((qab _ _).mono HB_w13.out.size))|exact HGL.out.later (HB_w13.out.trans ((qam _ _ _).mono HB_w13.out.size)))).mono ?_
  rw [HR.out]
  rintro e w14 ⟨z0sh,z1sh,a2sh,n2sh,c2sh,a3sh,n3sh,c3sh,a4sh,n4sh,c4sh,a5sh,n5sh,c5sh,rfl,hb,ho⟩
  have HL_w14:Hid (Below w13.heap.size w13 w14):=hb
  have HB_w14:Hid (Below w.heap.size w w14):=HB_w13.out.trans (HL_w14.out.mono HB_w13.out.size)
  have z_w14:w13.heap.size≤w14.heap.size:=HL_w14.out.size
  have Bx0_w14:Hid (Bx w14 w.heap.size [.slice a0x0 n0x0 c0x0, .slice a1x0 n1x0 c1x0]):=Bx0_w13.out.later HL_w14.out
  have Dw_w14:Hid (qap w14 (.int .i64 z0sw) (.int .i64 z1sw) (.slice a2sw n2sw c2sw) (.slice a3sw n3sw c3sw) (.slice a4sw n4sw c4sw) (.slice a5sw n5sw c5sw) d2 (fun b=>w2.heap.size≤b∧b<w3.heap.size)):=Dw_w13.out.later HL_w14.out
  have Bw_w14:Hid (Bx w14 w3.heap.size [.int .i64 code, .int .i64 z0sw, .int .i64 z1sw, .slice a2sw n2sw c2sw, .slice a3sw n3sw c3sw, .slice a4sw n4sw c4sw, .slice a5sw n5sw c5sw]):=Bw_w13.out.later HL_w14.out
  have Xx0_w14:Hid (Bx w14 w4.heap.size [.slice a0x0p n0x0p c0x0p, .slice a1x0p n1x0p c1x0p]):=Xx0_w13.out.later HL_w14.out
  have Bg_w14:Hid (Bx w14 w5.heap.size [.int .i64 code, .int .i64 z0sg, .int .i64 z1sg, .slice a2sg n2sg c2sg, .slice a3sg n3sg c3sg, .slice a4sg n4sg c4sg, .slice a5sg n5sg c5sg]):=Bg_w13.out.later HL_w14.out
  have Dm_w14:Hid (qap w14 (.int .i64 z0sg) (.int .i64 z1sg) (.slice a2sg n2sg c2sg) (.slice a3sg n3sg c3sg) (.slice a4sg n4sg c4sg) (.slice a5sg n5sg c5sg) (qnP 1 d2) (fun b=>w4.heap.size<b∧b<w5.heap.size)):=Dm_w13.out.later HL_w14.out
  have Dh_w14:Hid (qap w14 (.int .i64 z0sh) (.int .i64 z1sh) (.slice a2sh n2sh c2sh) (.slice a3sh n3sh c3sh) (.slice a4sh n4sh c4sh) (.slice a5sh n5sh c5sh) d2 (fun b=>w13.heap.size≤b∧b<w14.heap.size)):=ho
  clear Bx0_w13 Dw_w13 Bw_w13 Xx0_w13 Bg_w13 Dm_w13 Vx0_w13 HB_w13 HL_w14
  clear hb ho
  have qBx00:=Bx0_w14.out 0 _ rfl
  have qBx01:=Bx0_w14.out 1 _ rfl
  have tBx0:=Bx0_w14.out.lt
  have qBw0:=Bw_w14.out 0 _ rfl
  have qBw1:=Bw_w14.out 1 _ rfl
  have qBw2:=Bw_w14.out 2 _ rfl
  have qBw3:=Bw_w14.out 3 _ rfl
  have qBw4:=Bw_w14.out 4 _ rfl
  have qBw5:=Bw_w14.out 5 _ rfl
  have qBw6:=Bw_w14.out 6 _ rfl
  have tBw:=Bw_w14.out.lt
  have qXx00:=Xx0_w14.out 0 _ rfl
  have qXx01:=Xx0_w14.out 1 _ rfl
  have tXx0:=Xx0_w14.out.lt
  have qBg0:=Bg_w14.out 0 _ rfl
  have qBg1:=Bg_w14.out 1 _ rfl
  have qBg2:=Bg_w14.out 2 _ rfl
  have qBg3:=Bg_w14.out 3 _ rfl
  have qBg4:=Bg_w14.out 4 _ rfl
  have qBg5:=Bg_w14.out 5 _ rfl
  have qBg6:=Bg_w14.out 6 _ rfl
  have tBg:=Bg_w14.out.lt
  go_wp2_with fail
  clear qBx00 qBx01 tBx0 qBw0 qBw1 qBw2 qBw3 qBw4 qBw5 qBw6 tBw qXx00 qXx01 tXx0 qBg0 qBg1 qBg2 qBg3 qBg4 qBg5 qBg6 tBg
  refine (qc7 _ code _ _ _ _ _ _ _ _ _ _ _ _ d2 (Dh_w14.out.later (qab _ _)).reads (Dw_w14.out.later (qab _ _)).reads).mono ?_
  rintro e w15 ⟨rfl,hb⟩
  have HL_w15:Hid (Below w14.heap.size w14 w15):= (qab _ _).trans (hb.mono (by simp))
  have HB_w15:Hid (Below w.heap.size w w15):=HB_w14.out.trans (HL_w15.out.mono HB_w14.out.size)
  have z_w15:w14.heap.size≤w15.heap.size:=HL_w15.out.size
  have Bx0_w15:Hid (Bx w15 w.heap.size [.slice a0x0 n0x0 c0x0, .slice a1x0 n1x0 c1x0]):=Bx0_w14.out.later HL_w15.out
  have Dw_w15:Hid (qap w15 (.int .i64 z0sw) (.int .i64 z1sw) (.slice a2sw n2sw c2sw) (.slice a3sw n3sw c3sw) (.slice a4sw n4sw c4sw) (.slice a5sw n5sw c5sw) d2 (fun b=>w2.heap.size≤b∧b<w3.heap.size)):=Dw_w14.out.later HL_w15.out
  have Bw_w15:Hid (Bx w15 w3.heap.size [.int .i64 code, .int .i64 z0sw, .int .i64 z1sw, .slice a2sw n2sw c2sw, .slice a3sw n3sw c3sw, .slice a4sw n4sw c4sw, .slice a5sw n5sw c5sw]):=Bw_w14.out.later HL_w15.out
  have Xx0_w15:Hid (Bx w15 w4.heap.size [.slice a0x0p n0x0p c0x0p, .slice a1x0p n1x0p c1x0p]):=Xx0_w14.out.later HL_w15.out
  have Bg_w15:Hid (Bx w15 w5.heap.size [.int .i64 code, .int .i64 z0sg, .int .i64 z1sg, .slice a2sg n2sg c2sg, .slice a3sg n3sg c3sg, .slice a4sg n4sg c4sg, .slice a5sg n5sg c5sg]):=Bg_w14.out.later HL_w15.out
  have Dm_w15:Hid (qap w15 (.int .i64 z0sg) (.int .i64 z1sg) (.slice a2sg n2sg c2sg) (.slice a3sg n3sg c3sg) (.slice a4sg n4sg c4sg) (.slice a5sg n5sg c5sg) (qnP 1 d2) (fun b=>w4.heap.size<b∧b<w5.heap.size)):=Dm_w14.out.later HL_w15.out
  have Dh_w15:Hid (qap w15 (.int .i64 z0sh) (.int .i64 z1sh) (.slice a2sh n2sh c2sh) (.slice a3sh n3sh c3sh) (.slice a4sh n4sh c4sh) (.slice a5sh n5sh c5sh) d2 (fun b=>w13.heap.size≤b∧b<w14.heap.size)):=Dh_w14.out.later HL_w15.out
  have Bh_w15:Hid (Bx w15 w14.heap.size [.int .i64 code, .int .i64 z0sh, .int .i64 z1sh, .slice a2sh n2sh c2sh, .slice a3sh n3sh c3sh, .slice a4sh n4sh c4sh, .slice a5sh n5sh c5sh]):= (Bx.new _ [.int .i64 code, .int .i64 z0sh, .int .i64 z1sh, .slice a2sh n2sh c2sh, .slice a3sh n3sh c3sh, .slice a4sh n4sh c4sh, .slice a5sh n5sh c5sh] _).later hb
  have y_Bh:w14.heap.size<w15.heap.size:=Bh_w15.out.lt
  clear Bx0_w14 Dw_w14 Bw_w14 Xx0_w14 Bg_w14 Dm_w14 Dh_w14 HB_w14 HL_w15
  clear hb
  have qBx00:=Bx0_w15.out 0 _ rfl
  have qBx01:=Bx0_w15.out 1 _ rfl
  have tBx0:=Bx0_w15.out.lt
  have qBw0:=Bw_w15.out 0 _ rfl
  have qBw1:=Bw_w15.out 1 _ rfl
  have qBw2:=Bw_w15.out 2 _ rfl
  have qBw3:=Bw_w15.out 3 _ rfl
  have qBw4:=Bw_w15.out 4 _ rfl
  have qBw5:=Bw_w15.out 5 _ rfl
  have qBw6:=Bw_w15.out 6 _ rfl
  have tBw:=Bw_w15.out.lt
  have qXx00:=Xx0_w15.out 0 _ rfl
  have qXx01:=Xx0_w15.out 1 _ rfl
  have tXx0:=Xx0_w15.out.lt
  have qBg0:=Bg_w15.out 0 _ rfl
  have qBg1:=Bg_w15.out 1 _ rfl
  have qBg2:=Bg_w15.out 2 _ rfl
  have qBg3:=Bg_w15.out 3 _ rfl
  have qBg4:=Bg_w15.out 4 _ rfl
  have qBg5:=Bg_w15.out 5 _ rfl
  have qBg6:=Bg_w15.out 6 _ rfl
  have tBg:=Bg_w15.out.lt
  have qBh0:=Bh_w15.out 0 _ rfl
  have qBh1:=Bh_w15.out 1 _ rfl
  have qBh2:=Bh_w15.out 2 _ rfl
  have qBh3:=Bh_w15.out 3 _ rfl
  have qBh4:=Bh_w15.out 4 _ rfl
  have qBh5:=Bh_w15.out 5 _ rfl
  have qBh6:=Bh_w15.out 6 _ rfl
  have tBh:=Bh_w15.out.lt
  go_wp2_with fail
  clear qBx00 qBx01 tBx0 qBw0 qBw1 qBw2 qBw3 qBw4 qBw5 qBw6 tBw qXx00 qXx01 tXx0 qBg0 qBg1 qBg2 qBg3 qBg4 qBg5 qBg6 tBg qBh0 qBh1 qBh2 qBh3 qBh4 qBh5 qBh6 tBh
  refine (qdq _ code _ _ _ _ _ _ d2 _ 1 Dm_w15.out (by omega) (by rw [HK.out];exact hK1)).mono ?_
  rw [HK.out]
  rintro e w16 ⟨rfl,hb⟩
  have HL_w16:Hid (Below w15.heap.size w15 w16):=hb
  have HB_w16:Hid (Below w.heap.size w w16):=HB_w15.out.trans (HL_w16.out.mono HB_w15.out.size)
  have z_w16:w15.heap.size≤w16.heap.size:=HL_w16.out.size
  have Bx0_w16:Hid (Bx w16 w.heap.size [.slice a0x0 n0x0 c0x0, .slice a1x0 n1x0 c1x0]):=Bx0_w15.out.later HL_w16.out
  have Dw_w16:Hid (qap w16 (.int .i64 z0sw) (.int .i64 z1sw) (.slice a2sw n2sw c2sw) (.slice a3sw n3sw c3sw) (.slice a4sw n4sw c4sw) (.slice a5sw n5sw c5sw) d2 (fun b=>w2.heap.size≤b∧b<w3.heap.size)):=Dw_w15.out.later HL_w16.out
  have Bw_w16:Hid (Bx w16 w3.heap.size [.int .i64 code, .int .i64 z0sw, .int .i64 z1sw, .slice a2sw n2sw c2sw, .slice a3sw n3sw c3sw, .slice a4sw n4sw c4sw, .slice a5sw n5sw c5sw]):=Bw_w15.out.later HL_w16.out
  have Xx0_w16:Hid (Bx w16 w4.heap.size [.slice a0x0p n0x0p c0x0p, .slice a1x0p n1x0p c1x0p]):=Xx0_w15.out.later HL_w16.out
  have Bg_w16:Hid (Bx w16 w5.heap.size [.int .i64 code, .int .i64 z0sg, .int .i64 z1sg, .slice a2sg n2sg c2sg, .slice a3sg n3sg c3sg, .slice a4sg n4sg c4sg, .slice a5sg n5sg c5sg]):=Bg_w15.out.later HL_w16.out
  have Dm_w16:Hid (qap w16 (.int .i64 z0sg) (.int .i64 z1sg) (.slice a2sg n2sg c2sg) (.slice a3sg n3sg c3sg) (.slice a4sg n4sg c4sg) (.slice a5sg n5sg c5sg) (qnP 1 d2) (fun b=>w4.heap.size<b∧b<w5.heap.size)):=Dm_w15.out.later HL_w16.out
  have Dh_w16:Hid (qap w16 (.int .i64 z0sh) (.int .i64 z1sh) (.slice a2sh n2sh c2sh) (.slice a3sh n3sh c3sh) (.slice a4sh n4sh c4sh) (.slice a5sh n5sh c5sh) d2 (fun b=>w13.heap.size≤b∧b<w14.heap.size)):=Dh_w15.out.later HL_w16.out
  have Bh_w16:Hid (Bx w16 w14.heap.size [.int .i64 code, .int .i64 z0sh, .int .i64 z1sh, .slice a2sh n2sh c2sh, .slice a3sh n3sh c3sh, .slice a4sh n4sh c4sh, .slice a5sh n5sh c5sh]):=Bh_w15.out.later HL_w16.out
  clear Bx0_w15 Dw_w15 Bw_w15 Xx0_w15 Bg_w15 Dm_w15 Dh_w15 Bh_w15 HB_w15 HL_w16
  clear hb
  have qBx00:=Bx0_w16.out 0 _ rfl
  have qBx01:=Bx0_w16.out 1 _ rfl
  have tBx0:=Bx0_w16.out.lt
  have qBw0:=Bw_w16.out 0 _ rfl
  have qBw1:=Bw_w16.out 1 _ rfl
  have qBw2:=Bw_w16.out 2 _ rfl
  have qBw3:=Bw_w16.out 3 _ rfl
  have qBw4:=Bw_w16.out 4 _ rfl
  have qBw5:=Bw_w16.out 5 _ rfl
  have qBw6:=Bw_w16.out 6 _ rfl
  have tBw:=Bw_w16.out.lt
  have qXx00:=Xx0_w16.out 0 _ rfl
  have qXx01:=Xx0_w16.out 1 _ rfl
  have tXx0:=Xx0_w16.out.lt
  have qBg0:=Bg_w16.out 0 _ rfl
  have qBg1:=Bg_w16.out 1 _ rfl
  have qBg2:=Bg_w16.out 2 _ rfl
  have qBg3:=Bg_w16.out 3 _ rfl
  have qBg4:=Bg_w16.out 4 _ rfl
  have qBg5:=Bg_w16.out 5 _ rfl
  have qBg6:=Bg_w16.out 6 _ rfl
  have tBg:=Bg_w16.out.lt
  have qBh0:=Bh_w16.out 0 _ rfl
  have qBh1:=Bh_w16.out 1 _ rfl
  have qBh2:=Bh_w16.out 2 _ rfl
  have qBh3:=Bh_w16.out 3 _ rfl
  have qBh4:=Bh_w16.out 4 _ rfl
  have qBh5:=Bh_w16.out 5 _ rfl
  have qBh6:=Bh_w16.out 6 _ rfl
  have tBh:=Bh_w16.out.lt
  go_wp2
  go_ret
  exact ⟨rfl,HB_w16.out⟩

theorem qeG (w:World) (v0x0:Value) (v1x0:Value) (dx0:FD) (x1:ByteArray) (x2:ByteArray) (hx0:FsR w v0x0 v1x0 dx0) (hmx1:x1.size≤maxLen) (hmx2:x2.size≤maxLen) (hgl:Gl w):
 Calls Tryz.prog 3 #[.agg #[v0x0,v1x0], .string x1, .string x2] w fun e w'=>e= .returned (.bool true)∧Below w.heap.size w w':=by
 obtain ⟨_,_,rfl,_,_⟩:=hx0.1.open'
 obtain ⟨_,_,rfl,_,_⟩:=hx0.2.open'
 by_cases kx1:x1.size≤1048576
 rotate_left
 · exact qdU w _ _ _ _ _ _ x1 x2 hmx1 (by omega)
 by_cases kx2:x2.size≤1048576
 rotate_left
 · exact qdV w _ _ _ _ _ _ x1 x2 hmx1 kx1 hmx2 (by omega)
 by_cases kx0:sizeFs dx0≤1048576
 rotate_left
 · exact qeF w _ _ _ _ _ _ dx0 x1 x2 kx1 kx2 hx0 (by omega)
 exact qdW w _ _ _ _ _ _ dx0 x1 x2 kx1 kx2 hx0 kx0 hgl
end Go.Proofs.YthnmlipnoajmkaaGreatDoor
