/- The last name of a path:the program's side,and the law. The path ahead of the last name,and joining:the specification's side. ParentOf:the program's side,and the law. Paths and their names:joined again,cut again. No program is named here. The program's LinkPath. The specification's DropFile. The specification's DropFile:the walk;how great what is answered is. AddName:how great what is answered is;append within a region,its answer told by a property. The specification's AddName:an entry put into its place. The specification's AddName:an entry qrj in a directory. The specification's AddName:the contract. The specification's LinkPath. -/
import Derived.Test.YthnmlipnoajmkaaGreatDoorM07
import Derived.Test.YthnmlipnoajmkaaGreatDoorM06
import Derived.Test.YthnmlipnoajmkaaGreatDoorM21
import Derived.Test.YthnmlipnoajmkaaGreatDoorM22
import Derived.Deep.RegionHeld3
import Derived.Test.YthnmlipnoajmkaaGreatDoorM20
import Derived.BigQuiet
namespace Go.Proofs.YthnmlipnoajmkaaGreatDoor
open Go.RowKit
set_option maxRecDepth 100000

set_option maxHeartbeats 1600000 in
theorem qeB (w:World) (p:List UInt8) (z:Int) (hz: ¬z=0) (HC:Hid (∀W,Calls Tryz.prog 94 #[.string (mkB p)] W fun e w'=>e= .returned (.tuple #[.slice none 0 0, .int .i64 z])∧Below W.heap.size W w')):
 Calls Tryz.prog 56 #[.string (mkB p)] w fun e w'=>e= .returned (.agg #[.int .i64 z, .string ⟨#[]⟩])∧Below w.heap.size w w':=by
 have hne: (z !=0)=true:=by simpa using hz
 clear hz
 go_enter Tryz.func56,Tryz.ntmps56
 go_wp2_with fail
 refine (HC.out _).mono ?_
 rintro e w1 ⟨rfl,hb1⟩
 have HW1:Hid (Below w.heap.size w w1):= (qab _ _).trans (hb1.mono (by simp))
 have HR:= (qaa.newS w (.int .i64 0) (.string ⟨#[]⟩) 89).block (hb1.block w.heap.size (by simp))
 have t0:=HR.cell (i:=0) (by omega)
 have t1:=HR.cell (i:=1) (by omega)
 have s0:=HR.frozen 0
 have s1:=HR.frozen 1
 simp at t0 t1
 clear hb1 HR HC
 go_wp2
 exact bodyPost_ret (v:= .agg #[.int .i64 z, .string ⟨#[]⟩]) (by simp [results,Tryz.results56,go_sem,t0,t1]) rfl ⟨rfl,(HW1.out.setCell (by simp) _).setCell (by simp) _⟩

set_option maxHeartbeats 3200000 in
theorem qkn (w:World) (p:List UInt8) (hp:p.length≤1048576) (h:qan p=0) (m:Nat) (h0: (qaf p).length=m+1):
 Calls Tryz.prog 56 #[.string (mkB p)] w fun e w'=>e= .returned (.agg #[.int .i64 0, .string (mkB ((qaf p)[m]?.getD []))])∧Below w.heap.size w w':=by
 have HC:Hid (∀W,Calls Tryz.prog 94 #[.string (mkB p)] W fun e w'=> ∃a c,e= .returned (.tuple #[.slice a (m+1) c, .int .i64 0])∧Below W.heap.size W w'∧AtT w' a (m+1) (qaf p)∧m+1≤c):=fun W=>qq1 W p hp h m h0
 have hml:m+1≤1048577:=by have:=qcE p;omega
 clear h h0
 generalize qaf p=xs at*
 have hnm: ((m+1:Nat):Int)-1= (m:Int):=by omega
 have hwr:IntKind.i64.wrap (m:Int)= (m:Int):=by rw [IntKind.wrap_i64];omega
 have hmm:m<m+1:=by omega
 generalize hM:m+1=M at*
 go_enter Tryz.func56,Tryz.ntmps56
 go_wp2_with fail
 refine (HC.out _).mono ?_
 rintro e w1 ⟨a,c,rfl,hb1,hat,_⟩
 have HW1:Hid (Below w.heap.size w w1):= (qab _ _).trans (hb1.mono (by simp))
 have HR:= (qaa.newS w (.int .i64 0) (.string ⟨#[]⟩) 89).block (hb1.block w.heap.size (by simp))
 have t0:=HR.cell (i:=0) (by omega)
 have t1:=HR.cell (i:=1) (by omega)
 have s0:=HR.frozen 0
 have s1:=HR.frozen 1
 simp at t0 t1
 obtain ⟨b,off,rfl,c0⟩:=hat m hmm
 generalize hy:xs[m]?.getD []=y at c0 ⊢
 have HY:Hid (xs[m]?.getD []=y):=hy
 clear hb1 HR HC hat hy
 go_wp2
 exact bodyPost_ret (v:= .agg #[.int .i64 0, .string (mkB y)]) (by simp [results,Tryz.results56,go_sem,t0,t1]) rfl ⟨by rw [HY.out],(HW1.out.setCell (by simp) _).setCell (by simp) _⟩

theorem qiZ (w:World) (p:List UInt8) (hp:p.length≤1048576):
 Calls Tryz.prog 56 #[.string (mkB p)] w fun e w'=>e= .returned (.agg #[.int .i64 (qeN p), .string (mkB (qc0 p))])∧Below w.heap.size w w':=by
 by_cases h:qan p=0
 · rcases hm: (qaf p).length with _|m
   · refine (qeB w p 4 (by decide) (fun W=>qn5 W p hp h hm)).mono ?_
     rintro e w' ⟨rfl,hb⟩
     have:qaf p= []:=List.length_eq_zero_iff.1 hm
     exact ⟨by unfold qc0 qeN;rw [if_pos h,if_pos h,if_pos hm,this];rfl,hb⟩
   · refine (qkn w p hp h m hm).mono ?_
     rintro e w' ⟨rfl,hb⟩
     exact ⟨by unfold qc0 qeN;rw [if_pos h,if_pos h,if_neg (by omega),hm];rfl,hb⟩
 · refine (qeB w p (qan p) h (fun W=>qpw W p hp h)).mono ?_
   rintro e w' ⟨rfl,hb⟩
   exact ⟨by unfold qc0 qeN;rw [if_neg h,if_neg h];rfl,hb⟩

end Go.Proofs.YthnmlipnoajmkaaGreatDoor

namespace Go.Proofs.YthnmlipnoajmkaaGreatDoor
open Go.RowKit
set_option maxRecDepth 100000

theorem qqH (p:List UInt8) (hp:p.length≤1048576) (k:Nat): ((qaf p)[k]?.getD []).length≤1048576:=by
 unfold qaf
 split
 · simp
 · cases p with
   |nil=>simp [qcU]
   |cons b t=>have:=qkC t k;simp at hp;show ((qcD t)[k]?.getD []).length≤_;omega
def qto (p:List UInt8):List UInt8:=if qeN p=0 then qff ((qaf p).take ((qaf p).length-1)) else []

end Go.Proofs.YthnmlipnoajmkaaGreatDoor

namespace Go.Proofs.YthnmlipnoajmkaaGreatDoor
open Go.RowKit
set_option maxRecDepth 100000

theorem qko {p:List UInt8} (h:qan p=0): (qaf p).length≤6∧qay (qaf p)=0:=by
 unfold qan at h
 split at h
 · simp at h
 · split at h
   · split at h
     · simp at h
     · split at h
       · simp at h
       · exact ⟨by omega,h⟩
   · simp at h
theorem qlP {xs:List (List UInt8)} (h:qay xs=0) (m:Nat):qay (xs.take m)=0:=by
 by_cases hn:qay (xs.take m)=0
 · exact hn
 · rw [qeb (List.take_prefix m xs) hn] at h;exact h
theorem qsd (xs:List (List UInt8)) (m k:Nat) (h:k<m): (xs.take m)[k]?.getD []=xs[k]?.getD []:=by rw [List.getElem?_take,if_pos h]
theorem qse (xs:List (List UInt8)) (m k B:Nat) (h: ∀k:Nat,(xs[k]?.getD []).length≤B): ((xs.take m)[k]?.getD []).length≤B:=by
 rw [List.getElem?_take]
 split
 · exact h k
 · simp

end Go.Proofs.YthnmlipnoajmkaaGreatDoor

namespace Go.Proofs.YthnmlipnoajmkaaGreatDoor
open Go.RowKit
set_option maxRecDepth 100000

theorem qkp (t:List UInt8):qa9 t++qa0 t=t:=List.takeWhile_append_dropWhile
theorem qry (t:List UInt8):qa0 t= []∨ ∃r,qa0 t=47::r:=by
 unfold qa0
 induction t with
 |nil=>exact Or.inl rfl
 | cons b l ih=>
   by_cases h:b=47
   · rw [List.dropWhile_cons,if_neg (by simp [h])];exact Or.inr ⟨l,by rw [h]⟩
   · rw [List.dropWhile_cons,if_pos (by simpa using h)];exact ih
theorem qns (n:Nat): ∀l:List UInt8,l.length≤n→ (l= []∨ ∃r,l=47::r)→qbD (qcU l)=l:=by
 induction n with
 |zero=>intro l h _;have:l= []:=List.eq_nil_of_length_eq_zero (by omega);subst this;rfl
 | succ n ih=>
   intro l hl h
   rcases h with rfl| ⟨t,rfl⟩
   · rfl
   · rw [qeJ]
     have h1:=ih (qa0 t) (by have:=qh3 t;simp at hl;omega) (qry t)
     show (47::qa9 t)++qbD (qcU (qa0 t))=47::t
     rw [h1,List.cons_append,qkp]
def qeW (y:List UInt8):Prop:= ∀b∈y,b≠47
theorem qlQ {y l:List UInt8} (hy:qeW y) (hl:l= []∨ ∃r,l=47::r):qa9 (y++l)=y∧qa0 (y++l)=l:=by
 unfold qa9 qa0
 induction y with
 | nil=>
   rcases hl with rfl| ⟨r,rfl⟩
   · exact ⟨rfl,rfl⟩
   · simp
 | cons b t ih=>
   have hb:b≠47:=hy b (by simp)
   have:=ih fun c hc=>hy c (by simp [hc])
   rw [List.cons_append,List.takeWhile_cons,List.dropWhile_cons,if_pos (by simpa using hb),if_pos (by simpa using hb),this.1,this.2]
   exact ⟨rfl,rfl⟩
theorem qgX (ys:List (List UInt8)):qbD ys= []∨ ∃r,qbD ys=47::r:=by
 cases ys with
 |nil=>exact Or.inl rfl
 |cons y r=>exact Or.inr ⟨_,rfl⟩
theorem qcP (y:List UInt8) (ys:List (List UInt8)):qbD (y::ys)=47:: (y++qbD ys):=rfl
theorem qnt (ys:List (List UInt8)) (h: ∀y∈ys,qeW y):qcU (qbD ys)=ys:=by
 induction ys with
 |nil=>rfl
 | cons y r ih=>
   have h1:=qlQ (h y (by simp)) (qgX r)
   rw [qcP,qeJ,h1.1,h1.2,ih fun z hz=>h z (by simp [hz])]
theorem qfy {ys:List (List UInt8)} (h:ys≠ []):qff ys=qbD ys:=by
 cases ys with
 |nil=>exact absurd rfl h
 |cons y r=>unfold qff;rw [if_neg (by rw [qcP];simp)]
theorem qlR (ys:List (List UInt8)) (h: ∀y∈ys,qeW y∧y≠ []):qaf (qff ys)=ys:=by
 cases ys with
 |nil=>rfl
 | cons y r=>
   rw [qfy (by simp)]
   unfold qaf
   have hy:= (h y (by simp)).2
   rw [if_neg (by rw [qcP];intro e;simp at e;exact hy e.1),qnt _ fun z hz=> (h z hz).1]
theorem qoH (p:List UInt8) (t:List UInt8) (h:p=47::t):qff (qaf p)=p∧ ((qaf p).length=0↔p= [47]):=by
 unfold qaf
 by_cases hp:p= [47]
 · rw [if_pos hp,hp];exact ⟨rfl,by simp⟩
 · rw [if_neg hp]
   have h1:=qns p.length p (Nat.le_refl _) (Or.inr ⟨t,h⟩)
   have h2:qcU p≠ []:=by rw [h];exact qmf t
   refine ⟨by rw [qfy h2,h1], ?_⟩
   constructor
   · intro h3;exact absurd (List.eq_nil_of_length_eq_zero h3) h2
   · intro h3;exact absurd h3 hp

theorem qp8 {y:List UInt8} (h:qal (mkB y)=0):qeW y∧y≠ []:=by
 unfold qal at h
 rw [qaC,qcp] at h
 by_cases h0:y.length=0
 · rw [if_pos h0] at h;simp at h
 · rw [if_neg h0] at h
   by_cases ha:y.all byB=true
   · refine ⟨fun b hb e=> ?_,fun e=>h0 (by rw [e];rfl)⟩
     have h1:=List.all_eq_true.1 ha b hb
     rw [e] at h1
     exact absurd h1 (by decide)
   · rw [if_neg ha] at h;simp at h
theorem qga {xs:List (List UInt8)} (h:qay xs=0): ∀y∈xs,qal (mkB y)=0:=by
 induction xs with
 |nil=>intro y hy;simp at hy
 | cons x t ih=>
   intro y hy
   unfold qay at h
   by_cases h0:qal (mkB x)=0
   · rw [if_pos h0] at h
     rcases List.mem_cons.1 hy with rfl|hy
     · exact h0
     · exact ih h y hy
   · rw [if_neg h0] at h;exact absurd h h0
theorem qnu {p:List UInt8} (h:qan p=0): (∃t,p=47::t)∧p.length≤30:=by
 unfold qan at h
 split at h
 · simp at h
 · rename_i h30
   split at h
   · rename_i hp
     cases p with
     |nil=>simp [qjq] at hp
     | cons b t=>
       have hb:b=47:=by simpa [qjq] using hp
       exact ⟨⟨t,by rw [hb]⟩,by omega⟩
   · simp at h
theorem qi0: ∀ys:List (List UInt8),ys≠ []→ (∀y∈ys,qeW y∧y≠ [])→ ∃b,(qbD ys).getLast?=some b∧b≠47
 | [],h,_=>absurd rfl h
 | [y],_,hy=>by
   obtain ⟨h1,h2⟩:=hy y (by simp)
   have h3:qbD [y]=47::y:=by rw [qcP];simp [qbD]
   rw [h3]
   refine ⟨y.getLast h2, ?_,h1 _ (List.getLast_mem h2)⟩
   cases y with
   |nil=>exact absurd rfl h2
   |cons b t=>simp [List.getLast?_eq_some_getLast]
 | y::z::r,_,hy=>by
   obtain ⟨b,hb,hn⟩:=qi0 (z::r) (by simp) fun q hq=>hy q (by simp at hq ⊢;exact Or.inr hq)
   refine ⟨b, ?_,hn⟩
   have h3:qbD (y::z::r)= (47::y)++qbD (z::r):=rfl
   rw [h3,List.getLast?_append,hb]
   rfl
theorem qlS (xs:List (List UInt8)) (m:Nat): (qbD (xs.take m)).length≤ (qbD xs).length:=by
 have h:qbD xs=qbD (xs.take m)++qbD (xs.drop m):=by
  conv=>lhs;rw [←List.take_append_drop m xs]
  unfold qbD
  rw [List.flatMap_append]
 rw [h,List.length_append]
 omega
theorem qsW {p:List UInt8} (h:qan p=0) (m:Nat):qan (qff ((qaf p).take m))=0∧qaf (qff ((qaf p).take m))= (qaf p).take m:=by
 obtain ⟨⟨t,ht⟩,h30⟩:=qnu h
 obtain ⟨h6,hnf⟩:=qko h
 have hj:= (qoH p t ht).1
 have hall: ∀y∈ (qaf p).take m,qeW y∧y≠ []:=fun y hy=>qp8 (qga hnf y (List.mem_of_mem_take hy))
 have hN:=qlR _ hall
 refine ⟨?_,hN⟩
 have hnt:=qlP hnf m
 have hlt: ((qaf p).take m).length≤6:=by rw [List.length_take];omega
 have h1 : (qff ((qaf p).take m)).length≤30∧qjq (qff ((qaf p).take m))=true∧ ¬ (qh4 (qff ((qaf p).take m))=true∧qjc (qff ((qaf p).take m))=false):=by
  by_cases he: (qaf p).take m= []
  · rw [he];exact ⟨by decide,by decide,by decide⟩
  · have hpn:qaf p≠ []:=fun e=>he (by rw [e];simp)
    rw [qfy he]
    rw [qfy hpn] at hj
    refine ⟨?_, ?_, ?_⟩
    · have:=qlS (qaf p) m;rw [hj] at this;omega
    · rcases qgX ((qaf p).take m) with e| ⟨r,e⟩
      · cases hq: (qaf p).take m with
        |nil=>exact absurd hq he
        |cons y ys=>rw [hq,qcP] at e;simp at e
      · rw [e];simp [qjq]
    · rintro ⟨hs,_⟩
      obtain ⟨b,hb,hne⟩:=qi0 _ he hall
      unfold qh4 at hs
      rw [hb] at hs
      exact hne (by simpa using hs)
 unfold qan
 rw [if_neg (by omega),if_pos h1.2.1,if_neg h1.2.2,hN,if_neg (by omega)]
 exact hnt
end Go.Proofs.YthnmlipnoajmkaaGreatDoor

namespace Go.Proofs.YthnmlipnoajmkaaGreatDoor
open Go.RowKit
set_option maxRecDepth 100000

theorem qkU {α:Type} {xs:List α} {i:Nat} (x:α) (h:i<xs.length):xs[i]?.getD x∈xs:=by
 rw [List.getElem?_eq_getElem h]
 exact List.getElem_mem h
theorem qnv {d:FD} {p:List UInt8} (hf:fsF d=0) (h: (qgr d p).1=0): ∃j:Nat,(qgr d p).2= (j:Int)∧qdG d (j:Int)=0∧qal (ql2 d p)=0∧ql2 d p=mkB (qc0 p):=by
 have hok:=qf2 (qhI hf)
 have hl:ql2 d p=mkB ((qah p)[(qah p).length-1]?.getD []):=if_pos h
 unfold qgr at h ⊢
 by_cases hp:qan p=0
 · rw [if_pos hp] at h ⊢
   have hs:qah p=qaf p:=if_pos hp
   by_cases h0: (qah p).length=0
   · rw [if_pos h0] at h;exact absurd h (by decide)
   · rw [if_neg h0] at h ⊢
     generalize hr:wkR d.1 0 ((qah p).take ((qah p).length-1))=r at h ⊢
     unfold qjf at h ⊢
     by_cases hr0:r.1=0
     · rw [if_pos hr0] at h ⊢
       by_cases hk:qae d.1 r.2.toNat=2
       · rw [if_pos hk]
         obtain ⟨y,hy,hlt⟩:=qiQ hok.rng _ 0 hok.pos (by rw [hr];exact hr0)
         rw [hr] at hy
         refine ⟨y,hy, ?_, ?_, ?_⟩
         · unfold qdG
           rw [if_pos (qhI hf),if_pos ⟨by omega,by omega⟩,if_pos]
           rw [Int.toNat_natCast];rw [hy,Int.toNat_natCast] at hk;exact hk
         · rw [hl,hs];exact qga (qko hp).2 _ (qkU _ (by rw [hs] at h0;omega))
         · rw [hl];unfold qc0;rw [if_pos hp,hs]
       · rw [if_neg hk] at h;exact absurd h (by decide)
     · rw [if_neg hr0] at h;exact absurd h hr0
 · rw [if_neg hp] at h;exact absurd h hp
def qrz (d:FD) (s t:ByteArray):Int×CRD:=if (qlN d s).1=0 then (if (qas d t).1=0 then (if (qrw d (qas d t).2 (mkB (qc0 t.data.toList)) (qlN d s).2).1=0 then (0,0,0, [], [],(qrw d (qas d t).2 (mkB (qc0 t.data.toList)) (qlN d s).2).2) else qav d (qrw d (qas d t).2 (mkB (qc0 t.data.toList)) (qlN d s).2).1) else qav d (qas d t).1) else qav d (qlN d s).1
def qrA (d:FD) (s t:ByteArray):Int×CRD:=if fsF d=0 then qrz d s t else qnQ (fsF d)
theorem qqI (p:List UInt8) (_hp:p.length≤1048576): (mkB (qc0 p)).size≤1048576:=by
 unfold qc0
 by_cases h:qan p=0
 · rw [if_pos h]
   by_cases h0: (qaf p).length=0
   · have:qaf p= []:=List.length_eq_zero_iff.1 h0
     rw [this];simp [mkB,ByteArray.size]
   · have:= (qaX (qga (qko h).2 _ (qkU (i:= (qaf p).length-1) [] (by omega)))).1
     omega
 · rw [if_neg h];simp [mkB,ByteArray.size]

theorem qlT (z:Int) (s:ByteArray) (w:World): (Instr.field 89 (.agg #[.int .i64 z, .string s]) 1).run Tryz.prog w= .ok (.string s) w:=by kernel_rfl
def qkV (W wx:World) (r:Int×FD) (g:Nat) (a5:Option Addr) (n5 c5:Nat) (a6:Option Addr) (n6 c6:Nat):Prop:=Below W.heap.size W wx∧W.heap.size≤g∧Bx wx g [.int .i64 r.1, .slice a5 n5 c5, .slice a6 n6 c6]∧FsU wx (.slice a5 n5 c5) (.slice a6 n6 c6) r.2 (fun b=>W.heap.size≤b∧b<wx.heap.size∧b≠g)
theorem qkV.after {W W4 w5:World} {r:Int×FD} {a5:Option Addr} {n5 c5:Nat} {a6:Option Addr} {n6 c6:Nat} (h4:Below W.heap.size W W4) (h5:Below W4.heap.size W4 w5) (hf:FsU w5 (.slice a5 n5 c5) (.slice a6 n6 c6) r.2 (qaj W4 w5)) (t:TypeId):qkV W (w5.alloc (.cells #[.int .i64 r.1, .slice a5 n5 c5, .slice a6 n6 c6] t)) r w5.heap.size a5 n5 c5 a6 n6 c6:=
 have hb:Below W.heap.size W w5:=h4.trans (h5.mono h4.size)
 ⟨hb.trans ((qab _ _).mono hb.size),hb.size,Bx.new w5 [.int .i64 r.1, .slice a5 n5 c5, .slice a6 n6 c6] t,(hf.later (qab _ _)).mono fun b hh=> ⟨by have:=hh.1;have:=h4.size;omega,by have:=hh.2;simp;omega,by have:=hh.2;omega⟩⟩
theorem qkV.ahead {W W4 w5:World} {r:Int×FD} {g:Nat} {a5:Option Addr} {n5 c5:Nat} {a6:Option Addr} {n6 c6:Nat} (h4:Below W.heap.size W W4) (hg:W.heap.size≤g) (hr:qaa W4 g 3 (cel qnk)) (h5:Below W4.heap.size W4 w5) (hf:FsU w5 (.slice a5 n5 c5) (.slice a6 n6 c6) r.2 (qaj W4 w5)):qkV W (((w5.setCell ⟨g,0,none⟩ (.int .i64 r.1)).setCell ⟨g,1,none⟩ (.slice a5 n5 c5)).setCell ⟨g,2,none⟩ (.slice a6 n6 c6)) r g a5 n5 c5 a6 n6 c6:=by
 have hb:Below W.heap.size W w5:=h4.trans (h5.mono h4.size)
 have hlt:=hr.lt
 have hrow:= (((hr.later h5).set 0 (.int .i64 r.1)).set 1 (.slice a5 n5 c5)).set 2 (.slice a6 n6 c6)
 refine ⟨((hb.setCell hg _).setCell hg _).setCell hg _,hg, ?_,(hf.keep fun b hh _=> ?_).mono fun b hh=> ⟨by have:=hh.1;have:=h4.size;omega,by have:=hh.2;simp only [World.setCell,Array.size_modify];omega,by have:=hh.1;omega⟩⟩
 · intro i v hv
   match i,hv with
   |0,hv=>cases hv;exact hrow.cell (i:=0) (by omega)
   |1,hv=>cases hv;exact hrow.cell (i:=1) (by omega)
   |2,hv=>cases hv;exact hrow.cell (i:=2) (by omega)
 · have:b≠g:=by have:=hh.1;omega
   rw [Below.heap_setCell _ _ _ _ this,Below.heap_setCell _ _ _ _ this,Below.heap_setCell _ _ _ _ this]

end Go.Proofs.YthnmlipnoajmkaaGreatDoor

namespace Go.Proofs.YthnmlipnoajmkaaGreatDoor
open Go.RowKit
set_option maxRecDepth 100000

theorem qi1 (w:World) (b k:Nat) (x0 x1 x2 x3 x4:Value):Chg (fun c=>c=b) w (qcB w b k x0 x1 x2 x3 x4):=by
 have h0:Chg (fun c=>c=b) w w:=Chg.refl _ _
 have h1:=Chg.set (F:=fun c=>c=b) h0 rfl k x0
 have h2:=Chg.set (F:=fun c=>c=b) h1 rfl (k+1) x1
 have h3:=Chg.set (F:=fun c=>c=b) h2 rfl (k+2) x2
 have h4:=Chg.set (F:=fun c=>c=b) h3 rfl (k+3) x3
 exact Chg.set (F:=fun c=>c=b) h4 rfl (k+4) x4
theorem qp9 {w:World} {bI n cI bD cD:Nat} {d:FD} {F G:Nat→Prop} (hfs:FsS w bI n cI bD 20 cD d F) (j:Nat) (hj:j<n) (x:ID) (vB vE:Value) (hv:qdo w (.int .i64 x.1) (.int .i64 x.2.1) (.int .i64 x.2.2.1) vB vE x G) (hG: ∀c,G c→ ¬F c∧c<w.heap.size):FsS (qcB w bI (j*5) (.int .i64 x.1) (.int .i64 x.2.1) (.int .i64 x.2.2.1) vB vE) bI n cI bD 20 cD (d.1.set j x,d.2) (fun c=>F c∨G c):=by
 have hne:=hfs.ne
 have hl:=hfs.len.1
 refine hfs.putI j hj x vB vE (fun u hu=> ?_) (qi1 w bI (j*5) _ _ _ _ _) (hv.keep fun c hc hlt=> (qi1 w bI (j*5) _ _ _ _ _).block c hlt fun e=> (hG c hc).1 (e▸hne.2.1.1)) (fun c hc=> ⟨(hG c hc).1,by rw [qfT];exact (hG c hc).2⟩)
 exact (hu.five (j*5) _ _ _ _ _).congr fun c _=> (qcd d.1 u j (by omega) x vB vE c).symm

set_option maxHeartbeats 3200000 in
theorem qgY (w:World) (bo bI n cI bD cD:Nat) (d:FD) (F:Nat→Prop) (j:Nat) (h0:w.cell? ⟨bo,0,none⟩=some (.slice (some ⟨bI,0,none⟩) n cI)) (h1:w.cell? ⟨bo,1,none⟩=some (.slice (some ⟨bD,0,none⟩) 20 cD)) (hfs:FsS w bI n cI bD 20 cD d F) (hFo: ¬F bo) (hjn:j<n) (_hn10:n≤10) (hblk: ∀k:Nat,k< (qci d j).length→0≤ (qci d j)[k]?.getD 0∧ (qci d j)[k]?.getD 0<20) (h4: (qci d j).length≤4):
 Calls Tryz.prog 114 #[.pointer (some ⟨bo,0,none⟩), .int .i64 (j:Int)] w fun e w'=>e= .returned (.tuple #[])∧Chg (fun c=>c=bI∨c=bD) w w'∧FsS w' bI n cI bD 20 cD (qc6 d j) F:=by
 obtain ⟨aB,cB,aE,cE,i0,i1,i2,i3,i4,_,i6,i7⟩:=hfs.ino j hjn
 have hne:=hfs.ne
 have hoI:bo≠bI:=fun e=>hFo (e▸hne.2.1.1)
 have hoD:bo≠bD:=fun e=>hFo (e▸hne.2.2.1)
 have hID:bI≠bD:=hne.1
 have HFS:Hid (FsS w bI n cI bD 20 cD d F):=hfs
 have HBS:Hid (qrZ w bD aB (qci d j)):=fun k hk=>by
  obtain ⟨b,f1,_,_,f4,f5,f6⟩:=i7 k hk
  exact ⟨b,f1,f4,f5,f6⟩
 have HRG:Hid (∀k:Nat,k< (qci d j).length→0≤ (qci d j)[k]?.getD 0∧ (qci d j)[k]?.getD 0<20):=hblk
 have HDD:Hid (qc6 d j= (d.1.set j id0,qeE d.2 (qci d j) (qci d j).length)):=rfl
 replace i3:w.cell? ⟨bI,j*5+3,none⟩=some (.slice aB (qci d j).length cB):=i3
 rw [HDD.out]
 generalize qci d j=bs at*
 obtain ⟨nB,hnB⟩: ∃nB,bs.length=nB:= ⟨_,rfl⟩
 have HNB:Hid (bs.length=nB):=hnB
 rw [hnB] at i3 HRG h4 ⊢
 have hjI: (j:Int)< (n:Int):=by omega
 clear hfs i7 hblk hnB HDD i0 i1 i2 i4 i6 hne
 go_enter Tryz.func114,Tryz.ntmps114
 go_wp2_with fail
 go_loopw [4] (fun i wr=> ∃k:Nat,k≤nB∧i= .int .i64 k∧Chg (fun c=>c=bD) w wr∧FsS wr bI n cI bD 20 cD (d.1,qeE d.2 bs k) F) (fun i _=>nB- (intOf i).toNat)
 case atStart=>exact ⟨0,Nat.zero_le _,rfl,Chg.refl _ _,HFS.out⟩
 case round=>
  obtain ⟨k,hk,rfl,hc,hf⟩:=hrel
  have HC:Hid (Chg (fun c=>c=bD) w wr):=hc
  have HF:Hid (FsS wr bI n cI bD 20 cD (d.1,qeE d.2 bs k) F):=hf
  have r0:=hc.cellOf h0 hoD
  have r1:=hc.cellOf h1 hoD
  have r3:=hc.cellOf i3 hID
  clear hc hf
  by_cases hlt:k<nB
  · obtain ⟨b1,rfl,hb1,_,c1⟩:=HBS.out k (by rw [HNB.out];exact hlt)
    have c1r:=HC.out.cellOf c1 hb1
    have hrg:=HRG.out k hlt
    have HCL:Hid (∀y:Nat,y<20→bs[k]?.getD 0= (y:Int)→FsS (wr.setCell ⟨bD,y,none⟩ (.slice none 0 0)) bI n cI bD 20 cD (d.1,qeE d.2 bs (k+1)) F):=fun y hy e=>HF.out.clr hy e
    generalize bs[k]?.getD 0=x at*
    obtain ⟨y,rfl⟩: ∃y:Nat,x= (y:Int):= ⟨x.toNat,by omega⟩
    have hy:y<20:=by omega
    have hyI: (y:Int)<20:=by omega
    obtain ⟨ua,uc,d0,d1,_⟩:=HF.out.data y hy
    have HN:Hid (FsS (wr.setCell ⟨bD,y,none⟩ (.slice none 0 0)) bI n cI bD 20 cD (d.1,qeE d.2 bs (k+1)) F):=HCL.out y hy rfl
    have hDb:bD≠b1:=fun e=>hb1 e.symm
    have hDo:bD≠bo:=fun e=>hoD e.symm
    have hDI:bD≠bI:=fun e=>hID e.symm
    clear HCL hrg c1
    go_wp2_with fail
    go_region_held3 (fun W=>W.cell? ⟨bo,0,none⟩=some (.slice (some ⟨bI,0,none⟩) n cI)∧W.cell? ⟨bo,1,none⟩=some (.slice (some ⟨bD,0,none⟩) 20 cD)∧W.cell? ⟨bI,j*5+3,none⟩=some (.slice (some ⟨b1,0,none⟩) nB cB)∧W.cell? ⟨b1,k,none⟩=some (.int .i64 (y:Int))) (go_keep) (fail)
    all_goals
     go_wp2
     go_roundw
     case rel=>exact ⟨k+1,by omega,by go_num,by first|exact HC.out.set rfl _ _|exact (HC.out.set rfl _ _).trans (Chg.of_below (Below.refl _ _).drew)|exact (HC.out.trans (Chg.of_below (Below.refl _ _).drew)).set rfl _ _,by first|exact HN.out|exact HN.out.later (Below.refl _ _).drew⟩
     case measure=>simp [intOf];omega
  · have e:k=nB:=by omega
    subst e
    obtain ⟨_,_,_,_,z0,z1,z2,z3,z4,_,z6,_⟩:=HF.out.ino j hjn
    have z50:=z6 (j*5)
    have z51:=z6 (j*5+1)
    have z52:=z6 (j*5+2)
    have z53:=z6 (j*5+3)
    have z54:=z6 (j*5+4)
    have HN:Hid (FsS (qcB wr bI (j*5) (.int .i64 0) (.int .i64 0) (.int .i64 0) (.slice none 0 0) (.slice none 0 0)) bI n cI bD 20 cD (d.1.set j id0,qeE d.2 bs k) F):= (qp9 (G:=fun _=>False) HF.out j hjn id0 (.slice none 0 0) (.slice none 0 0) (qfx _ _) (fun c hc=>hc.elim)).mono fun c hc=>hc.elim id False.elim
    have HC2:Hid (Chg (fun c=>c=bI∨c=bD) w (qcB wr bI (j*5) (.int .i64 0) (.int .i64 0) (.int .i64 0) (.slice none 0 0) (.slice none 0 0))):= (HC.out.mono fun b hb=>Or.inr hb).trans ((qi1 wr bI (j*5) _ _ _ _ _).mono fun b hb=>Or.inl hb)
    clear z6
    dsimp only at z0 z1 z2 z3 z4
    generalize (d.1[j]?.getD id0).2.2.2.2.length=l2 at*
    generalize (d.1[j]?.getD id0).1=y0 at*
    generalize (d.1[j]?.getD id0).2.1=y1 at*
    generalize (d.1[j]?.getD id0).2.2.1=y2 at*
    generalize (d.1[j]?.getD id0).2.2.2.1.length=l3 at*
    go_wp2
    go_end0
    exact ⟨rfl,HC2.out,HN.out⟩
theorem qqJ (w:World) (bo bI n cI bD cD:Nat) (d:FD) (F:Nat→Prop) (j:Nat) (h0:w.cell? ⟨bo,0,none⟩=some (.slice (some ⟨bI,0,none⟩) n cI)) (h1:w.cell? ⟨bo,1,none⟩=some (.slice (some ⟨bD,0,none⟩) 20 cD)) (hfs:FsS w bI n cI bD 20 cD d F) (hFo: ¬F bo) (hn:d.1.length=n) (hsd:Sound d j):
 Calls Tryz.prog 114 #[.pointer (some ⟨bo,0,none⟩), .int .i64 (j:Int)] w fun e w'=>e= .returned (.tuple #[])∧Chg (fun c=>c=bI∨c=bD) w w'∧FsS w' bI n cI bD 20 cD (qc6 d j) F:=
 qgY w bo bI n cI bD cD d F j h0 h1 hfs hFo (by have:=hsd.lt;omega) (by have:=hsd.ten;omega) hsd.blk hsd.four
end Go.Proofs.YthnmlipnoajmkaaGreatDoor

namespace Go.Proofs.YthnmlipnoajmkaaGreatDoor
open Go.RowKit
set_option maxRecDepth 100000

theorem qaQ {ds:List ID} {m:Nat} (h: ∀i:Nat,qaF (ds[i]?.getD id0)≤m):spanInos ds≤ (3+m)*ds.length:=by
 unfold spanInos isp
 induction ds with
 |nil=>simp
 | cons x ds ih=>
   have h0:=h 0
   have:=ih fun i=>by have:=h (i+1);simpa using this
   simp at h0
   simp only [List.map_cons,List.sum_cons,List.length_cons,Nat.mul_add,Nat.mul_one]
   omega
theorem qi2 {d:FD} (h:fsF d=0) (i:Nat):qaF (d.1[i]?.getD id0)≤16:=by
 obtain ⟨h1,_,_,_,_⟩:=qc5 (qhu h)
 by_cases hi:i<d.1.length
 · have hz:=qb9 (qaM h1 i hi)
   have h6:=qhq (qaM h1 i hi)
   unfold qaF
   omega
 · rw [List.getElem?_eq_none (by omega)]
   simp [qaF,id0]
theorem qcb {ds:List ID} {m:Nat} (h: ∀i:Nat,qaF (ds[i]?.getD id0)≤m) (j:Nat) (x:ID) (hx:qaF x≤m) (i:Nat):qaF ((ds.set j x)[i]?.getD id0)≤m:=by
 rw [List.getElem?_set]
 by_cases e:j=i
 · rw [if_pos e]
   by_cases hl:j<ds.length
   · rw [if_pos hl];exact hx
   · rw [if_neg hl];simp [qaF,id0]
 · rw [if_neg e];exact h i
theorem qcQ (c:Int):spanFs (qgh c).2=0:=by simp [qgh,spanFs,spanInos,isp,qax]
theorem qqK (d:FD) (x:Int):spanFs (qrl d x).2≤1000:=by
 unfold qrl
 by_cases hc: (qje d x).1=0
 · rw [if_pos hc]
   have hs:=qsA hc
   show spanFs (qc6 d x.toNat)≤1000
   unfold spanFs qc6
   have e1:=qaQ (qcb (qi2 hs.fs) x.toNat id0 (by simp [qaF,id0]))
   have e2:=qbq (qhv hs.eight (qci d x.toNat) (qci d x.toNat).length)
   rw [qch,hs.dat] at e2
   rw [List.length_set] at e1
   have:=hs.ten
   dsimp only
   omega
 · rw [if_neg hc,qcQ];omega
end Go.Proofs.YthnmlipnoajmkaaGreatDoor

namespace Go.Proofs.YthnmlipnoajmkaaGreatDoor
open Go.RowKit
set_option maxRecDepth 100000

theorem qgb {ds:List ID} (h1:qaY ds=0) (i:Nat):qaF (ds[i]?.getD id0)≤16:=by
 by_cases hi:i<ds.length
 · have hz:=qb9 (qaM h1 i hi)
   have h6:=qhq (qaM h1 i hi)
   unfold qaF
   omega
 · rw [List.getElem?_eq_none (by omega)]
   simp [qaF,id0]
theorem qkW (es:List EN) (k:Nat) (e:EN): (qbF es k e).length=es.length+1:=by
 unfold qbF
 rw [List.length_append,List.length_append,List.length_take,List.length_drop]
 simp
 omega
theorem qnw (d:FD) (x:Int) (s:ByteArray) (y:Int):spanFs (qrw d x s y).2≤1000:=by
 unfold qrw
 by_cases hc:qgp d x s=0
 · rw [if_pos hc]
   have hs:=qo3 (qf8 hc)
   generalize x.toNat=j at*
   unfold qkj
   by_cases h1:idxE (qac d j) s< (qac d j).length
   · rw [if_pos h1,qcQ];omega
   · rw [if_neg h1]
     by_cases h2:0≤y∧y< (d.1.length:Int)∧ ¬qae d.1 y.toNat=0
     · rw [if_pos h2]
       by_cases h3: (qac d j).length=6∨ (qae d.1 y.toNat=1∧60≤ (d.1[y.toNat]?.getD id0).2.1)
       · rw [if_pos h3,qcQ];omega
       · rw [if_neg h3]
         show spanFs (qsc d j s y.toNat)≤1000
         have hl:=qkW (qac d j) (plcE (qac d j) s) (s,((y.toNat:Nat):Int))
         have h6:=hs.six
         have e1:=qcb (qgb hs.ins) j ((d.1[j]?.getD id0).1,(d.1[j]?.getD id0).2.1,(d.1[j]?.getD id0).2.2.1, [],qbF (qac d j) (plcE (qac d j) s) (s,((y.toNat:Nat):Int))) (by unfold qaF;simp only [List.length_nil];rw [hl];omega)
         have e2:=qbq hs.eight
         have hd:=hs.dat
         have ht:=hs.ten
         unfold qsc
         by_cases h4:qae d.1 y.toNat=1
         · rw [if_pos h4]
           unfold qcO qaH spanFs
           dsimp only
           have e3:=qaQ (qcb e1 y.toNat (((d.1.set j ((d.1[j]?.getD id0).1,(d.1[j]?.getD id0).2.1,(d.1[j]?.getD id0).2.2.1, [],qbF (qac d j) (plcE (qac d j) s) (s,((y.toNat:Nat):Int))))[y.toNat]?.getD id0).1,(d.1[y.toNat]?.getD id0).2.1+1,((d.1.set j ((d.1[j]?.getD id0).1,(d.1[j]?.getD id0).2.1,(d.1[j]?.getD id0).2.2.1, [],qbF (qac d j) (plcE (qac d j) s) (s,((y.toNat:Nat):Int))))[y.toNat]?.getD id0).2.2) (by have:=e1 y.toNat;unfold qaF at this ⊢;exact this))
           rw [List.length_set,List.length_set] at e3
           omega
         · rw [if_neg h4]
           unfold qaH spanFs
           dsimp only
           have e3:=qaQ e1
           rw [List.length_set] at e3
           omega
     · rw [if_neg h2,qcQ];omega
 · rw [if_neg hc,qcQ];omega
section
variable {P:Program} {w:World}
theorem qaI {ops:Array Oper} {o:Oper} {a:Act} {K:Act→World→Prop} {Q:Exit→Act→World→Prop} {E:Prop} (hgd:o.guard=none) (s x:Operand) (t:TypeId)
 (ho:o.op= .call {callee:= .builtin .append,args:= #[s,x],argTypes:= #[t,t]}) (v y:Value) (hs:a.eval s=v) (hx:a.eval x=y) (R:Value→World→Prop)
 (hr: ∃v' w',(Builtin.append_ #[t,t] o.type #[v,y]).run P w= .ok v' w'∧R v' w') (h: ∀v' w',R v' w'→K (a.put o.dst v') w'):if Region.wanted o (yielded ops a.tmps)=true then Oper.wp P o a w K Q else E:=by
 obtain ⟨v',w',h1,h2⟩:=hr
 exact qaK hgd s x t ho v y hs hx v' w' h1 (h v' w' h2)
end
end Go.Proofs.YthnmlipnoajmkaaGreatDoor

namespace Go.Proofs.YthnmlipnoajmkaaGreatDoor
open Go.RowKit
set_option maxRecDepth 100000

theorem AtN.keepB {w X:World} {b n:Nat} {es:List EN} (h:AtN w (some ⟨b,0,none⟩) n es) (e:X.heap[b]?=w.heap[b]?):AtN X (some ⟨b,0,none⟩) n es:=fun k hk=>by
 obtain ⟨b',off,e1,c0,c1⟩:=h k hk
 simp only [Option.some.injEq,Addr.mk.injEq,and_true] at e1
 obtain ⟨rfl,rfl⟩:=e1
 exact ⟨b,0,rfl,(World.cell?_of_block (w:=w) e).trans c0,(World.cell?_of_block (w:=w) e).trans c1⟩
theorem WdE.pushO (w:World) (ty:TypeId) (n₀:Nat) (v:Value) (es fs:List EN) (h:WdE w n₀ v es) (hn₀:n₀≤w.heap.size) (a:Option Addr) (m c:Nat) (hm:fs.length=m) (hc:AtN w a m fs) (hl:es.length+m≤1048576):
 ∃v' X,(Builtin.append_ #[72,72] ty #[v, .slice a m c]).run Tryz.prog w= .ok v' X∧ (WdE X n₀ v' (es++fs)∧Below n₀ w X∧ ∀b,b<w.heap.size→ ¬v.ownBlock=some b→X.heap[b]?=w.heap[b]?):=by
 subst hm
 obtain ⟨i,hi,h1,h2,h3⟩:=Tryz.infoEnt'
 by_cases h0:fs.length=0
 · have hfs:fs= []:=List.eq_nil_of_length_eq_zero h0
   subst hfs
   obtain ⟨av,cv,rfl⟩:=h.shape
   refine ⟨_,w, ?_,by rw [List.append_nil];exact h,Below.refl _ _,fun _ _ _=>rfl⟩
   have hcv:es.length≤cv:=by
    obtain ⟨_,h| ⟨g,cap,cur,e,hb,hh,hnc,_⟩⟩:=h
    · have:=h.2;omega
    · simp only [Value.slice.injEq] at e;omega
   cases a<;>cases av<;>simp [Builtin.append_,run_underlying Tryz.underlying72,sizeOf,typeInfo,hi,Builtin.lenOf,Builtin.firstCells,storeCells,loadCells,loadCellsFrom,hcv]
 · obtain ⟨b,off,rfl,_⟩:=hc 0 (by omega)
   obtain ⟨v',X,hr,ho,hg,_⟩:=run_append_own_wide (P:=Tryz.prog) w n₀ 72 ty 76 i _ 2 24 Tryz.underlying72 hi h1 h2 h3 rfl (by decide) v es.length (qaz es) h ⟨b,off,none⟩ fs.length c (qaz fs) (qau fs) (fun j u hu=>hc.cells rfl j u hu) (qc2 fs) (by unfold maxLen;omega) (by omega) hn₀
   refine ⟨v',X,hr, ?_,qaw hg hn₀ (fun k hk=> ?_),fun b hb hne=>hg.block b hb (fun e=>hne e.symm)⟩
   · unfold WdE
     rw [List.length_append,qcz]
     exact ho
   · rcases h.2 with ⟨rfl,_⟩| ⟨g,cap,cur,rfl,hb,_⟩
     · simp [Value.ownBlock] at hk
     · simp [Value.ownBlock] at hk;omega

set_option maxHeartbeats 6400000 in
theorem qcR (w :World) (aE:Option Addr) (n cE:Nat) (es:List EN) (s:ByteArray) (y:Int) (hn:es.length=n) (hc:n≤cE) (h6:n≤6) (hat:AtN w aE n es):
 Calls Tryz.prog 49 #[.slice aE n cE, .agg #[.string s, .int .i64 y]] w fun e w'=> ∃v,e= .returned v∧WdE w' w.heap.size v (qbF es (plcE es s) (s,y))∧Below w.heap.size w w':=by
 have HAT:Hid (AtN w aE n es):=hat
 have HN:Hid (es.length=n):=hn
 have bx0: (w.alloc (.cells #[.string s, .int .i64 y] 76)).cell? ⟨w.heap.size,0,none⟩=some (.string s):=by rw [qar];rfl
 have bx1: (w.alloc (.cells #[.string s, .int .i64 y] 76)).cell? ⟨w.heap.size,1,none⟩=some (.int .i64 y):=by rw [qar];rfl
 clear hat hn
 go_enter Tryz.func49,Tryz.ntmps49
 go_wp2_with fail
 go_loopw [5] (fun i wr=> ∃k q:Nat,k≤n∧i= .int .i64 k∧wr= (w.alloc (.cells #[.string s, .int .i64 y] 76)).drewN q∧ ∀j,j<k→geE s (es[j]?.getD en0)=false) (fun i _=>n- (intOf i).toNat)
 case atStart=>exact ⟨0,0,Nat.zero_le _,rfl,rfl,fun j hj=>by omega⟩
 case round =>
  obtain ⟨k,q,hk,rfl,rfl,hz⟩:=hrel
  have HZ:Hid (∀j,j<k→geE s (es[j]?.getD en0)=false):=hz
  clear hz
  by_cases hlt:k<n
  · obtain ⟨b,off,rfl,c0,_⟩:=HAT.out k hlt
    replace c0:=cell_later (qab w (.cells #[.string s, .int .i64 y] 76)) c0
    have hd:decide ((k:Int)< (n:Int))=true:=by simpa using hlt
    cases hge:geE s (es[k]?.getD en0) with
    | false=>
      have HNX:Hid (∀j,j<k+1→geE s (es[j]?.getD en0)=false):=fun j hj=>by
       by_cases e:j=k
       · rw [e];exact hge
       · exact HZ.out j (by omega)
      have hlt2:Op.bytesLess (es[k]?.getD en0).1.toList s.toList=true:=by unfold geE at hge;simpa using hge
      clear hge HZ
      generalize (es[k]?.getD en0).1=x at*
      go_wp2_with fail
      go_quiet (fail)
      go_wp2
      go_roundw
      case rel=>exact ⟨k+1,_,by omega,by go_num,by first|rfl|rw [World.drewN_drewN],HNX.out⟩
      case measure=>simp [intOf];omega
    | true =>
      have HP:Hid (plcE es s=k):=qcL (by rw [HN.out];exact hlt) hge HZ.out
      have hlt2:Op.bytesLess (es[k]?.getD en0).1.toList s.toList=false:=by unfold geE at hge;simpa using hge
      clear hge HZ
      generalize (es[k]?.getD en0).1=x at*
      go_wp2_with fail
      go_quiet (fail)
      go_wp2_with fail
      have hlt1: (es.take k).length=k:=by rw [List.length_take,HN.out];omega
      have HL1:Hid ((es.take k).length=k):=hlt1
      have HL2:Hid ((es.take k++ [(s,y)]).length=k+1):=by unfold Hid;rw [List.length_append,hlt1];rfl
      have HTK:Hid (∀W,Below w.heap.size w W→AtN W (some ⟨b,off,none⟩) k (es.take k)):=fun W hW=> ((HAT.out.take k hk).later hW)
      have HTL:Hid (∀W,Below w.heap.size w W→AtN W (some ⟨b,off+k*2,none⟩) (n-k) (es.drop k)):=fun W hW=> (HAT.out.drop k).later hW
      have HDL:Hid ((es.drop k).length=n-k):=by unfold Hid;rw [List.length_drop,HN.out]
      have HWB:Hid (Below w.heap.size w (((w.alloc (.cells #[.string s, .int .i64 y] 76)).drewN q).drewN nq)):=below_drewN (below_drewN (qab _ _) q) nq
      have HSB:Hid (w.heap.size≤ ((((w.alloc (.cells #[.string s, .int .i64 y] 76)).drewN q).drewN nq)).heap.size):=HWB.out.size
      have bw0: ((((w.alloc (.cells #[.string s, .int .i64 y] 76)).drewN q).drewN nq)).cell? ⟨w.heap.size,0,none⟩=some (.string s):=bx0
      have bw1: ((((w.alloc (.cells #[.string s, .int .i64 y] 76)).drewN q).drewN nq)).cell? ⟨w.heap.size,1,none⟩=some (.int .i64 y):=bx1
      have hkc:k≤cE:=by omega
      have hcne: ¬cE=k:=by omega
      have hkI: (k:Int)≤ (n:Int):=by omega
      have HF1:Hid True:=trivial
      clear hlt1 bx0 bx1
      generalize (((w.alloc (.cells #[.string s, .int .i64 y] 76)).drewN q).drewN nq)=WB at*
      have hlw:w.heap.size<WB.heap.size:=World.block_lt_of_cell? _ _ bw0
      have HA1:Hid (WdE (WB.drew.alloc (.cells #[] 76)) WB.heap.size (.slice (some ⟨WB.heap.size,0,none⟩) 0 0) []):=WdE.lit0 WB.drew WB.heap.size (Nat.le_refl _)
      have HA2:Hid (WdE ((WB.drew.alloc (.cells #[.string s, .int .i64 y] 76)).alloc (.cells #[] 76)) WB.heap.size (.slice (some ⟨WB.heap.size+1,0,none⟩) 0 0) []):=by
       have:=WdE.lit0 (WB.drew.alloc (.cells #[.string s, .int .i64 y] 76)) WB.heap.size (by simp)
       rw [show (WB.drew.alloc (.cells #[.string s, .int .i64 y] 76)).heap.size=WB.heap.size+1 by simp] at this
       exact this
      have HC1:Hid (AtN ((WB.drew.alloc (.cells #[] 76)).alloc (.cells #[.string s, .int .i64 y] 76)) (some ⟨WB.heap.size+1,0,none⟩) 1 [(s,y)]):=by
       have:=qf9 (WB.drew.alloc (.cells #[] 76)) s y
       rw [show (WB.drew.alloc (.cells #[] 76)).heap.size=WB.heap.size+1 by simp] at this
       exact this
      have HC2:Hid (AtN ((WB.drew.alloc (.cells #[.string s, .int .i64 y] 76)).alloc (.cells #[] 76)) (some ⟨WB.heap.size,0,none⟩) 1 [(s,y)]):= (qf9 WB.drew s y).later (qab _ _)
      go_region_law (first
       | (have f1:=HF1.out;clear HF1 f1
          refine qaI rfl _ _ 72 rfl _ _ rfl rfl _ (WdE.pushO _ 72 WB.heap.size _ [] (es.take k) (by first|exact HA1.out|exact HA1.out.later (qab _ _)|exact HA2.out) (by first| (simp;done)| (simp;omega)) _ _ _ HL1.out (HTK.out _ (by first|exact HWB.out.drew.trans ((qab _ _).mono HSB.out)|exact HWB.out.drew.trans ((qam _ _ _).mono HSB.out))) (by simp;omega)) ?_
          rintro v1 X1 ⟨hw1,hb1,ho1⟩
          rw [List.nil_append] at hw1
          obtain ⟨p1,c1,e1⟩:=hw1.shape
          rw [HL1.out] at e1
          subst e1
          have HW1:Hid (WdE X1 WB.heap.size (.slice p1 k c1) (es.take k)):=hw1
          have HX1:Hid (Below WB.heap.size WB X1):=by first|exact (Below.refl _ _).drew.trans (((qab WB.drew _).mono (Nat.le_refl _)).trans hb1)|exact (Below.refl _ _).drew.trans (((qam WB.drew _ _).mono (Nat.le_refl _)).trans hb1)
          try (have HBB:Hid (AtN X1 (some ⟨WB.heap.size+1,0,none⟩) 1 [(s,y)]):=HC1.out.keepB (ho1 (WB.heap.size+1) (by first| (simp;done)| (simp;omega)) (show ¬ (some WB.heap.size=some (WB.heap.size+1)) by simp)))
          try (have HBB:Hid (AtN X1 (some ⟨WB.heap.size,0,none⟩) 1 [(s,y)]):=HC2.out.keepB (ho1 WB.heap.size (by first| (simp;done)| (simp;omega)) (show ¬ (some (WB.heap.size+1)=some WB.heap.size) by simp)))
          have cb0:= (World.cell?_of_block (w:=WB) (HX1.out.block w.heap.size hlw)).trans bw0
          have cb1:= (World.cell?_of_block (w:=WB) (HX1.out.block w.heap.size hlw)).trans bw1
          have hlx:w.heap.size<X1.heap.size:=Nat.lt_of_lt_of_le hlw HX1.out.size
          clear hw1 hb1 ho1)
       | (have f2:=HW1.out;clear HW1
          refine qaI rfl _ _ 72 rfl _ _ rfl rfl _ (WdE.pushO _ 72 WB.heap.size _ (es.take k) [(s,y)] (by first|exact f2|exact f2.later (qab _ _)) (by have:=HX1.out.size;first|exact this| (simp;omega)) _ 1 1 rfl (by first|exact HBB.out|exact qf9 _ s y) (by rw [HL1.out];omega)) ?_
          rintro v2 X2 ⟨hw2,hb2,_⟩
          obtain ⟨p2,c2,e2⟩:=hw2.shape
          rw [HL2.out] at e2
          subst e2
          have HW2:Hid (WdE X2 WB.heap.size (.slice p2 (k+1) c2) (es.take k++ [(s,y)])):=hw2
          have HX2:Hid (Below WB.heap.size WB X2):=by first|exact HX1.out.trans hb2|exact HX1.out.trans (((qab _ _).mono HX1.out.size).trans hb2)
          clear hw2 hb2 f2)
       | (have f3:=HW2.out;clear HW2
          refine qaI rfl _ _ 72 rfl _ _ rfl rfl _ (WdE.pushO _ 72 WB.heap.size _ (es.take k++ [(s,y)]) (es.drop k) f3 HX2.out.size _ _ _ HDL.out (HTL.out _ (HWB.out.trans (HX2.out.mono HSB.out))) (by rw [HL2.out];omega)) ?_
          rintro v3 X3 ⟨hw3,hb3,_⟩
          have HW3:Hid (WdE X3 w.heap.size v3 (qbF es (plcE es s) (s,y))):=by
           unfold Hid qbF
           rw [HP.out]
           exact qcr hw3 HSB.out
          have HX3:Hid (Below w.heap.size w X3):=HWB.out.trans ((HX2.out.trans hb3).mono HSB.out)
          clear hw3 hb3 f3)
       |fail)
      all_goals
       go_wp2
       all_goals
        go_ret
        exact ⟨_,rfl,HW3.out,HX3.out⟩
  · have e :n=k:=by omega
    subst e
    have hd:decide ((n:Int)< (n:Int))=false:=by simp
    have HP:Hid (plcE es s=n):=by
     have:=qdF (p:=geE s) (es:=es) fun j hj=>HZ.out j (by rw [HN.out] at hj;omega)
     rw [HN.out] at this
     exact this
    clear HZ hlt
    go_wp2_with fail
    go_quiet (fail)
    go_wp2_with fail
    have hlt1: (es.take n).length=n:=by rw [List.length_take,HN.out];omega
    have HL1:Hid ((es.take n).length=n):=hlt1
    have HL2:Hid ((es.take n++ [(s,y)]).length=n+1):=by unfold Hid;rw [List.length_append,hlt1];rfl
    have HTK:Hid (∀W,Below w.heap.size w W→AtN W aE n (es.take n)):=fun W hW=> ((HAT.out.take n hk).later hW)
    have HTL:Hid (∀W,Below w.heap.size w W→ ∀A,AtN W A 0 (es.drop n)):=fun W _ A i hi=>by omega
    have HDL:Hid ((es.drop n).length=0):=by unfold Hid;rw [List.length_drop,HN.out];omega
    have HWB:Hid (Below w.heap.size w (((w.alloc (.cells #[.string s, .int .i64 y] 76)).drewN q).drewN nq)):=below_drewN (below_drewN (qab _ _) q) nq
    have HSB:Hid (w.heap.size≤ ((((w.alloc (.cells #[.string s, .int .i64 y] 76)).drewN q).drewN nq)).heap.size):=HWB.out.size
    have bw0: ((((w.alloc (.cells #[.string s, .int .i64 y] 76)).drewN q).drewN nq)).cell? ⟨w.heap.size,0,none⟩=some (.string s):=bx0
    have bw1: ((((w.alloc (.cells #[.string s, .int .i64 y] 76)).drewN q).drewN nq)).cell? ⟨w.heap.size,1,none⟩=some (.int .i64 y):=bx1
    have hkc:n≤cE:=by omega
    have hkI: (n:Int)≤ (n:Int):=by omega
    have HF1:Hid True:=trivial
    clear hlt1 bx0 bx1
    generalize (((w.alloc (.cells #[.string s, .int .i64 y] 76)).drewN q).drewN nq)=WB at*
    have hlw:w.heap.size<WB.heap.size:=World.block_lt_of_cell? _ _ bw0
    have HA1:Hid (WdE (WB.drew.alloc (.cells #[] 76)) WB.heap.size (.slice (some ⟨WB.heap.size,0,none⟩) 0 0) []):=WdE.lit0 WB.drew WB.heap.size (Nat.le_refl _)
    have HA2:Hid (WdE ((WB.drew.alloc (.cells #[.string s, .int .i64 y] 76)).alloc (.cells #[] 76)) WB.heap.size (.slice (some ⟨WB.heap.size+1,0,none⟩) 0 0) []):=by
     have:=WdE.lit0 (WB.drew.alloc (.cells #[.string s, .int .i64 y] 76)) WB.heap.size (by simp)
     rw [show (WB.drew.alloc (.cells #[.string s, .int .i64 y] 76)).heap.size=WB.heap.size+1 by simp] at this
     exact this
    have HC1:Hid (AtN ((WB.drew.alloc (.cells #[] 76)).alloc (.cells #[.string s, .int .i64 y] 76)) (some ⟨WB.heap.size+1,0,none⟩) 1 [(s,y)]):=by
     have:=qf9 (WB.drew.alloc (.cells #[] 76)) s y
     rw [show (WB.drew.alloc (.cells #[] 76)).heap.size=WB.heap.size+1 by simp] at this
     exact this
    have HC2:Hid (AtN ((WB.drew.alloc (.cells #[.string s, .int .i64 y] 76)).alloc (.cells #[] 76)) (some ⟨WB.heap.size,0,none⟩) 1 [(s,y)]):= (qf9 WB.drew s y).later (qab _ _)
    go_region_law (first
     | (have f1:=HF1.out;clear HF1 f1
        refine qaI rfl _ _ 72 rfl _ _ rfl rfl _ (WdE.pushO _ 72 WB.heap.size _ [] (es.take n) (by first|exact HA1.out|exact HA1.out.later (qab _ _)|exact HA2.out) (by first| (simp;done)| (simp;omega)) _ _ _ HL1.out (HTK.out _ (by first|exact HWB.out.drew.trans ((qab _ _).mono HSB.out)|exact HWB.out.drew.trans ((qam _ _ _).mono HSB.out))) (by simp;omega)) ?_
        rintro v1 X1 ⟨hw1,hb1,ho1⟩
        rw [List.nil_append] at hw1
        obtain ⟨p1,c1,e1⟩:=hw1.shape
        rw [HL1.out] at e1
        subst e1
        have HW1:Hid (WdE X1 WB.heap.size (.slice p1 n c1) (es.take n)):=hw1
        have HX1:Hid (Below WB.heap.size WB X1):=by first|exact (Below.refl _ _).drew.trans (((qab WB.drew _).mono (Nat.le_refl _)).trans hb1)|exact (Below.refl _ _).drew.trans (((qam WB.drew _ _).mono (Nat.le_refl _)).trans hb1)
        try (have HBB:Hid (AtN X1 (some ⟨WB.heap.size+1,0,none⟩) 1 [(s,y)]):=HC1.out.keepB (ho1 (WB.heap.size+1) (by first| (simp;done)| (simp;omega)) (show ¬ (some WB.heap.size=some (WB.heap.size+1)) by simp)))
        try (have HBB:Hid (AtN X1 (some ⟨WB.heap.size,0,none⟩) 1 [(s,y)]):=HC2.out.keepB (ho1 WB.heap.size (by first| (simp;done)| (simp;omega)) (show ¬ (some (WB.heap.size+1)=some WB.heap.size) by simp)))
        have cb0:= (World.cell?_of_block (w:=WB) (HX1.out.block w.heap.size hlw)).trans bw0
        have cb1:= (World.cell?_of_block (w:=WB) (HX1.out.block w.heap.size hlw)).trans bw1
        have hlx:w.heap.size<X1.heap.size:=Nat.lt_of_lt_of_le hlw HX1.out.size
        clear hw1 hb1 ho1)
     | (have f2:=HW1.out;clear HW1
        refine qaI rfl _ _ 72 rfl _ _ rfl rfl _ (WdE.pushO _ 72 WB.heap.size _ (es.take n) [(s,y)] (by first|exact f2|exact f2.later (qab _ _)) (by have:=HX1.out.size;first|exact this| (simp;omega)) _ 1 1 rfl (by first|exact HBB.out|exact qf9 _ s y) (by rw [HL1.out];omega)) ?_
        rintro v2 X2 ⟨hw2,hb2,_⟩
        obtain ⟨p2,c2,e2⟩:=hw2.shape
        rw [HL2.out] at e2
        subst e2
        have HW2:Hid (WdE X2 WB.heap.size (.slice p2 (n+1) c2) (es.take n++ [(s,y)])):=hw2
        have HX2:Hid (Below WB.heap.size WB X2):=by first|exact HX1.out.trans hb2|exact HX1.out.trans (((qab _ _).mono HX1.out.size).trans hb2)
        clear hw2 hb2 f2)
     | (have f3:=HW2.out;clear HW2
        refine qaI rfl _ _ 72 rfl _ _ rfl rfl _ (WdE.pushO _ 72 WB.heap.size _ (es.take n++ [(s,y)]) (es.drop n) f3 HX2.out.size _ _ _ HDL.out (HTL.out _ (HWB.out.trans (HX2.out.mono HSB.out)) _) (by rw [HL2.out];omega)) ?_
        rintro v3 X3 ⟨hw3,hb3,_⟩
        have HW3:Hid (WdE X3 w.heap.size v3 (qbF es (plcE es s) (s,y))):=by
         unfold Hid qbF
         rw [HP.out]
         exact qcr hw3 HSB.out
        have HX3:Hid (Below w.heap.size w X3):=HWB.out.trans ((HX2.out.trans hb3).mono HSB.out)
        clear hw3 hb3 f3)
     |fail)
    all_goals
     go_wp2
     all_goals
      go_ret
      exact ⟨_,rfl,HW3.out,HX3.out⟩
end Go.Proofs.YthnmlipnoajmkaaGreatDoor

namespace Go.Proofs.YthnmlipnoajmkaaGreatDoor
open Go.RowKit
set_option maxRecDepth 100000

def qsX (d:FD) (j:Nat) (s:ByteArray) (y:Int):FD:=if (qkj d j s y).1=0 then (qkj d j s y).2 else d
theorem FsS.fsx {w:World} {bo bI n cI bD cD:Nat} {d:FD} {F:Nat→Prop} (hfs:FsS w bI n cI bD 20 cD d F) (h0:w.cell? ⟨bo,0,none⟩=some (.slice (some ⟨bI,0,none⟩) n cI)) (h1:w.cell? ⟨bo,1,none⟩=some (.slice (some ⟨bD,0,none⟩) 20 cD)):FsX w bo 0 d (some ⟨bI,0,none⟩) cI (some ⟨bD,0,none⟩) cD:=by
 have hl:=hfs.len
 have hr:=hfs.fs.reads
 exact ⟨by rw [hl.1];exact h0,by rw [hl.2];exact h1,by rw [hl.1];exact hr.1,by rw [hl.2];exact hr.2⟩

end Go.Proofs.YthnmlipnoajmkaaGreatDoor

namespace Go.Proofs.YthnmlipnoajmkaaGreatDoor
open Go.RowKit
set_option maxRecDepth 100000

theorem qsf {d:FD} {j:Nat} {s:ByteArray} {y:Int} (hh: ¬ (qkj d j s y).1=0):qkj d j s y=qgh (qkj d j s y).1:=by
 unfold qkj at hh ⊢
 split
 · rfl
 · split
   · split
     · rfl
     · rename_i h1 h2 h3
       rw [if_neg h1,if_pos h2,if_neg h3] at hh
       exact absurd rfl hh
   · rfl
theorem qsJ {d:FD} {j:Nat} {s:ByteArray} {y:Int} (hh: (qkj d j s y).1=0):qkj d j s y= (0,qsX d j s y):=by
 unfold qsX
 rw [if_pos hh]
 exact Prod.ext hh rfl

theorem qi3 (c:Int):spanCR (qnQ c).2=0:=by simp [qnQ,spanCR,spanFs,spanInos,isp,qax]
theorem qrB {d:FD} (hf:fsF d=0):DirS d 0:=by
 have hok:=qf2 (qhI hf)
 have h:qdG d 0=0:=by
  unfold qdG
  rw [if_pos (qhI hf),if_pos ⟨by omega,by have:=hok.pos;omega⟩,if_pos (by simpa using hok.top)]
 simpa using qo3 h
theorem qck {d:FD} (hf:fsF d=0) (c:Int):spanCR (qav d c).2≤1000:=by
 have e3:=qaQ (qi2 hf)
 have hok:=qf2 (qhI hf)
 have e2:=qbq (qrB hf).eight
 have h1:=hok.ten
 have h2:=hok.dat
 show 0+0+ (spanInos d.1+ (qax d.2).sum)≤1000
 omega
theorem qqL (d:FD) (s t:ByteArray):spanCR (qrA d s t).2≤1000:=by
 unfold qrA
 split
 · rename_i hf
   unfold qrz
   split
   · split
     · split
       · have:=qnw d (qas d t).2 (mkB (qc0 t.data.toList)) (qlN d s).2
         exact Nat.le_trans (Nat.le_of_eq (by simp [spanCR])) this
       · exact qck hf _
     · exact qck hf _
   · exact qck hf _
 · rw [qi3];omega
end Go.Proofs.YthnmlipnoajmkaaGreatDoor
